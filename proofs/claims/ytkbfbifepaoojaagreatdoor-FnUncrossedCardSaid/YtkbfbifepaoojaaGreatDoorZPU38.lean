/-
  CONTRACTS of slices.Equal at lists of ints and of the program's SameStands. No law is proved here.
-/
import Derived.Test.YtkbfbifepaoojaaGreatDoorZPU35
import Derived.Test.YtkbfbifepaoojaaGreatDoorZPU01
import Derived.Test.YtkbfbifepaoojaaGreatDoorZPU37
import Derived.BigQuiet
import Derived.Deep.RegionHeld3
import Derived.Deep.RegionWith
import Derived.BigRegion
import Derived.Deep.QuietTactic
namespace Go.Proofs.YtkbfbifepaoojaaGreatDoor
set_option maxRecDepth 4096
open Go.ChangeShapes Go.WideShapes Go.ChangeAt Go.RowKit

set_option maxHeartbeats 1000000 in
theorem implEqual (v1 v2 : Value) (L M : List Int) (b : Bool) (w : World) (h1 : Ints w v1 L) (h2 : Ints w v2 M) (hL : L.length ≤ 2000000) (_ : M.length ≤ 2000000) (HB : Hid (decide (L = M) = b)) :
    Calls Tryz.prog 36 #[v1, v2] w (Made w (.bool b)) := by
  obtain ⟨a1, c1, rfl, H1⟩ := ints_form h1
  obtain ⟨a2, c2, rfl, H2⟩ := ints_form h2
  have HH1 := Lib.hid H1
  have HH2 := Lib.hid H2
  clear H1 H2 h1 h2
  by_cases hl : L.length = M.length
  · have hln : ((L.length : Int) != (M.length : Int)) = false := by rw [bne_eq_false_iff_eq]; omega
    have HLN := Lib.hid hl
    clear hl
    go_enter Tryz.func36, Tryz.ntmps36
    go_wp2
    go_loopw [5, 13] (fun _ i wr => ∃ k q : Nat, k ≤ L.length ∧ i = .int .i64 k ∧ Hid (∀ (j : Nat), j < k → L[j]? = M[j]?) ∧ wr = w.drewN q) (fun _ i _ => L.length - (intOf i).toNat)
    case atStart => exact ⟨0, 0, Nat.zero_le _, rfl, Lib.hid fun j h => absurd h (by omega), rfl⟩
    case round =>
      obtain ⟨k, q, hk, rfl, HK, rfl⟩ := hrel
      by_cases hlt : k < L.length
      · have hlt2 : (k : Int) < (L.length : Int) := by omega
        have hlt3 : (k : Int) < (M.length : Int) := by rw [← HLN.out]; omega
        obtain ⟨x, hx⟩ : ∃ x, L[k]? = some x := ⟨_, List.getElem?_eq_getElem hlt⟩
        obtain ⟨y, hy⟩ : ∃ y, M[k]? = some y := ⟨_, List.getElem?_eq_getElem (by omega)⟩
        rcases HH1.out with h0 | ⟨g1, rfl, _, hc1⟩
        · omega
        rcases HH2.out with h0 | ⟨g2, rfl, _, hc2⟩
        · omega
        have d1 := hc1 k x hx
        have d2 := hc2 k y hy
        have HX := Lib.hid hx
        have HY := Lib.hid hy
        clear hx hy hc1 hc2
        by_cases hxy : x = y
        · subst hxy
          have hb : (x != x) = false := by simp
          go_wp2
          go_quiet (fail)
          go_wp2
          go_roundw
          case rel => exact ⟨k + 1, _, by omega, by go_num, Lib.hid fun j hj => (by
            rcases Nat.lt_succ_iff_lt_or_eq.1 hj with h | h
            · exact HK.out j h
            · rw [h, HX.out, HY.out]), by first | rfl | exact World.drewN_drewN ..⟩
          case measure => simp [intOf]; omega
        · have hb : (x != y) = true := by simpa using hxy
          have e : b = false := by
            rw [← HB.out]
            refine decide_eq_false fun e => hxy ?_
            have := HX.out
            rw [e, HY.out] at this
            exact (Option.some.inj this).symm
          subst e
          clear hxy
          go_wp2
          go_quiet (fail)
          go_wp2
          go_ret
          exact ⟨rfl, below_drewN (below_drewN (Below.refl _ _) _) _⟩
      · obtain rfl : k = L.length := by omega
        have hnl : ¬ (L.length : Int) < (L.length : Int) := by omega
        have e : b = true := by
          rw [← HB.out]
          refine decide_eq_true (List.ext_getElem? fun j => ?_)
          by_cases h : j < L.length
          · exact HK.out j h
          · rw [List.getElem?_eq_none (by omega), List.getElem?_eq_none (by have := HLN.out; omega)]
        subst e
        go_wp2
        go_ret
        exact ⟨rfl, below_drewN (Below.refl _ _) _⟩
  · have hln : ((L.length : Int) != (M.length : Int)) = true := by rw [bne_iff_ne]; omega
    have e : b = false := by
      rw [← HB.out]
      exact decide_eq_false fun e => hl (by rw [e])
    subst e
    clear hl
    go_enter Tryz.func36, Tryz.ntmps36
    go_wp2
    go_ret
    exact ⟨rfl, Below.refl _ _⟩

/-- The first way of each, and what lies below. -/
theorem same_held {w w1 w9 : World} {ga gb : Nat} {x y : Value} (h : w1.cell? ⟨ga, 0, none⟩ = some x ∧ w1.cell? ⟨gb, 0, none⟩ = some y ∧ Below w.heap.size w w1) (hga : ga < w.heap.size) (hgb : gb < w.heap.size) (hb : Below w1.heap.size w1 w9) : w9.cell? ⟨ga, 0, none⟩ = some x ∧ w9.cell? ⟨gb, 0, none⟩ = some y ∧ Below w.heap.size w w9 := by
  obtain ⟨h1, h2, h3⟩ := h
  have := h3.size
  exact ⟨(hb.cell (p := ⟨ga, 0, none⟩) (by dsimp only; omega)).trans h1, (hb.cell (p := ⟨gb, 0, none⟩) (by dsimp only; omega)).trans h2, h3.trans (hb.mono this)⟩

set_option maxHeartbeats 4000000 in
theorem implSame (v1 v2 : Value) (A B : List (List Int)) (b : Bool) (hA : A.length ≤ 2000000) (hTA : totW A ≤ 2000000) (hB : B.length ≤ 2000000) (hTB : totW B ≤ 2000000) (HB : Hid (sameV A B = b)) (w : World) (h1 : WaysAt w v1 A) (h2 : WaysAt w v2 B) :
    Calls Tryz.prog 13 #[v1, v2] w (Made w (.bool b)) := by
  obtain ⟨ra, HRA⟩ : ∃ r, Hid (regV A = r) := ⟨_, rfl⟩
  obtain ⟨rb, HRB⟩ : ∃ r, Hid (regV B = r) := ⟨_, rfl⟩
  have HCA : Hid (∀ wr, Below w.heap.size w wr → Calls Tryz.prog 30 #[v1] wr (Made wr (.bool ra))) := Lib.hid fun wr h => implRegular v1 A ra hA hTA HRA wr (waysAt_on h1 h)
  have HCB : Hid (∀ wr, Below w.heap.size w wr → Calls Tryz.prog 30 #[v2] wr (Made wr (.bool rb))) := Lib.hid fun wr h => implRegular v2 B rb hB hTB HRB wr (waysAt_on h2 h)
  have HA1 := Lib.hid h1
  have HB1 := Lib.hid h2
  have HTA := Lib.hid hTA
  have HTB := Lib.hid hTB
  obtain ⟨a1, c1, rfl, _⟩ := h1
  obtain ⟨a2, c2, rfl, _⟩ := h2
  clear hTA hTB
  have hS0 : Below w.heap.size w w.drew := (Below.refl w.heap.size w).drew
  cases ra with
  | false =>
    obtain rfl : b = false := by rw [← HB.out]; exact same_no (.inl HRA.out)
    go_enter Tryz.func13, Tryz.ntmps13
    go_upto_region 1 with fail
    refine wp_region_held_drew (S := fun w' => Below w.heap.size w w') (by kernel_rfl) hS0 (fun hHeld => ?_)
    try simp only [List.append_eq, List.cons_append, List.nil_append]
    refine wpAnyH_take (i := 0) (oi := _) (v := .slice a1 A.length c1) rfl (by kernel_rfl) (by kernel_rfl) (by kernel_rfl) (fun _ _ _ h => h) (Or.inl ⟨by rfl, ?_⟩) (by assumption) ?_
    focus (intro w' hSw; (try dsimp only at hSw); go_split_ands; simp only [List.getElem_toArray, List.getElem_cons_zero]; go_simp; (first | done | (intro hz; exact absurd hz hAe) | (intro hz; exact absurd hz hBe)))
    simp only [List.getElem_toArray, List.getElem_cons_zero, Act.put, List.setIfInBounds_toArray, List.set_cons_zero, List.set_cons_succ]
    refine wpAnyH_ready (rs := [1]) (by kernel_rfl) (by simp) ?_
    refine AllReadyH.cons rfl (fun K hK => ?_) AllReadyH.nil
    simp only [List.getElem_toArray, List.getElem_cons_succ, List.getElem_cons_zero]
    go_simp
    go_at_call 30
    refine (HCA.out _ hHeld).mono ?_
    rintro e w9 ⟨rfl, hb⟩
    have hS1 := hHeld.trans (hb.mono hHeld.size)
    clear hb hHeld
    refine hK.out _ _ hS1 (fun hHeld => ?_)
    clear hK K hS1
    refine wpAnyH_take (i := 2) (oi := _) (v := .bool true) rfl (by kernel_rfl) (by kernel_rfl) (by kernel_rfl) (fun _ _ _ h => h) (Or.inl ⟨by rfl, ?_⟩) (by assumption) ?_
    focus (intro w' hSw; (try dsimp only at hSw); go_split_ands; simp only [List.getElem_toArray, List.getElem_cons_succ, List.getElem_cons_zero]; go_simp; (first | done | (intro hz; exact absurd hz hAe) | (intro hz; exact absurd hz hBe)))
    simp only [List.getElem_toArray, List.getElem_cons_succ, List.getElem_cons_zero, Act.put, List.setIfInBounds_toArray, List.set_cons_zero, List.set_cons_succ]
    refine wpAnyH_take (i := 3) (oi := _) (v := .bool true) rfl (by kernel_rfl) (by kernel_rfl) (by kernel_rfl) (fun _ _ _ h => h) (Or.inl ⟨by rfl, ?_⟩) (by assumption) ?_
    focus (intro w' hSw; (try dsimp only at hSw); go_split_ands; simp only [List.getElem_toArray, List.getElem_cons_succ, List.getElem_cons_zero]; go_simp; (first | done | (intro hz; exact absurd hz hAe) | (intro hz; exact absurd hz hBe)))
    simp only [List.getElem_toArray, List.getElem_cons_succ, List.getElem_cons_zero, Act.put, List.setIfInBounds_toArray, List.set_cons_zero, List.set_cons_succ]
    refine wpAnyH_take (i := 4) (oi := _) (v := undef) rfl (by kernel_rfl) (by kernel_rfl) (by kernel_rfl) (fun _ _ _ h => h) (Or.inr ⟨by rfl, rfl⟩) (by assumption) ?_
    simp only [List.getElem_toArray, List.getElem_cons_succ, List.getElem_cons_zero, Act.put, List.setIfInBounds_toArray, List.set_cons_zero, List.set_cons_succ]
    refine wpAnyH_take (i := 5) (oi := _) (v := undef) rfl (by kernel_rfl) (by kernel_rfl) (by kernel_rfl) (fun _ _ _ h => h) (Or.inr ⟨by rfl, rfl⟩) (by assumption) ?_
    simp only [List.getElem_toArray, List.getElem_cons_succ, List.getElem_cons_zero, Act.put, List.setIfInBounds_toArray, List.set_cons_zero, List.set_cons_succ]
    refine wpAnyH_take (i := 6) (oi := _) (v := undef) rfl (by kernel_rfl) (by kernel_rfl) (by kernel_rfl) (fun _ _ _ h => h) (Or.inr ⟨by rfl, rfl⟩) (by assumption) ?_
    simp only [List.getElem_toArray, List.getElem_cons_succ, List.getElem_cons_zero, Act.put, List.setIfInBounds_toArray, List.set_cons_zero, List.set_cons_succ]
    refine wpAnyH_take (i := 7) (oi := _) (v := .bool true) rfl (by kernel_rfl) (by kernel_rfl) (by kernel_rfl) (fun _ _ _ h => h) (Or.inl ⟨by rfl, ?_⟩) (by assumption) ?_
    focus (intro w' hSw; (try dsimp only at hSw); go_split_ands; simp only [List.getElem_toArray, List.getElem_cons_succ, List.getElem_cons_zero]; go_simp; (first | done | (intro hz; exact absurd hz hAe) | (intro hz; exact absurd hz hBe)))
    simp only [List.getElem_toArray, List.getElem_cons_succ, List.getElem_cons_zero, Act.put, List.setIfInBounds_toArray, List.set_cons_zero, List.set_cons_succ]
    refine wpAnyH_take (i := 8) (oi := _) (v := .bool true) rfl (by kernel_rfl) (by kernel_rfl) (by kernel_rfl) (fun _ _ _ h => h) (Or.inl ⟨by rfl, ?_⟩) (by assumption) ?_
    focus (intro w' hSw; (try dsimp only at hSw); go_split_ands; simp only [List.getElem_toArray, List.getElem_cons_succ, List.getElem_cons_zero]; go_simp; (first | done | (intro hz; exact absurd hz hAe) | (intro hz; exact absurd hz hBe)))
    simp only [List.getElem_toArray, List.getElem_cons_succ, List.getElem_cons_zero, Act.put, List.setIfInBounds_toArray, List.set_cons_zero, List.set_cons_succ]
    refine wpAnyH_take (i := 9) (oi := _) (v := undef) rfl (by kernel_rfl) (by kernel_rfl) (by kernel_rfl) (fun _ _ _ h => h) (Or.inr ⟨by rfl, rfl⟩) (by assumption) ?_
    simp only [List.getElem_toArray, List.getElem_cons_succ, List.getElem_cons_zero, Act.put, List.setIfInBounds_toArray, List.set_cons_zero, List.set_cons_succ]
    refine wpAnyH_take (i := 10) (oi := _) (v := undef) rfl (by kernel_rfl) (by kernel_rfl) (by kernel_rfl) (fun _ _ _ h => h) (Or.inr ⟨by rfl, rfl⟩) (by assumption) ?_
    simp only [List.getElem_toArray, List.getElem_cons_succ, List.getElem_cons_zero, Act.put, List.setIfInBounds_toArray, List.set_cons_zero, List.set_cons_succ]
    refine wpAnyH_take (i := 11) (oi := _) (v := undef) rfl (by kernel_rfl) (by kernel_rfl) (by kernel_rfl) (fun _ _ _ h => h) (Or.inr ⟨by rfl, rfl⟩) (by assumption) ?_
    simp only [List.getElem_toArray, List.getElem_cons_succ, List.getElem_cons_zero, Act.put, List.setIfInBounds_toArray, List.set_cons_zero, List.set_cons_succ]
    refine wpAnyH_take (i := 12) (oi := _) (v := undef) rfl (by kernel_rfl) (by kernel_rfl) (by kernel_rfl) (fun _ _ _ h => h) (Or.inr ⟨by rfl, rfl⟩) (by assumption) ?_
    simp only [List.getElem_toArray, List.getElem_cons_succ, List.getElem_cons_zero, Act.put, List.setIfInBounds_toArray, List.set_cons_zero, List.set_cons_succ]
    refine wpAnyH_take (i := 13) (oi := _) (v := undef) rfl (by kernel_rfl) (by kernel_rfl) (by kernel_rfl) (fun _ _ _ h => h) (Or.inr ⟨by rfl, rfl⟩) (by assumption) ?_
    simp only [List.getElem_toArray, List.getElem_cons_succ, List.getElem_cons_zero, Act.put, List.setIfInBounds_toArray, List.set_cons_zero, List.set_cons_succ]
    refine wpAnyH_take (i := 14) (oi := _) (v := undef) rfl (by kernel_rfl) (by kernel_rfl) (by kernel_rfl) (fun _ _ _ h => h) (Or.inr ⟨by rfl, rfl⟩) (by assumption) ?_
    simp only [List.getElem_toArray, List.getElem_cons_succ, List.getElem_cons_zero, Act.put, List.setIfInBounds_toArray, List.set_cons_zero, List.set_cons_succ]
    refine wpAnyH_take (i := 15) (oi := _) (v := undef) rfl (by kernel_rfl) (by kernel_rfl) (by kernel_rfl) (fun _ _ _ h => h) (Or.inr ⟨by rfl, rfl⟩) (by assumption) ?_
    simp only [List.getElem_toArray, List.getElem_cons_succ, List.getElem_cons_zero, Act.put, List.setIfInBounds_toArray, List.set_cons_zero, List.set_cons_succ]
    refine wpAnyH_take (i := 16) (oi := _) (v := undef) rfl (by kernel_rfl) (by kernel_rfl) (by kernel_rfl) (fun _ _ _ h => h) (Or.inr ⟨by rfl, rfl⟩) (by assumption) ?_
    simp only [List.getElem_toArray, List.getElem_cons_succ, List.getElem_cons_zero, Act.put, List.setIfInBounds_toArray, List.set_cons_zero, List.set_cons_succ]
    refine wpAnyH_take (i := 17) (oi := _) (v := undef) rfl (by kernel_rfl) (by kernel_rfl) (by kernel_rfl) (fun _ _ _ h => h) (Or.inr ⟨by rfl, rfl⟩) (by assumption) ?_
    simp only [List.getElem_toArray, List.getElem_cons_succ, List.getElem_cons_zero, Act.put, List.setIfInBounds_toArray, List.set_cons_zero, List.set_cons_succ]
    refine wpAnyH_take (i := 18) (oi := _) (v := undef) rfl (by kernel_rfl) (by kernel_rfl) (by kernel_rfl) (fun _ _ _ h => h) (Or.inr ⟨by rfl, rfl⟩) (by assumption) ?_
    simp only [List.getElem_toArray, List.getElem_cons_succ, List.getElem_cons_zero, Act.put, List.setIfInBounds_toArray, List.set_cons_zero, List.set_cons_succ]
    refine wpAnyH_take (i := 19) (oi := _) (v := undef) rfl (by kernel_rfl) (by kernel_rfl) (by kernel_rfl) (fun _ _ _ h => h) (Or.inr ⟨by rfl, rfl⟩) (by assumption) ?_
    simp only [List.getElem_toArray, List.getElem_cons_succ, List.getElem_cons_zero, Act.put, List.setIfInBounds_toArray, List.set_cons_zero, List.set_cons_succ]
    refine wpAnyH_take (i := 20) (oi := _) (v := .bool true) rfl (by kernel_rfl) (by kernel_rfl) (by kernel_rfl) (fun _ _ _ h => h) (Or.inl ⟨by rfl, ?_⟩) (by assumption) ?_
    focus (intro w' hSw; (try dsimp only at hSw); go_split_ands; simp only [List.getElem_toArray, List.getElem_cons_succ, List.getElem_cons_zero]; go_simp; (first | done | (intro hz; exact absurd hz hAe) | (intro hz; exact absurd hz hBe)))
    simp only [List.getElem_toArray, List.getElem_cons_succ, List.getElem_cons_zero, Act.put, List.setIfInBounds_toArray, List.set_cons_zero, List.set_cons_succ]
    refine wpAnyH_done (by kernel_rfl) ?_ _
    have HBE := Lib.hid hHeld
    clear hHeld hS0
    go_wp2_with fail
    go_ret
    exact ⟨rfl, HBE.out⟩
  | true =>
    cases rb with
    | false =>
      obtain rfl : b = false := by rw [← HB.out]; exact same_no (.inr (.inl HRB.out))
      go_enter Tryz.func13, Tryz.ntmps13
      go_upto_region 1 with fail
      refine wp_region_held_drew (S := fun w' => Below w.heap.size w w') (by kernel_rfl) hS0 (fun hHeld => ?_)
      try simp only [List.append_eq, List.cons_append, List.nil_append]
      refine wpAnyH_take (i := 0) (oi := _) (v := .slice a1 A.length c1) rfl (by kernel_rfl) (by kernel_rfl) (by kernel_rfl) (fun _ _ _ h => h) (Or.inl ⟨by rfl, ?_⟩) (by assumption) ?_
      focus (intro w' hSw; (try dsimp only at hSw); go_split_ands; simp only [List.getElem_toArray, List.getElem_cons_zero]; go_simp; (first | done | (intro hz; exact absurd hz hAe) | (intro hz; exact absurd hz hBe)))
      simp only [List.getElem_toArray, List.getElem_cons_zero, Act.put, List.setIfInBounds_toArray, List.set_cons_zero, List.set_cons_succ]
      refine wpAnyH_ready (rs := [1]) (by kernel_rfl) (by simp) ?_
      refine AllReadyH.cons rfl (fun K hK => ?_) AllReadyH.nil
      simp only [List.getElem_toArray, List.getElem_cons_succ, List.getElem_cons_zero]
      go_simp
      go_at_call 30
      refine (HCA.out _ hHeld).mono ?_
      rintro e w9 ⟨rfl, hb⟩
      have hS1 := hHeld.trans (hb.mono hHeld.size)
      clear hb hHeld
      refine hK.out _ _ hS1 (fun hHeld => ?_)
      clear hK K hS1
      refine wpAnyH_take (i := 2) (oi := _) (v := .bool false) rfl (by kernel_rfl) (by kernel_rfl) (by kernel_rfl) (fun _ _ _ h => h) (Or.inl ⟨by rfl, ?_⟩) (by assumption) ?_
      focus (intro w' hSw; (try dsimp only at hSw); go_split_ands; simp only [List.getElem_toArray, List.getElem_cons_succ, List.getElem_cons_zero]; go_simp; (first | done | (intro hz; exact absurd hz hAe) | (intro hz; exact absurd hz hBe)))
      simp only [List.getElem_toArray, List.getElem_cons_succ, List.getElem_cons_zero, Act.put, List.setIfInBounds_toArray, List.set_cons_zero, List.set_cons_succ]
      refine wpAnyH_take (i := 3) (oi := _) (v := .bool false) rfl (by kernel_rfl) (by kernel_rfl) (by kernel_rfl) (fun _ _ _ h => h) (Or.inl ⟨by rfl, ?_⟩) (by assumption) ?_
      focus (intro w' hSw; (try dsimp only at hSw); go_split_ands; simp only [List.getElem_toArray, List.getElem_cons_succ, List.getElem_cons_zero]; go_simp; (first | done | (intro hz; exact absurd hz hAe) | (intro hz; exact absurd hz hBe)))
      simp only [List.getElem_toArray, List.getElem_cons_succ, List.getElem_cons_zero, Act.put, List.setIfInBounds_toArray, List.set_cons_zero, List.set_cons_succ]
      refine wpAnyH_take (i := 4) (oi := _) (v := .slice a2 B.length c2) rfl (by kernel_rfl) (by kernel_rfl) (by kernel_rfl) (fun _ _ _ h => h) (Or.inl ⟨by rfl, ?_⟩) (by assumption) ?_
      focus (intro w' hSw; (try dsimp only at hSw); go_split_ands; simp only [List.getElem_toArray, List.getElem_cons_succ, List.getElem_cons_zero]; go_simp; (first | done | (intro hz; exact absurd hz hAe) | (intro hz; exact absurd hz hBe)))
      simp only [List.getElem_toArray, List.getElem_cons_succ, List.getElem_cons_zero, Act.put, List.setIfInBounds_toArray, List.set_cons_zero, List.set_cons_succ]
      refine wpAnyH_ready (rs := [5]) (by kernel_rfl) (by simp) ?_
      refine AllReadyH.cons rfl (fun K hK => ?_) AllReadyH.nil
      simp only [List.getElem_toArray, List.getElem_cons_succ, List.getElem_cons_zero]
      go_simp
      go_at_call 30
      refine (HCB.out _ hHeld).mono ?_
      rintro e w9 ⟨rfl, hb⟩
      have hS5 := hHeld.trans (hb.mono hHeld.size)
      clear hb hHeld
      refine hK.out _ _ hS5 (fun hHeld => ?_)
      clear hK K hS5
      refine wpAnyH_take (i := 6) (oi := _) (v := .bool true) rfl (by kernel_rfl) (by kernel_rfl) (by kernel_rfl) (fun _ _ _ h => h) (Or.inl ⟨by rfl, ?_⟩) (by assumption) ?_
      focus (intro w' hSw; (try dsimp only at hSw); go_split_ands; simp only [List.getElem_toArray, List.getElem_cons_succ, List.getElem_cons_zero]; go_simp; (first | done | (intro hz; exact absurd hz hAe) | (intro hz; exact absurd hz hBe)))
      simp only [List.getElem_toArray, List.getElem_cons_succ, List.getElem_cons_zero, Act.put, List.setIfInBounds_toArray, List.set_cons_zero, List.set_cons_succ]
      refine wpAnyH_take (i := 7) (oi := _) (v := .bool true) rfl (by kernel_rfl) (by kernel_rfl) (by kernel_rfl) (fun _ _ _ h => h) (Or.inl ⟨by rfl, ?_⟩) (by assumption) ?_
      focus (intro w' hSw; (try dsimp only at hSw); go_split_ands; simp only [List.getElem_toArray, List.getElem_cons_succ, List.getElem_cons_zero]; go_simp; (first | done | (intro hz; exact absurd hz hAe) | (intro hz; exact absurd hz hBe)))
      simp only [List.getElem_toArray, List.getElem_cons_succ, List.getElem_cons_zero, Act.put, List.setIfInBounds_toArray, List.set_cons_zero, List.set_cons_succ]
      refine wpAnyH_take (i := 8) (oi := _) (v := .bool true) rfl (by kernel_rfl) (by kernel_rfl) (by kernel_rfl) (fun _ _ _ h => h) (Or.inl ⟨by rfl, ?_⟩) (by assumption) ?_
      focus (intro w' hSw; (try dsimp only at hSw); go_split_ands; simp only [List.getElem_toArray, List.getElem_cons_succ, List.getElem_cons_zero]; go_simp; (first | done | (intro hz; exact absurd hz hAe) | (intro hz; exact absurd hz hBe)))
      simp only [List.getElem_toArray, List.getElem_cons_succ, List.getElem_cons_zero, Act.put, List.setIfInBounds_toArray, List.set_cons_zero, List.set_cons_succ]
      refine wpAnyH_take (i := 9) (oi := _) (v := undef) rfl (by kernel_rfl) (by kernel_rfl) (by kernel_rfl) (fun _ _ _ h => h) (Or.inr ⟨by rfl, rfl⟩) (by assumption) ?_
      simp only [List.getElem_toArray, List.getElem_cons_succ, List.getElem_cons_zero, Act.put, List.setIfInBounds_toArray, List.set_cons_zero, List.set_cons_succ]
      refine wpAnyH_take (i := 10) (oi := _) (v := undef) rfl (by kernel_rfl) (by kernel_rfl) (by kernel_rfl) (fun _ _ _ h => h) (Or.inr ⟨by rfl, rfl⟩) (by assumption) ?_
      simp only [List.getElem_toArray, List.getElem_cons_succ, List.getElem_cons_zero, Act.put, List.setIfInBounds_toArray, List.set_cons_zero, List.set_cons_succ]
      refine wpAnyH_take (i := 11) (oi := _) (v := undef) rfl (by kernel_rfl) (by kernel_rfl) (by kernel_rfl) (fun _ _ _ h => h) (Or.inr ⟨by rfl, rfl⟩) (by assumption) ?_
      simp only [List.getElem_toArray, List.getElem_cons_succ, List.getElem_cons_zero, Act.put, List.setIfInBounds_toArray, List.set_cons_zero, List.set_cons_succ]
      refine wpAnyH_take (i := 12) (oi := _) (v := undef) rfl (by kernel_rfl) (by kernel_rfl) (by kernel_rfl) (fun _ _ _ h => h) (Or.inr ⟨by rfl, rfl⟩) (by assumption) ?_
      simp only [List.getElem_toArray, List.getElem_cons_succ, List.getElem_cons_zero, Act.put, List.setIfInBounds_toArray, List.set_cons_zero, List.set_cons_succ]
      refine wpAnyH_take (i := 13) (oi := _) (v := undef) rfl (by kernel_rfl) (by kernel_rfl) (by kernel_rfl) (fun _ _ _ h => h) (Or.inr ⟨by rfl, rfl⟩) (by assumption) ?_
      simp only [List.getElem_toArray, List.getElem_cons_succ, List.getElem_cons_zero, Act.put, List.setIfInBounds_toArray, List.set_cons_zero, List.set_cons_succ]
      refine wpAnyH_take (i := 14) (oi := _) (v := undef) rfl (by kernel_rfl) (by kernel_rfl) (by kernel_rfl) (fun _ _ _ h => h) (Or.inr ⟨by rfl, rfl⟩) (by assumption) ?_
      simp only [List.getElem_toArray, List.getElem_cons_succ, List.getElem_cons_zero, Act.put, List.setIfInBounds_toArray, List.set_cons_zero, List.set_cons_succ]
      refine wpAnyH_take (i := 15) (oi := _) (v := undef) rfl (by kernel_rfl) (by kernel_rfl) (by kernel_rfl) (fun _ _ _ h => h) (Or.inr ⟨by rfl, rfl⟩) (by assumption) ?_
      simp only [List.getElem_toArray, List.getElem_cons_succ, List.getElem_cons_zero, Act.put, List.setIfInBounds_toArray, List.set_cons_zero, List.set_cons_succ]
      refine wpAnyH_take (i := 16) (oi := _) (v := undef) rfl (by kernel_rfl) (by kernel_rfl) (by kernel_rfl) (fun _ _ _ h => h) (Or.inr ⟨by rfl, rfl⟩) (by assumption) ?_
      simp only [List.getElem_toArray, List.getElem_cons_succ, List.getElem_cons_zero, Act.put, List.setIfInBounds_toArray, List.set_cons_zero, List.set_cons_succ]
      refine wpAnyH_take (i := 17) (oi := _) (v := undef) rfl (by kernel_rfl) (by kernel_rfl) (by kernel_rfl) (fun _ _ _ h => h) (Or.inr ⟨by rfl, rfl⟩) (by assumption) ?_
      simp only [List.getElem_toArray, List.getElem_cons_succ, List.getElem_cons_zero, Act.put, List.setIfInBounds_toArray, List.set_cons_zero, List.set_cons_succ]
      refine wpAnyH_take (i := 18) (oi := _) (v := undef) rfl (by kernel_rfl) (by kernel_rfl) (by kernel_rfl) (fun _ _ _ h => h) (Or.inr ⟨by rfl, rfl⟩) (by assumption) ?_
      simp only [List.getElem_toArray, List.getElem_cons_succ, List.getElem_cons_zero, Act.put, List.setIfInBounds_toArray, List.set_cons_zero, List.set_cons_succ]
      refine wpAnyH_take (i := 19) (oi := _) (v := undef) rfl (by kernel_rfl) (by kernel_rfl) (by kernel_rfl) (fun _ _ _ h => h) (Or.inr ⟨by rfl, rfl⟩) (by assumption) ?_
      simp only [List.getElem_toArray, List.getElem_cons_succ, List.getElem_cons_zero, Act.put, List.setIfInBounds_toArray, List.set_cons_zero, List.set_cons_succ]
      refine wpAnyH_take (i := 20) (oi := _) (v := .bool true) rfl (by kernel_rfl) (by kernel_rfl) (by kernel_rfl) (fun _ _ _ h => h) (Or.inl ⟨by rfl, ?_⟩) (by assumption) ?_
      focus (intro w' hSw; (try dsimp only at hSw); go_split_ands; simp only [List.getElem_toArray, List.getElem_cons_succ, List.getElem_cons_zero]; go_simp; (first | done | (intro hz; exact absurd hz hAe) | (intro hz; exact absurd hz hBe)))
      simp only [List.getElem_toArray, List.getElem_cons_succ, List.getElem_cons_zero, Act.put, List.setIfInBounds_toArray, List.set_cons_zero, List.set_cons_succ]
      refine wpAnyH_done (by kernel_rfl) ?_ _
      have HBE := Lib.hid hHeld
      clear hHeld hS0
      go_wp2_with fail
      go_ret
      exact ⟨rfl, HBE.out⟩
    | true =>
      have hea := (reg_iff.1 HRA.out).1
      have heb := (reg_iff.1 HRB.out).1
      have h1a := (even_iff.1 hea).1
      have h1b := (even_iff.1 heb).1
      obtain ⟨LA, hLA⟩ : ∃ L, A[0]? = some L := ⟨_, List.getElem?_eq_getElem (by omega)⟩
      obtain ⟨LB, hLB⟩ : ∃ L, B[0]? = some L := ⟨_, List.getElem?_eq_getElem (by omega)⟩
      have hwa := wide_at hLA
      have hwb := wide_at hLB
      obtain ⟨ga, aa, _, e, hga, ua, ba, rfl, da, _⟩ := way_at HA1.out hLA
      injection e with e1 e2 e3
      subst e1 e3
      obtain ⟨gb, ab, _, e, hgb, ub, bb, rfl, db, _⟩ := way_at HB1.out hLB
      injection e with e1 e2 e3
      subst e1 e3
      have hAe : A ≠ [] := fun e => by rw [e] at h1a; simp at h1a
      have hBe : B ≠ [] := fun e => by rw [e] at h1b; simp at h1b
      have h0A : (0 : Int) < (A.length : Int) := by omega
      have h0B : (0 : Int) < (B.length : Int) := by omega
      have HWA := Lib.hid hwa
      have HWB := Lib.hid hwb
      have hle := wide_le HTA.out
      have HLE := Lib.hid (hwa ▸ hle)
      have HEA := Lib.hid hea
      have HEB := Lib.hid heb
      have hS0 : w.drew.cell? ⟨ga, 0, none⟩ = some (.slice aa LA.length ba) ∧ w.drew.cell? ⟨gb, 0, none⟩ = some (.slice ab LB.length bb) ∧ Below w.heap.size w w.drew := ⟨da, db, hS0⟩
      clear hwa hwb hLA hLB da db e2 hle hea heb
      by_cases hl : LA.length = LB.length
      · have hln : ((LA.length : Int) != (LB.length : Int)) = false := by rw [bne_eq_false_iff_eq]; omega
        have HLN := Lib.hid hl
        clear hl
        go_enter Tryz.func13, Tryz.ntmps13
        go_upto_region 1 with fail
        refine wp_region_held_drew (S := fun w' => w'.cell? ⟨ga, 0, none⟩ = some (.slice aa LA.length ba) ∧ w'.cell? ⟨gb, 0, none⟩ = some (.slice ab LB.length bb) ∧ Below w.heap.size w w') (by kernel_rfl) hS0 (fun hHeld => ?_)
        try simp only [List.append_eq, List.cons_append, List.nil_append]
        refine wpAnyH_take (i := 0) (oi := _) (v := .slice (some ⟨ga, 0, none⟩) A.length c1) rfl (by kernel_rfl) (by kernel_rfl) (by kernel_rfl) (fun _ _ _ h => h) (Or.inl ⟨by rfl, ?_⟩) (by assumption) ?_
        focus (intro w' hSw; (try dsimp only at hSw); go_split_ands; simp only [List.getElem_toArray, List.getElem_cons_zero]; go_simp; (first | done | (intro hz; exact absurd hz hAe) | (intro hz; exact absurd hz hBe)))
        simp only [List.getElem_toArray, List.getElem_cons_zero, Act.put, List.setIfInBounds_toArray, List.set_cons_zero, List.set_cons_succ]
        refine wpAnyH_ready (rs := [1]) (by kernel_rfl) (by simp) ?_
        refine AllReadyH.cons rfl (fun K hK => ?_) AllReadyH.nil
        simp only [List.getElem_toArray, List.getElem_cons_succ, List.getElem_cons_zero]
        go_simp
        go_at_call 30
        refine (HCA.out _ hHeld.2.2).mono ?_
        rintro e w9 ⟨rfl, hb⟩
        have hS1 := same_held hHeld hga hgb hb
        clear hb hHeld
        refine hK.out _ _ hS1 (fun hHeld => ?_)
        clear hK K hS1
        refine wpAnyH_take (i := 2) (oi := _) (v := .bool false) rfl (by kernel_rfl) (by kernel_rfl) (by kernel_rfl) (fun _ _ _ h => h) (Or.inl ⟨by rfl, ?_⟩) (by assumption) ?_
        focus (intro w' hSw; (try dsimp only at hSw); go_split_ands; simp only [List.getElem_toArray, List.getElem_cons_succ, List.getElem_cons_zero]; go_simp; (first | done | (intro hz; exact absurd hz hAe) | (intro hz; exact absurd hz hBe)))
        simp only [List.getElem_toArray, List.getElem_cons_succ, List.getElem_cons_zero, Act.put, List.setIfInBounds_toArray, List.set_cons_zero, List.set_cons_succ]
        refine wpAnyH_take (i := 3) (oi := _) (v := .bool false) rfl (by kernel_rfl) (by kernel_rfl) (by kernel_rfl) (fun _ _ _ h => h) (Or.inl ⟨by rfl, ?_⟩) (by assumption) ?_
        focus (intro w' hSw; (try dsimp only at hSw); go_split_ands; simp only [List.getElem_toArray, List.getElem_cons_succ, List.getElem_cons_zero]; go_simp; (first | done | (intro hz; exact absurd hz hAe) | (intro hz; exact absurd hz hBe)))
        simp only [List.getElem_toArray, List.getElem_cons_succ, List.getElem_cons_zero, Act.put, List.setIfInBounds_toArray, List.set_cons_zero, List.set_cons_succ]
        refine wpAnyH_take (i := 4) (oi := _) (v := .slice (some ⟨gb, 0, none⟩) B.length c2) rfl (by kernel_rfl) (by kernel_rfl) (by kernel_rfl) (fun _ _ _ h => h) (Or.inl ⟨by rfl, ?_⟩) (by assumption) ?_
        focus (intro w' hSw; (try dsimp only at hSw); go_split_ands; simp only [List.getElem_toArray, List.getElem_cons_succ, List.getElem_cons_zero]; go_simp; (first | done | (intro hz; exact absurd hz hAe) | (intro hz; exact absurd hz hBe)))
        simp only [List.getElem_toArray, List.getElem_cons_succ, List.getElem_cons_zero, Act.put, List.setIfInBounds_toArray, List.set_cons_zero, List.set_cons_succ]
        refine wpAnyH_ready (rs := [5]) (by kernel_rfl) (by simp) ?_
        refine AllReadyH.cons rfl (fun K hK => ?_) AllReadyH.nil
        simp only [List.getElem_toArray, List.getElem_cons_succ, List.getElem_cons_zero]
        go_simp
        go_at_call 30
        refine (HCB.out _ hHeld.2.2).mono ?_
        rintro e w9 ⟨rfl, hb⟩
        have hS5 := same_held hHeld hga hgb hb
        clear hb hHeld
        refine hK.out _ _ hS5 (fun hHeld => ?_)
        clear hK K hS5
        refine wpAnyH_take (i := 6) (oi := _) (v := .bool false) rfl (by kernel_rfl) (by kernel_rfl) (by kernel_rfl) (fun _ _ _ h => h) (Or.inl ⟨by rfl, ?_⟩) (by assumption) ?_
        focus (intro w' hSw; (try dsimp only at hSw); go_split_ands; simp only [List.getElem_toArray, List.getElem_cons_succ, List.getElem_cons_zero]; go_simp; (first | done | (intro hz; exact absurd hz hAe) | (intro hz; exact absurd hz hBe)))
        simp only [List.getElem_toArray, List.getElem_cons_succ, List.getElem_cons_zero, Act.put, List.setIfInBounds_toArray, List.set_cons_zero, List.set_cons_succ]
        refine wpAnyH_take (i := 7) (oi := _) (v := .bool false) rfl (by kernel_rfl) (by kernel_rfl) (by kernel_rfl) (fun _ _ _ h => h) (Or.inl ⟨by rfl, ?_⟩) (by assumption) ?_
        focus (intro w' hSw; (try dsimp only at hSw); go_split_ands; simp only [List.getElem_toArray, List.getElem_cons_succ, List.getElem_cons_zero]; go_simp; (first | done | (intro hz; exact absurd hz hAe) | (intro hz; exact absurd hz hBe)))
        simp only [List.getElem_toArray, List.getElem_cons_succ, List.getElem_cons_zero, Act.put, List.setIfInBounds_toArray, List.set_cons_zero, List.set_cons_succ]
        refine wpAnyH_take (i := 8) (oi := _) (v := .bool false) rfl (by kernel_rfl) (by kernel_rfl) (by kernel_rfl) (fun _ _ _ h => h) (Or.inl ⟨by rfl, ?_⟩) (by assumption) ?_
        focus (intro w' hSw; (try dsimp only at hSw); go_split_ands; simp only [List.getElem_toArray, List.getElem_cons_succ, List.getElem_cons_zero]; go_simp; (first | done | (intro hz; exact absurd hz hAe) | (intro hz; exact absurd hz hBe)))
        simp only [List.getElem_toArray, List.getElem_cons_succ, List.getElem_cons_zero, Act.put, List.setIfInBounds_toArray, List.set_cons_zero, List.set_cons_succ]
        refine wpAnyH_take (i := 9) (oi := _) (v := .slice (some ⟨ga, 0, none⟩) A.length c1) rfl (by kernel_rfl) (by kernel_rfl) (by kernel_rfl) (fun _ _ _ h => h) (Or.inl ⟨by rfl, ?_⟩) (by assumption) ?_
        focus (intro w' hSw; (try dsimp only at hSw); go_split_ands; simp only [List.getElem_toArray, List.getElem_cons_succ, List.getElem_cons_zero]; go_simp; (first | done | (intro hz; exact absurd hz hAe) | (intro hz; exact absurd hz hBe)))
        simp only [List.getElem_toArray, List.getElem_cons_succ, List.getElem_cons_zero, Act.put, List.setIfInBounds_toArray, List.set_cons_zero, List.set_cons_succ]
        refine wpAnyH_take (i := 10) (oi := _) (v := .pointer (some ⟨ga, 0, none⟩)) rfl (by kernel_rfl) (by kernel_rfl) (by kernel_rfl) (fun _ _ _ h => h) (Or.inl ⟨by rfl, ?_⟩) (by assumption) ?_
        focus (intro w' hSw; (try dsimp only at hSw); go_split_ands; simp only [List.getElem_toArray, List.getElem_cons_succ, List.getElem_cons_zero]; go_simp; (first | done | (intro hz; exact absurd hz hAe) | (intro hz; exact absurd hz hBe)))
        simp only [List.getElem_toArray, List.getElem_cons_succ, List.getElem_cons_zero, Act.put, List.setIfInBounds_toArray, List.set_cons_zero, List.set_cons_succ]
        refine wpAnyH_take (i := 11) (oi := _) (v := .pointer (some ⟨ga, 0, none⟩)) rfl (by kernel_rfl) (by kernel_rfl) (by kernel_rfl) (fun _ _ _ h => h) (Or.inl ⟨by rfl, ?_⟩) (by assumption) ?_
        focus (intro w' hSw; (try dsimp only at hSw); go_split_ands; simp only [List.getElem_toArray, List.getElem_cons_succ, List.getElem_cons_zero]; go_simp; (first | done | (intro hz; exact absurd hz hAe) | (intro hz; exact absurd hz hBe)))
        simp only [List.getElem_toArray, List.getElem_cons_succ, List.getElem_cons_zero, Act.put, List.setIfInBounds_toArray, List.set_cons_zero, List.set_cons_succ]
        refine wpAnyH_take (i := 12) (oi := _) (v := .slice aa LA.length ba) rfl (by kernel_rfl) (by kernel_rfl) (by kernel_rfl) (fun _ _ _ h => h) (Or.inl ⟨by rfl, ?_⟩) (by assumption) ?_
        focus (intro w' hSw; (try dsimp only at hSw); go_split_ands; simp only [List.getElem_toArray, List.getElem_cons_succ, List.getElem_cons_zero]; go_simp; (first | done | (intro hz; exact absurd hz hAe) | (intro hz; exact absurd hz hBe)))
        simp only [List.getElem_toArray, List.getElem_cons_succ, List.getElem_cons_zero, Act.put, List.setIfInBounds_toArray, List.set_cons_zero, List.set_cons_succ]
        refine wpAnyH_take (i := 13) (oi := _) (v := .int .i64 (LA.length : Int)) rfl (by kernel_rfl) (by kernel_rfl) (by kernel_rfl) (fun _ _ _ h => h) (Or.inl ⟨by rfl, ?_⟩) (by assumption) ?_
        focus (intro w' hSw; (try dsimp only at hSw); go_split_ands; simp only [List.getElem_toArray, List.getElem_cons_succ, List.getElem_cons_zero]; go_simp; (first | done | (intro hz; exact absurd hz hAe) | (intro hz; exact absurd hz hBe)))
        simp only [List.getElem_toArray, List.getElem_cons_succ, List.getElem_cons_zero, Act.put, List.setIfInBounds_toArray, List.set_cons_zero, List.set_cons_succ]
        refine wpAnyH_take (i := 14) (oi := _) (v := .slice (some ⟨gb, 0, none⟩) B.length c2) rfl (by kernel_rfl) (by kernel_rfl) (by kernel_rfl) (fun _ _ _ h => h) (Or.inl ⟨by rfl, ?_⟩) (by assumption) ?_
        focus (intro w' hSw; (try dsimp only at hSw); go_split_ands; simp only [List.getElem_toArray, List.getElem_cons_succ, List.getElem_cons_zero]; go_simp; (first | done | (intro hz; exact absurd hz hAe) | (intro hz; exact absurd hz hBe)))
        simp only [List.getElem_toArray, List.getElem_cons_succ, List.getElem_cons_zero, Act.put, List.setIfInBounds_toArray, List.set_cons_zero, List.set_cons_succ]
        refine wpAnyH_take (i := 15) (oi := _) (v := .pointer (some ⟨gb, 0, none⟩)) rfl (by kernel_rfl) (by kernel_rfl) (by kernel_rfl) (fun _ _ _ h => h) (Or.inl ⟨by rfl, ?_⟩) (by assumption) ?_
        focus (intro w' hSw; (try dsimp only at hSw); go_split_ands; simp only [List.getElem_toArray, List.getElem_cons_succ, List.getElem_cons_zero]; go_simp; (first | done | (intro hz; exact absurd hz hAe) | (intro hz; exact absurd hz hBe)))
        simp only [List.getElem_toArray, List.getElem_cons_succ, List.getElem_cons_zero, Act.put, List.setIfInBounds_toArray, List.set_cons_zero, List.set_cons_succ]
        refine wpAnyH_take (i := 16) (oi := _) (v := .pointer (some ⟨gb, 0, none⟩)) rfl (by kernel_rfl) (by kernel_rfl) (by kernel_rfl) (fun _ _ _ h => h) (Or.inl ⟨by rfl, ?_⟩) (by assumption) ?_
        focus (intro w' hSw; (try dsimp only at hSw); go_split_ands; simp only [List.getElem_toArray, List.getElem_cons_succ, List.getElem_cons_zero]; go_simp; (first | done | (intro hz; exact absurd hz hAe) | (intro hz; exact absurd hz hBe)))
        simp only [List.getElem_toArray, List.getElem_cons_succ, List.getElem_cons_zero, Act.put, List.setIfInBounds_toArray, List.set_cons_zero, List.set_cons_succ]
        refine wpAnyH_take (i := 17) (oi := _) (v := .slice ab LB.length bb) rfl (by kernel_rfl) (by kernel_rfl) (by kernel_rfl) (fun _ _ _ h => h) (Or.inl ⟨by rfl, ?_⟩) (by assumption) ?_
        focus (intro w' hSw; (try dsimp only at hSw); go_split_ands; simp only [List.getElem_toArray, List.getElem_cons_succ, List.getElem_cons_zero]; go_simp; (first | done | (intro hz; exact absurd hz hAe) | (intro hz; exact absurd hz hBe)))
        simp only [List.getElem_toArray, List.getElem_cons_succ, List.getElem_cons_zero, Act.put, List.setIfInBounds_toArray, List.set_cons_zero, List.set_cons_succ]
        refine wpAnyH_take (i := 18) (oi := _) (v := .int .i64 (LB.length : Int)) rfl (by kernel_rfl) (by kernel_rfl) (by kernel_rfl) (fun _ _ _ h => h) (Or.inl ⟨by rfl, ?_⟩) (by assumption) ?_
        focus (intro w' hSw; (try dsimp only at hSw); go_split_ands; simp only [List.getElem_toArray, List.getElem_cons_succ, List.getElem_cons_zero]; go_simp; (first | done | (intro hz; exact absurd hz hAe) | (intro hz; exact absurd hz hBe)))
        simp only [List.getElem_toArray, List.getElem_cons_succ, List.getElem_cons_zero, Act.put, List.setIfInBounds_toArray, List.set_cons_zero, List.set_cons_succ]
        refine wpAnyH_take (i := 19) (oi := _) (v := .bool false) rfl (by kernel_rfl) (by kernel_rfl) (by kernel_rfl) (fun _ _ _ h => h) (Or.inl ⟨by rfl, ?_⟩) (by assumption) ?_
        focus (intro w' hSw; (try dsimp only at hSw); go_split_ands; simp only [List.getElem_toArray, List.getElem_cons_succ, List.getElem_cons_zero]; go_simp; (first | done | (intro hz; exact absurd hz hAe) | (intro hz; exact absurd hz hBe)))
        simp only [List.getElem_toArray, List.getElem_cons_succ, List.getElem_cons_zero, Act.put, List.setIfInBounds_toArray, List.set_cons_zero, List.set_cons_succ]
        refine wpAnyH_take (i := 20) (oi := _) (v := .bool false) rfl (by kernel_rfl) (by kernel_rfl) (by kernel_rfl) (fun _ _ _ h => h) (Or.inl ⟨by rfl, ?_⟩) (by assumption) ?_
        focus (intro w' hSw; (try dsimp only at hSw); go_split_ands; simp only [List.getElem_toArray, List.getElem_cons_succ, List.getElem_cons_zero]; go_simp; (first | done | (intro hz; exact absurd hz hAe) | (intro hz; exact absurd hz hBe)))
        simp only [List.getElem_toArray, List.getElem_cons_succ, List.getElem_cons_zero, Act.put, List.setIfInBounds_toArray, List.set_cons_zero, List.set_cons_succ]
        have d8 := hHeld.1
        refine wpAnyH_done (by kernel_rfl) ?_ _
        have HBE := Lib.hid hHeld.2.2
        clear hHeld hS0
        go_wp2_with fail
        clear d8
        go_loopw [5, 32] (fun _ i wr => ∃ t : Nat, t ≤ LA.length ∧ i = .int .i64 t ∧ Hid (∀ s, s < t → onceL (colL A s) = onceL (colL B s)) ∧ Below w.heap.size w wr) (fun _ i _ => LA.length - (intOf i).toNat)
        case atStart => exact ⟨0, Nat.zero_le _, rfl, Lib.hid fun s h => absurd h (by omega), HBE.out⟩
        case round =>
          clear HBE
          obtain ⟨t, ht, rfl, HK, hbe⟩ := hrel
          have HBW := Lib.hid hbe
          have hle2 := HLE.out
          clear hbe
          by_cases hlt : t < LA.length
          · have hlt2 : (t : Int) < (LA.length : Int) := by omega
            obtain ⟨X, HX⟩ : ∃ X, Hid (colL A t = X) := ⟨_, rfl⟩
            obtain ⟨Y, HY⟩ : ∃ Y, Hid (colL B t = Y) := ⟨_, rfl⟩
            have HlA : Hid (∀ (i : Nat) L, A[i]? = some L → t < L.length ∧ L.length ≤ 2000000) := Lib.hid fun i L hL => by
              have h3 := (even_iff.1 HEA.out).2.2 i L hL
              rw [HWA.out] at h3
              have := HLE.out
              omega
            have HlB : Hid (∀ (i : Nat) L, B[i]? = some L → t < L.length ∧ L.length ≤ 2000000) := Lib.hid fun i L hL => by
              have h3 := (even_iff.1 HEB.out).2.2 i L hL
              rw [HWB.out, ← HLN.out] at h3
              have := HLE.out
              omega
            have HXl : Hid ((onceL X).length ≤ 2000000) := Lib.hid (by have := once_len X; have e : X.length = A.length := by rw [← HX.out, col_len]
                                                                       omega)
            have HYl : Hid ((onceL Y).length ≤ 2000000) := Lib.hid (by have := once_len Y; have e : Y.length = B.length := by rw [← HY.out, col_len]
                                                                       omega)
            obtain ⟨q, HQ⟩ : ∃ q, Hid (decide (onceL X = onceL Y) = q) := ⟨_, rfl⟩
            go_wp2_with fail
            refine (implColR _ A t X hA HlA.out HX wr (waysAt_on HA1.out HBW.out)).mono ?_
            rintro e w1 ⟨x, rfl, hx, hb⟩
            have HB2 := Lib.hid (HBW.out.trans (hb.mono HBW.out.size))
            have HIX := Lib.hid (ints_of_own hx)
            obtain ⟨ax, cx, rfl⟩ := own_form hx
            clear hb hx
            go_wp2_with fail
            refine (implColR _ B t Y hB HlB.out HY w1 (waysAt_on HB1.out HB2.out)).mono ?_
            rintro e w2 ⟨y, rfl, hy, hb⟩
            have HB3 := Lib.hid (HB2.out.trans (hb.mono HB2.out.size))
            have HIY := Lib.hid (ints_of_own hy)
            have HIX2 := Lib.hid (ints_on HIX.out hb)
            obtain ⟨ay, cy, rfl⟩ := own_form hy
            clear hb hy HIX
            go_wp2_with fail
            refine (implEqual _ _ (onceL X) (onceL Y) q w2 HIX2.out HIY.out HXl.out HYl.out HQ).mono ?_
            rintro e w3 ⟨rfl, hb⟩
            have HB4 := Lib.hid (HB3.out.trans (hb.mono HB3.out.size))
            clear hb
            cases q with
            | true =>
              go_wp2_with fail
              go_roundw
              case rel => exact ⟨t + 1, by omega, by go_num, Lib.hid fun s hs => (by
                rcases Nat.lt_succ_iff_lt_or_eq.1 hs with h | h
                · exact HK.out s h
                · rw [h, HX.out, HY.out]
                  exact of_decide_eq_true HQ.out), HB4.out⟩
              case measure => simp [intOf]; omega
            | false =>
              obtain rfl : b = false := by rw [← HB.out]; exact same_at (by rw [HX.out, HY.out]; exact of_decide_eq_false HQ.out) (by rw [HWA.out]; exact hlt)
              go_wp2_with fail
              go_ret
              exact ⟨rfl, HB4.out⟩
          · obtain rfl : t = LA.length := by omega
            have hnl : ¬ (LA.length : Int) < (LA.length : Int) := by omega
            obtain rfl : b = true := by
              rw [← HB.out]
              exact same_yes HRA.out HRB.out (by rw [HWA.out, HWB.out, HLN.out]) (by rw [HWA.out]; exact HK.out)
            go_wp2_with fail
            go_ret
            exact ⟨rfl, HBW.out⟩
      · have hln : ((LA.length : Int) != (LB.length : Int)) = true := by rw [bne_iff_ne]; omega
        obtain rfl : b = false := by rw [← HB.out]; exact same_no (.inr (.inr (by rw [HWA.out, HWB.out]; exact hl)))
        clear hl
        go_enter Tryz.func13, Tryz.ntmps13
        go_upto_region 1 with fail
        refine wp_region_held_drew (S := fun w' => w'.cell? ⟨ga, 0, none⟩ = some (.slice aa LA.length ba) ∧ w'.cell? ⟨gb, 0, none⟩ = some (.slice ab LB.length bb) ∧ Below w.heap.size w w') (by kernel_rfl) hS0 (fun hHeld => ?_)
        try simp only [List.append_eq, List.cons_append, List.nil_append]
        refine wpAnyH_take (i := 0) (oi := _) (v := .slice (some ⟨ga, 0, none⟩) A.length c1) rfl (by kernel_rfl) (by kernel_rfl) (by kernel_rfl) (fun _ _ _ h => h) (Or.inl ⟨by rfl, ?_⟩) (by assumption) ?_
        focus (intro w' hSw; (try dsimp only at hSw); go_split_ands; simp only [List.getElem_toArray, List.getElem_cons_zero]; go_simp; (first | done | (intro hz; exact absurd hz hAe) | (intro hz; exact absurd hz hBe)))
        simp only [List.getElem_toArray, List.getElem_cons_zero, Act.put, List.setIfInBounds_toArray, List.set_cons_zero, List.set_cons_succ]
        refine wpAnyH_ready (rs := [1]) (by kernel_rfl) (by simp) ?_
        refine AllReadyH.cons rfl (fun K hK => ?_) AllReadyH.nil
        simp only [List.getElem_toArray, List.getElem_cons_succ, List.getElem_cons_zero]
        go_simp
        go_at_call 30
        refine (HCA.out _ hHeld.2.2).mono ?_
        rintro e w9 ⟨rfl, hb⟩
        have hS1 := same_held hHeld hga hgb hb
        clear hb hHeld
        refine hK.out _ _ hS1 (fun hHeld => ?_)
        clear hK K hS1
        refine wpAnyH_take (i := 2) (oi := _) (v := .bool false) rfl (by kernel_rfl) (by kernel_rfl) (by kernel_rfl) (fun _ _ _ h => h) (Or.inl ⟨by rfl, ?_⟩) (by assumption) ?_
        focus (intro w' hSw; (try dsimp only at hSw); go_split_ands; simp only [List.getElem_toArray, List.getElem_cons_succ, List.getElem_cons_zero]; go_simp; (first | done | (intro hz; exact absurd hz hAe) | (intro hz; exact absurd hz hBe)))
        simp only [List.getElem_toArray, List.getElem_cons_succ, List.getElem_cons_zero, Act.put, List.setIfInBounds_toArray, List.set_cons_zero, List.set_cons_succ]
        refine wpAnyH_take (i := 3) (oi := _) (v := .bool false) rfl (by kernel_rfl) (by kernel_rfl) (by kernel_rfl) (fun _ _ _ h => h) (Or.inl ⟨by rfl, ?_⟩) (by assumption) ?_
        focus (intro w' hSw; (try dsimp only at hSw); go_split_ands; simp only [List.getElem_toArray, List.getElem_cons_succ, List.getElem_cons_zero]; go_simp; (first | done | (intro hz; exact absurd hz hAe) | (intro hz; exact absurd hz hBe)))
        simp only [List.getElem_toArray, List.getElem_cons_succ, List.getElem_cons_zero, Act.put, List.setIfInBounds_toArray, List.set_cons_zero, List.set_cons_succ]
        refine wpAnyH_take (i := 4) (oi := _) (v := .slice (some ⟨gb, 0, none⟩) B.length c2) rfl (by kernel_rfl) (by kernel_rfl) (by kernel_rfl) (fun _ _ _ h => h) (Or.inl ⟨by rfl, ?_⟩) (by assumption) ?_
        focus (intro w' hSw; (try dsimp only at hSw); go_split_ands; simp only [List.getElem_toArray, List.getElem_cons_succ, List.getElem_cons_zero]; go_simp; (first | done | (intro hz; exact absurd hz hAe) | (intro hz; exact absurd hz hBe)))
        simp only [List.getElem_toArray, List.getElem_cons_succ, List.getElem_cons_zero, Act.put, List.setIfInBounds_toArray, List.set_cons_zero, List.set_cons_succ]
        refine wpAnyH_ready (rs := [5]) (by kernel_rfl) (by simp) ?_
        refine AllReadyH.cons rfl (fun K hK => ?_) AllReadyH.nil
        simp only [List.getElem_toArray, List.getElem_cons_succ, List.getElem_cons_zero]
        go_simp
        go_at_call 30
        refine (HCB.out _ hHeld.2.2).mono ?_
        rintro e w9 ⟨rfl, hb⟩
        have hS5 := same_held hHeld hga hgb hb
        clear hb hHeld
        refine hK.out _ _ hS5 (fun hHeld => ?_)
        clear hK K hS5
        refine wpAnyH_take (i := 6) (oi := _) (v := .bool false) rfl (by kernel_rfl) (by kernel_rfl) (by kernel_rfl) (fun _ _ _ h => h) (Or.inl ⟨by rfl, ?_⟩) (by assumption) ?_
        focus (intro w' hSw; (try dsimp only at hSw); go_split_ands; simp only [List.getElem_toArray, List.getElem_cons_succ, List.getElem_cons_zero]; go_simp; (first | done | (intro hz; exact absurd hz hAe) | (intro hz; exact absurd hz hBe)))
        simp only [List.getElem_toArray, List.getElem_cons_succ, List.getElem_cons_zero, Act.put, List.setIfInBounds_toArray, List.set_cons_zero, List.set_cons_succ]
        refine wpAnyH_take (i := 7) (oi := _) (v := .bool false) rfl (by kernel_rfl) (by kernel_rfl) (by kernel_rfl) (fun _ _ _ h => h) (Or.inl ⟨by rfl, ?_⟩) (by assumption) ?_
        focus (intro w' hSw; (try dsimp only at hSw); go_split_ands; simp only [List.getElem_toArray, List.getElem_cons_succ, List.getElem_cons_zero]; go_simp; (first | done | (intro hz; exact absurd hz hAe) | (intro hz; exact absurd hz hBe)))
        simp only [List.getElem_toArray, List.getElem_cons_succ, List.getElem_cons_zero, Act.put, List.setIfInBounds_toArray, List.set_cons_zero, List.set_cons_succ]
        refine wpAnyH_take (i := 8) (oi := _) (v := .bool false) rfl (by kernel_rfl) (by kernel_rfl) (by kernel_rfl) (fun _ _ _ h => h) (Or.inl ⟨by rfl, ?_⟩) (by assumption) ?_
        focus (intro w' hSw; (try dsimp only at hSw); go_split_ands; simp only [List.getElem_toArray, List.getElem_cons_succ, List.getElem_cons_zero]; go_simp; (first | done | (intro hz; exact absurd hz hAe) | (intro hz; exact absurd hz hBe)))
        simp only [List.getElem_toArray, List.getElem_cons_succ, List.getElem_cons_zero, Act.put, List.setIfInBounds_toArray, List.set_cons_zero, List.set_cons_succ]
        refine wpAnyH_take (i := 9) (oi := _) (v := .slice (some ⟨ga, 0, none⟩) A.length c1) rfl (by kernel_rfl) (by kernel_rfl) (by kernel_rfl) (fun _ _ _ h => h) (Or.inl ⟨by rfl, ?_⟩) (by assumption) ?_
        focus (intro w' hSw; (try dsimp only at hSw); go_split_ands; simp only [List.getElem_toArray, List.getElem_cons_succ, List.getElem_cons_zero]; go_simp; (first | done | (intro hz; exact absurd hz hAe) | (intro hz; exact absurd hz hBe)))
        simp only [List.getElem_toArray, List.getElem_cons_succ, List.getElem_cons_zero, Act.put, List.setIfInBounds_toArray, List.set_cons_zero, List.set_cons_succ]
        refine wpAnyH_take (i := 10) (oi := _) (v := .pointer (some ⟨ga, 0, none⟩)) rfl (by kernel_rfl) (by kernel_rfl) (by kernel_rfl) (fun _ _ _ h => h) (Or.inl ⟨by rfl, ?_⟩) (by assumption) ?_
        focus (intro w' hSw; (try dsimp only at hSw); go_split_ands; simp only [List.getElem_toArray, List.getElem_cons_succ, List.getElem_cons_zero]; go_simp; (first | done | (intro hz; exact absurd hz hAe) | (intro hz; exact absurd hz hBe)))
        simp only [List.getElem_toArray, List.getElem_cons_succ, List.getElem_cons_zero, Act.put, List.setIfInBounds_toArray, List.set_cons_zero, List.set_cons_succ]
        refine wpAnyH_take (i := 11) (oi := _) (v := .pointer (some ⟨ga, 0, none⟩)) rfl (by kernel_rfl) (by kernel_rfl) (by kernel_rfl) (fun _ _ _ h => h) (Or.inl ⟨by rfl, ?_⟩) (by assumption) ?_
        focus (intro w' hSw; (try dsimp only at hSw); go_split_ands; simp only [List.getElem_toArray, List.getElem_cons_succ, List.getElem_cons_zero]; go_simp; (first | done | (intro hz; exact absurd hz hAe) | (intro hz; exact absurd hz hBe)))
        simp only [List.getElem_toArray, List.getElem_cons_succ, List.getElem_cons_zero, Act.put, List.setIfInBounds_toArray, List.set_cons_zero, List.set_cons_succ]
        refine wpAnyH_take (i := 12) (oi := _) (v := .slice aa LA.length ba) rfl (by kernel_rfl) (by kernel_rfl) (by kernel_rfl) (fun _ _ _ h => h) (Or.inl ⟨by rfl, ?_⟩) (by assumption) ?_
        focus (intro w' hSw; (try dsimp only at hSw); go_split_ands; simp only [List.getElem_toArray, List.getElem_cons_succ, List.getElem_cons_zero]; go_simp; (first | done | (intro hz; exact absurd hz hAe) | (intro hz; exact absurd hz hBe)))
        simp only [List.getElem_toArray, List.getElem_cons_succ, List.getElem_cons_zero, Act.put, List.setIfInBounds_toArray, List.set_cons_zero, List.set_cons_succ]
        refine wpAnyH_take (i := 13) (oi := _) (v := .int .i64 (LA.length : Int)) rfl (by kernel_rfl) (by kernel_rfl) (by kernel_rfl) (fun _ _ _ h => h) (Or.inl ⟨by rfl, ?_⟩) (by assumption) ?_
        focus (intro w' hSw; (try dsimp only at hSw); go_split_ands; simp only [List.getElem_toArray, List.getElem_cons_succ, List.getElem_cons_zero]; go_simp; (first | done | (intro hz; exact absurd hz hAe) | (intro hz; exact absurd hz hBe)))
        simp only [List.getElem_toArray, List.getElem_cons_succ, List.getElem_cons_zero, Act.put, List.setIfInBounds_toArray, List.set_cons_zero, List.set_cons_succ]
        refine wpAnyH_take (i := 14) (oi := _) (v := .slice (some ⟨gb, 0, none⟩) B.length c2) rfl (by kernel_rfl) (by kernel_rfl) (by kernel_rfl) (fun _ _ _ h => h) (Or.inl ⟨by rfl, ?_⟩) (by assumption) ?_
        focus (intro w' hSw; (try dsimp only at hSw); go_split_ands; simp only [List.getElem_toArray, List.getElem_cons_succ, List.getElem_cons_zero]; go_simp; (first | done | (intro hz; exact absurd hz hAe) | (intro hz; exact absurd hz hBe)))
        simp only [List.getElem_toArray, List.getElem_cons_succ, List.getElem_cons_zero, Act.put, List.setIfInBounds_toArray, List.set_cons_zero, List.set_cons_succ]
        refine wpAnyH_take (i := 15) (oi := _) (v := .pointer (some ⟨gb, 0, none⟩)) rfl (by kernel_rfl) (by kernel_rfl) (by kernel_rfl) (fun _ _ _ h => h) (Or.inl ⟨by rfl, ?_⟩) (by assumption) ?_
        focus (intro w' hSw; (try dsimp only at hSw); go_split_ands; simp only [List.getElem_toArray, List.getElem_cons_succ, List.getElem_cons_zero]; go_simp; (first | done | (intro hz; exact absurd hz hAe) | (intro hz; exact absurd hz hBe)))
        simp only [List.getElem_toArray, List.getElem_cons_succ, List.getElem_cons_zero, Act.put, List.setIfInBounds_toArray, List.set_cons_zero, List.set_cons_succ]
        refine wpAnyH_take (i := 16) (oi := _) (v := .pointer (some ⟨gb, 0, none⟩)) rfl (by kernel_rfl) (by kernel_rfl) (by kernel_rfl) (fun _ _ _ h => h) (Or.inl ⟨by rfl, ?_⟩) (by assumption) ?_
        focus (intro w' hSw; (try dsimp only at hSw); go_split_ands; simp only [List.getElem_toArray, List.getElem_cons_succ, List.getElem_cons_zero]; go_simp; (first | done | (intro hz; exact absurd hz hAe) | (intro hz; exact absurd hz hBe)))
        simp only [List.getElem_toArray, List.getElem_cons_succ, List.getElem_cons_zero, Act.put, List.setIfInBounds_toArray, List.set_cons_zero, List.set_cons_succ]
        refine wpAnyH_take (i := 17) (oi := _) (v := .slice ab LB.length bb) rfl (by kernel_rfl) (by kernel_rfl) (by kernel_rfl) (fun _ _ _ h => h) (Or.inl ⟨by rfl, ?_⟩) (by assumption) ?_
        focus (intro w' hSw; (try dsimp only at hSw); go_split_ands; simp only [List.getElem_toArray, List.getElem_cons_succ, List.getElem_cons_zero]; go_simp; (first | done | (intro hz; exact absurd hz hAe) | (intro hz; exact absurd hz hBe)))
        simp only [List.getElem_toArray, List.getElem_cons_succ, List.getElem_cons_zero, Act.put, List.setIfInBounds_toArray, List.set_cons_zero, List.set_cons_succ]
        refine wpAnyH_take (i := 18) (oi := _) (v := .int .i64 (LB.length : Int)) rfl (by kernel_rfl) (by kernel_rfl) (by kernel_rfl) (fun _ _ _ h => h) (Or.inl ⟨by rfl, ?_⟩) (by assumption) ?_
        focus (intro w' hSw; (try dsimp only at hSw); go_split_ands; simp only [List.getElem_toArray, List.getElem_cons_succ, List.getElem_cons_zero]; go_simp; (first | done | (intro hz; exact absurd hz hAe) | (intro hz; exact absurd hz hBe)))
        simp only [List.getElem_toArray, List.getElem_cons_succ, List.getElem_cons_zero, Act.put, List.setIfInBounds_toArray, List.set_cons_zero, List.set_cons_succ]
        refine wpAnyH_take (i := 19) (oi := _) (v := .bool true) rfl (by kernel_rfl) (by kernel_rfl) (by kernel_rfl) (fun _ _ _ h => h) (Or.inl ⟨by rfl, ?_⟩) (by assumption) ?_
        focus (intro w' hSw; (try dsimp only at hSw); go_split_ands; simp only [List.getElem_toArray, List.getElem_cons_succ, List.getElem_cons_zero]; go_simp; (first | done | (intro hz; exact absurd hz hAe) | (intro hz; exact absurd hz hBe)))
        simp only [List.getElem_toArray, List.getElem_cons_succ, List.getElem_cons_zero, Act.put, List.setIfInBounds_toArray, List.set_cons_zero, List.set_cons_succ]
        refine wpAnyH_take (i := 20) (oi := _) (v := .bool true) rfl (by kernel_rfl) (by kernel_rfl) (by kernel_rfl) (fun _ _ _ h => h) (Or.inl ⟨by rfl, ?_⟩) (by assumption) ?_
        focus (intro w' hSw; (try dsimp only at hSw); go_split_ands; simp only [List.getElem_toArray, List.getElem_cons_succ, List.getElem_cons_zero]; go_simp; (first | done | (intro hz; exact absurd hz hAe) | (intro hz; exact absurd hz hBe)))
        simp only [List.getElem_toArray, List.getElem_cons_succ, List.getElem_cons_zero, Act.put, List.setIfInBounds_toArray, List.set_cons_zero, List.set_cons_succ]
        have d8 := hHeld.1
        refine wpAnyH_done (by kernel_rfl) ?_ _
        have HBE := Lib.hid hHeld.2.2
        clear hHeld hS0
        go_wp2_with fail
        go_ret
        exact ⟨rfl, HBE.out⟩

end Go.Proofs.YtkbfbifepaoojaaGreatDoor

