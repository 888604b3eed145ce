/-
  CONTRACT of spec.Crossings. No law is proved here.
  CONTRACTS of laws.sameInts, sameWay, sameWays at equal ones. No law is proved here.
  Plain lemmas: an argument that is a slice of bytes, opened for the model's cursor, and read again after the call. No law is proved here.
-/
import Derived.Test.YtkbfbifepaoojaaGreatDoorZPU39
import Derived.Test.YtkbfbifepaoojaaGreatDoorZPU02
import Derived.BigQuiet
import Derived.Deep.QuietTactic
import Derived.StillTailTactics
import Derived.Test.YtkbfbifepaoojaaGreatDoorZPU10
namespace Go.Proofs.YtkbfbifepaoojaaGreatDoor
set_option maxRecDepth 4096
open Go.ChangeShapes Go.WideShapes Go.ChangeAt Go.RowKit

theorem wide_leS {Ws : List (List Int)} (hT : totW Ws ≤ 2000000) : wideV Ws ≤ 2000000 := by
  unfold wideV
  cases Ws with
  | nil => simp
  | cons a Ws => have := totW_one (Ws := a :: Ws) (k := 0) rfl; simpa using (by omega : a.length ≤ 2000000)
theorem wf_fewS {n : Nat} (h : n ≤ 2000000) : (Lit.int .i64 (n : Int)).wf = true := WalkArith.wf_i64 (by omega)

set_option maxHeartbeats 2000000 in
theorem specCrossings (v : Value) (Ws : List (List Int)) (z : Int) (hW : Ws.length ≤ 2000000) (hT : totW Ws ≤ 2000000) (HZ : Hid (crossV13 Ws = z)) (w : World) (hv : WaysAt w v Ws) :
    Calls Tryz.prog 11 #[v] w (Made w (.int .i64 z)) := by
  obtain ⟨b, HB⟩ : ∃ b, Hid (regV Ws = b) := ⟨_, rfl⟩
  have HC := Lib.hid (specReg v Ws b hW hT HB w hv)
  have HS : Hid (∀ (t m : Nat) (wr : World), t ≤ 2000000 → Hid (swapsV Ws (t : Int) = m) → Below w.heap.size w wr → Calls Tryz.prog 33 #[v, .int .i64 (t : Int)] wr (Made wr (.int .i64 (m : Int)))) := Lib.hid fun t m wr ht HR hB => specSwaps v Ws t m hW hT HR wr (waysAt_on hv hB) (wf_fewS ht)
  have HG : Hid (∀ (t m : Nat) (wr : World), t ≤ 2000000 → Hid (ringsV Ws (t : Int) = m) → Below w.heap.size w wr → Calls Tryz.prog 34 #[v, .int .i64 (t : Int)] wr (Made wr (.int .i64 (m : Int)))) := Lib.hid fun t m wr ht HR hB => specRings v Ws t m hW hT HR wr (waysAt_on hv hB) (wf_fewS ht)
  have hwd := wide_leS hT
  have HVV := Lib.hid hv
  cases b with
  | false =>
    obtain ⟨av, cv, rfl, _⟩ := hv
    clear hT
    obtain rfl : z = -1 := by rw [← HZ.out]; exact if_neg (by rw [HB.out]; decide)
    go_enter Tryz.func11, Tryz.ntmps11
    go_wp2_with fail
    refine HC.out.mono ?_
    rintro e w1 ⟨rfl, q, rfl⟩
    go_wp2_with fail
    go_ret
    exact ⟨rfl, below_drewN (Below.refl _ _) _⟩
  | true =>
    have HZ2 : Hid (((crossN Ws (wideV Ws - 1) : Nat) : Int) = z) := Lib.hid (by rw [← HZ.out]; exact (if_pos HB.out).symm)
    have HE := Lib.hid (reg_iff.1 HB.out).1
    have HP := Lib.hid (reg_iff.1 HB.out).2.1
    have h1 := (even_iff.1 HE.out).1
    obtain ⟨L0, hL0⟩ : ∃ L, Ws[0]? = some L := ⟨_, List.getElem?_eq_getElem (by omega)⟩
    obtain ⟨g, a0, _, e, hg, u, b0, rfl, d0, _⟩ := way_at hv hL0
    subst e
    have HW0 := Lib.hid (wide_at hL0)
    have h0N : (0 : Int) < (Ws.length : Int) := by omega
    have HD0 := Lib.hid d0
    clear hT hv hL0 d0
    go_enter Tryz.func11, Tryz.ntmps11
    go_wp2_with fail
    refine HC.out.mono ?_
    rintro e wm ⟨rfl, q, rfl⟩
    have HB1 := Lib.hid (below_drewN (Below.refl w.heap.size w) q)
    go_wp2_with fail
    go_loopw [3, 4] (fun s i wr => ∃ k : Nat, k + 1 ≤ wideV Ws ∧ s = .int .i64 ((crossN Ws k : Nat) : Int) ∧ i = .int .i64 k ∧ Below w.heap.size w wr) (fun _ i _ => wideV Ws - (intOf i).toNat)
    case atStart => exact ⟨0, HP.out, rfl, rfl, HB1.out⟩
    case round =>
      obtain ⟨k, hk, rfl, rfl, hbe⟩ := hrel
      have hle := crossN_le (Ws := Ws) (k := k)
      have HSU := Lib.hid (crossN_succ (Ws := Ws) (k := k))
      obtain ⟨n, HN⟩ : ∃ n, Hid (crossN Ws k = n) := ⟨_, rfl⟩
      have d1 := (hbe.cell (p := ⟨g, 0, none⟩) hg).trans HD0.out
      have hwk : IntKind.i64.wrap ((k : Int) + 1) = ((k + 1 : Nat) : Int) := by rw [IntWalk.i64_in _ (by omega)]; omega
      have HBR := Lib.hid hbe
      clear hbe
      by_cases hkw : k + 1 < wideV Ws
      · have hkI : ((k + 1 : Nat) : Int) < (L0.length : Int) := by rw [HW0.out] at hkw; omega
        rw [HN.out] at hle HSU ⊢
        obtain ⟨a, HA⟩ : ∃ a, Hid (swapsV Ws (k : Int) = a) := ⟨_, rfl⟩
        obtain ⟨c, HCC⟩ : ∃ c, Hid (ringsV Ws (k : Int) = c) := ⟨_, rfl⟩
        have hc1 := cross1_le (Ws := Ws) (t := k)
        have HC1 : Hid (cross1 Ws k = 2 * a + c) := Lib.hid (by unfold cross1; rw [HA.out, HCC.out])
        rw [HC1.out] at hc1 HSU
        go_wp2_with fail
        refine (HS.out k a wr (by omega) HA HBR.out).mono ?_
        rintro e w2 ⟨rfl, hb⟩
        have HB3 := Lib.hid (HBR.out.trans (hb.mono HBR.out.size))
        clear hb
        have e1 : IntKind.i64.wrap (2 * (a : Int)) = ((2 * a : Nat) : Int) := by rw [IntWalk.i64_in _ (by omega)]; omega
        have e2 : IntKind.i64.wrap ((n : Int) + ((2 * a : Nat) : Int)) = ((n + 2 * a : Nat) : Int) := by rw [IntWalk.i64_in _ (by omega)]; omega
        go_wp2_with fail
        refine (HG.out k c w2 (by omega) HCC HB3.out).mono ?_
        rintro e w3 ⟨rfl, hb⟩
        have HB4 := Lib.hid (HB3.out.trans (hb.mono HB3.out.size))
        clear hb
        have e3 : IntKind.i64.wrap (((n + 2 * a : Nat) : Int) + (c : Int)) = ((n + (2 * a + c) : Nat) : Int) := by rw [IntWalk.i64_in _ (by omega)]; omega
        go_wp2_with fail
        go_roundw
        case rel => exact ⟨k + 1, by omega, by rw [HSU.out]; exact congrArg (Value.int IntKind.i64) (by omega), by go_num, HB4.out⟩
        case measure => simp [intOf]; omega
      · have hnk : ¬ ((k + 1 : Nat) : Int) < (L0.length : Int) := by rw [HW0.out] at hkw; omega
        have he : k = wideV Ws - 1 := by omega
        have e : ((n : Nat) : Int) = z := by rw [← HZ2.out, ← he, HN.out]
        rw [HN.out] at hle ⊢
        subst e
        clear he HSU
        go_wp2_with fail
        go_ret
        exact ⟨rfl, HBR.out⟩

end Go.Proofs.YtkbfbifepaoojaaGreatDoor

namespace Go.Proofs.YtkbfbifepaoojaaGreatDoor
set_option maxRecDepth 4096
open Go.ChangeShapes Go.WideShapes Go.ChangeAt Go.RowKit

set_option maxHeartbeats 400000 in
theorem sameIntsC (v1 v2 : Value) (L : List Int) (w : World) (h1 : Ints w v1 L) (h2 : Ints w v2 L) (hL : L.length ≤ 2000000) :
    Calls Tryz.prog 74 #[v1, v2] w (Quiet w (.bool true)) := by
  by_cases h0 : L.length = 0
  · obtain ⟨a1, c1, rfl⟩ : ∃ a c, v1 = .slice a 0 c := by
      rcases h1 with ⟨_, h⟩ | ⟨g, c, rfl, _⟩
      · exact h
      · exact ⟨_, c, by rw [h0]⟩
    obtain ⟨a2, c2, rfl⟩ : ∃ a c, v2 = .slice a 0 c := by
      rcases h2 with ⟨_, h⟩ | ⟨g, c, rfl, _⟩
      · exact h
      · exact ⟨_, c, by rw [h0]⟩
    clear h1 h2
    go_enter Tryz.func74, Tryz.ntmps74
    go_wp2
    refine wp_loop_rounds 1 ?_
    rw [rounds_succ]
    go_wp2
    go_ret
    exact ⟨rfl, 0, rfl⟩
  · obtain ⟨g1, c1, rfl, _, hc1⟩ : ∃ g c, v1 = .slice (some ⟨g, 0, none⟩) L.length c ∧ g < w.heap.size ∧ ∀ (j : Nat) x, L[j]? = some x → w.cell? ⟨g, j, none⟩ = some (.int .i64 x) := by
      rcases h1 with ⟨rfl, _⟩ | h
      · exact absurd rfl h0
      · exact h
    obtain ⟨g2, c2, rfl, _, hc2⟩ : ∃ g c, v2 = .slice (some ⟨g, 0, none⟩) L.length c ∧ g < w.heap.size ∧ ∀ (j : Nat) x, L[j]? = some x → w.cell? ⟨g, j, none⟩ = some (.int .i64 x) := by
      rcases h2 with ⟨rfl, _⟩ | h
      · exact absurd rfl h0
      · exact h
    have H1 := Lib.hid hc1
    have H2 := Lib.hid hc2
    clear hc1 hc2 h1 h2 h0
    go_enter Tryz.func74, Tryz.ntmps74
    go_wp2
    go_loopw [5] (fun i wr => ∃ k m : Nat, k ≤ L.length ∧ i = .int .i64 k ∧ wr = w.drewN m) (fun i _ => L.length - (intOf i).toNat)
    case atStart => exact ⟨0, 0, Nat.zero_le _, rfl, rfl⟩
    case round =>
      obtain ⟨k, m, hk, rfl, rfl⟩ := hrel
      by_cases hlt : k < L.length
      · obtain ⟨x, hx⟩ : ∃ x, L[k]? = some x := ⟨_, List.getElem?_eq_getElem hlt⟩
        have d1 : w.cell? ⟨g1, k, none⟩ = some (.int .i64 x) := H1.out k x hx
        have d2 : w.cell? ⟨g2, k, none⟩ = some (.int .i64 x) := H2.out k x hx
        have hlt2 : (k : Int) < (L.length : Int) := by omega
        clear hx
        go_wp2
        go_quiet (fail)
        go_wp2
        go_roundw
        case rel => exact ⟨k + 1, _, by omega, by go_num, rfl⟩
        case measure => simp [intOf]; omega
      · go_wp2
        go_ret
        exact ⟨rfl, m, rfl⟩


theorem sameWayC (v1 v2 : Value) (L : List Int) (w : World) (h1 : Ints w v1 L) (h2 : Ints w v2 L) (hL : L.length ≤ 2000000) :
    Calls Tryz.prog 35 #[.agg #[v1], .agg #[v2]] w (Made w (.bool true)) := by
  have hB := ((Below.refl w.heap.size w).alloc (Nat.le_refl _) (.cells #[v1] 51)).alloc (by simp) (.cells #[v2] 51)
  have H1 := Lib.hid (ints_on h1 hB)
  have H2 := Lib.hid (ints_on h2 hB)
  clear h1 h2
  go_enter Tryz.func35, Tryz.ntmps35
  go_wp2_with fail
  refine (sameIntsC v1 v2 L _ H1.out H2.out hL).mono ?_
  rintro e w3 ⟨rfl, m, rfl⟩
  go_wp2_with fail
  go_ret
  exact ⟨rfl, below_drewN hB m⟩

set_option maxHeartbeats 1000000 in
theorem sameWaysC (v1 v2 : Value) (Ws : List (List Int)) (w : World) (h1 : WaysAt w v1 Ws) (h2 : WaysAt w v2 Ws) (hW : Ws.length ≤ 2000000) (hL : ∀ L ∈ Ws, L.length ≤ 2000000) :
    Calls Tryz.prog 12 #[v1, v2] w (Made w (.bool true)) := by
  obtain ⟨a1, c1, rfl, H1⟩ := h1
  obtain ⟨a2, c2, rfl, H2⟩ := h2
  have HH1 := Lib.hid H1
  have HH2 := Lib.hid H2
  have HLh := Lib.hid hL
  clear H1 H2 hL
  go_enter Tryz.func12, Tryz.ntmps12
  go_wp2
  go_loopw [5] (fun i wr => ∃ k : Nat, k ≤ Ws.length ∧ i = .int .i64 k ∧ Below w.heap.size w wr) (fun i _ => Ws.length - (intOf i).toNat)
  case atStart => exact ⟨0, Nat.zero_le _, rfl, Below.refl _ _⟩
  case round =>
    obtain ⟨k, hk, rfl, hB⟩ := hrel
    by_cases hlt : k < Ws.length
    · obtain ⟨L, hx⟩ : ∃ L, Ws[k]? = some L := ⟨_, List.getElem?_eq_getElem hlt⟩
      rcases HH1.out with h0 | ⟨g1, rfl, hg1, hc1⟩
      · omega
      · rcases HH2.out with h0 | ⟨g2, rfl, hg2, hc2⟩
        · omega
        · obtain ⟨u1, p1, i1⟩ := hc1 k L hx
          obtain ⟨u2, p2, i2⟩ := hc2 k L hx
          have d0 := (hB.cell (p := ⟨g1, _, none⟩) hg1).trans p1
          have e0 := (hB.cell (p := ⟨g2, _, none⟩) hg2).trans p2
          have hlt2 : (k : Int) < (Ws.length : Int) := by omega
          have HB2 := Lib.hid hB.drew
          have I1 := Lib.hid (ints_on i1 hB.drew)
          have I2 := Lib.hid (ints_on i2 hB.drew)
          have hLk := HLh.out L (List.mem_of_getElem? hx)
          obtain ⟨b1, n1, rfl, _⟩ := ints_form i1
          obtain ⟨b2, n2, rfl, _⟩ := ints_form i2
          clear p1 p2 i1 i2 hc1 hc2 hx hB
          go_wp2_with fail
          go_still_tail 8, (by kernel_rfl)
          change wpList _ _ _ _ _ wr.drew
          go_wp2_with (go_at_call 35; (with_reducible refine (sameWayC _ _ L _ I1.out I2.out hLk).mono ?_); rintro e w' ⟨rfl, hb⟩; have HB3 := Lib.hid (HB2.out.trans (hb.mono HB2.out.size)); clear hb)
          go_roundw
          case rel => exact ⟨k + 1, by omega, by go_num, HB3.out⟩
          case measure => simp [intOf]; omega
    · obtain rfl : k = Ws.length := by omega
      go_wp2_with fail
      go_ret
      exact ⟨rfl, hB⟩


end Go.Proofs.YtkbfbifepaoojaaGreatDoor

namespace Go.Proofs.YtkbfbifepaoojaaGreatDoor
set_option maxRecDepth 4096
open Go.ChangeShapes Go.WideShapes Go.ChangeAt Go.RowKit

section
variable {H : Type} {enc : TypeId × Value → H}

/-- The argument is read again as it was, whatever a call made behind it. -/
def AgainB (enc : TypeId × Value → H) (w : World) (v : Value) (d : DataW H) (ps : List MemPlace) : Prop :=
  ∀ (w1 : World), Below w.heap.size w w1 → ∀ sp : Nat → Bool, (∀ p ∈ ps, sp p.block = true) → DataW.Trod enc Tryz.prog w1 0 sp true 22 v d ps

theorem open_arg_bytes {w : World} {r : Reach} {b0 : Nat} {v : Value} {d : DataW H} {ps : List MemPlace} (hv : Value.okWide Tryz.prog w r b0 22 v) (h : DataW.Trod enc Tryz.prog w 0 (fun _ => true) true 22 v d ps) :
    ∃ N, CodeB w v N w.heap.size ∧ N ≤ maxLen ∧ AgainB enc w v d ps := by
  obtain ⟨a0, len0, cap0, rfl⟩ := okWide_slice Tryz.underlying22 hv
  obtain ⟨fuel, hf⟩ := h
  rcases open_ints Tryz.underlying22 Tryz.underlying5 (by kernel_rfl) hf with ⟨hcs, hx⟩ | ⟨a, len, cap, zs, hcs, _, hl, hm, hz, hx, hcell, hwz⟩
  · simp [Value.cells] at hcs
    obtain ⟨rfl, rfl, rfl⟩ := hcs
    obtain ⟨rfl, rfl⟩ := Prod.mk.inj hx
    exact ⟨0, ⟨none, 0, rfl, .inl rfl⟩, Nat.zero_le _, fun w1 _ sp _ => shut_slice_nil Tryz.underlying22⟩
  · simp [Value.cells] at hcs
    obtain ⟨rfl, rfl, rfl⟩ := hcs
    obtain ⟨rfl, rfl⟩ := Prod.mk.inj hx
    simp only [if_true] at hz
    have hbl : ∀ i, (a.add i).block = a.block := fun i => by unfold Addr.add; split <;> rfl
    have hlt : ∀ i, i < zs.length → a.block < w.heap.size := fun i hi => by have := block_lt_of_cell (hcell i hi); rwa [hbl] at this
    refine ⟨len0, ⟨some a, cap0, rfl, ?_⟩, by omega, fun w1 hb sp hsp => ?_⟩
    · by_cases h0 : len0 = 0
      · exact .inl h0
      · refine .inr ⟨a, rfl, hlt 0 (by omega), hlt 0 (by omega), fun j hj => ⟨_, ?_, ?_, hcell j (by omega)⟩⟩
        all_goals
          have hb := range_u8 hwz j
          rw [List.getD_eq_getElem?_getD]
          omega
    · by_cases hc0 : cap0 = 0
      · exact ⟨2, shut_ints 0 Tryz.underlying22 Tryz.underlying5 (by kernel_rfl) (Nat.zero_le _) hl hm (by split <;> omega) (fun i hi => by omega) hwz⟩
      · have hs : sp a.block = true := by
          have hin : MemPlace.cell a.block a.off ∈ MemPlace.row a zs.length := MemPlace.mem_row.2 ⟨0, by omega, rfl⟩
          exact hsp _ hin
        exact ⟨2, shut_ints 0 Tryz.underlying22 Tryz.underlying5 (by kernel_rfl) (Nat.zero_le _) hl hm (by rw [if_pos hs]; exact hz) (fun i hi => (hb.cell (p := a.add i) (by rw [hbl]; exact hlt i hi)).trans (hcell i hi)) hwz⟩
end

end Go.Proofs.YtkbfbifepaoojaaGreatDoor

