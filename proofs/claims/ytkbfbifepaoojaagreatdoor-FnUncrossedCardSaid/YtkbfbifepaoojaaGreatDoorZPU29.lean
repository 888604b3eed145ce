/-
  CONTRACT of the program's formOk. No law is proved here.
  CONTRACTS of the program's EndsOf, CellsUsed. No law is proved here.
  CONTRACT of the program's MovesOf. No law is proved here.
  CONTRACTS of the library's slices.Index and slices.Contains at ints. No law is proved here.
-/
import Derived.Test.YtkbfbifepaoojaaGreatDoorZPU03
import Derived.BigQuiet
import Derived.Deep.QuietTactic
import Derived.Test.YtkbfbifepaoojaaGreatDoorZPU21
import Derived.Test.YtkbfbifepaoojaaGreatDoorZPU17
import Derived.Test.YtkbfbifepaoojaaGreatDoorZPU00
import Derived.Test.YtkbfbifepaoojaaGreatDoorZPU01
namespace Go.Proofs.YtkbfbifepaoojaaGreatDoor
set_option maxRecDepth 4096
open Go.ChangeShapes Go.WideShapes Go.ChangeAt Go.RowKit

set_option maxHeartbeats 2000000 in
theorem implForm (vS v : Value) (S : List Int) (Ws : List (List Int)) (T : Nat) (b : Bool) (hT : T ≤ 20) (hS : S.length ≤ 2000000) (hW2 : totW Ws ≤ 2000000) (HF : Hid (formV S T Ws = b)) (w : World) (hs : Ints w vS S) (hv : WaysAt w v Ws) :
    Calls Tryz.prog 43 #[vS, .int .i64 T, v] w (Made w (.bool b)) := by
  obtain ⟨as1, cs, rfl, HS⟩ := ints_form hs
  obtain ⟨av, cv, rfl, HV⟩ := hv
  have HSh := Lib.hid HS
  have HVh := Lib.hid HV
  have HTh := Lib.hid hW2
  clear HV hW2 HS hs
  by_cases hl : Ws.length = S.length
  · have hle : ((Ws.length : Int) != (S.length : Int)) = false := by rw [bne_eq_false_iff_eq]; omega
    have HL := Lib.hid hl
    clear hl
    go_enter Tryz.func43, Tryz.ntmps43
    go_wp2
    go_loopw [16] (fun i wr => ∃ j : Nat, j ≤ Ws.length ∧ i = .int .i64 j ∧ Hid (∀ k, k < j → okI S T Ws k = true) ∧ Below w.heap.size w wr) (fun i _ => Ws.length - (intOf i).toNat)
    case atStart => exact ⟨0, Nat.zero_le _, rfl, Lib.hid fun k hk => absurd hk (by omega), Below.refl _ _⟩
    case round =>
      obtain ⟨j, hj, rfl, HK, hB⟩ := hrel
      by_cases hlt : j < Ws.length
      · have hlt2 : (j : Int) < (Ws.length : Int) := by omega
        have hltS : (j : Int) < (S.length : Int) := by have := HL.out; omega
        obtain ⟨L, hx⟩ : ∃ L, Ws[j]? = some L := ⟨_, List.getElem?_eq_getElem hlt⟩
        obtain ⟨c, hc0⟩ : ∃ c, S[j]? = some c := ⟨_, List.getElem?_eq_getElem (by omega)⟩
        rcases HVh.out with h0 | ⟨g, rfl, hg, hc⟩
        · omega
        · rcases HSh.out with h0 | ⟨gs, rfl, hgs, hcs⟩
          · omega
          · obtain ⟨u, d0, hI⟩ := hc j L hx
            have d1 := (hB.cell (p := ⟨g, j, none⟩) hg).trans d0
            have dc := (hB.cell (p := ⟨gs, j, none⟩) hgs).trans (hcs j c hc0)
            obtain ⟨au, cu, rfl, HI⟩ := ints_form hI
            have HIh := Lib.hid HI
            have hLb := totW_one hx
            have hLb2 : L.length ≤ 2000000 := by have := HTh.out; omega
            have HOK : Hid (okI S T Ws j = (decide (L.length = T + 1) && decide (L[0]? = some c))) := Lib.hid (okI_at hx hc0)
            have HBB := Lib.hid hB
            have hb1 := (Below.refl wr.heap.size wr).alloc (Nat.le_refl _) (.cells #[.slice au L.length cu] 51)
            have d2 : (wr.alloc (.cells #[.slice au L.length cu] 51)).cell? ⟨wr.heap.size, 0, none⟩ = some (.slice au L.length cu) := by
              rw [cell_of_row _ _ _ _ _ _ (heap_alloc_new wr _)]; rfl
            have HBW := Lib.hid (HBB.out.trans (hb1.mono HBB.out.size))
            have dc2 : (wr.alloc (.cells #[.slice au L.length cu] 51)).cell? ⟨gs, j, none⟩ = some (.int .i64 c) := (HBW.out.cell (p := ⟨gs, j, none⟩) hgs).trans (hcs j c hc0)
            have hwr : IntKind.i64.wrap ((T : Int) + 1) = (T : Int) + 1 := IntWalk.i64_in _ (by omega)
            have HD0 := Lib.hid hc
            clear hI HI hc hcs hx hLb d0 hB hb1 hc0
            by_cases hlen : L.length = T + 1
            · obtain ⟨x, hx⟩ : ∃ x, L[0]? = some x := ⟨_, List.getElem?_eq_getElem (by omega)⟩
              have hln : ((L.length : Int) != (T : Int) + 1) = false := by
                rw [bne_eq_false_iff_eq]; omega
              rcases HIh.out with h0 | ⟨q, rfl, hq, hqc⟩
              · omega
              · have dx := (HBW.out.cell (p := ⟨q, 0, none⟩) hq).trans (hqc 0 x hx)
                have h0L : (0 : Int) < (L.length : Int) := by omega
                have HLN := Lib.hid hlen
                have HX := Lib.hid hx
                clear hqc hx hlen
                by_cases e : x = c
                · subst e
                  have hxx : (x != x) = false := by simp
                  go_wp2
                  go_quiet (fail)
                  go_wp2
                  go_roundw
                  case rel => exact ⟨j + 1, by omega, by go_num, Lib.hid fun k hk => (by
                    rcases Nat.lt_succ_iff_lt_or_eq.1 hk with h | h
                    · exact HK.out k h
                    · rw [h, HOK.out, HX.out, HLN.out]; simp), (by first | exact HBW.out | exact below_drewN HBW.out _)⟩
                  case measure => simp [intOf]; omega
                · have hxy : (x != c) = true := by simpa using e
                  go_wp2
                  go_quiet (fail)
                  go_wp2
                  have e2 : b = false := by
                    rw [← HF.out]
                    refine form_no hlt ?_
                    rw [HOK.out, HX.out]
                    simp [e]
                  subst e2
                  go_ret
                  exact ⟨rfl, (by first | exact HBW.out | exact below_drewN HBW.out _)⟩
            · have hln : ((L.length : Int) != (T : Int) + 1) = true := by
                rw [bne_iff_ne]; omega
              have HLN := Lib.hid hlen
              clear hlen
              go_wp2
              go_quiet (fail)
              go_wp2
              have e2 : b = false := by
                rw [← HF.out]
                refine form_no hlt ?_
                rw [HOK.out, decide_eq_false HLN.out]
                rfl
              subst e2
              go_ret
              exact ⟨rfl, (by first | exact HBW.out | exact below_drewN HBW.out _)⟩
      · obtain rfl : j = Ws.length := by omega
        have hnl : ¬ (Ws.length : Int) < (Ws.length : Int) := by omega
        have e : b = true := by rw [← HF.out]; exact form_yes HL.out HK.out
        subst e
        go_wp2
        go_ret
        exact ⟨rfl, hB⟩
  · have hle : ((Ws.length : Int) != (S.length : Int)) = true := by rw [bne_iff_ne]; omega
    have e : b = false := by rw [← HF.out]; exact form_len hl
    subst e
    go_enter Tryz.func43, Tryz.ntmps43
    go_wp2
    go_ret
    exact ⟨rfl, Below.refl _ _⟩

end Go.Proofs.YtkbfbifepaoojaaGreatDoor

namespace Go.Proofs.YtkbfbifepaoojaaGreatDoor
set_option maxRecDepth 4096
open Go.ChangeShapes Go.WideShapes Go.ChangeAt Go.RowKit

theorem int_new1 (w : World) (o : Obj) (x : Int) (t : TypeId) : ∀ j u, ([x].map (Value.int .i64))[j]? = some u → ((w.alloc o).alloc (.cells #[.int .i64 x] t)).cell? ((⟨w.heap.size + 1, 0, none⟩ : Addr).add j) = some u := by
  have h := int_new (w.alloc o) x t
  rwa [World.size_alloc] at h

set_option maxHeartbeats 2000000 in
theorem implEnds (v : Value) (Ws : List (List Int)) (R : List Int) (hW : Ws.length ≤ 2000000) (hT : totW Ws ≤ 2000000) (HR : Hid (onceL (lastsL Ws) = R)) (w : World) (hv : WaysAt w v Ws) :
    Calls Tryz.prog 23 #[v] w (IntsBack w R) := by
  obtain ⟨i0, hi, hz0, hz1, hz2⟩ := info_parts Tryz.info3
  obtain ⟨av, cv, rfl, HV⟩ := hv
  have HVh := Lib.hid HV
  have HTh := Lib.hid hT
  clear HV hT
  go_enter Tryz.func23, Tryz.ntmps23
  go_wp2
  go_loopw [3, 8] (fun o i wr => ∃ j : Nat, j ≤ Ws.length ∧ i = .int .i64 j ∧ wr.ownsRow w.heap.size 3 1 o (lastsL (Ws.take j)).length ((lastsL (Ws.take j)).map (Value.int .i64)) ∧ Below w.heap.size w wr) (fun _ i _ => Ws.length - (intOf i).toNat)
  case atStart => exact ⟨0, Nat.zero_le _, rfl, World.ownsRow_nil w _ _ 1, Below.refl _ _⟩
  case round =>
    obtain ⟨j, hj, rfl, hown, hB⟩ := hrel
    have hlen : (lastsL (Ws.take j)).length ≤ 2000000 := by
      have := lasts_len (Ws.take j)
      have := totW_le Ws j
      have := HTh.out
      omega
    have HO := Lib.hid hown
    have HBB := Lib.hid hB
    obtain ⟨ao, co, rfl⟩ := own_form hown
    by_cases hlt : j < Ws.length
    · have hlt2 : (j : Int) < (Ws.length : Int) := by omega
      obtain ⟨L, hx⟩ : ∃ L, Ws[j]? = some L := ⟨_, List.getElem?_eq_getElem hlt⟩
      rcases HVh.out with h0 | ⟨g, rfl, hg, hc⟩
      · omega
      · obtain ⟨u, d0, hI⟩ := hc j L hx
        have d1 := (hB.cell (p := ⟨g, j, none⟩) hg).trans d0
        have hLb := totW_one hx
        have hLb2 : L.length ≤ 2000000 := by have := HTh.out; omega
        have HS := Lib.hid (lasts_succ hx)
        obtain ⟨au, cu, rfl, hI2⟩ := ints_form hI
        have HB7 := Lib.hid (hB.alloc hB.size (.cells #[.slice au L.length cu] 51))
        have HO7 := Lib.hid (hown.alloc (.cells #[.slice au L.length cu] 51))
        by_cases h0 : L.length = 0
        · have hn : ¬ (0 : Int) < (L.length : Int) := by omega
          have hn2 : ¬ 0 < L.length := by omega
          have HS2 : Hid (lastsL (Ws.take (j + 1)) = lastsL (Ws.take j)) := Lib.hid (by rw [HS.out, lastOf_nil h0, List.append_nil])
          clear hI hc hx hLb d0 hB hown h0 hI2
          go_wp2_with fail
          go_roundw
          case rel => exact ⟨j + 1, by omega, by go_num, by rw [HS2.out]; exact HO7.out, HB7.out⟩
          case measure => simp [intOf]; omega
        · obtain ⟨x, hx2⟩ : ∃ x, L[L.length - 1]? = some x := ⟨_, List.getElem?_eq_getElem (by omega)⟩
          rcases hI2 with h | ⟨q, rfl, hq, hqc⟩
          · exact absurd h h0
          · have d2 := (HB7.out.cell (p := ⟨q, L.length - 1, none⟩) hq).trans (hqc _ x hx2)
            have hp : (0 : Int) < (L.length : Int) := by omega
            have hp2 : L.length - 1 < L.length := by omega
            have hwk : IntKind.i64.wrap ((L.length : Int) - 1) = ((L.length - 1 : Nat) : Int) := by rw [IntWalk.i64_in _ (by omega)]; omega
            have hp3 : ((L.length - 1 : Nat) : Int) < (L.length : Int) := by omega
            have HS2 : Hid (lastsL (Ws.take (j + 1)) = lastsL (Ws.take j) ++ [x]) := Lib.hid (by rw [HS.out, lastOf_one hx2])
            clear hI hc hx hLb d0 h0 hqc hx2 hB hown
            go_wp2_with (at_builtin; refine wpList_append_own _ rfl _ _ 26 rfl w.heap.size 3 i0 (.int .i64 0) 1 8 Tryz.underlying26 hi hz0 hz1 hz2 rfl (by decide) _ _ _ rfl (HO7.out.alloc _) ⟨wr.heap.size + 1, 0, none⟩ 1 1 ([x].map (Value.int .i64)) rfl rfl (int_new1 _ _ _ _) (ints_one _) (by unfold maxLen; omega) (by omega) (by have := HBB.out.size; simp; omega) ?_; intro v' w5 hown5 hgr5 _; have hbe5 := (HB7.out.alloc HB7.out.size _).grown hgr5 (by have := HBB.out.size; simp; omega) (fun k hk => (HO.out.lt k hk).1); clear hgr5)
            have HO5 := Lib.hid (ints_push hown5 HS2.out)
            clear hown5
            go_roundw
            case rel => exact ⟨j + 1, by omega, by go_num, HO5.out, hbe5⟩
            case measure => simp [intOf]; omega
    · obtain rfl : j = Ws.length := by omega
      have ht : lastsL (Ws.take Ws.length) = lastsL Ws := by rw [List.take_length]
      rw [ht] at hlen HO ⊢
      have HC := Lib.hid (implOnce _ w.heap.size (lastsL Ws) (by omega) wr HO.out)
      rw [HR.out] at HC
      clear hB hown
      go_wp2_with fail
      refine HC.out.mono ?_
      rintro e w6 ⟨v6, rfl, hown6, hg6⟩
      have HE6 := Lib.hid hown6
      have HB6 := Lib.hid (HBB.out.grown hg6 HBB.out.size (fun k hk => (HO.out.lt k hk).1))
      clear hown6 hg6
      go_wp2_with fail
      go_ret
      exact ⟨_, rfl, HE6.out, HB6.out⟩

end Go.Proofs.YtkbfbifepaoojaaGreatDoor

namespace Go.Proofs.YtkbfbifepaoojaaGreatDoor
set_option maxRecDepth 4096
open Go.ChangeShapes Go.WideShapes Go.ChangeAt Go.RowKit

set_option maxHeartbeats 2000000 in
theorem implMoves (v : Value) (Ws : List (List Int)) (n : Nat) (hW : Ws.length ≤ 2000000) (hT : totW Ws ≤ 2000000) (HN : Hid (movesW Ws = n)) (w : World) (hv : WaysAt w v Ws) :
    Calls Tryz.prog 14 #[v] w (Made w (.int .i64 n)) := by
  obtain ⟨av, cv, rfl, HV⟩ := hv
  have HVh := Lib.hid HV
  have HTh := Lib.hid hT
  clear HV hT
  go_enter Tryz.func14, Tryz.ntmps14
  go_wp2
  go_loopw [3, 9] (fun a i wr => ∃ j : Nat, j ≤ Ws.length ∧ a = .int .i64 ((movesW (Ws.take j) : Nat) : Int) ∧ i = .int .i64 j ∧ Below w.heap.size w wr) (fun _ i _ => Ws.length - (intOf i).toNat)
  case atStart => exact ⟨0, Nat.zero_le _, rfl, rfl, Below.refl _ _⟩
  case round =>
    obtain ⟨j, hj, rfl, rfl, hB⟩ := hrel
    by_cases hlt : j < Ws.length
    · have hlt2 : (j : Int) < (Ws.length : Int) := by omega
      obtain ⟨L, hx⟩ : ∃ L, Ws[j]? = some L := ⟨_, List.getElem?_eq_getElem hlt⟩
      rcases HVh.out with h0 | ⟨g, rfl, hg, hc⟩
      · omega
      · obtain ⟨u, d0, hI⟩ := hc j L hx
        have d1 := (hB.cell (p := ⟨g, j, none⟩) hg).trans d0
        obtain ⟨au, cu, rfl, HI⟩ := ints_form hI
        have HIh := Lib.hid HI
        have hLb := totW_one hx
        have hmb : movesW (Ws.take j) ≤ 2000000 := by
          have h1 := movesW_le (Ws.take j)
          have h2 := totW_le Ws j
          have := HTh.out
          omega
        have hLb2 : L.length ≤ 2000000 := by have := HTh.out; omega
        have HMS := Lib.hid (movesW_succ hx)
        obtain ⟨M, HM⟩ : ∃ M, Hid (movesW (Ws.take j) = M) := ⟨_, rfl⟩
        rw [HM.out] at hmb HMS ⊢
        have HBB := Lib.hid hB
        clear hI HI hc hx hLb d0 hB
        go_wp2
        have hb1 := (Below.refl wr.heap.size wr).alloc (Nat.le_refl _) (.cells #[.slice au L.length cu] 51)
        have d2 : (wr.alloc (.cells #[.slice au L.length cu] 51)).cell? ⟨wr.heap.size, 0, none⟩ = some (.slice au L.length cu) := by
          rw [cell_of_row _ _ _ _ _ _ (heap_alloc_new wr _)]; rfl
        have HBW := Lib.hid (HBB.out.trans (hb1.mono HBB.out.size))
        generalize wr.alloc (.cells #[.slice au L.length cu] 51) = w5 at *
        clear hb1
        go_loopw [3, 6] (fun a t w6 => ∃ k p : Nat, 1 ≤ k ∧ k ≤ L.length + 1 ∧ a = .int .i64 ((M + moveN L k : Nat) : Int) ∧ t = .int .i64 k ∧ (k ≤ L.length ∨ moveN L k = moveN L L.length) ∧ w6 = w5.drewN p) (fun _ t _ => L.length + 1 - (intOf t).toNat)
        case atStart => exact ⟨1, 0, Nat.le_refl _, by omega, by rw [moveN_one]; rfl, rfl, by
          by_cases h : L.length = 0
          · right; rw [h]; rfl
          · left; omega, rfl⟩
        case round =>
          obtain ⟨k, p, hk1, hk, rfl, rfl, hor, rfl⟩ := hrel
          by_cases hl2 : k < L.length
          · have hl3 : (k : Int) < (L.length : Int) := by omega
            obtain ⟨x, hx⟩ : ∃ x, L[k]? = some x := ⟨_, List.getElem?_eq_getElem hl2⟩
            obtain ⟨y, hy⟩ : ∃ y, L[k - 1]? = some y := ⟨_, List.getElem?_eq_getElem (by omega)⟩
            rcases HIh.out with h0 | ⟨q, rfl, hq, hqc⟩
            · omega
            · have dx := (HBW.out.cell (p := ⟨q, k, none⟩) hq).trans (hqc k x hx)
              have dy := (HBW.out.cell (p := ⟨q, k - 1, none⟩) hq).trans (hqc (k - 1) y hy)
              have hsc := moveN_succ (by omega) hx hy
              have hwk : IntKind.i64.wrap ((k : Int) - 1) = ((k - 1 : Nat) : Int) := by rw [IntWalk.i64_in _ (by omega)]; omega
              have hml := moveN_le L k
              have HSC := Lib.hid hsc
              clear hx hy hqc hsc hor
              by_cases e : x = y
              · subst e
                have hxx : (x != x) = false := by simp
                go_wp2
                go_quiet (fail)
                go_wp2
                go_roundw
                case rel => exact ⟨k + 1, _, by omega, by omega, by congr 2; have := HSC.out; simp at this; omega, by go_num, .inl (by omega), rfl⟩
                case measure => simp [intOf]; omega
              · have hxy : (x != y) = true := by simpa using e
                go_wp2
                go_quiet (fail)
                go_wp2
                go_roundw
                case rel => exact ⟨k + 1, _, by omega, by omega, by have := HSC.out; rw [if_pos e] at this; go_num, by go_num, .inl (by omega), rfl⟩
                case measure => simp [intOf]; omega
          · have hkm : moveN L k = moveN L L.length := by
              rcases hor with h | h
              · have : k = L.length := by omega
                rw [this]
              · exact h
            rw [hkm]
            have HMS2 := HMS.out
            have hnl : ¬ (k : Int) < (L.length : Int) := by omega
            clear hor hkm
            go_wp2
            go_roundw
            case rel => exact ⟨j + 1, by omega, by congr 1; omega, by go_num, below_drewN HBW.out p⟩
            case measure => simp [intOf]; omega
    · obtain rfl : j = Ws.length := by omega
      rw [List.take_length, HN.out]
      go_wp2
      go_ret
      exact ⟨rfl, hB⟩

end Go.Proofs.YtkbfbifepaoojaaGreatDoor

namespace Go.Proofs.YtkbfbifepaoojaaGreatDoor
set_option maxRecDepth 4096
open Go.ChangeShapes Go.WideShapes Go.ChangeAt Go.RowKit

/-- slices.Index: the element is not among them. -/
theorem indexNo (L : List Int) (x : Int) (v : Value) (hL : L.length ≤ 2000000) (w : World) (hv : Ints w v L) (h : L.contains x = false) :
    Calls Tryz.prog 94 #[v, .int .i64 x] w fun e w' => e = .returned (.int .i64 (-1)) ∧ w = w' := by
  obtain ⟨av, cv, rfl, HV⟩ := ints_form hv
  have HVh := Lib.hid HV
  have HX : Hid (∀ (j : Nat) y, L[j]? = some y → ¬ x = y) := Lib.hid fun j y hy e => by
    have : L.contains x = true := List.contains_iff_mem.2 (by rw [e]; exact List.mem_of_getElem? hy)
    rw [h] at this
    cases this
  clear HV hv h
  go_enter Tryz.func94, Tryz.ntmps94
  go_wp2
  go_loop [8] (fun i => ∃ k : Nat, k ≤ L.length ∧ i = .int .i64 k) (fun i => L.length - (intOf i).toNat)
  case atStart => exact ⟨0, Nat.zero_le _, rfl⟩
  case round =>
    obtain ⟨k, hk, rfl⟩ := hrel
    by_cases hlt : k < L.length
    · obtain ⟨y, hy⟩ : ∃ y, L[k]? = some y := ⟨_, List.getElem?_eq_getElem hlt⟩
      rcases HVh.out with h0 | ⟨g, rfl, hgl, hc⟩
      · omega
      · have d0 := hc k y hy
        have hne := HX.out k y hy
        have hne2 : (x == y) = false := by simpa using hne
        have hlt2 : (k : Int) < (L.length : Int) := by omega
        clear hy hc hne
        go_wp2
        go_roundw
        case rel => exact ⟨k + 1, by omega, by go_num⟩
        case measure => simp [intOf]; omega
    · go_wp2
      go_ret
      exact ⟨rfl, rfl⟩
theorem indexYes (L : List Int) (x : Int) (v : Value) (hL : L.length ≤ 2000000) (w : World) (hv : Ints w v L) (h : L.contains x = true) :
    Calls Tryz.prog 94 #[v, .int .i64 x] w fun e w' => (∃ k : Nat, e = .returned (.int .i64 k)) ∧ w = w' := by
  obtain ⟨av, cv, rfl, HV⟩ := ints_form hv
  have HVh := Lib.hid HV
  obtain ⟨m, hm, hmx⟩ := List.getElem_of_mem (List.contains_iff_mem.1 h)
  have HM : Hid (L[m]? = some x) := Lib.hid (by rw [List.getElem?_eq_getElem hm, hmx])
  clear HV hv h hmx
  go_enter Tryz.func94, Tryz.ntmps94
  go_wp2
  go_loop [8] (fun i => ∃ k : Nat, k ≤ m ∧ i = .int .i64 k) (fun i => L.length - (intOf i).toNat)
  case atStart => exact ⟨0, Nat.zero_le _, rfl⟩
  case round =>
    obtain ⟨k, hk, rfl⟩ := hrel
    have hlt : k < L.length := by omega
    obtain ⟨y, hy⟩ : ∃ y, L[k]? = some y := ⟨_, List.getElem?_eq_getElem hlt⟩
    rcases HVh.out with h0 | ⟨g, rfl, hgl, hc⟩
    · omega
    · have d0 := hc k y hy
      have hlt2 : (k : Int) < (L.length : Int) := by omega
      have HM2 : Hid (k = m → x = y) := Lib.hid fun e => by
        subst e
        rw [HM.out] at hy
        exact Option.some.inj hy
      clear hy hc
      by_cases hxy : x = y
      · have hne2 : (x == y) = true := by simpa using hxy
        go_wp2
        go_ret
        exact ⟨⟨k, rfl⟩, rfl⟩
      · have hne2 : (x == y) = false := by simpa using hxy
        have hkm : k ≠ m := fun e => hxy (HM2.out e)
        go_wp2
        go_roundw
        case rel => exact ⟨k + 1, by omega, by go_num⟩
        case measure => simp [intOf]; omega

/-- slices.Contains: among the elements? -/
theorem containsI (L : List Int) (x : Int) (v : Value) (b : Bool) (hL : L.length ≤ 2000000) (HB : Hid (L.contains x = b)) (w : World) (hv : Ints w v L) :
    Calls Tryz.prog 52 #[v, .int .i64 x] w fun e w' => e = .returned (.bool b) ∧ w = w' := by
  cases b with
  | false =>
    go_enter Tryz.func52, Tryz.ntmps52
    go_wp2_with fail
    refine (indexNo L x v hL w hv HB.out).mono ?_
    rintro e w1 ⟨rfl, rfl⟩
    go_wp2_with fail
    go_ret
    exact ⟨rfl, rfl⟩
  | true =>
    go_enter Tryz.func52, Tryz.ntmps52
    go_wp2_with fail
    refine (indexYes L x v hL w hv HB.out).mono ?_
    rintro e w1 ⟨⟨k, rfl⟩, rfl⟩
    have hk : (0 : Int) ≤ (k : Int) := by omega
    go_wp2_with fail
    go_ret
    exact ⟨rfl, rfl⟩


end Go.Proofs.YtkbfbifepaoojaaGreatDoor

