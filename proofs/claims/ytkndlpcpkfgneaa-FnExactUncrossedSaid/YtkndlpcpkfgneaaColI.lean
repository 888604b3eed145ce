/-
  CONTRACT of the program's cellsAt. No law is proved here.
-/
import Derived.Test.YtkndlpcpkfgneaaLevelI
import Derived.Test.YtkndlpcpkfgneaaOnceI
namespace Go.Proofs.Ytkndlpcpkfgneaa
set_option maxRecDepth 4096
open Go.ChangeShapes Go.WideShapes Go.ChangeAt Go.RowKit

set_option maxHeartbeats 2000000 in
theorem implColR (v : Value) (Ws : List (List Int)) (t : Nat) (M : List Int) (hW : Ws.length ≤ 2000000) (hlev : ∀ (i : Nat) L, Ws[i]? = some L → t < L.length ∧ L.length ≤ 2000000) (HM : Hid (colL Ws t = M)) (w : World) (hv : WaysAt w v Ws) :
    Calls Try.prog 34 #[v, .int .i64 (t : Int)] w (IntsBack w (onceL M)) := by
  obtain ⟨i0, hi, hz0, hz1, hz2⟩ := info_parts Try.info3
  have HVV := Lib.hid hv
  have HLV := Lib.hid hlev
  have hMl : M.length = Ws.length := by rw [← HM.out]; exact col_len
  obtain ⟨av, cv, rfl, _⟩ := hv
  have HML := Lib.hid hMl
  clear hlev hMl
  go_enter Try.func34, Try.ntmps34
  go_wp2_with (at_make; go_loud (refine wpList_make_full w rfl (.tmp 9) (.tmp 9) 34 rfl w.heap.size 3 i0 (.int .i64 0) 1 Try.underlying34 hi hz0 hz1 .i64 .i64 (Ws.length : Int) (Ws.length : Int) Ws.length rfl rfl rfl rfl (by rw [hz2]; omega) (by unfold maxLen; omega) (Nat.le_refl _) ?_); intro w1 hown0 hgrow0; have HO0 := Lib.hid hown0; have HG0 := Lib.hid hgrow0; clear hown0 hgrow0)
  have hown0 := HO0.out
  have hgrow0 := HG0.out
  clear HO0 HG0
  generalize (madeCells (Value.int .i64 0).cells (Ws.length * 1)).toList = xs at hown0
  have hxl : xs.length = Ws.length := by have := hown0.1; omega
  have hb0 := (Below.refl w.heap.size w).grown hgrow0 (Nat.le_refl _) (by simp)
  clear hgrow0
  go_loopw [13] (fun i wr => ∃ k : Nat, k ≤ Ws.length ∧ i = .int .i64 k ∧ wr.ownsRow w.heap.size 3 1 (.slice (some ⟨w.heap.size, 0, none⟩) Ws.length Ws.length) Ws.length ((M.take k).map (Value.int .i64) ++ xs.drop k) ∧ Below w.heap.size w wr) (fun i _ => Ws.length - (intOf i).toNat)
  case atStart => exact ⟨0, Nat.zero_le _, rfl, by simpa using hown0, hb0⟩
  case round =>
    clear hown0 hb0
    obtain ⟨k, hk, rfl, hown, hbe⟩ := hrel
    by_cases hlt : k < Ws.length
    · have hlt2 : (k : Int) < (Ws.length : Int) := by omega
      obtain ⟨L, hx⟩ : ∃ L, Ws[k]? = some L := ⟨_, List.getElem?_eq_getElem hlt⟩
      obtain ⟨hlt3, hl2⟩ := HLV.out k L hx
      obtain ⟨g, au, c, e, hg, u, bu, rfl, d1, hI⟩ := way_at HVV.out hx
      injection e with e1 e2 e3
      subst e1 e3
      obtain ⟨x, hxx⟩ : ∃ x, L[t]? = some x := ⟨_, List.getElem?_eq_getElem hlt3⟩
      have HST := Lib.hid (ints_set_at M k x xs (by rw [← HM.out]; exact col_at hx hxx) (by omega))
      replace d1 := (hbe.cell (p := ⟨g, k, none⟩) hg).trans d1
      rcases ints_form hI with ⟨au2, cu2, e, HI⟩
      injection e with e1 e2 e3
      subst e1
      rcases HI with h0 | ⟨q, rfl, hq, hqc⟩
      · omega
      · have hb1 := (Below.refl wr.heap.size wr).alloc (Nat.le_refl _) (.cells #[.slice (some ⟨q, 0, none⟩) L.length bu] 39)
        have HBW := Lib.hid (hbe.trans (hb1.mono hbe.size))
        have d2 : (wr.alloc (.cells #[.slice (some ⟨q, 0, none⟩) L.length bu] 39)).cell? ⟨wr.heap.size, 0, none⟩ = some (.slice (some ⟨q, 0, none⟩) L.length bu) := by
          rw [cell_of_row _ _ _ _ _ _ (heap_alloc_new wr _)]; rfl
        have d3 : (wr.alloc (.cells #[.slice (some ⟨q, 0, none⟩) L.length bu] 39)).cell? ⟨q, t, none⟩ = some (.int .i64 x) := (HBW.out.cell (p := ⟨q, t, none⟩) hq).trans (hqc t x hxx)
        have hlt4 : (t : Int) < (L.length : Int) := by omega
        have ho2 := hown.alloc (.cells #[.slice (some ⟨q, 0, none⟩) L.length bu] 39)
        obtain ⟨u, d4⟩ := own_cell ho2 hlt
        have d5 := ho2.frozenAt k
        have HO2 := Lib.hid ho2
        clear hx hqc hxx e2 e3 hown hbe hb1 ho2
        go_wp2
        go_roundw
        case rel => exact ⟨k + 1, by omega, by go_num, by rw [← HST.out]; exact (HO2.out.stored k _).1, HBW.out.setCell (Nat.le_refl _) _⟩
        case measure => simp [intOf]; omega
    · obtain rfl : k = Ws.length := by omega
      have hnl : ¬ (Ws.length : Int) < (Ws.length : Int) := by omega
      have ho : wr.ownsRow w.heap.size 3 1 (.slice (some ⟨w.heap.size, 0, none⟩) Ws.length Ws.length) M.length (M.map (Value.int .i64)) := by
        rw [List.take_of_length_le (by rw [HML.out]; exact Nat.le_refl _), List.drop_of_length_le (by omega), List.append_nil] at hown
        rw [HML.out]
        exact hown
      have HC := Lib.hid (implOnce _ w.heap.size M (by rw [HML.out]; omega) wr ho)
      have HBE := Lib.hid hbe
      clear hown hbe ho
      go_wp2_with fail
      refine HC.out.mono ?_
      rintro e w2 ⟨v2, rfl, ho2, hg2⟩
      obtain ⟨a2, c2, rfl⟩ := own_form ho2
      have hb2 := HBE.out.grown hg2 HBE.out.size (fun j hj => by cases hj; exact Nat.le_refl _)
      go_wp2_with fail
      go_ret
      exact ⟨_, rfl, ho2, hb2⟩
theorem implCol (v : Value) (Ws : List (List Int)) (t : Nat) (M : List Int) (hW : Ws.length ≤ 2000000) (hlev : ∀ (i : Nat) L, Ws[i]? = some L → t < L.length ∧ L.length ≤ 2000000) (HM : Hid (colL Ws t = M)) (w : World) (hv : WaysAt w v Ws) :
    Calls Try.prog 34 #[v, .int .i64 (t : Int)] w fun e w' => ∃ a c, e = .returned (.slice a (onceL M).length c) ∧ Below w.heap.size w w' := by
  refine (implColR v Ws t M hW hlev HM w hv).mono ?_
  rintro e w' ⟨u, rfl, ho, hb⟩
  obtain ⟨a, c, rfl⟩ := own_form ho
  exact ⟨a, c, rfl, hb⟩

end Go.Proofs.Ytkndlpcpkfgneaa
