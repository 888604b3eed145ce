/-
  CONTRACT of spec.l13Stand. No law is proved here.
-/
import Derived.Test.YtkndlpcpkfgneaaSpecOnce
import Derived.Test.YtkndlpcpkfgneaaLevelI
namespace Go.Proofs.Ytkndlpcpkfgneaa
set_option maxRecDepth 4096
open Go.ChangeShapes Go.WideShapes Go.ChangeAt Go.RowKit

set_option maxHeartbeats 2000000 in
theorem specStand (v : Value) (Ws : List (List Int)) (t : Nat) (M : List Int) (hW : Ws.length ≤ 2000000) (hlev : ∀ (i : Nat) L, Ws[i]? = some L → t < L.length ∧ L.length ≤ 2000000) (HM : Hid (colL Ws t = M)) (w : World) (hv : WaysAt w v Ws) :
    Calls Try.prog 32 #[v, .int .i64 (t : Int)] w (IntsBack w (onceL M)) := by
  obtain ⟨i0, hif, hz0, hz1, hz2⟩ := info_parts Try.info3
  have HVV := Lib.hid hv
  have HLV := Lib.hid hlev
  have HML : Hid (M.length = Ws.length) := Lib.hid (by rw [← HM.out]; exact col_len)
  have HO0 := Lib.hid (own_made0 w 3)
  have HB0 := Lib.hid ((Below.refl w.heap.size w).alloc (Nat.le_refl _) (.cells #[] 3))
  obtain ⟨av, cv, rfl, _⟩ := hv
  clear hlev
  go_enter Try.func32, Try.ntmps32
  go_wp2_with fail
  go_loopw [5, 6] (fun s i wr => ∃ k : Nat, k ≤ Ws.length ∧ i = .int .i64 k ∧ wr.ownsRow w.heap.size 3 1 s k ((M.take k).map (Value.int .i64)) ∧ Below w.heap.size w wr) (fun _ i _ => Ws.length - (intOf i).toNat)
  case atStart => exact ⟨0, Nat.zero_le _, rfl, HO0.out, HB0.out⟩
  case round =>
    obtain ⟨k, hk, rfl, hown, hbe⟩ := hrel
    have HO := Lib.hid hown
    have HB := Lib.hid hbe
    clear hown hbe
    by_cases hlt : k < Ws.length
    · have hlt2 : (k : Int) < (Ws.length : Int) := by omega
      obtain ⟨L, hx⟩ : ∃ L, Ws[k]? = some L := ⟨_, List.getElem?_eq_getElem hlt⟩
      obtain ⟨hlt3, hl2⟩ := HLV.out k L hx
      obtain ⟨g, au, c, e, hg, u, bu, rfl, d1, hI⟩ := way_at (waysAt_on HVV.out HB.out) hx
      injection e with e1 e2 e3
      subst e1 e3
      obtain ⟨x, hxx⟩ : ∃ x, L[t]? = some x := ⟨_, List.getElem?_eq_getElem hlt3⟩
      have hMx : M[k]? = some x := by rw [← HM.out]; exact col_at hx hxx
      have HTK : Hid (M.take (k + 1) = M.take k ++ [x]) := Lib.hid (by
        obtain ⟨h1, h2⟩ := List.getElem?_eq_some_iff.1 hMx
        rw [List.take_succ_eq_append_getElem h1, h2])
      rcases ints_form hI with ⟨_, _, e, HI⟩
      injection e with e1 _ e3
      subst e1 e3
      rcases HI with h0 | ⟨q, rfl, hq, hqc⟩
      · omega
      have d2 := hqc t x hxx
      have htI : (t : Int) < (L.length : Int) := by omega
      clear hx hqc hxx hMx e2 hI
      go_wp2_with (at_builtin; refine wpList_append_own _ rfl _ _ 34 rfl w.heap.size 3 i0 (.int .i64 0) 1 8 Try.underlying34 hif hz0 hz1 hz2 rfl (by decide) _ _ _ rfl (HO.out.alloc _) ⟨_, 0, none⟩ 1 1 ([x].map (Value.int .i64)) rfl rfl (int_new _ _ _) (ints_one _) (by unfold maxLen; omega) (by omega) (by rw [World.size_alloc]; have := HB.out.size; omega) ?_; intro v' w6 hown6 hgrow _; have HB6 := Lib.hid ((HB.out.alloc HB.out.size _).grown hgrow (by rw [World.size_alloc]; exact Nat.le_succ_of_le HB.out.size) (fun j hj => (HO.out.lt j hj).1)); have HO6 := Lib.hid hown6; clear hgrow hown6)
      go_roundw
      case rel => exact ⟨k + 1, by omega, by go_num, (by rw [HTK.out, List.map_append]; exact HO6.out), HB6.out⟩
      case measure => simp [intOf]; omega
    · obtain rfl : k = Ws.length := by omega
      have hnl : ¬ (Ws.length : Int) < (Ws.length : Int) := by omega
      have ho := HO.out
      rw [List.take_of_length_le (by rw [HML.out]; exact Nat.le_refl _), ← HML.out] at ho
      have HJ := Lib.hid (argJ_of ho)
      have HS := Lib.hid (specSorted M.length M (Nat.le_refl _) (by rw [HML.out]; omega) _ wr HJ.out)
      obtain ⟨aq, cq, rfl⟩ := own_form HO.out
      clear ho HJ
      go_wp2_with fail
      refine HS.out.mono ?_
      rintro e w2 ⟨v2, rfl, ho2, hb⟩
      have HB2 := Lib.hid (HB.out.trans (hb.mono HB.out.size))
      have HO2 := Lib.hid (own_base ho2 HB.out.size)
      clear hb ho2
      go_wp2_with fail
      go_ret
      exact ⟨_, rfl, HO2.out, HB2.out⟩

end Go.Proofs.Ytkndlpcpkfgneaa
