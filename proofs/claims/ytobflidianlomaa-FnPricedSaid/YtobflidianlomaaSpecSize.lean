/-
  CONTRACT of spec.FlowSize. No law is proved here.
-/
import Derived.Test.YtobflidianlomaaSpecFlow
namespace Go.Proofs.Ytobflidianlomaa
set_option maxRecDepth 4096
open Go.ChangeShapes Go.WideShapes Go.ChangeAt Go.RowKit

theorem specFlowSize (N : Int) (A : List ArcD) (F : List Int) (v vf : Value) (z : Int) (hAl : A.length ≤ 2000000) (hFl : F.length ≤ 2000000) (HZ : Hid (flowSizeV N A F = z)) (w : World) (hv : Arcs w v A) (hf : Ints w vf F) :
    Calls Try.prog 9 #[.agg #[.int .i64 N, v], vf] w (Made w (.int .i64 z)) := by
  have hB := Below.refl (w.alloc (.cells #[.int .i64 N, v] 26)).heap.size (w.alloc (.cells #[.int .i64 N, v] 26))
  obtain ⟨c0, c1⟩ := net_cells hB
  have HVV := Lib.hid hv
  have HFF := Lib.hid hf
  clear hv hf
  cases hk : flowOkV N A F with
  | false =>
    have HK := Lib.hid hk
    have e : z = -1 := by rw [← HZ.out]; exact if_neg (by rw [hk]; simp)
    subst e
    clear hk
    go_enter Try.func9, Try.ntmps9
    go_wp2_with fail
    refine (specFlowOk N A F v vf false hAl hFl HK _ (arcs_on HVV.out (below_box hB)) (ints_on HFF.out (below_box hB))).mono ?_
    rintro e w1 ⟨rfl, hb⟩
    replace hB := next_below hB hb
    clear hb c0 c1
    go_wp2_with fail
    go_ret
    exact ⟨rfl, below_box hB⟩
  | true =>
    have HK := Lib.hid hk
    obtain ⟨n, rfl, h2, h15, hok, hA, hF, hP⟩ := flow_facts hk
    have e : netO (A.zip F) 0 = z := by rw [← HZ.out]; exact (if_pos hk).symm
    have HE := Lib.hid e
    have HOK := Lib.hid hok
    have HP := Lib.hid hP
    have HL := Lib.hid hF
    obtain ⟨R, HR⟩ : ∃ R, Hid (rowO (netO (A.zip F)) n = R) := ⟨_, rfl⟩
    have hRl : R.length = n := by rw [← HR.out, rowO_len]
    clear hk e hok hP hF HZ
    go_enter Try.func9, Try.ntmps9
    go_wp2_with fail
    refine (specFlowOk n A F v vf true hAl hFl HK _ (arcs_on HVV.out (below_box hB)) (ints_on HFF.out (below_box hB))).mono ?_
    rintro e w1 ⟨rfl, hb⟩
    replace hB := next_below hB hb
    obtain ⟨c0, c1⟩ := net_cells hB
    clear hb
    go_wp2_with fail
    refine (specOut n A F R _ _ h15 HOK.out hA HL.out HP.out HR _ (arcs_on HVV.out (below_box hB)) (ints_on HFF.out (below_box hB))).mono ?_
    rintro e w5 ⟨vo, rfl, hown, hb⟩
    replace hB := next_below hB hb
    obtain ⟨ao, co, rfl, HO⟩ := ints_form (ints_of_own hown)
    have hn0 : 0 < n := by omega
    rw [hRl] at HO ⊢
    rcases HO with h0 | ⟨go, rfl, hgo, hco⟩
    · omega
    · have d0 := hco 0 z (by rw [← HR.out, rowO_at _ hn0, HE.out])
      have hn1 : (0 : Int) < (n : Int) := by omega
      clear hb hown c0 c1 hco hRl
      go_wp2_with fail
      go_ret
      exact ⟨rfl, below_box hB⟩

end Go.Proofs.Ytobflidianlomaa
