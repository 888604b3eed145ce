/-
  CONTRACT of the program's ReachedBy. No law is proved here.
-/
import Derived.Test.YtghhlojjjjnogaaResR
namespace Go.Proofs.Ytghhlojjjjnogaa
set_option maxRecDepth 4096
open Go.ChangeShapes Go.WideShapes Go.ChangeAt Go.RowKit

theorem implReached (N : Int) (A : List ArcD) (F : List Int) (v vf : Value) (m : Nat) (HM : Hid (reachedN N A F = m)) (w : World) (hAl : A.length ≤ 2000000) (hFl : F.length ≤ 2000000) (hv : Arcs w v A) (hf : Ints w vf F) :
    Calls Try.prog 13 #[.agg #[.int .i64 N, v], vf] w (BoolsBack w (reachedB A F) m) := by
  have hB := Below.refl (w.alloc (.cells #[.int .i64 N, v] 26)).heap.size (w.alloc (.cells #[.int .i64 N, v] 26))
  obtain ⟨c0, c1⟩ := net_cells hB
  have HVV := Lib.hid hv
  have HFF := Lib.hid hf
  clear hv hf
  cases hk : flowOkV N A F with
  | false =>
    have HK := Lib.hid hk
    have e : m = 0 := by rw [← HM.out]; exact if_neg (by rw [hk]; simp)
    subst e
    clear hk
    go_enter Try.func13, Try.ntmps13
    go_wp2_with fail
    refine (implFlowOk N A F v vf false hAl hFl HK _ (arcs_on HVV.out (below_box hB)) (ints_on HFF.out (below_box hB))).mono ?_
    rintro e w1 ⟨rfl, hb⟩
    replace hB := next_below hB hb
    clear hb c0 c1
    go_wp2_with fail
    go_ret
    exact ⟨_, rfl, World.ownsRow_nil _ _ _ _, below_box hB⟩
  | true =>
    have HK := Lib.hid hk
    have e : N.toNat = m := by rw [← HM.out]; exact (if_pos hk).symm
    obtain ⟨n, rfl, h2, h15, hok, hA, hF, hP⟩ := flow_facts hk
    rw [Int.toNat_natCast] at e
    subst e
    have HOK := Lib.hid hok
    have HP := Lib.hid hP
    have HL := Lib.hid hF
    clear hk hok hP hF
    go_enter Try.func13, Try.ntmps13
    go_wp2_with fail
    refine (implFlowOk n A F v vf true hAl hFl HK _ (arcs_on HVV.out (below_box hB)) (ints_on HFF.out (below_box hB))).mono ?_
    rintro e w1 ⟨rfl, hb⟩
    replace hB := next_below hB hb
    obtain ⟨c0, c1⟩ := net_cells hB
    clear hb
    go_wp2_with fail
    refine (implResidual n A F v vf h15 HOK.out hA HL.out HP.out _ (arcs_on HVV.out (below_box hB)) (ints_on HFF.out (below_box hB))).mono ?_
    rintro e w2 ⟨G, S, X, rfl, hRN, hb⟩
    replace hB := next_below hB hb
    have HR := Lib.hid (hRN.rg HL.out HOK.out)
    clear hb c0 c1 hRN
    go_wp2_with fail
    refine (implFound n A F _ G S _ (netOk_of HK.out) hA HL.out _ HR.out).mono ?_
    rintro e w3 ⟨vr, rfl, hown, hb⟩
    have hbs := hB.size
    rw [World.size_alloc] at hbs
    replace hB := next_below hB hb
    have HO := Lib.hid (own_base hown (by omega : w.heap.size ≤ _))
    clear hb hown
    go_wp2_with fail
    go_ret
    exact ⟨_, rfl, HO.out, below_box hB⟩

end Go.Proofs.Ytghhlojjjjnogaa
