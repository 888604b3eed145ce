/-
  THE LAW FnExactLeastCost: at every net and size the program's LeastCost answers as its model and leaves its argument alone. No condition.
-/
import Derived.Test.YthaaadbeoedgbaaCheapsI
import Derived.Test.YthaaadbeoedgbaaSpecLeast
import Derived.Test.YthaaadbeoedgbaaNetEq
import Derived.Test.YthaaadbeoedgbaaArgNet
import Derived.Deep.RegionHeld3
namespace Go.Proofs.Ythaaadbeoedgbaa.fnExactLeastCost
set_option maxRecDepth 4096
open Go.ChangeShapes Go.WideShapes Go.ChangeAt Go.RowKit Go.Joins

set_option maxHeartbeats 4000000 in
theorem walk (N : Int) (u : Value) (A : List ArcD) (K9 : Int) (_hK : (Lit.int .i64 K9).wf = true) (w : World) (hv : ArgA w u A) (hA : A.length ≤ maxLen) :
    Calls Try.prog 5 #[.agg #[.int .i64 N, u], .int .i64 K9] w fun e w' => e = .returned (.bool true) ∧ Below w.heap.size w w' := by
  have hA' : A.length ≤ 9223372036854775807 := by unfold maxLen at hA; omega
  have hB := LSt.start w (.cells #[.int .i64 N, u] 39)
  obtain ⟨c0, c1⟩ := net_cells hB.below
  have HV := Lib.hid hv
  clear hv
  by_cases h : A.length ≤ 1048576
  · obtain ⟨z, HZ⟩ : ∃ z, Hid (leastV N A K9 = z) := ⟨_, rfl⟩
    have h0 : ¬ (1048576 - (A.length : Int)) < 0 := by omega
    have hzz : (z != z) = false := by simp
    go_enter Try.func5, Try.ntmps5
    go_wp2_with fail
    refine (szNet_yes N u A h _ (argA_below HV.out hB.base)).mono ?_
    rintro e w1 ⟨rfl, hb⟩
    replace hB := hB.on hb
    obtain ⟨c0, c1⟩ := net_cells hB.below
    clear hb
    go_wp2_with fail
    refine (toNet N u A _ (argA_below HV.out hB.base) (by omega)).mono ?_
    rintro e w3 ⟨v1, rfl, hown, hb⟩
    have ha := arcs_of_own hown
    replace hB := hB.on hb
    have s3 := hB.below.size
    clear hb hown
    go_wp2_with fail
    refine (specLeast N A K9 v1 z (by omega) HZ _ ha).mono ?_
    rintro e w4 ⟨rfl, hb⟩
    have s4 := hb.size
    replace hB := hB.on hb
    obtain ⟨c0, c1⟩ := net_cells hB.below
    clear hb ha
    go_wp2_with fail
    refine (toNet N u A _ (argA_below HV.out hB.base) (by omega)).mono ?_
    rintro e w5 ⟨v2, rfl, hown, hb⟩
    have s5 := hb.size
    obtain ⟨a2, k2, rfl⟩ := own_form hown
    replace hB := (hB.call hown hb).box (.cells #[.int .i64 N, .slice a2 A.length k2] 26)
    clear hb c0 c1 hown
    obtain ⟨_, _, c2, c3, _⟩ := held_net hB (List.mem_cons_self ..) (Below.refl _ _)
    go_wp2_with fail
    generalize hw6 : w5.alloc (.cells #[.int .i64 N, .slice a2 A.length k2] 26) = w6 at hB ⊢
    have s6 : w6.heap.size = w5.heap.size + 1 := by rw [← hw6]; exact World.size_alloc _ _
    clear hw6 c2 c3
    have rx := (hB.rows ⟨w4.heap.size, w5.heap.size, 64, 4, .slice a2 A.length k2, A.length, cellsA A⟩ (by simp)).own
    refine (implLeast N A K9 _ z (by omega) HZ _ (arcs_of_own rx)).mono ?_
    rintro e w7 ⟨rfl, hb⟩
    have s7 := hb.size
    replace hB := hB.on hb
    obtain ⟨c0, c1, c2, c3, hB8⟩ := held_net hB (List.mem_cons_self ..) (Below.refl _ _)
    have HN := Lib.hid hB8.drew
    have hzz : (z != z) = false := by simp
    clear hB hB8 hb rx
    go_wp2_with fail
    obtain ⟨K, HK⟩ : ∃ K : List (Nat × Obj), K = [(w5.heap.size, Obj.cells #[.int .i64 N, .slice a2 A.length k2] 26)] := ⟨_, rfl⟩
    obtain ⟨Q9, HQ9⟩ : ∃ Q9 : List RowD, Q9 = [⟨w4.heap.size, w5.heap.size, 64, 4, .slice a2 A.length k2, A.length, cellsA A⟩] := ⟨_, rfl⟩
    rw [← HK, ← HQ9] at HN
    have hKX : (w5.heap.size, Obj.cells #[.int .i64 N, .slice a2 A.length k2] 26) ∈ K := by rw [HK]; exact List.mem_cons_self ..
    have hRX : (⟨w4.heap.size, w5.heap.size, 64, 4, .slice a2 A.length k2, A.length, cellsA A⟩ : RowD) ∈ Q9 := by rw [HQ9]; simp
    have HHK := Lib.hid HK
    have HHR := Lib.hid HQ9
    clear HK HQ9
    go_region_held3 (fun w' => w'.cell? ⟨w.heap.size, 0, none⟩ = some (.int .i64 N) ∧ w'.cell? ⟨w.heap.size, 1, none⟩ = some u ∧ w'.cell? ⟨w5.heap.size, 0, none⟩ = some (.int .i64 N) ∧ w'.cell? ⟨w5.heap.size, 1, none⟩ = some (.slice a2 A.length k2) ∧ LSt w (.cells #[.int .i64 N, u] 39) K Q9 w')
      (first | exact hS | exact ⟨c0, c1, c2, c3, HN.out⟩ | go_keep)
      (first
        | (go_at_call 16; (try go_split_ands); have hK : LSt w (.cells #[.int .i64 N, u] 39) K Q9 _ := (by assumption); (with_reducible refine (toNet N u A _ (argA_below HV.out hK.base) (by omega)).mono ?_); rintro e w9 ⟨v9, rfl, hown9, hb⟩; (try go_split_ands); have hS := held_net hK hKX hb; have hv9 := arcs_of_own hown9; have hv2 := arcs_of_own ((hS.2.2.2.2).rows _ hRX).own; clear hb hown9)
        | (go_at_call 18; (try go_split_ands); have hK : LSt w (.cells #[.int .i64 N, u] 39) K Q9 _ := (by assumption); (with_reducible refine (eqNet N _ _ A _ (by assumption) (by assumption) (by omega)).mono ?_); rintro e wa ⟨rfl, hb⟩; (try go_split_ands); have hS := held_net hK hKX hb; clear hb))
    have hB := hS.2.2.2.2
    rw [HHK.out, HHR.out] at hB
    clear hS HHK HHR hKX hRX HN
    go_wp2_with fail
    go_ret
    exact ⟨rfl, hB.base⟩
  · have h0 : (1048576 - (A.length : Int)) < 0 := by omega
    go_enter Try.func5, Try.ntmps5
    go_wp2_with fail
    refine (szNet_no N u A hA' h _ (argA_below HV.out hB.base)).mono ?_
    rintro e w1 ⟨rfl, hb⟩
    replace hB := hB.on hb
    clear hb c0 c1
    go_wp2_with fail
    go_ret
    exact ⟨rfl, hB.base⟩
-- LIFT
set_option maxRecDepth 100000 in
theorem lifted (os : Os) (started : os.Started) (H : Type) (enc : TypeId × Value → H) :
    ReturnsInHanded {} Try.checked os 5 .any (Rows.fnExactLeastCostSpec.pre6 enc Try.prog Try.f5 Rows.fnExactLeastCostRow.domain false) (Rows.fnExactLeastCostSpec.post enc Try.prog Try.f5 false true false false) := by
  refine returnsInHanded_of_change (C := Try.checked) own started (by kernel_rfl) Try.func5
    (ChangeSpec.witness6 (enc := enc) (C := Try.checked) false ⟨#[], #[.agg #[.int .i64 0, .slice none 0 0], .int .i64 0], []⟩ 8 (by kernel_rfl) (by kernel_rfl) (by kernel_rfl) (by kernel_rfl)) ?_
  intro W base args ds gs before hval0 hW hcnd _
  have hval : ∀ (j : Nat) t v, Try.f5.params[j]? = some t → args[j]? = some v → Value.okWide Try.prog W .any base t v := hval0
  have hW' := hW
  obtain ⟨p, q, hA0, hV, rfl, hfz, hnd⟩ := hW
  have hA : DataW.TrodAll enc Try.prog W 0 (fun _ => true) true Try.f5.params.toList args.toList ds p := hA0
  rw [Try.params5] at hA hval
  obtain ⟨v0, vs0, d0, ds0, p0, q0, hargs, rfl, rfl, h0, r0⟩ := trodAll_cons hA
  obtain ⟨v1, vs1, d1, ds1, p1, q1, rfl, rfl, rfl, h1, r1⟩ := trodAll_cons r0
  obtain ⟨rfl, rfl, rfl⟩ := trodAll_nil r1
  obtain rfl : args = #[v0, v1] := by cases args; simp_all
  obtain ⟨rfl, rfl⟩ := trodVars_none hV
  obtain ⟨N0, u0, A0, hv0, w0, l0⟩ := open_arg_net (hval 0 39 v0 rfl rfl) h0
  subst hv0
  obtain ⟨a1, rfl, rfl, rfl, w1⟩ := open_int Try.underlying3 (hval 1 3 v1 rfl rfl) h1
  clear hA0 hval0
  simp only [List.append_nil] at hW'
  refine (walk N0 u0 A0 a1 w1 W w0 l0).mono fun e W' ⟨he, hg⟩ => ?_
  subst he
  exact ⟨_, rfl, post_of_below (pa := p0 ++ (([] : List MemPlace) ++ ([]))) (pv := []) hW' (fun _ _ _ => (trodAll_cons_mk (shut_bool Try.underlying4 _) trodAll_mk0)) (fun sp hsp => (trodAll_cons_mk (again_of (by kernel_rfl) (of_decide_eq_true (by kernel_rfl)) h0 (fun x hx => hW'.lt x (by simp [hx])) hg sp (fun p hp => hsp p (by simp [hp]))) (trodAll_cons_mk (shut_int Try.underlying3 w1) trodAll_mk0))) (fun _ _ => rfl) (by simp)
    hg (ok_one (by kernel_rfl) rfl (okWide_bool_mk Try.underlying4 _))⟩

theorem over : Rows.fnExactLeastCostRow.holds Try.pinned (OpenSpec.ofChange Rows.fnExactLeastCostSpec) :=
  OpenClaim.holds_of_wide 5 Try.f5 rfl rfl rfl rfl rfl rfl rfl ⟨rfl, rfl, rfl, rfl, rfl⟩ rfl rfl rfl rfl rfl (by kernel_rfl) Try.func5 (by kernel_rfl)
    (of_decide_eq_true (by kernel_rfl)) (by unfold Func.isWrapper; first | (rw [if_pos (by decide +kernel)]; kernel_rfl) | (rw [if_neg (by decide +kernel)]; exact ⟨rfl, rfl⟩))
    (fun os started H enc _ => lifted os started H enc)

theorem proved : Rows.FnExactLeastCostSaid :=
  over

end Go.Proofs.Ythaaadbeoedgbaa.fnExactLeastCost
