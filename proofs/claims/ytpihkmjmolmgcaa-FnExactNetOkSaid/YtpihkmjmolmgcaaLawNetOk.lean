/-
  THE LAW FnExactNetOk: at every net the program's NetOk answers as its model and leaves its argument alone. No condition.
-/
import Derived.Test.YtpihkmjmolmgcaaNetI
import Derived.Test.YtpihkmjmolmgcaaSpecNet
import Derived.Test.YtpihkmjmolmgcaaNetEq
import Derived.Test.YtpihkmjmolmgcaaArgNet
import Derived.Deep.RegionHeld3
namespace Go.Proofs.Ytpihkmjmolmgcaa.fnExactNetOk
set_option maxRecDepth 4096
open Go.ChangeShapes Go.WideShapes Go.ChangeAt Go.RowKit Go.Joins

theorem walk (N : Int) (u : Value) (A : List ArcD) (w : World) (hv : ArgA w u A) (hA : A.length ≤ maxLen) :
    Calls Try.prog 4 #[.agg #[.int .i64 N, u]] w fun e w' => e = .returned (.bool true) ∧ Below w.heap.size w w' := by
  have hA' : A.length ≤ 9223372036854775807 := by unfold maxLen at hA; omega
  have hB := Below.refl (w.alloc (.cells #[.int .i64 N, u] 38)).heap.size (w.alloc (.cells #[.int .i64 N, u] 38))
  obtain ⟨c0, c1⟩ := net_cells hB
  have HV := Lib.hid hv
  clear hv
  by_cases h : A.length ≤ 1048576
  · obtain ⟨b, HB⟩ : ∃ b, Hid (netOkV N A = b) := ⟨_, rfl⟩
    have h0 : ¬ (1048576 - (A.length : Int)) < 0 := by omega
    go_enter Try.func4, Try.ntmps4
    go_wp2_with fail
    refine (szNet_yes N u A h _ (argA_below HV.out (below_box hB))).mono ?_
    rintro e w1 ⟨rfl, hb⟩
    replace hB := next_below hB hb
    obtain ⟨c0, c1⟩ := net_cells hB
    clear hb
    go_wp2_with fail
    refine (toNet N u A _ (argA_below HV.out (below_box hB)) (by omega)).mono ?_
    rintro e w2 ⟨v1, rfl, hown, hb⟩
    replace hB := next_below hB hb
    clear hb c0 c1
    go_wp2_with fail
    refine (specNetOk N A v1 b HB _ hA' (arcs_of_own hown)).mono ?_
    rintro e w3 ⟨rfl, hb⟩
    replace hB := next_below hB hb
    obtain ⟨c0, c1⟩ := net_cells hB
    clear hb hown
    go_wp2_with fail
    refine (toNet N u A _ (argA_below HV.out (below_box hB)) (by omega)).mono ?_
    rintro e w4 ⟨v2, rfl, hown, hb⟩
    have hB4 := next_below hB hb
    clear hb c0 c1
    obtain ⟨a2, k2, rfl⟩ := own_form hown
    go_wp2_with fail
    have hB4a := hB4.alloc hB4.size (.cells #[.int .i64 N, .slice a2 A.length k2] 26)
    have hn4 := Lib.hid (keep_new hB4 hown (Nat.le_trans (by simp) hB.size))
    clear hB hB4
    refine (implNetOk N A _ b HB _ (by omega) (arcs_on (arcs_of_own hown) ((Below.refl _ _).alloc (Nat.le_refl _) _))).mono ?_
    rintro e w5 ⟨rfl, hb⟩
    have hn := hn4.out.on hb
    have HN := Lib.hid hn.drew
    obtain ⟨c0, c1⟩ := net_cells hn.below
    have c2 := hn.c2
    have c3 := hn.c3
    clear hb hn4 hown hB4a hn
    cases b
    all_goals
      go_wp2_with fail
      go_region_held3 (fun w' => w'.cell? ⟨w.heap.size, 0, none⟩ = some (.int .i64 N) ∧ w'.cell? ⟨w.heap.size, 1, none⟩ = some u ∧ w'.cell? ⟨w4.heap.size, 0, none⟩ = some (.int .i64 N) ∧ w'.cell? ⟨w4.heap.size, 1, none⟩ = some (.slice a2 A.length k2) ∧ Keep w w4.heap.size N u (.slice a2 A.length k2) A w')
        (first | exact hS | exact ⟨c0, c1, c2, c3, HN.out⟩ | go_keep)
        (first
          | (go_at_call 22; (try go_split_ands); have hK : Keep w w4.heap.size N u (.slice a2 A.length k2) A _ := (by assumption); (with_reducible refine (toNet N u A _ (argA_below HV.out (below_box hK.below)) (by omega)).mono ?_); rintro e w6 ⟨v6, rfl, hown6, hb⟩; (try go_split_ands); have hS := Keep.held hK hb; have hv6 := arcs_of_own hown6; have hv2 := arcs_of_own (hS.2.2.2.2).own; clear hb hown6)
          | (go_at_call 24; (try go_split_ands); have hK : Keep w w4.heap.size N u (.slice a2 A.length k2) A _ := (by assumption); (with_reducible refine (eqNet N _ _ A _ (by assumption) (by assumption) (by omega)).mono ?_); rintro e w7 ⟨rfl, hb⟩; (try go_split_ands); have hS := Keep.held hK hb; clear hb))
      have HK7 := Lib.hid hS.2.2.2.2
      clear hS
      go_wp2_with fail
      go_ret
      exact ⟨rfl, below_box HK7.out.below⟩
  · have h0 : (1048576 - (A.length : Int)) < 0 := by omega
    go_enter Try.func4, Try.ntmps4
    go_wp2_with fail
    refine (szNet_no N u A hA' h _ (argA_below HV.out (below_box hB))).mono ?_
    rintro e w1 ⟨rfl, hb⟩
    replace hB := next_below hB hb
    clear hb c0 c1
    go_wp2_with fail
    go_ret
    exact ⟨rfl, below_box hB⟩
-- LIFT
set_option maxRecDepth 100000 in
theorem lifted (os : Os) (started : os.Started) (H : Type) (enc : TypeId × Value → H) :
    ReturnsInHanded {} Try.checked os 4 .any (Rows.fnExactNetOkSpec.pre6 enc Try.prog Try.f4 Rows.fnExactNetOkRow.domain false) (Rows.fnExactNetOkSpec.post enc Try.prog Try.f4 false true false false) := by
  refine returnsInHanded_of_change (C := Try.checked) own started (by kernel_rfl) Try.func4
    (ChangeSpec.witness6 (enc := enc) (C := Try.checked) false ⟨#[], #[.agg #[.int .i64 0, .slice none 0 0]], []⟩ 8 (by kernel_rfl) (by kernel_rfl) (by kernel_rfl) (by kernel_rfl)) ?_
  intro W base args ds gs before hval0 hW hcnd _
  have hval : ∀ (j : Nat) t v, Try.f4.params[j]? = some t → args[j]? = some v → Value.okWide Try.prog W .any base t v := hval0
  have hW' := hW
  obtain ⟨p, q, hA0, hV, rfl, hfz, hnd⟩ := hW
  have hA : DataW.TrodAll enc Try.prog W 0 (fun _ => true) true Try.f4.params.toList args.toList ds p := hA0
  rw [Try.params4] at hA hval
  obtain ⟨v0, vs0, d0, ds0, p0, q0, hargs, rfl, rfl, h0, r0⟩ := trodAll_cons hA
  obtain ⟨rfl, rfl, rfl⟩ := trodAll_nil r0
  obtain rfl : args = #[v0] := by cases args; simp_all
  obtain ⟨rfl, rfl⟩ := trodVars_none hV
  obtain ⟨N0, u0, A0, hv0, w0, l0⟩ := open_arg_net (hval 0 38 v0 rfl rfl) h0
  subst hv0
  clear hA0 hval0
  simp only [List.append_nil] at hW'
  refine (walk N0 u0 A0 W w0 l0).mono fun e W' ⟨he, hg⟩ => ?_
  subst he
  exact ⟨_, rfl, post_of_below (pa := p0 ++ ([])) (pv := []) hW' (fun _ _ _ => (trodAll_cons_mk (shut_bool Try.underlying4 _) trodAll_mk0)) (fun sp hsp => (trodAll_cons_mk (again_of (by kernel_rfl) (of_decide_eq_true (by kernel_rfl)) h0 (fun x hx => hW'.lt x (by simp [hx])) hg sp (fun p hp => hsp p (by simp [hp]))) trodAll_mk0)) (fun _ _ => rfl) (by simp)
    hg (ok_one (by kernel_rfl) rfl (okWide_bool_mk Try.underlying4 _))⟩

theorem over : Rows.fnExactNetOkRow.holds Try.pinned (OpenSpec.ofChange Rows.fnExactNetOkSpec) :=
  OpenClaim.holds_of_wide 4 Try.f4 rfl rfl rfl rfl rfl rfl rfl ⟨rfl, rfl, rfl, rfl, rfl⟩ rfl rfl rfl rfl rfl (by kernel_rfl) Try.func4 (by kernel_rfl)
    (of_decide_eq_true (by kernel_rfl)) (by unfold Func.isWrapper; first | (rw [if_pos (by decide +kernel)]; kernel_rfl) | (rw [if_neg (by decide +kernel)]; exact ⟨rfl, rfl⟩))
    (fun os started H enc _ => lifted os started H enc)

theorem proved : Rows.FnExactNetOkSaid :=
  over

end Go.Proofs.Ytpihkmjmolmgcaa.fnExactNetOk
