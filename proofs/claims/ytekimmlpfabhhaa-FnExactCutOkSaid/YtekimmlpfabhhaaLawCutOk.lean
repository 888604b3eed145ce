/-
  THE LAW FnExactCutOk: at every net and list of Booleans the program's CutOk answers as its model and leaves its arguments alone. No condition.
-/
import Derived.Test.YtekimmlpfabhhaaCutI
import Derived.Test.YtekimmlpfabhhaaSpecCut
import Derived.Test.YtekimmlpfabhhaaNetEq
import Derived.Test.YtekimmlpfabhhaaArgNet
import Derived.Test.YtekimmlpfabhhaaArgBools
import Derived.Deep.RegionHeld3
namespace Go.Proofs.Ytekimmlpfabhhaa.fnExactCutOk
set_option maxRecDepth 4096
open Go.ChangeShapes Go.WideShapes Go.ChangeAt Go.RowKit Go.Joins

set_option maxHeartbeats 1000000 in
theorem walk (N : Int) (u : Value) (A : List ArcD) (v : Value) (o : Nat → Bool) (m : Nat) (w : World) (hv : ArgA w u A) (hA : A.length ≤ maxLen) (hf : ArgBl w v o m) (hF : m ≤ maxLen) :
    Calls Try.prog 4 #[.agg #[.int .i64 N, u], v] w fun e w' => e = .returned (.bool true) ∧ Below w.heap.size w w' := by
  have hA' : A.length ≤ 9223372036854775807 := by unfold maxLen at hA; omega
  have hF' : m ≤ 9223372036854775807 := by unfold maxLen at hF; omega
  have hB := Below.refl (w.alloc (.cells #[.int .i64 N, u] 24)).heap.size (w.alloc (.cells #[.int .i64 N, u] 24))
  obtain ⟨c0, c1⟩ := net_cells hB
  have HV := Lib.hid hv
  obtain ⟨av, cv, rfl, HFv⟩ := hf
  have HF := Lib.hid (show ArgBl w (.slice av m cv) o m from ⟨av, cv, rfl, HFv⟩)
  clear hv HFv
  by_cases hl : m ≤ 1048576
  · have hl0 : ¬ (1048576 : Int) < (m : Int) := by omega
    by_cases h : A.length ≤ 1048576
    · obtain ⟨b, HB⟩ : ∃ b, Hid (cutOkV N A o m = b) := ⟨_, rfl⟩
      have h0 : ¬ (1048576 - (A.length : Int)) < 0 := by omega
      go_enter Try.func4, Try.ntmps4
      go_wp2_with fail
      refine (szNet_yes N u A h _ (argA_below HV.out (below_box hB))).mono ?_
      rintro e w1 ⟨rfl, hb⟩
      replace hB := next_below hB hb
      obtain ⟨c0, c1⟩ := net_cells hB
      clear hb
      go_wp2_with fail
      refine (toNet N u A _ (argA_below HV.out (below_box hB)) (by omega)).mono ?_
      rintro e w2 ⟨v1, rfl, hown, hb⟩
      have hs2 := hb.size
      replace hB := next_below hB hb
      clear hb c0 c1
      go_wp2_with fail
      refine (toBools _ o m _ (argBl_below HF.out (below_box hB)) (by omega)).mono ?_
      rintro e w3 ⟨f1, rfl, hownf, hb⟩
      have ha := arcs_on (arcs_of_own hown) hb
      replace hB := next_below hB hb
      clear hb hown
      go_wp2_with fail
      refine (specCutOk N A o m v1 f1 b (by omega) (by omega) HB _ ha (bools_of_own hownf)).mono ?_
      rintro e w4 ⟨rfl, hb⟩
      replace hB := next_below hB hb
      obtain ⟨c0, c1⟩ := net_cells hB
      clear hb hownf ha
      go_wp2_with fail
      refine (toNet N u A _ (argA_below HV.out (below_box hB)) (by omega)).mono ?_
      rintro e w5 ⟨v2, rfl, hown, hb⟩
      have hn5 := keep_new (next_below hB hb) hown (Nat.le_trans (by simp) hB.size)
      have HN5 := Lib.hid hn5
      have HA6 := Lib.hid (argBl_below HF.out (below_box hn5.below))
      clear hb c0 c1 hB
      obtain ⟨a2, k2, rfl⟩ := own_form hown
      clear hown hn5
      go_wp2_with fail
      refine (toBools _ o m _ HA6.out (by omega)).mono ?_
      rintro e w6 ⟨f2, rfl, hownf, hb⟩
      have hn6 := HN5.out.on hb
      have HN6 := Lib.hid hn6
      have c2 := hn6.c2
      have c3 := hn6.c3
      clear hb HN5 HA6 hn6
      go_wp2_with fail
      refine (implCutOk N A o m _ f2 b (by omega) (by omega) HB _ (arcs_of_own HN6.out.own) (bools_of_own hownf)).mono ?_
      rintro e w7 ⟨rfl, hb⟩
      have hn7 := HN6.out.on hb
      have hf7 := bools_on (bools_of_own hownf) hb
      have hbw := (below_box HN6.out.below).size
      obtain ⟨c0, c1⟩ := net_cells hn7.below
      have c4 := hn7.c2
      have c5 := hn7.c3
      have HN7 := Lib.hid (⟨hn7.drew, bools_on hf7 (Below.refl _ _).drew⟩ : Keep w w5.heap.size N u (.slice a2 A.length k2) A w7.drew ∧ Bools w7.drew f2 o m)
      clear hb HN6 hownf hn7 hf7 c2 c3
      cases b
      all_goals
        go_wp2_with fail
        go_region_held3 (fun w' => w'.cell? ⟨w.heap.size, 0, none⟩ = some (.int .i64 N) ∧ w'.cell? ⟨w.heap.size, 1, none⟩ = some u ∧ w'.cell? ⟨w5.heap.size, 0, none⟩ = some (.int .i64 N) ∧ w'.cell? ⟨w5.heap.size, 1, none⟩ = some (.slice a2 A.length k2) ∧ Keep w w5.heap.size N u (.slice a2 A.length k2) A w' ∧ Bools w' f2 o m)
          (first | exact hS | exact ⟨c0, c1, c4, c5, HN7.out.1, HN7.out.2⟩ | go_keep)
          (first
            | (go_at_call 9; (try go_split_ands); have hK : Keep w w5.heap.size N u (.slice a2 A.length k2) A _ := (by assumption); have hI : Bools _ f2 o m := (by assumption); (with_reducible refine (toNet N u A _ (argA_below HV.out (below_box hK.below)) (by omega)).mono ?_); rintro e w8 ⟨v8, rfl, hown8, hb⟩; (try go_split_ands); have hS := Keep.held2B hK hI hb; have hv8 := arcs_of_own hown8; have hv2 := arcs_of_own (hS.2.2.2.2.1).own; clear hb hown8)
            | (go_at_call 12; (try go_split_ands); have hK : Keep w w5.heap.size N u (.slice a2 A.length k2) A _ := (by assumption); have hI : Bools _ f2 o m := (by assumption); (with_reducible refine (eqNet N _ _ A _ (by assumption) (by assumption) (by omega)).mono ?_); rintro e w9 ⟨rfl, hb⟩; (try go_split_ands); have hS := Keep.held2B hK hI hb; clear hb))
        have HK := Lib.hid hS.2.2.2.2
        clear hS
        go_wp2_with fail
        refine (toBools _ o m _ (argBl_below HF.out (below_box HK.out.1.below)) (by omega)).mono ?_
        rintro e wa ⟨f3, rfl, hown3, hb⟩
        have hK := HK.out.1.on hb
        have hI := bools_on HK.out.2 hb
        clear hb
        go_wp2_with fail
        refine (eqBools _ _ o m _ hI (bools_of_own hown3) (by omega)).mono ?_
        rintro e wb ⟨rfl, mm, rfl⟩
        have HE := Lib.hid (below_drewN (below_box hK.below) mm)
        clear hK hI hown3
        go_wp2_with fail
        go_ret
        exact ⟨rfl, HE.out⟩
    · have h0 : (1048576 - (A.length : Int)) < 0 := by omega
      go_enter Try.func4, Try.ntmps4
      go_wp2_with fail
      refine (szNet_no N u A hA' h _ (argA_below HV.out (below_box hB))).mono ?_
      rintro e w1 ⟨rfl, hb⟩
      replace hB := next_below hB hb
      clear hb c0 c1
      go_wp2_with fail
      go_ret
      exact ⟨rfl, below_box hB⟩
  · have hl0 : (1048576 : Int) < (m : Int) := by omega
    go_enter Try.func4, Try.ntmps4
    go_wp2_with fail
    go_ret
    exact ⟨rfl, below_box hB⟩
-- LIFT
set_option maxRecDepth 100000 in
theorem lifted (os : Os) (started : os.Started) (H : Type) (enc : TypeId × Value → H) :
    ReturnsInHanded {} Try.checked os 4 .any (Rows.fnExactCutOkSpec.pre6 enc Try.prog Try.f4 Rows.fnExactCutOkRow.domain false) (Rows.fnExactCutOkSpec.post enc Try.prog Try.f4 false true false false) := by
  refine returnsInHanded_of_change (C := Try.checked) own started (by kernel_rfl) Try.func4
    (ChangeSpec.witness6 (enc := enc) (C := Try.checked) false ⟨#[], #[.agg #[.int .i64 0, .slice none 0 0], .slice none 0 0], []⟩ 8 (by kernel_rfl) (by kernel_rfl) (by kernel_rfl) (by kernel_rfl)) ?_
  intro W base args ds gs before hval0 hW hcnd _
  have hval : ∀ (j : Nat) t v, Try.f4.params[j]? = some t → args[j]? = some v → Value.okWide Try.prog W .any base t v := hval0
  have hW' := hW
  obtain ⟨p, q, hA0, hV, rfl, hfz, hnd⟩ := hW
  have hA : DataW.TrodAll enc Try.prog W 0 (fun _ => true) true Try.f4.params.toList args.toList ds p := hA0
  rw [Try.params4] at hA hval
  obtain ⟨v0, vs0, d0, ds0, p0, q0, hargs, rfl, rfl, h0, r0⟩ := trodAll_cons hA
  obtain ⟨v1, vs1, d1, ds1, p1, q1, rfl, rfl, rfl, h1, r1⟩ := trodAll_cons r0
  obtain ⟨rfl, rfl, rfl⟩ := trodAll_nil r1
  obtain rfl : args = #[v0, v1] := by cases args; simp_all
  obtain ⟨rfl, rfl⟩ := trodVars_none hV
  obtain ⟨N0, u0, A0, hv0, w0, l0⟩ := open_arg_net (hval 0 24 v0 rfl rfl) h0
  subst hv0
  obtain ⟨o1, m1, w1, l1⟩ := open_arg_bools (hval 1 26 v1 rfl rfl) h1
  clear hA0 hval0
  simp only [List.append_nil] at hW'
  refine (walk N0 u0 A0 v1 o1 m1 W w0 l0 w1 l1).mono fun e W' ⟨he, hg⟩ => ?_
  subst he
  exact ⟨_, rfl, post_of_below (pa := p0 ++ (p1 ++ ([]))) (pv := []) hW' (fun _ _ _ => (trodAll_cons_mk (shut_bool Try.underlying4 _) trodAll_mk0)) (fun sp hsp => (trodAll_cons_mk (again_of (by kernel_rfl) (of_decide_eq_true (by kernel_rfl)) h0 (fun x hx => hW'.lt x (by simp [hx])) hg sp (fun p hp => hsp p (by simp [hp]))) (trodAll_cons_mk (again_of (by kernel_rfl) (of_decide_eq_true (by kernel_rfl)) h1 (fun x hx => hW'.lt x (by simp [hx])) hg sp (fun p hp => hsp p (by simp [hp]))) trodAll_mk0))) (fun _ _ => rfl) (by simp)
    hg (ok_one (by kernel_rfl) rfl (okWide_bool_mk Try.underlying4 _))⟩

theorem over : Rows.fnExactCutOkRow.holds Try.pinned (OpenSpec.ofChange Rows.fnExactCutOkSpec) :=
  OpenClaim.holds_of_wide 4 Try.f4 rfl rfl rfl rfl rfl rfl rfl ⟨rfl, rfl, rfl, rfl, rfl⟩ rfl rfl rfl rfl rfl (by kernel_rfl) Try.func4 (by kernel_rfl)
    (of_decide_eq_true (by kernel_rfl)) (by unfold Func.isWrapper; first | (rw [if_pos (by decide +kernel)]; kernel_rfl) | (rw [if_neg (by decide +kernel)]; exact ⟨rfl, rfl⟩))
    (fun os started H enc _ => lifted os started H enc)

theorem proved : Rows.FnExactCutOkSaid :=
  over

end Go.Proofs.Ytekimmlpfabhhaa.fnExactCutOk
