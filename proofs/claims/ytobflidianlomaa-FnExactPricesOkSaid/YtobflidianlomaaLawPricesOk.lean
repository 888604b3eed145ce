/-
  THE LAW FnExactPricesOk: at every net and two lists the program's PricesOk answers as its model and leaves its arguments alone. No condition.
-/
import Derived.Test.YtobflidianlomaaIntsEq
import Derived.Test.YtobflidianlomaaPriceOkI
import Derived.Test.YtobflidianlomaaSpecPriceOk
import Derived.Test.YtobflidianlomaaNetEq
import Derived.Test.YtobflidianlomaaArgNet
import Derived.Test.YtobflidianlomaaArgInts
import Derived.Deep.RegionHeld3
namespace Go.Proofs.Ytobflidianlomaa.fnExactPricesOk
set_option maxRecDepth 4096
open Go.ChangeShapes Go.WideShapes Go.ChangeAt Go.RowKit Go.Joins

theorem held3I {w : World} {X : Nat} {N : Int} {u v2 : Value} {A : List ArcD} {w' w'' : World} (h : Keep w X N u v2 A w') {f2 q2 : Value} {F Q : List Int} (hI : Ints w' f2 F) (hQ : Ints w' q2 Q) (hb : Below w'.heap.size w' w'') :
    w''.cell? ⟨w.heap.size, 0, none⟩ = some (.int .i64 N) ∧ w''.cell? ⟨w.heap.size, 1, none⟩ = some u ∧ w''.cell? ⟨X, 0, none⟩ = some (.int .i64 N) ∧ w''.cell? ⟨X, 1, none⟩ = some v2 ∧ Keep w X N u v2 A w'' ∧ Ints w'' f2 F ∧ Ints w'' q2 Q :=
  ⟨(net_cells (h.on hb).below).1, (net_cells (h.on hb).below).2, (h.on hb).c2, (h.on hb).c3, h.on hb, ints_on hI hb, ints_on hQ hb⟩

set_option maxHeartbeats 1000000 in
theorem walk (N : Int) (u : Value) (A : List ArcD) (v : Value) (F : List Int) (q : Value) (Q : List Int) (w : World) (hv : ArgA w u A) (hA : A.length ≤ maxLen) (hf : ArgI w v F) (hF : F.length ≤ maxLen) (hs : ArgI w q Q) (hm : Q.length ≤ maxLen) :
    Calls Try.prog 5 #[.agg #[.int .i64 N, u], v, q] w fun e w' => e = .returned (.bool true) ∧ Below w.heap.size w w' := by
  have hA' : A.length ≤ 9223372036854775807 := by unfold maxLen at hA; omega
  have hm' : Q.length ≤ 9223372036854775807 := by unfold maxLen at hm; omega
  have hF' : F.length ≤ 9223372036854775807 := by unfold maxLen at hF; omega
  have hB := Below.refl (w.alloc (.cells #[.int .i64 N, u] 39)).heap.size (w.alloc (.cells #[.int .i64 N, u] 39))
  obtain ⟨c0, c1⟩ := net_cells hB
  have HV := Lib.hid hv
  obtain ⟨av, cv, rfl, HFv⟩ := hf
  have HF := Lib.hid (show ArgI w (.slice av F.length cv) F from ⟨av, cv, rfl, HFv⟩)
  obtain ⟨aq, cq, rfl, HQv⟩ := hs
  have HQ := Lib.hid (show ArgI w (.slice aq Q.length cq) Q from ⟨aq, cq, rfl, HQv⟩)
  clear hv HFv HQv
  by_cases hl : F.length ≤ 1048576
  · have hl0 : ¬ (1048576 : Int) < (F.length : Int) := by omega
    rcases Nat.lt_or_ge 1048576 Q.length with hlm | hlm
    · have hl9 : (1048576 : Int) < (Q.length : Int) := by omega
      go_enter Try.func5, Try.ntmps5
      go_wp2_with fail
      go_ret
      exact ⟨rfl, below_box hB⟩
    have hl9 : ¬ (1048576 : Int) < (Q.length : Int) := by omega
    by_cases h : A.length ≤ 1048576
    · obtain ⟨b, HB⟩ : ∃ b, Hid (pricesOkV N A F Q = b) := ⟨_, rfl⟩
      have h0 : ¬ (1048576 - (A.length : Int)) < 0 := by omega
      go_enter Try.func5, Try.ntmps5
      go_wp2_with fail
      refine (szNet_yes N u A h _ (argA_below HV.out (below_box hB))).mono ?_
      rintro e w1 ⟨rfl, hb⟩
      replace hB := next_below hB hb
      obtain ⟨c0, c1⟩ := net_cells hB
      clear hb
      go_wp2_with fail
      refine (toNet N u A _ (argA_below HV.out (below_box hB)) (by omega)).mono ?_
      rintro e w2 ⟨v1, rfl, hown, hb⟩
      have hs2 := hb.size
      replace hB := next_below hB hb
      clear hb c0 c1
      go_wp2_with fail
      refine (toInts _ F _ (argI_below HF.out (below_box hB)) (by omega)).mono ?_
      rintro e w3 ⟨f1, rfl, hownf, hb⟩
      have ha := arcs_on (arcs_of_own hown) hb
      replace hB := next_below hB hb
      clear hb hown
      go_wp2_with fail
      refine (toInts _ Q _ (argI_below HQ.out (below_box hB)) (by omega)).mono ?_
      rintro e w3b ⟨q1, rfl, hownq, hb⟩
      have ha' := arcs_on ha hb
      have hf' := ints_on (ints_of_own hownf) hb
      replace hB := next_below hB hb
      clear hb ha hownf
      go_wp2_with fail
      refine (specPricesOk N A F Q v1 f1 q1 b (by omega) (by omega) (by omega) HB _ ha' hf' (ints_of_own hownq)).mono ?_
      rintro e w4 ⟨rfl, hb⟩
      replace hB := next_below hB hb
      obtain ⟨c0, c1⟩ := net_cells hB
      clear hb hownq ha' hf'
      go_wp2_with fail
      refine (toNet N u A _ (argA_below HV.out (below_box hB)) (by omega)).mono ?_
      rintro e w5 ⟨v2, rfl, hown, hb⟩
      have hn5 := keep_new (next_below hB hb) hown (Nat.le_trans (by simp) hB.size)
      have HN5 := Lib.hid hn5
      have HA6 := Lib.hid (argI_below HF.out (below_box hn5.below))
      clear hb c0 c1 hB
      obtain ⟨a2, k2, rfl⟩ := own_form hown
      clear hown hn5
      go_wp2_with fail
      refine (toInts _ F _ HA6.out (by omega)).mono ?_
      rintro e w6 ⟨f2, rfl, hownf, hb⟩
      have hn6 := HN5.out.on hb
      have HN6 := Lib.hid hn6
      have HI6 := Lib.hid (ints_of_own hownf)
      have HQ6 := Lib.hid (argI_below HQ.out (below_box hn6.below))
      clear hb HN5 HA6 hn6 hownf
      go_wp2_with fail
      refine (toInts _ Q _ HQ6.out (by omega)).mono ?_
      rintro e w6b ⟨q2, rfl, hownq, hb⟩
      have hn6b := HN6.out.on hb
      have HN6b := Lib.hid hn6b
      have HI6b := Lib.hid (ints_on HI6.out hb)
      have HB6b := Lib.hid (ints_of_own hownq)
      have c2 := hn6b.c2
      have c3 := hn6b.c3
      clear hb hn6b hownq HN6 HI6 HQ6
      go_wp2_with fail
      refine (implPricesOk N A F Q _ f2 q2 b (by omega) (by omega) (by omega) HB _ (arcs_of_own HN6b.out.own) HI6b.out HB6b.out).mono ?_
      rintro e w7 ⟨rfl, hb⟩
      have hn7 := HN6b.out.on hb
      have hf7 := ints_on HI6b.out hb
      have hq7 := ints_on HB6b.out hb
      obtain ⟨c0, c1⟩ := net_cells hn7.below
      have c4 := hn7.c2
      have c5 := hn7.c3
      have HN7 := Lib.hid (⟨hn7.drew, ints_on hf7 (Below.refl _ _).drew, ints_on hq7 (Below.refl _ _).drew⟩ : Keep w w5.heap.size N u (.slice a2 A.length k2) A w7.drew ∧ Ints w7.drew f2 F ∧ Ints w7.drew q2 Q)
      clear hb HN6b HI6b HB6b hn7 hf7 hq7 c2 c3
      cases b
      all_goals
        go_wp2_with fail
        go_region_held3 (fun w' => w'.cell? ⟨w.heap.size, 0, none⟩ = some (.int .i64 N) ∧ w'.cell? ⟨w.heap.size, 1, none⟩ = some u ∧ w'.cell? ⟨w5.heap.size, 0, none⟩ = some (.int .i64 N) ∧ w'.cell? ⟨w5.heap.size, 1, none⟩ = some (.slice a2 A.length k2) ∧ Keep w w5.heap.size N u (.slice a2 A.length k2) A w' ∧ Ints w' f2 F ∧ Ints w' q2 Q)
          (first | exact hS | exact ⟨c0, c1, c4, c5, HN7.out.1, HN7.out.2.1, HN7.out.2.2⟩ | go_keep)
          (first
            | (go_at_call 17; (try go_split_ands); have hK : Keep w w5.heap.size N u (.slice a2 A.length k2) A _ := (by assumption); have hI : Ints _ f2 F := (by assumption); have hQ0 : Ints _ q2 Q := (by assumption); (with_reducible refine (toNet N u A _ (argA_below HV.out (below_box hK.below)) (by omega)).mono ?_); rintro e w8 ⟨v8, rfl, hown8, hb⟩; (try go_split_ands); have hS := held3I hK hI hQ0 hb; have hv8 := arcs_of_own hown8; have hv2 := arcs_of_own (hS.2.2.2.2.1).own; clear hb hown8)
            | (go_at_call 20; (try go_split_ands); have hK : Keep w w5.heap.size N u (.slice a2 A.length k2) A _ := (by assumption); have hI : Ints _ f2 F := (by assumption); have hQ0 : Ints _ q2 Q := (by assumption); (with_reducible refine (eqNet N _ _ A _ (by assumption) (by assumption) (by omega)).mono ?_); rintro e w9 ⟨rfl, hb⟩; (try go_split_ands); have hS := held3I hK hI hQ0 hb; clear hb))
        have HK := Lib.hid hS.2.2.2.2
        clear hS
        go_wp2_with fail
        refine (toInts _ F _ (argI_below HF.out (below_box HK.out.1.below)) (by omega)).mono ?_
        rintro e wa ⟨f3, rfl, hown3, hb⟩
        have hK := HK.out.1.on hb
        have hI := ints_on HK.out.2.1 hb
        have hQ9 := ints_on HK.out.2.2 hb
        clear hb
        go_wp2_with fail
        refine (eqInts _ _ F _ hI (ints_of_own hown3) (by omega)).mono ?_
        rintro e wb ⟨rfl, mm, rfl⟩
        have hK2 := hK.on (show Below wa.heap.size wa (wa.drewN mm) from below_drewN (Below.refl _ _) mm)
        have hQ2 := ints_on hQ9 (show Below wa.heap.size wa (wa.drewN mm) from below_drewN (Below.refl _ _) mm)
        have HK2 := Lib.hid hK2
        have HQ2 := Lib.hid hQ2
        clear hK hI hown3 hQ9 hK2 hQ2
        generalize wa.drewN mm = wb at HK2 HQ2 ⊢
        go_wp2_with fail
        refine (toInts _ Q _ (argI_below HQ.out (below_box HK2.out.below)) (by omega)).mono ?_
        rintro e wc ⟨q3, rfl, hown4, hb⟩
        have hK := HK2.out.on hb
        have hQ3 := ints_on HQ2.out hb
        clear hb
        go_wp2_with fail
        refine (eqInts _ _ Q _ hQ3 (ints_of_own hown4) (by omega)).mono ?_
        rintro e wd ⟨rfl, md, rfl⟩
        have HE := Lib.hid (below_drewN (below_box hK.below) md)
        clear hK hQ3 hown4
        go_wp2_with fail
        go_ret
        exact ⟨rfl, HE.out⟩
    · have h0 : (1048576 - (A.length : Int)) < 0 := by omega
      go_enter Try.func5, Try.ntmps5
      go_wp2_with fail
      refine (szNet_no N u A hA' h _ (argA_below HV.out (below_box hB))).mono ?_
      rintro e w1 ⟨rfl, hb⟩
      replace hB := next_below hB hb
      clear hb c0 c1
      go_wp2_with fail
      go_ret
      exact ⟨rfl, below_box hB⟩
  · have hl0 : (1048576 : Int) < (F.length : Int) := by omega
    go_enter Try.func5, Try.ntmps5
    go_wp2_with fail
    go_ret
    exact ⟨rfl, below_box hB⟩
-- LIFT
set_option maxRecDepth 100000 in
theorem lifted (os : Os) (started : os.Started) (H : Type) (enc : TypeId × Value → H) :
    ReturnsInHanded {} Try.checked os 5 .any (Rows.fnExactPricesOkSpec.pre6 enc Try.prog Try.f5 Rows.fnExactPricesOkRow.domain false) (Rows.fnExactPricesOkSpec.post enc Try.prog Try.f5 false true false false) := by
  refine returnsInHanded_of_change (C := Try.checked) own started (by kernel_rfl) Try.func5
    (ChangeSpec.witness6 (enc := enc) (C := Try.checked) false ⟨#[], #[.agg #[.int .i64 0, .slice none 0 0], .slice none 0 0, .slice none 0 0], []⟩ 8 (by kernel_rfl) (by kernel_rfl) (by kernel_rfl) (by kernel_rfl)) ?_
  intro W base args ds gs before hval0 hW hcnd _
  have hval : ∀ (j : Nat) t v, Try.f5.params[j]? = some t → args[j]? = some v → Value.okWide Try.prog W .any base t v := hval0
  have hW' := hW
  obtain ⟨p, q, hA0, hV, rfl, hfz, hnd⟩ := hW
  have hA : DataW.TrodAll enc Try.prog W 0 (fun _ => true) true Try.f5.params.toList args.toList ds p := hA0
  rw [Try.params5] at hA hval
  obtain ⟨v0, vs0, d0, ds0, p0, q0, hargs, rfl, rfl, h0, r0⟩ := trodAll_cons hA
  obtain ⟨v1, vs1, d1, ds1, p1, q1, rfl, rfl, rfl, h1, r1⟩ := trodAll_cons r0
  obtain ⟨v2, vs2, d2, ds2, p2, q2, rfl, rfl, rfl, h2, r2⟩ := trodAll_cons r1
  obtain ⟨rfl, rfl, rfl⟩ := trodAll_nil r2
  obtain rfl : args = #[v0, v1, v2] := by cases args; simp_all
  obtain ⟨rfl, rfl⟩ := trodVars_none hV
  obtain ⟨N0, u0, A0, hv0, w0, l0⟩ := open_arg_net (hval 0 39 v0 rfl rfl) h0
  subst hv0
  obtain ⟨L1, w1, l1, again1⟩ := open_arg_ints (hval 1 27 v1 rfl rfl) h1
  obtain ⟨L2, w2, l2, again2⟩ := open_arg_ints (hval 2 27 v2 rfl rfl) h2
  clear hA0 hval0
  simp only [List.append_nil] at hW'
  refine (walk N0 u0 A0 v1 L1 v2 L2 W w0 l0 w1 l1 w2 l2).mono fun e W' ⟨he, hg⟩ => ?_
  subst he
  exact ⟨_, rfl, post_of_below (pa := p0 ++ (p1 ++ (p2 ++ ([])))) (pv := []) hW' (fun _ _ _ => (trodAll_cons_mk (shut_bool Try.underlying4 _) trodAll_mk0)) (fun sp hsp => (trodAll_cons_mk (again_of (by kernel_rfl) (of_decide_eq_true (by kernel_rfl)) h0 (fun x hx => hW'.lt x (by simp [hx])) hg sp (fun p hp => hsp p (by simp [hp]))) (trodAll_cons_mk (again1 W' hg sp (fun p hp => hsp p (by simp [hp]))) (trodAll_cons_mk (again2 W' hg sp (fun p hp => hsp p (by simp [hp]))) trodAll_mk0)))) (fun _ _ => rfl) (by simp)
    hg (ok_one (by kernel_rfl) rfl (okWide_bool_mk Try.underlying4 _))⟩

theorem over : Rows.fnExactPricesOkRow.holds Try.pinned (OpenSpec.ofChange Rows.fnExactPricesOkSpec) :=
  OpenClaim.holds_of_wide 5 Try.f5 rfl rfl rfl rfl rfl rfl rfl ⟨rfl, rfl, rfl, rfl, rfl⟩ rfl rfl rfl rfl rfl (by kernel_rfl) Try.func5 (by kernel_rfl)
    (of_decide_eq_true (by kernel_rfl)) (by unfold Func.isWrapper; first | (rw [if_pos (by decide +kernel)]; kernel_rfl) | (rw [if_neg (by decide +kernel)]; exact ⟨rfl, rfl⟩))
    (fun os started H enc _ => lifted os started H enc)

theorem proved : Rows.FnExactPricesOkSaid :=
  over

end Go.Proofs.Ytobflidianlomaa.fnExactPricesOk
