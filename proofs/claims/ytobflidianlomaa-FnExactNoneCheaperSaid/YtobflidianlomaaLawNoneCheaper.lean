/-
  THE LAW FnExactNoneCheaper: at every net and list the program's NoneCheaper answers as its model and leaves its arguments alone. No condition.
-/
import Derived.Test.YtobflidianlomaaIntsEq
import Derived.Test.YtobflidianlomaaPricesI
import Derived.Test.YtobflidianlomaaSpecPrices
import Derived.Test.YtobflidianlomaaNetEq
import Derived.Test.YtobflidianlomaaArgNet
import Derived.Test.YtobflidianlomaaArgInts
import Derived.Deep.RegionHeld3
namespace Go.Proofs.Ytobflidianlomaa.fnExactNoneCheaper
set_option maxRecDepth 4096
open Go.ChangeShapes Go.WideShapes Go.ChangeAt Go.RowKit Go.Joins

set_option maxHeartbeats 1000000 in
theorem walk (N : Int) (u : Value) (A : List ArcD) (v : Value) (F : List Int) (w : World) (hv : ArgA w u A) (hA : A.length ≤ maxLen) (hf : ArgI w v F) (hF : F.length ≤ maxLen) :
    Calls Try.prog 6 #[.agg #[.int .i64 N, u], v] w fun e w' => e = .returned (.bool true) ∧ Below w.heap.size w w' := by
  have hA' : A.length ≤ 9223372036854775807 := by unfold maxLen at hA; omega
  have hF' : F.length ≤ 9223372036854775807 := by unfold maxLen at hF; omega
  have hB := Below.refl (w.alloc (.cells #[.int .i64 N, u] 39)).heap.size (w.alloc (.cells #[.int .i64 N, u] 39))
  obtain ⟨c0, c1⟩ := net_cells hB
  have HV := Lib.hid hv
  obtain ⟨av, cv, rfl, HFv⟩ := hf
  have HF := Lib.hid (show ArgI w (.slice av F.length cv) F from ⟨av, cv, rfl, HFv⟩)
  clear hv HFv
  by_cases hl : F.length ≤ 1048576
  · have hl0 : ¬ (1048576 : Int) < (F.length : Int) := by omega
    by_cases h : A.length ≤ 1048576
    · obtain ⟨b, HB⟩ : ∃ b, Hid (priceOk N A F = b) := ⟨_, rfl⟩
      have h0 : ¬ (1048576 - (A.length : Int)) < 0 := by omega
      go_enter Try.func6, Try.ntmps6
      go_wp2_with fail
      refine (szNet_yes N u A h _ (argA_below HV.out (below_box hB))).mono ?_
      rintro e w1 ⟨rfl, hb⟩
      replace hB := next_below hB hb
      obtain ⟨c0, c1⟩ := net_cells hB
      clear hb
      go_wp2_with fail
      refine (toNet N u A _ (argA_below HV.out (below_box hB)) (by omega)).mono ?_
      rintro e w2 ⟨v1, rfl, hown, hb⟩
      have hs2 := hb.size
      replace hB := next_below hB hb
      clear hb c0 c1
      go_wp2_with fail
      refine (toInts _ F _ (argI_below HF.out (below_box hB)) (by omega)).mono ?_
      rintro e w3 ⟨f1, rfl, hownf, hb⟩
      have ha := arcs_on (arcs_of_own hown) hb
      replace hB := next_below hB hb
      clear hb hown
      go_wp2_with fail
      refine (specNoneCheaper N A F v1 f1 b (by omega) (by omega) HB _ ha (ints_of_own hownf)).mono ?_
      rintro e w4 ⟨rfl, hb⟩
      replace hB := next_below hB hb
      obtain ⟨c0, c1⟩ := net_cells hB
      clear hb hownf ha
      go_wp2_with fail
      refine (toNet N u A _ (argA_below HV.out (below_box hB)) (by omega)).mono ?_
      rintro e w5 ⟨v2, rfl, hown, hb⟩
      have hn5 := keep_new (next_below hB hb) hown (Nat.le_trans (by simp) hB.size)
      have HN5 := Lib.hid hn5
      have HA6 := Lib.hid (argI_below HF.out (below_box hn5.below))
      clear hb c0 c1 hB
      obtain ⟨a2, k2, rfl⟩ := own_form hown
      clear hown hn5
      go_wp2_with fail
      refine (toInts _ F _ HA6.out (by omega)).mono ?_
      rintro e w6 ⟨f2, rfl, hownf, hb⟩
      have hn6 := HN5.out.on hb
      have HN6 := Lib.hid hn6
      have c2 := hn6.c2
      have c3 := hn6.c3
      clear hb HN5 HA6 hn6
      go_wp2_with fail
      refine (implNoneCheaper N A F _ f2 b (by omega) (by omega) HB _ (arcs_of_own HN6.out.own) (ints_of_own hownf)).mono ?_
      rintro e w7 ⟨rfl, hb⟩
      have hn7 := HN6.out.on hb
      have hf7 := ints_on (ints_of_own hownf) hb
      have hbw := (below_box HN6.out.below).size
      obtain ⟨c0, c1⟩ := net_cells hn7.below
      have c4 := hn7.c2
      have c5 := hn7.c3
      have HN7 := Lib.hid (⟨hn7.drew, ints_on hf7 (Below.refl _ _).drew⟩ : Keep w w5.heap.size N u (.slice a2 A.length k2) A w7.drew ∧ Ints w7.drew f2 F)
      clear hb HN6 hownf hn7 hf7 c2 c3
      cases b
      all_goals
        go_wp2_with fail
        go_region_held3 (fun w' => w'.cell? ⟨w.heap.size, 0, none⟩ = some (.int .i64 N) ∧ w'.cell? ⟨w.heap.size, 1, none⟩ = some u ∧ w'.cell? ⟨w5.heap.size, 0, none⟩ = some (.int .i64 N) ∧ w'.cell? ⟨w5.heap.size, 1, none⟩ = some (.slice a2 A.length k2) ∧ Keep w w5.heap.size N u (.slice a2 A.length k2) A w' ∧ Ints w' f2 F)
          (first | exact hS | exact ⟨c0, c1, c4, c5, HN7.out.1, HN7.out.2⟩ | go_keep)
          (first
            | (go_at_call 17; (try go_split_ands); have hK : Keep w w5.heap.size N u (.slice a2 A.length k2) A _ := (by assumption); have hI : Ints _ f2 F := (by assumption); (with_reducible refine (toNet N u A _ (argA_below HV.out (below_box hK.below)) (by omega)).mono ?_); rintro e w8 ⟨v8, rfl, hown8, hb⟩; (try go_split_ands); have hS := Keep.held2 hK hI hb; have hv8 := arcs_of_own hown8; have hv2 := arcs_of_own (hS.2.2.2.2.1).own; clear hb hown8)
            | (go_at_call 20; (try go_split_ands); have hK : Keep w w5.heap.size N u (.slice a2 A.length k2) A _ := (by assumption); have hI : Ints _ f2 F := (by assumption); (with_reducible refine (eqNet N _ _ A _ (by assumption) (by assumption) (by omega)).mono ?_); rintro e w9 ⟨rfl, hb⟩; (try go_split_ands); have hS := Keep.held2 hK hI hb; clear hb))
        have HK := Lib.hid hS.2.2.2.2
        clear hS
        go_wp2_with fail
        refine (toInts _ F _ (argI_below HF.out (below_box HK.out.1.below)) (by omega)).mono ?_
        rintro e wa ⟨f3, rfl, hown3, hb⟩
        have hK := HK.out.1.on hb
        have hI := ints_on HK.out.2 hb
        clear hb
        go_wp2_with fail
        refine (eqInts _ _ F _ hI (ints_of_own hown3) (by omega)).mono ?_
        rintro e wb ⟨rfl, m, rfl⟩
        have HE := Lib.hid (below_drewN (below_box hK.below) m)
        clear hK hI hown3
        go_wp2_with fail
        go_ret
        exact ⟨rfl, HE.out⟩
    · have h0 : (1048576 - (A.length : Int)) < 0 := by omega
      go_enter Try.func6, Try.ntmps6
      go_wp2_with fail
      refine (szNet_no N u A hA' h _ (argA_below HV.out (below_box hB))).mono ?_
      rintro e w1 ⟨rfl, hb⟩
      replace hB := next_below hB hb
      clear hb c0 c1
      go_wp2_with fail
      go_ret
      exact ⟨rfl, below_box hB⟩
  · have hl0 : (1048576 : Int) < (F.length : Int) := by omega
    go_enter Try.func6, Try.ntmps6
    go_wp2_with fail
    go_ret
    exact ⟨rfl, below_box hB⟩
-- LIFT
set_option maxRecDepth 100000 in
theorem lifted (os : Os) (started : os.Started) (H : Type) (enc : TypeId × Value → H) :
    ReturnsInHanded {} Try.checked os 6 .any (Rows.fnExactNoneCheaperSpec.pre6 enc Try.prog Try.f6 Rows.fnExactNoneCheaperRow.domain false) (Rows.fnExactNoneCheaperSpec.post enc Try.prog Try.f6 false true false false) := by
  refine returnsInHanded_of_change (C := Try.checked) own started (by kernel_rfl) Try.func6
    (ChangeSpec.witness6 (enc := enc) (C := Try.checked) false ⟨#[], #[.agg #[.int .i64 0, .slice none 0 0], .slice none 0 0], []⟩ 8 (by kernel_rfl) (by kernel_rfl) (by kernel_rfl) (by kernel_rfl)) ?_
  intro W base args ds gs before hval0 hW hcnd _
  have hval : ∀ (j : Nat) t v, Try.f6.params[j]? = some t → args[j]? = some v → Value.okWide Try.prog W .any base t v := hval0
  have hW' := hW
  obtain ⟨p, q, hA0, hV, rfl, hfz, hnd⟩ := hW
  have hA : DataW.TrodAll enc Try.prog W 0 (fun _ => true) true Try.f6.params.toList args.toList ds p := hA0
  rw [Try.params6] at hA hval
  obtain ⟨v0, vs0, d0, ds0, p0, q0, hargs, rfl, rfl, h0, r0⟩ := trodAll_cons hA
  obtain ⟨v1, vs1, d1, ds1, p1, q1, rfl, rfl, rfl, h1, r1⟩ := trodAll_cons r0
  obtain ⟨rfl, rfl, rfl⟩ := trodAll_nil r1
  obtain rfl : args = #[v0, v1] := by cases args; simp_all
  obtain ⟨rfl, rfl⟩ := trodVars_none hV
  obtain ⟨N0, u0, A0, hv0, w0, l0⟩ := open_arg_net (hval 0 39 v0 rfl rfl) h0
  subst hv0
  obtain ⟨L1, w1, l1, again1⟩ := open_arg_ints (hval 1 27 v1 rfl rfl) h1
  clear hA0 hval0
  simp only [List.append_nil] at hW'
  refine (walk N0 u0 A0 v1 L1 W w0 l0 w1 l1).mono fun e W' ⟨he, hg⟩ => ?_
  subst he
  exact ⟨_, rfl, post_of_below (pa := p0 ++ (p1 ++ ([]))) (pv := []) hW' (fun _ _ _ => (trodAll_cons_mk (shut_bool Try.underlying4 _) trodAll_mk0)) (fun sp hsp => (trodAll_cons_mk (again_of (by kernel_rfl) (of_decide_eq_true (by kernel_rfl)) h0 (fun x hx => hW'.lt x (by simp [hx])) hg sp (fun p hp => hsp p (by simp [hp]))) (trodAll_cons_mk (again1 W' hg sp (fun p hp => hsp p (by simp [hp]))) trodAll_mk0))) (fun _ _ => rfl) (by simp)
    hg (ok_one (by kernel_rfl) rfl (okWide_bool_mk Try.underlying4 _))⟩

theorem over : Rows.fnExactNoneCheaperRow.holds Try.pinned (OpenSpec.ofChange Rows.fnExactNoneCheaperSpec) :=
  OpenClaim.holds_of_wide 6 Try.f6 rfl rfl rfl rfl rfl rfl rfl ⟨rfl, rfl, rfl, rfl, rfl⟩ rfl rfl rfl rfl rfl (by kernel_rfl) Try.func6 (by kernel_rfl)
    (of_decide_eq_true (by kernel_rfl)) (by unfold Func.isWrapper; first | (rw [if_pos (by decide +kernel)]; kernel_rfl) | (rw [if_neg (by decide +kernel)]; exact ⟨rfl, rfl⟩))
    (fun os started H enc _ => lifted os started H enc)

theorem proved : Rows.FnExactNoneCheaperSaid :=
  over

end Go.Proofs.Ytobflidianlomaa.fnExactNoneCheaper
