/-
  THE LAW FnExactMostFlow: at every net the program's MostFlow answers as its model, leaves its argument alone, and its answer owns its memory. No condition.
-/
import Derived.Test.YtghhlojjjjnogaaMostI
import Derived.Test.YtghhlojjjjnogaaSpecMost
import Derived.Test.YtghhlojjjjnogaaNetEq
import Derived.Test.YtghhlojjjjnogaaBools
import Derived.Test.YtghhlojjjjnogaaArgNet
import Derived.Deep.RegionHeld3
namespace Go.Proofs.Ytghhlojjjjnogaa.fnExactMostFlow
set_option maxRecDepth 4096
open Go.ChangeShapes Go.WideShapes Go.ChangeAt Go.RowKit Go.Joins

theorem mark1 (v : Value) (B n : Nat) (xs : List Value) (w : World) (hown : w.ownsRow B 64 4 v n xs) (N : Int) (hn : n ≤ 1048576) :
    Calls Try.prog 31 #[.agg #[.int .i64 N, v], .int .i64 1] w (MarkedA w B v 1 n) :=
  markNet N v B 1 n xs w hown (by omega)
theorem markB1 (v : Value) (B n : Nat) (o : Nat → Bool) (w : World) (hown : w.ownsRow B 4 1 v n (rowB o n)) (hn : n ≤ 1500) :
    Calls Try.prog 33 #[v, .int .i64 1] w (MarkedB w B v 1 n) := markBools v B 1 n o w hown (by omega)
theorem heldB1 (v : Value) (n : Nat) (w : World) (h : Bools w v (third 1) n) (hn : n ≤ 1500) :
    Calls Try.prog 34 #[v, .int .i64 1] w (Made w (.int .i64 ((1 + n : Nat) : Int))) := heldBools v 1 n w h (by omega)

theorem mostN_le (N : Int) (A : List ArcD) : mostN N A ≤ 1500 := by
  unfold mostN
  split
  · rename_i h
    obtain ⟨⟨_, h15⟩, _⟩ := netOk_out h
    omega
  · omega
set_option maxHeartbeats 4000000 in
theorem walk (N : Int) (u : Value) (A : List ArcD) (w : World) (hv : ArgA w u A) (hA : A.length ≤ maxLen) :
    Calls Try.prog 6 #[.agg #[.int .i64 N, u]] w fun e w' => e = .returned (.bool true) ∧ Below w.heap.size w w' := by
  have hA' : A.length ≤ 9223372036854775807 := by unfold maxLen at hA; omega
  have hB := LSt.start w (.cells #[.int .i64 N, u] 47)
  obtain ⟨c0, c1⟩ := net_cells hB.below
  have HV := Lib.hid hv
  clear hv
  by_cases h : A.length ≤ 1048576
  · obtain ⟨m, HM⟩ : ∃ m, Hid (mostN N A = m) := ⟨_, rfl⟩
    obtain ⟨o, HO⟩ : ∃ o, Hid (mostO N A = o) := ⟨_, rfl⟩
    obtain ⟨z, HZ⟩ : ∃ z, Hid (mostS N A = z) := ⟨_, rfl⟩
    have hm : m ≤ 1500 := by rw [← HM.out]; exact mostN_le N A
    have h0 : ¬ (1048576 - (A.length : Int)) < 0 := by omega
    have hzz : (z != z) = false := by simp
    go_enter Try.func6, Try.ntmps6
    go_wp2_with fail
    refine (szNet_yes N u A h _ (argA_below HV.out hB.base)).mono ?_
    rintro e w1 ⟨rfl, hb⟩
    replace hB := hB.on hb
    obtain ⟨c0, c1⟩ := net_cells hB.below
    clear hb
    go_wp2_with fail
    refine (toNet N u A _ (argA_below HV.out hB.base) (by omega)).mono ?_
    rintro e w3 ⟨v1, rfl, hown, hb⟩
    have ha := arcs_of_own hown
    replace hB := hB.on hb
    have s3 := hB.below.size
    clear hb hown
    go_wp2_with fail
    refine (specMost N A v1 z o m (by omega) HZ HO HM _ ha).mono ?_
    rintro e w4 ⟨vw, rfl, howw, hb⟩
    have s4 := hb.size
    replace hB := hB.call howw hb
    obtain ⟨c0, c1⟩ := net_cells hB.below
    clear hb ha howw
    go_wp2_with fail
    refine (toNet N u A _ (argA_below HV.out hB.base) (by omega)).mono ?_
    rintro e w5 ⟨v2, rfl, hown, hb⟩
    have s5 := hb.size
    obtain ⟨a2, k2, rfl⟩ := own_form hown
    replace hB := (hB.call hown hb).box (.cells #[.int .i64 N, .slice a2 A.length k2] 26)
    clear hb c0 c1 hown
    obtain ⟨_, _, c2, c3, _⟩ := held_net hB (List.mem_cons_self ..) (Below.refl _ _)
    go_wp2_with fail
    generalize hw6 : w5.alloc (.cells #[.int .i64 N, .slice a2 A.length k2] 26) = w6 at hB ⊢
    have s6 : w6.heap.size = w5.heap.size + 1 := by rw [← hw6]; exact World.size_alloc _ _
    clear hw6 c2 c3
    have rx := (hB.rows ⟨w4.heap.size, w5.heap.size, 64, 4, .slice a2 A.length k2, A.length, cellsA A⟩ (by simp)).own
    refine (implMost N A _ z o m (by omega) HZ HO HM _ (arcs_of_own rx)).mono ?_
    rintro e w7 ⟨vg, rfl, howg, hb⟩
    have s7 := hb.size
    replace hB := hB.call howg hb
    clear hb howg rx
    have rg := (hB.rows ⟨w6.heap.size, w7.heap.size, 4, 1, vg, m, rowB o m⟩ (by simp)).own
    have rw_ := (hB.rows ⟨w3.heap.size, w4.heap.size, 4, 1, vw, m, rowB o m⟩ (by simp)).own
    go_wp2_with fail
    refine (eqBools _ _ o m _ (bools_of_own rg) (bools_of_own rw_) (by omega)).mono ?_
    rintro e w8 ⟨rfl, n8, rfl⟩
    replace hB := hB.drewN n8
    obtain ⟨c0, c1, c2, c3, hB8⟩ := held_net hB (List.mem_cons_self ..) (Below.refl _ _)
    generalize w7.drewN n8 = w8 at *
    have HN := Lib.hid hB8.drew
    clear rg rw_ hB hB8
    go_wp2_with fail
    obtain ⟨K, HK⟩ : ∃ K : List (Nat × Obj), K = [(w5.heap.size, Obj.cells #[.int .i64 N, .slice a2 A.length k2] 26)] := ⟨_, rfl⟩
    obtain ⟨R, HR⟩ : ∃ R : List RowD, R = [⟨w6.heap.size, w7.heap.size, 4, 1, vg, m, rowB o m⟩, ⟨w4.heap.size, w5.heap.size, 64, 4, .slice a2 A.length k2, A.length, cellsA A⟩, ⟨w3.heap.size, w4.heap.size, 4, 1, vw, m, rowB o m⟩] := ⟨_, rfl⟩
    rw [← HK, ← HR] at HN
    have hKX : (w5.heap.size, Obj.cells #[.int .i64 N, .slice a2 A.length k2] 26) ∈ K := by rw [HK]; exact List.mem_cons_self ..
    have hRX : (⟨w4.heap.size, w5.heap.size, 64, 4, .slice a2 A.length k2, A.length, cellsA A⟩ : RowD) ∈ R := by rw [HR]; simp
    have HHK := Lib.hid HK
    have HHR := Lib.hid HR
    clear HK HR
    go_region_held3 (fun w' => w'.cell? ⟨w.heap.size, 0, none⟩ = some (.int .i64 N) ∧ w'.cell? ⟨w.heap.size, 1, none⟩ = some u ∧ w'.cell? ⟨w5.heap.size, 0, none⟩ = some (.int .i64 N) ∧ w'.cell? ⟨w5.heap.size, 1, none⟩ = some (.slice a2 A.length k2) ∧ LSt w (.cells #[.int .i64 N, u] 47) K R w')
      (first | exact hS | exact ⟨c0, c1, c2, c3, HN.out⟩ | go_keep)
      (first
        | (go_at_call 26; (try go_split_ands); have hK : LSt w (.cells #[.int .i64 N, u] 47) K R _ := (by assumption); (with_reducible refine (toNet N u A _ (argA_below HV.out hK.base) (by omega)).mono ?_); rintro e w9 ⟨v9, rfl, hown9, hb⟩; (try go_split_ands); have hS := held_net hK hKX hb; have hv9 := arcs_of_own hown9; have hv2 := arcs_of_own ((hS.2.2.2.2).rows _ hRX).own; clear hb hown9)
        | (go_at_call 29; (try go_split_ands); have hK : LSt w (.cells #[.int .i64 N, u] 47) K R _ := (by assumption); (with_reducible refine (eqNet N _ _ A _ (by assumption) (by assumption) (by omega)).mono ?_); rintro e wa ⟨rfl, hb⟩; (try go_split_ands); have hS := held_net hK hKX hb; clear hb))
    have hB := hS.2.2.2.2
    rw [HHK.out, HHR.out] at hB
    clear hS HHK HHR hKX hRX HN
    obtain ⟨_, _, c2, c3, _⟩ := held_net hB (List.mem_cons_self ..) (Below.refl _ _)
    have rx := (hB.rows ⟨w4.heap.size, w5.heap.size, 64, 4, .slice a2 A.length k2, A.length, cellsA A⟩ (by simp)).own
    go_wp2_with fail
    refine (mark1 _ _ A.length _ _ rx N h).mono ?_
    rintro e wd ⟨rfl, ⟨xs1, rx1⟩, hgr⟩
    replace hB := (hB.front 1 _ rfl).mark rx1 hgr (by intro q hq; simp at hq; rcases hq with rfl | rfl <;> simp <;> omega) (by intro p hp; simp at hp; subst hp; simp) (by simp at s3 ⊢; omega)
    clear hgr rx rx1 c2 c3
    have hk1 : ¬ ((1 + A.length * 4 : Nat) : Int) < 0 := by omega
    have rg := (hB.rows ⟨w6.heap.size, w7.heap.size, 4, 1, vg, m, rowB o m⟩ (by simp)).own
    have rw_ := (hB.rows ⟨w3.heap.size, w4.heap.size, 4, 1, vw, m, rowB o m⟩ (by simp)).own
    go_wp2_with fail
    refine (eqBools _ _ o m _ (bools_of_own rg) (bools_of_own rw_) (by omega)).mono ?_
    rintro e wf ⟨rfl, nf, rfl⟩
    replace hB := hB.drewN nf
    generalize wd.drewN nf = wf at *
    clear rg rw_ hk1
    have rg := (hB.rows ⟨w6.heap.size, w7.heap.size, 4, 1, vg, m, rowB o m⟩ (by simp)).own
    go_wp2_with fail
    refine (markB1 vg _ m o wf rg hm).mono ?_
    rintro e wg ⟨rfl, rg1, hgr⟩
    replace hB := (hB.front 1 _ rfl).mark rg1 hgr (by intro q hq; simp at hq; rcases hq with rfl | rfl <;> simp <;> omega) (by intro p hp; simp at hp; subst hp; simp; omega) (by simp at s3 ⊢; omega)
    clear hgr rg
    go_wp2_with fail
    refine (heldB1 vg m _ (bools_of_own rg1) hm).mono ?_
    rintro e wh ⟨rfl, hb⟩
    replace hB := hB.on hb
    obtain ⟨c0, c1⟩ := net_cells hB.below
    clear hb rg1
    go_wp2_with fail
    refine (toNet N u A _ (argA_below HV.out hB.base) (by omega)).mono ?_
    rintro e wi ⟨vi, rfl, hown, hb⟩
    have ha := arcs_of_own hown
    replace hB := hB.on hb
    clear hb c0 c1 hown
    go_wp2_with fail
    refine (implMost N A vi z o m (by omega) HZ HO HM _ ha).mono ?_
    rintro e wk ⟨vk, rfl, howk, hb⟩
    replace hB := hB.on hb
    clear hb ha
    have rw_ := (hB.rows ⟨w3.heap.size, w4.heap.size, 4, 1, vw, m, rowB o m⟩ (by simp)).own
    go_wp2_with fail
    refine (eqBools _ _ o m _ (bools_of_own howk) (bools_of_own rw_) (by omega)).mono ?_
    rintro e wl ⟨rfl, nl, rfl⟩
    replace hB := hB.drewN nl
    generalize wk.drewN nl = wl at *
    clear rw_ howk
    have rg := (hB.rows ⟨w6.heap.size, w7.heap.size, 4, 1, vg, m, rowB (third 1) m⟩ (by simp)).own
    go_wp2_with fail
    refine (heldB1 vg m _ (bools_of_own rg) hm).mono ?_
    rintro e wm ⟨rfl, hb⟩
    replace hB := hB.on hb
    clear hb rg
    go_wp2_with fail
    go_ret
    exact ⟨rfl, hB.base⟩
  · have h0 : (1048576 - (A.length : Int)) < 0 := by omega
    go_enter Try.func6, Try.ntmps6
    go_wp2_with fail
    refine (szNet_no N u A hA' h _ (argA_below HV.out hB.base)).mono ?_
    rintro e w1 ⟨rfl, hb⟩
    replace hB := hB.on hb
    clear hb c0 c1
    go_wp2_with fail
    go_ret
    exact ⟨rfl, hB.base⟩
-- LIFT
set_option maxRecDepth 100000 in
theorem lifted (os : Os) (started : os.Started) (H : Type) (enc : TypeId × Value → H) :
    ReturnsInHanded {} Try.checked os 6 .any (Rows.fnExactMostFlowSpec.pre6 enc Try.prog Try.f6 Rows.fnExactMostFlowRow.domain false) (Rows.fnExactMostFlowSpec.post enc Try.prog Try.f6 false true false false) := by
  refine returnsInHanded_of_change (C := Try.checked) own started (by kernel_rfl) Try.func6
    (ChangeSpec.witness6 (enc := enc) (C := Try.checked) false ⟨#[], #[.agg #[.int .i64 0, .slice none 0 0]], []⟩ 8 (by kernel_rfl) (by kernel_rfl) (by kernel_rfl) (by kernel_rfl)) ?_
  intro W base args ds gs before hval0 hW hcnd _
  have hval : ∀ (j : Nat) t v, Try.f6.params[j]? = some t → args[j]? = some v → Value.okWide Try.prog W .any base t v := hval0
  have hW' := hW
  obtain ⟨p, q, hA0, hV, rfl, hfz, hnd⟩ := hW
  have hA : DataW.TrodAll enc Try.prog W 0 (fun _ => true) true Try.f6.params.toList args.toList ds p := hA0
  rw [Try.params6] at hA hval
  obtain ⟨v0, vs0, d0, ds0, p0, q0, hargs, rfl, rfl, h0, r0⟩ := trodAll_cons hA
  obtain ⟨rfl, rfl, rfl⟩ := trodAll_nil r0
  obtain rfl : args = #[v0] := by cases args; simp_all
  obtain ⟨rfl, rfl⟩ := trodVars_none hV
  obtain ⟨N0, u0, A0, hv0, w0, l0⟩ := open_arg_net (hval 0 47 v0 rfl rfl) h0
  subst hv0
  clear hA0 hval0
  simp only [List.append_nil] at hW'
  refine (walk N0 u0 A0 W w0 l0).mono fun e W' ⟨he, hg⟩ => ?_
  subst he
  exact ⟨_, rfl, post_of_below (pa := p0 ++ ([])) (pv := []) hW' (fun _ _ _ => (trodAll_cons_mk (shut_bool Try.underlying4 _) trodAll_mk0)) (fun sp hsp => (trodAll_cons_mk (again_of (by kernel_rfl) (of_decide_eq_true (by kernel_rfl)) h0 (fun x hx => hW'.lt x (by simp [hx])) hg sp (fun p hp => hsp p (by simp [hp]))) trodAll_mk0)) (fun _ _ => rfl) (by simp)
    hg (ok_one (by kernel_rfl) rfl (okWide_bool_mk Try.underlying4 _))⟩

theorem over : Rows.fnExactMostFlowRow.holds Try.pinned (OpenSpec.ofChange Rows.fnExactMostFlowSpec) :=
  OpenClaim.holds_of_wide 6 Try.f6 rfl rfl rfl rfl rfl rfl rfl ⟨rfl, rfl, rfl, rfl, rfl⟩ rfl rfl rfl rfl rfl (by kernel_rfl) Try.func6 (by kernel_rfl)
    (of_decide_eq_true (by kernel_rfl)) (by unfold Func.isWrapper; first | (rw [if_pos (by decide +kernel)]; kernel_rfl) | (rw [if_neg (by decide +kernel)]; exact ⟨rfl, rfl⟩))
    (fun os started H enc _ => lifted os started H enc)

theorem proved : Rows.FnExactMostFlowSaid :=
  over

end Go.Proofs.Ytghhlojjjjnogaa.fnExactMostFlow
