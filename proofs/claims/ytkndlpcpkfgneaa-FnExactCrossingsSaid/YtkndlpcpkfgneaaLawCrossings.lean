/-
  THE LAW FnExactCrossings: at every list of ways the program's Crossings answers as its model and leaves its argument alone. No condition.
-/
import Derived.Test.YtkndlpcpkfgneaaWaySz
import Derived.Test.YtkndlpcpkfgneaaWayTo
import Derived.Test.YtkndlpcpkfgneaaWayEq
import Derived.Test.YtkndlpcpkfgneaaSpecCrossN
import Derived.Test.YtkndlpcpkfgneaaCrossNI
import Derived.Test.YtkndlpcpkfgneaaArgWays
namespace Go.Proofs.Ytkndlpcpkfgneaa.fnExactCrossings
set_option maxRecDepth 4096
open Go.ChangeShapes Go.WideShapes Go.ChangeAt Go.RowKit Go.Joins

set_option maxHeartbeats 1000000 in
theorem walk (v : Value) (Ws : List (List Int)) (w : World) (hv : ArgW w v Ws) (hl : Ws.length ≤ maxLen ∧ ∀ L ∈ Ws, L.length ≤ maxLen) :
    Calls Try.prog 4 #[v] w fun e w' => e = .returned (.bool true) ∧ Below w.heap.size w w' := by
  have hm : maxLen ≤ 9223372036854775807 := by unfold maxLen; omega
  have HZ := Lib.hid (szWays v Ws 1048576 (by omega) (by omega) (Nat.le_trans hl.1 hm) (fun L hL => Nat.le_trans (hl.2 L hL) hm) w hv)
  have HV := Lib.hid hv
  by_cases h : Ws.length + totW Ws ≤ 1048576
  · have e : szV Ws 1048576 = 1048576 - (Ws.length + totW Ws : Nat) := by unfold szV; rw [if_pos (by omega)]
    rw [e] at HZ
    have hW : Ws.length ≤ 2000000 := by omega
    have hT : totW Ws ≤ 2000000 := by omega
    have hL : ∀ L ∈ Ws, L.length ≤ 2000000 := fun L hL => by
      obtain ⟨i, hi, rfl⟩ := List.getElem_of_mem hL
      have := totW_one (List.getElem?_eq_getElem hi)
      omega
    have HLL := Lib.hid hL
    obtain ⟨n, HN⟩ : ∃ n, Hid (crossV13 Ws = n) := ⟨_, rfl⟩
    have h0 : ¬ (1048576 - ((Ws.length + totW Ws : Nat) : Int)) < 0 := by omega
    obtain ⟨z, hz⟩ : ∃ z : Int, 1048576 - ((Ws.length + totW Ws : Nat) : Int) = z := ⟨_, rfl⟩
    rw [hz] at HZ h0
    obtain ⟨av, cv, rfl, _⟩ := hv
    have hnn : (n != n) = false := by simp
    clear hL hl e hz
    go_enter Try.func4, Try.ntmps4
    go_wp2_with fail
    refine HZ.out.mono ?_
    rintro e w1 ⟨rfl, hB⟩
    go_wp2_with fail
    refine (toWays _ Ws _ (argW_below HV.out hB) hW HLL.out).mono ?_
    rintro e w2 ⟨v2, rfl, hown, hb⟩
    obtain ⟨a2, c2, rfl⟩ := hown.form
    replace hB := hB.trans (hb.mono hB.size)
    clear hb
    go_wp2_with fail
    refine (specCrossings _ Ws n hW hT HN _ hown.at).mono ?_
    rintro e w3 ⟨rfl, hb⟩
    replace hB := hB.trans (hb.mono hB.size)
    clear hb
    clear hown
    go_wp2_with fail
    refine (toWays _ Ws _ (argW_below HV.out hB) hW HLL.out).mono ?_
    rintro e w4 ⟨v4, rfl, hown, hb⟩
    obtain ⟨a4, c4, rfl⟩ := hown.form
    replace hB := hB.trans (hb.mono hB.size)
    clear hb
    go_wp2_with fail
    refine (implCrossings _ Ws n hW hT HN _ hown.at).mono ?_
    rintro e w5 ⟨rfl, hb⟩
    replace hB := hB.trans (hb.mono hB.size)
    have ho5 := hown.on hb
    clear hb hown
    go_wp2_with fail
    refine (toWays _ Ws _ (argW_below HV.out hB) hW HLL.out).mono ?_
    rintro e w6 ⟨v6, rfl, hown, hb⟩
    obtain ⟨a6, c6, rfl⟩ := hown.form
    replace hB := hB.trans (hb.mono hB.size)
    have ho6 := ho5.on hb
    clear hb ho5
    go_wp2_with fail
    refine (eqWays _ _ Ws _ ho6.at hown.at hW HLL.out).mono ?_
    rintro e w7 ⟨rfl, hb⟩
    replace hB := hB.trans (hb.mono hB.size)
    clear hb hown ho6
    go_wp2_with fail
    go_ret
    exact ⟨rfl, hB⟩
  · have e : szV Ws 1048576 = -1 := by unfold szV; rw [if_neg (by omega)]
    rw [e] at HZ
    obtain ⟨av, cv, rfl, _⟩ := hv
    clear hl e
    go_enter Try.func4, Try.ntmps4
    go_wp2_with fail
    refine HZ.out.mono ?_
    rintro e w1 ⟨rfl, hB⟩
    go_wp2_with fail
    go_ret
    exact ⟨rfl, hB⟩
-- LIFT
set_option maxRecDepth 100000 in
theorem lifted (os : Os) (started : os.Started) (H : Type) (enc : TypeId × Value → H) :
    ReturnsInHanded {} Try.checked os 4 .any (Rows.fnExactCrossingsSpec.pre6 enc Try.prog Try.f4 Rows.fnExactCrossingsRow.domain false) (Rows.fnExactCrossingsSpec.post enc Try.prog Try.f4 false true false false) := by
  refine returnsInHanded_of_change (C := Try.checked) own started (by kernel_rfl) Try.func4
    (ChangeSpec.witness6 (enc := enc) (C := Try.checked) false ⟨#[], #[.slice none 0 0], []⟩ 8 (by kernel_rfl) (by kernel_rfl) (by kernel_rfl) (by kernel_rfl)) ?_
  intro W base args ds gs before hval0 hW hcnd _
  have hval : ∀ (j : Nat) t v, Try.f4.params[j]? = some t → args[j]? = some v → Value.okWide Try.prog W .any base t v := hval0
  have hW' := hW
  obtain ⟨p, q, hA0, hV, rfl, hfz, hnd⟩ := hW
  have hA : DataW.TrodAll enc Try.prog W 0 (fun _ => true) true Try.f4.params.toList args.toList ds p := hA0
  rw [Try.params4] at hA hval
  obtain ⟨v0, vs0, d0, ds0, p0, q0, hargs, rfl, rfl, h0, r0⟩ := trodAll_cons hA
  obtain ⟨rfl, rfl, rfl⟩ := trodAll_nil r0
  obtain rfl : args = #[v0] := by cases args; simp_all
  obtain ⟨rfl, rfl⟩ := trodVars_none hV
  obtain ⟨L0, w0, l0⟩ := open_arg_ways (hval 0 22 v0 rfl rfl) h0
  clear hA0 hval0
  simp only [List.append_nil] at hW'
  refine (walk v0 L0 W w0 l0).mono fun e W' ⟨he, hg⟩ => ?_
  subst he
  exact ⟨_, rfl, post_of_below (pa := p0 ++ ([])) (pv := []) hW' (fun _ _ _ => (trodAll_cons_mk (shut_bool Try.underlying4 _) trodAll_mk0)) (fun sp hsp => (trodAll_cons_mk (again_of (by kernel_rfl) (of_decide_eq_true (by kernel_rfl)) h0 (fun x hx => hW'.lt x (by simp [hx])) hg sp (fun p hp => hsp p (by simp [hp]))) trodAll_mk0)) (fun _ _ => rfl) (by simp)
    hg (ok_one (by kernel_rfl) rfl (okWide_bool_mk Try.underlying4 _))⟩

theorem over : Rows.fnExactCrossingsRow.holds Try.pinned (OpenSpec.ofChange Rows.fnExactCrossingsSpec) :=
  OpenClaim.holds_of_wide 4 Try.f4 rfl rfl rfl rfl rfl rfl rfl ⟨rfl, rfl, rfl, rfl, rfl⟩ rfl rfl rfl rfl rfl (by kernel_rfl) Try.func4 (by kernel_rfl)
    (of_decide_eq_true (by kernel_rfl)) (by unfold Func.isWrapper; first | (rw [if_pos (by decide +kernel)]; kernel_rfl) | (rw [if_neg (by decide +kernel)]; exact ⟨rfl, rfl⟩))
    (fun os started H enc _ => lifted os started H enc)

theorem proved : Rows.FnExactCrossingsSaid :=
  over

end Go.Proofs.Ytkndlpcpkfgneaa.fnExactCrossings
