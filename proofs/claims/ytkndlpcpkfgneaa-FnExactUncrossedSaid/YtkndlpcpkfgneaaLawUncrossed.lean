/-
  THE LAW FnExactUncrossed: at every list of ways the program's Uncrossed answers as its model, leaves its argument alone, and its answer owns its memory. No condition.
-/
import Derived.Test.YtkndlpcpkfgneaaWaySz
import Derived.Test.YtkndlpcpkfgneaaWayTo
import Derived.Test.YtkndlpcpkfgneaaWayEq
import Derived.Test.YtkndlpcpkfgneaaWayHeld
import Derived.Test.YtkndlpcpkfgneaaSpecUnc
import Derived.Test.YtkndlpcpkfgneaaUncI
import Derived.Test.YtkndlpcpkfgneaaArgWays
namespace Go.Proofs.Ytkndlpcpkfgneaa.fnExactUncrossed
set_option maxRecDepth 4096
open Go.ChangeShapes Go.WideShapes Go.ChangeAt Go.RowKit Go.Joins

theorem few {Ws : List (List Int)} (h : totW Ws ≤ 2000000) : ∀ L ∈ Ws, L.length ≤ 2000000 := fun L hL => by
  obtain ⟨i, hi, rfl⟩ := List.getElem_of_mem hL
  have := totW_one (List.getElem?_eq_getElem hi)
  omega
theorem res_few {Ws R : List (List Int)} (hW : Ws.length ≤ 1048576) (hT : totW Ws ≤ 1048576) (HR : Hid (resV Ws = R)) : R.length ≤ 1048576 ∧ totW R ≤ 1048576 := by
  rw [← HR.out]
  unfold resV
  by_cases h : regV Ws = true
  · rw [if_pos h]
    have he := (reg_iff.1 h).1
    rw [unc_len, ← now_last (c := wideV Ws) (by omega), tot_now he]
    exact ⟨hW, hT⟩
  · rw [if_neg h]
    exact ⟨Nat.zero_le _, Nat.zero_le _⟩
theorem markw1 (v : Value) (lo hi : Nat) (Ws : List (List Int)) (w : World) (h : WOwn w lo hi v Ws) (hW : Ws.length ≤ 2000000) (hn : totW Ws ≤ 2000000) : Calls Try.prog 11 #[v, .int .i64 1] w (MarkedW w lo hi v Ws 1) :=
  markWays v lo hi 1 Ws w h hW (by omega)
theorem heldw1 (v : Value) (Ws : List (List Int)) (w : World) (h : WaysAt w v (numsW 1 Ws)) (hW : Ws.length ≤ 2000000) (hn : totW Ws ≤ 2000000) : Calls Try.prog 12 #[v, .int .i64 1] w (Made w (.int .i64 ((1 + totW Ws : Nat) : Int))) :=
  heldWays v 1 Ws w h hW (by omega)

set_option maxHeartbeats 4000000 in
theorem walk (v : Value) (Ws : List (List Int)) (w : World) (hv : ArgW w v Ws) (hl : Ws.length ≤ maxLen ∧ ∀ L ∈ Ws, L.length ≤ maxLen) :
    Calls Try.prog 3 #[v] w fun e w' => e = .returned (.bool true) ∧ Below w.heap.size w w' := by
  have hm : maxLen ≤ 9223372036854775807 := by unfold maxLen; omega
  have HZ := Lib.hid (szWays v Ws 1048576 (by omega) (by omega) (Nat.le_trans hl.1 hm) (fun L hL => Nat.le_trans (hl.2 L hL) hm) w hv)
  have HV := Lib.hid hv
  by_cases h : Ws.length + totW Ws ≤ 1048576
  · have e : szV Ws 1048576 = 1048576 - (Ws.length + totW Ws : Nat) := by unfold szV; rw [if_pos (by omega)]
    rw [e] at HZ
    have hW : Ws.length ≤ 2000000 := by omega
    have hT : totW Ws ≤ 1048576 := by omega
    have HT2 : Hid (totW Ws ≤ 2000000) := Lib.hid (by omega)
    have HLL := Lib.hid (few HT2.out)
    obtain ⟨R, HR⟩ : ∃ R, Hid (resV Ws = R) := ⟨_, rfl⟩
    obtain ⟨b, HB⟩ : ∃ b, Hid (regV Ws = b) := ⟨_, rfl⟩
    obtain ⟨hRl, hRt⟩ := res_few (by omega) hT HR
    have hR2 : R.length ≤ 2000000 := by omega
    have hRt2 : totW R ≤ 2000000 := by omega
    have HRL := Lib.hid (few hRt2)
    have h0 : ¬ (1048576 - ((Ws.length + totW Ws : Nat) : Int)) < 0 := by omega
    obtain ⟨z, hz⟩ : ∃ z : Int, 1048576 - ((Ws.length + totW Ws : Nat) : Int) = z := ⟨_, rfl⟩
    rw [hz] at HZ h0
    obtain ⟨av, cv, rfl, _⟩ := hv
    have hbb : (b != b) = false := by simp
    clear hl e hz hRl hRt
    go_enter Try.func3, Try.ntmps3
    go_wp2_with fail
    refine HZ.out.mono ?_
    rintro e w1 ⟨rfl, hB⟩
    go_wp2_with fail
    refine (toWays _ Ws _ (argW_below HV.out hB) hW HLL.out).mono ?_
    rintro e w2 ⟨v2, rfl, hown, hb⟩
    obtain ⟨a2, c2, rfl⟩ := hown.form
    replace hB := hB.trans (hb.mono hB.size)
    clear hb
    go_wp2_with fail
    refine (specUncrossed _ Ws b R hW hT HB HR _ hown.at).mono ?_
    rintro e w5 ⟨v0, rfl, how0, hb⟩
    obtain ⟨a0, k0, rfl, _⟩ := id how0
    replace hB := hB.trans (hb.mono hB.size)
    have HW0 := Lib.hid how0
    have s5 : w.heap.size ≤ w5.heap.size := hB.size
    clear hb hown how0
    go_wp2_with fail
    refine (toWays _ Ws _ (argW_below HV.out hB) hW HLL.out).mono ?_
    rintro e w6 ⟨x0, rfl, hx0, hb⟩
    obtain ⟨ax, cx, rfl⟩ := hx0.form
    have h5 := hb
    have s6 := hb.size
    replace hB := hB.trans (hb.mono hB.size)
    clear hb
    go_wp2_with fail
    refine (implUncrossed _ Ws b R hW HT2.out HB HR _ hx0.at).mono ?_
    rintro e w7 ⟨g0, rfl, hg0, hb⟩
    obtain ⟨ag, cg, rfl⟩ := hg0.form
    have s7 := hb.size
    replace hx0 := hx0.on hb
    replace h5 := h5.trans (hb.mono s6)
    replace hB := hB.trans (hb.mono hB.size)
    clear hb
    go_wp2_with fail
    refine (eqWays _ _ R _ hg0.at (waysAt_on HW0.out h5) hR2 HRL.out).mono ?_
    rintro e w8 ⟨rfl, hb⟩
    replace hx0 := hx0.on hb
    replace hg0 := hg0.on hb
    replace h5 := h5.trans (hb.mono (by omega))
    replace hB := hB.trans (hb.mono hB.size)
    clear hb
    go_wp2_with fail
    refine (toWays _ Ws _ (argW_below HV.out hB) hW HLL.out).mono ?_
    rintro e w9 ⟨v9, rfl, hown, hb⟩
    obtain ⟨a9, c9, rfl⟩ := hown.form
    replace hx0 := hx0.on hb
    replace hg0 := hg0.on hb
    replace h5 := h5.trans (hb.mono h5.size)
    replace hB := hB.trans (hb.mono hB.size)
    clear hb
    go_wp2_with fail
    refine (eqWays _ _ Ws _ hx0.at hown.at hW HLL.out).mono ?_
    rintro e wa ⟨rfl, hb⟩
    replace hx0 := hx0.on hb
    replace hg0 := hg0.on hb
    replace h5 := h5.trans (hb.mono h5.size)
    replace hB := hB.trans (hb.mono hB.size)
    clear hb hown
    go_wp2_with fail
    have hxl := hx0.le
    refine (markw1 _ _ _ Ws _ hx0 hW HT2.out).mono ?_
    rintro e wb ⟨rfl, hom, hwi⟩
    replace hg0 := hwi.ways hg0 (.inr (Nat.le_refl _))
    replace h5 := h5.trans (hwi.below (B := w5.heap.size) (Nat.le_refl _) (by omega))
    replace hB := hB.trans (hwi.below (B := w.heap.size) s5 (by omega))
    clear hwi hom hx0
    have hk0 : ¬ (((1 + totW Ws : Nat) : Int)) < 0 := by omega
    go_wp2_with fail
    refine (eqWays _ _ R _ hg0.at (waysAt_on HW0.out h5) hR2 HRL.out).mono ?_
    rintro e wc ⟨rfl, hb⟩
    replace hg0 := hg0.on hb
    replace h5 := h5.trans (hb.mono h5.size)
    replace hB := hB.trans (hb.mono hB.size)
    clear hb
    have hgl := hg0.le
    go_wp2_with fail
    refine (markw1 _ _ _ R _ hg0 hR2 hRt2).mono ?_
    rintro e wd ⟨rfl, hom, hwi⟩
    replace h5 := h5.trans (hwi.below (B := w5.heap.size) s6 (by omega))
    replace hB := hB.trans (hwi.below (B := w.heap.size) (Nat.le_trans s5 s6) (by omega))
    clear hwi hg0
    have hk1 : ¬ (((1 + totW R : Nat) : Int)) < 0 := by omega
    have hk2 : ((((1 + totW R : Nat) : Int)) != (((1 + totW R : Nat) : Int))) = false := by simp
    go_wp2_with fail
    refine (heldw1 _ R _ hom.at hR2 hRt2).mono ?_
    rintro e we ⟨rfl, hb⟩
    replace hom := hom.on hb
    replace h5 := h5.trans (hb.mono h5.size)
    replace hB := hB.trans (hb.mono hB.size)
    clear hb
    go_wp2_with fail
    refine (toWays _ Ws _ (argW_below HV.out hB) hW HLL.out).mono ?_
    rintro e wf ⟨v9, rfl, hown, hb⟩
    obtain ⟨a9, c9, rfl⟩ := hown.form
    replace hom := hom.on hb
    replace h5 := h5.trans (hb.mono h5.size)
    replace hB := hB.trans (hb.mono hB.size)
    clear hb
    go_wp2_with fail
    refine (implUncrossed _ Ws b R hW HT2.out HB HR _ hown.at).mono ?_
    rintro e wg ⟨h0', rfl, hh0, hb⟩
    obtain ⟨ah, ch, rfl⟩ := hh0.form
    replace hom := hom.on hb
    replace h5 := h5.trans (hb.mono h5.size)
    replace hB := hB.trans (hb.mono hB.size)
    clear hb hown
    go_wp2_with fail
    refine (eqWays _ _ R _ hh0.at (waysAt_on HW0.out h5) hR2 HRL.out).mono ?_
    rintro e wh ⟨rfl, hb⟩
    replace hom := hom.on hb
    replace hB := hB.trans (hb.mono hB.size)
    clear hb hh0 h5
    go_wp2_with fail
    refine (heldw1 _ R _ hom.at hR2 hRt2).mono ?_
    rintro e wi ⟨rfl, hb⟩
    have HE := Lib.hid (hB.trans (hb.mono hB.size))
    clear hb hom hB
    go_wp2_with fail
    go_ret
    exact ⟨rfl, HE.out⟩
  · have e : szV Ws 1048576 = -1 := by unfold szV; rw [if_neg (by omega)]
    rw [e] at HZ
    obtain ⟨av, cv, rfl, _⟩ := hv
    clear hl e
    go_enter Try.func3, Try.ntmps3
    go_wp2_with fail
    refine HZ.out.mono ?_
    rintro e w1 ⟨rfl, hB⟩
    go_wp2_with fail
    go_ret
    exact ⟨rfl, hB⟩
-- LIFT
set_option maxRecDepth 100000 in
theorem lifted (os : Os) (started : os.Started) (H : Type) (enc : TypeId × Value → H) :
    ReturnsInHanded {} Try.checked os 3 .any (Rows.fnExactUncrossedSpec.pre6 enc Try.prog Try.f3 Rows.fnExactUncrossedRow.domain false) (Rows.fnExactUncrossedSpec.post enc Try.prog Try.f3 false true false false) := by
  refine returnsInHanded_of_change (C := Try.checked) own started (by kernel_rfl) Try.func3
    (ChangeSpec.witness6 (enc := enc) (C := Try.checked) false ⟨#[], #[.slice none 0 0], []⟩ 8 (by kernel_rfl) (by kernel_rfl) (by kernel_rfl) (by kernel_rfl)) ?_
  intro W base args ds gs before hval0 hW hcnd _
  have hval : ∀ (j : Nat) t v, Try.f3.params[j]? = some t → args[j]? = some v → Value.okWide Try.prog W .any base t v := hval0
  have hW' := hW
  obtain ⟨p, q, hA0, hV, rfl, hfz, hnd⟩ := hW
  have hA : DataW.TrodAll enc Try.prog W 0 (fun _ => true) true Try.f3.params.toList args.toList ds p := hA0
  rw [Try.params3] at hA hval
  obtain ⟨v0, vs0, d0, ds0, p0, q0, hargs, rfl, rfl, h0, r0⟩ := trodAll_cons hA
  obtain ⟨rfl, rfl, rfl⟩ := trodAll_nil r0
  obtain rfl : args = #[v0] := by cases args; simp_all
  obtain ⟨rfl, rfl⟩ := trodVars_none hV
  obtain ⟨L0, w0, l0⟩ := open_arg_ways (hval 0 22 v0 rfl rfl) h0
  clear hA0 hval0
  simp only [List.append_nil] at hW'
  refine (walk v0 L0 W w0 l0).mono fun e W' ⟨he, hg⟩ => ?_
  subst he
  exact ⟨_, rfl, post_of_below (pa := p0 ++ ([])) (pv := []) hW' (fun _ _ _ => (trodAll_cons_mk (shut_bool Try.underlying4 _) trodAll_mk0)) (fun sp hsp => (trodAll_cons_mk (again_of (by kernel_rfl) (of_decide_eq_true (by kernel_rfl)) h0 (fun x hx => hW'.lt x (by simp [hx])) hg sp (fun p hp => hsp p (by simp [hp]))) trodAll_mk0)) (fun _ _ => rfl) (by simp)
    hg (ok_one (by kernel_rfl) rfl (okWide_bool_mk Try.underlying4 _))⟩

theorem over : Rows.fnExactUncrossedRow.holds Try.pinned (OpenSpec.ofChange Rows.fnExactUncrossedSpec) :=
  OpenClaim.holds_of_wide 3 Try.f3 rfl rfl rfl rfl rfl rfl rfl ⟨rfl, rfl, rfl, rfl, rfl⟩ rfl rfl rfl rfl rfl (by kernel_rfl) Try.func3 (by kernel_rfl)
    (of_decide_eq_true (by kernel_rfl)) (by unfold Func.isWrapper; first | (rw [if_pos (by decide +kernel)]; kernel_rfl) | (rw [if_neg (by decide +kernel)]; exact ⟨rfl, rfl⟩))
    (fun os started H enc _ => lifted os started H enc)

theorem proved : Rows.FnExactUncrossedSaid :=
  over

end Go.Proofs.Ytkndlpcpkfgneaa.fnExactUncrossed
