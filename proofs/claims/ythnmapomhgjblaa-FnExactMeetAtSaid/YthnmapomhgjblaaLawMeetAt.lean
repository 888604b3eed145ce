/-
  THE LAW FnExactMeetAt: at every list of ways and every time the program's MeetAt answers as its model and leaves its argument alone. No condition.
-/
import Derived.Test.YthnmapomhgjblaaWaySz
import Derived.Test.YthnmapomhgjblaaWayTo
import Derived.Test.YthnmapomhgjblaaWayEq
import Derived.Test.YthnmapomhgjblaaArgWays
import Derived.Test.YthnmapomhgjblaaSpecMeet
import Derived.Test.YthnmapomhgjblaaMeetI
namespace Go.Proofs.Ythnmapomhgjblaa.fnExactMeetAt
set_option maxRecDepth 4096
open Go.ChangeShapes Go.WideShapes Go.ChangeAt Go.RowKit Go.Joins

set_option maxHeartbeats 1000000 in
theorem walk (v : Value) (Ws : List (List Int)) (t : Int) (wt : (Lit.int .i64 t).wf = true) (w : World) (hv : ArgW w v Ws) (hl : Ws.length ≤ maxLen ∧ ∀ L ∈ Ws, L.length ≤ maxLen) :
    Calls Try.prog 4 #[v, .int .i64 t] w fun e w' => e = .returned (.bool true) ∧ Below w.heap.size w w' := by
  have hm : maxLen ≤ 9223372036854775807 := by unfold maxLen; omega
  have HWT := Lib.hid wt
  have HZ := Lib.hid (szWays v Ws 1048576 (by omega) (by omega) (Nat.le_trans hl.1 hm) (fun L hL => Nat.le_trans (hl.2 L hL) hm) w hv)
  have HV := Lib.hid hv
  clear wt
  by_cases h : Ws.length + totW Ws ≤ 1048576
  · have e : szV Ws 1048576 = 1048576 - (Ws.length + totW Ws : Nat) := by unfold szV; rw [if_pos (by omega)]
    rw [e] at HZ
    have hW : Ws.length ≤ 2000000 := by omega
    have hT : totW Ws ≤ 2000000 := by omega
    have hL : ∀ L ∈ Ws, L.length ≤ 2000000 := fun L hL => by
      obtain ⟨i, hi, rfl⟩ := List.getElem_of_mem hL
      have := totW_one (List.getElem?_eq_getElem hi)
      omega
    have HLL := Lib.hid hL
    obtain ⟨n, HN⟩ : ∃ n, Hid (meetV Ws t = n) := ⟨_, rfl⟩
    have h0 : ¬ (1048576 - ((Ws.length + totW Ws : Nat) : Int)) < 0 := by omega
    obtain ⟨z, hz⟩ : ∃ z : Int, 1048576 - ((Ws.length + totW Ws : Nat) : Int) = z := ⟨_, rfl⟩
    rw [hz] at HZ h0
    obtain ⟨av, cv, rfl, _⟩ := hv
    have hnn : (n != n) = false := by simp
    clear hL hl e hz
    go_enter Try.func4, Try.ntmps4
    go_wp2_with fail
    refine HZ.out.mono ?_
    rintro e w1 ⟨rfl, hB⟩
    go_wp2_with fail
    refine (toWays _ Ws _ (argW_below HV.out hB) hW HLL.out).mono ?_
    rintro e w2 ⟨v2, rfl, hown, hb⟩
    obtain ⟨a2, c2, rfl⟩ := hown.form
    replace hB := hB.trans (hb.mono hB.size)
    clear hb
    go_wp2_with fail
    refine (specMeet _ Ws t n hW hT HN _ hown.at HWT.out).mono ?_
    rintro e w3 ⟨rfl, hb⟩
    replace hB := hB.trans (hb.mono hB.size)
    clear hown hb
    go_wp2_with fail
    refine (toWays _ Ws _ (argW_below HV.out hB) hW HLL.out).mono ?_
    rintro e w4 ⟨v4, rfl, hown, hb⟩
    obtain ⟨a4, c4, rfl⟩ := hown.form
    replace hB := hB.trans (hb.mono hB.size)
    clear hb
    go_wp2_with fail
    refine (implMeet _ Ws t n hW hT HN _ hown.at HWT.out).mono ?_
    rintro e w5 ⟨rfl, hb⟩
    replace hB := hB.trans (hb.mono hB.size)
    have ho5 := hown.on hb
    clear hb hown
    go_wp2_with fail
    refine (toWays _ Ws _ (argW_below HV.out hB) hW HLL.out).mono ?_
    rintro e w6 ⟨v6, rfl, hown, hb⟩
    obtain ⟨a6, c6, rfl⟩ := hown.form
    replace hB := hB.trans (hb.mono hB.size)
    have ho6 := ho5.on hb
    clear hb ho5
    go_wp2_with fail
    refine (eqWays _ _ Ws _ ho6.at hown.at hW HLL.out).mono ?_
    rintro e w7 ⟨rfl, hb⟩
    replace hB := hB.trans (hb.mono hB.size)
    clear hb hown ho6
    go_wp2_with fail
    go_ret
    exact ⟨rfl, hB⟩
  · have e : szV Ws 1048576 = -1 := by unfold szV; rw [if_neg (by omega)]
    rw [e] at HZ
    obtain ⟨av, cv, rfl, _⟩ := hv
    clear hl e
    go_enter Try.func4, Try.ntmps4
    go_wp2_with fail
    refine HZ.out.mono ?_
    rintro e w1 ⟨rfl, hB⟩
    go_wp2_with fail
    go_ret
    exact ⟨rfl, hB⟩
-- LIFT
set_option maxRecDepth 100000 in
theorem lifted (os : Os) (started : os.Started) (H : Type) (enc : TypeId × Value → H) :
    ReturnsInHanded {} Try.checked os 4 .any (Rows.fnExactMeetAtSpec.pre6 enc Try.prog Try.f4 Rows.fnExactMeetAtRow.domain false) (Rows.fnExactMeetAtSpec.post enc Try.prog Try.f4 false true false false) := by
  refine returnsInHanded_of_change (C := Try.checked) own started (by kernel_rfl) Try.func4
    (ChangeSpec.witness6 (enc := enc) (C := Try.checked) false ⟨#[], #[.slice none 0 0, .int .i64 0], []⟩ 8 (by kernel_rfl) (by kernel_rfl) (by kernel_rfl) (by kernel_rfl)) ?_
  intro W base args ds gs before hval0 hW hcnd _
  have hval : ∀ (j : Nat) t v, Try.f4.params[j]? = some t → args[j]? = some v → Value.okWide Try.prog W .any base t v := hval0
  have hW' := hW
  obtain ⟨p, q, hA0, hV, rfl, hfz, hnd⟩ := hW
  have hA : DataW.TrodAll enc Try.prog W 0 (fun _ => true) true Try.f4.params.toList args.toList ds p := hA0
  rw [Try.params4] at hA hval
  obtain ⟨v0, vs0, d0, ds0, p0, q0, hargs, rfl, rfl, h0, r0⟩ := trodAll_cons hA
  obtain ⟨v1, vs1, d1, ds1, p1, q1, rfl, rfl, rfl, h1, r1⟩ := trodAll_cons r0
  obtain ⟨rfl, rfl, rfl⟩ := trodAll_nil r1
  obtain rfl : args = #[v0, v1] := by cases args; simp_all
  obtain ⟨rfl, rfl⟩ := trodVars_none hV
  obtain ⟨L0, w0, l0⟩ := open_arg_ways (hval 0 22 v0 rfl rfl) h0
  obtain ⟨a1, rfl, rfl, rfl, w1⟩ := open_int Try.underlying3 (hval 1 3 v1 rfl rfl) h1
  clear hA0 hval0
  simp only [List.append_nil] at hW'
  refine (walk v0 L0 a1 w1 W w0 l0).mono fun e W' ⟨he, hg⟩ => ?_
  subst he
  exact ⟨_, rfl, post_of_below (pa := p0 ++ (([] : List MemPlace) ++ ([]))) (pv := []) hW' (fun _ _ _ => (trodAll_cons_mk (shut_bool Try.underlying4 _) trodAll_mk0)) (fun sp hsp => (trodAll_cons_mk (again_of (by kernel_rfl) (of_decide_eq_true (by kernel_rfl)) h0 (fun x hx => hW'.lt x (by simp [hx])) hg sp (fun p hp => hsp p (by simp [hp]))) (trodAll_cons_mk (shut_int Try.underlying3 w1) trodAll_mk0))) (fun _ _ => rfl) (by simp)
    hg (ok_one (by kernel_rfl) rfl (okWide_bool_mk Try.underlying4 _))⟩

theorem over : Rows.fnExactMeetAtRow.holds Try.pinned (OpenSpec.ofChange Rows.fnExactMeetAtSpec) :=
  OpenClaim.holds_of_wide 4 Try.f4 rfl rfl rfl rfl rfl rfl rfl ⟨rfl, rfl, rfl, rfl, rfl⟩ rfl rfl rfl rfl rfl (by kernel_rfl) Try.func4 (by kernel_rfl)
    (of_decide_eq_true (by kernel_rfl)) (by unfold Func.isWrapper; first | (rw [if_pos (by decide +kernel)]; kernel_rfl) | (rw [if_neg (by decide +kernel)]; exact ⟨rfl, rfl⟩))
    (fun os started H enc _ => lifted os started H enc)

theorem proved : Rows.FnExactMeetAtSaid :=
  over

end Go.Proofs.Ythnmapomhgjblaa.fnExactMeetAt
