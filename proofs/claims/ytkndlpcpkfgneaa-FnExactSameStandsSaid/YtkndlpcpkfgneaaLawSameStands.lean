/-
  THE LAW FnExactSameStands: at every two lists of ways the program's SameStands answers as its model and leaves its arguments alone. No condition.
-/
import Derived.Test.YtkndlpcpkfgneaaWaySz
import Derived.Test.YtkndlpcpkfgneaaWayTo
import Derived.Test.YtkndlpcpkfgneaaWayEq
import Derived.Test.YtkndlpcpkfgneaaSpecStands
import Derived.Test.YtkndlpcpkfgneaaSameI
import Derived.Test.YtkndlpcpkfgneaaArgWays
namespace Go.Proofs.Ytkndlpcpkfgneaa.fnExactSameStands
set_option maxRecDepth 4096
open Go.ChangeShapes Go.WideShapes Go.ChangeAt Go.RowKit Go.Joins

theorem few {Ws : List (List Int)} (h : totW Ws ≤ 2000000) : ∀ L ∈ Ws, L.length ≤ 2000000 := fun L hL => by
  obtain ⟨i, hi, rfl⟩ := List.getElem_of_mem hL
  have := totW_one (List.getElem?_eq_getElem hi)
  omega

set_option maxHeartbeats 2000000 in
theorem walk (v : Value) (Ws : List (List Int)) (u : Value) (Us : List (List Int)) (w : World) (hv : ArgW w v Ws) (hl : Ws.length ≤ maxLen ∧ ∀ L ∈ Ws, L.length ≤ maxLen) (hu : ArgW w u Us) (hm : Us.length ≤ maxLen ∧ ∀ L ∈ Us, L.length ≤ maxLen) :
    Calls Try.prog 5 #[v, u] w fun e w' => e = .returned (.bool true) ∧ Below w.heap.size w w' := by
  have hx : maxLen ≤ 9223372036854775807 := by unfold maxLen; omega
  have HZ := Lib.hid (szWays v Ws 1048576 (by omega) (by omega) (Nat.le_trans hl.1 hx) (fun L hL => Nat.le_trans (hl.2 L hL) hx) w hv)
  have HY : Hid (∀ (left : Int) wr, 0 ≤ left → left ≤ 1048576 → Below w.heap.size w wr → Calls Try.prog 6 #[u, .int .i64 left] wr (Made wr (.int .i64 (szV Us left)))) := Lib.hid fun left wr h0 h1 hB => szWays u Us left h0 h1 (Nat.le_trans hm.1 hx) (fun L hL => Nat.le_trans (hm.2 L hL) hx) wr (argW_below hu hB)
  have HV := Lib.hid hv
  have HU := Lib.hid hu
  by_cases h : Ws.length + totW Ws ≤ 1048576
  · have e : szV Ws 1048576 = 1048576 - (Ws.length + totW Ws : Nat) := by unfold szV; rw [if_pos (by omega)]
    rw [e] at HZ
    have hW : Ws.length ≤ 2000000 := by omega
    have HT : Hid (totW Ws ≤ 2000000) := Lib.hid (by omega)
    have HLL := Lib.hid (few HT.out)
    have h0 : ¬ (1048576 - ((Ws.length + totW Ws : Nat) : Int)) < 0 := by omega
    obtain ⟨z, hz⟩ : ∃ z : Int, 1048576 - ((Ws.length + totW Ws : Nat) : Int) = z := ⟨_, rfl⟩
    have hzle : z ≤ 1048576 := by omega
    rw [hz] at HZ h0
    have HY2 := Lib.hid (fun wr hB => HY.out z wr (by omega) (by omega) hB)
    by_cases h2 : (Us.length + totW Us : Nat) ≤ z
    · have e2 : szV Us z = z - (Us.length + totW Us : Nat) := by unfold szV; rw [if_pos (by omega)]
      rw [e2] at HY2
      have hW2 : Us.length ≤ 2000000 := by omega
      have HT2 : Hid (totW Us ≤ 2000000) := Lib.hid (by omega)
      have HLL2 := Lib.hid (few HT2.out)
      have h02 : ¬ (z - ((Us.length + totW Us : Nat) : Int)) < 0 := by omega
      obtain ⟨y, hy⟩ : ∃ y : Int, z - ((Us.length + totW Us : Nat) : Int) = y := ⟨_, rfl⟩
      rw [hy] at HY2 h02
      obtain ⟨b, HN⟩ : ∃ b, Hid (sameV Ws Us = b) := ⟨_, rfl⟩
      obtain ⟨av, cv, rfl, _⟩ := hv
      obtain ⟨au, cu, rfl, _⟩ := hu
      have hbb : (b != b) = false := by simp
      clear hl hm e e2 hz hy HY h h2
      go_enter Try.func5, Try.ntmps5
      go_wp2_with fail
      refine HZ.out.mono ?_
      rintro e w1 ⟨rfl, hB⟩
      go_wp2_with fail
      refine (HY2.out _ hB).mono ?_
      rintro e w1 ⟨rfl, hb⟩
      replace hB := hB.trans (hb.mono hB.size)
      clear hb
      go_wp2_with fail
      refine (toWays _ Ws _ (argW_below HV.out hB) hW HLL.out).mono ?_
      rintro e w2 ⟨v2, rfl, hown, hb⟩
      obtain ⟨a2, c2, rfl⟩ := hown.form
      replace hB := hB.trans (hb.mono hB.size)
      clear hb
      go_wp2_with fail
      refine (toWays _ Us _ (argW_below HU.out hB) hW2 HLL2.out).mono ?_
      rintro e w3 ⟨v3, rfl, hown3, hb⟩
      obtain ⟨a3, c3, rfl⟩ := hown3.form
      replace hB := hB.trans (hb.mono hB.size)
      replace hown := hown.on hb
      clear hb
      go_wp2_with fail
      refine (specSame13 _ _ Ws Us b hW HT.out hW2 HT2.out HN _ hown.at hown3.at).mono ?_
      rintro e w4 ⟨rfl, hb⟩
      replace hB := hB.trans (hb.mono hB.size)
      clear hb hown hown3
      go_wp2_with fail
      refine (toWays _ Ws _ (argW_below HV.out hB) hW HLL.out).mono ?_
      rintro e w2 ⟨v2, rfl, hx0, hb⟩
      obtain ⟨a2, c2, rfl⟩ := hx0.form
      replace hB := hB.trans (hb.mono hB.size)
      clear hb
      go_wp2_with fail
      refine (toWays _ Us _ (argW_below HU.out hB) hW2 HLL2.out).mono ?_
      rintro e w3 ⟨v3, rfl, hx1, hb⟩
      obtain ⟨a3, c3, rfl⟩ := hx1.form
      replace hB := hB.trans (hb.mono hB.size)
      replace hx0 := hx0.on hb
      clear hb
      go_wp2_with fail
      refine (implSame _ _ Ws Us b hW HT.out hW2 HT2.out HN _ hx0.at hx1.at).mono ?_
      rintro e w4 ⟨rfl, hb⟩
      replace hB := hB.trans (hb.mono hB.size)
      replace hx0 := hx0.on hb
      replace hx1 := hx1.on hb
      clear hb
      go_wp2_with fail
      refine (toWays _ Ws _ (argW_below HV.out hB) hW HLL.out).mono ?_
      rintro e w6 ⟨v6, rfl, hown, hb⟩
      obtain ⟨a6, c6, rfl⟩ := hown.form
      replace hB := hB.trans (hb.mono hB.size)
      replace hx0 := hx0.on hb
      replace hx1 := hx1.on hb
      clear hb
      go_wp2_with fail
      refine (eqWays _ _ Ws _ hx0.at hown.at hW HLL.out).mono ?_
      rintro e w7 ⟨rfl, hb⟩
      replace hB := hB.trans (hb.mono hB.size)
      replace hx1 := hx1.on hb
      clear hb hown hx0
      go_wp2_with fail
      refine (toWays _ Us _ (argW_below HU.out hB) hW2 HLL2.out).mono ?_
      rintro e w6 ⟨v6, rfl, hown, hb⟩
      obtain ⟨a6, c6, rfl⟩ := hown.form
      replace hB := hB.trans (hb.mono hB.size)
      replace hx1 := hx1.on hb
      clear hb
      go_wp2_with fail
      refine (eqWays _ _ Us _ hx1.at hown.at hW2 HLL2.out).mono ?_
      rintro e w7 ⟨rfl, hb⟩
      replace hB := hB.trans (hb.mono hB.size)
      clear hb hown hx1
      go_wp2_with fail
      go_ret
      exact ⟨rfl, hB⟩
    · have e2 : szV Us z = -1 := by unfold szV; rw [if_neg (by omega)]
      rw [e2] at HY2
      obtain ⟨av, cv, rfl, _⟩ := hv
      obtain ⟨au, cu, rfl, _⟩ := hu
      clear hl hm e e2 hz HY h h2
      go_enter Try.func5, Try.ntmps5
      go_wp2_with fail
      refine HZ.out.mono ?_
      rintro e w1 ⟨rfl, hB⟩
      go_wp2_with fail
      refine (HY2.out _ hB).mono ?_
      rintro e w1 ⟨rfl, hb⟩
      replace hB := hB.trans (hb.mono hB.size)
      clear hb
      go_wp2_with fail
      go_ret
      exact ⟨rfl, hB⟩
  · have e : szV Ws 1048576 = -1 := by unfold szV; rw [if_neg (by omega)]
    rw [e] at HZ
    obtain ⟨av, cv, rfl, _⟩ := hv
    obtain ⟨au, cu, rfl, _⟩ := hu
    clear hl e
    go_enter Try.func5, Try.ntmps5
    go_wp2_with fail
    refine HZ.out.mono ?_
    rintro e w1 ⟨rfl, hB⟩
    go_wp2_with fail
    go_ret
    exact ⟨rfl, hB⟩
-- LIFT
set_option maxRecDepth 100000 in
theorem lifted (os : Os) (started : os.Started) (H : Type) (enc : TypeId × Value → H) :
    ReturnsInHanded {} Try.checked os 5 .any (Rows.fnExactSameStandsSpec.pre6 enc Try.prog Try.f5 Rows.fnExactSameStandsRow.domain false) (Rows.fnExactSameStandsSpec.post enc Try.prog Try.f5 false true false false) := by
  refine returnsInHanded_of_change (C := Try.checked) own started (by kernel_rfl) Try.func5
    (ChangeSpec.witness6 (enc := enc) (C := Try.checked) false ⟨#[], #[.slice none 0 0, .slice none 0 0], []⟩ 8 (by kernel_rfl) (by kernel_rfl) (by kernel_rfl) (by kernel_rfl)) ?_
  intro W base args ds gs before hval0 hW hcnd _
  have hval : ∀ (j : Nat) t v, Try.f5.params[j]? = some t → args[j]? = some v → Value.okWide Try.prog W .any base t v := hval0
  have hW' := hW
  obtain ⟨p, q, hA0, hV, rfl, hfz, hnd⟩ := hW
  have hA : DataW.TrodAll enc Try.prog W 0 (fun _ => true) true Try.f5.params.toList args.toList ds p := hA0
  rw [Try.params5] at hA hval
  obtain ⟨v0, vs0, d0, ds0, p0, q0, hargs, rfl, rfl, h0, r0⟩ := trodAll_cons hA
  obtain ⟨v1, vs1, d1, ds1, p1, q1, rfl, rfl, rfl, h1, r1⟩ := trodAll_cons r0
  obtain ⟨rfl, rfl, rfl⟩ := trodAll_nil r1
  obtain rfl : args = #[v0, v1] := by cases args; simp_all
  obtain ⟨rfl, rfl⟩ := trodVars_none hV
  obtain ⟨L0, w0, l0⟩ := open_arg_ways (hval 0 22 v0 rfl rfl) h0
  obtain ⟨L1, w1, l1⟩ := open_arg_ways (hval 1 22 v1 rfl rfl) h1
  clear hA0 hval0
  simp only [List.append_nil] at hW'
  refine (walk v0 L0 v1 L1 W w0 l0 w1 l1).mono fun e W' ⟨he, hg⟩ => ?_
  subst he
  exact ⟨_, rfl, post_of_below (pa := p0 ++ (p1 ++ ([]))) (pv := []) hW' (fun _ _ _ => (trodAll_cons_mk (shut_bool Try.underlying4 _) trodAll_mk0)) (fun sp hsp => (trodAll_cons_mk (again_of (by kernel_rfl) (of_decide_eq_true (by kernel_rfl)) h0 (fun x hx => hW'.lt x (by simp [hx])) hg sp (fun p hp => hsp p (by simp [hp]))) (trodAll_cons_mk (again_of (by kernel_rfl) (of_decide_eq_true (by kernel_rfl)) h1 (fun x hx => hW'.lt x (by simp [hx])) hg sp (fun p hp => hsp p (by simp [hp]))) trodAll_mk0))) (fun _ _ => rfl) (by simp)
    hg (ok_one (by kernel_rfl) rfl (okWide_bool_mk Try.underlying4 _))⟩

theorem over : Rows.fnExactSameStandsRow.holds Try.pinned (OpenSpec.ofChange Rows.fnExactSameStandsSpec) :=
  OpenClaim.holds_of_wide 5 Try.f5 rfl rfl rfl rfl rfl rfl rfl ⟨rfl, rfl, rfl, rfl, rfl⟩ rfl rfl rfl rfl rfl (by kernel_rfl) Try.func5 (by kernel_rfl)
    (of_decide_eq_true (by kernel_rfl)) (by unfold Func.isWrapper; first | (rw [if_pos (by decide +kernel)]; kernel_rfl) | (rw [if_neg (by decide +kernel)]; exact ⟨rfl, rfl⟩))
    (fun os started H enc _ => lifted os started H enc)

theorem proved : Rows.FnExactSameStandsSaid :=
  over

end Go.Proofs.Ytkndlpcpkfgneaa.fnExactSameStands
