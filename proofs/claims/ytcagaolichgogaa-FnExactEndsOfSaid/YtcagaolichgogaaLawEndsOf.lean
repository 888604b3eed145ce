/-
  THE LAW FnExactEndsOf: at every list of ways the program's EndsOf answers as its model, leaves its argument alone, and its answer owns its memory. No condition.
-/
import Derived.Test.YtcagaolichgogaaWaySz
import Derived.Test.YtcagaolichgogaaWayTo
import Derived.Test.YtcagaolichgogaaWayEq
import Derived.Test.YtcagaolichgogaaWayMark
import Derived.Test.YtcagaolichgogaaSpecEnds
import Derived.Test.YtcagaolichgogaaEndsI
import Derived.Test.YtcagaolichgogaaIntsMark
import Derived.Test.YtcagaolichgogaaIntsHeld
import Derived.Test.YtcagaolichgogaaArgWays
namespace Go.Proofs.Ytcagaolichgogaa.fnExactEndsOf
set_option maxRecDepth 4096
open Go.ChangeShapes Go.WideShapes Go.ChangeAt Go.RowKit Go.Joins

theorem held1 (v : Value) (n : Nat) (w : World) (h : Ints w v (nums 1 n)) (hn : n ≤ 2000000) :
    Calls Try.prog 16 #[v, .int .i64 1] w (Made w (.int .i64 ((1 + n : Nat) : Int))) :=
  heldInts v 1 n w h (by omega)
theorem mark1 (v : Value) (B n : Nat) (xs : List Value) (w : World) (hown : w.ownsRow B 3 1 v n xs) (hn : n ≤ 2000000) :
    Calls Try.prog 15 #[v, .int .i64 1] w (MarkedI w B 3 v 1 n) :=
  markInts v B 1 n xs w hown (by omega)
theorem markw1 (v : Value) (lo hi : Nat) (Ws : List (List Int)) (w : World) (h : WOwn w lo hi v Ws) (hW : Ws.length ≤ 2000000) (hT : totW Ws ≤ 2000000) :
    Calls Try.prog 14 #[v, .int .i64 1] w (MarkedW w lo hi v Ws 1) :=
  markWays v lo hi 1 Ws w h hW (by omega)
theorem own_nums {w : World} {B : Nat} {T : TypeId} {v : Value} {n : Nat} (h : w.ownsRow B T 1 v n ((nums 1 n).map (Value.int .i64))) : w.ownsRow B T 1 v (nums 1 n).length ((nums 1 n).map (Value.int .i64)) := by
  rw [length_nums]
  exact h

set_option maxHeartbeats 2000000 in
theorem walk (v : Value) (Ws : List (List Int)) (w : World) (hv : ArgW w v Ws) (hl : Ws.length ≤ maxLen ∧ ∀ L ∈ Ws, L.length ≤ maxLen) :
    Calls Try.prog 4 #[v] w fun e w' => e = .returned (.bool true) ∧ Below w.heap.size w w' := by
  have hm : maxLen ≤ 9223372036854775807 := by unfold maxLen; omega
  have HZ := Lib.hid (szWays v Ws 1048576 (by omega) (by omega) (Nat.le_trans hl.1 hm) (fun L hL => Nat.le_trans (hl.2 L hL) hm) w hv)
  have HV := Lib.hid hv
  by_cases h : Ws.length + totW Ws ≤ 1048576
  · have e : szV Ws 1048576 = 1048576 - (Ws.length + totW Ws : Nat) := by unfold szV; rw [if_pos (by omega)]
    rw [e] at HZ
    have hW : Ws.length ≤ 2000000 := by omega
    have hT : totW Ws ≤ 2000000 := by omega
    have hL : ∀ L ∈ Ws, L.length ≤ 2000000 := fun L hL => by
      obtain ⟨i, hi, rfl⟩ := List.getElem_of_mem hL
      have := totW_one (List.getElem?_eq_getElem hi)
      omega
    have HLL := Lib.hid hL
    obtain ⟨R, HR⟩ : ∃ R, Hid (onceL (lastsL Ws) = R) := ⟨_, rfl⟩
    have hfew : R.length ≤ 2000000 := by
      have h1 := once_len (lastsL Ws)
      have h2 : (lastsL Ws).length ≤ totW Ws := lasts_len Ws
      rw [← HR.out]
      omega
    have h0 : ¬ (1048576 - ((Ws.length + totW Ws : Nat) : Int)) < 0 := by omega
    obtain ⟨z, hz⟩ : ∃ z : Int, 1048576 - ((Ws.length + totW Ws : Nat) : Int) = z := ⟨_, rfl⟩
    rw [hz] at HZ h0
    obtain ⟨kk, HKK⟩ : ∃ kk : Int, Hid (((1 + totW Ws : Nat) : Int) = kk) := ⟨_, rfl⟩
    have hk0 : ¬ kk < 0 := by have := HKK.out; omega
    obtain ⟨av, cv, rfl, _⟩ := hv
    clear hL hl e hz
    go_enter Try.func4, Try.ntmps4
    go_wp2_with fail
    refine HZ.out.mono ?_
    rintro e w1 ⟨rfl, hB⟩
    go_wp2_with fail
    refine (toWays _ Ws _ (argW_below HV.out hB) hW HLL.out).mono ?_
    rintro e w2 ⟨v2, rfl, hown, hb⟩
    obtain ⟨a2, c2, rfl⟩ := hown.form
    replace hB := hB.trans (hb.mono hB.size)
    clear hb
    go_wp2_with fail
    refine (specEnds _ Ws R hW hT HR _ hown.at).mono ?_
    rintro e w3 ⟨v0, rfl, hown0, hb⟩
    have hr0 := row_new hown0
    replace hB := hB.trans (hb.mono hB.size)
    obtain ⟨a0, c0, rfl⟩ := own_form hown0
    clear hown hb hown0
    go_wp2_with fail
    refine (toWays _ Ws _ (argW_below HV.out hB) hW HLL.out).mono ?_
    rintro e w4 ⟨v4, rfl, hox, hb⟩
    obtain ⟨a4, c4, rfl⟩ := hox.form
    have hs3 := hB.size
    have hs34 := hb.size
    replace hB := hB.trans (hb.mono hB.size)
    have hsw4 := hB.size
    replace hr0 := hr0.on hb
    clear hb
    go_wp2_with fail
    refine (implEnds _ Ws R hW hT HR _ hox.at).mono ?_
    rintro e w5 ⟨v1, rfl, hown1, hb⟩
    have hr1 := row_new hown1
    replace hB := hB.trans (hb.mono hB.size)
    replace hr0 := hr0.on hb
    replace hox := hox.on hb
    obtain ⟨a1, c1, rfl⟩ := own_form hown1
    clear hb hown1
    go_wp2_with fail
    refine (eqInts _ _ R _ (ints_of_own hr1.own) (ints_of_own hr0.own) hfew).mono ?_
    rintro e w6 ⟨rfl, n6, rfl⟩
    replace hB := below_drewN hB n6
    replace hr0 := hr0.drewN n6
    replace hr1 := hr1.drewN n6
    replace hox := hox.drewN n6
    go_wp2_with fail
    refine (toWays _ Ws _ (argW_below HV.out hB) hW HLL.out).mono ?_
    rintro e w7 ⟨v7, rfl, ho7, hb⟩
    obtain ⟨a7, c7, rfl⟩ := ho7.form
    replace hB := hB.trans (hb.mono hB.size)
    replace hr0 := hr0.on hb
    replace hr1 := hr1.on hb
    replace hox := hox.on hb
    clear hb
    go_wp2_with fail
    refine (eqWays _ _ Ws _ hox.at ho7.at hW HLL.out).mono ?_
    rintro e w8 ⟨rfl, hb⟩
    replace hB := hB.trans (hb.mono hB.size)
    replace hr0 := hr0.on hb
    replace hr1 := hr1.on hb
    replace hox := hox.on hb
    clear hb ho7
    go_wp2_with fail
    refine (markw1 _ _ _ Ws _ hox hW hT).mono ?_
    rintro e w9 ⟨rfl, _, hwi⟩
    rw [HKK.out]
    have hle := hox.le
    replace hr0 := hwi.row hr0 (.inl (Nat.le_refl _))
    replace hr1 := hwi.row hr1 (.inr (Nat.le_refl _))
    replace hB := hB.trans (hwi.below (B := w.heap.size) hs3 (by omega))
    clear hwi hox hle
    go_wp2_with fail
    refine (eqInts _ _ R _ (ints_of_own hr1.own) (ints_of_own hr0.own) hfew).mono ?_
    rintro e wa ⟨rfl, na, rfl⟩
    replace hB := below_drewN hB na
    replace hr0 := hr0.drewN na
    replace hr1 := hr1.drewN na
    go_wp2_with fail
    refine (mark1 _ _ R.length _ _ hr1.own hfew).mono ?_
    rintro e wb ⟨rfl, hownb, hgb⟩
    have hr0b := hr0.grown hr1 (.inl (by dsimp only; omega)) hgb
    have hlb := hr1.own.lt
    replace hB := hB.grown hgb hB.size (fun j hj => by have := (hr1.own.lt j hj).1; dsimp only at this; omega)
    have hrb : RowD.At ⟨_, _, 3, 1, _, (nums 1 R.length).length, (nums 1 R.length).map (Value.int .i64)⟩ wb := ⟨own_nums hownb, hr1.lt, Nat.le_trans hr1.le hgb.size⟩
    clear hr0 hr1 hownb hgb hlb
    go_wp2_with fail
    refine (held1 _ R.length _ (ints_of_own hrb.own) hfew).mono ?_
    rintro e wc ⟨rfl, hb⟩
    replace hB := hB.trans (hb.mono hB.size)
    replace hr0b := hr0b.on hb
    replace hrb := hrb.on hb
    clear hb
    go_wp2_with fail
    refine (toWays _ Ws _ (argW_below HV.out hB) hW HLL.out).mono ?_
    rintro e wd ⟨vd, rfl, hod, hb⟩
    obtain ⟨ad, cd, rfl⟩ := hod.form
    replace hB := hB.trans (hb.mono hB.size)
    replace hr0b := hr0b.on hb
    replace hrb := hrb.on hb
    clear hb
    go_wp2_with fail
    refine (implEnds _ Ws R hW hT HR _ hod.at).mono ?_
    rintro e we ⟨ve, rfl, howne, hb⟩
    replace hB := hB.trans (hb.mono hB.size)
    replace hr0b := hr0b.on hb
    replace hrb := hrb.on hb
    obtain ⟨ae, ce, rfl⟩ := own_form howne
    clear hb hod
    go_wp2_with fail
    refine (eqInts _ _ R _ (ints_of_own howne) (ints_of_own hr0b.own) hfew).mono ?_
    rintro e wf ⟨rfl, nf, rfl⟩
    replace hB := below_drewN hB nf
    replace hrb := hrb.drewN nf
    clear howne hr0b
    go_wp2_with fail
    refine (held1 _ R.length _ (ints_of_own hrb.own) hfew).mono ?_
    rintro e wg ⟨rfl, hb⟩
    replace hB := hB.trans (hb.mono hB.size)
    clear hb hrb
    go_wp2_with fail
    go_ret
    exact ⟨rfl, hB⟩
  · have e : szV Ws 1048576 = -1 := by unfold szV; rw [if_neg (by omega)]
    rw [e] at HZ
    obtain ⟨av, cv, rfl, _⟩ := hv
    clear hl e
    go_enter Try.func4, Try.ntmps4
    go_wp2_with fail
    refine HZ.out.mono ?_
    rintro e w1 ⟨rfl, hB⟩
    go_wp2_with fail
    go_ret
    exact ⟨rfl, hB⟩
-- LIFT
set_option maxRecDepth 100000 in
theorem lifted (os : Os) (started : os.Started) (H : Type) (enc : TypeId × Value → H) :
    ReturnsInHanded {} Try.checked os 4 .any (Rows.fnExactEndsOfSpec.pre6 enc Try.prog Try.f4 Rows.fnExactEndsOfRow.domain false) (Rows.fnExactEndsOfSpec.post enc Try.prog Try.f4 false true false false) := by
  refine returnsInHanded_of_change (C := Try.checked) own started (by kernel_rfl) Try.func4
    (ChangeSpec.witness6 (enc := enc) (C := Try.checked) false ⟨#[], #[.slice none 0 0], []⟩ 8 (by kernel_rfl) (by kernel_rfl) (by kernel_rfl) (by kernel_rfl)) ?_
  intro W base args ds gs before hval0 hW hcnd _
  have hval : ∀ (j : Nat) t v, Try.f4.params[j]? = some t → args[j]? = some v → Value.okWide Try.prog W .any base t v := hval0
  have hW' := hW
  obtain ⟨p, q, hA0, hV, rfl, hfz, hnd⟩ := hW
  have hA : DataW.TrodAll enc Try.prog W 0 (fun _ => true) true Try.f4.params.toList args.toList ds p := hA0
  rw [Try.params4] at hA hval
  obtain ⟨v0, vs0, d0, ds0, p0, q0, hargs, rfl, rfl, h0, r0⟩ := trodAll_cons hA
  obtain ⟨rfl, rfl, rfl⟩ := trodAll_nil r0
  obtain rfl : args = #[v0] := by cases args; simp_all
  obtain ⟨rfl, rfl⟩ := trodVars_none hV
  obtain ⟨L0, w0, l0⟩ := open_arg_ways (hval 0 22 v0 rfl rfl) h0
  clear hA0 hval0
  simp only [List.append_nil] at hW'
  refine (walk v0 L0 W w0 l0).mono fun e W' ⟨he, hg⟩ => ?_
  subst he
  exact ⟨_, rfl, post_of_below (pa := p0 ++ ([])) (pv := []) hW' (fun _ _ _ => (trodAll_cons_mk (shut_bool Try.underlying4 _) trodAll_mk0)) (fun sp hsp => (trodAll_cons_mk (again_of (by kernel_rfl) (of_decide_eq_true (by kernel_rfl)) h0 (fun x hx => hW'.lt x (by simp [hx])) hg sp (fun p hp => hsp p (by simp [hp]))) trodAll_mk0)) (fun _ _ => rfl) (by simp)
    hg (ok_one (by kernel_rfl) rfl (okWide_bool_mk Try.underlying4 _))⟩

theorem over : Rows.fnExactEndsOfRow.holds Try.pinned (OpenSpec.ofChange Rows.fnExactEndsOfSpec) :=
  OpenClaim.holds_of_wide 4 Try.f4 rfl rfl rfl rfl rfl rfl rfl ⟨rfl, rfl, rfl, rfl, rfl⟩ rfl rfl rfl rfl rfl (by kernel_rfl) Try.func4 (by kernel_rfl)
    (of_decide_eq_true (by kernel_rfl)) (by unfold Func.isWrapper; first | (rw [if_pos (by decide +kernel)]; kernel_rfl) | (rw [if_neg (by decide +kernel)]; exact ⟨rfl, rfl⟩))
    (fun os started H enc _ => lifted os started H enc)

theorem proved : Rows.FnExactEndsOfSaid :=
  over

end Go.Proofs.Ytcagaolichgogaa.fnExactEndsOf
