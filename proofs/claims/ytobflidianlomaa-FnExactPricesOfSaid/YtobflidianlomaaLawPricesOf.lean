/-
  THE LAW FnExactPricesOf: at every net and list the program's PricesOf answers as its model, leaves its arguments alone, and its answer owns its memory. No condition.
-/
import Derived.Test.YtobflidianlomaaIntsEq
import Derived.Test.YtobflidianlomaaIntsMark
import Derived.Test.YtobflidianlomaaIntsHeld
import Derived.Test.YtobflidianlomaaPricesI
import Derived.Test.YtobflidianlomaaSpecPrices
import Derived.Test.YtobflidianlomaaNetEq
import Derived.Test.YtobflidianlomaaArgNet
import Derived.Test.YtobflidianlomaaArgInts
import Derived.Deep.RegionHeld3
namespace Go.Proofs.Ytobflidianlomaa.fnExactPricesOf
set_option maxRecDepth 4096
open Go.ChangeShapes Go.WideShapes Go.ChangeAt Go.RowKit Go.Joins

theorem prices_len (N : Int) (A : List ArcD) (F : List Int) : (pricesV N A F).length ≤ 3200 := by
  unfold pricesV
  split
  · rename_i h
    obtain ⟨⟨_, h15⟩, _, _⟩ := netOk_out (flowOk_out (priceOk_iff.1 h).1).1
    rw [rowO_len]
    omega
  · exact Nat.zero_le _
theorem mark1 (v : Value) (B n : Nat) (xs : List Value) (w : World) (hown : w.ownsRow B 66 4 v n xs) (N : Int) (hn : n ≤ 1048576) :
    Calls Try.prog 21 #[.agg #[.int .i64 N, v], .int .i64 1] w (MarkedA w B v 1 n) :=
  markNet N v B 1 n xs w hown (by omega)
theorem markI1 (v : Value) (B n : Nat) (xs : List Value) (w : World) (hown : w.ownsRow B 3 1 v n xs) (hn : n ≤ 3200) :
    Calls Try.prog 22 #[v, .int .i64 1] w (MarkedI w B 3 v 1 n) := markInts v B 1 n xs w hown (by omega)
theorem heldI1 (v : Value) (n : Nat) (w : World) (h : Ints w v (nums 1 n)) (hn : n ≤ 3200) :
    Calls Try.prog 23 #[v, .int .i64 1] w (Made w (.int .i64 ((1 + n : Nat) : Int))) := heldInts v 1 n w h (by omega)
theorem own_nums {w : World} {B : Nat} {T : TypeId} {v : Value} {n : Nat} (h : w.ownsRow B T 1 v n ((nums 1 n).map (Value.int .i64))) : w.ownsRow B T 1 v (nums 1 n).length ((nums 1 n).map (Value.int .i64)) := by
  rw [length_nums]
  exact h

set_option maxHeartbeats 4000000 in
theorem walk (N : Int) (u : Value) (A : List ArcD) (v : Value) (F : List Int) (w : World) (hv : ArgA w u A) (hA : A.length ≤ maxLen) (hf : ArgI w v F) (hF : F.length ≤ maxLen) :
    Calls Try.prog 4 #[.agg #[.int .i64 N, u], v] w fun e w' => e = .returned (.bool true) ∧ Below w.heap.size w w' := by
  have hA' : A.length ≤ 9223372036854775807 := by unfold maxLen at hA; omega
  have hF' : F.length ≤ 9223372036854775807 := by unfold maxLen at hF; omega
  have hB := LSt.start w (.cells #[.int .i64 N, u] 39)
  obtain ⟨c0, c1⟩ := net_cells hB.below
  have HV := Lib.hid hv
  obtain ⟨av, cv, rfl, HFv⟩ := hf
  have HF := Lib.hid (show ArgI w (.slice av F.length cv) F from ⟨av, cv, rfl, HFv⟩)
  clear hv HFv
  by_cases hl : F.length ≤ 1048576
  · have hl0 : ¬ (1048576 : Int) < (F.length : Int) := by omega
    by_cases h : A.length ≤ 1048576
    · obtain ⟨R, HR⟩ : ∃ R, Hid (pricesV N A F = R) := ⟨_, rfl⟩
      obtain ⟨b, HB9⟩ : ∃ b, Hid (priceOk N A F = b) := ⟨_, rfl⟩
      have hm : R.length ≤ 3200 := by rw [← HR.out]; exact prices_len N A F
      have hbb : (b != b) = false := by simp
      have h0 : ¬ (1048576 - (A.length : Int)) < 0 := by omega
      go_enter Try.func4, Try.ntmps4
      go_wp2_with fail
      refine (szNet_yes N u A h _ (argA_below HV.out hB.base)).mono ?_
      rintro e w1 ⟨rfl, hb⟩
      replace hB := hB.on hb
      obtain ⟨c0, c1⟩ := net_cells hB.below
      clear hb
      go_wp2_with fail
      refine (toNet N u A _ (argA_below HV.out hB.base) (by omega)).mono ?_
      rintro e w2 ⟨v1, rfl, hown, hb⟩
      replace hB := hB.on hb
      clear hb c0 c1
      go_wp2_with fail
      refine (toInts _ F _ (argI_below HF.out hB.base) (by omega)).mono ?_
      rintro e w3 ⟨f1, rfl, hownf, hb⟩
      have ha := arcs_on (arcs_of_own hown) hb
      replace hB := hB.on hb
      have s3 := hB.below.size
      clear hb hown
      go_wp2_with fail
      refine (specPrices N A F R v1 f1 b (by omega) (by omega) HR HB9 _ ha (ints_of_own hownf)).mono ?_
      rintro e w4 ⟨vw, rfl, howw, hb⟩
      have s4 := hb.size
      replace hB := hB.call howw hb
      obtain ⟨c0, c1⟩ := net_cells hB.below
      clear hb hownf ha howw
      go_wp2_with fail
      refine (toNet N u A _ (argA_below HV.out hB.base) (by omega)).mono ?_
      rintro e w5 ⟨v2, rfl, hown, hb⟩
      have s5 := hb.size
      obtain ⟨a2, k2, rfl⟩ := own_form hown
      replace hB := (hB.call hown hb).box (.cells #[.int .i64 N, .slice a2 A.length k2] 26)
      clear hb c0 c1 hown
      go_wp2_with fail
      refine (toInts _ F _ (argI_below HF.out hB.base) (by omega)).mono ?_
      rintro e w6 ⟨f2, rfl, hownf, hb⟩
      have s6 := hb.size
      rw [World.size_alloc] at s6
      replace hB := hB.call hownf hb
      rw [World.size_alloc] at hB
      obtain ⟨_, _, c2, c3, _⟩ := held_net hB (List.mem_cons_self ..) (Below.refl _ _)
      clear hb hownf
      go_wp2_with fail
      have rx := (hB.rows ⟨w4.heap.size, w5.heap.size, 66, 4, .slice a2 A.length k2, A.length, cellsA A⟩ (by simp)).own
      have rf := (hB.rows _ (List.mem_cons_self ..)).own
      refine (implPrices N A F R _ f2 b (by omega) (by omega) HR HB9 _ (arcs_of_own rx) (ints_of_own rf)).mono ?_
      rintro e w7 ⟨vg, rfl, howg, hb⟩
      have s7 := hb.size
      replace hB := hB.call howg hb
      clear hb howg rx rf c2 c3
      have rg := (hB.rows _ (List.mem_cons_self ..)).own
      have rw_ := (hB.rows ⟨w3.heap.size, w4.heap.size, 3, 1, vw, R.length, R.map (Value.int .i64)⟩ (by simp)).own
      go_wp2_with fail
      refine (eqInts _ _ R _ (ints_of_own rg) (ints_of_own rw_) (by omega)).mono ?_
      rintro e w8 ⟨rfl, n8, rfl⟩
      replace hB := hB.drewN n8
      obtain ⟨c0, c1, c2, c3, hB8⟩ := held_net hB (List.mem_cons_self ..) (Below.refl _ _)
      generalize w7.drewN n8 = w8 at *
      have HN := Lib.hid hB8.drew
      clear rg rw_ hB hB8
      go_wp2_with fail
      obtain ⟨K, HK⟩ : ∃ K : List (Nat × Obj), K = [(w5.heap.size, Obj.cells #[.int .i64 N, .slice a2 A.length k2] 26)] := ⟨_, rfl⟩
      obtain ⟨Q, HQ⟩ : ∃ Q : List RowD, Q = [⟨w6.heap.size, w7.heap.size, 3, 1, vg, R.length, R.map (Value.int .i64)⟩, ⟨w5.heap.size + 1, w6.heap.size, 3, 1, f2, F.length, F.map (Value.int .i64)⟩, ⟨w4.heap.size, w5.heap.size, 66, 4, .slice a2 A.length k2, A.length, cellsA A⟩, ⟨w3.heap.size, w4.heap.size, 3, 1, vw, R.length, R.map (Value.int .i64)⟩] := ⟨_, rfl⟩
      rw [← HK, ← HQ] at HN
      have hKX : (w5.heap.size, Obj.cells #[.int .i64 N, .slice a2 A.length k2] 26) ∈ K := by rw [HK]; exact List.mem_cons_self ..
      have hRX : (⟨w4.heap.size, w5.heap.size, 66, 4, .slice a2 A.length k2, A.length, cellsA A⟩ : RowD) ∈ Q := by rw [HQ]; simp
      have HHK := Lib.hid HK
      have HHR := Lib.hid HQ
      clear HK HQ
      go_region_held3 (fun w' => w'.cell? ⟨w.heap.size, 0, none⟩ = some (.int .i64 N) ∧ w'.cell? ⟨w.heap.size, 1, none⟩ = some u ∧ w'.cell? ⟨w5.heap.size, 0, none⟩ = some (.int .i64 N) ∧ w'.cell? ⟨w5.heap.size, 1, none⟩ = some (.slice a2 A.length k2) ∧ LSt w (.cells #[.int .i64 N, u] 39) K Q w')
        (first | exact hS | exact ⟨c0, c1, c2, c3, HN.out⟩ | go_keep)
        (first
          | (go_at_call 17; (try go_split_ands); have hK : LSt w (.cells #[.int .i64 N, u] 39) K Q _ := (by assumption); (with_reducible refine (toNet N u A _ (argA_below HV.out hK.base) (by omega)).mono ?_); rintro e w9 ⟨v9, rfl, hown9, hb⟩; (try go_split_ands); have hS := held_net hK hKX hb; have hv9 := arcs_of_own hown9; have hv2 := arcs_of_own ((hS.2.2.2.2).rows _ hRX).own; clear hb hown9)
          | (go_at_call 20; (try go_split_ands); have hK : LSt w (.cells #[.int .i64 N, u] 39) K Q _ := (by assumption); (with_reducible refine (eqNet N _ _ A _ (by assumption) (by assumption) (by omega)).mono ?_); rintro e wa ⟨rfl, hb⟩; (try go_split_ands); have hS := held_net hK hKX hb; clear hb))
      have hB := hS.2.2.2.2
      rw [HHK.out, HHR.out] at hB
      clear hS HHK HHR hKX hRX HN
      go_wp2_with fail
      refine (toInts _ F _ (argI_below HF.out hB.base) (by omega)).mono ?_
      rintro e wb ⟨f3, rfl, hown3, hb⟩
      replace hB := hB.on hb
      clear hb
      have rf := (hB.rows ⟨w5.heap.size + 1, w6.heap.size, 3, 1, f2, F.length, F.map (Value.int .i64)⟩ (by simp)).own
      go_wp2_with fail
      refine (eqInts _ _ F _ (ints_of_own rf) (ints_of_own hown3) (by omega)).mono ?_
      rintro e wc ⟨rfl, nc, rfl⟩
      replace hB := hB.drewN nc
      clear rf hown3
      generalize wb.drewN nc = wc at *
      obtain ⟨_, _, c2, c3, _⟩ := held_net hB (List.mem_cons_self ..) (Below.refl _ _)
      have rx := (hB.rows ⟨w4.heap.size, w5.heap.size, 66, 4, .slice a2 A.length k2, A.length, cellsA A⟩ (by simp)).own
      go_wp2_with fail
      refine (mark1 _ _ A.length _ wc rx N h).mono ?_
      rintro e wd ⟨rfl, ⟨xs1, rx1⟩, hgr⟩
      replace hB := (hB.front 2 _ rfl).mark rx1 hgr (by intro q hq; simp at hq; rcases hq with rfl | rfl | rfl <;> simp <;> omega) (by intro p hp; simp at hp; subst hp; simp) (by simp at s3 ⊢; omega)
      clear hgr rx rx1 c2 c3
      have rf := (hB.rows ⟨w5.heap.size + 1, w6.heap.size, 3, 1, f2, F.length, F.map (Value.int .i64)⟩ (by simp)).own
      have hk1 : ¬ ((1 + A.length * 4 : Nat) : Int) < 0 := by omega
      go_wp2_with fail
      refine (markInts f2 (w5.heap.size + 1) (1 + A.length * 4) F.length _ wd rf (by omega)).mono ?_
      rintro e we ⟨rfl, rf1, hgr⟩
      replace hB := (hB.front 2 _ rfl).mark rf1 hgr (by intro q hq; simp at hq; rcases hq with rfl | rfl | rfl <;> simp <;> omega) (by intro p hp; simp at hp; subst hp; simp) (by simp at s3 ⊢; omega)
      clear hgr rf rf1 hk1
      have hk1 : ¬ ((1 + A.length * 4 + F.length : Nat) : Int) < 0 := by omega
      have rg := (hB.rows ⟨w6.heap.size, w7.heap.size, 3, 1, vg, R.length, R.map (Value.int .i64)⟩ (by simp)).own
      have rw_ := (hB.rows ⟨w3.heap.size, w4.heap.size, 3, 1, vw, R.length, R.map (Value.int .i64)⟩ (by simp)).own
      go_wp2_with fail
      refine (eqInts _ _ R _ (ints_of_own rg) (ints_of_own rw_) (by omega)).mono ?_
      rintro e wf ⟨rfl, nf, rfl⟩
      replace hB := hB.drewN nf
      generalize we.drewN nf = wf at *
      clear rg rw_ hk1
      have rg := (hB.rows ⟨w6.heap.size, w7.heap.size, 3, 1, vg, R.length, R.map (Value.int .i64)⟩ (by simp)).own
      go_wp2_with fail
      refine (markI1 vg _ R.length _ wf rg hm).mono ?_
      rintro e wg ⟨rfl, rg1, hgr⟩
      replace hB := (hB.front 2 _ rfl).mark rg1 hgr (by intro q hq; simp at hq; rcases hq with rfl | rfl | rfl <;> simp <;> omega) (by intro p hp; simp at hp; subst hp; simp; omega) (by simp at s3 ⊢; omega)
      clear hgr rg
      go_wp2_with fail
      refine (heldI1 vg R.length _ (ints_of_own (own_nums rg1)) hm).mono ?_
      rintro e wh ⟨rfl, hb⟩
      replace hB := hB.on hb
      obtain ⟨c0, c1⟩ := net_cells hB.below
      clear hb rg1
      go_wp2_with fail
      refine (toNet N u A _ (argA_below HV.out hB.base) (by omega)).mono ?_
      rintro e wi ⟨vi, rfl, hown, hb⟩
      replace hB := hB.on hb
      clear hb c0 c1
      go_wp2_with fail
      refine (toInts _ F _ (argI_below HF.out hB.base) (by omega)).mono ?_
      rintro e wj ⟨fj, rfl, hownf, hb⟩
      have ha := arcs_on (arcs_of_own hown) hb
      replace hB := hB.on hb
      clear hb hown
      go_wp2_with fail
      refine (implPrices N A F R vi fj b (by omega) (by omega) HR HB9 _ ha (ints_of_own hownf)).mono ?_
      rintro e wk ⟨vk, rfl, howk, hb⟩
      replace hB := hB.on hb
      clear hb ha hownf
      have rw_ := (hB.rows ⟨w3.heap.size, w4.heap.size, 3, 1, vw, R.length, R.map (Value.int .i64)⟩ (by simp)).own
      go_wp2_with fail
      refine (eqInts _ _ R _ (ints_of_own howk) (ints_of_own rw_) (by omega)).mono ?_
      rintro e wl ⟨rfl, nl, rfl⟩
      replace hB := hB.drewN nl
      generalize wk.drewN nl = wl at *
      clear rw_ howk
      have rg := (hB.rows ⟨w6.heap.size, w7.heap.size, 3, 1, vg, R.length, (nums 1 R.length).map (Value.int .i64)⟩ (by simp)).own
      go_wp2_with fail
      refine (heldI1 vg R.length _ (ints_of_own (own_nums rg)) hm).mono ?_
      rintro e wm ⟨rfl, hb⟩
      replace hB := hB.on hb
      clear hb rg
      go_wp2_with fail
      go_ret
      exact ⟨rfl, hB.base⟩
    · have h0 : (1048576 - (A.length : Int)) < 0 := by omega
      go_enter Try.func4, Try.ntmps4
      go_wp2_with fail
      refine (szNet_no N u A hA' h _ (argA_below HV.out hB.base)).mono ?_
      rintro e w1 ⟨rfl, hb⟩
      replace hB := hB.on hb
      clear hb c0 c1
      go_wp2_with fail
      go_ret
      exact ⟨rfl, hB.base⟩
  · have hl0 : (1048576 : Int) < (F.length : Int) := by omega
    go_enter Try.func4, Try.ntmps4
    go_wp2_with fail
    go_ret
    exact ⟨rfl, hB.base⟩
-- LIFT
set_option maxRecDepth 100000 in
theorem lifted (os : Os) (started : os.Started) (H : Type) (enc : TypeId × Value → H) :
    ReturnsInHanded {} Try.checked os 4 .any (Rows.fnExactPricesOfSpec.pre6 enc Try.prog Try.f4 Rows.fnExactPricesOfRow.domain false) (Rows.fnExactPricesOfSpec.post enc Try.prog Try.f4 false true false false) := by
  refine returnsInHanded_of_change (C := Try.checked) own started (by kernel_rfl) Try.func4
    (ChangeSpec.witness6 (enc := enc) (C := Try.checked) false ⟨#[], #[.agg #[.int .i64 0, .slice none 0 0], .slice none 0 0], []⟩ 8 (by kernel_rfl) (by kernel_rfl) (by kernel_rfl) (by kernel_rfl)) ?_
  intro W base args ds gs before hval0 hW hcnd _
  have hval : ∀ (j : Nat) t v, Try.f4.params[j]? = some t → args[j]? = some v → Value.okWide Try.prog W .any base t v := hval0
  have hW' := hW
  obtain ⟨p, q, hA0, hV, rfl, hfz, hnd⟩ := hW
  have hA : DataW.TrodAll enc Try.prog W 0 (fun _ => true) true Try.f4.params.toList args.toList ds p := hA0
  rw [Try.params4] at hA hval
  obtain ⟨v0, vs0, d0, ds0, p0, q0, hargs, rfl, rfl, h0, r0⟩ := trodAll_cons hA
  obtain ⟨v1, vs1, d1, ds1, p1, q1, rfl, rfl, rfl, h1, r1⟩ := trodAll_cons r0
  obtain ⟨rfl, rfl, rfl⟩ := trodAll_nil r1
  obtain rfl : args = #[v0, v1] := by cases args; simp_all
  obtain ⟨rfl, rfl⟩ := trodVars_none hV
  obtain ⟨N0, u0, A0, hv0, w0, l0⟩ := open_arg_net (hval 0 39 v0 rfl rfl) h0
  subst hv0
  obtain ⟨L1, w1, l1, again1⟩ := open_arg_ints (hval 1 27 v1 rfl rfl) h1
  clear hA0 hval0
  simp only [List.append_nil] at hW'
  refine (walk N0 u0 A0 v1 L1 W w0 l0 w1 l1).mono fun e W' ⟨he, hg⟩ => ?_
  subst he
  exact ⟨_, rfl, post_of_below (pa := p0 ++ (p1 ++ ([]))) (pv := []) hW' (fun _ _ _ => (trodAll_cons_mk (shut_bool Try.underlying4 _) trodAll_mk0)) (fun sp hsp => (trodAll_cons_mk (again_of (by kernel_rfl) (of_decide_eq_true (by kernel_rfl)) h0 (fun x hx => hW'.lt x (by simp [hx])) hg sp (fun p hp => hsp p (by simp [hp]))) (trodAll_cons_mk (again1 W' hg sp (fun p hp => hsp p (by simp [hp]))) trodAll_mk0))) (fun _ _ => rfl) (by simp)
    hg (ok_one (by kernel_rfl) rfl (okWide_bool_mk Try.underlying4 _))⟩

theorem over : Rows.fnExactPricesOfRow.holds Try.pinned (OpenSpec.ofChange Rows.fnExactPricesOfSpec) :=
  OpenClaim.holds_of_wide 4 Try.f4 rfl rfl rfl rfl rfl rfl rfl ⟨rfl, rfl, rfl, rfl, rfl⟩ rfl rfl rfl rfl rfl (by kernel_rfl) Try.func4 (by kernel_rfl)
    (of_decide_eq_true (by kernel_rfl)) (by unfold Func.isWrapper; first | (rw [if_pos (by decide +kernel)]; kernel_rfl) | (rw [if_neg (by decide +kernel)]; exact ⟨rfl, rfl⟩))
    (fun os started H enc _ => lifted os started H enc)

theorem proved : Rows.FnExactPricesOfSaid :=
  over

end Go.Proofs.Ytobflidianlomaa.fnExactPricesOf
