/-
  THE LAW FnExactWalled: at every grid and every list of cells the program's Walled answers as its model and leaves its arguments alone. No condition.
-/
import Derived.Test.YtcofajganakbiaaArgInts
import Derived.Lib.SmallJoins
namespace Go.Proofs.Ytcofajganakbiaa.fnExactWalled
open Go.ChangeShapes Go.WideShapes Go.ChangeAt Go.RowKit Go.Joins
open Go.ChangeMaps (open_string shut_string)

theorem wallSpec (W H : Int) (C T : ByteArray) (v : Value) (L : List Int) (hC : C.size ≤ 1048576) (HT : Hid (wallT W H C L = T)) (hL : L.length ≤ 2000000) (w : World) (hv : Ints w v L) :
    Calls Try.prog 27 #[.agg #[.int .i64 W, .int .i64 H, .string C], v] w (GridBack W H T w) := by
  by_cases hg : gok W H C = true
  · exact specWalled_yes W H C T v L hC hg (Lib.hid (by rw [← HT.out]; unfold wallT; rw [if_pos hg])) hL w hv
  · have : C = T := by rw [← HT.out]; unfold wallT; rw [if_neg hg]
    subst this
    exact specWalled_no W H C v hC (by simpa using hg) w
theorem wallImpl (W H : Int) (C T : ByteArray) (v : Value) (L : List Int) (hC : C.size ≤ 1048576) (HT : Hid (wallT W H C L = T)) (hL : L.length ≤ 2000000) (w : World) (hv : Ints w v L) :
    Calls Try.prog 29 #[.agg #[.int .i64 W, .int .i64 H, .string C], v] w (GridBack W H T w) := by
  by_cases hg : gok W H C = true
  · exact implWalled_yes W H C T v L hC hg (Lib.hid (by rw [← HT.out]; unfold wallT; rw [if_pos hg])) hL w hv
  · have : C = T := by rw [← HT.out]; unfold wallT; rw [if_neg hg]
    subst this
    exact implWalled_no W H C v hC (by simpa using hg) w

set_option maxHeartbeats 1000000 in
theorem walk (W H : Int) (C : ByteArray) (v : Value) (L : List Int) (_w0 : (Lit.int .i64 W).wf = true) (_w1 : (Lit.int .i64 H).wf = true) (hC : C.size ≤ maxLen) (w : World) (hv : ArgI w v L) (hL : L.length ≤ maxLen) :
    Calls Try.prog 9 #[.agg #[.int .i64 W, .int .i64 H, .string C], v] w fun e w' => e = .returned (.bool true) ∧ Below w.heap.size w w' := by
  have hC' : C.size ≤ 9223372036854775807 := by unfold maxLen at hC; omega
  have hL' : L.length ≤ 9223372036854775807 := by unfold maxLen at hL; omega
  obtain ⟨av, cv, rfl, HV⟩ := hv
  have hA0 : ArgI w (.slice av L.length cv) L := ⟨av, cv, rfl, HV⟩
  clear HV
  by_cases hl : L.length ≤ 1048576
  · by_cases h : C.size ≤ 1048576
    · obtain ⟨T, HT⟩ : ∃ T, Hid (wallT W H C L = T) := ⟨_, rfl⟩
      have h0 : ¬ (1048576 - (C.size : Int)) < 0 := by omega
      have hl0 : ¬ (1048576 : Int) < (L.length : Int) := by omega
      have hB := Below.refl (w.alloc (.cells #[.int .i64 W, .int .i64 H, .string C] 23)).heap.size (w.alloc (.cells #[.int .i64 W, .int .i64 H, .string C] 23))
      go_enter Try.func9, Try.ntmps9
      go_wp2_with fail
      refine (szGrid_yes W H C h _).mono ?_
      rintro e w1 ⟨rfl, hb⟩
      replace hB := chain hB hb
      obtain ⟨c0, c1, c2⟩ := box_cells hB
      clear hb
      go_wp2_with fail
      refine (toGrid W H C _).mono ?_
      rintro e w2 ⟨rfl, hb⟩
      replace hB := chain hB hb
      clear hb c0 c1 c2
      go_wp2_with fail
      refine (toInts _ L _ (argI_below hA0 (box_below hB)) (by omega)).mono ?_
      rintro e w3 ⟨v0, rfl, hown0, hb⟩
      replace hB := chain hB hb
      clear hb
      go_wp2_with fail
      refine (wallSpec W H C T v0 L h HT (by omega) _ (ints_of_own hown0)).mono ?_
      rintro e w4 ⟨rfl, hb⟩
      replace hB := chain hB hb
      have hR := Below.refl (w4.alloc (.cells #[.int .i64 W, .int .i64 H, .string T] 26)).heap.size (w4.alloc (.cells #[.int .i64 W, .int .i64 H, .string T] 26))
      replace hB := hB.alloc hB.size (.cells #[.int .i64 W, .int .i64 H, .string T] 26)
      clear hb hown0
      go_wp2_with fail
      refine (toInts _ L _ (argI_below hA0 (box_below hB)) (by omega)).mono ?_
      rintro e w5 ⟨v1, rfl, hown1, hb⟩
      have hs5 := hb.size
      replace hB := chain hB hb
      replace hR := chain hR hb
      obtain ⟨c0, c1, c2⟩ := box_cells hB
      clear hb
      go_wp2_with fail
      refine (toGrid W H C _).mono ?_
      rintro e w6 ⟨rfl, hb⟩
      have hs6 := hb.size
      have hown1a := own_below hown1 hb hs5
      replace hB := chain hB hb
      replace hR := chain hR hb
      clear hb c0 c1 c2 hown1
      go_wp2_with fail
      refine (wallImpl W H C T v1 L h HT (by omega) _ (ints_of_own hown1a)).mono ?_
      rintro e w7 ⟨rfl, hb⟩
      have hs7 := hb.size
      have hown1b := own_below hown1a hb (Nat.le_trans hs5 hs6)
      replace hB := chain hB hb
      replace hR := chain hR hb
      clear hb hown1a
      have hown1c := hown1b.alloc (.cells #[.int .i64 W, .int .i64 H, .string T] 26)
      replace hB := hB.alloc hB.size (.cells #[.int .i64 W, .int .i64 H, .string T] 26)
      replace hR := hR.alloc hR.size (.cells #[.int .i64 W, .int .i64 H, .string T] 26)
      obtain ⟨r0, r1, r2⟩ := box_cells hR
      clear hown1b hR
      go_wp2_with fail
      refine (eqGridSame W H T _).mono ?_
      rintro e w8 ⟨rfl, hb⟩
      have hown1d := own_below (own_base hown1c (Nat.zero_le _)) hb (Nat.zero_le _)
      replace hB := chain hB hb
      clear hb hown1c r0 r1 r2
      go_wp2_with fail
      refine (toInts _ L _ (argI_below hA0 (box_below hB)) (by omega)).mono ?_
      rintro e w9 ⟨v2, rfl, hown2, hb⟩
      have hown1e := own_below hown1d hb (Nat.zero_le _)
      replace hB := chain hB hb
      clear hb hown1d
      go_wp2_with fail
      refine (eqInts _ _ L _ (ints_of_own hown1e) (ints_of_own hown2) (by omega)).mono ?_
      rintro e wa ⟨rfl, na, rfl⟩
      go_wp2
      go_ret
      exact ⟨rfl, box_below (below_drewN hB na)⟩
    · go_enter Try.func9, Try.ntmps9
      go_wp2_with (go_at_call 10; (with_reducible refine (szGrid_no W H C hC' h _).mono ?_); rintro e w1 ⟨rfl, hb1⟩)
      go_ret
      exact ⟨rfl, ((Below.refl _ _).alloc (Nat.le_refl _) _).trans (hb1.mono (by simp))⟩
  · go_enter Try.func9, Try.ntmps9
    go_wp2
    go_ret
    exact ⟨rfl, (Below.refl _ _).alloc (Nat.le_refl _) _⟩
-- LIFT
set_option maxRecDepth 100000 in
theorem lifted (os : Os) (started : os.Started) (H : Type) (enc : TypeId × Value → H) :
    ReturnsInHanded {} Try.checked os 9 .any (Rows.fnExactWalledSpec.pre6 enc Try.prog Try.f9 Rows.fnExactWalledRow.domain false) (Rows.fnExactWalledSpec.post enc Try.prog Try.f9 false true false false) := by
  refine returnsInHanded_of_change (C := Try.checked) own started (by kernel_rfl) Try.func9
    (ChangeSpec.witness6 (enc := enc) (C := Try.checked) false ⟨#[], #[.agg #[.int .i64 0, .int .i64 0, .string ByteArray.empty], .slice none 0 0], []⟩ 8 (by kernel_rfl) (by kernel_rfl) (by kernel_rfl) (by kernel_rfl)) ?_
  intro W base args ds gs before hval0 hW hcnd _
  have hval : ∀ (j : Nat) t v, Try.f9.params[j]? = some t → args[j]? = some v → Value.okWide Try.prog W .any base t v := hval0
  have hW' := hW
  obtain ⟨p, q, hA0, hV, rfl, hfz, hnd⟩ := hW
  have hA : DataW.TrodAll enc Try.prog W 0 (fun _ => true) true Try.f9.params.toList args.toList ds p := hA0
  rw [Try.params9] at hA hval
  obtain ⟨v0, vs0, d0, ds0, p0, q0, hargs, rfl, rfl, h0, r0⟩ := trodAll_cons hA
  obtain ⟨v1, vs1, d1, ds1, p1, q1, rfl, rfl, rfl, h1, r1⟩ := trodAll_cons r0
  obtain ⟨rfl, rfl, rfl⟩ := trodAll_nil r1
  obtain rfl : args = #[v0, v1] := by cases args; simp_all
  obtain ⟨rfl, rfl⟩ := trodVars_none hV
  obtain ⟨u00, u01, u02, y00, y01, y02, m0, rfl, rfl, rfl, g00, g01, g02⟩ := open_agg3 Try.underlying23 (by kernel_rfl) (by kernel_rfl) (hval 0 23 v0 rfl rfl) h0
  obtain ⟨a0W, e00, rfl, w0W⟩ := DataW.trod_int Try.underlying3 g00
  obtain ⟨a0H, e01, rfl, w0H⟩ := DataW.trod_int Try.underlying3 g01
  obtain ⟨a0C, e02, rfl, w0C⟩ := DataW.trod_string Try.underlying9 g02
  simp only [List.cons.injEq, and_true] at e00 e01 e02
  subst e00 e01 e02
  obtain ⟨L1, w1, l1, again1⟩ := open_arg_ints (hval 1 32 v1 rfl rfl) h1
  clear hA0 hval0
  simp only [List.append_nil, List.nil_append] at hW'
  refine (walk a0W a0H a0C v1 L1 w0W w0H w0C W w1 l1).mono fun e W' ⟨he, hg⟩ => ?_
  subst he
  exact ⟨_, rfl, post_of_below (pa := (([] : List MemPlace) ++ ([] ++ [])) ++ (p1 ++ ([]))) (pv := []) hW' (fun _ _ _ => (trodAll_cons_mk (shut_bool Try.underlying4 _) trodAll_mk0)) (fun sp hsp => (trodAll_cons_mk (shut_agg3 (P := Try.prog) (y0 := (.lit (.int .i64 a0W), [])) (y1 := (.lit (.int .i64 a0H), [])) (y2 := (.lit (.string a0C.data.toList), [])) Try.underlying23 (by kernel_rfl) (by kernel_rfl) ⟨1, by simp [DataW.trod, Try.underlying3, w0W]⟩ ⟨1, by simp [DataW.trod, Try.underlying3, w0H]⟩ ⟨1, by simp [DataW.trod, Try.underlying9, w0C]⟩) (trodAll_cons_mk (again1 W' hg sp (fun p hp => hsp p (by simp [hp]))) trodAll_mk0))) (fun _ _ => rfl) (by simp)
    hg (ok_one (by kernel_rfl) rfl (okWide_bool_mk Try.underlying4 _))⟩

theorem over : Rows.fnExactWalledRow.holds Try.pinned (OpenSpec.ofChange Rows.fnExactWalledSpec) :=
  OpenClaim.holds_of_wide 9 Try.f9 rfl rfl rfl rfl rfl rfl rfl ⟨rfl, rfl, rfl, rfl, rfl⟩ rfl rfl rfl rfl rfl (by kernel_rfl) Try.func9 (by kernel_rfl)
    (of_decide_eq_true (by kernel_rfl)) (by unfold Func.isWrapper; first | (rw [if_pos (by decide +kernel)]; kernel_rfl) | (rw [if_neg (by decide +kernel)]; exact ⟨rfl, rfl⟩))
    (fun os started H enc _ => lifted os started H enc)

theorem proved : Rows.FnExactWalledSaid :=
  over

end Go.Proofs.Ytcofajganakbiaa.fnExactWalled
