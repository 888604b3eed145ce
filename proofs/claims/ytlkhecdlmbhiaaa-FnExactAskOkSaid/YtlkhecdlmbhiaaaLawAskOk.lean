/-
  THE LAW FnExactAskOk: at every map and two lists of cells the program's AskOk answers as its model and leaves its arguments alone. No condition.
-/
import Derived.Test.YtlkhecdlmbhiaaaIntsEq
import Derived.Test.YtlkhecdlmbhiaaaAskI
import Derived.Test.YtlkhecdlmbhiaaaSpecAskO
import Derived.Test.YtlkhecdlmbhiaaaGridLaw
import Derived.Test.YtlkhecdlmbhiaaaArgInts
import Derived.Lib.SmallJoins
namespace Go.Proofs.Ytlkhecdlmbhiaaa.fnExactAskOk
set_option maxRecDepth 4096
open Go.ChangeShapes Go.WideShapes Go.ChangeAt Go.RowKit Go.Joins
open Go.ChangeMaps (open_string shut_string)

set_option maxHeartbeats 2000000 in
theorem walk (W H : Int) (C : ByteArray) (v : Value) (S : List Int) (u : Value) (G : List Int) (T : Int) (_w0 : (Lit.int .i64 W).wf = true) (_w1 : (Lit.int .i64 H).wf = true) (hC : C.size ≤ maxLen) (_w3 : (Lit.int .i64 T).wf = true) (w : World) (hv : ArgI w v S) (hS : S.length ≤ maxLen) (hu : ArgI w u G) (hG : G.length ≤ maxLen) :
    Calls Try.prog 3 #[.agg #[.int .i64 W, .int .i64 H, .string C], v, u, .int .i64 T] w fun e w' => e = .returned (.bool true) ∧ Below w.heap.size w w' := by
  have hC' : C.size ≤ 9223372036854775807 := by unfold maxLen at hC; omega
  have hS' : S.length ≤ 9223372036854775807 := by unfold maxLen at hS; omega
  have hG' : G.length ≤ 9223372036854775807 := by unfold maxLen at hG; omega
  obtain ⟨av, cv, rfl, HV⟩ := hv
  have HS := Lib.hid (show ArgI w (.slice av S.length cv) S from ⟨av, cv, rfl, HV⟩)
  obtain ⟨au, cu, rfl, HU⟩ := hu
  have HG := Lib.hid (show ArgI w (.slice au G.length cu) G from ⟨au, cu, rfl, HU⟩)
  clear HV HU
  have hB := Below.refl (w.alloc (.cells #[.int .i64 W, .int .i64 H, .string C] 23)).heap.size (w.alloc (.cells #[.int .i64 W, .int .i64 H, .string C] 23))
  by_cases hl : S.length ≤ 1048576
  · have hl0 : ¬ (1048576 : Int) < (S.length : Int) := by omega
    by_cases hm : G.length ≤ 1048576
    · have hm0 : ¬ (1048576 : Int) < (G.length : Int) := by omega
      by_cases h : C.size ≤ 1048576
      · obtain ⟨b, HB⟩ : ∃ b, Hid (askV W H C S G T = b) := ⟨_, rfl⟩
        have h0 : ¬ (1048576 - (C.size : Int)) < 0 := by omega
        go_enter Try.func3, Try.ntmps3
        go_wp2_with fail
        refine (szGrid_yes W H C h _).mono ?_
        rintro e w1 ⟨rfl, hb⟩
        replace hB := chain hB hb
        obtain ⟨c0, c1, c2⟩ := box_cells hB
        clear hb
        go_wp2_with fail
        refine (toGrid W H C _).mono ?_
        rintro e w2 ⟨rfl, hb⟩
        replace hB := chain hB hb
        clear hb c0 c1 c2
        go_wp2_with fail
        refine (toInts _ S _ (argI_below HS.out (box_below hB)) (by omega)).mono ?_
        rintro e w3 ⟨s1, rfl, hown1, hb⟩
        replace hB := chain hB hb
        have HI1 := Lib.hid (ints_of_own hown1)
        clear hb hown1
        go_wp2_with fail
        refine (toInts _ G _ (argI_below HG.out (box_below hB)) (by omega)).mono ?_
        rintro e w4 ⟨g1, rfl, hown2, hb⟩
        replace hB := chain hB hb
        have HI1b := Lib.hid (ints_on HI1.out hb)
        have HI2 := Lib.hid (ints_of_own hown2)
        clear hb hown2 HI1
        go_wp2_with fail
        refine (specAsk W H C S G T s1 g1 b h (by omega) (by omega) HB _ HI1b.out HI2.out).mono ?_
        rintro e w5 ⟨rfl, hb⟩
        replace hB := chain hB hb
        clear hb HI1b HI2
        go_wp2_with fail
        refine (toInts _ S _ (argI_below HS.out (box_below hB)) (by omega)).mono ?_
        rintro e w6 ⟨s2, rfl, hown1, hb⟩
        replace hB := chain hB hb
        have HI1 := Lib.hid (ints_of_own hown1)
        clear hb hown1
        go_wp2_with fail
        refine (toInts _ G _ (argI_below HG.out (box_below hB)) (by omega)).mono ?_
        rintro e w7 ⟨g2, rfl, hown2, hb⟩
        replace hB := chain hB hb
        have HI1b := Lib.hid (ints_on HI1.out hb)
        have HI2 := Lib.hid (ints_of_own hown2)
        obtain ⟨c0, c1, c2⟩ := box_cells hB
        clear hb hown2 HI1
        go_wp2_with fail
        refine (toGrid W H C _).mono ?_
        rintro e w8 ⟨rfl, hb⟩
        replace hB := chain hB hb
        have HI3 := Lib.hid (ints_on HI1b.out hb)
        have HI4 := Lib.hid (ints_on HI2.out hb)
        clear hb HI1b HI2 c0 c1 c2
        go_wp2_with fail
        refine (implAsk W H C S G T s2 g2 b h (by omega) (by omega) HB _ HI3.out HI4.out).mono ?_
        rintro e w9 ⟨rfl, hb⟩
        replace hB := chain hB hb
        have HI5 := Lib.hid (ints_on HI3.out hb)
        have HI6 := Lib.hid (ints_on HI4.out hb)
        clear hb HI3 HI4
        go_wp2_with fail
        refine (toInts _ S _ (argI_below HS.out (box_below hB)) (by omega)).mono ?_
        rintro e wa ⟨s3, rfl, hown1, hb⟩
        replace hB := chain hB hb
        have HI7 := Lib.hid (ints_on HI5.out hb)
        have HI8 := Lib.hid (ints_on HI6.out hb)
        have HI9 := Lib.hid (ints_of_own hown1)
        clear hb HI5 HI6 hown1
        go_wp2_with fail
        refine (eqInts _ _ S _ HI7.out HI9.out (by omega)).mono ?_
        rintro e wb ⟨rfl, mb, rfl⟩
        have HIa := Lib.hid (ints_on HI8.out (show Below wa.heap.size wa (wa.drewN mb) from below_drewN (Below.refl _ _) mb))
        replace hB := below_drewN hB mb
        clear HI7 HI8 HI9
        generalize wa.drewN mb = wb at hB HIa ⊢
        go_wp2_with fail
        refine (toInts _ G _ (argI_below HG.out (box_below hB)) (by omega)).mono ?_
        rintro e wc ⟨g3, rfl, hown2, hb⟩
        replace hB := chain hB hb
        have HIb := Lib.hid (ints_on HIa.out hb)
        have HIc := Lib.hid (ints_of_own hown2)
        clear hb HIa hown2
        go_wp2_with fail
        refine (eqInts _ _ G _ HIb.out HIc.out (by omega)).mono ?_
        rintro e wd ⟨rfl, md, rfl⟩
        have HE := Lib.hid (box_below (below_drewN hB md))
        clear HIb HIc hB
        go_wp2_with fail
        go_ret
        exact ⟨rfl, HE.out⟩
      · go_enter Try.func3, Try.ntmps3
        go_wp2_with (go_at_call 5; (with_reducible refine (szGrid_no W H C hC' h _).mono ?_); rintro e w1 ⟨rfl, hb1⟩)
        go_ret
        exact ⟨rfl, ((Below.refl _ _).alloc (Nat.le_refl _) _).trans (hb1.mono (by simp))⟩
    · go_enter Try.func3, Try.ntmps3
      have hm0 : (1048576 : Int) < (G.length : Int) := by omega
      go_wp2_with fail
      go_ret
      exact ⟨rfl, (Below.refl _ _).alloc (Nat.le_refl _) _⟩
  · go_enter Try.func3, Try.ntmps3
    have hl0 : (1048576 : Int) < (S.length : Int) := by omega
    go_wp2_with fail
    go_ret
    exact ⟨rfl, (Below.refl _ _).alloc (Nat.le_refl _) _⟩
-- LIFT
set_option maxRecDepth 100000 in
theorem lifted (os : Os) (started : os.Started) (H : Type) (enc : TypeId × Value → H) :
    ReturnsInHanded {} Try.checked os 3 .any (Rows.fnExactAskOkSpec.pre6 enc Try.prog Try.f3 Rows.fnExactAskOkRow.domain false) (Rows.fnExactAskOkSpec.post enc Try.prog Try.f3 false true false false) := by
  refine returnsInHanded_of_change (C := Try.checked) own started (by kernel_rfl) Try.func3
    (ChangeSpec.witness6 (enc := enc) (C := Try.checked) false ⟨#[], #[.agg #[.int .i64 0, .int .i64 0, .string ByteArray.empty], .slice none 0 0, .slice none 0 0, .int .i64 0], []⟩ 8 (by kernel_rfl) (by kernel_rfl) (by kernel_rfl) (by kernel_rfl)) ?_
  intro W base args ds gs before hval0 hW hcnd _
  have hval : ∀ (j : Nat) t v, Try.f3.params[j]? = some t → args[j]? = some v → Value.okWide Try.prog W .any base t v := hval0
  have hW' := hW
  obtain ⟨p, q, hA0, hV, rfl, hfz, hnd⟩ := hW
  have hA : DataW.TrodAll enc Try.prog W 0 (fun _ => true) true Try.f3.params.toList args.toList ds p := hA0
  rw [Try.params3] at hA hval
  obtain ⟨v0, vs0, d0, ds0, p0, q0, hargs, rfl, rfl, h0, r0⟩ := trodAll_cons hA
  obtain ⟨v1, vs1, d1, ds1, p1, q1, rfl, rfl, rfl, h1, r1⟩ := trodAll_cons r0
  obtain ⟨v2, vs2, d2, ds2, p2, q2, rfl, rfl, rfl, h2, r2⟩ := trodAll_cons r1
  obtain ⟨v3, vs3, d3, ds3, p3, q3, rfl, rfl, rfl, h3, r3⟩ := trodAll_cons r2
  obtain ⟨rfl, rfl, rfl⟩ := trodAll_nil r3
  obtain rfl : args = #[v0, v1, v2, v3] := by cases args; simp_all
  obtain ⟨rfl, rfl⟩ := trodVars_none hV
  obtain ⟨u00, u01, u02, y00, y01, y02, m0, rfl, rfl, rfl, g00, g01, g02⟩ := open_agg3 Try.underlying23 (by kernel_rfl) (by kernel_rfl) (hval 0 23 v0 rfl rfl) h0
  obtain ⟨a0W, e00, rfl, w0W⟩ := DataW.trod_int Try.underlying3 g00
  obtain ⟨a0H, e01, rfl, w0H⟩ := DataW.trod_int Try.underlying3 g01
  obtain ⟨a0C, e02, rfl, w0C⟩ := DataW.trod_string Try.underlying9 g02
  simp only [List.cons.injEq, and_true] at e00 e01 e02
  subst e00 e01 e02
  obtain ⟨L1, w1, l1, again1⟩ := open_arg_ints (hval 1 24 v1 rfl rfl) h1
  obtain ⟨L2, w2, l2, again2⟩ := open_arg_ints (hval 2 24 v2 rfl rfl) h2
  obtain ⟨a3, rfl, rfl, rfl, w3⟩ := open_int Try.underlying3 (hval 3 3 v3 rfl rfl) h3
  clear hA0 hval0
  simp only [List.append_nil, List.nil_append] at hW'
  refine (walk a0W a0H a0C v1 L1 v2 L2 a3 w0W w0H w0C w3 W w1 l1 w2 l2).mono fun e W' ⟨he, hg⟩ => ?_
  subst he
  exact ⟨_, rfl, post_of_below (pa := (([] : List MemPlace) ++ ([] ++ [])) ++ (p1 ++ (p2 ++ (([] : List MemPlace) ++ ([]))))) (pv := []) hW' (fun _ _ _ => (trodAll_cons_mk (shut_bool Try.underlying4 _) trodAll_mk0)) (fun sp hsp => (trodAll_cons_mk (shut_agg3 (P := Try.prog) (y0 := (.lit (.int .i64 a0W), [])) (y1 := (.lit (.int .i64 a0H), [])) (y2 := (.lit (.string a0C.data.toList), [])) Try.underlying23 (by kernel_rfl) (by kernel_rfl) ⟨1, by simp [DataW.trod, Try.underlying3, w0W]⟩ ⟨1, by simp [DataW.trod, Try.underlying3, w0H]⟩ ⟨1, by simp [DataW.trod, Try.underlying9, w0C]⟩) (trodAll_cons_mk (again1 W' hg sp (fun p hp => hsp p (by simp [hp]))) (trodAll_cons_mk (again2 W' hg sp (fun p hp => hsp p (by simp [hp]))) (trodAll_cons_mk (shut_int Try.underlying3 w3) trodAll_mk0))))) (fun _ _ => rfl) (by simp)
    hg (ok_one (by kernel_rfl) rfl (okWide_bool_mk Try.underlying4 _))⟩

theorem over : Rows.fnExactAskOkRow.holds Try.pinned (OpenSpec.ofChange Rows.fnExactAskOkSpec) :=
  OpenClaim.holds_of_wide 3 Try.f3 rfl rfl rfl rfl rfl rfl rfl ⟨rfl, rfl, rfl, rfl, rfl⟩ rfl rfl rfl rfl rfl (by kernel_rfl) Try.func3 (by kernel_rfl)
    (of_decide_eq_true (by kernel_rfl)) (by unfold Func.isWrapper; first | (rw [if_pos (by decide +kernel)]; kernel_rfl) | (rw [if_neg (by decide +kernel)]; exact ⟨rfl, rfl⟩))
    (fun os started H enc _ => lifted os started H enc)

theorem proved : Rows.FnExactAskOkSaid :=
  over

end Go.Proofs.Ytlkhecdlmbhiaaa.fnExactAskOk
