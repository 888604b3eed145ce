/-
  THE LAW FnExactCanAt: at every map and two lists of cells the program's CanAt answers as its model and leaves its arguments alone. A tied card: where the listed variable holds what its initialiser laid.
-/
import Derived.Test.YtlkhecdlmbhiaaaDoorZCA00
import Derived.Test.YtlkhecdlmbhiaaaDoorZCA30
import Derived.Test.YtlkhecdlmbhiaaaDoorZCA40
import Derived.Test.YtlkhecdlmbhiaaaDoorZCA06
import Derived.Test.YtlkhecdlmbhiaaaDoorZCA11
import Derived.Lib.SmallJoins
import Derived.Test.YtlkhecdlmbhiaaaDoorCards
import Derived.Test.YtlkhecdlmbhiaaaDoorTie
import Derived.SevenTiedAt
namespace Go.Proofs.YtlkhecdlmbhiaaaDoor.fnExactCanAt
set_option maxRecDepth 4096
open Go.ChangeShapes Go.WideShapes Go.ChangeAt Go.RowKit Go.Joins
open Go.ChangeMaps (open_string shut_string)

set_option maxHeartbeats 2000000 in
theorem walk (W H : Int) (C : ByteArray) (v : Value) (S : List Int) (u : Value) (G : List Int) (T : Int) (_w0 : (Lit.int .i64 W).wf = true) (_w1 : (Lit.int .i64 H).wf = true) (hC : C.size ≤ maxLen) (_w3 : (Lit.int .i64 T).wf = true) (w : World) (hv : ArgI w v S) (hS : S.length ≤ maxLen) (hu : ArgI w u G) (hG : G.length ≤ maxLen) (hSd : SidesAt w) :
    Calls Tryd.prog 5 #[.agg #[.int .i64 W, .int .i64 H, .string C], v, u, .int .i64 T] w fun e w' => e = .returned (.bool true) ∧ Below w.heap.size w w' := by
  have hC' : C.size ≤ 9223372036854775807 := by unfold maxLen at hC; omega
  have hS' : S.length ≤ 9223372036854775807 := by unfold maxLen at hS; omega
  have hG' : G.length ≤ 9223372036854775807 := by unfold maxLen at hG; omega
  obtain ⟨av, cv, rfl, HV⟩ := hv
  have HS := Lib.hid (show ArgI w (.slice av S.length cv) S from ⟨av, cv, rfl, HV⟩)
  obtain ⟨au, cu, rfl, HU⟩ := hu
  have HG := Lib.hid (show ArgI w (.slice au G.length cu) G from ⟨au, cu, rfl, HU⟩)
  have HSd := Lib.hid hSd
  clear HV HU hSd
  have hB := Below.refl (w.alloc (.cells #[.int .i64 W, .int .i64 H, .string C] 42)).heap.size (w.alloc (.cells #[.int .i64 W, .int .i64 H, .string C] 42))
  by_cases hl : S.length ≤ 1048576
  · have hl0 : ¬ (1048576 : Int) < (S.length : Int) := by omega
    by_cases hm : G.length ≤ 1048576
    · have hm0 : ¬ (1048576 : Int) < (G.length : Int) := by omega
      by_cases h : C.size ≤ 1048576
      · obtain ⟨b, HB⟩ : ∃ b, Hid (canV W H C S G T = b) := ⟨_, rfl⟩
        have h0 : ¬ (1048576 - (C.size : Int)) < 0 := by omega
        go_enter Tryd.func5, Tryd.ntmps5
        go_wp2_with fail
        refine (szGrid_yes W H C h _).mono ?_
        rintro e w1 ⟨rfl, hb⟩
        replace hB := chain hB hb
        obtain ⟨c0, c1, c2⟩ := box_cells hB
        clear hb
        go_wp2_with fail
        refine (toGrid W H C _).mono ?_
        rintro e w2 ⟨rfl, hb⟩
        replace hB := chain hB hb
        clear hb c0 c1 c2
        go_wp2_with fail
        refine (toInts _ S _ (argI_below HS.out (box_below hB)) (by omega)).mono ?_
        rintro e w3 ⟨s1, rfl, hown1, hb⟩
        replace hB := chain hB hb
        have HI1 := Lib.hid (ints_of_own hown1)
        clear hb hown1
        go_wp2_with fail
        refine (toInts _ G _ (argI_below HG.out (box_below hB)) (by omega)).mono ?_
        rintro e w4 ⟨g1, rfl, hown2, hb⟩
        replace hB := chain hB hb
        have HI1b := Lib.hid (ints_on HI1.out hb)
        have HI2 := Lib.hid (ints_of_own hown2)
        clear hb hown2 HI1
        go_wp2_with fail
        refine (specCan W H C S G T s1 g1 b h (by omega) (by omega) HB _ HI1b.out HI2.out).mono ?_
        rintro e w5 ⟨rfl, hb⟩
        replace hB := chain hB hb
        clear hb HI1b HI2
        go_wp2_with fail
        refine (toInts _ S _ (argI_below HS.out (box_below hB)) (by omega)).mono ?_
        rintro e w6 ⟨s2, rfl, hown1, hb⟩
        replace hB := chain hB hb
        have HI1 := Lib.hid (ints_of_own hown1)
        clear hb hown1
        go_wp2_with fail
        refine (toInts _ G _ (argI_below HG.out (box_below hB)) (by omega)).mono ?_
        rintro e w7 ⟨g2, rfl, hown2, hb⟩
        replace hB := chain hB hb
        have HI1b := Lib.hid (ints_on HI1.out hb)
        have HI2 := Lib.hid (ints_of_own hown2)
        obtain ⟨c0, c1, c2⟩ := box_cells hB
        clear hb hown2 HI1
        go_wp2_with fail
        refine (toGrid W H C _).mono ?_
        rintro e w8 ⟨rfl, hb⟩
        replace hB := chain hB hb
        have HI3 := Lib.hid (ints_on HI1b.out hb)
        have HI4 := Lib.hid (ints_on HI2.out hb)
        clear hb HI1b HI2 c0 c1 c2
        go_wp2_with fail
        refine (implCan W H C S G T s2 g2 b h (by omega) (by omega) HB _ HI3.out HI4.out (HSd.out.below (box_below hB))).mono ?_
        rintro e w9 ⟨rfl, hb⟩
        replace hB := chain hB hb
        have HI5 := Lib.hid (ints_on HI3.out hb)
        have HI6 := Lib.hid (ints_on HI4.out hb)
        clear hb HI3 HI4
        go_wp2_with fail
        refine (toInts _ S _ (argI_below HS.out (box_below hB)) (by omega)).mono ?_
        rintro e wa ⟨s3, rfl, hown1, hb⟩
        replace hB := chain hB hb
        have HI7 := Lib.hid (ints_on HI5.out hb)
        have HI8 := Lib.hid (ints_on HI6.out hb)
        have HI9 := Lib.hid (ints_of_own hown1)
        clear hb HI5 HI6 hown1
        go_wp2_with fail
        refine (eqInts _ _ S _ HI7.out HI9.out (by omega)).mono ?_
        rintro e wb ⟨rfl, mb, rfl⟩
        have HIa := Lib.hid (ints_on HI8.out (show Below wa.heap.size wa (wa.drewN mb) from below_drewN (Below.refl _ _) mb))
        replace hB := below_drewN hB mb
        clear HI7 HI8 HI9
        generalize wa.drewN mb = wb at hB HIa ⊢
        go_wp2_with fail
        refine (toInts _ G _ (argI_below HG.out (box_below hB)) (by omega)).mono ?_
        rintro e wc ⟨g3, rfl, hown2, hb⟩
        replace hB := chain hB hb
        have HIb := Lib.hid (ints_on HIa.out hb)
        have HIc := Lib.hid (ints_of_own hown2)
        clear hb HIa hown2
        go_wp2_with fail
        refine (eqInts _ _ G _ HIb.out HIc.out (by omega)).mono ?_
        rintro e wd ⟨rfl, md, rfl⟩
        have HE := Lib.hid (box_below (below_drewN hB md))
        clear HIb HIc hB
        go_wp2_with fail
        go_ret
        exact ⟨rfl, HE.out⟩
      · go_enter Tryd.func5, Tryd.ntmps5
        go_wp2_with (go_at_call 15; (with_reducible refine (szGrid_no W H C hC' h _).mono ?_); rintro e w1 ⟨rfl, hb1⟩)
        go_ret
        exact ⟨rfl, ((Below.refl _ _).alloc (Nat.le_refl _) _).trans (hb1.mono (by simp))⟩
    · go_enter Tryd.func5, Tryd.ntmps5
      have hm0 : (1048576 : Int) < (G.length : Int) := by omega
      go_wp2_with fail
      go_ret
      exact ⟨rfl, (Below.refl _ _).alloc (Nat.le_refl _) _⟩
  · go_enter Tryd.func5, Tryd.ntmps5
    have hl0 : (1048576 : Int) < (S.length : Int) := by omega
    go_wp2_with fail
    go_ret
    exact ⟨rfl, (Below.refl _ _).alloc (Nat.le_refl _) _⟩

theorem walkL (W H : Int) (C : ByteArray) (v : Value) (S : List Int) (u : Value) (G : List Int) (T : Int) (w0 : (Lit.int .i64 W).wf = true) (w1 : (Lit.int .i64 H).wf = true) (hC : C.size ≤ maxLen) (w3 : (Lit.int .i64 T).wf = true) (w : World) (hv : ArgI w v S) (hS : S.length ≤ maxLen) (hu : ArgI w u G) (hG : G.length ≤ maxLen) (hL : laidMetH Tryd.prog Rows.fnExactCanAtRow.laid w) :
    Calls Tryd.prog 5 #[.agg #[.int .i64 W, .int .i64 H, .string C], v, u, .int .i64 T] w fun e w' => e = .returned (.bool true) ∧ Below w.heap.size w w' :=
  walk W H C v S u G T w0 w1 hC w3 w hv hS hu hG (sides_of_laid hL)
-- LIFT
set_option maxRecDepth 100000 in
theorem lifted (os : Os) (started : os.Started) (H : Type) (enc : TypeId × Value → H) :
    ReturnsInHanded {} Tryd.checked os 5 .any (fun w args => (Rows.fnExactCanAtSpec.pre enc Tryd.prog Tryd.f5 [] false w args ∧ laidMetH Tryd.prog Rows.fnExactCanAtRow.laid w) ∧ sizedMet enc Tryd.prog Tryd.f5 (OpenSpec.ofChange Rows.fnExactCanAtSpec) false w args)
      (Rows.fnExactCanAtSpec.post enc Tryd.prog Tryd.f5 false true false false) := by
  refine returnsInHanded_of_change_and (C := Tryd.checked) (X := fun w _ => laidMetH Tryd.prog Rows.fnExactCanAtRow.laid w) (fun _ _ _ hh h => h.of_heap hh) own started (by kernel_rfl) Tryd.func5
    (ChangeSpec.witness_shaped (enc := enc) (C := Tryd.checked) (os := os) (X := fun w _ => laidMetH Tryd.prog Rows.fnExactCanAtRow.laid w) false (World.doorLaid Tryd.prog 400 os) #[.agg #[.int .i64 0, .int .i64 0, .string ByteArray.empty], .slice none 0 0, .slice none 0 0, .int .i64 0] 8 rfl (World.shaped_of_RefB (by kernel_rfl) (by kernel_rfl)) (by kernel_rfl) (by kernel_rfl) (by kernel_rfl) (sides_met os _)) ?_
  intro W base args ds gs before hval0 hW _ hsz0 hL _
  have hsz : (DataW.weightsEach Tryd.prog (Tryd.f5.params.toList ++ Rows.fnExactCanAtSpec.plain.varTypes Tryd.prog) (ds ++ gs)).all (· ≤ reachBytes) = true := hsz0
  clear hsz0
  have hval : ∀ (j : Nat) t v, Tryd.f5.params[j]? = some t → args[j]? = some v → Value.okWide Tryd.prog W .any base t v := hval0
  have hW' := hW
  obtain ⟨p, q, hA0, hV, rfl, hfz, hnd⟩ := hW
  have hA : DataW.TrodAll enc Tryd.prog W 0 (fun _ => true) true Tryd.f5.params.toList args.toList ds p := hA0
  rw [Tryd.params5] at hA hval hsz
  obtain ⟨v0, vs0, d0, ds0, p0, q0, hargs, rfl, rfl, h0, r0⟩ := trodAll_cons hA
  obtain ⟨v1, vs1, d1, ds1, p1, q1, rfl, rfl, rfl, h1, r1⟩ := trodAll_cons r0
  obtain ⟨v2, vs2, d2, ds2, p2, q2, rfl, rfl, rfl, h2, r2⟩ := trodAll_cons r1
  obtain ⟨v3, vs3, d3, ds3, p3, q3, rfl, rfl, rfl, h3, r3⟩ := trodAll_cons r2
  obtain ⟨rfl, rfl, rfl⟩ := trodAll_nil r3
  obtain rfl : args = #[v0, v1, v2, v3] := by cases args; simp_all
  have hs0 := sides_of_laid hL
  obtain ⟨rfl, _⟩ := sides_vars hs0 hs0 hV
  obtain ⟨u00, u01, u02, y00, y01, y02, m0, rfl, rfl, rfl, g00, g01, g02⟩ := open_agg3 Tryd.underlying42 (by kernel_rfl) (by kernel_rfl) (hval 0 42 v0 rfl rfl) h0
  obtain ⟨a0W, e00, rfl, w0W⟩ := DataW.trod_int Tryd.underlying3 g00
  obtain ⟨a0H, e01, rfl, w0H⟩ := DataW.trod_int Tryd.underlying3 g01
  obtain ⟨a0C, e02, rfl, w0C⟩ := DataW.trod_string Tryd.underlying9 g02
  simp only [List.cons.injEq, and_true] at e00 e01 e02
  subst e00 e01 e02
  obtain ⟨L1, w1, l1, again1⟩ := open_arg_ints (hval 1 26 v1 rfl rfl) h1
  obtain ⟨L2, w2, l2, again2⟩ := open_arg_ints (hval 2 26 v2 rfl rfl) h2
  obtain ⟨a3, rfl, rfl, rfl, w3⟩ := open_int Tryd.underlying3 (hval 3 3 v3 rfl rfl) h3
  clear hA0 hval0 hsz
  simp only [List.append_nil, List.nil_append] at hW'
  refine (walkL a0W a0H a0C v1 L1 v2 L2 a3 w0W w0H w0C w3 W w1 l1 w2 l2 hL).mono fun e W' ⟨he, hg⟩ => ?_
  subst he
  obtain ⟨_, hvs⟩ := sides_vars hs0 (hs0.below hg) hV
  exact ⟨_, rfl, post_of_below (pa := (([] : List MemPlace) ++ ([] ++ [])) ++ (p1 ++ (p2 ++ (([] : List MemPlace) ++ ([]))))) (pv := q) hW' (fun _ _ _ => (trodAll_cons_mk (shut_bool Tryd.underlying4 _) trodAll_mk0)) (fun sp hsp => (trodAll_cons_mk (shut_agg3 (P := Tryd.prog) (y0 := (.lit (.int .i64 a0W), [])) (y1 := (.lit (.int .i64 a0H), [])) (y2 := (.lit (.string a0C.data.toList), [])) Tryd.underlying42 (by kernel_rfl) (by kernel_rfl) ⟨1, by simp [DataW.trod, Tryd.underlying3, w0W]⟩ ⟨1, by simp [DataW.trod, Tryd.underlying3, w0H]⟩ ⟨1, by simp [DataW.trod, Tryd.underlying9, w0C]⟩) (trodAll_cons_mk (again1 W' hg sp (fun p hp => hsp p (by simp [hp]))) (trodAll_cons_mk (again2 W' hg sp (fun p hp => hsp p (by simp [hp]))) (trodAll_cons_mk (shut_int Tryd.underlying3 w3) trodAll_mk0))))) (fun sp _ => hvs sp) (by simp)
    hg (ok_one (by kernel_rfl) rfl (okWide_bool_mk Tryd.underlying4 _))⟩

theorem said : Rows.FnExactCanAtSaid :=
  OpenClaim.holds_of_wide 5 Tryd.f5 rfl rfl rfl rfl rfl rfl rfl ⟨rfl, rfl, rfl, rfl, rfl⟩ rfl rfl rfl rfl rfl (by kernel_rfl) Tryd.func5 (by kernel_rfl)
    (of_decide_eq_true (by kernel_rfl)) (by unfold Func.isWrapper; first | (rw [if_pos (by decide +kernel)]; kernel_rfl) | (rw [if_neg (by decide +kernel)]; exact ⟨rfl, rfl⟩))
    (fun os started H enc _ => lifted os started H enc)

theorem plain (f : FuncId) (fn : Func) (hf : Tryd.pinned.checked.prog.funcNamed "loop.example/g00961/laws.FnExactCanAt" = some f) (hfn : Tryd.pinned.checked.prog.funcs[f]? = some fn) :
    Rows.fnExactCanAtCard.stood.looks = Tryd.pinned.checked.prog.looks [] ∧ ∀ (j : Nat) t, fn.params[j]? = some t → Tryd.pinned.checked.prog.wantsStandIn t = false := by
  obtain rfl : f = 5 := Option.some.inj ((show Tryd.prog.funcNamed "loop.example/g00961/laws.FnExactCanAt" = some 5 by kernel_rfl).symm.trans hf) |>.symm
  obtain rfl : fn = Tryd.f5 := (Option.some.inj (Tryd.func5.symm.trans hfn)).symm
  refine ⟨by kernel_rfl, fun j t ht => ?_⟩
  rw [Tryd.params5] at ht
  have hm : t ∈ [42, 26, 26, 3] := by simpa using Array.mem_of_getElem? ht
  have hall : ([42, 26, 26, 3].all fun u => !Tryd.prog.wantsStandIn u) = true := by kernel_rfl
  exact (show Tryd.prog.wantsStandIn t = false by simpa using List.all_eq_true.1 hall t hm)

theorem proved : Rows.FnExactCanAtCardSaid :=
  Claim7.holds_tied_plain_at .later [] _ _ _ _ said (fun _ h => by cases h) (by kernel_rfl) (fun _ h => by cases h) fnExactCanAt_row_tie rfl ⟨rfl, rfl⟩ (by kernel_rfl) rfl plain (by kernel_rfl)

end Go.Proofs.YtlkhecdlmbhiaaaDoor.fnExactCanAt

