/-
  THE LAW FnExactCountIn: at every grid, cell and list of cells the program's CountIn answers as its model and leaves its arguments alone. A tied card: where the listed variable holds what its initialiser laid.
-/
import Derived.Test.YtieipekhckambaaDoorSpecCount
import Derived.Test.YtieipekhckambaaDoorHomesI
import Derived.Test.YtieipekhckambaaDoorArgInts
import Derived.Lib.SmallJoins
import Derived.Test.YtieipekhckambaaDoorCards
import Derived.Test.YtieipekhckambaaDoorTie
import Derived.SevenTiedAt
namespace Go.Proofs.YtieipekhckambaaDoor.fnExactCountIn
set_option maxRecDepth 4096
open Go.ChangeShapes Go.WideShapes Go.ChangeAt Go.RowKit Go.Joins
open Go.ChangeMaps (open_string shut_string)

set_option maxHeartbeats 2000000 in
theorem walk (W H : Int) (C : ByteArray) (home : Int) (v : Value) (L : List Int) (_w0 : (Lit.int .i64 W).wf = true) (_w1 : (Lit.int .i64 H).wf = true) (hC : C.size ≤ maxLen) (_w2 : (Lit.int .i64 home).wf = true) (w : World) (hv : ArgI w v L) (hL : L.length ≤ maxLen) (hS : SidesAt w) :
    Calls Tryd.prog 6 #[.agg #[.int .i64 W, .int .i64 H, .string C], .int .i64 home, v] w fun e w' => e = .returned (.bool true) ∧ Below w.heap.size w w' := by
  have hC' : C.size ≤ 9223372036854775807 := by unfold maxLen at hC; omega
  have hL' : L.length ≤ 9223372036854775807 := by unfold maxLen at hL; omega
  obtain ⟨av, cv, rfl, HV⟩ := hv
  have hA0 : ArgI w (.slice av L.length cv) L := ⟨av, cv, rfl, HV⟩
  clear HV
  by_cases hl : L.length ≤ 1048576
  · by_cases h : C.size ≤ 1048576
    · obtain ⟨Z, HZ⟩ : ∃ Z, Hid (countV W H C home L = Z) := ⟨_, rfl⟩
      have h0 : ¬ (1048576 - (C.size : Int)) < 0 := by omega
      have hl0 : ¬ (1048576 : Int) < (L.length : Int) := by omega
      have hB := Below.refl (w.alloc (.cells #[.int .i64 W, .int .i64 H, .string C] 34)).heap.size (w.alloc (.cells #[.int .i64 W, .int .i64 H, .string C] 34))
      have HSd := Lib.hid hS
      clear hS
      go_enter Tryd.func6, Tryd.ntmps6
      go_wp2_with fail
      refine (szGrid_yes W H C h _).mono ?_
      rintro e w1 ⟨rfl, hb⟩
      replace hB := chain hB hb
      obtain ⟨c0, c1, c2⟩ := box_cells hB
      clear hb
      go_wp2_with fail
      refine (toGrid W H C _).mono ?_
      rintro e w2 ⟨rfl, hb⟩
      replace hB := chain hB hb
      clear hb c0 c1 c2
      go_wp2_with fail
      refine (toInts _ L _ (argI_below hA0 (box_below hB)) (by omega)).mono ?_
      rintro e w3 ⟨v0, rfl, hown0, hb⟩
      replace hB := chain hB hb
      clear hb
      go_wp2_with fail
      refine (specCountIn W H C home L Z v0 h (by omega) HZ _ (ints_of_own hown0)).mono ?_
      rintro e w4 ⟨rfl, hb⟩
      replace hB := chain hB hb
      clear hb hown0
      go_wp2_with fail
      refine (toInts _ L _ (argI_below hA0 (box_below hB)) (by omega)).mono ?_
      rintro e w5 ⟨v1, rfl, hown1, hb⟩
      have hs5 := hb.size
      replace hB := chain hB hb
      obtain ⟨c0, c1, c2⟩ := box_cells hB
      clear hb
      go_wp2_with fail
      refine (toGrid W H C _).mono ?_
      rintro e w6 ⟨rfl, hb⟩
      have hown1a := own_below hown1 hb hs5
      have hs6 := Nat.le_trans hs5 hb.size
      replace hB := chain hB hb
      clear hb c0 c1 c2 hown1
      go_wp2_with fail
      refine (implCountIn W H C home L Z v1 h (by omega) HZ _w2 _ (ints_of_own hown1a) (HSd.out.below (box_below hB))).mono ?_
      rintro e w7 ⟨rfl, hb⟩
      have hown1b := own_below hown1a hb hs6
      have hs7 := Nat.le_trans hs6 hb.size
      replace hB := chain hB hb
      clear hb hown1a
      go_wp2_with fail
      refine (toInts _ L _ (argI_below hA0 (box_below hB)) (by omega)).mono ?_
      rintro e w9 ⟨v2, rfl, hown2, hb⟩
      have x9 := own_below hown1b hb hs7
      replace hB := chain hB hb
      clear hb hown1b
      go_wp2_with fail
      refine (eqInts _ _ L _ (ints_of_own x9) (ints_of_own hown2) (by omega)).mono ?_
      rintro e wa ⟨rfl, na, rfl⟩
      go_wp2
      go_ret
      exact ⟨rfl, box_below (below_drewN hB na)⟩
    · go_enter Tryd.func6, Tryd.ntmps6
      go_wp2_with (go_at_call 15; (with_reducible refine (szGrid_no W H C hC' h _).mono ?_); rintro e w1 ⟨rfl, hb1⟩)
      go_ret
      exact ⟨rfl, ((Below.refl _ _).alloc (Nat.le_refl _) _).trans (hb1.mono (by simp))⟩
  · go_enter Tryd.func6, Tryd.ntmps6
    go_wp2
    go_ret
    exact ⟨rfl, (Below.refl _ _).alloc (Nat.le_refl _) _⟩

theorem walkL (W H : Int) (C : ByteArray) (home : Int) (v : Value) (L : List Int) (w0 : (Lit.int .i64 W).wf = true) (w1 : (Lit.int .i64 H).wf = true) (hC : C.size ≤ maxLen) (w2 : (Lit.int .i64 home).wf = true) (w : World) (hv : ArgI w v L) (hL : L.length ≤ maxLen) (hl : laidMetH Tryd.prog Rows.fnExactCountInRow.laid w) :
    Calls Tryd.prog 6 #[.agg #[.int .i64 W, .int .i64 H, .string C], .int .i64 home, v] w fun e w' => e = .returned (.bool true) ∧ Below w.heap.size w w' :=
  walk W H C home v L w0 w1 hC w2 w hv hL (sides_of_laid hl)
-- LIFT
set_option maxRecDepth 100000 in
theorem lifted (os : Os) (started : os.Started) (H : Type) (enc : TypeId × Value → H) :
    ReturnsInHanded {} Tryd.checked os 6 .any (fun w args => (Rows.fnExactCountInSpec.pre enc Tryd.prog Tryd.f6 [] false w args ∧ laidMetH Tryd.prog Rows.fnExactCountInRow.laid w) ∧ sizedMet enc Tryd.prog Tryd.f6 (OpenSpec.ofChange Rows.fnExactCountInSpec) false w args)
      (Rows.fnExactCountInSpec.post enc Tryd.prog Tryd.f6 false true false false) := by
  refine returnsInHanded_of_change_and (C := Tryd.checked) (X := fun w _ => laidMetH Tryd.prog Rows.fnExactCountInRow.laid w) (fun _ _ _ hh h => h.of_heap hh) own started (by kernel_rfl) Tryd.func6
    (ChangeSpec.witness_shaped (enc := enc) (C := Tryd.checked) (os := os) (X := fun w _ => laidMetH Tryd.prog Rows.fnExactCountInRow.laid w) false (World.doorLaid Tryd.prog 400 os) #[.agg #[.int .i64 0, .int .i64 0, .string ByteArray.empty], .int .i64 0, .slice none 0 0] 8 rfl (World.shaped_of_RefB (by kernel_rfl) (by kernel_rfl)) (by kernel_rfl) (by kernel_rfl) (by kernel_rfl) (sides_met os _)) ?_
  intro W base args ds gs before hval0 hW _ hsz0 hL _
  have hsz : (DataW.weightsEach Tryd.prog (Tryd.f6.params.toList ++ Rows.fnExactCountInSpec.plain.varTypes Tryd.prog) (ds ++ gs)).all (· ≤ reachBytes) = true := hsz0
  clear hsz0
  have hval : ∀ (j : Nat) t v, Tryd.f6.params[j]? = some t → args[j]? = some v → Value.okWide Tryd.prog W .any base t v := hval0
  have hW' := hW
  obtain ⟨p, q, hA0, hV, rfl, hfz, hnd⟩ := hW
  have hA : DataW.TrodAll enc Tryd.prog W 0 (fun _ => true) true Tryd.f6.params.toList args.toList ds p := hA0
  rw [Tryd.params6] at hA hval hsz
  obtain ⟨v0, vs0, d0, ds0, p0, q0, hargs, rfl, rfl, h0, r0⟩ := trodAll_cons hA
  obtain ⟨v1, vs1, d1, ds1, p1, q1, rfl, rfl, rfl, h1, r1⟩ := trodAll_cons r0
  obtain ⟨v2, vs2, d2, ds2, p2, q2, rfl, rfl, rfl, h2, r2⟩ := trodAll_cons r1
  obtain ⟨rfl, rfl, rfl⟩ := trodAll_nil r2
  obtain rfl : args = #[v0, v1, v2] := by cases args; simp_all
  have hs0 := sides_of_laid hL
  obtain ⟨rfl, _⟩ := sides_vars hs0 hs0 hV
  obtain ⟨u00, u01, u02, y00, y01, y02, m0, rfl, rfl, rfl, g00, g01, g02⟩ := open_agg3 Tryd.underlying34 (by kernel_rfl) (by kernel_rfl) (hval 0 34 v0 rfl rfl) h0
  obtain ⟨a0W, e00, rfl, w0W⟩ := DataW.trod_int Tryd.underlying3 g00
  obtain ⟨a0H, e01, rfl, w0H⟩ := DataW.trod_int Tryd.underlying3 g01
  obtain ⟨a0C, e02, rfl, w0C⟩ := DataW.trod_string Tryd.underlying9 g02
  simp only [List.cons.injEq, and_true] at e00 e01 e02
  subst e00 e01 e02
  obtain ⟨a1, rfl, rfl, rfl, w1⟩ := open_int Tryd.underlying3 (hval 1 3 v1 rfl rfl) h1
  obtain ⟨L2, w2, l2, again2⟩ := open_arg_ints (hval 2 26 v2 rfl rfl) h2
  clear hA0 hval0 hsz
  simp only [List.append_nil, List.nil_append] at hW'
  refine (walkL a0W a0H a0C a1 v2 L2 w0W w0H w0C w1 W w2 l2 hL).mono fun e W' ⟨he, hg⟩ => ?_
  subst he
  obtain ⟨_, hvs⟩ := sides_vars hs0 (hs0.below hg) hV
  exact ⟨_, rfl, post_of_below (pa := (([] : List MemPlace) ++ ([] ++ [])) ++ (([] : List MemPlace) ++ (p2 ++ ([])))) (pv := q) hW' (fun _ _ _ => (trodAll_cons_mk (shut_bool Tryd.underlying4 _) trodAll_mk0)) (fun sp hsp => (trodAll_cons_mk (shut_agg3 (P := Tryd.prog) (y0 := (.lit (.int .i64 a0W), [])) (y1 := (.lit (.int .i64 a0H), [])) (y2 := (.lit (.string a0C.data.toList), [])) Tryd.underlying34 (by kernel_rfl) (by kernel_rfl) ⟨1, by simp [DataW.trod, Tryd.underlying3, w0W]⟩ ⟨1, by simp [DataW.trod, Tryd.underlying3, w0H]⟩ ⟨1, by simp [DataW.trod, Tryd.underlying9, w0C]⟩) (trodAll_cons_mk (shut_int Tryd.underlying3 w1) (trodAll_cons_mk (again2 W' hg sp (fun p hp => hsp p (by simp [hp]))) trodAll_mk0)))) (fun sp _ => hvs sp) (by simp)
    hg (ok_one (by kernel_rfl) rfl (okWide_bool_mk Tryd.underlying4 _))⟩

theorem said : Rows.FnExactCountInSaid :=
  OpenClaim.holds_of_wide 6 Tryd.f6 rfl rfl rfl rfl rfl rfl rfl ⟨rfl, rfl, rfl, rfl, rfl⟩ rfl rfl rfl rfl rfl (by kernel_rfl) Tryd.func6 (by kernel_rfl)
    (of_decide_eq_true (by kernel_rfl)) (by unfold Func.isWrapper; first | (rw [if_pos (by decide +kernel)]; kernel_rfl) | (rw [if_neg (by decide +kernel)]; exact ⟨rfl, rfl⟩))
    (fun os started H enc _ => lifted os started H enc)

theorem plain (f : FuncId) (fn : Func) (hf : Tryd.pinned.checked.prog.funcNamed "loop.example/g00961/laws.FnExactCountIn" = some f) (hfn : Tryd.pinned.checked.prog.funcs[f]? = some fn) :
    Rows.fnExactCountInCard.stood.looks = Tryd.pinned.checked.prog.looks [] ∧ ∀ (j : Nat) t, fn.params[j]? = some t → Tryd.pinned.checked.prog.wantsStandIn t = false := by
  obtain rfl : f = 6 := Option.some.inj ((show Tryd.prog.funcNamed "loop.example/g00961/laws.FnExactCountIn" = some 6 by kernel_rfl).symm.trans hf) |>.symm
  obtain rfl : fn = Tryd.f6 := (Option.some.inj (Tryd.func6.symm.trans hfn)).symm
  refine ⟨by kernel_rfl, fun j t ht => ?_⟩
  rw [Tryd.params6] at ht
  have hm : t ∈ [34, 3, 26] := by simpa using Array.mem_of_getElem? ht
  have hall : ([34, 3, 26].all fun u => !Tryd.prog.wantsStandIn u) = true := by kernel_rfl
  exact (show Tryd.prog.wantsStandIn t = false by simpa using List.all_eq_true.1 hall t hm)

theorem proved : Rows.FnExactCountInCardSaid :=
  Claim7.holds_tied_plain_at .later [] _ _ _ _ said (fun _ h => by cases h) (by kernel_rfl) (fun _ h => by cases h) fnExactCountIn_row_tie rfl ⟨rfl, rfl⟩ (by kernel_rfl) rfl plain (by kernel_rfl)

end Go.Proofs.YtieipekhckambaaDoor.fnExactCountIn
