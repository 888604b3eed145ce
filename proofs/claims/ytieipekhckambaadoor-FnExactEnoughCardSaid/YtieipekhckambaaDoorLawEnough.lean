/-
  THE LAW FnExactEnough: at every grid and every two lists of cells the program's Enough answers as its model and leaves its arguments alone. A tied card: where the listed variable holds what its initialiser laid.
-/
import Derived.Test.YtieipekhckambaaDoorSpecEnough
import Derived.Test.YtieipekhckambaaDoorHomesI
import Derived.Test.YtieipekhckambaaDoorArgInts
import Derived.Lib.SmallJoins
import Derived.Test.YtieipekhckambaaDoorCards
import Derived.Test.YtieipekhckambaaDoorTie
import Derived.SevenTiedAt
namespace Go.Proofs.YtieipekhckambaaDoor.fnExactEnough
set_option maxRecDepth 4096
open Go.ChangeShapes Go.WideShapes Go.ChangeAt Go.RowKit Go.Joins
open Go.ChangeMaps (open_string shut_string)

set_option maxHeartbeats 2000000 in
theorem walk (W H : Int) (C : ByteArray) (v : Value) (L : List Int) (u : Value) (M : List Int) (_w0 : (Lit.int .i64 W).wf = true) (_w1 : (Lit.int .i64 H).wf = true) (hC : C.size ≤ maxLen) (w : World) (hv : ArgI w v L) (hL : L.length ≤ maxLen) (hu : ArgI w u M) (hM : M.length ≤ maxLen) (hS : SidesAt w) :
    Calls Tryd.prog 7 #[.agg #[.int .i64 W, .int .i64 H, .string C], v, u] w fun e w' => e = .returned (.bool true) ∧ Below w.heap.size w w' := by
  have hC' : C.size ≤ 9223372036854775807 := by unfold maxLen at hC; omega
  have hL' : L.length ≤ 9223372036854775807 := by unfold maxLen at hL; omega
  have hM' : M.length ≤ 9223372036854775807 := by unfold maxLen at hM; omega
  obtain ⟨av, cv, rfl, HV⟩ := hv
  have hA0 : ArgI w (.slice av L.length cv) L := ⟨av, cv, rfl, HV⟩
  obtain ⟨au, cu, rfl, HU⟩ := hu
  have hA1 : ArgI w (.slice au M.length cu) M := ⟨au, cu, rfl, HU⟩
  clear HV HU
  by_cases hl : L.length ≤ 1048576
  · by_cases hm : M.length ≤ 1048576
    · by_cases h : C.size ≤ 1048576
      · obtain ⟨Z, HZ⟩ : ∃ Z, Hid (enoughV W H C L M = Z) := ⟨_, rfl⟩
        have h0 : ¬ (1048576 - (C.size : Int)) < 0 := by omega
        have hl0 : ¬ (1048576 : Int) < (L.length : Int) := by omega
        have hm0 : ¬ (1048576 : Int) < (M.length : Int) := by omega
        have hB := Below.refl (w.alloc (.cells #[.int .i64 W, .int .i64 H, .string C] 34)).heap.size (w.alloc (.cells #[.int .i64 W, .int .i64 H, .string C] 34))
        have HSd := Lib.hid hS
        clear hS
        go_enter Tryd.func7, Tryd.ntmps7
        go_wp2_with fail
        refine (szGrid_yes W H C h _).mono ?_
        rintro e w1 ⟨rfl, hb⟩
        replace hB := chain hB hb
        obtain ⟨c0, c1, c2⟩ := box_cells hB
        clear hb
        go_wp2_with fail
        refine (toGrid W H C _).mono ?_
        rintro e w2 ⟨rfl, hb⟩
        replace hB := chain hB hb
        clear hb c0 c1 c2
        go_wp2_with fail
        refine (toInts _ L _ (argI_below hA0 (box_below hB)) (by omega)).mono ?_
        rintro e w3 ⟨v0, rfl, hown0, hb⟩
        have hs3 := hb.size
        replace hB := chain hB hb
        clear hb
        go_wp2_with fail
        refine (toInts _ M _ (argI_below hA1 (box_below hB)) (by omega)).mono ?_
        rintro e w3b ⟨u0, rfl, howu0, hb⟩
        have hown0b := own_below hown0 hb hs3
        replace hB := chain hB hb
        clear hb hown0
        go_wp2_with fail
        refine (specEnough W H C L M Z v0 u0 h (by omega) (by omega) HZ _ (ints_of_own hown0b) (ints_of_own howu0)).mono ?_
        rintro e w4 ⟨rfl, hb⟩
        replace hB := chain hB hb
        clear hb hown0b howu0
        go_wp2_with fail
        refine (toInts _ L _ (argI_below hA0 (box_below hB)) (by omega)).mono ?_
        rintro e w5 ⟨v1, rfl, hown1, hb⟩
        have hs5 := hb.size
        replace hB := chain hB hb
        clear hb
        go_wp2_with fail
        refine (toInts _ M _ (argI_below hA1 (box_below hB)) (by omega)).mono ?_
        rintro e w5b ⟨u1, rfl, howu1, hb⟩
        have hown1' := own_below hown1 hb hs5
        have hsu := hb.size
        have hs5b := Nat.le_trans hs5 hb.size
        replace hB := chain hB hb
        obtain ⟨c0, c1, c2⟩ := box_cells hB
        clear hb hown1
        go_wp2_with fail
        refine (toGrid W H C _).mono ?_
        rintro e w6 ⟨rfl, hb⟩
        have hown1a := own_below hown1' hb hs5b
        have howu1a := own_below howu1 hb hsu
        have hs6 := Nat.le_trans hs5b hb.size
        have hsu6 := Nat.le_trans hsu hb.size
        replace hB := chain hB hb
        clear hb c0 c1 c2 hown1' howu1
        go_wp2_with fail
        refine (implEnough W H C L M Z v1 u1 h (by omega) (by omega) HZ _ (ints_of_own hown1a) (ints_of_own howu1a) (HSd.out.below (box_below hB))).mono ?_
        rintro e w7 ⟨rfl, hb⟩
        have hown1b := own_below hown1a hb hs6
        have howu1b := own_below howu1a hb hsu6
        have hs7 := Nat.le_trans hs6 hb.size
        have hsu7 := Nat.le_trans hsu6 hb.size
        replace hB := chain hB hb
        clear hb hown1a howu1a
        go_wp2_with fail
        refine (toInts _ L _ (argI_below hA0 (box_below hB)) (by omega)).mono ?_
        rintro e w9 ⟨v2, rfl, hown2, hb⟩
        have x9 := own_below hown1b hb hs7
        have y9 := own_below howu1b hb hsu7
        have hs9 := Nat.le_trans hsu7 hb.size
        replace hB := chain hB hb
        clear hb hown1b howu1b
        go_wp2_with fail
        refine (eqInts _ _ L _ (ints_of_own x9) (ints_of_own hown2) (by omega)).mono ?_
        rintro e wa ⟨rfl, na, rfl⟩
        have ya : (w9.drewN na).ownsRow w5.heap.size 3 1 u1 M.length (M.map (Value.int .i64)) := y9
        have hsa : w5.heap.size ≤ (w9.drewN na).heap.size := hs9
        replace hB := below_drewN hB na
        clear x9 y9 hown2 hs9
        go_wp2_with fail
        generalize w9.drewN na = wa at *
        refine (toInts _ M _ (argI_below hA1 (box_below hB)) (by omega)).mono ?_
        rintro e wb ⟨u2, rfl, howu2, hb⟩
        have yb := own_below ya hb hsa
        replace hB := chain hB hb
        clear hb ya
        go_wp2_with fail
        refine (eqInts _ _ M _ (ints_of_own yb) (ints_of_own howu2) (by omega)).mono ?_
        rintro e wc ⟨rfl, nc, rfl⟩
        go_wp2
        go_ret
        exact ⟨rfl, box_below (below_drewN hB nc)⟩
      · have hm0 : ¬ (1048576 : Int) < (M.length : Int) := by omega
        go_enter Tryd.func7, Tryd.ntmps7
        go_wp2_with (go_at_call 15; (with_reducible refine (szGrid_no W H C hC' h _).mono ?_); rintro e w1 ⟨rfl, hb1⟩)
        go_ret
        exact ⟨rfl, ((Below.refl _ _).alloc (Nat.le_refl _) _).trans (hb1.mono (by simp))⟩
    · go_enter Tryd.func7, Tryd.ntmps7
      go_wp2
      go_ret
      exact ⟨rfl, (Below.refl _ _).alloc (Nat.le_refl _) _⟩
  · go_enter Tryd.func7, Tryd.ntmps7
    go_wp2
    go_ret
    exact ⟨rfl, (Below.refl _ _).alloc (Nat.le_refl _) _⟩

theorem walkL (W H : Int) (C : ByteArray) (v : Value) (L : List Int) (u : Value) (M : List Int) (w0 : (Lit.int .i64 W).wf = true) (w1 : (Lit.int .i64 H).wf = true) (hC : C.size ≤ maxLen) (w : World) (hv : ArgI w v L) (hL : L.length ≤ maxLen) (hu : ArgI w u M) (hM : M.length ≤ maxLen) (hl : laidMetH Tryd.prog Rows.fnExactEnoughRow.laid w) :
    Calls Tryd.prog 7 #[.agg #[.int .i64 W, .int .i64 H, .string C], v, u] w fun e w' => e = .returned (.bool true) ∧ Below w.heap.size w w' :=
  walk W H C v L u M w0 w1 hC w hv hL hu hM (sides_of_laid hl)
-- LIFT
set_option maxRecDepth 100000 in
theorem lifted (os : Os) (started : os.Started) (H : Type) (enc : TypeId × Value → H) :
    ReturnsInHanded {} Tryd.checked os 7 .any (fun w args => (Rows.fnExactEnoughSpec.pre enc Tryd.prog Tryd.f7 [] false w args ∧ laidMetH Tryd.prog Rows.fnExactEnoughRow.laid w) ∧ sizedMet enc Tryd.prog Tryd.f7 (OpenSpec.ofChange Rows.fnExactEnoughSpec) false w args)
      (Rows.fnExactEnoughSpec.post enc Tryd.prog Tryd.f7 false true false false) := by
  refine returnsInHanded_of_change_and (C := Tryd.checked) (X := fun w _ => laidMetH Tryd.prog Rows.fnExactEnoughRow.laid w) (fun _ _ _ hh h => h.of_heap hh) own started (by kernel_rfl) Tryd.func7
    (ChangeSpec.witness_shaped (enc := enc) (C := Tryd.checked) (os := os) (X := fun w _ => laidMetH Tryd.prog Rows.fnExactEnoughRow.laid w) false (World.doorLaid Tryd.prog 400 os) #[.agg #[.int .i64 0, .int .i64 0, .string ByteArray.empty], .slice none 0 0, .slice none 0 0] 8 rfl (World.shaped_of_RefB (by kernel_rfl) (by kernel_rfl)) (by kernel_rfl) (by kernel_rfl) (by kernel_rfl) (sides_met os _)) ?_
  intro W base args ds gs before hval0 hW _ hsz0 hL _
  have hsz : (DataW.weightsEach Tryd.prog (Tryd.f7.params.toList ++ Rows.fnExactEnoughSpec.plain.varTypes Tryd.prog) (ds ++ gs)).all (· ≤ reachBytes) = true := hsz0
  clear hsz0
  have hval : ∀ (j : Nat) t v, Tryd.f7.params[j]? = some t → args[j]? = some v → Value.okWide Tryd.prog W .any base t v := hval0
  have hW' := hW
  obtain ⟨p, q, hA0, hV, rfl, hfz, hnd⟩ := hW
  have hA : DataW.TrodAll enc Tryd.prog W 0 (fun _ => true) true Tryd.f7.params.toList args.toList ds p := hA0
  rw [Tryd.params7] at hA hval hsz
  obtain ⟨v0, vs0, d0, ds0, p0, q0, hargs, rfl, rfl, h0, r0⟩ := trodAll_cons hA
  obtain ⟨v1, vs1, d1, ds1, p1, q1, rfl, rfl, rfl, h1, r1⟩ := trodAll_cons r0
  obtain ⟨v2, vs2, d2, ds2, p2, q2, rfl, rfl, rfl, h2, r2⟩ := trodAll_cons r1
  obtain ⟨rfl, rfl, rfl⟩ := trodAll_nil r2
  obtain rfl : args = #[v0, v1, v2] := by cases args; simp_all
  have hs0 := sides_of_laid hL
  obtain ⟨rfl, _⟩ := sides_vars hs0 hs0 hV
  obtain ⟨u00, u01, u02, y00, y01, y02, m0, rfl, rfl, rfl, g00, g01, g02⟩ := open_agg3 Tryd.underlying34 (by kernel_rfl) (by kernel_rfl) (hval 0 34 v0 rfl rfl) h0
  obtain ⟨a0W, e00, rfl, w0W⟩ := DataW.trod_int Tryd.underlying3 g00
  obtain ⟨a0H, e01, rfl, w0H⟩ := DataW.trod_int Tryd.underlying3 g01
  obtain ⟨a0C, e02, rfl, w0C⟩ := DataW.trod_string Tryd.underlying9 g02
  simp only [List.cons.injEq, and_true] at e00 e01 e02
  subst e00 e01 e02
  obtain ⟨L1, w1, l1, again1⟩ := open_arg_ints (hval 1 26 v1 rfl rfl) h1
  obtain ⟨L2, w2, l2, again2⟩ := open_arg_ints (hval 2 26 v2 rfl rfl) h2
  clear hA0 hval0 hsz
  simp only [List.append_nil, List.nil_append] at hW'
  refine (walkL a0W a0H a0C v1 L1 v2 L2 w0W w0H w0C W w1 l1 w2 l2 hL).mono fun e W' ⟨he, hg⟩ => ?_
  subst he
  obtain ⟨_, hvs⟩ := sides_vars hs0 (hs0.below hg) hV
  exact ⟨_, rfl, post_of_below (pa := (([] : List MemPlace) ++ ([] ++ [])) ++ (p1 ++ (p2 ++ ([])))) (pv := q) hW' (fun _ _ _ => (trodAll_cons_mk (shut_bool Tryd.underlying4 _) trodAll_mk0)) (fun sp hsp => (trodAll_cons_mk (shut_agg3 (P := Tryd.prog) (y0 := (.lit (.int .i64 a0W), [])) (y1 := (.lit (.int .i64 a0H), [])) (y2 := (.lit (.string a0C.data.toList), [])) Tryd.underlying34 (by kernel_rfl) (by kernel_rfl) ⟨1, by simp [DataW.trod, Tryd.underlying3, w0W]⟩ ⟨1, by simp [DataW.trod, Tryd.underlying3, w0H]⟩ ⟨1, by simp [DataW.trod, Tryd.underlying9, w0C]⟩) (trodAll_cons_mk (again1 W' hg sp (fun p hp => hsp p (by simp [hp]))) (trodAll_cons_mk (again2 W' hg sp (fun p hp => hsp p (by simp [hp]))) trodAll_mk0)))) (fun sp _ => hvs sp) (by simp)
    hg (ok_one (by kernel_rfl) rfl (okWide_bool_mk Tryd.underlying4 _))⟩

theorem said : Rows.FnExactEnoughSaid :=
  OpenClaim.holds_of_wide 7 Tryd.f7 rfl rfl rfl rfl rfl rfl rfl ⟨rfl, rfl, rfl, rfl, rfl⟩ rfl rfl rfl rfl rfl (by kernel_rfl) Tryd.func7 (by kernel_rfl)
    (of_decide_eq_true (by kernel_rfl)) (by unfold Func.isWrapper; first | (rw [if_pos (by decide +kernel)]; kernel_rfl) | (rw [if_neg (by decide +kernel)]; exact ⟨rfl, rfl⟩))
    (fun os started H enc _ => lifted os started H enc)

theorem plain (f : FuncId) (fn : Func) (hf : Tryd.pinned.checked.prog.funcNamed "loop.example/g00961/laws.FnExactEnough" = some f) (hfn : Tryd.pinned.checked.prog.funcs[f]? = some fn) :
    Rows.fnExactEnoughCard.stood.looks = Tryd.pinned.checked.prog.looks [] ∧ ∀ (j : Nat) t, fn.params[j]? = some t → Tryd.pinned.checked.prog.wantsStandIn t = false := by
  obtain rfl : f = 7 := Option.some.inj ((show Tryd.prog.funcNamed "loop.example/g00961/laws.FnExactEnough" = some 7 by kernel_rfl).symm.trans hf) |>.symm
  obtain rfl : fn = Tryd.f7 := (Option.some.inj (Tryd.func7.symm.trans hfn)).symm
  refine ⟨by kernel_rfl, fun j t ht => ?_⟩
  rw [Tryd.params7] at ht
  have hm : t ∈ [34, 26, 26] := by simpa using Array.mem_of_getElem? ht
  have hall : ([34, 26, 26].all fun u => !Tryd.prog.wantsStandIn u) = true := by kernel_rfl
  exact (show Tryd.prog.wantsStandIn t = false by simpa using List.all_eq_true.1 hall t hm)

theorem proved : Rows.FnExactEnoughCardSaid :=
  Claim7.holds_tied_plain_at .later [] _ _ _ _ said (fun _ h => by cases h) (by kernel_rfl) (fun _ h => by cases h) fnExactEnough_row_tie rfl ⟨rfl, rfl⟩ (by kernel_rfl) rfl plain (by kernel_rfl)

end Go.Proofs.YtieipekhckambaaDoor.fnExactEnough
