/-
  THE LAW FnExactHomes: at every input the program's Homes answers as its model, and its answer owns its memory. A tied card: where the listed variable holds what its initialiser laid.
-/
import Derived.Test.YtieipekhckambaaDoorSpecHome
import Derived.Test.YtieipekhckambaaDoorHomesI
import Derived.Lib.SmallJoins
import Derived.Test.YtieipekhckambaaDoorCards
import Derived.Test.YtieipekhckambaaDoorTie
import Derived.SevenTiedAt
namespace Go.Proofs.YtieipekhckambaaDoor.fnExactHomes
set_option maxRecDepth 4096
open Go.ChangeShapes Go.WideShapes Go.ChangeAt Go.RowKit Go.Joins
open Go.ChangeMaps (open_string shut_string)

theorem walk_no (W H : Int) (C : ByteArray) (hC : C.size ≤ maxLen) (h : ¬ C.size ≤ 1048576) (w : World) :
    Calls Tryd.prog 5 #[.agg #[.int .i64 W, .int .i64 H, .string C]] w fun e w' => e = .returned (.bool true) ∧ Below w.heap.size w w' := by
  have hC' : C.size ≤ 9223372036854775807 := by unfold maxLen at hC; omega
  go_enter Tryd.func5, Tryd.ntmps5
  go_wp2_with (go_at_call 15; (with_reducible refine (szGrid_no W H C hC' h _).mono ?_); rintro e w1 ⟨rfl, hb1⟩)
  go_ret
  exact ⟨rfl, ((Below.refl _ _).alloc (Nat.le_refl _) _).trans (hb1.mono (by simp))⟩

theorem held1 (v : Value) (n : Nat) (w : World) (h : Ints w v (nums 1 n)) (hn : n ≤ 1000000) :
    Calls Tryd.prog 21 #[v, .int .i64 1] w (Made w (.int .i64 ((1 + n : Nat) : Int))) :=
  heldInts v 1 n w h (by omega)
theorem mark1 (v : Value) (B n : Nat) (xs : List Value) (w : World) (hown : w.ownsRow B 3 1 v n xs) (hn : n ≤ 1000000) :
    Calls Tryd.prog 20 #[v, .int .i64 1] w (MarkedI w B 3 v 1 n) :=
  markInts v B 1 n xs w hown (by omega)
theorem own_nums {w : World} {B : Nat} {T : TypeId} {v : Value} {n : Nat} (h : w.ownsRow B T 1 v n ((nums 1 n).map (Value.int .i64))) : w.ownsRow B T 1 v (nums 1 n).length ((nums 1 n).map (Value.int .i64)) := by
  rw [length_nums]
  exact h

set_option maxHeartbeats 1000000 in
theorem walk (W H : Int) (C : ByteArray) (_w0 : (Lit.int .i64 W).wf = true) (_w1 : (Lit.int .i64 H).wf = true) (hC : C.size ≤ maxLen) (w : World) (hs : SidesAt w) :
    Calls Tryd.prog 5 #[.agg #[.int .i64 W, .int .i64 H, .string C]] w fun e w' => e = .returned (.bool true) ∧ Below w.heap.size w w' := by
  by_cases h : C.size ≤ 1048576
  · obtain ⟨L, HL⟩ : ∃ L, Hid (homesL W H C = L) := ⟨_, rfl⟩
    have hfew : L.length ≤ 1000000 := (by rw [← HL.out]; exact Nat.le_trans (List.length_filter_le _ _) (Nat.le_trans (freeL_few W H C) (by decide)))
    have h0 : ¬ (1048576 - (C.size : Int)) < 0 := by omega
    have hB := Below.refl (w.alloc (.cells #[.int .i64 W, .int .i64 H, .string C] 34)).heap.size (w.alloc (.cells #[.int .i64 W, .int .i64 H, .string C] 34))
    go_enter Tryd.func5, Tryd.ntmps5
    go_wp2_with fail
    refine (szGrid_yes W H C h _).mono ?_
    rintro e w1 ⟨rfl, hb⟩
    replace hB := chain hB hb
    obtain ⟨c0, c1, c2⟩ := box_cells hB
    clear hb
    go_wp2_with fail
    refine (toGrid W H C _).mono ?_
    rintro e w2 ⟨rfl, hb⟩
    replace hB := chain hB hb
    clear hb c0 c1 c2
    go_wp2_with fail
    refine (specHomes W H C L h HL _).mono ?_
    rintro e w3 ⟨v0, rfl, hown0, hb⟩
    have hs2 := hB.size
    replace hB := chain hB hb
    have hs3 := hb.size
    obtain ⟨c0, c1, c2⟩ := box_cells hB
    clear hb
    go_wp2_with fail
    refine (toGrid W H C _).mono ?_
    rintro e w4 ⟨rfl, hb⟩
    replace hB := chain hB hb
    have hs4 := hb.size
    have hown0a := own_below hown0 hb hs3
    clear hb c0 c1 c2
    go_wp2_with fail
    refine (implHomes W H C L h HL _ (hs.below (box_below hB))).mono ?_
    rintro e w5 ⟨v1, rfl, hown1, hb⟩
    have hs4b := hB.size
    replace hB := chain hB hb
    have hs5 := hb.size
    have hown0b := own_below hown0a hb (Nat.le_trans hs3 hs4)
    have hap := own_apart hown0a hown1
    clear hb hown0a
    go_wp2_with fail
    refine (eqInts _ _ L _ (ints_of_own hown1) (ints_of_own hown0b) (by omega)).mono ?_
    rintro e w6 ⟨rfl, n3, rfl⟩
    go_wp2_with fail
    refine (mark1 v1 w4.heap.size L.length _ (w5.drewN n3) hown1 hfew).mono ?_
    rintro e w7 ⟨rfl, hown4, hgr4⟩
    have hs7 : w5.heap.size ≤ w7.heap.size := hgr4.size
    replace hB := (below_drewN hB n3).grown hgr4 (Nat.le_trans hs4b hs5) (fun j hj => Nat.le_trans hs4b (hown1.lt j hj).1)
    have hown0c : w7.ownsRow w2.heap.size 3 1 v0 L.length (L.map (Value.int .i64)) := World.ownsRow.kept (w := w5.drewN n3) hown0b hgr4 hap
    clear hgr4 hown0b hap
    go_wp2_with fail
    refine (held1 v1 L.length _ (ints_of_own (own_nums hown4)) hfew).mono ?_
    rintro e w8 ⟨rfl, hb⟩
    have hown4a := own_below hown4 hb (Nat.le_trans hs5 hs7)
    have hown0d := own_below hown0c hb (Nat.le_trans (Nat.le_trans hs3 hs4) (Nat.le_trans hs5 hs7))
    have hs8 := hb.size
    replace hB := chain hB hb
    obtain ⟨c0, c1, c2⟩ := box_cells hB
    clear hb hown4 hown0c
    go_wp2_with fail
    refine (toGrid W H C _).mono ?_
    rintro e w9 ⟨rfl, hb⟩
    have hown4b := own_below hown4a hb (Nat.le_trans (Nat.le_trans hs5 hs7) hs8)
    have hown0e := own_below hown0d hb (Nat.le_trans (Nat.le_trans hs3 hs4) (Nat.le_trans (Nat.le_trans hs5 hs7) hs8))
    have hs9 := hb.size
    replace hB := chain hB hb
    clear hb hown4a hown0d c0 c1 c2
    go_wp2_with fail
    refine (implHomes W H C L h HL _ (hs.below (box_below hB))).mono ?_
    rintro e wa ⟨v2, rfl, hown2, hb⟩
    have hown4c := own_below hown4b hb (Nat.le_trans (Nat.le_trans (Nat.le_trans hs5 hs7) hs8) hs9)
    have hown0f := own_below hown0e hb (Nat.le_trans (Nat.le_trans hs3 hs4) (Nat.le_trans (Nat.le_trans (Nat.le_trans hs5 hs7) hs8) hs9))
    replace hB := chain hB hb
    clear hb hown4b hown0e
    go_wp2_with fail
    refine (eqInts _ _ L _ (ints_of_own hown2) (ints_of_own hown0f) (by omega)).mono ?_
    rintro e wb ⟨rfl, n7, rfl⟩
    go_wp2_with fail
    refine (held1 v1 L.length (wa.drewN n7) (ints_of_own (w := wa.drewN n7) (own_nums hown4c)) hfew).mono ?_
    rintro e wc ⟨rfl, hb⟩
    replace hB := chain (below_drewN hB n7) hb
    go_wp2
    go_ret
    exact ⟨rfl, box_below hB⟩
  · exact walk_no W H C hC h w

theorem walkL (W H : Int) (C : ByteArray) (w0 : (Lit.int .i64 W).wf = true) (w1 : (Lit.int .i64 H).wf = true) (hC : C.size ≤ maxLen) (w : World) (hL : laidMetH Tryd.prog Rows.fnExactHomesRow.laid w) :
    Calls Tryd.prog 5 #[.agg #[.int .i64 W, .int .i64 H, .string C]] w fun e w' => e = .returned (.bool true) ∧ Below w.heap.size w w' :=
  walk W H C w0 w1 hC w (sides_of_laid hL)
-- LIFT
set_option maxRecDepth 100000 in
theorem lifted (os : Os) (started : os.Started) (H : Type) (enc : TypeId × Value → H) :
    ReturnsInHanded {} Tryd.checked os 5 .any (fun w args => (Rows.fnExactHomesSpec.pre enc Tryd.prog Tryd.f5 [] false w args ∧ laidMetH Tryd.prog Rows.fnExactHomesRow.laid w) ∧ sizedMet enc Tryd.prog Tryd.f5 (OpenSpec.ofChange Rows.fnExactHomesSpec) false w args)
      (Rows.fnExactHomesSpec.post enc Tryd.prog Tryd.f5 false true false false) := by
  refine returnsInHanded_of_change_and (C := Tryd.checked) (X := fun w _ => laidMetH Tryd.prog Rows.fnExactHomesRow.laid w) (fun _ _ _ hh h => h.of_heap hh) own started (by kernel_rfl) Tryd.func5
    (ChangeSpec.witness_shaped (enc := enc) (C := Tryd.checked) (os := os) (X := fun w _ => laidMetH Tryd.prog Rows.fnExactHomesRow.laid w) false (World.doorLaid Tryd.prog 400 os) #[.agg #[.int .i64 0, .int .i64 0, .string ByteArray.empty]] 8 rfl (World.shaped_of_RefB (by kernel_rfl) (by kernel_rfl)) (by kernel_rfl) (by kernel_rfl) (by kernel_rfl) (sides_met os _)) ?_
  intro W base args ds gs before hval0 hW _ hsz0 hL _
  have hsz : (DataW.weightsEach Tryd.prog (Tryd.f5.params.toList ++ Rows.fnExactHomesSpec.plain.varTypes Tryd.prog) (ds ++ gs)).all (· ≤ reachBytes) = true := hsz0
  clear hsz0
  have hval : ∀ (j : Nat) t v, Tryd.f5.params[j]? = some t → args[j]? = some v → Value.okWide Tryd.prog W .any base t v := hval0
  have hW' := hW
  obtain ⟨p, q, hA0, hV, rfl, hfz, hnd⟩ := hW
  have hA : DataW.TrodAll enc Tryd.prog W 0 (fun _ => true) true Tryd.f5.params.toList args.toList ds p := hA0
  rw [Tryd.params5] at hA hval hsz
  obtain ⟨v0, vs0, d0, ds0, p0, q0, hargs, rfl, rfl, h0, r0⟩ := trodAll_cons hA
  obtain ⟨rfl, rfl, rfl⟩ := trodAll_nil r0
  obtain rfl : args = #[v0] := by cases args; simp_all
  have hs0 := sides_of_laid hL
  obtain ⟨rfl, _⟩ := sides_vars hs0 hs0 hV
  obtain ⟨u00, u01, u02, y00, y01, y02, m0, rfl, rfl, rfl, g00, g01, g02⟩ := open_agg3 Tryd.underlying34 (by kernel_rfl) (by kernel_rfl) (hval 0 34 v0 rfl rfl) h0
  obtain ⟨a0W, e00, rfl, w0W⟩ := DataW.trod_int Tryd.underlying3 g00
  obtain ⟨a0H, e01, rfl, w0H⟩ := DataW.trod_int Tryd.underlying3 g01
  obtain ⟨a0C, e02, rfl, w0C⟩ := DataW.trod_string Tryd.underlying9 g02
  simp only [List.cons.injEq, and_true] at e00 e01 e02
  subst e00 e01 e02
  clear hA0 hval0 hsz
  simp only [List.append_nil, List.nil_append] at hW'
  refine (walkL a0W a0H a0C w0W w0H w0C W hL).mono fun e W' ⟨he, hg⟩ => ?_
  subst he
  obtain ⟨_, hvs⟩ := sides_vars hs0 (hs0.below hg) hV
  exact ⟨_, rfl, post_of_below (pa := []) (pv := q) hW' (fun _ _ _ => (trodAll_cons_mk (shut_bool Tryd.underlying4 _) trodAll_mk0)) (fun sp _ => (trodAll_cons_mk (shut_agg3 (P := Tryd.prog) (y0 := (.lit (.int .i64 a0W), [])) (y1 := (.lit (.int .i64 a0H), [])) (y2 := (.lit (.string a0C.data.toList), [])) Tryd.underlying34 (by kernel_rfl) (by kernel_rfl) ⟨1, by simp [DataW.trod, Tryd.underlying3, w0W]⟩ ⟨1, by simp [DataW.trod, Tryd.underlying3, w0H]⟩ ⟨1, by simp [DataW.trod, Tryd.underlying9, w0C]⟩) trodAll_mk0)) (fun sp _ => hvs sp) rfl
    hg (ok_one (by kernel_rfl) rfl (okWide_bool_mk Tryd.underlying4 _))⟩

theorem said : Rows.FnExactHomesSaid :=
  OpenClaim.holds_of_wide 5 Tryd.f5 rfl rfl rfl rfl rfl rfl rfl ⟨rfl, rfl, rfl, rfl, rfl⟩ rfl rfl rfl rfl rfl (by kernel_rfl) Tryd.func5 (by kernel_rfl)
    (of_decide_eq_true (by kernel_rfl)) (by unfold Func.isWrapper; first | (rw [if_pos (by decide +kernel)]; kernel_rfl) | (rw [if_neg (by decide +kernel)]; exact ⟨rfl, rfl⟩))
    (fun os started H enc _ => lifted os started H enc)

theorem plain (f : FuncId) (fn : Func) (hf : Tryd.pinned.checked.prog.funcNamed "loop.example/g00961/laws.FnExactHomes" = some f) (hfn : Tryd.pinned.checked.prog.funcs[f]? = some fn) :
    Rows.fnExactHomesCard.stood.looks = Tryd.pinned.checked.prog.looks [] ∧ ∀ (j : Nat) t, fn.params[j]? = some t → Tryd.pinned.checked.prog.wantsStandIn t = false := by
  obtain rfl : f = 5 := Option.some.inj ((show Tryd.prog.funcNamed "loop.example/g00961/laws.FnExactHomes" = some 5 by kernel_rfl).symm.trans hf) |>.symm
  obtain rfl : fn = Tryd.f5 := (Option.some.inj (Tryd.func5.symm.trans hfn)).symm
  refine ⟨by kernel_rfl, fun j t ht => ?_⟩
  rw [Tryd.params5] at ht
  have hm : t ∈ [34] := by simpa using Array.mem_of_getElem? ht
  have hall : ([34].all fun u => !Tryd.prog.wantsStandIn u) = true := by kernel_rfl
  exact (show Tryd.prog.wantsStandIn t = false by simpa using List.all_eq_true.1 hall t hm)

theorem proved : Rows.FnExactHomesCardSaid :=
  Claim7.holds_tied_plain_at .later [] _ _ _ _ said (fun _ h => by cases h) (by kernel_rfl) (fun _ h => by cases h) fnExactHomes_row_tie rfl ⟨rfl, rfl⟩ (by kernel_rfl) rfl plain (by kernel_rfl)

end Go.Proofs.YtieipekhckambaaDoor.fnExactHomes
