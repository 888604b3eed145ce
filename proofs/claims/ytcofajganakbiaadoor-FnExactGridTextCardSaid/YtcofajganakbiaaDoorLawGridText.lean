/-
  THE LAW FnExactGridText, as a card tied to the program's text: at every grid the program's GridText answers as its model, where the library's three listed tables hold what their initialisers lay.
-/
import Derived.Test.YtcofajganakbiaaDoorTextI
import Derived.Test.YtcofajganakbiaaDoorCards
import Derived.Test.YtcofajganakbiaaDoorTie
import Derived.LaidMore
import Derived.Stop.Joined
import Derived.SevenTiedAt
import Derived.Lib.SmallJoins
namespace Go.Proofs.YtcofajganakbiaaDoor.fnExactGridText
open Go.ChangeShapes Go.WideShapes Go.ChangeAt Go.RowKit Go.Joins

noncomputable def gtextT (W H : Int) (C : ByteArray) : ByteArray := if gok W H C = true then textT W.toNat H.toNat C else ⟨#[]⟩
/-- The text came back. -/
def TextBack (T : ByteArray) (b : Bool) (w : World) (e : Ending) (w' : World) : Prop := e = .returned (.tuple #[.string T, .bool b]) ∧ Below w.heap.size w w'

theorem sides_of {W H : Int} {C : ByteArray} (hg : gok W H C = true) : ∃ a b : Nat, W = a ∧ H = b ∧ 1 ≤ a ∧ a ≤ 8 ∧ 1 ≤ b ∧ b ≤ 8 ∧ C.size = a * b := by
  obtain ⟨⟨⟨h1, h2⟩, ⟨h3, h4⟩, hs⟩, _⟩ := gok_out hg
  obtain ⟨a, rfl⟩ : ∃ a : Nat, W = a := ⟨W.toNat, by omega⟩
  obtain ⟨b, rfl⟩ : ∃ b : Nat, H = b := ⟨H.toNat, by omega⟩
  exact ⟨a, b, rfl, rfl, by omega, by omega, by omega, by omega, by have : ((a * b : Nat) : Int) = (a : Int) * (b : Int) := Int.natCast_mul a b; omega⟩

theorem specText (W H : Int) (C T : ByteArray) (b : Bool) (hC : C.size ≤ 1048576) (HT : Hid (gtextT W H C = T)) (HB : Hid (gok W H C = b)) (w : World) :
    Calls Tryd.prog 6 #[.agg #[.int .i64 W, .int .i64 H, .string C]] w (TextBack T b w) := by
  obtain rfl : gok W H C = b := HB.out
  by_cases hg : gok W H C = true
  · obtain ⟨a, b, rfl, rfl, h1, h2, h3, h4, hs⟩ := sides_of hg
    rw [hg]
    exact specText_yes a b C T hC hg h1 h2 h3 h4 hs (by rw [← HT.out]; unfold gtextT; rw [if_pos hg]; rfl) w
  · have hg2 : gok W H C = false := by simpa using hg
    have ht : T = ⟨#[]⟩ := by rw [← HT.out]; unfold gtextT; rw [if_neg hg]
    subst ht
    rw [hg2]
    exact specText_no W H C hC hg2 w
theorem implText (W H : Int) (C T : ByteArray) (b : Bool) (hC : C.size ≤ 1048576) (HT : Hid (gtextT W H C = T)) (HB : Hid (gok W H C = b)) (w : World) (ht : Hid (Tab w)) :
    Calls Tryd.prog 8 #[.agg #[.int .i64 W, .int .i64 H, .string C]] w (TextBack T b w) := by
  obtain rfl : gok W H C = b := HB.out
  by_cases hg : gok W H C = true
  · obtain ⟨a, b, rfl, rfl, h1, h2, h3, h4, hs⟩ := sides_of hg
    rw [hg]
    exact implText_yes a b C T hC hg h1 h2 h3 h4 hs (by rw [← HT.out]; unfold gtextT; rw [if_pos hg]; rfl) w ht
  · have hg2 : gok W H C = false := by simpa using hg
    have hT : T = ⟨#[]⟩ := by rw [← HT.out]; unfold gtextT; rw [if_neg hg]
    subst hT
    rw [hg2]
    exact implText_no W H C hC hg2 w

theorem walk_no (W H : Int) (C : ByteArray) (hC : C.size ≤ maxLen) (h : ¬ C.size ≤ 1048576) (w : World) :
    Calls Tryd.prog 3 #[.agg #[.int .i64 W, .int .i64 H, .string C]] w fun e w' => e = .returned (.bool true) ∧ Below w.heap.size w w' := by
  have hC' : C.size ≤ 9223372036854775807 := by unfold maxLen at hC; omega
  go_enter Tryd.func3, Tryd.ntmps3
  go_wp2_with (go_at_call 5; (with_reducible refine (szGrid_no W H C hC' h _).mono ?_); rintro e w1 ⟨rfl, hb1⟩)
  go_ret
  exact ⟨rfl, ((Below.refl _ _).alloc (Nat.le_refl _) _).trans (hb1.mono (by simp))⟩

set_option maxHeartbeats 400000 in
theorem walk (W H : Int) (C : ByteArray) (hC : C.size ≤ maxLen) (w : World) (ht : Hid (Tab w)) :
    Calls Tryd.prog 3 #[.agg #[.int .i64 W, .int .i64 H, .string C]] w fun e w' => e = .returned (.bool true) ∧ Below w.heap.size w w' := by
  by_cases h : C.size ≤ 1048576
  · obtain ⟨T, HT⟩ : ∃ T, Hid (gtextT W H C = T) := ⟨_, rfl⟩
    obtain ⟨b, HB⟩ : ∃ b, Hid (gok W H C = b) := ⟨_, rfl⟩
    have h0 : ¬ (1048576 - (C.size : Int)) < 0 := by omega
    have hB := Below.refl (w.alloc (.cells #[.int .i64 W, .int .i64 H, .string C] 23)).heap.size (w.alloc (.cells #[.int .i64 W, .int .i64 H, .string C] 23))
    go_enter Tryd.func3, Tryd.ntmps3
    go_wp2_with (first
      | (go_at_call 5; (with_reducible refine (szGrid_yes W H C h _).mono ?_); rintro e w1 ⟨rfl, hb⟩; replace hB := chain hB hb; obtain ⟨c0, c1, c2⟩ := box_cells hB; clear hb)
      | (go_at_call 7; (with_reducible refine (toGrid W H C _).mono ?_); rintro e w1 ⟨rfl, hb⟩; replace hB := chain hB hb; obtain ⟨c0, c1, c2⟩ := box_cells hB; clear hb)
      | (go_at_call 6; (with_reducible refine (specText W H C T b h HT HB _).mono ?_); rintro e w1 ⟨rfl, hb⟩; replace hB := chain hB hb; obtain ⟨c0, c1, c2⟩ := box_cells hB; clear hb)
      | (go_at_call 8; (with_reducible refine (implText W H C T b h HT HB _ (Lib.hid (tab_on ht.out (box_below hB)))).mono ?_); rintro e w1 ⟨rfl, hb⟩; replace hB := chain hB hb; obtain ⟨c0, c1, c2⟩ := box_cells hB; clear hb))
    go_ret
    exact ⟨rfl, box_below hB⟩
  · exact walk_no W H C hC h w

theorem gPow : Tryd.prog.globalNamed "internal/strconv.uint64pow10" = some 3 := by kernel_rfl
theorem tPow : (Tryd.prog.globals[3]?).map (·.type) = some 98 := by kernel_rfl
theorem cPow : Tryd.prog.cellsOf 98 = 20 := by kernel_rfl
theorem c64 : Tryd.prog.cellsOf 85 = 1 := by kernel_rfl

/-- What the row's list gives: the table of the powers of ten. -/
theorem table {W : World} (h : laidMetH Tryd.prog Rows.fnExactGridTextRow.laid W) : Lib.TabIs Tryd.prog W "internal/strconv.uint64pow10" .u64 Lib.pow10Tab := by
  obtain ⟨ps, ⟨g0, t0, cs0, f0, p0, q0, hg0, ht0, hv0, hd0, ⟨g1, t1, cs1, f1, p1, q1, hg1, ht1, hv1, hd1, ⟨g2, t2, cs2, f2, p2, q2, hg2, ht2, hv2, hd2, _, _⟩, _⟩, _⟩, _⟩ := h
  obtain rfl := Option.some.inj (gPow.symm.trans hg2)
  obtain rfl := Option.some.inj (tPow.symm.trans ht2)
  unfold Lib.TabIs
  rw [hv2, ← Lib.cells_of_tab (zs := Lib.pow10Tab) Tryd.underlying98 Tryd.underlying85 c64 cPow hd2]

theorem door_met (os : Os) (args : Array Value) : laidMetH Tryd.prog Rows.fnExactGridTextRow.laid ((World.doorLaid Tryd.prog 400 os).forCall (fun _ _ => 0) ⟨#[], args, []⟩).memory :=
  laidMetH_of_parts3 (fuel := 8) (laidMet_of_run' 8 (by kernel_rfl) (by kernel_rfl)) (by kernel_rfl) (by kernel_rfl)

theorem walkL (W H : Int) (C : ByteArray) (_w0 : (Lit.int .i64 W).wf = true) (_w1 : (Lit.int .i64 H).wf = true) (hC : C.size ≤ maxLen) (w : World) (hL : laidMetH Tryd.prog Rows.fnExactGridTextRow.laid w) :
    Calls Tryd.prog 3 #[.agg #[.int .i64 W, .int .i64 H, .string C]] w fun e w' => e = .returned (.bool true) ∧ Below w.heap.size w w' :=
  walk W H C hC w (Lib.hid (table hL))
-- LIFT
set_option maxRecDepth 100000 in
theorem lifted (os : Os) (started : os.Started) (H : Type) (enc : TypeId × Value → H) :
    ReturnsInHanded {} Tryd.checked os 3 .any (fun w args => (Rows.fnExactGridTextSpec.pre enc Tryd.prog Tryd.f3 [] false w args ∧ laidMetH Tryd.prog Rows.fnExactGridTextRow.laid w) ∧ sizedMet enc Tryd.prog Tryd.f3 (OpenSpec.ofChange Rows.fnExactGridTextSpec) false w args)
      (Rows.fnExactGridTextSpec.post enc Tryd.prog Tryd.f3 false true false false) := by
  refine returnsInHanded_of_change_and (C := Tryd.checked) (X := fun w _ => laidMetH Tryd.prog Rows.fnExactGridTextRow.laid w) (fun _ _ _ hh h => h.of_heap hh) own started (by kernel_rfl) Tryd.func3
    (ChangeSpec.witness_shaped (enc := enc) (C := Tryd.checked) (os := os) (X := fun w _ => laidMetH Tryd.prog Rows.fnExactGridTextRow.laid w) false (World.doorLaid Tryd.prog 400 os) #[.agg #[.int .i64 0, .int .i64 0, .string ByteArray.empty]] 8 rfl (World.shaped_of_RefB (by kernel_rfl) (by kernel_rfl)) (by kernel_rfl) (by kernel_rfl) (by kernel_rfl) (door_met os _)) ?_
  intro W base args ds gs before hval0 hW _ hsz0 hL _
  have hsz : (DataW.weightsEach Tryd.prog (Tryd.f3.params.toList ++ Rows.fnExactGridTextSpec.plain.varTypes Tryd.prog) (ds ++ gs)).all (· ≤ reachBytes) = true := hsz0
  clear hsz0
  have hval : ∀ (j : Nat) t v, Tryd.f3.params[j]? = some t → args[j]? = some v → Value.okWide Tryd.prog W .any base t v := hval0
  have hW' := hW
  obtain ⟨p, q, hA0, hV, rfl, hfz, hnd⟩ := hW
  have hA : DataW.TrodAll enc Tryd.prog W 0 (fun _ => true) true Tryd.f3.params.toList args.toList ds p := hA0
  rw [Tryd.params3] at hA hval hsz
  obtain ⟨v0, vs0, d0, ds0, p0, q0, hargs, rfl, rfl, h0, r0⟩ := trodAll_cons hA
  obtain ⟨rfl, rfl, rfl⟩ := trodAll_nil r0
  obtain rfl : args = #[v0] := by cases args; simp_all
  obtain ⟨rfl, rfl⟩ := trodVars_none hV
  obtain ⟨u00, u01, u02, y00, y01, y02, m0, rfl, rfl, rfl, g00, g01, g02⟩ := open_agg3 Tryd.underlying23 (by kernel_rfl) (by kernel_rfl) (hval 0 23 v0 rfl rfl) h0
  obtain ⟨a0W, e00, rfl, w0W⟩ := DataW.trod_int Tryd.underlying3 g00
  obtain ⟨a0H, e01, rfl, w0H⟩ := DataW.trod_int Tryd.underlying3 g01
  obtain ⟨a0C, e02, rfl, w0C⟩ := DataW.trod_string Tryd.underlying9 g02
  simp only [List.cons.injEq, and_true] at e00 e01 e02
  subst e00 e01 e02
  clear hA0 hval0 hsz
  simp only [List.append_nil] at hW'
  refine (walkL a0W a0H a0C w0W w0H w0C W hL).mono fun e W' ⟨he, hg⟩ => ?_
  subst he
  exact ⟨_, rfl, post_of_below (pa := []) (pv := []) hW' (fun _ _ _ => (trodAll_cons_mk (shut_bool Tryd.underlying4 _) trodAll_mk0)) (fun sp _ => (trodAll_cons_mk (shut_agg3 (P := Tryd.prog) (y0 := (.lit (.int .i64 a0W), [])) (y1 := (.lit (.int .i64 a0H), [])) (y2 := (.lit (.string a0C.data.toList), [])) Tryd.underlying23 (by kernel_rfl) (by kernel_rfl) ⟨1, by simp [DataW.trod, Tryd.underlying3, w0W]⟩ ⟨1, by simp [DataW.trod, Tryd.underlying3, w0H]⟩ ⟨1, by simp [DataW.trod, Tryd.underlying9, w0C]⟩) trodAll_mk0)) (fun _ _ => rfl) rfl
    hg (ok_one (by kernel_rfl) rfl (okWide_bool_mk Tryd.underlying4 _))⟩

theorem said : Rows.FnExactGridTextSaid :=
  OpenClaim.holds_of_wide 3 Tryd.f3 rfl rfl rfl rfl rfl rfl rfl ⟨rfl, rfl, rfl, rfl, rfl⟩ rfl rfl rfl rfl rfl (by kernel_rfl) Tryd.func3 (by kernel_rfl)
    (of_decide_eq_true (by kernel_rfl)) (by unfold Func.isWrapper; first | (rw [if_pos (by decide +kernel)]; kernel_rfl) | (rw [if_neg (by decide +kernel)]; exact ⟨rfl, rfl⟩))
    (fun os started H enc _ => lifted os started H enc)

theorem plain (f : FuncId) (fn : Func) (hf : Tryd.pinned.checked.prog.funcNamed "loop.example/g00961/laws.FnExactGridText" = some f) (hfn : Tryd.pinned.checked.prog.funcs[f]? = some fn) :
    true = Tryd.pinned.checked.prog.looks [] ∧ ∀ (j : Nat) t, fn.params[j]? = some t → Tryd.pinned.checked.prog.wantsStandIn t = false := by
  obtain rfl : f = 3 := Option.some.inj ((show Tryd.prog.funcNamed "loop.example/g00961/laws.FnExactGridText" = some 3 by kernel_rfl).symm.trans hf) |>.symm
  obtain rfl : fn = Tryd.f3 := (Option.some.inj (Tryd.func3.symm.trans hfn)).symm
  refine ⟨by kernel_rfl, fun j t ht => ?_⟩
  rw [Tryd.params3] at ht
  have hm : t ∈ [23] := by simpa using Array.mem_of_getElem? ht
  have hall : ([23].all fun u => !Tryd.prog.wantsStandIn u) = true := by kernel_rfl
  exact (show Tryd.prog.wantsStandIn t = false by simpa using List.all_eq_true.1 hall t hm)

theorem proved : Rows.FnExactGridTextCardSaid :=
  Claim7.holds_tied_plain_at .later [] _ _ _ _ said (fun _ h => by cases h) (by kernel_rfl) (fun _ h => by cases h) fnExactGridText_row_tie rfl ⟨rfl, rfl⟩ (by kernel_rfl) rfl plain (by kernel_rfl)

end Go.Proofs.YtcofajganakbiaaDoor.fnExactGridText
