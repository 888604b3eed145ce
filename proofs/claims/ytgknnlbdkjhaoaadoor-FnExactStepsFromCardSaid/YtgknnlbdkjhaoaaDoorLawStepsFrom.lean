/-
  THE LAW FnExactStepsFrom: at every grid and every list of cells the program's StepsFrom answers as its model, leaves its arguments alone, and its answer owns its memory. A tied card: where the listed variable holds what its initialiser laid.
-/
import Derived.Test.YtgknnlbdkjhaoaaDoorStepsI
import Derived.Test.YtgknnlbdkjhaoaaDoorArgInts
import Derived.Lib.SmallJoins
import Derived.Test.YtgknnlbdkjhaoaaDoorCards
import Derived.Test.YtgknnlbdkjhaoaaDoorTie
import Derived.SevenTiedAt
namespace Go.Proofs.YtgknnlbdkjhaoaaDoor.fnExactStepsFrom
open Go.ChangeShapes Go.WideShapes Go.ChangeAt Go.RowKit Go.Joins
open Go.ChangeMaps (open_string shut_string)

theorem held1 (v : Value) (n : Nat) (w : World) (h : Ints w v (nums 1 n)) (hn : n ≤ 1000000) :
    Calls Tryd.prog 20 #[v, .int .i64 1] w (Made w (.int .i64 ((1 + n : Nat) : Int))) :=
  heldInts v 1 n w h (by omega)
theorem mark1 (v : Value) (B n : Nat) (xs : List Value) (w : World) (hown : w.ownsRow B 3 1 v n xs) (hn : n ≤ 1048576) :
    Calls Tryd.prog 19 #[v, .int .i64 1] w (MarkedI w B 3 v 1 n) :=
  markInts v B 1 n xs w hown (by omega)
theorem own_nums {w : World} {B : Nat} {T : TypeId} {v : Value} {n : Nat} (h : w.ownsRow B T 1 v n ((nums 1 n).map (Value.int .i64))) : w.ownsRow B T 1 v (nums 1 n).length ((nums 1 n).map (Value.int .i64)) := by
  rw [length_nums]
  exact h

theorem apart_sym {v u : Value} (h : v.ownBlock = none ∨ v.ownBlock ≠ u.ownBlock) : u.ownBlock = none ∨ u.ownBlock ≠ v.ownBlock := by
  cases hu : u.ownBlock with
  | none => exact .inl rfl
  | some k =>
    refine .inr (fun e => ?_)
    rcases h with h | h
    · rw [h] at e; cases e
    · exact h (by rw [← e, hu])

set_option maxHeartbeats 4000000 in
theorem walk (W H : Int) (C : ByteArray) (v : Value) (L : List Int) (_w0 : (Lit.int .i64 W).wf = true) (_w1 : (Lit.int .i64 H).wf = true) (hC : C.size ≤ maxLen) (w : World) (hv : ArgI w v L) (hL : L.length ≤ maxLen) (hS : SidesAt w) :
    Calls Tryd.prog 4 #[.agg #[.int .i64 W, .int .i64 H, .string C], v] w fun e w' => e = .returned (.bool true) ∧ Below w.heap.size w w' := by
  have hC' : C.size ≤ 9223372036854775807 := by unfold maxLen at hC; omega
  have hL' : L.length ≤ 9223372036854775807 := by unfold maxLen at hL; omega
  obtain ⟨av, cv, rfl, HV⟩ := hv
  have hA0 : ArgI w (.slice av L.length cv) L := ⟨av, cv, rfl, HV⟩
  clear HV
  by_cases hl : L.length ≤ 1048576
  · by_cases h : C.size ≤ 1048576
    · obtain ⟨F, HF⟩ : ∃ F, Hid (stepsL W H C L = F) := ⟨_, rfl⟩
      have hF64 : F.length ≤ 64 := by
        rw [← HF.out]
        unfold stepsL
        split
        · rename_i hh
          rw [rowO_len]
          exact (gok_size hh.1).2
        · exact Nat.zero_le _
      have h0 : ¬ (1048576 - (C.size : Int)) < 0 := by omega
      have hl0 : ¬ (1048576 : Int) < (L.length : Int) := by omega
      have hB := Below.refl (w.alloc (.cells #[.int .i64 W, .int .i64 H, .string C] 34)).heap.size (w.alloc (.cells #[.int .i64 W, .int .i64 H, .string C] 34))
      have HSd := Lib.hid hS
      clear hS
      go_enter Tryd.func4, Tryd.ntmps4
      go_wp2_with fail
      refine (szGrid_yes W H C h _).mono ?_
      rintro e w1 ⟨rfl, hb⟩
      replace hB := chain hB hb
      obtain ⟨c0, c1, c2⟩ := box_cells hB
      clear hb
      go_wp2_with fail
      refine (toGrid W H C _).mono ?_
      rintro e w2 ⟨rfl, hb⟩
      replace hB := chain hB hb
      clear hb c0 c1 c2
      go_wp2_with fail
      refine (toInts _ L _ (argI_below hA0 (box_below hB)) (by omega)).mono ?_
      rintro e w3 ⟨v0, rfl, hown0, hb⟩
      replace hB := chain hB hb
      have hs3 := hB.size
      clear hb
      go_wp2_with fail
      refine (specSteps W H C L F v0 h (by omega) HF _ (ints_of_own hown0)).mono ?_
      rintro e w4 ⟨vw, rfl, howw, hb⟩
      replace hB := chain hB hb
      have hs4 := hb.size
      clear hb hown0
      go_wp2_with fail
      refine (toInts _ L _ (argI_below hA0 (box_below hB)) (by omega)).mono ?_
      rintro e w5 ⟨v1, rfl, hown1, hb⟩
      have hs5 := hb.size
      replace hB := chain hB hb
      have howw5 := own_below howw hb hs4
      have hapw1 := own_apart howw hown1
      obtain ⟨c0, c1, c2⟩ := box_cells hB
      clear hb howw
      go_wp2_with fail
      refine (toGrid W H C _).mono ?_
      rintro e w6 ⟨rfl, hb⟩
      have hs6 := hb.size
      have hown1a := own_below hown1 hb hs5
      have howw6 := own_below howw5 hb (Nat.le_trans hs4 hs5)
      replace hB := chain hB hb
      clear hb c0 c1 c2 hown1 howw5
      go_wp2_with fail
      refine (implSteps W H C L F v1 h (by omega) HF _ (ints_of_own hown1a) (HSd.out.below (box_below hB))).mono ?_
      rintro e w7 ⟨vg, rfl, howg, hb⟩
      have hs7 := hb.size
      have hown1b := own_below hown1a hb (Nat.le_trans hs5 hs6)
      have howw7 := own_below howw6 hb (Nat.le_trans hs4 (Nat.le_trans hs5 hs6))
      have hap1g := own_apart hown1a howg
      have hapwg := own_apart howw6 howg
      have hs46 : w4.heap.size ≤ w6.heap.size := Nat.le_trans hs5 hs6
      replace hB := chain hB hb
      clear hb hown1a howw6
      go_wp2_with fail
      refine (eqInts _ _ F _ (ints_of_own howg) (ints_of_own howw7) (by omega)).mono ?_
      rintro e w8 ⟨rfl, n8, rfl⟩
      have g8 : (w7.drewN n8).ownsRow w6.heap.size 3 1 vg F.length (F.map (Value.int .i64)) := howg
      have x8 : (w7.drewN n8).ownsRow w4.heap.size 3 1 v1 L.length (L.map (Value.int .i64)) := hown1b
      have s8 : (w7.drewN n8).ownsRow w3.heap.size 3 1 vw F.length (F.map (Value.int .i64)) := howw7
      have z8 : w6.heap.size ≤ (w7.drewN n8).heap.size := hs7
      replace hB := below_drewN hB n8
      clear howg hown1b howw7 hs7
      go_wp2_with fail
      generalize w7.drewN n8 = w8 at *
      refine (toInts _ L _ (argI_below hA0 (box_below hB)) (by omega)).mono ?_
      rintro e w9 ⟨v2, rfl, hown2, hb⟩
      have g9 := own_below g8 hb z8
      have x9 := own_below x8 hb (Nat.le_trans hs46 z8)
      have s9 := own_below s8 hb (Nat.le_trans hs4 (Nat.le_trans hs46 z8))
      have z9 := Nat.le_trans z8 hb.size
      replace hB := chain hB hb
      clear hb g8 x8 s8 z8
      go_wp2_with fail
      refine (eqInts _ _ L _ (ints_of_own x9) (ints_of_own hown2) (by omega)).mono ?_
      rintro e wa ⟨rfl, na, rfl⟩
      clear hown2
      have ga : (w9.drewN na).ownsRow w6.heap.size 3 1 vg F.length (F.map (Value.int .i64)) := g9
      have xa : (w9.drewN na).ownsRow w4.heap.size 3 1 v1 L.length (L.map (Value.int .i64)) := x9
      have sa : (w9.drewN na).ownsRow w3.heap.size 3 1 vw F.length (F.map (Value.int .i64)) := s9
      have za : w6.heap.size ≤ (w9.drewN na).heap.size := z9
      replace hB := below_drewN hB na
      clear g9 x9 s9 z9
      go_wp2_with fail
      generalize w9.drewN na = wa at *
      refine (mark1 v1 w4.heap.size L.length _ wa xa hl).mono ?_
      rintro e wb ⟨rfl, _, hgr⟩
      have gb := ga.kept hgr (apart_sym hap1g)
      have sb := sa.kept hgr hapw1
      have zb := Nat.le_trans za hgr.size
      replace hB := hB.grown hgr (Nat.le_trans hs3 (Nat.le_trans hs4 (Nat.le_trans hs46 za))) (fun j hj => Nat.le_trans hs3 (Nat.le_trans hs4 (xa.lt j hj).1))
      have hk0 : ¬ (((1 + L.length : Nat) : Int) < 0) := by omega
      clear hgr ga xa sa za hap1g hapw1
      go_wp2_with fail
      refine (eqInts _ _ F _ (ints_of_own gb) (ints_of_own sb) (by omega)).mono ?_
      rintro e wc ⟨rfl, nc, rfl⟩
      have gc : (wb.drewN nc).ownsRow w6.heap.size 3 1 vg F.length (F.map (Value.int .i64)) := gb
      have sc : (wb.drewN nc).ownsRow w3.heap.size 3 1 vw F.length (F.map (Value.int .i64)) := sb
      have zc : w6.heap.size ≤ (wb.drewN nc).heap.size := zb
      replace hB := below_drewN hB nc
      clear gb sb zb hk0
      go_wp2_with fail
      generalize wb.drewN nc = wc at *
      refine (mark1 vg w6.heap.size F.length _ wc gc (by omega)).mono ?_
      rintro e wd ⟨rfl, gd, hgr⟩
      have sd := sc.kept hgr hapwg
      have zd := Nat.le_trans zc hgr.size
      replace hB := hB.grown hgr (Nat.le_trans hs3 (Nat.le_trans hs4 (Nat.le_trans hs46 zc))) (fun j hj => Nat.le_trans hs3 (Nat.le_trans hs4 (Nat.le_trans hs46 (gc.lt j hj).1)))
      clear hgr gc sc zc hapwg
      go_wp2_with fail
      refine (held1 vg F.length _ (ints_of_own (own_nums gd)) (by omega)).mono ?_
      rintro e we ⟨rfl, hb⟩
      have ge := own_below gd hb zd
      have se := own_below sd hb (Nat.le_trans hs4 (Nat.le_trans hs46 zd))
      have ze := Nat.le_trans zd hb.size
      replace hB := chain hB hb
      obtain ⟨c0, c1, c2⟩ := box_cells hB
      clear hb gd sd zd
      go_wp2_with fail
      refine (toGrid W H C _).mono ?_
      rintro e wf ⟨rfl, hb⟩
      have gf := own_below ge hb ze
      have sf := own_below se hb (Nat.le_trans hs4 (Nat.le_trans hs46 ze))
      have zf := Nat.le_trans ze hb.size
      replace hB := chain hB hb
      clear hb ge se ze c0 c1 c2
      go_wp2_with fail
      refine (toInts _ L _ (argI_below hA0 (box_below hB)) (by omega)).mono ?_
      rintro e wg ⟨v3, rfl, hown3, hb⟩
      have gg := own_below gf hb zf
      have sg := own_below sf hb (Nat.le_trans hs4 (Nat.le_trans hs46 zf))
      have zg := Nat.le_trans zf hb.size
      replace hB := chain hB hb
      clear hb gf sf zf
      go_wp2_with fail
      refine (implSteps W H C L F v3 h (by omega) HF _ (ints_of_own hown3) (HSd.out.below (box_below hB))).mono ?_
      rintro e wh ⟨vh, rfl, howh, hb⟩
      have gh := own_below gg hb zg
      have sh := own_below sg hb (Nat.le_trans hs4 (Nat.le_trans hs46 zg))
      replace hB := chain hB hb
      clear hb gg sg zg hown3
      go_wp2_with fail
      refine (eqInts _ _ F _ (ints_of_own howh) (ints_of_own sh) (by omega)).mono ?_
      rintro e wi ⟨rfl, ni, rfl⟩
      go_wp2_with fail
      refine (held1 vg F.length (wh.drewN ni) (ints_of_own (w := wh.drewN ni) (own_nums gh)) (by omega)).mono ?_
      rintro e wj ⟨rfl, hb⟩
      replace hB := chain (below_drewN hB ni) hb
      go_wp2
      go_ret
      exact ⟨rfl, box_below hB⟩
    · go_enter Tryd.func4, Tryd.ntmps4
      go_wp2_with (go_at_call 14; (with_reducible refine (szGrid_no W H C hC' h _).mono ?_); rintro e w1 ⟨rfl, hb1⟩)
      go_ret
      exact ⟨rfl, ((Below.refl _ _).alloc (Nat.le_refl _) _).trans (hb1.mono (by simp))⟩
  · go_enter Tryd.func4, Tryd.ntmps4
    go_wp2
    go_ret
    exact ⟨rfl, (Below.refl _ _).alloc (Nat.le_refl _) _⟩

theorem walkL (W H : Int) (C : ByteArray) (v : Value) (L : List Int) (w0 : (Lit.int .i64 W).wf = true) (w1 : (Lit.int .i64 H).wf = true) (hC : C.size ≤ maxLen) (w : World) (hv : ArgI w v L) (hL : L.length ≤ maxLen) (hl : laidMetH Tryd.prog Rows.fnExactStepsFromRow.laid w) :
    Calls Tryd.prog 4 #[.agg #[.int .i64 W, .int .i64 H, .string C], v] w fun e w' => e = .returned (.bool true) ∧ Below w.heap.size w w' :=
  walk W H C v L w0 w1 hC w hv hL (sides_of_laid hl)
-- LIFT
set_option maxRecDepth 100000 in
theorem lifted (os : Os) (started : os.Started) (H : Type) (enc : TypeId × Value → H) :
    ReturnsInHanded {} Tryd.checked os 4 .any (fun w args => (Rows.fnExactStepsFromSpec.pre enc Tryd.prog Tryd.f4 [] false w args ∧ laidMetH Tryd.prog Rows.fnExactStepsFromRow.laid w) ∧ sizedMet enc Tryd.prog Tryd.f4 (OpenSpec.ofChange Rows.fnExactStepsFromSpec) false w args)
      (Rows.fnExactStepsFromSpec.post enc Tryd.prog Tryd.f4 false true false false) := by
  refine returnsInHanded_of_change_and (C := Tryd.checked) (X := fun w _ => laidMetH Tryd.prog Rows.fnExactStepsFromRow.laid w) (fun _ _ _ hh h => h.of_heap hh) own started (by kernel_rfl) Tryd.func4
    (ChangeSpec.witness_shaped (enc := enc) (C := Tryd.checked) (os := os) (X := fun w _ => laidMetH Tryd.prog Rows.fnExactStepsFromRow.laid w) false (World.doorLaid Tryd.prog 400 os) #[.agg #[.int .i64 0, .int .i64 0, .string ByteArray.empty], .slice none 0 0] 8 rfl (World.shaped_of_RefB (by kernel_rfl) (by kernel_rfl)) (by kernel_rfl) (by kernel_rfl) (by kernel_rfl) (sides_met os _)) ?_
  intro W base args ds gs before hval0 hW _ hsz0 hL _
  have hsz : (DataW.weightsEach Tryd.prog (Tryd.f4.params.toList ++ Rows.fnExactStepsFromSpec.plain.varTypes Tryd.prog) (ds ++ gs)).all (· ≤ reachBytes) = true := hsz0
  clear hsz0
  have hval : ∀ (j : Nat) t v, Tryd.f4.params[j]? = some t → args[j]? = some v → Value.okWide Tryd.prog W .any base t v := hval0
  have hW' := hW
  obtain ⟨p, q, hA0, hV, rfl, hfz, hnd⟩ := hW
  have hA : DataW.TrodAll enc Tryd.prog W 0 (fun _ => true) true Tryd.f4.params.toList args.toList ds p := hA0
  rw [Tryd.params4] at hA hval hsz
  obtain ⟨v0, vs0, d0, ds0, p0, q0, hargs, rfl, rfl, h0, r0⟩ := trodAll_cons hA
  obtain ⟨v1, vs1, d1, ds1, p1, q1, rfl, rfl, rfl, h1, r1⟩ := trodAll_cons r0
  obtain ⟨rfl, rfl, rfl⟩ := trodAll_nil r1
  obtain rfl : args = #[v0, v1] := by cases args; simp_all
  have hs0 := sides_of_laid hL
  obtain ⟨rfl, _⟩ := sides_vars hs0 hs0 hV
  obtain ⟨u00, u01, u02, y00, y01, y02, m0, rfl, rfl, rfl, g00, g01, g02⟩ := open_agg3 Tryd.underlying34 (by kernel_rfl) (by kernel_rfl) (hval 0 34 v0 rfl rfl) h0
  obtain ⟨a0W, e00, rfl, w0W⟩ := DataW.trod_int Tryd.underlying3 g00
  obtain ⟨a0H, e01, rfl, w0H⟩ := DataW.trod_int Tryd.underlying3 g01
  obtain ⟨a0C, e02, rfl, w0C⟩ := DataW.trod_string Tryd.underlying9 g02
  simp only [List.cons.injEq, and_true] at e00 e01 e02
  subst e00 e01 e02
  obtain ⟨L1, w1, l1, again1⟩ := open_arg_ints (hval 1 26 v1 rfl rfl) h1
  clear hA0 hval0 hsz
  simp only [List.append_nil, List.nil_append] at hW'
  refine (walkL a0W a0H a0C v1 L1 w0W w0H w0C W w1 l1 hL).mono fun e W' ⟨he, hg⟩ => ?_
  subst he
  obtain ⟨_, hvs⟩ := sides_vars hs0 (hs0.below hg) hV
  exact ⟨_, rfl, post_of_below (pa := (([] : List MemPlace) ++ ([] ++ [])) ++ (p1 ++ ([]))) (pv := q) hW' (fun _ _ _ => (trodAll_cons_mk (shut_bool Tryd.underlying4 _) trodAll_mk0)) (fun sp hsp => (trodAll_cons_mk (shut_agg3 (P := Tryd.prog) (y0 := (.lit (.int .i64 a0W), [])) (y1 := (.lit (.int .i64 a0H), [])) (y2 := (.lit (.string a0C.data.toList), [])) Tryd.underlying34 (by kernel_rfl) (by kernel_rfl) ⟨1, by simp [DataW.trod, Tryd.underlying3, w0W]⟩ ⟨1, by simp [DataW.trod, Tryd.underlying3, w0H]⟩ ⟨1, by simp [DataW.trod, Tryd.underlying9, w0C]⟩) (trodAll_cons_mk (again1 W' hg sp (fun p hp => hsp p (by simp [hp]))) trodAll_mk0))) (fun sp _ => hvs sp) (by simp)
    hg (ok_one (by kernel_rfl) rfl (okWide_bool_mk Tryd.underlying4 _))⟩

theorem said : Rows.FnExactStepsFromSaid :=
  OpenClaim.holds_of_wide 4 Tryd.f4 rfl rfl rfl rfl rfl rfl rfl ⟨rfl, rfl, rfl, rfl, rfl⟩ rfl rfl rfl rfl rfl (by kernel_rfl) Tryd.func4 (by kernel_rfl)
    (of_decide_eq_true (by kernel_rfl)) (by unfold Func.isWrapper; first | (rw [if_pos (by decide +kernel)]; kernel_rfl) | (rw [if_neg (by decide +kernel)]; exact ⟨rfl, rfl⟩))
    (fun os started H enc _ => lifted os started H enc)

theorem plain (f : FuncId) (fn : Func) (hf : Tryd.pinned.checked.prog.funcNamed "loop.example/g00961/laws.FnExactStepsFrom" = some f) (hfn : Tryd.pinned.checked.prog.funcs[f]? = some fn) :
    Rows.fnExactStepsFromCard.stood.looks = Tryd.pinned.checked.prog.looks [] ∧ ∀ (j : Nat) t, fn.params[j]? = some t → Tryd.pinned.checked.prog.wantsStandIn t = false := by
  obtain rfl : f = 4 := Option.some.inj ((show Tryd.prog.funcNamed "loop.example/g00961/laws.FnExactStepsFrom" = some 4 by kernel_rfl).symm.trans hf) |>.symm
  obtain rfl : fn = Tryd.f4 := (Option.some.inj (Tryd.func4.symm.trans hfn)).symm
  refine ⟨by kernel_rfl, fun j t ht => ?_⟩
  rw [Tryd.params4] at ht
  have hm : t ∈ [34, 26] := by simpa using Array.mem_of_getElem? ht
  have hall : ([34, 26].all fun u => !Tryd.prog.wantsStandIn u) = true := by kernel_rfl
  exact (show Tryd.prog.wantsStandIn t = false by simpa using List.all_eq_true.1 hall t hm)

theorem proved : Rows.FnExactStepsFromCardSaid :=
  Claim7.holds_tied_plain_at .later [] _ _ _ _ said (fun _ h => by cases h) (by kernel_rfl) (fun _ h => by cases h) fnExactStepsFrom_row_tie rfl ⟨rfl, rfl⟩ (by kernel_rfl) rfl plain (by kernel_rfl)

end Go.Proofs.YtgknnlbdkjhaoaaDoor.fnExactStepsFrom
