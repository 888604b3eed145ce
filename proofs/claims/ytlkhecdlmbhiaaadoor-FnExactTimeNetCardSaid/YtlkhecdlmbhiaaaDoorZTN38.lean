/-
  THE LAW FnExactTimeNet: at every map, two lists of cells, a span and a choice the program's TimeNet answers as its model, leaves its arguments alone, and its answer owns its memory. A tied card: where the listed variable holds what its initialiser laid.
-/
import Derived.Test.YtlkhecdlmbhiaaaDoorZTN00
import Derived.Test.YtlkhecdlmbhiaaaDoorZTN02
import Derived.Test.YtlkhecdlmbhiaaaDoorZTN29
import Derived.Test.YtlkhecdlmbhiaaaDoorZTN37
import Derived.Test.YtlkhecdlmbhiaaaDoorZTN10
import Derived.Test.YtlkhecdlmbhiaaaDoorZTN16
import Derived.Lib.SmallJoins
import Derived.Test.YtlkhecdlmbhiaaaDoorCards
import Derived.Test.YtlkhecdlmbhiaaaDoorTie
import Derived.SevenTiedAt
namespace Go.Proofs.YtlkhecdlmbhiaaaDoor.fnExactTimeNet
set_option maxRecDepth 4096
open Go.ChangeShapes Go.WideShapes Go.ChangeAt Go.RowKit Go.Joins
open Go.ChangeMaps (open_string shut_string)

theorem netB {w : World} {p : Nat} {N : Int} {v : Value} {t : TypeId} (h : w.heap[p]? = some (.cells #[.int .i64 N, v] t (0, 0))) : w.cell? ⟨p, 0, none⟩ = some (.int .i64 N) ∧ w.cell? ⟨p, 1, none⟩ = some v :=
  ⟨by rw [cell_of_row _ _ _ _ _ _ h]; rfl, by rw [cell_of_row _ _ _ _ _ _ h]; rfl⟩
theorem mark1 (v : Value) (B n : Nat) (xs : List Value) (w : World) (hown : w.ownsRow B 3 1 v n xs) (hn : n ≤ 1048576) :
    Calls Tryd.prog 21 #[v, .int .i64 1] w (MarkedI w B 3 v 1 n) := markInts v B 1 n xs w hown (by omega)
theorem markN1 (N : Int) (v : Value) (B n : Nat) (xs : List Value) (w : World) (hown : w.ownsRow B 72 4 v n xs) (hn : n ≤ 3200) :
    Calls Tryd.prog 22 #[.agg #[.int .i64 N, v], .int .i64 1] w (MarkedN w B v 1 n) := markNetN N v B 1 n xs w hown (by omega)
theorem heldN1 (N : Int) (v : Value) (n : Nat) (w : World) (h : HeldA w v 1 n) (hn : n ≤ 3200) :
    Calls Tryd.prog 23 #[.agg #[.int .i64 N, v], .int .i64 1] w (Made w (.int .i64 ((1 + n * 4 : Nat) : Int))) := heldNet N v 1 n w h (by omega)

set_option maxHeartbeats 8000000 in
theorem walk (W H : Int) (C : ByteArray) (v : Value) (S : List Int) (u : Value) (G : List Int) (T : Int) (st : Bool) (_w0 : (Lit.int .i64 W).wf = true) (_w1 : (Lit.int .i64 H).wf = true) (hC : C.size ≤ maxLen) (_w3 : (Lit.int .i64 T).wf = true) (w : World) (hv : ArgI w v S) (hS : S.length ≤ maxLen) (hu : ArgI w u G) (hG : G.length ≤ maxLen) (hSd : SidesAt w) :
    Calls Tryd.prog 4 #[.agg #[.int .i64 W, .int .i64 H, .string C], v, u, .int .i64 T, .bool st] w fun e w' => e = .returned (.bool true) ∧ Below w.heap.size w w' := by
  have hC' : C.size ≤ 9223372036854775807 := by unfold maxLen at hC; omega
  have hS' : S.length ≤ 9223372036854775807 := by unfold maxLen at hS; omega
  have hG' : G.length ≤ 9223372036854775807 := by unfold maxLen at hG; omega
  obtain ⟨av, cv, rfl, HV⟩ := hv
  have HS := Lib.hid (show ArgI w (.slice av S.length cv) S from ⟨av, cv, rfl, HV⟩)
  obtain ⟨au, cu, rfl, HU⟩ := hu
  have HG := Lib.hid (show ArgI w (.slice au G.length cu) G from ⟨au, cu, rfl, HU⟩)
  have HSd := Lib.hid hSd
  clear HV HU hSd
  by_cases hl : S.length ≤ 1048576
  · have hl0 : ¬ (1048576 : Int) < (S.length : Int) := by omega
    by_cases hm : G.length ≤ 1048576
    · have hm0 : ¬ (1048576 : Int) < (G.length : Int) := by omega
      by_cases h : C.size ≤ 1048576
      · obtain ⟨b, HB⟩ : ∃ b, Hid (askV W H C S G T = b) := ⟨_, rfl⟩
        have h0 : ¬ (1048576 - (C.size : Int)) < 0 := by omega
        obtain ⟨N, HN⟩ : ∃ N, Hid (timeNV W H C S G T st = N) := ⟨_, rfl⟩
        obtain ⟨A, HA⟩ : ∃ A, Hid (timeAV W H C S G T st = A) := ⟨_, rfl⟩
        have hA : A.length ≤ 3200 := by rw [← HA.out]; exact timeAV_len
        have hbb : (b != b) = false := by simp
        have hB := LSt.start w (.cells #[.int .i64 W, .int .i64 H, .string C] 42)
        obtain ⟨c0, c1, c2⟩ := box_cells hB.below
        go_enter Tryd.func4, Tryd.ntmps4
        go_wp2_with fail
        refine (szGrid_yes W H C h _).mono ?_
        rintro e w1 ⟨rfl, hb⟩
        replace hB := hB.on hb
        clear hb c0 c1 c2
        obtain ⟨c0, c1, c2⟩ := box_cells hB.below
        go_wp2_with fail
        refine (toGrid W H C _).mono ?_
        rintro e w2 ⟨rfl, hb⟩
        replace hB := hB.on hb
        clear hb c0 c1 c2
        go_wp2_with fail
        refine (toInts _ S _ (argI_below HS.out hB.base) (by omega)).mono ?_
        rintro e w3 ⟨s1, rfl, hown1, hb⟩
        replace hB := hB.on hb
        have HI1 := Lib.hid (ints_of_own hown1)
        clear hb hown1
        go_wp2_with fail
        refine (toInts _ G _ (argI_below HG.out hB.base) (by omega)).mono ?_
        rintro e w4 ⟨g1, rfl, hown2, hb⟩
        replace hB := hB.on hb
        have HI1b := Lib.hid (ints_on HI1.out hb)
        have HI2 := Lib.hid (ints_of_own hown2)
        clear hb hown2 HI1
        go_wp2_with fail
        refine (specTimeNet W H C S G T st s1 g1 N A b h (by omega) (by omega) HN HA HB _ HI1b.out HI2.out).mono ?_
        rintro e w5 ⟨v0, rfl, hown, hb⟩
        obtain ⟨a0, k0, rfl⟩ := own_form hown
        have s5 := hb.size
        have s4 := hB.below.size
        replace hB := (hB.call hown hb).box (.cells #[.int .i64 N, .slice a0 A.length k0] 32)
        clear hb hown HI1b HI2
        go_wp2_with fail
        refine (toInts _ S _ (argI_below HS.out hB.base) (by omega)).mono ?_
        rintro e w6 ⟨s2, rfl, hown1, hb⟩
        have s6 := hb.size
        rw [World.size_alloc] at s6
        replace hB := hB.call hown1 hb
        rw [World.size_alloc] at hB
        clear hb hown1
        go_wp2_with fail
        refine (toInts _ G _ (argI_below HG.out hB.base) (by omega)).mono ?_
        rintro e w7 ⟨g2, rfl, hown2, hb⟩
        have s7 := hb.size
        replace hB := hB.call hown2 hb
        clear hb hown2
        obtain ⟨c0, c1, c2⟩ := box_cells hB.below
        go_wp2_with fail
        refine (toGrid W H C _).mono ?_
        rintro e w8 ⟨rfl, hb⟩
        have s8 := hb.size
        replace hB := hB.on hb
        clear hb c0 c1 c2
        go_wp2_with fail
        have rs := (hB.rows _ (List.mem_cons_of_mem _ (List.mem_cons_self ..))).own
        have rg := (hB.rows _ (List.mem_cons_self ..)).own
        refine (implTimeNet W H C S G T st s2 g2 N A b h (by omega) (by omega) HN HA HB _ (ints_of_own rs) (ints_of_own rg) (HSd.out.below hB.base)).mono ?_
        rintro e w9 ⟨v1, rfl, hown, hb⟩
        obtain ⟨a1, k1, rfl⟩ := own_form hown
        have s9 := hb.size
        replace hB := (hB.call hown hb).box (.cells #[.int .i64 N, .slice a1 A.length k1] 32)
        clear hb hown rs rg
        obtain ⟨x0, x1⟩ := netB (hB.keep _ (List.mem_cons_self ..))
        obtain ⟨y0, y1⟩ := netB (hB.keep _ (List.mem_cons_of_mem _ (List.mem_cons_self ..)))
        have r1 := (hB.rows _ (List.mem_cons_self ..)).own
        have r0 := (hB.rows ⟨w4.heap.size, w5.heap.size, 72, 4, .slice a0 A.length k0, A.length, cellsA A⟩ (by simp)).own
        go_wp2_with fail
        refine (eqNet N _ _ A _ (arcs_of_own r1) (arcs_of_own r0) (by omega)).mono ?_
        rintro e wa ⟨rfl, hb⟩
        replace hB := hB.on hb
        clear hb x0 x1 y0 y1 r1 r0
        go_wp2_with fail
        refine (toInts _ S _ (argI_below HS.out hB.base) (by omega)).mono ?_
        rintro e wb ⟨s3, rfl, hown3, hb⟩
        replace hB := hB.on hb
        clear hb
        have rs := (hB.rows ⟨w5.heap.size + 1, w6.heap.size, 3, 1, s2, S.length, S.map (Value.int .i64)⟩ (by simp)).own
        go_wp2_with fail
        refine (eqInts _ _ S _ (ints_of_own rs) (ints_of_own hown3) (by omega)).mono ?_
        rintro e wc ⟨rfl, nc, rfl⟩
        replace hB := hB.drewN nc
        clear rs hown3
        generalize wb.drewN nc = wc at *
        go_wp2_with fail
        refine (toInts _ G _ (argI_below HG.out hB.base) (by omega)).mono ?_
        rintro e wd ⟨g3, rfl, hown3, hb⟩
        replace hB := hB.on hb
        clear hb
        have rg := (hB.rows ⟨w6.heap.size, w7.heap.size, 3, 1, g2, G.length, G.map (Value.int .i64)⟩ (by simp)).own
        go_wp2_with fail
        refine (eqInts _ _ G _ (ints_of_own rg) (ints_of_own hown3) (by omega)).mono ?_
        rintro e we ⟨rfl, ne, rfl⟩
        replace hB := hB.drewN ne
        clear rg hown3
        generalize wd.drewN ne = we at *
        replace hB := hB.front 2 ⟨w5.heap.size + 1, w6.heap.size, 3, 1, s2, S.length, S.map (Value.int .i64)⟩ rfl
        have rs := (hB.rows _ (List.mem_cons_self ..)).own
        go_wp2_with fail
        refine (mark1 s2 _ S.length _ _ rs (by omega)).mono ?_
        rintro e wf ⟨rfl, hm, hg⟩
        replace hB := hB.mark hm hg (fun q hq => by simp at hq; rcases hq with rfl | rfl | rfl <;> simp <;> omega) (fun p hp => by simp at hp; rcases hp with rfl | rfl <;> simp <;> omega) (by show _ ≤ w5.heap.size + 1; omega)
        clear rs hm hg
        replace hB := hB.front 2 ⟨w6.heap.size, w7.heap.size, 3, 1, g2, G.length, G.map (Value.int .i64)⟩ rfl
        have rg := (hB.rows _ (List.mem_cons_self ..)).own
        go_wp2_with fail
        refine (markInts g2 _ (1 + S.length) G.length _ _ rg (by omega)).mono ?_
        rintro e wg ⟨rfl, hm, hg⟩
        replace hB := hB.mark hm hg (fun q hq => by simp at hq; rcases hq with rfl | rfl | rfl <;> simp <;> omega) (fun p hp => by simp at hp; rcases hp with rfl | rfl <;> simp <;> omega) (by show _ ≤ w6.heap.size; omega)
        clear rg hm hg
        have hk0 : ¬ (((1 + S.length + G.length : Nat) : Int)) < 0 := by omega
        obtain ⟨x0, x1⟩ := netB (hB.keep _ (List.mem_cons_self ..))
        obtain ⟨y0, y1⟩ := netB (hB.keep _ (List.mem_cons_of_mem _ (List.mem_cons_self ..)))
        have r1 := (hB.rows ⟨w8.heap.size, w9.heap.size, 72, 4, .slice a1 A.length k1, A.length, cellsA A⟩ (by simp)).own
        have r0 := (hB.rows ⟨w4.heap.size, w5.heap.size, 72, 4, .slice a0 A.length k0, A.length, cellsA A⟩ (by simp)).own
        go_wp2_with fail
        refine (eqNet N _ _ A _ (arcs_of_own r1) (arcs_of_own r0) (by omega)).mono ?_
        rintro e wh ⟨rfl, hb⟩
        replace hB := hB.on hb
        clear hb x0 x1 y0 y1 r1 r0
        replace hB := hB.front 2 ⟨w8.heap.size, w9.heap.size, 72, 4, .slice a1 A.length k1, A.length, cellsA A⟩ rfl
        obtain ⟨x0, x1⟩ := netB (hB.keep _ (List.mem_cons_self ..))
        have r1 := (hB.rows _ (List.mem_cons_self ..)).own
        go_wp2_with fail
        refine (markN1 N _ _ A.length _ _ r1 hA).mono ?_
        rintro e wi ⟨rfl, hm, hg⟩
        replace hB := hB.mark hm hg (fun q hq => by simp at hq; rcases hq with rfl | rfl | rfl <;> simp <;> omega) (fun p hp => by simp at hp; rcases hp with rfl | rfl <;> simp <;> omega) (by show _ ≤ w8.heap.size; omega)
        clear r1 hm hg x0 x1
        obtain ⟨x0, x1⟩ := netB (hB.keep _ (List.mem_cons_self ..))
        have r1 := (hB.rows _ (List.mem_cons_self ..)).own
        have hk1 : ¬ (((1 + A.length * 4 : Nat) : Int)) < 0 := by omega
        have hk2 : ((((1 + A.length * 4 : Nat) : Int)) != (((1 + A.length * 4 : Nat) : Int))) = false := by simp
        go_wp2_with fail
        refine (heldN1 N _ A.length _ (heldA_of r1) hA).mono ?_
        rintro e wj ⟨rfl, hb⟩
        replace hB := hB.on hb
        clear hb x0 x1 r1
        obtain ⟨c0, c1, c2⟩ := box_cells hB.below
        go_wp2_with fail
        refine (toGrid W H C _).mono ?_
        rintro e wk ⟨rfl, hb⟩
        replace hB := hB.on hb
        clear hb c0 c1 c2
        go_wp2_with fail
        refine (toInts _ S _ (argI_below HS.out hB.base) (by omega)).mono ?_
        rintro e wl ⟨s4', rfl, hown1, hb⟩
        replace hB := hB.on hb
        have HI1 := Lib.hid (ints_of_own hown1)
        clear hb hown1
        go_wp2_with fail
        refine (toInts _ G _ (argI_below HG.out hB.base) (by omega)).mono ?_
        rintro e wm ⟨g4, rfl, hown2, hb⟩
        replace hB := hB.on hb
        have HI1b := Lib.hid (ints_on HI1.out hb)
        have HI2 := Lib.hid (ints_of_own hown2)
        clear hb hown2 HI1
        go_wp2_with fail
        refine (implTimeNet W H C S G T st s4' g4 N A b h (by omega) (by omega) HN HA HB _ HI1b.out HI2.out (HSd.out.below hB.base)).mono ?_
        rintro e wn ⟨v2, rfl, hown, hb⟩
        obtain ⟨a2, k2, rfl⟩ := own_form hown
        replace hB := (hB.call hown hb).box (.cells #[.int .i64 N, .slice a2 A.length k2] 32)
        clear hb hown HI1b HI2
        obtain ⟨x0, x1⟩ := netB (hB.keep _ (List.mem_cons_self ..))
        obtain ⟨y0, y1⟩ := netB (hB.keep _ (List.mem_cons_of_mem _ (List.mem_cons_of_mem _ (List.mem_cons_self ..))))
        have r1 := (hB.rows _ (List.mem_cons_self ..)).own
        have r0 := (hB.rows ⟨w4.heap.size, w5.heap.size, 72, 4, .slice a0 A.length k0, A.length, cellsA A⟩ (by simp)).own
        go_wp2_with fail
        refine (eqNet N _ _ A _ (arcs_of_own r1) (arcs_of_own r0) (by omega)).mono ?_
        rintro e wo ⟨rfl, hb⟩
        replace hB := hB.on hb
        clear hb x0 x1 y0 y1 r1 r0
        obtain ⟨x0, x1⟩ := netB (hB.keep _ (List.mem_cons_of_mem _ (List.mem_cons_self ..)))
        have r1 := (hB.rows _ (List.mem_cons_of_mem _ (List.mem_cons_self ..))).own
        go_wp2_with fail
        refine (heldN1 N _ A.length _ (heldA_of r1) hA).mono ?_
        rintro e wp ⟨rfl, hb⟩
        have HE := Lib.hid (hB.on hb).base
        clear hb hB x0 x1 r1
        go_wp2_with fail
        go_ret
        exact ⟨rfl, HE.out⟩
      · go_enter Tryd.func4, Tryd.ntmps4
        go_wp2_with (go_at_call 15; (with_reducible refine (szGrid_no W H C hC' h _).mono ?_); rintro e w1 ⟨rfl, hb1⟩)
        go_ret
        exact ⟨rfl, ((Below.refl _ _).alloc (Nat.le_refl _) _).trans (hb1.mono (by simp))⟩
    · go_enter Tryd.func4, Tryd.ntmps4
      have hm0 : (1048576 : Int) < (G.length : Int) := by omega
      go_wp2_with fail
      go_ret
      exact ⟨rfl, (Below.refl _ _).alloc (Nat.le_refl _) _⟩
  · go_enter Tryd.func4, Tryd.ntmps4
    have hl0 : (1048576 : Int) < (S.length : Int) := by omega
    go_wp2_with fail
    go_ret
    exact ⟨rfl, (Below.refl _ _).alloc (Nat.le_refl _) _⟩

theorem walkL (W H : Int) (C : ByteArray) (v : Value) (S : List Int) (u : Value) (G : List Int) (T : Int) (st : Bool) (w0 : (Lit.int .i64 W).wf = true) (w1 : (Lit.int .i64 H).wf = true) (hC : C.size ≤ maxLen) (w3 : (Lit.int .i64 T).wf = true) (w : World) (hv : ArgI w v S) (hS : S.length ≤ maxLen) (hu : ArgI w u G) (hG : G.length ≤ maxLen) (hL : laidMetH Tryd.prog Rows.fnExactTimeNetRow.laid w) :
    Calls Tryd.prog 4 #[.agg #[.int .i64 W, .int .i64 H, .string C], v, u, .int .i64 T, .bool st] w fun e w' => e = .returned (.bool true) ∧ Below w.heap.size w w' :=
  walk W H C v S u G T st w0 w1 hC w3 w hv hS hu hG (sides_of_laid hL)
-- LIFT
set_option maxRecDepth 100000 in
theorem lifted (os : Os) (started : os.Started) (H : Type) (enc : TypeId × Value → H) :
    ReturnsInHanded {} Tryd.checked os 4 .any (fun w args => (Rows.fnExactTimeNetSpec.pre enc Tryd.prog Tryd.f4 [] false w args ∧ laidMetH Tryd.prog Rows.fnExactTimeNetRow.laid w) ∧ sizedMet enc Tryd.prog Tryd.f4 (OpenSpec.ofChange Rows.fnExactTimeNetSpec) false w args)
      (Rows.fnExactTimeNetSpec.post enc Tryd.prog Tryd.f4 false true false false) := by
  refine returnsInHanded_of_change_and (C := Tryd.checked) (X := fun w _ => laidMetH Tryd.prog Rows.fnExactTimeNetRow.laid w) (fun _ _ _ hh h => h.of_heap hh) own started (by kernel_rfl) Tryd.func4
    (ChangeSpec.witness_shaped (enc := enc) (C := Tryd.checked) (os := os) (X := fun w _ => laidMetH Tryd.prog Rows.fnExactTimeNetRow.laid w) false (World.doorLaid Tryd.prog 400 os) #[.agg #[.int .i64 0, .int .i64 0, .string ByteArray.empty], .slice none 0 0, .slice none 0 0, .int .i64 0, .bool false] 8 rfl (World.shaped_of_RefB (by kernel_rfl) (by kernel_rfl)) (by kernel_rfl) (by kernel_rfl) (by kernel_rfl) (sides_met os _)) ?_
  intro W base args ds gs before hval0 hW _ hsz0 hL _
  have hsz : (DataW.weightsEach Tryd.prog (Tryd.f4.params.toList ++ Rows.fnExactTimeNetSpec.plain.varTypes Tryd.prog) (ds ++ gs)).all (· ≤ reachBytes) = true := hsz0
  clear hsz0
  have hval : ∀ (j : Nat) t v, Tryd.f4.params[j]? = some t → args[j]? = some v → Value.okWide Tryd.prog W .any base t v := hval0
  have hW' := hW
  obtain ⟨p, q, hA0, hV, rfl, hfz, hnd⟩ := hW
  have hA : DataW.TrodAll enc Tryd.prog W 0 (fun _ => true) true Tryd.f4.params.toList args.toList ds p := hA0
  rw [Tryd.params4] at hA hval hsz
  obtain ⟨v0, vs0, d0, ds0, p0, q0, hargs, rfl, rfl, h0, r0⟩ := trodAll_cons hA
  obtain ⟨v1, vs1, d1, ds1, p1, q1, rfl, rfl, rfl, h1, r1⟩ := trodAll_cons r0
  obtain ⟨v2, vs2, d2, ds2, p2, q2, rfl, rfl, rfl, h2, r2⟩ := trodAll_cons r1
  obtain ⟨v3, vs3, d3, ds3, p3, q3, rfl, rfl, rfl, h3, r3⟩ := trodAll_cons r2
  obtain ⟨v4, vs4, d4, ds4, p4, q4, rfl, rfl, rfl, h4, r4⟩ := trodAll_cons r3
  obtain ⟨rfl, rfl, rfl⟩ := trodAll_nil r4
  obtain rfl : args = #[v0, v1, v2, v3, v4] := by cases args; simp_all
  have hs0 := sides_of_laid hL
  obtain ⟨rfl, _⟩ := sides_vars hs0 hs0 hV
  obtain ⟨u00, u01, u02, y00, y01, y02, m0, rfl, rfl, rfl, g00, g01, g02⟩ := open_agg3 Tryd.underlying42 (by kernel_rfl) (by kernel_rfl) (hval 0 42 v0 rfl rfl) h0
  obtain ⟨a0W, e00, rfl, w0W⟩ := DataW.trod_int Tryd.underlying3 g00
  obtain ⟨a0H, e01, rfl, w0H⟩ := DataW.trod_int Tryd.underlying3 g01
  obtain ⟨a0C, e02, rfl, w0C⟩ := DataW.trod_string Tryd.underlying9 g02
  simp only [List.cons.injEq, and_true] at e00 e01 e02
  subst e00 e01 e02
  obtain ⟨L1, w1, l1, again1⟩ := open_arg_ints (hval 1 26 v1 rfl rfl) h1
  obtain ⟨L2, w2, l2, again2⟩ := open_arg_ints (hval 2 26 v2 rfl rfl) h2
  obtain ⟨a3, rfl, rfl, rfl, w3⟩ := open_int Tryd.underlying3 (hval 3 3 v3 rfl rfl) h3
  obtain ⟨a4, rfl, rfl, rfl⟩ := open_bool Tryd.underlying4 (hval 4 4 v4 rfl rfl) h4
  clear hA0 hval0 hsz
  simp only [List.append_nil, List.nil_append] at hW'
  refine (walkL a0W a0H a0C v1 L1 v2 L2 a3 a4 w0W w0H w0C w3 W w1 l1 w2 l2 hL).mono fun e W' ⟨he, hg⟩ => ?_
  subst he
  obtain ⟨_, hvs⟩ := sides_vars hs0 (hs0.below hg) hV
  exact ⟨_, rfl, post_of_below (pa := (([] : List MemPlace) ++ ([] ++ [])) ++ (p1 ++ (p2 ++ (([] : List MemPlace) ++ (([] : List MemPlace) ++ ([])))))) (pv := q) hW' (fun _ _ _ => (trodAll_cons_mk (shut_bool Tryd.underlying4 _) trodAll_mk0)) (fun sp hsp => (trodAll_cons_mk (shut_agg3 (P := Tryd.prog) (y0 := (.lit (.int .i64 a0W), [])) (y1 := (.lit (.int .i64 a0H), [])) (y2 := (.lit (.string a0C.data.toList), [])) Tryd.underlying42 (by kernel_rfl) (by kernel_rfl) ⟨1, by simp [DataW.trod, Tryd.underlying3, w0W]⟩ ⟨1, by simp [DataW.trod, Tryd.underlying3, w0H]⟩ ⟨1, by simp [DataW.trod, Tryd.underlying9, w0C]⟩) (trodAll_cons_mk (again1 W' hg sp (fun p hp => hsp p (by simp [hp]))) (trodAll_cons_mk (again2 W' hg sp (fun p hp => hsp p (by simp [hp]))) (trodAll_cons_mk (shut_int Tryd.underlying3 w3) (trodAll_cons_mk (shut_bool Tryd.underlying4 a4) trodAll_mk0)))))) (fun sp _ => hvs sp) (by simp)
    hg (ok_one (by kernel_rfl) rfl (okWide_bool_mk Tryd.underlying4 _))⟩

theorem said : Rows.FnExactTimeNetSaid :=
  OpenClaim.holds_of_wide 4 Tryd.f4 rfl rfl rfl rfl rfl rfl rfl ⟨rfl, rfl, rfl, rfl, rfl⟩ rfl rfl rfl rfl rfl (by kernel_rfl) Tryd.func4 (by kernel_rfl)
    (of_decide_eq_true (by kernel_rfl)) (by unfold Func.isWrapper; first | (rw [if_pos (by decide +kernel)]; kernel_rfl) | (rw [if_neg (by decide +kernel)]; exact ⟨rfl, rfl⟩))
    (fun os started H enc _ => lifted os started H enc)

theorem plain (f : FuncId) (fn : Func) (hf : Tryd.pinned.checked.prog.funcNamed "loop.example/g00961/laws.FnExactTimeNet" = some f) (hfn : Tryd.pinned.checked.prog.funcs[f]? = some fn) :
    Rows.fnExactTimeNetCard.stood.looks = Tryd.pinned.checked.prog.looks [] ∧ ∀ (j : Nat) t, fn.params[j]? = some t → Tryd.pinned.checked.prog.wantsStandIn t = false := by
  obtain rfl : f = 4 := Option.some.inj ((show Tryd.prog.funcNamed "loop.example/g00961/laws.FnExactTimeNet" = some 4 by kernel_rfl).symm.trans hf) |>.symm
  obtain rfl : fn = Tryd.f4 := (Option.some.inj (Tryd.func4.symm.trans hfn)).symm
  refine ⟨by kernel_rfl, fun j t ht => ?_⟩
  rw [Tryd.params4] at ht
  have hm : t ∈ [42, 26, 26, 3, 4] := by simpa using Array.mem_of_getElem? ht
  have hall : ([42, 26, 26, 3, 4].all fun u => !Tryd.prog.wantsStandIn u) = true := by kernel_rfl
  exact (show Tryd.prog.wantsStandIn t = false by simpa using List.all_eq_true.1 hall t hm)

theorem proved : Rows.FnExactTimeNetCardSaid :=
  Claim7.holds_tied_plain_at .later [] _ _ _ _ said (fun _ h => by cases h) (by kernel_rfl) (fun _ h => by cases h) fnExactTimeNet_row_tie rfl ⟨rfl, rfl⟩ (by kernel_rfl) rfl plain (by kernel_rfl)

end Go.Proofs.YtlkhecdlmbhiaaaDoor.fnExactTimeNet

