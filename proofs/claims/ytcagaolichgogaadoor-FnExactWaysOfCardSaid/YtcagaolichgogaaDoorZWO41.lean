/-
  THE LAW FnExactWaysOf: at every map, two lists of cells, a span and a flow the program's WaysOf answers as its model, leaves its arguments alone, and its answer owns its memory. A tied card: where the listed variable holds what its initialiser laid.
-/
import Derived.Test.YtcagaolichgogaaDoorZWO00
import Derived.Test.YtcagaolichgogaaDoorZWO01
import Derived.Test.YtcagaolichgogaaDoorZWO02
import Derived.Test.YtcagaolichgogaaDoorZWO40
import Derived.Test.YtcagaolichgogaaDoorZWO09
import Derived.Test.YtcagaolichgogaaDoorZWO25
import Derived.Lib.SmallJoins
import Derived.Test.YtcagaolichgogaaDoorCards
import Derived.Test.YtcagaolichgogaaDoorTie
import Derived.SevenTiedAt
namespace Go.Proofs.YtcagaolichgogaaDoor.fnExactWaysOf
set_option maxRecDepth 4096
open Go.ChangeShapes Go.WideShapes Go.ChangeAt Go.RowKit Go.Joins
open Go.ChangeMaps (open_string shut_string)

theorem ways_few {W H : Int} {C : ByteArray} {S G F : List Int} {T : Int} : (waysL W H C S G T F).length ≤ 10 ∧ totW (waysL W H C S G T F) ≤ 210 ∧ ∀ L ∈ waysL W H C S G T F, L.length ≤ 21 := by
  cases hb : waysB W H C S G T F with
  | false =>
    have e : waysL W H C S G T F = [] := by unfold waysL; rw [hb]; rfl
    rw [e]
    exact ⟨Nat.zero_le _, Nat.zero_le _, fun L hL => by cases hL⟩
  | true =>
    obtain ⟨t, rfl, hU⟩ := units_of hb
    have hl : (waysL W H C S G t F).length ≤ 10 := by
      unfold waysL
      rw [if_pos hb, List.length_map]
      exact hU.ask.s10
    have h21 : ∀ L ∈ waysL W H C S G t F, L.length ≤ 21 := fun L hL => by
      have := waysL_len hb L hL
      have := hU.ask.t20
      omega
    refine ⟨hl, ?_, h21⟩
    have key : ∀ Ws : List (List Int), (∀ L ∈ Ws, L.length ≤ 21) → totW Ws ≤ Ws.length * 21 := fun Ws => by
      induction Ws with
      | nil => exact fun _ => Nat.le_refl _
      | cons L Ws ih =>
        intro h
        have h1 := ih fun M hM => h M (List.mem_cons_of_mem _ hM)
        have h2 := h L (List.mem_cons_self ..)
        unfold totW at h1 ⊢
        simp only [List.map_cons, List.sum_cons, List.length_cons]
        omega
    have := key _ h21
    omega
theorem mark1 (v : Value) (B n : Nat) (xs : List Value) (w : World) (hown : w.ownsRow B 3 1 v n xs) (hn : n ≤ 1048576) :
    Calls Tryd.prog 12 #[v, .int .i64 1] w (MarkedI w B 3 v 1 n) := markInts v B 1 n xs w hown (by omega)
theorem markw1 (v : Value) (lo hi : Nat) (Ws : List (List Int)) (w : World) (h : WOwn w lo hi v Ws) (hW : Ws.length ≤ 10) (hT : totW Ws ≤ 210) :
    Calls Tryd.prog 13 #[v, .int .i64 1] w (MarkedW w lo hi v Ws 1) := markWays v lo hi 1 Ws w h (by omega) (by omega)
theorem heldw1 (v : Value) (Ws : List (List Int)) (w : World) (h : WaysAt w v (numsW 1 Ws)) (hW : Ws.length ≤ 10) (hT : totW Ws ≤ 210) :
    Calls Tryd.prog 14 #[v, .int .i64 1] w (Made w (.int .i64 ((1 + totW Ws : Nat) : Int))) := heldWays v 1 Ws w h (by omega) (by omega)

set_option maxHeartbeats 8000000 in
theorem walk (W H : Int) (C : ByteArray) (v : Value) (S : List Int) (u : Value) (G : List Int) (T : Int) (x : Value) (F : List Int) (_w0 : (Lit.int .i64 W).wf = true) (_w1 : (Lit.int .i64 H).wf = true) (hC : C.size ≤ maxLen) (_w3 : (Lit.int .i64 T).wf = true) (w : World) (hv : ArgI w v S) (hS : S.length ≤ maxLen) (hu : ArgI w u G) (hG : G.length ≤ maxLen) (hx : ArgI w x F) (hF : F.length ≤ maxLen) (hSd : SidesAt w) :
    Calls Tryd.prog 3 #[.agg #[.int .i64 W, .int .i64 H, .string C], v, u, .int .i64 T, x] w fun e w' => e = .returned (.bool true) ∧ Below w.heap.size w w' := by
  have hC' : C.size ≤ 9223372036854775807 := by unfold maxLen at hC; omega
  have hS' : S.length ≤ 9223372036854775807 := by unfold maxLen at hS; omega
  have hG' : G.length ≤ 9223372036854775807 := by unfold maxLen at hG; omega
  have hF' : F.length ≤ 9223372036854775807 := by unfold maxLen at hF; omega
  obtain ⟨av, cv, rfl, HV⟩ := hv
  have HS := Lib.hid (show ArgI w (.slice av S.length cv) S from ⟨av, cv, rfl, HV⟩)
  obtain ⟨au, cu, rfl, HU⟩ := hu
  have HG := Lib.hid (show ArgI w (.slice au G.length cu) G from ⟨au, cu, rfl, HU⟩)
  obtain ⟨ax, cx, rfl, HX⟩ := hx
  have HF := Lib.hid (show ArgI w (.slice ax F.length cx) F from ⟨ax, cx, rfl, HX⟩)
  have HSd := Lib.hid hSd
  clear HV HU HX hSd
  by_cases hl : S.length ≤ 1048576
  · have hl0 : ¬ (1048576 : Int) < (S.length : Int) := by omega
    by_cases hm : G.length ≤ 1048576
    · have hm0 : ¬ (1048576 : Int) < (G.length : Int) := by omega
      by_cases hn : F.length ≤ 1048576
      · have hn0 : ¬ (1048576 : Int) < (F.length : Int) := by omega
        by_cases h : C.size ≤ 1048576
        · obtain ⟨b, HB⟩ : ∃ b, Hid (waysB W H C S G T F = b) := ⟨_, rfl⟩
          have h0 : ¬ (1048576 - (C.size : Int)) < 0 := by omega
          obtain ⟨Ws, HW⟩ : ∃ Ws, Hid (waysL W H C S G T F = Ws) := ⟨_, rfl⟩
          have hfew := ways_few (W := W) (H := H) (C := C) (S := S) (G := G) (F := F) (T := T)
          rw [HW.out] at hfew
          obtain ⟨hW10, hW210, hL21⟩ := hfew
          have hLL : ∀ L ∈ Ws, L.length ≤ 2000000 := fun L hL => Nat.le_trans (hL21 L hL) (by omega)
          have HLL := Lib.hid hLL
          have hbb : (b != b) = false := by simp
          have hB := LSt.start w (.cells #[.int .i64 W, .int .i64 H, .string C] 23)
          obtain ⟨c0, c1, c2⟩ := box_cells hB.below
          clear hLL hL21
          go_enter Tryd.func3, Tryd.ntmps3
          go_wp2_with fail
          refine (szGrid_yes W H C h _).mono ?_
          rintro e w1 ⟨rfl, hb⟩
          replace hB := hB.on hb
          clear hb c0 c1 c2
          obtain ⟨c0, c1, c2⟩ := box_cells hB.below
          go_wp2_with fail
          refine (toGrid W H C _).mono ?_
          rintro e w2 ⟨rfl, hb⟩
          replace hB := hB.on hb
          clear hb c0 c1 c2
          go_wp2_with fail
          refine (toInts _ S _ (argI_below HS.out hB.base) (by omega)).mono ?_
          rintro e w3 ⟨s1, rfl, hown1, hb⟩
          replace hB := hB.on hb
          have HI1 := Lib.hid (ints_of_own hown1)
          clear hb hown1
          go_wp2_with fail
          refine (toInts _ G _ (argI_below HG.out hB.base) (by omega)).mono ?_
          rintro e w4 ⟨g1, rfl, hown2, hb⟩
          replace hB := hB.on hb
          have HI1b := Lib.hid (ints_on HI1.out hb)
          have HI2 := Lib.hid (ints_of_own hown2)
          clear hb hown2 HI1
          go_wp2_with fail
          refine (toInts _ F _ (argI_below HF.out hB.base) (by omega)).mono ?_
          rintro e w4b ⟨f1, rfl, hown3, hb⟩
          replace hB := hB.on hb
          have HI1c := Lib.hid (ints_on HI1b.out hb)
          have HI2b := Lib.hid (ints_on HI2.out hb)
          have HI3 := Lib.hid (ints_of_own hown3)
          clear hb hown3 HI1b HI2
          go_wp2_with fail
          refine (specWays W H C S G T F s1 g1 f1 Ws b h (by omega) (by omega) (by omega) HB HW _ HI1c.out HI2b.out HI3.out).mono ?_
          rintro e w5 ⟨v0, rfl, how0, hb⟩
          obtain ⟨a0, k0, rfl⟩ := how0.form
          have s5 := hb.size
          have s4 := hB.below.size
          replace hB := hB.on hb
          clear hb HI1c HI2b HI3
          go_wp2_with fail
          refine (toInts _ S _ (argI_below HS.out hB.base) (by omega)).mono ?_
          rintro e w6 ⟨s2, rfl, hown1, hb⟩
          have s6 := hb.size
          replace hB := hB.call hown1 hb
          replace how0 := how0.on hb
          clear hb hown1
          go_wp2_with fail
          refine (toInts _ G _ (argI_below HG.out hB.base) (by omega)).mono ?_
          rintro e w7 ⟨g2, rfl, hown2, hb⟩
          have s7 := hb.size
          replace hB := hB.call hown2 hb
          replace how0 := how0.on hb
          clear hb hown2
          go_wp2_with fail
          refine (toInts _ F _ (argI_below HF.out hB.base) (by omega)).mono ?_
          rintro e w7b ⟨f2, rfl, hown3, hb⟩
          have s7b := hb.size
          replace hB := hB.call hown3 hb
          replace how0 := how0.on hb
          clear hb hown3
          obtain ⟨c0, c1, c2⟩ := box_cells hB.below
          go_wp2_with fail
          refine (toGrid W H C _).mono ?_
          rintro e w8 ⟨rfl, hb⟩
          have s8 := hb.size
          replace hB := hB.on hb
          replace how0 := how0.on hb
          clear hb c0 c1 c2
          go_wp2_with fail
          have rs := (hB.rows ⟨w5.heap.size, w6.heap.size, 3, 1, s2, S.length, S.map (Value.int .i64)⟩ (by simp)).own
          have rg := (hB.rows ⟨w6.heap.size, w7.heap.size, 3, 1, g2, G.length, G.map (Value.int .i64)⟩ (by simp)).own
          have rf := (hB.rows ⟨w7.heap.size, w7b.heap.size, 3, 1, f2, F.length, F.map (Value.int .i64)⟩ (by simp)).own
          refine (implWays W H C S G T F s2 g2 f2 Ws b h (by omega) (by omega) (by omega) HB HW _ (ints_of_own rs) (ints_of_own rg) (ints_of_own rf) (HSd.out.below hB.base)).mono ?_
          rintro e w9 ⟨v1, rfl, how1, hb⟩
          obtain ⟨a1, k1, rfl⟩ := how1.form
          have s9 := hb.size
          replace hB := hB.on hb
          replace how0 := how0.on hb
          clear hb rs rg rf
          go_wp2_with fail
          refine (eqWays _ _ Ws _ how1.at how0.at (by omega) HLL.out).mono ?_
          rintro e wa ⟨rfl, hb⟩
          replace hB := hB.on hb
          replace how0 := how0.on hb
          replace how1 := how1.on hb
          clear hb
          go_wp2_with fail
          refine (toInts _ S _ (argI_below HS.out hB.base) (by omega)).mono ?_
          rintro e wb ⟨q3, rfl, hown3, hb⟩
          replace hB := hB.on hb
          replace how0 := how0.on hb
          replace how1 := how1.on hb
          clear hb
          have rs := (hB.rows ⟨w5.heap.size, w6.heap.size, 3, 1, s2, S.length, S.map (Value.int .i64)⟩ (by simp)).own
          go_wp2_with fail
          refine (eqInts _ _ S _ (ints_of_own rs) (ints_of_own hown3) (by omega)).mono ?_
          rintro e wc ⟨rfl, nc, rfl⟩
          replace hB := hB.drewN nc
          replace how0 := how0.drewN nc
          replace how1 := how1.drewN nc
          clear rs hown3
          generalize wb.drewN nc = wc at *
          go_wp2_with fail
          refine (toInts _ G _ (argI_below HG.out hB.base) (by omega)).mono ?_
          rintro e wd ⟨q3, rfl, hown3, hb⟩
          replace hB := hB.on hb
          replace how0 := how0.on hb
          replace how1 := how1.on hb
          clear hb
          have rs := (hB.rows ⟨w6.heap.size, w7.heap.size, 3, 1, g2, G.length, G.map (Value.int .i64)⟩ (by simp)).own
          go_wp2_with fail
          refine (eqInts _ _ G _ (ints_of_own rs) (ints_of_own hown3) (by omega)).mono ?_
          rintro e we ⟨rfl, ne, rfl⟩
          replace hB := hB.drewN ne
          replace how0 := how0.drewN ne
          replace how1 := how1.drewN ne
          clear rs hown3
          generalize wd.drewN ne = we at *
          go_wp2_with fail
          refine (toInts _ F _ (argI_below HF.out hB.base) (by omega)).mono ?_
          rintro e wf0 ⟨q3, rfl, hown3, hb⟩
          replace hB := hB.on hb
          replace how0 := how0.on hb
          replace how1 := how1.on hb
          clear hb
          have rs := (hB.rows ⟨w7.heap.size, w7b.heap.size, 3, 1, f2, F.length, F.map (Value.int .i64)⟩ (by simp)).own
          go_wp2_with fail
          refine (eqInts _ _ F _ (ints_of_own rs) (ints_of_own hown3) (by omega)).mono ?_
          rintro e wg0 ⟨rfl, nf, rfl⟩
          replace hB := hB.drewN nf
          replace how0 := how0.drewN nf
          replace how1 := how1.drewN nf
          clear rs hown3
          generalize wf0.drewN nf = wg0 at *
          replace hB := hB.front 2 ⟨w5.heap.size, w6.heap.size, 3, 1, s2, S.length, S.map (Value.int .i64)⟩ rfl
          have rs := (hB.rows _ (List.mem_cons_self ..)).own
          have hwm := hB.rows _ (List.mem_cons_self ..)
          go_wp2_with fail
          refine (mark1 s2 _ S.length _ _ rs (by omega)).mono ?_
          rintro e wf ⟨rfl, hm, hg⟩
          have hwi := within_mark hwm hg
          replace how0 := hwi.ways how0 (by dsimp only; omega)
          replace how1 := hwi.ways how1 (by dsimp only; omega)
          replace hB := hB.mark hm hg (fun q hq => by simp at hq; rcases hq with rfl | rfl <;> simp <;> omega) (fun p hp => by simp at hp) (by show _ ≤ w5.heap.size; omega)
          clear rs hm hg hwi hwm
          replace hB := hB.front 2 ⟨w6.heap.size, w7.heap.size, 3, 1, g2, G.length, G.map (Value.int .i64)⟩ rfl
          have rs := (hB.rows _ (List.mem_cons_self ..)).own
          have hwm := hB.rows _ (List.mem_cons_self ..)
          go_wp2_with fail
          refine (markInts g2 _ (1 + S.length) G.length _ _ rs (by omega)).mono ?_
          rintro e wg ⟨rfl, hm, hg⟩
          have hwi := within_mark hwm hg
          replace how0 := hwi.ways how0 (by dsimp only; omega)
          replace how1 := hwi.ways how1 (by dsimp only; omega)
          replace hB := hB.mark hm hg (fun q hq => by simp at hq; rcases hq with rfl | rfl <;> simp <;> omega) (fun p hp => by simp at hp) (by show _ ≤ w6.heap.size; omega)
          clear rs hm hg hwi hwm
          replace hB := hB.front 2 ⟨w7.heap.size, w7b.heap.size, 3, 1, f2, F.length, F.map (Value.int .i64)⟩ rfl
          have rs := (hB.rows _ (List.mem_cons_self ..)).own
          have hwm := hB.rows _ (List.mem_cons_self ..)
          go_wp2_with fail
          refine (markInts f2 _ (1 + S.length + G.length) F.length _ _ rs (by omega)).mono ?_
          rintro e wg1 ⟨rfl, hm, hg⟩
          have hwi := within_mark hwm hg
          replace how0 := hwi.ways how0 (by dsimp only; omega)
          replace how1 := hwi.ways how1 (by dsimp only; omega)
          replace hB := hB.mark hm hg (fun q hq => by simp at hq; rcases hq with rfl | rfl <;> simp <;> omega) (fun p hp => by simp at hp) (by show _ ≤ w7.heap.size; omega)
          clear rs hm hg hwi hwm
          have hk0 : ¬ (((1 + S.length + G.length + F.length : Nat) : Int)) < 0 := by omega
          go_wp2_with fail
          refine (eqWays _ _ Ws _ how1.at how0.at (by omega) HLL.out).mono ?_
          rintro e wh ⟨rfl, hb⟩
          replace hB := hB.on hb
          replace how0 := how0.on hb
          replace how1 := how1.on hb
          clear hb
          have hb0 := hB.base
          have hle1 := how1.le
          go_wp2_with fail
          refine (markw1 _ _ _ Ws _ how1 hW10 hW210).mono ?_
          rintro e wi ⟨rfl, hom, hwi⟩
          have hBe := hb0.trans (hwi.below (B := w.heap.size) (by have := s4; simp at this; omega) (by omega))
          replace how0 := hwi.ways how0 (.inl (by omega))
          have hbx := hB.within hwi (by omega) (by omega) (fun q hq => by simp at hq; rcases hq with rfl | rfl | rfl <;> simp <;> omega) (fun p hp => by simp at hp)
          clear hwi hle1 hb0 how1 hB
          have hk1 : ¬ (((1 + totW Ws : Nat) : Int)) < 0 := by omega
          have hk2 : ((((1 + totW Ws : Nat) : Int)) != (((1 + totW Ws : Nat) : Int))) = false := by simp
          go_wp2_with fail
          refine (heldw1 _ Ws _ hom.at hW10 hW210).mono ?_
          rintro e wj ⟨rfl, hb⟩
          replace hbx := hbx.on hb
          replace how0 := how0.on hb
          replace hom := hom.on hb
          clear hb hBe
          obtain ⟨c0, c1, c2⟩ := box_cells hbx.below
          go_wp2_with fail
          refine (toGrid W H C _).mono ?_
          rintro e wk ⟨rfl, hb⟩
          replace hbx := hbx.on hb
          replace how0 := how0.on hb
          replace hom := hom.on hb
          clear hb c0 c1 c2
          go_wp2_with fail
          refine (toInts _ S _ (argI_below HS.out hbx.base) (by omega)).mono ?_
          rintro e wl ⟨s4', rfl, hown1, hb⟩
          replace hbx := hbx.on hb
          replace how0 := how0.on hb
          replace hom := hom.on hb
          have HI1 := Lib.hid (ints_of_own hown1)
          clear hb hown1
          go_wp2_with fail
          refine (toInts _ G _ (argI_below HG.out hbx.base) (by omega)).mono ?_
          rintro e wm ⟨g4, rfl, hown2, hb⟩
          replace hbx := hbx.on hb
          replace how0 := how0.on hb
          replace hom := hom.on hb
          have HI1b := Lib.hid (ints_on HI1.out hb)
          have HI2 := Lib.hid (ints_of_own hown2)
          clear hb hown2 HI1
          go_wp2_with fail
          refine (toInts _ F _ (argI_below HF.out hbx.base) (by omega)).mono ?_
          rintro e wm2 ⟨f4, rfl, hown3, hb⟩
          replace hbx := hbx.on hb
          replace how0 := how0.on hb
          replace hom := hom.on hb
          have HI1c := Lib.hid (ints_on HI1b.out hb)
          have HI2b := Lib.hid (ints_on HI2.out hb)
          have HI3 := Lib.hid (ints_of_own hown3)
          clear hb hown3 HI1b HI2
          go_wp2_with fail
          refine (implWays W H C S G T F s4' g4 f4 Ws b h (by omega) (by omega) (by omega) HB HW _ HI1c.out HI2b.out HI3.out (HSd.out.below hbx.base)).mono ?_
          rintro e wn ⟨v2, rfl, how2, hb⟩
          obtain ⟨a2, k2, rfl⟩ := how2.form
          replace hbx := hbx.on hb
          replace how0 := how0.on hb
          replace hom := hom.on hb
          clear hb HI1c HI2b HI3
          go_wp2_with fail
          refine (eqWays _ _ Ws _ how2.at how0.at (by omega) HLL.out).mono ?_
          rintro e wo ⟨rfl, hb⟩
          replace hbx := hbx.on hb
          replace hom := hom.on hb
          clear hb how2 how0
          go_wp2_with fail
          refine (heldw1 _ Ws _ hom.at hW10 hW210).mono ?_
          rintro e wp ⟨rfl, hb⟩
          have HE := Lib.hid (hbx.on hb).base
          clear hb hbx hom
          go_wp2_with fail
          go_ret
          exact ⟨rfl, HE.out⟩
        · go_enter Tryd.func3, Tryd.ntmps3
          go_wp2_with (go_at_call 5; (with_reducible refine (szGrid_no W H C hC' h _).mono ?_); rintro e w1 ⟨rfl, hb1⟩)
          go_ret
          exact ⟨rfl, ((Below.refl _ _).alloc (Nat.le_refl _) _).trans (hb1.mono (by simp))⟩
      · go_enter Tryd.func3, Tryd.ntmps3
        have hn0 : (1048576 : Int) < (F.length : Int) := by omega
        go_wp2_with fail
        go_ret
        exact ⟨rfl, (Below.refl _ _).alloc (Nat.le_refl _) _⟩
    · go_enter Tryd.func3, Tryd.ntmps3
      have hm0 : (1048576 : Int) < (G.length : Int) := by omega
      go_wp2_with fail
      go_ret
      exact ⟨rfl, (Below.refl _ _).alloc (Nat.le_refl _) _⟩
  · go_enter Tryd.func3, Tryd.ntmps3
    have hl0 : (1048576 : Int) < (S.length : Int) := by omega
    go_wp2_with fail
    go_ret
    exact ⟨rfl, (Below.refl _ _).alloc (Nat.le_refl _) _⟩

theorem walkL (W H : Int) (C : ByteArray) (v : Value) (S : List Int) (u : Value) (G : List Int) (T : Int) (x : Value) (F : List Int) (w0 : (Lit.int .i64 W).wf = true) (w1 : (Lit.int .i64 H).wf = true) (hC : C.size ≤ maxLen) (w3 : (Lit.int .i64 T).wf = true) (w : World) (hv : ArgI w v S) (hS : S.length ≤ maxLen) (hu : ArgI w u G) (hG : G.length ≤ maxLen) (hx : ArgI w x F) (hF : F.length ≤ maxLen) (hL : laidMetH Tryd.prog Rows.fnExactWaysOfRow.laid w) :
    Calls Tryd.prog 3 #[.agg #[.int .i64 W, .int .i64 H, .string C], v, u, .int .i64 T, x] w fun e w' => e = .returned (.bool true) ∧ Below w.heap.size w w' :=
  walk W H C v S u G T x F w0 w1 hC w3 w hv hS hu hG hx hF (sides_of_laid hL)
-- LIFT
set_option maxRecDepth 100000 in
theorem lifted (os : Os) (started : os.Started) (H : Type) (enc : TypeId × Value → H) :
    ReturnsInHanded {} Tryd.checked os 3 .any (fun w args => (Rows.fnExactWaysOfSpec.pre enc Tryd.prog Tryd.f3 [] false w args ∧ laidMetH Tryd.prog Rows.fnExactWaysOfRow.laid w) ∧ sizedMet enc Tryd.prog Tryd.f3 (OpenSpec.ofChange Rows.fnExactWaysOfSpec) false w args)
      (Rows.fnExactWaysOfSpec.post enc Tryd.prog Tryd.f3 false true false false) := by
  refine returnsInHanded_of_change_and (C := Tryd.checked) (X := fun w _ => laidMetH Tryd.prog Rows.fnExactWaysOfRow.laid w) (fun _ _ _ hh h => h.of_heap hh) own started (by kernel_rfl) Tryd.func3
    (ChangeSpec.witness_shaped (enc := enc) (C := Tryd.checked) (os := os) (X := fun w _ => laidMetH Tryd.prog Rows.fnExactWaysOfRow.laid w) false (World.doorLaid Tryd.prog 400 os) #[.agg #[.int .i64 0, .int .i64 0, .string ByteArray.empty], .slice none 0 0, .slice none 0 0, .int .i64 0, .slice none 0 0] 8 rfl (World.shaped_of_RefB (by kernel_rfl) (by kernel_rfl)) (by kernel_rfl) (by kernel_rfl) (by kernel_rfl) (sides_met os _)) ?_
  intro W base args ds gs before hval0 hW _ hsz0 hL _
  have hsz : (DataW.weightsEach Tryd.prog (Tryd.f3.params.toList ++ Rows.fnExactWaysOfSpec.plain.varTypes Tryd.prog) (ds ++ gs)).all (· ≤ reachBytes) = true := hsz0
  clear hsz0
  have hval : ∀ (j : Nat) t v, Tryd.f3.params[j]? = some t → args[j]? = some v → Value.okWide Tryd.prog W .any base t v := hval0
  have hW' := hW
  obtain ⟨p, q, hA0, hV, rfl, hfz, hnd⟩ := hW
  have hA : DataW.TrodAll enc Tryd.prog W 0 (fun _ => true) true Tryd.f3.params.toList args.toList ds p := hA0
  rw [Tryd.params3] at hA hval hsz
  obtain ⟨v0, vs0, d0, ds0, p0, q0, hargs, rfl, rfl, h0, r0⟩ := trodAll_cons hA
  obtain ⟨v1, vs1, d1, ds1, p1, q1, rfl, rfl, rfl, h1, r1⟩ := trodAll_cons r0
  obtain ⟨v2, vs2, d2, ds2, p2, q2, rfl, rfl, rfl, h2, r2⟩ := trodAll_cons r1
  obtain ⟨v3, vs3, d3, ds3, p3, q3, rfl, rfl, rfl, h3, r3⟩ := trodAll_cons r2
  obtain ⟨v4, vs4, d4, ds4, p4, q4, rfl, rfl, rfl, h4, r4⟩ := trodAll_cons r3
  obtain ⟨rfl, rfl, rfl⟩ := trodAll_nil r4
  obtain rfl : args = #[v0, v1, v2, v3, v4] := by cases args; simp_all
  have hs0 := sides_of_laid hL
  obtain ⟨rfl, _⟩ := sides_vars hs0 hs0 hV
  obtain ⟨u00, u01, u02, y00, y01, y02, m0, rfl, rfl, rfl, g00, g01, g02⟩ := open_agg3 Tryd.underlying23 (by kernel_rfl) (by kernel_rfl) (hval 0 23 v0 rfl rfl) h0
  obtain ⟨a0W, e00, rfl, w0W⟩ := DataW.trod_int Tryd.underlying3 g00
  obtain ⟨a0H, e01, rfl, w0H⟩ := DataW.trod_int Tryd.underlying3 g01
  obtain ⟨a0C, e02, rfl, w0C⟩ := DataW.trod_string Tryd.underlying9 g02
  simp only [List.cons.injEq, and_true] at e00 e01 e02
  subst e00 e01 e02
  obtain ⟨L1, w1, l1, again1⟩ := open_arg_ints (hval 1 24 v1 rfl rfl) h1
  obtain ⟨L2, w2, l2, again2⟩ := open_arg_ints (hval 2 24 v2 rfl rfl) h2
  obtain ⟨a3, rfl, rfl, rfl, w3⟩ := open_int Tryd.underlying3 (hval 3 3 v3 rfl rfl) h3
  obtain ⟨L4, w4, l4, again4⟩ := open_arg_ints (hval 4 24 v4 rfl rfl) h4
  clear hA0 hval0 hsz
  simp only [List.append_nil, List.nil_append] at hW'
  refine (walkL a0W a0H a0C v1 L1 v2 L2 a3 v4 L4 w0W w0H w0C w3 W w1 l1 w2 l2 w4 l4 hL).mono fun e W' ⟨he, hg⟩ => ?_
  subst he
  obtain ⟨_, hvs⟩ := sides_vars hs0 (hs0.below hg) hV
  exact ⟨_, rfl, post_of_below (pa := (([] : List MemPlace) ++ ([] ++ [])) ++ (p1 ++ (p2 ++ (([] : List MemPlace) ++ (p4 ++ ([])))))) (pv := q) hW' (fun _ _ _ => (trodAll_cons_mk (shut_bool Tryd.underlying4 _) trodAll_mk0)) (fun sp hsp => (trodAll_cons_mk (shut_agg3 (P := Tryd.prog) (y0 := (.lit (.int .i64 a0W), [])) (y1 := (.lit (.int .i64 a0H), [])) (y2 := (.lit (.string a0C.data.toList), [])) Tryd.underlying23 (by kernel_rfl) (by kernel_rfl) ⟨1, by simp [DataW.trod, Tryd.underlying3, w0W]⟩ ⟨1, by simp [DataW.trod, Tryd.underlying3, w0H]⟩ ⟨1, by simp [DataW.trod, Tryd.underlying9, w0C]⟩) (trodAll_cons_mk (again1 W' hg sp (fun p hp => hsp p (by simp [hp]))) (trodAll_cons_mk (again2 W' hg sp (fun p hp => hsp p (by simp [hp]))) (trodAll_cons_mk (shut_int Tryd.underlying3 w3) (trodAll_cons_mk (again4 W' hg sp (fun p hp => hsp p (by simp [hp]))) trodAll_mk0)))))) (fun sp _ => hvs sp) (by simp)
    hg (ok_one (by kernel_rfl) rfl (okWide_bool_mk Tryd.underlying4 _))⟩

theorem said : Rows.FnExactWaysOfSaid :=
  OpenClaim.holds_of_wide 3 Tryd.f3 rfl rfl rfl rfl rfl rfl rfl ⟨rfl, rfl, rfl, rfl, rfl⟩ rfl rfl rfl rfl rfl (by kernel_rfl) Tryd.func3 (by kernel_rfl)
    (of_decide_eq_true (by kernel_rfl)) (by unfold Func.isWrapper; first | (rw [if_pos (by decide +kernel)]; kernel_rfl) | (rw [if_neg (by decide +kernel)]; exact ⟨rfl, rfl⟩))
    (fun os started H enc _ => lifted os started H enc)

theorem plain (f : FuncId) (fn : Func) (hf : Tryd.pinned.checked.prog.funcNamed "loop.example/g00961/laws.FnExactWaysOf" = some f) (hfn : Tryd.pinned.checked.prog.funcs[f]? = some fn) :
    Rows.fnExactWaysOfCard.stood.looks = Tryd.pinned.checked.prog.looks [] ∧ ∀ (j : Nat) t, fn.params[j]? = some t → Tryd.pinned.checked.prog.wantsStandIn t = false := by
  obtain rfl : f = 3 := Option.some.inj ((show Tryd.prog.funcNamed "loop.example/g00961/laws.FnExactWaysOf" = some 3 by kernel_rfl).symm.trans hf) |>.symm
  obtain rfl : fn = Tryd.f3 := (Option.some.inj (Tryd.func3.symm.trans hfn)).symm
  refine ⟨by kernel_rfl, fun j t ht => ?_⟩
  rw [Tryd.params3] at ht
  have hm : t ∈ [23, 24, 24, 3, 24] := by simpa using Array.mem_of_getElem? ht
  have hall : ([23, 24, 24, 3, 24].all fun u => !Tryd.prog.wantsStandIn u) = true := by kernel_rfl
  exact (show Tryd.prog.wantsStandIn t = false by simpa using List.all_eq_true.1 hall t hm)

theorem proved : Rows.FnExactWaysOfCardSaid :=
  Claim7.holds_tied_plain_at .later [] _ _ _ _ said (fun _ h => by cases h) (by kernel_rfl) (fun _ h => by cases h) fnExactWaysOf_row_tie rfl ⟨rfl, rfl⟩ (by kernel_rfl) rfl plain (by kernel_rfl)

end Go.Proofs.YtcagaolichgogaaDoor.fnExactWaysOf

