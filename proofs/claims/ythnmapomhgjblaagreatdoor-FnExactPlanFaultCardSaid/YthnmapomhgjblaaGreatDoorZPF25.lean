/-
  THE LAW FnExactPlanFault: at every grid, starts, goals and plan the program's PlanFault answers as its model and leaves its arguments alone. No condition.
-/
import Derived.Test.YthnmapomhgjblaaGreatDoorZPF00
import Derived.Test.YthnmapomhgjblaaGreatDoorZPF03
import Derived.Test.YthnmapomhgjblaaGreatDoorZPF15
import Derived.Test.YthnmapomhgjblaaGreatDoorZPF24
import Derived.Test.YthnmapomhgjblaaGreatDoorZPF06
import Derived.Test.YthnmapomhgjblaaGreatDoorZPF02
import Derived.Lib.SmallJoins
import Derived.Deep.RegionHeld3
import Derived.Test.YthnmapomhgjblaaGreatDoorCards
import Derived.Test.YthnmapomhgjblaaGreatDoorTie
import Derived.SevenTiedAt
namespace Go.Proofs.YthnmapomhgjblaaGreatDoor.fnExactPlanFault
set_option maxRecDepth 4096
open Go.ChangeShapes Go.WideShapes Go.ChangeAt Go.RowKit Go.Joins

/-- The law's two boxes. -/
theorem hold {w w' : World} {a b c d e f : Value} {t u : TypeId} (h : Below ((w.alloc (.cells #[a, b, c] t)).alloc (.cells #[d, e, f] u)).heap.size ((w.alloc (.cells #[a, b, c] t)).alloc (.cells #[d, e, f] u)) w') :
    w'.cell? ⟨w.heap.size, 0, none⟩ = some a ∧ w'.cell? ⟨w.heap.size, 1, none⟩ = some b ∧ w'.cell? ⟨w.heap.size, 2, none⟩ = some c ∧ w'.cell? ⟨w.heap.size + 1, 0, none⟩ = some d ∧ w'.cell? ⟨w.heap.size + 1, 1, none⟩ = some e ∧ w'.cell? ⟨w.heap.size + 1, 2, none⟩ = some f ∧ Below ((w.alloc (.cells #[a, b, c] t)).alloc (.cells #[d, e, f] u)).heap.size ((w.alloc (.cells #[a, b, c] t)).alloc (.cells #[d, e, f] u)) w' := by
  obtain ⟨_, c0, c1, c2, p0, p1, p2⟩ := two_cellsS h
  exact ⟨c0, c1, c2, p0, p1, p2, h⟩
/-- A box of three cells. -/
theorem box_at {w : World} {X : Nat} {a b c : Value} {t : TypeId} (h : w.heap[X]? = some (.cells #[a, b, c] t)) : w.cell? ⟨X, 0, none⟩ = some a ∧ w.cell? ⟨X, 1, none⟩ = some b ∧ w.cell? ⟨X, 2, none⟩ = some c := by
  refine ⟨?_, ?_, ?_⟩ <;> (rw [cell_of_row _ _ _ _ _ _ h]; rfl)
theorem box_on {w w' : World} {X : Nat} {o : Obj} (h : w.heap[X]? = some o) (hb : Below w.heap.size w w') : w'.heap[X]? = some o := (hb.block X (Array.getElem?_eq_some_iff.1 h).1).trans h

theorem hold2 {w w' : World} {a b c d e f x y z : Value} {t u s : TypeId} {X : Nat} (h : Below ((w.alloc (.cells #[a, b, c] t)).alloc (.cells #[d, e, f] u)).heap.size ((w.alloc (.cells #[a, b, c] t)).alloc (.cells #[d, e, f] u)) w') (hX : w'.heap[X]? = some (.cells #[x, y, z] s)) :
    w'.cell? ⟨w.heap.size, 0, none⟩ = some a ∧ w'.cell? ⟨w.heap.size, 1, none⟩ = some b ∧ w'.cell? ⟨w.heap.size, 2, none⟩ = some c ∧ w'.cell? ⟨X, 0, none⟩ = some x ∧ w'.cell? ⟨X, 1, none⟩ = some y ∧ w'.cell? ⟨X, 2, none⟩ = some z ∧ Below ((w.alloc (.cells #[a, b, c] t)).alloc (.cells #[d, e, f] u)).heap.size ((w.alloc (.cells #[a, b, c] t)).alloc (.cells #[d, e, f] u)) w' := by
  obtain ⟨_, c0, c1, c2, _⟩ := two_cellsS h
  obtain ⟨x0, x1, x2⟩ := box_at hX
  exact ⟨c0, c1, c2, x0, x1, x2, h⟩
theorem hold3 {w w' : World} {a b c d e f x y z : Value} {t u s : TypeId} {X : Nat} (h : Below ((w.alloc (.cells #[a, b, c] t)).alloc (.cells #[d, e, f] u)).heap.size ((w.alloc (.cells #[a, b, c] t)).alloc (.cells #[d, e, f] u)) w') (hX : w'.heap[X]? = some (.cells #[x, y, z] s)) :
    w'.cell? ⟨w.heap.size + 1, 0, none⟩ = some d ∧ w'.cell? ⟨w.heap.size + 1, 1, none⟩ = some e ∧ w'.cell? ⟨w.heap.size + 1, 2, none⟩ = some f ∧ w'.cell? ⟨X, 0, none⟩ = some x ∧ w'.cell? ⟨X, 1, none⟩ = some y ∧ w'.cell? ⟨X, 2, none⟩ = some z ∧ Below ((w.alloc (.cells #[a, b, c] t)).alloc (.cells #[d, e, f] u)).heap.size ((w.alloc (.cells #[a, b, c] t)).alloc (.cells #[d, e, f] u)) w' := by
  obtain ⟨_, _, _, _, p0, p1, p2⟩ := two_cellsS h
  obtain ⟨x0, x1, x2⟩ := box_at hX
  exact ⟨p0, p1, p2, x0, x1, x2, h⟩

set_option maxHeartbeats 8000000 in
theorem walkM (W H : Int) (C : ByteArray) (v : Value) (S : List Int) (u : Value) (G : List Int) (T M : Int) (x : Value) (Ws : List (List Int)) (w : World) (hv : ArgI w v S) (hu : ArgI w u G) (hx : ArgW w x Ws) (hSd : SidesAt w) (hE : ErrAt w) (h : C.size ≤ 1048576) (hl : S.length ≤ 1048576) (hm : G.length ≤ 1048576) (hz : C.size + (Ws.length + totW Ws) ≤ 1048576) (hL : ∀ L ∈ Ws, L.length ≤ 2000000) :
    Calls Tryz.prog 4 #[.agg #[.int .i64 W, .int .i64 H, .string C], v, u, .agg #[.int .i64 T, .int .i64 M, x]] w fun e w' => e = .returned (.bool true) ∧ Below w.heap.size w w' := by
  have hl0 : ¬ (1048576 : Int) < (S.length : Int) := by omega
  have hm0 : ¬ (1048576 : Int) < (G.length : Int) := by omega
  have h0 : ¬ (1048576 - (C.size : Int)) < 0 := by omega
  have HZ : Hid (szV Ws (1048576 - (C.size : Int)) = 1048576 - (C.size : Int) - ((Ws.length + totW Ws : Nat) : Int)) := Lib.hid (by unfold szV; rw [if_pos (by omega)])
  have h1 : ¬ (1048576 - (C.size : Int) - ((Ws.length + totW Ws : Nat) : Int)) < 0 := by omega
  obtain ⟨c, HX⟩ : ∃ c, Hid (planV W H C S G T M Ws = c) := ⟨_, rfl⟩
  have hcc : ((c : Int) != (c : Int)) = false := by simp
  have HS := Lib.hid hv
  have HG := Lib.hid hu
  have HW := Lib.hid hx
  have HSd := Lib.hid hSd
  have HE := Lib.hid hE
  have HLL := Lib.hid hL
  have hW2 : Ws.length ≤ 2000000 := by omega
  have hT2 : totW Ws ≤ 2000000 := by omega
  obtain ⟨av, cv, rfl, _⟩ := hv
  obtain ⟨au, cu, rfl, _⟩ := hu
  obtain ⟨ax, cx, rfl, _⟩ := hx
  have HB0 : Hid (Below ((w.alloc (.cells #[.int .i64 W, .int .i64 H, .string C] 36)).alloc (.cells #[.int .i64 T, .int .i64 M, .slice ax Ws.length cx] 39)).heap.size ((w.alloc (.cells #[.int .i64 W, .int .i64 H, .string C] 36)).alloc (.cells #[.int .i64 T, .int .i64 M, .slice ax Ws.length cx] 39)) ((w.alloc (.cells #[.int .i64 W, .int .i64 H, .string C] 36)).alloc (.cells #[.int .i64 T, .int .i64 M, .slice ax Ws.length cx] 39))) := Lib.hid (Below.refl _ _)
  obtain ⟨_, c0, c1, c2, p0, p1, p2⟩ := two_cellsS HB0.out
  obtain ⟨z, hz2⟩ : ∃ z : Int, 1048576 - (C.size : Int) - ((Ws.length + totW Ws : Nat) : Int) = z := ⟨_, rfl⟩
  rw [hz2] at HZ h1
  have hzl : 0 ≤ 1048576 - (C.size : Int) := by omega
  have hzl2 : 1048576 - (C.size : Int) ≤ 1048576 := by omega
  have hL9 : ∀ L ∈ Ws, L.length ≤ 9223372036854775807 := fun L hL' => Nat.le_trans (hL L hL') (by omega)
  have HSZ : Hid (∀ wr, Below w.heap.size w wr → Calls Tryz.prog 14 #[.agg #[.int .i64 T, .int .i64 M, .slice ax Ws.length cx], .int .i64 (1048576 - (C.size : Int))] wr (Made wr (.int .i64 z))) := Lib.hid fun wr hb => by
    have := szPlanC T M (.slice ax Ws.length cx) Ws (1048576 - (C.size : Int)) hzl hzl2 (by omega) hL9 wr (argW_below HW.out hb)
    rwa [HZ.out] at this
  clear hSd hE hL hz hz2 hzl hzl2 hL9 HZ
  go_enter Tryz.func4, Tryz.ntmps4
  go_wp2_with fail
  refine (szGrid_yes W H C h _).mono ?_
  rintro e w1 ⟨rfl, hb⟩
  have HB1 := Lib.hid (HB0.out.trans (hb.mono HB0.out.size))
  clear hb c0 c1 c2 p0 p1 p2
  obtain ⟨_, c0, c1, c2, p0, p1, p2⟩ := two_cellsS HB1.out
  go_wp2_with fail
  refine (HSZ.out _ (two_cellsS HB1.out).1).mono ?_
  rintro e w2 ⟨rfl, hb⟩
  have HB2 := Lib.hid (HB1.out.trans (hb.mono HB1.out.size))
  clear hb c0 c1 c2 p0 p1 p2 HB0
  have hS0 := hold HB2.out.drew
  have HB2d := Lib.hid HB2.out.drew
  go_wp2_with fail
  go_region_held3 (fun w' => w'.cell? ⟨w.heap.size, 0, none⟩ = some (.int .i64 W) ∧ w'.cell? ⟨w.heap.size, 1, none⟩ = some (.int .i64 H) ∧ w'.cell? ⟨w.heap.size, 2, none⟩ = some (.string C) ∧ w'.cell? ⟨w.heap.size + 1, 0, none⟩ = some (.int .i64 T) ∧ w'.cell? ⟨w.heap.size + 1, 1, none⟩ = some (.int .i64 M) ∧ w'.cell? ⟨w.heap.size + 1, 2, none⟩ = some (.slice ax Ws.length cx) ∧ Below ((w.alloc (.cells #[.int .i64 W, .int .i64 H, .string C] 36)).alloc (.cells #[.int .i64 T, .int .i64 M, .slice ax Ws.length cx] 39)).heap.size ((w.alloc (.cells #[.int .i64 W, .int .i64 H, .string C] 36)).alloc (.cells #[.int .i64 T, .int .i64 M, .slice ax Ws.length cx] 39)) w')
    (first | exact hS | exact hS0 | go_keep)
    (first
      | (go_at_call 16; (try go_split_ands); (with_reducible refine (toGrid W H C w2.drew).mono ?_); rintro e w3 ⟨rfl, hb⟩; have HB3 := Lib.hid (HB2d.out.trans (hb.mono HB2d.out.size)); have hS := hold HB3.out; clear hb)
      | (go_at_call 17; (try go_split_ands); (with_reducible refine (toInts _ S w3 (argI_below HS.out (two_cellsS HB3.out).1) (by omega)).mono ?_); rintro e w4 ⟨s1, rfl, hown, hb⟩; have HB4 := Lib.hid (HB3.out.trans (hb.mono HB3.out.size)); have HI4 := Lib.hid (ints_of_own hown); have hS := hold HB4.out; clear hb hown)
      | (go_at_call 17; (try go_split_ands); (with_reducible refine (toInts _ G w4 (argI_below HG.out (two_cellsS HB4.out).1) (by omega)).mono ?_); rintro e w5 ⟨g1, rfl, hown, hb⟩; have HB5 := Lib.hid (HB4.out.trans (hb.mono HB4.out.size)); have HI5 := Lib.hid (ints_on HI4.out hb); have HJ5 := Lib.hid (ints_of_own hown); have hS := hold HB5.out; clear hb hown)
      | (go_at_call 18; (try go_split_ands); (with_reducible refine (toPlanC T M _ Ws w5 (argW_below HW.out (two_cellsS HB5.out).1) hW2 HLL.out).mono ?_); rintro e w6 ⟨a1, k1, rfl, hwa, hb⟩; have HB6 := Lib.hid (HB5.out.trans (hb.mono HB5.out.size)); have HI6 := Lib.hid (ints_on HI5.out hb); have HJ6 := Lib.hid (ints_on HJ5.out hb); have HW6 := Lib.hid hwa; have hS := hold HB6.out; clear hb hwa)
      | (go_at_call 15; (try go_split_ands); (with_reducible refine (specPlanFault W H C S G T M Ws s1 g1 _ c h (by omega) (by omega) hW2 hT2 HX w6 HI6.out HJ6.out HW6.out).mono ?_); rintro e w7 ⟨rfl, hb⟩; have HB7 := Lib.hid (HB6.out.trans (hb.mono HB6.out.size)); have hS := hold HB7.out; clear hb))
  all_goals
    clear hS HI4 HI5 HI6 HJ5 HJ6 HW6 HB1 HB2 HB2d HB3 HB4 HB5 HB6 HSZ
    obtain ⟨_, c0, c1, c2, p0, p1, p2⟩ := two_cellsS HB7.out
    go_wp2_with fail
    refine (toInts _ S w7 (argI_below HS.out (two_cellsS HB7.out).1) (by omega)).mono ?_
    rintro e w8 ⟨s2, rfl, hown, hb⟩
    have HB8 := Lib.hid (HB7.out.trans (hb.mono HB7.out.size))
    have HI8 := Lib.hid (ints_of_own hown)
    clear hown hb c0 c1 c2 p0 p1 p2
    obtain ⟨_, c0, c1, c2, p0, p1, p2⟩ := two_cellsS HB8.out
    go_wp2_with fail
    refine (toInts _ G w8 (argI_below HG.out (two_cellsS HB8.out).1) (by omega)).mono ?_
    rintro e w9 ⟨g2, rfl, hown, hb⟩
    have HB9 := Lib.hid (HB8.out.trans (hb.mono HB8.out.size))
    have HI9 := Lib.hid (ints_on HI8.out hb)
    have HJ9 := Lib.hid (ints_of_own hown)
    clear hown hb c0 c1 c2 p0 p1 p2
    obtain ⟨_, c0, c1, c2, p0, p1, p2⟩ := two_cellsS HB9.out
    go_wp2_with fail
    refine (toPlanC T M _ Ws w9 (argW_below HW.out (two_cellsS HB9.out).1) hW2 HLL.out).mono ?_
    rintro e w10 ⟨ap, cp, rfl, hwa, hb⟩
    have HB10 := Lib.hid (HB9.out.trans (hb.mono HB9.out.size))
    have hal := (Below.refl w10.heap.size w10).alloc (Nat.le_refl _) (.cells #[.int .i64 T, .int .i64 M, .slice ap Ws.length cp] 29)
    have HI11 := Lib.hid (ints_on (ints_on HI9.out hb) hal)
    have HJ11 := Lib.hid (ints_on (ints_on HJ9.out hb) hal)
    have HW11 := Lib.hid (waysAt_on hwa hal)
    have HX11 := Lib.hid (heap_alloc_new w10 (.cells #[.int .i64 T, .int .i64 M, .slice ap Ws.length cp] 29))
    have HB11 := Lib.hid (HB10.out.trans (hal.mono HB10.out.size))
    clear hwa hb hal c0 c1 c2 p0 p1 p2 HI8 HI9 HJ9
    go_upto_region 16 with fail
    generalize w10.alloc (.cells #[.int .i64 T, .int .i64 M, .slice ap Ws.length cp] 29) = w11 at *
    obtain ⟨X, hX⟩ : ∃ X, w10.heap.size = X := ⟨_, rfl⟩
    rw [hX] at HX11 ⊢
    clear hX
    obtain ⟨_, c0, c1, c2, p0, p1, p2⟩ := two_cellsS HB11.out.drew
    obtain ⟨x0, x1, x2⟩ := box_at (w := w11.drew) HX11.out
    have hS0 : w11.drew.cell? ⟨w.heap.size, 0, none⟩ = some (.int .i64 W) ∧ w11.drew.cell? ⟨w.heap.size, 1, none⟩ = some (.int .i64 H) ∧ w11.drew.cell? ⟨w.heap.size, 2, none⟩ = some (.string C) ∧ w11.drew.cell? ⟨X, 0, none⟩ = some (.int .i64 T) ∧ w11.drew.cell? ⟨X, 1, none⟩ = some (.int .i64 M) ∧ w11.drew.cell? ⟨X, 2, none⟩ = some (.slice ap Ws.length cp) ∧ Below ((w.alloc (.cells #[.int .i64 W, .int .i64 H, .string C] 36)).alloc (.cells #[.int .i64 T, .int .i64 M, .slice ax Ws.length cx] 39)).heap.size ((w.alloc (.cells #[.int .i64 W, .int .i64 H, .string C] 36)).alloc (.cells #[.int .i64 T, .int .i64 M, .slice ax Ws.length cx] 39)) w11.drew := ⟨c0, c1, c2, x0, x1, x2, HB11.out.drew⟩
    have HB11d := Lib.hid HB11.out.drew
    clear c0 c1 c2 p0 p1 p2 x0 x1 x2
    go_region_held3 (fun w' => w'.cell? ⟨w.heap.size, 0, none⟩ = some (.int .i64 W) ∧ w'.cell? ⟨w.heap.size, 1, none⟩ = some (.int .i64 H) ∧ w'.cell? ⟨w.heap.size, 2, none⟩ = some (.string C) ∧ w'.cell? ⟨X, 0, none⟩ = some (.int .i64 T) ∧ w'.cell? ⟨X, 1, none⟩ = some (.int .i64 M) ∧ w'.cell? ⟨X, 2, none⟩ = some (.slice ap Ws.length cp) ∧ Below ((w.alloc (.cells #[.int .i64 W, .int .i64 H, .string C] 36)).alloc (.cells #[.int .i64 T, .int .i64 M, .slice ax Ws.length cx] 39)).heap.size ((w.alloc (.cells #[.int .i64 W, .int .i64 H, .string C] 36)).alloc (.cells #[.int .i64 T, .int .i64 M, .slice ax Ws.length cx] 39)) w')
      (first | exact hS | exact hS0 | go_keep)
      (first
        | (go_at_call 16; (try go_split_ands); (with_reducible refine (toGrid W H C w11.drew).mono ?_); rintro e w12 ⟨rfl, hb⟩; have HB12 := Lib.hid (HB11d.out.trans (hb.mono HB11d.out.size)); have HX12 := Lib.hid (box_on (w := w11.drew) HX11.out hb); have HI12 := Lib.hid (ints_on (w := w11.drew) HI11.out hb); have HJ12 := Lib.hid (ints_on (w := w11.drew) HJ11.out hb); have HW12 := Lib.hid (waysAt_on (w := w11.drew) HW11.out hb); have hS := hold2 HB12.out HX12.out; clear hb)
        | (go_at_call 8; (try go_split_ands); (with_reducible refine (implPlanFault W H C S G T M Ws s2 g2 _ c h (by omega) (by omega) hW2 hT2 HX w12 HI12.out HJ12.out HW12.out (HSd.out.below (two_cellsS HB12.out).1) (HE.out.below (two_cellsS HB12.out).1)).mono ?_); rintro e w13 ⟨rfl, hb⟩; have HB13 := Lib.hid (HB12.out.trans (hb.mono HB12.out.size)); have HX13 := Lib.hid (box_on HX12.out hb); have HI13 := Lib.hid (ints_on HI12.out hb); have HJ13 := Lib.hid (ints_on HJ12.out hb); have HW13 := Lib.hid (waysAt_on HW12.out hb); have hS := hold2 HB13.out HX13.out; clear hb))
    all_goals
      clear hS HI11 HI12 HJ11 HJ12 HW11 HW12 HX11 HX12 HB11d HB12
      go_wp2_with fail
      refine (toInts _ S w13 (argI_below HS.out (two_cellsS HB13.out).1) (by omega)).mono ?_
      rintro e w14 ⟨s3, rfl, hown, hb⟩
      have HB14 := Lib.hid (HB13.out.trans (hb.mono HB13.out.size))
      have HI14 := Lib.hid (ints_on HI13.out hb)
      have HJ14 := Lib.hid (ints_on HJ13.out hb)
      have HW14 := Lib.hid (waysAt_on HW13.out hb)
      have HX14 := Lib.hid (box_on HX13.out hb)
      have HK14 := Lib.hid (ints_of_own hown)
      clear hown hb HI13 HJ13 HW13 HX13
      go_wp2_with fail
      refine (eqInts s2 s3 S w14 HI14.out HK14.out (by omega)).mono ?_
      rintro e w15 ⟨rfl, q15, hq⟩
      have hb : Below w14.heap.size w14 w15 := by rw [hq]; exact below_drewN (Below.refl _ _) _
      clear hq
      have HB15 := Lib.hid (HB14.out.trans (hb.mono HB14.out.size))
      have HJ15 := Lib.hid (ints_on HJ14.out hb)
      have HW15 := Lib.hid (waysAt_on HW14.out hb)
      have HX15 := Lib.hid (box_on HX14.out hb)
      clear hb HI14 HJ14 HW14 HX14 HK14
      go_wp2_with fail
      refine (toInts _ G w15 (argI_below HG.out (two_cellsS HB15.out).1) (by omega)).mono ?_
      rintro e w16 ⟨g3, rfl, hown, hb⟩
      have HB16 := Lib.hid (HB15.out.trans (hb.mono HB15.out.size))
      have HJ16 := Lib.hid (ints_on HJ15.out hb)
      have HW16 := Lib.hid (waysAt_on HW15.out hb)
      have HX16 := Lib.hid (box_on HX15.out hb)
      have HK16 := Lib.hid (ints_of_own hown)
      clear hown hb HJ15 HW15 HX15
      go_wp2_with fail
      refine (eqInts g2 g3 G w16 HJ16.out HK16.out (by omega)).mono ?_
      rintro e w17 ⟨rfl, q17, hq⟩
      have hb : Below w16.heap.size w16 w17 := by rw [hq]; exact below_drewN (Below.refl _ _) _
      clear hq
      have HB17 := Lib.hid (HB16.out.trans (hb.mono HB16.out.size))
      have HW17 := Lib.hid (waysAt_on HW16.out hb)
      have HX17 := Lib.hid (box_on HX16.out hb)
      clear hb HJ16 HW16 HX16 HK16
      obtain ⟨_, c0, c1, c2, p0, p1, p2⟩ := two_cellsS HB17.out.drew
      obtain ⟨x0, x1, x2⟩ := box_at (w := w17.drew) HX17.out
      have hS0 : w17.drew.cell? ⟨w.heap.size + 1, 0, none⟩ = some (.int .i64 T) ∧ w17.drew.cell? ⟨w.heap.size + 1, 1, none⟩ = some (.int .i64 M) ∧ w17.drew.cell? ⟨w.heap.size + 1, 2, none⟩ = some (.slice ax Ws.length cx) ∧ w17.drew.cell? ⟨X, 0, none⟩ = some (.int .i64 T) ∧ w17.drew.cell? ⟨X, 1, none⟩ = some (.int .i64 M) ∧ w17.drew.cell? ⟨X, 2, none⟩ = some (.slice ap Ws.length cp) ∧ Below ((w.alloc (.cells #[.int .i64 W, .int .i64 H, .string C] 36)).alloc (.cells #[.int .i64 T, .int .i64 M, .slice ax Ws.length cx] 39)).heap.size ((w.alloc (.cells #[.int .i64 W, .int .i64 H, .string C] 36)).alloc (.cells #[.int .i64 T, .int .i64 M, .slice ax Ws.length cx] 39)) w17.drew := ⟨p0, p1, p2, x0, x1, x2, HB17.out.drew⟩
      have HB17d := Lib.hid HB17.out.drew
      clear c0 c1 c2 p0 p1 p2 x0 x1 x2
      go_upto_region 23 with fail
      go_region_held3 (fun w' => w'.cell? ⟨w.heap.size + 1, 0, none⟩ = some (.int .i64 T) ∧ w'.cell? ⟨w.heap.size + 1, 1, none⟩ = some (.int .i64 M) ∧ w'.cell? ⟨w.heap.size + 1, 2, none⟩ = some (.slice ax Ws.length cx) ∧ w'.cell? ⟨X, 0, none⟩ = some (.int .i64 T) ∧ w'.cell? ⟨X, 1, none⟩ = some (.int .i64 M) ∧ w'.cell? ⟨X, 2, none⟩ = some (.slice ap Ws.length cp) ∧ Below ((w.alloc (.cells #[.int .i64 W, .int .i64 H, .string C] 36)).alloc (.cells #[.int .i64 T, .int .i64 M, .slice ax Ws.length cx] 39)).heap.size ((w.alloc (.cells #[.int .i64 W, .int .i64 H, .string C] 36)).alloc (.cells #[.int .i64 T, .int .i64 M, .slice ax Ws.length cx] 39)) w')
        (first | exact hS | exact hS0 | go_keep)
        (first
          | (go_at_call 18; (try go_split_ands); (with_reducible refine (toPlanC T M _ Ws w17.drew (argW_below HW.out (two_cellsS HB17d.out).1) hW2 HLL.out).mono ?_); rintro e w18 ⟨a3, k3, rfl, hwa, hb⟩; have HB18 := Lib.hid (HB17d.out.trans (hb.mono HB17d.out.size)); have HX18 := Lib.hid (box_on (w := w17.drew) HX17.out hb); have HW18 := Lib.hid (waysAt_on (w := w17.drew) HW17.out hb); have HV18 := Lib.hid hwa; have hS := hold3 HB18.out HX18.out; clear hb hwa)
          | (go_at_call 20; (try go_split_ands); (with_reducible refine (eqPlanC T M _ _ Ws w18 HW18.out HV18.out hW2 HLL.out).mono ?_); rintro e w19 ⟨rfl, hb⟩; have HB19 := Lib.hid (HB18.out.trans (hb.mono HB18.out.size)); have HX19 := Lib.hid (box_on HX18.out hb); have hS := hold3 HB19.out HX19.out; clear hb))
      all_goals
        clear hS
        go_wp2_with fail
        go_ret
        exact ⟨rfl, (two_cellsS HB19.out).1⟩

set_option maxHeartbeats 2000000 in
theorem walk (W H : Int) (C : ByteArray) (v : Value) (S : List Int) (u : Value) (G : List Int) (T M : Int) (x : Value) (Ws : List (List Int)) (hC : C.size ≤ maxLen) (w : World) (hv : ArgI w v S) (_hS : S.length ≤ maxLen) (hu : ArgI w u G) (hG : G.length ≤ maxLen) (hx : ArgW w x Ws) (hl : Ws.length ≤ maxLen ∧ ∀ L ∈ Ws, L.length ≤ maxLen) (hSd : SidesAt w) (hE : ErrAt w) :
    Calls Tryz.prog 4 #[.agg #[.int .i64 W, .int .i64 H, .string C], v, u, .agg #[.int .i64 T, .int .i64 M, x]] w fun e w' => e = .returned (.bool true) ∧ Below w.heap.size w w' := by
  have hmx : maxLen ≤ 9223372036854775807 := by unfold maxLen; omega
  by_cases hs1 : S.length ≤ 1048576
  · by_cases hg1 : G.length ≤ 1048576
    · by_cases hc1 : C.size ≤ 1048576
      · by_cases hz : C.size + (Ws.length + totW Ws) ≤ 1048576
        · exact walkM W H C v S u G T M x Ws w hv hu hx hSd hE hc1 hs1 hg1 hz fun L hL => by
            obtain ⟨i, hi, rfl⟩ := List.getElem_of_mem hL
            have := totW_one (List.getElem?_eq_getElem hi)
            omega
        · have e : szV Ws (1048576 - (C.size : Int)) = -1 := by unfold szV; rw [if_neg (by omega)]
          have hl0 : ¬ (1048576 : Int) < (S.length : Int) := by omega
          have hm0 : ¬ (1048576 : Int) < (G.length : Int) := by omega
          have h0 : ¬ (1048576 - (C.size : Int)) < 0 := by omega
          have HSZ : Hid (∀ wr, Below w.heap.size w wr → Calls Tryz.prog 14 #[.agg #[.int .i64 T, .int .i64 M, x], .int .i64 (1048576 - (C.size : Int))] wr (Made wr (.int .i64 (-1)))) := Lib.hid fun wr hb => by
            have := szPlanC T M x Ws (1048576 - (C.size : Int)) (by omega) (by omega) (Nat.le_trans hl.1 hmx) (fun L hL => Nat.le_trans (hl.2 L hL) hmx) wr (argW_below hx hb)
            rwa [e] at this
          obtain ⟨av, cv, rfl, _⟩ := hv
          obtain ⟨au, cu, rfl, _⟩ := hu
          obtain ⟨ax, cx, rfl, _⟩ := hx
          have HB0 : Hid (Below ((w.alloc (.cells #[.int .i64 W, .int .i64 H, .string C] 36)).alloc (.cells #[.int .i64 T, .int .i64 M, .slice ax Ws.length cx] 39)).heap.size ((w.alloc (.cells #[.int .i64 W, .int .i64 H, .string C] 36)).alloc (.cells #[.int .i64 T, .int .i64 M, .slice ax Ws.length cx] 39)) ((w.alloc (.cells #[.int .i64 W, .int .i64 H, .string C] 36)).alloc (.cells #[.int .i64 T, .int .i64 M, .slice ax Ws.length cx] 39))) := Lib.hid (Below.refl _ _)
          obtain ⟨_, c0, c1, c2, p0, p1, p2⟩ := two_cellsS HB0.out
          clear hl e
          go_enter Tryz.func4, Tryz.ntmps4
          go_wp2_with fail
          refine (szGrid_yes W H C hc1 _).mono ?_
          rintro e w1 ⟨rfl, hb⟩
          have HB1 := Lib.hid (HB0.out.trans (hb.mono HB0.out.size))
          clear hb c0 c1 c2 p0 p1 p2
          obtain ⟨_, c0, c1, c2, p0, p1, p2⟩ := two_cellsS HB1.out
          go_wp2_with fail
          refine (HSZ.out _ (two_cellsS HB1.out).1).mono ?_
          rintro e w2 ⟨rfl, hb⟩
          have HB2 := Lib.hid (HB1.out.trans (hb.mono HB1.out.size))
          clear hb
          go_wp2_with fail
          go_ret
          exact ⟨rfl, (two_cellsS HB2.out).1⟩
      · have hl0 : ¬ (1048576 : Int) < (S.length : Int) := by omega
        have hm0 : ¬ (1048576 : Int) < (G.length : Int) := by omega
        obtain ⟨av, cv, rfl, _⟩ := hv
        obtain ⟨au, cu, rfl, _⟩ := hu
        obtain ⟨ax, cx, rfl, _⟩ := hx
        have HB0 : Hid (Below ((w.alloc (.cells #[.int .i64 W, .int .i64 H, .string C] 36)).alloc (.cells #[.int .i64 T, .int .i64 M, .slice ax Ws.length cx] 39)).heap.size ((w.alloc (.cells #[.int .i64 W, .int .i64 H, .string C] 36)).alloc (.cells #[.int .i64 T, .int .i64 M, .slice ax Ws.length cx] 39)) ((w.alloc (.cells #[.int .i64 W, .int .i64 H, .string C] 36)).alloc (.cells #[.int .i64 T, .int .i64 M, .slice ax Ws.length cx] 39))) := Lib.hid (Below.refl _ _)
        obtain ⟨_, c0, c1, c2, p0, p1, p2⟩ := two_cellsS HB0.out
        go_enter Tryz.func4, Tryz.ntmps4
        go_wp2_with fail
        refine (szGrid_no W H C (Nat.le_trans hC hmx) hc1 _).mono ?_
        rintro e w1 ⟨rfl, hb⟩
        have HB1 := Lib.hid (HB0.out.trans (hb.mono HB0.out.size))
        clear hb
        go_wp2_with fail
        go_ret
        exact ⟨rfl, (two_cellsS HB1.out).1⟩
    · have hl0 : ¬ (1048576 : Int) < (S.length : Int) := by omega
      have hm0 : (1048576 : Int) < (G.length : Int) := by omega
      have hm9 : (G.length : Int) ≤ 9223372036854775807 := by omega
      obtain ⟨av, cv, rfl, _⟩ := hv
      obtain ⟨au, cu, rfl, _⟩ := hu
      have HB0 : Hid (Below ((w.alloc (.cells #[.int .i64 W, .int .i64 H, .string C] 36)).alloc (.cells #[.int .i64 T, .int .i64 M, x] 39)).heap.size ((w.alloc (.cells #[.int .i64 W, .int .i64 H, .string C] 36)).alloc (.cells #[.int .i64 T, .int .i64 M, x] 39)) ((w.alloc (.cells #[.int .i64 W, .int .i64 H, .string C] 36)).alloc (.cells #[.int .i64 T, .int .i64 M, x] 39))) := Lib.hid (Below.refl _ _)
      go_enter Tryz.func4, Tryz.ntmps4
      go_wp2_with fail
      go_ret
      exact ⟨rfl, (two_cellsS HB0.out).1⟩
  · have hl0 : (1048576 : Int) < (S.length : Int) := by omega
    obtain ⟨av, cv, rfl, _⟩ := hv
    have HB0 : Hid (Below ((w.alloc (.cells #[.int .i64 W, .int .i64 H, .string C] 36)).alloc (.cells #[.int .i64 T, .int .i64 M, x] 39)).heap.size ((w.alloc (.cells #[.int .i64 W, .int .i64 H, .string C] 36)).alloc (.cells #[.int .i64 T, .int .i64 M, x] 39)) ((w.alloc (.cells #[.int .i64 W, .int .i64 H, .string C] 36)).alloc (.cells #[.int .i64 T, .int .i64 M, x] 39))) := Lib.hid (Below.refl _ _)
    go_enter Tryz.func4, Tryz.ntmps4
    go_wp2_with fail
    go_ret
    exact ⟨rfl, (two_cellsS HB0.out).1⟩
theorem walkL (W H : Int) (C : ByteArray) (v : Value) (S : List Int) (u : Value) (G : List Int) (T M : Int) (x : Value) (Ws : List (List Int)) (_w0 : (Lit.int .i64 W).wf = true) (_w1 : (Lit.int .i64 H).wf = true) (hC : C.size ≤ maxLen) (w : World) (hv : ArgI w v S) (hS : S.length ≤ maxLen) (hu : ArgI w u G) (hG : G.length ≤ maxLen) (hx : ArgW w x Ws) (hl : Ws.length ≤ maxLen ∧ ∀ L ∈ Ws, L.length ≤ maxLen) (hL : laidMetH Tryz.prog Rows.fnExactPlanFaultRow.laid w) :
    Calls Tryz.prog 4 #[.agg #[.int .i64 W, .int .i64 H, .string C], v, u, .agg #[.int .i64 T, .int .i64 M, x]] w fun e w' => e = .returned (.bool true) ∧ Below w.heap.size w w' :=
  walk W H C v S u G T M x Ws hC w hv hS hu hG hx hl (both_of_laid hL).1 (both_of_laid hL).2
-- LIFT
set_option maxRecDepth 100000 in
theorem lifted (os : Os) (started : os.Started) (H : Type) (enc : TypeId × Value → H) :
    ReturnsInHanded {} Tryz.checked os 4 .any (fun w args => (Rows.fnExactPlanFaultSpec.pre enc Tryz.prog Tryz.f4 [] false w args ∧ laidMetH Tryz.prog Rows.fnExactPlanFaultRow.laid w) ∧ sizedMet enc Tryz.prog Tryz.f4 (OpenSpec.ofChange Rows.fnExactPlanFaultSpec) false w args)
      (Rows.fnExactPlanFaultSpec.post enc Tryz.prog Tryz.f4 false true false false) := by
  refine returnsInHanded_of_change_and (C := Tryz.checked) (X := fun w _ => laidMetH Tryz.prog Rows.fnExactPlanFaultRow.laid w) (fun _ _ _ hh h => h.of_heap hh) own started (by kernel_rfl) Tryz.func4
    (ChangeSpec.witness_shaped (enc := enc) (C := Tryz.checked) (os := os) (X := fun w _ => laidMetH Tryz.prog Rows.fnExactPlanFaultRow.laid w) false (World.doorLaid Tryz.prog 400 os) #[.agg #[.int .i64 0, .int .i64 0, .string ByteArray.empty], .slice none 0 0, .slice none 0 0, .agg #[.int .i64 0, .int .i64 0, .slice none 0 0]] 8 rfl (World.shaped_of_RefB (by kernel_rfl) (by kernel_rfl)) (by kernel_rfl) (by kernel_rfl) (by kernel_rfl) (both_met os _)) ?_
  intro W base args ds gs before hval0 hW _ hsz0 hL _
  have hsz : (DataW.weightsEach Tryz.prog (Tryz.f4.params.toList ++ Rows.fnExactPlanFaultSpec.plain.varTypes Tryz.prog) (ds ++ gs)).all (· ≤ reachBytes) = true := hsz0
  clear hsz0
  have hval : ∀ (j : Nat) t v, Tryz.f4.params[j]? = some t → args[j]? = some v → Value.okWide Tryz.prog W .any base t v := hval0
  have hW' := hW
  obtain ⟨p, q, hA0, hV, rfl, hfz, hnd⟩ := hW
  have hA : DataW.TrodAll enc Tryz.prog W 0 (fun _ => true) true Tryz.f4.params.toList args.toList ds p := hA0
  rw [Tryz.params4] at hA hval hsz
  obtain ⟨v0, vs0, d0, ds0, p0, q0, hargs, rfl, rfl, h0, r0⟩ := trodAll_cons hA
  obtain ⟨v1, vs1, d1, ds1, p1, q1, rfl, rfl, rfl, h1, r1⟩ := trodAll_cons r0
  obtain ⟨v2, vs2, d2, ds2, p2, q2, rfl, rfl, rfl, h2, r2⟩ := trodAll_cons r1
  obtain ⟨v3, vs3, d3, ds3, p3, q3, rfl, rfl, rfl, h3, r3⟩ := trodAll_cons r2
  obtain ⟨rfl, rfl, rfl⟩ := trodAll_nil r3
  obtain rfl : args = #[v0, v1, v2, v3] := by cases args; simp_all
  have hs0 := (both_of_laid hL).1
  obtain ⟨rfl, _⟩ := sides_vars hs0 hs0 hV
  obtain ⟨u00, u01, u02, y00, y01, y02, m0, rfl, rfl, rfl, g00, g01, g02⟩ := open_agg3 Tryz.underlying36 (by kernel_rfl) (by kernel_rfl) (hval 0 36 v0 rfl rfl) h0
  obtain ⟨a0W, e00, rfl, w0W⟩ := DataW.trod_int Tryz.underlying3 g00
  obtain ⟨a0H, e01, rfl, w0H⟩ := DataW.trod_int Tryz.underlying3 g01
  obtain ⟨a0C, e02, rfl, w0C⟩ := DataW.trod_string Tryz.underlying9 g02
  simp only [List.cons.injEq, and_true] at e00 e01 e02
  subst e00 e01 e02
  obtain ⟨L1, w1, l1, again1⟩ := open_arg_ints (hval 1 26 v1 rfl rfl) h1
  obtain ⟨L2, w2, l2, again2⟩ := open_arg_ints (hval 2 26 v2 rfl rfl) h2
  obtain ⟨T3, M3, u3, L3, hv3, w3, l3⟩ := open_arg_plan (hval 3 39 v3 rfl rfl) h3
  subst hv3
  clear hA0 hval0 hsz
  simp only [List.append_nil, List.nil_append] at hW'
  refine (walkL a0W a0H a0C v1 L1 v2 L2 T3 M3 u3 L3 w0W w0H w0C W w1 l1 w2 l2 w3 l3 hL).mono fun e W' ⟨he, hg⟩ => ?_
  subst he
  obtain ⟨_, hvs⟩ := sides_vars hs0 (hs0.below hg) hV
  exact ⟨_, rfl, post_of_below (pa := (([] : List MemPlace) ++ ([] ++ [])) ++ (p1 ++ (p2 ++ (p3 ++ ([]))))) (pv := q) hW' (fun _ _ _ => (trodAll_cons_mk (shut_bool Tryz.underlying4 _) trodAll_mk0)) (fun sp hsp => (trodAll_cons_mk (shut_agg3 (P := Tryz.prog) (y0 := (.lit (.int .i64 a0W), [])) (y1 := (.lit (.int .i64 a0H), [])) (y2 := (.lit (.string a0C.data.toList), [])) Tryz.underlying36 (by kernel_rfl) (by kernel_rfl) ⟨1, by simp [DataW.trod, Tryz.underlying3, w0W]⟩ ⟨1, by simp [DataW.trod, Tryz.underlying3, w0H]⟩ ⟨1, by simp [DataW.trod, Tryz.underlying9, w0C]⟩) (trodAll_cons_mk (again1 W' hg sp (fun p hp => hsp p (by simp [hp]))) (trodAll_cons_mk (again2 W' hg sp (fun p hp => hsp p (by simp [hp]))) (trodAll_cons_mk (again_of (by kernel_rfl) (of_decide_eq_true (by kernel_rfl)) h3 (fun x hx => hW'.lt x (by simp [hx])) hg sp (fun p hp => hsp p (by simp [hp]))) trodAll_mk0))))) (fun sp _ => hvs sp) (by simp)
    hg (ok_one (by kernel_rfl) rfl (okWide_bool_mk Tryz.underlying4 _))⟩

theorem said : Rows.FnExactPlanFaultSaid :=
  OpenClaim.holds_of_wide 4 Tryz.f4 rfl rfl rfl rfl rfl rfl rfl ⟨rfl, rfl, rfl, rfl, rfl⟩ rfl rfl rfl rfl rfl (by kernel_rfl) Tryz.func4 (by kernel_rfl)
    (of_decide_eq_true (by kernel_rfl)) (by unfold Func.isWrapper; first | (rw [if_pos (by decide +kernel)]; kernel_rfl) | (rw [if_neg (by decide +kernel)]; exact ⟨rfl, rfl⟩))
    (fun os started H enc _ => lifted os started H enc)

theorem plain (f : FuncId) (fn : Func) (hf : Tryz.pinned.checked.prog.funcNamed "loop.example/g00961/laws.FnExactPlanFault" = some f) (hfn : Tryz.pinned.checked.prog.funcs[f]? = some fn) :
    Rows.fnExactPlanFaultCard.stood.looks = Tryz.pinned.checked.prog.looks [] ∧ ∀ (j : Nat) t, fn.params[j]? = some t → Tryz.pinned.checked.prog.wantsStandIn t = false := by
  obtain rfl : f = 4 := Option.some.inj ((show Tryz.prog.funcNamed "loop.example/g00961/laws.FnExactPlanFault" = some 4 by kernel_rfl).symm.trans hf) |>.symm
  obtain rfl : fn = Tryz.f4 := (Option.some.inj (Tryz.func4.symm.trans hfn)).symm
  refine ⟨by kernel_rfl, fun j t ht => ?_⟩
  rw [Tryz.params4] at ht
  have hm : t ∈ [36, 26, 26, 39] := by simpa using Array.mem_of_getElem? ht
  have hall : ([36, 26, 26, 39].all fun u => !Tryz.prog.wantsStandIn u) = true := by kernel_rfl
  exact (show Tryz.prog.wantsStandIn t = false by simpa using List.all_eq_true.1 hall t hm)

theorem proved : Rows.FnExactPlanFaultCardSaid :=
  Claim7.holds_tied_plain_at .later [] _ _ _ _ said (fun _ h => by cases h) (by kernel_rfl) (fun _ h => by cases h) fnExactPlanFault_row_tie rfl ⟨rfl, rfl⟩ (by kernel_rfl) rfl plain (by kernel_rfl)

end Go.Proofs.YthnmapomhgjblaaGreatDoor.fnExactPlanFault

