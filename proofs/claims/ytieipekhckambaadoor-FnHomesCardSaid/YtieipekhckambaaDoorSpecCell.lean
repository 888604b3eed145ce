/-
  CONTRACTS of spec.CellAt and spec.SpotOf. No law is proved here.
-/
import Derived.Test.YtieipekhckambaaDoorCellOk
import Derived.Deep.QuietTactic
import Derived.BigQuiet
namespace Go.Proofs.YtieipekhckambaaDoor
set_option maxRecDepth 4096
open Go.ChangeShapes Go.WideShapes Go.ChangeAt Go.RowKit

/-- The cell in column x and row y, or -1. -/
noncomputable def cellAtV (W H : Int) (C : ByteArray) (x y : Int) : Int := @ite _ (gok W H C = true ∧ (0 ≤ x ∧ x < W) ∧ (0 ≤ y ∧ y < H)) (Classical.propDecidable _) (y * W + x) (-1)
theorem cellAtV_yes {W H : Int} {C : ByteArray} {x y : Int} (h : gok W H C = true ∧ (0 ≤ x ∧ x < W) ∧ (0 ≤ y ∧ y < H)) : cellAtV W H C x y = y * W + x := if_pos h
theorem cellAtV_no {W H : Int} {C : ByteArray} {x y : Int} (h : ¬ (gok W H C = true ∧ (0 ≤ x ∧ x < W) ∧ (0 ≤ y ∧ y < H))) : cellAtV W H C x y = -1 := if_neg h

theorem l01In_no (x lo hi : Int) (h : ¬ (lo ≤ x ∧ x ≤ hi)) (w : World) :
    Calls Tryd.prog 57 #[.int .i64 x, .int .i64 lo, .int .i64 hi] w fun e w' => e = .returned (.bool false) ∧ w = w' := by
  by_cases h1 : lo ≤ x
  · have h2 : ¬ x ≤ hi := fun e => h ⟨h1, e⟩
    clear h
    go_enter Tryd.func57, Tryd.ntmps57
    go_wp2
    go_ret
    exact ⟨rfl, rfl⟩
  · clear h
    go_enter Tryd.func57, Tryd.ntmps57
    go_wp2
    go_ret
    exact ⟨rfl, rfl⟩

set_option maxHeartbeats 400000 in
theorem specCellAt_no (W H : Int) (C : ByteArray) (x y : Int) (hC : C.size ≤ 1048576) (h : ¬ (gok W H C = true ∧ (0 ≤ x ∧ x < W) ∧ (0 ≤ y ∧ y < H))) (w : World) :
    Calls Tryd.prog 73 #[.agg #[.int .i64 W, .int .i64 H, .string C], .int .i64 x, .int .i64 y] w (Made w (.int .i64 (-1))) := by
  have hB := Below.refl (w.alloc (.cells #[.int .i64 W, .int .i64 H, .string C] 25)).heap.size (w.alloc (.cells #[.int .i64 W, .int .i64 H, .string C] 25))
  by_cases hg : gok W H C = true
  · obtain ⟨⟨⟨h1, h2⟩, ⟨h3, h4⟩, hs⟩, _⟩ := gok_out hg
    clear hs
    have e1 : IntKind.i64.wrap (W - 1) = W - 1 := IntWalk.i64_in _ (by omega)
    have e2 : IntKind.i64.wrap (H - 1) = H - 1 := IntWalk.i64_in _ (by omega)
    by_cases hx : 0 ≤ x ∧ x ≤ W - 1
    · have hy : ¬ (0 ≤ y ∧ y ≤ H - 1) := fun hy => h ⟨hg, ⟨hx.1, by omega⟩, hy.1, by omega⟩
      clear h
      go_enter Tryd.func73, Tryd.ntmps73
      go_wp2_with (first
        | (go_at_call 41; (with_reducible refine (specGridOk W H C hC _).mono ?_); rintro e w1 ⟨rfl, hb⟩; replace hB := chain hB hb; obtain ⟨c0, c1, c2⟩ := box_cells hB; clear hb)
        | (go_at_call 57; (with_reducible refine (l01In_yes x 0 (W - 1) hx.1 hx.2 _).mono ?_); rintro e w' ⟨rfl, rfl⟩)
        | (go_at_call 57; (with_reducible refine (l01In_no y 0 (H - 1) hy _).mono ?_); rintro e w' ⟨rfl, rfl⟩))
      go_ret
      exact ⟨rfl, box_below hB⟩
    · clear h
      go_enter Tryd.func73, Tryd.ntmps73
      go_wp2_with (first
        | (go_at_call 41; (with_reducible refine (specGridOk W H C hC _).mono ?_); rintro e w1 ⟨rfl, hb⟩; replace hB := chain hB hb; obtain ⟨c0, c1, c2⟩ := box_cells hB; clear hb)
        | (go_at_call 57; (with_reducible refine (l01In_no x 0 (W - 1) hx _).mono ?_); rintro e w' ⟨rfl, rfl⟩))
      go_ret
      exact ⟨rfl, box_below hB⟩
  · have hg2 : gok W H C = false := by simpa using hg
    clear h hg
    go_enter Tryd.func73, Tryd.ntmps73
    go_wp2_with (go_at_call 41; (with_reducible refine (specGridOk W H C hC _).mono ?_); rintro e w1 ⟨rfl, hb⟩; replace hB := chain hB hb; obtain ⟨c0, c1, c2⟩ := box_cells hB; clear hb)
    go_ret
    exact ⟨rfl, box_below hB⟩

set_option maxHeartbeats 400000 in
theorem specCellAt_yes (W H : Int) (C : ByteArray) (x y z : Int) (hC : C.size ≤ 1048576) (hg : gok W H C = true) (hx : 0 ≤ x ∧ x ≤ W - 1) (hy : 0 ≤ y ∧ y ≤ H - 1) (HZ : Hid (y * W + x = z)) (w : World) :
    Calls Tryd.prog 73 #[.agg #[.int .i64 W, .int .i64 H, .string C], .int .i64 x, .int .i64 y] w (Made w (.int .i64 z)) := by
  have hB := Below.refl (w.alloc (.cells #[.int .i64 W, .int .i64 H, .string C] 25)).heap.size (w.alloc (.cells #[.int .i64 W, .int .i64 H, .string C] 25))
  obtain ⟨⟨⟨h1, h2⟩, ⟨h3, h4⟩, hs⟩, _⟩ := gok_out hg
  clear hs
  have e1 : IntKind.i64.wrap (W - 1) = W - 1 := IntWalk.i64_in _ (by omega)
  have e2 : IntKind.i64.wrap (H - 1) = H - 1 := IntWalk.i64_in _ (by omega)
  obtain ⟨p, hp⟩ : ∃ p, y * W = p := ⟨_, rfl⟩
  have hp1 : 0 ≤ p := by rw [← hp]; exact Int.mul_nonneg (by omega) (by omega)
  have hp2 : p ≤ 64 := by rw [← hp]; have := Int.mul_le_mul (show y ≤ 8 by omega) h2 (by omega) (by omega); omega
  have HZ2 : Hid (p + x = z) := Lib.hid (by rw [← hp]; exact HZ.out)
  clear HZ
  go_enter Tryd.func73, Tryd.ntmps73
  go_wp2_with (first
    | (go_at_call 41; (with_reducible refine (specGridOk W H C hC _).mono ?_); rintro e w1 ⟨rfl, hb⟩; replace hB := chain hB hb; obtain ⟨c0, c1, c2⟩ := box_cells hB; clear hb)
    | (go_at_call 57; (with_reducible refine (l01In_yes x 0 (W - 1) hx.1 hx.2 _).mono ?_); rintro e w' ⟨rfl, rfl⟩)
    | (go_at_call 57; (with_reducible refine (l01In_yes y 0 (H - 1) hy.1 hy.2 _).mono ?_); rintro e w' ⟨rfl, rfl⟩))
  go_ret
  exact ⟨ret_int HZ2.out, box_below hB⟩

theorem specCellAt (W H : Int) (C : ByteArray) (x y : Int) (hC : C.size ≤ 1048576) (w : World) :
    Calls Tryd.prog 73 #[.agg #[.int .i64 W, .int .i64 H, .string C], .int .i64 x, .int .i64 y] w (Made w (.int .i64 (cellAtV W H C x y))) := by
  by_cases h : gok W H C = true ∧ (0 ≤ x ∧ x < W) ∧ (0 ≤ y ∧ y < H)
  · exact specCellAt_yes W H C x y _ hC h.1 ⟨h.2.1.1, by omega⟩ ⟨h.2.2.1, by omega⟩ (Lib.hid (cellAtV_yes h).symm) w
  · rw [cellAtV_no h]
    exact specCellAt_no W H C x y hC h w

/-- The column and the row of a cell. -/
def Spot (p q : Int) (w : World) (e : Ending) (w' : World) : Prop := e = .returned (.tuple #[.int .i64 p, .int .i64 q]) ∧ Below w.heap.size w w'

theorem specSpot_no (W H : Int) (C : ByteArray) (c : Int) (hC : C.size ≤ 1048576) (h : ¬ cellOk W H C c = true) (w : World) :
    Calls Tryd.prog 72 #[.agg #[.int .i64 W, .int .i64 H, .string C], .int .i64 c] w (Spot (-1) (-1) w) := by
  rcases cellOk_no h with hg | ⟨hg, h1⟩ | ⟨hg, h1, h2⟩
  all_goals
    clear h
    have hB := Below.refl (w.alloc (.cells #[.int .i64 W, .int .i64 H, .string C] 25)).heap.size (w.alloc (.cells #[.int .i64 W, .int .i64 H, .string C] 25))
    go_enter Tryd.func72, Tryd.ntmps72
    go_wp2_with (go_at_call 41; (with_reducible refine (specGridOk W H C hC _).mono ?_); rintro e w1 ⟨rfl, hb⟩; replace hB := chain hB hb; obtain ⟨c0, c1, c2⟩ := box_cells hB; clear hb)
    go_ret2
    exact ⟨rfl, box_below hB⟩

set_option maxHeartbeats 400000 in
theorem specSpot_yes (a b : Nat) (C : ByteArray) (n q m : Nat) (hC : C.size ≤ 1048576) (hg : gok a b C = true) (hn : n < C.size) (ha : 1 ≤ a) (_hm : m < a) (hd : (n : Int).tdiv (a : Int) = (q : Int)) (he : (n : Int).tmod (a : Int) = (m : Int)) (hq : q < 8) (w : World) :
    Calls Tryd.prog 72 #[.agg #[.int .i64 a, .int .i64 b, .string C], .int .i64 n] w (Spot m q w) := by
  have hB := Below.refl (w.alloc (.cells #[.int .i64 a, .int .i64 b, .string C] 25)).heap.size (w.alloc (.cells #[.int .i64 a, .int .i64 b, .string C] 25))
  have hn3 : ¬ (C.size : Int) ≤ (n : Int) := by omega
  have HE := Lib.hid hd
  have HE2 := Lib.hid he
  have e3 : IntKind.i64.wrap (q : Int) = (q : Int) := IntWalk.i64_in _ (by omega)
  have HE3 := Lib.hid e3
  clear hd he e3
  go_enter Tryd.func72, Tryd.ntmps72
  go_wp2_with (go_at_call 41; (with_reducible refine (specGridOk a b C hC _).mono ?_); rintro e w1 ⟨rfl, hb⟩; replace hB := chain hB hb; obtain ⟨c0, c1, c2⟩ := box_cells hB; clear hb)
  have e1 := HE.out
  have e2 := HE2.out
  have e3 := HE3.out
  go_quiet (fail)
  clear e1 e2 e3
  go_wp2
  go_ret2
  exact ⟨rfl, box_below (below_drewN hB nq)⟩

/-- The column and the row that SpotOf returns. -/
noncomputable def spotX (W H : Int) (C : ByteArray) (c : Int) : Int := if cellOk W H C c = true then c.tmod W else -1
noncomputable def spotY (W H : Int) (C : ByteArray) (c : Int) : Int := if cellOk W H C c = true then c.tdiv W else -1
theorem spot_to {p q p' q' : Int} {w w' : World} {e : Ending} (h : Spot p q w e w') (hp : p = p') (hq : q = q') : Spot p' q' w e w' := by rw [← hp, ← hq]; exact h

theorem specSpotOf (W H : Int) (C : ByteArray) (c : Int) (hC : C.size ≤ 1048576) (w : World) :
    Calls Tryd.prog 72 #[.agg #[.int .i64 W, .int .i64 H, .string C], .int .i64 c] w (Spot (spotX W H C c) (spotY W H C c) w) := by
  by_cases h : cellOk W H C c = true
  · obtain ⟨hg, n, rfl, hn⟩ := cellOk_out h
    obtain ⟨a, b, q, m, rfl, rfl, ha1, _, hb, hq, hm, hd, he, _⟩ := spot_of hg hn
    refine (specSpot_yes a b C n q m hC hg hn ha1 hm hd he (by omega) w).mono fun e w' hh => spot_to hh ?_ ?_
    · unfold spotX; rw [if_pos h, he]
    · unfold spotY; rw [if_pos h, hd]
  · refine (specSpot_no W H C c hC h w).mono fun e w' hh => spot_to hh ?_ ?_
    · unfold spotX; rw [if_neg h]
    · unfold spotY; rw [if_neg h]

end Go.Proofs.YtieipekhckambaaDoor
