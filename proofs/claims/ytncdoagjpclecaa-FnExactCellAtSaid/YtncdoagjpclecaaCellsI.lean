/-
  CONTRACTS of the program's CellAt and SpotOf. No law is proved here.
-/
import Derived.Test.YtncdoagjpclecaaSpecCell
import Derived.Test.YtncdoagjpclecaaGridOkI
namespace Go.Proofs.Ytncdoagjpclecaa
open Go.ChangeShapes Go.WideShapes Go.ChangeAt Go.RowKit

set_option maxHeartbeats 400000 in
theorem implCellAt_no (W H : Int) (C : ByteArray) (x y : Int) (hC : C.size ≤ 1048576) (h : ¬ (gok W H C = true ∧ (0 ≤ x ∧ x < W) ∧ (0 ≤ y ∧ y < H))) (w : World) :
    Calls Try.prog 8 #[.agg #[.int .i64 W, .int .i64 H, .string C], .int .i64 x, .int .i64 y] w (Made w (.int .i64 (-1))) := by
  have hB := Below.refl (w.alloc (.cells #[.int .i64 W, .int .i64 H, .string C] 26)).heap.size (w.alloc (.cells #[.int .i64 W, .int .i64 H, .string C] 26))
  have hcase : gok W H C = false ∨ (gok W H C = true ∧ x < 0) ∨ (gok W H C = true ∧ 0 ≤ x ∧ W ≤ x) ∨ (gok W H C = true ∧ 0 ≤ x ∧ x < W ∧ y < 0) ∨ (gok W H C = true ∧ 0 ≤ x ∧ x < W ∧ 0 ≤ y ∧ H ≤ y) := by
    cases hg : gok W H C with
    | false => exact .inl rfl
    | true =>
      have h2 : ¬ ((0 ≤ x ∧ x < W) ∧ (0 ≤ y ∧ y < H)) := fun e => h ⟨hg, e⟩
      simp only [true_and, false_or, Bool.true_eq_false]
      omega
  rcases hcase with hg | ⟨hg, h1⟩ | ⟨hg, h1, h2⟩ | ⟨hg, h1, h2, h3⟩ | ⟨hg, h1, h2, h3, h4⟩
  all_goals
    clear h
    go_enter Try.func8, Try.ntmps8
    go_wp2_with (go_at_call 13; (with_reducible refine (implGridOk W H C hC _).mono ?_); rintro e w1 ⟨rfl, hb⟩; replace hB := chain hB hb; obtain ⟨c0, c1, c2⟩ := box_cells hB; clear hb)
    go_ret
    exact ⟨rfl, box_below hB⟩

set_option maxHeartbeats 400000 in
theorem implCellAt_yes (W H : Int) (C : ByteArray) (x y z : Int) (hC : C.size ≤ 1048576) (hg : gok W H C = true) (hx0 : 0 ≤ x) (hx : x < W) (hy0 : 0 ≤ y) (hy : y < H) (HZ : Hid (y * W + x = z)) (w : World) :
    Calls Try.prog 8 #[.agg #[.int .i64 W, .int .i64 H, .string C], .int .i64 x, .int .i64 y] w (Made w (.int .i64 z)) := by
  have hB := Below.refl (w.alloc (.cells #[.int .i64 W, .int .i64 H, .string C] 26)).heap.size (w.alloc (.cells #[.int .i64 W, .int .i64 H, .string C] 26))
  obtain ⟨⟨⟨h1, h2⟩, ⟨h3, h4⟩, hs⟩, _⟩ := gok_out hg
  clear hs
  obtain ⟨p, hp⟩ : ∃ p, y * W = p := ⟨_, rfl⟩
  have hp1 : 0 ≤ p := by rw [← hp]; exact Int.mul_nonneg (by omega) (by omega)
  have hp2 : p ≤ 64 := by rw [← hp]; have := Int.mul_le_mul (show y ≤ 8 by omega) h2 (by omega) (by omega); omega
  have HZ2 : Hid (p + x = z) := Lib.hid (by rw [← hp]; exact HZ.out)
  clear HZ
  go_enter Try.func8, Try.ntmps8
  go_wp2_with (go_at_call 13; (with_reducible refine (implGridOk W H C hC _).mono ?_); rintro e w1 ⟨rfl, hb⟩; replace hB := chain hB hb; obtain ⟨c0, c1, c2⟩ := box_cells hB; clear hb)
  go_ret
  exact ⟨ret_int HZ2.out, box_below hB⟩

theorem implCellAt (W H : Int) (C : ByteArray) (x y : Int) (hC : C.size ≤ 1048576) (w : World) :
    Calls Try.prog 8 #[.agg #[.int .i64 W, .int .i64 H, .string C], .int .i64 x, .int .i64 y] w (Made w (.int .i64 (cellAtV W H C x y))) := by
  by_cases h : gok W H C = true ∧ (0 ≤ x ∧ x < W) ∧ (0 ≤ y ∧ y < H)
  · exact implCellAt_yes W H C x y _ hC h.1 h.2.1.1 h.2.1.2 h.2.2.1 h.2.2.2 (Lib.hid (cellAtV_yes h).symm) w
  · rw [cellAtV_no h]
    exact implCellAt_no W H C x y hC h w

end Go.Proofs.Ytncdoagjpclecaa
