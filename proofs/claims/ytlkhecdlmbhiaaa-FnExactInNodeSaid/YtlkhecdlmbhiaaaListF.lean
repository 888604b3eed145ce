/-
  CONTRACT of spec.FreeCells: the free cells, in ascending order. No law is proved here.
-/
import Derived.Test.YtlkhecdlmbhiaaaFreeS
import Derived.Test.YtlkhecdlmbhiaaaIntsBack
namespace Go.Proofs.Ytlkhecdlmbhiaaa
set_option maxRecDepth 4096
open Go.ChangeShapes Go.WideShapes Go.ChangeAt Go.RowKit

/-- The cells that are free. -/
noncomputable def freeP (W H : Int) (C : ByteArray) (n : Nat) : Bool := freeV W H C n
noncomputable def freeL (W H : Int) (C : ByteArray) : List Int := picks (freeP W H C) (min C.size 64)

set_option maxHeartbeats 1000000 in
theorem specFreeCells (W H : Int) (C : ByteArray) (L : List Int) (hC : C.size ≤ 1048576) (HL : Hid (freeL W H C = L)) (w : World) :
    Calls Try.prog 16 #[.agg #[.int .i64 W, .int .i64 H, .string C]] w (IntsBack w L) := by
  obtain ⟨i0, hi, hz0, hz1, hz2⟩ := info_parts Try.info3
  have hB := Below.refl (w.alloc (.cells #[.int .i64 W, .int .i64 H, .string C] 27)).heap.size (w.alloc (.cells #[.int .i64 W, .int .i64 H, .string C] 27))
  go_enter Try.func16, Try.ntmps16
  go_wp2
  go_loopw [3, 4] (fun v i wr => ∃ k : Nat, k ≤ C.size ∧ k ≤ 64 ∧ i = .int .i64 k ∧ wr.ownsRow (w.heap.size + 1) 3 1 v (picks (freeP W H C) k).length ((picks (freeP W H C) k).map (Value.int .i64)) ∧
    Below (w.alloc (.cells #[.int .i64 W, .int .i64 H, .string C] 27)).heap.size (w.alloc (.cells #[.int .i64 W, .int .i64 H, .string C] 27)) wr) (fun _ i _ => C.size - (intOf i).toNat)
  case atStart =>
    exact ⟨0, Nat.zero_le _, Nat.zero_le _, rfl, made_box _ _ _, hB.alloc (Nat.le_refl _) _⟩
  case round =>
    clear hB
    obtain ⟨k, hk, hk2, rfl, hown, hB⟩ := hrel
    obtain ⟨c0, c1, c2⟩ := box_cells hB
    by_cases hlt : k < C.size ∧ k < 64
    · obtain ⟨hlt1, hlt2⟩ := hlt
      have hl := picks_len (freeP W H C) k
      by_cases hf : freeV W H C k = true
      · have HP : Hid (picks (freeP W H C) (k + 1) = picks (freeP W H C) k ++ [(k : Int)]) := Lib.hid (picks_yes hf)
        go_wp2_with (first
          | (go_at_call 22; (with_reducible refine (specFreeAt W H C k hC _).mono ?_); rintro e w1 ⟨rfl, hb⟩; have hown1 := own_below hown hb (box_size hB); replace hB := chain hB hb; have hs1 := box_size hB; clear hb)
          | (at_builtin; refine wpList_append_own _ rfl _ _ 24 rfl (w.heap.size + 1) 3 i0 (.int .i64 0) 1 8 Try.underlying24 hi hz0 hz1 hz2 rfl (by decide) _ _ _ rfl (hown1.alloc _) ⟨w1.heap.size, 0, none⟩ 1 1 ([(k : Int)].map (Value.int .i64)) rfl rfl (int_new _ _ _) (ints_one _) (by unfold maxLen; omega) (by omega) (by simp; omega) ?_; intro v' w2 hown2 hgrow _; have hB2 := (hB.alloc hB.size _).grown hgrow (by simp; omega) (fun j hj => by simpa using (hown1.lt j hj).1); clear hgrow))
        go_roundw
        case rel => exact ⟨k + 1, by omega, by omega, by go_num, ints_push hown2 HP.out, hB2⟩
        case measure => simp [intOf]; omega
      · have hf2 : freeV W H C k = false := by simpa using hf
        have HP : Hid (picks (freeP W H C) (k + 1) = picks (freeP W H C) k) := Lib.hid (picks_no hf2)
        go_wp2_with (go_at_call 22; (with_reducible refine (specFreeAt W H C k hC _).mono ?_); rintro e w1 ⟨rfl, hb⟩; have hown1 := own_below hown hb (box_size hB); replace hB := chain hB hb; have hs1 := box_size hB; clear hb)
        go_roundw
        case rel => exact ⟨k + 1, by omega, by omega, by go_num, by rw [HP.out]; exact hown1, hB⟩
        case measure => simp [intOf]; omega
    · have HE : Hid (picks (freeP W H C) k = L) := Lib.hid (by rw [← HL.out]; unfold freeL; congr 1; omega)
      by_cases h1 : k < C.size
      · obtain rfl : k = 64 := by omega
        go_wp2
        go_ret
        exact ⟨_, rfl, by rw [← HE.out]; exact own_base hown (by omega), box_below hB⟩
      · obtain rfl : k = C.size := by omega
        go_wp2
        go_ret
        exact ⟨_, rfl, by rw [← HE.out]; exact own_base hown (by omega), box_below hB⟩

end Go.Proofs.Ytlkhecdlmbhiaaa
