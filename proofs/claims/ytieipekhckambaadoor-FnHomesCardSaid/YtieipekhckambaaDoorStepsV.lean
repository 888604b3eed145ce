/-
  Plain facts: the distance of two cells, the steps to a cell, the way. No statement is proved here.
-/
import Derived.Test.YtieipekhckambaaDoorSpecSteps
namespace Go.Proofs.YtieipekhckambaaDoor
set_option maxRecDepth 4096
open Go.ChangeShapes Go.WideShapes Go.ChangeAt Go.RowKit

/-- The distance of two free cells, or -1. -/
noncomputable def stepsToV (W H : Int) (C : ByteArray) (a b : Int) : Int := if freeV W H C a = true ∧ freeV W H C b = true then runB (nbN W H C) C.size (srcN [a]) C.size b.toNat else -1

theorem free_in {W H : Int} {C : ByteArray} {c : Int} (h : freeV W H C c = true) : gok W H C = true ∧ ∃ n : Nat, c = n ∧ n < C.size := by
  unfold freeV at h
  simp only [Bool.and_eq_true] at h
  exact cellOk_out h.1
theorem ints_cell1 (w : World) (x : Int) (e : TypeId) : Ints (w.alloc (.cells #[.int .i64 x] e)) (.slice (some ⟨w.heap.size, 0, none⟩) 1 1) [x] :=
  .inr ⟨w.heap.size, 1, rfl, by simp, fun j y hy => by
    rw [cell_of_row _ _ j _ _ _ (heap_alloc_new w _)]
    match j, hy with
    | 0, hy => exact congrArg some (congrArg (Value.int .i64) (Option.some.inj hy))⟩

/-- The steps from each cell to b. -/
noncomputable def farF (W H : Int) (C : ByteArray) (b : Int) : Nat → Int := runB (nbN W H C) C.size (srcN [b]) C.size
/-- The first of the list that lies n steps from the end; x where there is none. -/
noncomputable def pickN (far : Nat → Int) (n : Nat) (L : List Int) (x : Int) : Int := (L.find? fun d => decide (far d.toNat = (n : Int))).getD x
noncomputable def wayAt (W H : Int) (C : ByteArray) (far : Nat → Int) : Nat → Int → List Int
  | 0, x => [x]
  | n + 1, x => x :: wayAt W H C far n (pickN far n (aroundL W H C x) x)
noncomputable def wayL (W H : Int) (C : ByteArray) (a b : Int) : List Int := if 0 ≤ stepsToV W H C a b then wayAt W H C (farF W H C b) (stepsToV W H C a b).toNat a else []

theorem own_one (w : World) (base : Nat) (hb : base ≤ w.heap.size) (x : Int) : (w.alloc (.cells #[.int .i64 x] 3)).ownsRow base 3 1 (.slice (some ⟨w.heap.size, 0, none⟩) 1 1) 1 [.int .i64 x] :=
  ⟨by simp, .inr ⟨w.heap.size, 1, #[.int .i64 x], rfl, hb, heap_alloc_new w _, Nat.le_refl _, by decide, rfl, by simp⟩⟩
theorem wayAt_len (W H : Int) (C : ByteArray) (far : Nat → Int) : ∀ (n : Nat) (x : Int), (wayAt W H C far n x).length = n + 1
  | 0, _ => rfl
  | n + 1, x => by rw [wayAt, List.length_cons, wayAt_len]

theorem far_le (W H : Int) (C : ByteArray) (b : Int) (c : Nat) : farF W H C b c ≤ (C.size : Int) := by
  unfold farF
  rcases run_least (nbN W H C) C.size (srcN [b]) C.size c with ⟨j, hj, hjk, _⟩ | ⟨hv, _⟩
  · rw [hj]; omega
  · rw [hv]; omega
theorem stepsTo_le (W H : Int) (C : ByteArray) (a b : Int) : stepsToV W H C a b ≤ (C.size : Int) := by
  unfold stepsToV
  split
  · exact far_le W H C a _
  · omega
theorem stepsTo_free {W H : Int} {C : ByteArray} {a b : Int} (h : 0 ≤ stepsToV W H C a b) : freeV W H C a = true ∧ freeV W H C b = true := by
  unfold stepsToV at h
  split at h
  · assumption
  · omega

end Go.Proofs.YtieipekhckambaaDoor
