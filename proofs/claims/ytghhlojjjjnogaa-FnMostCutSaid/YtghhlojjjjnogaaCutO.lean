/-
  Cuts in memory. Plain facts; no statement is proved here.
-/
import Derived.Test.YtghhlojjjjnogaaCutV
import Derived.Test.YtghhlojjjjnogaaBoolsO
import Derived.Test.YtghhlojjjjnogaaNet
namespace Go.Proofs.Ytghhlojjjjnogaa
set_option maxRecDepth 4096
open Go.ChangeShapes Go.WideShapes Go.ChangeAt Go.RowKit

theorem bools_form {w : World} {v : Value} {o : Nat → Bool} {n : Nat} (h : Bools w v o n) : ∃ a c, v = .slice a n c := by
  obtain ⟨a, c, hv, _⟩ := h
  exact ⟨a, c, hv⟩
theorem bools_at {w : World} {a : Option Addr} {c : Nat} {o : Nat → Bool} {n : Nat} (h : Bools w (.slice a n c) o n) (hn : 0 < n) : ∃ g, a = some ⟨g, 0, none⟩ ∧ ∀ j, j < n → w.cell? ⟨g, j, none⟩ = some (.bool (o j)) := by
  obtain ⟨a', c', hv, hh⟩ := h
  injection hv with h1 _ _
  subst h1
  rcases hh with h0 | ⟨g, ha, _, hc⟩
  · omega
  · exact ⟨g, ha, hc⟩

theorem arc_natC {n k : Nat} {A : List ArcD} (hok : ∀ x ∈ A, arcOk (n : Int) x = true) (h : k < A.length) : ∃ (a b : Nat) (r c : Int), A[k]? = some ⟨a, b, r, c⟩ ∧ a < n ∧ b < n ∧ a ≠ b ∧ (0 ≤ r ∧ r ≤ 20) ∧ (0 ≤ c ∧ c ≤ 100) := by
  have hx : A[k]? = some A[k] := List.getElem?_eq_getElem h
  obtain ⟨⟨hf0, hf1⟩, ⟨ht0, ht1⟩, hne, hr, hc⟩ := arcOk_out (hok _ (List.mem_of_getElem? hx))
  refine ⟨A[k].f.toNat, A[k].t.toNat, A[k].r, A[k].c, ?_, by omega, by omega, by omega, hr, hc⟩
  rw [hx, Int.toNat_of_nonneg hf0, Int.toNat_of_nonneg ht0]
theorem cutAt_yes {S : Nat → Bool} {a b : Nat} {r c : Int} (h1 : S a = true) (h2 : S b = false) : cutAt S ⟨(a : Int), (b : Int), r, c⟩ = r := if_pos ⟨h1, h2⟩
theorem cutAt_no {S : Nat → Bool} {a b : Nat} {r c : Int} (h : ¬ (S a = true ∧ S b = false)) : cutAt S ⟨(a : Int), (b : Int), r, c⟩ = 0 := if_neg h

theorem stopped_flow {N : Int} {A : List ArcD} {F : List Int} {o : Nat → Bool} {m : Nat} (h : flowOkV N A F = false) : stoppedV N A F o m = false := by unfold stoppedV; rw [h]; rfl
theorem stopped_cut {N : Int} {A : List ArcD} {F : List Int} {o : Nat → Bool} {m : Nat} (h : cutOkV N A o m = false) : stoppedV N A F o m = false := by unfold stoppedV; rw [h]; simp
theorem stopped_eq {N : Int} {A : List ArcD} {F : List Int} {o : Nat → Bool} {m : Nat} (h1 : flowOkV N A F = true) (h2 : cutOkV N A o m = true) : stoppedV N A F o m = decide (flowSizeV N A F = cutRoomV N A o m) := by unfold stoppedV; rw [h1, h2]; rfl

theorem held_box {w w' w'' : World} {N : Int} {v : Value} {t : TypeId} (h : Below (w.alloc (.cells #[.int .i64 N, v] t)).heap.size (w.alloc (.cells #[.int .i64 N, v] t)) w') (hb : Below w'.heap.size w' w'') :
    w''.cell? ⟨w.heap.size, 0, none⟩ = some (.int .i64 N) ∧ w''.cell? ⟨w.heap.size, 1, none⟩ = some v ∧ Below (w.alloc (.cells #[.int .i64 N, v] t)).heap.size (w.alloc (.cells #[.int .i64 N, v] t)) w'' :=
  ⟨(net_cells (next_below h hb)).1, (net_cells (next_below h hb)).2, next_below h hb⟩

end Go.Proofs.Ytghhlojjjjnogaa
