/-
  A list of Booleans in memory. No statement is proved here.
-/
import Derived.Test.YtghhlojjjjnogaaRowO
namespace Go.Proofs.Ytghhlojjjjnogaa
set_option maxRecDepth 4096
open Go.ChangeShapes Go.WideShapes Go.ChangeAt Go.RowKit

/-- A list of Booleans that lies in memory: nil or empty, or at the head of a block. -/
def Bools (w : World) (v : Value) (o : Nat → Bool) (n : Nat) : Prop :=
  ∃ a c, v = .slice a n c ∧ (n = 0 ∨ ∃ g, a = some ⟨g, 0, none⟩ ∧ g < w.heap.size ∧ ∀ j, j < n → w.cell? ⟨g, j, none⟩ = some (.bool (o j)))
theorem bools_of_own {w : World} {B : Nat} {e : TypeId} {v : Value} {n : Nat} {o : Nat → Bool} (h : w.ownsRow B e 1 v n (rowB o n)) : Bools w v o n := by
  rcases h.2 with ⟨rfl, h0⟩ | ⟨g, cap, cur, rfl, _, hh, _⟩
  · exact ⟨_, _, by rw [h0], .inl h0⟩
  · refine ⟨_, _, rfl, .inr ⟨g, rfl, (Array.getElem?_eq_some_iff.1 hh).1, fun j hj => ?_⟩⟩
    have := h.cells (g := g) rfl j (.bool (o j)) (rowB_at o hj)
    have hadd : (⟨g, 0, none⟩ : Addr).add j = ⟨g, j, none⟩ := by unfold Addr.add; split <;> simp_all
    rwa [hadd] at this
theorem bools_on {w w1 : World} {v : Value} {o : Nat → Bool} {n : Nat} (h : Bools w v o n) (hb : Below w.heap.size w w1) : Bools w1 v o n := by
  obtain ⟨a, c, hv, hh⟩ := h
  refine ⟨a, c, hv, ?_⟩
  rcases hh with h0 | ⟨g, ha, hg, hc⟩
  · exact .inl h0
  · exact .inr ⟨g, ha, Nat.lt_of_lt_of_le hg hb.size, fun j hj => (hb.cell (p := ⟨g, j, none⟩) hg).trans (hc j hj)⟩

end Go.Proofs.Ytghhlojjjjnogaa
