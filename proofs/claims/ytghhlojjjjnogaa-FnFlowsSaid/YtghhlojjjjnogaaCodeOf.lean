/-
  A slice of bytes, byte by byte. Plain facts; no law is proved here.
-/
import Derived.Test.YtghhlojjjjnogaaArgBytes
import Derived.Test.YtghhlojjjjnogaaCurF
namespace Go.Proofs.Ytghhlojjjjnogaa
set_option maxRecDepth 4096
open Go.ChangeShapes Go.WideShapes Go.ChangeAt Go.RowKit

theorem code_of {w : World} {v : Value} {N g : Nat} (h : CodeB w v N g) : ∃ B, CodeF w v N B g := by
  obtain ⟨a, c, hv, hh⟩ := h
  rcases hh with h0 | ⟨b, ha, hg, hl, hc⟩
  · exact ⟨fun _ => 0, a, c, hv, .inl h0⟩
  · have hx : ∀ j, ∃ x : Int, j < N → (0 ≤ x ∧ x < 256) ∧ w.cell? (b.add j) = some (.int .u8 x) := fun j => by
      by_cases hj : j < N
      · obtain ⟨x, h1, h2, h3⟩ := hc j hj
        exact ⟨x, fun _ => ⟨⟨h1, h2⟩, h3⟩⟩
      · exact ⟨0, fun h => absurd h hj⟩
    exact ⟨fun j => (hx j).choose, a, c, hv, .inr ⟨b, ha, hg, hl, fun j hj => (hx j).choose_spec hj⟩⟩

end Go.Proofs.Ytghhlojjjjnogaa
