/-
  Arguments that are slices of ints. No law is proved here.
-/
import Derived.Test.YtkndlpcpkfgneaaBase
import Derived.Test.YtkndlpcpkfgneaaIntsBack
import Derived.OwnWalk
namespace Go.Proofs.Ytkndlpcpkfgneaa
set_option maxRecDepth 4096
open Go.ChangeShapes Go.WideShapes Go.ChangeAt Go.RowKit

/-- An argument that is a slice of ints: nil or empty, or somewhere in a block. -/
def ArgI (w : World) (v : Value) (L : List Int) : Prop :=
  ∃ a c, v = .slice a L.length c ∧ (L.length = 0 ∨ ∃ b, a = some b ∧ b.block < w.heap.size ∧ ∀ (j : Nat) x, L[j]? = some x → w.cell? (b.add j) = some (.int .i64 x))
theorem argI_below {w w1 : World} {v : Value} {L : List Int} (h : ArgI w v L) (hb : Below w.heap.size w w1) : ArgI w1 v L := by
  obtain ⟨a, c, hv, hh⟩ := h
  refine ⟨a, c, hv, ?_⟩
  rcases hh with h0 | ⟨b, ha, hlt, hc⟩
  · exact .inl h0
  · refine .inr ⟨b, ha, Nat.lt_of_lt_of_le hlt hb.size, fun j x hx => ?_⟩
    have hbl : (b.add j).block = b.block := by unfold Addr.add; split <;> rfl
    rw [hb.cell (p := b.add j) (by rw [hbl]; exact hlt)]
    exact hc j x hx

theorem ints_set_at (L : List Int) (k : Nat) (x : Int) (xs : List Value) (hx : L[k]? = some x) (h : k < xs.length) :
    ((L.take k).map (Value.int .i64) ++ xs.drop k).set k (.int .i64 x) = (L.take (k + 1)).map (Value.int .i64) ++ xs.drop (k + 1) := by
  obtain ⟨hk, rfl⟩ := List.getElem?_eq_some_iff.1 hx
  have hl : (L.take k).length = k := by rw [List.length_take]; omega
  rw [List.set_append, if_neg (by rw [List.length_map, hl]; omega), List.length_map, hl, Nat.sub_self, List.drop_eq_getElem_cons h, List.set_cons_zero, List.take_succ_eq_append_getElem hk, List.map_append, List.append_assoc]
  rfl

end Go.Proofs.Ytkndlpcpkfgneaa
