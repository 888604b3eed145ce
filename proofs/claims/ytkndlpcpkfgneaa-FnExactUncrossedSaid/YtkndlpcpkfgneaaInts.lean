/-
  Slices of ints in memory; marks. Plain facts; no law is proved here.
-/
import Derived.Test.YtkndlpcpkfgneaaBase
import Derived.Deep.QuietTactic
import Derived.BigQuiet
import Derived.Deep.RegionWith
import Derived.Laws.OwnMore
namespace Go.Proofs.Ytkndlpcpkfgneaa
set_option maxRecDepth 4096
open Go.ChangeShapes Go.WideShapes Go.ChangeAt Go.RowKit

/-- A list of ints that lies in memory: nil or empty, or at the head of a block. -/
def Ints (w : World) (v : Value) (L : List Int) : Prop :=
  (L = [] ∧ ∃ a c, v = .slice a 0 c) ∨ ∃ g c, v = .slice (some ⟨g, 0, none⟩) L.length c ∧ g < w.heap.size ∧ ∀ (j : Nat) x, L[j]? = some x → w.cell? ⟨g, j, none⟩ = some (.int .i64 x)

theorem ints_of_own {w : World} {B : Nat} {e : TypeId} {v : Value} {L : List Int} (h : w.ownsRow B e 1 v L.length (L.map (Value.int .i64))) : Ints w v L := by
  rcases h.2 with ⟨rfl, h0⟩ | ⟨g, cap, cur, rfl, _, hh, _⟩
  · exact .inl ⟨List.eq_nil_of_length_eq_zero h0, _, _, rfl⟩
  · refine .inr ⟨g, cap, rfl, (Array.getElem?_eq_some_iff.1 hh).1, fun j x hx => ?_⟩
    have := h.cells (g := g) rfl j (.int .i64 x) (by rw [List.getElem?_map, hx]; rfl)
    have hadd : (⟨g, 0, none⟩ : Addr).add j = ⟨g, j, none⟩ := by unfold Addr.add; split <;> simp_all
    rwa [hadd] at this

theorem ints_form {w : World} {v : Value} {L : List Int} (h : Ints w v L) : ∃ a c, v = .slice a L.length c ∧ (L.length = 0 ∨ ∃ g, a = some ⟨g, 0, none⟩ ∧ g < w.heap.size ∧ ∀ (j : Nat) x, L[j]? = some x → w.cell? ⟨g, j, none⟩ = some (.int .i64 x)) := by
  rcases h with ⟨rfl, a, c, rfl⟩ | ⟨g, c, rfl, hg, hc⟩
  · exact ⟨a, c, rfl, .inl rfl⟩
  · exact ⟨_, c, rfl, .inr ⟨g, rfl, hg, hc⟩⟩

/-- A call has only read, and has returned v. -/
def Quiet (w : World) (v : Value) (e : Ending) (w' : World) : Prop := e = .returned v ∧ ∃ n, w' = w.drewN n

/-- The ints that the marks from k on are. -/
def nums (k n : Nat) : List Int := (List.range n).map fun j => ((k + j : Nat) : Int)
theorem length_nums (k n : Nat) : (nums k n).length = n := by simp [nums]
theorem nums_at {k n j : Nat} (h : j < n) : (nums k n)[j]? = some ((k + j : Nat) : Int) := by simp [nums, h]

theorem nums_succ (k j : Nat) : nums k (j + 1) = nums k j ++ [((k + j : Nat) : Int)] := by simp [nums, List.range_succ]
theorem nums_set (k j : Nat) (xs : List Value) (h : j < xs.length) :
    ((nums k j).map (Value.int .i64) ++ xs.drop j).set j (.int .i64 ((k + j : Nat) : Int)) = (nums k (j + 1)).map (Value.int .i64) ++ xs.drop (j + 1) := by
  rw [List.set_append, if_neg (by simp [length_nums]), List.length_map, length_nums, Nat.sub_self, List.drop_eq_getElem_cons h, List.set_cons_zero, nums_succ]
  simp

/-- markIntS has written its marks, and nothing else that was there. -/
def MarkedI (w : World) (B : Nat) (T : TypeId) (v : Value) (k n : Nat) (e : Ending) (w' : World) : Prop :=
  e = .returned (.int .i64 ((k + n : Nat) : Int)) ∧ w'.ownsRow B T 1 v n ((nums k n).map (Value.int .i64)) ∧ w.grownBy w' v.ownBlock

end Go.Proofs.Ytkndlpcpkfgneaa
