/-
  Plain lemmas: an argument that is a slice of ways, opened. No law is proved here.
-/
import Derived.Test.YtkndlpcpkfgneaaArgAny
import Derived.Test.YtkndlpcpkfgneaaWayRow
import Derived.Test.YtkndlpcpkfgneaaArgInts
namespace Go.Proofs.Ytkndlpcpkfgneaa
set_option maxRecDepth 4096
open Go.ChangeShapes Go.WideShapes Go.ChangeAt Go.RowKit Go.Deep Go.Joins

section
variable {H : Type} {enc : TypeId × Value → H}
theorem open_ints_cell {w : World} {n : Nat} {v : Value} {y : DataW H × List MemPlace} (h : DataW.trod enc Try.prog w 0 (fun _ => true) true n 34 [v] = some y) : ∃ L : List Int, ArgI w v L ∧ L.length ≤ maxLen := by
  rcases open_ints Try.underlying34 Try.underlying3 (by kernel_rfl) h with ⟨hcs, _⟩ | ⟨a, len, cap, zs, hcs, _, hl, hm, hz, _, hcell, _⟩
  · simp only [List.cons.injEq, and_true] at hcs
    subst hcs
    exact ⟨[], ⟨none, 0, rfl, .inl rfl⟩, Nat.zero_le _⟩
  · simp only [List.cons.injEq, and_true] at hcs
    subst hcs
    simp only [if_true] at hz
    have hbl : ∀ i, (a.add i).block = a.block := fun i => by unfold Addr.add; split <;> rfl
    refine ⟨zs.take len, ⟨some a, cap, by rw [List.length_take, Nat.min_eq_left (by omega)], ?_⟩, by rw [List.length_take]; omega⟩
    by_cases h0 : len = 0
    · left; rw [List.length_take]; omega
    · refine .inr ⟨a, rfl, ?_, fun j x hx => ?_⟩
      · have := block_lt_of_cell (hcell 0 (by omega))
        rwa [hbl] at this
      · rw [List.getElem?_take] at hx
        split at hx
        · rw [hcell j (by omega)]
          simp [List.getD, hx]
        · cases hx
theorem open_arg_ways {w : World} {r : Reach} {b0 : Nat} {v : Value} {d : DataW H} {ps : List MemPlace} (hv : Value.okWide Try.prog w r b0 22 v) (h : DataW.Trod enc Try.prog w 0 (fun _ => true) true 22 v d ps) :
    ∃ Ws, ArgW w v Ws ∧ (Ws.length ≤ maxLen ∧ ∀ L ∈ Ws, L.length ≤ maxLen) := by
  obtain ⟨a0, len0, cap0, rfl⟩ := okWide_slice Try.underlying22 hv
  obtain ⟨fuel, hf⟩ := h
  rcases open_slice_fields Try.underlying22 Try.underlying36 (by kernel_rfl) (by kernel_rfl) hf with hcs | ⟨a, len, cap, hcs, hl, hm, hfl⟩
  · simp [Value.cells] at hcs
    obtain ⟨rfl, rfl, rfl⟩ := hcs
    exact ⟨[], ⟨none, 0, rfl, .inl rfl⟩, Nat.zero_le _, fun L hL => by cases hL⟩
  · simp [Value.cells] at hcs
    obtain ⟨rfl, rfl, rfl⟩ := hcs
    obtain ⟨Ws, hA, hAt⟩ := list_of (Q := fun j (L : List Int) => (∃ u, w.cell? (a.add j) = some u ∧ ArgI w u L) ∧ L.length ≤ maxLen) len0 (fun i hi => by
      obtain ⟨v0, n0, y0, c0, t0⟩ := hfl i hi 0 _ rfl
      obtain ⟨L, h1, h2⟩ := open_ints_cell t0
      exact ⟨L, ⟨v0, by simpa using c0, h1⟩, h2⟩)
    refine ⟨Ws, ⟨some a, cap0, by rw [hA], ?_⟩, by omega, fun L hL => ?_⟩
    · by_cases h0 : Ws.length = 0
      · exact .inl h0
      · obtain ⟨x, hx⟩ : ∃ x, Ws[0]? = some x := ⟨_, List.getElem?_eq_getElem (by omega)⟩
        obtain ⟨⟨u, hu, _⟩, _⟩ := hAt 0 x hx
        have hb := block_lt_of_cell hu
        rw [blk_add] at hb
        exact .inr ⟨a, rfl, hb, fun i L hL => (hAt i L hL).1⟩
    · obtain ⟨i, hi, rfl⟩ := List.getElem_of_mem hL
      exact (hAt i _ (List.getElem?_eq_getElem hi)).2
end

end Go.Proofs.Ytkndlpcpkfgneaa
