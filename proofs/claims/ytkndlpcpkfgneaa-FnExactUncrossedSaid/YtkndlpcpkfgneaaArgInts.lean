/-
  Plain lemmas: an argument that is a slice of ints, opened, and read again after the call. No law is proved here.
-/
import Derived.Test.YtkndlpcpkfgneaaCopyInts
namespace Go.Proofs.Ytkndlpcpkfgneaa
set_option maxRecDepth 4096
open Go.ChangeShapes Go.WideShapes Go.ChangeAt Go.RowKit

section
variable {H : Type} {enc : TypeId × Value → H}

/-- The argument is read again as it was, whatever a call made behind it. -/
def AgainI (enc : TypeId × Value → H) (w : World) (v : Value) (d : DataW H) (ps : List MemPlace) : Prop :=
  ∀ (w1 : World), Below w.heap.size w w1 → ∀ sp : Nat → Bool, (∀ p ∈ ps, sp p.block = true) → DataW.Trod enc Try.prog w1 0 sp true 34 v d ps

theorem open_arg_ints {w : World} {r : Reach} {b0 : Nat} {v : Value} {d : DataW H} {ps : List MemPlace} (hv : Value.okWide Try.prog w r b0 34 v) (h : DataW.Trod enc Try.prog w 0 (fun _ => true) true 34 v d ps) :
    ∃ L, ArgI w v L ∧ L.length ≤ maxLen ∧ AgainI enc w v d ps := by
  obtain ⟨a0, len0, cap0, rfl⟩ := okWide_slice Try.underlying34 hv
  obtain ⟨fuel, hf⟩ := h
  rcases open_ints Try.underlying34 Try.underlying3 (by kernel_rfl) hf with ⟨hcs, hx⟩ | ⟨a, len, cap, zs, hcs, _, hl, hm, hz, hx, hcell, hwz⟩
  · simp [Value.cells] at hcs
    obtain ⟨rfl, rfl, rfl⟩ := hcs
    obtain ⟨rfl, rfl⟩ := Prod.mk.inj hx
    exact ⟨[], ⟨none, 0, rfl, .inl rfl⟩, Nat.zero_le _, fun w1 _ sp _ => shut_slice_nil Try.underlying34⟩
  · simp [Value.cells] at hcs
    obtain ⟨rfl, rfl, rfl⟩ := hcs
    obtain ⟨rfl, rfl⟩ := Prod.mk.inj hx
    simp only [if_true] at hz
    have hbl : ∀ i, (a.add i).block = a.block := fun i => by unfold Addr.add; split <;> rfl
    have hlt : ∀ i, i < zs.length → a.block < w.heap.size := fun i hi => by have := block_lt_of_cell (hcell i hi); rwa [hbl] at this
    refine ⟨zs.take len0, ⟨some a, cap0, by rw [List.length_take, Nat.min_eq_left (by omega)], ?_⟩, by rw [List.length_take]; omega, fun w1 hb sp hsp => ?_⟩
    · by_cases h0 : len0 = 0
      · left; rw [List.length_take]; omega
      · refine .inr ⟨a, rfl, hlt 0 (by omega), fun j x hx => ?_⟩
        rw [List.getElem?_take] at hx
        split at hx
        · rw [hcell j (by omega)]
          simp [List.getD, hx]
        · cases hx
    · by_cases hc0 : cap0 = 0
      · exact ⟨2, shut_ints 0 Try.underlying34 Try.underlying3 (by kernel_rfl) (Nat.zero_le _) hl hm (by split <;> omega) (fun i hi => by omega) hwz⟩
      · have hs : sp a.block = true := by
          have hin : MemPlace.cell a.block a.off ∈ MemPlace.row a zs.length := MemPlace.mem_row.2 ⟨0, by omega, rfl⟩
          exact hsp _ hin
        exact ⟨2, shut_ints 0 Try.underlying34 Try.underlying3 (by kernel_rfl) (Nat.zero_le _) hl hm (by rw [if_pos hs]; exact hz) (fun i hi => (hb.cell (p := a.add i) (by rw [hbl]; exact hlt i hi)).trans (hcell i hi)) hwz⟩
end

end Go.Proofs.Ytkndlpcpkfgneaa
