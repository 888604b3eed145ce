/-
  What can be asked for: cells that are free and in ascending order; the number of a cell's node. Plain facts; no statement is proved here.
-/
import Derived.Test.YtlkhecdlmbhiaaaListF
namespace Go.Proofs.Ytlkhecdlmbhiaaa
set_option maxRecDepth 4096

def rgB (x lo hi : Int) : Bool := decide (lo ≤ x) && decide (x ≤ hi)
theorem rgB_iff {x lo hi : Int} : rgB x lo hi = true ↔ lo ≤ x ∧ x ≤ hi := by unfold rgB; simp
section
variable {W H : Int} {C : ByteArray} {L : List Int}
/-- The first k are free and in ascending order. -/
def ascTo (W H : Int) (C : ByteArray) (L : List Int) (k : Nat) : Prop := ∀ (i : Nat) (x : Int), i < k → L[i]? = some x → freeV W H C x = true ∧ ∀ y, 0 < i → L[i - 1]? = some y → y < x
noncomputable def ascV (W H : Int) (C : ByteArray) (L : List Int) : Bool := @decide (ascTo W H C L L.length) (Classical.propDecidable _)
theorem asc_yes (h : ascTo W H C L L.length) : ascV W H C L = true := by unfold ascV; exact (@decide_eq_true_iff _ (Classical.propDecidable _)).2 h
theorem asc_iff : ascV W H C L = true ↔ ascTo W H C L L.length := by unfold ascV; exact @decide_eq_true_iff _ (Classical.propDecidable _)
theorem asc_no (h : ¬ ascTo W H C L L.length) : ascV W H C L = false := by
  cases e : ascV W H C L with
  | false => rfl
  | true => exact absurd (asc_iff.1 e) h
theorem asc_zero : ascTo W H C L 0 := fun i x h => by omega
theorem asc_bad {k : Nat} {x : Int} (hx : L[k]? = some x) (h : freeV W H C x = false ∨ ∃ y, 0 < k ∧ L[k - 1]? = some y ∧ x ≤ y) : ascV W H C L = false := by
  refine asc_no fun ha => ?_
  obtain ⟨h1, h2⟩ := ha k x (List.getElem?_eq_some_iff.1 hx).1 hx
  rcases h with h | ⟨y, h0, hy, hle⟩
  · rw [h1] at h
    cases h
  · have := h2 y h0 hy
    omega
theorem asc_more {k : Nat} {x : Int} (h : ascTo W H C L k) (hx : L[k]? = some x) (h1 : freeV W H C x = true) (h2 : ∀ y, 0 < k → L[k - 1]? = some y → y < x) : ascTo W H C L (k + 1) := fun i z hi hz => by
  by_cases e : i = k
  · subst e
    rw [hx] at hz
    cases hz
    exact ⟨h1, h2⟩
  · exact h i z (by omega) hz
/-- May it be asked? -/
noncomputable def askV (W H : Int) (C : ByteArray) (S G : List Int) (T : Int) : Bool :=
  gok W H C && (rgB S.length 1 10 && (decide (G.length ≤ S.length) && (rgB T 0 20 && (ascV W H C S && (ascV W H C G && decide (((freeL W H C).length : Int) * (T + 1) ≤ 240))))))
noncomputable def inNodeV (W H : Int) (C : ByteArray) (c t : Int) : Int := if freeV W H C c = true ∧ rgB t 0 20 = true then 3 + 2 * (t * ((freeL W H C).length : Int) + (((freeL W H C).idxOf c : Nat) : Int)) else -1
end

end Go.Proofs.Ytlkhecdlmbhiaaa
