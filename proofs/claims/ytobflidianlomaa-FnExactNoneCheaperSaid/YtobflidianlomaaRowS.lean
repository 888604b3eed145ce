/-
  The steps away from a node, in memory: the arcs' boxes with their costs. No statement is proved here.
-/
import Derived.Test.YtobflidianlomaaResN
import Derived.Test.YtobflidianlomaaDijM
namespace Go.Proofs.Ytobflidianlomaa
set_option maxRecDepth 4096
open Go.ChangeShapes Go.WideShapes Go.ChangeAt Go.RowKit

theorem rowS_box_len : ∀ {A : List ArcD} {F : List Int} {X : List (Nat × Nat)}, F.length = A.length → X.length = A.length → ∀ v, (bsL (A.zip X) v).length = (rowS (A.zip F) v).length
  | [], _, _, _, _, _ => by simp [bsL, rowS]
  | x :: A, y :: F, z :: X, hF, hX, v => by
    have ih := rowS_box_len (A := A) (F := F) (X := X) (by simpa using hF) (by simpa using hX) v
    unfold bsL rowS at ih ⊢
    simp only [List.zip_cons_cons, List.flatMap_cons, List.length_append, ih]
    have : (boxA (x, z) v).length = (awS (x, y) v).length := by
      unfold boxA awS
      split <;> split <;> simp_all
    omega
  | _ :: _, [], _, hF, _, _ => by simp at hF
  | _ :: _, _ :: _, [], _, hX, _ => by simp at hX
/-- The arc at a place of a node's slice. -/
theorem rowS_box_at : ∀ {A : List ArcD} {F : List Int} {X : List (Nat × Nat)}, F.length = A.length → X.length = A.length → ∀ {v j : Nat} {e : Nat × Int × Int} {b : Nat}, (rowS (A.zip F) v)[j]? = some e → (bsL (A.zip X) v)[j]? = some b →
    ∃ (i : Nat) (x : ArcD) (y : Int) (c d : Nat), A[i]? = some x ∧ F[i]? = some y ∧ X[i]? = some (c, d) ∧ ((b = c ∧ x.f = (v : Int) ∧ e = (x.t.toNat, x.r - y, x.c)) ∨ (b = d ∧ x.t = (v : Int) ∧ e = (x.f.toNat, y, -x.c)))
  | [], _, _, _, _, _, _, _, _, he, _ => by simp [rowS] at he
  | x :: A, y :: F, (c, d) :: X, hF, hX, v, j, e, b, he, hb => by
    have ih := fun j he hb => rowS_box_at (A := A) (F := F) (X := X) (by simpa using hF) (by simpa using hX) (v := v) (j := j) (e := e) (b := b) he hb
    unfold bsL at hb ih
    unfold rowS at he ih
    simp only [List.zip_cons_cons, List.flatMap_cons] at he hb
    have hl : (boxA (x, c, d) v).length = (awS (x, y) v).length := by
      unfold boxA awS
      split <;> split <;> simp_all
    rcases Nat.lt_or_ge j (awS (x, y) v).length with hj | hj
    · rw [List.getElem?_append_left hj] at he
      rw [List.getElem?_append_left (by omega)] at hb
      refine ⟨0, x, y, c, d, rfl, rfl, rfl, ?_⟩
      unfold boxA at hb
      unfold awS at he
      by_cases h1 : x.f = (v : Int)
      · rw [if_pos h1] at hb he
        cases j with
        | zero =>
          simp only [List.cons_append, List.nil_append, List.getElem?_cons_zero, Option.some.injEq] at he hb
          exact .inl ⟨hb.symm, h1, he.symm⟩
        | succ j =>
          by_cases h2 : x.t = (v : Int)
          · rw [if_pos h2] at hb he
            cases j with
            | zero =>
              simp only [List.cons_append, List.nil_append, List.getElem?_cons_succ, List.getElem?_cons_zero, Option.some.injEq] at he hb
              exact .inr ⟨hb.symm, h2, he.symm⟩
            | succ j => simp at he
          · rw [if_neg h2] at he
            simp at he
      · rw [if_neg h1] at hb he
        by_cases h2 : x.t = (v : Int)
        · rw [if_pos h2] at hb he
          cases j with
          | zero =>
            simp only [List.nil_append, List.getElem?_cons_zero, Option.some.injEq] at he hb
            exact .inr ⟨hb.symm, h2, he.symm⟩
          | succ j => simp at he
        · rw [if_neg h2] at he
          simp at he
    · rw [List.getElem?_append_right hj] at he
      rw [List.getElem?_append_right (by omega), hl] at hb
      obtain ⟨i, x', y', c', d', h1, h2, h3, h4⟩ := ih _ he hb
      exact ⟨i + 1, x', y', c', d', by simpa using h1, by simpa using h2, by simpa using h3, h4⟩
  | _ :: _, [], _, hF, _, _, _, _, _, _, _ => by simp at hF
  | _ :: _, _ :: _, [], _, hX, _, _, _, _, _, _ => by simp at hX

section
variable {B G n : Nat} {w w' : World} {A : List ArcD} {F : List Int} {S : Nat → Value} {X : List (Nat × Nat)}
theorem RN.at_row (h : RN B w G n A F S X) {v : Nat} (hv : v < n) : w.cell? ⟨G, v, none⟩ = some (S v) := by
  have := h.row.cells (g := G) rfl v (S v) (rowV_at S hv)
  have hadd : (⟨G, 0, none⟩ : Addr).add v = ⟨G, v, none⟩ := by unfold Addr.add; split <;> simp_all
  rwa [hadd] at this
/-- The step at a place of a node's slice: its block, its cells. -/
theorem RN.step3 (h : RN B w G n A F S X) (hF : F.length = A.length) (hok : ∀ x ∈ A, arcOk (n : Int) x = true) {u j t : Nat} {z k : Int} (he : (rowS (A.zip F) u)[j]? = some (t, z, k)) :
    ∃ (b c : Nat) (z' k' : Int), (bsL (A.zip X) u)[j]? = some b ∧ w.heap[b]? = some (boxR u z k (some ⟨c, 0, none⟩)) ∧ w.heap[c]? = some (boxR t z' k' (some ⟨b, 0, none⟩)) ∧ u ≠ t := by
  have hj := (List.getElem?_eq_some_iff.1 he).1
  have hlen := rowS_box_len hF h.len u
  obtain ⟨b, hb⟩ : ∃ b, (bsL (A.zip X) u)[j]? = some b := ⟨_, List.getElem?_eq_getElem (by omega)⟩
  obtain ⟨i, x, y, c, d, h1, h2, h3, h4⟩ := rowS_box_at hF h.len he hb
  obtain ⟨b1, b2⟩ := h.box.box i x y c d h1 h2 h3
  obtain ⟨⟨hf0, _⟩, ⟨ht0, _⟩, hne, _⟩ := arcOk_out (hok _ (List.mem_of_getElem? h1))
  rcases h4 with ⟨rfl, h5, h6⟩ | ⟨rfl, h5, h6⟩
  · injection h6 with h7 h8
    injection h8 with h8 h9
    refine ⟨b, d, y, -x.c, hb, ?_, ?_, fun e => hne (by omega)⟩
    · rw [← h5, h8, h9]; exact b1
    · rw [h7, Int.toNat_of_nonneg ht0]; exact b2
  · injection h6 with h7 h8
    injection h8 with h8 h9
    refine ⟨b, c, x.r - y, x.c, hb, ?_, ?_, fun e => hne (by omega)⟩
    · rw [← h5, h8, h9]; exact b2
    · rw [h7, Int.toNat_of_nonneg hf0]; exact b1
end

end Go.Proofs.Ytobflidianlomaa
