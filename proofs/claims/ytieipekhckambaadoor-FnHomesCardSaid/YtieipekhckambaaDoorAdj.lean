/-
  What lies beside what: symmetric, never a cell itself, each once. No law is proved here.
-/
import Derived.Test.YtieipekhckambaaDoorSpecAround
namespace Go.Proofs.YtieipekhckambaaDoor
set_option maxRecDepth 4096
open Go.ChangeShapes Go.WideShapes Go.ChangeAt Go.RowKit

theorem free_cell {W H : Int} {C : ByteArray} {c : Int} (h : freeV W H C c = true) : gok W H C = true ∧ ∃ n : Nat, c = n ∧ n < C.size := by
  unfold freeV at h
  simp only [Bool.and_eq_true] at h
  exact cellOk_out h.1

/-- A free cell lies where its column and row say. -/
theorem free_at {W H : Int} {C : ByteArray} {c : Int} (h : freeV W H C c = true) : cellAtV W H C (c.tmod W) (c.tdiv W) = c := by
  obtain ⟨hg, n, rfl, hn⟩ := free_cell h
  obtain ⟨a, b, q, m, rfl, rfl, ha1, _, _, hq, hm, hd, he, hnn⟩ := spot_of hg hn
  rw [hd, he, cellAtV_yes ⟨hg, ⟨by omega, by omega⟩, by omega, by omega⟩, ← Int.natCast_mul, ← Int.natCast_add, hnn]

/-- The column and the row of the cell in column x and row y. -/
theorem cell_spot {W H : Int} {C : ByteArray} {x y : Int} (h : freeV W H C (cellAtV W H C x y) = true) : (cellAtV W H C x y).tmod W = x ∧ (cellAtV W H C x y).tdiv W = y := by
  by_cases hr : gok W H C = true ∧ (0 ≤ x ∧ x < W) ∧ (0 ≤ y ∧ y < H)
  · rw [cellAtV_yes hr]
    obtain ⟨_, ⟨hx0, hx1⟩, hy0, hy1⟩ := hr
    have h0 : 0 ≤ y * W + x := Int.add_nonneg (Int.mul_nonneg hy0 (by omega)) hx0
    rw [Int.tmod_eq_emod_of_nonneg h0, Int.tdiv_eq_ediv_of_nonneg h0]
    refine ⟨?_, ?_⟩
    · rw [Int.add_comm, Int.add_mul_emod_self_right, Int.emod_eq_of_lt hx0 hx1]
    · rw [Int.add_comm, Int.add_mul_ediv_right _ _ (by omega), Int.ediv_eq_zero_of_lt hx0 hx1, Int.zero_add]
  · rw [cellAtV_no hr] at h
    unfold freeV cellOk at h
    simp at h

theorem mem_around {W H : Int} {C : ByteArray} {c d : Int} : d ∈ aroundL W H C c ↔ freeV W H C c = true ∧ freeV W H C d = true ∧
    (d = cellAtV W H C (c.tmod W) (c.tdiv W - 1) ∨ d = cellAtV W H C (c.tmod W - 1) (c.tdiv W) ∨ d = cellAtV W H C (c.tmod W + 1) (c.tdiv W) ∨ d = cellAtV W H C (c.tmod W) (c.tdiv W + 1)) := by
  unfold aroundL nbrs
  by_cases h : freeV W H C c = true
  · rw [if_pos h]
    simp only [List.mem_filter, List.mem_cons, List.not_mem_nil, or_false, h, true_and]
    exact And.comm
  · rw [if_neg h]
    simp [h]

theorem around_sym {W H : Int} {C : ByteArray} {c d : Int} (h : d ∈ aroundL W H C c) : c ∈ aroundL W H C d := by
  obtain ⟨hc, hd, hn⟩ := mem_around.1 h
  refine mem_around.2 ⟨hd, hc, ?_⟩
  have e := (free_at hc).symm
  rcases hn with rfl | rfl | rfl | rfl
  · obtain ⟨h1, h2⟩ := cell_spot hd
    exact .inr (.inr (.inr (by rw [h1, h2, Int.sub_add_cancel]; exact e)))
  · obtain ⟨h1, h2⟩ := cell_spot hd
    exact .inr (.inr (.inl (by rw [h1, h2, Int.sub_add_cancel]; exact e)))
  · obtain ⟨h1, h2⟩ := cell_spot hd
    exact .inr (.inl (by rw [h1, h2, Int.add_sub_cancel]; exact e))
  · obtain ⟨h1, h2⟩ := cell_spot hd
    exact .inl (by rw [h1, h2, Int.add_sub_cancel]; exact e)

theorem around_irr {W H : Int} {C : ByteArray} {c : Int} : c ∉ aroundL W H C c := by
  intro h
  obtain ⟨hc, _, hn⟩ := mem_around.1 h
  rcases hn with e | e | e | e
  all_goals
    have hf := hc
    rw [e] at hf
    obtain ⟨h1, h2⟩ := cell_spot hf
    rw [← e] at h1 h2
    omega

theorem around_nodup (W H : Int) (C : ByteArray) (c : Int) : (aroundL W H C c).Nodup := by
  unfold aroundL nbrs
  split
  · rw [List.Nodup, List.pairwise_filter]
    have key : ∀ x y x' y' : Int, (x ≠ x' ∨ y ≠ y') → freeV W H C (cellAtV W H C x y) = true → freeV W H C (cellAtV W H C x' y') = true → cellAtV W H C x y ≠ cellAtV W H C x' y' := by
      intro x y x' y' hne h1 h2 e
      obtain ⟨a1, a2⟩ := cell_spot h1
      obtain ⟨b1, b2⟩ := cell_spot h2
      rw [e] at a1 a2
      omega
    simp only [List.pairwise_cons, List.mem_cons, List.not_mem_nil, or_false, forall_eq_or_imp, forall_eq, List.Pairwise.nil, and_true, false_implies, implies_true]
    refine ⟨⟨key _ _ _ _ (by omega), key _ _ _ _ (by omega), key _ _ _ _ (by omega)⟩, ⟨key _ _ _ _ (by omega), key _ _ _ _ (by omega)⟩, key _ _ _ _ (by omega)⟩
  · exact List.Pairwise.nil

end Go.Proofs.YtieipekhckambaaDoor
