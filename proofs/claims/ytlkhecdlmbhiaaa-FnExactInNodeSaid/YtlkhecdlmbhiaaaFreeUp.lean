/-
  The free cells of a grid: which they are, and that they ascend; lists in strictly ascending order. Plain facts; no statement is proved here.
-/
import Derived.Test.YtlkhecdlmbhiaaaListF
import Derived.Test.YtlkhecdlmbhiaaaCellOk
namespace Go.Proofs.Ytlkhecdlmbhiaaa
set_option maxRecDepth 4096

/-- Two lists in strictly ascending order with the same members are equal. -/
theorem asc_same : ∀ {L M : List Nat}, L.Pairwise (· < ·) → M.Pairwise (· < ·) → (∀ x, x ∈ L ↔ x ∈ M) → L = M
  | [], [], _, _, _ => rfl
  | [], y :: M, _, _, h => absurd ((h y).2 (List.mem_cons_self ..)) (by simp)
  | x :: L, [], _, _, h => absurd ((h x).1 (List.mem_cons_self ..)) (by simp)
  | x :: L, y :: M, hL, hM, h => by
    obtain ⟨a1, a2⟩ := List.pairwise_cons.1 hL
    obtain ⟨b1, b2⟩ := List.pairwise_cons.1 hM
    have e : x = y := by
      rcases List.mem_cons.1 ((h x).1 (List.mem_cons_self ..)) with e | hx
      · exact e
      · rcases List.mem_cons.1 ((h y).2 (List.mem_cons_self ..)) with e | hy
        · exact e.symm
        · have := a1 y hy
          have := b1 x hx
          omega
    subst e
    rw [asc_same a2 b2 fun z => ?_]
    constructor
    · intro hz
      rcases List.mem_cons.1 ((h z).1 (List.mem_cons_of_mem _ hz)) with e | hz2
      · have := a1 z hz
        omega
      · exact hz2
    · intro hz
      rcases List.mem_cons.1 ((h z).2 (List.mem_cons_of_mem _ hz)) with e | hz2
      · have := b1 z hz
        omega
      · exact hz2
/-- In an ascending list as many lie below an element as its place says. -/
theorem asc_count {c : Int} : ∀ {L : List Int}, L.Pairwise (· < ·) → c ∈ L → L.countP (fun x => decide (x < c)) = L.idxOf c
  | [], _, h => by cases h
  | x :: L, hL, h => by
    obtain ⟨a1, a2⟩ := List.pairwise_cons.1 hL
    rw [List.countP_cons, List.idxOf_cons]
    by_cases e : x = c
    · subst e
      have h0 : L.countP (fun y => decide (y < x)) = 0 := by
        rw [List.countP_eq_zero]
        intro y hy
        have := a1 y hy
        simp only [decide_eq_true_eq]
        omega
      rw [h0]
      simp
    · have hc : c ∈ L := by
        rcases List.mem_cons.1 h with h | h
        · exact absurd h.symm e
        · exact h
      have hlt := a1 c hc
      rw [asc_count a2 hc]
      have e2 : (x == c) = false := by simp [e]
      simp [e2, hlt]

section
variable {W H : Int} {C : ByteArray}
theorem freeU_cell {c : Int} (h : freeV W H C c = true) : gok W H C = true ∧ ∃ n : Nat, c = n ∧ n < C.size := by
  unfold freeV at h
  simp only [Bool.and_eq_true] at h
  exact cellOk_out h.1
theorem freeU_mem {c : Int} (h : freeV W H C c = true) : c ∈ freeL W H C := by
  obtain ⟨hg, n, rfl, hn⟩ := freeU_cell h
  have h64 : C.size ≤ 64 := by
    obtain ⟨⟨⟨h1, h2⟩, ⟨h3, h4⟩, hs⟩, _⟩ := gok_out hg
    have := mul_bd h1 h2 h3 h4
    omega
  unfold freeL picks
  refine List.mem_map.2 ⟨n, List.mem_filter.2 ⟨List.mem_range.2 (by omega), h⟩, rfl⟩

theorem memU_free {c : Int} (h : c ∈ freeL W H C) : freeV W H C c = true := by
  obtain ⟨n, hn, rfl⟩ := List.mem_map.1 h
  exact (List.mem_filter.1 hn).2
/-- The free cells ascend. -/
theorem freeU_up : (freeL W H C).Pairwise (· < ·) := by
  unfold freeL picks
  rw [List.pairwise_map]
  exact (List.Pairwise.filter _ List.pairwise_lt_range).imp fun h => by omega
theorem free_has (c : Int) : (freeL W H C).contains c = freeV W H C c := by
  rw [Bool.eq_iff_iff, List.contains_iff_mem]
  exact ⟨memU_free, freeU_mem⟩
theorem free_le : (freeL W H C).Pairwise (· ≤ ·) := freeU_up.imp fun h => Int.le_of_lt h
end

end Go.Proofs.Ytlkhecdlmbhiaaa
