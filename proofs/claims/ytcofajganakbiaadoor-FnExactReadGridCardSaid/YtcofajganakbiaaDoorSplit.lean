/-
  Plain facts on the lines of a text; no statement is proved here.
-/
import Derived.Lib.SplitLaws
import Derived.Lib.Join
namespace Go.Proofs.YtcofajganakbiaaDoor

/-- The lines of a text: cut at each newline. -/
def spl : List UInt8 → List (List UInt8)
  | [] => [[]]
  | c :: l => if c = 10 then [] :: spl l else match spl l with
    | [] => [[c]]
    | p :: r => (c :: p) :: r

theorem spl_ne (l : List UInt8) : spl l ≠ [] := by
  cases l with
  | nil => simp [spl]
  | cons c l =>
    unfold spl
    split
    · simp
    · split <;> simp

theorem index_nl_none {l : List UInt8} (h : ∀ c ∈ l, c ≠ 10) : Lib.index l [10] = -1 := by
  induction l with
  | nil => rfl
  | cons c l ih =>
    have h1 := h c (by simp)
    have h2 := ih (fun x hx => h x (by simp [hx]))
    unfold Lib.index
    rw [if_neg (by simp [List.isPrefixOf]; intro e; exact h1 e.symm), h2]
    rfl

theorem index_nl_at {p r : List UInt8} (h : ∀ c ∈ p, c ≠ 10) : Lib.index (p ++ 10 :: r) [10] = p.length := by
  induction p with
  | nil => simp [Lib.index, List.isPrefixOf]
  | cons c p ih =>
    have h1 := h c (by simp)
    have h2 := ih (fun x hx => h x (by simp [hx]))
    rw [List.cons_append]
    unfold Lib.index
    rw [if_neg (by simp [List.isPrefixOf]; intro e; exact h1 e.symm), h2, if_neg (by simp)]
    simp

theorem spl_none {l : List UInt8} (h : ∀ c ∈ l, c ≠ 10) : spl l = [l] := by
  induction l with
  | nil => rfl
  | cons c l ih =>
    have h1 := h c (by simp)
    unfold spl
    rw [if_neg h1, ih (fun x hx => h x (by simp [hx]))]
theorem spl_at {p r : List UInt8} (h : ∀ c ∈ p, c ≠ 10) : spl (p ++ 10 :: r) = p :: spl r := by
  induction p with
  | nil => simp [spl]
  | cons c p ih =>
    have h1 := h c (by simp)
    rw [List.cons_append, spl, if_neg h1, ih (fun x hx => h x (by simp [hx]))]

/-- Each text has no newline, or a first one. -/
theorem nl_cases (l : List UInt8) : (∀ c ∈ l, c ≠ 10) ∨ ∃ p r, l = p ++ 10 :: r ∧ ∀ c ∈ p, c ≠ 10 := by
  induction l with
  | nil => exact .inl (by simp)
  | cons c l ih =>
    by_cases hc : c = 10
    · subst hc; exact .inr ⟨[], l, rfl, by simp⟩
    · rcases ih with h | ⟨p, r, rfl, h⟩
      · refine .inl fun x hx => ?_
        rcases List.mem_cons.1 hx with rfl | h2
        · exact hc
        · exact h x h2
      · refine .inr ⟨c :: p, r, rfl, fun x hx => ?_⟩
        rcases List.mem_cons.1 hx with rfl | h2
        · exact hc
        · exact h x h2

theorem count_none {l : List UInt8} (h : ∀ c ∈ l, c ≠ 10) : Lib.count l [10] = 0 := Lib.count_miss (index_nl_none h)
theorem split_spl : ∀ (n : Nat) (l : List UInt8), l.length ≤ n → Lib.splitK [10] 0 (Lib.count l [10]) l = spl l := by
  intro n
  induction n with
  | zero =>
    intro l hl
    obtain rfl : l = [] := List.eq_nil_of_length_eq_zero (by omega)
    rw [count_none (by simp)]
    rfl
  | succ n ih =>
    intro l hl
    rcases nl_cases l with h | ⟨p, r, rfl, h⟩
    · rw [count_none h, spl_none h]
      rfl
    · have hi := index_nl_at (r := r) h
      have hd : (p ++ 10 :: r).drop (p.length + ([10] : List UInt8).length) = r := by simp
      rw [Lib.count_hit (by simp) hi, hd, Nat.add_comm 1, Lib.splitK, if_neg (by rw [hi]; simp), hi, Int.toNat_natCast, hd, spl_at h, ih r (by simp at hl; omega)]
      simp

theorem split_lines (s : ByteArray) : (Lib.splitB ⟨#[10]⟩ 0 (Lib.countB s ⟨#[10]⟩) s).map (·.data.toList) = spl s.data.toList := by
  rw [Lib.splitB_data]
  exact split_spl _ _ (Nat.le_refl _)

/-- The pieces hold no more than the text. -/
theorem spl_len (l : List UInt8) : (spl l).flatten.length ≤ l.length := by
  induction l with
  | nil => simp [spl]
  | cons c l ih =>
    unfold spl
    split
    · rw [List.flatten_cons, List.nil_append, List.length_cons]
      omega
    · split
      · rename_i h; exact absurd h (spl_ne l)
      · rename_i p r h
        rw [h, List.flatten_cons, List.length_append] at ih
        rw [List.flatten_cons, List.length_append, List.length_cons, List.length_cons]
        omega
theorem drop_len (L : List (List UInt8)) (k : Nat) : (L.drop k).flatten.length ≤ L.flatten.length := by
  have : L.flatten.length = (L.take k).flatten.length + (L.drop k).flatten.length := by
    rw [← List.length_append, ← List.flatten_append, List.take_append_drop]
  omega
theorem piece_len {L : List (List UInt8)} {x : List UInt8} (h : x ∈ L) : x.length ≤ L.flatten.length := by
  induction L with
  | nil => cases h
  | cons y L ih =>
    rcases List.mem_cons.1 h with rfl | h
    · rw [List.flatten_cons, List.length_append]
      omega
    · have := ih h
      rw [List.flatten_cons, List.length_append]
      omega

theorem spl_rows (rs : List (List UInt8)) (h : ∀ r ∈ rs, ∀ c ∈ r, c ≠ 10) : spl (rs.flatMap fun r => r ++ [10]) = rs ++ [[]] := by
  induction rs with
  | nil => rfl
  | cons r rs ih =>
    have h1 := h r (by simp)
    rw [List.flatMap_cons, List.append_assoc, List.singleton_append, spl_at h1, ih (fun x hx => h x (by simp [hx]))]
    rfl

end Go.Proofs.YtcofajganakbiaaDoor
