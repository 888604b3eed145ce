/-
  The numbers of a list in ascending order, each once: as the library's sort and compact leave them, and as two such lists are merged. Plain facts; no statement is proved here.
  Rows of numbers and of Booleans, in memory. Plain facts; no statement is proved here.
  What a law keeps while it calls on: its box, blocks that stay as they are, rows of memory that calls made. Plain facts; no law is proved here.
-/
import Derived.Test.YtkbfbifepaoojaaGreatDoorZPU00
import Derived.Lib.SlicesCompact
import Derived.Laws.OwnMore
namespace Go.Proofs.YtkbfbifepaoojaaGreatDoor
set_option maxRecDepth 4096
open Go.Lib

def onceL (L : List Int) : List Int := Lib.compact (L.mergeSort fun x y => decide (x ≤ y))
theorem up_same : ∀ {A B : List Int}, A.Pairwise (· < ·) → B.Pairwise (· < ·) → (∀ x, x ∈ A ↔ x ∈ B) → A = B
  | [], [], _, _, _ => rfl
  | [], b :: B, _, _, h => by have := (h b).2 (List.mem_cons_self ..); cases this
  | a :: A, [], _, _, h => by have := (h a).1 (List.mem_cons_self ..); cases this
  | a :: A, b :: B, hA, hB, h => by
    obtain ⟨a1, a2⟩ := List.pairwise_cons.1 hA
    obtain ⟨b1, b2⟩ := List.pairwise_cons.1 hB
    have e : a = b := by
      rcases List.mem_cons.1 ((h a).1 (List.mem_cons_self ..)) with e | e
      · exact e
      · rcases List.mem_cons.1 ((h b).2 (List.mem_cons_self ..)) with e2 | e2
        · exact e2.symm
        · have := b1 a e
          have := a1 b e2
          omega
    subst e
    congr 1
    refine up_same a2 b2 fun x => ?_
    have hx := h x
    simp only [List.mem_cons] at hx
    constructor
    · intro k
      rcases hx.1 (.inr k) with rfl | k2
      · have := a1 x k; omega
      · exact k2
    · intro k
      rcases hx.2 (.inr k) with rfl | k2
      · have := b1 x k; omega
      · exact k2
theorem comp_inv {d : Array Int} (hd : ∀ i j, i ≤ j → j < d.size → d[i]! ≤ d[j]!) : ∀ m, m ≤ d.size → (compactUpTo d m).Pairwise (· < ·) ∧ (∀ x, x ∈ compactUpTo d m ↔ ∃ j, j < m ∧ d[j]! = x)
  | 0, _ => by
    refine ⟨List.Pairwise.nil, fun x => Iff.intro (fun h => ?_) ?_⟩
    · unfold compactUpTo at h
      simp at h
    · rintro ⟨j, hj, _⟩
      omega
  | m + 1, hm => by
    obtain ⟨h1, h2⟩ := comp_inv hd m (by omega)
    rw [compactUpTo_succ]
    by_cases hk : keeps d m = true
    · rw [if_pos hk]
      constructor
      · refine List.pairwise_append.2 ⟨h1, List.pairwise_singleton _ _, fun x hx y hy => ?_⟩
        obtain rfl := List.mem_singleton.1 hy
        obtain ⟨j, hj, rfl⟩ := (h2 x).1 hx
        have hne : d[m]! ≠ d[m - 1]! := by
          unfold keeps at hk
          rcases of_decide_eq_true hk with h | h
          · omega
          · exact h
        have h3 := hd j (m - 1) (by omega) (by omega)
        have h4 := hd (m - 1) m (by omega) (by omega)
        omega
      · intro x
        rw [List.mem_append, h2, List.mem_singleton]
        constructor
        · rintro (⟨j, hj, e⟩ | e)
          · exact ⟨j, by omega, e⟩
          · exact ⟨m, by omega, e.symm⟩
        · rintro ⟨j, hj, e⟩
          by_cases hjm : j = m
          · subst hjm
            exact .inr e.symm
          · exact .inl ⟨j, by omega, e⟩
    · rw [if_neg hk, List.append_nil]
      refine ⟨h1, fun x => ?_⟩
      rw [h2]
      have hne : ¬ (m = 0 ∨ d[m]! ≠ d[m - 1]!) := fun h => hk (decide_eq_true h)
      have e0 : m ≠ 0 := fun h => hne (.inl h)
      have e1 : d[m]! = d[m - 1]! := Decidable.byContradiction fun h => hne (.inr h)
      constructor
      · rintro ⟨j, hj, e⟩
        exact ⟨j, by omega, e⟩
      · rintro ⟨j, hj, e⟩
        by_cases hjm : j = m
        · subst hjm
          exact ⟨j - 1, by omega, e1.symm.trans e⟩
        · exact ⟨j, by omega, e⟩
theorem once_both (L : List Int) : (onceL L).Pairwise (· < ·) ∧ ∀ x, x ∈ onceL L ↔ x ∈ L := by
  have hs : (L.mergeSort fun x y => decide (x ≤ y)).Pairwise fun x y => decide (x ≤ y) = true := List.pairwise_mergeSort (fun a b c h1 h2 => by simp at *; omega) (fun a b => by simp; omega) L
  have hm : ∀ x, x ∈ L.mergeSort (fun x y => decide (x ≤ y)) ↔ x ∈ L := fun x => List.mem_mergeSort
  unfold onceL Lib.compact
  generalize L.mergeSort (fun x y => decide (x ≤ y)) = M at *
  have hd : ∀ i j, i ≤ j → j < M.toArray.size → M.toArray[i]! ≤ M.toArray[j]! := fun i j hij hj => by
    have hj2 : j < M.length := by simpa using hj
    have hp := List.pairwise_iff_getElem.1 hs
    rw [getElem!_pos M.toArray i (by simp; omega), getElem!_pos M.toArray j hj]
    rcases Nat.lt_or_eq_of_le hij with h | h
    · simpa using hp i j (by omega) hj2 h
    · subst h
      exact Int.le_refl _
  obtain ⟨h1, h2⟩ := comp_inv hd M.length (by simp)
  refine ⟨h1, fun x => ?_⟩
  rw [h2, ← hm]
  constructor
  · rintro ⟨j, hj, rfl⟩
    rw [getElem!_pos M.toArray j (by simpa using hj)]
    simp
  · intro hx
    obtain ⟨j, hj, rfl⟩ := List.getElem_of_mem hx
    exact ⟨j, hj, by rw [getElem!_pos M.toArray j (by simpa using hj)]; simp⟩
theorem once_up (L : List Int) : (onceL L).Pairwise (· < ·) := (once_both L).1
theorem once_mem {L : List Int} {x : Int} : x ∈ onceL L ↔ x ∈ L := (once_both L).2 x
theorem once_is {L A : List Int} (h : A.Pairwise (· < ·)) (hm : ∀ x, x ∈ A ↔ x ∈ L) : A = onceL L := up_same h (once_up L) fun x => (hm x).trans once_mem.symm
theorem once_len (L : List Int) : (onceL L).length ≤ L.length := by
  unfold onceL Lib.compact compactUpTo
  rw [List.length_map]
  refine Nat.le_trans (List.length_filter_le _ _) ?_
  simp
theorem once_short {L : List Int} (h : L.length < 2) : onceL L = L := by
  refine (once_is ?_ fun x => Iff.rfl).symm
  match L, h with
  | [], _ => exact List.Pairwise.nil
  | [a], _ => exact List.pairwise_singleton _ _
  | _ :: _ :: _, h => exact absurd h (by simp)

/-- Two such lists, merged as far as i and k. -/
structure Mrg (A B : List Int) (i k : Nat) (out : List Int) : Prop where
  up : out.Pairwise (· < ·)
  mem : ∀ x, x ∈ out ↔ x ∈ A.take i ∨ x ∈ B.take k
  leA : ∀ y ∈ out, ∀ z ∈ A.drop i, y ≤ z
  leB : ∀ y ∈ out, ∀ z ∈ B.drop k, y ≤ z
/-- The next number. -/
def Pick (A B : List Int) (i k i' k' : Nat) (x : Int) : Prop :=
  (i' = i + 1 ∧ k' = k ∧ A[i]? = some x ∧ ∀ z ∈ B.drop k, x ≤ z) ∨ (i' = i ∧ k' = k + 1 ∧ B[k]? = some x ∧ ∀ z ∈ A.drop i, x ≤ z)
section
variable {A B out : List Int} {i k i' k' : Nat} {x : Int}
theorem mrg_start : Mrg A B 0 0 [] := ⟨List.Pairwise.nil, by simp, by simp, by simp⟩
theorem pick_A (hA : A[i]? = some x) (h : B.length ≤ k ∨ ∃ y, B[k]? = some y ∧ x ≤ y) (hB : B.Pairwise (· < ·)) : Pick A B i k (i + 1) k x := by
  refine .inl ⟨rfl, rfl, hA, fun z hz => ?_⟩
  rcases h with h | ⟨y, hy, hle⟩
  · rw [List.drop_of_length_le h] at hz
    cases hz
  · obtain ⟨hk, rfl⟩ := List.getElem?_eq_some_iff.1 hy
    rw [List.drop_eq_getElem_cons hk] at hz
    rcases List.mem_cons.1 hz with rfl | hz
    · exact hle
    · have h2 : (B.drop k).Pairwise (· < ·) := hB.sublist (List.drop_sublist k B)
      rw [List.drop_eq_getElem_cons hk] at h2
      have := (List.pairwise_cons.1 h2).1 z hz
      omega
theorem pick_B (hB : B[k]? = some x) (h : A.length ≤ i ∨ ∃ y, A[i]? = some y ∧ x ≤ y) (hA : A.Pairwise (· < ·)) : Pick A B i k i (k + 1) x := by
  refine .inr ⟨rfl, rfl, hB, fun z hz => ?_⟩
  rcases h with h | ⟨y, hy, hle⟩
  · rw [List.drop_of_length_le h] at hz
    cases hz
  · obtain ⟨hk, rfl⟩ := List.getElem?_eq_some_iff.1 hy
    rw [List.drop_eq_getElem_cons hk] at hz
    rcases List.mem_cons.1 hz with rfl | hz
    · exact hle
    · have h2 : (A.drop i).Pairwise (· < ·) := hA.sublist (List.drop_sublist i A)
      rw [List.drop_eq_getElem_cons hk] at h2
      have := (List.pairwise_cons.1 h2).1 z hz
      omega
theorem drop_up {L : List Int} (hL : L.Pairwise (· < ·)) (h : L[i]? = some x) : ∀ z ∈ L.drop (i + 1), x < z := by
  obtain ⟨hk, rfl⟩ := List.getElem?_eq_some_iff.1 h
  have h2 : (L.drop i).Pairwise (· < ·) := hL.sublist (List.drop_sublist i L)
  rw [List.drop_eq_getElem_cons hk] at h2
  exact (List.pairwise_cons.1 h2).1
theorem mem_take_one {L : List Int} (h : L[i]? = some x) (y : Int) : y ∈ L.take (i + 1) ↔ y ∈ L.take i ∨ y = x := by
  obtain ⟨hk, rfl⟩ := List.getElem?_eq_some_iff.1 h
  rw [List.take_succ_eq_append_getElem hk, List.mem_append, List.mem_singleton]
theorem drop_mem {L : List Int} (h : L[i]? = some x) : x ∈ L.drop i ∧ ∀ z ∈ L.drop (i + 1), z ∈ L.drop i := by
  obtain ⟨hk, rfl⟩ := List.getElem?_eq_some_iff.1 h
  rw [List.drop_eq_getElem_cons hk]
  exact ⟨List.mem_cons_self .., fun z hz => List.mem_cons_of_mem _ hz⟩
/-- All that is listed is at most the next number, which is at most all that is left. -/
theorem pick_le (h : Mrg A B i k out) (hp : Pick A B i k i' k' x) (hA : A.Pairwise (· < ·)) (hB : B.Pairwise (· < ·)) :
    (∀ y ∈ out, y ≤ x) ∧ (∀ z ∈ A.drop i', x ≤ z) ∧ (∀ z ∈ B.drop k', x ≤ z) ∧ (∀ z ∈ A.drop i', z ∈ A.drop i) ∧ (∀ z ∈ B.drop k', z ∈ B.drop k) ∧ (∀ y, (y ∈ A.take i' ∨ y ∈ B.take k') ↔ (y ∈ A.take i ∨ y ∈ B.take k) ∨ y = x) := by
  rcases hp with ⟨rfl, rfl, hx, hle⟩ | ⟨rfl, rfl, hx, hle⟩
  · obtain ⟨h1, h2⟩ := drop_mem hx
    refine ⟨fun y hy => h.leA y hy x h1, fun z hz => by have := drop_up hA hx z hz; omega, hle, h2, fun z hz => hz, fun y => ?_⟩
    rw [mem_take_one hx]
    constructor
    · rintro ((h | h) | h)
      · exact .inl (.inl h)
      · exact .inr h
      · exact .inl (.inr h)
    · rintro ((h | h) | h)
      · exact .inl (.inl h)
      · exact .inr h
      · exact .inl (.inr h)
  · obtain ⟨h1, h2⟩ := drop_mem hx
    refine ⟨fun y hy => h.leB y hy x h1, hle, fun z hz => by have := drop_up hB hx z hz; omega, fun z hz => hz, h2, fun y => ?_⟩
    rw [mem_take_one hx, or_assoc]
theorem mrg_new (h : Mrg A B i k out) (hp : Pick A B i k i' k' x) (hA : A.Pairwise (· < ·)) (hB : B.Pairwise (· < ·)) (hne : ∀ y, out[out.length - 1]? = some y → y ≠ x) : Mrg A B i' k' (out ++ [x]) := by
  obtain ⟨h1, h2, h3, h4, h5, h6⟩ := pick_le h hp hA hB
  have hlt : ∀ y ∈ out, y < x := fun y hy => by
    rcases List.eq_nil_or_concat out with e | ⟨pre, last, e⟩
    · rw [e] at hy
      cases hy
    · rw [List.concat_eq_append] at e
      have hx := hne last (by rw [e]; simp)
      have h7 := h1 last (by rw [e]; simp)
      have hup := h.up
      rw [e] at hup hy
      rcases List.mem_append.1 hy with hy | hy
      · have := (List.pairwise_append.1 hup).2.2 y hy last (List.mem_singleton_self _)
        omega
      · rw [List.mem_singleton.1 hy]
        omega
  refine ⟨List.pairwise_append.2 ⟨h.up, List.pairwise_singleton _ _, fun y hy z hz => by rw [List.mem_singleton.1 hz]; exact hlt y hy⟩, fun y => ?_, fun y hy z hz => ?_, fun y hy z hz => ?_⟩
  · rw [List.mem_append, List.mem_singleton, h.mem, h6]
  · rcases List.mem_append.1 hy with hy | hy
    · exact h.leA y hy z (h4 z hz)
    · rw [List.mem_singleton.1 hy]
      exact h2 z hz
  · rcases List.mem_append.1 hy with hy | hy
    · exact h.leB y hy z (h5 z hz)
    · rw [List.mem_singleton.1 hy]
      exact h3 z hz
theorem mrg_old (h : Mrg A B i k out) (hp : Pick A B i k i' k' x) (hA : A.Pairwise (· < ·)) (hB : B.Pairwise (· < ·)) (he : out[out.length - 1]? = some x) : Mrg A B i' k' out := by
  obtain ⟨h1, h2, h3, h4, h5, h6⟩ := pick_le h hp hA hB
  have hx : x ∈ out := List.mem_of_getElem? he
  refine ⟨h.up, fun y => ?_, fun y hy z hz => h.leA y hy z (h4 z hz), fun y hy z hz => h.leB y hy z (h5 z hz)⟩
  rw [h6, ← h.mem]
  constructor
  · exact .inl
  · rintro (k | rfl)
    · exact k
    · exact hx
theorem mrg_end {L : List Int} {n : Nat} (h : Mrg (onceL (L.take n)) (onceL (L.drop n)) i k out) (hi : (onceL (L.take n)).length ≤ i) (hk : (onceL (L.drop n)).length ≤ k) : out = onceL L := by
  refine once_is h.up fun x => ?_
  rw [h.mem, List.take_of_length_le hi, List.take_of_length_le hk, once_mem, once_mem, ← List.mem_append, List.take_append_drop]
theorem mrg_len (h : Mrg A B i k out) (hA : i ≤ A.length) (hB : k ≤ B.length) : out.length ≤ i + k := by
  have key : ∀ {X Y : List Int}, X.Nodup → (∀ x ∈ X, x ∈ Y) → X.length ≤ Y.length := fun {X} => by
    induction X with
    | nil => intro Y _ _; simp
    | cons a X ih =>
      intro Y hn hs
      obtain ⟨ha, hn⟩ := List.nodup_cons.1 hn
      have hb := hs a (List.mem_cons_self ..)
      have := ih (Y := Y.erase a) hn fun x hx => (List.mem_erase_of_ne (fun e => ha (by rw [← e]; exact hx))).2 (hs x (List.mem_cons_of_mem _ hx))
      rw [List.length_erase_of_mem hb] at this
      have : 0 < Y.length := List.length_pos_of_mem hb
      simp only [List.length_cons]
      omega
  have h1 := key (X := out) (Y := A.take i ++ B.take k) (h.up.imp fun h => by omega) fun x hx => List.mem_append.2 ((h.mem x).1 hx)
  rw [List.length_append, List.length_take, List.length_take] at h1
  omega
end

end Go.Proofs.YtkbfbifepaoojaaGreatDoor

namespace Go.Proofs.YtkbfbifepaoojaaGreatDoor
set_option maxRecDepth 4096
open Go.ChangeShapes Go.WideShapes Go.ChangeAt Go.RowKit

/-- A row of numbers. -/
def rowO (o : Nat → Int) (n : Nat) : List Int := (List.range n).map o
theorem rowO_len (o : Nat → Int) (n : Nat) : (rowO o n).length = n := by simp [rowO]
theorem rowO_succ (o : Nat → Int) (n : Nat) : rowO o (n + 1) = rowO o n ++ [o n] := by simp [rowO, List.range_succ]
theorem rowO_at (o : Nat → Int) {n c : Nat} (h : c < n) : (rowO o n)[c]? = some (o c) := by simp [rowO, h]

theorem ints_on {w w1 : World} {v : Value} {L : List Int} (h : Ints w v L) (hb : Below w.heap.size w w1) : Ints w1 v L := by
  rcases h with h | ⟨g, c, rfl, hg, hc⟩
  · exact .inl h
  · exact .inr ⟨g, c, rfl, Nat.lt_of_lt_of_le hg hb.size, fun j x hx => (hb.cell (p := ⟨g, j, none⟩) hg).trans (hc j x hx)⟩
theorem own_num {w : World} {B : Nat} {e : TypeId} {g n cap c : Nat} {o : Nat → Int} (h : w.ownsRow B e 1 (.slice (some ⟨g, 0, none⟩) n cap) n ((rowO o n).map (Value.int .i64))) (hc : c < n) : w.cell? ⟨g, c, none⟩ = some (.int .i64 (o c)) := by
  have := h.cells (g := g) rfl c (.int .i64 (o c)) (by rw [List.getElem?_map, rowO_at o hc]; rfl)
  have hadd : (⟨g, 0, none⟩ : Addr).add c = ⟨g, c, none⟩ := by unfold Addr.add; split <;> simp_all
  rwa [hadd] at this
theorem own_int {w : World} {B : Nat} {e : TypeId} {g n cap j : Nat} {L : List Int} {x : Int} (h : w.ownsRow B e 1 (.slice (some ⟨g, 0, none⟩) n cap) n (L.map (Value.int .i64))) (hx : L[j]? = some x) : w.cell? ⟨g, j, none⟩ = some (.int .i64 x) := by
  have := h.cells (g := g) rfl j (.int .i64 x) (by rw [List.getElem?_map, hx]; rfl)
  have hadd : (⟨g, 0, none⟩ : Addr).add j = ⟨g, j, none⟩ := by unfold Addr.add; split <;> simp_all
  rwa [hadd] at this
/-- A row of Booleans. -/
def rowB (o : Nat → Bool) (n : Nat) : List Value := (List.range n).map fun j => .bool (o j)
theorem rowB_len (o : Nat → Bool) (n : Nat) : (rowB o n).length = n := by simp [rowB]
theorem rowB_at (o : Nat → Bool) {n c : Nat} (h : c < n) : (rowB o n)[c]? = some (.bool (o c)) := by simp [rowB, h]
theorem rowB_eq {o o' : Nat → Bool} {n : Nat} (h : ∀ j, o j = o' j) : rowB o n = rowB o' n := by
  have : o = o' := funext h
  rw [this]
theorem rowB_none (n : Nat) : List.replicate n (Value.bool false) = rowB (fun _ => false) n := by
  unfold rowB
  rw [List.map_const', List.length_range]
theorem rowB_set {o o' : Nat → Bool} {n c : Nat} (h : ∀ j, o' j = (o j || decide (j = c))) : (rowB o n).set c (.bool true) = rowB o' n := by
  apply List.ext_getElem?
  intro j
  rw [List.getElem?_set]
  by_cases hj : j < n
  · rw [rowB_at _ hj, rowB_at _ hj, h]
    by_cases e : c = j
    · subst e
      rw [if_pos rfl, if_pos (by rw [rowB_len]; exact hj)]
      simp
    · rw [if_neg e]
      have : ¬ j = c := fun k => e k.symm
      simp [this]
  · have h1 : ∀ o : Nat → Bool, (rowB o n)[j]? = none := fun o => List.getElem?_eq_none_iff.2 (by rw [rowB_len]; omega)
    rw [h1, h1]
    split
    · rw [if_neg (by rw [rowB_len]; omega)]
    · rfl

theorem rowO_put {o o' : Nat → Int} {n c : Nat} {x : Int} (hx : o' c = x) (h : ∀ j, j ≠ c → o' j = o j) : ((rowO o n).map (Value.int .i64)).set c (.int .i64 x) = (rowO o' n).map (Value.int .i64) := by
  apply List.ext_getElem?
  intro j
  rw [List.getElem?_set, List.getElem?_map, List.getElem?_map]
  by_cases hj : j < n
  · rw [rowO_at _ hj, rowO_at _ hj]
    by_cases e : c = j
    · subst e
      rw [if_pos rfl, if_pos (by simpa [rowO_len] using hj), hx]
      rfl
    · rw [if_neg e, h j (fun k => e k.symm)]
  · have h1 : ∀ o : Nat → Int, (rowO o n)[j]? = none := fun o => List.getElem?_eq_none_iff.2 (by rw [rowO_len]; omega)
    rw [h1, h1]
    split
    · rw [if_neg (by simp [rowO_len]; omega)]; rfl
    · rfl
theorem rowO_const0 (x : Int) (n : Nat) : List.replicate n (Value.int .i64 x) = (rowO (fun _ => x) n).map (Value.int .i64) := by
  unfold rowO
  rw [List.map_const', List.length_range, List.map_replicate]
theorem rowO_same {o o' : Nat → Int} {n : Nat} (h : ∀ c, c < n → o c = o' c) : rowO o n = rowO o' n := List.map_congr_left fun c hc => h c (List.mem_range.1 hc)
theorem own_bool {w : World} {B : Nat} {e : TypeId} {g n cap c : Nat} {o : Nat → Bool} (h : w.ownsRow B e 1 (.slice (some ⟨g, 0, none⟩) n cap) n (rowB o n)) (hc : c < n) : w.cell? ⟨g, c, none⟩ = some (.bool (o c)) := by
  have := h.cells (g := g) rfl c (.bool (o c)) (rowB_at o hc)
  have hadd : (⟨g, 0, none⟩ : Addr).add c = ⟨g, c, none⟩ := by unfold Addr.add; split <;> simp_all
  rwa [hadd] at this

end Go.Proofs.YtkbfbifepaoojaaGreatDoor

namespace Go.Proofs.YtkbfbifepaoojaaGreatDoor
set_option maxRecDepth 4096
open Go.ChangeShapes Go.WideShapes Go.ChangeAt Go.RowKit

/-- A row that a call made: among the blocks from lo on, below hi. -/
structure RowD where
  lo : Nat
  hi : Nat
  t : TypeId
  sz : Nat
  v : Value
  n : Nat
  xs : List Value
structure RowD.At (r : RowD) (w : World) : Prop where
  own : w.ownsRow r.lo r.t r.sz r.v r.n r.xs
  lt : ∀ k, r.v.ownBlock = some k → k < r.hi
  le : r.hi ≤ w.heap.size

section
variable {r q : RowD} {w w' : World}
theorem RowD.At.on (h : r.At w) (hb : Below w.heap.size w w') : r.At w' := by
  refine ⟨?_, h.lt, Nat.le_trans h.le hb.size⟩
  refine h.own.kept (row := none) ⟨hb.os, hb.tape, hb.output, hb.size, fun i hi _ => hb.block i hi⟩ ?_
  cases hv : r.v.ownBlock with
  | none => exact .inl rfl
  | some j => exact .inr (by simp)
theorem RowD.At.drewN (h : r.At w) (m : Nat) : r.At (w.drewN m) := ⟨h.own, h.lt, h.le⟩
theorem RowD.At.grown (h : q.At w) (hr : r.At w) (ha : q.hi ≤ r.lo ∨ r.hi ≤ q.lo) (g : w.grownBy w' r.v.ownBlock) : q.At w' := by
  refine ⟨h.own.kept g ?_, h.lt, Nat.le_trans h.le g.size⟩
  cases hv : q.v.ownBlock with
  | none => exact .inl rfl
  | some j =>
    refine .inr (fun e => ?_)
    have h1 := h.lt j hv
    have h2 := (h.own.lt j hv).1
    have h3 := hr.lt j e.symm
    have h4 := (hr.own.lt j e.symm).1
    omega
/-- What a call handed back. -/
theorem row_new {t : TypeId} {sz : Nat} {v : Value} {n : Nat} {xs : List Value} (h : w'.ownsRow w.heap.size t sz v n xs) : RowD.At ⟨w.heap.size, w'.heap.size, t, sz, v, n, xs⟩ w' := ⟨h, fun k hk => (h.lt k hk).2, Nat.le_refl _⟩
end

/-- The law's state: its box o, the blocks K that stay, the rows L. -/
structure LSt (w : World) (o : Obj) (K : List (Nat × Obj)) (L : List RowD) (w' : World) : Prop where
  below : Below (w.alloc o).heap.size (w.alloc o) w'
  keep : ∀ p ∈ K, w'.heap[p.1]? = some p.2
  rows : ∀ r ∈ L, r.At w'

section
variable {w w' w'' : World} {o : Obj} {K : List (Nat × Obj)} {L : List RowD} {r : RowD}
theorem LSt.start (w : World) (o : Obj) : LSt w o [] [] (w.alloc o) := ⟨Below.refl _ _, fun p hp => (by cases hp), fun r hr => (by cases hr)⟩
theorem LSt.base (h : LSt w o K L w') : Below w.heap.size w w' := ((Below.refl _ _).alloc (Nat.le_refl _) _).trans (h.below.mono (by simp))
theorem LSt.on (h : LSt w o K L w') (hb : Below w'.heap.size w' w'') : LSt w o K L w'' :=
  ⟨h.below.trans (hb.mono h.below.size), fun p hp => (hb.block p.1 (Array.getElem?_eq_some_iff.1 (h.keep p hp)).1).trans (h.keep p hp), fun r hr => (h.rows r hr).on hb⟩
theorem LSt.drewN (h : LSt w o K L w') (m : Nat) : LSt w o K L (w'.drewN m) := ⟨below_drewN h.below m, h.keep, fun r hr => (h.rows r hr).drewN m⟩
theorem LSt.drew (h : LSt w o K L w') : LSt w o K L w'.drew := h.drewN 1
theorem LSt.few (h : LSt w o K L w') {K' : List (Nat × Obj)} {L' : List RowD} (hK : ∀ p ∈ K', p ∈ K) (hL : ∀ r ∈ L', r ∈ L) : LSt w o K' L' w' := ⟨h.below, fun p hp => h.keep p (hK p hp), fun r hr => h.rows r (hL r hr)⟩
/-- Another row comes first. -/
theorem LSt.front (h : LSt w o K L w') (i : Nat) (r : RowD) (hr : L[i]? = some r) : LSt w o K (r :: L.eraseIdx i) w' := h.few (fun p hp => hp) fun q hq => by
  rcases List.mem_cons.1 hq with rfl | hq
  · exact List.mem_of_getElem? hr
  · exact List.mem_of_mem_eraseIdx hq
theorem LSt.put (h : LSt w o K L w') (hr : r.At w') : LSt w o K (r :: L) w' := ⟨h.below, h.keep, fun q hq => by
  rcases List.mem_cons.1 hq with rfl | hq
  · exact hr
  · exact h.rows q hq⟩
/-- A call that hands back a row. -/
theorem LSt.call (h : LSt w o K L w') {t : TypeId} {sz : Nat} {v : Value} {n : Nat} {xs : List Value} (hr : w''.ownsRow w'.heap.size t sz v n xs) (hb : Below w'.heap.size w' w'') : LSt w o K (⟨w'.heap.size, w''.heap.size, t, sz, v, n, xs⟩ :: L) w'' := (h.on hb).put (row_new hr)
/-- A new block of the law's own. -/
theorem LSt.box (h : LSt w o K L w') (b : Obj) : LSt w o ((w'.heap.size, b) :: K) L (w'.alloc b) := by
  have h1 := h.on ((Below.refl w'.heap.size w').alloc (Nat.le_refl _) b)
  refine ⟨h1.below, fun p hp => ?_, h1.rows⟩
  rcases List.mem_cons.1 hp with rfl | hp
  · exact heap_alloc_new w' b
  · exact h1.keep p hp
/-- The first row is written anew. -/
theorem LSt.mark (h : LSt w o K (r :: L) w') {xs : List Value} (hn : w''.ownsRow r.lo r.t r.sz r.v r.n xs) (g : w'.grownBy w'' r.v.ownBlock) (hL : ∀ q ∈ L, q.hi ≤ r.lo ∨ r.hi ≤ q.lo) (hK : ∀ p ∈ K, p.1 < r.lo ∨ r.hi ≤ p.1) (hlo : (w.alloc o).heap.size ≤ r.lo) :
    LSt w o K ({ r with xs := xs } :: L) w'' := by
  have hr := h.rows r (List.mem_cons_self ..)
  refine ⟨h.below.grown g h.below.size (fun j hj => Nat.le_trans hlo (hr.own.lt j hj).1), fun p hp => ?_, fun q hq => ?_⟩
  · have h1 := h.keep p hp
    refine (g.block p.1 (Array.getElem?_eq_some_iff.1 h1).1 (fun e => ?_)).trans h1
    have h2 := hr.lt p.1 e.symm
    have h3 := (hr.own.lt p.1 e.symm).1
    have := hK p hp
    omega
  · rcases List.mem_cons.1 hq with rfl | hq
    · exact ⟨hn, hr.lt, Nat.le_trans hr.le g.size⟩
    · exact (h.rows q (List.mem_cons_of_mem _ hq)).grown hr (hL q hq) g
end

end Go.Proofs.YtkbfbifepaoojaaGreatDoor

