/-
  What lies beside what: symmetric, never a cell itself, each once. No law is proved here.
  The pairs counted from their smaller cell are half of all neighbours. No law is proved here.
  What can be asked for: cells that are free and in ascending order; the number of a cell's node. Plain facts; no statement is proved here.
  A grid's map in time: its free cells numbered, what lies around each, the pairs counted; the networks of an ask that may be made are right ones. Plain facts; no statement is proved here.
  The ways that WaysOf hands back, cell by cell. Plain facts; no statement is proved here.
-/
import Derived.Test.YtnbbhdbcapfbkaaDoorZFF11
import Derived.Test.YtnbbhdbcapfbkaaDoorZFF06
import Derived.Test.YtnbbhdbcapfbkaaDoorZFF08
namespace Go.Proofs.YtnbbhdbcapfbkaaDoor
set_option maxRecDepth 4096
open Go.ChangeShapes Go.WideShapes Go.ChangeAt Go.RowKit

theorem free_cell {W H : Int} {C : ByteArray} {c : Int} (h : freeV W H C c = true) : gok W H C = true ∧ ∃ n : Nat, c = n ∧ n < C.size := by
  unfold freeV at h
  simp only [Bool.and_eq_true] at h
  exact cellOk_out h.1

/-- A free cell lies where its column and row say. -/
theorem free_at {W H : Int} {C : ByteArray} {c : Int} (h : freeV W H C c = true) : cellAtV W H C (c.tmod W) (c.tdiv W) = c := by
  obtain ⟨hg, n, rfl, hn⟩ := free_cell h
  obtain ⟨a, b, q, m, rfl, rfl, ha1, _, _, hq, hm, hd, he, hnn⟩ := spot_of hg hn
  rw [hd, he, cellAtV_yes ⟨hg, ⟨by omega, by omega⟩, by omega, by omega⟩, ← Int.natCast_mul, ← Int.natCast_add, hnn]

/-- The column and the row of the cell in column x and row y. -/
theorem cell_spot {W H : Int} {C : ByteArray} {x y : Int} (h : freeV W H C (cellAtV W H C x y) = true) : (cellAtV W H C x y).tmod W = x ∧ (cellAtV W H C x y).tdiv W = y := by
  by_cases hr : gok W H C = true ∧ (0 ≤ x ∧ x < W) ∧ (0 ≤ y ∧ y < H)
  · rw [cellAtV_yes hr]
    obtain ⟨_, ⟨hx0, hx1⟩, hy0, hy1⟩ := hr
    have h0 : 0 ≤ y * W + x := Int.add_nonneg (Int.mul_nonneg hy0 (by omega)) hx0
    rw [Int.tmod_eq_emod_of_nonneg h0, Int.tdiv_eq_ediv_of_nonneg h0]
    refine ⟨?_, ?_⟩
    · rw [Int.add_comm, Int.add_mul_emod_self_right, Int.emod_eq_of_lt hx0 hx1]
    · rw [Int.add_comm, Int.add_mul_ediv_right _ _ (by omega), Int.ediv_eq_zero_of_lt hx0 hx1, Int.zero_add]
  · rw [cellAtV_no hr] at h
    unfold freeV cellOk at h
    simp at h

theorem mem_around {W H : Int} {C : ByteArray} {c d : Int} : d ∈ aroundL W H C c ↔ freeV W H C c = true ∧ freeV W H C d = true ∧
    (d = cellAtV W H C (c.tmod W) (c.tdiv W - 1) ∨ d = cellAtV W H C (c.tmod W - 1) (c.tdiv W) ∨ d = cellAtV W H C (c.tmod W + 1) (c.tdiv W) ∨ d = cellAtV W H C (c.tmod W) (c.tdiv W + 1)) := by
  unfold aroundL nbrs
  by_cases h : freeV W H C c = true
  · rw [if_pos h]
    simp only [List.mem_filter, List.mem_cons, List.not_mem_nil, or_false, h, true_and]
    exact And.comm
  · rw [if_neg h]
    simp [h]

theorem around_sym {W H : Int} {C : ByteArray} {c d : Int} (h : d ∈ aroundL W H C c) : c ∈ aroundL W H C d := by
  obtain ⟨hc, hd, hn⟩ := mem_around.1 h
  refine mem_around.2 ⟨hd, hc, ?_⟩
  have e := (free_at hc).symm
  rcases hn with rfl | rfl | rfl | rfl
  · obtain ⟨h1, h2⟩ := cell_spot hd
    exact .inr (.inr (.inr (by rw [h1, h2, Int.sub_add_cancel]; exact e)))
  · obtain ⟨h1, h2⟩ := cell_spot hd
    exact .inr (.inr (.inl (by rw [h1, h2, Int.sub_add_cancel]; exact e)))
  · obtain ⟨h1, h2⟩ := cell_spot hd
    exact .inr (.inl (by rw [h1, h2, Int.add_sub_cancel]; exact e))
  · obtain ⟨h1, h2⟩ := cell_spot hd
    exact .inl (by rw [h1, h2, Int.add_sub_cancel]; exact e)

theorem around_irr {W H : Int} {C : ByteArray} {c : Int} : c ∉ aroundL W H C c := by
  intro h
  obtain ⟨hc, _, hn⟩ := mem_around.1 h
  rcases hn with e | e | e | e
  all_goals
    have hf := hc
    rw [e] at hf
    obtain ⟨h1, h2⟩ := cell_spot hf
    rw [← e] at h1 h2
    omega

theorem around_nodup (W H : Int) (C : ByteArray) (c : Int) : (aroundL W H C c).Nodup := by
  unfold aroundL nbrs
  split
  · rw [List.Nodup, List.pairwise_filter]
    have key : ∀ x y x' y' : Int, (x ≠ x' ∨ y ≠ y') → freeV W H C (cellAtV W H C x y) = true → freeV W H C (cellAtV W H C x' y') = true → cellAtV W H C x y ≠ cellAtV W H C x' y' := by
      intro x y x' y' hne h1 h2 e
      obtain ⟨a1, a2⟩ := cell_spot h1
      obtain ⟨b1, b2⟩ := cell_spot h2
      rw [e] at a1 a2
      omega
    simp only [List.pairwise_cons, List.mem_cons, List.not_mem_nil, or_false, forall_eq_or_imp, forall_eq, List.Pairwise.nil, and_true, false_implies, implies_true]
    refine ⟨⟨key _ _ _ _ (by omega), key _ _ _ _ (by omega), key _ _ _ _ (by omega)⟩, ⟨key _ _ _ _ (by omega), key _ _ _ _ (by omega)⟩, key _ _ _ _ (by omega)⟩
  · exact List.Pairwise.nil

end Go.Proofs.YtnbbhdbcapfbkaaDoor

namespace Go.Proofs.YtnbbhdbcapfbkaaDoor
set_option maxRecDepth 4096
open Go.ChangeShapes Go.WideShapes Go.ChangeAt Go.RowKit

/-! ### Counting -/
theorem len_count {X F : List Int} (hX : X.Nodup) (hF : F.Nodup) (hs : ∀ d ∈ X, d ∈ F) : X.length = F.countP (fun d => decide (d ∈ X)) := by
  rw [List.countP_eq_length_filter]
  refine List.Perm.length_eq ((List.perm_ext_iff_of_nodup hX (List.Pairwise.filter _ hF)).2 fun d => ?_)
  simp only [List.mem_filter, decide_eq_true_eq]
  exact ⟨fun h => ⟨hs d h, h⟩, fun h => h.2⟩

theorem sum_congr {α : Type} {F : List α} {f g : α → Nat} (h : ∀ c ∈ F, f c = g c) : (F.map f).sum = (F.map g).sum := by
  rw [List.map_congr_left h]
theorem sum_add {α : Type} (F : List α) (f g : α → Nat) : (F.map fun c => f c + g c).sum = (F.map f).sum + (F.map g).sum := by
  induction F with
  | nil => rfl
  | cons c F ih => simp only [List.map_cons, List.sum_cons, ih]; omega
theorem sum_zero {α : Type} (F : List α) : (F.map fun _ => 0).sum = 0 := by
  induction F with
  | nil => rfl
  | cons c F ih => simp only [List.map_cons, List.sum_cons, ih]
theorem count_sum {α : Type} (F : List α) (p : α → Bool) : F.countP p = (F.map fun c => if p c = true then 1 else 0).sum := by
  induction F with
  | nil => rfl
  | cons c F ih => simp only [List.countP_cons, List.map_cons, List.sum_cons, ih]; omega
theorem sum_swap {α : Type} (G : List α) (R : α → α → Bool) : ∀ F : List α, (F.map fun c => G.countP (R c)).sum = (G.map fun d => F.countP fun c => R c d).sum := by
  intro F
  induction F with
  | nil => simp only [List.map_nil, List.sum_nil, List.countP_nil]; exact (sum_zero G).symm
  | cons c F ih =>
    rw [List.map_cons, List.sum_cons, ih, count_sum, ← sum_add]
    refine sum_congr fun d _ => ?_
    rw [List.countP_cons]
    omega

theorem count_pairs {F : List Int} {A : Int → List Int} (hF : F.Nodup) (hA : ∀ c, (A c).Nodup) (hsub : ∀ c, ∀ d ∈ A c, d ∈ F) (hsym : ∀ c d, d ∈ A c → c ∈ A d) (hirr : ∀ c, c ∉ A c) :
    (F.map fun c => (A c).length).sum = 2 * (F.map fun c => ((A c).filter fun d => decide (c < d)).length).sum := by
  have h1 : ∀ c, (A c).length = ((A c).filter fun d => decide (c < d)).length + ((A c).filter fun d => decide (d < c)).length := by
    intro c
    rw [← List.countP_eq_length_filter, ← List.countP_eq_length_filter, List.length_eq_countP_add_countP (fun d => decide (c < d))]
    congr 1
    refine List.countP_congr fun d hd => ?_
    have hne : d ≠ c := fun e => hirr c (e ▸ hd)
    simp only [decide_eq_true_eq]
    omega
  have h2 : ∀ (p : Int → Int → Bool) c, ((A c).filter (p c)).length = F.countP fun d => decide (d ∈ (A c).filter (p c)) := fun p c =>
    len_count (List.Pairwise.filter _ (hA c)) hF (fun d hd => hsub c d (List.mem_filter.1 hd).1)
  have h3 : (F.map fun c => ((A c).filter fun d => decide (d < c)).length).sum = (F.map fun c => ((A c).filter fun d => decide (c < d)).length).sum := by
    rw [sum_congr fun c _ => h2 (fun c d => decide (d < c)) c, sum_swap F fun c d => decide (d ∈ (A c).filter fun d => decide (d < c)), sum_congr fun c _ => h2 (fun c d => decide (c < d)) c]
    refine sum_congr fun c _ => List.countP_congr fun d _ => ?_
    simp only [List.mem_filter, decide_eq_true_eq]
    exact ⟨fun h => ⟨hsym _ _ h.1, h.2⟩, fun h => ⟨hsym _ _ h.1, h.2⟩⟩
  rw [sum_congr fun c _ => h1 c, sum_add, h3]
  omega

theorem freeL_nodup (W H : Int) (C : ByteArray) : (freeL W H C).Nodup := by
  unfold freeL picks
  refine List.Pairwise.map _ (fun a b h => ?_) (List.Pairwise.filter _ List.nodup_range)
  omega
theorem free_mem {W H : Int} {C : ByteArray} {c : Int} (h : freeV W H C c = true) : c ∈ freeL W H C := by
  obtain ⟨hg, n, rfl, hn⟩ := free_cell h
  have h64 : C.size ≤ 64 := by
    obtain ⟨⟨⟨h1, h2⟩, ⟨h3, h4⟩, hs⟩, _⟩ := gok_out hg
    have := mul_bd h1 h2 h3 h4
    omega
  unfold freeL picks
  refine List.mem_map.2 ⟨n, List.mem_filter.2 ⟨List.mem_range.2 (by omega), h⟩, rfl⟩

/-- How many pairs the first k cells of F count. -/
noncomputable def upV (W H : Int) (C : ByteArray) (c : Int) : Nat := ((aroundL W H C c).filter fun d => decide (c < d)).length
noncomputable def ups (W H : Int) (C : ByteArray) (F : List Int) (k : Nat) : Nat := ((F.take k).map (upV W H C)).sum
theorem ups_succ {W H : Int} {C : ByteArray} {F : List Int} {k : Nat} {x : Int} (h : F[k]? = some x) : ups W H C F (k + 1) = ups W H C F k + upV W H C x := by
  obtain ⟨hk, rfl⟩ := List.getElem?_eq_some_iff.1 h
  unfold ups
  rw [List.take_succ_eq_append_getElem hk, List.map_append, List.sum_append]
  simp
theorem upV_le (W H : Int) (C : ByteArray) (c : Int) : upV W H C c ≤ 4 := Nat.le_trans (List.length_filter_le _ _) (aroundL_len W H C c)
theorem ups_le (W H : Int) (C : ByteArray) (F : List Int) (k : Nat) : ups W H C F k ≤ 4 * k := by
  induction k with
  | zero => simp [ups]
  | succ k ih =>
    rcases h : F[k]? with _ | x
    · have hl : F.length ≤ k := List.getElem?_eq_none_iff.1 h
      have e : F.take (k + 1) = F.take k := by rw [List.take_of_length_le (by omega), List.take_of_length_le hl]
      unfold ups at ih ⊢
      rw [e]
      omega
    · rw [ups_succ h]
      have := upV_le W H C x
      omega
theorem pairs_up (W H : Int) (C : ByteArray) : pairsV W H C = ((ups W H C (freeL W H C) (freeL W H C).length : Nat) : Int) := by
  have h := count_pairs (freeL_nodup W H C) (around_nodup W H C) (fun c d hd => free_mem (mem_around.1 hd).2.1) (fun c d h => around_sym h) (fun c => around_irr)
  unfold pairsV degs ups upV
  rw [List.take_length]
  congr 1
  rw [h]
  omega

end Go.Proofs.YtnbbhdbcapfbkaaDoor

namespace Go.Proofs.YtnbbhdbcapfbkaaDoor
set_option maxRecDepth 4096

def rgB (x lo hi : Int) : Bool := decide (lo ≤ x) && decide (x ≤ hi)
theorem rgB_iff {x lo hi : Int} : rgB x lo hi = true ↔ lo ≤ x ∧ x ≤ hi := by unfold rgB; simp
section
variable {W H : Int} {C : ByteArray} {L : List Int}
/-- The first k are free and in ascending order. -/
def ascTo (W H : Int) (C : ByteArray) (L : List Int) (k : Nat) : Prop := ∀ (i : Nat) (x : Int), i < k → L[i]? = some x → freeV W H C x = true ∧ ∀ y, 0 < i → L[i - 1]? = some y → y < x
noncomputable def ascV (W H : Int) (C : ByteArray) (L : List Int) : Bool := @decide (ascTo W H C L L.length) (Classical.propDecidable _)
theorem asc_yes (h : ascTo W H C L L.length) : ascV W H C L = true := by unfold ascV; exact (@decide_eq_true_iff _ (Classical.propDecidable _)).2 h
theorem asc_iff : ascV W H C L = true ↔ ascTo W H C L L.length := by unfold ascV; exact @decide_eq_true_iff _ (Classical.propDecidable _)
theorem asc_no (h : ¬ ascTo W H C L L.length) : ascV W H C L = false := by
  cases e : ascV W H C L with
  | false => rfl
  | true => exact absurd (asc_iff.1 e) h
theorem asc_zero : ascTo W H C L 0 := fun i x h => by omega
theorem asc_bad {k : Nat} {x : Int} (hx : L[k]? = some x) (h : freeV W H C x = false ∨ ∃ y, 0 < k ∧ L[k - 1]? = some y ∧ x ≤ y) : ascV W H C L = false := by
  refine asc_no fun ha => ?_
  obtain ⟨h1, h2⟩ := ha k x (List.getElem?_eq_some_iff.1 hx).1 hx
  rcases h with h | ⟨y, h0, hy, hle⟩
  · rw [h1] at h
    cases h
  · have := h2 y h0 hy
    omega
theorem asc_more {k : Nat} {x : Int} (h : ascTo W H C L k) (hx : L[k]? = some x) (h1 : freeV W H C x = true) (h2 : ∀ y, 0 < k → L[k - 1]? = some y → y < x) : ascTo W H C L (k + 1) := fun i z hi hz => by
  by_cases e : i = k
  · subst e
    rw [hx] at hz
    cases hz
    exact ⟨h1, h2⟩
  · exact h i z (by omega) hz
/-- May it be asked? -/
noncomputable def askV (W H : Int) (C : ByteArray) (S G : List Int) (T : Int) : Bool :=
  gok W H C && (rgB S.length 1 10 && (decide (G.length ≤ S.length) && (rgB T 0 20 && (ascV W H C S && (ascV W H C G && decide (((freeL W H C).length : Int) * (T + 1) ≤ 240))))))
noncomputable def inNodeV (W H : Int) (C : ByteArray) (c t : Int) : Int := if freeV W H C c = true ∧ rgB t 0 20 = true then 3 + 2 * (t * ((freeL W H C).length : Int) + (((freeL W H C).idxOf c : Nat) : Int)) else -1
end

end Go.Proofs.YtnbbhdbcapfbkaaDoor

namespace Go.Proofs.YtnbbhdbcapfbkaaDoor
set_option maxRecDepth 4096

section
variable {W H : Int} {C : ByteArray}
/-- The k-th free cell. -/
noncomputable def cellG (W H : Int) (C : ByteArray) (k : Nat) : Int := (freeL W H C).getD k (-1)
/-- Its number. -/
noncomputable def numG (W H : Int) (C : ByteArray) (c : Int) : Nat := (freeL W H C).idxOf c
noncomputable def mapG (W H : Int) (C : ByteArray) : MapD := ⟨(freeL W H C).length, fun i => (aroundL W H C (cellG W H C i)).map (numG W H C)⟩

theorem mem_free {c : Int} (h : c ∈ freeL W H C) : freeV W H C c = true := by
  obtain ⟨n, hn, rfl⟩ := List.mem_map.1 h
  exact (List.mem_filter.1 hn).2
theorem cellG_at {k : Nat} (h : k < (freeL W H C).length) : (freeL W H C)[k]? = some (cellG W H C k) := by
  unfold cellG
  rw [List.getD_eq_getElem?_getD, List.getElem?_eq_getElem h]
  rfl
theorem cellG_mem {k : Nat} (h : k < (freeL W H C).length) : cellG W H C k ∈ freeL W H C := List.mem_of_getElem? (cellG_at h)
theorem cellG_free {k : Nat} (h : k < (freeL W H C).length) : freeV W H C (cellG W H C k) = true := mem_free (cellG_mem h)
theorem cellG_out {k : Nat} (h : ¬ k < (freeL W H C).length) : cellG W H C k = -1 := by
  unfold cellG
  rw [List.getD_eq_getElem?_getD, List.getElem?_eq_none (by omega)]
  rfl
theorem free_neg : freeV W H C (-1) = false := by
  cases h : freeV W H C (-1) with
  | false => rfl
  | true =>
    obtain ⟨_, n, hn, _⟩ := free_cell h
    omega
theorem idx_at {c : Int} : ∀ {L : List Int}, c ∈ L → L[L.idxOf c]? = some c
  | [], h => by cases h
  | a :: L, h => by
    rw [List.idxOf_cons]
    by_cases e : a = c
    · subst e
      simp
    · have h2 := idx_at (L := L) (c := c) (by rcases List.mem_cons.1 h with h | h; exact absurd h.symm e; exact h)
      have e2 : (a == c) = false := by simp [e]
      rw [e2]
      simpa using h2
theorem numG_lt {c : Int} (h : freeV W H C c = true) : numG W H C c < (freeL W H C).length := (List.getElem?_eq_some_iff.1 (idx_at (free_mem h))).1
theorem cellG_num {c : Int} (h : freeV W H C c = true) : cellG W H C (numG W H C c) = c := by
  have h1 := cellG_at (numG_lt h)
  rw [show (freeL W H C)[numG W H C c]? = some c from idx_at (free_mem h)] at h1
  exact (Option.some.inj h1).symm
/-- The free cells ascend. -/
theorem free_up : (freeL W H C).Pairwise (· < ·) := by
  unfold freeL picks
  rw [List.pairwise_map]
  exact (List.Pairwise.filter _ List.pairwise_lt_range).imp fun h => by omega
theorem cellG_up {i k : Nat} (hk : k < (freeL W H C).length) (h : i < k) : cellG W H C i < cellG W H C k := by
  have hi : i < (freeL W H C).length := by omega
  have h1 := List.pairwise_iff_getElem.1 (free_up (W := W) (H := H) (C := C)) i k hi hk h
  have e1 := cellG_at hi
  have e2 := cellG_at hk
  rw [List.getElem?_eq_getElem hi] at e1
  rw [List.getElem?_eq_getElem hk] at e2
  rw [Option.some.inj e1, Option.some.inj e2] at h1
  exact h1
theorem cellG_lt {i k : Nat} (hi : i < (freeL W H C).length) (hk : k < (freeL W H C).length) : cellG W H C i < cellG W H C k ↔ i < k := by
  constructor
  · intro h
    rcases Nat.lt_trichotomy i k with e | e | e
    · exact e
    · subst e; omega
    · have := cellG_up hi e; omega
  · exact cellG_up hk
theorem num_cellG {k : Nat} (h : k < (freeL W H C).length) : numG W H C (cellG W H C k) = k := by
  have h1 := numG_lt (cellG_free h)
  have h2 := cellG_num (cellG_free h)
  rcases Nat.lt_trichotomy (numG W H C (cellG W H C k)) k with e | e | e
  · have := cellG_up h e; omega
  · exact e
  · have := cellG_up h1 e; omega
theorem around_free {c d : Int} (h : d ∈ aroundL W H C c) : freeV W H C c = true ∧ freeV W H C d = true := ⟨(mem_around.1 h).1, (mem_around.1 h).2.1⟩
theorem mem_ar {i k : Nat} : k ∈ (mapG W H C).ar i ↔ i < (freeL W H C).length ∧ k < (freeL W H C).length ∧ cellG W H C k ∈ aroundL W H C (cellG W H C i) := by
  constructor
  · intro h
    obtain ⟨d, hd, rfl⟩ := List.mem_map.1 h
    obtain ⟨h1, h2⟩ := around_free hd
    refine ⟨?_, numG_lt h2, by rw [cellG_num h2]; exact hd⟩
    refine Decidable.byContradiction fun hn => ?_
    rw [cellG_out hn, free_neg] at h1
    cases h1
  · rintro ⟨_, h1, h2⟩
    exact List.mem_map.2 ⟨_, h2, num_cellG h1⟩
theorem mapG_ok : MapOk (mapG W H C) where
  lt := fun i _ k hk => (mem_ar.1 hk).2.1
  sym := fun i k => by
    unfold adjB
    rw [decide_eq_decide]
    constructor <;>
    · intro h
      obtain ⟨h1, h2, h3⟩ := mem_ar.1 h
      exact mem_ar.2 ⟨h2, h1, around_sym h3⟩
  irr := fun i => by
    unfold adjB
    exact decide_eq_false fun h => around_irr (mem_ar.1 h).2.2
theorem ar_len (i : Nat) : ((mapG W H C).ar i).length ≤ 4 := by
  unfold mapG
  simp only [List.length_map]
  exact aroundL_len W H C _
theorem free_rows : freeL W H C = (List.range (freeL W H C).length).map (cellG W H C) := by
  apply List.ext_getElem?
  intro j
  by_cases hj : j < (freeL W H C).length
  · rw [cellG_at hj, List.getElem?_map, List.getElem?_range hj]
    rfl
  · rw [List.getElem?_eq_none (by omega), List.getElem?_eq_none (by simp; omega)]
theorem upV_row {i : Nat} (hi : i < (freeL W H C).length) : upV W H C (cellG W H C i) = ((List.range (freeL W H C).length).filter fun k => decide (i < k) && adjB (mapG W H C) i k).length := by
  unfold upV
  rw [len_count (List.Pairwise.filter _ (around_nodup W H C _)) (freeL_nodup W H C) (fun d hd => free_mem (around_free (List.mem_filter.1 hd).1).2)]
  conv => lhs; rw [free_rows]
  rw [List.countP_map, List.countP_eq_length_filter]
  congr 1
  refine List.filter_congr fun k hk => ?_
  have hk2 := List.mem_range.1 hk
  unfold adjB
  rw [Bool.eq_iff_iff]
  simp only [Function.comp, decide_eq_true_eq, Bool.and_eq_true, List.mem_filter]
  rw [mem_ar, cellG_lt hi hk2]
  exact ⟨fun h => ⟨h.2, hi, hk2, h.1⟩, fun h => ⟨h.2.2.2, h.1⟩⟩
/-- The pairs are counted as they are listed. -/
theorem pairs_pl : pairsV W H C = ((mapG W H C).pl.length : Int) := by
  rw [pairs_up]
  congr 1
  unfold ups
  rw [List.take_length]
  conv => lhs; rw [free_rows]
  unfold MapD.pl
  rw [List.length_flatMap, List.map_map]
  refine sum_congr fun i hi => ?_
  have hi2 := List.mem_range.1 hi
  simp only [Function.comp, List.length_map]
  exact upV_row hi2
theorem inNode_is {k t : Nat} (hk : k < (freeL W H C).length) (ht : t ≤ 20) : inNodeV W H C (cellG W H C k) (t : Int) = (inN (freeL W H C).length k t : Nat) := by
  unfold inNodeV
  rw [if_pos ⟨cellG_free hk, rgB_iff.2 ⟨by omega, by omega⟩⟩, show (freeL W H C).idxOf (cellG W H C k) = k from num_cellG hk]
  unfold inN
  simp

/-- What may be asked, in numbers. -/
structure AskOkD (W H : Int) (C : ByteArray) (S G : List Int) (T : Nat) : Prop where
  s1 : 1 ≤ S.length
  s10 : S.length ≤ 10
  le : G.length ≤ S.length
  t20 : T ≤ 20
  sf : ∀ x ∈ S, freeV W H C x = true
  gf : ∀ x ∈ G, freeV W H C x = true
  lay : (freeL W H C).length * (T + 1) ≤ 240
theorem asc_free {L : List Int} (h : ascV W H C L = true) : ∀ x ∈ L, freeV W H C x = true := fun x hx => by
  obtain ⟨i, hi, rfl⟩ := List.getElem_of_mem hx
  exact (asc_iff.1 h i _ hi (List.getElem?_eq_getElem hi)).1
theorem ask_out {S G : List Int} {T : Int} (h : askV W H C S G T = true) : ∃ t : Nat, T = t ∧ AskOkD W H C S G t := by
  unfold askV at h
  simp only [Bool.and_eq_true, rgB_iff, decide_eq_true_eq] at h
  obtain ⟨_, ⟨h1, h2⟩, h3, ⟨h4, h5⟩, h6, h7, h8⟩ := h
  obtain ⟨t, rfl⟩ : ∃ t : Nat, T = t := ⟨T.toNat, by omega⟩
  refine ⟨t, rfl, ⟨by omega, by omega, by omega, by omega, asc_free h6, asc_free h7, ?_⟩⟩
  have : (((freeL W H C).length * (t + 1) : Nat) : Int) ≤ 240 := by
    rw [Int.natCast_mul, Int.natCast_add]
    exact h8
  omega
/-- The network of an ask. -/
noncomputable def netG (W H : Int) (C : ByteArray) (S G : List Int) (T : Nat) (strict : Bool) : List ArcD :=
  timeA (mapG W H C) (S.map (numG W H C)) (fun k => G.contains (cellG W H C k)) ((S.length : Int) - (G.length : Int)) T strict
noncomputable def nodesG (W H : Int) (C : ByteArray) (T : Nat) (strict : Bool) : Nat := timeN (mapG W H C) T strict
theorem netG_starts {S G : List Int} {T : Nat} (h : AskOkD W H C S G T) : ∀ k ∈ S.map (numG W H C), k < (mapG W H C).F := fun k hk => by
  obtain ⟨x, hx, rfl⟩ := List.mem_map.1 hk
  exact numG_lt (h.sf x hx)
theorem netG_ok {S G : List Int} {T : Nat} {strict : Bool} (h : AskOkD W H C S G T) : netOkV (nodesG W H C T strict) (netG W H C S G T strict) = true :=
  time_ok mapG_ok (fun i _ => ar_len i) h.lay (by simpa using h.s10) (netG_starts h) ⟨by have := h.le; omega, by have := h.s10; omega⟩
/-- The greatest flows of the two networks are equal. -/
theorem netG_same {S G : List Int} {T : Nat} (h : AskOkD W H C S G T) : mostS (nodesG W H C T true) (netG W H C S G T true) = mostS (nodesG W H C T false) (netG W H C S G T false) :=
  most_same mapG_ok (netG_starts h) (netG_ok h) (netG_ok h)
theorem netG_most {S G : List Int} {T : Nat} {strict : Bool} (h : AskOkD W H C S G T) : mostS (nodesG W H C T strict) (netG W H C S G T strict) ≤ (S.length : Int) := by
  have := most_starts (netG_ok (strict := strict) h)
  rw [List.length_map] at this
  exact this
theorem netG_next {S G : List Int} {T : Nat} (h : AskOkD W H C S G T) (h2 : AskOkD W H C S G (T + 1)) : mostS (nodesG W H C T false) (netG W H C S G T false) ≤ mostS (nodesG W H C (T + 1) false) (netG W H C S G (T + 1) false) :=
  most_next (netG_ok h) (netG_ok h2)
end

end Go.Proofs.YtnbbhdbcapfbkaaDoor

namespace Go.Proofs.YtnbbhdbcapfbkaaDoor
set_option maxRecDepth 4096

section
variable {W H : Int} {C : ByteArray} {S G : List Int} {T : Nat} {F : List Int}
theorem numG_inj {c d : Int} (hc : freeV W H C c = true) (hd : freeV W H C d = true) (e : numG W H C c = numG W H C d) : c = d := by
  rw [← cellG_num hc, ← cellG_num hd, e]
theorem ar_nodup (i : Nat) : ((mapG W H C).ar i).Nodup := by
  unfold mapG
  dsimp only
  rw [List.Nodup, List.pairwise_map]
  refine (List.Pairwise.and_mem.1 (around_nodup W H C (cellG W H C i))).imp ?_
  rintro a b ⟨ha, hb, hne⟩ e
  exact hne (numG_inj (around_free ha).2 (around_free hb).2 e)
theorem asc_lt {L : List Int} (h : ascV W H C L = true) : L.Pairwise (· < ·) := by
  have h2 := asc_iff.1 h
  have key : ∀ d i x y, L[i]? = some x → L[i + d + 1]? = some y → x < y := by
    intro d
    induction d with
    | zero =>
      intro i x y hx hy
      exact (h2 (i + 0 + 1) y (List.getElem?_eq_some_iff.1 hy).1 hy).2 x (by omega) (by simpa using hx)
    | succ d ih =>
      intro i x y hx hy
      have hl := (List.getElem?_eq_some_iff.1 hy).1
      have hz : L[i + d + 1]? = some (L[i + d + 1]'(by omega)) := List.getElem?_eq_getElem _
      have h3 := ih i x _ hx hz
      have h4 := (h2 (i + (d + 1) + 1) y hl hy).2 _ (by omega) (by rw [show i + (d + 1) + 1 - 1 = i + d + 1 by omega]; exact hz)
      omega
  rw [List.pairwise_iff_getElem]
  intro i j hi hj hij
  exact key (j - i - 1) i _ _ (List.getElem?_eq_getElem hi) (by rw [show i + (j - i - 1) + 1 = j by omega]; exact List.getElem?_eq_getElem hj)
theorem ask_asc {T : Int} (h : askV W H C S G T = true) : ascV W H C S = true := by
  unfold askV at h
  simp only [Bool.and_eq_true] at h
  exact h.2.2.2.2.1
theorem netT_of (hd : AskOkD W H C S G T) (ha : ascV W H C S = true) : NetT (mapG W H C) (S.map (numG W H C)) where
  ok := mapG_ok
  nd := fun i _ => ar_nodup i
  sn := by
    rw [List.Nodup, List.pairwise_map]
    refine (List.Pairwise.and_mem.1 (asc_lt ha)).imp ?_
    rintro a b ⟨ha, hb, hlt⟩ e
    have := numG_inj (hd.sf a ha) (hd.sf b hb) e
    omega
  sF := netG_starts hd

/-- The way of the unit in cell c at the beginning. -/
noncomputable def wayG (W H : Int) (C : ByteArray) (A : List ArcD) (F : List Int) (T : Nat) (c : Int) : List Int := (wayK (mapG W H C) A F T T (numG W H C c)).map (cellG W H C)
noncomputable def waysB (W H : Int) (C : ByteArray) (S G : List Int) (T : Int) (F : List Int) : Bool :=
  askV W H C S G T && decide (flowSizeV (nodesG W H C T.toNat false : Nat) (netG W H C S G T.toNat false) F = (S.length : Int))
noncomputable def waysL (W H : Int) (C : ByteArray) (S G : List Int) (T : Int) (F : List Int) : List (List Int) :=
  if waysB W H C S G T F = true then S.map (wayG W H C (netG W H C S G T.toNat false) F T.toNat) else []
/-- What is known of a flow of as many units as starts. -/
structure UnitsD (W H : Int) (C : ByteArray) (S G : List Int) (T : Nat) (F : List Int) : Prop where
  ask : AskOkD W H C S G T
  net : NetT (mapG W H C) (S.map (numG W H C))
  ok : flowOkV (nodesG W H C T false : Nat) (netG W H C S G T false) F = true
  go : ∀ c ∈ S, Runs ((netG W H C S G T false).zip F) (inN (mapG W H C).F (numG W H C c) 0 : Nat) (inN (mapG W H C).F (numG W H C c) 0 + 1 : Nat)
theorem units_of {T : Int} (h : waysB W H C S G T F = true) : ∃ t : Nat, T = t ∧ UnitsD W H C S G t F := by
  unfold waysB at h
  rw [Bool.and_eq_true, decide_eq_true_eq] at h
  obtain ⟨h1, h2⟩ := h
  have ha := ask_asc h1
  obtain ⟨t, rfl, hd⟩ := ask_out h1
  refine ⟨t, rfl, ?_⟩
  rw [Int.toNat_natCast] at h2
  have hT := netT_of hd ha
  have hok : flowOkV (nodesG W H C t false : Nat) (netG W H C S G t false) F = true := by
    unfold flowSizeV at h2
    split at h2
    · assumption
    · have := hd.s1
      omega
  refine ⟨hd, hT, hok, fun c hc => ?_⟩
  unfold flowSizeV at h2
  rw [if_pos hok] at h2
  have hk : numG W H C c ∈ S.map (numG W H C) := List.mem_map_of_mem hc
  exact run_in hok (hT.sF _ hk) (run_start (sl := S.map (numG W H C)) hok (by rw [List.length_map]; exact h2) hk)
theorem waysL_len {T : Int} (h : waysB W H C S G T F = true) : ∀ w ∈ waysL W H C S G T F, w.length = T.toNat + 1 := fun w hw => by
  unfold waysL at hw
  rw [if_pos h] at hw
  obtain ⟨c, _, rfl⟩ := List.mem_map.1 hw
  unfold wayG
  rw [List.length_map, wayK_len]
end

end Go.Proofs.YtnbbhdbcapfbkaaDoor

