/-
  The arcs of the network in time, as far as they are listed at each point of TimeNet's loops. Plain facts; no statement is proved here.
  How the program reads a grid's map in time: the number of a free cell is how many free cells lie below it; what lies beside a cell ascends; the pairs as the program lists them. Plain facts; no statement is proved here.
  The network in time that is being built, in memory: its box, the lists of what lies beside each cell, the pairs, the arcs listed so far. No statement is proved here.
  CONTRACT of the program's gridRows.freeAt. No law is proved here.
-/
import Derived.Test.YtnbbhdbcapfbkaaDoorZFF12
import Derived.Test.YtnbbhdbcapfbkaaDoorZFF15
import Derived.Test.YtnbbhdbcapfbkaaDoorZFF20
import Derived.Test.YtnbbhdbcapfbkaaDoorZFF10
namespace Go.Proofs.YtnbbhdbcapfbkaaDoor
set_option maxRecDepth 4096

section
variable (m : MapD) (sl : List Nat) (gl : Nat → Bool) (T : Nat) (strict : Bool)
def startA (k : Nat) : ArcD := ⟨0, (inN m.F k 0 : Nat), 1, 0⟩
def endA (k : Nat) : ArcD := ⟨(inN m.F k T + 1 : Nat), (if gl k = true then 1 else 2 : Nat), 1, 0⟩
/-- All that is listed before time t. -/
def layT (t : Nat) : List ArcD := sl.map (startA m) ++ (List.range t).flatMap (layA m T strict)
def celT (t i : Nat) : List ArcD := layT m sl T strict t ++ (List.range i).flatMap (cellA m T t strict)
/-- A cell's arc to itself, a cell's arc into the next time. -/
def arcI (t k : Nat) : ArcD := ⟨(inN m.F k t : Nat), (inN m.F k t + 1 : Nat), 1, 0⟩
def arcW (t k j : Nat) (c : Int) : ArcD := ⟨(inN m.F k t + 1 : Nat), (inN m.F j (t + 1) : Nat), 1, c⟩
/-- The pairs before the one of cells i and k. -/
def pairsTo (i k : Nat) : List (Nat × Nat) :=
  ((List.range i).flatMap fun i => ((List.range m.F).filter fun k => decide (i < k) && adjB m i k).map fun k => (i, k)) ++ ((List.range k).filter fun k => decide (i < k) && adjB m i k).map fun k => (i, k)
def fiveA (t p a b : Nat) : List ArcD := [⟨(inN m.F a t + 1 : Nat), (p : Nat), 1, 0⟩, ⟨(inN m.F b t + 1 : Nat), (p : Nat), 1, 0⟩, ⟨(p : Nat), (p + 1 : Nat), 1, 1⟩, ⟨(p + 1 : Nat), (inN m.F a (t + 1) : Nat), 1, 0⟩, ⟨(p + 1 : Nat), (inN m.F b (t + 1) : Nat), 1, 0⟩]
def pairP (t : Nat) : Nat := baseN m T + 2 * t * m.pl.length
def parT (t i k : Nat) : List ArcD := celT m sl T strict t m.F ++ pairA m t (pairP m T t) (pairsTo m i k)
def endT (i : Nat) : List ArcD := layT m sl T strict (T + 1) ++ (List.range i).map (endA m gl T)
end
section
variable {m : MapD} {sl : List Nat} {gl : Nat → Bool} {T t i k : Nat} {strict : Bool} {R : Int}
theorem layT_zero : layT m sl T strict 0 = sl.map (startA m) := by simp [layT]
theorem layT_succ : layT m sl T strict (t + 1) = celT m sl T strict t m.F ++ (if t = T ∨ strict = false then [] else pairA m t (pairP m T t) m.pl) := by
  unfold layT celT
  rw [List.range_succ, List.flatMap_append]
  simp only [List.flatMap_cons, List.flatMap_nil, List.append_nil]
  rw [layA, ← List.append_assoc, ← List.append_assoc]
  rfl
theorem celT_zero : celT m sl T strict t 0 = layT m sl T strict t := by simp [celT]
theorem celT_succ : celT m sl T strict t (i + 1) = celT m sl T strict t i ++ cellA m T t strict i := by
  unfold celT
  rw [List.range_succ, List.flatMap_append, List.append_assoc]
  simp
theorem cellA_last : cellA m T T strict i = [arcI m T i] := by
  unfold cellA
  rw [if_pos rfl]
  rfl
theorem cellA_strict (ht : t ≠ T) : cellA m T t true i = [arcI m t i, arcW m t i i 0] := by
  unfold cellA
  rw [if_neg ht, if_pos rfl]
  rfl
theorem cellA_plain (ht : t ≠ T) : cellA m T t false i = arcI m t i :: arcW m t i i 0 :: (m.ar i).map fun j => arcW m t i j 1 := by
  unfold cellA
  rw [if_neg ht, if_neg (by decide)]
  rfl
theorem pairsTo_start : pairsTo m 0 0 = [] := by simp [pairsTo]
theorem pairsTo_pl : pairsTo m m.F 0 = m.pl := by simp [pairsTo, MapD.pl]
theorem pairsTo_row : pairsTo m i m.F = pairsTo m (i + 1) 0 := by
  unfold pairsTo
  rw [List.range_succ, List.flatMap_append]
  simp
theorem pairsTo_low : pairsTo m i (i + 1) = pairsTo m i 0 := by
  unfold pairsTo
  have e : ((List.range (i + 1)).filter fun k => decide (i < k) && adjB m i k) = [] := by
    rw [List.filter_eq_nil_iff]
    intro k hk
    have := List.mem_range.1 hk
    rw [decide_eq_false (by omega)]
    simp
  rw [e]
  simp
theorem pairsTo_yes (h : i < k) (ha : adjB m i k = true) : pairsTo m i (k + 1) = pairsTo m i k ++ [(i, k)] := by
  unfold pairsTo
  rw [List.range_succ, List.filter_append, List.map_append, List.append_assoc]
  simp [h, ha]
theorem pairsTo_no (ha : adjB m i k = false) : pairsTo m i (k + 1) = pairsTo m i k := by
  unfold pairsTo
  rw [List.range_succ, List.filter_append, List.map_append]
  simp [ha]
theorem pairA_snoc : ∀ (L : List (Nat × Nat)) (p a b : Nat), pairA m t p (L ++ [(a, b)]) = pairA m t p L ++ fiveA m t (p + 2 * L.length) a b
  | [], p, a, b => rfl
  | (c, d) :: L, p, a, b => by
    simp only [List.cons_append, pairA, pairA_snoc L, List.length_cons]
    rw [show p + 2 + 2 * L.length = p + 2 * (L.length + 1) by omega]
theorem parT_start : parT m sl T strict t 0 0 = celT m sl T strict t m.F := by
  unfold parT
  rw [pairsTo_start]
  simp [pairA]
theorem parT_end (ht : t ≠ T) : parT m sl T true t m.F 0 = layT m sl T true (t + 1) := by
  unfold parT
  rw [pairsTo_pl, layT_succ, if_neg (by simp [ht])]
theorem parT_row : parT m sl T strict t i m.F = parT m sl T strict t (i + 1) 0 := by unfold parT; rw [pairsTo_row]
theorem parT_low : parT m sl T strict t i (i + 1) = parT m sl T strict t i 0 := by unfold parT; rw [pairsTo_low]
theorem parT_no (ha : adjB m i k = false) : parT m sl T strict t i (k + 1) = parT m sl T strict t i k := by unfold parT; rw [pairsTo_no ha]
theorem parT_yes (h : i < k) (ha : adjB m i k = true) : parT m sl T strict t i (k + 1) = parT m sl T strict t i k ++ fiveA m t (pairP m T t + 2 * (pairsTo m i k).length) i k := by
  unfold parT
  rw [pairsTo_yes h ha, pairA_snoc, List.append_assoc]
theorem layT_skip (h : t = T ∨ strict = false) : layT m sl T strict (t + 1) = celT m sl T strict t m.F := by
  rw [layT_succ, if_pos h, List.append_nil]
theorem endT_zero : endT m sl gl T strict 0 = layT m sl T strict (T + 1) := by simp [endT]
theorem endT_succ : endT m sl gl T strict (i + 1) = endT m sl gl T strict i ++ [endA m gl T i] := by
  unfold endT
  rw [List.range_succ, List.map_append, List.append_assoc]
  rfl
theorem endT_all : timeA m sl gl R T strict = endT m sl gl T strict m.F ++ [⟨2, 1, R, 0⟩] := by
  unfold timeA endT layT
  rw [List.append_assoc, List.append_assoc]
  rfl
/-- The pairs are a beginning of all of them. -/
theorem pairsTo_len (hi : i ≤ m.F) (hk : k ≤ m.F) (h0 : i = m.F → k = 0) : (pairsTo m i k).length ≤ m.pl.length := by
  have h1 : ∀ j, j ≤ m.F → (pairsTo m j 0).length ≤ (pairsTo m m.F 0).length := by
    intro j hj
    obtain ⟨d, hd⟩ : ∃ d, m.F = j + d := ⟨m.F - j, by omega⟩
    unfold pairsTo
    simp only [List.range_zero, List.filter_nil, List.map_nil, List.append_nil]
    generalize (fun i => ((List.range m.F).filter fun k => decide (i < k) && adjB m i k).map fun k => (i, k)) = f
    rw [hd, List.range_add, List.flatMap_append, List.length_append]
    omega
  rw [← pairsTo_pl]
  rcases Nat.lt_or_ge i m.F with hlt | hge
  · have h2 := h1 (i + 1) hlt
    refine Nat.le_trans ?_ h2
    rw [← pairsTo_row]
    obtain ⟨d, hd⟩ : ∃ d, m.F = k + d := ⟨m.F - k, by omega⟩
    unfold pairsTo
    generalize ((List.range i).flatMap fun i => ((List.range m.F).filter fun k => decide (i < k) && adjB m i k).map fun k => (i, k)) = f
    rw [hd, List.range_add, List.filter_append, List.map_append, List.length_append, List.length_append, List.length_append]
    omega
  · have e : i = m.F := by omega
    have e2 := h0 e
    subst e e2
    exact Nat.le_refl _
theorem pairA_len : ∀ (L : List (Nat × Nat)) (p : Nat), (pairA m t p L).length = 5 * L.length
  | [], _ => rfl
  | (a, b) :: L, p => by
    simp only [pairA, List.length_cons, pairA_len L]
    omega
theorem cellA_len (h4 : ∀ i, (m.ar i).length ≤ 4) : (cellA m T t strict i).length ≤ 6 := by
  have := h4 i
  unfold cellA
  split
  · simp
  · split <;> simp <;> omega
theorem celT_len (h4 : ∀ i, (m.ar i).length ≤ 4) : ∀ i, (celT m sl T strict t i).length ≤ (layT m sl T strict t).length + 6 * i
  | 0 => by rw [celT_zero]; omega
  | i + 1 => by
    have h1 := celT_len h4 i
    have h2 := cellA_len (T := T) (t := t) (i := i) (strict := strict) h4
    rw [celT_succ, List.length_append]
    omega
theorem layT_len (h4 : ∀ i, (m.ar i).length ≤ 4) (hF : m.F ≤ 240) (hp : m.pl.length ≤ 480) : ∀ t, (layT m sl T strict t).length ≤ sl.length + 4000 * t
  | 0 => by rw [layT_zero, List.length_map]; omega
  | t + 1 => by
    have h1 := layT_len h4 hF hp t
    have h2 := celT_len (sl := sl) (T := T) (t := t) (strict := strict) h4 m.F
    rw [layT_succ, List.length_append]
    split
    · simp only [List.length_nil]; omega
    · rw [pairA_len]; omega
theorem parT_len (h4 : ∀ i, (m.ar i).length ≤ 4) (hF : m.F ≤ 240) (hp : m.pl.length ≤ 480) : (parT m sl T strict t i k).length ≤ sl.length + 4000 * t + 1440 + 5 * (pairsTo m i k).length := by
  have h1 := layT_len (sl := sl) (T := T) (strict := strict) h4 hF hp t
  have h2 := celT_len (sl := sl) (T := T) (t := t) (strict := strict) h4 m.F
  unfold parT
  rw [List.length_append, pairA_len]
  omega
theorem endT_len (h4 : ∀ i, (m.ar i).length ≤ 4) (hF : m.F ≤ 240) (hp : m.pl.length ≤ 480) : (endT m sl gl T strict i).length ≤ sl.length + 4000 * (T + 1) + i := by
  have h1 := layT_len (sl := sl) (T := T) (strict := strict) h4 hF hp (T + 1)
  unfold endT
  rw [List.length_append, List.length_map, List.length_range]
  omega
end

end Go.Proofs.YtnbbhdbcapfbkaaDoor

namespace Go.Proofs.YtnbbhdbcapfbkaaDoor
set_option maxRecDepth 4096

section
variable {W H : Int} {C : ByteArray}
theorem num_count {c : Int} (h : freeV W H C c = true) : (freeL W H C).countP (fun x => decide (x < c)) = numG W H C c := asc_count free_up (free_mem h)
theorem cell_in {x y : Int} (h : freeV W H C (cellAtV W H C x y) = true) : cellAtV W H C x y = y * W + x ∧ 0 ≤ x ∧ x < W := by
  by_cases hr : gok W H C = true ∧ (0 ≤ x ∧ x < W) ∧ (0 ≤ y ∧ y < H)
  · exact ⟨cellAtV_yes hr, hr.2.1⟩
  · rw [cellAtV_no hr] at h
    unfold freeV cellOk at h
    simp at h
theorem around_up (W H : Int) (C : ByteArray) (c : Int) : (aroundL W H C c).Pairwise (· < ·) := by
  unfold aroundL nbrs
  split
  · rw [List.pairwise_filter]
    have k1 : ∀ x x' y : Int, x < x' → freeV W H C (cellAtV W H C x y) = true → freeV W H C (cellAtV W H C x' y) = true → cellAtV W H C x y < cellAtV W H C x' y := by
      intro x x' y hlt h1 h2
      rw [(cell_in h1).1, (cell_in h2).1]
      omega
    have k2 : ∀ x x' y y' : Int, y < y' → freeV W H C (cellAtV W H C x y) = true → freeV W H C (cellAtV W H C x' y') = true → cellAtV W H C x y < cellAtV W H C x' y' := by
      intro x x' y y' hlt h1 h2
      obtain ⟨e1, a1, a2⟩ := cell_in h1
      obtain ⟨e2, b1, b2⟩ := cell_in h2
      rw [e1, e2]
      have h3 : (y + 1) * W ≤ y' * W := Int.mul_le_mul_of_nonneg_right (by omega) (by omega)
      rw [Int.add_mul] at h3
      omega
    refine List.pairwise_cons.2 ⟨fun d hd => ?_, List.pairwise_cons.2 ⟨fun d hd => ?_, List.pairwise_cons.2 ⟨fun d hd => ?_, List.pairwise_cons.2 ⟨(fun d hd => by cases hd), List.Pairwise.nil⟩⟩⟩⟩
    · simp only [List.mem_cons, List.not_mem_nil, or_false] at hd
      rcases hd with rfl | rfl | rfl
      · exact k2 _ _ _ _ (by omega)
      · exact k2 _ _ _ _ (by omega)
      · exact k2 _ _ _ _ (by omega)
    · simp only [List.mem_cons, List.not_mem_nil, or_false] at hd
      rcases hd with rfl | rfl
      · exact k1 _ _ _ (by omega)
      · exact k2 _ _ _ _ (by omega)
    · simp only [List.mem_cons, List.not_mem_nil, or_false] at hd
      subst hd
      exact k2 _ _ _ _ (by omega)
  · exact List.Pairwise.nil
theorem num_up {c d : Int} (hc : freeV W H C c = true) (hd : freeV W H C d = true) : numG W H C c < numG W H C d ↔ c < d := by
  have := cellG_lt (numG_lt hc) (numG_lt hd)
  rw [cellG_num hc, cellG_num hd] at this
  exact this.symm
theorem ar_up (i : Nat) : ((mapG W H C).ar i).Pairwise (· < ·) := by
  unfold mapG
  rw [List.pairwise_map]
  refine List.Pairwise.imp_of_mem (fun {a b} ha hb h => ?_) (around_up W H C _)
  exact (num_up (around_free ha).2 (around_free hb).2).2 h
/-- The greater ones beside a cell, as the program lists them. -/
theorem ar_pairs (i : Nat) : ((List.range (mapG W H C).F).filter fun k => decide (i < k) && adjB (mapG W H C) i k) = ((mapG W H C).ar i).filter fun k => decide (i < k) := by
  refine asc_same (List.Pairwise.filter _ List.pairwise_lt_range) (List.Pairwise.filter _ (ar_up i)) fun k => ?_
  simp only [List.mem_filter, List.mem_range, Bool.and_eq_true, decide_eq_true_eq]
  unfold adjB
  rw [decide_eq_true_eq]
  exact ⟨fun h => ⟨h.2.2, h.2.1⟩, fun h => ⟨(mem_ar.1 h.1).2.1, h.2, h.1⟩⟩
end
/-- The pairs of the first i cells. -/
def plTo (m : MapD) (i : Nat) : List (Nat × Nat) := (List.range i).flatMap fun i => ((m.ar i).filter fun k => decide (i < k)).map fun k => (i, k)
theorem plTo_succ (m : MapD) (i : Nat) : plTo m (i + 1) = plTo m i ++ ((m.ar i).filter fun k => decide (i < k)).map fun k => (i, k) := by
  unfold plTo
  rw [List.range_succ, List.flatMap_append]
  simp
theorem plTo_all (W H : Int) (C : ByteArray) : plTo (mapG W H C) (mapG W H C).F = (mapG W H C).pl := by
  unfold plTo MapD.pl
  congr 1
  funext i
  rw [ar_pairs]

end Go.Proofs.YtnbbhdbcapfbkaaDoor

namespace Go.Proofs.YtnbbhdbcapfbkaaDoor
set_option maxRecDepth 4096
open Go.ChangeShapes Go.WideShapes Go.ChangeAt Go.RowKit

/-- All blocks lie as they lay, but for those of arcs and the network's own box. -/
structure TK (w w' : World) : Prop where
  size : w.heap.size ≤ w'.heap.size
  block : ∀ (i : Nat) (cs : Array Value) (t : TypeId) (fr : Nat × Nat), w.heap[i]? = some (Obj.cells cs t fr) → t ≠ 62 → t ≠ 80 → w'.heap[i]? = some (Obj.cells cs t fr)
theorem TK.refl (w : World) : TK w w := ⟨Nat.le_refl _, fun _ _ _ _ h _ _ => h⟩
theorem TK.trans {a b c : World} (h : TK a b) (k : TK b c) : TK a c := ⟨Nat.le_trans h.size k.size, fun i cs t fr hi h1 h2 => k.block i cs t fr (h.block i cs t fr hi h1 h2) h1 h2⟩
theorem TK.below {w w' : World} (h : Below w.heap.size w w') : TK w w' := ⟨h.size, fun i _ _ _ hi _ _ => (h.block i (Array.getElem?_eq_some_iff.1 hi).1).trans hi⟩
theorem TK.row {w w' : World} {B s n : Nat} {e : TypeId} {v : Value} {xs : List Value} (k : TK w w') (h : w.ownsRow B e s v n xs) (h1 : e ≠ 62) (h2 : e ≠ 80) : w'.ownsRow B e s v n xs := by
  obtain ⟨hx, h | ⟨g, cap, cur, rfl, hb, hg, hr⟩⟩ := h
  · exact ⟨hx, .inl h⟩
  · exact ⟨hx, .inr ⟨g, cap, cur, rfl, hb, k.block _ _ _ _ hg h1 h2, hr⟩⟩

/-- The box, and the arcs. -/
structure EX (B k F P T : Nat) (vn vp va : Value) (A : List ArcD) (w : World) : Prop where
  box : w.heap[k]? = some (.cells #[.int .i64 F, .int .i64 P, .int .i64 T, vn, vp, va] 80 (0, 0))
  row : w.ownsRow B 62 4 va A.length (cellsA A)
  lo : B ≤ k
section
variable {B k F P T : Nat} {vn vp va va' : Value} {A Z : List ArcD} {w w3 w6 : World}
theorem EX.lt (h : EX B k F P T vn vp va A w) : k < w.heap.size := (Array.getElem?_eq_some_iff.1 h.box).1
theorem EX.call (h : EX B k F P T vn vp va A w) (hb : Below w.heap.size w w3) : EX B k F P T vn vp va A w3 :=
  ⟨(hb.block _ h.lt).trans h.box, h.row.kept (grownNT hb) (ne_noneT _), h.lo⟩
theorem EX.drew (h : EX B k F P T vn vp va A w) : EX B k F P T vn vp va A w.drew := ⟨h.box, h.row, h.lo⟩
theorem EX.cells (h : EX B k F P T vn vp va A w) : w.cell? ⟨k, 0, none⟩ = some (.int .i64 F) ∧ w.cell? ⟨k, 1, none⟩ = some (.int .i64 P) ∧ w.cell? ⟨k, 2, none⟩ = some (.int .i64 T) ∧ w.cell? ⟨k, 3, none⟩ = some vn ∧ w.cell? ⟨k, 4, none⟩ = some vp ∧ w.cell? ⟨k, 5, none⟩ = some va := by
  refine ⟨?_, ?_, ?_, ?_, ?_, ?_⟩ <;> rw [cell_of_row _ _ _ _ _ _ h.box] <;> rfl
theorem EX.free (h : EX B k F P T vn vp va A w) : w.frozen? ⟨k, 5, none⟩ = false := frozen_of_row _ _ 5 _ _ h.box
theorem EX.grown (h : EX B k F P T vn vp va A w) {o : Obj} (hg : (w.alloc o).grownBy w6 va.ownBlock) : w6.heap[k]? = some (.cells #[.int .i64 F, .int .i64 P, .int .i64 T, vn, vp, va] 80 (0, 0)) :=
  ((hg.block _ (by simp; have := h.lt; omega) (fun e => by
    rcases own_neT h.row h.box (by decide) with e2 | e2
    · rw [e2] at e
      cases e
    · exact e2 e.symm)).trans ((World.grownBy_alloc w o none).block _ h.lt (by simp))).trans h.box
theorem EX.free6 (h : EX B k F P T vn vp va A w) {o : Obj} (hg : (w.alloc o).grownBy w6 va.ownBlock) : w6.frozen? ⟨k, 5, none⟩ = false := frozen_of_row _ _ 5 _ _ (h.grown hg)
theorem EX.cell6 (h : EX B k F P T vn vp va A w) {o : Obj} (hg : (w.alloc o).grownBy w6 va.ownBlock) : w6.cell? ⟨k, 5, none⟩ = some va := by rw [cell_of_row _ _ _ _ _ _ (h.grown hg)]; rfl
/-- Arcs appended, and stored. -/
theorem EX.app (h : EX B k F P T vn vp va A w) {o : Obj} (hown : w6.ownsRow B 62 4 va' (A.length + Z.length) (cellsA A ++ cellsA Z)) (hg : (w.alloc o).grownBy w6 va.ownBlock) :
    EX B k F P T vn vp va' (A ++ Z) (w6.setCell ⟨k, 5, none⟩ va') ∧ Below B w (w6.setCell ⟨k, 5, none⟩ va') ∧ TK w (w6.setCell ⟨k, 5, none⟩ va') := by
  have hn := h.grown hg
  have hk : w6.grownBy (w6.setCell ⟨k, 5, none⟩ va') (some k) := ⟨rfl, rfl, rfl, by simp [World.setCell], fun i _ hne => heap_setCell_other _ _ _ _ (fun e => hne (by rw [e]))⟩
  have e1 : (A ++ Z).length = A.length + Z.length := List.length_append
  have e2 : cellsA (A ++ Z) = cellsA A ++ cellsA Z := by unfold cellsA; simp
  have hlo := h.lo
  have hlt := h.lt
  refine ⟨⟨heap_setCell_same w6 _ 5 _ _ va' hn, ?_, h.lo⟩, ?_, ?_, fun i cs t fr hi h1 h2 => ?_⟩
  · rw [e1, e2]
    exact hown.kept hk (own_neT hown hn (by decide))
  · have h1 : Below B w (w.alloc o) := (Below.refl B w).alloc (by omega) o
    have h2 := h1.grown hg (by simp; omega) (fun j e => by have := (h.row.lt _ e).1; omega)
    exact h2.grown hk (by have := hg.size; simp at this; omega) (fun j e => by have := Option.some.inj e; omega)
  · have := hg.size
    simp at this
    simp [World.setCell]
    omega
  · have hil := (Array.getElem?_eq_some_iff.1 hi).1
    have hik : i ≠ k := fun e => by
      subst e
      rw [h.box] at hi
      injection hi with hi
      injection hi with _ e2
      exact h2 e2.symm
    have hia : some i ≠ va.ownBlock := fun e => by
      rcases own_neT h.row hi (fun e => h1 e.symm) with e2 | e2
      · rw [e2] at e
        cases e
      · exact e2 e.symm
    rw [heap_setCell_other _ _ _ _ hik, hg.block i (by simp; omega) hia, (World.grownBy_alloc w o none).block _ hil (by simp)]
    exact hi
end

/-- The pairs' cells. -/
def pairC (L : List (Nat × Nat)) : List Value := L.flatMap fun p => [.int .i64 (p.1 : Int), .int .i64 (p.2 : Int)]
theorem pairC_len : ∀ L : List (Nat × Nat), (pairC L).length = L.length * 2
  | [] => rfl
  | p :: L => by
    have := pairC_len L
    unfold pairC at this ⊢
    simp only [List.flatMap_cons, List.length_append, List.length_cons, List.length_nil, this]
    omega
theorem pairC_at : ∀ {L : List (Nat × Nat)} {i a b : Nat}, L[i]? = some (a, b) → (pairC L)[i * 2]? = some (.int .i64 a) ∧ (pairC L)[i * 2 + 1]? = some (.int .i64 b)
  | [], i, a, b, h => by cases h
  | p :: L, 0, a, b, h => by
    simp at h
    subst h
    exact ⟨rfl, rfl⟩
  | p :: L, i + 1, a, b, h => by
    obtain ⟨h1, h2⟩ := pairC_at (L := L) (by simpa using h)
    have e : pairC (p :: L) = [.int .i64 (p.1 : Int), .int .i64 (p.2 : Int)] ++ pairC L := rfl
    rw [e, List.getElem?_append_right (by simp; omega), List.getElem?_append_right (by simp; omega)]
    simp only [List.length_cons, List.length_nil]
    rw [show (i + 1) * 2 - (0 + 1 + 1) = i * 2 by omega, show (i + 1) * 2 + 1 - (0 + 1 + 1) = i * 2 + 1 by omega]
    exact ⟨h1, h2⟩
theorem pairC_append (L M : List (Nat × Nat)) : pairC (L ++ M) = pairC L ++ pairC M := by unfold pairC; simp
def PairsAt (B : Nat) (w : World) (vp : Value) (L : List (Nat × Nat)) : Prop := w.ownsRow B 84 2 vp L.length (pairC L)

/-- A row of values; numbers in a row. -/
def rowN (S : Nat → Value) (n : Nat) : List Value := (List.range n).map S
theorem rowN_len (S : Nat → Value) (n : Nat) : (rowN S n).length = n := by simp [rowN]
theorem rowN_at (S : Nat → Value) {n c : Nat} (h : c < n) : (rowN S n)[c]? = some (S c) := by simp [rowN, h]
theorem rowN_set (S : Nat → Value) {n c : Nat} (x : Value) : (rowN S n).set c x = rowN (fun v => if v = c then x else S v) n := by
  apply List.ext_getElem?
  intro j
  rw [List.getElem?_set]
  by_cases hj : j < n
  · rw [rowN_at _ hj, rowN_at _ hj]
    by_cases e : c = j
    · subst e
      rw [if_pos rfl, if_pos (by rw [rowN_len]; exact hj), if_pos rfl]
    · rw [if_neg e, if_neg (fun h => e h.symm)]
  · have h1 : ∀ S : Nat → Value, (rowN S n)[j]? = none := fun S => List.getElem?_eq_none_iff.2 (by rw [rowN_len]; omega)
    rw [h1, h1]
    split
    · rw [if_neg (by rw [rowN_len]; omega)]
    · rfl
def natC (L : List Nat) : List Value := L.map fun j : Nat => .int .i64 (j : Int)
theorem natC_len (L : List Nat) : (natC L).length = L.length := by simp [natC]
theorem natC_at {L : List Nat} {i j : Nat} (h : L[i]? = some j) : (natC L)[i]? = some (.int .i64 j) := by unfold natC; rw [List.getElem?_map, h]; rfl
theorem natC_append (L M : List Nat) : natC (L ++ M) = natC L ++ natC M := by unfold natC; simp

/-- For each cell the list of those beside it, in memory. -/
structure NX (B : Nat) (w : World) (G n : Nat) (N : Nat → List Nat) (S : Nat → Value) : Prop where
  row : w.ownsRow B 24 1 (.slice (some ⟨G, 0, none⟩) n n) n (rowN S n)
  own : ∀ v, v < n → w.ownsRow B 3 1 (S v) (N v).length (natC (N v))
  apart : ∀ u v, u < n → v < n → u ≠ v → (S u).ownBlock = none ∨ (S u).ownBlock ≠ (S v).ownBlock
section
variable {B G n : Nat} {w w' : World} {N : Nat → List Nat} {S : Nat → Value}
theorem NX.tk (h : NX B w G n N S) (k : TK w w') : NX B w' G n N S := ⟨k.row h.row (by decide) (by decide), fun v hv => k.row (h.own v hv) (by decide) (by decide), h.apart⟩
theorem NX.kept (h : NX B w G n N S) {r : Option Nat} (k : w.grownBy w' r) (hr : ∀ g, r = some g → (∀ cs, w.heap[g]? ≠ some (.cells cs 24 (0, 0))) ∧ ∀ cs, w.heap[g]? ≠ some (.cells cs 3 (0, 0))) : NX B w' G n N S := by
  have key : ∀ {e : TypeId} {s m : Nat} {v : Value} {xs : List Value}, w.ownsRow B e s v m xs → (∀ g, r = some g → ∀ cs, w.heap[g]? ≠ some (.cells cs e (0, 0))) → w'.ownsRow B e s v m xs := fun {e s m v xs} ho hh => ho.kept k (by
    rcases ho.2 with ⟨rfl, _⟩ | ⟨g, cap, cur, rfl, _, hg, _⟩
    · exact .inl rfl
    · exact .inr fun e2 => hh g e2.symm cur hg)
  exact ⟨key h.row fun g e => (hr g e).1, fun v hv => key (h.own v hv) fun g e => (hr g e).2, h.apart⟩
theorem addr_at (g j : Nat) : (⟨g, 0, none⟩ : Addr).add j = ⟨g, j, none⟩ := by unfold Addr.add; split <;> simp_all
theorem NX.at_row (h : NX B w G n N S) {v : Nat} (hv : v < n) : w.cell? ⟨G, v, none⟩ = some (S v) := by
  have := h.row.cells (g := G) rfl v (S v) (rowN_at S hv)
  rwa [addr_at] at this
theorem NX.num (h : NX B w G n N S) {v j x g c : Nat} (hv : v < n) (hs : S v = .slice (some ⟨g, 0, none⟩) (N v).length c) (hj : (N v)[j]? = some x) : w.cell? ⟨g, j, none⟩ = some (.int .i64 x) := by
  have h1 := h.own v hv
  rw [hs] at h1
  have := h1.cells (g := g) rfl j _ (natC_at hj)
  rwa [addr_at] at this
theorem PairsAt.cells {w : World} {B g c : Nat} {L : List (Nat × Nat)} {i a b : Nat} (h : PairsAt B w (.slice (some ⟨g, 0, none⟩) L.length c) L) (hi : L[i]? = some (a, b)) : w.cell? ⟨g, i * 2, none⟩ = some (.int .i64 a) ∧ w.cell? ⟨g, i * 2 + 1, none⟩ = some (.int .i64 b) := by
  obtain ⟨h1, h2⟩ := pairC_at hi
  have k1 := World.ownsRow.cells (g := g) h rfl _ _ h1
  have k2 := World.ownsRow.cells (g := g) h rfl _ _ h2
  rw [addr_at] at k1 k2
  exact ⟨k1, k2⟩
end

end Go.Proofs.YtnbbhdbcapfbkaaDoor

namespace Go.Proofs.YtnbbhdbcapfbkaaDoor
set_option maxRecDepth 4096
open Go.ChangeShapes Go.WideShapes Go.ChangeAt Go.RowKit

/-- Row y of the array of rows. -/
def rowAt (C : ByteArray) (a b y : Nat) : ByteArray := if y < b then rowT C a y else ⟨#[]⟩
theorem rowsV_any (C : ByteArray) (a b y : Nat) (h : y < 8) : (rowsV C a b)[y]? = some (.string (rowAt C a b y)) := by
  unfold rowsV rowAt
  rw [Array.getElem?_ofFn, dif_pos h]
  dsimp only
  split <;> rfl

theorem freeVTo {W H : Int} {C : ByteArray} {z : Int} {f : Bool} (HF : Hid (freeV W H C z = f)) (h : z < 0) : false = f := by
  rw [← HF.out]
  unfold freeV cellOk
  have h1 : decide (0 ≤ z) = false := by simpa using h
  rw [h1]
  simp

set_option maxHeartbeats 1000000 in
theorem stepFree (a b : Nat) (C : ByteArray) (x y : Int) (f : Bool) (hg : gok a b C = true) (HF : Hid (freeV a b C (cellAtV a b C x y) = f)) (w : World) :
    Calls Tryd.prog 75 #[.agg (rowsV C a b), .int .i64 x, .int .i64 y] w (Made w (.bool f)) := by
  obtain ⟨⟨⟨h1, h2⟩, ⟨h3, h4⟩, hs⟩, _⟩ := gok_out hg
  have hs2 : C.size = a * b := by have : ((a * b : Nat) : Int) = (a : Int) * (b : Int) := Int.natCast_mul a b; omega
  have hB := (Below.refl w.heap.size w).alloc (Nat.le_refl _) (.cells (rowsV C a b) 106)
  have HG := Lib.hid hg
  have HS2 := Lib.hid hs2
  clear hs hs2 hg
  by_cases hy0 : 0 ≤ y
  · by_cases hy8 : y < 8
    · obtain ⟨Y, rfl⟩ : ∃ Y : Nat, y = Y := ⟨y.toNat, by omega⟩
      by_cases hx0 : 0 ≤ x
      · obtain ⟨X, rfl⟩ : ∃ X : Nat, x = X := ⟨x.toNat, by omega⟩
        obtain ⟨r, HR⟩ : ∃ r, Hid (rowAt C a b Y = r) := ⟨_, rfl⟩
        have d1 : (w.alloc (.cells (rowsV C a b) 106)).cell? ⟨w.heap.size, Y, none⟩ = some (.string r) := by
          rw [cell_of_row _ _ _ _ _ _ (heap_alloc_new w _), rowsV_any C a b Y (by omega), HR.out]
        by_cases hx : (X : Int) < (r.size : Int)
        · have hYb : Y < b := by
            rcases Nat.lt_or_ge Y b with h | h
            · exact h
            · have e := HR.out; unfold rowAt at e; rw [if_neg (by omega)] at e; rw [← e] at hx; have : (X : Int) < 0 := hx; omega
          have hrT : rowT C a Y = r := by have e := HR.out; unfold rowAt at e; rwa [if_pos hYb] at e
          have hle : (Y + 1) * a ≤ C.size := by rw [HS2.out, Nat.mul_comm a b]; exact Nat.mul_le_mul_right a (by omega)
          have hrs : r.size = a := by rw [← hrT]; exact row_size C a Y hle
          have hlt : Y * a + X < C.size := by rw [Nat.add_mul, Nat.one_mul] at hle; omega
          have hz : cellAtV a b C X Y = ((Y * a + X : Nat) : Int) := by
            rw [cellAtV_yes ⟨HG.out, ⟨by omega, by omega⟩, by omega, by omega⟩, Int.natCast_add, Int.natCast_mul]
          have HP : Hid (freeB (byteAt r X) = f) := Lib.hid (by
            rw [← HF.out, hz, freeV_at HG.out hlt, ← hrT, row_byte C a Y X hle (by omega)])
          clear hrT hle hlt hz
          go_enter Tryd.func75, Tryd.ntmps75
          go_wp2_with (go_at_call 66; (with_reducible refine (freeTo _ _ X f HP rfl (by omega) _).mono ?_); rintro e w2 ⟨rfl, rfl⟩)
          go_ret
          exact ⟨rfl, hB⟩
        · have HN : Hid (false = f) := Lib.hid (by
            refine freeVTo HF ?_
            rw [cellAtV_no (fun h => ?_)]
            · decide
            · have hYb : Y < b := by omega
              have hrT : rowT C a Y = r := by have e := HR.out; unfold rowAt at e; rwa [if_pos hYb] at e
              have hle : (Y + 1) * a ≤ C.size := by rw [HS2.out, Nat.mul_comm a b]; exact Nat.mul_le_mul_right a (by omega)
              have hrs : r.size = a := by rw [← hrT]; exact row_size C a Y hle
              omega)
          go_enter Tryd.func75, Tryd.ntmps75
          go_wp2
          go_ret
          exact ⟨bool_ret HN.out rfl, hB⟩
      · have HN : Hid (false = f) := Lib.hid (freeVTo HF (by rw [cellAtV_no (fun h => by omega)]; decide))
        go_enter Tryd.func75, Tryd.ntmps75
        go_wp2
        go_ret
        exact ⟨bool_ret HN.out rfl, hB⟩
    · have HN : Hid (false = f) := Lib.hid (freeVTo HF (by rw [cellAtV_no (fun h => by omega)]; decide))
      go_enter Tryd.func75, Tryd.ntmps75
      go_wp2
      go_ret
      exact ⟨bool_ret HN.out rfl, hB⟩
  · have HN : Hid (false = f) := Lib.hid (freeVTo HF (by rw [cellAtV_no (fun h => by omega)]; decide))
    go_enter Tryd.func75, Tryd.ntmps75
    go_wp2
    go_ret
    exact ⟨bool_ret HN.out rfl, hB⟩

end Go.Proofs.YtnbbhdbcapfbkaaDoor

