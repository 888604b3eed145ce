/-
  The arcs of the network in time, as far as they are listed at each point of TimeNet's loops. Plain facts; no statement is proved here.
  Rows of arcs in memory. Plain facts; no statement is proved here.
  What TimeNet and CanAt hand back. No statement is proved here.
  The memory in which TimeNet lists its arcs. No statement is proved here.
-/
import Derived.Test.YtcagaolichgogaaDoorZWO11
import Derived.Test.YtcagaolichgogaaDoorZWO02
import Derived.Test.YtcagaolichgogaaDoorZWO00
import Derived.Laws.OwnMore
import Derived.Deep.AppendLies
namespace Go.Proofs.YtcagaolichgogaaDoor
set_option maxRecDepth 4096

section
variable (m : MapD) (sl : List Nat) (gl : Nat → Bool) (T : Nat) (strict : Bool)
def startA (k : Nat) : ArcD := ⟨0, (inN m.F k 0 : Nat), 1, 0⟩
def endA (k : Nat) : ArcD := ⟨(inN m.F k T + 1 : Nat), (if gl k = true then 1 else 2 : Nat), 1, 0⟩
/-- All that is listed before time t. -/
def layT (t : Nat) : List ArcD := sl.map (startA m) ++ (List.range t).flatMap (layA m T strict)
def celT (t i : Nat) : List ArcD := layT m sl T strict t ++ (List.range i).flatMap (cellA m T t strict)
/-- A cell's arc to itself, a cell's arc into the next time. -/
def arcI (t k : Nat) : ArcD := ⟨(inN m.F k t : Nat), (inN m.F k t + 1 : Nat), 1, 0⟩
def arcW (t k j : Nat) (c : Int) : ArcD := ⟨(inN m.F k t + 1 : Nat), (inN m.F j (t + 1) : Nat), 1, c⟩
/-- The pairs before the one of cells i and k. -/
def pairsTo (i k : Nat) : List (Nat × Nat) :=
  ((List.range i).flatMap fun i => ((List.range m.F).filter fun k => decide (i < k) && adjB m i k).map fun k => (i, k)) ++ ((List.range k).filter fun k => decide (i < k) && adjB m i k).map fun k => (i, k)
def fiveA (t p a b : Nat) : List ArcD := [⟨(inN m.F a t + 1 : Nat), (p : Nat), 1, 0⟩, ⟨(inN m.F b t + 1 : Nat), (p : Nat), 1, 0⟩, ⟨(p : Nat), (p + 1 : Nat), 1, 1⟩, ⟨(p + 1 : Nat), (inN m.F a (t + 1) : Nat), 1, 0⟩, ⟨(p + 1 : Nat), (inN m.F b (t + 1) : Nat), 1, 0⟩]
def pairP (t : Nat) : Nat := baseN m T + 2 * t * m.pl.length
def parT (t i k : Nat) : List ArcD := celT m sl T strict t m.F ++ pairA m t (pairP m T t) (pairsTo m i k)
def endT (i : Nat) : List ArcD := layT m sl T strict (T + 1) ++ (List.range i).map (endA m gl T)
end
section
variable {m : MapD} {sl : List Nat} {gl : Nat → Bool} {T t i k : Nat} {strict : Bool} {R : Int}
theorem layT_zero : layT m sl T strict 0 = sl.map (startA m) := by simp [layT]
theorem layT_succ : layT m sl T strict (t + 1) = celT m sl T strict t m.F ++ (if t = T ∨ strict = false then [] else pairA m t (pairP m T t) m.pl) := by
  unfold layT celT
  rw [List.range_succ, List.flatMap_append]
  simp only [List.flatMap_cons, List.flatMap_nil, List.append_nil]
  rw [layA, ← List.append_assoc, ← List.append_assoc]
  rfl
theorem celT_zero : celT m sl T strict t 0 = layT m sl T strict t := by simp [celT]
theorem celT_succ : celT m sl T strict t (i + 1) = celT m sl T strict t i ++ cellA m T t strict i := by
  unfold celT
  rw [List.range_succ, List.flatMap_append, List.append_assoc]
  simp
theorem cellA_last : cellA m T T strict i = [arcI m T i] := by
  unfold cellA
  rw [if_pos rfl]
  rfl
theorem cellA_strict (ht : t ≠ T) : cellA m T t true i = [arcI m t i, arcW m t i i 0] := by
  unfold cellA
  rw [if_neg ht, if_pos rfl]
  rfl
theorem cellA_plain (ht : t ≠ T) : cellA m T t false i = arcI m t i :: arcW m t i i 0 :: (m.ar i).map fun j => arcW m t i j 1 := by
  unfold cellA
  rw [if_neg ht, if_neg (by decide)]
  rfl
theorem pairsTo_start : pairsTo m 0 0 = [] := by simp [pairsTo]
theorem pairsTo_pl : pairsTo m m.F 0 = m.pl := by simp [pairsTo, MapD.pl]
theorem pairsTo_row : pairsTo m i m.F = pairsTo m (i + 1) 0 := by
  unfold pairsTo
  rw [List.range_succ, List.flatMap_append]
  simp
theorem pairsTo_low : pairsTo m i (i + 1) = pairsTo m i 0 := by
  unfold pairsTo
  have e : ((List.range (i + 1)).filter fun k => decide (i < k) && adjB m i k) = [] := by
    rw [List.filter_eq_nil_iff]
    intro k hk
    have := List.mem_range.1 hk
    rw [decide_eq_false (by omega)]
    simp
  rw [e]
  simp
theorem pairsTo_yes (h : i < k) (ha : adjB m i k = true) : pairsTo m i (k + 1) = pairsTo m i k ++ [(i, k)] := by
  unfold pairsTo
  rw [List.range_succ, List.filter_append, List.map_append, List.append_assoc]
  simp [h, ha]
theorem pairsTo_no (ha : adjB m i k = false) : pairsTo m i (k + 1) = pairsTo m i k := by
  unfold pairsTo
  rw [List.range_succ, List.filter_append, List.map_append]
  simp [ha]
theorem pairA_snoc : ∀ (L : List (Nat × Nat)) (p a b : Nat), pairA m t p (L ++ [(a, b)]) = pairA m t p L ++ fiveA m t (p + 2 * L.length) a b
  | [], p, a, b => rfl
  | (c, d) :: L, p, a, b => by
    simp only [List.cons_append, pairA, pairA_snoc L, List.length_cons]
    rw [show p + 2 + 2 * L.length = p + 2 * (L.length + 1) by omega]
theorem parT_start : parT m sl T strict t 0 0 = celT m sl T strict t m.F := by
  unfold parT
  rw [pairsTo_start]
  simp [pairA]
theorem parT_end (ht : t ≠ T) : parT m sl T true t m.F 0 = layT m sl T true (t + 1) := by
  unfold parT
  rw [pairsTo_pl, layT_succ, if_neg (by simp [ht])]
theorem parT_row : parT m sl T strict t i m.F = parT m sl T strict t (i + 1) 0 := by unfold parT; rw [pairsTo_row]
theorem parT_low : parT m sl T strict t i (i + 1) = parT m sl T strict t i 0 := by unfold parT; rw [pairsTo_low]
theorem parT_no (ha : adjB m i k = false) : parT m sl T strict t i (k + 1) = parT m sl T strict t i k := by unfold parT; rw [pairsTo_no ha]
theorem parT_yes (h : i < k) (ha : adjB m i k = true) : parT m sl T strict t i (k + 1) = parT m sl T strict t i k ++ fiveA m t (pairP m T t + 2 * (pairsTo m i k).length) i k := by
  unfold parT
  rw [pairsTo_yes h ha, pairA_snoc, List.append_assoc]
theorem layT_skip (h : t = T ∨ strict = false) : layT m sl T strict (t + 1) = celT m sl T strict t m.F := by
  rw [layT_succ, if_pos h, List.append_nil]
theorem endT_zero : endT m sl gl T strict 0 = layT m sl T strict (T + 1) := by simp [endT]
theorem endT_succ : endT m sl gl T strict (i + 1) = endT m sl gl T strict i ++ [endA m gl T i] := by
  unfold endT
  rw [List.range_succ, List.map_append, List.append_assoc]
  rfl
theorem endT_all : timeA m sl gl R T strict = endT m sl gl T strict m.F ++ [⟨2, 1, R, 0⟩] := by
  unfold timeA endT layT
  rw [List.append_assoc, List.append_assoc]
  rfl
/-- The pairs are a beginning of all of them. -/
theorem pairsTo_len (hi : i ≤ m.F) (hk : k ≤ m.F) (h0 : i = m.F → k = 0) : (pairsTo m i k).length ≤ m.pl.length := by
  have h1 : ∀ j, j ≤ m.F → (pairsTo m j 0).length ≤ (pairsTo m m.F 0).length := by
    intro j hj
    obtain ⟨d, hd⟩ : ∃ d, m.F = j + d := ⟨m.F - j, by omega⟩
    unfold pairsTo
    simp only [List.range_zero, List.filter_nil, List.map_nil, List.append_nil]
    generalize (fun i => ((List.range m.F).filter fun k => decide (i < k) && adjB m i k).map fun k => (i, k)) = f
    rw [hd, List.range_add, List.flatMap_append, List.length_append]
    omega
  rw [← pairsTo_pl]
  rcases Nat.lt_or_ge i m.F with hlt | hge
  · have h2 := h1 (i + 1) hlt
    refine Nat.le_trans ?_ h2
    rw [← pairsTo_row]
    obtain ⟨d, hd⟩ : ∃ d, m.F = k + d := ⟨m.F - k, by omega⟩
    unfold pairsTo
    generalize ((List.range i).flatMap fun i => ((List.range m.F).filter fun k => decide (i < k) && adjB m i k).map fun k => (i, k)) = f
    rw [hd, List.range_add, List.filter_append, List.map_append, List.length_append, List.length_append, List.length_append]
    omega
  · have e : i = m.F := by omega
    have e2 := h0 e
    subst e e2
    exact Nat.le_refl _
theorem pairA_len : ∀ (L : List (Nat × Nat)) (p : Nat), (pairA m t p L).length = 5 * L.length
  | [], _ => rfl
  | (a, b) :: L, p => by
    simp only [pairA, List.length_cons, pairA_len L]
    omega
theorem cellA_len (h4 : ∀ i, (m.ar i).length ≤ 4) : (cellA m T t strict i).length ≤ 6 := by
  have := h4 i
  unfold cellA
  split
  · simp
  · split <;> simp <;> omega
theorem celT_len (h4 : ∀ i, (m.ar i).length ≤ 4) : ∀ i, (celT m sl T strict t i).length ≤ (layT m sl T strict t).length + 6 * i
  | 0 => by rw [celT_zero]; omega
  | i + 1 => by
    have h1 := celT_len h4 i
    have h2 := cellA_len (T := T) (t := t) (i := i) (strict := strict) h4
    rw [celT_succ, List.length_append]
    omega
theorem layT_len (h4 : ∀ i, (m.ar i).length ≤ 4) (hF : m.F ≤ 240) (hp : m.pl.length ≤ 480) : ∀ t, (layT m sl T strict t).length ≤ sl.length + 4000 * t
  | 0 => by rw [layT_zero, List.length_map]; omega
  | t + 1 => by
    have h1 := layT_len h4 hF hp t
    have h2 := celT_len (sl := sl) (T := T) (t := t) (strict := strict) h4 m.F
    rw [layT_succ, List.length_append]
    split
    · simp only [List.length_nil]; omega
    · rw [pairA_len]; omega
theorem parT_len (h4 : ∀ i, (m.ar i).length ≤ 4) (hF : m.F ≤ 240) (hp : m.pl.length ≤ 480) : (parT m sl T strict t i k).length ≤ sl.length + 4000 * t + 1440 + 5 * (pairsTo m i k).length := by
  have h1 := layT_len (sl := sl) (T := T) (strict := strict) h4 hF hp t
  have h2 := celT_len (sl := sl) (T := T) (t := t) (strict := strict) h4 m.F
  unfold parT
  rw [List.length_append, pairA_len]
  omega
theorem endT_len (h4 : ∀ i, (m.ar i).length ≤ 4) (hF : m.F ≤ 240) (hp : m.pl.length ≤ 480) : (endT m sl gl T strict i).length ≤ sl.length + 4000 * (T + 1) + i := by
  have h1 := layT_len (sl := sl) (T := T) (strict := strict) h4 hF hp (T + 1)
  unfold endT
  rw [List.length_append, List.length_map, List.length_range]
  omega
end

end Go.Proofs.YtcagaolichgogaaDoor

namespace Go.Proofs.YtcagaolichgogaaDoor
set_option maxRecDepth 4096
open Go.ChangeShapes Go.WideShapes Go.ChangeAt Go.RowKit

theorem Tryd.infoArc : (Tryd.prog.info? 69).map (fun i => (i.zero, i.size, i.bytes)) = some (some (.agg #[.int .i64 0, .int .i64 0, .int .i64 0, .int .i64 0]), 4, 32) := by kernel_rfl

/-- An argument that is a slice of arcs: nil or empty, or somewhere in a block. -/
def ArgA (w : World) (v : Value) (A : List ArcD) : Prop :=
  ∃ a c, v = .slice a A.length c ∧ (A.length = 0 ∨ ∃ b, a = some b ∧ b.block < w.heap.size ∧ ∀ (j : Nat) x, A[j]? = some x →
    w.cell? (b.add (j * 4)) = some (.int .i64 x.f) ∧ w.cell? (b.add (j * 4 + 1)) = some (.int .i64 x.t) ∧ w.cell? (b.add (j * 4 + 2)) = some (.int .i64 x.r) ∧ w.cell? (b.add (j * 4 + 3)) = some (.int .i64 x.c))
theorem add_block (b : Addr) (j : Nat) : (b.add j).block = b.block := by unfold Addr.add; split <;> rfl
theorem add_next (b : Addr) (m j : Nat) : (⟨(b.add m).block, (b.add m).off + (j + 1), none⟩ : Addr) = b.add (m + (j + 1)) := by
  unfold Addr.add
  split
  · rename_i h; subst h; simp
  · simp [Nat.add_assoc]
theorem argA_below {w w1 : World} {v : Value} {A : List ArcD} (h : ArgA w v A) (hb : Below w.heap.size w w1) : ArgA w1 v A := by
  obtain ⟨a, c, hv, hh⟩ := h
  refine ⟨a, c, hv, ?_⟩
  rcases hh with h0 | ⟨b, ha, hlt, hc⟩
  · exact .inl h0
  · refine .inr ⟨b, ha, Nat.lt_of_lt_of_le hlt hb.size, fun j x hx => ?_⟩
    obtain ⟨h1, h2, h3, h4⟩ := hc j x hx
    exact ⟨(hb.cell (p := b.add _) (by rw [add_block]; exact hlt)).trans h1, (hb.cell (p := b.add _) (by rw [add_block]; exact hlt)).trans h2, (hb.cell (p := b.add _) (by rw [add_block]; exact hlt)).trans h3, (hb.cell (p := b.add _) (by rw [add_block]; exact hlt)).trans h4⟩

/-- The cells of arcs. -/
def cellsA (A : List ArcD) : List Value := A.flatMap arcC
theorem cellsA_len : ∀ A : List ArcD, (cellsA A).length = A.length * 4
  | [] => rfl
  | x :: A => by
    have := cellsA_len A
    unfold cellsA at this ⊢
    rw [List.flatMap_cons, List.length_append, this, List.length_cons]
    show 4 + _ = _
    omega
theorem cellsA_snoc {A : List ArcD} {k : Nat} {x : ArcD} (h : A[k]? = some x) : cellsA (A.take (k + 1)) = cellsA (A.take k) ++ arcC x := by
  obtain ⟨hi, rfl⟩ := List.getElem?_eq_some_iff.1 h
  rw [List.take_succ_eq_append_getElem hi]
  unfold cellsA
  rw [List.flatMap_append, List.flatMap_cons, List.flatMap_nil, List.append_nil]
theorem cellsA_at {A : List ArcD} {k i : Nat} {x : ArcD} (h : A[k]? = some x) (hi : i < 4) : (cellsA A)[k * 4 + i]? = (arcC x)[i]? := by
  obtain ⟨hk, rfl⟩ := List.getElem?_eq_some_iff.1 h
  have e : cellsA A = cellsA (A.take k) ++ (arcC A[k] ++ cellsA (A.drop (k + 1))) := by
    unfold cellsA
    rw [← List.flatMap_cons, ← List.drop_eq_getElem_cons hk, ← List.flatMap_append, List.take_append_drop]
  have hl : (cellsA (A.take k)).length = k * 4 := by rw [cellsA_len, List.length_take]; omega
  rw [e, List.getElem?_append_right (by omega), hl, Nat.add_sub_cancel_left, List.getElem?_append_left (by show i < 4; exact hi)]
/-- Four cells are written anew. -/
theorem set_four {pre post : List Value} {u0 u1 u2 u3 a b c d : Value} {m : Nat} (hm : pre.length = m) :
    ((((pre ++ u0 :: u1 :: u2 :: u3 :: post).set m a).set (m + 1) b).set (m + 2) c).set (m + 3) d = pre ++ [a, b, c, d] ++ post := by
  subst hm
  simp
theorem drop_four {xs : List Value} {m : Nat} (h : m + 4 ≤ xs.length) : ∃ u0 u1 u2 u3, xs.drop m = u0 :: u1 :: u2 :: u3 :: xs.drop (m + 4) := by
  refine ⟨xs[m], xs[m + 1], xs[m + 2], xs[m + 3], ?_⟩
  rw [List.drop_eq_getElem_cons (by omega), List.drop_eq_getElem_cons (by omega), List.drop_eq_getElem_cons (by omega), List.drop_eq_getElem_cons (by omega)]
theorem arcs_step {A : List ArcD} {k : Nat} {x : ArcD} {xs : List Value} (hx : A[k]? = some x) (h : xs.length = A.length * 4) :
    ((((cellsA (A.take k) ++ xs.drop (k * 4)).set (k * 4) (.int .i64 x.f)).set (k * 4 + 1) (.int .i64 x.t)).set (k * 4 + 2) (.int .i64 x.r)).set (k * 4 + 3) (.int .i64 x.c) = cellsA (A.take (k + 1)) ++ xs.drop ((k + 1) * 4) := by
  have hk := (List.getElem?_eq_some_iff.1 hx).1
  obtain ⟨u0, u1, u2, u3, e⟩ := drop_four (xs := xs) (m := k * 4) (by omega)
  rw [e, set_four (by rw [cellsA_len, List.length_take]; omega), cellsA_snoc hx]
  have e2 : (k + 1) * 4 = k * 4 + 4 := by omega
  rw [e2]
  rfl

/-- The list of arcs came back in memory of the call's own. -/
def ArcsBack (w : World) (A : List ArcD) (e : Ending) (w' : World) : Prop :=
  ∃ v, e = .returned v ∧ w'.ownsRow w.heap.size 69 4 v A.length (cellsA A) ∧ Below w.heap.size w w'
theorem arcs_of_own {w : World} {B : Nat} {e : TypeId} {v : Value} {A : List ArcD} (h : w.ownsRow B e 4 v A.length (cellsA A)) : Arcs w v A := by
  rcases h.2 with ⟨rfl, h0⟩ | ⟨g, cap, cur, rfl, _, hh, _⟩
  · exact .inl ⟨List.eq_nil_of_length_eq_zero h0, _, _, rfl⟩
  · refine .inr ⟨g, cap, rfl, (Array.getElem?_eq_some_iff.1 hh).1, fun j x hx => ?_⟩
    have key : ∀ i u, i < 4 → (arcC x)[i]? = some u → w.cell? ⟨g, j * 4 + i, none⟩ = some u := fun i u hi hu => by
      have := h.cells (g := g) rfl (j * 4 + i) u (by rw [cellsA_at hx hi]; exact hu)
      have hadd : (⟨g, 0, none⟩ : Addr).add (j * 4 + i) = ⟨g, j * 4 + i, none⟩ := by unfold Addr.add; split <;> simp_all
      rwa [hadd] at this
    exact ⟨key 0 _ (by decide) rfl, key 1 _ (by decide) rfl, key 2 _ (by decide) rfl, key 3 _ (by decide) rfl⟩
theorem own_cell4 {w : World} {B : Nat} {e : TypeId} {g n c j : Nat} {xs : List Value} (h : w.ownsRow B e 4 (.slice (some ⟨g, 0, none⟩) n c) n xs) (hj : j < n * 4) : ∃ u, w.cell? ⟨g, j, none⟩ = some u := by
  have hl : j < xs.length := by have := h.1; omega
  have := h.cells (g := g) rfl j xs[j] (List.getElem?_eq_getElem hl)
  have hadd : (⟨g, 0, none⟩ : Addr).add j = ⟨g, j, none⟩ := by unfold Addr.add; split <;> simp_all
  rw [hadd] at this
  exact ⟨_, this⟩

/-- The net came back, its arcs in memory of the call's own. -/
def NetBack (w : World) (N : Int) (A : List ArcD) (e : Ending) (w' : World) : Prop :=
  ∃ v, e = .returned (.agg #[.int .i64 N, v]) ∧ w'.ownsRow w.heap.size 69 4 v A.length (cellsA A) ∧ Below w.heap.size w w'

theorem own_set {w : World} {B r i s : Nat} {e : TypeId} {n : Nat} {v u : Value} {xs : List Value} (h : w.ownsRow B e s v n xs) (hr : r < B) : (w.setCell ⟨r, i, none⟩ u).ownsRow B e s v n xs := by
  have hg : w.grownBy (w.setCell ⟨r, i, none⟩ u) (some r) := ⟨rfl, rfl, rfl, by simp [World.setCell], fun k _ hk => heap_setCell_other w ⟨r, i, none⟩ k u (fun e => hk (by simp [e]))⟩
  refine h.kept hg ?_
  cases hv : v.ownBlock with
  | none => exact .inl rfl
  | some j => exact .inr (fun e => by have := (h.lt j hv).1; have := Option.some.inj e; omega)
/-- A block that a call has left as it was. -/
theorem old_block {wa w3 : World} {c0 c1 : Value} {t : TypeId} {m : Nat} (hb : Below wa.heap.size wa w3) (h : wa.heap[m]? = some (.cells #[c0, c1] t (0, 0))) :
    w3.cell? ⟨m, 0, none⟩ = some c0 ∧ w3.cell? ⟨m, 1, none⟩ = some c1 ∧ w3.frozen? ⟨m, 0, none⟩ = false ∧ w3.frozen? ⟨m, 1, none⟩ = false := by
  have h3 : w3.heap[m]? = some (.cells #[c0, c1] t (0, 0)) := (hb.block m (Array.getElem?_eq_some_iff.1 h).1).trans h
  refine ⟨?_, ?_, ?_, ?_⟩
  · rw [cell_of_row _ _ _ _ _ _ h3]; rfl
  · rw [cell_of_row _ _ _ _ _ _ h3]; rfl
  · simp [World.frozen?, h3]
  · simp [World.frozen?, h3]

end Go.Proofs.YtcagaolichgogaaDoor

namespace Go.Proofs.YtcagaolichgogaaDoor
set_option maxRecDepth 4096
open Go.ChangeShapes Go.WideShapes Go.ChangeAt Go.RowKit

/-- A net and a Boolean came back, the net's arcs in memory of the call's own. -/
def TimeBack (w : World) (N : Int) (A : List ArcD) (b : Bool) (e : Ending) (w' : World) : Prop :=
  ∃ v, e = .returned (.tuple #[.agg #[.int .i64 N, v], .bool b]) ∧ w'.ownsRow w.heap.size 69 4 v A.length (cellsA A) ∧ Below w.heap.size w w'
noncomputable def timeNV (W H : Int) (C : ByteArray) (S G : List Int) (T : Int) (strict : Bool) : Int := if askV W H C S G T = true then (nodesG W H C T.toNat strict : Nat) else 0
noncomputable def timeAV (W H : Int) (C : ByteArray) (S G : List Int) (T : Int) (strict : Bool) : List ArcD := if askV W H C S G T = true then netG W H C S G T.toNat strict else []
noncomputable def canV (W H : Int) (C : ByteArray) (S G : List Int) (T : Int) : Bool := askV W H C S G T && decide (mostS (timeNV W H C S G T false) (timeAV W H C S G T false) = (S.length : Int))
theorem timeAV_len {W H : Int} {C : ByteArray} {S G : List Int} {T : Int} {strict : Bool} : (timeAV W H C S G T strict).length ≤ 3200 := by
  unfold timeAV
  split
  · rename_i h
    obtain ⟨t, rfl, hd⟩ := ask_out h
    have h2 := netG_ok (strict := strict) hd
    unfold netOkV at h2
    simp only [Bool.and_eq_true, decide_eq_true_eq] at h2
    exact h2.2.1
  · exact Nat.zero_le _

end Go.Proofs.YtcagaolichgogaaDoor

namespace Go.Proofs.YtcagaolichgogaaDoor
set_option maxRecDepth 4096
open Go.ChangeShapes Go.WideShapes Go.ChangeAt Go.RowKit

theorem Tryd.infoArcT : (Tryd.prog.info? 69).map (fun i => (i.zero, i.size, i.bytes)) = some (some (.agg #[.int .i64 0, .int .i64 0, .int .i64 0, .int .i64 0]), 4, 32) := by kernel_rfl
theorem arcs_newT (w : World) (Z : List ArcD) (cs : Array Value) (hcs : cs.toList = cellsA Z) (t : TypeId) : ∀ j u, (cellsA Z)[j]? = some u → (w.alloc (.cells cs t)).cell? ((⟨w.heap.size, 0, none⟩ : Addr).add j) = some u := by
  intro j u h
  have hadd : (⟨w.heap.size, 0, none⟩ : Addr).add j = ⟨w.heap.size, j, none⟩ := by unfold Addr.add; split <;> simp_all
  rw [hadd, World.cell?_alloc_mark]
  rw [← hcs] at h
  simpa using h
theorem arcs_oneT (Z : List ArcD) : ∀ u ∈ cellsA Z, u.oneCell' = true := by
  intro u hu
  obtain ⟨x, _, hx⟩ := List.mem_flatMap.1 hu
  simp [arcC] at hx
  rcases hx with rfl | rfl | rfl | rfl <;> rfl
theorem grownNT {w w' : World} (h : Below w.heap.size w w') : w.grownBy w' none := ⟨h.os, h.tape, h.output, h.size, fun i hi _ => h.block i hi⟩
theorem ne_noneT (v : Value) : v.ownBlock = none ∨ v.ownBlock ≠ none := by cases h : v.ownBlock <;> simp

structure NB (w9 : World) (N : Int) (va : Value) (A : List ArcD) (wr : World) : Prop where
  net : wr.heap[w9.heap.size]? = some (.cells #[.int .i64 N, va] 45 (0, 0))
  row : wr.ownsRow (w9.heap.size + 1) 69 4 va A.length (cellsA A)
  below : Below w9.heap.size w9 wr
section
variable {w9 wr w3 w6 : World} {N : Int} {va va' : Value} {A Z : List ArcD}
theorem NB.lt (h : NB w9 N va A wr) : w9.heap.size + 1 ≤ wr.heap.size := (Array.getElem?_eq_some_iff.1 h.net).1
theorem NB.call (h : NB w9 N va A wr) (hb : Below wr.heap.size wr w3) : NB w9 N va A w3 :=
  ⟨(hb.block _ (Array.getElem?_eq_some_iff.1 h.net).1).trans h.net, h.row.kept (grownNT hb) (ne_noneT _), h.below.trans (hb.mono (Nat.le_of_lt h.lt))⟩
theorem NB.drew (h : NB w9 N va A wr) : NB w9 N va A wr.drew := ⟨h.net, h.row, h.below.drew⟩
theorem NB.drewN (h : NB w9 N va A wr) (n : Nat) : NB w9 N va A (wr.drewN n) := ⟨h.net, h.row, ⟨h.below.os, h.below.tape, h.below.output, h.below.size, h.below.block⟩⟩
theorem NB.alloc (h : NB w9 N va A wr) (o : Obj) : NB w9 N va A (wr.alloc o) :=
  ⟨((World.grownBy_alloc wr o none).block _ (by have := h.lt; omega) (by simp)).trans h.net, h.row.alloc o, h.below.alloc (by have := h.lt; omega) o⟩
theorem NB.start (w9 : World) (N : Int) : NB w9 N (.slice none 0 0) [] (w9.alloc (.cells #[.int .i64 N, .slice none 0 0] 45)) :=
  ⟨heap_alloc_new w9 _, World.ownsRow_nil _ _ _ _, (Below.refl _ _).alloc (Nat.le_refl _) _⟩
theorem NB.c0 (h : NB w9 N va A wr) : wr.cell? ⟨w9.heap.size, 0, none⟩ = some (.int .i64 N) := by rw [cell_of_row _ _ _ _ _ _ h.net]; rfl
theorem NB.c1 (h : NB w9 N va A wr) : wr.cell? ⟨w9.heap.size, 1, none⟩ = some va := by rw [cell_of_row _ _ _ _ _ _ h.net]; rfl
theorem NB.f0 (h : NB w9 N va A wr) : wr.frozen? ⟨w9.heap.size, 0, none⟩ = false := frozen_of_row _ _ 0 _ _ h.net
theorem NB.f1 (h : NB w9 N va A wr) : wr.frozen? ⟨w9.heap.size, 1, none⟩ = false := frozen_of_row _ _ 1 _ _ h.net
theorem NB.grown (h : NB w9 N va A wr) {o : Obj} (hg : (wr.alloc o).grownBy w6 va.ownBlock) : w6.heap[w9.heap.size]? = some (.cells #[.int .i64 N, va] 45 (0, 0)) :=
  ((hg.block _ (by simp; have := h.lt; omega) (fun e => by have := (h.row.lt _ e.symm).1; omega)).trans ((World.grownBy_alloc wr o none).block _ (by have := h.lt; omega) (by simp))).trans h.net
theorem NB.g1 (h : NB w9 N va A wr) {o : Obj} (hg : (wr.alloc o).grownBy w6 va.ownBlock) : w6.cell? ⟨w9.heap.size, 1, none⟩ = some va := by rw [cell_of_row _ _ _ _ _ _ (h.grown hg)]; rfl
theorem NB.k1 (h : NB w9 N va A wr) {o : Obj} (hg : (wr.alloc o).grownBy w6 va.ownBlock) : w6.frozen? ⟨w9.heap.size, 1, none⟩ = false := frozen_of_row _ _ 1 _ _ (h.grown hg)
theorem NB.below6 (h : NB w9 N va A wr) {o : Obj} (hg : (wr.alloc o).grownBy w6 va.ownBlock) : Below w9.heap.size w9 w6 :=
  (h.alloc o).below.grown hg (by have := (h.alloc o).lt; omega) (fun j e => by have := (h.row.lt _ e).1; omega)
/-- Arcs appended, and stored. -/
theorem NB.app (h : NB w9 N va A wr) {o : Obj} (hown : w6.ownsRow (w9.heap.size + 1) 69 4 va' (A.length + Z.length) (cellsA A ++ cellsA Z)) (hg : (wr.alloc o).grownBy w6 va.ownBlock) :
    NB w9 N va' (A ++ Z) (w6.setCell ⟨w9.heap.size, 1, none⟩ va') := by
  have hn := h.grown hg
  have k : w6.grownBy (w6.setCell ⟨w9.heap.size, 1, none⟩ va') (some w9.heap.size) := ⟨rfl, rfl, rfl, by simp [World.setCell], fun i _ hne => heap_setCell_other _ _ _ _ (fun e => hne (by rw [e]))⟩
  have e1 : (A ++ Z).length = A.length + Z.length := List.length_append
  have e2 : cellsA (A ++ Z) = cellsA A ++ cellsA Z := by unfold cellsA; simp
  refine ⟨heap_setCell_same w6 _ 1 _ _ va' hn, ?_, ?_⟩
  · rw [e1, e2]
    exact hown.kept k (.inr fun e => by have := (hown.lt _ e).1; omega)
  · have h1 : Below w9.heap.size w9 (wr.alloc o) := h.below.alloc (by have := h.lt; omega) o
    have h2 := h1.grown hg (by simp; have := h.lt; omega) (fun j e => by have := (h.row.lt _ e).1; omega)
    exact h2.grown k (by have := hg.size; simp at this; have := h.lt; omega) (fun j e => by have := Option.some.inj e; omega)
theorem NB.nodes (h : NB w9 N va A wr) (M : Int) : NB w9 M va A (wr.setCell ⟨w9.heap.size, 0, none⟩ (.int .i64 M)) := by
  have k : wr.grownBy (wr.setCell ⟨w9.heap.size, 0, none⟩ (.int .i64 M)) (some w9.heap.size) := ⟨rfl, rfl, rfl, by simp [World.setCell], fun i _ hne => heap_setCell_other _ _ _ _ (fun e => hne (by rw [e]))⟩
  exact ⟨heap_setCell_same wr _ 0 _ _ _ h.net, h.row.kept k (.inr fun e => by have := (h.row.lt _ e).1; omega), h.below.grown k (by have := h.lt; omega) (fun j e => by have := Option.some.inj e; omega)⟩
theorem own_neT {w : World} {B k s n : Nat} {e t : TypeId} {v : Value} {xs : List Value} {cs : Array Value} {fr : Nat × Nat} (h : w.ownsRow B e s v n xs) (hk : w.heap[k]? = some (.cells cs t fr)) (he : e ≠ t) : v.ownBlock = none ∨ v.ownBlock ≠ some k := by
  rcases h.2 with ⟨rfl, _⟩ | ⟨g, cap, cur, rfl, _, hg, _⟩
  · exact .inl rfl
  · refine .inr (fun e2 => ?_)
    have e3 : g = k := by simpa [Value.ownBlock] using e2
    subst e3
    rw [hg] at hk
    injection hk with hk
    injection hk with _ h2
    exact he h2
theorem own_typesT {w : World} {B B' : Nat} {e e' : TypeId} {s s' n n' : Nat} {v v' : Value} {xs xs' : List Value} (h : w.ownsRow B e s v n xs) (h' : w.ownsRow B' e' s' v' n' xs') (he : e ≠ e') : v.ownBlock = none ∨ v.ownBlock ≠ v'.ownBlock := by
  rcases h'.2 with ⟨rfl, _⟩ | ⟨g', cap', cur', rfl, _, hg', _⟩
  · exact ne_noneT v
  · exact own_neT h hg' he
theorem NB.row6 (h : NB w9 N va A wr) {B s n : Nat} {e : TypeId} {v : Value} {xs : List Value} (hr : wr.ownsRow B e s v n xs) (h1 : e ≠ 69) {o : Obj} (hg : (wr.alloc o).grownBy w6 va.ownBlock) : w6.ownsRow B e s v n xs :=
  (hr.alloc o).kept hg (own_typesT (hr.alloc o) (h.alloc o).row h1)
/-- Another row is as it was. -/
theorem NB.other (h : NB w9 N va A wr) {B s n : Nat} {e : TypeId} {v : Value} {xs : List Value} (hr : wr.ownsRow B e s v n xs) (h1 : e ≠ 69) (h2 : e ≠ 45) {o : Obj} (hg : (wr.alloc o).grownBy w6 va.ownBlock) (u : Value) :
    (w6.setCell ⟨w9.heap.size, 1, none⟩ u).ownsRow B e s v n xs := by
  have k : w6.grownBy (w6.setCell ⟨w9.heap.size, 1, none⟩ u) (some w9.heap.size) := ⟨rfl, rfl, rfl, by simp [World.setCell], fun i _ hne => heap_setCell_other _ _ _ _ (fun e => hne (by rw [e]))⟩
  have r1 := (hr.alloc o).kept hg (own_typesT (hr.alloc o) (h.alloc o).row h1)
  exact r1.kept k (own_neT r1 (h.grown hg) h2)
theorem NB.keep (h : NB w9 N va A wr) {B s n : Nat} {e : TypeId} {v : Value} {xs : List Value} (hr : wr.ownsRow B e s v n xs) (hb : Below wr.heap.size wr w3) : w3.ownsRow B e s v n xs := by
  have _ := h.net
  exact hr.kept (grownNT hb) (ne_noneT _)
theorem own_drewT {w : World} {B s n : Nat} {e : TypeId} {v : Value} {xs : List Value} (h : w.ownsRow B e s v n xs) : w.drew.ownsRow B e s v n xs := h
theorem own_cellT {w : World} {B g n c k : Nat} {e : TypeId} {R : List Int} {y : Int} (h : w.ownsRow B e 1 (.slice (some ⟨g, 0, none⟩) n c) n (R.map (Value.int .i64))) (hy : R[k]? = some y) : w.cell? ⟨g, k, none⟩ = some (.int .i64 y) := by
  have := h.cells (g := g) rfl k (.int .i64 y) (by rw [List.getElem?_map, hy]; rfl)
  have hadd : (⟨g, 0, none⟩ : Addr).add k = ⟨g, k, none⟩ := by unfold Addr.add; split <;> simp_all
  rwa [hadd] at this
theorem own_ptrT {w : World} {B s n : Nat} {e : TypeId} {v : Value} {xs : List Value} (h : w.ownsRow B e s v n xs) (hn : 0 < n) : ∃ g c, v = .slice (some ⟨g, 0, none⟩) n c := by
  rcases h.2 with ⟨rfl, h0⟩ | ⟨g, cap, cur, rfl, _⟩
  · omega
  · exact ⟨_, _, rfl⟩
end

end Go.Proofs.YtcagaolichgogaaDoor

