/-
  Rows of arcs in memory. Plain facts; no statement is proved here.
-/
import Derived.Test.YtobflidianlomaaNet
import Derived.Test.YtobflidianlomaaArgI
import Derived.Laws.OwnMore
namespace Go.Proofs.Ytobflidianlomaa
set_option maxRecDepth 4096
open Go.ChangeShapes Go.WideShapes Go.ChangeAt Go.RowKit

theorem Try.infoArc : (Try.prog.info? 66).map (fun i => (i.zero, i.size, i.bytes)) = some (some (.agg #[.int .i64 0, .int .i64 0, .int .i64 0, .int .i64 0]), 4, 32) := by kernel_rfl

/-- An argument that is a slice of arcs: nil or empty, or somewhere in a block. -/
def ArgA (w : World) (v : Value) (A : List ArcD) : Prop :=
  ∃ a c, v = .slice a A.length c ∧ (A.length = 0 ∨ ∃ b, a = some b ∧ b.block < w.heap.size ∧ ∀ (j : Nat) x, A[j]? = some x →
    w.cell? (b.add (j * 4)) = some (.int .i64 x.f) ∧ w.cell? (b.add (j * 4 + 1)) = some (.int .i64 x.t) ∧ w.cell? (b.add (j * 4 + 2)) = some (.int .i64 x.r) ∧ w.cell? (b.add (j * 4 + 3)) = some (.int .i64 x.c))
theorem add_block (b : Addr) (j : Nat) : (b.add j).block = b.block := by unfold Addr.add; split <;> rfl
theorem add_next (b : Addr) (m j : Nat) : (⟨(b.add m).block, (b.add m).off + (j + 1), none⟩ : Addr) = b.add (m + (j + 1)) := by
  unfold Addr.add
  split
  · rename_i h; subst h; simp
  · simp [Nat.add_assoc]
theorem argA_below {w w1 : World} {v : Value} {A : List ArcD} (h : ArgA w v A) (hb : Below w.heap.size w w1) : ArgA w1 v A := by
  obtain ⟨a, c, hv, hh⟩ := h
  refine ⟨a, c, hv, ?_⟩
  rcases hh with h0 | ⟨b, ha, hlt, hc⟩
  · exact .inl h0
  · refine .inr ⟨b, ha, Nat.lt_of_lt_of_le hlt hb.size, fun j x hx => ?_⟩
    obtain ⟨h1, h2, h3, h4⟩ := hc j x hx
    exact ⟨(hb.cell (p := b.add _) (by rw [add_block]; exact hlt)).trans h1, (hb.cell (p := b.add _) (by rw [add_block]; exact hlt)).trans h2, (hb.cell (p := b.add _) (by rw [add_block]; exact hlt)).trans h3, (hb.cell (p := b.add _) (by rw [add_block]; exact hlt)).trans h4⟩

/-- The cells of arcs. -/
def cellsA (A : List ArcD) : List Value := A.flatMap arcC
theorem cellsA_len : ∀ A : List ArcD, (cellsA A).length = A.length * 4
  | [] => rfl
  | x :: A => by
    have := cellsA_len A
    unfold cellsA at this ⊢
    rw [List.flatMap_cons, List.length_append, this, List.length_cons]
    show 4 + _ = _
    omega
theorem cellsA_snoc {A : List ArcD} {k : Nat} {x : ArcD} (h : A[k]? = some x) : cellsA (A.take (k + 1)) = cellsA (A.take k) ++ arcC x := by
  obtain ⟨hi, rfl⟩ := List.getElem?_eq_some_iff.1 h
  rw [List.take_succ_eq_append_getElem hi]
  unfold cellsA
  rw [List.flatMap_append, List.flatMap_cons, List.flatMap_nil, List.append_nil]
theorem cellsA_at {A : List ArcD} {k i : Nat} {x : ArcD} (h : A[k]? = some x) (hi : i < 4) : (cellsA A)[k * 4 + i]? = (arcC x)[i]? := by
  obtain ⟨hk, rfl⟩ := List.getElem?_eq_some_iff.1 h
  have e : cellsA A = cellsA (A.take k) ++ (arcC A[k] ++ cellsA (A.drop (k + 1))) := by
    unfold cellsA
    rw [← List.flatMap_cons, ← List.drop_eq_getElem_cons hk, ← List.flatMap_append, List.take_append_drop]
  have hl : (cellsA (A.take k)).length = k * 4 := by rw [cellsA_len, List.length_take]; omega
  rw [e, List.getElem?_append_right (by omega), hl, Nat.add_sub_cancel_left, List.getElem?_append_left (by show i < 4; exact hi)]
/-- Four cells are written anew. -/
theorem set_four {pre post : List Value} {u0 u1 u2 u3 a b c d : Value} {m : Nat} (hm : pre.length = m) :
    ((((pre ++ u0 :: u1 :: u2 :: u3 :: post).set m a).set (m + 1) b).set (m + 2) c).set (m + 3) d = pre ++ [a, b, c, d] ++ post := by
  subst hm
  simp
theorem drop_four {xs : List Value} {m : Nat} (h : m + 4 ≤ xs.length) : ∃ u0 u1 u2 u3, xs.drop m = u0 :: u1 :: u2 :: u3 :: xs.drop (m + 4) := by
  refine ⟨xs[m], xs[m + 1], xs[m + 2], xs[m + 3], ?_⟩
  rw [List.drop_eq_getElem_cons (by omega), List.drop_eq_getElem_cons (by omega), List.drop_eq_getElem_cons (by omega), List.drop_eq_getElem_cons (by omega)]
theorem arcs_step {A : List ArcD} {k : Nat} {x : ArcD} {xs : List Value} (hx : A[k]? = some x) (h : xs.length = A.length * 4) :
    ((((cellsA (A.take k) ++ xs.drop (k * 4)).set (k * 4) (.int .i64 x.f)).set (k * 4 + 1) (.int .i64 x.t)).set (k * 4 + 2) (.int .i64 x.r)).set (k * 4 + 3) (.int .i64 x.c) = cellsA (A.take (k + 1)) ++ xs.drop ((k + 1) * 4) := by
  have hk := (List.getElem?_eq_some_iff.1 hx).1
  obtain ⟨u0, u1, u2, u3, e⟩ := drop_four (xs := xs) (m := k * 4) (by omega)
  rw [e, set_four (by rw [cellsA_len, List.length_take]; omega), cellsA_snoc hx]
  have e2 : (k + 1) * 4 = k * 4 + 4 := by omega
  rw [e2]
  rfl

/-- The list of arcs came back in memory of the call's own. -/
def ArcsBack (w : World) (A : List ArcD) (e : Ending) (w' : World) : Prop :=
  ∃ v, e = .returned v ∧ w'.ownsRow w.heap.size 66 4 v A.length (cellsA A) ∧ Below w.heap.size w w'
theorem arcs_of_own {w : World} {B : Nat} {e : TypeId} {v : Value} {A : List ArcD} (h : w.ownsRow B e 4 v A.length (cellsA A)) : Arcs w v A := by
  rcases h.2 with ⟨rfl, h0⟩ | ⟨g, cap, cur, rfl, _, hh, _⟩
  · exact .inl ⟨List.eq_nil_of_length_eq_zero h0, _, _, rfl⟩
  · refine .inr ⟨g, cap, rfl, (Array.getElem?_eq_some_iff.1 hh).1, fun j x hx => ?_⟩
    have key : ∀ i u, i < 4 → (arcC x)[i]? = some u → w.cell? ⟨g, j * 4 + i, none⟩ = some u := fun i u hi hu => by
      have := h.cells (g := g) rfl (j * 4 + i) u (by rw [cellsA_at hx hi]; exact hu)
      have hadd : (⟨g, 0, none⟩ : Addr).add (j * 4 + i) = ⟨g, j * 4 + i, none⟩ := by unfold Addr.add; split <;> simp_all
      rwa [hadd] at this
    exact ⟨key 0 _ (by decide) rfl, key 1 _ (by decide) rfl, key 2 _ (by decide) rfl, key 3 _ (by decide) rfl⟩
theorem own_cell4 {w : World} {B : Nat} {e : TypeId} {g n c j : Nat} {xs : List Value} (h : w.ownsRow B e 4 (.slice (some ⟨g, 0, none⟩) n c) n xs) (hj : j < n * 4) : ∃ u, w.cell? ⟨g, j, none⟩ = some u := by
  have hl : j < xs.length := by have := h.1; omega
  have := h.cells (g := g) rfl j xs[j] (List.getElem?_eq_getElem hl)
  have hadd : (⟨g, 0, none⟩ : Addr).add j = ⟨g, j, none⟩ := by unfold Addr.add; split <;> simp_all
  rw [hadd] at this
  exact ⟨_, this⟩

/-- The net came back, its arcs in memory of the call's own. -/
def NetBack (w : World) (N : Int) (A : List ArcD) (e : Ending) (w' : World) : Prop :=
  ∃ v, e = .returned (.agg #[.int .i64 N, v]) ∧ w'.ownsRow w.heap.size 66 4 v A.length (cellsA A) ∧ Below w.heap.size w w'

theorem own_set {w : World} {B r i s : Nat} {e : TypeId} {n : Nat} {v u : Value} {xs : List Value} (h : w.ownsRow B e s v n xs) (hr : r < B) : (w.setCell ⟨r, i, none⟩ u).ownsRow B e s v n xs := by
  have hg : w.grownBy (w.setCell ⟨r, i, none⟩ u) (some r) := ⟨rfl, rfl, rfl, by simp [World.setCell], fun k _ hk => heap_setCell_other w ⟨r, i, none⟩ k u (fun e => hk (by simp [e]))⟩
  refine h.kept hg ?_
  cases hv : v.ownBlock with
  | none => exact .inl rfl
  | some j => exact .inr (fun e => by have := (h.lt j hv).1; have := Option.some.inj e; omega)
/-- A block that a call has left as it was. -/
theorem old_block {wa w3 : World} {c0 c1 : Value} {t : TypeId} {m : Nat} (hb : Below wa.heap.size wa w3) (h : wa.heap[m]? = some (.cells #[c0, c1] t (0, 0))) :
    w3.cell? ⟨m, 0, none⟩ = some c0 ∧ w3.cell? ⟨m, 1, none⟩ = some c1 ∧ w3.frozen? ⟨m, 0, none⟩ = false ∧ w3.frozen? ⟨m, 1, none⟩ = false := by
  have h3 : w3.heap[m]? = some (.cells #[c0, c1] t (0, 0)) := (hb.block m (Array.getElem?_eq_some_iff.1 h).1).trans h
  refine ⟨?_, ?_, ?_, ?_⟩
  · rw [cell_of_row _ _ _ _ _ _ h3]; rfl
  · rw [cell_of_row _ _ _ _ _ _ h3]; rfl
  · simp [World.frozen?, h3]
  · simp [World.frozen?, h3]

end Go.Proofs.Ytobflidianlomaa
