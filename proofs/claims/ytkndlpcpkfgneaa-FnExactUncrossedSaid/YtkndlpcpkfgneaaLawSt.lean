/-
  What a law keeps while it calls on: its box, blocks that stay as they are, rows of memory that calls made. Plain facts; no law is proved here.
-/
import Derived.Test.YtkndlpcpkfgneaaBase
import Derived.Laws.OwnMore
namespace Go.Proofs.Ytkndlpcpkfgneaa
set_option maxRecDepth 4096
open Go.ChangeShapes Go.WideShapes Go.ChangeAt Go.RowKit

/-- A row that a call made: among the blocks from lo on, below hi. -/
structure RowD where
  lo : Nat
  hi : Nat
  t : TypeId
  sz : Nat
  v : Value
  n : Nat
  xs : List Value
structure RowD.At (r : RowD) (w : World) : Prop where
  own : w.ownsRow r.lo r.t r.sz r.v r.n r.xs
  lt : ∀ k, r.v.ownBlock = some k → k < r.hi
  le : r.hi ≤ w.heap.size

section
variable {r q : RowD} {w w' : World}
theorem RowD.At.on (h : r.At w) (hb : Below w.heap.size w w') : r.At w' := by
  refine ⟨?_, h.lt, Nat.le_trans h.le hb.size⟩
  refine h.own.kept (row := none) ⟨hb.os, hb.tape, hb.output, hb.size, fun i hi _ => hb.block i hi⟩ ?_
  cases hv : r.v.ownBlock with
  | none => exact .inl rfl
  | some j => exact .inr (by simp)
theorem RowD.At.drewN (h : r.At w) (m : Nat) : r.At (w.drewN m) := ⟨h.own, h.lt, h.le⟩
theorem RowD.At.grown (h : q.At w) (hr : r.At w) (ha : q.hi ≤ r.lo ∨ r.hi ≤ q.lo) (g : w.grownBy w' r.v.ownBlock) : q.At w' := by
  refine ⟨h.own.kept g ?_, h.lt, Nat.le_trans h.le g.size⟩
  cases hv : q.v.ownBlock with
  | none => exact .inl rfl
  | some j =>
    refine .inr (fun e => ?_)
    have h1 := h.lt j hv
    have h2 := (h.own.lt j hv).1
    have h3 := hr.lt j e.symm
    have h4 := (hr.own.lt j e.symm).1
    omega
/-- What a call handed back. -/
theorem row_new {t : TypeId} {sz : Nat} {v : Value} {n : Nat} {xs : List Value} (h : w'.ownsRow w.heap.size t sz v n xs) : RowD.At ⟨w.heap.size, w'.heap.size, t, sz, v, n, xs⟩ w' := ⟨h, fun k hk => (h.lt k hk).2, Nat.le_refl _⟩
end

/-- The law's state: its box o, the blocks K that stay, the rows L. -/
structure LSt (w : World) (o : Obj) (K : List (Nat × Obj)) (L : List RowD) (w' : World) : Prop where
  below : Below (w.alloc o).heap.size (w.alloc o) w'
  keep : ∀ p ∈ K, w'.heap[p.1]? = some p.2
  rows : ∀ r ∈ L, r.At w'

section
variable {w w' w'' : World} {o : Obj} {K : List (Nat × Obj)} {L : List RowD} {r : RowD}
theorem LSt.start (w : World) (o : Obj) : LSt w o [] [] (w.alloc o) := ⟨Below.refl _ _, fun p hp => (by cases hp), fun r hr => (by cases hr)⟩
theorem LSt.base (h : LSt w o K L w') : Below w.heap.size w w' := ((Below.refl _ _).alloc (Nat.le_refl _) _).trans (h.below.mono (by simp))
theorem LSt.on (h : LSt w o K L w') (hb : Below w'.heap.size w' w'') : LSt w o K L w'' :=
  ⟨h.below.trans (hb.mono h.below.size), fun p hp => (hb.block p.1 (Array.getElem?_eq_some_iff.1 (h.keep p hp)).1).trans (h.keep p hp), fun r hr => (h.rows r hr).on hb⟩
theorem LSt.drewN (h : LSt w o K L w') (m : Nat) : LSt w o K L (w'.drewN m) := ⟨below_drewN h.below m, h.keep, fun r hr => (h.rows r hr).drewN m⟩
theorem LSt.drew (h : LSt w o K L w') : LSt w o K L w'.drew := h.drewN 1
theorem LSt.few (h : LSt w o K L w') {K' : List (Nat × Obj)} {L' : List RowD} (hK : ∀ p ∈ K', p ∈ K) (hL : ∀ r ∈ L', r ∈ L) : LSt w o K' L' w' := ⟨h.below, fun p hp => h.keep p (hK p hp), fun r hr => h.rows r (hL r hr)⟩
/-- Another row comes first. -/
theorem LSt.front (h : LSt w o K L w') (i : Nat) (r : RowD) (hr : L[i]? = some r) : LSt w o K (r :: L.eraseIdx i) w' := h.few (fun p hp => hp) fun q hq => by
  rcases List.mem_cons.1 hq with rfl | hq
  · exact List.mem_of_getElem? hr
  · exact List.mem_of_mem_eraseIdx hq
theorem LSt.put (h : LSt w o K L w') (hr : r.At w') : LSt w o K (r :: L) w' := ⟨h.below, h.keep, fun q hq => by
  rcases List.mem_cons.1 hq with rfl | hq
  · exact hr
  · exact h.rows q hq⟩
/-- A call that hands back a row. -/
theorem LSt.call (h : LSt w o K L w') {t : TypeId} {sz : Nat} {v : Value} {n : Nat} {xs : List Value} (hr : w''.ownsRow w'.heap.size t sz v n xs) (hb : Below w'.heap.size w' w'') : LSt w o K (⟨w'.heap.size, w''.heap.size, t, sz, v, n, xs⟩ :: L) w'' := (h.on hb).put (row_new hr)
/-- A new block of the law's own. -/
theorem LSt.box (h : LSt w o K L w') (b : Obj) : LSt w o ((w'.heap.size, b) :: K) L (w'.alloc b) := by
  have h1 := h.on ((Below.refl w'.heap.size w').alloc (Nat.le_refl _) b)
  refine ⟨h1.below, fun p hp => ?_, h1.rows⟩
  rcases List.mem_cons.1 hp with rfl | hp
  · exact heap_alloc_new w' b
  · exact h1.keep p hp
/-- The first row is written anew. -/
theorem LSt.mark (h : LSt w o K (r :: L) w') {xs : List Value} (hn : w''.ownsRow r.lo r.t r.sz r.v r.n xs) (g : w'.grownBy w'' r.v.ownBlock) (hL : ∀ q ∈ L, q.hi ≤ r.lo ∨ r.hi ≤ q.lo) (hK : ∀ p ∈ K, p.1 < r.lo ∨ r.hi ≤ p.1) (hlo : (w.alloc o).heap.size ≤ r.lo) :
    LSt w o K ({ r with xs := xs } :: L) w'' := by
  have hr := h.rows r (List.mem_cons_self ..)
  refine ⟨h.below.grown g h.below.size (fun j hj => Nat.le_trans hlo (hr.own.lt j hj).1), fun p hp => ?_, fun q hq => ?_⟩
  · have h1 := h.keep p hp
    refine (g.block p.1 (Array.getElem?_eq_some_iff.1 h1).1 (fun e => ?_)).trans h1
    have h2 := hr.lt p.1 e.symm
    have h3 := (hr.own.lt p.1 e.symm).1
    have := hK p hp
    omega
  · rcases List.mem_cons.1 hq with rfl | hq
    · exact ⟨hn, hr.lt, Nat.le_trans hr.le g.size⟩
    · exact (h.rows q (List.mem_cons_of_mem _ hq)).grown hr (hL q hq) g
end

end Go.Proofs.Ytkndlpcpkfgneaa
