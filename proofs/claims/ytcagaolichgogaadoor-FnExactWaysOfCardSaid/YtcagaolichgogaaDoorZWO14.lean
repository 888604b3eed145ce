/-
  The two blocks that TimeNet begins with: the map's box and the result's. No statement is proved here.
-/
import Derived.Test.YtcagaolichgogaaDoorZWO13
namespace Go.Proofs.YtcagaolichgogaaDoor
set_option maxRecDepth 4096
open Go.ChangeShapes Go.WideShapes Go.ChangeAt Go.RowKit

/-- The two blocks that TimeNet begins with. -/
def tnObj (W H : Int) (C : ByteArray) : Obj := .cells #[.int .i64 W, .int .i64 H, .string C] 29
def tnRes : Obj := .cells #[.int .i64 0, .slice none 0 0] 45
theorem tn_cells {w wr : World} {W H : Int} {C : ByteArray} (h : Below ((w.alloc (tnObj W H C)).alloc tnRes).heap.size ((w.alloc (tnObj W H C)).alloc tnRes) wr) :
    wr.cell? ⟨w.heap.size, 0, none⟩ = some (.int .i64 W) ∧ wr.cell? ⟨w.heap.size, 1, none⟩ = some (.int .i64 H) ∧ wr.cell? ⟨w.heap.size, 2, none⟩ = some (.string C) := by
  have h1 : wr.heap[w.heap.size]? = some (.cells #[.int .i64 W, .int .i64 H, .string C] 29 (0, 0)) :=
    (h.block _ (by simp; omega)).trans (((World.grownBy_alloc (w.alloc (tnObj W H C)) tnRes none).block _ (by simp) (by simp)).trans (heap_alloc_new w _))
  refine ⟨?_, ?_, ?_⟩ <;> rw [cell_of_row _ _ _ _ _ _ h1] <;> rfl
theorem tn_res {w wr : World} {W H : Int} {C : ByteArray} (h : Below ((w.alloc (tnObj W H C)).alloc tnRes).heap.size ((w.alloc (tnObj W H C)).alloc tnRes) wr) : wr.heap[w.heap.size + 1]? = some (.cells #[.int .i64 0, .slice none 0 0] 45 (0, 0)) := by
  have h2 := heap_alloc_new (w.alloc (tnObj W H C)) tnRes
  rw [World.size_alloc] at h2
  exact (h.block _ (by simp)).trans h2
theorem tn_below {w wr : World} {W H : Int} {C : ByteArray} (h : Below ((w.alloc (tnObj W H C)).alloc tnRes).heap.size ((w.alloc (tnObj W H C)).alloc tnRes) wr) : Below w.heap.size w wr :=
  (((Below.refl w.heap.size w).alloc (Nat.le_refl _) (tnObj W H C)).alloc (by simp) tnRes).trans (h.mono (by simp; omega))

/-- What is handed back. -/
theorem tn_back {w wr : World} {W H : Int} {C : ByteArray} {N : Int} {va : Value} {A : List ArcD} (h : Below ((w.alloc (tnObj W H C)).alloc tnRes).heap.size ((w.alloc (tnObj W H C)).alloc tnRes) wr) (hown : wr.ownsRow (w.heap.size + 2) 69 4 va A.length (cellsA A)) :
    ((wr.setCell ⟨w.heap.size + 1, 0, none⟩ (.int .i64 N)).setCell ⟨w.heap.size + 1, 1, none⟩ va).cell? ⟨w.heap.size + 1, 0, none⟩ = some (.int .i64 N) ∧ ((wr.setCell ⟨w.heap.size + 1, 0, none⟩ (.int .i64 N)).setCell ⟨w.heap.size + 1, 1, none⟩ va).cell? ⟨w.heap.size + 1, 1, none⟩ = some va ∧
    ((wr.setCell ⟨w.heap.size + 1, 0, none⟩ (.int .i64 N)).setCell ⟨w.heap.size + 1, 1, none⟩ va).ownsRow w.heap.size 69 4 va A.length (cellsA A) ∧ Below w.heap.size w ((wr.setCell ⟨w.heap.size + 1, 0, none⟩ (.int .i64 N)).setCell ⟨w.heap.size + 1, 1, none⟩ va) := by
  have hrow := heap_setCell_same _ (w.heap.size + 1) 1 _ _ va (heap_setCell_same wr (w.heap.size + 1) 0 _ _ (.int .i64 N) (tn_res h))
  have k1 : wr.grownBy (wr.setCell ⟨w.heap.size + 1, 0, none⟩ (.int .i64 N)) (some (w.heap.size + 1)) := ⟨rfl, rfl, rfl, by simp [World.setCell], fun i _ hne => heap_setCell_other _ _ _ _ (fun e => hne (by rw [e]))⟩
  have k2 : (wr.setCell ⟨w.heap.size + 1, 0, none⟩ (.int .i64 N)).grownBy ((wr.setCell ⟨w.heap.size + 1, 0, none⟩ (.int .i64 N)).setCell ⟨w.heap.size + 1, 1, none⟩ va) (some (w.heap.size + 1)) := ⟨rfl, rfl, rfl, by simp [World.setCell], fun i _ hne => heap_setCell_other _ _ _ _ (fun e => hne (by rw [e]))⟩
  have hne : va.ownBlock = none ∨ va.ownBlock ≠ some (w.heap.size + 1) := .inr fun e => by have := (hown.lt _ e).1; omega
  refine ⟨by rw [cell_of_row _ _ _ _ _ _ hrow]; rfl, by rw [cell_of_row _ _ _ _ _ _ hrow]; rfl, own_base ((hown.kept k1 hne).kept k2 hne) (by omega), ?_⟩
  have hb := tn_below h
  have hs := h.size
  rw [World.size_alloc, World.size_alloc] at hs
  exact (hb.grown k1 hb.size (fun j e => by have := Option.some.inj e; omega)).grown k2 (by have := k1.size; omega) (fun j e => by have := Option.some.inj e; omega)

end Go.Proofs.YtcagaolichgogaaDoor

