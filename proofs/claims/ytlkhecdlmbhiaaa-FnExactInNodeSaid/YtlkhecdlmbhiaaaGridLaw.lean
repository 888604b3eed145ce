/-
  CONTRACTS of the laws' own helpers on grids (toGrid, szGrid) and of impl.GridOk. No law is proved here.
-/
import Derived.Test.YtlkhecdlmbhiaaaGridOf
namespace Go.Proofs.Ytlkhecdlmbhiaaa
set_option maxRecDepth 4096
open Go.ChangeShapes Go.WideShapes Go.ChangeAt Go.RowKit

theorem toGrid (W H : Int) (C : ByteArray) (w : World) :
    Calls Try.prog 7 #[.agg #[.int .i64 W, .int .i64 H, .string C]] w (Made w (.agg #[.int .i64 W, .int .i64 H, .string C])) := by
  go_enter Try.func7, Try.ntmps7
  go_wp2
  exact bodyPost_ret (v := .agg #[.int .i64 W, .int .i64 H, .string C]) (by simp [results, Try.results7, go_sem]) rfl ⟨rfl, (((Below.refl _ _).alloc (Nat.le_refl _) _).alloc (by simp) _).alloc (by simp; omega) _⟩

theorem szGrid_no (W H : Int) (C : ByteArray) (hC : C.size ≤ 9223372036854775807) (h : ¬ C.size ≤ 1048576) (w : World) :
    Calls Try.prog 5 #[.agg #[.int .i64 W, .int .i64 H, .string C], .int .i64 1048576] w (Made w (.int .i64 (-1))) := by
  go_enter Try.func5, Try.ntmps5
  go_wp2
  go_ret
  exact ⟨rfl, (Below.refl _ _).alloc (Nat.le_refl _) _⟩
theorem szGrid_yes (W H : Int) (C : ByteArray) (h : C.size ≤ 1048576) (w : World) :
    Calls Try.prog 5 #[.agg #[.int .i64 W, .int .i64 H, .string C], .int .i64 1048576] w (Made w (.int .i64 (1048576 - (C.size : Int)))) := by
  go_enter Try.func5, Try.ntmps5
  go_wp2
  go_ret
  exact ⟨rfl, (Below.refl _ _).alloc (Nat.le_refl _) _⟩

theorem rowsR_size (W H : Int) (C : ByteArray) : (rowsR W H C).size = 8 := by
  unfold rowsR
  split
  · exact rowsV_size _ _ _
  · rfl
theorem rowsR_one (W H : Int) (C : ByteArray) : (rowsR W H C).all (·.oneCell') = true := by
  unfold rowsR
  split
  · exact rowsV_one _ _ _
  · exact noRows_one

/-- The world with the rows in a new variable. -/
def rowsW2 (w : World) (R : Array Value) : World := (w.alloc (.cells noRows 49)).setRow w.heap.size R
theorem rowsW2_size (w : World) (R : Array Value) : (rowsW2 w R).heap.size = w.heap.size + 1 := by
  unfold rowsW2
  rw [size_setRow, World.size_alloc]

/-- The store of the rows into a new variable. -/
theorem wpStoreRows {ops : Array Oper} {rest : List Oper} {o : Oper} {a : Act} {w : World} {Q : Exit → Act → World → Prop} (W H : Int) (C : ByteArray) (x y : Operand) (hgd : o.guard = none) (ho : o.op = .store 49 x y)
    (hx : a.eval x = .pointer (some ⟨w.heap.size, 0, none⟩)) (hy : a.eval y = .agg (rowsR W H C))
    (h : wpList Try.prog ops Q rest (a.put o.dst undef) (rowsW2 w (rowsR W H C))) : wpList Try.prog ops Q (o :: rest) a (w.alloc (.cells noRows 49)) :=
  wpList_store_row hgd 49 x y ho w.heap.size (rowsR W H C) hx hy 49 noRows (heap_alloc_new w _) (by rw [rowsR_size]; exact rows_info) (by rw [rowsR_size]; rfl) (rowsR_one W H C) h

theorem rows_in (w : World) (R : Array Value) : Below w.heap.size w (rowsW2 w R) ∧ (rowsW2 w R).heap[w.heap.size]? = some (.cells R 49 (0, 0)) :=
  ⟨below_setRow ((Below.refl _ _).alloc (Nat.le_refl _) _) (Nat.le_refl _) _, setRow_heap _ _ noRows R _ _ (heap_alloc_new w _)⟩

/-- A further call. -/
theorem chain {a b c : World} (h : Below a.heap.size a b) (k : Below b.heap.size b c) : Below a.heap.size a c := h.trans (k.mono h.size)
theorem box_cells {w w1 : World} {W H : Int} {C : ByteArray} {t : TypeId} (h : Below (w.alloc (.cells #[.int .i64 W, .int .i64 H, .string C] t)).heap.size (w.alloc (.cells #[.int .i64 W, .int .i64 H, .string C] t)) w1) :
    w1.cell? ⟨w.heap.size, 0, none⟩ = some (.int .i64 W) ∧ w1.cell? ⟨w.heap.size, 1, none⟩ = some (.int .i64 H) ∧ w1.cell? ⟨w.heap.size, 2, none⟩ = some (.string C) := by
  refine ⟨?_, ?_, ?_⟩ <;> refine (h.cell (by simp)).trans ?_ <;> rw [cell_of_row _ _ _ _ _ _ (heap_alloc_new w _)] <;> rfl
theorem box_below {w w1 : World} {o : Obj} (h : Below (w.alloc o).heap.size (w.alloc o) w1) : Below w.heap.size w w1 := ((Below.refl _ _).alloc (Nat.le_refl _) _).trans (h.mono (by simp))
theorem box_size {w w1 : World} {o : Obj} (h : Below (w.alloc o).heap.size (w.alloc o) w1) : w.heap.size + 1 ≤ w1.heap.size := by
  have := h.size
  simpa using this

end Go.Proofs.Ytlkhecdlmbhiaaa
