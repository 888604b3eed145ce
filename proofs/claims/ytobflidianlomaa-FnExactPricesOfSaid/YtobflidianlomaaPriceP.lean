/-
  The row of prices under way, in memory; the rounds, arc by arc. No statement is proved here.
-/
import Derived.Test.YtobflidianlomaaPriceV
import Derived.Test.YtobflidianlomaaSpecFlow
namespace Go.Proofs.Ytobflidianlomaa
set_option maxRecDepth 4096
open Go.ChangeShapes Go.WideShapes Go.ChangeAt Go.RowKit

theorem moreF_at {D : Nat → Int} {a t : Nat} {r c y : Int} : moreF D (⟨(a : Int), (t : Int), r, c⟩, y) ↔ y < r ∧ D a + c < D t := Iff.rfl
theorem moreB_at {D : Nat → Int} {a t : Nat} {r c y : Int} : moreB D (⟨(a : Int), (t : Int), r, c⟩, y) ↔ 0 < y ∧ D t - c < D a := Iff.rfl
theorem lowF_on {s : (Nat → Int) × Bool} {a t : Nat} {r c y : Int} (h : decide (moreF s.1 (⟨(a : Int), (t : Int), r, c⟩, y)) = true) : lowF (⟨(a : Int), (t : Int), r, c⟩, y) s = (putD s.1 t (s.1 a + c), true) := if_pos (of_decide_eq_true h)
theorem lowF_off {s : (Nat → Int) × Bool} {a t : Nat} {r c y : Int} (h : decide (moreF s.1 (⟨(a : Int), (t : Int), r, c⟩, y)) = false) : lowF (⟨(a : Int), (t : Int), r, c⟩, y) s = s := if_neg (of_decide_eq_false h)
theorem lowB_on {s : (Nat → Int) × Bool} {a t : Nat} {r c y : Int} (h : decide (moreB s.1 (⟨(a : Int), (t : Int), r, c⟩, y)) = true) : lowB (⟨(a : Int), (t : Int), r, c⟩, y) s = (putD s.1 a (s.1 t - c), true) := if_pos (of_decide_eq_true h)
theorem lowB_off {s : (Nat → Int) × Bool} {a t : Nat} {r c y : Int} (h : decide (moreB s.1 (⟨(a : Int), (t : Int), r, c⟩, y)) = false) : lowB (⟨(a : Int), (t : Int), r, c⟩, y) s = s := if_neg (of_decide_eq_false h)
theorem LevC.mono {P : List (ArcD × Int)} {n r r' : Nat} {D : Nat → Int} (h : LevC P n r D) (hr : r' ≤ r) : LevC P n r' D := fun v k hf hk => h v k hf (by omega)

structure PM (w : World) (n g : Nat) (v : Value) (D : Nat → Int) (wr : World) : Prop where
  row : wr.ownsRow (w.heap.size + 1) 3 1 (.slice (some ⟨g, 0, none⟩) n n) n ((rowO D n).map (Value.int .i64))
  below : Below (w.alloc (.cells #[.int .i64 (n : Int), v] 26)).heap.size (w.alloc (.cells #[.int .i64 (n : Int), v] 26)) wr
structure PA (w : World) (n g : Nat) (v : Value) (D : Nat → Int) (q : Nat) (x : ArcD) (wr : World) : Prop where
  fm : PM w n g v D wr
  arc : wr.heap[q]? = some (.cells #[.int .i64 x.f, .int .i64 x.t, .int .i64 x.r, .int .i64 x.c] 66 (0, 0))
  far : g < q
section
variable {w wr : World} {n q g : Nat} {v : Value} {D : Nat → Int} {x : ArcD}
theorem PM.drewN (h : PM w n g v D wr) (m : Nat) : PM w n g v D (wr.drewN m) := ⟨h.row, below_drewN h.below m⟩
theorem PM.drew (h : PM w n g v D wr) : PM w n g v D wr.drew := ⟨h.row, h.below.drew⟩
theorem PM.alloc (h : PM w n g v D wr) (b : Obj) : PM w n g v D (wr.alloc b) := ⟨h.row.alloc b, h.below.alloc h.below.size b⟩
theorem PM.set (h : PM w n g v D wr) (t : Nat) (y : Int) : PM w n g v (putD D t y) (wr.setCell ⟨g, t, none⟩ (.int .i64 y)) := by
  obtain ⟨h1, h2⟩ := h.row.stored t (.int .i64 y)
  rw [rowO_put (o' := putD D t y) (putD_at D t y) (fun j e => putD_ne y e)] at h1
  have hg : w.heap.size + 1 ≤ g := (h.row.lt g rfl).1
  exact ⟨h1, h.below.grown h2 h.below.size (fun j e => by cases e; rw [World.size_alloc]; exact hg)⟩
theorem PA.make (h : PM w n g v D wr) (x : ArcD) : PA w n g v D wr.heap.size x (wr.alloc (.cells #[.int .i64 x.f, .int .i64 x.t, .int .i64 x.r, .int .i64 x.c] 66)) :=
  ⟨h.alloc _, heap_alloc_new wr _, (h.row.lt _ rfl).2⟩
theorem PA.drewN (h : PA w n g v D q x wr) (m : Nat) : PA w n g v D q x (wr.drewN m) := ⟨h.fm.drewN m, h.arc, h.far⟩
theorem PA.drew (h : PA w n g v D q x wr) : PA w n g v D q x wr.drew := ⟨h.fm.drew, h.arc, h.far⟩
theorem PA.set (h : PA w n g v D q x wr) (t : Nat) (y : Int) : PA w n g v (putD D t y) q x (wr.setCell ⟨g, t, none⟩ (.int .i64 y)) :=
  ⟨h.fm.set t y, (heap_setCell_other _ _ _ _ (fun e => by have := h.far; simp at e; omega)).trans h.arc, h.far⟩
theorem PA.c0 (h : PA w n g v D q x wr) : wr.cell? ⟨q, 0, none⟩ = some (.int .i64 x.f) := by rw [cell_of_row _ _ _ _ _ _ h.arc]; rfl
theorem PA.c1 (h : PA w n g v D q x wr) : wr.cell? ⟨q, 1, none⟩ = some (.int .i64 x.t) := by rw [cell_of_row _ _ _ _ _ _ h.arc]; rfl
theorem PA.c2 (h : PA w n g v D q x wr) : wr.cell? ⟨q, 2, none⟩ = some (.int .i64 x.r) := by rw [cell_of_row _ _ _ _ _ _ h.arc]; rfl
theorem PA.c3 (h : PA w n g v D q x wr) : wr.cell? ⟨q, 3, none⟩ = some (.int .i64 x.c) := by rw [cell_of_row _ _ _ _ _ _ h.arc]; rfl
end
theorem arc_natP {n k : Nat} {A : List ArcD} (hok : ∀ x ∈ A, arcOk (n : Int) x = true) (h : k < A.length) : ∃ (a b : Nat) (r c : Int), A[k]? = some ⟨a, b, r, c⟩ ∧ a < n ∧ b < n ∧ a ≠ b ∧ (0 ≤ r ∧ r ≤ 20) ∧ (0 ≤ c ∧ c ≤ 100) := by
  have hx : A[k]? = some A[k] := List.getElem?_eq_getElem h
  obtain ⟨⟨hf0, hf1⟩, ⟨ht0, ht1⟩, hne, hr, hc⟩ := arcOk_out (hok _ (List.mem_of_getElem? hx))
  refine ⟨A[k].f.toNat, A[k].t.toNat, A[k].r, A[k].c, ?_, by omega, by omega, by omega, hr, hc⟩
  rw [hx, Int.toNat_of_nonneg hf0, Int.toNat_of_nonneg ht0]

end Go.Proofs.Ytobflidianlomaa
