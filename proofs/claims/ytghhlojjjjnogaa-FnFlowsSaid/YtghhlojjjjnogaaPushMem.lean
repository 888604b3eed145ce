/-
  The memory in which a unit is pushed along a network. No statement is proved here.
-/
import Derived.Test.YtghhlojjjjnogaaPushM
import Derived.Test.YtghhlojjjjnogaaBoolRow
import Derived.Maps.AppendAt
namespace Go.Proofs.Ytghhlojjjjnogaa
set_option maxRecDepth 4096
open Go.ChangeShapes Go.WideShapes Go.ChangeAt Go.RowKit

theorem Try.infoNum : (Try.prog.info? 3).map (fun i => (i.zero, i.size, i.bytes)) = some (some (.int .i64 0), 1, 8) := by kernel_rfl
/-- The memory of a push: the flow's row, and the search's rows. -/
structure PM (w : World) (n : Nat) (v : Value) (L Gf Gb Gs : Nat) (F : List Int) (s : BS) (qv : Value) (wr : World) : Prop where
  flow : wr.ownsRow (w.heap.size + 1) 3 1 (.slice (some ⟨Gf, 0, none⟩) L L) L (F.map (Value.int .i64))
  by_ : wr.ownsRow (Gf + 1) 3 1 (.slice (some ⟨Gb, 0, none⟩) n n) n ((rowO s.b n).map (Value.int .i64))
  seen : wr.ownsRow (Gb + 1) 4 1 (.slice (some ⟨Gs, 0, none⟩) n n) n (rowB s.o n)
  queue : wr.ownsRow (Gs + 1) 3 1 qv s.q.length ((s.q.map Int.ofNat).map (Value.int .i64))
  below : Below (w.alloc (.cells #[.int .i64 (n : Int), v] 26)).heap.size (w.alloc (.cells #[.int .i64 (n : Int), v] 26)) wr
section
variable {w wr : World} {n L Gf Gb Gs Sa : Nat} {v qv : Value} {F : List Int} {s : BS} {x : ArcD}
theorem PM.ord (h : PM w n v L Gf Gb Gs F s qv wr) : w.heap.size < Gf ∧ Gf < Gb ∧ Gb < Gs ∧ Gs < wr.heap.size ∧ ∀ j, qv.ownBlock = some j → Gs < j ∧ j < wr.heap.size := by
  have h1 := h.flow.lt Gf rfl
  have h2 := h.by_.lt Gb rfl
  have h3 := h.seen.lt Gs rfl
  exact ⟨by omega, by omega, by omega, h3.2, fun j e => by have := h.queue.lt j e; omega⟩
theorem PM.alloc (h : PM w n v L Gf Gb Gs F s qv wr) (b : Obj) : PM w n v L Gf Gb Gs F s qv (wr.alloc b) := ⟨h.flow.alloc b, h.by_.alloc b, h.seen.alloc b, h.queue.alloc b, h.below.alloc h.below.size b⟩
theorem PM.drewN (h : PM w n v L Gf Gb Gs F s qv wr) (m : Nat) : PM w n v L Gf Gb Gs F s qv (wr.drewN m) := ⟨h.flow, h.by_, h.seen, h.queue, below_drewN h.below m⟩
theorem PM.drew (h : PM w n v L Gf Gb Gs F s qv wr) : PM w n v L Gf Gb Gs F s qv wr.drew := ⟨h.flow, h.by_, h.seen, h.queue, h.below.drew⟩
theorem PM.mark (h : PM w n v L Gf Gb Gs F s qv wr) (t : Nat) : PM w n v L Gf Gb Gs F ⟨fun j => s.o j || decide (j = t), s.b, s.q⟩ qv (wr.setCell ⟨Gs, t, none⟩ (.bool true)) := by
  obtain ⟨o1, o2, o3, o4, o5⟩ := h.ord
  obtain ⟨h1, h2⟩ := h.seen.stored t (.bool true)
  rw [rowB_set (o' := fun j => s.o j || decide (j = t)) (fun j => rfl)] at h1
  exact ⟨h.flow.kept h2 (.inr (fun e => by simp [Value.ownBlock] at e; omega)), h.by_.kept h2 (.inr (fun e => by simp [Value.ownBlock] at e; omega)), h1, h.queue.kept h2 (.inr (fun e => by have := o5 _ e; omega)),
    h.below.grown h2 h.below.size (fun j e => by cases e; simp; omega)⟩
theorem PM.tell (h : PM w n v L Gf Gb Gs F s qv wr) (t : Nat) (y : Int) : PM w n v L Gf Gb Gs F ⟨s.o, fun j => if j = t then y else s.b j, s.q⟩ qv (wr.setCell ⟨Gb, t, none⟩ (.int .i64 y)) := by
  obtain ⟨o1, o2, o3, o4, o5⟩ := h.ord
  obtain ⟨h1, h2⟩ := h.by_.stored t (.int .i64 y)
  rw [rowO_put (o' := fun j => if j = t then y else s.b j) (by simp) (fun j e => by simp [e])] at h1
  exact ⟨h.flow.kept h2 (.inr (fun e => by simp [Value.ownBlock] at e; omega)), h1, h.seen.kept h2 (.inr (fun e => by simp [Value.ownBlock] at e; omega)), h.queue.kept h2 (.inr (fun e => by have := o5 _ e; omega)),
    h.below.grown h2 h.below.size (fun j e => by cases e; simp; omega)⟩
theorem PM.pay (h : PM w n v L Gf Gb Gs F s qv wr) (i : Nat) (y : Int) : PM w n v L Gf Gb Gs (F.set i y) s qv (wr.setCell ⟨Gf, i, none⟩ (.int .i64 y)) := by
  obtain ⟨o1, o2, o3, o4, o5⟩ := h.ord
  obtain ⟨h1, h2⟩ := h.flow.stored i (.int .i64 y)
  rw [← List.map_set] at h1
  exact ⟨h1, h.by_.kept h2 (.inr (fun e => by simp [Value.ownBlock] at e; omega)), h.seen.kept h2 (.inr (fun e => by simp [Value.ownBlock] at e; omega)), h.queue.kept h2 (.inr (fun e => by have := o5 _ e; omega)),
    h.below.grown h2 h.below.size (fun j e => by cases e; simp; omega)⟩
theorem PM.app {b : Obj} {w6 : World} {v' : Value} {t : Nat} (h : PM w n v L Gf Gb Gs F s qv wr) (hown : w6.ownsRow (Gs + 1) 3 1 v' (s.q.length + 1) ((s.q.map Int.ofNat).map (Value.int .i64) ++ [(t : Int)].map (Value.int .i64))) (hg : (wr.alloc b).grownBy w6 qv.ownBlock) :
    PM w n v L Gf Gb Gs F ⟨s.o, s.b, s.q ++ [t]⟩ v' w6 := by
  have ha := h.alloc b
  obtain ⟨o1, o2, o3, o4, o5⟩ := ha.ord
  have e1 : (s.q ++ [t]).length = s.q.length + 1 := by simp
  have e2 : ((s.q ++ [t]).map Int.ofNat).map (Value.int .i64) = (s.q.map Int.ofNat).map (Value.int .i64) ++ [(t : Int)].map (Value.int .i64) := by simp
  refine ⟨ha.flow.kept hg (.inr (fun e => by have := o5 _ (show qv.ownBlock = some Gf from e.symm); omega)), ha.by_.kept hg (.inr (fun e => by have := o5 _ (show qv.ownBlock = some Gb from e.symm); omega)), ha.seen.kept hg (.inr (fun e => by have := o5 _ (show qv.ownBlock = some Gs from e.symm); omega)), ?_, ha.below.grown hg ha.below.size (fun j e => by have := o5 _ e; simp; omega)⟩
  show w6.ownsRow (Gs + 1) 3 1 v' (s.q ++ [t]).length _
  rw [e1, e2]
  exact hown
/-- The arc at hand has a block of its own. -/
structure PA (w : World) (n : Nat) (v : Value) (L Gf Gb Gs Sa : Nat) (x : ArcD) (F : List Int) (s : BS) (qv : Value) (wr : World) : Prop where
  pm : PM w n v L Gf Gb Gs F s qv wr
  arc : wr.heap[Sa]? = some (.cells #[.int .i64 x.f, .int .i64 x.t, .int .i64 x.r, .int .i64 x.c] 64 (0, 0))
  far : Gs < Sa ∧ qv.ownBlock ≠ some Sa
theorem PA.make (h : PM w n v L Gf Gb Gs F s qv wr) (x : ArcD) : PA w n v L Gf Gb Gs wr.heap.size x F s qv (wr.alloc (.cells #[.int .i64 x.f, .int .i64 x.t, .int .i64 x.r, .int .i64 x.c] 64)) := by
  obtain ⟨o1, o2, o3, o4, o5⟩ := h.ord
  exact ⟨h.alloc _, heap_alloc_new wr _, o4, fun e => by have := o5 _ e; omega⟩
theorem PA.drewN (h : PA w n v L Gf Gb Gs Sa x F s qv wr) (m : Nat) : PA w n v L Gf Gb Gs Sa x F s qv (wr.drewN m) := ⟨h.pm.drewN m, h.arc, h.far⟩
theorem PA.mark (h : PA w n v L Gf Gb Gs Sa x F s qv wr) (t : Nat) : PA w n v L Gf Gb Gs Sa x F ⟨fun j => s.o j || decide (j = t), s.b, s.q⟩ qv (wr.setCell ⟨Gs, t, none⟩ (.bool true)) :=
  ⟨h.pm.mark t, (heap_setCell_other _ _ _ _ (fun e => by have := h.far.1; simp at e; omega)).trans h.arc, h.far⟩
theorem PA.tell (h : PA w n v L Gf Gb Gs Sa x F s qv wr) (t : Nat) (y : Int) : PA w n v L Gf Gb Gs Sa x F ⟨s.o, fun j => if j = t then y else s.b j, s.q⟩ qv (wr.setCell ⟨Gb, t, none⟩ (.int .i64 y)) :=
  ⟨h.pm.tell t y, (heap_setCell_other _ _ _ _ (fun e => by have := h.far.1; have := h.pm.ord; simp at e; omega)).trans h.arc, h.far⟩
theorem PA.app {b : Obj} {w6 : World} (h : PA w n v L Gf Gb Gs Sa x F s qv wr) (hg : (wr.alloc b).grownBy w6 qv.ownBlock) : w6.heap[Sa]? = some (.cells #[.int .i64 x.f, .int .i64 x.t, .int .i64 x.r, .int .i64 x.c] 64 (0, 0)) := by
  have hX := (Array.getElem?_eq_some_iff.1 h.arc).1
  exact ((hg.block Sa (by simp; omega) (fun e => h.far.2 e.symm)).trans ((World.grownBy_alloc wr b none).block Sa hX (by simp))).trans h.arc
theorem PA.c0 (h : PA w n v L Gf Gb Gs Sa x F s qv wr) : wr.cell? ⟨Sa, 0, none⟩ = some (.int .i64 x.f) := by rw [cell_of_row _ _ _ _ _ _ h.arc]; rfl
theorem PA.c1 (h : PA w n v L Gf Gb Gs Sa x F s qv wr) : wr.cell? ⟨Sa, 1, none⟩ = some (.int .i64 x.t) := by rw [cell_of_row _ _ _ _ _ _ h.arc]; rfl
theorem PA.c2 (h : PA w n v L Gf Gb Gs Sa x F s qv wr) : wr.cell? ⟨Sa, 2, none⟩ = some (.int .i64 x.r) := by rw [cell_of_row _ _ _ _ _ _ h.arc]; rfl
end
theorem own_at {w : World} {B s n : Nat} {e : TypeId} {v : Value} {xs : List Value} (h : w.ownsRow B e s v n xs) (hn : 0 < n) : ∃ g c, v = .slice (some ⟨g, 0, none⟩) n c := by
  rcases h.2 with ⟨rfl, h0⟩ | ⟨g, cap, cur, rfl, _⟩
  · omega
  · exact ⟨_, _, rfl⟩
theorem scanB_step {P : List (ArcD × Int)} {v k : Nat} {s : BS} {p : ArcD × Int} (h : P[k]? = some p) : scanB v (P.drop k) k s = scanB v (P.drop (k + 1)) (k + 1) (bwdB p.1 p.2 v k (fwdB p.1 p.2 v k s)) := by
  obtain ⟨hi, rfl⟩ := List.getElem?_eq_some_iff.1 h
  rw [List.drop_eq_getElem_cons hi]
  rfl
theorem nxt_none {v k : Nat} {s : BS} {x : ArcD} {y : Int} (h1 : x.f = (v : Int) → s.o x.t.toNat = false → y < x.r → False) (h2 : x.t = (v : Int) → s.o x.f.toNat = false → 0 < y → False) : bwdB x y v k (fwdB x y v k s) = s := by
  have e : fwdB x y v k s = s := by
    unfold fwdB
    rw [if_neg (fun h => h1 h.1 h.2.1 h.2.2)]
  rw [e]
  unfold bwdB
  rw [if_neg (fun h => h2 h.1 h.2.1 h.2.2)]
theorem nxt_fwd {v k : Nat} {s : BS} {x : ArcD} {y : Int} (h1 : x.f = (v : Int)) (h2 : s.o x.t.toNat = false) (h3 : y < x.r) (hne : x.f ≠ x.t) : bwdB x y v k (fwdB x y v k s) = s.met x.t.toNat ((k : Int) + 1) := by
  have e : fwdB x y v k s = s.met x.t.toNat ((k : Int) + 1) := by
    unfold fwdB
    rw [if_pos ⟨h1, h2, h3⟩]
  rw [e]
  unfold bwdB
  rw [if_neg (fun h => hne (h1.trans h.1.symm))]
theorem nxt_bwd {v k : Nat} {s : BS} {x : ArcD} {y : Int} (h1 : x.t = (v : Int)) (h2 : s.o x.f.toNat = false) (h3 : 0 < y) (hne : x.f ≠ x.t) : bwdB x y v k (fwdB x y v k s) = s.met x.f.toNat (-(k : Int) - 1) := by
  have e : fwdB x y v k s = s := by
    unfold fwdB
    rw [if_neg (fun h => hne (h.1.trans h1.symm))]
  rw [e]
  unfold bwdB
  rw [if_pos ⟨h1, h2, h3⟩]
theorem scanB_end {P : List (ArcD × Int)} {v k : Nat} {s : BS} (h : P.length ≤ k) : scanB v (P.drop k) k s = s := by
  rw [List.drop_of_length_le h]
  rfl

end Go.Proofs.Ytghhlojjjjnogaa
