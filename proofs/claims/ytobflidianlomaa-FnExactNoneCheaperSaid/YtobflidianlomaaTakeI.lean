/-
  CONTRACT of the program's take: units flow along one arc. No law is proved here.
-/
import Derived.Test.YtobflidianlomaaResP
namespace Go.Proofs.Ytobflidianlomaa
set_option maxRecDepth 4096
open Go.ChangeShapes Go.WideShapes Go.ChangeAt Go.RowKit

theorem boxR_left {w : World} {b : Nat} {a l k : Int} {p : Option Addr} (u : Int) (h : w.heap[b]? = some (boxR a l k p)) : (w.setCell ⟨b, 1, none⟩ (.int .i64 u)).heap[b]? = some (boxR a u k p) :=
  heap_setCell_same w b 1 _ _ _ h
theorem implTake (b c : Nat) (a l k a' l' k' U : Int) (hne : b ≠ c) (hw1 : IntKind.i64.wrap (l - U) = l - U) (hw2 : IntKind.i64.wrap (l' + U) = l' + U) (w : World) (h1 : w.heap[b]? = some (boxR a l k (some ⟨c, 0, none⟩))) (h2 : w.heap[c]? = some (boxR a' l' k' (some ⟨b, 0, none⟩))) :
    Calls Try.prog 37 #[ptrV b, .int .i64 U] w fun e w' => e = .returned (.tuple #[]) ∧ w' = (w.setCell ⟨b, 1, none⟩ (.int .i64 (l - U))).setCell ⟨c, 1, none⟩ (.int .i64 (l' + U)) := by
  obtain ⟨_, j1, _⟩ := boxR_cells h1
  have f1 := frozen_of_row w b 1 _ _ h1
  have hb1 := boxR_left (l - U) h1
  have hb2 : (w.setCell ⟨b, 1, none⟩ (.int .i64 (l - U))).heap[c]? = some (boxR a' l' k' (some ⟨b, 0, none⟩)) := (heap_setCell_other w ⟨b, 1, none⟩ c _ (fun e => hne e.symm)).trans h2
  obtain ⟨_, _, j3⟩ := boxR_cells hb1
  obtain ⟨_, j2, _⟩ := boxR_cells hb2
  have f2 := frozen_of_row _ c 1 _ _ hb2
  clear h1 h2 hb1 hb2
  unfold ptrV
  go_enter Try.func37, Try.ntmps37
  go_wp2_with fail
  exact bodyPost_end (v := .tuple #[]) (by simp [results]) rfl ⟨rfl, rfl⟩

theorem left_facts {n : Nat} {A : List ArcD} {F : List Int} {X : List (Nat × Nat)} {b : Nat} {l : Int} (h : flowOkV n A F = true) (hl : LeftAt A F X b l) : 0 ≤ l ∧ l ≤ 20 := by
  obtain ⟨hn, _, hr, _⟩ := flowOk_out h
  obtain ⟨i, x, y, c, d, h1, h2, _, h4⟩ := hl
  have h5 := hr (x, y) (List.mem_of_getElem? (zip_at h1 h2))
  have h6 := (arcOk_out ((netOk_out hn).2.2 _ (List.mem_of_getElem? h1))).2.2.2.1
  simp only at h5
  omega

section
variable {B G n i c d p q : Nat} {w w' : World} {A : List ArcD} {F : List Int} {S : Nat → Value} {X : List (Nat × Nat)} {x : ArcD} {y : Int}
/-- What take leaves. -/
theorem RN.took {a1 l1 k1 a2 l2 k2 : Int} {r1 r2 : Option Addr} (δ v1 v2 : Int) (h : RN B w G n A F S X) (hx : A[i]? = some x) (hy : F[i]? = some y) (hc : X[i]? = some (c, d)) (hpq : (p = c ∧ q = d) ∨ (p = d ∧ q = c)) (hne : p ≠ q)
    (hp : w.heap[p]? = some (boxR a1 l1 k1 r1)) (hq : w.heap[q]? = some (boxR a2 l2 k2 r2)) (hw : w' = (w.setCell ⟨p, 1, none⟩ (.int .i64 v1)).setCell ⟨q, 1, none⟩ (.int .i64 v2))
    (h1 : w'.heap[c]? = some (boxR x.f (x.r - (y + δ)) x.c (some ⟨d, 0, none⟩))) (h2 : w'.heap[d]? = some (boxR x.t (y + δ) (-x.c) (some ⟨c, 0, none⟩))) :
    RN B w' G n A (Go.Proofs.Ytobflidianlomaa.bump F i δ) S X ∧ (∀ {B' : Nat} {e : TypeId} {m : Nat} {v : Value} {xs : List Value}, w.ownsRow B' e 1 v m xs → e ≠ 69 → w'.ownsRow B' e 1 v m xs) ∧ ∀ w0 : World, Below B w0 w → Below B w0 w' := by
  have g1 := grown_setCellR w ⟨p, 1, none⟩ (.int .i64 v1)
  have g2 := grown_setCellR (w.setCell ⟨p, 1, none⟩ (.int .i64 v1)) ⟨q, 1, none⟩ (.int .i64 v2)
  rw [← hw] at g2
  have hq1 : (w.setCell ⟨p, 1, none⟩ (.int .i64 v1)).heap[q]? = some (boxR a2 l2 k2 r2) := (heap_setCell_other w ⟨p, 1, none⟩ q _ (fun e => hne e.symm)).trans hq
  refine ⟨h.bump δ hx hy hc hpq hp g1 hq1 g2 h1 h2, fun k he => ?_, fun w0 hb => ?_⟩
  · have k1 := k.kept g1 (own_notBox k he hp)
    exact k1.kept g2 (own_notBox k1 he hq1)
  · have hl := h.box.lt (c, d) (List.mem_of_getElem? hc)
    have hB : B ≤ p ∧ B ≤ q := by rcases hpq with ⟨rfl, rfl⟩ | ⟨rfl, rfl⟩ <;> exact ⟨by omega, by omega⟩
    have hs : B ≤ w.heap.size := by simp only at hl; omega
    have h3 := hb.grown g1 hs (fun j hj => by cases hj; exact hB.1)
    exact h3.grown g2 (Nat.le_trans hs g1.size) (fun j hj => by cases hj; exact hB.2)
theorem RN.fwd (U : Int) (h : RN B w G n A F S X) (hx : A[i]? = some x) (hy : F[i]? = some y) (hc : X[i]? = some (c, d)) (hw : w' = (w.setCell ⟨c, 1, none⟩ (.int .i64 (x.r - y - U))).setCell ⟨d, 1, none⟩ (.int .i64 (y + U))) :
    RN B w' G n A (Go.Proofs.Ytobflidianlomaa.bump F i U) S X ∧ (∀ {B' : Nat} {e : TypeId} {m : Nat} {v : Value} {xs : List Value}, w.ownsRow B' e 1 v m xs → e ≠ 69 → w'.ownsRow B' e 1 v m xs) ∧ ∀ w0 : World, Below B w0 w → Below B w0 w' := by
  have hcd := (h.box.apart i i c d c d hc hc).1
  obtain ⟨b1, b2⟩ := h.box.box i x y c d hx hy hc
  refine h.took U _ _ hx hy hc (.inl ⟨rfl, rfl⟩) hcd b1 b2 hw ?_ ?_
  · rw [hw, show x.r - (y + U) = x.r - y - U by omega]
    exact (heap_setCell_other _ ⟨d, 1, none⟩ c _ hcd).trans (boxR_left _ b1)
  · rw [hw]
    exact boxR_left _ ((heap_setCell_other w ⟨c, 1, none⟩ d _ (fun e => hcd e.symm)).trans b2)
theorem RN.bwd (U : Int) (h : RN B w G n A F S X) (hx : A[i]? = some x) (hy : F[i]? = some y) (hc : X[i]? = some (c, d)) (hw : w' = (w.setCell ⟨d, 1, none⟩ (.int .i64 (y - U))).setCell ⟨c, 1, none⟩ (.int .i64 (x.r - y + U))) :
    RN B w' G n A (Go.Proofs.Ytobflidianlomaa.bump F i (-U)) S X ∧ (∀ {B' : Nat} {e : TypeId} {m : Nat} {v : Value} {xs : List Value}, w.ownsRow B' e 1 v m xs → e ≠ 69 → w'.ownsRow B' e 1 v m xs) ∧ ∀ w0 : World, Below B w0 w → Below B w0 w' := by
  have hcd := (h.box.apart i i c d c d hc hc).1
  obtain ⟨b1, b2⟩ := h.box.box i x y c d hx hy hc
  refine h.took (-U) _ _ hx hy hc (.inr ⟨rfl, rfl⟩) (fun e => hcd e.symm) b2 b1 hw ?_ ?_
  · rw [hw, show x.r - (y + -U) = x.r - y + U by omega]
    exact boxR_left _ ((heap_setCell_other w ⟨d, 1, none⟩ c _ hcd).trans b1)
  · rw [hw, show y + -U = y - U by omega]
    exact (heap_setCell_other _ ⟨c, 1, none⟩ d _ (fun e => hcd e.symm)).trans (boxR_left _ b2)
end

end Go.Proofs.Ytobflidianlomaa
