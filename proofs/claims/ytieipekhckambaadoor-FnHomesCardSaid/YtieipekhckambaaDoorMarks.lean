/-
  Plain lemmas: the marks that ranges over functions leave; small facts on memory. No law is proved here.
-/
import Derived.Test.YtieipekhckambaaDoorNbr
namespace Go.Proofs.YtieipekhckambaaDoor
set_option maxRecDepth 4096
open Go.ChangeShapes Go.WideShapes Go.ChangeAt Go.RowKit Go.Shelf

/-- The mark that a range over a function leaves among the deferred calls. -/
def markD (r : Nat) : Deferred := { target := .collected r, args := #[] }

theorem leavesMarks {n : Nat} {P : Program} {fn : Func} {tmps : Array Value} {R : Ending → World → Prop} {v : Value} (hres : ∀ w, (results fn tmps).run P w = .ok v w) (w0 : World) (hR : ∀ w', Below w0.heap.size w0 w' → R (.returned v) w') :
    ∀ (ms : List Nat) (w : World), ms.Nodup → (∀ r ∈ ms, w0.heap.size ≤ r ∧ w.heap[r]? = some (.deferred (some []))) → Below w0.heap.size w0 w → LeavesInM Fence.wide n P fn tmps R (ms.map markD) .returning w
  | [], w, _, _, hB => ⟨v, hres w, hR w hB⟩
  | r :: ms, w, hn, hm, hB => by
    obtain ⟨hr, hw⟩ := hm r (List.mem_cons_self ..)
    obtain ⟨hne, hn2⟩ := List.nodup_cons.1 hn
    refine ⟨by simp, .inl ⟨r, _, rfl, run_takeDeferred hw, ?_⟩⟩
    refine leavesMarks hres w0 hR ms _ hn2 (fun s hs => ?_) (hB.trans (belowK_b (w := w0) (Nat.le_refl _) w r _ _ hr hw rfl rfl))
    obtain ⟨h1, h2⟩ := hm s (List.mem_cons_of_mem _ hs)
    refine ⟨h1, (World.putObj_heap_other ?_).trans h2⟩
    rintro rfl
    exact hne hs

/-- A list of ints in memory of a call's own, with its block. -/
theorem ints_at {w : World} {B : Nat} {e : TypeId} {v : Value} {L : List Int} (h : w.ownsRow B e 1 v L.length (L.map (Value.int .i64))) :
    ∃ a c, v = .slice a L.length c ∧ (L.length = 0 ∨ ∃ g, a = some ⟨g, 0, none⟩ ∧ B ≤ g ∧ g < w.heap.size ∧ ∀ (j : Nat) x, L[j]? = some x → w.cell? ⟨g, j, none⟩ = some (.int .i64 x)) := by
  obtain ⟨a, c, rfl⟩ := own_form h
  refine ⟨a, c, rfl, ?_⟩
  rcases h.2 with ⟨hv, h0⟩ | ⟨g, cap, cur, hv, hg, hh, _⟩
  · exact .inl h0
  · cases hv
    refine .inr ⟨g, rfl, hg, (Array.getElem?_eq_some_iff.1 hh).1, fun j x hx => ?_⟩
    have h2 := h.cells (g := g) rfl j (.int .i64 x) (by simp [hx])
    have hadd : (⟨g, 0, none⟩ : Addr).add j = ⟨g, j, none⟩ := by unfold Addr.add; split <;> simp_all
    rw [hadd] at h2
    exact h2

theorem grown_trans {a b c : World} {p : Nat} {row : Option Nat} (h : a.grownBy b (some p)) (k : b.grownBy c row) (hr : ∀ r, row = some r → a.heap.size ≤ r ∨ r = p) : a.grownBy c (some p) :=
  ⟨k.os.trans h.os, k.tape.trans h.tape, k.output.trans h.output, Nat.le_trans h.size k.size, fun i hi hne =>
    (k.block i (Nat.lt_of_lt_of_le hi h.size) (fun e => by
      rcases hr i e.symm with h1 | h1
      · omega
      · exact hne (by rw [h1]))).trans (h.block i hi hne)⟩
theorem grown_cell {a b : World} {p g : Nat} (h : a.grownBy b (some p)) (hg : g < a.heap.size) (hne : g ≠ p) (j : Nat) : b.cell? ⟨g, j, none⟩ = a.cell? ⟨g, j, none⟩ := cell_block (h.block g hg (fun e => hne (by cases e; rfl))) j
theorem grown_refl (a : World) (r : Option Nat) : a.grownBy a r := ⟨rfl, rfl, rfl, Nat.le_refl _, fun _ _ _ => rfl⟩
theorem grown_alloc {a b : World} {r : Option Nat} (h : a.grownBy b r) (o : Obj) : a.grownBy (b.alloc o) r :=
  ⟨h.os, h.tape, h.output, Nat.le_trans h.size (by simp), fun i hi hne => (heap_alloc_old _ _ _ (Nat.lt_of_lt_of_le hi h.size)).trans (h.block i hi hne)⟩

theorem nbrK_set {G K P : Nat} {W : World} {x : Value} (hG : G ≠ P) (hK : K ≠ P) (hv : Boxed W P 3 x) (u : Value) : NbrK G K W (W.setCell ⟨P, 0, none⟩ u) := by
  refine ⟨⟨(KeepsOthers.setCell W ⟨P, 0, none⟩ u).size, heap_setCell_other _ _ _ _ hG, heap_setCell_other _ _ _ _ hK⟩, fun k cs hk => ?_⟩
  rw [heap_setCell_other _ _ _ _ (fun e => by subst e; have := hk.symm.trans hv; simp at this)]
  exact hk

/-- The same where more is known of the world at the return (what a turn of a block that is no cells leaves). -/
theorem leavesMarksJ {n : Nat} {P : Program} {fn : Func} {tmps : Array Value} {R : Ending → World → Prop} {v : Value} (hres : ∀ w, (results fn tmps).run P w = .ok v w) (w0 : World) (J : World → Prop) (hJ : ∀ (w : World) (l : Nat) (o o' : Obj), J w → w.heap[l]? = some o → o.isCells = false → J (w.putObj l o')) (hR : ∀ w', J w' → Below w0.heap.size w0 w' → R (.returned v) w') :
    ∀ (ms : List Nat) (w : World), ms.Nodup → (∀ r ∈ ms, w0.heap.size ≤ r ∧ w.heap[r]? = some (.deferred (some []))) → Below w0.heap.size w0 w → J w → LeavesInM Fence.wide n P fn tmps R (ms.map markD) .returning w
  | [], w, _, _, hB, hj => ⟨v, hres w, hR w hj hB⟩
  | r :: ms, w, hn, hm, hB, hj => by
    obtain ⟨hr, hw⟩ := hm r (List.mem_cons_self ..)
    obtain ⟨hne, hn2⟩ := List.nodup_cons.1 hn
    refine ⟨by simp, .inl ⟨r, _, rfl, run_takeDeferred hw, ?_⟩⟩
    refine leavesMarksJ hres w0 J hJ hR ms _ hn2 (fun s hs => ?_) (hB.trans (belowK_b (w := w0) (Nat.le_refl _) w r _ _ hr hw rfl rfl)) (hJ _ _ _ _ hj hw rfl)
    obtain ⟨h1, h2⟩ := hm s (List.mem_cons_of_mem _ hs)
    refine ⟨h1, (World.putObj_heap_other ?_).trans h2⟩
    rintro rfl
    exact hne hs

end Go.Proofs.YtieipekhckambaaDoor
