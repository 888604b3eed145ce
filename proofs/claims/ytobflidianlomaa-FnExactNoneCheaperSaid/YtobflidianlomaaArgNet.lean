/-
  Plain lemmas: an argument that is a net, opened; an argument of whatever type, read again behind the call. No law is proved here.
-/
import Derived.Test.YtobflidianlomaaNetCopy
import Derived.Test.YtobflidianlomaaRowO
import Derived.Test.YtobflidianlomaaLawSt
import Derived.Deep.Slices
import Derived.Deep.Fields
import Derived.ChangeSame
import Derived.Lib.SmallJoins
namespace Go.Proofs.Ytobflidianlomaa
set_option maxRecDepth 4096
open Go.ChangeShapes Go.WideShapes Go.ChangeAt Go.RowKit Go.Deep Go.Joins

section
variable {H : Type} {enc : TypeId × Value → H}

/-- Whatever a call made behind it, the argument reads as it did. -/
theorem again_of {t : TypeId} (hr : Try.prog.readableRec t = true) (hrow : t < Try.prog.types.size) {w w1 : World} {v : Value} {d : DataW H} {ps : List MemPlace} (h : DataW.Trod enc Try.prog w 0 (fun _ => true) true t v d ps)
    (hlt : ∀ x ∈ ps, x.block < w.heap.size) (hb : Below w.heap.size w w1) (sp : Nat → Bool) (hsp : ∀ p ∈ ps, sp p.block = true) : DataW.Trod enc Try.prog w1 0 sp true t v d ps :=
  WideElems.Trod_stays (by kernel_rfl) hr hrow h (fun x hx => hb.same (hlt x hx)) hsp

theorem list_of {α : Type} {Q : Nat → α → Prop} : ∀ (n : Nat), (∀ i, i < n → ∃ x, Q i x) → ∃ L : List α, L.length = n ∧ ∀ (j : Nat) x, L[j]? = some x → Q j x
  | 0, _ => ⟨[], rfl, fun j x h => by simp at h⟩
  | n + 1, h => by
    obtain ⟨L, hl, hL⟩ := list_of n fun i hi => h i (by omega)
    obtain ⟨x, hx⟩ := h n (by omega)
    refine ⟨L ++ [x], by simp [hl], fun j y hy => ?_⟩
    by_cases hj : j < n
    · rw [List.getElem?_append_left (by omega)] at hy
      exact hL j y hy
    · rw [List.getElem?_append_right (by omega)] at hy
      have : j = n := by
        have := (List.getElem?_eq_some_iff.1 hy).1
        simp at this
        omega
      subst this
      rw [hl, Nat.sub_self] at hy
      cases hy
      exact hx

theorem open_slice_fields {P : Program} {w : World} {base : Nat} {spare : Nat → Bool} {held : Bool} {t e : TypeId} {fs : Array Field} {fuel : Nat} {cs : List Value} {x : DataW H × List MemPlace} (ht : P.underlying t = some (.slice e)) (he : P.underlying e = some (.struct fs))
    (hone : oneCellFields P fs = true) (hC : P.cellsOf e = fs.size) (h : DataW.trod enc P w base spare held fuel t cs = some x) :
    (cs = [.slice none 0 0]) ∨
    ∃ (a : Addr) (len cap : Nat), cs = [.slice (some a) len cap] ∧ len ≤ cap ∧ cap ≤ maxLen ∧
      ∀ i, i < len → ∀ (j : Nat) (f : Field), fs[j]? = some f → ∃ (v : Value) (n : Nat) (y : DataW H × List MemPlace), w.cell? (a.add (i * fs.size + j)) = some v ∧ DataW.trod enc P w base spare held n f.type [v] = some y := by
  rcases open_slice ht h with h0 | ⟨a, len, cap, m, n, D, Pl, hcs, hb, hl, hm, hmm, hx, hi⟩
  · exact .inl h0.1
  · refine .inr ⟨a, len, cap, hcs, hl, hm, fun i hil j f hj => ?_⟩
    have him : i < m := by rw [hmm]; split <;> omega
    obtain ⟨cs', hc, ht'⟩ := hi i him
    rw [hC] at hc
    obtain ⟨ys, n', _, _, hlen, hyl, hf⟩ := DataW.trod_struct he ht'
    obtain ⟨_, hcl, hat⟩ := World.cells?_some hc
    obtain ⟨ho, hk⟩ := hone_of hone j f hj
    have hjl : j < fs.size := (Array.getElem?_eq_some_iff.1 hj).1
    have hcell := hat j hjl
    have hv : cs'[j]? = some (cs'[j]'(by omega)) := List.getElem?_eq_getElem (by omega)
    have h1 := hf j f hj
    rw [ho, hk] at h1
    have hone' : (cs'.drop j).take 1 = [cs'[j]'(by omega)] := by
      rw [List.drop_eq_getElem_cons (by omega)]
      rfl
    rw [hone'] at h1
    have hys : ys[j]? = some (ys[j]'(by omega)) := List.getElem?_eq_getElem (by omega)
    refine ⟨_, n', _, ?_, h1.trans hys⟩
    rw [← Go.Deep.add_add, hcell, hv]

theorem cell_int {w : World} {a : Addr} {v : Value} {n : Nat} {t : TypeId} {y : DataW H × List MemPlace} (ht : Try.prog.underlying t = some (.int .i64)) (hc : w.cell? a = some v) (h : DataW.trod enc Try.prog w 0 (fun _ => true) true n t [v] = some y) : ∃ z : Int, w.cell? a = some (.int .i64 z) := by
  obtain ⟨z, e, _, _⟩ := DataW.trod_int ht h
  simp only [List.cons.injEq, and_true] at e
  subst e
  exact ⟨z, hc⟩

theorem open_arg_arcs {w : World} {n : Nat} {v : Value} {y : DataW H × List MemPlace} (h : DataW.trod enc Try.prog w 0 (fun _ => true) true n 37 [v] = some y) : ∃ A : List ArcD, ArgA w v A ∧ A.length ≤ maxLen := by
  rcases open_slice_fields Try.underlying37 Try.underlying90 (by kernel_rfl) (by kernel_rfl) h with hcs | ⟨a, len, cap, hcs, hl, hm, hf⟩
  · simp only [List.cons.injEq, and_true] at hcs
    subst hcs
    exact ⟨[], ⟨none, 0, rfl, .inl rfl⟩, Nat.zero_le _⟩
  · simp only [List.cons.injEq, and_true] at hcs
    subst hcs
    obtain ⟨A, hA, hAt⟩ := list_of (Q := fun j (x : ArcD) => w.cell? (a.add (j * 4)) = some (.int .i64 x.f) ∧ w.cell? (a.add (j * 4 + 1)) = some (.int .i64 x.t) ∧ w.cell? (a.add (j * 4 + 2)) = some (.int .i64 x.r) ∧ w.cell? (a.add (j * 4 + 3)) = some (.int .i64 x.c)) len (fun i hi => by
      obtain ⟨v0, n0, y0, c0, t0⟩ := hf i hi 0 _ rfl
      obtain ⟨v1, n1, y1, c1, t1⟩ := hf i hi 1 _ rfl
      obtain ⟨v2, n2, y2, c2, t2⟩ := hf i hi 2 _ rfl
      obtain ⟨v3, n3, y3, c3, t3⟩ := hf i hi 3 _ rfl
      obtain ⟨z0, e0⟩ := cell_int Try.underlying3 c0 t0
      obtain ⟨z1, e1⟩ := cell_int Try.underlying3 c1 t1
      obtain ⟨z2, e2⟩ := cell_int Try.underlying3 c2 t2
      obtain ⟨z3, e3⟩ := cell_int Try.underlying3 c3 t3
      exact ⟨⟨z0, z1, z2, z3⟩, e0, e1, e2, e3⟩)
    refine ⟨A, ⟨some a, cap, by rw [hA], ?_⟩, by omega⟩
    by_cases h0 : A.length = 0
    · exact .inl h0
    · obtain ⟨x, hx⟩ : ∃ x, A[0]? = some x := ⟨_, List.getElem?_eq_getElem (by omega)⟩
      have hb := block_lt_of_cell (hAt 0 x hx).1
      rw [add_block] at hb
      exact .inr ⟨a, rfl, hb, hAt⟩

theorem open_arg_net {w : World} {r : Reach} {b0 : Nat} {v : Value} {d : DataW H} {ps : List MemPlace} (hv : Value.okWide Try.prog w r b0 39 v) (h : DataW.Trod enc Try.prog w 0 (fun _ => true) true 39 v d ps) :
    ∃ (N : Int) (u : Value) (A : List ArcD), v = .agg #[.int .i64 N, u] ∧ ArgA w u A ∧ A.length ≤ maxLen := by
  obtain ⟨v0, v1, y0, y1, n, rfl, _, _, g0, g1⟩ := open_agg2 Try.underlying39 (by kernel_rfl) (by kernel_rfl) hv h
  obtain ⟨N, e, _, _⟩ := DataW.trod_int Try.underlying3 g0
  simp only [List.cons.injEq, and_true] at e
  subst e
  obtain ⟨A, hA, hl⟩ := open_arg_arcs g1
  exact ⟨N, v1, A, rfl, hA, hl⟩
end

/-- What the law keeps while it calls on: its box, the net's own box X, the arcs in memory of its own. -/
structure Keep (w : World) (X : Nat) (N : Int) (u v2 : Value) (A : List ArcD) (w' : World) : Prop where
  below : Below (w.alloc (.cells #[.int .i64 N, u] 39)).heap.size (w.alloc (.cells #[.int .i64 N, u] 39)) w'
  box : w'.heap[X]? = some (.cells #[.int .i64 N, v2] 26 (0, 0))
  own : w'.ownsRow w.heap.size 66 4 v2 A.length (cellsA A)
section
variable {w : World} {X : Nat} {N : Int} {u v2 : Value} {A : List ArcD} {w' w'' : World}
theorem Keep.c2 (h : Keep w X N u v2 A w') : w'.cell? ⟨X, 0, none⟩ = some (.int .i64 N) := by rw [cell_of_row _ _ _ _ _ _ h.box]; rfl
theorem Keep.c3 (h : Keep w X N u v2 A w') : w'.cell? ⟨X, 1, none⟩ = some v2 := by rw [cell_of_row _ _ _ _ _ _ h.box]; rfl
theorem Keep.on (h : Keep w X N u v2 A w') (hb : Below w'.heap.size w' w'') : Keep w X N u v2 A w'' :=
  ⟨next_below h.below hb, (hb.block X (Array.getElem?_eq_some_iff.1 h.box).1).trans h.box, own_below h.own hb (Nat.le_trans (by simp) h.below.size)⟩
theorem Keep.drew (h : Keep w X N u v2 A w') : Keep w X N u v2 A w'.drew := ⟨h.below.drew, h.box, h.own⟩
theorem Keep.held (h : Keep w X N u v2 A w') (hb : Below w'.heap.size w' w'') :
    w''.cell? ⟨w.heap.size, 0, none⟩ = some (.int .i64 N) ∧ w''.cell? ⟨w.heap.size, 1, none⟩ = some u ∧ w''.cell? ⟨X, 0, none⟩ = some (.int .i64 N) ∧ w''.cell? ⟨X, 1, none⟩ = some v2 ∧ Keep w X N u v2 A w'' :=
  ⟨(net_cells (h.on hb).below).1, (net_cells (h.on hb).below).2, (h.on hb).c2, (h.on hb).c3, h.on hb⟩
theorem Keep.held2 (h : Keep w X N u v2 A w') {f2 : Value} {F : List Int} (hI : Ints w' f2 F) (hb : Below w'.heap.size w' w'') :
    w''.cell? ⟨w.heap.size, 0, none⟩ = some (.int .i64 N) ∧ w''.cell? ⟨w.heap.size, 1, none⟩ = some u ∧ w''.cell? ⟨X, 0, none⟩ = some (.int .i64 N) ∧ w''.cell? ⟨X, 1, none⟩ = some v2 ∧ Keep w X N u v2 A w'' ∧ Ints w'' f2 F :=
  ⟨(net_cells (h.on hb).below).1, (net_cells (h.on hb).below).2, (h.on hb).c2, (h.on hb).c3, h.on hb, ints_on hI hb⟩
theorem keep_new {w4 : World} {B : Nat} (h : Below (w.alloc (.cells #[.int .i64 N, u] 39)).heap.size (w.alloc (.cells #[.int .i64 N, u] 39)) w4) (hown : w4.ownsRow B 66 4 v2 A.length (cellsA A)) (hB : w.heap.size ≤ B) :
    Keep w w4.heap.size N u v2 A (w4.alloc (.cells #[.int .i64 N, v2] 26)) :=
  ⟨h.alloc h.size _, heap_alloc_new w4 _, own_base (hown.alloc _) hB⟩
end

/-- The law's box and the net's own box, while calls go on. -/
theorem held_net {w w' w'' : World} {X : Nat} {N : Int} {u v2 : Value} {K : List (Nat × Obj)} {L : List RowD} (h : LSt w (.cells #[.int .i64 N, u] 39) K L w') (hX : (X, Obj.cells #[.int .i64 N, v2] 26) ∈ K) (hb : Below w'.heap.size w' w'') :
    w''.cell? ⟨w.heap.size, 0, none⟩ = some (.int .i64 N) ∧ w''.cell? ⟨w.heap.size, 1, none⟩ = some u ∧ w''.cell? ⟨X, 0, none⟩ = some (.int .i64 N) ∧ w''.cell? ⟨X, 1, none⟩ = some v2 ∧ LSt w (.cells #[.int .i64 N, u] 39) K L w'' := by
  have h2 := h.on hb
  refine ⟨(net_cells h2.below).1, (net_cells h2.below).2, ?_, ?_, h2⟩
  · rw [cell_of_row _ _ _ _ _ _ (h2.keep _ hX)]; rfl
  · rw [cell_of_row _ _ _ _ _ _ (h2.keep _ hX)]; rfl

end Go.Proofs.Ytobflidianlomaa
