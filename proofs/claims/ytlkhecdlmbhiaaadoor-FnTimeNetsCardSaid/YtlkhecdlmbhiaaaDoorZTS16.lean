/-
  Rows of arcs in memory. Plain facts; no statement is proved here.
  What TimeNet and CanAt hand back. No statement is proved here.
  The memory in which TimeNet lists its arcs. No statement is proved here.
  The two blocks that TimeNet begins with: the map's box and the result's. No statement is proved here.
  CONTRACT of the program's within, as it is. No law is proved here.
  Where a cell lies among the rows. No law is proved here.
-/
import Derived.Test.YtlkhecdlmbhiaaaDoorZTS07
import Derived.Test.YtlkhecdlmbhiaaaDoorZTS15
import Derived.Laws.OwnMore
import Derived.Test.YtlkhecdlmbhiaaaDoorZTS04
import Derived.Deep.AppendLies
import Derived.Test.YtlkhecdlmbhiaaaDoorZTS00
import Derived.Test.YtlkhecdlmbhiaaaDoorZTS03
namespace Go.Proofs.YtlkhecdlmbhiaaaDoor
set_option maxRecDepth 4096
open Go.ChangeShapes Go.WideShapes Go.ChangeAt Go.RowKit

theorem Tryd.infoArc : (Tryd.prog.info? 72).map (fun i => (i.zero, i.size, i.bytes)) = some (some (.agg #[.int .i64 0, .int .i64 0, .int .i64 0, .int .i64 0]), 4, 32) := by kernel_rfl

/-- An argument that is a slice of arcs: nil or empty, or somewhere in a block. -/
def ArgA (w : World) (v : Value) (A : List ArcD) : Prop :=
  ∃ a c, v = .slice a A.length c ∧ (A.length = 0 ∨ ∃ b, a = some b ∧ b.block < w.heap.size ∧ ∀ (j : Nat) x, A[j]? = some x →
    w.cell? (b.add (j * 4)) = some (.int .i64 x.f) ∧ w.cell? (b.add (j * 4 + 1)) = some (.int .i64 x.t) ∧ w.cell? (b.add (j * 4 + 2)) = some (.int .i64 x.r) ∧ w.cell? (b.add (j * 4 + 3)) = some (.int .i64 x.c))
theorem add_block (b : Addr) (j : Nat) : (b.add j).block = b.block := by unfold Addr.add; split <;> rfl
theorem add_next (b : Addr) (m j : Nat) : (⟨(b.add m).block, (b.add m).off + (j + 1), none⟩ : Addr) = b.add (m + (j + 1)) := by
  unfold Addr.add
  split
  · rename_i h; subst h; simp
  · simp [Nat.add_assoc]
theorem argA_below {w w1 : World} {v : Value} {A : List ArcD} (h : ArgA w v A) (hb : Below w.heap.size w w1) : ArgA w1 v A := by
  obtain ⟨a, c, hv, hh⟩ := h
  refine ⟨a, c, hv, ?_⟩
  rcases hh with h0 | ⟨b, ha, hlt, hc⟩
  · exact .inl h0
  · refine .inr ⟨b, ha, Nat.lt_of_lt_of_le hlt hb.size, fun j x hx => ?_⟩
    obtain ⟨h1, h2, h3, h4⟩ := hc j x hx
    exact ⟨(hb.cell (p := b.add _) (by rw [add_block]; exact hlt)).trans h1, (hb.cell (p := b.add _) (by rw [add_block]; exact hlt)).trans h2, (hb.cell (p := b.add _) (by rw [add_block]; exact hlt)).trans h3, (hb.cell (p := b.add _) (by rw [add_block]; exact hlt)).trans h4⟩

/-- The cells of arcs. -/
def cellsA (A : List ArcD) : List Value := A.flatMap arcC
theorem cellsA_len : ∀ A : List ArcD, (cellsA A).length = A.length * 4
  | [] => rfl
  | x :: A => by
    have := cellsA_len A
    unfold cellsA at this ⊢
    rw [List.flatMap_cons, List.length_append, this, List.length_cons]
    show 4 + _ = _
    omega
theorem cellsA_snoc {A : List ArcD} {k : Nat} {x : ArcD} (h : A[k]? = some x) : cellsA (A.take (k + 1)) = cellsA (A.take k) ++ arcC x := by
  obtain ⟨hi, rfl⟩ := List.getElem?_eq_some_iff.1 h
  rw [List.take_succ_eq_append_getElem hi]
  unfold cellsA
  rw [List.flatMap_append, List.flatMap_cons, List.flatMap_nil, List.append_nil]
theorem cellsA_at {A : List ArcD} {k i : Nat} {x : ArcD} (h : A[k]? = some x) (hi : i < 4) : (cellsA A)[k * 4 + i]? = (arcC x)[i]? := by
  obtain ⟨hk, rfl⟩ := List.getElem?_eq_some_iff.1 h
  have e : cellsA A = cellsA (A.take k) ++ (arcC A[k] ++ cellsA (A.drop (k + 1))) := by
    unfold cellsA
    rw [← List.flatMap_cons, ← List.drop_eq_getElem_cons hk, ← List.flatMap_append, List.take_append_drop]
  have hl : (cellsA (A.take k)).length = k * 4 := by rw [cellsA_len, List.length_take]; omega
  rw [e, List.getElem?_append_right (by omega), hl, Nat.add_sub_cancel_left, List.getElem?_append_left (by show i < 4; exact hi)]
/-- Four cells are written anew. -/
theorem set_four {pre post : List Value} {u0 u1 u2 u3 a b c d : Value} {m : Nat} (hm : pre.length = m) :
    ((((pre ++ u0 :: u1 :: u2 :: u3 :: post).set m a).set (m + 1) b).set (m + 2) c).set (m + 3) d = pre ++ [a, b, c, d] ++ post := by
  subst hm
  simp
theorem drop_four {xs : List Value} {m : Nat} (h : m + 4 ≤ xs.length) : ∃ u0 u1 u2 u3, xs.drop m = u0 :: u1 :: u2 :: u3 :: xs.drop (m + 4) := by
  refine ⟨xs[m], xs[m + 1], xs[m + 2], xs[m + 3], ?_⟩
  rw [List.drop_eq_getElem_cons (by omega), List.drop_eq_getElem_cons (by omega), List.drop_eq_getElem_cons (by omega), List.drop_eq_getElem_cons (by omega)]
theorem arcs_step {A : List ArcD} {k : Nat} {x : ArcD} {xs : List Value} (hx : A[k]? = some x) (h : xs.length = A.length * 4) :
    ((((cellsA (A.take k) ++ xs.drop (k * 4)).set (k * 4) (.int .i64 x.f)).set (k * 4 + 1) (.int .i64 x.t)).set (k * 4 + 2) (.int .i64 x.r)).set (k * 4 + 3) (.int .i64 x.c) = cellsA (A.take (k + 1)) ++ xs.drop ((k + 1) * 4) := by
  have hk := (List.getElem?_eq_some_iff.1 hx).1
  obtain ⟨u0, u1, u2, u3, e⟩ := drop_four (xs := xs) (m := k * 4) (by omega)
  rw [e, set_four (by rw [cellsA_len, List.length_take]; omega), cellsA_snoc hx]
  have e2 : (k + 1) * 4 = k * 4 + 4 := by omega
  rw [e2]
  rfl

/-- The list of arcs came back in memory of the call's own. -/
def ArcsBack (w : World) (A : List ArcD) (e : Ending) (w' : World) : Prop :=
  ∃ v, e = .returned v ∧ w'.ownsRow w.heap.size 72 4 v A.length (cellsA A) ∧ Below w.heap.size w w'
theorem arcs_of_own {w : World} {B : Nat} {e : TypeId} {v : Value} {A : List ArcD} (h : w.ownsRow B e 4 v A.length (cellsA A)) : Arcs w v A := by
  rcases h.2 with ⟨rfl, h0⟩ | ⟨g, cap, cur, rfl, _, hh, _⟩
  · exact .inl ⟨List.eq_nil_of_length_eq_zero h0, _, _, rfl⟩
  · refine .inr ⟨g, cap, rfl, (Array.getElem?_eq_some_iff.1 hh).1, fun j x hx => ?_⟩
    have key : ∀ i u, i < 4 → (arcC x)[i]? = some u → w.cell? ⟨g, j * 4 + i, none⟩ = some u := fun i u hi hu => by
      have := h.cells (g := g) rfl (j * 4 + i) u (by rw [cellsA_at hx hi]; exact hu)
      have hadd : (⟨g, 0, none⟩ : Addr).add (j * 4 + i) = ⟨g, j * 4 + i, none⟩ := by unfold Addr.add; split <;> simp_all
      rwa [hadd] at this
    exact ⟨key 0 _ (by decide) rfl, key 1 _ (by decide) rfl, key 2 _ (by decide) rfl, key 3 _ (by decide) rfl⟩
theorem own_cell4 {w : World} {B : Nat} {e : TypeId} {g n c j : Nat} {xs : List Value} (h : w.ownsRow B e 4 (.slice (some ⟨g, 0, none⟩) n c) n xs) (hj : j < n * 4) : ∃ u, w.cell? ⟨g, j, none⟩ = some u := by
  have hl : j < xs.length := by have := h.1; omega
  have := h.cells (g := g) rfl j xs[j] (List.getElem?_eq_getElem hl)
  have hadd : (⟨g, 0, none⟩ : Addr).add j = ⟨g, j, none⟩ := by unfold Addr.add; split <;> simp_all
  rw [hadd] at this
  exact ⟨_, this⟩

/-- The net came back, its arcs in memory of the call's own. -/
def NetBack (w : World) (N : Int) (A : List ArcD) (e : Ending) (w' : World) : Prop :=
  ∃ v, e = .returned (.agg #[.int .i64 N, v]) ∧ w'.ownsRow w.heap.size 72 4 v A.length (cellsA A) ∧ Below w.heap.size w w'

theorem own_set {w : World} {B r i s : Nat} {e : TypeId} {n : Nat} {v u : Value} {xs : List Value} (h : w.ownsRow B e s v n xs) (hr : r < B) : (w.setCell ⟨r, i, none⟩ u).ownsRow B e s v n xs := by
  have hg : w.grownBy (w.setCell ⟨r, i, none⟩ u) (some r) := ⟨rfl, rfl, rfl, by simp [World.setCell], fun k _ hk => heap_setCell_other w ⟨r, i, none⟩ k u (fun e => hk (by simp [e]))⟩
  refine h.kept hg ?_
  cases hv : v.ownBlock with
  | none => exact .inl rfl
  | some j => exact .inr (fun e => by have := (h.lt j hv).1; have := Option.some.inj e; omega)
/-- A block that a call has left as it was. -/
theorem old_block {wa w3 : World} {c0 c1 : Value} {t : TypeId} {m : Nat} (hb : Below wa.heap.size wa w3) (h : wa.heap[m]? = some (.cells #[c0, c1] t (0, 0))) :
    w3.cell? ⟨m, 0, none⟩ = some c0 ∧ w3.cell? ⟨m, 1, none⟩ = some c1 ∧ w3.frozen? ⟨m, 0, none⟩ = false ∧ w3.frozen? ⟨m, 1, none⟩ = false := by
  have h3 : w3.heap[m]? = some (.cells #[c0, c1] t (0, 0)) := (hb.block m (Array.getElem?_eq_some_iff.1 h).1).trans h
  refine ⟨?_, ?_, ?_, ?_⟩
  · rw [cell_of_row _ _ _ _ _ _ h3]; rfl
  · rw [cell_of_row _ _ _ _ _ _ h3]; rfl
  · simp [World.frozen?, h3]
  · simp [World.frozen?, h3]

end Go.Proofs.YtlkhecdlmbhiaaaDoor

namespace Go.Proofs.YtlkhecdlmbhiaaaDoor
set_option maxRecDepth 4096
open Go.ChangeShapes Go.WideShapes Go.ChangeAt Go.RowKit

/-- A net and a Boolean came back, the net's arcs in memory of the call's own. -/
def TimeBack (w : World) (N : Int) (A : List ArcD) (b : Bool) (e : Ending) (w' : World) : Prop :=
  ∃ v, e = .returned (.tuple #[.agg #[.int .i64 N, v], .bool b]) ∧ w'.ownsRow w.heap.size 72 4 v A.length (cellsA A) ∧ Below w.heap.size w w'
noncomputable def timeNV (W H : Int) (C : ByteArray) (S G : List Int) (T : Int) (strict : Bool) : Int := if askV W H C S G T = true then (nodesG W H C T.toNat strict : Nat) else 0
noncomputable def timeAV (W H : Int) (C : ByteArray) (S G : List Int) (T : Int) (strict : Bool) : List ArcD := if askV W H C S G T = true then netG W H C S G T.toNat strict else []
noncomputable def canV (W H : Int) (C : ByteArray) (S G : List Int) (T : Int) : Bool := askV W H C S G T && decide (mostS (timeNV W H C S G T false) (timeAV W H C S G T false) = (S.length : Int))
theorem timeAV_len {W H : Int} {C : ByteArray} {S G : List Int} {T : Int} {strict : Bool} : (timeAV W H C S G T strict).length ≤ 3200 := by
  unfold timeAV
  split
  · rename_i h
    obtain ⟨t, rfl, hd⟩ := ask_out h
    have h2 := netG_ok (strict := strict) hd
    unfold netOkV at h2
    simp only [Bool.and_eq_true, decide_eq_true_eq] at h2
    exact h2.2.1
  · exact Nat.zero_le _

end Go.Proofs.YtlkhecdlmbhiaaaDoor

namespace Go.Proofs.YtlkhecdlmbhiaaaDoor
set_option maxRecDepth 4096
open Go.ChangeShapes Go.WideShapes Go.ChangeAt Go.RowKit

theorem Tryd.infoArcT : (Tryd.prog.info? 72).map (fun i => (i.zero, i.size, i.bytes)) = some (some (.agg #[.int .i64 0, .int .i64 0, .int .i64 0, .int .i64 0]), 4, 32) := by kernel_rfl
theorem arcs_newT (w : World) (Z : List ArcD) (cs : Array Value) (hcs : cs.toList = cellsA Z) (t : TypeId) : ∀ j u, (cellsA Z)[j]? = some u → (w.alloc (.cells cs t)).cell? ((⟨w.heap.size, 0, none⟩ : Addr).add j) = some u := by
  intro j u h
  have hadd : (⟨w.heap.size, 0, none⟩ : Addr).add j = ⟨w.heap.size, j, none⟩ := by unfold Addr.add; split <;> simp_all
  rw [hadd, World.cell?_alloc_mark]
  rw [← hcs] at h
  simpa using h
theorem arcs_oneT (Z : List ArcD) : ∀ u ∈ cellsA Z, u.oneCell' = true := by
  intro u hu
  obtain ⟨x, _, hx⟩ := List.mem_flatMap.1 hu
  simp [arcC] at hx
  rcases hx with rfl | rfl | rfl | rfl <;> rfl
theorem grownNT {w w' : World} (h : Below w.heap.size w w') : w.grownBy w' none := ⟨h.os, h.tape, h.output, h.size, fun i hi _ => h.block i hi⟩
theorem ne_noneT (v : Value) : v.ownBlock = none ∨ v.ownBlock ≠ none := by cases h : v.ownBlock <;> simp

structure NB (w9 : World) (N : Int) (va : Value) (A : List ArcD) (wr : World) : Prop where
  net : wr.heap[w9.heap.size]? = some (.cells #[.int .i64 N, va] 32 (0, 0))
  row : wr.ownsRow (w9.heap.size + 1) 72 4 va A.length (cellsA A)
  below : Below w9.heap.size w9 wr
section
variable {w9 wr w3 w6 : World} {N : Int} {va va' : Value} {A Z : List ArcD}
theorem NB.lt (h : NB w9 N va A wr) : w9.heap.size + 1 ≤ wr.heap.size := (Array.getElem?_eq_some_iff.1 h.net).1
theorem NB.call (h : NB w9 N va A wr) (hb : Below wr.heap.size wr w3) : NB w9 N va A w3 :=
  ⟨(hb.block _ (Array.getElem?_eq_some_iff.1 h.net).1).trans h.net, h.row.kept (grownNT hb) (ne_noneT _), h.below.trans (hb.mono (Nat.le_of_lt h.lt))⟩
theorem NB.drew (h : NB w9 N va A wr) : NB w9 N va A wr.drew := ⟨h.net, h.row, h.below.drew⟩
theorem NB.drewN (h : NB w9 N va A wr) (n : Nat) : NB w9 N va A (wr.drewN n) := ⟨h.net, h.row, ⟨h.below.os, h.below.tape, h.below.output, h.below.size, h.below.block⟩⟩
theorem NB.alloc (h : NB w9 N va A wr) (o : Obj) : NB w9 N va A (wr.alloc o) :=
  ⟨((World.grownBy_alloc wr o none).block _ (by have := h.lt; omega) (by simp)).trans h.net, h.row.alloc o, h.below.alloc (by have := h.lt; omega) o⟩
theorem NB.start (w9 : World) (N : Int) : NB w9 N (.slice none 0 0) [] (w9.alloc (.cells #[.int .i64 N, .slice none 0 0] 32)) :=
  ⟨heap_alloc_new w9 _, World.ownsRow_nil _ _ _ _, (Below.refl _ _).alloc (Nat.le_refl _) _⟩
theorem NB.c0 (h : NB w9 N va A wr) : wr.cell? ⟨w9.heap.size, 0, none⟩ = some (.int .i64 N) := by rw [cell_of_row _ _ _ _ _ _ h.net]; rfl
theorem NB.c1 (h : NB w9 N va A wr) : wr.cell? ⟨w9.heap.size, 1, none⟩ = some va := by rw [cell_of_row _ _ _ _ _ _ h.net]; rfl
theorem NB.f0 (h : NB w9 N va A wr) : wr.frozen? ⟨w9.heap.size, 0, none⟩ = false := frozen_of_row _ _ 0 _ _ h.net
theorem NB.f1 (h : NB w9 N va A wr) : wr.frozen? ⟨w9.heap.size, 1, none⟩ = false := frozen_of_row _ _ 1 _ _ h.net
theorem NB.grown (h : NB w9 N va A wr) {o : Obj} (hg : (wr.alloc o).grownBy w6 va.ownBlock) : w6.heap[w9.heap.size]? = some (.cells #[.int .i64 N, va] 32 (0, 0)) :=
  ((hg.block _ (by simp; have := h.lt; omega) (fun e => by have := (h.row.lt _ e.symm).1; omega)).trans ((World.grownBy_alloc wr o none).block _ (by have := h.lt; omega) (by simp))).trans h.net
theorem NB.g1 (h : NB w9 N va A wr) {o : Obj} (hg : (wr.alloc o).grownBy w6 va.ownBlock) : w6.cell? ⟨w9.heap.size, 1, none⟩ = some va := by rw [cell_of_row _ _ _ _ _ _ (h.grown hg)]; rfl
theorem NB.k1 (h : NB w9 N va A wr) {o : Obj} (hg : (wr.alloc o).grownBy w6 va.ownBlock) : w6.frozen? ⟨w9.heap.size, 1, none⟩ = false := frozen_of_row _ _ 1 _ _ (h.grown hg)
theorem NB.below6 (h : NB w9 N va A wr) {o : Obj} (hg : (wr.alloc o).grownBy w6 va.ownBlock) : Below w9.heap.size w9 w6 :=
  (h.alloc o).below.grown hg (by have := (h.alloc o).lt; omega) (fun j e => by have := (h.row.lt _ e).1; omega)
/-- Arcs appended, and stored. -/
theorem NB.app (h : NB w9 N va A wr) {o : Obj} (hown : w6.ownsRow (w9.heap.size + 1) 72 4 va' (A.length + Z.length) (cellsA A ++ cellsA Z)) (hg : (wr.alloc o).grownBy w6 va.ownBlock) :
    NB w9 N va' (A ++ Z) (w6.setCell ⟨w9.heap.size, 1, none⟩ va') := by
  have hn := h.grown hg
  have k : w6.grownBy (w6.setCell ⟨w9.heap.size, 1, none⟩ va') (some w9.heap.size) := ⟨rfl, rfl, rfl, by simp [World.setCell], fun i _ hne => heap_setCell_other _ _ _ _ (fun e => hne (by rw [e]))⟩
  have e1 : (A ++ Z).length = A.length + Z.length := List.length_append
  have e2 : cellsA (A ++ Z) = cellsA A ++ cellsA Z := by unfold cellsA; simp
  refine ⟨heap_setCell_same w6 _ 1 _ _ va' hn, ?_, ?_⟩
  · rw [e1, e2]
    exact hown.kept k (.inr fun e => by have := (hown.lt _ e).1; omega)
  · have h1 : Below w9.heap.size w9 (wr.alloc o) := h.below.alloc (by have := h.lt; omega) o
    have h2 := h1.grown hg (by simp; have := h.lt; omega) (fun j e => by have := (h.row.lt _ e).1; omega)
    exact h2.grown k (by have := hg.size; simp at this; have := h.lt; omega) (fun j e => by have := Option.some.inj e; omega)
theorem NB.nodes (h : NB w9 N va A wr) (M : Int) : NB w9 M va A (wr.setCell ⟨w9.heap.size, 0, none⟩ (.int .i64 M)) := by
  have k : wr.grownBy (wr.setCell ⟨w9.heap.size, 0, none⟩ (.int .i64 M)) (some w9.heap.size) := ⟨rfl, rfl, rfl, by simp [World.setCell], fun i _ hne => heap_setCell_other _ _ _ _ (fun e => hne (by rw [e]))⟩
  exact ⟨heap_setCell_same wr _ 0 _ _ _ h.net, h.row.kept k (.inr fun e => by have := (h.row.lt _ e).1; omega), h.below.grown k (by have := h.lt; omega) (fun j e => by have := Option.some.inj e; omega)⟩
theorem own_neT {w : World} {B k s n : Nat} {e t : TypeId} {v : Value} {xs : List Value} {cs : Array Value} {fr : Nat × Nat} (h : w.ownsRow B e s v n xs) (hk : w.heap[k]? = some (.cells cs t fr)) (he : e ≠ t) : v.ownBlock = none ∨ v.ownBlock ≠ some k := by
  rcases h.2 with ⟨rfl, _⟩ | ⟨g, cap, cur, rfl, _, hg, _⟩
  · exact .inl rfl
  · refine .inr (fun e2 => ?_)
    have e3 : g = k := by simpa [Value.ownBlock] using e2
    subst e3
    rw [hg] at hk
    injection hk with hk
    injection hk with _ h2
    exact he h2
theorem own_typesT {w : World} {B B' : Nat} {e e' : TypeId} {s s' n n' : Nat} {v v' : Value} {xs xs' : List Value} (h : w.ownsRow B e s v n xs) (h' : w.ownsRow B' e' s' v' n' xs') (he : e ≠ e') : v.ownBlock = none ∨ v.ownBlock ≠ v'.ownBlock := by
  rcases h'.2 with ⟨rfl, _⟩ | ⟨g', cap', cur', rfl, _, hg', _⟩
  · exact ne_noneT v
  · exact own_neT h hg' he
theorem NB.row6 (h : NB w9 N va A wr) {B s n : Nat} {e : TypeId} {v : Value} {xs : List Value} (hr : wr.ownsRow B e s v n xs) (h1 : e ≠ 72) {o : Obj} (hg : (wr.alloc o).grownBy w6 va.ownBlock) : w6.ownsRow B e s v n xs :=
  (hr.alloc o).kept hg (own_typesT (hr.alloc o) (h.alloc o).row h1)
/-- Another row is as it was. -/
theorem NB.other (h : NB w9 N va A wr) {B s n : Nat} {e : TypeId} {v : Value} {xs : List Value} (hr : wr.ownsRow B e s v n xs) (h1 : e ≠ 72) (h2 : e ≠ 32) {o : Obj} (hg : (wr.alloc o).grownBy w6 va.ownBlock) (u : Value) :
    (w6.setCell ⟨w9.heap.size, 1, none⟩ u).ownsRow B e s v n xs := by
  have k : w6.grownBy (w6.setCell ⟨w9.heap.size, 1, none⟩ u) (some w9.heap.size) := ⟨rfl, rfl, rfl, by simp [World.setCell], fun i _ hne => heap_setCell_other _ _ _ _ (fun e => hne (by rw [e]))⟩
  have r1 := (hr.alloc o).kept hg (own_typesT (hr.alloc o) (h.alloc o).row h1)
  exact r1.kept k (own_neT r1 (h.grown hg) h2)
theorem NB.keep (h : NB w9 N va A wr) {B s n : Nat} {e : TypeId} {v : Value} {xs : List Value} (hr : wr.ownsRow B e s v n xs) (hb : Below wr.heap.size wr w3) : w3.ownsRow B e s v n xs := by
  have _ := h.net
  exact hr.kept (grownNT hb) (ne_noneT _)
theorem own_drewT {w : World} {B s n : Nat} {e : TypeId} {v : Value} {xs : List Value} (h : w.ownsRow B e s v n xs) : w.drew.ownsRow B e s v n xs := h
theorem own_cellT {w : World} {B g n c k : Nat} {e : TypeId} {R : List Int} {y : Int} (h : w.ownsRow B e 1 (.slice (some ⟨g, 0, none⟩) n c) n (R.map (Value.int .i64))) (hy : R[k]? = some y) : w.cell? ⟨g, k, none⟩ = some (.int .i64 y) := by
  have := h.cells (g := g) rfl k (.int .i64 y) (by rw [List.getElem?_map, hy]; rfl)
  have hadd : (⟨g, 0, none⟩ : Addr).add k = ⟨g, k, none⟩ := by unfold Addr.add; split <;> simp_all
  rwa [hadd] at this
theorem own_ptrT {w : World} {B s n : Nat} {e : TypeId} {v : Value} {xs : List Value} (h : w.ownsRow B e s v n xs) (hn : 0 < n) : ∃ g c, v = .slice (some ⟨g, 0, none⟩) n c := by
  rcases h.2 with ⟨rfl, h0⟩ | ⟨g, cap, cur, rfl, _⟩
  · omega
  · exact ⟨_, _, rfl⟩
end

end Go.Proofs.YtlkhecdlmbhiaaaDoor

namespace Go.Proofs.YtlkhecdlmbhiaaaDoor
set_option maxRecDepth 4096
open Go.ChangeShapes Go.WideShapes Go.ChangeAt Go.RowKit

/-- The two blocks that TimeNet begins with. -/
def tnObj (W H : Int) (C : ByteArray) : Obj := .cells #[.int .i64 W, .int .i64 H, .string C] 25
def tnRes : Obj := .cells #[.int .i64 0, .slice none 0 0] 32
theorem tn_cells {w wr : World} {W H : Int} {C : ByteArray} (h : Below ((w.alloc (tnObj W H C)).alloc tnRes).heap.size ((w.alloc (tnObj W H C)).alloc tnRes) wr) :
    wr.cell? ⟨w.heap.size, 0, none⟩ = some (.int .i64 W) ∧ wr.cell? ⟨w.heap.size, 1, none⟩ = some (.int .i64 H) ∧ wr.cell? ⟨w.heap.size, 2, none⟩ = some (.string C) := by
  have h1 : wr.heap[w.heap.size]? = some (.cells #[.int .i64 W, .int .i64 H, .string C] 25 (0, 0)) :=
    (h.block _ (by simp; omega)).trans (((World.grownBy_alloc (w.alloc (tnObj W H C)) tnRes none).block _ (by simp) (by simp)).trans (heap_alloc_new w _))
  refine ⟨?_, ?_, ?_⟩ <;> rw [cell_of_row _ _ _ _ _ _ h1] <;> rfl
theorem tn_res {w wr : World} {W H : Int} {C : ByteArray} (h : Below ((w.alloc (tnObj W H C)).alloc tnRes).heap.size ((w.alloc (tnObj W H C)).alloc tnRes) wr) : wr.heap[w.heap.size + 1]? = some (.cells #[.int .i64 0, .slice none 0 0] 32 (0, 0)) := by
  have h2 := heap_alloc_new (w.alloc (tnObj W H C)) tnRes
  rw [World.size_alloc] at h2
  exact (h.block _ (by simp)).trans h2
theorem tn_below {w wr : World} {W H : Int} {C : ByteArray} (h : Below ((w.alloc (tnObj W H C)).alloc tnRes).heap.size ((w.alloc (tnObj W H C)).alloc tnRes) wr) : Below w.heap.size w wr :=
  (((Below.refl w.heap.size w).alloc (Nat.le_refl _) (tnObj W H C)).alloc (by simp) tnRes).trans (h.mono (by simp; omega))

/-- What is handed back. -/
theorem tn_back {w wr : World} {W H : Int} {C : ByteArray} {N : Int} {va : Value} {A : List ArcD} (h : Below ((w.alloc (tnObj W H C)).alloc tnRes).heap.size ((w.alloc (tnObj W H C)).alloc tnRes) wr) (hown : wr.ownsRow (w.heap.size + 2) 72 4 va A.length (cellsA A)) :
    ((wr.setCell ⟨w.heap.size + 1, 0, none⟩ (.int .i64 N)).setCell ⟨w.heap.size + 1, 1, none⟩ va).cell? ⟨w.heap.size + 1, 0, none⟩ = some (.int .i64 N) ∧ ((wr.setCell ⟨w.heap.size + 1, 0, none⟩ (.int .i64 N)).setCell ⟨w.heap.size + 1, 1, none⟩ va).cell? ⟨w.heap.size + 1, 1, none⟩ = some va ∧
    ((wr.setCell ⟨w.heap.size + 1, 0, none⟩ (.int .i64 N)).setCell ⟨w.heap.size + 1, 1, none⟩ va).ownsRow w.heap.size 72 4 va A.length (cellsA A) ∧ Below w.heap.size w ((wr.setCell ⟨w.heap.size + 1, 0, none⟩ (.int .i64 N)).setCell ⟨w.heap.size + 1, 1, none⟩ va) := by
  have hrow := heap_setCell_same _ (w.heap.size + 1) 1 _ _ va (heap_setCell_same wr (w.heap.size + 1) 0 _ _ (.int .i64 N) (tn_res h))
  have k1 : wr.grownBy (wr.setCell ⟨w.heap.size + 1, 0, none⟩ (.int .i64 N)) (some (w.heap.size + 1)) := ⟨rfl, rfl, rfl, by simp [World.setCell], fun i _ hne => heap_setCell_other _ _ _ _ (fun e => hne (by rw [e]))⟩
  have k2 : (wr.setCell ⟨w.heap.size + 1, 0, none⟩ (.int .i64 N)).grownBy ((wr.setCell ⟨w.heap.size + 1, 0, none⟩ (.int .i64 N)).setCell ⟨w.heap.size + 1, 1, none⟩ va) (some (w.heap.size + 1)) := ⟨rfl, rfl, rfl, by simp [World.setCell], fun i _ hne => heap_setCell_other _ _ _ _ (fun e => hne (by rw [e]))⟩
  have hne : va.ownBlock = none ∨ va.ownBlock ≠ some (w.heap.size + 1) := .inr fun e => by have := (hown.lt _ e).1; omega
  refine ⟨by rw [cell_of_row _ _ _ _ _ _ hrow]; rfl, by rw [cell_of_row _ _ _ _ _ _ hrow]; rfl, own_base ((hown.kept k1 hne).kept k2 hne) (by omega), ?_⟩
  have hb := tn_below h
  have hs := h.size
  rw [World.size_alloc, World.size_alloc] at hs
  exact (hb.grown k1 hb.size (fun j e => by have := Option.some.inj e; omega)).grown k2 (by have := k1.size; omega) (fun j e => by have := Option.some.inj e; omega)

end Go.Proofs.YtlkhecdlmbhiaaaDoor

namespace Go.Proofs.YtlkhecdlmbhiaaaDoor
set_option maxRecDepth 4096
open Go.ChangeShapes Go.WideShapes Go.ChangeAt Go.RowKit

theorem implRange (x lo hi : Int) (b : Bool) (HB : Hid ((decide (lo ≤ x) && decide (x ≤ hi)) = b)) (w : World) :
    Calls Tryd.prog 43 #[.int .i64 x, .int .i64 lo, .int .i64 hi] w fun e w' => e = .returned (.bool b) ∧ w = w' := by
  by_cases h1 : lo ≤ x
  · by_cases h2 : x ≤ hi
    · have e : b = true := by rw [← HB.out]; simp [h1, h2]
      subst e
      clear HB
      go_enter Tryd.func43, Tryd.ntmps43
      go_wp2
      go_ret
      exact ⟨rfl, rfl⟩
    · have e : b = false := by rw [← HB.out]; simp [h2]
      subst e
      clear HB
      go_enter Tryd.func43, Tryd.ntmps43
      go_wp2
      go_ret
      exact ⟨rfl, rfl⟩
  · have e : b = false := by rw [← HB.out]; simp [h1]
    subst e
    clear HB
    go_enter Tryd.func43, Tryd.ntmps43
    go_wp2
    go_ret
    exact ⟨rfl, rfl⟩

end Go.Proofs.YtlkhecdlmbhiaaaDoor

namespace Go.Proofs.YtlkhecdlmbhiaaaDoor
set_option maxRecDepth 4096
open Go.ChangeShapes Go.WideShapes Go.ChangeAt Go.RowKit

theorem rowsR_at {a b : Nat} {C : ByteArray} {y : Nat} (hg : gok a b C = true) (hy : y < b) (hb : b ≤ 8) : (rowsR a b C)[y]? = some (.string (rowT C a y)) := by
  unfold rowsR
  rw [if_pos hg]
  exact rowsV_at C a b y hy hb

theorem cell_rows {w : World} {g q : Nat} {R S : Array Value} {t : TypeId} {v : Value} (hR : w.heap[g]? = some (.cells S t (0, 0))) (HR : Hid (S = R)) (hr : Hid (R[q]? = some v)) : w.cell? ⟨g, q, none⟩ = some v := by
  rw [cell_of_row _ _ _ _ _ _ hR, HR.out]
  exact hr.out

/-- Where the cell n of a valid map lies among the rows. -/
theorem place {W H : Int} {C : ByteArray} {n : Nat} (hg : gok W H C = true) (hn : n < C.size) : ∃ a b q m : Nat, W = a ∧ H = b ∧ 1 ≤ a ∧ a ≤ 8 ∧ b ≤ 8 ∧ q < b ∧ m < a ∧ (n : Int).tdiv (a : Int) = (q : Int) ∧ (n : Int).tmod (a : Int) = (m : Int) ∧
    m < (rowT C a q).size ∧ byteAt (rowT C a q) m = byteAt C n ∧ (rowsR W H C)[q]? = some (.string (rowT C a q)) := by
  obtain ⟨⟨⟨h1, h2⟩, ⟨h3, h4⟩, hs⟩, _⟩ := gok_out hg
  obtain ⟨a, rfl⟩ : ∃ a : Nat, W = a := ⟨W.toNat, by omega⟩
  obtain ⟨b, rfl⟩ : ∃ b : Nat, H = b := ⟨H.toNat, by omega⟩
  have hs2 : C.size = a * b := by have : ((a * b : Nat) : Int) = (a : Int) * (b : Int) := Int.natCast_mul a b; omega
  have ha : 0 < a := by omega
  have hq : n / a < b := Nat.div_lt_of_lt_mul (by omega)
  have hm : n % a < a := Nat.mod_lt _ ha
  have hle : (n / a + 1) * a ≤ C.size := by rw [hs2, Nat.mul_comm a b]; exact Nat.mul_le_mul_right a (by omega)
  have hnn : n / a * a + n % a = n := by rw [Nat.mul_comm]; exact Nat.div_add_mod n a
  refine ⟨a, b, n / a, n % a, rfl, rfl, by omega, by omega, by omega, hq, hm, ?_, ?_, by rw [row_size C a _ hle]; exact hm, ?_, rowsR_at hg hq (by omega)⟩
  · rw [Int.tdiv_eq_ediv_of_nonneg (by omega)]; rfl
  · rw [Int.tmod_eq_emod_of_nonneg (by omega)]; rfl
  · rw [row_byte C a _ _ hle hm, hnn]

end Go.Proofs.YtlkhecdlmbhiaaaDoor

