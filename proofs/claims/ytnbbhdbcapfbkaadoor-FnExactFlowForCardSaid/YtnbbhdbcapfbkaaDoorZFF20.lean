/-
  The memory in which TimeNet lists its arcs. No statement is proved here.
  The two blocks that TimeNet begins with: the map's box and the result's. No statement is proved here.
  CONTRACT of the program's rowWith. No law is proved here.
  CONTRACT of the program's FreeAt. No law is proved here.
  CONTRACT of the program's allFree. No law is proved here.
  CONTRACT of the program's GridOk. No law is proved here.
-/
import Derived.Test.YtnbbhdbcapfbkaaDoorZFF19
import Derived.Test.YtnbbhdbcapfbkaaDoorZFF00
import Derived.Deep.AppendLies
import Derived.Test.YtnbbhdbcapfbkaaDoorZFF15
import Derived.Deep.QuietTactic
import Derived.BigQuiet
import Derived.Test.YtnbbhdbcapfbkaaDoorZFF10
namespace Go.Proofs.YtnbbhdbcapfbkaaDoor
set_option maxRecDepth 4096
open Go.ChangeShapes Go.WideShapes Go.ChangeAt Go.RowKit

theorem Tryd.infoArcT : (Tryd.prog.info? 62).map (fun i => (i.zero, i.size, i.bytes)) = some (some (.agg #[.int .i64 0, .int .i64 0, .int .i64 0, .int .i64 0]), 4, 32) := by kernel_rfl
theorem arcs_newT (w : World) (Z : List ArcD) (cs : Array Value) (hcs : cs.toList = cellsA Z) (t : TypeId) : ∀ j u, (cellsA Z)[j]? = some u → (w.alloc (.cells cs t)).cell? ((⟨w.heap.size, 0, none⟩ : Addr).add j) = some u := by
  intro j u h
  have hadd : (⟨w.heap.size, 0, none⟩ : Addr).add j = ⟨w.heap.size, j, none⟩ := by unfold Addr.add; split <;> simp_all
  rw [hadd, World.cell?_alloc_mark]
  rw [← hcs] at h
  simpa using h
theorem arcs_oneT (Z : List ArcD) : ∀ u ∈ cellsA Z, u.oneCell' = true := by
  intro u hu
  obtain ⟨x, _, hx⟩ := List.mem_flatMap.1 hu
  simp [arcC] at hx
  rcases hx with rfl | rfl | rfl | rfl <;> rfl
theorem grownNT {w w' : World} (h : Below w.heap.size w w') : w.grownBy w' none := ⟨h.os, h.tape, h.output, h.size, fun i hi _ => h.block i hi⟩
theorem ne_noneT (v : Value) : v.ownBlock = none ∨ v.ownBlock ≠ none := by cases h : v.ownBlock <;> simp

structure NB (w9 : World) (N : Int) (va : Value) (A : List ArcD) (wr : World) : Prop where
  net : wr.heap[w9.heap.size]? = some (.cells #[.int .i64 N, va] 45 (0, 0))
  row : wr.ownsRow (w9.heap.size + 1) 62 4 va A.length (cellsA A)
  below : Below w9.heap.size w9 wr
section
variable {w9 wr w3 w6 : World} {N : Int} {va va' : Value} {A Z : List ArcD}
theorem NB.lt (h : NB w9 N va A wr) : w9.heap.size + 1 ≤ wr.heap.size := (Array.getElem?_eq_some_iff.1 h.net).1
theorem NB.call (h : NB w9 N va A wr) (hb : Below wr.heap.size wr w3) : NB w9 N va A w3 :=
  ⟨(hb.block _ (Array.getElem?_eq_some_iff.1 h.net).1).trans h.net, h.row.kept (grownNT hb) (ne_noneT _), h.below.trans (hb.mono (Nat.le_of_lt h.lt))⟩
theorem NB.drew (h : NB w9 N va A wr) : NB w9 N va A wr.drew := ⟨h.net, h.row, h.below.drew⟩
theorem NB.drewN (h : NB w9 N va A wr) (n : Nat) : NB w9 N va A (wr.drewN n) := ⟨h.net, h.row, ⟨h.below.os, h.below.tape, h.below.output, h.below.size, h.below.block⟩⟩
theorem NB.alloc (h : NB w9 N va A wr) (o : Obj) : NB w9 N va A (wr.alloc o) :=
  ⟨((World.grownBy_alloc wr o none).block _ (by have := h.lt; omega) (by simp)).trans h.net, h.row.alloc o, h.below.alloc (by have := h.lt; omega) o⟩
theorem NB.start (w9 : World) (N : Int) : NB w9 N (.slice none 0 0) [] (w9.alloc (.cells #[.int .i64 N, .slice none 0 0] 45)) :=
  ⟨heap_alloc_new w9 _, World.ownsRow_nil _ _ _ _, (Below.refl _ _).alloc (Nat.le_refl _) _⟩
theorem NB.c0 (h : NB w9 N va A wr) : wr.cell? ⟨w9.heap.size, 0, none⟩ = some (.int .i64 N) := by rw [cell_of_row _ _ _ _ _ _ h.net]; rfl
theorem NB.c1 (h : NB w9 N va A wr) : wr.cell? ⟨w9.heap.size, 1, none⟩ = some va := by rw [cell_of_row _ _ _ _ _ _ h.net]; rfl
theorem NB.f0 (h : NB w9 N va A wr) : wr.frozen? ⟨w9.heap.size, 0, none⟩ = false := frozen_of_row _ _ 0 _ _ h.net
theorem NB.f1 (h : NB w9 N va A wr) : wr.frozen? ⟨w9.heap.size, 1, none⟩ = false := frozen_of_row _ _ 1 _ _ h.net
theorem NB.grown (h : NB w9 N va A wr) {o : Obj} (hg : (wr.alloc o).grownBy w6 va.ownBlock) : w6.heap[w9.heap.size]? = some (.cells #[.int .i64 N, va] 45 (0, 0)) :=
  ((hg.block _ (by simp; have := h.lt; omega) (fun e => by have := (h.row.lt _ e.symm).1; omega)).trans ((World.grownBy_alloc wr o none).block _ (by have := h.lt; omega) (by simp))).trans h.net
theorem NB.g1 (h : NB w9 N va A wr) {o : Obj} (hg : (wr.alloc o).grownBy w6 va.ownBlock) : w6.cell? ⟨w9.heap.size, 1, none⟩ = some va := by rw [cell_of_row _ _ _ _ _ _ (h.grown hg)]; rfl
theorem NB.k1 (h : NB w9 N va A wr) {o : Obj} (hg : (wr.alloc o).grownBy w6 va.ownBlock) : w6.frozen? ⟨w9.heap.size, 1, none⟩ = false := frozen_of_row _ _ 1 _ _ (h.grown hg)
theorem NB.below6 (h : NB w9 N va A wr) {o : Obj} (hg : (wr.alloc o).grownBy w6 va.ownBlock) : Below w9.heap.size w9 w6 :=
  (h.alloc o).below.grown hg (by have := (h.alloc o).lt; omega) (fun j e => by have := (h.row.lt _ e).1; omega)
/-- Arcs appended, and stored. -/
theorem NB.app (h : NB w9 N va A wr) {o : Obj} (hown : w6.ownsRow (w9.heap.size + 1) 62 4 va' (A.length + Z.length) (cellsA A ++ cellsA Z)) (hg : (wr.alloc o).grownBy w6 va.ownBlock) :
    NB w9 N va' (A ++ Z) (w6.setCell ⟨w9.heap.size, 1, none⟩ va') := by
  have hn := h.grown hg
  have k : w6.grownBy (w6.setCell ⟨w9.heap.size, 1, none⟩ va') (some w9.heap.size) := ⟨rfl, rfl, rfl, by simp [World.setCell], fun i _ hne => heap_setCell_other _ _ _ _ (fun e => hne (by rw [e]))⟩
  have e1 : (A ++ Z).length = A.length + Z.length := List.length_append
  have e2 : cellsA (A ++ Z) = cellsA A ++ cellsA Z := by unfold cellsA; simp
  refine ⟨heap_setCell_same w6 _ 1 _ _ va' hn, ?_, ?_⟩
  · rw [e1, e2]
    exact hown.kept k (.inr fun e => by have := (hown.lt _ e).1; omega)
  · have h1 : Below w9.heap.size w9 (wr.alloc o) := h.below.alloc (by have := h.lt; omega) o
    have h2 := h1.grown hg (by simp; have := h.lt; omega) (fun j e => by have := (h.row.lt _ e).1; omega)
    exact h2.grown k (by have := hg.size; simp at this; have := h.lt; omega) (fun j e => by have := Option.some.inj e; omega)
theorem NB.nodes (h : NB w9 N va A wr) (M : Int) : NB w9 M va A (wr.setCell ⟨w9.heap.size, 0, none⟩ (.int .i64 M)) := by
  have k : wr.grownBy (wr.setCell ⟨w9.heap.size, 0, none⟩ (.int .i64 M)) (some w9.heap.size) := ⟨rfl, rfl, rfl, by simp [World.setCell], fun i _ hne => heap_setCell_other _ _ _ _ (fun e => hne (by rw [e]))⟩
  exact ⟨heap_setCell_same wr _ 0 _ _ _ h.net, h.row.kept k (.inr fun e => by have := (h.row.lt _ e).1; omega), h.below.grown k (by have := h.lt; omega) (fun j e => by have := Option.some.inj e; omega)⟩
theorem own_neT {w : World} {B k s n : Nat} {e t : TypeId} {v : Value} {xs : List Value} {cs : Array Value} {fr : Nat × Nat} (h : w.ownsRow B e s v n xs) (hk : w.heap[k]? = some (.cells cs t fr)) (he : e ≠ t) : v.ownBlock = none ∨ v.ownBlock ≠ some k := by
  rcases h.2 with ⟨rfl, _⟩ | ⟨g, cap, cur, rfl, _, hg, _⟩
  · exact .inl rfl
  · refine .inr (fun e2 => ?_)
    have e3 : g = k := by simpa [Value.ownBlock] using e2
    subst e3
    rw [hg] at hk
    injection hk with hk
    injection hk with _ h2
    exact he h2
theorem own_typesT {w : World} {B B' : Nat} {e e' : TypeId} {s s' n n' : Nat} {v v' : Value} {xs xs' : List Value} (h : w.ownsRow B e s v n xs) (h' : w.ownsRow B' e' s' v' n' xs') (he : e ≠ e') : v.ownBlock = none ∨ v.ownBlock ≠ v'.ownBlock := by
  rcases h'.2 with ⟨rfl, _⟩ | ⟨g', cap', cur', rfl, _, hg', _⟩
  · exact ne_noneT v
  · exact own_neT h hg' he
theorem NB.row6 (h : NB w9 N va A wr) {B s n : Nat} {e : TypeId} {v : Value} {xs : List Value} (hr : wr.ownsRow B e s v n xs) (h1 : e ≠ 62) {o : Obj} (hg : (wr.alloc o).grownBy w6 va.ownBlock) : w6.ownsRow B e s v n xs :=
  (hr.alloc o).kept hg (own_typesT (hr.alloc o) (h.alloc o).row h1)
/-- Another row is as it was. -/
theorem NB.other (h : NB w9 N va A wr) {B s n : Nat} {e : TypeId} {v : Value} {xs : List Value} (hr : wr.ownsRow B e s v n xs) (h1 : e ≠ 62) (h2 : e ≠ 45) {o : Obj} (hg : (wr.alloc o).grownBy w6 va.ownBlock) (u : Value) :
    (w6.setCell ⟨w9.heap.size, 1, none⟩ u).ownsRow B e s v n xs := by
  have k : w6.grownBy (w6.setCell ⟨w9.heap.size, 1, none⟩ u) (some w9.heap.size) := ⟨rfl, rfl, rfl, by simp [World.setCell], fun i _ hne => heap_setCell_other _ _ _ _ (fun e => hne (by rw [e]))⟩
  have r1 := (hr.alloc o).kept hg (own_typesT (hr.alloc o) (h.alloc o).row h1)
  exact r1.kept k (own_neT r1 (h.grown hg) h2)
theorem NB.keep (h : NB w9 N va A wr) {B s n : Nat} {e : TypeId} {v : Value} {xs : List Value} (hr : wr.ownsRow B e s v n xs) (hb : Below wr.heap.size wr w3) : w3.ownsRow B e s v n xs := by
  have _ := h.net
  exact hr.kept (grownNT hb) (ne_noneT _)
theorem own_drewT {w : World} {B s n : Nat} {e : TypeId} {v : Value} {xs : List Value} (h : w.ownsRow B e s v n xs) : w.drew.ownsRow B e s v n xs := h
theorem own_cellT {w : World} {B g n c k : Nat} {e : TypeId} {R : List Int} {y : Int} (h : w.ownsRow B e 1 (.slice (some ⟨g, 0, none⟩) n c) n (R.map (Value.int .i64))) (hy : R[k]? = some y) : w.cell? ⟨g, k, none⟩ = some (.int .i64 y) := by
  have := h.cells (g := g) rfl k (.int .i64 y) (by rw [List.getElem?_map, hy]; rfl)
  have hadd : (⟨g, 0, none⟩ : Addr).add k = ⟨g, k, none⟩ := by unfold Addr.add; split <;> simp_all
  rwa [hadd] at this
theorem own_ptrT {w : World} {B s n : Nat} {e : TypeId} {v : Value} {xs : List Value} (h : w.ownsRow B e s v n xs) (hn : 0 < n) : ∃ g c, v = .slice (some ⟨g, 0, none⟩) n c := by
  rcases h.2 with ⟨rfl, h0⟩ | ⟨g, cap, cur, rfl, _⟩
  · omega
  · exact ⟨_, _, rfl⟩
end

end Go.Proofs.YtnbbhdbcapfbkaaDoor

namespace Go.Proofs.YtnbbhdbcapfbkaaDoor
set_option maxRecDepth 4096
open Go.ChangeShapes Go.WideShapes Go.ChangeAt Go.RowKit

/-- The two blocks that TimeNet begins with. -/
def tnObj (W H : Int) (C : ByteArray) : Obj := .cells #[.int .i64 W, .int .i64 H, .string C] 30
def tnRes : Obj := .cells #[.int .i64 0, .slice none 0 0] 45
theorem tn_cells {w wr : World} {W H : Int} {C : ByteArray} (h : Below ((w.alloc (tnObj W H C)).alloc tnRes).heap.size ((w.alloc (tnObj W H C)).alloc tnRes) wr) :
    wr.cell? ⟨w.heap.size, 0, none⟩ = some (.int .i64 W) ∧ wr.cell? ⟨w.heap.size, 1, none⟩ = some (.int .i64 H) ∧ wr.cell? ⟨w.heap.size, 2, none⟩ = some (.string C) := by
  have h1 : wr.heap[w.heap.size]? = some (.cells #[.int .i64 W, .int .i64 H, .string C] 30 (0, 0)) :=
    (h.block _ (by simp; omega)).trans (((World.grownBy_alloc (w.alloc (tnObj W H C)) tnRes none).block _ (by simp) (by simp)).trans (heap_alloc_new w _))
  refine ⟨?_, ?_, ?_⟩ <;> rw [cell_of_row _ _ _ _ _ _ h1] <;> rfl
theorem tn_res {w wr : World} {W H : Int} {C : ByteArray} (h : Below ((w.alloc (tnObj W H C)).alloc tnRes).heap.size ((w.alloc (tnObj W H C)).alloc tnRes) wr) : wr.heap[w.heap.size + 1]? = some (.cells #[.int .i64 0, .slice none 0 0] 45 (0, 0)) := by
  have h2 := heap_alloc_new (w.alloc (tnObj W H C)) tnRes
  rw [World.size_alloc] at h2
  exact (h.block _ (by simp)).trans h2
theorem tn_below {w wr : World} {W H : Int} {C : ByteArray} (h : Below ((w.alloc (tnObj W H C)).alloc tnRes).heap.size ((w.alloc (tnObj W H C)).alloc tnRes) wr) : Below w.heap.size w wr :=
  (((Below.refl w.heap.size w).alloc (Nat.le_refl _) (tnObj W H C)).alloc (by simp) tnRes).trans (h.mono (by simp; omega))

/-- What is handed back. -/
theorem tn_back {w wr : World} {W H : Int} {C : ByteArray} {N : Int} {va : Value} {A : List ArcD} (h : Below ((w.alloc (tnObj W H C)).alloc tnRes).heap.size ((w.alloc (tnObj W H C)).alloc tnRes) wr) (hown : wr.ownsRow (w.heap.size + 2) 62 4 va A.length (cellsA A)) :
    ((wr.setCell ⟨w.heap.size + 1, 0, none⟩ (.int .i64 N)).setCell ⟨w.heap.size + 1, 1, none⟩ va).cell? ⟨w.heap.size + 1, 0, none⟩ = some (.int .i64 N) ∧ ((wr.setCell ⟨w.heap.size + 1, 0, none⟩ (.int .i64 N)).setCell ⟨w.heap.size + 1, 1, none⟩ va).cell? ⟨w.heap.size + 1, 1, none⟩ = some va ∧
    ((wr.setCell ⟨w.heap.size + 1, 0, none⟩ (.int .i64 N)).setCell ⟨w.heap.size + 1, 1, none⟩ va).ownsRow w.heap.size 62 4 va A.length (cellsA A) ∧ Below w.heap.size w ((wr.setCell ⟨w.heap.size + 1, 0, none⟩ (.int .i64 N)).setCell ⟨w.heap.size + 1, 1, none⟩ va) := by
  have hrow := heap_setCell_same _ (w.heap.size + 1) 1 _ _ va (heap_setCell_same wr (w.heap.size + 1) 0 _ _ (.int .i64 N) (tn_res h))
  have k1 : wr.grownBy (wr.setCell ⟨w.heap.size + 1, 0, none⟩ (.int .i64 N)) (some (w.heap.size + 1)) := ⟨rfl, rfl, rfl, by simp [World.setCell], fun i _ hne => heap_setCell_other _ _ _ _ (fun e => hne (by rw [e]))⟩
  have k2 : (wr.setCell ⟨w.heap.size + 1, 0, none⟩ (.int .i64 N)).grownBy ((wr.setCell ⟨w.heap.size + 1, 0, none⟩ (.int .i64 N)).setCell ⟨w.heap.size + 1, 1, none⟩ va) (some (w.heap.size + 1)) := ⟨rfl, rfl, rfl, by simp [World.setCell], fun i _ hne => heap_setCell_other _ _ _ _ (fun e => hne (by rw [e]))⟩
  have hne : va.ownBlock = none ∨ va.ownBlock ≠ some (w.heap.size + 1) := .inr fun e => by have := (hown.lt _ e).1; omega
  refine ⟨by rw [cell_of_row _ _ _ _ _ _ hrow]; rfl, by rw [cell_of_row _ _ _ _ _ _ hrow]; rfl, own_base ((hown.kept k1 hne).kept k2 hne) (by omega), ?_⟩
  have hb := tn_below h
  have hs := h.size
  rw [World.size_alloc, World.size_alloc] at hs
  exact (hb.grown k1 hb.size (fun j e => by have := Option.some.inj e; omega)).grown k2 (by have := k1.size; omega) (fun j e => by have := Option.some.inj e; omega)

end Go.Proofs.YtnbbhdbcapfbkaaDoor

namespace Go.Proofs.YtnbbhdbcapfbkaaDoor
set_option maxRecDepth 4096
open Go.ChangeShapes Go.WideShapes Go.ChangeAt Go.RowKit

def RowNone (w : World) (e : Ending) (w' : World) : Prop := e = .returned (.tuple #[.string ⟨#[]⟩, .int .i64 0, .bool false]) ∧ Below w.heap.size w w'
def RowSome (r : ByteArray) (m : Nat) (w : World) (e : Ending) (w' : World) : Prop := e = .returned (.tuple #[.string r, .int .i64 m, .bool true]) ∧ Below w.heap.size w w'

set_option maxHeartbeats 1000000 in
theorem rowWith_no (W H : Int) (C : ByteArray) (c : Int) (hC : C.size ≤ 1048576) (h : ¬ cellOk W H C c = true) (w : World) :
    Calls Tryd.prog 82 #[.agg #[.int .i64 W, .int .i64 H, .string C], .int .i64 c] w (RowNone w) := by
  rcases cellOk_no h with hg | ⟨hg, h1⟩ | ⟨hg, h1, h2⟩
  all_goals
    clear h
    have hB := Below.refl (w.alloc (.cells #[.int .i64 W, .int .i64 H, .string C] 30)).heap.size (w.alloc (.cells #[.int .i64 W, .int .i64 H, .string C] 30))
    go_enter Tryd.func82, Tryd.ntmps82
    go_wp2_with (first
      | (go_at_call 71; (with_reducible refine (rowsOf W H C hC _).mono ?_); rintro e w1 ⟨rfl, hb⟩; replace hB := chain hB hb; clear hb)
      | (refine wpStoreRows W H C _ _ rfl rfl rfl rfl ?_; replace hB := chain hB (rows_in w1 (rowsR W H C)).1; obtain ⟨c0, c1, c2⟩ := box_cells hB))
    go_ret3
    exact ⟨rfl, box_below hB⟩

set_option maxHeartbeats 400000 in
theorem rowWith_yes (a b : Nat) (C : ByteArray) (n q m : Nat) (R : Array Value) (hC : C.size ≤ 1048576) (ha : 1 ≤ a) (_hm : m < a) (hq : q < 8) (hn : n < C.size) (hd : (n : Int).tdiv (a : Int) = (q : Int)) (he : (n : Int).tmod (a : Int) = (m : Int)) (hg : gok a b C = true)
    (HR : Hid (rowsR a b C = R)) (hr : R[q]? = some (.string (rowT C a q))) (w : World) :
    Calls Tryd.prog 82 #[.agg #[.int .i64 a, .int .i64 b, .string C], .int .i64 n] w (RowSome (rowT C a q) m w) := by
  have hB := Below.refl (w.alloc (.cells #[.int .i64 a, .int .i64 b, .string C] 30)).heap.size (w.alloc (.cells #[.int .i64 a, .int .i64 b, .string C] 30))
  have HRq : Hid (R[q]? = some (.string (rowT C a q))) := Lib.hid hr
  have hn2 : (n : Int) < (C.size : Int) := by omega
  have hn3 : ¬ (C.size : Int) ≤ (n : Int) := by omega
  have HE := Lib.hid hd
  have HE2 := Lib.hid he
  clear hr hd he
  go_enter Tryd.func82, Tryd.ntmps82
  go_wp2_with (first
    | (go_at_call 71; (with_reducible refine (rowsOf a b C hC _).mono ?_); rintro e w1 ⟨rfl, hb⟩; replace hB := chain hB hb; clear hb)
    | (refine wpStoreRows a b C _ _ rfl rfl rfl rfl ?_; have hR := (rows_in w1 (rowsR a b C)).2; replace hB := chain hB (rows_in w1 (rowsR a b C)).1; obtain ⟨c0, c1, c2⟩ := box_cells hB; have d1 := cell_rows hR HR HRq; clear hR))
  have e1 := HE.out
  have e2 := HE2.out
  have e3 : IntKind.i64.wrap (q : Int) = (q : Int) := IntWalk.i64_in _ (by omega)
  go_quiet (fail)
  go_wp2
  go_ret3
  exact ⟨rfl, box_below (below_drewN hB nq)⟩

/-- The row and the place in it of a cell. -/
theorem rowWith_at {W H : Int} {C : ByteArray} {n : Nat} (hC : C.size ≤ 1048576) (hg : gok W H C = true) (hn : n < C.size) : ∃ (r : ByteArray) (m : Nat), m < r.size ∧ byteAt r m = byteAt C n ∧
    ∀ w, Calls Tryd.prog 82 #[.agg #[.int .i64 W, .int .i64 H, .string C], .int .i64 n] w (RowSome r m w) := by
  obtain ⟨a, b, q, m, rfl, rfl, ha1, ha2, hb, hq, hm, hd, he, hms, hby, hr⟩ := place hg hn
  exact ⟨rowT C a q, m, hms, hby, fun w => rowWith_yes a b C n q m _ hC ha1 hm (by omega) hn hd he hg (Lib.hid rfl) hr w⟩

end Go.Proofs.YtnbbhdbcapfbkaaDoor

namespace Go.Proofs.YtnbbhdbcapfbkaaDoor
set_option maxRecDepth 4096
open Go.ChangeShapes Go.WideShapes Go.ChangeAt Go.RowKit

set_option maxHeartbeats 400000 in
theorem implFreeAt (W H : Int) (C : ByteArray) (c : Int) (hC : C.size ≤ 1048576) (w : World) :
    Calls Tryd.prog 72 #[.agg #[.int .i64 W, .int .i64 H, .string C], .int .i64 c] w (Made w (.bool (freeV W H C c))) := by
  have hB := Below.refl (w.alloc (.cells #[.int .i64 W, .int .i64 H, .string C] 30)).heap.size (w.alloc (.cells #[.int .i64 W, .int .i64 H, .string C] 30))
  by_cases h : cellOk W H C c = true
  · obtain ⟨hg, n, rfl, hn⟩ := cellOk_out h
    obtain ⟨r, m, hm, hby, HW⟩ := rowWith_at hC hg hn
    have HF : Hid (freeB (byteAt r m) = freeV W H C n) := Lib.hid (by rw [hby, freeV_at hg hn])
    have HWW := Lib.hid HW
    clear h hg hby HW
    go_enter Tryd.func72, Tryd.ntmps72
    go_wp2_with (first
      | (go_at_call 82; (with_reducible refine (HWW.out _).mono ?_); rintro e w1 ⟨rfl, hb⟩; replace hB := chain hB hb; clear hb)
      | (go_at_call 66; (with_reducible refine (freeI _ _ m rfl hm _).mono ?_); rintro e w2 ⟨rfl, rfl⟩))
    go_ret
    exact ⟨bool_ret HF.out rfl, box_below hB⟩
  · have HF : Hid (false = freeV W H C c) := Lib.hid (by unfold freeV; simp [h])
    go_enter Tryd.func72, Tryd.ntmps72
    go_wp2_with (go_at_call 82; (with_reducible refine (rowWith_no W H C c hC h _).mono ?_); rintro e w1 ⟨rfl, hb⟩; replace hB := chain hB hb; clear hb)
    go_ret
    exact ⟨bool_ret HF.out rfl, box_below hB⟩

end Go.Proofs.YtnbbhdbcapfbkaaDoor

namespace Go.Proofs.YtnbbhdbcapfbkaaDoor
set_option maxRecDepth 4096
open Go.ChangeShapes Go.WideShapes Go.ChangeAt Go.RowKit

theorem all_take {p : Int → Bool} {L : List Int} {k : Nat} {x : Int} (h : (L.take k).all p = true) (hx : L[k]? = some x) (hp : p x = true) : (L.take (k + 1)).all p = true := by
  obtain ⟨hi, rfl⟩ := List.getElem?_eq_some_iff.1 hx
  rw [List.take_succ_eq_append_getElem hi, List.all_append, h]
  simp [hp]
theorem all_not {p : Int → Bool} {L : List Int} {k : Nat} {x : Int} (hx : L[k]? = some x) (hp : p x = false) : L.all p = false := by
  rw [List.all_eq_false]
  exact ⟨x, List.mem_of_getElem? hx, by simp [hp]⟩

set_option maxHeartbeats 1000000 in
theorem allFreeI (W H : Int) (C : ByteArray) (L : List Int) (b : Bool) (v : Value) (hC : C.size ≤ 1048576) (hL : L.length ≤ 2000000) (HB : Hid (L.all (freeV W H C) = b)) (w : World) (hv : Ints w v L) :
    Calls Tryd.prog 58 #[.agg #[.int .i64 W, .int .i64 H, .string C], v] w (Made w (.bool b)) := by
  have hB := Below.refl (w.alloc (.cells #[.int .i64 W, .int .i64 H, .string C] 30)).heap.size (w.alloc (.cells #[.int .i64 W, .int .i64 H, .string C] 30))
  obtain ⟨av, cv, rfl, HV⟩ := ints_form hv
  have HVh := Lib.hid HV
  clear HV hv
  go_enter Tryd.func58, Tryd.ntmps58
  go_wp2_with fail
  go_loopw [9] (fun i wr => ∃ k : Nat, k ≤ L.length ∧ i = .int .i64 k ∧ Hid ((L.take k).all (freeV W H C) = true) ∧ Below (w.alloc (.cells #[.int .i64 W, .int .i64 H, .string C] 30)).heap.size (w.alloc (.cells #[.int .i64 W, .int .i64 H, .string C] 30)) wr) (fun i _ => L.length - (intOf i).toNat)
  case atStart => exact ⟨0, Nat.zero_le _, rfl, Lib.hid rfl, hB⟩
  case round =>
    clear hB
    obtain ⟨k, hk, rfl, HK, hB⟩ := hrel
    obtain ⟨c0, c1, c2⟩ := box_cells hB
    by_cases hlt : k < L.length
    · obtain ⟨x, hx⟩ : ∃ x, L[k]? = some x := ⟨_, List.getElem?_eq_getElem hlt⟩
      rcases HVh.out with h0 | ⟨g, rfl, hgl, hc⟩
      · omega
      · have d0 : wr.cell? ⟨g, k, none⟩ = some (.int .i64 x) := ((box_below hB).cell (p := ⟨g, k, none⟩) hgl).trans (hc k x hx)
        have HX := Lib.hid hx
        have hlt2 : (k : Int) < (L.length : Int) := by omega
        clear hx hc
        cases hf : freeV W H C x with
        | true =>
          have HF := Lib.hid hf
          clear hf
          go_wp2_with fail
          refine (implFreeAt W H C x hC _).mono ?_
          rintro e w5 ⟨rfl, hb⟩
          rw [HF.out]
          replace hB := chain hB hb
          clear d0 hb c0 c1 c2
          go_wp2_with fail
          go_roundw
          case rel => exact ⟨k + 1, by omega, by go_num, Lib.hid (all_take HK.out HX.out HF.out), hB⟩
          case measure => simp [intOf]; omega
        | false =>
          have HF := Lib.hid hf
          have e : b = false := by rw [← HB.out]; exact all_not HX.out hf
          subst e
          clear hf
          go_wp2_with fail
          refine (implFreeAt W H C x hC _).mono ?_
          rintro e w5 ⟨rfl, hb⟩
          rw [HF.out]
          replace hB := chain hB hb
          clear d0 hb c0 c1 c2
          go_wp2_with fail
          go_ret
          exact ⟨rfl, box_below hB⟩
    · obtain rfl : k = L.length := by omega
      have e : b = true := by rw [← HB.out, ← HK.out, List.take_length]
      subst e
      go_wp2_with fail
      go_ret
      exact ⟨rfl, box_below hB⟩

end Go.Proofs.YtnbbhdbcapfbkaaDoor

namespace Go.Proofs.YtnbbhdbcapfbkaaDoor
set_option maxRecDepth 4096
open Go.ChangeShapes Go.WideShapes Go.ChangeAt Go.RowKit

theorem implGridOk (W H : Int) (C : ByteArray) (hC : C.size ≤ 1048576) (w : World) :
    Calls Tryd.prog 57 #[.agg #[.int .i64 W, .int .i64 H, .string C]] w (Made w (.bool (gok W H C))) := by
  go_enter Tryd.func57, Tryd.ntmps57
  go_wp2_with (first
    | (go_at_call 71; (with_reducible refine (rowsOf W H C hC _).mono ?_); rintro e w' ⟨rfl, hb⟩)
    | (refine wpStoreRows W H C _ _ rfl rfl rfl rfl ?_))
  go_ret
  exact ⟨rfl, (((Below.refl _ _).alloc (Nat.le_refl _) _).trans (hb.mono (by simp))).trans ((rows_in _ _).1.mono (by have := hb.size; simp at this; omega))⟩

end Go.Proofs.YtnbbhdbcapfbkaaDoor

