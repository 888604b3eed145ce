/-
  A grid's map in time: its free cells numbered, what lies around each, the pairs counted; the networks of an ask that may be made are right ones. Plain facts; no statement is proved here.
  What TimeNet and CanAt hand back. No statement is proved here.
  The memory in which TimeNet lists its arcs. No statement is proved here.
-/
import Derived.Test.YtlkhecdlmbhiaaaDoorZTN08
import Derived.Test.YtlkhecdlmbhiaaaDoorZTN13
import Derived.Test.YtlkhecdlmbhiaaaDoorZTN01
import Derived.Deep.AppendLies
namespace Go.Proofs.YtlkhecdlmbhiaaaDoor
set_option maxRecDepth 4096

section
variable {W H : Int} {C : ByteArray}
/-- The k-th free cell. -/
noncomputable def cellG (W H : Int) (C : ByteArray) (k : Nat) : Int := (freeL W H C).getD k (-1)
/-- Its number. -/
noncomputable def numG (W H : Int) (C : ByteArray) (c : Int) : Nat := (freeL W H C).idxOf c
noncomputable def mapG (W H : Int) (C : ByteArray) : MapD := ⟨(freeL W H C).length, fun i => (aroundL W H C (cellG W H C i)).map (numG W H C)⟩

theorem mem_free {c : Int} (h : c ∈ freeL W H C) : freeV W H C c = true := by
  obtain ⟨n, hn, rfl⟩ := List.mem_map.1 h
  exact (List.mem_filter.1 hn).2
theorem cellG_at {k : Nat} (h : k < (freeL W H C).length) : (freeL W H C)[k]? = some (cellG W H C k) := by
  unfold cellG
  rw [List.getD_eq_getElem?_getD, List.getElem?_eq_getElem h]
  rfl
theorem cellG_mem {k : Nat} (h : k < (freeL W H C).length) : cellG W H C k ∈ freeL W H C := List.mem_of_getElem? (cellG_at h)
theorem cellG_free {k : Nat} (h : k < (freeL W H C).length) : freeV W H C (cellG W H C k) = true := mem_free (cellG_mem h)
theorem cellG_out {k : Nat} (h : ¬ k < (freeL W H C).length) : cellG W H C k = -1 := by
  unfold cellG
  rw [List.getD_eq_getElem?_getD, List.getElem?_eq_none (by omega)]
  rfl
theorem free_neg : freeV W H C (-1) = false := by
  cases h : freeV W H C (-1) with
  | false => rfl
  | true =>
    obtain ⟨_, n, hn, _⟩ := free_cell h
    omega
theorem idx_at {c : Int} : ∀ {L : List Int}, c ∈ L → L[L.idxOf c]? = some c
  | [], h => by cases h
  | a :: L, h => by
    rw [List.idxOf_cons]
    by_cases e : a = c
    · subst e
      simp
    · have h2 := idx_at (L := L) (c := c) (by rcases List.mem_cons.1 h with h | h; exact absurd h.symm e; exact h)
      have e2 : (a == c) = false := by simp [e]
      rw [e2]
      simpa using h2
theorem numG_lt {c : Int} (h : freeV W H C c = true) : numG W H C c < (freeL W H C).length := (List.getElem?_eq_some_iff.1 (idx_at (free_mem h))).1
theorem cellG_num {c : Int} (h : freeV W H C c = true) : cellG W H C (numG W H C c) = c := by
  have h1 := cellG_at (numG_lt h)
  rw [show (freeL W H C)[numG W H C c]? = some c from idx_at (free_mem h)] at h1
  exact (Option.some.inj h1).symm
/-- The free cells ascend. -/
theorem free_up : (freeL W H C).Pairwise (· < ·) := by
  unfold freeL picks
  rw [List.pairwise_map]
  exact (List.Pairwise.filter _ List.pairwise_lt_range).imp fun h => by omega
theorem cellG_up {i k : Nat} (hk : k < (freeL W H C).length) (h : i < k) : cellG W H C i < cellG W H C k := by
  have hi : i < (freeL W H C).length := by omega
  have h1 := List.pairwise_iff_getElem.1 (free_up (W := W) (H := H) (C := C)) i k hi hk h
  have e1 := cellG_at hi
  have e2 := cellG_at hk
  rw [List.getElem?_eq_getElem hi] at e1
  rw [List.getElem?_eq_getElem hk] at e2
  rw [Option.some.inj e1, Option.some.inj e2] at h1
  exact h1
theorem cellG_lt {i k : Nat} (hi : i < (freeL W H C).length) (hk : k < (freeL W H C).length) : cellG W H C i < cellG W H C k ↔ i < k := by
  constructor
  · intro h
    rcases Nat.lt_trichotomy i k with e | e | e
    · exact e
    · subst e; omega
    · have := cellG_up hi e; omega
  · exact cellG_up hk
theorem num_cellG {k : Nat} (h : k < (freeL W H C).length) : numG W H C (cellG W H C k) = k := by
  have h1 := numG_lt (cellG_free h)
  have h2 := cellG_num (cellG_free h)
  rcases Nat.lt_trichotomy (numG W H C (cellG W H C k)) k with e | e | e
  · have := cellG_up h e; omega
  · exact e
  · have := cellG_up h1 e; omega
theorem around_free {c d : Int} (h : d ∈ aroundL W H C c) : freeV W H C c = true ∧ freeV W H C d = true := ⟨(mem_around.1 h).1, (mem_around.1 h).2.1⟩
theorem mem_ar {i k : Nat} : k ∈ (mapG W H C).ar i ↔ i < (freeL W H C).length ∧ k < (freeL W H C).length ∧ cellG W H C k ∈ aroundL W H C (cellG W H C i) := by
  constructor
  · intro h
    obtain ⟨d, hd, rfl⟩ := List.mem_map.1 h
    obtain ⟨h1, h2⟩ := around_free hd
    refine ⟨?_, numG_lt h2, by rw [cellG_num h2]; exact hd⟩
    refine Decidable.byContradiction fun hn => ?_
    rw [cellG_out hn, free_neg] at h1
    cases h1
  · rintro ⟨_, h1, h2⟩
    exact List.mem_map.2 ⟨_, h2, num_cellG h1⟩
theorem mapG_ok : MapOk (mapG W H C) where
  lt := fun i _ k hk => (mem_ar.1 hk).2.1
  sym := fun i k => by
    unfold adjB
    rw [decide_eq_decide]
    constructor <;>
    · intro h
      obtain ⟨h1, h2, h3⟩ := mem_ar.1 h
      exact mem_ar.2 ⟨h2, h1, around_sym h3⟩
  irr := fun i => by
    unfold adjB
    exact decide_eq_false fun h => around_irr (mem_ar.1 h).2.2
theorem ar_len (i : Nat) : ((mapG W H C).ar i).length ≤ 4 := by
  unfold mapG
  simp only [List.length_map]
  exact aroundL_len W H C _
theorem free_rows : freeL W H C = (List.range (freeL W H C).length).map (cellG W H C) := by
  apply List.ext_getElem?
  intro j
  by_cases hj : j < (freeL W H C).length
  · rw [cellG_at hj, List.getElem?_map, List.getElem?_range hj]
    rfl
  · rw [List.getElem?_eq_none (by omega), List.getElem?_eq_none (by simp; omega)]
theorem upV_row {i : Nat} (hi : i < (freeL W H C).length) : upV W H C (cellG W H C i) = ((List.range (freeL W H C).length).filter fun k => decide (i < k) && adjB (mapG W H C) i k).length := by
  unfold upV
  rw [len_count (List.Pairwise.filter _ (around_nodup W H C _)) (freeL_nodup W H C) (fun d hd => free_mem (around_free (List.mem_filter.1 hd).1).2)]
  conv => lhs; rw [free_rows]
  rw [List.countP_map, List.countP_eq_length_filter]
  congr 1
  refine List.filter_congr fun k hk => ?_
  have hk2 := List.mem_range.1 hk
  unfold adjB
  rw [Bool.eq_iff_iff]
  simp only [Function.comp, decide_eq_true_eq, Bool.and_eq_true, List.mem_filter]
  rw [mem_ar, cellG_lt hi hk2]
  exact ⟨fun h => ⟨h.2, hi, hk2, h.1⟩, fun h => ⟨h.2.2.2, h.1⟩⟩
/-- The pairs are counted as they are listed. -/
theorem pairs_pl : pairsV W H C = ((mapG W H C).pl.length : Int) := by
  rw [pairs_up]
  congr 1
  unfold ups
  rw [List.take_length]
  conv => lhs; rw [free_rows]
  unfold MapD.pl
  rw [List.length_flatMap, List.map_map]
  refine sum_congr fun i hi => ?_
  have hi2 := List.mem_range.1 hi
  simp only [Function.comp, List.length_map]
  exact upV_row hi2
theorem inNode_is {k t : Nat} (hk : k < (freeL W H C).length) (ht : t ≤ 20) : inNodeV W H C (cellG W H C k) (t : Int) = (inN (freeL W H C).length k t : Nat) := by
  unfold inNodeV
  rw [if_pos ⟨cellG_free hk, rgB_iff.2 ⟨by omega, by omega⟩⟩, show (freeL W H C).idxOf (cellG W H C k) = k from num_cellG hk]
  unfold inN
  simp

/-- What may be asked, in numbers. -/
structure AskOkD (W H : Int) (C : ByteArray) (S G : List Int) (T : Nat) : Prop where
  s1 : 1 ≤ S.length
  s10 : S.length ≤ 10
  le : G.length ≤ S.length
  t20 : T ≤ 20
  sf : ∀ x ∈ S, freeV W H C x = true
  gf : ∀ x ∈ G, freeV W H C x = true
  lay : (freeL W H C).length * (T + 1) ≤ 240
theorem asc_free {L : List Int} (h : ascV W H C L = true) : ∀ x ∈ L, freeV W H C x = true := fun x hx => by
  obtain ⟨i, hi, rfl⟩ := List.getElem_of_mem hx
  exact (asc_iff.1 h i _ hi (List.getElem?_eq_getElem hi)).1
theorem ask_out {S G : List Int} {T : Int} (h : askV W H C S G T = true) : ∃ t : Nat, T = t ∧ AskOkD W H C S G t := by
  unfold askV at h
  simp only [Bool.and_eq_true, rgB_iff, decide_eq_true_eq] at h
  obtain ⟨_, ⟨h1, h2⟩, h3, ⟨h4, h5⟩, h6, h7, h8⟩ := h
  obtain ⟨t, rfl⟩ : ∃ t : Nat, T = t := ⟨T.toNat, by omega⟩
  refine ⟨t, rfl, ⟨by omega, by omega, by omega, by omega, asc_free h6, asc_free h7, ?_⟩⟩
  have : (((freeL W H C).length * (t + 1) : Nat) : Int) ≤ 240 := by
    rw [Int.natCast_mul, Int.natCast_add]
    exact h8
  omega
/-- The network of an ask. -/
noncomputable def netG (W H : Int) (C : ByteArray) (S G : List Int) (T : Nat) (strict : Bool) : List ArcD :=
  timeA (mapG W H C) (S.map (numG W H C)) (fun k => G.contains (cellG W H C k)) ((S.length : Int) - (G.length : Int)) T strict
noncomputable def nodesG (W H : Int) (C : ByteArray) (T : Nat) (strict : Bool) : Nat := timeN (mapG W H C) T strict
theorem netG_starts {S G : List Int} {T : Nat} (h : AskOkD W H C S G T) : ∀ k ∈ S.map (numG W H C), k < (mapG W H C).F := fun k hk => by
  obtain ⟨x, hx, rfl⟩ := List.mem_map.1 hk
  exact numG_lt (h.sf x hx)
theorem netG_ok {S G : List Int} {T : Nat} {strict : Bool} (h : AskOkD W H C S G T) : netOkV (nodesG W H C T strict) (netG W H C S G T strict) = true :=
  time_ok mapG_ok (fun i _ => ar_len i) h.lay (by simpa using h.s10) (netG_starts h) ⟨by have := h.le; omega, by have := h.s10; omega⟩
/-- The greatest flows of the two networks are equal. -/
theorem netG_same {S G : List Int} {T : Nat} (h : AskOkD W H C S G T) : mostS (nodesG W H C T true) (netG W H C S G T true) = mostS (nodesG W H C T false) (netG W H C S G T false) :=
  most_same mapG_ok (netG_starts h) (netG_ok h) (netG_ok h)
theorem netG_most {S G : List Int} {T : Nat} {strict : Bool} (h : AskOkD W H C S G T) : mostS (nodesG W H C T strict) (netG W H C S G T strict) ≤ (S.length : Int) := by
  have := most_starts (netG_ok (strict := strict) h)
  rw [List.length_map] at this
  exact this
theorem netG_next {S G : List Int} {T : Nat} (h : AskOkD W H C S G T) (h2 : AskOkD W H C S G (T + 1)) : mostS (nodesG W H C T false) (netG W H C S G T false) ≤ mostS (nodesG W H C (T + 1) false) (netG W H C S G (T + 1) false) :=
  most_next (netG_ok h) (netG_ok h2)
end

end Go.Proofs.YtlkhecdlmbhiaaaDoor

namespace Go.Proofs.YtlkhecdlmbhiaaaDoor
set_option maxRecDepth 4096
open Go.ChangeShapes Go.WideShapes Go.ChangeAt Go.RowKit

/-- A net and a Boolean came back, the net's arcs in memory of the call's own. -/
def TimeBack (w : World) (N : Int) (A : List ArcD) (b : Bool) (e : Ending) (w' : World) : Prop :=
  ∃ v, e = .returned (.tuple #[.agg #[.int .i64 N, v], .bool b]) ∧ w'.ownsRow w.heap.size 72 4 v A.length (cellsA A) ∧ Below w.heap.size w w'
noncomputable def timeNV (W H : Int) (C : ByteArray) (S G : List Int) (T : Int) (strict : Bool) : Int := if askV W H C S G T = true then (nodesG W H C T.toNat strict : Nat) else 0
noncomputable def timeAV (W H : Int) (C : ByteArray) (S G : List Int) (T : Int) (strict : Bool) : List ArcD := if askV W H C S G T = true then netG W H C S G T.toNat strict else []
noncomputable def canV (W H : Int) (C : ByteArray) (S G : List Int) (T : Int) : Bool := askV W H C S G T && decide (mostS (timeNV W H C S G T false) (timeAV W H C S G T false) = (S.length : Int))
theorem timeAV_len {W H : Int} {C : ByteArray} {S G : List Int} {T : Int} {strict : Bool} : (timeAV W H C S G T strict).length ≤ 3200 := by
  unfold timeAV
  split
  · rename_i h
    obtain ⟨t, rfl, hd⟩ := ask_out h
    have h2 := netG_ok (strict := strict) hd
    unfold netOkV at h2
    simp only [Bool.and_eq_true, decide_eq_true_eq] at h2
    exact h2.2.1
  · exact Nat.zero_le _

end Go.Proofs.YtlkhecdlmbhiaaaDoor

namespace Go.Proofs.YtlkhecdlmbhiaaaDoor
set_option maxRecDepth 4096
open Go.ChangeShapes Go.WideShapes Go.ChangeAt Go.RowKit

theorem Tryd.infoArcT : (Tryd.prog.info? 72).map (fun i => (i.zero, i.size, i.bytes)) = some (some (.agg #[.int .i64 0, .int .i64 0, .int .i64 0, .int .i64 0]), 4, 32) := by kernel_rfl
theorem arcs_newT (w : World) (Z : List ArcD) (cs : Array Value) (hcs : cs.toList = cellsA Z) (t : TypeId) : ∀ j u, (cellsA Z)[j]? = some u → (w.alloc (.cells cs t)).cell? ((⟨w.heap.size, 0, none⟩ : Addr).add j) = some u := by
  intro j u h
  have hadd : (⟨w.heap.size, 0, none⟩ : Addr).add j = ⟨w.heap.size, j, none⟩ := by unfold Addr.add; split <;> simp_all
  rw [hadd, World.cell?_alloc_mark]
  rw [← hcs] at h
  simpa using h
theorem arcs_oneT (Z : List ArcD) : ∀ u ∈ cellsA Z, u.oneCell' = true := by
  intro u hu
  obtain ⟨x, _, hx⟩ := List.mem_flatMap.1 hu
  simp [arcC] at hx
  rcases hx with rfl | rfl | rfl | rfl <;> rfl
theorem grownNT {w w' : World} (h : Below w.heap.size w w') : w.grownBy w' none := ⟨h.os, h.tape, h.output, h.size, fun i hi _ => h.block i hi⟩
theorem ne_noneT (v : Value) : v.ownBlock = none ∨ v.ownBlock ≠ none := by cases h : v.ownBlock <;> simp

structure NB (w9 : World) (N : Int) (va : Value) (A : List ArcD) (wr : World) : Prop where
  net : wr.heap[w9.heap.size]? = some (.cells #[.int .i64 N, va] 32 (0, 0))
  row : wr.ownsRow (w9.heap.size + 1) 72 4 va A.length (cellsA A)
  below : Below w9.heap.size w9 wr
section
variable {w9 wr w3 w6 : World} {N : Int} {va va' : Value} {A Z : List ArcD}
theorem NB.lt (h : NB w9 N va A wr) : w9.heap.size + 1 ≤ wr.heap.size := (Array.getElem?_eq_some_iff.1 h.net).1
theorem NB.call (h : NB w9 N va A wr) (hb : Below wr.heap.size wr w3) : NB w9 N va A w3 :=
  ⟨(hb.block _ (Array.getElem?_eq_some_iff.1 h.net).1).trans h.net, h.row.kept (grownNT hb) (ne_noneT _), h.below.trans (hb.mono (Nat.le_of_lt h.lt))⟩
theorem NB.drew (h : NB w9 N va A wr) : NB w9 N va A wr.drew := ⟨h.net, h.row, h.below.drew⟩
theorem NB.drewN (h : NB w9 N va A wr) (n : Nat) : NB w9 N va A (wr.drewN n) := ⟨h.net, h.row, ⟨h.below.os, h.below.tape, h.below.output, h.below.size, h.below.block⟩⟩
theorem NB.alloc (h : NB w9 N va A wr) (o : Obj) : NB w9 N va A (wr.alloc o) :=
  ⟨((World.grownBy_alloc wr o none).block _ (by have := h.lt; omega) (by simp)).trans h.net, h.row.alloc o, h.below.alloc (by have := h.lt; omega) o⟩
theorem NB.start (w9 : World) (N : Int) : NB w9 N (.slice none 0 0) [] (w9.alloc (.cells #[.int .i64 N, .slice none 0 0] 32)) :=
  ⟨heap_alloc_new w9 _, World.ownsRow_nil _ _ _ _, (Below.refl _ _).alloc (Nat.le_refl _) _⟩
theorem NB.c0 (h : NB w9 N va A wr) : wr.cell? ⟨w9.heap.size, 0, none⟩ = some (.int .i64 N) := by rw [cell_of_row _ _ _ _ _ _ h.net]; rfl
theorem NB.c1 (h : NB w9 N va A wr) : wr.cell? ⟨w9.heap.size, 1, none⟩ = some va := by rw [cell_of_row _ _ _ _ _ _ h.net]; rfl
theorem NB.f0 (h : NB w9 N va A wr) : wr.frozen? ⟨w9.heap.size, 0, none⟩ = false := frozen_of_row _ _ 0 _ _ h.net
theorem NB.f1 (h : NB w9 N va A wr) : wr.frozen? ⟨w9.heap.size, 1, none⟩ = false := frozen_of_row _ _ 1 _ _ h.net
theorem NB.grown (h : NB w9 N va A wr) {o : Obj} (hg : (wr.alloc o).grownBy w6 va.ownBlock) : w6.heap[w9.heap.size]? = some (.cells #[.int .i64 N, va] 32 (0, 0)) :=
  ((hg.block _ (by simp; have := h.lt; omega) (fun e => by have := (h.row.lt _ e.symm).1; omega)).trans ((World.grownBy_alloc wr o none).block _ (by have := h.lt; omega) (by simp))).trans h.net
theorem NB.g1 (h : NB w9 N va A wr) {o : Obj} (hg : (wr.alloc o).grownBy w6 va.ownBlock) : w6.cell? ⟨w9.heap.size, 1, none⟩ = some va := by rw [cell_of_row _ _ _ _ _ _ (h.grown hg)]; rfl
theorem NB.k1 (h : NB w9 N va A wr) {o : Obj} (hg : (wr.alloc o).grownBy w6 va.ownBlock) : w6.frozen? ⟨w9.heap.size, 1, none⟩ = false := frozen_of_row _ _ 1 _ _ (h.grown hg)
theorem NB.below6 (h : NB w9 N va A wr) {o : Obj} (hg : (wr.alloc o).grownBy w6 va.ownBlock) : Below w9.heap.size w9 w6 :=
  (h.alloc o).below.grown hg (by have := (h.alloc o).lt; omega) (fun j e => by have := (h.row.lt _ e).1; omega)
/-- Arcs appended, and stored. -/
theorem NB.app (h : NB w9 N va A wr) {o : Obj} (hown : w6.ownsRow (w9.heap.size + 1) 72 4 va' (A.length + Z.length) (cellsA A ++ cellsA Z)) (hg : (wr.alloc o).grownBy w6 va.ownBlock) :
    NB w9 N va' (A ++ Z) (w6.setCell ⟨w9.heap.size, 1, none⟩ va') := by
  have hn := h.grown hg
  have k : w6.grownBy (w6.setCell ⟨w9.heap.size, 1, none⟩ va') (some w9.heap.size) := ⟨rfl, rfl, rfl, by simp [World.setCell], fun i _ hne => heap_setCell_other _ _ _ _ (fun e => hne (by rw [e]))⟩
  have e1 : (A ++ Z).length = A.length + Z.length := List.length_append
  have e2 : cellsA (A ++ Z) = cellsA A ++ cellsA Z := by unfold cellsA; simp
  refine ⟨heap_setCell_same w6 _ 1 _ _ va' hn, ?_, ?_⟩
  · rw [e1, e2]
    exact hown.kept k (.inr fun e => by have := (hown.lt _ e).1; omega)
  · have h1 : Below w9.heap.size w9 (wr.alloc o) := h.below.alloc (by have := h.lt; omega) o
    have h2 := h1.grown hg (by simp; have := h.lt; omega) (fun j e => by have := (h.row.lt _ e).1; omega)
    exact h2.grown k (by have := hg.size; simp at this; have := h.lt; omega) (fun j e => by have := Option.some.inj e; omega)
theorem NB.nodes (h : NB w9 N va A wr) (M : Int) : NB w9 M va A (wr.setCell ⟨w9.heap.size, 0, none⟩ (.int .i64 M)) := by
  have k : wr.grownBy (wr.setCell ⟨w9.heap.size, 0, none⟩ (.int .i64 M)) (some w9.heap.size) := ⟨rfl, rfl, rfl, by simp [World.setCell], fun i _ hne => heap_setCell_other _ _ _ _ (fun e => hne (by rw [e]))⟩
  exact ⟨heap_setCell_same wr _ 0 _ _ _ h.net, h.row.kept k (.inr fun e => by have := (h.row.lt _ e).1; omega), h.below.grown k (by have := h.lt; omega) (fun j e => by have := Option.some.inj e; omega)⟩
theorem own_neT {w : World} {B k s n : Nat} {e t : TypeId} {v : Value} {xs : List Value} {cs : Array Value} {fr : Nat × Nat} (h : w.ownsRow B e s v n xs) (hk : w.heap[k]? = some (.cells cs t fr)) (he : e ≠ t) : v.ownBlock = none ∨ v.ownBlock ≠ some k := by
  rcases h.2 with ⟨rfl, _⟩ | ⟨g, cap, cur, rfl, _, hg, _⟩
  · exact .inl rfl
  · refine .inr (fun e2 => ?_)
    have e3 : g = k := by simpa [Value.ownBlock] using e2
    subst e3
    rw [hg] at hk
    injection hk with hk
    injection hk with _ h2
    exact he h2
theorem own_typesT {w : World} {B B' : Nat} {e e' : TypeId} {s s' n n' : Nat} {v v' : Value} {xs xs' : List Value} (h : w.ownsRow B e s v n xs) (h' : w.ownsRow B' e' s' v' n' xs') (he : e ≠ e') : v.ownBlock = none ∨ v.ownBlock ≠ v'.ownBlock := by
  rcases h'.2 with ⟨rfl, _⟩ | ⟨g', cap', cur', rfl, _, hg', _⟩
  · exact ne_noneT v
  · exact own_neT h hg' he
theorem NB.row6 (h : NB w9 N va A wr) {B s n : Nat} {e : TypeId} {v : Value} {xs : List Value} (hr : wr.ownsRow B e s v n xs) (h1 : e ≠ 72) {o : Obj} (hg : (wr.alloc o).grownBy w6 va.ownBlock) : w6.ownsRow B e s v n xs :=
  (hr.alloc o).kept hg (own_typesT (hr.alloc o) (h.alloc o).row h1)
/-- Another row is as it was. -/
theorem NB.other (h : NB w9 N va A wr) {B s n : Nat} {e : TypeId} {v : Value} {xs : List Value} (hr : wr.ownsRow B e s v n xs) (h1 : e ≠ 72) (h2 : e ≠ 32) {o : Obj} (hg : (wr.alloc o).grownBy w6 va.ownBlock) (u : Value) :
    (w6.setCell ⟨w9.heap.size, 1, none⟩ u).ownsRow B e s v n xs := by
  have k : w6.grownBy (w6.setCell ⟨w9.heap.size, 1, none⟩ u) (some w9.heap.size) := ⟨rfl, rfl, rfl, by simp [World.setCell], fun i _ hne => heap_setCell_other _ _ _ _ (fun e => hne (by rw [e]))⟩
  have r1 := (hr.alloc o).kept hg (own_typesT (hr.alloc o) (h.alloc o).row h1)
  exact r1.kept k (own_neT r1 (h.grown hg) h2)
theorem NB.keep (h : NB w9 N va A wr) {B s n : Nat} {e : TypeId} {v : Value} {xs : List Value} (hr : wr.ownsRow B e s v n xs) (hb : Below wr.heap.size wr w3) : w3.ownsRow B e s v n xs := by
  have _ := h.net
  exact hr.kept (grownNT hb) (ne_noneT _)
theorem own_drewT {w : World} {B s n : Nat} {e : TypeId} {v : Value} {xs : List Value} (h : w.ownsRow B e s v n xs) : w.drew.ownsRow B e s v n xs := h
theorem own_cellT {w : World} {B g n c k : Nat} {e : TypeId} {R : List Int} {y : Int} (h : w.ownsRow B e 1 (.slice (some ⟨g, 0, none⟩) n c) n (R.map (Value.int .i64))) (hy : R[k]? = some y) : w.cell? ⟨g, k, none⟩ = some (.int .i64 y) := by
  have := h.cells (g := g) rfl k (.int .i64 y) (by rw [List.getElem?_map, hy]; rfl)
  have hadd : (⟨g, 0, none⟩ : Addr).add k = ⟨g, k, none⟩ := by unfold Addr.add; split <;> simp_all
  rwa [hadd] at this
theorem own_ptrT {w : World} {B s n : Nat} {e : TypeId} {v : Value} {xs : List Value} (h : w.ownsRow B e s v n xs) (hn : 0 < n) : ∃ g c, v = .slice (some ⟨g, 0, none⟩) n c := by
  rcases h.2 with ⟨rfl, h0⟩ | ⟨g, cap, cur, rfl, _⟩
  · omega
  · exact ⟨_, _, rfl⟩
end

end Go.Proofs.YtlkhecdlmbhiaaaDoor

