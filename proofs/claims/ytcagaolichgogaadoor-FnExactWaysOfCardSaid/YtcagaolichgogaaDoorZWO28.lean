/-
  The network in time that is being built, in memory: its box, the lists of what lies beside each cell, the pairs, the arcs listed so far. No statement is proved here.
  CONTRACT of the program's gridRows.freeAt. No law is proved here.
  CONTRACT of the program's SpotOf. No law is proved here.
  The iterator of the neighbours where there are none: it never calls yield. No law is proved here.
-/
import Derived.Test.YtcagaolichgogaaDoorZWO13
import Derived.Test.YtcagaolichgogaaDoorZWO27
import Derived.Test.YtcagaolichgogaaDoorZWO09
import Derived.Test.YtcagaolichgogaaDoorZWO23
import Derived.Test.YtcagaolichgogaaDoorZWO25
namespace Go.Proofs.YtcagaolichgogaaDoor
set_option maxRecDepth 4096
open Go.ChangeShapes Go.WideShapes Go.ChangeAt Go.RowKit

/-- All blocks lie as they lay, but for those of arcs and the network's own box. -/
structure TK (w w' : World) : Prop where
  size : w.heap.size ≤ w'.heap.size
  block : ∀ (i : Nat) (cs : Array Value) (t : TypeId) (fr : Nat × Nat), w.heap[i]? = some (Obj.cells cs t fr) → t ≠ 69 → t ≠ 88 → w'.heap[i]? = some (Obj.cells cs t fr)
theorem TK.refl (w : World) : TK w w := ⟨Nat.le_refl _, fun _ _ _ _ h _ _ => h⟩
theorem TK.trans {a b c : World} (h : TK a b) (k : TK b c) : TK a c := ⟨Nat.le_trans h.size k.size, fun i cs t fr hi h1 h2 => k.block i cs t fr (h.block i cs t fr hi h1 h2) h1 h2⟩
theorem TK.below {w w' : World} (h : Below w.heap.size w w') : TK w w' := ⟨h.size, fun i _ _ _ hi _ _ => (h.block i (Array.getElem?_eq_some_iff.1 hi).1).trans hi⟩
theorem TK.row {w w' : World} {B s n : Nat} {e : TypeId} {v : Value} {xs : List Value} (k : TK w w') (h : w.ownsRow B e s v n xs) (h1 : e ≠ 69) (h2 : e ≠ 88) : w'.ownsRow B e s v n xs := by
  obtain ⟨hx, h | ⟨g, cap, cur, rfl, hb, hg, hr⟩⟩ := h
  · exact ⟨hx, .inl h⟩
  · exact ⟨hx, .inr ⟨g, cap, cur, rfl, hb, k.block _ _ _ _ hg h1 h2, hr⟩⟩

/-- The box, and the arcs. -/
structure EX (B k F P T : Nat) (vn vp va : Value) (A : List ArcD) (w : World) : Prop where
  box : w.heap[k]? = some (.cells #[.int .i64 F, .int .i64 P, .int .i64 T, vn, vp, va] 88 (0, 0))
  row : w.ownsRow B 69 4 va A.length (cellsA A)
  lo : B ≤ k
section
variable {B k F P T : Nat} {vn vp va va' : Value} {A Z : List ArcD} {w w3 w6 : World}
theorem EX.lt (h : EX B k F P T vn vp va A w) : k < w.heap.size := (Array.getElem?_eq_some_iff.1 h.box).1
theorem EX.call (h : EX B k F P T vn vp va A w) (hb : Below w.heap.size w w3) : EX B k F P T vn vp va A w3 :=
  ⟨(hb.block _ h.lt).trans h.box, h.row.kept (grownNT hb) (ne_noneT _), h.lo⟩
theorem EX.drew (h : EX B k F P T vn vp va A w) : EX B k F P T vn vp va A w.drew := ⟨h.box, h.row, h.lo⟩
theorem EX.cells (h : EX B k F P T vn vp va A w) : w.cell? ⟨k, 0, none⟩ = some (.int .i64 F) ∧ w.cell? ⟨k, 1, none⟩ = some (.int .i64 P) ∧ w.cell? ⟨k, 2, none⟩ = some (.int .i64 T) ∧ w.cell? ⟨k, 3, none⟩ = some vn ∧ w.cell? ⟨k, 4, none⟩ = some vp ∧ w.cell? ⟨k, 5, none⟩ = some va := by
  refine ⟨?_, ?_, ?_, ?_, ?_, ?_⟩ <;> rw [cell_of_row _ _ _ _ _ _ h.box] <;> rfl
theorem EX.free (h : EX B k F P T vn vp va A w) : w.frozen? ⟨k, 5, none⟩ = false := frozen_of_row _ _ 5 _ _ h.box
theorem EX.grown (h : EX B k F P T vn vp va A w) {o : Obj} (hg : (w.alloc o).grownBy w6 va.ownBlock) : w6.heap[k]? = some (.cells #[.int .i64 F, .int .i64 P, .int .i64 T, vn, vp, va] 88 (0, 0)) :=
  ((hg.block _ (by simp; have := h.lt; omega) (fun e => by
    rcases own_neT h.row h.box (by decide) with e2 | e2
    · rw [e2] at e
      cases e
    · exact e2 e.symm)).trans ((World.grownBy_alloc w o none).block _ h.lt (by simp))).trans h.box
theorem EX.free6 (h : EX B k F P T vn vp va A w) {o : Obj} (hg : (w.alloc o).grownBy w6 va.ownBlock) : w6.frozen? ⟨k, 5, none⟩ = false := frozen_of_row _ _ 5 _ _ (h.grown hg)
theorem EX.cell6 (h : EX B k F P T vn vp va A w) {o : Obj} (hg : (w.alloc o).grownBy w6 va.ownBlock) : w6.cell? ⟨k, 5, none⟩ = some va := by rw [cell_of_row _ _ _ _ _ _ (h.grown hg)]; rfl
/-- Arcs appended, and stored. -/
theorem EX.app (h : EX B k F P T vn vp va A w) {o : Obj} (hown : w6.ownsRow B 69 4 va' (A.length + Z.length) (cellsA A ++ cellsA Z)) (hg : (w.alloc o).grownBy w6 va.ownBlock) :
    EX B k F P T vn vp va' (A ++ Z) (w6.setCell ⟨k, 5, none⟩ va') ∧ Below B w (w6.setCell ⟨k, 5, none⟩ va') ∧ TK w (w6.setCell ⟨k, 5, none⟩ va') := by
  have hn := h.grown hg
  have hk : w6.grownBy (w6.setCell ⟨k, 5, none⟩ va') (some k) := ⟨rfl, rfl, rfl, by simp [World.setCell], fun i _ hne => heap_setCell_other _ _ _ _ (fun e => hne (by rw [e]))⟩
  have e1 : (A ++ Z).length = A.length + Z.length := List.length_append
  have e2 : cellsA (A ++ Z) = cellsA A ++ cellsA Z := by unfold cellsA; simp
  have hlo := h.lo
  have hlt := h.lt
  refine ⟨⟨heap_setCell_same w6 _ 5 _ _ va' hn, ?_, h.lo⟩, ?_, ?_, fun i cs t fr hi h1 h2 => ?_⟩
  · rw [e1, e2]
    exact hown.kept hk (own_neT hown hn (by decide))
  · have h1 : Below B w (w.alloc o) := (Below.refl B w).alloc (by omega) o
    have h2 := h1.grown hg (by simp; omega) (fun j e => by have := (h.row.lt _ e).1; omega)
    exact h2.grown hk (by have := hg.size; simp at this; omega) (fun j e => by have := Option.some.inj e; omega)
  · have := hg.size
    simp at this
    simp [World.setCell]
    omega
  · have hil := (Array.getElem?_eq_some_iff.1 hi).1
    have hik : i ≠ k := fun e => by
      subst e
      rw [h.box] at hi
      injection hi with hi
      injection hi with _ e2
      exact h2 e2.symm
    have hia : some i ≠ va.ownBlock := fun e => by
      rcases own_neT h.row hi (fun e => h1 e.symm) with e2 | e2
      · rw [e2] at e
        cases e
      · exact e2 e.symm
    rw [heap_setCell_other _ _ _ _ hik, hg.block i (by simp; omega) hia, (World.grownBy_alloc w o none).block _ hil (by simp)]
    exact hi
end

/-- The pairs' cells. -/
def pairC (L : List (Nat × Nat)) : List Value := L.flatMap fun p => [.int .i64 (p.1 : Int), .int .i64 (p.2 : Int)]
theorem pairC_len : ∀ L : List (Nat × Nat), (pairC L).length = L.length * 2
  | [] => rfl
  | p :: L => by
    have := pairC_len L
    unfold pairC at this ⊢
    simp only [List.flatMap_cons, List.length_append, List.length_cons, List.length_nil, this]
    omega
theorem pairC_at : ∀ {L : List (Nat × Nat)} {i a b : Nat}, L[i]? = some (a, b) → (pairC L)[i * 2]? = some (.int .i64 a) ∧ (pairC L)[i * 2 + 1]? = some (.int .i64 b)
  | [], i, a, b, h => by cases h
  | p :: L, 0, a, b, h => by
    simp at h
    subst h
    exact ⟨rfl, rfl⟩
  | p :: L, i + 1, a, b, h => by
    obtain ⟨h1, h2⟩ := pairC_at (L := L) (by simpa using h)
    have e : pairC (p :: L) = [.int .i64 (p.1 : Int), .int .i64 (p.2 : Int)] ++ pairC L := rfl
    rw [e, List.getElem?_append_right (by simp; omega), List.getElem?_append_right (by simp; omega)]
    simp only [List.length_cons, List.length_nil]
    rw [show (i + 1) * 2 - (0 + 1 + 1) = i * 2 by omega, show (i + 1) * 2 + 1 - (0 + 1 + 1) = i * 2 + 1 by omega]
    exact ⟨h1, h2⟩
theorem pairC_append (L M : List (Nat × Nat)) : pairC (L ++ M) = pairC L ++ pairC M := by unfold pairC; simp
def PairsAt (B : Nat) (w : World) (vp : Value) (L : List (Nat × Nat)) : Prop := w.ownsRow B 96 2 vp L.length (pairC L)

/-- A row of values; numbers in a row. -/
def rowN (S : Nat → Value) (n : Nat) : List Value := (List.range n).map S
theorem rowN_len (S : Nat → Value) (n : Nat) : (rowN S n).length = n := by simp [rowN]
theorem rowN_at (S : Nat → Value) {n c : Nat} (h : c < n) : (rowN S n)[c]? = some (S c) := by simp [rowN, h]
theorem rowN_set (S : Nat → Value) {n c : Nat} (x : Value) : (rowN S n).set c x = rowN (fun v => if v = c then x else S v) n := by
  apply List.ext_getElem?
  intro j
  rw [List.getElem?_set]
  by_cases hj : j < n
  · rw [rowN_at _ hj, rowN_at _ hj]
    by_cases e : c = j
    · subst e
      rw [if_pos rfl, if_pos (by rw [rowN_len]; exact hj), if_pos rfl]
    · rw [if_neg e, if_neg (fun h => e h.symm)]
  · have h1 : ∀ S : Nat → Value, (rowN S n)[j]? = none := fun S => List.getElem?_eq_none_iff.2 (by rw [rowN_len]; omega)
    rw [h1, h1]
    split
    · rw [if_neg (by rw [rowN_len]; omega)]
    · rfl
def natC (L : List Nat) : List Value := L.map fun j : Nat => .int .i64 (j : Int)
theorem natC_len (L : List Nat) : (natC L).length = L.length := by simp [natC]
theorem natC_at {L : List Nat} {i j : Nat} (h : L[i]? = some j) : (natC L)[i]? = some (.int .i64 j) := by unfold natC; rw [List.getElem?_map, h]; rfl
theorem natC_append (L M : List Nat) : natC (L ++ M) = natC L ++ natC M := by unfold natC; simp

/-- For each cell the list of those beside it, in memory. -/
structure NX (B : Nat) (w : World) (G n : Nat) (N : Nat → List Nat) (S : Nat → Value) : Prop where
  row : w.ownsRow B 24 1 (.slice (some ⟨G, 0, none⟩) n n) n (rowN S n)
  own : ∀ v, v < n → w.ownsRow B 3 1 (S v) (N v).length (natC (N v))
  apart : ∀ u v, u < n → v < n → u ≠ v → (S u).ownBlock = none ∨ (S u).ownBlock ≠ (S v).ownBlock
section
variable {B G n : Nat} {w w' : World} {N : Nat → List Nat} {S : Nat → Value}
theorem NX.tk (h : NX B w G n N S) (k : TK w w') : NX B w' G n N S := ⟨k.row h.row (by decide) (by decide), fun v hv => k.row (h.own v hv) (by decide) (by decide), h.apart⟩
theorem NX.kept (h : NX B w G n N S) {r : Option Nat} (k : w.grownBy w' r) (hr : ∀ g, r = some g → (∀ cs, w.heap[g]? ≠ some (.cells cs 24 (0, 0))) ∧ ∀ cs, w.heap[g]? ≠ some (.cells cs 3 (0, 0))) : NX B w' G n N S := by
  have key : ∀ {e : TypeId} {s m : Nat} {v : Value} {xs : List Value}, w.ownsRow B e s v m xs → (∀ g, r = some g → ∀ cs, w.heap[g]? ≠ some (.cells cs e (0, 0))) → w'.ownsRow B e s v m xs := fun {e s m v xs} ho hh => ho.kept k (by
    rcases ho.2 with ⟨rfl, _⟩ | ⟨g, cap, cur, rfl, _, hg, _⟩
    · exact .inl rfl
    · exact .inr fun e2 => hh g e2.symm cur hg)
  exact ⟨key h.row fun g e => (hr g e).1, fun v hv => key (h.own v hv) fun g e => (hr g e).2, h.apart⟩
theorem addr_at (g j : Nat) : (⟨g, 0, none⟩ : Addr).add j = ⟨g, j, none⟩ := by unfold Addr.add; split <;> simp_all
theorem NX.at_row (h : NX B w G n N S) {v : Nat} (hv : v < n) : w.cell? ⟨G, v, none⟩ = some (S v) := by
  have := h.row.cells (g := G) rfl v (S v) (rowN_at S hv)
  rwa [addr_at] at this
theorem NX.num (h : NX B w G n N S) {v j x g c : Nat} (hv : v < n) (hs : S v = .slice (some ⟨g, 0, none⟩) (N v).length c) (hj : (N v)[j]? = some x) : w.cell? ⟨g, j, none⟩ = some (.int .i64 x) := by
  have h1 := h.own v hv
  rw [hs] at h1
  have := h1.cells (g := g) rfl j _ (natC_at hj)
  rwa [addr_at] at this
theorem PairsAt.cells {w : World} {B g c : Nat} {L : List (Nat × Nat)} {i a b : Nat} (h : PairsAt B w (.slice (some ⟨g, 0, none⟩) L.length c) L) (hi : L[i]? = some (a, b)) : w.cell? ⟨g, i * 2, none⟩ = some (.int .i64 a) ∧ w.cell? ⟨g, i * 2 + 1, none⟩ = some (.int .i64 b) := by
  obtain ⟨h1, h2⟩ := pairC_at hi
  have k1 := World.ownsRow.cells (g := g) h rfl _ _ h1
  have k2 := World.ownsRow.cells (g := g) h rfl _ _ h2
  rw [addr_at] at k1 k2
  exact ⟨k1, k2⟩
end

end Go.Proofs.YtcagaolichgogaaDoor

namespace Go.Proofs.YtcagaolichgogaaDoor
set_option maxRecDepth 4096
open Go.ChangeShapes Go.WideShapes Go.ChangeAt Go.RowKit

/-- Row y of the array of rows. -/
def rowAt (C : ByteArray) (a b y : Nat) : ByteArray := if y < b then rowT C a y else ⟨#[]⟩
theorem rowsV_any (C : ByteArray) (a b y : Nat) (h : y < 8) : (rowsV C a b)[y]? = some (.string (rowAt C a b y)) := by
  unfold rowsV rowAt
  rw [Array.getElem?_ofFn, dif_pos h]
  dsimp only
  split <;> rfl

theorem freeVTo {W H : Int} {C : ByteArray} {z : Int} {f : Bool} (HF : Hid (freeV W H C z = f)) (h : z < 0) : false = f := by
  rw [← HF.out]
  unfold freeV cellOk
  have h1 : decide (0 ≤ z) = false := by simpa using h
  rw [h1]
  simp

set_option maxHeartbeats 1000000 in
theorem stepFree (a b : Nat) (C : ByteArray) (x y : Int) (f : Bool) (hg : gok a b C = true) (HF : Hid (freeV a b C (cellAtV a b C x y) = f)) (w : World) :
    Calls Tryd.prog 86 #[.agg (rowsV C a b), .int .i64 x, .int .i64 y] w (Made w (.bool f)) := by
  obtain ⟨⟨⟨h1, h2⟩, ⟨h3, h4⟩, hs⟩, _⟩ := gok_out hg
  have hs2 : C.size = a * b := by have : ((a * b : Nat) : Int) = (a : Int) * (b : Int) := Int.natCast_mul a b; omega
  have hB := (Below.refl w.heap.size w).alloc (Nat.le_refl _) (.cells (rowsV C a b) 115)
  have HG := Lib.hid hg
  have HS2 := Lib.hid hs2
  clear hs hs2 hg
  by_cases hy0 : 0 ≤ y
  · by_cases hy8 : y < 8
    · obtain ⟨Y, rfl⟩ : ∃ Y : Nat, y = Y := ⟨y.toNat, by omega⟩
      by_cases hx0 : 0 ≤ x
      · obtain ⟨X, rfl⟩ : ∃ X : Nat, x = X := ⟨x.toNat, by omega⟩
        obtain ⟨r, HR⟩ : ∃ r, Hid (rowAt C a b Y = r) := ⟨_, rfl⟩
        have d1 : (w.alloc (.cells (rowsV C a b) 115)).cell? ⟨w.heap.size, Y, none⟩ = some (.string r) := by
          rw [cell_of_row _ _ _ _ _ _ (heap_alloc_new w _), rowsV_any C a b Y (by omega), HR.out]
        by_cases hx : (X : Int) < (r.size : Int)
        · have hYb : Y < b := by
            rcases Nat.lt_or_ge Y b with h | h
            · exact h
            · have e := HR.out; unfold rowAt at e; rw [if_neg (by omega)] at e; rw [← e] at hx; have : (X : Int) < 0 := hx; omega
          have hrT : rowT C a Y = r := by have e := HR.out; unfold rowAt at e; rwa [if_pos hYb] at e
          have hle : (Y + 1) * a ≤ C.size := by rw [HS2.out, Nat.mul_comm a b]; exact Nat.mul_le_mul_right a (by omega)
          have hrs : r.size = a := by rw [← hrT]; exact row_size C a Y hle
          have hlt : Y * a + X < C.size := by rw [Nat.add_mul, Nat.one_mul] at hle; omega
          have hz : cellAtV a b C X Y = ((Y * a + X : Nat) : Int) := by
            rw [cellAtV_yes ⟨HG.out, ⟨by omega, by omega⟩, by omega, by omega⟩, Int.natCast_add, Int.natCast_mul]
          have HP : Hid (freeB (byteAt r X) = f) := Lib.hid (by
            rw [← HF.out, hz, freeV_at HG.out hlt, ← hrT, row_byte C a Y X hle (by omega)])
          clear hrT hle hlt hz
          go_enter Tryd.func86, Tryd.ntmps86
          go_wp2_with (go_at_call 74; (with_reducible refine (freeTo _ _ X f HP rfl (by omega) _).mono ?_); rintro e w2 ⟨rfl, rfl⟩)
          go_ret
          exact ⟨rfl, hB⟩
        · have HN : Hid (false = f) := Lib.hid (by
            refine freeVTo HF ?_
            rw [cellAtV_no (fun h => ?_)]
            · decide
            · have hYb : Y < b := by omega
              have hrT : rowT C a Y = r := by have e := HR.out; unfold rowAt at e; rwa [if_pos hYb] at e
              have hle : (Y + 1) * a ≤ C.size := by rw [HS2.out, Nat.mul_comm a b]; exact Nat.mul_le_mul_right a (by omega)
              have hrs : r.size = a := by rw [← hrT]; exact row_size C a Y hle
              omega)
          go_enter Tryd.func86, Tryd.ntmps86
          go_wp2
          go_ret
          exact ⟨bool_ret HN.out rfl, hB⟩
      · have HN : Hid (false = f) := Lib.hid (freeVTo HF (by rw [cellAtV_no (fun h => by omega)]; decide))
        go_enter Tryd.func86, Tryd.ntmps86
        go_wp2
        go_ret
        exact ⟨bool_ret HN.out rfl, hB⟩
    · have HN : Hid (false = f) := Lib.hid (freeVTo HF (by rw [cellAtV_no (fun h => by omega)]; decide))
      go_enter Tryd.func86, Tryd.ntmps86
      go_wp2
      go_ret
      exact ⟨bool_ret HN.out rfl, hB⟩
  · have HN : Hid (false = f) := Lib.hid (freeVTo HF (by rw [cellAtV_no (fun h => by omega)]; decide))
    go_enter Tryd.func86, Tryd.ntmps86
    go_wp2
    go_ret
    exact ⟨bool_ret HN.out rfl, hB⟩

end Go.Proofs.YtcagaolichgogaaDoor

namespace Go.Proofs.YtcagaolichgogaaDoor
set_option maxRecDepth 4096
open Go.ChangeShapes Go.WideShapes Go.ChangeAt Go.RowKit

theorem implSpot_no (W H : Int) (C : ByteArray) (c : Int) (hC : C.size ≤ 1048576) (h : ¬ cellOk W H C c = true) (w : World) :
    Calls Tryd.prog 85 #[.agg #[.int .i64 W, .int .i64 H, .string C], .int .i64 c] w (Spot (-1) (-1) w) := by
  rcases cellOk_no h with hg | ⟨hg, h1⟩ | ⟨hg, h1, h2⟩
  all_goals
    clear h
    have hB := Below.refl (w.alloc (.cells #[.int .i64 W, .int .i64 H, .string C] 29)).heap.size (w.alloc (.cells #[.int .i64 W, .int .i64 H, .string C] 29))
    go_enter Tryd.func85, Tryd.ntmps85
    go_wp2_with (go_at_call 67; (with_reducible refine (implGridOk W H C hC _).mono ?_); rintro e w1 ⟨rfl, hb⟩; replace hB := chain hB hb; obtain ⟨c0, c1, c2⟩ := box_cells hB; clear hb)
    go_ret2
    exact ⟨rfl, box_below hB⟩

set_option maxHeartbeats 400000 in
theorem implSpot_yes (a b : Nat) (C : ByteArray) (n q m : Nat) (hC : C.size ≤ 1048576) (hg : gok a b C = true) (hn : n < C.size) (ha : 1 ≤ a) (_hm : m < a) (hd : (n : Int).tdiv (a : Int) = (q : Int)) (he : (n : Int).tmod (a : Int) = (m : Int)) (hq : q < 8) (w : World) :
    Calls Tryd.prog 85 #[.agg #[.int .i64 a, .int .i64 b, .string C], .int .i64 n] w (Spot m q w) := by
  have hB := Below.refl (w.alloc (.cells #[.int .i64 a, .int .i64 b, .string C] 29)).heap.size (w.alloc (.cells #[.int .i64 a, .int .i64 b, .string C] 29))
  have hn3 : ¬ (C.size : Int) ≤ (n : Int) := by omega
  have HE := Lib.hid hd
  have HE2 := Lib.hid he
  have e3 : IntKind.i64.wrap (q : Int) = (q : Int) := IntWalk.i64_in _ (by omega)
  have HE3 := Lib.hid e3
  clear hd he e3
  go_enter Tryd.func85, Tryd.ntmps85
  go_wp2_with (go_at_call 67; (with_reducible refine (implGridOk a b C hC _).mono ?_); rintro e w1 ⟨rfl, hb⟩; replace hB := chain hB hb; obtain ⟨c0, c1, c2⟩ := box_cells hB; clear hb)
  have e1 := HE.out
  have e2 := HE2.out
  have e3 := HE3.out
  go_quiet (fail)
  clear e1 e2 e3
  go_wp2
  go_ret2
  exact ⟨rfl, box_below (below_drewN hB nq)⟩

theorem implSpotOf (W H : Int) (C : ByteArray) (c : Int) (hC : C.size ≤ 1048576) (w : World) :
    Calls Tryd.prog 85 #[.agg #[.int .i64 W, .int .i64 H, .string C], .int .i64 c] w (Spot (spotX W H C c) (spotY W H C c) w) := by
  by_cases h : cellOk W H C c = true
  · obtain ⟨hg, n, rfl, hn⟩ := cellOk_out h
    obtain ⟨a, b, q, m, rfl, rfl, ha1, _, hb, hq, hm, hd, he, _⟩ := spot_of hg hn
    refine (implSpot_yes a b C n q m hC hg hn ha1 hm hd he (by omega) w).mono fun e w' hh => spot_to hh ?_ ?_
    · unfold spotX; rw [if_pos h, he]
    · unfold spotY; rw [if_pos h, hd]
  · refine (implSpot_no W H C c hC h w).mono fun e w' hh => spot_to hh ?_ ?_
    · unfold spotX; rw [if_neg h]
    · unfold spotY; rw [if_neg h]

end Go.Proofs.YtcagaolichgogaaDoor

namespace Go.Proofs.YtcagaolichgogaaDoor
set_option maxRecDepth 4096
open Go.ChangeShapes Go.WideShapes Go.ChangeAt Go.RowKit

theorem rowsR_no {W H : Int} {C : ByteArray} (h : gok W H C = false) : rowsR W H C = noRows := by
  unfold rowsR
  rw [if_neg (by simp [h])]
theorem rowsR_yes {a b : Nat} {C : ByteArray} (h : gok a b C = true) : rowsR a b C = rowsV C a b := by
  unfold rowsR
  rw [if_pos h]
  rfl

/-- The iterator's two captured variables. -/
def Caps (w : World) (G K : Nat) (W H : Int) (C : ByteArray) (c : Int) : Prop :=
  w.cell? ⟨G, 0, none⟩ = some (.int .i64 W) ∧ w.cell? ⟨G, 1, none⟩ = some (.int .i64 H) ∧ w.cell? ⟨G, 2, none⟩ = some (.string C) ∧ w.cell? ⟨K, 0, none⟩ = some (.int .i64 c) ∧ G < w.heap.size ∧ K < w.heap.size
theorem Caps.below {w w' : World} {G K n₀ : Nat} {W H : Int} {C : ByteArray} {c : Int} (h : Caps w G K W H C c) (hb : Below n₀ w w') (hG : G < n₀) (hK : K < n₀) : Caps w' G K W H C c :=
  ⟨(hb.cell (p := ⟨G, 0, none⟩) hG).trans h.1, (hb.cell (p := ⟨G, 1, none⟩) hG).trans h.2.1, (hb.cell (p := ⟨G, 2, none⟩) hG).trans h.2.2.1, (hb.cell (p := ⟨K, 0, none⟩) hK).trans h.2.2.2.1,
    Nat.lt_of_lt_of_le h.2.2.2.2.1 hb.size, Nat.lt_of_lt_of_le h.2.2.2.2.2 hb.size⟩
theorem Caps.later {w w' : World} {G K : Nat} {W H : Int} {C : ByteArray} {c : Int} (h : Caps w G K W H C c) (hb : Below w.heap.size w w') : Caps w' G K W H C c := h.below hb h.2.2.2.2.1 h.2.2.2.2.2

def Gone (w : World) (e : Ending) (w' : World) : Prop := (∃ v, e = .returned v) ∧ Below w.heap.size w w'

set_option maxHeartbeats 1000000 in
theorem nbr_bad (W H : Int) (C : ByteArray) (c : Int) (hC : C.size ≤ 1048576) (hg : gok W H C = false) (l G K : Nat) (w : World) (hcap : Caps w G K W H C c) :
    Calls Tryd.prog 84 #[.func (.yield l) #[] #[], .pointer (some ⟨G, 0, none⟩), .pointer (some ⟨K, 0, none⟩)] w (Gone w) := by
  have hB := Below.refl w.heap.size w
  have HC := Lib.hid hcap
  obtain ⟨c0, c1, c2, k0, _, _⟩ := hcap
  go_enter Tryd.func84, Tryd.ntmps84
  go_wp2_with (first
    | (go_at_call 82; (with_reducible refine (rowsOf W H C hC _).mono ?_); rintro e w1 ⟨rfl, hb⟩; replace hB := chain hB hb; clear hb)
    | (refine wpStoreRows W H C _ _ rfl rfl rfl rfl ?_; replace hB := chain hB (rows_in w1 (rowsR W H C)).1; obtain ⟨c0, c1, c2, k0, _, _⟩ := HC.out.later hB)
    | (go_at_call 85; (with_reducible refine (implSpotOf W H C c hC _).mono ?_); rintro e w1 ⟨rfl, hb⟩; replace hB := chain hB hb; clear hb))
  refine bodyPost_ret (results_none rfl _ _ _) rfl ?_
  exact ⟨⟨_, rfl⟩, hB⟩

/-- freeAt at the rows that rowsOf gave. -/
theorem stepFreeR (a b : Nat) (C : ByteArray) (x y : Int) (f : Bool) (hg : gok a b C = true) (HF : Hid (freeV a b C (cellAtV a b C x y) = f)) (w : World) :
    Calls Tryd.prog 86 #[.agg (rowsR a b C), .int .i64 x, .int .i64 y] w (Made w (.bool f)) := by
  rw [rowsR_yes hg]
  exact stepFree a b C x y f hg HF w

/-- A guarded load of the rows. -/
theorem wpLoadRowsG {ops : Array Oper} {rest : List Oper} {o : Oper} {a : Act} {w : World} {Q : Exit → Act → World → Prop} (W H : Int) (C : ByteArray) (x : Operand) (g : Nat) (hw : Region.wanted o (yielded ops a.tmps) = true) (ho : o.op = .load 115 x)
    (hx : a.eval x = .pointer (some ⟨g, 0, none⟩)) (hg : w.heap[g]? = some (.cells (rowsR W H C) 115 (0, 0)))
    (h : wpList Tryd.prog ops Q rest (a.put o.dst (.agg (rowsR W H C))) w) : wpList Tryd.prog ops Q (o :: rest) a w := by
  unfold wpList
  rw [if_pos hw]
  exact .inl (wp_load_row 115 x ho g hx 115 (rowsR W H C) (0, 0) _ hg Tryd.underlying115 rfl (by rw [rowsR_size]; exact rows_info) h)

theorem freeV_spot {a b : Nat} {C : ByteArray} {c : Int} (hg : gok a b C = true) (h : freeV a b C c = false) : freeV a b C (cellAtV a b C (spotX a b C c) (spotY a b C c)) = false := by
  by_cases hk : cellOk a b C c = true
  · obtain ⟨_, n, rfl, hn⟩ := cellOk_out hk
    obtain ⟨a', b', q, m, ha, hb, ha1, _, _, hq, hm, hd, he, hnn⟩ := spot_of hg hn
    obtain rfl : a = a' := by omega
    obtain rfl : b = b' := by omega
    have e : cellAtV a b C (spotX a b C n) (spotY a b C n) = (n : Int) := by
      unfold spotX spotY
      rw [if_pos hk, if_pos hk, hd, he, cellAtV_yes ⟨hg, ⟨by omega, by omega⟩, by omega, by omega⟩, ← Int.natCast_mul, ← Int.natCast_add, hnn]
    rw [e]
    exact h
  · unfold spotX spotY
    rw [if_neg hk, if_neg hk, cellAtV_no (fun h => by omega)]
    unfold freeV cellOk
    simp

set_option maxHeartbeats 1000000 in
theorem nbr_none (a b : Nat) (C : ByteArray) (c : Int) (hC : C.size ≤ 1048576) (hg : gok a b C = true) (hf : freeV a b C c = false) (l G K : Nat) (w : World) (hcap : Caps w G K a b C c) :
    Calls Tryd.prog 84 #[.func (.yield l) #[] #[], .pointer (some ⟨G, 0, none⟩), .pointer (some ⟨K, 0, none⟩)] w (Gone w) := by
  have hB := Below.refl w.heap.size w
  have HG := Lib.hid hg
  have HF := Lib.hid (freeV_spot hg hf)
  have HC := Lib.hid hcap
  obtain ⟨c0, c1, c2, k0, _, _⟩ := hcap
  clear hf
  go_enter Tryd.func84, Tryd.ntmps84
  go_wp2_with (first
    | (go_at_call 82; (with_reducible refine (rowsOf a b C hC _).mono ?_); rintro e w1 ⟨rfl, hb⟩; replace hB := chain hB hb; clear hb)
    | (refine wpStoreRows a b C _ _ rfl rfl rfl rfl ?_; have hR := (rows_in w1 (rowsR a b C)).2; replace hB := chain hB (rows_in w1 (rowsR a b C)).1; obtain ⟨c0, c1, c2, k0, _, _⟩ := HC.out.later hB)
    | (go_at_call 85; (with_reducible refine (implSpotOf a b C c hC _).mono ?_); rintro e w2 ⟨rfl, hb⟩; have hR2 := (hb.block _ (Array.getElem?_eq_some_iff.1 hR).1).trans hR; replace hB := chain hB hb; clear hb hR)
    | (refine wpLoadRowsG a b C _ w1.heap.size rfl rfl rfl hR2 ?_)
    | (go_at_call 86; (with_reducible refine (stepFreeR a b C _ _ false HG.out HF _).mono ?_); rintro e w3 ⟨rfl, hb⟩; replace hB := chain hB hb; clear hb))
  refine bodyPost_ret (results_none rfl _ _ _) rfl ?_
  exact ⟨⟨_, rfl⟩, hB⟩

end Go.Proofs.YtcagaolichgogaaDoor

