/-
  CONTRACTS of the program's heap of ranked numbers, as a bag of pairs: what is put is in it, what is taken was in it. No law is proved here.
-/
import Derived.Test.YtobflidianlomaaResG
import Derived.BigQuiet
import Derived.BigRegion
import Derived.Maps.AppendAt
import Derived.WalkSmall
namespace Go.Proofs.Ytobflidianlomaa
set_option maxRecDepth 4096
open Go.ChangeShapes Go.WideShapes Go.ChangeAt Go.RowKit

def flatR (L : List (Int × Int)) : List Value := L.flatMap fun p => [.int .i64 p.1, .int .i64 p.2]
theorem flatR_len : ∀ L : List (Int × Int), (flatR L).length = L.length * 2
  | [] => rfl
  | _ :: L => by
    have := flatR_len L
    unfold flatR at this ⊢
    simp only [List.flatMap_cons, List.length_append, List.length_cons, List.length_nil, this]
    omega
theorem flatR_at : ∀ {L : List (Int × Int)} {j : Nat} {p : Int × Int}, L[j]? = some p → (flatR L)[j * 2]? = some (.int .i64 p.1) ∧ (flatR L)[j * 2 + 1]? = some (.int .i64 p.2)
  | _ :: L, 0, p, h => by
    cases h
    exact ⟨rfl, rfl⟩
  | _ :: L, j + 1, p, h => by
    have := flatR_at (L := L) (j := j) (p := p) (by simpa using h)
    unfold flatR at this ⊢
    rw [Nat.add_mul]
    exact this
theorem flatR_set : ∀ {L : List (Int × Int)} {j : Nat} (p : Int × Int), ((flatR L).set (j * 2) (.int .i64 p.1)).set (j * 2 + 1) (.int .i64 p.2) = flatR (L.set j p)
  | [], j, p => by simp [flatR]
  | _ :: L, 0, p => rfl
  | q :: L, j + 1, p => by
    have := flatR_set (L := L) (j := j) p
    have e : (j + 1) * 2 = j * 2 + 1 + 1 := by omega
    unfold flatR at this ⊢
    rw [e]
    simp only [List.flatMap_cons, List.cons_append, List.nil_append, List.set_cons_succ, this]
theorem flatR_app (L : List (Int × Int)) (p : Int × Int) : flatR (L ++ [p]) = flatR L ++ [.int .i64 p.1, .int .i64 p.2] := by
  unfold flatR
  simp

def heapB (v : Value) : Obj := .cells #[v] 83
/-- The heap in block H: its slice, its pairs. -/
structure Bag (B H : Nat) (w : World) (v : Value) (L : List (Int × Int)) : Prop where
  box : w.heap[H]? = some (heapB v)
  row : w.ownsRow B 95 2 v L.length (flatR L)
theorem Bag.cell {B H : Nat} {w : World} {v : Value} {L : List (Int × Int)} (h : Bag B H w v L) : w.cell? ⟨H, 0, none⟩ = some v := box_cell h.box rfl
theorem Bag.form {B H : Nat} {w : World} {v : Value} {L : List (Int × Int)} (h : Bag B H w v L) (hL : 0 < L.length) : ∃ g cap, v = .slice (some ⟨g, 0, none⟩) L.length cap ∧ g ≠ H ∧ L.length ≤ cap := by
  rcases h.row.2 with ⟨_, h0⟩ | ⟨g, cap, cur, rfl, _, hg, hc, _⟩
  · omega
  · refine ⟨g, cap, rfl, fun e => ?_, hc⟩
    subst e
    rw [h.box] at hg
    unfold heapB at hg
    injection hg with hg
    injection hg with _ h2
    exact absurd h2 (by decide)
theorem Bag.at {B H g cap : Nat} {w : World} {L : List (Int × Int)} (h : Bag B H w (.slice (some ⟨g, 0, none⟩) L.length cap) L) {j : Nat} {p : Int × Int} (hj : L[j]? = some p) : w.cell? ⟨g, j * 2, none⟩ = some (.int .i64 p.1) ∧ w.cell? ⟨g, j * 2 + 1, none⟩ = some (.int .i64 p.2) := by
  have hl := (List.getElem?_eq_some_iff.1 hj).1
  obtain ⟨h1, h2⟩ := flatR_at hj
  exact ⟨(h.row.cellAt _ (by omega)).trans h1, (h.row.cellAt _ (by omega)).trans h2⟩
/-- Two stores into one pair. -/
theorem Bag.set {B H g cap : Nat} {w : World} {L : List (Int × Int)} (h : Bag B H w (.slice (some ⟨g, 0, none⟩) L.length cap) L) (hne : g ≠ H) (j : Nat) (p : Int × Int) :
    Bag B H ((w.setCell ⟨g, j * 2, none⟩ (.int .i64 p.1)).setCell ⟨g, j * 2 + 1, none⟩ (.int .i64 p.2)) (.slice (some ⟨g, 0, none⟩) L.length cap) (L.set j p) := by
  refine ⟨(heap_setCell_other _ ⟨g, j * 2 + 1, none⟩ H _ (fun e => hne e.symm)).trans ((heap_setCell_other _ ⟨g, j * 2, none⟩ H _ (fun e => hne e.symm)).trans h.box), ?_⟩
  have := ((h.row.stored (j * 2) (.int .i64 p.1)).1.stored (j * 2 + 1) (.int .i64 p.2)).1
  rw [flatR_set] at this
  rw [List.length_set]
  exact this

/-- What turns: the heap's block, and blocks of pairs from B on. -/
structure Heaped (B H : Nat) (w w' : World) : Prop where
  os : w'.os = w.os
  tape : w'.tape = w.tape
  output : w'.output = w.output
  size : w.heap.size ≤ w'.heap.size
  block : ∀ k, k < w.heap.size → k ≠ H → (k < B ∨ ∀ cs fr, w.heap[k]? ≠ some (.cells cs 95 fr)) → w'.heap[k]? = w.heap[k]?
theorem Heaped.refl (B H : Nat) (w : World) : Heaped B H w w := ⟨rfl, rfl, rfl, Nat.le_refl _, fun _ _ _ _ => rfl⟩
theorem Heaped.trans {B H : Nat} {a b c : World} (h : Heaped B H a b) (k : Heaped B H b c) : Heaped B H a c :=
  ⟨k.os.trans h.os, k.tape.trans h.tape, k.output.trans h.output, Nat.le_trans h.size k.size, fun i hi h1 h2 => by
    have e := h.block i hi h1 h2
    refine (k.block i (Nat.lt_of_lt_of_le hi h.size) h1 ?_).trans e
    rcases h2 with h2 | h2
    · exact .inl h2
    · exact .inr (by rw [e]; exact h2)⟩
theorem wrote2 (w : World) (g i j : Nat) (q p : Int × Int) :
    w.grownBy ((((w.setCell ⟨g, i * 2, none⟩ (.int .i64 q.1)).setCell ⟨g, i * 2 + 1, none⟩ (.int .i64 q.2)).setCell ⟨g, j * 2, none⟩ (.int .i64 p.1)).setCell ⟨g, j * 2 + 1, none⟩ (.int .i64 p.2)) (some g) := by
  refine ⟨rfl, rfl, rfl, by simp [World.setCell], fun k hk h2 => ?_⟩
  have hk : k ≠ g := fun e => h2 (by rw [e])
  exact (heap_setCell_other _ ⟨g, _, none⟩ k _ hk).trans ((heap_setCell_other _ ⟨g, _, none⟩ k _ hk).trans ((heap_setCell_other _ ⟨g, _, none⟩ k _ hk).trans (heap_setCell_other _ ⟨g, _, none⟩ k _ hk)))
theorem Bag.heaped {B H : Nat} {w w' : World} {v : Value} {L : List (Int × Int)} (h : Bag B H w v L) (hg : w.grownBy w' v.ownBlock) : Heaped B H w w' := by
  refine ⟨hg.os, hg.tape, hg.output, hg.size, fun k hk _ h2 => hg.block k hk (fun e => ?_)⟩
  rcases h.row.2 with ⟨rfl, _⟩ | ⟨g, cap, cur, rfl, hb, hh, _⟩
  · cases e
  · have e : k = g := by simpa [Value.ownBlock] using e
    subst e
    rcases h2 with h2 | h2
    · omega
    · exact h2 _ _ hh
/-- The heap's block stays, the row may lie anew. -/
theorem Bag.apart {B H : Nat} {w : World} {v : Value} {L : List (Int × Int)} (h : Bag B H w v L) : some H ≠ v.ownBlock := by
  intro e
  rcases h.row.2 with ⟨rfl, _⟩ | ⟨g, cap, cur, rfl, hb, hh, _⟩
  · cases e
  · have e : H = g := by simpa [Value.ownBlock] using e
    subst e
    rw [h.box] at hh
    unfold heapB at hh
    injection hh with hh
    injection hh with _ h2
    exact absurd h2 (by decide)
theorem Bag.lt {B H : Nat} {w : World} {v : Value} {L : List (Int × Int)} (h : Bag B H w v L) : H < w.heap.size := (Array.getElem?_eq_some_iff.1 h.box).1
theorem Bag.frozen {B H : Nat} {w : World} {v : Value} {L : List (Int × Int)} (h : Bag B H w v L) : w.frozen? ⟨H, 0, none⟩ = false := frozen_of_row w H 0 _ _ h.box
/-- The slice is another one: what a store into the heap's block leaves. -/
theorem Bag.stored {B H : Nat} {w : World} {v v' : Value} {L' : List (Int × Int)} (hb : w.heap[H]? = some (heapB v)) (hr : w.ownsRow B 95 2 v' L'.length (flatR L')) : Bag B H (w.setCell ⟨H, 0, none⟩ v') v' L' ∧ w.grownBy (w.setCell ⟨H, 0, none⟩ v') (some H) := by
  have hg : w.grownBy (w.setCell ⟨H, 0, none⟩ v') (some H) := ⟨rfl, rfl, rfl, by simp [World.setCell], fun i _ hne => heap_setCell_other w ⟨H, 0, none⟩ i v' (fun e => hne (by rw [e]))⟩
  refine ⟨⟨heap_setCell_same w H 0 _ _ _ hb, hr.kept hg ?_⟩, hg⟩
  rcases hr.2 with ⟨rfl, _⟩ | ⟨g, cap, cur, rfl, _, hh, _⟩
  · exact .inl rfl
  · refine .inr fun e => ?_
    have e : g = H := by simpa [Value.ownBlock] using e
    subst e
    rw [hb] at hh
    unfold heapB at hh
    injection hh with hh
    injection hh with _ h2
    exact absurd h2 (by decide)

def ptrH (b : Nat) : Value := .pointer (some ⟨b, 0, none⟩)

theorem implEmpty (B H : Nat) (v : Value) (L : List (Int × Int)) (o : Bool) (ho : decide (L.length = 0) = o) (w : World) (h : Bag B H w v L) :
    Calls Try.prog 53 #[ptrH H] w fun e w' => e = .returned (.bool o) ∧ w = w' := by
  have c0 := h.cell
  unfold ptrH
  rcases h.row.2 with ⟨rfl, h0⟩ | ⟨g, cap, cur, rfl, _, _⟩
  · rw [h0] at ho
    subst ho
    clear h
    go_enter Try.func53, Try.ntmps53
    go_wp2_with fail
    go_ret
    exact ⟨rfl, rfl⟩
  · clear h
    cases o with
    | true =>
      have h1 : L.length = 0 := of_decide_eq_true ho
      rw [h1] at c0
      go_enter Try.func53, Try.ntmps53
      go_wp2_with fail
      go_ret
      exact ⟨rfl, rfl⟩
    | false =>
      have h1 : ¬ L.length = 0 := of_decide_eq_false ho
      have h2 : ((L.length : Int) == 0) = false := by simpa using h1
      clear ho
      go_enter Try.func53, Try.ntmps53
      go_wp2_with fail
      go_ret
      exact ⟨rfl, rfl⟩

theorem implLess (B H i j : Nat) (v : Value) (L : List (Int × Int)) (p q : Int × Int) (hi : L[i]? = some p) (hj : L[j]? = some q) (w : World) (h : Bag B H w v L) :
    Calls Try.prog 61 #[ptrH H, .int .i64 (i : Int), .int .i64 (j : Int)] w fun e w' => e = .returned (.bool (decide (p.1 < q.1))) ∧ Bag B H w' v L ∧ w.grownBy w' v.ownBlock := by
  have hl := (List.getElem?_eq_some_iff.1 hi).1
  have hl2 := (List.getElem?_eq_some_iff.1 hj).1
  obtain ⟨g, cap, rfl, hne, _⟩ := h.form (by omega)
  have c0 := h.cell
  obtain ⟨c1, _⟩ := h.at hi
  obtain ⟨c2, _⟩ := h.at hj
  have i1 : (i : Int) < (L.length : Int) := by omega
  have i2 : (j : Int) < (L.length : Int) := by omega
  unfold ptrH
  have HB := Lib.hid h
  clear h hi hj
  go_enter Try.func61, Try.ntmps61
  go_wp2_with fail
  go_quiet (fail)
  go_wp2_with fail
  go_ret
  exact ⟨rfl, ⟨HB.out.box, HB.out.row⟩, rfl, rfl, rfl, Nat.le_refl _, fun _ _ _ => rfl⟩

theorem cell?_setCell_ne (w : World) (a p : Addr) (x : Value) (h : p.block ≠ a.block) : (w.setCell a x).cell? p = w.cell? p := World.cell?_of_block (heap_setCell_other w a p.block x h)

theorem implSwap (B H i j : Nat) (v : Value) (L : List (Int × Int)) (p q : Int × Int) (hi : L[i]? = some p) (hj : L[j]? = some q) (w : World) (h : Bag B H w v L) :
    Calls Try.prog 62 #[ptrH H, .int .i64 (i : Int), .int .i64 (j : Int)] w fun e w' => e = .returned (.tuple #[]) ∧ Bag B H w' v ((L.set i q).set j p) ∧ w.grownBy w' v.ownBlock := by
  have hl := (List.getElem?_eq_some_iff.1 hi).1
  have hl2 := (List.getElem?_eq_some_iff.1 hj).1
  obtain ⟨g, cap, rfl, hne, _⟩ := h.form (by omega)
  have c0 := h.cell
  obtain ⟨c1, c3⟩ := h.at hi
  obtain ⟨c2, c4⟩ := h.at hj
  have i1 : (i : Int) < (L.length : Int) := by omega
  have i2 : (j : Int) < (L.length : Int) := by omega
  have f0 := h.row.frozenAt
  have f1 := (h.row.stored (i * 2) (.int .i64 q.1)).1.frozenAt
  have h1 := h.set hne i q
  have hj2 : (L.set i q)[j]? = some q := by
    rw [List.getElem?_set]
    split
    · rename_i e
      subst e
      simp
    · simpa using hj
  have h1' : Bag B H ((w.setCell ⟨g, i * 2, none⟩ (.int .i64 q.1)).setCell ⟨g, i * 2 + 1, none⟩ (.int .i64 q.2)) (.slice (some ⟨g, 0, none⟩) (L.set i q).length cap) (L.set i q) := by
    rw [List.length_set]
    exact h1
  obtain ⟨d2, _⟩ := h1'.at hj2
  have f2 := h1'.row.frozenAt
  have h2 := h1'.row.stored (j * 2) (.int .i64 p.1)
  have f3 := h2.1.frozenAt
  have hl3 : (L.set i q).length = L.length := List.length_set
  have d4 : ∃ x, (((w.setCell ⟨g, i * 2, none⟩ (.int .i64 q.1)).setCell ⟨g, i * 2 + 1, none⟩ (.int .i64 q.2)).setCell ⟨g, j * 2, none⟩ (.int .i64 p.1)).cell? ⟨g, j * 2 + 1, none⟩ = some x := by
    rw [h2.1.cellAt (j * 2 + 1) (by omega)]
    exact ⟨_, List.getElem?_eq_getElem (by rw [List.length_set, flatR_len]; omega)⟩
  obtain ⟨x4, d4⟩ := d4
  have d1 : ∃ x, (w.setCell ⟨g, i * 2, none⟩ (.int .i64 q.1)).cell? ⟨g, i * 2 + 1, none⟩ = some x := by
    rw [(h.row.stored (i * 2) (.int .i64 q.1)).1.cellAt (i * 2 + 1) (by omega)]
    exact ⟨_, List.getElem?_eq_getElem (by rw [List.length_set, flatR_len]; omega)⟩
  obtain ⟨x1, d1⟩ := d1
  have HR : Hid (Bag B H ((((w.setCell ⟨g, i * 2, none⟩ (.int .i64 q.1)).setCell ⟨g, i * 2 + 1, none⟩ (.int .i64 q.2)).setCell ⟨g, j * 2, none⟩ (.int .i64 p.1)).setCell ⟨g, j * 2 + 1, none⟩ (.int .i64 p.2)) (.slice (some ⟨g, 0, none⟩) L.length cap) ((L.set i q).set j p) ∧
      w.grownBy ((((w.setCell ⟨g, i * 2, none⟩ (.int .i64 q.1)).setCell ⟨g, i * 2 + 1, none⟩ (.int .i64 q.2)).setCell ⟨g, j * 2, none⟩ (.int .i64 p.1)).setCell ⟨g, j * 2 + 1, none⟩ (.int .i64 p.2)) (some g)) := Lib.hid (by
    have h3 := h1'.set hne j p
    rw [List.length_set] at h3
    exact ⟨h3, wrote2 w g i j q p⟩)
  unfold ptrH
  clear h hi hj h1 h1' h2 hj2 hl3
  go_enter Try.func62, Try.ntmps62
  go_wp2_with fail
  have c0a : (w.setCell ⟨g, i * 2, none⟩ (.int .i64 q.1)).cell? ⟨H, 0, none⟩ = some (.slice (some ⟨g, 0, none⟩) L.length cap) := (cell?_setCell_ne _ _ _ _ (fun e => hne e.symm)).trans c0
  have c0b : ((w.setCell ⟨g, i * 2, none⟩ (.int .i64 q.1)).setCell ⟨g, i * 2 + 1, none⟩ (.int .i64 q.2)).cell? ⟨H, 0, none⟩ = some (.slice (some ⟨g, 0, none⟩) L.length cap) := (cell?_setCell_ne _ _ _ _ (fun e => hne e.symm)).trans c0a
  go_region
  all_goals go_wp2_with fail
  all_goals exact bodyPost_end (v := .tuple #[]) (by simp [results]) rfl ⟨rfl, ⟨HR.out.1.box, HR.out.1.row⟩, HR.out.2.os, HR.out.2.tape, HR.out.2.output, HR.out.2.size, HR.out.2.block⟩

theorem perm_swap {L : List (Int × Int)} {i j : Nat} {p q : Int × Int} (hi : L[i]? = some p) (hj : L[j]? = some q) : ((L.set i q).set j p).Perm L := by
  obtain ⟨h1, rfl⟩ := List.getElem?_eq_some_iff.1 hi
  obtain ⟨h2, rfl⟩ := List.getElem?_eq_some_iff.1 hj
  exact List.set_set_perm h1 h2
theorem half_nat {k : Nat} (h : 0 < k) : Int.tdiv ((k : Int) - 1) 2 = (((k - 1) / 2 : Nat) : Int) := by
  rw [show (k : Int) - 1 = ((k - 1 : Nat) : Int) by omega]
  exact Int.ofNat_tdiv (k - 1) 2
theorem Try.infoRanked : (Try.prog.info? 95).map (fun i => (i.zero, i.size, i.bytes)) = some (some (.agg #[.int .i64 0, .int .i64 0]), 2, 16) := by kernel_rfl
theorem pair_newd (w : World) (a b : Int) (t : TypeId) : ∀ j u, [Value.int .i64 a, Value.int .i64 b][j]? = some u → (w.alloc (.cells #[.int .i64 a, .int .i64 b] t)).cell? ((⟨w.heap.size, 0, none⟩ : Addr).add j) = some u := by
  intro j u h
  have hadd : (⟨w.heap.size, 0, none⟩ : Addr).add j = ⟨w.heap.size, j, none⟩ := by unfold Addr.add; split <;> simp_all
  rw [hadd, World.cell?_alloc_mark]
  simpa using h

theorem Bag.pushed {B H : Nat} {w w3 : World} {v v' : Value} {L : List (Int × Int)} {r x : Int} (h : Bag B H w v L) (o : Obj) (hown : w3.ownsRow B 95 2 v' (L.length + 1) (flatR L ++ [.int .i64 r, .int .i64 x])) (hg : (w.alloc o).grownBy w3 v.ownBlock) :
    w3.cell? ⟨H, 0, none⟩ = some v ∧ w3.frozen? ⟨H, 0, none⟩ = false ∧ Bag B H (w3.setCell ⟨H, 0, none⟩ v') v' (L ++ [(r, x)]) ∧ Heaped B H w (w3.setCell ⟨H, 0, none⟩ v') ∧ ∃ g' cap', v' = .slice (some ⟨g', 0, none⟩) (L.length + 1) cap' := by
  have hlt := h.lt
  have hb3 : w3.heap[H]? = some (heapB v) := (hg.block H (by simp; omega) h.apart).trans ((Below.heap_alloc w o H hlt).trans h.box)
  have hrow3 : w3.ownsRow B 95 2 v' (L ++ [(r, x)]).length (flatR (L ++ [(r, x)])) := by
    rw [List.length_append, flatR_app]
    exact hown
  obtain ⟨h1, h2⟩ := Bag.stored hb3 hrow3
  refine ⟨box_cell hb3 rfl, frozen_of_row w3 H 0 _ _ hb3, h1, ?_, ?_⟩
  · have h3 := h.heaped (v := v) ((World.grownBy_alloc w o v.ownBlock).trans hg)
    exact h3.trans ⟨h2.os, h2.tape, h2.output, h2.size, fun k hk hne _ => h2.block k hk (fun e => hne (Option.some.inj e))⟩
  · rcases hown.2 with ⟨_, h0⟩ | ⟨g, cap, cur, rfl, _⟩
    · omega
    · exact ⟨g, cap, rfl⟩

theorem implPut (B H : Nat) (v : Value) (L : List (Int × Int)) (r x : Int) (hBH : B ≤ H) (hL : L.length ≤ 5000000000000) (w : World) (h : Bag B H w v L) :
    Calls Try.prog 52 #[ptrH H, .int .i64 r, .int .i64 x] w fun e w' => e = .returned (.tuple #[]) ∧ (∃ v' L', Bag B H w' v' L' ∧ L'.Perm (L ++ [(r, x)])) ∧ Heaped B H w w' := by
  obtain ⟨i0, hi, hz0, hz1, hz2⟩ := info_parts Try.infoRanked
  have c0 := h.cell
  have hlt := h.lt
  have HB := Lib.hid h
  have hrow := h.row
  clear h
  unfold ptrH
  go_enter Try.func52, Try.ntmps52
  go_wp2_with (at_builtin; refine wpList_append_own_at _ rfl _ _ 81 rfl B 95 i0 (.agg #[.int .i64 0, .int .i64 0]) 2 16 Try.underlying81 hi hz0 hz1 hz2 rfl (by decide) _ _ _ rfl (hrow.alloc _) ⟨w.heap.size, 0, none⟩ 1 1 [.int .i64 r, .int .i64 x] rfl rfl (pair_newd _ _ _ _) (by simp [Value.oneCell']) (by unfold maxLen; omega) (by omega) (by simp; omega) ?_; intro v' w3 hown2 hgrow _ _; obtain ⟨k0, f0, hb5, hh5, g', cap', rfl⟩ := HB.out.pushed _ hown2 hgrow; have HB5 := Lib.hid hb5; have HH5 := Lib.hid hh5; have k1 := hb5.cell; clear hown2 hgrow hb5 hh5)
  generalize w3.setCell ⟨H, 0, none⟩ (.slice (some ⟨g', 0, none⟩) (L.length + 1) cap') = w5 at HB5 HH5 k1 ⊢
  go_loopw [6] (fun i wr => ∃ (k : Nat) (L' : List (Int × Int)), i = .int .i64 k ∧ k < L'.length ∧ L'.length = L.length + 1 ∧ Bag B H wr (.slice (some ⟨g', 0, none⟩) (L.length + 1) cap') L' ∧ L'.Perm (L ++ [(r, x)]) ∧ Heaped B H w wr) (fun i _ => (intOf i).toNat)
  case atStart => exact ⟨L.length, _, by go_num, by simp, by simp, HB5.out, .refl _, HH5.out⟩
  case round =>
    obtain ⟨k, L', rfl, hk, hl, hb, hp, hh⟩ := hrel
    have HBr := Lib.hid hb
    have HPr := Lib.hid hp
    have HHr := Lib.hid hh
    clear hb hp hh HB5 HH5 k0 k1 f0 HB hrow c0
    by_cases h0 : k = 0
    · subst h0
      go_wp2_with fail
      exact bodyPost_end (v := .tuple #[]) (by simp [results]) rfl ⟨rfl, ⟨_, _, HBr.out, HPr.out⟩, HHr.out⟩
    · have h1 : 0 < (k : Int) := by omega
      have e1 : IntKind.i64.wrap ((k : Int) - 1) = (k : Int) - 1 := IntWalk.i64_in _ (by omega)
      have e2 : IntKind.i64.wrap (Int.tdiv ((k : Int) - 1) 2) = (((k - 1) / 2 : Nat) : Int) := by
        rw [half_nat (by omega)]
        exact IntWalk.i64_in _ (by omega)
      have hm : (k - 1) / 2 < L'.length := by omega
      obtain ⟨p, hp⟩ : ∃ p, L'[k]? = some p := ⟨_, List.getElem?_eq_getElem hk⟩
      obtain ⟨q, hq⟩ : ∃ q, L'[(k - 1) / 2]? = some q := ⟨_, List.getElem?_eq_getElem hm⟩
      have HP := Lib.hid hp
      have HQ := Lib.hid hq
      clear hp hq
      by_cases hc : p.1 < q.1
      · have hd : decide (p.1 < q.1) = true := decide_eq_true hc
        go_wp2_with (first | (go_at_call 61; refine (implLess B H k ((k - 1) / 2) _ L' p q HP.out HQ.out _ HBr.out).mono ?_; rintro e w6 ⟨rfl, hb6, hg6⟩; have HB6 := Lib.hid hb6; have HG6 := Lib.hid hg6; clear hb6 hg6) | (go_at_call 62; refine (implSwap B H k ((k - 1) / 2) _ L' p q HP.out HQ.out _ HB6.out).mono ?_; rintro e w7 ⟨rfl, hb7, hg7⟩; have HB7 := Lib.hid hb7; have HG7 := Lib.hid hg7; clear hb7 hg7))
        go_roundw
        case rel => exact ⟨(k - 1) / 2, _, by go_num, by rw [List.length_set, List.length_set]; exact hm, by rw [List.length_set, List.length_set]; exact hl, HB7.out, (perm_swap HP.out HQ.out).trans HPr.out, (HHr.out.trans (HBr.out.heaped HG6.out)).trans (HB6.out.heaped HG7.out)⟩
        case measure => simp [intOf]; omega
      · have hd : decide (p.1 < q.1) = false := decide_eq_false hc
        go_wp2_with (go_at_call 61; refine (implLess B H k ((k - 1) / 2) _ L' p q HP.out HQ.out _ HBr.out).mono ?_; rintro e w6 ⟨rfl, hb6, hg6⟩; have HB6 := Lib.hid hb6; have HG6 := Lib.hid hg6; clear hb6 hg6)
        exact bodyPost_end (v := .tuple #[]) (by simp [results]) rfl ⟨rfl, ⟨_, _, HB6.out, HPr.out⟩, HHr.out.trans (HBr.out.heaped HG6.out)⟩

theorem Bag.cut {B H g cap : Nat} {w : World} {L : List (Int × Int)} {p : Int × Int} (hb : w.heap[H]? = some (heapB (.slice (some ⟨g, 0, none⟩) (L.length + 1) cap))) (hr : w.ownsRow B 95 2 (.slice (some ⟨g, 0, none⟩) (L.length + 1) cap) (L.length + 1) (flatR (L ++ [p]))) :
    Bag B H (w.setCell ⟨H, 0, none⟩ (.slice (some ⟨g, 0, none⟩) L.length cap)) (.slice (some ⟨g, 0, none⟩) L.length cap) L ∧ w.grownBy (w.setCell ⟨H, 0, none⟩ (.slice (some ⟨g, 0, none⟩) L.length cap)) (some H) := by
  rw [flatR_app] at hr
  exact Bag.stored hb (ownsRow_pop (flatR_len L) hr)

theorem set_last {K : List (Int × Int)} {m : Nat} (p : Int × Int) (h : K.length = m + 1) : K.set m p = (K.take m) ++ [p] := by
  apply List.ext_getElem?
  intro j
  rw [List.getElem?_set]
  rcases Nat.lt_trichotomy j m with hj | rfl | hj
  · rw [if_neg (by omega), List.getElem?_append_left (by rw [List.length_take]; omega), List.getElem?_take, if_pos hj]
  · rw [if_pos rfl, if_pos (by omega), List.getElem?_append_right (by rw [List.length_take]; omega), List.length_take, show j - min j K.length = 0 by omega]
    rfl
  · rw [if_neg (by omega), List.getElem?_eq_none_iff.2 (by omega), List.getElem?_eq_none_iff.2 (by rw [List.length_append, List.length_take]; simp; omega)]

set_option maxHeartbeats 1000000 in
theorem implHTake (B H : Nat) (v : Value) (L : List (Int × Int)) (p0 : Int × Int) (hp0 : L[0]? = some p0) (hL : L.length ≤ 5000000000001) (w : World) (h : Bag B H w v L) :
    Calls Try.prog 54 #[ptrH H] w fun e w' => e = .returned (.tuple #[.int .i64 p0.1, .int .i64 p0.2]) ∧ (∃ v' L', Bag B H w' v' L' ∧ L.Perm (p0 :: L')) ∧ Heaped B H w w' := by
  have hl0 := (List.getElem?_eq_some_iff.1 hp0).1
  obtain ⟨g, cap, rfl, hne, hcap⟩ := h.form hl0
  have c0 := h.cell
  have hlt := h.lt
  obtain ⟨c1, c2⟩ := h.at hp0
  have hgl := (h.row.lt g rfl).2
  obtain ⟨m, hm⟩ : ∃ m, L.length = m + 1 := ⟨L.length - 1, by omega⟩
  have e1 : IntKind.i64.wrap ((L.length : Int) - 1) = (m : Int) := by
    rw [show (L.length : Int) - 1 = (m : Int) by omega]
    exact IntWalk.i64_in _ (by omega)
  obtain ⟨pl, hpl⟩ : ∃ pl, L[m]? = some pl := ⟨_, List.getElem?_eq_getElem (by omega)⟩
  have hmc : (m : Int) ≤ (cap : Int) := by omega
  have hc0 : ¬ cap = 0 := by omega
  have HPL := Lib.hid hpl
  have HM := Lib.hid hm
  clear hpl hm
  have HB := Lib.hid h
  have HP0 := Lib.hid hp0
  clear h hp0
  unfold ptrH
  have i1 : 0 < (L.length : Int) := by omega
  go_enter Try.func54, Try.ntmps54
  go_wp2_with fail
  go_region
  have hba : Bag B H (w.alloc (.cells #[.int .i64 p0.1, .int .i64 p0.2] 95)).drew (.slice (some ⟨g, 0, none⟩) L.length cap) L := ⟨(Below.heap_alloc w _ H hlt).trans HB.out.box, (HB.out.row.alloc _).drew⟩
  have hqa : (w.alloc (.cells #[.int .i64 p0.1, .int .i64 p0.2] 95)).drew.heap[w.heap.size]? = some (.cells #[.int .i64 p0.1, .int .i64 p0.2] 95) := heap_alloc_new w _
  have hha : Heaped B H w (w.alloc (.cells #[.int .i64 p0.1, .int .i64 p0.2] 95)).drew := ⟨rfl, rfl, rfl, by simp [World.drew], fun k hk _ _ => Below.heap_alloc w _ k hk⟩
  have HBa := Lib.hid hba
  have HQa := Lib.hid hqa
  have HHa := Lib.hid hha
  clear hba hqa hha c0 c1 c2
  generalize (w.alloc (.cells #[.int .i64 p0.1, .int .i64 p0.2] 95)).drew = wa at HBa HQa HHa ⊢
  go_wp2_with (go_at_call 62; refine (implSwap B H 0 m _ L p0 pl HP0.out HPL.out _ HBa.out).mono ?_; rintro e wb ⟨rfl, hb2, hg2⟩; have k0 := hb2.cell; have kf := hb2.frozen; have HB2 := Lib.hid hb2; have HG2 := Lib.hid hg2; clear hb2 hg2)
  have hl1 : (L.set 0 pl).length = m + 1 := by rw [List.length_set, HM.out]
  have hL3 := set_last p0 hl1
  have hl3 : ((L.set 0 pl).take m).length = m := by rw [List.length_take, hl1]; omega
  have hPm : ((L.set 0 pl).take m ++ [p0]).Perm L := by
    rw [← hL3]
    exact perm_swap HP0.out HPL.out
  have hcut : Bag B H (wb.setCell ⟨H, 0, none⟩ (.slice (some ⟨g, 0, none⟩) m cap)) (.slice (some ⟨g, 0, none⟩) m cap) ((L.set 0 pl).take m) ∧ wb.grownBy (wb.setCell ⟨H, 0, none⟩ (.slice (some ⟨g, 0, none⟩) m cap)) (some H) := by
    have h1 := HB2.out.box
    have h2 := HB2.out.row
    rw [hL3, List.length_append, hl3] at h2
    rw [HM.out] at h1 h2
    have := Bag.cut (p := p0) (L := (L.set 0 pl).take m) (cap := cap) (g := g) (w := wb) (H := H) (B := B) (by rw [hl3]; exact h1) (by rw [hl3]; exact h2)
    rw [hl3] at this
    exact this
  generalize (L.set 0 pl).take m = L3 at hL3 hl3 hPm hcut
  generalize wb.setCell ⟨H, 0, none⟩ (.slice (some ⟨g, 0, none⟩) m cap) = wc at hcut ⊢
  have hqc : wc.heap[w.heap.size]? = some (.cells #[.int .i64 p0.1, .int .i64 p0.2] 95) := by
    have q1 := (Array.getElem?_eq_some_iff.1 HQa.out).1
    have q2 := (HG2.out.block _ q1 (fun e => by have e : w.heap.size = g := by simpa [Value.ownBlock] using e
                                                omega)).trans HQa.out
    exact (hcut.2.block _ (Nat.lt_of_lt_of_le q1 HG2.out.size) (fun e => by have e := Option.some.inj e; omega)).trans q2
  have hhc : Heaped B H w wc := (HHa.out.trans (HBa.out.heaped HG2.out)).trans ⟨hcut.2.os, hcut.2.tape, hcut.2.output, hcut.2.size, fun k hk hne _ => hcut.2.block k hk (fun e => hne (Option.some.inj e))⟩
  have HBc := Lib.hid hcut.1
  have HQc := Lib.hid hqc
  have HHc := Lib.hid hhc
  have HPm := Lib.hid hPm
  have HL3 := Lib.hid hl3
  have hmb : m ≤ 5000000000000 := by have := HM.out; omega
  clear hl1 hL3 hl3 hPm hcut hqc hhc k0 kf HB2 HG2 HBa HQa HHa HB HPL HP0 e1 hmc hc0 hcap i1 hl0 hlt hL
  have hgq : g ≠ w.heap.size := by omega
  clear hgl
  generalize w.heap.size = q0 at HQc hgq ⊢
  go_loopw [6] (fun i wr => ∃ (k : Nat) (L' : List (Int × Int)), i = .int .i64 k ∧ (k < m ∨ k = 0) ∧ L'.length = m ∧ Bag B H wr (.slice (some ⟨g, 0, none⟩) m cap) L' ∧ L'.Perm L3 ∧ wr.heap[q0]? = some (.cells #[.int .i64 p0.1, .int .i64 p0.2] 95) ∧ Heaped B H w wr) (fun i _ => m - (intOf i).toNat)
  case atStart => exact ⟨0, L3, rfl, .inr rfl, HL3.out, HBc.out, .refl _, HQc.out, HHc.out⟩
  case round =>
    clear HBc HQc HHc
    obtain ⟨k, L', rfl, hk, hl, hb, hp, hq, hh⟩ := hrel
    have HL := Lib.hid hl
    have HBr := Lib.hid hb
    have HPr := Lib.hid hp
    have HQr := Lib.hid hq
    have HHr := Lib.hid hh
    clear hl hb hp hq hh
    have w1 : IntKind.i64.wrap (2 * (k : Int)) = 2 * (k : Int) := IntWalk.i64_in _ (by omega)
    have w2 : IntKind.i64.wrap (2 * (k : Int) + 1) = 2 * (k : Int) + 1 := IntWalk.i64_in _ (by omega)
    have w3 : IntKind.i64.wrap (2 * (k : Int) + 2) = 2 * (k : Int) + 2 := IntWalk.i64_in _ (by omega)
    go_wp2_with fail
    go_loopw [7, 8] (fun l c ws => ∃ (j c' : Nat), l = .int .i64 j ∧ c = .int .i64 c' ∧ 2 * k + 1 ≤ c' ∧ c' ≤ 2 * k + 3 ∧ (j = k ∨ (2 * k + 1 ≤ j ∧ j < m)) ∧ Bag B H ws (.slice (some ⟨g, 0, none⟩) m cap) L' ∧ ws.heap[q0]? = some (.cells #[.int .i64 p0.1, .int .i64 p0.2] 95) ∧ Heaped B H w ws) (fun _ c _ => 2 * k + 3 - (intOf c).toNat)
    case atStart => exact ⟨k, 2 * k + 1, rfl, by go_num, by omega, by omega, .inl rfl, HBr.out, HQr.out, HHr.out⟩
    case round =>
      clear HBr HQr HHr
      obtain ⟨j, c, rfl, rfl, hc1, hc2, hj, hb, hq, hh⟩ := hrel
      have HBr := Lib.hid hb
      have HQr := Lib.hid hq
      have HHr := Lib.hid hh
      clear hb hq hh
      by_cases hcm : c ≤ 2 * k + 2 ∧ c < m
      · obtain ⟨hca, hcb⟩ := hcm
        have d1 : (c : Int) ≤ 2 * (k : Int) + 2 := by omega
        have d2 : (c : Int) < (m : Int) := by omega
        have hjm : j < m := by omega
        obtain ⟨p, hp⟩ : ∃ p, L'[c]? = some p := ⟨_, List.getElem?_eq_getElem (by rw [HL.out]; exact hcb)⟩
        obtain ⟨q, hq⟩ : ∃ q, L'[j]? = some q := ⟨_, List.getElem?_eq_getElem (by rw [HL.out]; exact hjm)⟩
        have HP := Lib.hid hp
        have HQ := Lib.hid hq
        clear hp hq
        have w4 : IntKind.i64.wrap ((c : Int) + 1) = (c : Int) + 1 := IntWalk.i64_in _ (by omega)
        have hg0 : ∀ {wx wy : World}, Bag B H wx (.slice (some ⟨g, 0, none⟩) m cap) L' → wx.grownBy wy (Value.slice (some ⟨g, 0, none⟩) m cap).ownBlock → wx.heap[q0]? = some (.cells #[.int .i64 p0.1, .int .i64 p0.2] 95) → wy.heap[q0]? = some (.cells #[.int .i64 p0.1, .int .i64 p0.2] 95)  := fun {wx wy} hbx hgx hqx => (hgx.block q0 (Array.getElem?_eq_some_iff.1 hqx).1 (fun e => hgq (by simpa [Value.ownBlock] using e.symm))).trans hqx
        cases hd : decide (p.1 < q.1) with
        | true =>
          go_wp2_with (go_at_call 61; refine (implLess B H c j _ L' p q HP.out HQ.out _ HBr.out).mono ?_; rintro e w6 ⟨rfl, hb6, hg6⟩; have HB6 := Lib.hid hb6; have HG6 := Lib.hid hg6; clear hb6 hg6)
          go_roundw
          case rel => exact ⟨c, c + 1, rfl, by go_num, by omega, by omega, .inr ⟨hc1, hcb⟩, HB6.out, hg0 HBr.out HG6.out HQr.out, HHr.out.trans (HBr.out.heaped HG6.out)⟩
          case measure => simp [intOf]; omega
        | false =>
          go_wp2_with (go_at_call 61; refine (implLess B H c j _ L' p q HP.out HQ.out _ HBr.out).mono ?_; rintro e w6 ⟨rfl, hb6, hg6⟩; have HB6 := Lib.hid hb6; have HG6 := Lib.hid hg6; clear hb6 hg6)
          go_roundw
          case rel => exact ⟨j, c + 1, rfl, by go_num, by omega, by omega, hj, HB6.out, hg0 HBr.out HG6.out HQr.out, HHr.out.trans (HBr.out.heaped HG6.out)⟩
          case measure => simp [intOf]; omega
      · have hstop : ¬ (c : Int) ≤ 2 * (k : Int) + 2 ∨ ((c : Int) ≤ 2 * (k : Int) + 2 ∧ ¬ (c : Int) < (m : Int)) := by omega
        clear hcm
        have HC := Lib.hid (And.intro hc1 hc2)
        have HJ := Lib.hid hj
        have HK := Lib.hid hk
        clear hc1 hc2 hj hk
        rcases hstop with d1 | ⟨d1, d2⟩
        · by_cases hjk : j = k
          · subst hjk
            have k1 : wr.cell? ⟨q0, 0, none⟩ = some (.int .i64 p0.1) := box_cell HQr.out rfl
            have k2 : wr.cell? ⟨q0, 1, none⟩ = some (.int .i64 p0.2) := box_cell HQr.out rfl
            go_wp2_with fail
            go_quiet (fail)
            go_wp2_with fail
            go_ret2
            exact ⟨rfl, ⟨_, L', ⟨HBr.out.box, HBr.out.row⟩, (HPm.out.symm.trans (List.perm_append_comm.trans (List.Perm.cons p0 HPr.out.symm)))⟩, ⟨HHr.out.os, HHr.out.tape, HHr.out.output, HHr.out.size, HHr.out.block⟩⟩
          · have e1 : ((j : Int) == (k : Int)) = false := by simpa using (fun e => hjk (by omega))
            have hjm : j < m := by rcases HJ.out with h | h <;> omega
            have hkj : k < j := by rcases HJ.out with h | h <;> omega
            obtain ⟨p, hp⟩ : ∃ p, L'[k]? = some p := ⟨_, List.getElem?_eq_getElem (by rw [HL.out]; omega)⟩
            obtain ⟨q, hq⟩ : ∃ q, L'[j]? = some q := ⟨_, List.getElem?_eq_getElem (by rw [HL.out]; omega)⟩
            have HP := Lib.hid hp
            have HQ := Lib.hid hq
            have HJM := Lib.hid hjm
            have HKJ := Lib.hid hkj
            clear hp hq hjm hkj
            go_wp2_with (go_at_call 62; refine (implSwap B H k j _ L' p q HP.out HQ.out _ HBr.out).mono ?_; rintro e w7 ⟨rfl, hb7, hg7⟩; have HB7 := Lib.hid hb7; have HG7 := Lib.hid hg7; clear hb7 hg7)
            go_roundw
            case rel => exact ⟨j, _, rfl, .inl HJM.out, by rw [List.length_set, List.length_set]; exact HL.out, HB7.out, (perm_swap HP.out HQ.out).trans HPr.out, (HG7.out.block q0 (Array.getElem?_eq_some_iff.1 HQr.out).1 (fun e => hgq (by simpa [Value.ownBlock] using e.symm))).trans HQr.out, HHr.out.trans (HBr.out.heaped HG7.out)⟩
            case measure => have := HJM.out; have := HKJ.out; simp [intOf]; omega
        · by_cases hjk : j = k
          · subst hjk
            have k1 : wr.cell? ⟨q0, 0, none⟩ = some (.int .i64 p0.1) := box_cell HQr.out rfl
            have k2 : wr.cell? ⟨q0, 1, none⟩ = some (.int .i64 p0.2) := box_cell HQr.out rfl
            go_wp2_with fail
            go_quiet (fail)
            go_wp2_with fail
            go_ret2
            exact ⟨rfl, ⟨_, L', ⟨HBr.out.box, HBr.out.row⟩, (HPm.out.symm.trans (List.perm_append_comm.trans (List.Perm.cons p0 HPr.out.symm)))⟩, ⟨HHr.out.os, HHr.out.tape, HHr.out.output, HHr.out.size, HHr.out.block⟩⟩
          · have e1 : ((j : Int) == (k : Int)) = false := by simpa using (fun e => hjk (by omega))
            have hjm : j < m := by rcases HJ.out with h | h <;> omega
            have hkj : k < j := by rcases HJ.out with h | h <;> omega
            obtain ⟨p, hp⟩ : ∃ p, L'[k]? = some p := ⟨_, List.getElem?_eq_getElem (by rw [HL.out]; omega)⟩
            obtain ⟨q, hq⟩ : ∃ q, L'[j]? = some q := ⟨_, List.getElem?_eq_getElem (by rw [HL.out]; omega)⟩
            have HP := Lib.hid hp
            have HQ := Lib.hid hq
            have HJM := Lib.hid hjm
            have HKJ := Lib.hid hkj
            clear hp hq hjm hkj
            go_wp2_with (go_at_call 62; refine (implSwap B H k j _ L' p q HP.out HQ.out _ HBr.out).mono ?_; rintro e w7 ⟨rfl, hb7, hg7⟩; have HB7 := Lib.hid hb7; have HG7 := Lib.hid hg7; clear hb7 hg7)
            go_roundw
            case rel => exact ⟨j, _, rfl, .inl HJM.out, by rw [List.length_set, List.length_set]; exact HL.out, HB7.out, (perm_swap HP.out HQ.out).trans HPr.out, (HG7.out.block q0 (Array.getElem?_eq_some_iff.1 HQr.out).1 (fun e => hgq (by simpa [Value.ownBlock] using e.symm))).trans HQr.out, HHr.out.trans (HBr.out.heaped HG7.out)⟩
            case measure => have := HJM.out; have := HKJ.out; simp [intOf]; omega

end Go.Proofs.Ytobflidianlomaa
