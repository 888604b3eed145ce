/-
  CONTRACT on the program's rowsOf: the rows of a valid map, or eight empty rows and false. No law is proved here.
  The rows of a grid in memory; a grid's box. No law is proved here.
  What a cell of a grid is, and what stands at it. No law is proved here.
-/
import Derived.Test.YtkbfbifepaoojaaGreatDoorZPU04
import Derived.Laws.Rows
import Derived.Laws.Tables
namespace Go.Proofs.YtkbfbifepaoojaaGreatDoor
set_option maxRecDepth 4096
open Go.ChangeShapes Go.WideShapes Go.ChangeAt Go.RowKit

def noRows : Array Value := #[.string ⟨#[]⟩, .string ⟨#[]⟩, .string ⟨#[]⟩, .string ⟨#[]⟩, .string ⟨#[]⟩, .string ⟨#[]⟩, .string ⟨#[]⟩, .string ⟨#[]⟩]
/-- Row y of a map of a columns. -/
def rowT (C : ByteArray) (a y : Nat) : ByteArray := C.extract (y * a) ((y + 1) * a)
/-- The rows below k, and empty texts from k on. -/
def rowsV (C : ByteArray) (a k : Nat) : Array Value := Array.ofFn (n := 8) fun i => if i.val < k then .string (rowT C a i.val) else .string ⟨#[]⟩

theorem rowsV_size (C : ByteArray) (a k : Nat) : (rowsV C a k).size = 8 := by simp [rowsV]
theorem rowsV_zero (C : ByteArray) (a : Nat) : rowsV C a 0 = noRows := by rfl
theorem rowsV_set (C : ByteArray) (a k : Nat) (hk : k < 8) : (rowsV C a k).setIfInBounds k (.string (rowT C a k)) = rowsV C a (k + 1) := by
  apply Array.ext_getElem?
  intro i
  rw [Array.getElem?_setIfInBounds, rowsV_size]
  by_cases h : k = i
  · subst h
    simp [rowsV, hk]
  · rw [if_neg h]
    by_cases h8 : i < 8
    · by_cases h3 : i < k
      · simp [rowsV, h8, h3, show i < k + 1 from by omega]
      · simp [rowsV, h8, h3, show ¬ i < k + 1 from by omega]
    · simp [rowsV, h8]
theorem rowsV_at (C : ByteArray) (a k y : Nat) (hy : y < k) (hk : k ≤ 8) : (rowsV C a k)[y]? = some (.string (rowT C a y)) := by
  simp [rowsV, hy, show y < 8 from by omega]

theorem row_size (C : ByteArray) (a y : Nat) (h : (y + 1) * a ≤ C.size) : (rowT C a y).size = a := by
  unfold rowT
  rw [ByteArray.size_extract, Nat.min_eq_left h, Nat.add_mul]
  omega
theorem row_byte (C : ByteArray) (a y j : Nat) (_h : (y + 1) * a ≤ C.size) (hj : j < a) : byteAt (rowT C a y) j = byteAt C (y * a + j) := by
  have h1 : (y + 1) * a = y * a + a := by rw [Nat.add_mul, Nat.one_mul]
  unfold byteAt rowT
  rw [ByteArray.data_extract, Array.toList_extract, List.extract_eq_take_drop]
  simp only [List.getD_eq_getElem?_getD]
  rw [List.getElem?_take, if_pos (by omega), List.getElem?_drop]
theorem kinds_row {C : ByteArray} {a y : Nat} (h : (y + 1) * a ≤ C.size) (hk : Kinds C (y * a)) (hr : Kinds (rowT C a y) (rowT C a y).size) : Kinds C ((y + 1) * a) := by
  have h1 : (y + 1) * a = y * a + a := by rw [Nat.add_mul, Nat.one_mul]
  intro j hj
  rcases Nat.lt_or_ge j (y * a) with h2 | h2
  · exact hk j h2
  · have := hr (j - y * a) (by rw [row_size C a y h]; omega)
    rw [row_byte C a y _ h (by omega), show y * a + (j - y * a) = j from by omega] at this
    exact this
theorem kinds_row_no {C : ByteArray} {a y : Nat} (h : (y + 1) * a ≤ C.size) (hr : ¬ Kinds (rowT C a y) (rowT C a y).size) : ¬ Kinds C C.size := by
  have h1 : (y + 1) * a = y * a + a := by rw [Nat.add_mul, Nat.one_mul]
  intro hk
  apply hr
  intro j hj
  rw [row_size C a y h] at hj
  rw [row_byte C a y _ h hj]
  exact hk _ (by omega)

/-- What rowsOf gives back. -/
noncomputable def rowsR (W H : Int) (C : ByteArray) : Array Value := if gok W H C = true then rowsV C W.toNat H.toNat else noRows
/-- The outcome of rowsOf. -/
def RowsOf (W H : Int) (C : ByteArray) (w : World) (e : Ending) (w' : World) : Prop := e = .returned (.tuple #[.agg (rowsR W H C), .bool (gok W H C)]) ∧ Below w.heap.size w w'
def RowsB (R : Array Value) (b : Bool) (w : World) (e : Ending) (w' : World) : Prop := e = .returned (.tuple #[.agg R, .bool b]) ∧ Below w.heap.size w w'

theorem rowsOf_no {W H : Int} {C : ByteArray} {w w' : World} {e : Ending} (hn : gok W H C = false) (h : RowsB noRows false w e w') : RowsOf W H C w e w' := by
  unfold RowsOf rowsR
  rw [hn]
  exact h

theorem rowsOf_w (W H : Int) (C : ByteArray) (hw : ¬ (1 ≤ W ∧ W ≤ 8)) (w : World) :
    Calls Tryz.prog 118 #[.agg #[.int .i64 W, .int .i64 H, .string C]] w (RowsB noRows false w) := by
  go_enter Tryz.func118, Tryz.ntmps118
  go_wp2_with (go_at_call 136; (with_reducible refine (sideNo _ (by assumption) _).mono ?_); rintro e w' ⟨rfl, rfl⟩)
  exact bodyPost_ret (v := .tuple #[.agg noRows, .bool false]) (by simp [results, Tryz.results118, go_sem, noRows]) rfl ⟨rfl, ((Below.refl _ _).alloc (Nat.le_refl _) _).alloc (by simp) _⟩

theorem rowsOf_h (W H : Int) (C : ByteArray) (h1 : 1 ≤ W) (h2 : W ≤ 8) (hw : ¬ (1 ≤ H ∧ H ≤ 8)) (w : World) :
    Calls Tryz.prog 118 #[.agg #[.int .i64 W, .int .i64 H, .string C]] w (RowsB noRows false w) := by
  go_enter Tryz.func118, Tryz.ntmps118
  go_wp2_with (first
    | (go_at_call 136; (with_reducible refine (sideYes _ h1 h2 _).mono ?_); rintro e w' ⟨rfl, rfl⟩)
    | (go_at_call 136; (with_reducible refine (sideNo _ hw _).mono ?_); rintro e w' ⟨rfl, rfl⟩))
  exact bodyPost_ret (v := .tuple #[.agg noRows, .bool false]) (by simp [results, Tryz.results118, go_sem, noRows]) rfl ⟨rfl, ((Below.refl _ _).alloc (Nat.le_refl _) _).alloc (by simp) _⟩

theorem rowsOf_s (W H : Int) (C : ByteArray) (_hC : C.size ≤ 1048576) (h1 : 1 ≤ W) (h2 : W ≤ 8) (h3 : 1 ≤ H) (h4 : H ≤ 8) (hs : ¬ (C.size : Int) = W * H) (w : World) :
    Calls Tryz.prog 118 #[.agg #[.int .i64 W, .int .i64 H, .string C]] w (RowsB noRows false w) := by
  obtain ⟨hm1, hm2⟩ := mul_bd h1 h2 h3 h4
  go_enter Tryz.func118, Tryz.ntmps118
  go_wp2_with (first
    | (go_at_call 136; (with_reducible refine (sideYes _ h1 h2 _).mono ?_); rintro e w' ⟨rfl, rfl⟩)
    | (go_at_call 136; (with_reducible refine (sideYes _ h3 h4 _).mono ?_); rintro e w' ⟨rfl, rfl⟩))
  exact bodyPost_ret (v := .tuple #[.agg noRows, .bool false]) (by simp [results, Tryz.results118, go_sem, noRows]) rfl ⟨rfl, ((Below.refl _ _).alloc (Nat.le_refl _) _).alloc (by simp) _⟩

theorem out_eq {R S : Array Value} {b c : Bool} (h : S = R) (h2 : c = b) : Ending.returned (.tuple #[.agg S, .bool c]) = .returned (.tuple #[.agg R, .bool b]) := by rw [h, h2]

/-- The world of rowsOf in its loop: the argument's box, the result's block, the rows' block, of which those below k are laid. -/
def RowsW (C : ByteArray) (a b k : Nat) (w wr : World) : Prop :=
  Below w.heap.size w wr ∧ wr.heap[w.heap.size]? = some (.cells #[.int .i64 a, .int .i64 b, .string C] 25 (0, 0)) ∧ wr.heap[w.heap.size + 1]? = some (.cells noRows 172 (0, 0)) ∧
    wr.heap[w.heap.size + 2]? = some (.cells (rowsV C a k) 172 (0, 0))

theorem rowsW_start (C : ByteArray) (a b : Nat) (w : World) : RowsW C a b 0 w (((w.alloc (.cells #[.int .i64 a, .int .i64 b, .string C] 25)).alloc (.cells noRows 172)).alloc (.cells noRows 172)) := by
  refine ⟨(((Below.refl _ _).alloc (Nat.le_refl _) _).alloc (by simp) _).alloc (by simp; omega) _, ?_, ?_, ?_⟩
  · rw [heap_alloc_old _ _ (by simp; omega), heap_alloc_old _ _ (by simp), heap_alloc_new]
  · rw [heap_alloc_old _ _ (by simp)]
    exact heap_alloc2_new w _ _
  · rw [rowsV_zero]
    have := heap_alloc_new ((w.alloc (.cells #[.int .i64 a, .int .i64 b, .string C] 25)).alloc (.cells noRows 172)) (.cells noRows 172)
    simpa using this
theorem rowsW_cells {C : ByteArray} {a b k : Nat} {w wr : World} (h : RowsW C a b k w wr) : wr.cell? ⟨w.heap.size, 0, none⟩ = some (.int .i64 a) ∧ wr.cell? ⟨w.heap.size, 1, none⟩ = some (.int .i64 b) ∧ wr.cell? ⟨w.heap.size, 2, none⟩ = some (.string C) := by
  refine ⟨?_, ?_, ?_⟩ <;> rw [cell_of_row _ _ _ _ _ _ h.2.1] <;> rfl
theorem rowsW_store {C : ByteArray} {a b k : Nat} {w wr : World} (h : RowsW C a b k w wr) (hk : k < 8) : RowsW C a b (k + 1) w (wr.setCell ⟨w.heap.size + 2, k, none⟩ (.string (rowT C a k))) := by
  refine ⟨h.1.setCell (by simp) _, ?_, ?_, ?_⟩
  · rw [heap_setCell_other _ _ _ _ (by simp)]; exact h.2.1
  · rw [heap_setCell_other _ _ _ _ (by simp)]; exact h.2.2.1
  · rw [heap_setCell_same _ _ _ _ _ _ h.2.2.2, rowsV_set C a k hk]

theorem below_setRow {B : Nat} {a w : World} (h : Below B a w) {g : Nat} (hg : B ≤ g) (cs : Array Value) : Below B a (w.setRow g cs) :=
  ⟨h.os, h.tape, h.output, by rw [size_setRow]; exact h.size, fun k hk => (setRow_other w g k cs (by omega)).trans (h.block k hk)⟩
/-- What is read of the result's block at the end. -/
theorem load_rows (w : World) (g : Nat) (cs : Array Value) (hz : cs.size = 8) (hg : w.heap[g]? = some (.cells cs 172 (0, 0))) :
    (loadVar 172 ⟨g, 0, none⟩).run Tryz.prog w = .ok (.agg cs) w :=
  run_loadVar_row w g _ _ cs (0, 0) _ hg Tryz.underlying172 rfl (by rw [hz]; kernel_rfl)
theorem rowsV_one (C : ByteArray) (a k : Nat) : (rowsV C a k).all (·.oneCell') = true := by
  rw [Array.all_eq_true]
  intro i hi
  simp only [rowsV, Array.getElem_ofFn]
  split <;> rfl
theorem wpBuildRows {ops : Array Oper} {rest : List Oper} {o : Oper} {a : Act} {w : World} {Q : Exit → Act → World → Prop} (hg : o.guard = none) (ho : o.op = .build 172 #[])
    (h : wpList Tryz.prog ops Q rest (a.put o.dst (.agg noRows)) w) : wpList Tryz.prog ops Q (o :: rest) a w := by
  refine wpList_build hg 172 #[] ho (by kernel_rfl) ?_
  have e : ((Tryz.prog.built 172 ((#[] : Array (Nat × Operand)).map fun (i, x) => (i, a.eval x)).toList).getD #[]) = noRows := by kernel_rfl
  rw [e]
  exact h
theorem results_rows {P : Program} {fn : Func} {p t : Tmp} {ty : TypeId} (h : fn.results = #[.cell p ty, .tmp t]) (tmps : Array Value) (w : World) (g : Nat) (cs : Array Value) (v : Value)
    (hp : tmps.getD p undef = .pointer (some ⟨g, 0, none⟩)) (hv : tmps.getD t undef = v) (hl : (loadVar ty ⟨g, 0, none⟩).run P w = .ok (.agg cs) w) :
    (results fn tmps).run P w = .ok (.tuple #[.agg cs, v]) w := by
  have hp' : tmps[p]?.getD undef = .pointer (some ⟨g, 0, none⟩) := by simpa using hp
  have hv' : tmps[t]?.getD undef = v := by simpa using hv
  simp [results, h, hp', hv', asAddr, hl]
theorem noRows_one : noRows.all (·.oneCell') = true := by kernel_rfl
theorem rows_info : (Tryz.prog.info? 172).map (·.size) = some 8 := by kernel_rfl

set_option maxHeartbeats 400000 in
theorem rowsOf_k (a b : Nat) (C : ByteArray) (R : Array Value) (r : Bool) (h1 : 1 ≤ a) (h2 : a ≤ 8) (h3 : 1 ≤ b) (h4 : b ≤ 8) (hs : (C.size : Int) = (a : Int) * (b : Int)) (HK : Hid (gok a b C = r))
    (HR : Hid ((if r = true then rowsV C a b else noRows) = R)) (w : World) :
    Calls Tryz.prog 118 #[.agg #[.int .i64 a, .int .i64 b, .string C]] w (RowsB R r w) := by
  obtain ⟨hm1, hm2⟩ := mul_bd (W := a) (H := b) (by omega) (by omega) (by omega) (by omega)
  have HS : Hid (Sides a b C) := Lib.hid ⟨⟨by omega, by omega⟩, ⟨by omega, by omega⟩, hs⟩
  have hs' : (a : Int) * (b : Int) = (C.size : Int) := hs.symm
  have HN : Hid (C.size = a * b) := Lib.hid (by have : ((a * b : Nat) : Int) = (a : Int) * (b : Int) := Int.natCast_mul a b; omega)
  have hC64 : C.size ≤ 64 := by omega
  clear hs
  go_enter Tryz.func118, Tryz.ntmps118
  go_wp2_with (first
    | (go_at_call 136; (with_reducible refine (sideYes a (by omega) (by omega) _).mono ?_); rintro e w' ⟨rfl, rfl⟩)
    | (go_at_call 136; (with_reducible refine (sideYes b (by omega) (by omega) _).mono ?_); rintro e w' ⟨rfl, rfl⟩))
  go_loopw [30] (fun i wr => ∃ k : Nat, k ≤ b ∧ i = .int .i64 k ∧ RowsW C a b k w wr ∧ Hid (Kinds C (k * a))) (fun i _ => b - (intOf i).toNat)
  case atStart => exact ⟨0, Nat.zero_le _, rfl, rowsW_start C a b w, Lib.hid (fun j hj => by simp at hj)⟩
  case round =>
    obtain ⟨k, hk, rfl, hRW, HQ⟩ := hrel
    obtain ⟨c0, c1, c2⟩ := rowsW_cells hRW
    by_cases hlt : k < b
    · have hle : (k + 1) * a ≤ C.size := by rw [HN.out, Nat.mul_comm a b]; exact Nat.mul_le_mul_right a (by omega)
      obtain ⟨p, hp⟩ : ∃ p, p = k * a := ⟨_, rfl⟩
      obtain ⟨q, hq⟩ : ∃ q, q = (k + 1) * a := ⟨_, rfl⟩
      have hka : (k : Int) * (a : Int) = (p : Int) := by rw [hp, Int.natCast_mul]
      have hka1 : ((k : Int) + 1) * (a : Int) = (q : Int) := by rw [hq, Int.natCast_mul]; rfl
      have hpq : p ≤ q := by rw [hp, hq]; exact Nat.mul_le_mul_right a (by omega)
      have hqs : q ≤ C.size := by rw [hq]; exact hle
      have HT : Hid (C.extract p q = rowT C a k) := Lib.hid (by rw [hp, hq]; rfl)
      have HP := Lib.hid hp
      have HQ1 := Lib.hid hq
      have HL := Lib.hid hle
      obtain ⟨u, hu⟩ : ∃ u, (rowsV C a k)[k]? = some u := ⟨_, Array.getElem?_eq_getElem (by rw [rowsV_size]; omega)⟩
      have d1 : wr.cell? ⟨w.heap.size + 2, k, none⟩ = some u := (cell_of_row _ _ _ _ _ _ hRW.2.2.2).trans hu
      have d2 := frozen_of_row _ _ k _ _ hRW.2.2.2
      clear hp hq hle hu
      have hRW2 := rowsW_store hRW (by omega)
      have HRW2 := Lib.hid hRW2
      have HRW := Lib.hid hRW
      clear hRW hRW2
      go_wp2_with fail
      by_cases hok : kok (C.extract p q) = true
      · have hQ2 : Hid (Kinds C ((k + 1) * a)) := Lib.hid (kinds_row HL.out HQ.out (by
          have := kok_out hok
          rw [HT.out] at this
          exact this))
        refine (rowOk _ (by rw [HT.out, row_size C a k HL.out]; omega) true (Lib.hid hok) _).mono ?_
        rintro e w' ⟨rfl, rfl⟩
        clear hok
        go_wp2
        go_roundw
        case rel => exact ⟨k + 1, by omega, by go_num, by rw [HT.out]; exact HRW2.out, hQ2⟩
        case measure => simp [intOf]; omega
      · have hok2 : kok (C.extract p q) = false := by simpa using hok
        have HN2 : Hid (false = r) := Lib.hid ((gok_no (fun h => by
          have h3 := kinds_row_no HL.out (fun hh => hok (by rw [HT.out]; exact kok_yes hh))
          exact h3 h.2)).symm.trans HK.out)
        have HR2 : Hid (noRows = R) := Lib.hid (by rw [← HR.out, ← HN2.out]; rfl)
        refine (rowOk _ (by rw [HT.out, row_size C a k HL.out]; omega) false (Lib.hid hok2) _).mono ?_
        rintro e w' ⟨rfl, rfl⟩
        clear hok hok2
        have HG : Hid (RowsW C a b (k + 1) w (wr.setCell ⟨w.heap.size + 1 + 1, k, none⟩ (.string (C.extract p q)))) := Lib.hid (by rw [HT.out]; exact HRW2.out)
        clear d1 d2 c0 c1 c2 HRW2
        go_wp2_with (first | (refine wpBuildRows rfl rfl ?_) | (refine wpList_store_row rfl 172 _ _ rfl (w.heap.size + 1) noRows rfl rfl 172 noRows HG.out.2.2.1 rows_info rfl noRows_one ?_))
        have hl := load_rows _ _ noRows rfl (setRow_heap _ (w.heap.size + 1) noRows noRows _ _ HG.out.2.2.1)
        exact bodyPost_ret (v := .tuple #[.agg noRows, .bool false]) (results_rows Tryz.results118 _ _ _ _ _ rfl rfl hl) rfl ⟨out_eq HR2.out HN2.out, below_setRow HG.out.1 (by omega) _⟩
    · obtain rfl : k = b := by omega
      have HN2 : Hid (true = r) := Lib.hid ((gok_yes HS.out (by rw [HN.out, Nat.mul_comm]; exact HQ.out)).symm.trans HK.out)
      have HR2 : Hid (rowsV C a k = R) := Lib.hid (by rw [← HR.out, ← HN2.out]; rfl)
      have HRW := Lib.hid hRW
      clear hRW
      go_wp2_with (first
        | (refine wpList_load_row rfl 172 _ rfl (w.heap.size + 2) rfl 172 (rowsV C a k) (0, 0) _ HRW.out.2.2.2 Tryz.underlying172 rfl (by rw [rowsV_size]; exact rows_info) ?_)
        | (refine wpList_store_row rfl 172 _ _ rfl (w.heap.size + 1) (rowsV C a k) rfl rfl 172 noRows HRW.out.2.2.1 (by rw [rowsV_size]; exact rows_info) (by rw [rowsV_size]; rfl) (rowsV_one C a k) ?_))
      have hl := load_rows _ _ (rowsV C a k) (rowsV_size C a k) (setRow_heap _ (w.heap.size + 1) noRows (rowsV C a k) _ _ HRW.out.2.2.1)
      exact bodyPost_ret (v := .tuple #[.agg (rowsV C a k), .bool true]) (results_rows Tryz.results118 _ _ _ _ _ rfl rfl hl) rfl ⟨out_eq HR2.out HN2.out, below_setRow HRW.out.1 (by omega) _⟩

theorem rowsOf (W H : Int) (C : ByteArray) (hC : C.size ≤ 1048576) (w : World) :
    Calls Tryz.prog 118 #[.agg #[.int .i64 W, .int .i64 H, .string C]] w (RowsOf W H C w) := by
  by_cases hw : 1 ≤ W ∧ W ≤ 8
  · by_cases hh : 1 ≤ H ∧ H ≤ 8
    · by_cases hs : (C.size : Int) = W * H
      · obtain ⟨a, rfl⟩ : ∃ a : Nat, W = a := ⟨W.toNat, by omega⟩
        obtain ⟨b, rfl⟩ : ∃ b : Nat, H = b := ⟨H.toNat, by omega⟩
        exact rowsOf_k a b C _ _ (by omega) (by omega) (by omega) (by omega) hs (Lib.hid rfl) (Lib.hid rfl) w
      · refine (rowsOf_s W H C hC hw.1 hw.2 hh.1 hh.2 hs w).mono fun e w' h => rowsOf_no (gok_no (fun h => hs h.1.2.2)) h
    · refine (rowsOf_h W H C hw.1 hw.2 hh w).mono fun e w' h => rowsOf_no (gok_no (fun h => hh h.1.2.1)) h
  · refine (rowsOf_w W H C hw w).mono fun e w' h => rowsOf_no (gok_no (fun h => hw h.1.1)) h

end Go.Proofs.YtkbfbifepaoojaaGreatDoor

namespace Go.Proofs.YtkbfbifepaoojaaGreatDoor
set_option maxRecDepth 4096
open Go.ChangeShapes Go.WideShapes Go.ChangeAt Go.RowKit

theorem rowsR_size (W H : Int) (C : ByteArray) : (rowsR W H C).size = 8 := by
  unfold rowsR
  split
  · exact rowsV_size _ _ _
  · rfl
theorem rowsR_one (W H : Int) (C : ByteArray) : (rowsR W H C).all (·.oneCell') = true := by
  unfold rowsR
  split
  · exact rowsV_one _ _ _
  · exact noRows_one

/-- The world with the rows in a new variable. -/
def rowsW2 (w : World) (R : Array Value) : World := (w.alloc (.cells noRows 172)).setRow w.heap.size R
theorem rowsW2_size (w : World) (R : Array Value) : (rowsW2 w R).heap.size = w.heap.size + 1 := by
  unfold rowsW2
  rw [size_setRow, World.size_alloc]

/-- The store of the rows into a new variable. -/
theorem wpStoreRows {ops : Array Oper} {rest : List Oper} {o : Oper} {a : Act} {w : World} {Q : Exit → Act → World → Prop} (W H : Int) (C : ByteArray) (x y : Operand) (hgd : o.guard = none) (ho : o.op = .store 172 x y)
    (hx : a.eval x = .pointer (some ⟨w.heap.size, 0, none⟩)) (hy : a.eval y = .agg (rowsR W H C))
    (h : wpList Tryz.prog ops Q rest (a.put o.dst undef) (rowsW2 w (rowsR W H C))) : wpList Tryz.prog ops Q (o :: rest) a (w.alloc (.cells noRows 172)) :=
  wpList_store_row hgd 172 x y ho w.heap.size (rowsR W H C) hx hy 172 noRows (heap_alloc_new w _) (by rw [rowsR_size]; exact rows_info) (by rw [rowsR_size]; rfl) (rowsR_one W H C) h

theorem rows_in (w : World) (R : Array Value) : Below w.heap.size w (rowsW2 w R) ∧ (rowsW2 w R).heap[w.heap.size]? = some (.cells R 172 (0, 0)) :=
  ⟨below_setRow ((Below.refl _ _).alloc (Nat.le_refl _) _) (Nat.le_refl _) _, setRow_heap _ _ noRows R _ _ (heap_alloc_new w _)⟩

/-- A further call. -/
theorem chain {a b c : World} (h : Below a.heap.size a b) (k : Below b.heap.size b c) : Below a.heap.size a c := h.trans (k.mono h.size)
theorem box_cells {w w1 : World} {W H : Int} {C : ByteArray} {t : TypeId} (h : Below (w.alloc (.cells #[.int .i64 W, .int .i64 H, .string C] t)).heap.size (w.alloc (.cells #[.int .i64 W, .int .i64 H, .string C] t)) w1) :
    w1.cell? ⟨w.heap.size, 0, none⟩ = some (.int .i64 W) ∧ w1.cell? ⟨w.heap.size, 1, none⟩ = some (.int .i64 H) ∧ w1.cell? ⟨w.heap.size, 2, none⟩ = some (.string C) := by
  refine ⟨?_, ?_, ?_⟩ <;> refine (h.cell (by simp)).trans ?_ <;> rw [cell_of_row _ _ _ _ _ _ (heap_alloc_new w _)] <;> rfl
theorem box_below {w w1 : World} {o : Obj} (h : Below (w.alloc o).heap.size (w.alloc o) w1) : Below w.heap.size w w1 := ((Below.refl _ _).alloc (Nat.le_refl _) _).trans (h.mono (by simp))
theorem box_size {w w1 : World} {o : Obj} (h : Below (w.alloc o).heap.size (w.alloc o) w1) : w.heap.size + 1 ≤ w1.heap.size := by
  have := h.size
  simpa using this

end Go.Proofs.YtkbfbifepaoojaaGreatDoor

namespace Go.Proofs.YtkbfbifepaoojaaGreatDoor
set_option maxRecDepth 4096
open Go.ChangeShapes Go.WideShapes Go.ChangeAt Go.RowKit

/-- The cell c exists in a valid map. -/
noncomputable def cellOk (W H : Int) (C : ByteArray) (c : Int) : Bool := gok W H C && (decide (0 ≤ c) && decide (c < (C.size : Int)))
noncomputable def freeV (W H : Int) (C : ByteArray) (c : Int) : Bool := cellOk W H C c && freeB (byteAt C c.toNat)
noncomputable def zoneV (W H : Int) (C : ByteArray) (c : Int) : Int := if cellOk W H C c = true then zoneI (byteAt C c.toNat) else -1
noncomputable def parkV (W H : Int) (C : ByteArray) (c : Int) : Bool := cellOk W H C c && parkB (byteAt C c.toNat)

theorem cellOk_yes {W H : Int} {C : ByteArray} {n : Nat} (hg : gok W H C = true) (h : n < C.size) : cellOk W H C n = true := by
  unfold cellOk
  rw [hg]
  simp
  exact h
theorem cellOk_out {W H : Int} {C : ByteArray} {c : Int} (h : cellOk W H C c = true) : gok W H C = true ∧ ∃ n : Nat, c = n ∧ n < C.size := by
  unfold cellOk at h
  simp only [Bool.and_eq_true, decide_eq_true_eq] at h
  exact ⟨h.1, c.toNat, by omega, by omega⟩
/-- Why a cell is none. -/
theorem cellOk_no {W H : Int} {C : ByteArray} {c : Int} (h : ¬ cellOk W H C c = true) : gok W H C = false ∨ (gok W H C = true ∧ c < 0) ∨ (gok W H C = true ∧ 0 ≤ c ∧ (C.size : Int) ≤ c) := by
  unfold cellOk at h
  simp only [Bool.and_eq_true, decide_eq_true_eq] at h
  cases hg : gok W H C with
  | false => exact .inl rfl
  | true =>
    by_cases h0 : c < 0
    · exact .inr (.inl ⟨rfl, h0⟩)
    · refine .inr (.inr ⟨rfl, by omega, ?_⟩)
      rcases Int.lt_or_le c (C.size : Int) with h1 | h1
      · exact absurd ⟨hg, by omega, h1⟩ h
      · exact h1
theorem gok_byte {W H : Int} {C : ByteArray} {n : Nat} (hg : gok W H C = true) (h : n < C.size) : kindB (byteAt C n) = true := (gok_out hg).2 n h

theorem freeV_at {W H : Int} {C : ByteArray} {n : Nat} (hg : gok W H C = true) (hn : n < C.size) : freeV W H C n = freeB (byteAt C n) := by
  unfold freeV
  rw [cellOk_yes hg hn]
  rfl

/-- Column and row of a cell of a valid map. -/
theorem spot_of {W H : Int} {C : ByteArray} {n : Nat} (hg : gok W H C = true) (hn : n < C.size) : ∃ a b q m : Nat, W = a ∧ H = b ∧ 1 ≤ a ∧ a ≤ 8 ∧ b ≤ 8 ∧ q < b ∧ m < a ∧ (n : Int).tdiv (a : Int) = (q : Int) ∧ (n : Int).tmod (a : Int) = (m : Int) ∧ q * a + m = n := by
  obtain ⟨⟨⟨h1, h2⟩, ⟨h3, h4⟩, hs⟩, _⟩ := gok_out hg
  obtain ⟨a, rfl⟩ : ∃ a : Nat, W = a := ⟨W.toNat, by omega⟩
  obtain ⟨b, rfl⟩ : ∃ b : Nat, H = b := ⟨H.toNat, by omega⟩
  have hs2 : C.size = a * b := by have : ((a * b : Nat) : Int) = (a : Int) * (b : Int) := Int.natCast_mul a b; omega
  have ha : 0 < a := by omega
  have hq : n / a < b := Nat.div_lt_of_lt_mul (by omega)
  have hnn : n / a * a + n % a = n := by rw [Nat.mul_comm]; exact Nat.div_add_mod n a
  refine ⟨a, b, n / a, n % a, rfl, rfl, by omega, by omega, by omega, hq, Nat.mod_lt _ ha, ?_, ?_, hnn⟩
  · rw [Int.tdiv_eq_ediv_of_nonneg (by omega)]; rfl
  · rw [Int.tmod_eq_emod_of_nonneg (by omega)]; rfl

end Go.Proofs.YtkbfbifepaoojaaGreatDoor

