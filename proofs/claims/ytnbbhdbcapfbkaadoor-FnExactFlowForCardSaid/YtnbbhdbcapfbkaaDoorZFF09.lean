/-
  CONTRACTS on the program's rows of a map: gridRow.free, park, zone, ok, and sideOk. No law is proved here.
  CONTRACT on the program's rowsOf: the rows of a valid map, or eight empty rows and false. No law is proved here.
-/
import Derived.Test.YtnbbhdbcapfbkaaDoorZFF08
import Derived.Deep.QuietTactic
import Derived.BigQuiet
import Derived.Laws.Rows
import Derived.Laws.Tables
namespace Go.Proofs.YtnbbhdbcapfbkaaDoor
set_option maxRecDepth 4096
open Go.ChangeShapes Go.WideShapes Go.ChangeAt Go.RowKit

def freeB (x : Int) : Bool := decide (x ≠ 35)
def parkB (x : Int) : Bool := decide (65 ≤ x ∧ x ≤ 70)
def zoneI (x : Int) : Int := if 65 ≤ x ∧ x ≤ 70 then x - 65 else if 97 ≤ x ∧ x ≤ 102 then x - 97 else -1

theorem parkI (r : ByteArray) (x : Int) (n : Nat) (e : x = n) (h : n < r.size) (w : World) :
    Calls Tryd.prog 85 #[.string r, .int .i64 x] w fun e w' => e = .returned (.bool (parkB (byteAt r n))) ∧ w = w' := by
  subst e
  have hat := run_at (P := Tryd.prog) 102 r .i64 n n rfl h Tryd.underlying102
  by_cases h1 : 65 ≤ byteAt r n
  all_goals
    go_enter Tryd.func85, Tryd.ntmps85
    go_wp2
    go_ret
    exact ⟨bool_ret (c := parkB (byteAt r n)) rfl (by unfold parkB; rw [Bool.eq_iff_iff]; simp; omega), rfl⟩

theorem zoneIt (r : ByteArray) (x : Int) (n : Nat) (e : x = n) (h : n < r.size) (w : World) :
    Calls Tryd.prog 84 #[.string r, .int .i64 x] w fun e w' => e = .returned (.int .i64 (zoneI (byteAt r n))) ∧ w = w' := by
  subst e
  have hat := run_at (P := Tryd.prog) 102 r .i64 n n rfl h Tryd.underlying102
  have hbd := byteAt_bd r n
  by_cases h1 : parkB (byteAt r n) = true
  · have h2 : 65 ≤ byteAt r n ∧ byteAt r n ≤ 70 := by simpa [parkB] using h1
    have HZ : Hid (byteAt r n - 65 = zoneI (byteAt r n)) := Lib.hid (by unfold zoneI; rw [if_pos h2])
    go_enter Tryd.func84, Tryd.ntmps84
    go_wp2_with (go_at_call 85; (with_reducible refine (parkI _ _ n rfl h _).mono ?_); rintro e w' ⟨rfl, rfl⟩)
    go_ret
    exact ⟨ret_int HZ.out, rfl⟩
  · have h2 : ¬ (65 ≤ byteAt r n ∧ byteAt r n ≤ 70) := by simpa [parkB] using h1
    have h3 : parkB (byteAt r n) = false := by simpa using h1
    by_cases h4 : 97 ≤ byteAt r n
    · by_cases h5 : byteAt r n ≤ 102
      · have HZ : Hid (byteAt r n - 97 = zoneI (byteAt r n)) := Lib.hid (by unfold zoneI; rw [if_neg h2, if_pos ⟨h4, h5⟩])
        clear h1 h2
        go_enter Tryd.func84, Tryd.ntmps84
        go_wp2_with (go_at_call 85; (with_reducible refine (parkI _ _ n rfl h _).mono ?_); rintro e w' ⟨rfl, rfl⟩)
        go_ret
        exact ⟨ret_int HZ.out, rfl⟩
      · have HZ : Hid (-1 = zoneI (byteAt r n)) := Lib.hid (by unfold zoneI; rw [if_neg h2, if_neg (by omega)])
        clear h1 h2
        go_enter Tryd.func84, Tryd.ntmps84
        go_wp2_with (go_at_call 85; (with_reducible refine (parkI _ _ n rfl h _).mono ?_); rintro e w' ⟨rfl, rfl⟩)
        go_ret
        exact ⟨ret_int HZ.out, rfl⟩
    · have HZ : Hid (-1 = zoneI (byteAt r n)) := Lib.hid (by unfold zoneI; rw [if_neg h2, if_neg (by omega)])
      clear h1 h2
      go_enter Tryd.func84, Tryd.ntmps84
      go_wp2_with (go_at_call 85; (with_reducible refine (parkI _ _ n rfl h _).mono ?_); rintro e w' ⟨rfl, rfl⟩)
      go_ret
      exact ⟨ret_int HZ.out, rfl⟩

theorem sideYes (x : Int) (h1 : 1 ≤ x) (h2 : x ≤ 8) (w : World) :
    Calls Tryd.prog 80 #[.int .i64 x] w fun e w' => e = .returned (.bool true) ∧ w = w' := by
  go_enter Tryd.func80, Tryd.ntmps80
  go_wp2
  go_ret
  exact ⟨rfl, rfl⟩
theorem sideNo (x : Int) (h : ¬ (1 ≤ x ∧ x ≤ 8)) (w : World) :
    Calls Tryd.prog 80 #[.int .i64 x] w fun e w' => e = .returned (.bool false) ∧ w = w' := by
  by_cases h1 : 1 ≤ x
  · have h2 : ¬ x ≤ 8 := by omega
    clear h
    go_enter Tryd.func80, Tryd.ntmps80
    go_wp2
    go_ret
    exact ⟨rfl, rfl⟩
  · clear h
    go_enter Tryd.func80, Tryd.ntmps80
    go_wp2
    go_ret
    exact ⟨rfl, rfl⟩

theorem zone_neg {x : Int} (_h1 : ¬ x = 46) (_h2 : ¬ x = 35) (h : kindB x = false) : zoneI x < 0 := by
  unfold kindB at h
  unfold zoneI
  have := of_decide_eq_false h
  rw [if_neg (by omega), if_neg (by omega)]
  omega
theorem zone_pos {x : Int} (_h1 : ¬ x = 46) (_h2 : ¬ x = 35) (h : kindB x = true) : ¬ zoneI x < 0 := by
  unfold kindB at h
  unfold zoneI
  have := of_decide_eq_true h
  split
  · omega
  · rw [if_pos (by omega)]
    omega
theorem kind46 {x : Int} (h : x = 46) : kindB x = true := by subst h; rfl
theorem kind35 {x : Int} (h : x = 35) : kindB x = true := by subst h; rfl

noncomputable def kok (r : ByteArray) : Bool := @decide (Kinds r r.size) (Classical.propDecidable _)
theorem kok_yes {r : ByteArray} (h : Kinds r r.size) : kok r = true := (@decide_eq_true_iff _ (Classical.propDecidable _)).2 h
theorem kok_out {r : ByteArray} (h : kok r = true) : Kinds r r.size := (@decide_eq_true_iff _ (Classical.propDecidable _)).1 h
theorem kok_no {r : ByteArray} (h : ¬ Kinds r r.size) : kok r = false := (@decide_eq_false_iff_not _ (Classical.propDecidable _)).2 h

set_option maxHeartbeats 400000 in
theorem rowOk (r : ByteArray) (hr : r.size ≤ 1048576) (b : Bool) (HK : Hid (kok r = b)) (w : World) :
    Calls Tryd.prog 81 #[.string r] w fun e w' => e = .returned (.bool b) ∧ w = w' := by
  go_enter Tryd.func81, Tryd.ntmps81
  go_wp2
  go_loop [6] (fun i => ∃ k : Nat, k ≤ r.size ∧ i = .int .i64 k ∧ Hid (Kinds r k)) (fun i => r.size - (intOf i).toNat)
  case atStart => exact ⟨0, Nat.zero_le _, rfl, Lib.hid (fun j hj => absurd hj (Nat.not_lt_zero _))⟩
  case round =>
    obtain ⟨k, hk, rfl, HQ⟩ := hrel
    by_cases hlt : k < r.size
    · have hat := run_at (P := Tryd.prog) 102 r .i64 k k rfl hlt Tryd.underlying102
      have hbd := byteAt_bd r k
      by_cases h1 : byteAt r k = 46
      · have HQ2 : Hid (Kinds r (k + 1)) := Lib.hid (kinds_snoc HQ.out (kind46 h1))
        go_wp2_with fail
        go_round
        case rel => exact ⟨k + 1, hlt, by go_num, HQ2⟩
        case measure => simp [intOf]; omega
      · by_cases h2 : byteAt r k = 35
        · have HQ2 : Hid (Kinds r (k + 1)) := Lib.hid (kinds_snoc HQ.out (kind35 h2))
          go_wp2_with fail
          go_round
          case rel => exact ⟨k + 1, hlt, by go_num, HQ2⟩
          case measure => simp [intOf]; omega
        · have hn1 : (byteAt r k != 46) = true := by simpa using h1
          have hn2 : (byteAt r k != 35) = true := by simpa using h2
          by_cases hkb : kindB (byteAt r k) = true
          · have HQ2 : Hid (Kinds r (k + 1)) := Lib.hid (kinds_snoc HQ.out hkb)
            have hz := zone_pos h1 h2 hkb
            clear hkb
            go_wp2_with (go_at_call 84; (with_reducible refine (zoneIt _ _ k rfl hlt _).mono ?_); rintro e w' ⟨rfl, rfl⟩)
            go_round
            case rel => exact ⟨k + 1, hlt, by go_num, HQ2⟩
            case measure => simp [intOf]; omega
          · have hz := zone_neg h1 h2 (by simpa using hkb)
            have HN : Hid (false = b) := Lib.hid ((kok_no (fun h => hkb (h k hlt))).symm.trans HK.out)
            clear hkb
            go_wp2_with (go_at_call 84; (with_reducible refine (zoneIt _ _ k rfl hlt _).mono ?_); rintro e w' ⟨rfl, rfl⟩)
            go_ret
            exact ⟨bool_ret HN.out rfl, rfl⟩
    · obtain rfl : k = r.size := by omega
      have HN : Hid (true = b) := Lib.hid ((kok_yes HQ.out).symm.trans HK.out)
      go_wp2
      go_ret
      exact ⟨bool_ret HN.out rfl, rfl⟩

end Go.Proofs.YtnbbhdbcapfbkaaDoor

namespace Go.Proofs.YtnbbhdbcapfbkaaDoor
set_option maxRecDepth 4096
open Go.ChangeShapes Go.WideShapes Go.ChangeAt Go.RowKit

def noRows : Array Value := #[.string ⟨#[]⟩, .string ⟨#[]⟩, .string ⟨#[]⟩, .string ⟨#[]⟩, .string ⟨#[]⟩, .string ⟨#[]⟩, .string ⟨#[]⟩, .string ⟨#[]⟩]
/-- Row y of a map of a columns. -/
def rowT (C : ByteArray) (a y : Nat) : ByteArray := C.extract (y * a) ((y + 1) * a)
/-- The rows below k, and empty texts from k on. -/
def rowsV (C : ByteArray) (a k : Nat) : Array Value := Array.ofFn (n := 8) fun i => if i.val < k then .string (rowT C a i.val) else .string ⟨#[]⟩

theorem rowsV_size (C : ByteArray) (a k : Nat) : (rowsV C a k).size = 8 := by simp [rowsV]
theorem rowsV_zero (C : ByteArray) (a : Nat) : rowsV C a 0 = noRows := by rfl
theorem rowsV_set (C : ByteArray) (a k : Nat) (hk : k < 8) : (rowsV C a k).setIfInBounds k (.string (rowT C a k)) = rowsV C a (k + 1) := by
  apply Array.ext_getElem?
  intro i
  rw [Array.getElem?_setIfInBounds, rowsV_size]
  by_cases h : k = i
  · subst h
    simp [rowsV, hk]
  · rw [if_neg h]
    by_cases h8 : i < 8
    · by_cases h3 : i < k
      · simp [rowsV, h8, h3, show i < k + 1 from by omega]
      · simp [rowsV, h8, h3, show ¬ i < k + 1 from by omega]
    · simp [rowsV, h8]
theorem rowsV_at (C : ByteArray) (a k y : Nat) (hy : y < k) (hk : k ≤ 8) : (rowsV C a k)[y]? = some (.string (rowT C a y)) := by
  simp [rowsV, hy, show y < 8 from by omega]

theorem row_size (C : ByteArray) (a y : Nat) (h : (y + 1) * a ≤ C.size) : (rowT C a y).size = a := by
  unfold rowT
  rw [ByteArray.size_extract, Nat.min_eq_left h, Nat.add_mul]
  omega
theorem row_byte (C : ByteArray) (a y j : Nat) (_h : (y + 1) * a ≤ C.size) (hj : j < a) : byteAt (rowT C a y) j = byteAt C (y * a + j) := by
  have h1 : (y + 1) * a = y * a + a := by rw [Nat.add_mul, Nat.one_mul]
  unfold byteAt rowT
  rw [ByteArray.data_extract, Array.toList_extract, List.extract_eq_take_drop]
  simp only [List.getD_eq_getElem?_getD]
  rw [List.getElem?_take, if_pos (by omega), List.getElem?_drop]
theorem kinds_row {C : ByteArray} {a y : Nat} (h : (y + 1) * a ≤ C.size) (hk : Kinds C (y * a)) (hr : Kinds (rowT C a y) (rowT C a y).size) : Kinds C ((y + 1) * a) := by
  have h1 : (y + 1) * a = y * a + a := by rw [Nat.add_mul, Nat.one_mul]
  intro j hj
  rcases Nat.lt_or_ge j (y * a) with h2 | h2
  · exact hk j h2
  · have := hr (j - y * a) (by rw [row_size C a y h]; omega)
    rw [row_byte C a y _ h (by omega), show y * a + (j - y * a) = j from by omega] at this
    exact this
theorem kinds_row_no {C : ByteArray} {a y : Nat} (h : (y + 1) * a ≤ C.size) (hr : ¬ Kinds (rowT C a y) (rowT C a y).size) : ¬ Kinds C C.size := by
  have h1 : (y + 1) * a = y * a + a := by rw [Nat.add_mul, Nat.one_mul]
  intro hk
  apply hr
  intro j hj
  rw [row_size C a y h] at hj
  rw [row_byte C a y _ h hj]
  exact hk _ (by omega)

/-- What rowsOf gives back. -/
noncomputable def rowsR (W H : Int) (C : ByteArray) : Array Value := if gok W H C = true then rowsV C W.toNat H.toNat else noRows
/-- The outcome of rowsOf. -/
def RowsOf (W H : Int) (C : ByteArray) (w : World) (e : Ending) (w' : World) : Prop := e = .returned (.tuple #[.agg (rowsR W H C), .bool (gok W H C)]) ∧ Below w.heap.size w w'
def RowsB (R : Array Value) (b : Bool) (w : World) (e : Ending) (w' : World) : Prop := e = .returned (.tuple #[.agg R, .bool b]) ∧ Below w.heap.size w w'

theorem rowsOf_no {W H : Int} {C : ByteArray} {w w' : World} {e : Ending} (hn : gok W H C = false) (h : RowsB noRows false w e w') : RowsOf W H C w e w' := by
  unfold RowsOf rowsR
  rw [hn]
  exact h

theorem rowsOf_w (W H : Int) (C : ByteArray) (hw : ¬ (1 ≤ W ∧ W ≤ 8)) (w : World) :
    Calls Tryd.prog 71 #[.agg #[.int .i64 W, .int .i64 H, .string C]] w (RowsB noRows false w) := by
  go_enter Tryd.func71, Tryd.ntmps71
  go_wp2_with (go_at_call 80; (with_reducible refine (sideNo _ (by assumption) _).mono ?_); rintro e w' ⟨rfl, rfl⟩)
  exact bodyPost_ret (v := .tuple #[.agg noRows, .bool false]) (by simp [results, Tryd.results71, go_sem, noRows]) rfl ⟨rfl, ((Below.refl _ _).alloc (Nat.le_refl _) _).alloc (by simp) _⟩

theorem rowsOf_h (W H : Int) (C : ByteArray) (h1 : 1 ≤ W) (h2 : W ≤ 8) (hw : ¬ (1 ≤ H ∧ H ≤ 8)) (w : World) :
    Calls Tryd.prog 71 #[.agg #[.int .i64 W, .int .i64 H, .string C]] w (RowsB noRows false w) := by
  go_enter Tryd.func71, Tryd.ntmps71
  go_wp2_with (first
    | (go_at_call 80; (with_reducible refine (sideYes _ h1 h2 _).mono ?_); rintro e w' ⟨rfl, rfl⟩)
    | (go_at_call 80; (with_reducible refine (sideNo _ hw _).mono ?_); rintro e w' ⟨rfl, rfl⟩))
  exact bodyPost_ret (v := .tuple #[.agg noRows, .bool false]) (by simp [results, Tryd.results71, go_sem, noRows]) rfl ⟨rfl, ((Below.refl _ _).alloc (Nat.le_refl _) _).alloc (by simp) _⟩

theorem rowsOf_s (W H : Int) (C : ByteArray) (_hC : C.size ≤ 1048576) (h1 : 1 ≤ W) (h2 : W ≤ 8) (h3 : 1 ≤ H) (h4 : H ≤ 8) (hs : ¬ (C.size : Int) = W * H) (w : World) :
    Calls Tryd.prog 71 #[.agg #[.int .i64 W, .int .i64 H, .string C]] w (RowsB noRows false w) := by
  obtain ⟨hm1, hm2⟩ := mul_bd h1 h2 h3 h4
  go_enter Tryd.func71, Tryd.ntmps71
  go_wp2_with (first
    | (go_at_call 80; (with_reducible refine (sideYes _ h1 h2 _).mono ?_); rintro e w' ⟨rfl, rfl⟩)
    | (go_at_call 80; (with_reducible refine (sideYes _ h3 h4 _).mono ?_); rintro e w' ⟨rfl, rfl⟩))
  exact bodyPost_ret (v := .tuple #[.agg noRows, .bool false]) (by simp [results, Tryd.results71, go_sem, noRows]) rfl ⟨rfl, ((Below.refl _ _).alloc (Nat.le_refl _) _).alloc (by simp) _⟩

theorem out_eq {R S : Array Value} {b c : Bool} (h : S = R) (h2 : c = b) : Ending.returned (.tuple #[.agg S, .bool c]) = .returned (.tuple #[.agg R, .bool b]) := by rw [h, h2]

/-- The world of rowsOf in its loop: the argument's box, the result's block, the rows' block, of which those below k are laid. -/
def RowsW (C : ByteArray) (a b k : Nat) (w wr : World) : Prop :=
  Below w.heap.size w wr ∧ wr.heap[w.heap.size]? = some (.cells #[.int .i64 a, .int .i64 b, .string C] 30 (0, 0)) ∧ wr.heap[w.heap.size + 1]? = some (.cells noRows 106 (0, 0)) ∧
    wr.heap[w.heap.size + 2]? = some (.cells (rowsV C a k) 106 (0, 0))

theorem rowsW_start (C : ByteArray) (a b : Nat) (w : World) : RowsW C a b 0 w (((w.alloc (.cells #[.int .i64 a, .int .i64 b, .string C] 30)).alloc (.cells noRows 106)).alloc (.cells noRows 106)) := by
  refine ⟨(((Below.refl _ _).alloc (Nat.le_refl _) _).alloc (by simp) _).alloc (by simp; omega) _, ?_, ?_, ?_⟩
  · rw [heap_alloc_old _ _ (by simp; omega), heap_alloc_old _ _ (by simp), heap_alloc_new]
  · rw [heap_alloc_old _ _ (by simp)]
    exact heap_alloc2_new w _ _
  · rw [rowsV_zero]
    have := heap_alloc_new ((w.alloc (.cells #[.int .i64 a, .int .i64 b, .string C] 30)).alloc (.cells noRows 106)) (.cells noRows 106)
    simpa using this
theorem rowsW_cells {C : ByteArray} {a b k : Nat} {w wr : World} (h : RowsW C a b k w wr) : wr.cell? ⟨w.heap.size, 0, none⟩ = some (.int .i64 a) ∧ wr.cell? ⟨w.heap.size, 1, none⟩ = some (.int .i64 b) ∧ wr.cell? ⟨w.heap.size, 2, none⟩ = some (.string C) := by
  refine ⟨?_, ?_, ?_⟩ <;> rw [cell_of_row _ _ _ _ _ _ h.2.1] <;> rfl
theorem rowsW_store {C : ByteArray} {a b k : Nat} {w wr : World} (h : RowsW C a b k w wr) (hk : k < 8) : RowsW C a b (k + 1) w (wr.setCell ⟨w.heap.size + 2, k, none⟩ (.string (rowT C a k))) := by
  refine ⟨h.1.setCell (by simp) _, ?_, ?_, ?_⟩
  · rw [heap_setCell_other _ _ _ _ (by simp)]; exact h.2.1
  · rw [heap_setCell_other _ _ _ _ (by simp)]; exact h.2.2.1
  · rw [heap_setCell_same _ _ _ _ _ _ h.2.2.2, rowsV_set C a k hk]

theorem below_setRow {B : Nat} {a w : World} (h : Below B a w) {g : Nat} (hg : B ≤ g) (cs : Array Value) : Below B a (w.setRow g cs) :=
  ⟨h.os, h.tape, h.output, by rw [size_setRow]; exact h.size, fun k hk => (setRow_other w g k cs (by omega)).trans (h.block k hk)⟩
/-- What is read of the result's block at the end. -/
theorem load_rows (w : World) (g : Nat) (cs : Array Value) (hz : cs.size = 8) (hg : w.heap[g]? = some (.cells cs 106 (0, 0))) :
    (loadVar 106 ⟨g, 0, none⟩).run Tryd.prog w = .ok (.agg cs) w :=
  run_loadVar_row w g _ _ cs (0, 0) _ hg Tryd.underlying106 rfl (by rw [hz]; kernel_rfl)
theorem rowsV_one (C : ByteArray) (a k : Nat) : (rowsV C a k).all (·.oneCell') = true := by
  rw [Array.all_eq_true]
  intro i hi
  simp only [rowsV, Array.getElem_ofFn]
  split <;> rfl
theorem wpBuildRows {ops : Array Oper} {rest : List Oper} {o : Oper} {a : Act} {w : World} {Q : Exit → Act → World → Prop} (hg : o.guard = none) (ho : o.op = .build 106 #[])
    (h : wpList Tryd.prog ops Q rest (a.put o.dst (.agg noRows)) w) : wpList Tryd.prog ops Q (o :: rest) a w := by
  refine wpList_build hg 106 #[] ho (by kernel_rfl) ?_
  have e : ((Tryd.prog.built 106 ((#[] : Array (Nat × Operand)).map fun (i, x) => (i, a.eval x)).toList).getD #[]) = noRows := by kernel_rfl
  rw [e]
  exact h
theorem results_rows {P : Program} {fn : Func} {p t : Tmp} {ty : TypeId} (h : fn.results = #[.cell p ty, .tmp t]) (tmps : Array Value) (w : World) (g : Nat) (cs : Array Value) (v : Value)
    (hp : tmps.getD p undef = .pointer (some ⟨g, 0, none⟩)) (hv : tmps.getD t undef = v) (hl : (loadVar ty ⟨g, 0, none⟩).run P w = .ok (.agg cs) w) :
    (results fn tmps).run P w = .ok (.tuple #[.agg cs, v]) w := by
  have hp' : tmps[p]?.getD undef = .pointer (some ⟨g, 0, none⟩) := by simpa using hp
  have hv' : tmps[t]?.getD undef = v := by simpa using hv
  simp [results, h, hp', hv', asAddr, hl]
theorem noRows_one : noRows.all (·.oneCell') = true := by kernel_rfl
theorem rows_info : (Tryd.prog.info? 106).map (·.size) = some 8 := by kernel_rfl

set_option maxHeartbeats 400000 in
theorem rowsOf_k (a b : Nat) (C : ByteArray) (R : Array Value) (r : Bool) (h1 : 1 ≤ a) (h2 : a ≤ 8) (h3 : 1 ≤ b) (h4 : b ≤ 8) (hs : (C.size : Int) = (a : Int) * (b : Int)) (HK : Hid (gok a b C = r))
    (HR : Hid ((if r = true then rowsV C a b else noRows) = R)) (w : World) :
    Calls Tryd.prog 71 #[.agg #[.int .i64 a, .int .i64 b, .string C]] w (RowsB R r w) := by
  obtain ⟨hm1, hm2⟩ := mul_bd (W := a) (H := b) (by omega) (by omega) (by omega) (by omega)
  have HS : Hid (Sides a b C) := Lib.hid ⟨⟨by omega, by omega⟩, ⟨by omega, by omega⟩, hs⟩
  have hs' : (a : Int) * (b : Int) = (C.size : Int) := hs.symm
  have HN : Hid (C.size = a * b) := Lib.hid (by have : ((a * b : Nat) : Int) = (a : Int) * (b : Int) := Int.natCast_mul a b; omega)
  have hC64 : C.size ≤ 64 := by omega
  clear hs
  go_enter Tryd.func71, Tryd.ntmps71
  go_wp2_with (first
    | (go_at_call 80; (with_reducible refine (sideYes a (by omega) (by omega) _).mono ?_); rintro e w' ⟨rfl, rfl⟩)
    | (go_at_call 80; (with_reducible refine (sideYes b (by omega) (by omega) _).mono ?_); rintro e w' ⟨rfl, rfl⟩))
  go_loopw [30] (fun i wr => ∃ k : Nat, k ≤ b ∧ i = .int .i64 k ∧ RowsW C a b k w wr ∧ Hid (Kinds C (k * a))) (fun i _ => b - (intOf i).toNat)
  case atStart => exact ⟨0, Nat.zero_le _, rfl, rowsW_start C a b w, Lib.hid (fun j hj => by simp at hj)⟩
  case round =>
    obtain ⟨k, hk, rfl, hRW, HQ⟩ := hrel
    obtain ⟨c0, c1, c2⟩ := rowsW_cells hRW
    by_cases hlt : k < b
    · have hle : (k + 1) * a ≤ C.size := by rw [HN.out, Nat.mul_comm a b]; exact Nat.mul_le_mul_right a (by omega)
      obtain ⟨p, hp⟩ : ∃ p, p = k * a := ⟨_, rfl⟩
      obtain ⟨q, hq⟩ : ∃ q, q = (k + 1) * a := ⟨_, rfl⟩
      have hka : (k : Int) * (a : Int) = (p : Int) := by rw [hp, Int.natCast_mul]
      have hka1 : ((k : Int) + 1) * (a : Int) = (q : Int) := by rw [hq, Int.natCast_mul]; rfl
      have hpq : p ≤ q := by rw [hp, hq]; exact Nat.mul_le_mul_right a (by omega)
      have hqs : q ≤ C.size := by rw [hq]; exact hle
      have HT : Hid (C.extract p q = rowT C a k) := Lib.hid (by rw [hp, hq]; rfl)
      have HP := Lib.hid hp
      have HQ1 := Lib.hid hq
      have HL := Lib.hid hle
      obtain ⟨u, hu⟩ : ∃ u, (rowsV C a k)[k]? = some u := ⟨_, Array.getElem?_eq_getElem (by rw [rowsV_size]; omega)⟩
      have d1 : wr.cell? ⟨w.heap.size + 2, k, none⟩ = some u := (cell_of_row _ _ _ _ _ _ hRW.2.2.2).trans hu
      have d2 := frozen_of_row _ _ k _ _ hRW.2.2.2
      clear hp hq hle hu
      have hRW2 := rowsW_store hRW (by omega)
      have HRW2 := Lib.hid hRW2
      have HRW := Lib.hid hRW
      clear hRW hRW2
      go_wp2_with fail
      by_cases hok : kok (C.extract p q) = true
      · have hQ2 : Hid (Kinds C ((k + 1) * a)) := Lib.hid (kinds_row HL.out HQ.out (by
          have := kok_out hok
          rw [HT.out] at this
          exact this))
        refine (rowOk _ (by rw [HT.out, row_size C a k HL.out]; omega) true (Lib.hid hok) _).mono ?_
        rintro e w' ⟨rfl, rfl⟩
        clear hok
        go_wp2
        go_roundw
        case rel => exact ⟨k + 1, by omega, by go_num, by rw [HT.out]; exact HRW2.out, hQ2⟩
        case measure => simp [intOf]; omega
      · have hok2 : kok (C.extract p q) = false := by simpa using hok
        have HN2 : Hid (false = r) := Lib.hid ((gok_no (fun h => by
          have h3 := kinds_row_no HL.out (fun hh => hok (by rw [HT.out]; exact kok_yes hh))
          exact h3 h.2)).symm.trans HK.out)
        have HR2 : Hid (noRows = R) := Lib.hid (by rw [← HR.out, ← HN2.out]; rfl)
        refine (rowOk _ (by rw [HT.out, row_size C a k HL.out]; omega) false (Lib.hid hok2) _).mono ?_
        rintro e w' ⟨rfl, rfl⟩
        clear hok hok2
        have HG : Hid (RowsW C a b (k + 1) w (wr.setCell ⟨w.heap.size + 1 + 1, k, none⟩ (.string (C.extract p q)))) := Lib.hid (by rw [HT.out]; exact HRW2.out)
        clear d1 d2 c0 c1 c2 HRW2
        go_wp2_with (first | (refine wpBuildRows rfl rfl ?_) | (refine wpList_store_row rfl 106 _ _ rfl (w.heap.size + 1) noRows rfl rfl 106 noRows HG.out.2.2.1 rows_info rfl noRows_one ?_))
        have hl := load_rows _ _ noRows rfl (setRow_heap _ (w.heap.size + 1) noRows noRows _ _ HG.out.2.2.1)
        exact bodyPost_ret (v := .tuple #[.agg noRows, .bool false]) (results_rows Tryd.results71 _ _ _ _ _ rfl rfl hl) rfl ⟨out_eq HR2.out HN2.out, below_setRow HG.out.1 (by omega) _⟩
    · obtain rfl : k = b := by omega
      have HN2 : Hid (true = r) := Lib.hid ((gok_yes HS.out (by rw [HN.out, Nat.mul_comm]; exact HQ.out)).symm.trans HK.out)
      have HR2 : Hid (rowsV C a k = R) := Lib.hid (by rw [← HR.out, ← HN2.out]; rfl)
      have HRW := Lib.hid hRW
      clear hRW
      go_wp2_with (first
        | (refine wpList_load_row rfl 106 _ rfl (w.heap.size + 2) rfl 106 (rowsV C a k) (0, 0) _ HRW.out.2.2.2 Tryd.underlying106 rfl (by rw [rowsV_size]; exact rows_info) ?_)
        | (refine wpList_store_row rfl 106 _ _ rfl (w.heap.size + 1) (rowsV C a k) rfl rfl 106 noRows HRW.out.2.2.1 (by rw [rowsV_size]; exact rows_info) (by rw [rowsV_size]; rfl) (rowsV_one C a k) ?_))
      have hl := load_rows _ _ (rowsV C a k) (rowsV_size C a k) (setRow_heap _ (w.heap.size + 1) noRows (rowsV C a k) _ _ HRW.out.2.2.1)
      exact bodyPost_ret (v := .tuple #[.agg (rowsV C a k), .bool true]) (results_rows Tryd.results71 _ _ _ _ _ rfl rfl hl) rfl ⟨out_eq HR2.out HN2.out, below_setRow HRW.out.1 (by omega) _⟩

theorem rowsOf (W H : Int) (C : ByteArray) (hC : C.size ≤ 1048576) (w : World) :
    Calls Tryd.prog 71 #[.agg #[.int .i64 W, .int .i64 H, .string C]] w (RowsOf W H C w) := by
  by_cases hw : 1 ≤ W ∧ W ≤ 8
  · by_cases hh : 1 ≤ H ∧ H ≤ 8
    · by_cases hs : (C.size : Int) = W * H
      · obtain ⟨a, rfl⟩ : ∃ a : Nat, W = a := ⟨W.toNat, by omega⟩
        obtain ⟨b, rfl⟩ : ∃ b : Nat, H = b := ⟨H.toNat, by omega⟩
        exact rowsOf_k a b C _ _ (by omega) (by omega) (by omega) (by omega) hs (Lib.hid rfl) (Lib.hid rfl) w
      · refine (rowsOf_s W H C hC hw.1 hw.2 hh.1 hh.2 hs w).mono fun e w' h => rowsOf_no (gok_no (fun h => hs h.1.2.2)) h
    · refine (rowsOf_h W H C hw.1 hw.2 hh w).mono fun e w' h => rowsOf_no (gok_no (fun h => hh h.1.2.1)) h
  · refine (rowsOf_w W H C hw w).mono fun e w' h => rowsOf_no (gok_no (fun h => hw h.1.1)) h

end Go.Proofs.YtnbbhdbcapfbkaaDoor

