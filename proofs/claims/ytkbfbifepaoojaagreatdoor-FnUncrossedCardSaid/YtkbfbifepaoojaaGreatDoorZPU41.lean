/-
  CONTRACTS of the model's cursor over drawn bytes, as a function of the bytes: l01New, l01Byte, l01Below. Two cursors over the same bytes draw the same. No law is proved here.
  A STEP: 'append([]int{}, list...)', the list nil, empty or in memory: what comes back holds the list, and nothing that was there is touched. No statement is proved here.
  A slice of bytes, byte by byte. Plain facts; no law is proved here.
-/
import Derived.Test.YtkbfbifepaoojaaGreatDoorZPU00
import Derived.Deep.QuietTactic
import Derived.BigQuiet
import Derived.Deep.Upon
import Derived.ArgAppend
import Derived.Test.YtkbfbifepaoojaaGreatDoorZPU40
namespace Go.Proofs.YtkbfbifepaoojaaGreatDoor
set_option maxRecDepth 4096
open Go.ChangeShapes Go.WideShapes Go.ChangeAt Go.RowKit

theorem and_leF (x : Int) (m : Nat) (hm : m < 4611686018427387904) : 0 ≤ bits .and .i64 x (m : Int) ∧ bits .and .i64 x (m : Int) ≤ (m : Int) := by
  have h1 : (BitVec.ofInt 64 (m : Int)).toNat = m := by
    rw [BitVec.toNat_ofInt]
    have e : ((m : Int) % ((2 ^ 64 : Nat) : Int)) = m := Int.emod_eq_of_lt (by omega) (by omega)
    rw [e]
    rfl
  have h2 : (BitVec.ofInt 64 x &&& BitVec.ofInt 64 (m : Int)).toNat ≤ m := by
    rw [BitVec.toNat_and, h1]
    exact Nat.and_le_right
  have h3 : bits .and .i64 x (m : Int) = (((BitVec.ofInt 64 x &&& BitVec.ofInt 64 (m : Int)).toNat : Nat) : Int) := by
    show IntKind.i64.wrap (((BitVec.ofInt 64 x &&& BitVec.ofInt 64 (m : Int)).toNat : Nat) : Int) = _
    exact IntWalk.i64_in _ (by omega)
  rw [h3]
  omega

/-- Where a cursor stands: the next byte, the mixed number. -/
structure DS where
  i : Nat
  h : Int
def stepH (h : Int) : Int := wrap64 (wrap64 (h * 6364136223846793005) + 1442695040888963407)
def rawX (E : Int) : Int := bits .and .i64 (bits .xor .i64 (E / 8589934592) (E / 35184372088832)) 255
def DS.byte (s : DS) (N : Nat) (B : Nat → Int) : Int := if s.i < N then bits .and .i64 (rawX (stepH s.h) + B s.i) 255 else rawX (stepH s.h)
def DS.next (s : DS) (N : Nat) : DS := ⟨if s.i < N then s.i + 1 else s.i, stepH s.h⟩
/-- A draw below n, 1 ≤ n ≤ 256. -/
def DS.few (s : DS) (N : Nat) (B : Nat → Int) (n : Int) : Int := (s.byte N B).tmod n
theorem DS.byte_in (s : DS) (N : Nat) (B : Nat → Int) : 0 ≤ s.byte N B ∧ s.byte N B ≤ 255 := by
  unfold DS.byte
  split
  · exact and_leF _ 255 (by decide)
  · exact and_leF _ 255 (by decide)
theorem DS.few_in (s : DS) (N : Nat) (B : Nat → Int) {n : Int} (hn : 1 ≤ n) : 0 ≤ s.few N B n ∧ s.few N B n < n := by
  have := s.byte_in N B
  exact ⟨Int.tmod_nonneg _ this.1, Int.tmod_lt_of_pos _ (by omega)⟩

/-- The bytes handed in: a slice of N cells below the block g. -/
def CodeF (w : World) (v : Value) (N : Nat) (B : Nat → Int) (g : Nat) : Prop :=
  ∃ a c, v = .slice a N c ∧ (N = 0 ∨ ∃ b, a = some b ∧ b.block < g ∧ b.block < w.heap.size ∧ ∀ j, j < N → (0 ≤ B j ∧ B j < 256) ∧ w.cell? (b.add j) = some (.int .u8 (B j)))
/-- The cursor in block g over the bytes v. -/
def CurF (w : World) (g : Nat) (v : Value) (s : DS) : Prop := w.heap[g]? = some (.cells #[v, .int .i64 s.i, .int .i64 s.h] 103 (0, 0))

theorem add_blockF (b : Addr) (j : Nat) : (b.add j).block = b.block := by unfold Addr.add; split <;> rfl
theorem CodeF.keep {w w' : World} {v : Value} {N g : Nat} {B : Nat → Int} (h : CodeF w v N B g) (hb : ∀ k, k < g → k < w.heap.size → w'.heap[k]? = w.heap[k]?) (hs : w.heap.size ≤ w'.heap.size) : CodeF w' v N B g := by
  obtain ⟨a, c, hv, hh⟩ := h
  refine ⟨a, c, hv, ?_⟩
  rcases hh with h0 | ⟨b, ha, hg, hlt, hc⟩
  · exact .inl h0
  · refine .inr ⟨b, ha, hg, Nat.lt_of_lt_of_le hlt hs, fun j hj => ?_⟩
    obtain ⟨h1, h3⟩ := hc j hj
    refine ⟨h1, ?_⟩
    rw [← h3]
    have e := hb b.block hg hlt
    simp [World.cell?, add_blockF, e]
theorem CodeF.below {w w' : World} {v : Value} {N g : Nat} {B : Nat → Int} (h : CodeF w v N B g) (hb : Below w.heap.size w w') : CodeF w' v N B g := h.keep (fun k _ hk => hb.block k hk) hb.size
theorem CodeF.turn {w w' : World} {v : Value} {N g : Nat} {B : Nat → Int} (h : CodeF w v N B g) (hb : w.grownBy w' (some g)) : CodeF w' v N B g := h.keep (fun k hk hlt => hb.block k hlt (fun e => by cases e; omega)) hb.size
theorem CodeF.up {w : World} {v : Value} {N g g' : Nat} {B : Nat → Int} (h : CodeF w v N B g) (hg : g ≤ g') : CodeF w v N B g' := by
  obtain ⟨a, c, hv, hh⟩ := h
  refine ⟨a, c, hv, ?_⟩
  rcases hh with h0 | ⟨b, ha, h1, h2, h3⟩
  · exact .inl h0
  · exact .inr ⟨b, ha, Nat.lt_of_lt_of_le h1 hg, h2, h3⟩
theorem CurF.below {w w' : World} {v : Value} {g : Nat} {s : DS} (h : CurF w g v s) (hb : Below w.heap.size w w') : CurF w' g v s := (hb.block _ (Array.getElem?_eq_some_iff.1 h).1).trans h
theorem CurF.keep {w w' : World} {v : Value} {g : Nat} {s : DS} (h : CurF w g v s) (hb : w'.heap[g]? = w.heap[g]?) : CurF w' g v s := hb.trans h

/-- A draw: the number x; the cursor's block alone has turned. -/
def DrawnF (w : World) (g : Nat) (v : Value) (x : Int) (s : DS) (e : Ending) (w' : World) : Prop :=
  e = .returned (.int .i64 x) ∧ CurF w' g v s ∧ w.grownBy w' (some g)

theorem grown_drawF {w w1 : World} {r : Option Nat} (h : w.grownBy w1 r) (n : Nat) : w.grownBy (w1.drewN n) r := ⟨h.os, h.tape, h.output, h.size, h.block⟩
theorem grown_setF {w w1 : World} {g : Nat} (h : w.grownBy w1 (some g)) (j : Nat) (v : Value) : w.grownBy (w1.setCell ⟨g, j, none⟩ v) (some g) :=
  ⟨h.os, h.tape, h.output, Nat.le_trans h.size (by simp [World.setCell]), fun k hk hne => (heap_setCell_other _ _ _ _ (fun e => hne (by rw [e]))).trans (h.block k hk hne)⟩

set_option maxHeartbeats 2000000 in
theorem byteF (g N : Nat) (B : Nat → Int) (v : Value) (s : DS) (w : World) (hN : N ≤ 9000000000000000) (hi : s.i ≤ N) (hc : CodeF w v N B g) (hk : CurF w g v s) :
    Calls Tryz.prog 100 #[.pointer (some ⟨g, 0, none⟩)] w (DrawnF w g v (s.byte N B) (s.next N)) := by
  obtain ⟨i, h⟩ := s
  have hg : w.heap[g]? = some (.cells #[v, .int .i64 i, .int .i64 h] 103 (0, 0)) := hk
  have hi1 : i ≤ N := hi
  obtain ⟨a, c, rfl, hh⟩ := hc
  have c0 : w.cell? ⟨g, 0, none⟩ = some (.slice a N c) := by rw [cell_of_row _ _ _ _ _ _ hg]; rfl
  have c1 : w.cell? ⟨g, 1, none⟩ = some (.int .i64 i) := by rw [cell_of_row _ _ _ _ _ _ hg]; rfl
  have c2 : w.cell? ⟨g, 2, none⟩ = some (.int .i64 h) := by rw [cell_of_row _ _ _ _ _ _ hg]; rfl
  have f0 := frozen_of_row w g 1 _ _ hg
  have f2 := frozen_of_row w g 2 _ _ hg
  clear hk hi
  go_enter Tryz.func100, Tryz.ntmps100
  go_wp2_with fail
  obtain ⟨E, hE⟩ : ∃ E, wrap64 (wrap64 (h * 6364136223846793005) + 1442695040888963407) = E := ⟨_, rfl⟩
  have HE : Hid (stepH h = E) := Lib.hid hE
  rw [hE]
  clear hE
  have hg1 : (w.setCell ⟨g, 2, none⟩ (.int .i64 E)).heap[g]? = some (.cells #[.slice a N c, .int .i64 i, .int .i64 E] 103 (0, 0)) := heap_setCell_same w g 2 _ _ (.int .i64 E) hg
  have hgr : w.grownBy (w.setCell ⟨g, 2, none⟩ (.int .i64 E)) (some g) := ⟨rfl, rfl, rfl, by simp [World.setCell], fun k _ hne => heap_setCell_other _ _ _ _ (fun e => hne (by rw [e]))⟩
  generalize w.setCell ⟨g, 2, none⟩ (.int .i64 E) = w1 at hg1 hgr ⊢
  clear c0 c1 c2 f0 f2 hg
  have c0 : w1.cell? ⟨g, 0, none⟩ = some (.slice a N c) := by rw [cell_of_row _ _ _ _ _ _ hg1]; rfl
  have c1 : w1.cell? ⟨g, 1, none⟩ = some (.int .i64 i) := by rw [cell_of_row _ _ _ _ _ _ hg1]; rfl
  have c2 : w1.cell? ⟨g, 2, none⟩ = some (.int .i64 E) := by rw [cell_of_row _ _ _ _ _ _ hg1]; rfl
  go_quiet (fail)
  obtain ⟨X, hX⟩ : ∃ X, bits .and .i64 (bits .xor .i64 (E / 8589934592) (E / 35184372088832)) 255 = X := ⟨_, rfl⟩
  have HX : Hid (rawX E = X) := Lib.hid hX
  have hX0 : 0 ≤ X ∧ X ≤ 255 := by rw [← hX]; exact and_leF _ 255 (by decide)
  rw [hX]
  clear c2 hX
  go_wp2_with fail
  by_cases hlt : i < N
  · have hlt2 : (i : Int) < (N : Int) := by omega
    rcases hh with h0 | ⟨b, rfl, hb1, hb2, hcell⟩
    · omega
    · obtain ⟨⟨hx0, hx1⟩, hx⟩ := hcell i hlt
      obtain ⟨x, hxe⟩ : ∃ x, Hid (B i = x) := ⟨_, rfl⟩
      rw [hxe.out] at hx hx0 hx1
      have d0 : w1.cell? (b.add i) = some (.int .u8 x) := by
        rw [← hx]
        have e := hgr.block b.block hb2 (fun e => by cases e; omega)
        simp [World.cell?, add_blockF, e]
      clear hcell hx
      go_quiet (fail)
      go_wp2_with fail
      go_quiet (fail)
      obtain ⟨Y, hY⟩ : ∃ Y, bits .and .i64 (X + x) 255 = Y := ⟨_, rfl⟩
      have HY := Lib.hid hY
      have hY0 : 0 ≤ Y ∧ Y ≤ 255 := by rw [← hY]; exact and_leF _ 255 (by decide)
      rw [hY]
      have f1 := frozen_of_row w1 g 1 _ _ hg1
      clear hY
      go_wp2_with fail
      go_ret
      refine ⟨?_, ?_, grown_setF (grown_drawF hgr _) 1 _⟩
      · unfold DS.byte
        rw [if_pos hlt, HE.out, HX.out, hxe.out, HY.out]
        rfl
      · unfold CurF DS.next
        simp only
        rw [if_pos hlt, HE.out]
        exact heap_setCell_same _ g 1 _ _ _ hg1
  · obtain rfl : i = N := by omega
    go_quiet (fail)
    go_wp2_with fail
    go_ret
    refine ⟨?_, ?_, grown_drawF (grown_drawF hgr _) _⟩
    · unfold DS.byte
      rw [if_neg hlt, HE.out, HX.out]
      rfl
    · unfold CurF DS.next
      simp only
      rw [if_neg hlt, HE.out]
      exact hg1

theorem next_le {s : DS} {N : Nat} (h : s.i ≤ N) : (s.next N).i ≤ N := by
  unfold DS.next
  simp only
  split <;> omega

set_option maxHeartbeats 2000000 in
theorem fewF (g N : Nat) (B : Nat → Int) (v : Value) (s : DS) (n : Int) (w : World) (hN : N ≤ 9000000000000000) (hi : s.i ≤ N) (hc : CodeF w v N B g) (hk : CurF w g v s) (hn1 : 1 ≤ n) (hn2 : n ≤ 256) :
    Calls Tryz.prog 60 #[.pointer (some ⟨g, 0, none⟩), .int .i64 n] w (DrawnF w g v (s.few N B n) (s.next N)) := by
  obtain ⟨y, hy⟩ : ∃ y, Hid (s.few N B n = y) := ⟨_, rfl⟩
  have hy0 := s.few_in N B hn1
  rw [hy.out] at hy0 ⊢
  go_enter Tryz.func60, Tryz.ntmps60
  go_wp2_with fail
  refine (byteF g N B v s w hN hi hc hk).mono ?_
  rintro e w1 ⟨rfl, hcur, hgr⟩
  have hne : n ≠ 0 := by omega
  have h2 : (s.byte N B).tmod n = y := hy.out
  obtain ⟨x, hx⟩ : ∃ x, s.byte N B = x := ⟨_, rfl⟩
  rw [hx] at h2 ⊢
  clear hx
  go_wp2_with fail
  go_ret
  exact ⟨rfl, hcur, hgr⟩

/-- The mixed number with which a cursor begins. -/
def hashK (N : Nat) (B : Nat → Int) : Nat → Int
  | 0 => 94701 + (N : Int)
  | k + 1 => bits .and .i64 (hashK N B k * 131 + B k + 7) 1073741823
def startD (N : Nat) (B : Nat → Int) : DS := ⟨0, hashK N B (min N 4000)⟩

set_option maxHeartbeats 2000000 in
theorem newF (N : Nat) (B : Nat → Int) (v : Value) (w : World) (hN : N ≤ 9000000000000000) (hc : CodeF w v N B w.heap.size) :
    Calls Tryz.prog 29 #[v] w fun e w' => e = .returned (.pointer (some ⟨w.heap.size, 0, none⟩)) ∧ CurF w' w.heap.size v (startD N B) ∧ Below w.heap.size w w' := by
  obtain ⟨a, c, rfl, hh⟩ := hc
  have HH := Lib.hid hh
  clear hh
  go_enter Tryz.func29, Tryz.ntmps29
  go_wp2_with fail
  go_loop [3, 4] (fun h i => ∃ (k : Nat) (x : Int), k ≤ N ∧ k ≤ 4000 ∧ i = .int .i64 k ∧ h = .int .i64 x ∧ Hid (hashK N B k = x) ∧ 0 ≤ x ∧ x ≤ 10000000000000000) (fun _ i => N - (intOf i).toNat)
  case atStart => exact ⟨0, _, Nat.zero_le _, Nat.zero_le _, rfl, rfl, Lib.hid rfl, by omega, by omega⟩
  case round =>
    obtain ⟨k, x, hk, hk4, rfl, rfl, HX, hx0, hx1⟩ := hrel
    by_cases hlt : k < N ∧ k < 4000
    · obtain ⟨hlt1, hlt2⟩ := hlt
      rcases HH.out with h0 | ⟨b, rfl, hb1, hb2, hcell⟩
      · omega
      · obtain ⟨⟨hy0, hy1⟩, hy⟩ := hcell k hlt1
        obtain ⟨y, hye⟩ : ∃ y, Hid (B k = y) := ⟨_, rfl⟩
        rw [hye.out] at hy hy0 hy1
        have hk1 : (k : Int) < (N : Int) := by omega
        have hk2 : (k : Int) < 4000 := by omega
        clear hcell
        go_wp2_with fail
        have hX : 0 ≤ bits .and .i64 (x * 131 + y + 7) 1073741823 ∧ bits .and .i64 (x * 131 + y + 7) 1073741823 ≤ 1073741823 := and_leF _ 1073741823 (by decide)
        go_round
        case rel => exact ⟨k + 1, _, by omega, by omega, by go_num, rfl, Lib.hid (by rw [hashK, HX.out, hye.out]), hX.1, by omega⟩
        case measure => simp [intOf]; omega
    · have HE : Hid (startD N B = ⟨0, x⟩) := Lib.hid (by
        unfold startD
        rw [show min N 4000 = k from by omega, HX.out])
      by_cases h1 : k < N
      · have h2 : ¬ (k : Int) < 4000 := by omega
        have h3 : (k : Int) < (N : Int) := by omega
        go_wp2_with fail
        go_ret
        exact ⟨rfl, by rw [HE.out]; exact heap_alloc_new w _, (Below.refl _ w).alloc (Nat.le_refl _) _⟩
      · obtain rfl : k = N := by omega
        go_wp2_with fail
        go_ret
        exact ⟨rfl, by rw [HE.out]; exact heap_alloc_new w _, (Below.refl _ w).alloc (Nat.le_refl _) _⟩

end Go.Proofs.YtkbfbifepaoojaaGreatDoor

namespace Go.Proofs.YtkbfbifepaoojaaGreatDoor
set_option maxRecDepth 4096
open Go.ChangeShapes Go.WideShapes Go.ChangeAt Go.RowKit

theorem copy_run (w : World) (b : Addr) (v : Value) (L : List Int) (ty : TypeId) (hv : Ints w v L) (hl : L.length ≤ 2000000) :
    ∃ v' w', (Builtin.append_ #[26, 26] ty #[.slice (some b) 0 0, v]).run Tryz.prog w = .ok v' w' ∧ Ints w' v' L ∧ Below w.heap.size w w' := by
  obtain ⟨i0, hi, hz0, hz1, hz2⟩ := info_parts Tryz.info3
  rcases hv with ⟨rfl, a, c, rfl⟩ | ⟨g, c, rfl, hg, hc⟩
  · have hs : Src Tryz.prog i0.size 26 (.slice a 0 c) 0 [] w := by
      cases a with
      | none => exact Src.ofNil w Tryz.underlying26 c
      | some p => exact Src.ofSlice w Tryz.underlying26 p 0 c [] (by simp) (by intro j u h; simp at h) (by intro u h; cases h)
    exact ⟨_, _, run_append_nothing w _ _ _ _ i0 Tryz.underlying26 hi (some b) 0 0 (Nat.le_refl _) _ hs, .inl ⟨rfl, _, _, rfl⟩, Below.refl _ _⟩
  · rcases Nat.eq_zero_or_pos L.length with h0 | hpos
    · obtain rfl := List.eq_nil_of_length_eq_zero h0
      have hs : Src Tryz.prog i0.size 26 (.slice (some ⟨g, 0, none⟩) 0 c) 0 [] w := Src.ofSlice w Tryz.underlying26 _ 0 c [] (by simp) (by intro j u h; simp at h) (by intro u h; cases h)
      exact ⟨_, _, run_append_nothing w _ _ _ _ i0 Tryz.underlying26 hi (some b) 0 0 (Nat.le_refl _) _ hs, .inl ⟨rfl, _, _, rfl⟩, Below.refl _ _⟩
    · obtain ⟨v', w', h1, h2, h3⟩ := run_append_arg_grows w 26 ty 3 i0 (.int .i64 0) 1 8 Tryz.underlying26 hi hz0 hz1 hz2 rfl (by decide) b 0 0 [] (by simp) (by intro j u h; simp at h)
        ⟨g, 0, none⟩ L.length c (L.map (Value.int .i64)) (by simp) (fun j u h => by
          rw [List.getElem?_map] at h
          obtain ⟨x, hx, rfl⟩ := Option.map_eq_some_iff.1 h
          rw [Addr.add_lit, Nat.zero_add]
          exact hc j x hx) (by omega) (by unfold maxLen; omega) (by omega)
      rw [Nat.zero_add, List.nil_append] at h2
      exact ⟨v', w', h1, ints_of_own h2, (Below.refl _ _).grown h3 (Nat.le_refl _) (fun k h => by cases h)⟩

theorem wp_copy {o : Oper} {a : Act} {w : World} {K : Act → World → Prop} {Q : Exit → Act → World → Prop} (s x : Operand) (hop : o.op = Op.call { callee := Callee.builtin Builtin.append, args := #[s, x], argTypes := #[26, 26] })
    (b : Addr) (hs : a.eval s = .slice (some b) 0 0) (v : Value) (L : List Int) (hx : a.eval x = v) (hv : Ints w v L) (hl : L.length ≤ 2000000)
    (hK : ∀ v' w', Ints w' v' L → Below w.heap.size w w' → K (a.put o.dst v') w') : Oper.wp Tryz.prog o a w K Q := by
  obtain ⟨v', w', hrun, h1, h2⟩ := copy_run w b v L o.type hv hl
  unfold Oper.wp
  simp [execOp, hop, resolve, invoke, builtin, hs, hx, hrun, Result.andThen]
  exact hK _ _ h1 h2

end Go.Proofs.YtkbfbifepaoojaaGreatDoor

namespace Go.Proofs.YtkbfbifepaoojaaGreatDoor
set_option maxRecDepth 4096
open Go.ChangeShapes Go.WideShapes Go.ChangeAt Go.RowKit

theorem code_of {w : World} {v : Value} {N g : Nat} (h : CodeB w v N g) : ∃ B, CodeF w v N B g := by
  obtain ⟨a, c, hv, hh⟩ := h
  rcases hh with h0 | ⟨b, ha, hg, hl, hc⟩
  · exact ⟨fun _ => 0, a, c, hv, .inl h0⟩
  · have hx : ∀ j, ∃ x : Int, j < N → (0 ≤ x ∧ x < 256) ∧ w.cell? (b.add j) = some (.int .u8 x) := fun j => by
      by_cases hj : j < N
      · obtain ⟨x, h1, h2, h3⟩ := hc j hj
        exact ⟨x, fun _ => ⟨⟨h1, h2⟩, h3⟩⟩
      · exact ⟨0, fun h => absurd h hj⟩
    exact ⟨fun j => (hx j).choose, a, c, hv, .inr ⟨b, ha, hg, hl, fun j hj => (hx j).choose_spec hj⟩⟩

end Go.Proofs.YtkbfbifepaoojaaGreatDoor

