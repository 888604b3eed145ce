/-
  CONTRACTS of the model's cursor over drawn bytes: l01New, l01Byte, l01Below. What it draws is a number of its range; that is all that is said. No law is proved here.
-/
import Derived.Test.YtkbfbifepaoojaaGreatDoorZPU00
import Derived.Deep.QuietTactic
import Derived.BigQuiet
namespace Go.Proofs.YtkbfbifepaoojaaGreatDoor
set_option maxRecDepth 4096
open Go.ChangeShapes Go.WideShapes Go.ChangeAt Go.RowKit

theorem and_le (x : Int) (m : Nat) (hm : m < 4611686018427387904) : 0 ≤ bits .and .i64 x (m : Int) ∧ bits .and .i64 x (m : Int) ≤ (m : Int) := by
  have h1 : (BitVec.ofInt 64 (m : Int)).toNat = m := by
    rw [BitVec.toNat_ofInt]
    have e : ((m : Int) % ((2 ^ 64 : Nat) : Int)) = m := Int.emod_eq_of_lt (by omega) (by omega)
    rw [e]
    rfl
  have h2 : (BitVec.ofInt 64 x &&& BitVec.ofInt 64 (m : Int)).toNat ≤ m := by
    rw [BitVec.toNat_and, h1]
    exact Nat.and_le_right
  have h3 : bits .and .i64 x (m : Int) = (((BitVec.ofInt 64 x &&& BitVec.ofInt 64 (m : Int)).toNat : Nat) : Int) := by
    show IntKind.i64.wrap (((BitVec.ofInt 64 x &&& BitVec.ofInt 64 (m : Int)).toNat : Nat) : Int) = _
    exact IntWalk.i64_in _ (by omega)
  rw [h3]
  omega

/-- The bytes handed in: a slice of N cells below the block g. -/
def CodeB (w : World) (v : Value) (N g : Nat) : Prop :=
  ∃ a c, v = .slice a N c ∧ (N = 0 ∨ ∃ b, a = some b ∧ b.block < g ∧ b.block < w.heap.size ∧ ∀ j, j < N → ∃ x : Int, 0 ≤ x ∧ x < 256 ∧ w.cell? (b.add j) = some (.int .u8 x))
/-- The cursor in block g over the bytes v. -/
def Cur (w : World) (g : Nat) (v : Value) (N : Nat) : Prop := ∃ i h : Int, 0 ≤ i ∧ i ≤ N ∧ w.heap[g]? = some (.cells #[v, .int .i64 i, .int .i64 h] 103 (0, 0))

theorem add_blockC (b : Addr) (j : Nat) : (b.add j).block = b.block := by unfold Addr.add; split <;> rfl
theorem CodeB.keep {w w' : World} {v : Value} {N g : Nat} (h : CodeB w v N g) (hb : ∀ k, k < g → k < w.heap.size → w'.heap[k]? = w.heap[k]?) (hs : w.heap.size ≤ w'.heap.size) : CodeB w' v N g := by
  obtain ⟨a, c, hv, hh⟩ := h
  refine ⟨a, c, hv, ?_⟩
  rcases hh with h0 | ⟨b, ha, hg, hlt, hc⟩
  · exact .inl h0
  · refine .inr ⟨b, ha, hg, Nat.lt_of_lt_of_le hlt hs, fun j hj => ?_⟩
    obtain ⟨x, h1, h2, h3⟩ := hc j hj
    refine ⟨x, h1, h2, ?_⟩
    rw [← h3]
    have e := hb b.block hg hlt
    simp [World.cell?, add_blockC, e]
theorem CodeB.below {w w' : World} {v : Value} {N g : Nat} (h : CodeB w v N g) (hb : Below w.heap.size w w') : CodeB w' v N g := h.keep (fun k _ hk => hb.block k hk) hb.size
theorem CodeB.turn {w w' : World} {v : Value} {N g : Nat} (h : CodeB w v N g) (hb : w.grownBy w' (some g)) : CodeB w' v N g := h.keep (fun k hk hlt => hb.block k hlt (fun e => by cases e; omega)) hb.size
theorem Cur.below {w w' : World} {v : Value} {N g : Nat} (h : Cur w g v N) (hb : Below w.heap.size w w') : Cur w' g v N := by
  obtain ⟨i, x, h1, h2, h3⟩ := h
  exact ⟨i, x, h1, h2, (hb.block _ (Array.getElem?_eq_some_iff.1 h3).1).trans h3⟩
theorem Cur.keep {w w' : World} {v : Value} {N g : Nat} (h : Cur w g v N) (hb : w'.heap[g]? = w.heap[g]?) : Cur w' g v N := by
  obtain ⟨i, x, h1, h2, h3⟩ := h
  exact ⟨i, x, h1, h2, hb.trans h3⟩
theorem Cur.lt {w : World} {v : Value} {N g : Nat} (h : Cur w g v N) : g < w.heap.size := by
  obtain ⟨i, x, h1, h2, h3⟩ := h
  exact (Array.getElem?_eq_some_iff.1 h3).1

/-- A draw: a number x of which Q holds; the cursor's block alone has turned. -/
def Drawn (w : World) (g : Nat) (v : Value) (N : Nat) (Q : Int → Prop) (e : Ending) (w' : World) : Prop :=
  ∃ x, e = .returned (.int .i64 x) ∧ Q x ∧ Cur w' g v N ∧ w.grownBy w' (some g)

theorem grown_draw {w w1 : World} {r : Option Nat} (h : w.grownBy w1 r) (n : Nat) : w.grownBy (w1.drewN n) r := ⟨h.os, h.tape, h.output, h.size, h.block⟩
theorem KeepsOthers2 (w : World) (g j : Nat) (v : Value) : w.heap.size ≤ (w.setCell ⟨g, j, none⟩ v).heap.size := by simp [World.setCell]
theorem grown_set {w w1 : World} {g : Nat} (h : w.grownBy w1 (some g)) (j : Nat) (v : Value) : w.grownBy (w1.setCell ⟨g, j, none⟩ v) (some g) :=
  ⟨h.os, h.tape, h.output, Nat.le_trans h.size (KeepsOthers2 _ _ _ _), fun k hk hne => (heap_setCell_other _ _ _ _ (fun e => hne (by rw [e]))).trans (h.block k hk hne)⟩

set_option maxHeartbeats 2000000 in
theorem l01Byte (g N : Nat) (v : Value) (w : World) (hN : N ≤ 9000000000000000) (hc : CodeB w v N g) (hk : Cur w g v N) :
    Calls Tryz.prog 100 #[.pointer (some ⟨g, 0, none⟩)] w (Drawn w g v N fun x => 0 ≤ x ∧ x < 256) := by
  obtain ⟨i, h, hi0, hi1, hg⟩ := hk
  obtain ⟨a, c, rfl, hh⟩ := hc
  have c0 : w.cell? ⟨g, 0, none⟩ = some (.slice a N c) := by rw [cell_of_row _ _ _ _ _ _ hg]; rfl
  have c1 : w.cell? ⟨g, 1, none⟩ = some (.int .i64 i) := by rw [cell_of_row _ _ _ _ _ _ hg]; rfl
  have c2 : w.cell? ⟨g, 2, none⟩ = some (.int .i64 h) := by rw [cell_of_row _ _ _ _ _ _ hg]; rfl
  have f0 := frozen_of_row w g 1 _ _ hg
  have f2 := frozen_of_row w g 2 _ _ hg
  go_enter Tryz.func100, Tryz.ntmps100
  go_wp2_with fail
  generalize wrap64 (wrap64 (h * 6364136223846793005) + 1442695040888963407) = E
  have hg1 : (w.setCell ⟨g, 2, none⟩ (.int .i64 E)).heap[g]? = some (.cells #[.slice a N c, .int .i64 i, .int .i64 E] 103 (0, 0)) := heap_setCell_same w g 2 _ _ (.int .i64 E) hg
  have hgr : w.grownBy (w.setCell ⟨g, 2, none⟩ (.int .i64 E)) (some g) := ⟨rfl, rfl, rfl, (KeepsOthers2 w g 2 _), fun k _ hne => heap_setCell_other _ _ _ _ (fun e => hne (by rw [e]))⟩
  generalize w.setCell ⟨g, 2, none⟩ (.int .i64 E) = w1 at hg1 hgr ⊢
  clear c0 c1 c2 f0 f2 hg
  have c0 : w1.cell? ⟨g, 0, none⟩ = some (.slice a N c) := by rw [cell_of_row _ _ _ _ _ _ hg1]; rfl
  have c1 : w1.cell? ⟨g, 1, none⟩ = some (.int .i64 i) := by rw [cell_of_row _ _ _ _ _ _ hg1]; rfl
  have c2 : w1.cell? ⟨g, 2, none⟩ = some (.int .i64 E) := by rw [cell_of_row _ _ _ _ _ _ hg1]; rfl
  go_quiet (fail)
  have hX : 0 ≤ bits .and .i64 (bits .xor .i64 (E / 8589934592) (E / 35184372088832)) 255 ∧ bits .and .i64 (bits .xor .i64 (E / 8589934592) (E / 35184372088832)) 255 ≤ 255 := and_le _ 255 (by decide)
  generalize bits .and .i64 (bits .xor .i64 (E / 8589934592) (E / 35184372088832)) 255 = X at hX ⊢
  obtain ⟨n, rfl⟩ : ∃ n : Nat, i = n := ⟨i.toNat, by omega⟩
  clear c2
  go_wp2_with fail
  by_cases hlt : n < N
  · have hlt2 : (n : Int) < (N : Int) := by omega
    rcases hh with h0 | ⟨b, rfl, hb1, hb2, hcell⟩
    · omega
    · obtain ⟨x, hx0, hx1, hx⟩ := hcell n hlt
      have d0 : w1.cell? (b.add n) = some (.int .u8 x) := by
        rw [← hx]
        have e := hgr.block b.block hb2 (fun e => by cases e; omega)
        simp [World.cell?, add_blockC, e]
      clear hcell hx
      go_quiet (fail)
      go_wp2_with fail
      go_quiet (fail)
      have hY : 0 ≤ bits .and .i64 (X + x) 255 ∧ bits .and .i64 (X + x) 255 ≤ 255 := and_le _ 255 (by decide)
      generalize bits .and .i64 (X + x) 255 = Y at hY ⊢
      have f1 := frozen_of_row w1 g 1 _ _ hg1
      go_wp2_with fail
      go_ret
      exact ⟨Y, rfl, by omega, ⟨(n : Int) + 1, E, by omega, by omega, heap_setCell_same _ g 1 _ _ _ hg1⟩, grown_set (grown_draw hgr _) 1 _⟩
  · obtain rfl : n = N := by omega
    go_quiet (fail)
    go_wp2_with fail
    go_ret
    exact ⟨X, rfl, by omega, ⟨(n : Int), E, by omega, by omega, hg1⟩, grown_draw (grown_draw hgr _) _⟩

theorem drawn_on {w w1 w2 : World} {g : Nat} (h : w.grownBy w1 (some g)) (k : w1.grownBy w2 (some g)) : w.grownBy w2 (some g) :=
  ⟨k.os.trans h.os, k.tape.trans h.tape, k.output.trans h.output, Nat.le_trans h.size k.size, fun i hi hne => (k.block i (Nat.lt_of_lt_of_le hi h.size) hne).trans (h.block i hi hne)⟩

set_option maxHeartbeats 2000000 in
theorem l01Below_few (g N : Nat) (v : Value) (n : Int) (w : World) (hN : N ≤ 9000000000000000) (hc : CodeB w v N g) (hk : Cur w g v N) (hn1 : 1 ≤ n) (hn2 : n ≤ 256) :
    Calls Tryz.prog 60 #[.pointer (some ⟨g, 0, none⟩), .int .i64 n] w (Drawn w g v N fun x => 0 ≤ x ∧ x < n) := by
  go_enter Tryz.func60, Tryz.ntmps60
  go_wp2_with fail
  refine (l01Byte g N v w hN hc hk).mono ?_
  rintro e w1 ⟨x, rfl, ⟨hx0, hx1⟩, hcur, hgr⟩
  have hne : n ≠ 0 := by omega
  have h1 : 0 ≤ x.tmod n ∧ x.tmod n < n := ⟨Int.tmod_nonneg _ hx0, Int.tmod_lt_of_pos _ (by omega)⟩
  obtain ⟨y, hy⟩ : ∃ y, x.tmod n = y := ⟨_, rfl⟩
  rw [hy] at h1
  go_wp2_with fail
  go_ret
  exact ⟨y, rfl, h1, hcur, hgr⟩

theorem l01Below_none (g N : Nat) (v : Value) (n : Int) (w : World) (hk : Cur w g v N) (hn : n ≤ 0) :
    Calls Tryz.prog 60 #[.pointer (some ⟨g, 0, none⟩), .int .i64 n] w (Drawn w g v N fun x => x = 0) := by
  go_enter Tryz.func60, Tryz.ntmps60
  go_wp2_with fail
  go_ret
  exact ⟨0, rfl, rfl, hk, ⟨rfl, rfl, rfl, Nat.le_refl _, fun _ _ _ => rfl⟩⟩

set_option maxHeartbeats 4000000 in
theorem l01Below_many (g N : Nat) (v : Value) (n : Int) (w : World) (hN : N ≤ 9000000000000000) (hc : CodeB w v N g) (hk : Cur w g v N) (hn1 : 256 < n) :
    Calls Tryz.prog 60 #[.pointer (some ⟨g, 0, none⟩), .int .i64 n] w (Drawn w g v N fun x => 0 ≤ x ∧ x < n) := by
  go_enter Tryz.func60, Tryz.ntmps60
  go_wp2_with fail
  refine (l01Byte g N v w hN hc hk).mono ?_
  rintro e w1 ⟨x1, rfl, ⟨h10, h11⟩, hk1, hg1⟩
  have hc1 := hc.turn hg1
  go_wp2_with fail
  refine (l01Byte g N v w1 hN hc1 hk1).mono ?_
  rintro e w2 ⟨x2, rfl, ⟨h20, h21⟩, hk2, hg2⟩
  have hc2 := hc1.turn hg2
  go_wp2_with fail
  refine (l01Byte g N v w2 hN hc2 hk2).mono ?_
  rintro e w3 ⟨x3, rfl, ⟨h30, h31⟩, hk3, hg3⟩
  have hc3 := hc2.turn hg3
  go_wp2_with fail
  refine (l01Byte g N v w3 hN hc3 hk3).mono ?_
  rintro e w4 ⟨x4, rfl, ⟨h40, h41⟩, hk4, hg4⟩
  have hne : n ≠ 0 := by omega
  obtain ⟨s, hs⟩ : ∃ s, x1 * 16777216 + x2 * 65536 + x3 * 256 + x4 = s := ⟨_, rfl⟩
  have hs0 : 0 ≤ s := by omega
  have h1 : 0 ≤ s.tmod n ∧ s.tmod n < n := ⟨Int.tmod_nonneg _ hs0, Int.tmod_lt_of_pos _ (by omega)⟩
  obtain ⟨y, hy⟩ : ∃ y, s.tmod n = y := ⟨_, rfl⟩
  rw [hy] at h1
  go_wp2_with fail
  go_ret
  exact ⟨y, rfl, h1, hk4, drawn_on hg1 (drawn_on hg2 (drawn_on hg3 hg4))⟩

theorem l01Below (g N : Nat) (v : Value) (n : Int) (w : World) (hN : N ≤ 9000000000000000) (hc : CodeB w v N g) (hk : Cur w g v N) (hn1 : 1 ≤ n) :
    Calls Tryz.prog 60 #[.pointer (some ⟨g, 0, none⟩), .int .i64 n] w (Drawn w g v N fun x => 0 ≤ x ∧ x < n) := by
  by_cases h : n ≤ 256
  · exact l01Below_few g N v n w hN hc hk hn1 h
  · exact l01Below_many g N v n w hN hc hk (by omega)

set_option maxHeartbeats 2000000 in
theorem l01New (N : Nat) (v : Value) (w : World) (hN : N ≤ 9000000000000000) (hc : CodeB w v N w.heap.size) :
    Calls Tryz.prog 29 #[v] w fun e w' => e = .returned (.pointer (some ⟨w.heap.size, 0, none⟩)) ∧ Cur w' w.heap.size v N ∧ Below w.heap.size w w' := by
  obtain ⟨a, c, rfl, hh⟩ := hc
  have HH := Lib.hid hh
  clear hh
  go_enter Tryz.func29, Tryz.ntmps29
  go_wp2_with fail
  go_loop [3, 4] (fun h i => ∃ (k : Nat) (x : Int), k ≤ N ∧ i = .int .i64 k ∧ h = .int .i64 x ∧ 0 ≤ x ∧ x ≤ 10000000000000000) (fun _ i => N - (intOf i).toNat)
  case atStart => exact ⟨0, _, Nat.zero_le _, rfl, rfl, by omega, by omega⟩
  case round =>
    obtain ⟨k, x, hk, rfl, rfl, hx0, hx1⟩ := hrel
    by_cases hlt : k < N ∧ k < 4000
    · obtain ⟨hlt1, hlt2⟩ := hlt
      rcases HH.out with h0 | ⟨b, rfl, hb1, hb2, hcell⟩
      · omega
      · obtain ⟨y, hy0, hy1, hy⟩ := hcell k hlt1
        have hk1 : (k : Int) < (N : Int) := by omega
        have hk2 : (k : Int) < 4000 := by omega
        clear hcell
        go_wp2_with fail
        have hX : 0 ≤ bits .and .i64 (x * 131 + y + 7) 1073741823 ∧ bits .and .i64 (x * 131 + y + 7) 1073741823 ≤ 1073741823 := and_le _ 1073741823 (by decide)
        go_round
        case rel => exact ⟨k + 1, _, by omega, by go_num, rfl, hX.1, by omega⟩
        case measure => simp [intOf]; omega
    · by_cases h1 : k < N
      · have h2 : ¬ (k : Int) < 4000 := by omega
        have h3 : (k : Int) < (N : Int) := by omega
        go_wp2_with fail
        go_ret
        exact ⟨rfl, ⟨0, x, by omega, by omega, heap_alloc_new w _⟩, (Below.refl _ w).alloc (Nat.le_refl _) _⟩
      · obtain rfl : k = N := by omega
        go_wp2_with fail
        go_ret
        exact ⟨rfl, ⟨0, x, by omega, by omega, heap_alloc_new w _⟩, (Below.refl _ w).alloc (Nat.le_refl _) _⟩

end Go.Proofs.YtkbfbifepaoojaaGreatDoor

