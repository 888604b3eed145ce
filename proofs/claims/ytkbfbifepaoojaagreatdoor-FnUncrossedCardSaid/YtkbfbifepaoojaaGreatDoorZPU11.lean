/-
  CONTRACTS of the model's drawn maps: l02Sized, l02Right: a valid map. No law is proved here.
-/
import Derived.Test.YtkbfbifepaoojaaGreatDoorZPU10
import Derived.Test.YtkbfbifepaoojaaGreatDoorZPU05
namespace Go.Proofs.YtkbfbifepaoojaaGreatDoor
set_option maxRecDepth 4096
open Go.ChangeShapes Go.WideShapes Go.ChangeAt Go.RowKit

theorem turn_trans {a b c : World} {p : Nat} {row : Option Nat} (h : a.grownBy b (some p)) (k : b.grownBy c row) (hr : ∀ r, row = some r → a.heap.size ≤ r ∨ r = p) : a.grownBy c (some p) :=
  ⟨k.os.trans h.os, k.tape.trans h.tape, k.output.trans h.output, Nat.le_trans h.size k.size, fun i hi hne =>
    (k.block i (Nat.lt_of_lt_of_le hi h.size) (fun e => by
      rcases hr i e.symm with h1 | h1
      · omega
      · exact hne (by rw [h1]))).trans (h.block i hi hne)⟩
theorem turn_alloc {a b : World} {r : Option Nat} (h : a.grownBy b r) (o : Obj) : a.grownBy (b.alloc o) r :=
  ⟨h.os, h.tape, h.output, Nat.le_trans h.size (by simp), fun i hi hne => by
    rw [← h.block i hi hne]
    exact (by first | exact heap_alloc_old _ _ (Nat.lt_of_lt_of_le hi h.size) | exact heap_alloc_old _ _ _ (Nat.lt_of_lt_of_le hi h.size))⟩
theorem turn_refl (a : World) (r : Option Nat) : a.grownBy a r := ⟨rfl, rfl, rfl, Nat.le_refl _, fun _ _ _ => rfl⟩
theorem turn_below {a b c : World} {p : Nat} (h : a.grownBy b (some p)) (k : Below b.heap.size b c) : a.grownBy c (some p) := turn_trans (row := none) h ⟨k.os, k.tape, k.output, k.size, fun i hi _ => k.block i hi⟩ (fun r e => by cases e)

theorem turn_set {a b : World} {p B : Nat} (h : a.grownBy b (some p)) (hB : a.heap.size ≤ B) (j : Nat) (v : Value) : a.grownBy (b.setCell ⟨B, j, none⟩ v) (some p) :=
  ⟨h.os, h.tape, h.output, Nat.le_trans h.size (KeepsOthers2 _ _ _ _), fun k hk hne => (heap_setCell_other _ _ _ _ (by intro e; dsimp only at e; omega)).trans (h.block k hk hne)⟩

/-- Bytes of a map. -/
def AllKind (l : List UInt8) : Prop := ∀ b ∈ l, kindB (b.toNat : Int) = true
theorem allKind_snoc {l : List UInt8} {y : Int} (h : AllKind l) (h0 : 0 ≤ y) (h1 : y < 256) (hy : kindB y = true) : AllKind (l ++ [UInt8.ofNat y.toNat]) := by
  intro b hb
  rcases List.mem_append.1 hb with hb | hb
  · exact h b hb
  · rw [List.mem_singleton.1 hb]
    have e : (((UInt8.ofNat y.toNat).toNat : Nat) : Int) = y := by simp [UInt8.toNat_ofNat']; omega
    rw [e]
    exact hy
theorem gok_of_kind {a b : Nat} {l : List UInt8} (ha : 1 ≤ a) (ha8 : a ≤ 8) (hb : 1 ≤ b) (hb8 : b ≤ 8) (hl : l.length = a * b) (h : AllKind l) : gok a b ⟨l.toArray⟩ = true := by
  refine gok_yes ⟨⟨by omega, by omega⟩, ⟨by omega, by omega⟩, ?_⟩ (fun j hj => ?_)
  · show ((l.toArray.size : Nat) : Int) = _
    rw [List.size_toArray, hl, Int.natCast_mul]
  · have hj2 : j < l.length := by
      have e : (⟨l.toArray⟩ : ByteArray).size = l.length := by show l.toArray.size = _; simp
      omega
    unfold byteAt
    have e : (⟨l.toArray⟩ : ByteArray).data.toList.getD j 0 = l[j] := by
      simp [List.getD, hj2]
    rw [e]
    exact h _ (List.getElem_mem hj2)
theorem row_next {w1 : World} {base : Nat} {e : TypeId} {v : Value} {l : List UInt8} {k : Nat} {y : UInt8} (h : w1.ownsRow base e 1 v (k + 1) (cellsOf l ++ cellsOf [y])) : w1.ownsRow base e 1 v (k + 1) (cellsOf (l ++ [y])) := by
  rw [cellsOf_append]
  exact h

theorem own_ne {w : World} {B : Nat} {e : TypeId} {s n : Nat} {v : Value} {xs : List Value} {g : Nat} (h : w.ownsRow B e s v n xs) (hg : g < B) : v.ownBlock = none ∨ v.ownBlock ≠ some g := by
  cases hv : v.ownBlock with
  | none => exact .inl rfl
  | some k =>
    refine .inr (fun e => ?_)
    cases e
    have := (h.lt _ hv).1
    omega
theorem heap_on {w1 w6 : World} {o : Obj} {r : Option Nat} {g : Nat} (hg : (w1.alloc o).grownBy w6 r) (h : g < w1.heap.size) (hr : ¬ r = some g) : w6.heap[g]? = w1.heap[g]? := by
  rw [hg.block g (by simp; omega) (fun e => hr e.symm)]
  exact (by first | exact heap_alloc_old _ _ h | exact heap_alloc_old _ _ _ h)
theorem code_on {w1 w6 : World} {o : Obj} {r : Option Nat} {v : Value} {N g : Nat} (hc : CodeB w1 v N g) (hg : (w1.alloc o).grownBy w6 r) (hr : ∀ j, r = some j → g < j) : CodeB w6 v N g :=
  hc.keep (fun k hk hl => heap_on hg hl (fun e => by have := hr k e; omega)) (Nat.le_trans (by simp) hg.size)

/-- A value came back; the cursor's block alone has turned. -/
def DrawnV (w : World) (g : Nat) (v : Value) (N : Nat) (Q : Value → Prop) (e : Ending) (w' : World) : Prop :=
  ∃ x, e = .returned x ∧ Q x ∧ Cur w' g v N ∧ w.grownBy w' (some g)
/-- A valid map of the sides a and b. -/
def MapV (a b : Nat) (x : Value) : Prop := ∃ C, x = .agg #[.int .i64 a, .int .i64 b, .string C] ∧ gok a b C = true

set_option maxHeartbeats 4000000 in
theorem l02Sized (g N : Nat) (v : Value) (a b : Nat) (w : World) (hN : N ≤ 9000000000000000) (hc : CodeB w v N g) (hk : Cur w g v N) (ha : 1 ≤ a) (ha8 : a ≤ 8) (hb : 1 ≤ b) (hb8 : b ≤ 8) :
    Calls Tryz.prog 98 #[.pointer (some ⟨g, 0, none⟩), .int .i64 a, .int .i64 b] w (DrawnV w g v N (MapV a b)) := by
  obtain ⟨i0, hi, hz0, hz1, hz2⟩ := info_parts Tryz.info5
  obtain ⟨p, hp⟩ : ∃ p, a * b = p := ⟨_, rfl⟩
  have hp2 : (a : Int) * (b : Int) = (p : Int) := by rw [← hp, Int.natCast_mul]
  have hp64 : p ≤ 64 := by rw [← hp]; exact Nat.mul_le_mul ha8 hb8
  have HP := Lib.hid hp
  have hgl := hk.lt
  have hown := World.ownsRow_made (base := w.heap.size + 1) (e := 5) (size := 1) (w.alloc (.cells #[.int .i64 0, .int .i64 0, .string ⟨#[]⟩] 25)) #[] 0 (by simp) (by decide) rfl
  rw [World.size_alloc] at hown
  have hgr0 := turn_alloc (turn_alloc (turn_refl w (some g)) (.cells #[.int .i64 0, .int .i64 0, .string ⟨#[]⟩] 25)) (.cells #[] 5)
  have hR0 : ((w.alloc (.cells #[.int .i64 0, .int .i64 0, .string ⟨#[]⟩] 25)).alloc (.cells #[] 5)).heap[w.heap.size]? = some (.cells #[.int .i64 0, .int .i64 0, .string ⟨#[]⟩] 25 (0, 0)) := by
    have h1 : (w.alloc (.cells #[.int .i64 0, .int .i64 0, .string ⟨#[]⟩] 25)).heap[w.heap.size]? = _ := heap_alloc_new w _
    rw [← h1]
    exact (by first | exact heap_alloc_old _ _ (by simp) | exact heap_alloc_old _ _ _ (by simp))
  clear hp
  go_enter Tryz.func98, Tryz.ntmps98
  go_wp2_with fail
  go_loopw [7, 8] (fun r i wr => ∃ (k : Nat) (l : List UInt8), k ≤ p ∧ i = .int .i64 k ∧ l.length = k ∧ AllKind l ∧ wr.ownsRow (w.heap.size + 1) 5 1 r k (cellsOf l) ∧ w.grownBy wr (some g) ∧ Cur wr g v N ∧ CodeB wr v N g ∧
    wr.heap[w.heap.size]? = some (.cells #[.int .i64 0, .int .i64 0, .string ⟨#[]⟩] 25 (0, 0))) (fun _ i _ => p - (intOf i).toNat)
  case atStart =>
    exact ⟨0, [], Nat.zero_le _, rfl, rfl, (fun _ h => by cases h), hown, hgr0, hk.below (((Below.refl _ w).alloc (Nat.le_refl _) _).alloc (by simp) _), hc.below (((Below.refl _ w).alloc (Nat.le_refl _) _).alloc (by simp) _), hR0⟩
  case round =>
    clear hown hgr0 hk hc hR0
    obtain ⟨k, l, hk, rfl, hl, hkind, hown, hgr, hcur, hcode, hR⟩ := hrel
    by_cases hlt : k < p
    · have hlt2 : (k : Int) < (p : Int) := by omega
      have hws := hgr.size
      go_wp2_with fail
      refine (l01Below g N v 8 wr hN hcode hcur (by decide)).mono ?_
      rintro e w1 ⟨x, rfl, ⟨hx0, hx1⟩, hcur1, hg1⟩
      have hown1 := hown.kept hg1 (own_ne hown (by omega))
      have hgr1 := drawn_on hgr hg1
      have hcode1 := hcode.turn hg1
      have hR1 := (hg1.block w.heap.size (Array.getElem?_eq_some_iff.1 hR).1 (fun e => by cases e; omega)).trans hR
      have hs1 := hg1.size
      clear hown hgr hcur hcode hg1 hR
      rcases (show x = 0 ∨ x = 1 ∨ x = 2 ∨ x = 3 ∨ 4 ≤ x by omega) with rfl | rfl | rfl | rfl | hx4
      · go_wp2_with (at_builtin; refine wpList_append_own _ rfl _ _ 22 rfl (w.heap.size + 1) 5 i0 (.int .u8 0) 1 1 Tryz.underlying22 hi hz0 hz1 hz2 rfl (by decide) _ _ _ rfl (hown1.alloc _) ⟨w1.heap.size, 0, none⟩ 1 1 (cellsOf [UInt8.ofNat (35 : Int).toNat]) rfl rfl (cells_new1 _ 35 (by omega) (by omega) _) (cellsOf_one _) (by unfold maxLen; omega) (by omega) (by simp; omega) ?_; intro v' w6 hown6 hgrow _; have hgr6 := turn_trans (turn_alloc hgr1 (.cells #[.int .u8 35] 5)) hgrow (fun r e => by have := (hown1.lt r e).1; omega); have hcur6 := hcur1.keep (heap_on hgrow hcur1.lt (fun e => by have := (hown1.lt g e).1; omega)); have hcode6 := code_on hcode1 hgrow (fun j e => by have := (hown1.lt j e).1; omega); have hR6 := (heap_on hgrow (Array.getElem?_eq_some_iff.1 hR1).1 (fun e => by have := (hown1.lt _ e).1; omega)).trans hR1; clear hgrow)
        go_roundw
        case rel => exact ⟨k + 1, l ++ [UInt8.ofNat (35 : Int).toNat], by omega, by go_num, by simp [hl], allKind_snoc hkind (by omega) (by omega) (by decide), row_next hown6, hgr6, hcur6, hcode6, hR6⟩
        case measure => simp [intOf]; omega
      · go_wp2_with fail
        refine (l01Below g N v 3 w1 hN hcode1 hcur1 (by decide)).mono ?_
        rintro e w2 ⟨z, rfl, ⟨hz0', hz1'⟩, hcur2, hg2⟩
        have hown2 := hown1.kept hg2 (own_ne hown1 (by omega))
        have hgr2 := drawn_on hgr1 hg2
        have hcode2 := hcode1.turn hg2
        have hR2 := (hg2.block w.heap.size (Array.getElem?_eq_some_iff.1 hR1).1 (fun e => by cases e; omega)).trans hR1
        have hs2 := hg2.size
        clear hg2
        go_wp2_with (at_builtin; refine wpList_append_own _ rfl _ _ 22 rfl (w.heap.size + 1) 5 i0 (.int .u8 0) 1 1 Tryz.underlying22 hi hz0 hz1 hz2 rfl (by decide) _ _ _ rfl (hown2.alloc _) ⟨w2.heap.size, 0, none⟩ 1 1 (cellsOf [UInt8.ofNat ((65 + z) : Int).toNat]) rfl rfl (cells_new1 _ (65 + z) (by omega) (by omega) _) (cellsOf_one _) (by unfold maxLen; omega) (by omega) (by simp; omega) ?_; intro v' w6 hown6 hgrow _; have hgr6 := turn_trans (turn_alloc hgr2 (.cells #[.int .u8 (65 + z)] 5)) hgrow (fun r e => by have := (hown2.lt r e).1; omega); have hcur6 := hcur2.keep (heap_on hgrow hcur2.lt (fun e => by have := (hown2.lt g e).1; omega)); have hcode6 := code_on hcode2 hgrow (fun j e => by have := (hown2.lt j e).1; omega); have hR6 := (heap_on hgrow (Array.getElem?_eq_some_iff.1 hR2).1 (fun e => by have := (hown2.lt _ e).1; omega)).trans hR2; clear hgrow)
        go_roundw
        case rel => exact ⟨k + 1, l ++ [UInt8.ofNat ((65 + z) : Int).toNat], by omega, by go_num, by simp [hl], allKind_snoc hkind (by omega) (by omega) (by unfold kindB; simp; omega), row_next hown6, hgr6, hcur6, hcode6, hR6⟩
        case measure => simp [intOf]; omega
      · go_wp2_with fail
        refine (l01Below g N v 3 w1 hN hcode1 hcur1 (by decide)).mono ?_
        rintro e w2 ⟨z, rfl, ⟨hz0', hz1'⟩, hcur2, hg2⟩
        have hown2 := hown1.kept hg2 (own_ne hown1 (by omega))
        have hgr2 := drawn_on hgr1 hg2
        have hcode2 := hcode1.turn hg2
        have hR2 := (hg2.block w.heap.size (Array.getElem?_eq_some_iff.1 hR1).1 (fun e => by cases e; omega)).trans hR1
        have hs2 := hg2.size
        clear hg2
        go_wp2_with (at_builtin; refine wpList_append_own _ rfl _ _ 22 rfl (w.heap.size + 1) 5 i0 (.int .u8 0) 1 1 Tryz.underlying22 hi hz0 hz1 hz2 rfl (by decide) _ _ _ rfl (hown2.alloc _) ⟨w2.heap.size, 0, none⟩ 1 1 (cellsOf [UInt8.ofNat ((65 + z) : Int).toNat]) rfl rfl (cells_new1 _ (65 + z) (by omega) (by omega) _) (cellsOf_one _) (by unfold maxLen; omega) (by omega) (by simp; omega) ?_; intro v' w6 hown6 hgrow _; have hgr6 := turn_trans (turn_alloc hgr2 (.cells #[.int .u8 (65 + z)] 5)) hgrow (fun r e => by have := (hown2.lt r e).1; omega); have hcur6 := hcur2.keep (heap_on hgrow hcur2.lt (fun e => by have := (hown2.lt g e).1; omega)); have hcode6 := code_on hcode2 hgrow (fun j e => by have := (hown2.lt j e).1; omega); have hR6 := (heap_on hgrow (Array.getElem?_eq_some_iff.1 hR2).1 (fun e => by have := (hown2.lt _ e).1; omega)).trans hR2; clear hgrow)
        go_roundw
        case rel => exact ⟨k + 1, l ++ [UInt8.ofNat ((65 + z) : Int).toNat], by omega, by go_num, by simp [hl], allKind_snoc hkind (by omega) (by omega) (by unfold kindB; simp; omega), row_next hown6, hgr6, hcur6, hcode6, hR6⟩
        case measure => simp [intOf]; omega
      · go_wp2_with fail
        refine (l01Below g N v 6 w1 hN hcode1 hcur1 (by decide)).mono ?_
        rintro e w2 ⟨z, rfl, ⟨hz0', hz1'⟩, hcur2, hg2⟩
        have hown2 := hown1.kept hg2 (own_ne hown1 (by omega))
        have hgr2 := drawn_on hgr1 hg2
        have hcode2 := hcode1.turn hg2
        have hR2 := (hg2.block w.heap.size (Array.getElem?_eq_some_iff.1 hR1).1 (fun e => by cases e; omega)).trans hR1
        have hs2 := hg2.size
        clear hg2
        go_wp2_with (at_builtin; refine wpList_append_own _ rfl _ _ 22 rfl (w.heap.size + 1) 5 i0 (.int .u8 0) 1 1 Tryz.underlying22 hi hz0 hz1 hz2 rfl (by decide) _ _ _ rfl (hown2.alloc _) ⟨w2.heap.size, 0, none⟩ 1 1 (cellsOf [UInt8.ofNat ((97 + z) : Int).toNat]) rfl rfl (cells_new1 _ (97 + z) (by omega) (by omega) _) (cellsOf_one _) (by unfold maxLen; omega) (by omega) (by simp; omega) ?_; intro v' w6 hown6 hgrow _; have hgr6 := turn_trans (turn_alloc hgr2 (.cells #[.int .u8 (97 + z)] 5)) hgrow (fun r e => by have := (hown2.lt r e).1; omega); have hcur6 := hcur2.keep (heap_on hgrow hcur2.lt (fun e => by have := (hown2.lt g e).1; omega)); have hcode6 := code_on hcode2 hgrow (fun j e => by have := (hown2.lt j e).1; omega); have hR6 := (heap_on hgrow (Array.getElem?_eq_some_iff.1 hR2).1 (fun e => by have := (hown2.lt _ e).1; omega)).trans hR2; clear hgrow)
        go_roundw
        case rel => exact ⟨k + 1, l ++ [UInt8.ofNat ((97 + z) : Int).toNat], by omega, by go_num, by simp [hl], allKind_snoc hkind (by omega) (by omega) (by unfold kindB; simp; omega), row_next hown6, hgr6, hcur6, hcode6, hR6⟩
        case measure => simp [intOf]; omega
      · have e0 : (x == 0) = false := by simp; omega
        have e1 : (x == 1) = false := by simp; omega
        have e2 : (x == 2) = false := by simp; omega
        have e3 : (x == 3) = false := by simp; omega
        go_wp2_with (at_builtin; refine wpList_append_own _ rfl _ _ 22 rfl (w.heap.size + 1) 5 i0 (.int .u8 0) 1 1 Tryz.underlying22 hi hz0 hz1 hz2 rfl (by decide) _ _ _ rfl (hown1.alloc _) ⟨w1.heap.size, 0, none⟩ 1 1 (cellsOf [UInt8.ofNat (46 : Int).toNat]) rfl rfl (cells_new1 _ 46 (by omega) (by omega) _) (cellsOf_one _) (by unfold maxLen; omega) (by omega) (by simp; omega) ?_; intro v' w6 hown6 hgrow _; have hgr6 := turn_trans (turn_alloc hgr1 (.cells #[.int .u8 46] 5)) hgrow (fun r e => by have := (hown1.lt r e).1; omega); have hcur6 := hcur1.keep (heap_on hgrow hcur1.lt (fun e => by have := (hown1.lt g e).1; omega)); have hcode6 := code_on hcode1 hgrow (fun j e => by have := (hown1.lt j e).1; omega); have hR6 := (heap_on hgrow (Array.getElem?_eq_some_iff.1 hR1).1 (fun e => by have := (hown1.lt _ e).1; omega)).trans hR1; clear hgrow)
        go_roundw
        case rel => exact ⟨k + 1, l ++ [UInt8.ofNat (46 : Int).toNat], by omega, by go_num, by simp [hl], allKind_snoc hkind (by omega) (by omega) (by decide), row_next hown6, hgr6, hcur6, hcode6, hR6⟩
        case measure => simp [intOf]; omega
    · obtain rfl : k = p := by omega
      have hconv := run_text_own (P := Tryz.prog) wr 22 9 5 Tryz.underlying22 Tryz.underlying5 Tryz.underlying9 hown
      have f0 := frozen_of_row wr w.heap.size 0 _ _ hR
      have f1 := frozen_of_row wr w.heap.size 1 _ _ hR
      have f2 := frozen_of_row wr w.heap.size 2 _ _ hR
      have d0 : wr.cell? ⟨w.heap.size, 0, none⟩ = some (.int .i64 0) := by rw [cell_of_row _ _ _ _ _ _ hR]; rfl
      have d1 : wr.cell? ⟨w.heap.size, 1, none⟩ = some (.int .i64 0) := by rw [cell_of_row _ _ _ _ _ _ hR]; rfl
      have d2 : wr.cell? ⟨w.heap.size, 2, none⟩ = some (.string ⟨#[]⟩) := by rw [cell_of_row _ _ _ _ _ _ hR]; rfl
      have hG := gok_of_kind ha ha8 hb hb8 (hl.trans HP.out.symm) hkind
      go_wp2_with fail
      have hne : g ≠ w.heap.size := by omega
      exact bodyPost_ret (v := .agg #[.int .i64 a, .int .i64 b, .string ⟨l.toArray⟩]) (by simp [results, Tryz.results98, go_sem, d0, d1, d2]) rfl ⟨_, rfl, ⟨_, rfl, hG⟩, hcur.keep (by rw [heap_setCell_other _ _ _ _ hne, heap_setCell_other _ _ _ _ hne, heap_setCell_other _ _ _ _ hne]), turn_set (turn_set (turn_set hgr (Nat.le_refl _) 0 _) (Nat.le_refl _) 1 _) (Nat.le_refl _) 2 _⟩

end Go.Proofs.YtkbfbifepaoojaaGreatDoor

