/-
  CONTRACT of the program's iterator of the neighbours: it gives the list of the free cells beside a free cell, in order. No law is proved here.
-/
import Derived.RangeFuncNested
import Derived.RangeFuncBound
import Derived.RangeFuncCalls
import Derived.RangeFuncLeaves
import Derived.Shelf.Abstract
import Derived.Shelf.RegionOpen
import Derived.OwnWalkIn
import Derived.TacticsInMore
import Derived.LoopNIn
import Derived.LoopIn
import Derived.RangeFuncBox
import Derived.Maps.AppendAt
import Derived.Test.YtkbfbifepaoojaaGreatDoorZPU24
import Derived.Test.YtkbfbifepaoojaaGreatDoorZPU07
namespace Go.Proofs.YtkbfbifepaoojaaGreatDoor
set_option maxRecDepth 4096
open Go.ChangeShapes Go.WideShapes Go.ChangeAt Go.RowKit Go.Shelf

attribute [local go_sem] Oper.semAt_some

/-- The iterator's two variables lie as they lay. -/
def Keeps2 (G K : Nat) (w w' : World) : Prop := w.heap.size ≤ w'.heap.size ∧ w'.heap[G]? = w.heap[G]? ∧ w'.heap[K]? = w.heap[K]?
theorem Keeps2.trans {G K : Nat} {a b c : World} (h : Keeps2 G K a b) (k : Keeps2 G K b c) : Keeps2 G K a c := ⟨Nat.le_trans h.1 k.1, k.2.1.trans h.2.1, k.2.2.trans h.2.2⟩
theorem Keeps2.refl (G K : Nat) (w : World) : Keeps2 G K w w := ⟨Nat.le_refl _, rfl, rfl⟩
theorem keeps2_below {G K : Nat} {w w' : World} (hb : Below w.heap.size w w') (hG : G < w.heap.size) (hK : K < w.heap.size) : Keeps2 G K w w' := ⟨hb.size, hb.block G hG, hb.block K hK⟩
theorem cell_block {w w' : World} {g : Nat} (h : w'.heap[g]? = w.heap[g]?) (j : Nat) : w'.cell? ⟨g, j, none⟩ = w.cell? ⟨g, j, none⟩ := by simp [World.cell?, h]
theorem Caps.keep {w w' : World} {G K : Nat} {W H : Int} {C : ByteArray} {c : Int} (h : Caps w G K W H C c) (k : Keeps2 G K w w') : Caps w' G K W H C c :=
  ⟨(cell_block k.2.1 0).trans h.1, (cell_block k.2.1 1).trans h.2.1, (cell_block k.2.1 2).trans h.2.2.1, (cell_block k.2.2 0).trans h.2.2.2.1, Nat.lt_of_lt_of_le h.2.2.2.2.1 k.1, Nat.lt_of_lt_of_le h.2.2.2.2.2 k.1⟩

/-- What a round that goes on keeps: the iterator's two variables, and every array of rows. -/
def NbrK (G K : Nat) (w w' : World) : Prop := Keeps2 G K w w' ∧ ∀ (k : Nat) (cs : Array Value), w.heap[k]? = some (.cells cs 172 (0, 0)) → w'.heap[k]? = some (.cells cs 172 (0, 0))
theorem nbrK_refl (G K : Nat) (w : World) : NbrK G K w w := ⟨Keeps2.refl _ _ _, fun _ _ h => h⟩
theorem nbrK_b {G K B : Nat} (hG : G < B) (hK : K < B) (W : World) (l : Nat) (o o' : Obj) (hl : B ≤ l) (h : W.heap[l]? = some o) (hc : o.isCells = false) (_ : o.isWalk = false) : NbrK G K W (W.putObj l o') := by
  refine ⟨⟨by simp, World.putObj_heap_other (by omega), World.putObj_heap_other (by omega)⟩, fun k cs hk => ?_⟩
  have hne : k ≠ l := fun e => by subst e; rw [hk] at h; cases h; cases hc
  exact (World.putObj_heap_other hne).trans hk
theorem grown_of_below {w w' : World} (hb : Below w.heap.size w w') : w.grownBy w' none := ⟨hb.os, hb.tape, hb.output, hb.size, fun i hi _ => hb.block i hi⟩
theorem abide {β : Type} {B : Nat} {J : β → World → Prop} (hJ : AbidesFrom B J) {s : β} {w w' : World} (h : J s w) (hb : Below w.heap.size w w') : J s w' := hJ s w w' none h (grown_of_below hb) (fun r e => by cases e)
theorem nbrK_t {G K : Nat} {A B C : World} (h1 : NbrK G K A B) (h2 : NbrK G K B C) : NbrK G K A C := ⟨h1.1.trans h2.1, fun i cs hi => h2.2 i cs (h1.2 i cs hi)⟩

theorem rowsV_eight (C : ByteArray) (a b : Nat) : rowsV C a b = #[.string (rowAt C a b 0), .string (rowAt C a b 1), .string (rowAt C a b 2), .string (rowAt C a b 3), .string (rowAt C a b 4), .string (rowAt C a b 5), .string (rowAt C a b 6), .string (rowAt C a b 7)] := by
  apply Array.ext_getElem?
  intro i
  rcases Nat.lt_or_ge i 8 with h | h
  · rw [rowsV_any C a b i h]
    match i, h with
    | 0, _ => rfl
    | 1, _ => rfl
    | 2, _ => rfl
    | 3, _ => rfl
    | 4, _ => rfl
    | 5, _ => rfl
    | 6, _ => rfl
    | 7, _ => rfl
  · rw [Array.getElem?_eq_none (by rw [rowsV_size]; exact h), Array.getElem?_eq_none (by simpa using h)]
theorem stepFree8 (a b : Nat) (C : ByteArray) (x y : Int) (f : Bool) (hg : gok a b C = true) (HF : Hid (freeV a b C (cellAtV a b C x y) = f)) (w : World) :
    Calls Tryz.prog 122 #[.agg #[.string (rowAt C a b 0), .string (rowAt C a b 1), .string (rowAt C a b 2), .string (rowAt C a b 3), .string (rowAt C a b 4), .string (rowAt C a b 5), .string (rowAt C a b 6), .string (rowAt C a b 7)], .int .i64 x, .int .i64 y] w (Made w (.bool f)) := by
  rw [← rowsV_eight]
  exact stepFree a b C x y f hg HF w
theorem rows_cells {a b : Nat} {C : ByteArray} {w : World} {g : Nat} (hg : gok a b C = true) (h : w.heap[g]? = some (.cells (rowsR a b C) 172 (0, 0))) :
    w.cell? ⟨g, 0, none⟩ = some (.string (rowAt C a b 0)) ∧ w.cell? ⟨g, 1, none⟩ = some (.string (rowAt C a b 1)) ∧ w.cell? ⟨g, 2, none⟩ = some (.string (rowAt C a b 2)) ∧ w.cell? ⟨g, 3, none⟩ = some (.string (rowAt C a b 3)) ∧
    w.cell? ⟨g, 4, none⟩ = some (.string (rowAt C a b 4)) ∧ w.cell? ⟨g, 5, none⟩ = some (.string (rowAt C a b 5)) ∧ w.cell? ⟨g, 6, none⟩ = some (.string (rowAt C a b 6)) ∧ w.cell? ⟨g, 7, none⟩ = some (.string (rowAt C a b 7)) := by
  rw [rowsR_yes hg] at h
  refine ⟨?_, ?_, ?_, ?_, ?_, ?_, ?_, ?_⟩ <;> rw [cell_of_row _ _ _ _ _ _ h, rowsV_any C a b _ (by decide)]

theorem two_at {w w5 : World} {t : TypeId} {r d : Int} (hb : Below (w.alloc (.cells #[.int .i64 r, .int .i64 d] t)).heap.size (w.alloc (.cells #[.int .i64 r, .int .i64 d] t)) w5) :
    w5.cell? ⟨w.heap.size, 0, none⟩ = some (.int .i64 r) ∧ w5.cell? ⟨w.heap.size, 1, none⟩ = some (.int .i64 d) := by
  refine ⟨(hb.cell (p := ⟨w.heap.size, 0, none⟩) (by simp)).trans ?_, (hb.cell (p := ⟨w.heap.size, 1, none⟩) (by simp)).trans ?_⟩ <;> rw [cell_of_row _ _ _ _ _ _ (heap_alloc_new w _)] <;> rfl

/-- Step number k. -/
theorem step_at (a b : Nat) (C : ByteArray) (m q : Int) (k : Nat) (hk : k < 4) : ∃ r d : Int, (-1 ≤ r ∧ r ≤ 1) ∧ (-1 ≤ d ∧ d ≤ 1) ∧
    (∀ w, (Instr.index 181 (.agg #[.int .i64 0, .int .i64 (-1), .int .i64 (-1), .int .i64 0, .int .i64 1, .int .i64 0, .int .i64 0, .int .i64 1]) (.int .i64 k)).run Tryz.prog w = .ok (.agg #[.int .i64 r, .int .i64 d]) w) ∧ (nbrs a b C m q)[k]? = some (cellAtV a b C (m + r) (q + d)) := by
  match k, hk with
  | 0, _ => exact ⟨0, -1, by decide, by decide, fun w => by kernel_rfl, by unfold nbrs; rw [Int.add_zero]; rfl⟩
  | 1, _ => exact ⟨-1, 0, by decide, by decide, fun w => by kernel_rfl, by unfold nbrs; rw [Int.add_zero]; rfl⟩
  | 2, _ => exact ⟨1, 0, by decide, by decide, fun w => by kernel_rfl, by unfold nbrs; rw [Int.add_zero]; rfl⟩
  | 3, _ => exact ⟨0, 1, by decide, by decide, fun w => by kernel_rfl, by unfold nbrs; rw [Int.add_zero]; rfl⟩

theorem step_on {a b : Nat} {C : ByteArray} {x y : Int} (_hg : gok a b C = true) (hf : freeV a b C (cellAtV a b C x y) = true) : cellAtV a b C x y = y * a + x := by
  by_cases h : gok a b C = true ∧ (0 ≤ x ∧ x < (a : Int)) ∧ (0 ≤ y ∧ y < (b : Int))
  · exact cellAtV_yes h
  · rw [cellAtV_no h] at hf
    unfold freeV cellOk at hf
    simp at hf

theorem frees_prefix (a b : Nat) (C : ByteArray) (L : List Int) (k : Nat) : frees a b C L k <+: L.filter (freeV a b C) := by
  unfold frees
  exact (List.take_prefix k L).filter _

set_option maxRecDepth 100000 in
set_option maxHeartbeats 4000000 in
theorem nbr_yes (a b : Nat) (C : ByteArray) (n q m : Nat) (hC : C.size ≤ 1048576) (hg : gok a b C = true) (hn : n < C.size) (ha8 : a ≤ 8) (hb8 : b ≤ 8) (hm : m < a) (hq : q < b) (hnn : q * a + m = n)
    (hsx : spotX a b C n = m) (hsy : spotY a b C n = q) (hf : freeV a b C n = true) (L : List Int) (HL : Hid (nbrs a b C m q = L)) (F : Nat) (l G K : Nat) (J Jx : List Int → World → Prop) (W : World)
    (hJ : AbidesFrom W.heap.size J)
    (hY : ∀ pre x W1, pre ++ [x] <+: L.filter (freeV a b C) → J pre W1 → pre.length < 4 → YieldAt Fence.wide (F - 1) Tryz.prog l #[.int .i64 x] W1 fun e W' =>
      (e = .returned (.bool true) ∧ J (pre ++ [x]) W' ∧ NbrK G K W1 W') ∨ (e = .returned (.bool false) ∧ Jx (pre ++ [x]) W'))
    (hcap : Caps W G K a b C n) (hS : SidesAt W) (h0 : J [] W) :
    CallsIn Fence.wide F Tryz.prog 120 #[.func (.yield l) #[] #[], .pointer (some ⟨G, 0, none⟩), .pointer (some ⟨K, 0, none⟩)] W fun e W' => (∃ v, e = .returned v) ∧
      ((∃ xs, xs = frees a b C L 4 ∧ J xs W') ∨ (∃ pre, (∃ k, k ≤ 4 ∧ pre = frees a b C L k) ∧ Jx pre W')) := by
  have hB := Below.refl W.heap.size W
  have HG := Lib.hid hg
  have HC := Lib.hid hcap
  have HS := Lib.hid hS
  have HX := Lib.hid hsx
  have HY := Lib.hid hsy
  have HF0 : Hid (freeV a b C (cellAtV a b C (spotX a b C n) (spotY a b C n)) = true) := Lib.hid (by
    rw [hsx, hsy, cellAtV_yes ⟨hg, ⟨by omega, by omega⟩, by omega, by omega⟩, ← Int.natCast_mul, ← Int.natCast_add, hnn]; exact hf)
  have HNN : Hid ((n : Int) = (q : Int) * (a : Int) + (m : Int)) := Lib.hid (by rw [← Int.natCast_mul, ← Int.natCast_add, hnn])
  have HN64 : Hid (C.size ≤ 64) := Lib.hid (by
    obtain ⟨⟨⟨h1, h2⟩, ⟨h3, h4⟩, hs⟩, _⟩ := gok_out hg
    have := mul_bd h1 h2 h3 h4
    omega)
  obtain ⟨c0, c1, c2, k0, hGW, hKW⟩ := hcap
  clear hg hsx hsy hf hnn hS
  refine callsIn_wide.2 ?_
  go_enter Tryz.func120, Tryz.ntmps120
  go_wp2_with (first
    | (go_at_call 118; (with_reducible refine (rowsOf a b C hC _).mono ?_); rintro e w1 ⟨rfl, hb⟩; replace hB := chain hB hb; clear hb)
    | (refine wpStoreRows a b C _ _ rfl rfl rfl rfl ?_; have hR := (rows_in w1 (rowsR a b C)).2; replace hB := chain hB (rows_in w1 (rowsR a b C)).1; obtain ⟨c0, c1, c2, k0, _, _⟩ := HC.out.later hB)
    | (go_at_call 121; (with_reducible refine (implSpotOf a b C n hC _).mono ?_); rintro e w2 ⟨rfl, hb⟩; have hR2 := (hb.block _ (Array.getElem?_eq_some_iff.1 hR).1).trans hR; replace hB := chain hB hb; clear hb hR; obtain ⟨d0, d1, d2, d3, d4, d5, d6, d7⟩ := rows_cells HG.out hR2)
    | (go_at_call 122; (with_reducible refine (stepFree8 a b C _ _ true HG.out HF0 _).mono ?_); rintro e w3 ⟨rfl, hb⟩; have hR3 := (hb.block _ (Array.getElem?_eq_some_iff.1 hR2).1).trans hR2; replace hB := chain hB hb; clear hb hR2 d0 d1 d2 d3 d4 d5 d6 d7; obtain ⟨s0, s1, s2, s3, s4, s5, s6, s7⟩ := sides_cells (HS.out.below hB)))
  rw [HX.out, HY.out]
  have hJ3 : J [] w3 := abide hJ h0 hB
  have hB3 : Keeps2 G K W w3 := keeps2_below hB hGW hKW
  clear s0 s1 s2 s3 s4 s5 s6 s7 c0 c1 c2 k0 hB
  generalize w1.heap.size = g at hR3 ⊢
  refine (wpIn_wide (n := F)).1 ?_
  gi_loopw [31] (fun i wr => ∃ k : Nat, k ≤ 4 ∧ i = .int .i64 k ∧ J (frees a b C L k) wr ∧ Keeps2 G K W wr ∧ wr.heap[g]? = some (.cells (rowsR a b C) 172 (0, 0))) (fun i _ => 4 - (intOf i).toNat)
  case atStart => exact ⟨0, by omega, rfl, hJ3, hB3, hR3⟩
  case round =>
    obtain ⟨k, hk, rfl, hJs, hbe, hRr⟩ := hrel
    by_cases hlt : k < 4
    · obtain ⟨r, d, hr, hd, hidx, hLk⟩ := step_at a b C m q k hlt
      rw [HL.out] at hLk
      have HLk := Lib.hid hLk
      obtain ⟨p, hp⟩ : ∃ p, d * (a : Int) = p := ⟨_, rfl⟩
      have hpb : -8 ≤ p ∧ p ≤ 8 := by
        have : d = -1 ∨ d = 0 ∨ d = 1 := by omega
        rcases this with rfl | rfl | rfl <;> simp at hp <;> omega
      obtain ⟨d0, d1, d2, d3, d4, d5, d6, d7⟩ := rows_cells HG.out hRr
      obtain ⟨c0, c1, c2, k0, hGr, hKr⟩ := HC.out.keep hbe
      have hn64 : n < 64 := by have := HN64.out; omega
      have hlt2 : (k : Int) < 4 := by omega
      clear hLk
      have hgr := (Array.getElem?_eq_some_iff.1 hRr).1
      have hlen : (frees a b C L k).length < 4 := Nat.lt_of_le_of_lt (frees_len a b C L k) hlt
      by_cases hf : freeV a b C (cellAtV a b C (m + r) (q + d)) = true
      · have HF := Lib.hid hf
        have hz := step_on HG.out hf
        have HLz : Hid (L[k]? = some ((n : Int) + p + r)) := Lib.hid (by rw [HLk.out, hz, Int.add_mul, hp, HNN.out]; congr 1; omega)
        have HFz : Hid (freeV a b C ((n : Int) + p + r) = true) := Lib.hid (by have e := HLz.out; rw [HLk.out] at e; rw [← Option.some.inj e]; exact hf)
        clear hf hz
        gi_wp2_with (refine ⟨trivial, fun h => (by cases h), ?_⟩; gi_at_call 122; refine (callsIn_wide.2 (stepFree8 a b C _ _ true HG.out HF _)).mono ?_; rintro e w5 ⟨rfl, hb⟩; have hb5 := box_below hb; obtain ⟨e0, e1⟩ := two_at hb; obtain ⟨c0, c1, c2, k0, hG5, hK5⟩ := HC.out.keep (hbe.trans (keeps2_below hb5 hGr hKr)); obtain ⟨fn, tmps, assign, body, hy, hRD⟩ := hY _ ((n : Int) + p + r) w5 (by rw [← frees_yes HLz.out HFz.out]; exact frees_prefix a b C L (k + 1)) (abide hJ hJs hb5) hlen)
        refine ⟨fun h => (by cases h), hRD.mono ?_⟩
        clear hy hRD c0 c1 c2 k0 e0 e1 hb d0 d1 d2 d3 d4 d5 d6 d7
        rintro e W3 (⟨rfl, hJ3, hk3⟩ | ⟨rfl, hJx3⟩)
        · gi_wp2
          go_roundw
          case rel => exact ⟨k + 1, by omega, by go_num, by rw [frees_yes HLz.out HFz.out]; exact hJ3, (hbe.trans (keeps2_below hb5 hGr hKr)).trans hk3.1, hk3.2 _ _ ((hb5.block _ hgr).trans hRr)⟩
          case measure => simp [intOf]; omega
        · gi_wp2
          refine bodyPost_ret (results_none rfl _ _ _) rfl ?_
          exact ⟨⟨_, rfl⟩, .inr ⟨_, ⟨k + 1, by omega, (frees_yes HLz.out HFz.out).symm⟩, hJx3⟩⟩
      · have hf2 : freeV a b C (cellAtV a b C (m + r) (q + d)) = false := by simpa using hf
        have HF := Lib.hid hf2
        clear hf hf2
        gi_wp2_with (refine ⟨trivial, fun h => (by cases h), ?_⟩; gi_at_call 122; refine (callsIn_wide.2 (stepFree8 a b C _ _ false HG.out HF _)).mono ?_; rintro e w5 ⟨rfl, hb⟩; have hb5 := box_below hb; clear hb)
        refine ⟨fun _ h => (by cases h), ?_⟩
        gi_wp2
        go_roundw
        case rel => exact ⟨k + 1, by omega, by go_num, by rw [frees_no HLk.out HF.out]; exact abide hJ hJs hb5, hbe.trans (keeps2_below hb5 hGr hKr), (hb5.block _ hgr).trans hRr⟩
        case measure => simp [intOf]; omega
    · obtain rfl : k = 4 := by omega
      gi_wp2
      go_end0
      exact ⟨⟨_, rfl⟩, .inl ⟨_, rfl, hJs⟩⟩

/-- The iterator: the free cells beside c, in order; or the first ones of them, where a round has said 'no more'. -/
theorem nbr_core (W H : Int) (C : ByteArray) (c : Int) (L : List Int) (hC : C.size ≤ 1048576) (HL : Hid (aroundL W H C c = L)) (F G K l : Nat) (J Jx : List Int → World → Prop) (W1 : World) (hJ : AbidesFrom W1.heap.size J)
    (hY : ∀ pre x W2, pre ++ [x] <+: L → J pre W2 → pre.length < 4 → YieldAt Fence.wide (F - 1) Tryz.prog l #[.int .i64 x] W2 fun e W' =>
      (e = .returned (.bool true) ∧ J (pre ++ [x]) W' ∧ NbrK G K W2 W') ∨ (e = .returned (.bool false) ∧ Jx (pre ++ [x]) W'))
    (hcap1 : Caps W1 G K W H C c) (hS1 : SidesAt W1) (h0 : J [] W1) :
    CallsIn Fence.wide F Tryz.prog 120 #[.func (.yield l) #[] #[], .pointer (some ⟨G, 0, none⟩), .pointer (some ⟨K, 0, none⟩)] W1 fun e W' => (∃ v, e = .returned v) ∧
      ((∃ xs, xs = L ∧ J xs W') ∨ (∃ pre, pre <+: L ∧ Jx pre W')) := by
  have gone : ∀ e W', L = [] → Gone W1 e W' → (∃ v, e = .returned v) ∧ ((∃ xs, xs = L ∧ J xs W') ∨ (∃ pre, pre <+: L ∧ Jx pre W')) := fun e W' hl h => ⟨h.1, .inl ⟨[], hl.symm, abide hJ h0 h.2⟩⟩
  by_cases hf : freeV W H C c = true
  · have hk : cellOk W H C c = true := by
      have h := hf
      unfold freeV at h
      simp only [Bool.and_eq_true] at h
      exact h.1
    obtain ⟨hg, n, rfl, hn⟩ := cellOk_out hk
    obtain ⟨a, b, q, m, rfl, rfl, ha1, ha8, hb8, hq, hm, hd, he, hnn⟩ := spot_of hg hn
    have hL2 : (nbrs a b C m q).filter (freeV a b C) = L := by
      rw [← HL.out]
      unfold aroundL
      rw [if_pos hf, hd, he]
    have hx : spotX a b C n = m := by unfold spotX; rw [if_pos hk, he]
    have hy : spotY a b C n = q := by unfold spotY; rw [if_pos hk, hd]
    refine (nbr_yes a b C n q m hC hg hn ha8 hb8 hm hq hnn hx hy hf _ (Lib.hid rfl) F l G K J Jx W1 hJ (by rw [hL2]; exact hY) hcap1 hS1 h0).mono ?_
    have h4 : frees a b C (nbrs a b C m q) 4 = L := by rw [← hL2]; rfl
    rintro e W' ⟨hv, ⟨xs, rfl, hj⟩ | ⟨pre, ⟨k, hk, rfl⟩, hj⟩⟩
    · exact ⟨hv, .inl ⟨_, h4, hj⟩⟩
    · exact ⟨hv, .inr ⟨_, by rw [← hL2]; exact frees_prefix _ _ _ _ _, hj⟩⟩
  · have hf2 : freeV W H C c = false := by simpa using hf
    have hl : L = [] := by
      rw [← HL.out]
      unfold aroundL
      rw [if_neg hf]
    cases hg : gok W H C with
    | false => exact (callsIn_wide.2 (nbr_bad W H C c hC hg l G K W1 hcap1)).mono fun e W' h => gone e W' hl h
    | true =>
      obtain ⟨⟨⟨h1, h2⟩, ⟨h3, h4⟩, hs⟩, _⟩ := gok_out hg
      obtain ⟨a, rfl⟩ : ∃ a : Nat, W = a := ⟨W.toNat, by omega⟩
      obtain ⟨b, rfl⟩ : ∃ b : Nat, H = b := ⟨H.toNat, by omega⟩
      exact (callsIn_wide.2 (nbr_none a b C c hC hg hf2 l G K W1 hcap1)).mono fun e W' h => gone e W' hl h

/-- The iterator's contract. -/
theorem nbr_stops (W H : Int) (C : ByteArray) (c : Int) (L : List Int) (hC : C.size ≤ 1048576) (HL : Hid (aroundL W H C c = L)) (F G K : Nat) (w : World) (hcap : Caps w G K W H C c) (hS : SidesAt w) :
    SeqStopsK Fence.wide F Tryz.prog 120 #[.pointer (some ⟨G, 0, none⟩), .pointer (some ⟨K, 0, none⟩)] (fun x : Int => #[Value.int .i64 x]) (NbrK G K) (fun ys => ys = L) (fun pre => pre <+: L) 4 w :=
  fun l J Jx W1 hW hJ _ hY h0 => nbr_core W H C c L hC HL F G K l J Jx W1 hJ (fun pre x W2 _ => hY pre x W2) (hcap.later hW) (hS.below hW) h0

/-- A cell of a list. -/
abbrev InL (L : List Int) : Type := { x : Int // x ∈ L }
def valsL {L : List Int} (ys : List (InL L)) : List Int := ys.map (·.1)
theorem valsL_snoc {L : List Int} (ys : List (InL L)) (y : InL L) : valsL (ys ++ [y]) = valsL ys ++ [y.1] := by simp [valsL]
/-- The iterator's contract, for a body that must know that what it is handed is a neighbour. -/
theorem nbr_stopsIn (W H : Int) (C : ByteArray) (c : Int) (L : List Int) (hC : C.size ≤ 1048576) (HL : Hid (aroundL W H C c = L)) (F G K : Nat) (w : World) (hcap : Caps w G K W H C c) (hS : SidesAt w) :
    SeqStopsK Fence.wide F Tryz.prog 120 #[.pointer (some ⟨G, 0, none⟩), .pointer (some ⟨K, 0, none⟩)] (fun x : InL L => #[Value.int .i64 x.1]) (NbrK G K) (fun ys => valsL ys = L) (fun pre => valsL pre <+: L) 4 w := by
  intro l J Jx W1 hW hJ _ hY h0
  refine (nbr_core W H C c L hC HL F G K l (fun pre W' => ∃ pre' : List (InL L), pre = valsL pre' ∧ J pre' W') (fun pre W' => ∃ pre' : List (InL L), pre = valsL pre' ∧ Jx pre' W') W1
    (fun s A B row hs hg hr => by obtain ⟨pre', e, h⟩ := hs; exact ⟨pre', e, hJ pre' A B row h hg hr⟩) (fun pre x W2 hp hs hl => ?_) (hcap.later hW) (hS.below hW) ⟨[], rfl, h0⟩).mono ?_
  · obtain ⟨pre', rfl, h⟩ := hs
    have hx : x ∈ L := hp.subset (by simp)
    refine YieldAt.mono (hY pre' ⟨x, hx⟩ W2 h (by simpa [valsL] using hl)) ?_
    rintro e W' (⟨he, h1, h2⟩ | ⟨he, h1⟩)
    · exact .inl ⟨he, ⟨_, (valsL_snoc pre' ⟨x, hx⟩).symm, h1⟩, h2⟩
    · exact .inr ⟨he, ⟨_, (valsL_snoc pre' ⟨x, hx⟩).symm, h1⟩⟩
  · rintro e W' ⟨hv, ⟨xs, hx, pre', e1, h⟩ | ⟨pre, hp, pre', e1, h⟩⟩
    · exact ⟨hv, .inl ⟨pre', e1.symm.trans hx, h⟩⟩
    · exact ⟨hv, .inr ⟨pre', (by show valsL pre' <+: L; rw [← e1]; exact hp), h⟩⟩

/-- neighbors: both arguments are boxed; the function value captures the boxes. -/
theorem implNeighbors (W H : Int) (C : ByteArray) (c : Int) (w : World) :
    Calls Tryz.prog 87 #[.agg #[.int .i64 W, .int .i64 H, .string C], .int .i64 c] w fun e w' =>
      e = .returned (.func (.func 120) #[] #[.pointer (some ⟨w.heap.size, 0, none⟩), .pointer (some ⟨w.heap.size + 1, 0, none⟩)]) ∧
        w' = (w.alloc (.cells #[.int .i64 W, .int .i64 H, .string C] 25)).alloc (.cells #[.int .i64 c] 3) := by
  go_enter Tryz.func87, Tryz.ntmps87
  go_wp2
  go_ret
  exact ⟨rfl, rfl⟩

theorem caps_new (W H : Int) (C : ByteArray) (c : Int) (w : World) (t u : TypeId) :
    Caps ((w.alloc (.cells #[.int .i64 W, .int .i64 H, .string C] t)).alloc (.cells #[.int .i64 c] u)) w.heap.size (w.heap.size + 1) W H C c := by
  have h1 := heap_alloc_new (w.alloc (.cells #[.int .i64 W, .int .i64 H, .string C] t)) (.cells #[.int .i64 c] u)
  rw [World.size_alloc] at h1
  have h0 := (heap_alloc_old (w.alloc (.cells #[.int .i64 W, .int .i64 H, .string C] t)) (.cells #[.int .i64 c] u) w.heap.size (by simp)).trans (heap_alloc_new w _)
  refine ⟨?_, ?_, ?_, ?_, by simp; omega, by simp⟩
  · rw [cell_of_row _ _ _ _ _ _ h0]; rfl
  · rw [cell_of_row _ _ _ _ _ _ h0]; rfl
  · rw [cell_of_row _ _ _ _ _ _ h0]; rfl
  · rw [cell_of_row _ _ _ _ _ _ h1]; rfl

theorem caps_new3 (W H : Int) (C : ByteArray) (c : Int) (w : World) (o : Obj) (t u : TypeId) :
    Caps (((w.alloc o).alloc (.cells #[.int .i64 W, .int .i64 H, .string C] t)).alloc (.cells #[.int .i64 c] u)) (w.heap.size + 1) (w.heap.size + 1 + 1) W H C c := by
  have h := caps_new W H C c (w.alloc o) t u
  simpa using h
theorem below3 (w : World) (o p q : Obj) : Below w.heap.size w (((w.alloc o).alloc p).alloc q) := (((Below.refl _ w).alloc (Nat.le_refl _) _).alloc (by simp) _).alloc (by simp; omega) _

end Go.Proofs.YtkbfbifepaoojaaGreatDoor

