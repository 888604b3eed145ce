/-
  CONTRACT of the program's crossingFault. No law is proved here.
  CONTRACT of the program's gridRow.free. No law is proved here.
  CONTRACT of the program's gridRows.freeAt. No law is proved here.
  CONTRACT of the program's GridOk. No law is proved here.
  CONTRACT of the program's SpotOf. No law is proved here.
-/
import Derived.Test.YtkbfbifepaoojaaGreatDoorZPU08
import Derived.Test.YtkbfbifepaoojaaGreatDoorZPU22
import Derived.Test.YtkbfbifepaoojaaGreatDoorZPU04
import Derived.Test.YtkbfbifepaoojaaGreatDoorZPU06
import Derived.Test.YtkbfbifepaoojaaGreatDoorZPU05
namespace Go.Proofs.YtkbfbifepaoojaaGreatDoor
set_option maxRecDepth 4096
open Go.ChangeShapes Go.WideShapes Go.ChangeAt Go.RowKit

/-- A fault as an error. -/
def errV (c : Nat) : Value := if c = 0 then .nilIface else .iface 62 (.agg #[.int .i64 (c : Int)])
theorem errV_zero : errV 0 = .nilIface := rfl
theorem errV_pos {c : Nat} (h : c ≠ 0) : errV c = .iface 62 (.agg #[.int .i64 (c : Int)]) := if_neg h
theorem pair_cells {w w1 : World} {a b c : Value} {t : TypeId} (h : Below (w.alloc (.cells #[a, b, c] t)).heap.size (w.alloc (.cells #[a, b, c] t)) w1) :
    w1.cell? ⟨w.heap.size, 0, none⟩ = some a ∧ w1.cell? ⟨w.heap.size, 1, none⟩ = some b ∧ w1.cell? ⟨w.heap.size, 2, none⟩ = some c := by
  have h0 : w1.heap[w.heap.size]? = some (.cells #[a, b, c] t) := (h.block _ (by simp)).trans (heap_alloc_new w _)
  refine ⟨?_, ?_, ?_⟩ <;> (rw [cell_of_row _ _ _ _ _ _ h0]; rfl)
theorem wf_small {n : Nat} (h : n ≤ 2000000) : (Lit.int .i64 (n : Int)).wf = true := WalkArith.wf_i64 (by omega)

/-- How far the times have been looked through. -/
structure CrossTo (Ws : List (List Int)) (t : Nat) (m : Bool) (a b : Nat) : Prop where
  meet : anyT (fun t => meetV Ws (t : Int)) t = m
  swap : anyT (fun t => decide (0 < swapsV Ws (t : Int))) t = decide (0 < a)
  ring : anyT (fun t => decide (0 < ringsV Ws (t : Int))) t = decide (0 < b)
  aLe : a ≤ t * 2000000
  bLe : b ≤ t * 2000000
theorem cross_start {Ws : List (List Int)} : CrossTo Ws 0 false 0 0 := ⟨rfl, rfl, rfl, by omega, by omega⟩
theorem cross_next {Ws : List (List Int)} {t a b s r : Nat} {m q : Bool} (h : CrossTo Ws t m a b) (hW : Ws.length ≤ 2000000) (hq : meetV Ws (t : Int) = q ∨ m = true ∧ q = true) (hs : swapsV Ws (t : Int) = s) (hr : ringsV Ws (t : Int) = r) : CrossTo Ws (t + 1) (m || q) (a + s) (b + r) := by
  have h1 : s ≤ 2000000 := by have := swaps_le (Ws := Ws) (t := (t : Int)); omega
  have h2 : r ≤ 2000000 := by have := rings_le (Ws := Ws) (t := (t : Int)); omega
  refine ⟨?_, ?_, ?_, by have := h.aLe; omega, by have := h.bLe; omega⟩
  · rw [anyT_succ, h.meet]
    rcases hq with hq | ⟨rfl, rfl⟩
    · rw [hq]
    · rfl
  · rw [anyT_succ, h.swap, hs, ← Bool.decide_or]
    exact decide_eq_decide.2 (by omega)
  · rw [anyT_succ, h.ring, hr, ← Bool.decide_or]
    exact decide_eq_decide.2 (by omega)
theorem cross_end {Ws : List (List Int)} {t a b : Nat} {m : Bool} (h : CrossTo Ws t m a b) : crossV Ws t = if m = true then 4 else if 0 < a then 5 else if 0 < b then 6 else 0 := by
  unfold crossV
  rw [h.meet, h.swap, h.ring]
  simp only [decide_eq_true_eq]

set_option maxHeartbeats 4000000 in
theorem implCross (v : Value) (Ws : List (List Int)) (T : Nat) (M : Int) (c : Nat) (hT20 : T ≤ 20) (hW : Ws.length ≤ 2000000) (hT : totW Ws ≤ 2000000) (HX : Hid (crossV Ws T = c)) (w : World) (hv : WaysAt w v Ws) :
    Calls Tryz.prog 80 #[.agg #[.int .i64 (T : Int), .int .i64 M, v]] w (Made w (errV c)) := by
  have HME : Hid (∀ (t : Nat) (wr : World), t ≤ 20 → Below w.heap.size w wr → ∀ q, meetV Ws (t : Int) = q → Calls Tryz.prog 16 #[v, .int .i64 (t : Int)] wr (Made wr (.bool q))) := Lib.hid fun t wr ht hB q hq => implMeet v Ws t q hW hT (Lib.hid hq) wr (waysAt_on hv hB) (wf_small (by omega))
  have HSE : Hid (∀ (t : Nat) (wr : World), t ≤ 20 → Below w.heap.size w wr → ∀ q, swapsV Ws (t : Int) = q → Calls Tryz.prog 19 #[v, .int .i64 (t : Int)] wr (Made wr (.int .i64 (q : Int)))) := Lib.hid fun t wr ht hB q hq => implSwaps v Ws t q hW hT (Lib.hid hq) wr (waysAt_on hv hB) (wf_small (by omega))
  have HRE : Hid (∀ (t : Nat) (wr : World), t ≤ 20 → Below w.heap.size w wr → ∀ q, ringsV Ws (t : Int) = q → Calls Tryz.prog 18 #[v, .int .i64 (t : Int)] wr (Made wr (.int .i64 (q : Int)))) := Lib.hid fun t wr ht hB q hq => implRings v Ws t q hW hT (Lib.hid hq) wr (waysAt_on hv hB) (wf_small (by omega))
  have hB := Below.refl (w.alloc (.cells #[.int .i64 (T : Int), .int .i64 M, v] 29)).heap.size (w.alloc (.cells #[.int .i64 (T : Int), .int .i64 M, v] 29))
  have HB0 := Lib.hid hB
  obtain ⟨p0, p1, p2⟩ := pair_cells hB
  obtain ⟨av, cv, rfl, _⟩ := hv
  clear hT hB
  go_enter Tryz.func80, Tryz.ntmps80
  go_wp2
  clear p0 p1 p2
  go_loopw [3, 4, 5, 6, 9] (fun x y z _ i wr => ∃ (t a b : Nat) (m : Bool), t ≤ T ∧ x = .bool m ∧ y = .int .i64 (a : Int) ∧ z = .int .i64 (b : Int) ∧ i = .int .i64 (t : Int) ∧ Hid (CrossTo Ws t m a b) ∧ Below (w.alloc (.cells #[.int .i64 (T : Int), .int .i64 M, .slice av Ws.length cv] 29)).heap.size (w.alloc (.cells #[.int .i64 (T : Int), .int .i64 M, .slice av Ws.length cv] 29)) wr) (fun _ _ _ _ i _ => T - (intOf i).toNat)
  case atStart => exact ⟨0, 0, 0, false, Nat.zero_le _, rfl, rfl, rfl, rfl, Lib.hid cross_start, HB0.out⟩
  case round =>
    clear HB0
    obtain ⟨t, a, b, m, ht, rfl, rfl, rfl, rfl, HC, hB⟩ := hrel
    have haL := HC.out.aLe
    have hbL := HC.out.bLe
    obtain ⟨p0, p1, p2⟩ := pair_cells hB
    by_cases hlt : t < T
    · have hlt2 : (t : Int) < (T : Int) := by omega
      obtain ⟨q, HQ⟩ : ∃ q, Hid (meetV Ws (t : Int) = q) := ⟨_, rfl⟩
      obtain ⟨s, HSV⟩ : ∃ s, Hid (swapsV Ws (t : Int) = s) := ⟨_, rfl⟩
      obtain ⟨r, HRV⟩ : ∃ r, Hid (ringsV Ws (t : Int) = r) := ⟨_, rfl⟩
      have hsl : s ≤ 2000000 := by have := swaps_le (Ws := Ws) (t := (t : Int)); rw [HSV.out] at this; omega
      have hrl : r ≤ 2000000 := by have := rings_le (Ws := Ws) (t := (t : Int)); rw [HRV.out] at this; omega
      have HBW := Lib.hid hB
      clear hB
      cases m with
      | true =>
        have HN := Lib.hid (cross_next (q := true) HC.out hW (.inr ⟨rfl, rfl⟩) HSV.out HRV.out)
        clear p0 p1
        go_wp2_with fail
        refine (HSE.out t wr (by omega) (box_below HBW.out) s HSV.out).mono ?_
        rintro e w1 ⟨rfl, hb⟩
        have hB1 := HBW.out.trans (hb.mono HBW.out.size)
        obtain ⟨p0, p1, p2⟩ := pair_cells hB1
        have HB1 := Lib.hid hB1
        clear hb hB1 p0 p1
        go_wp2_with fail
        refine (HRE.out t w1 (by omega) (box_below HB1.out) r HRV.out).mono ?_
        rintro e w2 ⟨rfl, hb⟩
        have HB2 := Lib.hid (HB1.out.trans (hb.mono HB1.out.size))
        clear hb
        go_wp2_with fail
        go_roundw
        case rel => exact ⟨t + 1, a + s, b + r, true, by omega, rfl, by go_num, by go_num, by go_num, HN, HB2.out⟩
        case measure => simp [intOf]; omega
      | false =>
        have HN := Lib.hid (cross_next (q := q) HC.out hW (.inl HQ.out) HSV.out HRV.out)
        clear p0 p1
        go_wp2_with fail
        refine (HME.out t wr (by omega) (box_below HBW.out) q HQ.out).mono ?_
        rintro e w0 ⟨rfl, hb⟩
        have hB1 := HBW.out.trans (hb.mono HBW.out.size)
        obtain ⟨p0, p1, p2⟩ := pair_cells hB1
        have HB0 := Lib.hid hB1
        clear hb hB1 p0 p1
        go_wp2_with fail
        refine (HSE.out t w0 (by omega) (box_below HB0.out) s HSV.out).mono ?_
        rintro e w1 ⟨rfl, hb⟩
        have hB1 := HB0.out.trans (hb.mono HB0.out.size)
        obtain ⟨p0, p1, p2⟩ := pair_cells hB1
        have HB1 := Lib.hid hB1
        clear hb hB1 p0 p1
        go_wp2_with fail
        refine (HRE.out t w1 (by omega) (box_below HB1.out) r HRV.out).mono ?_
        rintro e w2 ⟨rfl, hb⟩
        have HB2 := Lib.hid (HB1.out.trans (hb.mono HB1.out.size))
        clear hb
        go_wp2_with fail
        go_roundw
        case rel => exact ⟨t + 1, a + s, b + r, q, by omega, rfl, by go_num, by go_num, by go_num, HN, HB2.out⟩
        case measure => simp [intOf]; omega
    · obtain rfl : t = T := by omega
      have hnl : ¬ (t : Int) < (t : Int) := by omega
      have hc := cross_end HC.out
      rw [HX.out] at hc
      clear p0 p1 p2
      cases m with
      | true =>
        obtain rfl : c = 4 := hc
        go_wp2
        go_ret
        exact ⟨rfl, box_below hB⟩
      | false =>
        rw [if_neg (by decide)] at hc
        by_cases ha : 0 < a
        · rw [if_pos ha] at hc
          subst hc
          have ha2 : (0 : Int) < (a : Int) := by omega
          go_wp2
          go_ret
          exact ⟨rfl, box_below hB⟩
        · rw [if_neg ha] at hc
          have ha2 : ¬ (0 : Int) < (a : Int) := by omega
          by_cases hb : 0 < b
          · rw [if_pos hb] at hc
            subst hc
            have hb2 : (0 : Int) < (b : Int) := by omega
            go_wp2
            go_ret
            exact ⟨rfl, box_below hB⟩
          · rw [if_neg hb] at hc
            subst hc
            have hb2 : ¬ (0 : Int) < (b : Int) := by omega
            go_wp2
            go_ret
            exact ⟨rfl, box_below hB⟩

end Go.Proofs.YtkbfbifepaoojaaGreatDoor

namespace Go.Proofs.YtkbfbifepaoojaaGreatDoor
set_option maxRecDepth 4096
open Go.ChangeShapes Go.WideShapes Go.ChangeAt Go.RowKit

theorem freeI (r : ByteArray) (x : Int) (n : Nat) (e : x = n) (h : n < r.size) (w : World) :
    Calls Tryz.prog 93 #[.string r, .int .i64 x] w fun e w' => e = .returned (.bool (freeB (byteAt r n))) ∧ w = w' := by
  subst e
  have hat := run_at (P := Tryz.prog) 143 r .i64 n n rfl h Tryz.underlying143
  go_enter Tryz.func93, Tryz.ntmps93
  go_wp2
  go_ret
  exact ⟨bool_ret (c := freeB (byteAt r n)) rfl (by unfold freeB; simp [bne, Bool.beq_eq_decide_eq]), rfl⟩

theorem freeTo (r : ByteArray) (x : Int) (n : Nat) (b : Bool) (hb : Hid (freeB (byteAt r n) = b)) (e : x = n) (h : n < r.size) (w : World) :
    Calls Tryz.prog 93 #[.string r, .int .i64 x] w fun e w' => e = .returned (.bool b) ∧ w = w' := by
  rw [← hb.out]
  exact freeI r x n e h w

end Go.Proofs.YtkbfbifepaoojaaGreatDoor

namespace Go.Proofs.YtkbfbifepaoojaaGreatDoor
set_option maxRecDepth 4096
open Go.ChangeShapes Go.WideShapes Go.ChangeAt Go.RowKit

/-- Row y of the array of rows. -/
def rowAt (C : ByteArray) (a b y : Nat) : ByteArray := if y < b then rowT C a y else ⟨#[]⟩
theorem rowsV_any (C : ByteArray) (a b y : Nat) (h : y < 8) : (rowsV C a b)[y]? = some (.string (rowAt C a b y)) := by
  unfold rowsV rowAt
  rw [Array.getElem?_ofFn, dif_pos h]
  dsimp only
  split <;> rfl

theorem freeVTo {W H : Int} {C : ByteArray} {z : Int} {f : Bool} (HF : Hid (freeV W H C z = f)) (h : z < 0) : false = f := by
  rw [← HF.out]
  unfold freeV cellOk
  have h1 : decide (0 ≤ z) = false := by simpa using h
  rw [h1]
  simp

set_option maxHeartbeats 1000000 in
theorem stepFree (a b : Nat) (C : ByteArray) (x y : Int) (f : Bool) (hg : gok a b C = true) (HF : Hid (freeV a b C (cellAtV a b C x y) = f)) (w : World) :
    Calls Tryz.prog 122 #[.agg (rowsV C a b), .int .i64 x, .int .i64 y] w (Made w (.bool f)) := by
  obtain ⟨⟨⟨h1, h2⟩, ⟨h3, h4⟩, hs⟩, _⟩ := gok_out hg
  have hs2 : C.size = a * b := by have : ((a * b : Nat) : Int) = (a : Int) * (b : Int) := Int.natCast_mul a b; omega
  have hB := (Below.refl w.heap.size w).alloc (Nat.le_refl _) (.cells (rowsV C a b) 172)
  have HG := Lib.hid hg
  have HS2 := Lib.hid hs2
  clear hs hs2 hg
  by_cases hy0 : 0 ≤ y
  · by_cases hy8 : y < 8
    · obtain ⟨Y, rfl⟩ : ∃ Y : Nat, y = Y := ⟨y.toNat, by omega⟩
      by_cases hx0 : 0 ≤ x
      · obtain ⟨X, rfl⟩ : ∃ X : Nat, x = X := ⟨x.toNat, by omega⟩
        obtain ⟨r, HR⟩ : ∃ r, Hid (rowAt C a b Y = r) := ⟨_, rfl⟩
        have d1 : (w.alloc (.cells (rowsV C a b) 172)).cell? ⟨w.heap.size, Y, none⟩ = some (.string r) := by
          rw [cell_of_row _ _ _ _ _ _ (heap_alloc_new w _), rowsV_any C a b Y (by omega), HR.out]
        by_cases hx : (X : Int) < (r.size : Int)
        · have hYb : Y < b := by
            rcases Nat.lt_or_ge Y b with h | h
            · exact h
            · have e := HR.out; unfold rowAt at e; rw [if_neg (by omega)] at e; rw [← e] at hx; have : (X : Int) < 0 := hx; omega
          have hrT : rowT C a Y = r := by have e := HR.out; unfold rowAt at e; rwa [if_pos hYb] at e
          have hle : (Y + 1) * a ≤ C.size := by rw [HS2.out, Nat.mul_comm a b]; exact Nat.mul_le_mul_right a (by omega)
          have hrs : r.size = a := by rw [← hrT]; exact row_size C a Y hle
          have hlt : Y * a + X < C.size := by rw [Nat.add_mul, Nat.one_mul] at hle; omega
          have hz : cellAtV a b C X Y = ((Y * a + X : Nat) : Int) := by
            rw [cellAtV_yes ⟨HG.out, ⟨by omega, by omega⟩, by omega, by omega⟩, Int.natCast_add, Int.natCast_mul]
          have HP : Hid (freeB (byteAt r X) = f) := Lib.hid (by
            rw [← HF.out, hz, freeV_at HG.out hlt, ← hrT, row_byte C a Y X hle (by omega)])
          clear hrT hle hlt hz
          go_enter Tryz.func122, Tryz.ntmps122
          go_wp2_with (go_at_call 93; (with_reducible refine (freeTo _ _ X f HP rfl (by omega) _).mono ?_); rintro e w2 ⟨rfl, rfl⟩)
          go_ret
          exact ⟨rfl, hB⟩
        · have HN : Hid (false = f) := Lib.hid (by
            refine freeVTo HF ?_
            rw [cellAtV_no (fun h => ?_)]
            · decide
            · have hYb : Y < b := by omega
              have hrT : rowT C a Y = r := by have e := HR.out; unfold rowAt at e; rwa [if_pos hYb] at e
              have hle : (Y + 1) * a ≤ C.size := by rw [HS2.out, Nat.mul_comm a b]; exact Nat.mul_le_mul_right a (by omega)
              have hrs : r.size = a := by rw [← hrT]; exact row_size C a Y hle
              omega)
          go_enter Tryz.func122, Tryz.ntmps122
          go_wp2
          go_ret
          exact ⟨bool_ret HN.out rfl, hB⟩
      · have HN : Hid (false = f) := Lib.hid (freeVTo HF (by rw [cellAtV_no (fun h => by omega)]; decide))
        go_enter Tryz.func122, Tryz.ntmps122
        go_wp2
        go_ret
        exact ⟨bool_ret HN.out rfl, hB⟩
    · have HN : Hid (false = f) := Lib.hid (freeVTo HF (by rw [cellAtV_no (fun h => by omega)]; decide))
      go_enter Tryz.func122, Tryz.ntmps122
      go_wp2
      go_ret
      exact ⟨bool_ret HN.out rfl, hB⟩
  · have HN : Hid (false = f) := Lib.hid (freeVTo HF (by rw [cellAtV_no (fun h => by omega)]; decide))
    go_enter Tryz.func122, Tryz.ntmps122
    go_wp2
    go_ret
    exact ⟨bool_ret HN.out rfl, hB⟩

end Go.Proofs.YtkbfbifepaoojaaGreatDoor

namespace Go.Proofs.YtkbfbifepaoojaaGreatDoor
set_option maxRecDepth 4096
open Go.ChangeShapes Go.WideShapes Go.ChangeAt Go.RowKit

theorem implGridOk (W H : Int) (C : ByteArray) (hC : C.size ≤ 1048576) (w : World) :
    Calls Tryz.prog 84 #[.agg #[.int .i64 W, .int .i64 H, .string C]] w (Made w (.bool (gok W H C))) := by
  go_enter Tryz.func84, Tryz.ntmps84
  go_wp2_with (first
    | (go_at_call 118; (with_reducible refine (rowsOf W H C hC _).mono ?_); rintro e w' ⟨rfl, hb⟩)
    | (refine wpStoreRows W H C _ _ rfl rfl rfl rfl ?_))
  go_ret
  exact ⟨rfl, (((Below.refl _ _).alloc (Nat.le_refl _) _).trans (hb.mono (by simp))).trans ((rows_in _ _).1.mono (by have := hb.size; simp at this; omega))⟩

end Go.Proofs.YtkbfbifepaoojaaGreatDoor

namespace Go.Proofs.YtkbfbifepaoojaaGreatDoor
set_option maxRecDepth 4096
open Go.ChangeShapes Go.WideShapes Go.ChangeAt Go.RowKit

theorem implSpot_no (W H : Int) (C : ByteArray) (c : Int) (hC : C.size ≤ 1048576) (h : ¬ cellOk W H C c = true) (w : World) :
    Calls Tryz.prog 121 #[.agg #[.int .i64 W, .int .i64 H, .string C], .int .i64 c] w (Spot (-1) (-1) w) := by
  rcases cellOk_no h with hg | ⟨hg, h1⟩ | ⟨hg, h1, h2⟩
  all_goals
    clear h
    have hB := Below.refl (w.alloc (.cells #[.int .i64 W, .int .i64 H, .string C] 25)).heap.size (w.alloc (.cells #[.int .i64 W, .int .i64 H, .string C] 25))
    go_enter Tryz.func121, Tryz.ntmps121
    go_wp2_with (go_at_call 84; (with_reducible refine (implGridOk W H C hC _).mono ?_); rintro e w1 ⟨rfl, hb⟩; replace hB := chain hB hb; obtain ⟨c0, c1, c2⟩ := box_cells hB; clear hb)
    go_ret2
    exact ⟨rfl, box_below hB⟩

set_option maxHeartbeats 400000 in
theorem implSpot_yes (a b : Nat) (C : ByteArray) (n q m : Nat) (hC : C.size ≤ 1048576) (hg : gok a b C = true) (hn : n < C.size) (ha : 1 ≤ a) (_hm : m < a) (hd : (n : Int).tdiv (a : Int) = (q : Int)) (he : (n : Int).tmod (a : Int) = (m : Int)) (hq : q < 8) (w : World) :
    Calls Tryz.prog 121 #[.agg #[.int .i64 a, .int .i64 b, .string C], .int .i64 n] w (Spot m q w) := by
  have hB := Below.refl (w.alloc (.cells #[.int .i64 a, .int .i64 b, .string C] 25)).heap.size (w.alloc (.cells #[.int .i64 a, .int .i64 b, .string C] 25))
  have hn3 : ¬ (C.size : Int) ≤ (n : Int) := by omega
  have HE := Lib.hid hd
  have HE2 := Lib.hid he
  have e3 : IntKind.i64.wrap (q : Int) = (q : Int) := IntWalk.i64_in _ (by omega)
  have HE3 := Lib.hid e3
  clear hd he e3
  go_enter Tryz.func121, Tryz.ntmps121
  go_wp2_with (go_at_call 84; (with_reducible refine (implGridOk a b C hC _).mono ?_); rintro e w1 ⟨rfl, hb⟩; replace hB := chain hB hb; obtain ⟨c0, c1, c2⟩ := box_cells hB; clear hb)
  have e1 := HE.out
  have e2 := HE2.out
  have e3 := HE3.out
  go_quiet (fail)
  clear e1 e2 e3
  go_wp2
  go_ret2
  exact ⟨rfl, box_below (below_drewN hB nq)⟩

theorem implSpotOf (W H : Int) (C : ByteArray) (c : Int) (hC : C.size ≤ 1048576) (w : World) :
    Calls Tryz.prog 121 #[.agg #[.int .i64 W, .int .i64 H, .string C], .int .i64 c] w (Spot (spotX W H C c) (spotY W H C c) w) := by
  by_cases h : cellOk W H C c = true
  · obtain ⟨hg, n, rfl, hn⟩ := cellOk_out h
    obtain ⟨a, b, q, m, rfl, rfl, ha1, _, hb, hq, hm, hd, he, _⟩ := spot_of hg hn
    refine (implSpot_yes a b C n q m hC hg hn ha1 hm hd he (by omega) w).mono fun e w' hh => spot_to hh ?_ ?_
    · unfold spotX; rw [if_pos h, he]
    · unfold spotY; rw [if_pos h, hd]
  · refine (implSpot_no W H C c hC h w).mono fun e w' hh => spot_to hh ?_ ?_
    · unfold spotX; rw [if_neg h]
    · unfold spotY; rw [if_neg h]

end Go.Proofs.YtkbfbifepaoojaaGreatDoor

