/-
  CONTRACTS on grids: what spec.GridOk, laws.toGrid and laws.szGrid return. No law is proved here.
  CONTRACTS on the program's rows of a map: gridRow.free, park, zone, ok, and sideOk. No law is proved here.
-/
import Derived.Test.YtkbfbifepaoojaaGreatDoorZPU00
import Derived.Deep.QuietTactic
import Derived.BigQuiet
namespace Go.Proofs.YtkbfbifepaoojaaGreatDoor
set_option maxRecDepth 4096
open Go.ChangeShapes Go.WideShapes Go.ChangeAt Go.RowKit

/-- A byte that a map may hold. -/
def kindB (x : Int) : Bool := decide (x = 46 ∨ x = 35 ∨ (97 ≤ x ∧ x ≤ 102) ∨ (65 ≤ x ∧ x ≤ 70))

/-- The sides and the number of bytes of a valid map. -/
def Sides (W H : Int) (C : ByteArray) : Prop := (1 ≤ W ∧ W ≤ 8) ∧ (1 ≤ H ∧ H ≤ 8) ∧ (C.size : Int) = W * H
/-- All bytes are of the kinds. -/
def Kinds (C : ByteArray) (n : Nat) : Prop := ∀ j, j < n → kindB (byteAt C j) = true

noncomputable def gok (W H : Int) (C : ByteArray) : Bool := @decide (Sides W H C ∧ Kinds C C.size) (Classical.propDecidable _)

theorem gok_yes {W H : Int} {C : ByteArray} (h : Sides W H C) (h2 : Kinds C C.size) : gok W H C = true := by
  unfold gok
  exact (@decide_eq_true_iff _ (Classical.propDecidable _)).2 ⟨h, h2⟩
theorem gok_no {W H : Int} {C : ByteArray} (h : ¬ (Sides W H C ∧ Kinds C C.size)) : gok W H C = false := by
  unfold gok
  exact (@decide_eq_false_iff_not _ (Classical.propDecidable _)).2 h
theorem gok_out {W H : Int} {C : ByteArray} (h : gok W H C = true) : Sides W H C ∧ Kinds C C.size := by
  unfold gok at h
  exact (@decide_eq_true_iff _ (Classical.propDecidable _)).1 h
theorem kinds_snoc {C : ByteArray} {k : Nat} (h : Kinds C k) (hk : kindB (byteAt C k) = true) : Kinds C (k + 1) := by
  intro j hj
  rcases Nat.lt_or_ge j k with h1 | h1
  · exact h j h1
  · obtain rfl : j = k := by omega
    exact hk

theorem bool_ret {a b c : Bool} (h : c = b) (e : a = c) : Ending.returned (.bool a) = .returned (.bool b) := by rw [e, h]

theorem l02KindI (x : Int) (b : Bool) (HB : Hid (kindB x = b)) (h0 : 0 ≤ x) (h : x < 256) (w : World) :
    Calls Tryz.prog 157 #[.int .u8 x] w fun e w' => e = .returned (.bool b) ∧ w = w' := by
  by_cases h1 : x = 46
  · subst h1
    go_enter Tryz.func157, Tryz.ntmps157
    go_wp2
    go_ret
    exact ⟨bool_ret HB.out rfl, rfl⟩
  · by_cases h2 : x = 35
    · subst h2
      go_enter Tryz.func157, Tryz.ntmps157
      go_wp2
      go_ret
      exact ⟨bool_ret HB.out rfl, rfl⟩
    · by_cases h3 : 97 ≤ x
      · by_cases h4 : x ≤ 102
        all_goals
          go_enter Tryz.func157, Tryz.ntmps157
          go_wp2
          go_ret
          refine ⟨bool_ret HB.out ?_, rfl⟩
          unfold kindB
          rw [Bool.eq_iff_iff]
          simp
          omega
      · by_cases h5 : 65 ≤ x
        · by_cases h6 : x ≤ 70
          all_goals
            go_enter Tryz.func157, Tryz.ntmps157
            go_wp2
            go_ret
            refine ⟨bool_ret HB.out ?_, rfl⟩
            unfold kindB
            rw [Bool.eq_iff_iff]
            simp
            omega
        · go_enter Tryz.func157, Tryz.ntmps157
          go_wp2
          go_ret
          refine ⟨bool_ret HB.out ?_, rfl⟩
          unfold kindB
          rw [Bool.eq_iff_iff]
          simp
          omega

theorem specGridOk_w (W H : Int) (C : ByteArray) (_hC : C.size ≤ 1048576) (hw : ¬ (1 ≤ W ∧ W ≤ 8)) (w : World) :
    Calls Tryz.prog 150 #[.agg #[.int .i64 W, .int .i64 H, .string C]] w (Made w (.bool false)) := by
  by_cases h1 : 1 ≤ W
  · have h2 : ¬ W ≤ 8 := by omega
    clear hw
    go_enter Tryz.func150, Tryz.ntmps150
    go_wp2
    go_ret
    exact ⟨rfl, (Below.refl _ _).alloc (Nat.le_refl _) _⟩
  · clear hw
    go_enter Tryz.func150, Tryz.ntmps150
    go_wp2
    go_ret
    exact ⟨rfl, (Below.refl _ _).alloc (Nat.le_refl _) _⟩

theorem specGridOk_h (W H : Int) (C : ByteArray) (_hC : C.size ≤ 1048576) (h1 : 1 ≤ W) (h2 : W ≤ 8) (hw : ¬ (1 ≤ H ∧ H ≤ 8)) (w : World) :
    Calls Tryz.prog 150 #[.agg #[.int .i64 W, .int .i64 H, .string C]] w (Made w (.bool false)) := by
  by_cases h3 : 1 ≤ H
  · have h4 : ¬ H ≤ 8 := by omega
    clear hw
    go_enter Tryz.func150, Tryz.ntmps150
    go_wp2
    go_ret
    exact ⟨rfl, (Below.refl _ _).alloc (Nat.le_refl _) _⟩
  · clear hw
    go_enter Tryz.func150, Tryz.ntmps150
    go_wp2
    go_ret
    exact ⟨rfl, (Below.refl _ _).alloc (Nat.le_refl _) _⟩

theorem mul_bd {W H : Int} (h1 : 1 ≤ W) (h2 : W ≤ 8) (h3 : 1 ≤ H) (h4 : H ≤ 8) : 1 ≤ W * H ∧ W * H ≤ 64 := by
  have a := Int.mul_le_mul h2 h4 (by omega) (by omega)
  have b := Int.mul_le_mul h1 h3 (by omega) (by omega)
  omega

theorem specGridOk_s (W H : Int) (C : ByteArray) (_hC : C.size ≤ 1048576) (h1 : 1 ≤ W) (h2 : W ≤ 8) (h3 : 1 ≤ H) (h4 : H ≤ 8) (hs : ¬ (C.size : Int) = W * H) (w : World) :
    Calls Tryz.prog 150 #[.agg #[.int .i64 W, .int .i64 H, .string C]] w (Made w (.bool false)) := by
  obtain ⟨hm1, hm2⟩ := mul_bd h1 h2 h3 h4
  go_enter Tryz.func150, Tryz.ntmps150
  go_wp2
  go_ret
  exact ⟨rfl, (Below.refl _ _).alloc (Nat.le_refl _) _⟩

theorem l01In_yes (x lo hi : Int) (h1 : lo ≤ x) (h2 : x ≤ hi) (w : World) :
    Calls Tryz.prog 72 #[.int .i64 x, .int .i64 lo, .int .i64 hi] w fun e w' => e = .returned (.bool true) ∧ w = w' := by
  go_enter Tryz.func72, Tryz.ntmps72
  go_wp2
  go_ret
  exact ⟨rfl, rfl⟩

set_option maxHeartbeats 400000 in
theorem specGridOk_k (W H : Int) (C : ByteArray) (b : Bool) (h1 : 1 ≤ W) (h2 : W ≤ 8) (h3 : 1 ≤ H) (h4 : H ≤ 8) (hs : (C.size : Int) = W * H) (HK : Hid (gok W H C = b)) (w : World) :
    Calls Tryz.prog 150 #[.agg #[.int .i64 W, .int .i64 H, .string C]] w (Made w (.bool b)) := by
  obtain ⟨hm1, hm2⟩ := mul_bd h1 h2 h3 h4
  have HS : Hid (Sides W H C) := Lib.hid ⟨⟨h1, h2⟩, ⟨h3, h4⟩, hs⟩
  have hs' : W * H = (C.size : Int) := hs.symm
  clear hs
  go_enter Tryz.func150, Tryz.ntmps150
  go_wp2_with (go_at_call 72; (with_reducible refine (l01In_yes _ _ _ (by omega) (by omega) _).mono ?_); rintro e w' ⟨rfl, rfl⟩)
  go_loop [3] (fun i => ∃ k : Nat, k ≤ C.size ∧ i = .int .i64 k ∧ Hid (Kinds C k)) (fun i => C.size - (intOf i).toNat)
  case atStart => exact ⟨0, Nat.zero_le _, rfl, Lib.hid (fun j hj => absurd hj (Nat.not_lt_zero _))⟩
  case round =>
    obtain ⟨k, hk, rfl, HQ⟩ := hrel
    by_cases hlt : k < C.size
    · have hat := run_at (P := Tryz.prog) 9 C .i64 k k rfl hlt Tryz.underlying9
      have hbd := byteAt_bd C k
      by_cases hkb : kindB (byteAt C k) = true
      · have HB := Lib.hid hkb
        have HQ2 : Hid (Kinds C (k + 1)) := Lib.hid (kinds_snoc HQ.out hkb)
        clear hkb
        go_wp2_with (go_at_call 157; (with_reducible refine (l02KindI _ true HB (by omega) (by omega) _).mono ?_); rintro e w' ⟨rfl, rfl⟩)
        go_round
        case rel => exact ⟨k + 1, hlt, by go_num, HQ2⟩
        case measure => simp [intOf]; omega
      · have HB : Hid (kindB (byteAt C k) = false) := Lib.hid (by simpa using hkb)
        have HN : Hid (false = b) := Lib.hid ((gok_no (fun h => hkb (h.2 k hlt))).symm.trans HK.out)
        clear hkb
        go_wp2_with (go_at_call 157; (with_reducible refine (l02KindI _ false HB (by omega) (by omega) _).mono ?_); rintro e w' ⟨rfl, rfl⟩)
        go_ret
        exact ⟨bool_ret HN.out rfl, (Below.refl _ _).alloc (Nat.le_refl _) _⟩
    · obtain rfl : k = C.size := by omega
      have HN : Hid (true = b) := Lib.hid ((gok_yes HS.out HQ.out).symm.trans HK.out)
      go_wp2
      go_ret
      exact ⟨bool_ret HN.out rfl, (Below.refl _ _).alloc (Nat.le_refl _) _⟩

theorem specGridOk (W H : Int) (C : ByteArray) (hC : C.size ≤ 1048576) (w : World) :
    Calls Tryz.prog 150 #[.agg #[.int .i64 W, .int .i64 H, .string C]] w (Made w (.bool (gok W H C))) := by
  by_cases hw : 1 ≤ W ∧ W ≤ 8
  · by_cases hh : 1 ≤ H ∧ H ≤ 8
    · by_cases hs : (C.size : Int) = W * H
      · exact specGridOk_k W H C _ hw.1 hw.2 hh.1 hh.2 hs (Lib.hid rfl) w
      · rw [gok_no (fun h => hs h.1.2.2)]
        exact specGridOk_s W H C hC hw.1 hw.2 hh.1 hh.2 hs w
    · rw [gok_no (fun h => hh h.1.2.1)]
      exact specGridOk_h W H C hC hw.1 hw.2 hh w
  · rw [gok_no (fun h => hw h.1.1)]
    exact specGridOk_w W H C hC hw w

end Go.Proofs.YtkbfbifepaoojaaGreatDoor

namespace Go.Proofs.YtkbfbifepaoojaaGreatDoor
set_option maxRecDepth 4096
open Go.ChangeShapes Go.WideShapes Go.ChangeAt Go.RowKit

def freeB (x : Int) : Bool := decide (x ≠ 35)
def parkB (x : Int) : Bool := decide (65 ≤ x ∧ x ≤ 70)
def zoneI (x : Int) : Int := if 65 ≤ x ∧ x ≤ 70 then x - 65 else if 97 ≤ x ∧ x ≤ 102 then x - 97 else -1

theorem parkI (r : ByteArray) (x : Int) (n : Nat) (e : x = n) (h : n < r.size) (w : World) :
    Calls Tryz.prog 158 #[.string r, .int .i64 x] w fun e w' => e = .returned (.bool (parkB (byteAt r n))) ∧ w = w' := by
  subst e
  have hat := run_at (P := Tryz.prog) 143 r .i64 n n rfl h Tryz.underlying143
  by_cases h1 : 65 ≤ byteAt r n
  all_goals
    go_enter Tryz.func158, Tryz.ntmps158
    go_wp2
    go_ret
    exact ⟨bool_ret (c := parkB (byteAt r n)) rfl (by unfold parkB; rw [Bool.eq_iff_iff]; simp; omega), rfl⟩

theorem zoneIt (r : ByteArray) (x : Int) (n : Nat) (e : x = n) (h : n < r.size) (w : World) :
    Calls Tryz.prog 151 #[.string r, .int .i64 x] w fun e w' => e = .returned (.int .i64 (zoneI (byteAt r n))) ∧ w = w' := by
  subst e
  have hat := run_at (P := Tryz.prog) 143 r .i64 n n rfl h Tryz.underlying143
  have hbd := byteAt_bd r n
  by_cases h1 : parkB (byteAt r n) = true
  · have h2 : 65 ≤ byteAt r n ∧ byteAt r n ≤ 70 := by simpa [parkB] using h1
    have HZ : Hid (byteAt r n - 65 = zoneI (byteAt r n)) := Lib.hid (by unfold zoneI; rw [if_pos h2])
    go_enter Tryz.func151, Tryz.ntmps151
    go_wp2_with (go_at_call 158; (with_reducible refine (parkI _ _ n rfl h _).mono ?_); rintro e w' ⟨rfl, rfl⟩)
    go_ret
    exact ⟨ret_int HZ.out, rfl⟩
  · have h2 : ¬ (65 ≤ byteAt r n ∧ byteAt r n ≤ 70) := by simpa [parkB] using h1
    have h3 : parkB (byteAt r n) = false := by simpa using h1
    by_cases h4 : 97 ≤ byteAt r n
    · by_cases h5 : byteAt r n ≤ 102
      · have HZ : Hid (byteAt r n - 97 = zoneI (byteAt r n)) := Lib.hid (by unfold zoneI; rw [if_neg h2, if_pos ⟨h4, h5⟩])
        clear h1 h2
        go_enter Tryz.func151, Tryz.ntmps151
        go_wp2_with (go_at_call 158; (with_reducible refine (parkI _ _ n rfl h _).mono ?_); rintro e w' ⟨rfl, rfl⟩)
        go_ret
        exact ⟨ret_int HZ.out, rfl⟩
      · have HZ : Hid (-1 = zoneI (byteAt r n)) := Lib.hid (by unfold zoneI; rw [if_neg h2, if_neg (by omega)])
        clear h1 h2
        go_enter Tryz.func151, Tryz.ntmps151
        go_wp2_with (go_at_call 158; (with_reducible refine (parkI _ _ n rfl h _).mono ?_); rintro e w' ⟨rfl, rfl⟩)
        go_ret
        exact ⟨ret_int HZ.out, rfl⟩
    · have HZ : Hid (-1 = zoneI (byteAt r n)) := Lib.hid (by unfold zoneI; rw [if_neg h2, if_neg (by omega)])
      clear h1 h2
      go_enter Tryz.func151, Tryz.ntmps151
      go_wp2_with (go_at_call 158; (with_reducible refine (parkI _ _ n rfl h _).mono ?_); rintro e w' ⟨rfl, rfl⟩)
      go_ret
      exact ⟨ret_int HZ.out, rfl⟩

theorem sideYes (x : Int) (h1 : 1 ≤ x) (h2 : x ≤ 8) (w : World) :
    Calls Tryz.prog 136 #[.int .i64 x] w fun e w' => e = .returned (.bool true) ∧ w = w' := by
  go_enter Tryz.func136, Tryz.ntmps136
  go_wp2
  go_ret
  exact ⟨rfl, rfl⟩
theorem sideNo (x : Int) (h : ¬ (1 ≤ x ∧ x ≤ 8)) (w : World) :
    Calls Tryz.prog 136 #[.int .i64 x] w fun e w' => e = .returned (.bool false) ∧ w = w' := by
  by_cases h1 : 1 ≤ x
  · have h2 : ¬ x ≤ 8 := by omega
    clear h
    go_enter Tryz.func136, Tryz.ntmps136
    go_wp2
    go_ret
    exact ⟨rfl, rfl⟩
  · clear h
    go_enter Tryz.func136, Tryz.ntmps136
    go_wp2
    go_ret
    exact ⟨rfl, rfl⟩

theorem zone_neg {x : Int} (_h1 : ¬ x = 46) (_h2 : ¬ x = 35) (h : kindB x = false) : zoneI x < 0 := by
  unfold kindB at h
  unfold zoneI
  have := of_decide_eq_false h
  rw [if_neg (by omega), if_neg (by omega)]
  omega
theorem zone_pos {x : Int} (_h1 : ¬ x = 46) (_h2 : ¬ x = 35) (h : kindB x = true) : ¬ zoneI x < 0 := by
  unfold kindB at h
  unfold zoneI
  have := of_decide_eq_true h
  split
  · omega
  · rw [if_pos (by omega)]
    omega
theorem kind46 {x : Int} (h : x = 46) : kindB x = true := by subst h; rfl
theorem kind35 {x : Int} (h : x = 35) : kindB x = true := by subst h; rfl

noncomputable def kok (r : ByteArray) : Bool := @decide (Kinds r r.size) (Classical.propDecidable _)
theorem kok_yes {r : ByteArray} (h : Kinds r r.size) : kok r = true := (@decide_eq_true_iff _ (Classical.propDecidable _)).2 h
theorem kok_out {r : ByteArray} (h : kok r = true) : Kinds r r.size := (@decide_eq_true_iff _ (Classical.propDecidable _)).1 h
theorem kok_no {r : ByteArray} (h : ¬ Kinds r r.size) : kok r = false := (@decide_eq_false_iff_not _ (Classical.propDecidable _)).2 h

set_option maxHeartbeats 400000 in
theorem rowOk (r : ByteArray) (hr : r.size ≤ 1048576) (b : Bool) (HK : Hid (kok r = b)) (w : World) :
    Calls Tryz.prog 137 #[.string r] w fun e w' => e = .returned (.bool b) ∧ w = w' := by
  go_enter Tryz.func137, Tryz.ntmps137
  go_wp2
  go_loop [6] (fun i => ∃ k : Nat, k ≤ r.size ∧ i = .int .i64 k ∧ Hid (Kinds r k)) (fun i => r.size - (intOf i).toNat)
  case atStart => exact ⟨0, Nat.zero_le _, rfl, Lib.hid (fun j hj => absurd hj (Nat.not_lt_zero _))⟩
  case round =>
    obtain ⟨k, hk, rfl, HQ⟩ := hrel
    by_cases hlt : k < r.size
    · have hat := run_at (P := Tryz.prog) 143 r .i64 k k rfl hlt Tryz.underlying143
      have hbd := byteAt_bd r k
      by_cases h1 : byteAt r k = 46
      · have HQ2 : Hid (Kinds r (k + 1)) := Lib.hid (kinds_snoc HQ.out (kind46 h1))
        go_wp2_with fail
        go_round
        case rel => exact ⟨k + 1, hlt, by go_num, HQ2⟩
        case measure => simp [intOf]; omega
      · by_cases h2 : byteAt r k = 35
        · have HQ2 : Hid (Kinds r (k + 1)) := Lib.hid (kinds_snoc HQ.out (kind35 h2))
          go_wp2_with fail
          go_round
          case rel => exact ⟨k + 1, hlt, by go_num, HQ2⟩
          case measure => simp [intOf]; omega
        · have hn1 : (byteAt r k != 46) = true := by simpa using h1
          have hn2 : (byteAt r k != 35) = true := by simpa using h2
          by_cases hkb : kindB (byteAt r k) = true
          · have HQ2 : Hid (Kinds r (k + 1)) := Lib.hid (kinds_snoc HQ.out hkb)
            have hz := zone_pos h1 h2 hkb
            clear hkb
            go_wp2_with (go_at_call 151; (with_reducible refine (zoneIt _ _ k rfl hlt _).mono ?_); rintro e w' ⟨rfl, rfl⟩)
            go_round
            case rel => exact ⟨k + 1, hlt, by go_num, HQ2⟩
            case measure => simp [intOf]; omega
          · have hz := zone_neg h1 h2 (by simpa using hkb)
            have HN : Hid (false = b) := Lib.hid ((kok_no (fun h => hkb (h k hlt))).symm.trans HK.out)
            clear hkb
            go_wp2_with (go_at_call 151; (with_reducible refine (zoneIt _ _ k rfl hlt _).mono ?_); rintro e w' ⟨rfl, rfl⟩)
            go_ret
            exact ⟨bool_ret HN.out rfl, rfl⟩
    · obtain rfl : k = r.size := by omega
      have HN : Hid (true = b) := Lib.hid ((kok_yes HQ.out).symm.trans HK.out)
      go_wp2
      go_ret
      exact ⟨bool_ret HN.out rfl, rfl⟩

end Go.Proofs.YtkbfbifepaoojaaGreatDoor

