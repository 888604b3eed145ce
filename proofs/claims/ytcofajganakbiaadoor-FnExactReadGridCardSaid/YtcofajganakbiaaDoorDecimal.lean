/-
  CONTRACT of the model's Decimal: the number's decimal numeral.
-/
import Derived.Test.YtcofajganakbiaaDoorFig
import Derived.Lib.ItoaNum
import Derived.Lib.ItoaMem
namespace Go.Proofs.YtcofajganakbiaaDoor
open Go.ChangeShapes Go.WideShapes Go.ChangeAt Go.RowKit

/-- The digits of q, none for 0. -/
def preD (q : Nat) : List UInt8 := if q = 0 then [] else Lib.decDigits q
theorem preD_step (q : Nat) (h : 0 < q) : preD q = preD (q / 10) ++ [fig (q % 10)] := by
  have hf : fig (q % 10) = UInt8.ofNat (48 + q % 10) := by unfold fig; rw [if_pos (by omega)]
  rw [hf, preD, if_neg (by omega), Lib.decDigits]
  split
  · rename_i h10
    rw [preD, if_pos (by omega), List.nil_append, Nat.mod_eq_of_lt h10]
  · rw [preD, if_neg (by omega)]

/-- The text of one digit. -/
def figT (n : Nat) : ByteArray := ⟨#[fig n]⟩
theorem figT_list (n : Nat) (out : ByteArray) : (figT n ++ out).data.toList = fig n :: out.data.toList := by
  simp [figT]
theorem figT_size (n : Nat) : (figT n).size = 1 := rfl

theorem run_text_fig {P : Program} (w : World) (src dst e : TypeId) (hs : P.underlying src = some (.slice e)) (he : P.underlying e = some (.int .u8)) (hd : P.underlying dst = some .string) (n : Nat) :
    (convert src dst (.slice (some ⟨w.heap.size, 0, none⟩) 1 1)).run P (w.alloc (.cells #[.int .u8 (fig n).toNat] e)) = .ok (.string (figT n)) (w.alloc (.cells #[.int .u8 (fig n).toNat] e)) := by
  have h := run_text_new1 (P := P) w src dst e hs he hd ((fig n).toNat : Int) (by omega) (by have := (fig n).toNat_lt; omega)
  rw [h]
  simp [figT]

theorem short_of {q n Q : Nat} (h : q * 2 ^ n ≤ Q) (hq : 0 < q) (hQ : Q ≤ 9223372036854775808) : n ≤ 63 := by
  rcases Nat.lt_or_ge 63 n with h64 | h64
  · have h1 : 2 ^ 64 ≤ 2 ^ n := Nat.pow_le_pow_right (by omega) h64
    have h2 : 1 * 2 ^ n ≤ q * 2 ^ n := Nat.mul_le_mul_right _ hq
    have h3 : (2 : Nat) ^ 64 = 18446744073709551616 := by decide
    omega
  · exact h64
theorem short_step {q n Q : Nat} (h : q * 2 ^ n ≤ Q) : q / 10 * 2 ^ (n + 1) ≤ Q := by
  refine Nat.le_trans ?_ h
  rw [Nat.pow_succ, Nat.mul_comm (2 ^ n) 2, ← Nat.mul_assoc]
  exact Nat.mul_le_mul_right _ (by omega)
theorem digit_size (q : Nat) (out : ByteArray) : (figT q ++ out).size = out.size + 1 := by
  rw [ByteArray.size_append, figT_size]
  omega

theorem neg_tmod (q : Nat) : (-(q : Int)).tmod 10 = -((q : Int) % 10) := by
  rw [Int.neg_tmod, Int.tmod_eq_emod_of_nonneg (by omega)]
theorem neg_tdiv (q : Nat) : (-(q : Int)).tdiv 10 = -((q : Int) / 10) := by
  rw [Int.neg_tdiv, Int.tdiv_eq_ediv_of_nonneg (by omega)]


theorem specDecimal_zero (w : World) : Calls Tryd.prog 13 #[.int .i64 0] w (Made w (.string ⟨(Lib.itoa 0).toArray⟩)) := by
  have H : Hid ((⟨#[48]⟩ : ByteArray) = ⟨(Lib.itoa 0).toArray⟩) := Lib.hid (by simp [Lib.itoa, Lib.decDigits])
  go_enter Tryd.func13, Tryd.ntmps13
  go_wp2
  go_ret
  exact ⟨congrArg (fun x => Ending.returned (Value.string x)) H.out, Below.refl _ _⟩

set_option maxHeartbeats 1000000 in
theorem specDecimal_pos (Q : Nat) (w : World) (h0 : 0 < Q) (h1 : Hid (Q ≤ 9223372036854775807)) :
    Calls Tryd.prog 13 #[.int .i64 ((Q : Int))] w (Made w (.string ⟨(Lib.itoa ((Q : Int))).toArray⟩)) := by
  have h2 : (((Q : Int)) == 0) = false := by simp; omega
  have h3 : ¬ ((Q : Int)) < 0 := by omega
  have HQ : Hid (Lib.itoa ((Q : Int)) = preD Q) := Lib.hid (by rw [Lib.itoa_nonneg, preD, if_neg (by omega)])
  go_enter Tryd.func13, Tryd.ntmps13
  go_wp2
  go_loopw [0, 4] (fun a o wr => ∃ (q : Nat) (out : ByteArray), q ≤ Q ∧ Hid (q * 2 ^ out.size ≤ Q) ∧ out.size ≤ 64 ∧ a = .int .i64 (q : Int) ∧ o = .string out ∧ Hid (preD Q = preD q ++ out.data.toList) ∧ Below w.heap.size w wr) (fun a _ _ => (intOf a).natAbs)
  case atStart => exact ⟨Q, ⟨#[]⟩, Nat.le_refl _, Lib.hid (by change Q * 2 ^ 0 ≤ Q; omega), by decide, rfl, rfl, Lib.hid (by simp), Below.refl _ _⟩
  case round =>
    obtain ⟨q, out, hq, HS, hos, rfl, rfl, HD, hbe⟩ := hrel
    have hbs := hbe.size
    by_cases hz : 0 < q
    · have hos2 : out.size ≤ 63 := short_of HS.out hz (by have := h1.out; omega)
      have HS2 : Hid (q / 10 * 2 ^ (figT (q % 10) ++ out).size ≤ Q) := Lib.hid (by rw [digit_size]; exact short_step HS.out)
      have hos3 : (figT (q % 10) ++ out).size ≤ 64 := by rw [digit_size]; omega
      have hos4 : (figT (q % 10)).size ≤ 1 := Nat.le_refl _
      have hz3 : ((q : Int) != 0) = true := by simp; omega
      have hz4 : ¬ (q : Int) % 10 < 0 := by omega
      have e1 : (q : Int).tmod 10 = (q : Int) % 10 := by rw [Int.tmod_eq_emod_of_nonneg (by omega)]
      have e2 : (q : Int).tdiv 10 = (q : Int) / 10 := by rw [Int.tdiv_eq_ediv_of_nonneg (by omega)]
      have e3 : IntKind.i64.wrap ((q : Int) / 10) = (q : Int) / 10 := IntWalk.i64_in _ (by have := h1.out; omega)
      have HD2 : Hid (preD Q = preD (q / 10) ++ (figT (q % 10) ++ out).data.toList) := Lib.hid (by rw [figT_list, HD.out, preD_step q hz]; simp)
      have hcv := run_text_fig (P := Tryd.prog) wr 51 9 5 Tryd.underlying51 Tryd.underlying5 Tryd.underlying9 (q % 10)
      have hnat : ((q : Int) % 10).toNat = q % 10 := by omega
      go_wp2_with (go_at_call 22; (with_reducible refine (l01FigureI _ (by omega) (by omega) _).mono ?_); rintro e w' ⟨rfl, rfl⟩; rw [hnat])
      go_roundw
      case rel => exact ⟨q / 10, _, by omega, HS2, hos3, by go_num, rfl, HD2, hbe.alloc hbs _⟩
      case measure => simp [intOf]; omega
    · obtain rfl : q = 0 := by omega
      have HE : Hid (out = ⟨(Lib.itoa Q).toArray⟩) := Lib.hid (by
        apply ByteArray.ext
        have := HD.out
        rw [show preD 0 = [] from rfl, List.nil_append] at this
        rw [HQ.out, this])
      clear HD HQ
      go_wp2
      go_ret
      exact ⟨congrArg (fun x => Ending.returned (Value.string x)) HE.out, hbe⟩

set_option maxHeartbeats 1000000 in
set_option maxRecDepth 4000 in
theorem specDecimal_neg (Q : Nat) (w : World) (h0 : 0 < Q) (h1 : Hid (Q ≤ 9223372036854775808)) :
    Calls Tryd.prog 13 #[.int .i64 (-(Q : Int))] w (Made w (.string ⟨(Lib.itoa (-(Q : Int))).toArray⟩)) := by
  have h2 : ((-(Q : Int)) == 0) = false := by simp; omega
  have h3 : (-(Q : Int)) < 0 := by omega
  have HQ : Hid (Lib.itoa (-(Q : Int)) = 45 :: preD Q) := Lib.hid (by rw [Lib.itoa_neg Q h0, preD, if_neg (by omega)])
  go_enter Tryd.func13, Tryd.ntmps13
  go_wp2
  go_loopw [0, 4] (fun a o wr => ∃ (q : Nat) (out : ByteArray), q ≤ Q ∧ Hid (q * 2 ^ out.size ≤ Q) ∧ out.size ≤ 64 ∧ a = .int .i64 (-(q : Int)) ∧ o = .string out ∧ Hid (preD Q = preD q ++ out.data.toList) ∧ Below w.heap.size w wr) (fun a _ _ => (intOf a).natAbs)
  case atStart => exact ⟨Q, ⟨#[]⟩, Nat.le_refl _, Lib.hid (by change Q * 2 ^ 0 ≤ Q; omega), by decide, rfl, rfl, Lib.hid (by simp), Below.refl _ _⟩
  case round =>
    obtain ⟨q, out, hq, HS, hos, rfl, rfl, HD, hbe⟩ := hrel
    have hbs := hbe.size
    by_cases hz : 0 < q
    · have hos2 : out.size ≤ 63 := short_of HS.out hz (by have := h1.out; omega)
      have HS2 : Hid (q / 10 * 2 ^ (figT (q % 10) ++ out).size ≤ Q) := Lib.hid (by rw [digit_size]; exact short_step HS.out)
      have hos3 : (figT (q % 10) ++ out).size ≤ 64 := by rw [digit_size]; omega
      have hos4 : (figT (q % 10)).size ≤ 1 := Nat.le_refl _
      have hz3 : ((-(q : Int)) != 0) = true := by simp; omega
      have e1 : (-(q : Int)).tmod 10 = -((q : Int) % 10) := neg_tmod q
      have e2 : (-(q : Int)).tdiv 10 = -((q : Int) / 10) := neg_tdiv q
      have e3 : IntKind.i64.wrap (-((q : Int) / 10)) = -((q : Int) / 10) := IntWalk.i64_in _ (by have := h1.out; omega)
      have e4 : IntKind.i64.wrap (-((q : Int) % 10)) = -((q : Int) % 10) := IntWalk.i64_in _ (by omega)
      have e5 : IntKind.i64.wrap ((q : Int) % 10) = (q : Int) % 10 := IntWalk.i64_in _ (by omega)
      have HD2 : Hid (preD Q = preD (q / 10) ++ (figT (q % 10) ++ out).data.toList) := Lib.hid (by rw [figT_list, HD.out, preD_step q hz]; simp)
      have hcv := run_text_fig (P := Tryd.prog) wr 51 9 5 Tryd.underlying51 Tryd.underlying5 Tryd.underlying9 (q % 10)
      have hnat : ((q : Int) % 10).toNat = q % 10 := by omega
      by_cases hd : (q : Int) % 10 = 0
      · have hd2 : ¬ -((q : Int) % 10) < 0 := by omega
        have hd3 : (q : Int) % 10 ≤ 0 := by omega
        have hnat : (-((q : Int) % 10)).toNat = q % 10 := by omega
        clear hd
        go_wp2_with (go_at_call 22; (with_reducible refine (l01FigureI _ (by omega) (by omega) _).mono ?_); rintro e w' ⟨rfl, rfl⟩; rw [hnat])
        go_roundw
        case rel => exact ⟨q / 10, _, by omega, HS2, hos3, by go_num, rfl, HD2, hbe.alloc hbs _⟩
        case measure => simp [intOf]; omega
      · have hd2 : -((q : Int) % 10) < 0 := by omega
        go_wp2_with (go_at_call 22; (with_reducible refine (l01FigureI _ (by omega) (by omega) _).mono ?_); rintro e w' ⟨rfl, rfl⟩; rw [hnat])
        go_roundw
        case rel => exact ⟨q / 10, _, by omega, HS2, hos3, by go_num, rfl, HD2, hbe.alloc hbs _⟩
        case measure => simp [intOf]; omega
    · obtain rfl : q = 0 := by omega
      have HE : Hid (⟨#[45]⟩ ++ out = ⟨(Lib.itoa (-(Q : Int))).toArray⟩) := Lib.hid (by
        apply ByteArray.ext
        have := HD.out
        rw [show preD 0 = [] from rfl, List.nil_append] at this
        rw [HQ.out, this]
        simp)
      clear HD HQ
      go_wp2
      go_ret
      exact ⟨congrArg (fun x => Ending.returned (Value.string x)) HE.out, hbe⟩

theorem specDecimal (n : Int) (w : World) (h0 : Hid (-9223372036854775808 ≤ n)) (h1 : Hid (n ≤ 9223372036854775807)) :
    Calls Tryd.prog 13 #[.int .i64 n] w (Made w (.string ⟨(Lib.itoa n).toArray⟩)) := by
  rcases Int.lt_trichotomy n 0 with h | h | h
  · obtain ⟨q, rfl⟩ : ∃ q : Nat, n = -(q : Int) := ⟨n.natAbs, by omega⟩
    exact specDecimal_neg q w (by omega) (Lib.hid (by have := h0.out; omega))
  · subst h
    exact specDecimal_zero w
  · obtain ⟨q, rfl⟩ : ∃ q : Nat, n = (q : Int) := ⟨n.toNat, by omega⟩
    exact specDecimal_pos q w (by omega) (Lib.hid (by have := h1.out; omega))

end Go.Proofs.YtcofajganakbiaaDoor
