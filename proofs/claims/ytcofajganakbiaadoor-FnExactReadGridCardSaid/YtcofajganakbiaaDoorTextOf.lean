/-
  CONTRACTS of spec.GridText and the program's GridText: the text of a map. No law is proved here.
-/
import Derived.Test.YtcofajganakbiaaDoorGridLaw
import Derived.Test.YtcofajganakbiaaDoorDecimal
import Derived.Test.YtcofajganakbiaaDoorShelf
import Derived.Lib.AppendIntMem
import Derived.Deep.RegionWith
import Derived.Deep.QuietTactic
import Derived.BigQuiet
import Derived.Lib.LaidTab
import Derived.Deep.CutRange
namespace Go.Proofs.YtcofajganakbiaaDoor
open Go.ChangeShapes Go.WideShapes Go.ChangeAt Go.RowKit

def digT (n : Nat) : ByteArray := ⟨#[UInt8.ofNat (48 + n)]⟩
theorem digT_size (n : Nat) : (digT n).size = 1 := rfl
theorem itoa_digit (n : Nat) (h : n < 10) : (⟨(Lib.itoa n).toArray⟩ : ByteArray) = digT n := by
  rw [Lib.itoa_nonneg, Lib.decDigits, dif_pos h]
  rfl

theorem specDec (x : Int) (n : Nat) (e : x = n) (h1 : 1 ≤ n) (h2 : n ≤ 8) (w : World) :
    Calls Tryd.prog 13 #[.int .i64 x] w (Made w (.string (digT n))) := by
  subst e
  rw [← itoa_digit n (by omega)]
  exact specDecimal n w (Lib.hid (by omega)) (Lib.hid (by omega))

/-- The table of the powers of ten, as the row's list gives it. -/
def Tab (w : World) : Prop := Lib.TabIs Tryd.prog w "internal/strconv.uint64pow10" .u64 Lib.pow10Tab
theorem tab_on {w w1 : World} (h : Tab w) (hb : Below w.heap.size w w1) : Tab w1 := Lib.tabBelow_of_tabIs h _ hb

theorem implDec (x : Int) (n : Nat) (e : x = n) (h1 : 1 ≤ n) (h2 : n ≤ 8) (w : World) (ht : Hid (Tab w)) :
    Calls Tryd.prog 15 #[.int .i64 x] w (Made w (.string (digT n))) := by
  subst e
  have h : Calls Tryd.prog 25 #[.int .i64 (n : Int)] w (Made w (.string (digT n))) := by
    rw [← itoa_digit n (by omega)]
    exact (Any.strconv_Itoa Tryd.laysM171 n (by omega) (by omega) w ht.out).mono fun e w' ⟨he, k, os, hw⟩ => ⟨he, by rw [hw]; exact Lib.below_grow _ w (Nat.le_refl _) k os⟩
  have hh := Lib.hid h
  clear h
  go_enter Tryd.func15, Tryd.ntmps15
  go_wp2_with (go_at_call 25; (with_reducible refine hh.out.mono ?_); rintro e w1 ⟨rfl, hb1⟩)
  go_ret
  exact ⟨rfl, hb1⟩

/-- The lines ahead of the rows. -/
def headT (a b : Nat) : ByteArray := ⟨#[104, 101, 105, 103, 104, 116, 32]⟩ ++ digT b ++ ⟨#[10, 119, 105, 100, 116, 104, 32]⟩ ++ digT a ++ ⟨#[10, 109, 97, 112, 10]⟩
theorem headT_size (a b : Nat) : (headT a b).size = 21 := by
  unfold headT
  simp only [ByteArray.size_append, digT_size]
  rfl
/-- The text up to row k. -/
def textL (a b : Nat) (C : ByteArray) (k : Nat) : List UInt8 := (headT a b).data.toList ++ (List.range k).flatMap fun y => (rowT C a y).data.toList ++ [10]
theorem textL_zero (a b : Nat) (C : ByteArray) : textL a b C 0 = (headT a b).data.toList := by simp [textL]
theorem textL_succ (a b : Nat) (C : ByteArray) (k : Nat) : textL a b C (k + 1) = textL a b C k ++ ((rowT C a k).data.toList ++ [10]) := by
  simp [textL, List.range_succ]
theorem text_ret {s t : ByteArray} {b : Bool} (h : s = t) : Ending.returned (.tuple #[.string s, .bool b]) = .returned (.tuple #[.string t, .bool b]) := by rw [h]
theorem textOut {a b : Nat} {C out T : ByteArray} (HT : Hid (textL a b C b = T.data.toList)) (h : out.data.toList = textL a b C b) : out = T := by
  apply ByteArray.ext
  apply Array.toList_inj.1
  rw [h, HT.out]
/-- The whole text. -/
def textT (a b : Nat) (C : ByteArray) : ByteArray := ⟨(textL a b C b).toArray⟩

set_option maxHeartbeats 1000000 in
theorem specText_yes (a b : Nat) (C T : ByteArray) (hC : C.size ≤ 1048576) (hg : gok a b C = true) (h1 : 1 ≤ a) (h2 : a ≤ 8) (h3 : 1 ≤ b) (h4 : b ≤ 8) (HS : Hid (C.size = a * b)) (HT : Hid (textT a b C = T)) (w : World) :
    Calls Tryd.prog 6 #[.agg #[.int .i64 a, .int .i64 b, .string C]] w fun e w' => e = .returned (.tuple #[.string T, .bool true]) ∧ Below w.heap.size w w' := by
  have hB := Below.refl (w.alloc (.cells #[.int .i64 a, .int .i64 b, .string C] 27)).heap.size (w.alloc (.cells #[.int .i64 a, .int .i64 b, .string C] 27))
  have hda : (digT a).size ≤ 1 := Nat.le_refl _
  have hdb : (digT b).size ≤ 1 := Nat.le_refl _
  go_enter Tryd.func6, Tryd.ntmps6
  go_upto_region 3 with (go_at_call 12; (with_reducible refine (specGridOk a b C hC _).mono ?_); rintro e w1 ⟨rfl, hb⟩; replace hB := chain hB hb; obtain ⟨c0, c1, c2⟩ := box_cells hB; clear hb)
  clear c0 c1 c2
  go_cut [4] from 9 to 18 (fun t wx => t = .string (headT a b) ∧ Below (w.alloc (.cells #[.int .i64 a, .int .i64 b, .string C] 27)).heap.size (w.alloc (.cells #[.int .i64 a, .int .i64 b, .string C] 27)) wx)
  case first =>
    obtain ⟨c0, c1, c2⟩ := box_cells hB
    go_region_with (first
      | (go_at_call 13; (with_reducible refine (specDec (a : Int) a rfl h1 h2 _).mono ?_); rintro e w2 ⟨rfl, hb⟩; replace hB := (by first | exact chain hB hb | exact chain hB.drew hb); obtain ⟨c0, c1, c2⟩ := box_cells hB; clear hb)
      | (go_at_call 13; (with_reducible refine (specDec (b : Int) b rfl h3 h4 _).mono ?_); rintro e w2 ⟨rfl, hb⟩; replace hB := (by first | exact chain hB hb | exact chain hB.drew hb); obtain ⟨c0, c1, c2⟩ := box_cells hB; clear hb))
    all_goals
      go_wp2_with fail
      go_meet
      exact ⟨rfl, hB⟩
  case rest =>
    clear hB
    obtain ⟨rfl, hB⟩ := hcut
    obtain ⟨c0, c1, c2⟩ := box_cells hB
    go_wp2_with fail
    go_loop [4, 5] (fun s i => ∃ (k : Nat) (out : ByteArray), k ≤ b ∧ i = .int .i64 k ∧ s = .string out ∧ out.size ≤ 21 + k * 9 ∧ Hid (out.data.toList = textL a b C k)) (fun _ i => b - (intOf i).toNat)
    case atStart => exact ⟨0, _, Nat.zero_le _, rfl, rfl, by rw [headT_size]; omega, Lib.hid (textL_zero a b C).symm⟩
    case round =>
      obtain ⟨k, out, hk, rfl, rfl, ho, HD⟩ := hrel
      by_cases hlt : k < b
      · have hle : (k + 1) * a ≤ C.size := by rw [HS.out, Nat.mul_comm a b]; exact Nat.mul_le_mul_right a (by omega)
        obtain ⟨p, hp⟩ : ∃ p, p = k * a := ⟨_, rfl⟩
        obtain ⟨q, hq⟩ : ∃ q, q = p + a := ⟨_, rfl⟩
        have hq2 : q = (k + 1) * a := by rw [hq, hp, Nat.add_mul, Nat.one_mul]
        have hka : (k : Int) * (a : Int) = (p : Int) := by rw [hp, Int.natCast_mul]
        have hpa : (p : Int) + (a : Int) = (q : Int) := by omega
        have hpq : p ≤ q := by omega
        have hqs : q ≤ C.size := by rw [hq2]; exact hle
        have hes : (C.extract p q).size ≤ 8 := by rw [ByteArray.size_extract]; omega
        have HX : Hid (C.extract p q = rowT C a k) := Lib.hid (by rw [hp, hq2]; rfl)
        have HD2 : Hid ((out ++ C.extract p q ++ ⟨#[10]⟩).data.toList = textL a b C (k + 1)) := Lib.hid (by rw [textL_succ, ← HD.out, HX.out]; simp)
        have ho2 : (out ++ C.extract p q ++ (⟨#[10]⟩ : ByteArray)).size ≤ 21 + (k + 1) * 9 := by
          rw [ByteArray.size_append, ByteArray.size_append]
          have : (⟨#[10]⟩ : ByteArray).size = 1 := rfl
          omega
        have HO2 := Lib.hid ho2
        have HP := Lib.hid hp
        clear hp hq hq2 hle ho2
        go_wp2_with fail
        go_round
        case rel => exact ⟨k + 1, _, by omega, by go_num, rfl, HO2.out, HD2⟩
        case measure => simp [intOf]; omega
      · obtain rfl : k = b := by omega
        have HE : Hid (out = T) := Lib.hid (by rw [← HT.out]; apply ByteArray.ext; unfold textT; rw [← HD.out])
        go_wp2_with fail
        go_ret2
        exact ⟨text_ret HE.out, box_below hB⟩

theorem specText_no (W H : Int) (C : ByteArray) (hC : C.size ≤ 1048576) (hg : gok W H C = false) (w : World) :
    Calls Tryd.prog 6 #[.agg #[.int .i64 W, .int .i64 H, .string C]] w fun e w' => e = .returned (.tuple #[.string ⟨#[]⟩, .bool false]) ∧ Below w.heap.size w w' := by
  have hB := Below.refl (w.alloc (.cells #[.int .i64 W, .int .i64 H, .string C] 27)).heap.size (w.alloc (.cells #[.int .i64 W, .int .i64 H, .string C] 27))
  go_enter Tryd.func6, Tryd.ntmps6
  go_wp2_with (go_at_call 12; (with_reducible refine (specGridOk W H C hC _).mono ?_); rintro e w1 ⟨rfl, hb⟩; replace hB := chain hB hb; clear hb)
  go_ret2
  exact ⟨rfl, box_below hB⟩

end Go.Proofs.YtcofajganakbiaaDoor
