/-
  Plain facts on decimal numerals for the law FnExactReadDecimal; no statement is proved here.
-/
import Derived.Test.YtcofajganakbiaaDoorDecimal
import Derived.Lib.AtoiAll
namespace Go.Proofs.YtcofajganakbiaaDoor
open Go.RowKit

theorem parse_append : ∀ (l r : List UInt8) (a q : Nat), Lib.parseUint10 a l = .ok q → Lib.parseUint10 a (l ++ r) = Lib.parseUint10 q r
  | [], r, a, q, h => by
    simp only [Lib.parseUint10] at h
    injection h with h
    subst h
    rfl
  | c :: l, r, a, q, h => by
    simp only [Lib.parseUint10, List.cons_append] at h ⊢
    split at h
    · rename_i hc
      rw [if_pos hc]
      split at h
      · cases h
      · rename_i h1
        rw [if_neg h1]
        split at h
        · cases h
        · rename_i h2
          rw [if_neg h2]
          exact parse_append l r _ q h
    · cases h

theorem parse_digit {a : Nat} {c : UInt8} {r : List UInt8} (h1 : 48 ≤ c.toNat) (h2 : c.toNat ≤ 57) (h3 : a < 1844674407370955161) :
    Lib.parseUint10 a (c :: r) = Lib.parseUint10 (a * 10 + (c.toNat - 48)) r := by
  rw [Lib.parseUint10, if_pos ⟨h1, h2⟩, if_neg (by omega), if_neg (by omega)]
theorem parse_bad {a : Nat} {c : UInt8} {r : List UInt8} (h : c.toNat < 48 ∨ 57 < c.toNat) : Lib.parseUint10 a (c :: r) = .syntax := by
  rw [Lib.parseUint10, if_neg (by omega)]

theorem digit_num (d : Nat) (h : d < 10) : (UInt8.ofNat (48 + d)).toNat = 48 + d := by
  rw [UInt8.toNat_ofNat']
  omega

/-- A numeral is read as its number. -/
theorem parse_dec (m : Nat) : m < 1000000000000000 → Lib.parseUint10 0 (Lib.decDigits m) = .ok m := by
  induction m using Nat.strongRecOn with
  | _ m ih =>
    intro hm
    rw [Lib.decDigits]
    split
    · rename_i h
      rw [parse_digit (by rw [digit_num m h]; omega) (by rw [digit_num m h]; omega) (by omega), digit_num m h, Lib.parseUint10]
      congr 1
      omega
    · rename_i h
      rw [parse_append _ _ _ _ (ih (m / 10) (by omega) (by omega)), parse_digit (by rw [digit_num _ (by omega)]; omega) (by rw [digit_num _ (by omega)]; omega) (by omega), digit_num _ (by omega), Lib.parseUint10]
      congr 1
      omega

theorem dec_len (m : Nat) (h : m ≤ 1000000000) : (Lib.decDigits m).length ≤ 10 := by
  have step : ∀ (k m : Nat), m < 10 ^ (k + 1) → (Lib.decDigits m).length ≤ k + 1 := by
    intro k
    induction k with
    | zero => intro m hm; rw [Lib.decDigits, dif_pos (by omega)]; simp
    | succ k ih =>
      intro m hm
      rw [Lib.decDigits]
      split
      · simp
      · have := ih (m / 10) (by rw [Nat.pow_succ] at hm; omega)
        simp
        omega
  exact step 9 m (by omega)

theorem dec_head (m : Nat) : ∃ c r, Lib.decDigits m = c :: r ∧ 48 ≤ c.toNat ∧ c.toNat ≤ 57 := by
  induction m using Nat.strongRecOn with
  | _ m ih =>
    rw [Lib.decDigits]
    split
    · rename_i h
      exact ⟨_, [], rfl, by rw [digit_num m h]; omega, by rw [digit_num m h]; omega⟩
    · obtain ⟨c, r, e, h1, h2⟩ := ih (m / 10) (by omega)
      exact ⟨c, r ++ [UInt8.ofNat (48 + m % 10)], by rw [e]; rfl, h1, h2⟩

theorem atoi_dec (m : Nat) (h : m ≤ 1000000000) : Lib.atoiAll (Lib.decDigits m) = .ok (m : Int) := by
  obtain ⟨c, r, e, h1, h2⟩ := dec_head m
  have hp := parse_dec m (by omega)
  rw [e] at hp ⊢
  simp only [Lib.atoiAll]
  rw [if_neg (by omega), Lib.parseMag, if_neg (by simp), hp]
  have h3 : ¬ c.toNat = 45 := by omega
  simp [h3]
  omega

theorem itoa_nat (m : Nat) : Lib.itoa (m : Int) = Lib.decDigits m := Lib.itoa_nonneg m

/-- What ReadDecimal has to return. -/
def ReadIs (s : ByteArray) (n : Int) (b : Bool) : Prop :=
  (b = true ∧ 0 ≤ n ∧ n ≤ 1000000000 ∧ s = ⟨(Lib.itoa n).toArray⟩) ∨ (b = false ∧ n = 0 ∧ ∀ m : Nat, m ≤ 1000000000 → s.data.toList ≠ Lib.decDigits m)

theorem readIs_num {s : ByteArray} {n : Int} {b : Bool} (h : ReadIs s n b) (hb : b = true) : ∃ m : Nat, n = m ∧ m ≤ 1000000000 ∧ s.data.toList = Lib.decDigits m := by
  rcases h with ⟨_, h0, h1, h2⟩ | ⟨h, _⟩
  · obtain ⟨m, rfl⟩ : ∃ m : Nat, n = m := ⟨n.toNat, by omega⟩
    exact ⟨m, rfl, by omega, by rw [h2, itoa_nat]⟩
  · rw [h] at hb
    cases hb

theorem readIs_same {s : ByteArray} {n n' : Int} {b b' : Bool} (h : ReadIs s n b) (h' : ReadIs s n' b') : n = n' ∧ b = b' := by
  cases b <;> cases b'
  · rcases h with ⟨h, _⟩ | ⟨_, h, _⟩
    · cases h
    · rcases h' with ⟨h', _⟩ | ⟨_, h', _⟩
      · cases h'
      · exact ⟨by rw [h, h'], rfl⟩
  · obtain ⟨m, rfl, hm, e⟩ := readIs_num h' rfl
    rcases h with ⟨h, _⟩ | ⟨_, _, h⟩
    · cases h
    · exact absurd e (h m hm)
  · obtain ⟨m, rfl, hm, e⟩ := readIs_num h rfl
    rcases h' with ⟨h', _⟩ | ⟨_, _, h'⟩
    · cases h'
    · exact absurd e (h' m hm)
  · obtain ⟨m, rfl, hm, e⟩ := readIs_num h rfl
    obtain ⟨m', rfl, hm', e'⟩ := readIs_num h' rfl
    have h1 := parse_dec m (by omega)
    rw [← e, e', parse_dec m' (by omega)] at h1
    injection h1 with h1
    exact ⟨by rw [h1], rfl⟩

/-- The ways on which there is no number. -/
theorem no_long {s : ByteArray} (h : 10 < s.size) : ReadIs s 0 false := .inr ⟨rfl, rfl, fun m hm e => by
  have := dec_len m hm
  rw [← e] at this
  simp at this
  omega⟩
theorem no_parse {s : ByteArray} (h : ∀ q, Lib.parseUint10 0 s.data.toList ≠ .ok q) : ReadIs s 0 false := .inr ⟨rfl, rfl, fun m hm e => h m (by rw [e]; exact parse_dec m (by omega))⟩
theorem no_big {s : ByteArray} {q : Nat} (h : Lib.parseUint10 0 s.data.toList = .ok q) (hq : 1000000000 < q) : ReadIs s 0 false := .inr ⟨rfl, rfl, fun m hm e => by
  rw [e, parse_dec m (by omega)] at h
  injection h with h
  omega⟩
theorem no_same {s : ByteArray} {q : Nat} (h : Lib.parseUint10 0 s.data.toList = .ok q) (hs : s ≠ ⟨(Lib.itoa q).toArray⟩) : ReadIs s 0 false := .inr ⟨rfl, rfl, fun m hm e => by
  have h2 := h
  rw [e, parse_dec m (by omega)] at h2
  injection h2 with h2
  subst h2
  exact hs (by apply ByteArray.ext; rw [itoa_nat, ← e])⟩
theorem yes_same {s : ByteArray} {q : Int} (h0 : 0 ≤ q) (h1 : q ≤ 1000000000) (hs : s = ⟨(Lib.itoa q).toArray⟩) : ReadIs s q true := .inl ⟨rfl, h0, h1, hs⟩
theorem no_atoi {s : ByteArray} (h : ∀ m : Nat, m ≤ 1000000000 → Lib.atoiAll s.data.toList ≠ .ok (m : Int)) : ReadIs s 0 false := .inr ⟨rfl, rfl, fun m hm e => h m hm (by rw [e]; exact atoi_dec m hm)⟩
theorem no_same_atoi {s : ByteArray} {q : Int} (h : Lib.atoiAll s.data.toList = .ok q) (hs : s ≠ ⟨(Lib.itoa q).toArray⟩) : ReadIs s 0 false := .inr ⟨rfl, rfl, fun m hm e => by
  have h2 := h
  rw [e, atoi_dec m hm] at h2
  injection h2 with h2
  subst h2
  exact hs (by apply ByteArray.ext; rw [itoa_nat, ← e])⟩

/-- ReadDecimal has returned. -/
def ReadBack (s : ByteArray) (w : World) (e : Ending) (w' : World) : Prop := ∃ n b, e = .returned (.tuple #[.int .i64 n, .bool b]) ∧ ReadIs s n b ∧ Below w.heap.size w w'

theorem text_ne {s : ByteArray} {l : List UInt8} (h : s ≠ ⟨l.toArray⟩) : (l == s.toList) = false := by
  rw [beq_eq_false_iff_ne]
  intro e
  rw [ByteArray.toList_eq] at e
  exact h (ByteArray.ext (by rw [e]))

end Go.Proofs.YtcofajganakbiaaDoor
