/-
  What a cell of a grid is, and what stands at it. No law is proved here.
-/
import Derived.Test.YtlkhecdlmbhiaaaGridLaw
namespace Go.Proofs.Ytlkhecdlmbhiaaa
set_option maxRecDepth 4096
open Go.ChangeShapes Go.WideShapes Go.ChangeAt Go.RowKit

/-- The cell c exists in a valid map. -/
noncomputable def cellOk (W H : Int) (C : ByteArray) (c : Int) : Bool := gok W H C && (decide (0 ≤ c) && decide (c < (C.size : Int)))
noncomputable def freeV (W H : Int) (C : ByteArray) (c : Int) : Bool := cellOk W H C c && freeB (byteAt C c.toNat)
noncomputable def zoneV (W H : Int) (C : ByteArray) (c : Int) : Int := if cellOk W H C c = true then zoneI (byteAt C c.toNat) else -1
noncomputable def parkV (W H : Int) (C : ByteArray) (c : Int) : Bool := cellOk W H C c && parkB (byteAt C c.toNat)

theorem cellOk_yes {W H : Int} {C : ByteArray} {n : Nat} (hg : gok W H C = true) (h : n < C.size) : cellOk W H C n = true := by
  unfold cellOk
  rw [hg]
  simp
  exact h
theorem cellOk_out {W H : Int} {C : ByteArray} {c : Int} (h : cellOk W H C c = true) : gok W H C = true ∧ ∃ n : Nat, c = n ∧ n < C.size := by
  unfold cellOk at h
  simp only [Bool.and_eq_true, decide_eq_true_eq] at h
  exact ⟨h.1, c.toNat, by omega, by omega⟩
/-- Why a cell is none. -/
theorem cellOk_no {W H : Int} {C : ByteArray} {c : Int} (h : ¬ cellOk W H C c = true) : gok W H C = false ∨ (gok W H C = true ∧ c < 0) ∨ (gok W H C = true ∧ 0 ≤ c ∧ (C.size : Int) ≤ c) := by
  unfold cellOk at h
  simp only [Bool.and_eq_true, decide_eq_true_eq] at h
  cases hg : gok W H C with
  | false => exact .inl rfl
  | true =>
    by_cases h0 : c < 0
    · exact .inr (.inl ⟨rfl, h0⟩)
    · refine .inr (.inr ⟨rfl, by omega, ?_⟩)
      rcases Int.lt_or_le c (C.size : Int) with h1 | h1
      · exact absurd ⟨hg, by omega, h1⟩ h
      · exact h1
theorem gok_byte {W H : Int} {C : ByteArray} {n : Nat} (hg : gok W H C = true) (h : n < C.size) : kindB (byteAt C n) = true := (gok_out hg).2 n h

theorem freeV_at {W H : Int} {C : ByteArray} {n : Nat} (hg : gok W H C = true) (hn : n < C.size) : freeV W H C n = freeB (byteAt C n) := by
  unfold freeV
  rw [cellOk_yes hg hn]
  rfl

/-- Column and row of a cell of a valid map. -/
theorem spot_of {W H : Int} {C : ByteArray} {n : Nat} (hg : gok W H C = true) (hn : n < C.size) : ∃ a b q m : Nat, W = a ∧ H = b ∧ 1 ≤ a ∧ a ≤ 8 ∧ b ≤ 8 ∧ q < b ∧ m < a ∧ (n : Int).tdiv (a : Int) = (q : Int) ∧ (n : Int).tmod (a : Int) = (m : Int) ∧ q * a + m = n := by
  obtain ⟨⟨⟨h1, h2⟩, ⟨h3, h4⟩, hs⟩, _⟩ := gok_out hg
  obtain ⟨a, rfl⟩ : ∃ a : Nat, W = a := ⟨W.toNat, by omega⟩
  obtain ⟨b, rfl⟩ : ∃ b : Nat, H = b := ⟨H.toNat, by omega⟩
  have hs2 : C.size = a * b := by have : ((a * b : Nat) : Int) = (a : Int) * (b : Int) := Int.natCast_mul a b; omega
  have ha : 0 < a := by omega
  have hq : n / a < b := Nat.div_lt_of_lt_mul (by omega)
  have hnn : n / a * a + n % a = n := by rw [Nat.mul_comm]; exact Nat.div_add_mod n a
  refine ⟨a, b, n / a, n % a, rfl, rfl, by omega, by omega, by omega, hq, Nat.mod_lt _ ha, ?_, ?_, hnn⟩
  · rw [Int.tdiv_eq_ediv_of_nonneg (by omega)]; rfl
  · rw [Int.tmod_eq_emod_of_nonneg (by omega)]; rfl

end Go.Proofs.Ytlkhecdlmbhiaaa
