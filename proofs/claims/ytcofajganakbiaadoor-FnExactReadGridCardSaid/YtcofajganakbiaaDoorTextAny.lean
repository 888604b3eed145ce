/-
  CONTRACTS of spec.GridText and the program's GridText at every grid. No law is proved here.
-/
import Derived.Test.YtcofajganakbiaaDoorTextI
namespace Go.Proofs.YtcofajganakbiaaDoor
open Go.ChangeShapes Go.WideShapes Go.ChangeAt Go.RowKit

noncomputable def gtextT (W H : Int) (C : ByteArray) : ByteArray := if gok W H C = true then textT W.toNat H.toNat C else ⟨#[]⟩
/-- The text came back. -/
def TextBack (T : ByteArray) (b : Bool) (w : World) (e : Ending) (w' : World) : Prop := e = .returned (.tuple #[.string T, .bool b]) ∧ Below w.heap.size w w'

theorem sides_of {W H : Int} {C : ByteArray} (hg : gok W H C = true) : ∃ a b : Nat, W = a ∧ H = b ∧ 1 ≤ a ∧ a ≤ 8 ∧ 1 ≤ b ∧ b ≤ 8 ∧ C.size = a * b := by
  obtain ⟨⟨⟨h1, h2⟩, ⟨h3, h4⟩, hs⟩, _⟩ := gok_out hg
  obtain ⟨a, rfl⟩ : ∃ a : Nat, W = a := ⟨W.toNat, by omega⟩
  obtain ⟨b, rfl⟩ : ∃ b : Nat, H = b := ⟨H.toNat, by omega⟩
  exact ⟨a, b, rfl, rfl, by omega, by omega, by omega, by omega, by have : ((a * b : Nat) : Int) = (a : Int) * (b : Int) := Int.natCast_mul a b; omega⟩

theorem specText (W H : Int) (C T : ByteArray) (b : Bool) (hC : C.size ≤ 1048576) (HT : Hid (gtextT W H C = T)) (HB : Hid (gok W H C = b)) (w : World) :
    Calls Tryd.prog 6 #[.agg #[.int .i64 W, .int .i64 H, .string C]] w (TextBack T b w) := by
  obtain rfl : gok W H C = b := HB.out
  by_cases hg : gok W H C = true
  · obtain ⟨a, b, rfl, rfl, h1, h2, h3, h4, hs⟩ := sides_of hg
    rw [hg]
    exact specText_yes a b C T hC hg h1 h2 h3 h4 hs (by rw [← HT.out]; unfold gtextT; rw [if_pos hg]; rfl) w
  · have hg2 : gok W H C = false := by simpa using hg
    have ht : T = ⟨#[]⟩ := by rw [← HT.out]; unfold gtextT; rw [if_neg hg]
    subst ht
    rw [hg2]
    exact specText_no W H C hC hg2 w
theorem implText (W H : Int) (C T : ByteArray) (b : Bool) (hC : C.size ≤ 1048576) (HT : Hid (gtextT W H C = T)) (HB : Hid (gok W H C = b)) (w : World) (ht : Hid (Tab w)) :
    Calls Tryd.prog 8 #[.agg #[.int .i64 W, .int .i64 H, .string C]] w (TextBack T b w) := by
  obtain rfl : gok W H C = b := HB.out
  by_cases hg : gok W H C = true
  · obtain ⟨a, b, rfl, rfl, h1, h2, h3, h4, hs⟩ := sides_of hg
    rw [hg]
    exact implText_yes a b C T hC hg h1 h2 h3 h4 hs (by rw [← HT.out]; unfold gtextT; rw [if_pos hg]; rfl) w ht
  · have hg2 : gok W H C = false := by simpa using hg
    have hT : T = ⟨#[]⟩ := by rw [← HT.out]; unfold gtextT; rw [if_neg hg]
    subst hT
    rw [hg2]
    exact implText_no W H C hC hg2 w

end Go.Proofs.YtcofajganakbiaaDoor
