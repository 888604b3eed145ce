/-
  CONTRACT of the program's gridRows.freeAt. No law is proved here.
-/
import Derived.Test.YtieipekhckambaaDoorSpecCell
import Derived.Test.YtieipekhckambaaDoorFreeI
namespace Go.Proofs.YtieipekhckambaaDoor
set_option maxRecDepth 4096
open Go.ChangeShapes Go.WideShapes Go.ChangeAt Go.RowKit

/-- Row y of the array of rows. -/
def rowAt (C : ByteArray) (a b y : Nat) : ByteArray := if y < b then rowT C a y else ⟨#[]⟩
theorem rowsV_any (C : ByteArray) (a b y : Nat) (h : y < 8) : (rowsV C a b)[y]? = some (.string (rowAt C a b y)) := by
  unfold rowsV rowAt
  rw [Array.getElem?_ofFn, dif_pos h]
  dsimp only
  split <;> rfl

theorem freeVTo {W H : Int} {C : ByteArray} {z : Int} {f : Bool} (HF : Hid (freeV W H C z = f)) (h : z < 0) : false = f := by
  rw [← HF.out]
  unfold freeV cellOk
  have h1 : decide (0 ≤ z) = false := by simpa using h
  rw [h1]
  simp

set_option maxHeartbeats 1000000 in
theorem stepFree (a b : Nat) (C : ByteArray) (x y : Int) (f : Bool) (hg : gok a b C = true) (HF : Hid (freeV a b C (cellAtV a b C x y) = f)) (w : World) :
    Calls Tryd.prog 68 #[.agg (rowsV C a b), .int .i64 x, .int .i64 y] w (Made w (.bool f)) := by
  obtain ⟨⟨⟨h1, h2⟩, ⟨h3, h4⟩, hs⟩, _⟩ := gok_out hg
  have hs2 : C.size = a * b := by have : ((a * b : Nat) : Int) = (a : Int) * (b : Int) := Int.natCast_mul a b; omega
  have hB := (Below.refl w.heap.size w).alloc (Nat.le_refl _) (.cells (rowsV C a b) 74)
  have HG := Lib.hid hg
  have HS2 := Lib.hid hs2
  clear hs hs2 hg
  by_cases hy0 : 0 ≤ y
  · by_cases hy8 : y < 8
    · obtain ⟨Y, rfl⟩ : ∃ Y : Nat, y = Y := ⟨y.toNat, by omega⟩
      by_cases hx0 : 0 ≤ x
      · obtain ⟨X, rfl⟩ : ∃ X : Nat, x = X := ⟨x.toNat, by omega⟩
        obtain ⟨r, HR⟩ : ∃ r, Hid (rowAt C a b Y = r) := ⟨_, rfl⟩
        have d1 : (w.alloc (.cells (rowsV C a b) 74)).cell? ⟨w.heap.size, Y, none⟩ = some (.string r) := by
          rw [cell_of_row _ _ _ _ _ _ (heap_alloc_new w _), rowsV_any C a b Y (by omega), HR.out]
        by_cases hx : (X : Int) < (r.size : Int)
        · have hYb : Y < b := by
            rcases Nat.lt_or_ge Y b with h | h
            · exact h
            · have e := HR.out; unfold rowAt at e; rw [if_neg (by omega)] at e; rw [← e] at hx; have : (X : Int) < 0 := hx; omega
          have hrT : rowT C a Y = r := by have e := HR.out; unfold rowAt at e; rwa [if_pos hYb] at e
          have hle : (Y + 1) * a ≤ C.size := by rw [HS2.out, Nat.mul_comm a b]; exact Nat.mul_le_mul_right a (by omega)
          have hrs : r.size = a := by rw [← hrT]; exact row_size C a Y hle
          have hlt : Y * a + X < C.size := by rw [Nat.add_mul, Nat.one_mul] at hle; omega
          have hz : cellAtV a b C X Y = ((Y * a + X : Nat) : Int) := by
            rw [cellAtV_yes ⟨HG.out, ⟨by omega, by omega⟩, by omega, by omega⟩, Int.natCast_add, Int.natCast_mul]
          have HP : Hid (freeB (byteAt r X) = f) := Lib.hid (by
            rw [← HF.out, hz, freeV_at HG.out hlt, ← hrT, row_byte C a Y X hle (by omega)])
          clear hrT hle hlt hz
          go_enter Tryd.func68, Tryd.ntmps68
          go_wp2_with (go_at_call 63; (with_reducible refine (freeTo _ _ X f HP rfl (by omega) _).mono ?_); rintro e w2 ⟨rfl, rfl⟩)
          go_ret
          exact ⟨rfl, hB⟩
        · have HN : Hid (false = f) := Lib.hid (by
            refine freeVTo HF ?_
            rw [cellAtV_no (fun h => ?_)]
            · decide
            · have hYb : Y < b := by omega
              have hrT : rowT C a Y = r := by have e := HR.out; unfold rowAt at e; rwa [if_pos hYb] at e
              have hle : (Y + 1) * a ≤ C.size := by rw [HS2.out, Nat.mul_comm a b]; exact Nat.mul_le_mul_right a (by omega)
              have hrs : r.size = a := by rw [← hrT]; exact row_size C a Y hle
              omega)
          go_enter Tryd.func68, Tryd.ntmps68
          go_wp2
          go_ret
          exact ⟨bool_ret HN.out rfl, hB⟩
      · have HN : Hid (false = f) := Lib.hid (freeVTo HF (by rw [cellAtV_no (fun h => by omega)]; decide))
        go_enter Tryd.func68, Tryd.ntmps68
        go_wp2
        go_ret
        exact ⟨bool_ret HN.out rfl, hB⟩
    · have HN : Hid (false = f) := Lib.hid (freeVTo HF (by rw [cellAtV_no (fun h => by omega)]; decide))
      go_enter Tryd.func68, Tryd.ntmps68
      go_wp2
      go_ret
      exact ⟨bool_ret HN.out rfl, hB⟩
  · have HN : Hid (false = f) := Lib.hid (freeVTo HF (by rw [cellAtV_no (fun h => by omega)]; decide))
    go_enter Tryd.func68, Tryd.ntmps68
    go_wp2
    go_ret
    exact ⟨bool_ret HN.out rfl, hB⟩

end Go.Proofs.YtieipekhckambaaDoor
