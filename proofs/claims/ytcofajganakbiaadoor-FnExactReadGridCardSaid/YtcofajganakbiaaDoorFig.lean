/-
  CONTRACT of the model's l01Figure: the digit of a number below 16.
-/
import Derived.Test.YtcofajganakbiaaDoorBase
namespace Go.Proofs.YtcofajganakbiaaDoor
open Go.ChangeShapes Go.WideShapes Go.ChangeAt Go.RowKit

def fig (n : Nat) : UInt8 := if n < 10 then UInt8.ofNat (48 + n) else UInt8.ofNat (87 + n)
theorem fig_num (n : Nat) (h : n < 16) : ((fig n).toNat : Int) = if n < 10 then 48 + (n : Int) else 87 + n := by
  unfold fig
  split <;> simp [UInt8.toNat_ofNat'] <;> omega

theorem l01Figure (n : Nat) (h : n < 16) (w : World) :
    Calls Tryd.prog 22 #[.int .i64 n] w fun e w' => e = .returned (.int .u8 (fig n).toNat) ∧ w = w' := by
  have hf := fig_num n h
  have HF := Lib.hid hf
  clear hf
  by_cases h1 : n < 10
  · have h2 : (n : Int) < 10 := by omega
    go_enter Tryd.func22, Tryd.ntmps22
    go_wp2
    go_ret
    exact ⟨ret_int (by rw [HF.out]; simp [h1]), rfl⟩
  · have h2 : ¬ (n : Int) < 10 := by omega
    go_enter Tryd.func22, Tryd.ntmps22
    go_wp2
    go_ret
    exact ⟨ret_int (by rw [HF.out]; simp [h1]; omega), rfl⟩

theorem l01FigureI (x : Int) (h0 : 0 ≤ x) (h : x < 16) (w : World) :
    Calls Tryd.prog 22 #[.int .i64 x] w fun e w' => e = .returned (.int .u8 (fig x.toNat).toNat) ∧ w = w' := by
  obtain ⟨n, rfl⟩ : ∃ n : Nat, x = n := ⟨x.toNat, by omega⟩
  exact l01Figure n (by omega) w


end Go.Proofs.YtcofajganakbiaaDoor
