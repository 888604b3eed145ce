/-
  CONTRACTS of the laws' own helpers szNet (and, imported, eqNet, markNet). No law is proved here.
-/
import Derived.Test.YtobflidianlomaaNetCopy
import Derived.Test.YtobflidianlomaaNetEqA
namespace Go.Proofs.Ytobflidianlomaa
set_option maxRecDepth 4096
open Go.ChangeShapes Go.WideShapes Go.ChangeAt Go.RowKit

theorem szNet_yes (N : Int) (v : Value) (A : List ArcD) (hA : A.length ≤ 1048576) (w : World) (hv : ArgA w v A) :
    Calls Try.prog 15 #[.agg #[.int .i64 N, v], .int .i64 1048576] w (Made w (.int .i64 (1048576 - (A.length : Int)))) := by
  obtain ⟨av, cv, rfl, _⟩ := hv
  have h0 : ¬ (1048576 - (A.length : Int)) < 0 := by omega
  have hw : IntKind.i64.wrap (1048576 - (A.length : Int)) = 1048576 - (A.length : Int) := IntWalk.i64_in _ (by omega)
  go_enter Try.func15, Try.ntmps15
  go_wp2
  go_ret
  exact ⟨rfl, (Below.refl _ _).alloc (Nat.le_refl _) _⟩
theorem szNet_no (N : Int) (v : Value) (A : List ArcD) (hA : A.length ≤ 9223372036854775807) (h : ¬ A.length ≤ 1048576) (w : World) (hv : ArgA w v A) :
    Calls Try.prog 15 #[.agg #[.int .i64 N, v], .int .i64 1048576] w (Made w (.int .i64 (-1))) := by
  obtain ⟨av, cv, rfl, _⟩ := hv
  have h0 : (1048576 - (A.length : Int)) < 0 := by omega
  have hw : IntKind.i64.wrap (1048576 - (A.length : Int)) = 1048576 - (A.length : Int) := IntWalk.i64_in _ (by omega)
  go_enter Try.func15, Try.ntmps15
  go_wp2
  go_ret
  exact ⟨rfl, (Below.refl _ _).alloc (Nat.le_refl _) _⟩

end Go.Proofs.Ytobflidianlomaa
