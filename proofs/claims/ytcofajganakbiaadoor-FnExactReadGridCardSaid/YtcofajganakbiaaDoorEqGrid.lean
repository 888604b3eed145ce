/-
  CONTRACT of the laws' own helper eqGrid at two grids that are the same. No law is proved here.
-/
import Derived.Test.YtcofajganakbiaaDoorGridLaw
namespace Go.Proofs.YtcofajganakbiaaDoor
open Go.ChangeShapes Go.WideShapes Go.ChangeAt Go.RowKit

theorem eqGridSame (W H : Int) (C : ByteArray) (w : World) :
    Calls Tryd.prog 11 #[.agg #[.int .i64 W, .int .i64 H, .string C], .agg #[.int .i64 W, .int .i64 H, .string C]] w (Made w (.bool true)) := by
  go_enter Tryd.func11, Tryd.ntmps11
  go_wp2
  go_ret
  exact ⟨rfl, ((Below.refl _ _).alloc (Nat.le_refl _) _).alloc (by simp) _⟩

end Go.Proofs.YtcofajganakbiaaDoor
