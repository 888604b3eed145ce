/-
  CONTRACT of the program's GridOk. No law is proved here.
-/
import Derived.Test.YtlkhecdlmbhiaaaGridLaw
namespace Go.Proofs.Ytlkhecdlmbhiaaa
set_option maxRecDepth 4096
open Go.ChangeShapes Go.WideShapes Go.ChangeAt Go.RowKit

theorem implGridOk (W H : Int) (C : ByteArray) (hC : C.size ≤ 1048576) (w : World) :
    Calls Try.prog 17 #[.agg #[.int .i64 W, .int .i64 H, .string C]] w (Made w (.bool (gok W H C))) := by
  go_enter Try.func17, Try.ntmps17
  go_wp2_with (first
    | (go_at_call 26; (with_reducible refine (rowsOf W H C hC _).mono ?_); rintro e w' ⟨rfl, hb⟩)
    | (refine wpStoreRows W H C _ _ rfl rfl rfl rfl ?_))
  go_ret
  exact ⟨rfl, (((Below.refl _ _).alloc (Nat.le_refl _) _).trans (hb.mono (by simp))).trans ((rows_in _ _).1.mono (by have := hb.size; simp at this; omega))⟩

end Go.Proofs.Ytlkhecdlmbhiaaa
