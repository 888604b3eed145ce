/-
  CONTRACT of the program's FreeAt. No law is proved here.
-/
import Derived.Test.YtlkhecdlmbhiaaaRowWith
import Derived.Test.YtlkhecdlmbhiaaaFreeI
namespace Go.Proofs.Ytlkhecdlmbhiaaa
set_option maxRecDepth 4096
open Go.ChangeShapes Go.WideShapes Go.ChangeAt Go.RowKit

set_option maxHeartbeats 400000 in
theorem implFreeAt (W H : Int) (C : ByteArray) (c : Int) (hC : C.size ≤ 1048576) (w : World) :
    Calls Try.prog 27 #[.agg #[.int .i64 W, .int .i64 H, .string C], .int .i64 c] w (Made w (.bool (freeV W H C c))) := by
  have hB := Below.refl (w.alloc (.cells #[.int .i64 W, .int .i64 H, .string C] 27)).heap.size (w.alloc (.cells #[.int .i64 W, .int .i64 H, .string C] 27))
  by_cases h : cellOk W H C c = true
  · obtain ⟨hg, n, rfl, hn⟩ := cellOk_out h
    obtain ⟨r, m, hm, hby, HW⟩ := rowWith_at hC hg hn
    have HF : Hid (freeB (byteAt r m) = freeV W H C n) := Lib.hid (by rw [hby, freeV_at hg hn])
    have HWW := Lib.hid HW
    clear h hg hby HW
    go_enter Try.func27, Try.ntmps27
    go_wp2_with (first
      | (go_at_call 36; (with_reducible refine (HWW.out _).mono ?_); rintro e w1 ⟨rfl, hb⟩; replace hB := chain hB hb; clear hb)
      | (go_at_call 29; (with_reducible refine (freeI _ _ m rfl hm _).mono ?_); rintro e w2 ⟨rfl, rfl⟩))
    go_ret
    exact ⟨bool_ret HF.out rfl, box_below hB⟩
  · have HF : Hid (false = freeV W H C c) := Lib.hid (by unfold freeV; simp [h])
    go_enter Try.func27, Try.ntmps27
    go_wp2_with (go_at_call 36; (with_reducible refine (rowWith_no W H C c hC h _).mono ?_); rintro e w1 ⟨rfl, hb⟩; replace hB := chain hB hb; clear hb)
    go_ret
    exact ⟨bool_ret HF.out rfl, box_below hB⟩

end Go.Proofs.Ytlkhecdlmbhiaaa
