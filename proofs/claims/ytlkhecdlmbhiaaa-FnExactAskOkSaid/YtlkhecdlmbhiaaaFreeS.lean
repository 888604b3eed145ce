/-
  CONTRACT of spec.FreeAt. No law is proved here.
-/
import Derived.Test.YtlkhecdlmbhiaaaCellOk
namespace Go.Proofs.Ytlkhecdlmbhiaaa
set_option maxRecDepth 4096
open Go.ChangeShapes Go.WideShapes Go.ChangeAt Go.RowKit

theorem specFree_no (W H : Int) (C : ByteArray) (c : Int) (hC : C.size ≤ 1048576) (h : ¬ cellOk W H C c = true) (w : World) :
    Calls Try.prog 22 #[.agg #[.int .i64 W, .int .i64 H, .string C], .int .i64 c] w (Made w (.bool false)) := by
  rcases cellOk_no h with hg | ⟨hg, h1⟩ | ⟨hg, h1, h2⟩
  all_goals
    clear h
    have hB := Below.refl (w.alloc (.cells #[.int .i64 W, .int .i64 H, .string C] 27)).heap.size (w.alloc (.cells #[.int .i64 W, .int .i64 H, .string C] 27))
    go_enter Try.func22, Try.ntmps22
    go_wp2_with (go_at_call 13; (with_reducible refine (specGridOk W H C hC _).mono ?_); rintro e w1 ⟨rfl, hb⟩; replace hB := chain hB hb; obtain ⟨c0, c1, c2⟩ := box_cells hB; clear hb)
    go_ret
    exact ⟨rfl, box_below hB⟩

theorem specFree_yes (W H : Int) (C : ByteArray) (n : Nat) (b : Bool) (hC : C.size ≤ 1048576) (hg : gok W H C = true) (hn : n < C.size) (HB : Hid (freeB (byteAt C n) = b)) (w : World) :
    Calls Try.prog 22 #[.agg #[.int .i64 W, .int .i64 H, .string C], .int .i64 n] w (Made w (.bool b)) := by
  have hat := run_at (P := Try.prog) 9 C .i64 n n rfl hn Try.underlying9
  have hn2 : (n : Int) < (C.size : Int) := by omega
  have hB := Below.refl (w.alloc (.cells #[.int .i64 W, .int .i64 H, .string C] 27)).heap.size (w.alloc (.cells #[.int .i64 W, .int .i64 H, .string C] 27))
  go_enter Try.func22, Try.ntmps22
  go_wp2_with (go_at_call 13; (with_reducible refine (specGridOk W H C hC _).mono ?_); rintro e w1 ⟨rfl, hb⟩; replace hB := chain hB hb; obtain ⟨c0, c1, c2⟩ := box_cells hB; clear hb)
  go_ret
  exact ⟨bool_ret HB.out (by unfold freeB; simp [bne, Bool.beq_eq_decide_eq]), box_below hB⟩

theorem specFreeAt (W H : Int) (C : ByteArray) (c : Int) (hC : C.size ≤ 1048576) (w : World) :
    Calls Try.prog 22 #[.agg #[.int .i64 W, .int .i64 H, .string C], .int .i64 c] w (Made w (.bool (freeV W H C c))) := by
  by_cases h : cellOk W H C c = true
  · obtain ⟨hg, n, rfl, hn⟩ := cellOk_out h
    exact specFree_yes W H C n _ hC hg hn (Lib.hid (by unfold freeV; rw [h]; rfl)) w
  · rw [show freeV W H C c = false from by unfold freeV; simp [h]]
    exact specFree_no W H C c hC h w

end Go.Proofs.Ytlkhecdlmbhiaaa
