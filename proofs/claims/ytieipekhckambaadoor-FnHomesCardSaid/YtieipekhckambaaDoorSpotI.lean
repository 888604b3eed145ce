/-
  CONTRACT of the program's SpotOf. No law is proved here.
-/
import Derived.Test.YtieipekhckambaaDoorSpecCell
import Derived.Test.YtieipekhckambaaDoorGridOkI
namespace Go.Proofs.YtieipekhckambaaDoor
set_option maxRecDepth 4096
open Go.ChangeShapes Go.WideShapes Go.ChangeAt Go.RowKit

theorem implSpot_no (W H : Int) (C : ByteArray) (c : Int) (hC : C.size ≤ 1048576) (h : ¬ cellOk W H C c = true) (w : World) :
    Calls Tryd.prog 67 #[.agg #[.int .i64 W, .int .i64 H, .string C], .int .i64 c] w (Spot (-1) (-1) w) := by
  rcases cellOk_no h with hg | ⟨hg, h1⟩ | ⟨hg, h1, h2⟩
  all_goals
    clear h
    have hB := Below.refl (w.alloc (.cells #[.int .i64 W, .int .i64 H, .string C] 25)).heap.size (w.alloc (.cells #[.int .i64 W, .int .i64 H, .string C] 25))
    go_enter Tryd.func67, Tryd.ntmps67
    go_wp2_with (go_at_call 36; (with_reducible refine (implGridOk W H C hC _).mono ?_); rintro e w1 ⟨rfl, hb⟩; replace hB := chain hB hb; obtain ⟨c0, c1, c2⟩ := box_cells hB; clear hb)
    go_ret2
    exact ⟨rfl, box_below hB⟩

set_option maxHeartbeats 400000 in
theorem implSpot_yes (a b : Nat) (C : ByteArray) (n q m : Nat) (hC : C.size ≤ 1048576) (hg : gok a b C = true) (hn : n < C.size) (ha : 1 ≤ a) (_hm : m < a) (hd : (n : Int).tdiv (a : Int) = (q : Int)) (he : (n : Int).tmod (a : Int) = (m : Int)) (hq : q < 8) (w : World) :
    Calls Tryd.prog 67 #[.agg #[.int .i64 a, .int .i64 b, .string C], .int .i64 n] w (Spot m q w) := by
  have hB := Below.refl (w.alloc (.cells #[.int .i64 a, .int .i64 b, .string C] 25)).heap.size (w.alloc (.cells #[.int .i64 a, .int .i64 b, .string C] 25))
  have hn3 : ¬ (C.size : Int) ≤ (n : Int) := by omega
  have HE := Lib.hid hd
  have HE2 := Lib.hid he
  have e3 : IntKind.i64.wrap (q : Int) = (q : Int) := IntWalk.i64_in _ (by omega)
  have HE3 := Lib.hid e3
  clear hd he e3
  go_enter Tryd.func67, Tryd.ntmps67
  go_wp2_with (go_at_call 36; (with_reducible refine (implGridOk a b C hC _).mono ?_); rintro e w1 ⟨rfl, hb⟩; replace hB := chain hB hb; obtain ⟨c0, c1, c2⟩ := box_cells hB; clear hb)
  have e1 := HE.out
  have e2 := HE2.out
  have e3 := HE3.out
  go_quiet (fail)
  clear e1 e2 e3
  go_wp2
  go_ret2
  exact ⟨rfl, box_below (below_drewN hB nq)⟩

theorem implSpotOf (W H : Int) (C : ByteArray) (c : Int) (hC : C.size ≤ 1048576) (w : World) :
    Calls Tryd.prog 67 #[.agg #[.int .i64 W, .int .i64 H, .string C], .int .i64 c] w (Spot (spotX W H C c) (spotY W H C c) w) := by
  by_cases h : cellOk W H C c = true
  · obtain ⟨hg, n, rfl, hn⟩ := cellOk_out h
    obtain ⟨a, b, q, m, rfl, rfl, ha1, _, hb, hq, hm, hd, he, _⟩ := spot_of hg hn
    refine (implSpot_yes a b C n q m hC hg hn ha1 hm hd he (by omega) w).mono fun e w' hh => spot_to hh ?_ ?_
    · unfold spotX; rw [if_pos h, he]
    · unfold spotY; rw [if_pos h, hd]
  · refine (implSpot_no W H C c hC h w).mono fun e w' hh => spot_to hh ?_ ?_
    · unfold spotX; rw [if_neg h]
    · unfold spotY; rw [if_neg h]

end Go.Proofs.YtieipekhckambaaDoor
