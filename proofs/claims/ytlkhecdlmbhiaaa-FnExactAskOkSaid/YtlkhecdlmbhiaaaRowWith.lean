/-
  CONTRACT of the program's rowWith. No law is proved here.
-/
import Derived.Test.YtlkhecdlmbhiaaaPlace
import Derived.Deep.QuietTactic
import Derived.BigQuiet
namespace Go.Proofs.Ytlkhecdlmbhiaaa
set_option maxRecDepth 4096
open Go.ChangeShapes Go.WideShapes Go.ChangeAt Go.RowKit

def RowNone (w : World) (e : Ending) (w' : World) : Prop := e = .returned (.tuple #[.string ⟨#[]⟩, .int .i64 0, .bool false]) ∧ Below w.heap.size w w'
def RowSome (r : ByteArray) (m : Nat) (w : World) (e : Ending) (w' : World) : Prop := e = .returned (.tuple #[.string r, .int .i64 m, .bool true]) ∧ Below w.heap.size w w'

set_option maxHeartbeats 1000000 in
theorem rowWith_no (W H : Int) (C : ByteArray) (c : Int) (hC : C.size ≤ 1048576) (h : ¬ cellOk W H C c = true) (w : World) :
    Calls Try.prog 36 #[.agg #[.int .i64 W, .int .i64 H, .string C], .int .i64 c] w (RowNone w) := by
  rcases cellOk_no h with hg | ⟨hg, h1⟩ | ⟨hg, h1, h2⟩
  all_goals
    clear h
    have hB := Below.refl (w.alloc (.cells #[.int .i64 W, .int .i64 H, .string C] 27)).heap.size (w.alloc (.cells #[.int .i64 W, .int .i64 H, .string C] 27))
    go_enter Try.func36, Try.ntmps36
    go_wp2_with (first
      | (go_at_call 26; (with_reducible refine (rowsOf W H C hC _).mono ?_); rintro e w1 ⟨rfl, hb⟩; replace hB := chain hB hb; clear hb)
      | (refine wpStoreRows W H C _ _ rfl rfl rfl rfl ?_; replace hB := chain hB (rows_in w1 (rowsR W H C)).1; obtain ⟨c0, c1, c2⟩ := box_cells hB))
    go_ret3
    exact ⟨rfl, box_below hB⟩

set_option maxHeartbeats 400000 in
theorem rowWith_yes (a b : Nat) (C : ByteArray) (n q m : Nat) (R : Array Value) (hC : C.size ≤ 1048576) (ha : 1 ≤ a) (_hm : m < a) (hq : q < 8) (hn : n < C.size) (hd : (n : Int).tdiv (a : Int) = (q : Int)) (he : (n : Int).tmod (a : Int) = (m : Int)) (hg : gok a b C = true)
    (HR : Hid (rowsR a b C = R)) (hr : R[q]? = some (.string (rowT C a q))) (w : World) :
    Calls Try.prog 36 #[.agg #[.int .i64 a, .int .i64 b, .string C], .int .i64 n] w (RowSome (rowT C a q) m w) := by
  have hB := Below.refl (w.alloc (.cells #[.int .i64 a, .int .i64 b, .string C] 27)).heap.size (w.alloc (.cells #[.int .i64 a, .int .i64 b, .string C] 27))
  have HRq : Hid (R[q]? = some (.string (rowT C a q))) := Lib.hid hr
  have hn2 : (n : Int) < (C.size : Int) := by omega
  have hn3 : ¬ (C.size : Int) ≤ (n : Int) := by omega
  have HE := Lib.hid hd
  have HE2 := Lib.hid he
  clear hr hd he
  go_enter Try.func36, Try.ntmps36
  go_wp2_with (first
    | (go_at_call 26; (with_reducible refine (rowsOf a b C hC _).mono ?_); rintro e w1 ⟨rfl, hb⟩; replace hB := chain hB hb; clear hb)
    | (refine wpStoreRows a b C _ _ rfl rfl rfl rfl ?_; have hR := (rows_in w1 (rowsR a b C)).2; replace hB := chain hB (rows_in w1 (rowsR a b C)).1; obtain ⟨c0, c1, c2⟩ := box_cells hB; have d1 := cell_rows hR HR HRq; clear hR))
  have e1 := HE.out
  have e2 := HE2.out
  have e3 : IntKind.i64.wrap (q : Int) = (q : Int) := IntWalk.i64_in _ (by omega)
  go_quiet (fail)
  go_wp2
  go_ret3
  exact ⟨rfl, box_below (below_drewN hB nq)⟩

/-- The row and the place in it of a cell. -/
theorem rowWith_at {W H : Int} {C : ByteArray} {n : Nat} (hC : C.size ≤ 1048576) (hg : gok W H C = true) (hn : n < C.size) : ∃ (r : ByteArray) (m : Nat), m < r.size ∧ byteAt r m = byteAt C n ∧
    ∀ w, Calls Try.prog 36 #[.agg #[.int .i64 W, .int .i64 H, .string C], .int .i64 n] w (RowSome r m w) := by
  obtain ⟨a, b, q, m, rfl, rfl, ha1, ha2, hb, hq, hm, hd, he, hms, hby, hr⟩ := place hg hn
  exact ⟨rowT C a q, m, hms, hby, fun w => rowWith_yes a b C n q m _ hC ha1 hm (by omega) hn hd he hg (Lib.hid rfl) hr w⟩

end Go.Proofs.Ytlkhecdlmbhiaaa
