/-
  CONTRACT of the program's ReadDecimal. No law is proved here.
-/
import Derived.Test.YtcofajganakbiaaDoorReadNum
import Derived.Test.YtcofajganakbiaaDoorShelf
import Derived.Lib.LaidTab
import Derived.Lib.AppendIntMem
import Derived.Lib.BufferWrite
import Derived.Stop.Joined
namespace Go.Proofs.YtcofajganakbiaaDoor
open Go.ChangeShapes Go.WideShapes Go.ChangeAt Go.RowKit

/-- How Atoi ends, and what that says of the number: nothing of memory that was there has turned. -/
def AtoiBack (s : ByteArray) (w : World) (e : Ending) (w' : World) : Prop :=
  Below w.heap.size w w' ∧ ((∃ v, e = .returned (.tuple #[.int .i64 v, .nilIface]) ∧ Lib.atoiAll s.data.toList = .ok v) ∨
    (∃ v t p, e = .returned (.tuple #[.int .i64 v, .iface t p]) ∧ ∀ q, Lib.atoiAll s.data.toList ≠ .ok q))

theorem below_bytes (w : World) (T : TypeId) (t : ByteArray) : Below w.heap.size w (Lib.bytesWorld w T t) := by
  unfold Lib.bytesWorld
  exact Lib.below_freeze ((Below.refl _ w).drew.alloc (Nat.le_refl _) _) (p := ⟨w.heap.size, (Lib.bytesCells w T t).size, none⟩) (Nat.le_refl _) _

theorem atoi (s : ByteArray) (hlim : s.size ≤ 140737488355328) (ev1 ev2 : Value) (w : World) (h1 : w.cell? ⟨1, 0, none⟩ = some ev1) (hev1 : ∃ t p, ev1 = .iface t p) (h2 : w.cell? ⟨2, 0, none⟩ = some ev2) (hev2 : ∃ t p, ev2 = .iface t p) :
    Calls Tryd.prog 27 #[.string s] w (AtoiBack s w) := by
  cases h : Lib.atoiAll s.data.toList
  · rename_i v
    refine (Any.strconv_Atoi_ok Tryd.laysC172 s (by omega) v h w).mono fun e w' hw => ?_
    obtain ⟨he, hw⟩ := hw
    refine ⟨?_, .inl ⟨v, he, h⟩⟩
    rcases hw with rfl | ⟨t, rfl⟩
    · exact Below.refl _ _
    · exact below_bytes w _ t
  · refine (Any.strconv_Atoi_syntax Tryd.laysC172 s (by omega) h ev1 w h1 (.inr hev1)).mono fun e w' hw => ?_
    obtain ⟨N, he, _, _, hb⟩ := hw
    exact ⟨hb, .inr ⟨_, _, _, he, fun q hq => by rw [h] at hq; cases hq⟩⟩
  · refine (Any.strconv_Atoi_range Tryd.laysC172 s (by omega) h ev2 w h2 (.inr hev2)).mono fun e w' hw => ?_
    obtain ⟨N, he, _, _, hb⟩ := hw
    exact ⟨hb, .inr ⟨_, _, _, he, fun q hq => by rw [h] at hq; cases hq⟩⟩

theorem strconvItoa (n : Int) (h0 : Hid (-9223372036854775808 ≤ n)) (h1 : Hid (n ≤ 9223372036854775807)) (w : World) (ht : Lib.TabIs Tryd.prog w "internal/strconv.uint64pow10" .u64 Lib.pow10Tab) :
    Calls Tryd.prog 25 #[.int .i64 n] w (Made w (.string ⟨(Lib.itoa n).toArray⟩)) :=
  (Any.strconv_Itoa Tryd.laysM171 n h0.out h1.out w ht).mono fun e w' ⟨he, k, os, hw⟩ => ⟨he, by rw [hw]; exact Lib.below_grow _ w (Nat.le_refl _) k os⟩

theorem implDecimal (n : Int) (h0 : Hid (-9223372036854775808 ≤ n)) (h1 : Hid (n ≤ 9223372036854775807)) (w : World) (ht : Hid (Lib.TabIs Tryd.prog w "internal/strconv.uint64pow10" .u64 Lib.pow10Tab)) :
    Calls Tryd.prog 15 #[.int .i64 n] w (Made w (.string ⟨(Lib.itoa n).toArray⟩)) := by
  go_enter Tryd.func15, Tryd.ntmps15
  go_wp2_with (go_at_call 25; (with_reducible refine (strconvItoa _ h0 h1 _ ht.out).mono ?_); rintro e w1 ⟨rfl, hb1⟩)
  go_ret
  exact ⟨rfl, hb1⟩

set_option maxHeartbeats 1000000 in
theorem implRead (s : ByteArray) (hlim : s.size ≤ 140737488355328) (ev1 ev2 : Value) (w : World) (h1 : Hid (w.cell? ⟨1, 0, none⟩ = some ev1)) (hev1 : ∃ t p, ev1 = .iface t p) (h2 : Hid (w.cell? ⟨2, 0, none⟩ = some ev2)) (hev2 : ∃ t p, ev2 = .iface t p)
    (ht : Hid (Lib.TabIs Tryd.prog w "internal/strconv.uint64pow10" .u64 Lib.pow10Tab)) :
    Calls Tryd.prog 17 #[.string s] w (ReadBack s w) := by
  go_enter Tryd.func17, Tryd.ntmps17
  go_wp2_with fail
  refine (atoi s hlim ev1 ev2 _ h1.out hev1 h2.out hev2).mono ?_
  rintro e w1 ⟨hb1, ⟨v, rfl, ha⟩ | ⟨v, t, p, rfl, ha⟩⟩
  · have HA := Lib.hid ha
    clear ha
    have ht1 := Lib.hid (Lib.tabBelow_of_tabIs ht.out _ hb1)
    by_cases c1 : v < 0
    · have HN := Lib.hid (no_atoi (s := s) (fun m hm e => by rw [HA.out] at e; injection e with e; omega))
      go_wp2
      go_ret2
      exact ⟨0, false, rfl, HN.out, hb1⟩
    · by_cases c2 : 1000000000 < v
      · have HN := Lib.hid (no_atoi (s := s) (fun m hm e => by rw [HA.out] at e; injection e with e; omega))
        go_wp2
        go_ret2
        exact ⟨0, false, rfl, HN.out, hb1⟩
      · by_cases c3 : s = ⟨(Lib.itoa v).toArray⟩
        · have HN := Lib.hid (yes_same (q := v) (by omega) (by omega) c3)
          have HC := Lib.hid c3
          clear c3
          go_wp2_with (go_at_call 15; (with_reducible refine (implDecimal _ (Lib.hid (by omega)) (Lib.hid (by omega)) _ ht1).mono ?_); rintro e w2 ⟨rfl, hb2⟩; rw [← HC.out])
          go_ret2
          exact ⟨_, true, rfl, HN.out, hb1.trans (hb2.mono hb1.size)⟩
        · have HN := Lib.hid (no_same_atoi HA.out c3)
          have hne := text_ne c3
          clear c3
          go_wp2_with (go_at_call 15; (with_reducible refine (implDecimal _ (Lib.hid (by omega)) (Lib.hid (by omega)) _ ht1).mono ?_); rintro e w2 ⟨rfl, hb2⟩)
          go_ret2
          exact ⟨0, false, rfl, HN.out, hb1.trans (hb2.mono hb1.size)⟩
  · have HN := Lib.hid (no_atoi (s := s) (fun m _ => ha _))
    clear ha
    go_wp2
    all_goals (go_ret2; exact ⟨0, false, rfl, HN.out, hb1⟩)

end Go.Proofs.YtcofajganakbiaaDoor
