/-
  CONTRACT of slices.BinarySearch at []int: of a list in ascending order, how many elements are less than the one looked for, and whether it is among them. No law is proved here.
-/
import Derived.Test.YtlkhecdlmbhiaaaArgInts
import Derived.Shelf.RegionOpenPlain
import Derived.Deep.LoopGhost
import Derived.Lib.SlicesSearch
namespace Go.Proofs.Ytlkhecdlmbhiaaa
set_option maxRecDepth 4096
open Go.ChangeShapes Go.WideShapes Go.ChangeAt Go.RowKit

theorem cmpNaN (x : Int) (w : World) : Calls Try.prog 37 #[.int .i64 x] w fun e w' => e = .returned (.bool false) ∧ w = w' := by
  go_enter Try.func37, Try.ntmps37
  go_wp2
  go_ret
  exact ⟨by simp, rfl⟩
theorem slicesNaN (x : Int) (w : World) : Calls Try.prog 31 #[.int .i64 x] w fun e w' => e = .returned (.bool false) ∧ w = w' := by
  go_enter Try.func31, Try.ntmps31
  go_wp2
  go_ret
  exact ⟨by simp, rfl⟩
theorem cmpLess (x y : Int) (w : World) : Calls Try.prog 30 #[.int .i64 x, .int .i64 y] w fun e w' => e = .returned (.bool (decide (x < y))) ∧ w = w' := by
  go_enter Try.func30, Try.ntmps30
  go_wp2_with (go_at_call 37; refine (cmpNaN _ _).mono ?_; rintro e w' ⟨rfl, rfl⟩)
  go_ret
  exact ⟨rfl, rfl⟩

theorem getD_at {L : List Int} {j : Nat} (h : j < L.length) : L[j]? = some (L.getD j 0) := by
  rw [List.getD_eq_getElem?_getD, List.getElem?_eq_getElem h]
  rfl

set_option maxHeartbeats 4000000 in
theorem implFind (L : List Int) (x : Int) (v : Value) (n : Nat) (b : Bool) (hL : L.length ≤ 2000000) (hs : L.Pairwise (· ≤ ·)) (HN : Hid (L.countP (fun y => decide (y < x)) = n)) (HB : Hid (L.contains x = b)) (w : World) (hv : Ints w v L) :
    Calls Try.prog 23 #[v, .int .i64 x] w fun e w' => e = .returned (.tuple #[.int .i64 n, .bool b]) ∧ ∃ q, w' = w.drewN q := by
  have S : Hid (∀ a b, a ≤ b → b < L.length → L.getD a 0 ≤ L.getD b 0) := Lib.hid (Lib.sorted_at L L.length (Nat.le_refl _) (by rw [List.take_length]; exact hs))
  obtain ⟨av, cv, rfl, HV⟩ := ints_form hv
  have HVh := Lib.hid HV
  clear hs HV hv
  go_enter Try.func23, Try.ntmps23
  go_wp2
  go_loopg [7, 8] L.length (fun g s7 s8 wr => ∃ lo hi q : Nat, s7 = .int .i64 lo ∧ s8 = .int .i64 hi ∧ lo ≤ hi ∧ hi ≤ L.length ∧ hi - lo ≤ g ∧ wr = w.drewN q ∧ (∀ t, t < lo → L.getD t 0 < x) ∧ (∀ t, hi ≤ t → t < L.length → x ≤ L.getD t 0))
  case atStart => exact ⟨0, L.length, 0, rfl, rfl, Nat.zero_le _, Nat.le_refl _, by omega, rfl, fun t ht => absurd ht (Nat.not_lt_zero _), fun t h1 h2 => by omega⟩
  case round =>
    obtain ⟨lo, hi, q, rfl, rfl, hlh, hin, hg, rfl, h1, h2⟩ := hrel
    have I : Hid ((∀ t, t < lo → L.getD t 0 < x) ∧ (∀ t, hi ≤ t → t < L.length → x ≤ L.getD t 0)) := Lib.hid ⟨h1, h2⟩
    clear h1 h2
    by_cases hlt : lo < hi
    · obtain ⟨y, hy⟩ : ∃ y, L.getD ((lo + hi) / 2) 0 = y := ⟨_, rfl⟩
      rcases HVh.out with h0 | ⟨g', rfl, hgl, hc⟩
      · omega
      · have cm : w.cell? ⟨g', (lo + hi) / 2, none⟩ = some (.int .i64 y) := hc _ _ (by rw [getD_at (by omega), hy])
        have Y := Lib.hid hy
        clear hy hc
        by_cases hyx : y < x
        · go_wp2_with (first | (go_at_call 30; refine (cmpLess _ _ _).mono ?_; rintro e w' ⟨rfl, rfl⟩) | (go_at_call 31; refine (slicesNaN _ _).mono ?_; rintro e w' ⟨rfl, rfl⟩))
          go_roundg (hi - ((lo + hi) / 2 + 1))
          case measure => omega
          case rel =>
            refine ⟨(lo + hi) / 2 + 1, hi, _, by rw [show ((lo : Int) + (hi : Int)) / 2 + 1 = (((lo + hi) / 2 + 1 : Nat) : Int) by omega], rfl, by omega, hin, Nat.le_refl _, rfl, fun t ht => ?_, I.out.2⟩
            have := S.out t ((lo + hi) / 2) (by omega) (by omega)
            rw [Y.out] at this
            omega
        · go_wp2_with (first | (go_at_call 30; refine (cmpLess _ _ _).mono ?_; rintro e w' ⟨rfl, rfl⟩) | (go_at_call 31; refine (slicesNaN _ _).mono ?_; rintro e w' ⟨rfl, rfl⟩))
          go_roundg ((lo + hi) / 2 - lo)
          case measure => omega
          case rel =>
            refine ⟨lo, (lo + hi) / 2, _, rfl, by rw [show ((lo : Int) + (hi : Int)) / 2 = (((lo + hi) / 2 : Nat) : Int) by omega], by omega, by omega, Nat.le_refl _, rfl, I.out.1, fun t ht htn => ?_⟩
            have := S.out ((lo + hi) / 2) t ht htn
            rw [Y.out] at this
            omega
    · have : hi = lo := by omega
      subst this
      obtain ⟨e1, e2⟩ := Lib.search_end L L.length hi x (Nat.le_refl _) hin I.out.1 I.out.2 S.out
      rw [List.take_length] at e1 e2
      have E1 : Hid (n = hi) := Lib.hid (by rw [← HN.out]; exact e1)
      have E2 : Hid (b = decide (hi < L.length ∧ L.getD hi 0 = x)) := Lib.hid (by rw [← HB.out]; exact e2)
      clear e1 e2
      by_cases hn : hi < L.length
      · obtain ⟨y, hy⟩ : ∃ y, L.getD hi 0 = y := ⟨_, rfl⟩
        rcases HVh.out with h0 | ⟨g', rfl, hgl, hc⟩
        · omega
        · have cl : w.cell? ⟨g', hi, none⟩ = some (.int .i64 y) := hc _ _ (by rw [getD_at (by omega), hy])
          have Y := Lib.hid hy
          clear hy hc
          by_cases hyx : y = x
          · go_wp2_with (first | (go_at_call 30; refine (cmpLess _ _ _).mono ?_; rintro e w' ⟨rfl, rfl⟩) | (go_at_call 31; refine (slicesNaN _ _).mono ?_; rintro e w' ⟨rfl, rfl⟩))
            go_ret2
            refine ⟨?_, _, rfl⟩
            rw [E1.out, E2.out, Y.out, decide_eq_true (show hi < L.length ∧ y = x from ⟨hn, hyx⟩)]
            first | rfl | simp [*]
          · go_wp2_with (first | (go_at_call 30; refine (cmpLess _ _ _).mono ?_; rintro e w' ⟨rfl, rfl⟩) | (go_at_call 31; refine (slicesNaN _ _).mono ?_; rintro e w' ⟨rfl, rfl⟩))
            go_ret2
            refine ⟨?_, _, rfl⟩
            rw [E1.out, E2.out, Y.out, decide_eq_false (show ¬ (hi < L.length ∧ y = x) from fun h => hyx h.2)]
            first | rfl | simp [*]
      · go_wp2_with (first | (go_at_call 30; refine (cmpLess _ _ _).mono ?_; rintro e w' ⟨rfl, rfl⟩) | (go_at_call 31; refine (slicesNaN _ _).mono ?_; rintro e w' ⟨rfl, rfl⟩))
        go_ret2
        refine ⟨?_, _, rfl⟩
        rw [E1.out, E2.out, decide_eq_false (show ¬ (hi < L.length ∧ L.getD hi 0 = x) from fun h => hn h.1)]
        first | rfl | simp [*]

end Go.Proofs.Ytlkhecdlmbhiaaa
