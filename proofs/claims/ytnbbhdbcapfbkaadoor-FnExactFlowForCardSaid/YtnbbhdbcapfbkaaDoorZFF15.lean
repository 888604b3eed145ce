/-
  CONTRACTS of the program's methods of kinds of nodes: ofPair, second, number. No law is proved here.
  CONTRACT of slices.BinarySearch at []int: of a list in ascending order, how many elements are less than the one looked for, and whether it is among them. No law is proved here.
  The free cells of a grid: which they are, and that they ascend; lists in strictly ascending order. Plain facts; no statement is proved here.
  Where a cell lies among the rows. No law is proved here.
  CONTRACT of the program's cellsWith at an invalid map, and plain lemmas. No law is proved here.
  CONTRACT of the program's gridRow.free. No law is proved here.
-/
import Derived.Test.YtnbbhdbcapfbkaaDoorZFF00
import Derived.IntWalk
import Derived.Deep.QuietTactic
import Derived.BigQuiet
import Derived.Deep.RegionHeld3
import Derived.Deep.DeepCutAuto
import Derived.Deep.CutRange
import Derived.Test.YtnbbhdbcapfbkaaDoorZFF03
import Derived.Shelf.RegionOpenPlain
import Derived.Deep.LoopGhost
import Derived.Lib.SlicesSearch
import Derived.Test.YtnbbhdbcapfbkaaDoorZFF11
import Derived.Test.YtnbbhdbcapfbkaaDoorZFF10
import Derived.Test.YtnbbhdbcapfbkaaDoorZFF09
namespace Go.Proofs.YtnbbhdbcapfbkaaDoor
set_option maxRecDepth 4096
open Go.ChangeShapes Go.WideShapes Go.ChangeAt Go.RowKit

/-- The number of a node: kinds 0 and 1 of the cell with index i, kinds 2 and 3 of the pair with index i, at time t. -/
def numV (k F P T t i : Nat) : Nat := if k < 2 then 3 + 2 * (t * F + i) + k % 2 else 3 + 2 * ((T + 1) * F) + 2 * (t * P + i) + k % 2

theorem implOfPair (k : Nat) (w : World) : Calls Tryd.prog 78 #[.int .i64 k] w fun e w' => e = .returned (.bool (decide (2 ≤ k))) ∧ w = w' := by
  go_enter Tryd.func78, Tryd.ntmps78
  by_cases h : 2 ≤ k
  · have h2 : (2 : Int) ≤ (k : Int) := by omega
    go_wp2
    go_ret
    exact ⟨by simp [h], rfl⟩
  · have h2 : ¬ (2 : Int) ≤ (k : Int) := by omega
    go_wp2
    go_ret
    exact ⟨by simp, rfl⟩

theorem implSecond (k : Nat) (hk : k < 4) (w : World) : Calls Tryd.prog 79 #[.int .i64 k] w fun e w' => e = .returned (.int .i64 ((k % 2 : Nat) : Int)) ∧ w = w' := by
  have h : (k : Int) % 2 = ((k % 2 : Nat) : Int) := by omega
  have HK := Lib.hid h
  clear h
  go_enter Tryd.func79, Tryd.ntmps79
  go_wp2
  go_ret
  refine ⟨?_, rfl⟩
  show Ending.returned (Value.int .i64 ((k : Int) % 2)) = _
  rw [HK.out]

theorem size_cells (w : World) (F P T : Nat) : (w.alloc (.cells #[.int .i64 F, .int .i64 P, .int .i64 T] 76)).cell? ⟨w.heap.size, 0, none⟩ = some (.int .i64 F) ∧
    (w.alloc (.cells #[.int .i64 F, .int .i64 P, .int .i64 T] 76)).cell? ⟨w.heap.size, 1, none⟩ = some (.int .i64 P) ∧
    (w.alloc (.cells #[.int .i64 F, .int .i64 P, .int .i64 T] 76)).cell? ⟨w.heap.size, 2, none⟩ = some (.int .i64 T) := by
  refine ⟨?_, ?_, ?_⟩ <;> rw [cell_of_row _ _ _ _ _ _ (heap_alloc_new w _)] <;> rfl

set_option maxHeartbeats 1000000 in
theorem numCell (k F P T t i : Nat) (z : Int) (hk : k < 2) (hF : F ≤ 1000) (ht : t ≤ 1000) (hi : i ≤ 1000) (HZ : Hid ((numV k F P T t i : Nat) = z)) (w : World) :
    Calls Tryd.prog 62 #[.int .i64 k, .agg #[.int .i64 F, .int .i64 P, .int .i64 T], .int .i64 t, .int .i64 i] w (Made w (.int .i64 z)) := by
  obtain ⟨c0, c1, c2⟩ := size_cells w F P T
  have hB := Lib.hid ((Below.refl w.heap.size w).alloc (Nat.le_refl _) (.cells #[.int .i64 F, .int .i64 P, .int .i64 T] 76))
  obtain ⟨p, hp⟩ : ∃ p : Nat, t * F = p := ⟨_, rfl⟩
  have hpb : p ≤ 1000000 := by rw [← hp]; exact Nat.mul_le_mul ht hF
  have hpi : (t : Int) * (F : Int) = (p : Int) := by rw [← hp, Int.natCast_mul]
  obtain ⟨s, hs⟩ : ∃ s : Nat, k % 2 = s := ⟨_, rfl⟩
  have hsb : s < 2 := by omega
  have hz : z = 3 + 2 * ((p : Int) + (i : Int)) + (s : Int) := by
    rw [← HZ.out]
    unfold numV
    rw [if_pos hk, hp, hs]
    omega
  subst hz
  have hpair : (decide (2 ≤ k)) = false := by simp; omega
  have h0 : IntKind.i64.wrap ((t : Int) * (F : Int)) = (p : Int) := by rw [hpi]; exact IntWalk.i64_in _ (by omega)
  have h1 : IntKind.i64.wrap ((p : Int) + (i : Int)) = (p : Int) + (i : Int) := IntWalk.i64_in _ (by omega)
  have h2 : IntKind.i64.wrap (2 * ((p : Int) + (i : Int))) = 2 * ((p : Int) + (i : Int)) := IntWalk.i64_in _ (by omega)
  have h3 : IntKind.i64.wrap (3 + 2 * ((p : Int) + (i : Int))) = 3 + 2 * ((p : Int) + (i : Int)) := IntWalk.i64_in _ (by omega)
  have h4 : IntKind.i64.wrap (3 + 2 * ((p : Int) + (i : Int)) + (s : Int)) = 3 + 2 * ((p : Int) + (i : Int)) + (s : Int) := IntWalk.i64_in _ (by omega)
  have HS := Lib.hid hs
  clear hp hpi hs HZ
  go_enter Tryd.func62, Tryd.ntmps62
  go_upto_region 2 with (go_at_call 78; refine (implOfPair k _).mono ?_; rintro e w' ⟨rfl, rfl⟩; rw [hpair])
  go_quiet ((go_at_call 79; refine ((implSecond k (by omega) _).mono ?_); rintro e w' ⟨rfl, rfl⟩; rw [HS.out]; exact ⟨rfl, _, rfl⟩))
  go_wp2_with fail
  go_ret
  exact ⟨rfl, below_drewN hB.out _⟩

theorem numBase (F P T : Nat) (z : Int) (hF : F ≤ 1000) (hT : T ≤ 500) (HZ : Hid ((numV 0 F P T (T + 1) 0 : Nat) = z)) (w : World) :
    Calls Tryd.prog 62 #[.int .i64 0, .agg #[.int .i64 F, .int .i64 P, .int .i64 T], .int .i64 ((T : Int) + 1), .int .i64 0] w (Made w (.int .i64 z)) := by
  have h := numCell 0 F P T (T + 1) 0 z (by omega) hF (by omega) (by omega) HZ w
  exact h
theorem held_size {w w1 w2 : World} {a b c : Value} (h0 : w1.cell? ⟨w.heap.size, 0, none⟩ = some a) (h1 : w1.cell? ⟨w.heap.size, 1, none⟩ = some b) (h2 : w1.cell? ⟨w.heap.size, 2, none⟩ = some c) (hB : Below w.heap.size w w1) (hl : w.heap.size < w1.heap.size) (hb : Below w1.heap.size w1 w2) :
    w2.cell? ⟨w.heap.size, 0, none⟩ = some a ∧ w2.cell? ⟨w.heap.size, 1, none⟩ = some b ∧ w2.cell? ⟨w.heap.size, 2, none⟩ = some c ∧ Below w.heap.size w w2 ∧ w.heap.size < w2.heap.size :=
  ⟨(hb.cell (p := ⟨w.heap.size, 0, none⟩) hl).trans h0, (hb.cell (p := ⟨w.heap.size, 1, none⟩) hl).trans h1, (hb.cell (p := ⟨w.heap.size, 2, none⟩) hl).trans h2, hB.trans (hb.mono (Nat.le_of_lt hl)), Nat.lt_of_lt_of_le hl hb.size⟩

set_option maxHeartbeats 1000000 in
theorem numPair (k F P T t i : Nat) (z : Int) (hk : 2 ≤ k) (hk4 : k < 4) (hF : F ≤ 1000) (hP : P ≤ 1000) (hT : T ≤ 500) (ht : t ≤ 1000) (hi : i ≤ 1000) (HZ : Hid ((numV k F P T t i : Nat) = z)) (w : World) :
    Calls Tryd.prog 62 #[.int .i64 k, .agg #[.int .i64 F, .int .i64 P, .int .i64 T], .int .i64 t, .int .i64 i] w (Made w (.int .i64 z)) := by
  obtain ⟨c0, c1, c2⟩ := size_cells w F P T
  have hB := ((Below.refl w.heap.size w).alloc (Nat.le_refl _) (.cells #[.int .i64 F, .int .i64 P, .int .i64 T] 76))
  obtain ⟨p, hp⟩ : ∃ p : Nat, t * P = p := ⟨_, rfl⟩
  have hpb : p ≤ 1000000 := by rw [← hp]; exact Nat.mul_le_mul ht hP
  have hpi : (t : Int) * (P : Int) = (p : Int) := by rw [← hp, Int.natCast_mul]
  obtain ⟨b, hb⟩ : ∃ b : Nat, numV 0 F P T (T + 1) 0 = b := ⟨_, rfl⟩
  have hbb : b ≤ 2000000 := by
    rw [← hb]
    unfold numV
    rw [if_pos (by omega)]
    have : (T + 1) * F ≤ 501 * 1000 := Nat.mul_le_mul (by omega) hF
    omega
  obtain ⟨s, hs⟩ : ∃ s : Nat, k % 2 = s := ⟨_, rfl⟩
  have hsb : s < 2 := by omega
  have hz : z = (b : Int) + 2 * ((p : Int) + (i : Int)) + (s : Int) := by
    rw [← HZ.out, ← hb]
    unfold numV
    rw [if_neg (by omega), if_pos (by omega), hp, hs]
    omega
  subst hz
  have HNB : Hid ((numV 0 F P T (T + 1) 0 : Nat) = (b : Int)) := Lib.hid (by rw [hb])
  have hpair : (decide (2 ≤ k)) = true := by simp; omega
  have h0 : IntKind.i64.wrap ((t : Int) * (P : Int)) = (p : Int) := by rw [hpi]; exact IntWalk.i64_in _ (by omega)
  have h1 : IntKind.i64.wrap ((p : Int) + (i : Int)) = (p : Int) + (i : Int) := IntWalk.i64_in _ (by omega)
  have h2 : IntKind.i64.wrap (2 * ((p : Int) + (i : Int))) = 2 * ((p : Int) + (i : Int)) := IntWalk.i64_in _ (by omega)
  have h3 : IntKind.i64.wrap ((b : Int) + 2 * ((p : Int) + (i : Int))) = (b : Int) + 2 * ((p : Int) + (i : Int)) := IntWalk.i64_in _ (by omega)
  have h4 : IntKind.i64.wrap ((b : Int) + 2 * ((p : Int) + (i : Int)) + (s : Int)) = (b : Int) + 2 * ((p : Int) + (i : Int)) + (s : Int) := IntWalk.i64_in _ (by omega)
  have h5 : IntKind.i64.wrap ((T : Int) + 1) = (T : Int) + 1 := IntWalk.i64_in _ (by omega)
  have HS := Lib.hid hs
  clear hp hpi hs HZ hb
  have hS : (w.alloc (.cells #[.int .i64 F, .int .i64 P, .int .i64 T] 76)).drew.cell? ⟨w.heap.size, 0, none⟩ = some (.int .i64 F) ∧ (w.alloc (.cells #[.int .i64 F, .int .i64 P, .int .i64 T] 76)).drew.cell? ⟨w.heap.size, 1, none⟩ = some (.int .i64 P) ∧ (w.alloc (.cells #[.int .i64 F, .int .i64 P, .int .i64 T] 76)).drew.cell? ⟨w.heap.size, 2, none⟩ = some (.int .i64 T) ∧ Below w.heap.size w (w.alloc (.cells #[.int .i64 F, .int .i64 P, .int .i64 T] 76)).drew ∧ w.heap.size < (w.alloc (.cells #[.int .i64 F, .int .i64 P, .int .i64 T] 76)).drew.heap.size := ⟨c0, c1, c2, hB.drew, by simp⟩
  clear hB
  go_enter Tryd.func62, Tryd.ntmps62
  go_upto_region 3 with (go_at_call 78; refine (implOfPair k _).mono ?_; rintro e w' ⟨rfl, rfl⟩; rw [hpair])
  go_region_held3 (fun w' => w'.cell? ⟨w.heap.size, 0, none⟩ = some (.int .i64 F) ∧ w'.cell? ⟨w.heap.size, 1, none⟩ = some (.int .i64 P) ∧ w'.cell? ⟨w.heap.size, 2, none⟩ = some (.int .i64 T) ∧ Below w.heap.size w w' ∧ w.heap.size < w'.heap.size)
    (first | exact hS | assumption)
    (first
      | (go_at_call 62; (try go_split_ands); (with_reducible refine (numBase F P T _ hF hT HNB _).mono ?_); rintro e w5 ⟨rfl, hb5⟩; (have hS5 := held_size (by assumption) (by assumption) (by assumption) (by assumption) (by assumption) hb5); clear hb5)
      | (go_at_call 79; refine (implSecond k (by omega) _).mono ?_; rintro e w' ⟨rfl, rfl⟩; rw [HS.out]))
  all_goals
    go_wp2_with fail
    go_ret
    exact ⟨rfl, hS5.2.2.2.1⟩

end Go.Proofs.YtnbbhdbcapfbkaaDoor

namespace Go.Proofs.YtnbbhdbcapfbkaaDoor
set_option maxRecDepth 4096
open Go.ChangeShapes Go.WideShapes Go.ChangeAt Go.RowKit

theorem cmpNaN (x : Int) (w : World) : Calls Tryd.prog 83 #[.int .i64 x] w fun e w' => e = .returned (.bool false) ∧ w = w' := by
  go_enter Tryd.func83, Tryd.ntmps83
  go_wp2
  go_ret
  exact ⟨by simp, rfl⟩
theorem slicesNaN (x : Int) (w : World) : Calls Tryd.prog 77 #[.int .i64 x] w fun e w' => e = .returned (.bool false) ∧ w = w' := by
  go_enter Tryd.func77, Tryd.ntmps77
  go_wp2
  go_ret
  exact ⟨by simp, rfl⟩
theorem cmpLess (x y : Int) (w : World) : Calls Tryd.prog 76 #[.int .i64 x, .int .i64 y] w fun e w' => e = .returned (.bool (decide (x < y))) ∧ w = w' := by
  go_enter Tryd.func76, Tryd.ntmps76
  go_wp2_with (go_at_call 83; refine (cmpNaN _ _).mono ?_; rintro e w' ⟨rfl, rfl⟩)
  go_ret
  exact ⟨rfl, rfl⟩

theorem getD_at {L : List Int} {j : Nat} (h : j < L.length) : L[j]? = some (L.getD j 0) := by
  rw [List.getD_eq_getElem?_getD, List.getElem?_eq_getElem h]
  rfl

set_option maxHeartbeats 4000000 in
theorem implFind (L : List Int) (x : Int) (v : Value) (n : Nat) (b : Bool) (hL : L.length ≤ 2000000) (hs : L.Pairwise (· ≤ ·)) (HN : Hid (L.countP (fun y => decide (y < x)) = n)) (HB : Hid (L.contains x = b)) (w : World) (hv : Ints w v L) :
    Calls Tryd.prog 61 #[v, .int .i64 x] w fun e w' => e = .returned (.tuple #[.int .i64 n, .bool b]) ∧ ∃ q, w' = w.drewN q := by
  have S : Hid (∀ a b, a ≤ b → b < L.length → L.getD a 0 ≤ L.getD b 0) := Lib.hid (Lib.sorted_at L L.length (Nat.le_refl _) (by rw [List.take_length]; exact hs))
  obtain ⟨av, cv, rfl, HV⟩ := ints_form hv
  have HVh := Lib.hid HV
  clear hs HV hv
  go_enter Tryd.func61, Tryd.ntmps61
  go_wp2
  go_loopg [7, 8] L.length (fun g s7 s8 wr => ∃ lo hi q : Nat, s7 = .int .i64 lo ∧ s8 = .int .i64 hi ∧ lo ≤ hi ∧ hi ≤ L.length ∧ hi - lo ≤ g ∧ wr = w.drewN q ∧ (∀ t, t < lo → L.getD t 0 < x) ∧ (∀ t, hi ≤ t → t < L.length → x ≤ L.getD t 0))
  case atStart => exact ⟨0, L.length, 0, rfl, rfl, Nat.zero_le _, Nat.le_refl _, by omega, rfl, fun t ht => absurd ht (Nat.not_lt_zero _), fun t h1 h2 => by omega⟩
  case round =>
    obtain ⟨lo, hi, q, rfl, rfl, hlh, hin, hg, rfl, h1, h2⟩ := hrel
    have I : Hid ((∀ t, t < lo → L.getD t 0 < x) ∧ (∀ t, hi ≤ t → t < L.length → x ≤ L.getD t 0)) := Lib.hid ⟨h1, h2⟩
    clear h1 h2
    by_cases hlt : lo < hi
    · obtain ⟨y, hy⟩ : ∃ y, L.getD ((lo + hi) / 2) 0 = y := ⟨_, rfl⟩
      rcases HVh.out with h0 | ⟨g', rfl, hgl, hc⟩
      · omega
      · have cm : w.cell? ⟨g', (lo + hi) / 2, none⟩ = some (.int .i64 y) := hc _ _ (by rw [getD_at (by omega), hy])
        have Y := Lib.hid hy
        clear hy hc
        by_cases hyx : y < x
        · go_wp2_with (first | (go_at_call 76; refine (cmpLess _ _ _).mono ?_; rintro e w' ⟨rfl, rfl⟩) | (go_at_call 77; refine (slicesNaN _ _).mono ?_; rintro e w' ⟨rfl, rfl⟩))
          go_roundg (hi - ((lo + hi) / 2 + 1))
          case measure => omega
          case rel =>
            refine ⟨(lo + hi) / 2 + 1, hi, _, by rw [show ((lo : Int) + (hi : Int)) / 2 + 1 = (((lo + hi) / 2 + 1 : Nat) : Int) by omega], rfl, by omega, hin, Nat.le_refl _, rfl, fun t ht => ?_, I.out.2⟩
            have := S.out t ((lo + hi) / 2) (by omega) (by omega)
            rw [Y.out] at this
            omega
        · go_wp2_with (first | (go_at_call 76; refine (cmpLess _ _ _).mono ?_; rintro e w' ⟨rfl, rfl⟩) | (go_at_call 77; refine (slicesNaN _ _).mono ?_; rintro e w' ⟨rfl, rfl⟩))
          go_roundg ((lo + hi) / 2 - lo)
          case measure => omega
          case rel =>
            refine ⟨lo, (lo + hi) / 2, _, rfl, by rw [show ((lo : Int) + (hi : Int)) / 2 = (((lo + hi) / 2 : Nat) : Int) by omega], by omega, by omega, Nat.le_refl _, rfl, I.out.1, fun t ht htn => ?_⟩
            have := S.out ((lo + hi) / 2) t ht htn
            rw [Y.out] at this
            omega
    · have : hi = lo := by omega
      subst this
      obtain ⟨e1, e2⟩ := Lib.search_end L L.length hi x (Nat.le_refl _) hin I.out.1 I.out.2 S.out
      rw [List.take_length] at e1 e2
      have E1 : Hid (n = hi) := Lib.hid (by rw [← HN.out]; exact e1)
      have E2 : Hid (b = decide (hi < L.length ∧ L.getD hi 0 = x)) := Lib.hid (by rw [← HB.out]; exact e2)
      clear e1 e2
      by_cases hn : hi < L.length
      · obtain ⟨y, hy⟩ : ∃ y, L.getD hi 0 = y := ⟨_, rfl⟩
        rcases HVh.out with h0 | ⟨g', rfl, hgl, hc⟩
        · omega
        · have cl : w.cell? ⟨g', hi, none⟩ = some (.int .i64 y) := hc _ _ (by rw [getD_at (by omega), hy])
          have Y := Lib.hid hy
          clear hy hc
          by_cases hyx : y = x
          · go_wp2_with (first | (go_at_call 76; refine (cmpLess _ _ _).mono ?_; rintro e w' ⟨rfl, rfl⟩) | (go_at_call 77; refine (slicesNaN _ _).mono ?_; rintro e w' ⟨rfl, rfl⟩))
            go_ret2
            refine ⟨?_, _, rfl⟩
            rw [E1.out, E2.out, Y.out, decide_eq_true (show hi < L.length ∧ y = x from ⟨hn, hyx⟩)]
            first | rfl | simp [*]
          · go_wp2_with (first | (go_at_call 76; refine (cmpLess _ _ _).mono ?_; rintro e w' ⟨rfl, rfl⟩) | (go_at_call 77; refine (slicesNaN _ _).mono ?_; rintro e w' ⟨rfl, rfl⟩))
            go_ret2
            refine ⟨?_, _, rfl⟩
            rw [E1.out, E2.out, Y.out, decide_eq_false (show ¬ (hi < L.length ∧ y = x) from fun h => hyx h.2)]
            first | rfl | simp [*]
      · go_wp2_with (first | (go_at_call 76; refine (cmpLess _ _ _).mono ?_; rintro e w' ⟨rfl, rfl⟩) | (go_at_call 77; refine (slicesNaN _ _).mono ?_; rintro e w' ⟨rfl, rfl⟩))
        go_ret2
        refine ⟨?_, _, rfl⟩
        rw [E1.out, E2.out, decide_eq_false (show ¬ (hi < L.length ∧ L.getD hi 0 = x) from fun h => hn h.1)]
        first | rfl | simp [*]

end Go.Proofs.YtnbbhdbcapfbkaaDoor

namespace Go.Proofs.YtnbbhdbcapfbkaaDoor
set_option maxRecDepth 4096

/-- Two lists in strictly ascending order with the same members are equal. -/
theorem asc_same : ∀ {L M : List Nat}, L.Pairwise (· < ·) → M.Pairwise (· < ·) → (∀ x, x ∈ L ↔ x ∈ M) → L = M
  | [], [], _, _, _ => rfl
  | [], y :: M, _, _, h => absurd ((h y).2 (List.mem_cons_self ..)) (by simp)
  | x :: L, [], _, _, h => absurd ((h x).1 (List.mem_cons_self ..)) (by simp)
  | x :: L, y :: M, hL, hM, h => by
    obtain ⟨a1, a2⟩ := List.pairwise_cons.1 hL
    obtain ⟨b1, b2⟩ := List.pairwise_cons.1 hM
    have e : x = y := by
      rcases List.mem_cons.1 ((h x).1 (List.mem_cons_self ..)) with e | hx
      · exact e
      · rcases List.mem_cons.1 ((h y).2 (List.mem_cons_self ..)) with e | hy
        · exact e.symm
        · have := a1 y hy
          have := b1 x hx
          omega
    subst e
    rw [asc_same a2 b2 fun z => ?_]
    constructor
    · intro hz
      rcases List.mem_cons.1 ((h z).1 (List.mem_cons_of_mem _ hz)) with e | hz2
      · have := a1 z hz
        omega
      · exact hz2
    · intro hz
      rcases List.mem_cons.1 ((h z).2 (List.mem_cons_of_mem _ hz)) with e | hz2
      · have := b1 z hz
        omega
      · exact hz2
/-- In an ascending list as many lie below an element as its place says. -/
theorem asc_count {c : Int} : ∀ {L : List Int}, L.Pairwise (· < ·) → c ∈ L → L.countP (fun x => decide (x < c)) = L.idxOf c
  | [], _, h => by cases h
  | x :: L, hL, h => by
    obtain ⟨a1, a2⟩ := List.pairwise_cons.1 hL
    rw [List.countP_cons, List.idxOf_cons]
    by_cases e : x = c
    · subst e
      have h0 : L.countP (fun y => decide (y < x)) = 0 := by
        rw [List.countP_eq_zero]
        intro y hy
        have := a1 y hy
        simp only [decide_eq_true_eq]
        omega
      rw [h0]
      simp
    · have hc : c ∈ L := by
        rcases List.mem_cons.1 h with h | h
        · exact absurd h.symm e
        · exact h
      have hlt := a1 c hc
      rw [asc_count a2 hc]
      have e2 : (x == c) = false := by simp [e]
      simp [e2, hlt]

section
variable {W H : Int} {C : ByteArray}
theorem freeU_cell {c : Int} (h : freeV W H C c = true) : gok W H C = true ∧ ∃ n : Nat, c = n ∧ n < C.size := by
  unfold freeV at h
  simp only [Bool.and_eq_true] at h
  exact cellOk_out h.1
theorem freeU_mem {c : Int} (h : freeV W H C c = true) : c ∈ freeL W H C := by
  obtain ⟨hg, n, rfl, hn⟩ := freeU_cell h
  have h64 : C.size ≤ 64 := by
    obtain ⟨⟨⟨h1, h2⟩, ⟨h3, h4⟩, hs⟩, _⟩ := gok_out hg
    have := mul_bd h1 h2 h3 h4
    omega
  unfold freeL picks
  refine List.mem_map.2 ⟨n, List.mem_filter.2 ⟨List.mem_range.2 (by omega), h⟩, rfl⟩

theorem memU_free {c : Int} (h : c ∈ freeL W H C) : freeV W H C c = true := by
  obtain ⟨n, hn, rfl⟩ := List.mem_map.1 h
  exact (List.mem_filter.1 hn).2
/-- The free cells ascend. -/
theorem freeU_up : (freeL W H C).Pairwise (· < ·) := by
  unfold freeL picks
  rw [List.pairwise_map]
  exact (List.Pairwise.filter _ List.pairwise_lt_range).imp fun h => by omega
theorem free_has (c : Int) : (freeL W H C).contains c = freeV W H C c := by
  rw [Bool.eq_iff_iff, List.contains_iff_mem]
  exact ⟨memU_free, freeU_mem⟩
theorem free_le : (freeL W H C).Pairwise (· ≤ ·) := freeU_up.imp fun h => Int.le_of_lt h
end

end Go.Proofs.YtnbbhdbcapfbkaaDoor

namespace Go.Proofs.YtnbbhdbcapfbkaaDoor
set_option maxRecDepth 4096
open Go.ChangeShapes Go.WideShapes Go.ChangeAt Go.RowKit

theorem rowsR_at {a b : Nat} {C : ByteArray} {y : Nat} (hg : gok a b C = true) (hy : y < b) (hb : b ≤ 8) : (rowsR a b C)[y]? = some (.string (rowT C a y)) := by
  unfold rowsR
  rw [if_pos hg]
  exact rowsV_at C a b y hy hb

theorem cell_rows {w : World} {g q : Nat} {R S : Array Value} {t : TypeId} {v : Value} (hR : w.heap[g]? = some (.cells S t (0, 0))) (HR : Hid (S = R)) (hr : Hid (R[q]? = some v)) : w.cell? ⟨g, q, none⟩ = some v := by
  rw [cell_of_row _ _ _ _ _ _ hR, HR.out]
  exact hr.out

/-- Where the cell n of a valid map lies among the rows. -/
theorem place {W H : Int} {C : ByteArray} {n : Nat} (hg : gok W H C = true) (hn : n < C.size) : ∃ a b q m : Nat, W = a ∧ H = b ∧ 1 ≤ a ∧ a ≤ 8 ∧ b ≤ 8 ∧ q < b ∧ m < a ∧ (n : Int).tdiv (a : Int) = (q : Int) ∧ (n : Int).tmod (a : Int) = (m : Int) ∧
    m < (rowT C a q).size ∧ byteAt (rowT C a q) m = byteAt C n ∧ (rowsR W H C)[q]? = some (.string (rowT C a q)) := by
  obtain ⟨⟨⟨h1, h2⟩, ⟨h3, h4⟩, hs⟩, _⟩ := gok_out hg
  obtain ⟨a, rfl⟩ : ∃ a : Nat, W = a := ⟨W.toNat, by omega⟩
  obtain ⟨b, rfl⟩ : ∃ b : Nat, H = b := ⟨H.toNat, by omega⟩
  have hs2 : C.size = a * b := by have : ((a * b : Nat) : Int) = (a : Int) * (b : Int) := Int.natCast_mul a b; omega
  have ha : 0 < a := by omega
  have hq : n / a < b := Nat.div_lt_of_lt_mul (by omega)
  have hm : n % a < a := Nat.mod_lt _ ha
  have hle : (n / a + 1) * a ≤ C.size := by rw [hs2, Nat.mul_comm a b]; exact Nat.mul_le_mul_right a (by omega)
  have hnn : n / a * a + n % a = n := by rw [Nat.mul_comm]; exact Nat.div_add_mod n a
  refine ⟨a, b, n / a, n % a, rfl, rfl, by omega, by omega, by omega, hq, hm, ?_, ?_, by rw [row_size C a _ hle]; exact hm, ?_, rowsR_at hg hq (by omega)⟩
  · rw [Int.tdiv_eq_ediv_of_nonneg (by omega)]; rfl
  · rw [Int.tmod_eq_emod_of_nonneg (by omega)]; rfl
  · rw [row_byte C a _ _ hle hm, hnn]

end Go.Proofs.YtnbbhdbcapfbkaaDoor

namespace Go.Proofs.YtnbbhdbcapfbkaaDoor
set_option maxRecDepth 4096
open Go.ChangeShapes Go.WideShapes Go.ChangeAt Go.RowKit

theorem left_quiet {P : Program} {f : FuncId} {args : Array Value} {w : World} {n : Nat} {v : Value} (h : Calls P f args (w.drewN n) fun e w' => e = .returned v ∧ w.drewN n = w') :
    Calls P f args (w.drewN n) fun e w'' => e = .returned v ∧ ∃ m, w'' = w.drewN m :=
  h.mono fun _ _ ⟨he, hm⟩ => ⟨he, n, hm.symm⟩
theorem own_drewN {w : World} {B : Nat} {e : TypeId} {s n : Nat} {v : Value} {xs : List Value} (h : w.ownsRow B e s v n xs) (m : Nat) : (w.drewN m).ownsRow B e s v n xs := h
theorem ints_nil (w : World) : IntsBack w [] (.returned (.slice none 0 0)) w := ⟨_, rfl, ⟨rfl, .inl ⟨rfl, rfl⟩⟩, Below.refl _ _⟩
theorem picks_none {p : Nat → Bool} {k : Nat} (h : ∀ n, p n = false) : picks p k = [] := by
  simp [picks, h]
theorem gok_few {W H : Int} {C : ByteArray} (hg : gok W H C = true) : C.size ≤ 64 := by
  obtain ⟨⟨⟨h1, h2⟩, ⟨h3, h4⟩, hs⟩, _⟩ := gok_out hg
  have := mul_bd h1 h2 h3 h4
  omega

theorem with_no (W H : Int) (C : ByteArray) (f : Value) (hC : C.size ≤ 1048576) (hg : gok W H C = false) (w : World) :
    Calls Tryd.prog 65 #[.agg #[.int .i64 W, .int .i64 H, .string C], f] w (IntsBack w []) := by
  have hB := Below.refl (w.alloc (.cells #[.int .i64 W, .int .i64 H, .string C] 30)).heap.size (w.alloc (.cells #[.int .i64 W, .int .i64 H, .string C] 30))
  go_enter Tryd.func65, Tryd.ntmps65
  go_wp2_with (first
    | (go_at_call 71; (with_reducible refine (rowsOf W H C hC _).mono ?_); rintro e w1 ⟨rfl, hb⟩; replace hB := chain hB hb; clear hb)
    | (refine wpStoreRows W H C _ _ rfl rfl rfl rfl ?_; replace hB := chain hB (rows_in w1 (rowsR W H C)).1))
  go_ret
  exact ⟨_, rfl, ⟨rfl, .inl ⟨rfl, rfl⟩⟩, box_below hB⟩

theorem ints_under {w w0 w' : World} {L : List Int} {e : Ending} (h : IntsBack w0 L e w') (hb : Below w.heap.size w w0) : IntsBack w L e w' := by
  obtain ⟨v, he, ho, h2⟩ := h
  exact ⟨v, he, own_base ho hb.size, hb.trans (h2.mono hb.size)⟩
theorem ints_out {w w' : World} {L : List Int} {e : Ending} (h : IntsBack w L e w') : ∃ v, e = .returned v ∧ IntsBack w L (.returned v) w' := by
  obtain ⟨v, rfl, h⟩ := h
  exact ⟨v, rfl, v, rfl, h⟩

end Go.Proofs.YtnbbhdbcapfbkaaDoor

namespace Go.Proofs.YtnbbhdbcapfbkaaDoor
set_option maxRecDepth 4096
open Go.ChangeShapes Go.WideShapes Go.ChangeAt Go.RowKit

theorem freeI (r : ByteArray) (x : Int) (n : Nat) (e : x = n) (h : n < r.size) (w : World) :
    Calls Tryd.prog 66 #[.string r, .int .i64 x] w fun e w' => e = .returned (.bool (freeB (byteAt r n))) ∧ w = w' := by
  subst e
  have hat := run_at (P := Tryd.prog) 102 r .i64 n n rfl h Tryd.underlying102
  go_enter Tryd.func66, Tryd.ntmps66
  go_wp2
  go_ret
  exact ⟨bool_ret (c := freeB (byteAt r n)) rfl (by unfold freeB; simp [bne, Bool.beq_eq_decide_eq]), rfl⟩

theorem freeTo (r : ByteArray) (x : Int) (n : Nat) (b : Bool) (hb : Hid (freeB (byteAt r n) = b)) (e : x = n) (h : n < r.size) (w : World) :
    Calls Tryd.prog 66 #[.string r, .int .i64 x] w fun e w' => e = .returned (.bool b) ∧ w = w' := by
  rw [← hb.out]
  exact freeI r x n e h w

end Go.Proofs.YtnbbhdbcapfbkaaDoor

