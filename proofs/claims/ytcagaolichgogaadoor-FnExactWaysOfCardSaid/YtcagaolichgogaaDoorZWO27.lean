/-
  CONTRACTS of the program's methods of kinds of nodes: ofPair, second, number. No law is proved here.
  CONTRACT of slices.BinarySearch at []int: of a list in ascending order, how many elements are less than the one looked for, and whether it is among them. No law is proved here.
  The free cells of a grid: which they are, and that they ascend; lists in strictly ascending order. Plain facts; no statement is proved here.
  CONTRACT of the program's InNode. No law is proved here.
  How the program reads a grid's map in time: the number of a free cell is how many free cells lie below it; what lies beside a cell ascends; the pairs as the program lists them. Plain facts; no statement is proved here.
-/
import Derived.Test.YtcagaolichgogaaDoorZWO00
import Derived.IntWalk
import Derived.Deep.QuietTactic
import Derived.BigQuiet
import Derived.Deep.RegionHeld3
import Derived.Deep.DeepCutAuto
import Derived.Deep.CutRange
import Derived.Test.YtcagaolichgogaaDoorZWO25
import Derived.Shelf.RegionOpenPlain
import Derived.Deep.LoopGhost
import Derived.Lib.SlicesSearch
import Derived.Test.YtcagaolichgogaaDoorZWO10
import Derived.Test.YtcagaolichgogaaDoorZWO09
import Derived.Test.YtcagaolichgogaaDoorZWO23
import Derived.Test.YtcagaolichgogaaDoorZWO11
import Derived.Test.YtcagaolichgogaaDoorZWO13
namespace Go.Proofs.YtcagaolichgogaaDoor
set_option maxRecDepth 4096
open Go.ChangeShapes Go.WideShapes Go.ChangeAt Go.RowKit

/-- The number of a node: kinds 0 and 1 of the cell with index i, kinds 2 and 3 of the pair with index i, at time t. -/
def numV (k F P T t i : Nat) : Nat := if k < 2 then 3 + 2 * (t * F + i) + k % 2 else 3 + 2 * ((T + 1) * F) + 2 * (t * P + i) + k % 2

theorem implOfPair (k : Nat) (w : World) : Calls Tryd.prog 78 #[.int .i64 k] w fun e w' => e = .returned (.bool (decide (2 ≤ k))) ∧ w = w' := by
  go_enter Tryd.func78, Tryd.ntmps78
  by_cases h : 2 ≤ k
  · have h2 : (2 : Int) ≤ (k : Int) := by omega
    go_wp2
    go_ret
    exact ⟨by simp [h], rfl⟩
  · have h2 : ¬ (2 : Int) ≤ (k : Int) := by omega
    go_wp2
    go_ret
    exact ⟨by simp, rfl⟩

theorem implSecond (k : Nat) (hk : k < 4) (w : World) : Calls Tryd.prog 79 #[.int .i64 k] w fun e w' => e = .returned (.int .i64 ((k % 2 : Nat) : Int)) ∧ w = w' := by
  have h : (k : Int) % 2 = ((k % 2 : Nat) : Int) := by omega
  have HK := Lib.hid h
  clear h
  go_enter Tryd.func79, Tryd.ntmps79
  go_wp2
  go_ret
  refine ⟨?_, rfl⟩
  show Ending.returned (Value.int .i64 ((k : Int) % 2)) = _
  rw [HK.out]

theorem size_cells (w : World) (F P T : Nat) : (w.alloc (.cells #[.int .i64 F, .int .i64 P, .int .i64 T] 84)).cell? ⟨w.heap.size, 0, none⟩ = some (.int .i64 F) ∧
    (w.alloc (.cells #[.int .i64 F, .int .i64 P, .int .i64 T] 84)).cell? ⟨w.heap.size, 1, none⟩ = some (.int .i64 P) ∧
    (w.alloc (.cells #[.int .i64 F, .int .i64 P, .int .i64 T] 84)).cell? ⟨w.heap.size, 2, none⟩ = some (.int .i64 T) := by
  refine ⟨?_, ?_, ?_⟩ <;> rw [cell_of_row _ _ _ _ _ _ (heap_alloc_new w _)] <;> rfl

set_option maxHeartbeats 1000000 in
theorem numCell (k F P T t i : Nat) (z : Int) (hk : k < 2) (hF : F ≤ 1000) (ht : t ≤ 1000) (hi : i ≤ 1000) (HZ : Hid ((numV k F P T t i : Nat) = z)) (w : World) :
    Calls Tryd.prog 60 #[.int .i64 k, .agg #[.int .i64 F, .int .i64 P, .int .i64 T], .int .i64 t, .int .i64 i] w (Made w (.int .i64 z)) := by
  obtain ⟨c0, c1, c2⟩ := size_cells w F P T
  have hB := Lib.hid ((Below.refl w.heap.size w).alloc (Nat.le_refl _) (.cells #[.int .i64 F, .int .i64 P, .int .i64 T] 84))
  obtain ⟨p, hp⟩ : ∃ p : Nat, t * F = p := ⟨_, rfl⟩
  have hpb : p ≤ 1000000 := by rw [← hp]; exact Nat.mul_le_mul ht hF
  have hpi : (t : Int) * (F : Int) = (p : Int) := by rw [← hp, Int.natCast_mul]
  obtain ⟨s, hs⟩ : ∃ s : Nat, k % 2 = s := ⟨_, rfl⟩
  have hsb : s < 2 := by omega
  have hz : z = 3 + 2 * ((p : Int) + (i : Int)) + (s : Int) := by
    rw [← HZ.out]
    unfold numV
    rw [if_pos hk, hp, hs]
    omega
  subst hz
  have hpair : (decide (2 ≤ k)) = false := by simp; omega
  have h0 : IntKind.i64.wrap ((t : Int) * (F : Int)) = (p : Int) := by rw [hpi]; exact IntWalk.i64_in _ (by omega)
  have h1 : IntKind.i64.wrap ((p : Int) + (i : Int)) = (p : Int) + (i : Int) := IntWalk.i64_in _ (by omega)
  have h2 : IntKind.i64.wrap (2 * ((p : Int) + (i : Int))) = 2 * ((p : Int) + (i : Int)) := IntWalk.i64_in _ (by omega)
  have h3 : IntKind.i64.wrap (3 + 2 * ((p : Int) + (i : Int))) = 3 + 2 * ((p : Int) + (i : Int)) := IntWalk.i64_in _ (by omega)
  have h4 : IntKind.i64.wrap (3 + 2 * ((p : Int) + (i : Int)) + (s : Int)) = 3 + 2 * ((p : Int) + (i : Int)) + (s : Int) := IntWalk.i64_in _ (by omega)
  have HS := Lib.hid hs
  clear hp hpi hs HZ
  go_enter Tryd.func60, Tryd.ntmps60
  go_upto_region 2 with (go_at_call 78; refine (implOfPair k _).mono ?_; rintro e w' ⟨rfl, rfl⟩; rw [hpair])
  go_quiet ((go_at_call 79; refine ((implSecond k (by omega) _).mono ?_); rintro e w' ⟨rfl, rfl⟩; rw [HS.out]; exact ⟨rfl, _, rfl⟩))
  go_wp2_with fail
  go_ret
  exact ⟨rfl, below_drewN hB.out _⟩

theorem numBase (F P T : Nat) (z : Int) (hF : F ≤ 1000) (hT : T ≤ 500) (HZ : Hid ((numV 0 F P T (T + 1) 0 : Nat) = z)) (w : World) :
    Calls Tryd.prog 60 #[.int .i64 0, .agg #[.int .i64 F, .int .i64 P, .int .i64 T], .int .i64 ((T : Int) + 1), .int .i64 0] w (Made w (.int .i64 z)) := by
  have h := numCell 0 F P T (T + 1) 0 z (by omega) hF (by omega) (by omega) HZ w
  exact h
theorem held_size {w w1 w2 : World} {a b c : Value} (h0 : w1.cell? ⟨w.heap.size, 0, none⟩ = some a) (h1 : w1.cell? ⟨w.heap.size, 1, none⟩ = some b) (h2 : w1.cell? ⟨w.heap.size, 2, none⟩ = some c) (hB : Below w.heap.size w w1) (hl : w.heap.size < w1.heap.size) (hb : Below w1.heap.size w1 w2) :
    w2.cell? ⟨w.heap.size, 0, none⟩ = some a ∧ w2.cell? ⟨w.heap.size, 1, none⟩ = some b ∧ w2.cell? ⟨w.heap.size, 2, none⟩ = some c ∧ Below w.heap.size w w2 ∧ w.heap.size < w2.heap.size :=
  ⟨(hb.cell (p := ⟨w.heap.size, 0, none⟩) hl).trans h0, (hb.cell (p := ⟨w.heap.size, 1, none⟩) hl).trans h1, (hb.cell (p := ⟨w.heap.size, 2, none⟩) hl).trans h2, hB.trans (hb.mono (Nat.le_of_lt hl)), Nat.lt_of_lt_of_le hl hb.size⟩

set_option maxHeartbeats 1000000 in
theorem numPair (k F P T t i : Nat) (z : Int) (hk : 2 ≤ k) (hk4 : k < 4) (hF : F ≤ 1000) (hP : P ≤ 1000) (hT : T ≤ 500) (ht : t ≤ 1000) (hi : i ≤ 1000) (HZ : Hid ((numV k F P T t i : Nat) = z)) (w : World) :
    Calls Tryd.prog 60 #[.int .i64 k, .agg #[.int .i64 F, .int .i64 P, .int .i64 T], .int .i64 t, .int .i64 i] w (Made w (.int .i64 z)) := by
  obtain ⟨c0, c1, c2⟩ := size_cells w F P T
  have hB := ((Below.refl w.heap.size w).alloc (Nat.le_refl _) (.cells #[.int .i64 F, .int .i64 P, .int .i64 T] 84))
  obtain ⟨p, hp⟩ : ∃ p : Nat, t * P = p := ⟨_, rfl⟩
  have hpb : p ≤ 1000000 := by rw [← hp]; exact Nat.mul_le_mul ht hP
  have hpi : (t : Int) * (P : Int) = (p : Int) := by rw [← hp, Int.natCast_mul]
  obtain ⟨b, hb⟩ : ∃ b : Nat, numV 0 F P T (T + 1) 0 = b := ⟨_, rfl⟩
  have hbb : b ≤ 2000000 := by
    rw [← hb]
    unfold numV
    rw [if_pos (by omega)]
    have : (T + 1) * F ≤ 501 * 1000 := Nat.mul_le_mul (by omega) hF
    omega
  obtain ⟨s, hs⟩ : ∃ s : Nat, k % 2 = s := ⟨_, rfl⟩
  have hsb : s < 2 := by omega
  have hz : z = (b : Int) + 2 * ((p : Int) + (i : Int)) + (s : Int) := by
    rw [← HZ.out, ← hb]
    unfold numV
    rw [if_neg (by omega), if_pos (by omega), hp, hs]
    omega
  subst hz
  have HNB : Hid ((numV 0 F P T (T + 1) 0 : Nat) = (b : Int)) := Lib.hid (by rw [hb])
  have hpair : (decide (2 ≤ k)) = true := by simp; omega
  have h0 : IntKind.i64.wrap ((t : Int) * (P : Int)) = (p : Int) := by rw [hpi]; exact IntWalk.i64_in _ (by omega)
  have h1 : IntKind.i64.wrap ((p : Int) + (i : Int)) = (p : Int) + (i : Int) := IntWalk.i64_in _ (by omega)
  have h2 : IntKind.i64.wrap (2 * ((p : Int) + (i : Int))) = 2 * ((p : Int) + (i : Int)) := IntWalk.i64_in _ (by omega)
  have h3 : IntKind.i64.wrap ((b : Int) + 2 * ((p : Int) + (i : Int))) = (b : Int) + 2 * ((p : Int) + (i : Int)) := IntWalk.i64_in _ (by omega)
  have h4 : IntKind.i64.wrap ((b : Int) + 2 * ((p : Int) + (i : Int)) + (s : Int)) = (b : Int) + 2 * ((p : Int) + (i : Int)) + (s : Int) := IntWalk.i64_in _ (by omega)
  have h5 : IntKind.i64.wrap ((T : Int) + 1) = (T : Int) + 1 := IntWalk.i64_in _ (by omega)
  have HS := Lib.hid hs
  clear hp hpi hs HZ hb
  have hS : (w.alloc (.cells #[.int .i64 F, .int .i64 P, .int .i64 T] 84)).drew.cell? ⟨w.heap.size, 0, none⟩ = some (.int .i64 F) ∧ (w.alloc (.cells #[.int .i64 F, .int .i64 P, .int .i64 T] 84)).drew.cell? ⟨w.heap.size, 1, none⟩ = some (.int .i64 P) ∧ (w.alloc (.cells #[.int .i64 F, .int .i64 P, .int .i64 T] 84)).drew.cell? ⟨w.heap.size, 2, none⟩ = some (.int .i64 T) ∧ Below w.heap.size w (w.alloc (.cells #[.int .i64 F, .int .i64 P, .int .i64 T] 84)).drew ∧ w.heap.size < (w.alloc (.cells #[.int .i64 F, .int .i64 P, .int .i64 T] 84)).drew.heap.size := ⟨c0, c1, c2, hB.drew, by simp⟩
  clear hB
  go_enter Tryd.func60, Tryd.ntmps60
  go_upto_region 3 with (go_at_call 78; refine (implOfPair k _).mono ?_; rintro e w' ⟨rfl, rfl⟩; rw [hpair])
  go_region_held3 (fun w' => w'.cell? ⟨w.heap.size, 0, none⟩ = some (.int .i64 F) ∧ w'.cell? ⟨w.heap.size, 1, none⟩ = some (.int .i64 P) ∧ w'.cell? ⟨w.heap.size, 2, none⟩ = some (.int .i64 T) ∧ Below w.heap.size w w' ∧ w.heap.size < w'.heap.size)
    (first | exact hS | assumption)
    (first
      | (go_at_call 60; (try go_split_ands); (with_reducible refine (numBase F P T _ hF hT HNB _).mono ?_); rintro e w5 ⟨rfl, hb5⟩; (have hS5 := held_size (by assumption) (by assumption) (by assumption) (by assumption) (by assumption) hb5); clear hb5)
      | (go_at_call 79; refine (implSecond k (by omega) _).mono ?_; rintro e w' ⟨rfl, rfl⟩; rw [HS.out]))
  all_goals
    go_wp2_with fail
    go_ret
    exact ⟨rfl, hS5.2.2.2.1⟩

end Go.Proofs.YtcagaolichgogaaDoor

namespace Go.Proofs.YtcagaolichgogaaDoor
set_option maxRecDepth 4096
open Go.ChangeShapes Go.WideShapes Go.ChangeAt Go.RowKit

theorem cmpNaN (x : Int) (w : World) : Calls Tryd.prog 87 #[.int .i64 x] w fun e w' => e = .returned (.bool false) ∧ w = w' := by
  go_enter Tryd.func87, Tryd.ntmps87
  go_wp2
  go_ret
  exact ⟨by simp, rfl⟩
theorem slicesNaN (x : Int) (w : World) : Calls Tryd.prog 77 #[.int .i64 x] w fun e w' => e = .returned (.bool false) ∧ w = w' := by
  go_enter Tryd.func77, Tryd.ntmps77
  go_wp2
  go_ret
  exact ⟨by simp, rfl⟩
theorem cmpLess (x y : Int) (w : World) : Calls Tryd.prog 76 #[.int .i64 x, .int .i64 y] w fun e w' => e = .returned (.bool (decide (x < y))) ∧ w = w' := by
  go_enter Tryd.func76, Tryd.ntmps76
  go_wp2_with (go_at_call 87; refine (cmpNaN _ _).mono ?_; rintro e w' ⟨rfl, rfl⟩)
  go_ret
  exact ⟨rfl, rfl⟩

theorem getD_at {L : List Int} {j : Nat} (h : j < L.length) : L[j]? = some (L.getD j 0) := by
  rw [List.getD_eq_getElem?_getD, List.getElem?_eq_getElem h]
  rfl

set_option maxHeartbeats 4000000 in
theorem implFind (L : List Int) (x : Int) (v : Value) (n : Nat) (b : Bool) (hL : L.length ≤ 2000000) (hs : L.Pairwise (· ≤ ·)) (HN : Hid (L.countP (fun y => decide (y < x)) = n)) (HB : Hid (L.contains x = b)) (w : World) (hv : Ints w v L) :
    Calls Tryd.prog 58 #[v, .int .i64 x] w fun e w' => e = .returned (.tuple #[.int .i64 n, .bool b]) ∧ ∃ q, w' = w.drewN q := by
  have S : Hid (∀ a b, a ≤ b → b < L.length → L.getD a 0 ≤ L.getD b 0) := Lib.hid (Lib.sorted_at L L.length (Nat.le_refl _) (by rw [List.take_length]; exact hs))
  obtain ⟨av, cv, rfl, HV⟩ := ints_form hv
  have HVh := Lib.hid HV
  clear hs HV hv
  go_enter Tryd.func58, Tryd.ntmps58
  go_wp2
  go_loopg [7, 8] L.length (fun g s7 s8 wr => ∃ lo hi q : Nat, s7 = .int .i64 lo ∧ s8 = .int .i64 hi ∧ lo ≤ hi ∧ hi ≤ L.length ∧ hi - lo ≤ g ∧ wr = w.drewN q ∧ (∀ t, t < lo → L.getD t 0 < x) ∧ (∀ t, hi ≤ t → t < L.length → x ≤ L.getD t 0))
  case atStart => exact ⟨0, L.length, 0, rfl, rfl, Nat.zero_le _, Nat.le_refl _, by omega, rfl, fun t ht => absurd ht (Nat.not_lt_zero _), fun t h1 h2 => by omega⟩
  case round =>
    obtain ⟨lo, hi, q, rfl, rfl, hlh, hin, hg, rfl, h1, h2⟩ := hrel
    have I : Hid ((∀ t, t < lo → L.getD t 0 < x) ∧ (∀ t, hi ≤ t → t < L.length → x ≤ L.getD t 0)) := Lib.hid ⟨h1, h2⟩
    clear h1 h2
    by_cases hlt : lo < hi
    · obtain ⟨y, hy⟩ : ∃ y, L.getD ((lo + hi) / 2) 0 = y := ⟨_, rfl⟩
      rcases HVh.out with h0 | ⟨g', rfl, hgl, hc⟩
      · omega
      · have cm : w.cell? ⟨g', (lo + hi) / 2, none⟩ = some (.int .i64 y) := hc _ _ (by rw [getD_at (by omega), hy])
        have Y := Lib.hid hy
        clear hy hc
        by_cases hyx : y < x
        · go_wp2_with (first | (go_at_call 76; refine (cmpLess _ _ _).mono ?_; rintro e w' ⟨rfl, rfl⟩) | (go_at_call 77; refine (slicesNaN _ _).mono ?_; rintro e w' ⟨rfl, rfl⟩))
          go_roundg (hi - ((lo + hi) / 2 + 1))
          case measure => omega
          case rel =>
            refine ⟨(lo + hi) / 2 + 1, hi, _, by rw [show ((lo : Int) + (hi : Int)) / 2 + 1 = (((lo + hi) / 2 + 1 : Nat) : Int) by omega], rfl, by omega, hin, Nat.le_refl _, rfl, fun t ht => ?_, I.out.2⟩
            have := S.out t ((lo + hi) / 2) (by omega) (by omega)
            rw [Y.out] at this
            omega
        · go_wp2_with (first | (go_at_call 76; refine (cmpLess _ _ _).mono ?_; rintro e w' ⟨rfl, rfl⟩) | (go_at_call 77; refine (slicesNaN _ _).mono ?_; rintro e w' ⟨rfl, rfl⟩))
          go_roundg ((lo + hi) / 2 - lo)
          case measure => omega
          case rel =>
            refine ⟨lo, (lo + hi) / 2, _, rfl, by rw [show ((lo : Int) + (hi : Int)) / 2 = (((lo + hi) / 2 : Nat) : Int) by omega], by omega, by omega, Nat.le_refl _, rfl, I.out.1, fun t ht htn => ?_⟩
            have := S.out ((lo + hi) / 2) t ht htn
            rw [Y.out] at this
            omega
    · have : hi = lo := by omega
      subst this
      obtain ⟨e1, e2⟩ := Lib.search_end L L.length hi x (Nat.le_refl _) hin I.out.1 I.out.2 S.out
      rw [List.take_length] at e1 e2
      have E1 : Hid (n = hi) := Lib.hid (by rw [← HN.out]; exact e1)
      have E2 : Hid (b = decide (hi < L.length ∧ L.getD hi 0 = x)) := Lib.hid (by rw [← HB.out]; exact e2)
      clear e1 e2
      by_cases hn : hi < L.length
      · obtain ⟨y, hy⟩ : ∃ y, L.getD hi 0 = y := ⟨_, rfl⟩
        rcases HVh.out with h0 | ⟨g', rfl, hgl, hc⟩
        · omega
        · have cl : w.cell? ⟨g', hi, none⟩ = some (.int .i64 y) := hc _ _ (by rw [getD_at (by omega), hy])
          have Y := Lib.hid hy
          clear hy hc
          by_cases hyx : y = x
          · go_wp2_with (first | (go_at_call 76; refine (cmpLess _ _ _).mono ?_; rintro e w' ⟨rfl, rfl⟩) | (go_at_call 77; refine (slicesNaN _ _).mono ?_; rintro e w' ⟨rfl, rfl⟩))
            go_ret2
            refine ⟨?_, _, rfl⟩
            rw [E1.out, E2.out, Y.out, decide_eq_true (show hi < L.length ∧ y = x from ⟨hn, hyx⟩)]
            first | rfl | simp [*]
          · go_wp2_with (first | (go_at_call 76; refine (cmpLess _ _ _).mono ?_; rintro e w' ⟨rfl, rfl⟩) | (go_at_call 77; refine (slicesNaN _ _).mono ?_; rintro e w' ⟨rfl, rfl⟩))
            go_ret2
            refine ⟨?_, _, rfl⟩
            rw [E1.out, E2.out, Y.out, decide_eq_false (show ¬ (hi < L.length ∧ y = x) from fun h => hyx h.2)]
            first | rfl | simp [*]
      · go_wp2_with (first | (go_at_call 76; refine (cmpLess _ _ _).mono ?_; rintro e w' ⟨rfl, rfl⟩) | (go_at_call 77; refine (slicesNaN _ _).mono ?_; rintro e w' ⟨rfl, rfl⟩))
        go_ret2
        refine ⟨?_, _, rfl⟩
        rw [E1.out, E2.out, decide_eq_false (show ¬ (hi < L.length ∧ L.getD hi 0 = x) from fun h => hn h.1)]
        first | rfl | simp [*]

end Go.Proofs.YtcagaolichgogaaDoor

namespace Go.Proofs.YtcagaolichgogaaDoor
set_option maxRecDepth 4096

/-- Two lists in strictly ascending order with the same members are equal. -/
theorem asc_same : ∀ {L M : List Nat}, L.Pairwise (· < ·) → M.Pairwise (· < ·) → (∀ x, x ∈ L ↔ x ∈ M) → L = M
  | [], [], _, _, _ => rfl
  | [], y :: M, _, _, h => absurd ((h y).2 (List.mem_cons_self ..)) (by simp)
  | x :: L, [], _, _, h => absurd ((h x).1 (List.mem_cons_self ..)) (by simp)
  | x :: L, y :: M, hL, hM, h => by
    obtain ⟨a1, a2⟩ := List.pairwise_cons.1 hL
    obtain ⟨b1, b2⟩ := List.pairwise_cons.1 hM
    have e : x = y := by
      rcases List.mem_cons.1 ((h x).1 (List.mem_cons_self ..)) with e | hx
      · exact e
      · rcases List.mem_cons.1 ((h y).2 (List.mem_cons_self ..)) with e | hy
        · exact e.symm
        · have := a1 y hy
          have := b1 x hx
          omega
    subst e
    rw [asc_same a2 b2 fun z => ?_]
    constructor
    · intro hz
      rcases List.mem_cons.1 ((h z).1 (List.mem_cons_of_mem _ hz)) with e | hz2
      · have := a1 z hz
        omega
      · exact hz2
    · intro hz
      rcases List.mem_cons.1 ((h z).2 (List.mem_cons_of_mem _ hz)) with e | hz2
      · have := b1 z hz
        omega
      · exact hz2
/-- In an ascending list as many lie below an element as its place says. -/
theorem asc_count {c : Int} : ∀ {L : List Int}, L.Pairwise (· < ·) → c ∈ L → L.countP (fun x => decide (x < c)) = L.idxOf c
  | [], _, h => by cases h
  | x :: L, hL, h => by
    obtain ⟨a1, a2⟩ := List.pairwise_cons.1 hL
    rw [List.countP_cons, List.idxOf_cons]
    by_cases e : x = c
    · subst e
      have h0 : L.countP (fun y => decide (y < x)) = 0 := by
        rw [List.countP_eq_zero]
        intro y hy
        have := a1 y hy
        simp only [decide_eq_true_eq]
        omega
      rw [h0]
      simp
    · have hc : c ∈ L := by
        rcases List.mem_cons.1 h with h | h
        · exact absurd h.symm e
        · exact h
      have hlt := a1 c hc
      rw [asc_count a2 hc]
      have e2 : (x == c) = false := by simp [e]
      simp [e2, hlt]

section
variable {W H : Int} {C : ByteArray}
theorem freeU_cell {c : Int} (h : freeV W H C c = true) : gok W H C = true ∧ ∃ n : Nat, c = n ∧ n < C.size := by
  unfold freeV at h
  simp only [Bool.and_eq_true] at h
  exact cellOk_out h.1
theorem freeU_mem {c : Int} (h : freeV W H C c = true) : c ∈ freeL W H C := by
  obtain ⟨hg, n, rfl, hn⟩ := freeU_cell h
  have h64 : C.size ≤ 64 := by
    obtain ⟨⟨⟨h1, h2⟩, ⟨h3, h4⟩, hs⟩, _⟩ := gok_out hg
    have := mul_bd h1 h2 h3 h4
    omega
  unfold freeL picks
  refine List.mem_map.2 ⟨n, List.mem_filter.2 ⟨List.mem_range.2 (by omega), h⟩, rfl⟩

theorem memU_free {c : Int} (h : c ∈ freeL W H C) : freeV W H C c = true := by
  obtain ⟨n, hn, rfl⟩ := List.mem_map.1 h
  exact (List.mem_filter.1 hn).2
/-- The free cells ascend. -/
theorem freeU_up : (freeL W H C).Pairwise (· < ·) := by
  unfold freeL picks
  rw [List.pairwise_map]
  exact (List.Pairwise.filter _ List.pairwise_lt_range).imp fun h => by omega
theorem free_has (c : Int) : (freeL W H C).contains c = freeV W H C c := by
  rw [Bool.eq_iff_iff, List.contains_iff_mem]
  exact ⟨memU_free, freeU_mem⟩
theorem free_le : (freeL W H C).Pairwise (· ≤ ·) := freeU_up.imp fun h => Int.le_of_lt h
end

end Go.Proofs.YtcagaolichgogaaDoor

namespace Go.Proofs.YtcagaolichgogaaDoor
set_option maxRecDepth 4096
open Go.ChangeShapes Go.WideShapes Go.ChangeAt Go.RowKit

theorem freeL_len (W H : Int) (C : ByteArray) : (freeL W H C).length ≤ 64 := Nat.le_trans (picks_len _ _) (Nat.min_le_right _ 64)
theorem numIn (F t i : Nat) (z : Int) (hF : F ≤ 1000) (ht : t ≤ 1000) (hi : i ≤ 1000) (HZ : Hid ((numV 0 F 0 0 t i : Nat) = z)) (w : World) :
    Calls Tryd.prog 60 #[.int .i64 0, .agg #[.int .i64 F, .int .i64 0, .int .i64 0], .int .i64 t, .int .i64 i] w (Made w (.int .i64 z)) :=
  numCell 0 F 0 0 t i z (by omega) hF ht hi HZ w

set_option maxHeartbeats 1000000 in
theorem implInNode (W H : Int) (C : ByteArray) (c T z : Int) (hC : C.size ≤ 1048576) (HZ : Hid (inNodeV W H C c T = z)) (w : World) :
    Calls Tryd.prog 29 #[.agg #[.int .i64 W, .int .i64 H, .string C], .int .i64 c, .int .i64 T] w (Made w (.int .i64 z)) := by
  have hB := Below.refl (w.alloc (.cells #[.int .i64 W, .int .i64 H, .string C] 29)).heap.size (w.alloc (.cells #[.int .i64 W, .int .i64 H, .string C] 29))
  obtain ⟨L, HL⟩ : ∃ L, Hid (freeL W H C = L) := ⟨_, rfl⟩
  have hlen : L.length ≤ 64 := by rw [← HL.out]; exact freeL_len W H C
  have hup : L.Pairwise (· ≤ ·) := by rw [← HL.out]; exact free_le
  obtain ⟨n, HN⟩ : ∃ n, Hid (L.countP (fun y => decide (y < c)) = n) := ⟨_, rfl⟩
  have hnl : n ≤ 64 := by rw [← HN.out]; exact Nat.le_trans List.countP_le_length hlen
  have hw2 : L.length ≤ 2000000 := by omega
  by_cases hf : freeV W H C c = true
  · have HB : Hid (L.contains c = true) := Lib.hid (by rw [← HL.out, free_has]; exact hf)
    have hn : (freeL W H C).idxOf c = n := by rw [← HN.out, ← HL.out]; exact (asc_count freeU_up (freeU_mem hf)).symm
    by_cases hT : rgB T 0 20 = true
    · have HR : Hid ((decide (0 ≤ T) && decide (T ≤ 20)) = true) := Lib.hid hT
      obtain ⟨h0, h1⟩ := rgB_iff.1 hT
      obtain ⟨t, rfl⟩ : ∃ t : Nat, T = t := ⟨T.toNat, by omega⟩
      have ht : t ≤ 1000 := by omega
      have HZ2 : Hid ((numV 0 L.length 0 0 t n : Nat) = z) := Lib.hid (by
        have e1 : inNodeV W H C c (t : Int) = 3 + 2 * ((t : Int) * ((freeL W H C).length : Int) + (((freeL W H C).idxOf c : Nat) : Int)) := if_pos ⟨hf, hT⟩
        have e2 : numV 0 L.length 0 0 t n = 3 + 2 * (t * L.length + n) + 0 % 2 := if_pos (by decide)
        rw [← HZ.out, e1, e2, hn, HL.out]
        simp)
      clear hf hT HZ hn h0 h1
      go_enter Tryd.func29, Tryd.ntmps29
      go_wp2_with fail
      refine (implFreeCells W H C L hC HL _).mono ?_
      rintro e w1 ⟨v, rfl, hown, hb⟩
      replace hB := chain hB hb
      obtain ⟨av, cv, rfl⟩ := own_form hown
      have HI := Lib.hid (ints_of_own hown)
      clear hb hown
      go_wp2_with fail
      refine (implFind L c _ n true hw2 hup HN HB _ HI.out).mono ?_
      rintro e w2 ⟨rfl, q, rfl⟩
      replace hB := below_drewN hB q
      clear hup HI
      go_wp2_with (first
        | (go_at_call 59; refine (implRange _ _ _ true HR _).mono ?_; rintro e w' ⟨rfl, rfl⟩)
        | (go_at_call 60; (with_reducible refine (numIn L.length t n z (by omega) ht (by omega) HZ2 _).mono ?_); rintro e w3 ⟨rfl, hb⟩; replace hB := box_below (chain hB hb); clear hb))
      go_ret
      exact ⟨rfl, hB⟩
    · have hz : z = -1 := by
        rw [← HZ.out]
        unfold inNodeV
        rw [if_neg (fun h => hT h.2)]
      subst hz
      have HR : Hid ((decide (0 ≤ T) && decide (T ≤ 20)) = false) := Lib.hid (by simpa [rgB] using hT)
      clear hf hT HZ hn
      go_enter Tryd.func29, Tryd.ntmps29
      go_wp2_with fail
      refine (implFreeCells W H C L hC HL _).mono ?_
      rintro e w1 ⟨v, rfl, hown, hb⟩
      replace hB := chain hB hb
      have HI := Lib.hid (ints_of_own hown)
      clear hb hown
      go_wp2_with fail
      refine (implFind L c _ n true hw2 hup HN HB _ HI.out).mono ?_
      rintro e w2 ⟨rfl, q, rfl⟩
      replace hB := box_below (below_drewN hB q)
      clear hup HI
      go_wp2_with (go_at_call 59; refine (implRange _ _ _ false HR _).mono ?_; rintro e w' ⟨rfl, rfl⟩)
      go_ret
      exact ⟨rfl, hB⟩
  · have hz : z = -1 := by
      rw [← HZ.out]
      unfold inNodeV
      rw [if_neg (fun h => hf h.1)]
    subst hz
    have HB : Hid (L.contains c = false) := Lib.hid (by rw [← HL.out, free_has]; simpa using hf)
    clear hf HZ
    go_enter Tryd.func29, Tryd.ntmps29
    go_wp2_with fail
    refine (implFreeCells W H C L hC HL _).mono ?_
    rintro e w1 ⟨v, rfl, hown, hb⟩
    replace hB := chain hB hb
    have HI := Lib.hid (ints_of_own hown)
    clear hb hown
    go_wp2_with fail
    refine (implFind L c _ n false hw2 hup HN HB _ HI.out).mono ?_
    rintro e w2 ⟨rfl, q, rfl⟩
    replace hB := box_below (below_drewN hB q)
    clear hup HI
    go_wp2
    go_ret
    exact ⟨rfl, hB⟩

end Go.Proofs.YtcagaolichgogaaDoor

namespace Go.Proofs.YtcagaolichgogaaDoor
set_option maxRecDepth 4096

section
variable {W H : Int} {C : ByteArray}
theorem num_count {c : Int} (h : freeV W H C c = true) : (freeL W H C).countP (fun x => decide (x < c)) = numG W H C c := asc_count free_up (free_mem h)
theorem cell_in {x y : Int} (h : freeV W H C (cellAtV W H C x y) = true) : cellAtV W H C x y = y * W + x ∧ 0 ≤ x ∧ x < W := by
  by_cases hr : gok W H C = true ∧ (0 ≤ x ∧ x < W) ∧ (0 ≤ y ∧ y < H)
  · exact ⟨cellAtV_yes hr, hr.2.1⟩
  · rw [cellAtV_no hr] at h
    unfold freeV cellOk at h
    simp at h
theorem around_up (W H : Int) (C : ByteArray) (c : Int) : (aroundL W H C c).Pairwise (· < ·) := by
  unfold aroundL nbrs
  split
  · rw [List.pairwise_filter]
    have k1 : ∀ x x' y : Int, x < x' → freeV W H C (cellAtV W H C x y) = true → freeV W H C (cellAtV W H C x' y) = true → cellAtV W H C x y < cellAtV W H C x' y := by
      intro x x' y hlt h1 h2
      rw [(cell_in h1).1, (cell_in h2).1]
      omega
    have k2 : ∀ x x' y y' : Int, y < y' → freeV W H C (cellAtV W H C x y) = true → freeV W H C (cellAtV W H C x' y') = true → cellAtV W H C x y < cellAtV W H C x' y' := by
      intro x x' y y' hlt h1 h2
      obtain ⟨e1, a1, a2⟩ := cell_in h1
      obtain ⟨e2, b1, b2⟩ := cell_in h2
      rw [e1, e2]
      have h3 : (y + 1) * W ≤ y' * W := Int.mul_le_mul_of_nonneg_right (by omega) (by omega)
      rw [Int.add_mul] at h3
      omega
    refine List.pairwise_cons.2 ⟨fun d hd => ?_, List.pairwise_cons.2 ⟨fun d hd => ?_, List.pairwise_cons.2 ⟨fun d hd => ?_, List.pairwise_cons.2 ⟨(fun d hd => by cases hd), List.Pairwise.nil⟩⟩⟩⟩
    · simp only [List.mem_cons, List.not_mem_nil, or_false] at hd
      rcases hd with rfl | rfl | rfl
      · exact k2 _ _ _ _ (by omega)
      · exact k2 _ _ _ _ (by omega)
      · exact k2 _ _ _ _ (by omega)
    · simp only [List.mem_cons, List.not_mem_nil, or_false] at hd
      rcases hd with rfl | rfl
      · exact k1 _ _ _ (by omega)
      · exact k2 _ _ _ _ (by omega)
    · simp only [List.mem_cons, List.not_mem_nil, or_false] at hd
      subst hd
      exact k2 _ _ _ _ (by omega)
  · exact List.Pairwise.nil
theorem num_up {c d : Int} (hc : freeV W H C c = true) (hd : freeV W H C d = true) : numG W H C c < numG W H C d ↔ c < d := by
  have := cellG_lt (numG_lt hc) (numG_lt hd)
  rw [cellG_num hc, cellG_num hd] at this
  exact this.symm
theorem ar_up (i : Nat) : ((mapG W H C).ar i).Pairwise (· < ·) := by
  unfold mapG
  rw [List.pairwise_map]
  refine List.Pairwise.imp_of_mem (fun {a b} ha hb h => ?_) (around_up W H C _)
  exact (num_up (around_free ha).2 (around_free hb).2).2 h
/-- The greater ones beside a cell, as the program lists them. -/
theorem ar_pairs (i : Nat) : ((List.range (mapG W H C).F).filter fun k => decide (i < k) && adjB (mapG W H C) i k) = ((mapG W H C).ar i).filter fun k => decide (i < k) := by
  refine asc_same (List.Pairwise.filter _ List.pairwise_lt_range) (List.Pairwise.filter _ (ar_up i)) fun k => ?_
  simp only [List.mem_filter, List.mem_range, Bool.and_eq_true, decide_eq_true_eq]
  unfold adjB
  rw [decide_eq_true_eq]
  exact ⟨fun h => ⟨h.2.2, h.2.1⟩, fun h => ⟨(mem_ar.1 h.1).2.1, h.2, h.1⟩⟩
end
/-- The pairs of the first i cells. -/
def plTo (m : MapD) (i : Nat) : List (Nat × Nat) := (List.range i).flatMap fun i => ((m.ar i).filter fun k => decide (i < k)).map fun k => (i, k)
theorem plTo_succ (m : MapD) (i : Nat) : plTo m (i + 1) = plTo m i ++ ((m.ar i).filter fun k => decide (i < k)).map fun k => (i, k) := by
  unfold plTo
  rw [List.range_succ, List.flatMap_append]
  simp
theorem plTo_all (W H : Int) (C : ByteArray) : plTo (mapG W H C) (mapG W H C).F = (mapG W H C).pl := by
  unfold plTo MapD.pl
  congr 1
  funext i
  rw [ar_pairs]

end Go.Proofs.YtcagaolichgogaaDoor

