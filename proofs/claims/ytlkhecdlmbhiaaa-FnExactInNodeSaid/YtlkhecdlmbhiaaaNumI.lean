/-
  CONTRACTS of the program's methods of kinds of nodes: ofPair, second, number. No law is proved here.
-/
import Derived.Test.YtlkhecdlmbhiaaaBase
import Derived.IntWalk
import Derived.Deep.QuietTactic
import Derived.BigQuiet
import Derived.Deep.RegionHeld3
import Derived.Deep.DeepCutAuto
import Derived.Deep.CutRange
namespace Go.Proofs.Ytlkhecdlmbhiaaa
set_option maxRecDepth 4096
open Go.ChangeShapes Go.WideShapes Go.ChangeAt Go.RowKit

/-- The number of a node: kinds 0 and 1 of the cell with index i, kinds 2 and 3 of the pair with index i, at time t. -/
def numV (k F P T t i : Nat) : Nat := if k < 2 then 3 + 2 * (t * F + i) + k % 2 else 3 + 2 * ((T + 1) * F) + 2 * (t * P + i) + k % 2

theorem implOfPair (k : Nat) (w : World) : Calls Try.prog 32 #[.int .i64 k] w fun e w' => e = .returned (.bool (decide (2 ≤ k))) ∧ w = w' := by
  go_enter Try.func32, Try.ntmps32
  by_cases h : 2 ≤ k
  · have h2 : (2 : Int) ≤ (k : Int) := by omega
    go_wp2
    go_ret
    exact ⟨by simp [h], rfl⟩
  · have h2 : ¬ (2 : Int) ≤ (k : Int) := by omega
    go_wp2
    go_ret
    exact ⟨by simp, rfl⟩

theorem implSecond (k : Nat) (hk : k < 4) (w : World) : Calls Try.prog 33 #[.int .i64 k] w fun e w' => e = .returned (.int .i64 ((k % 2 : Nat) : Int)) ∧ w = w' := by
  have h : (k : Int) % 2 = ((k % 2 : Nat) : Int) := by omega
  have HK := Lib.hid h
  clear h
  go_enter Try.func33, Try.ntmps33
  go_wp2
  go_ret
  refine ⟨?_, rfl⟩
  show Ending.returned (Value.int .i64 ((k : Int) % 2)) = _
  rw [HK.out]

theorem size_cells (w : World) (F P T : Nat) : (w.alloc (.cells #[.int .i64 F, .int .i64 P, .int .i64 T] 45)).cell? ⟨w.heap.size, 0, none⟩ = some (.int .i64 F) ∧
    (w.alloc (.cells #[.int .i64 F, .int .i64 P, .int .i64 T] 45)).cell? ⟨w.heap.size, 1, none⟩ = some (.int .i64 P) ∧
    (w.alloc (.cells #[.int .i64 F, .int .i64 P, .int .i64 T] 45)).cell? ⟨w.heap.size, 2, none⟩ = some (.int .i64 T) := by
  refine ⟨?_, ?_, ?_⟩ <;> rw [cell_of_row _ _ _ _ _ _ (heap_alloc_new w _)] <;> rfl

set_option maxHeartbeats 1000000 in
theorem numCell (k F P T t i : Nat) (z : Int) (hk : k < 2) (hF : F ≤ 1000) (ht : t ≤ 1000) (hi : i ≤ 1000) (HZ : Hid ((numV k F P T t i : Nat) = z)) (w : World) :
    Calls Try.prog 24 #[.int .i64 k, .agg #[.int .i64 F, .int .i64 P, .int .i64 T], .int .i64 t, .int .i64 i] w (Made w (.int .i64 z)) := by
  obtain ⟨c0, c1, c2⟩ := size_cells w F P T
  have hB := Lib.hid ((Below.refl w.heap.size w).alloc (Nat.le_refl _) (.cells #[.int .i64 F, .int .i64 P, .int .i64 T] 45))
  obtain ⟨p, hp⟩ : ∃ p : Nat, t * F = p := ⟨_, rfl⟩
  have hpb : p ≤ 1000000 := by rw [← hp]; exact Nat.mul_le_mul ht hF
  have hpi : (t : Int) * (F : Int) = (p : Int) := by rw [← hp, Int.natCast_mul]
  obtain ⟨s, hs⟩ : ∃ s : Nat, k % 2 = s := ⟨_, rfl⟩
  have hsb : s < 2 := by omega
  have hz : z = 3 + 2 * ((p : Int) + (i : Int)) + (s : Int) := by
    rw [← HZ.out]
    unfold numV
    rw [if_pos hk, hp, hs]
    omega
  subst hz
  have hpair : (decide (2 ≤ k)) = false := by simp; omega
  have h0 : IntKind.i64.wrap ((t : Int) * (F : Int)) = (p : Int) := by rw [hpi]; exact IntWalk.i64_in _ (by omega)
  have h1 : IntKind.i64.wrap ((p : Int) + (i : Int)) = (p : Int) + (i : Int) := IntWalk.i64_in _ (by omega)
  have h2 : IntKind.i64.wrap (2 * ((p : Int) + (i : Int))) = 2 * ((p : Int) + (i : Int)) := IntWalk.i64_in _ (by omega)
  have h3 : IntKind.i64.wrap (3 + 2 * ((p : Int) + (i : Int))) = 3 + 2 * ((p : Int) + (i : Int)) := IntWalk.i64_in _ (by omega)
  have h4 : IntKind.i64.wrap (3 + 2 * ((p : Int) + (i : Int)) + (s : Int)) = 3 + 2 * ((p : Int) + (i : Int)) + (s : Int) := IntWalk.i64_in _ (by omega)
  have HS := Lib.hid hs
  clear hp hpi hs HZ
  go_enter Try.func24, Try.ntmps24
  go_upto_region 2 with (go_at_call 32; refine (implOfPair k _).mono ?_; rintro e w' ⟨rfl, rfl⟩; rw [hpair])
  go_quiet ((go_at_call 33; refine ((implSecond k (by omega) _).mono ?_); rintro e w' ⟨rfl, rfl⟩; rw [HS.out]; exact ⟨rfl, _, rfl⟩))
  go_wp2_with fail
  go_ret
  exact ⟨rfl, below_drewN hB.out _⟩

theorem numBase (F P T : Nat) (z : Int) (hF : F ≤ 1000) (hT : T ≤ 500) (HZ : Hid ((numV 0 F P T (T + 1) 0 : Nat) = z)) (w : World) :
    Calls Try.prog 24 #[.int .i64 0, .agg #[.int .i64 F, .int .i64 P, .int .i64 T], .int .i64 ((T : Int) + 1), .int .i64 0] w (Made w (.int .i64 z)) := by
  have h := numCell 0 F P T (T + 1) 0 z (by omega) hF (by omega) (by omega) HZ w
  exact h
theorem held_size {w w1 w2 : World} {a b c : Value} (h0 : w1.cell? ⟨w.heap.size, 0, none⟩ = some a) (h1 : w1.cell? ⟨w.heap.size, 1, none⟩ = some b) (h2 : w1.cell? ⟨w.heap.size, 2, none⟩ = some c) (hB : Below w.heap.size w w1) (hl : w.heap.size < w1.heap.size) (hb : Below w1.heap.size w1 w2) :
    w2.cell? ⟨w.heap.size, 0, none⟩ = some a ∧ w2.cell? ⟨w.heap.size, 1, none⟩ = some b ∧ w2.cell? ⟨w.heap.size, 2, none⟩ = some c ∧ Below w.heap.size w w2 ∧ w.heap.size < w2.heap.size :=
  ⟨(hb.cell (p := ⟨w.heap.size, 0, none⟩) hl).trans h0, (hb.cell (p := ⟨w.heap.size, 1, none⟩) hl).trans h1, (hb.cell (p := ⟨w.heap.size, 2, none⟩) hl).trans h2, hB.trans (hb.mono (Nat.le_of_lt hl)), Nat.lt_of_lt_of_le hl hb.size⟩

set_option maxHeartbeats 1000000 in
theorem numPair (k F P T t i : Nat) (z : Int) (hk : 2 ≤ k) (hk4 : k < 4) (hF : F ≤ 1000) (hP : P ≤ 1000) (hT : T ≤ 500) (ht : t ≤ 1000) (hi : i ≤ 1000) (HZ : Hid ((numV k F P T t i : Nat) = z)) (w : World) :
    Calls Try.prog 24 #[.int .i64 k, .agg #[.int .i64 F, .int .i64 P, .int .i64 T], .int .i64 t, .int .i64 i] w (Made w (.int .i64 z)) := by
  obtain ⟨c0, c1, c2⟩ := size_cells w F P T
  have hB := ((Below.refl w.heap.size w).alloc (Nat.le_refl _) (.cells #[.int .i64 F, .int .i64 P, .int .i64 T] 45))
  obtain ⟨p, hp⟩ : ∃ p : Nat, t * P = p := ⟨_, rfl⟩
  have hpb : p ≤ 1000000 := by rw [← hp]; exact Nat.mul_le_mul ht hP
  have hpi : (t : Int) * (P : Int) = (p : Int) := by rw [← hp, Int.natCast_mul]
  obtain ⟨b, hb⟩ : ∃ b : Nat, numV 0 F P T (T + 1) 0 = b := ⟨_, rfl⟩
  have hbb : b ≤ 2000000 := by
    rw [← hb]
    unfold numV
    rw [if_pos (by omega)]
    have : (T + 1) * F ≤ 501 * 1000 := Nat.mul_le_mul (by omega) hF
    omega
  obtain ⟨s, hs⟩ : ∃ s : Nat, k % 2 = s := ⟨_, rfl⟩
  have hsb : s < 2 := by omega
  have hz : z = (b : Int) + 2 * ((p : Int) + (i : Int)) + (s : Int) := by
    rw [← HZ.out, ← hb]
    unfold numV
    rw [if_neg (by omega), if_pos (by omega), hp, hs]
    omega
  subst hz
  have HNB : Hid ((numV 0 F P T (T + 1) 0 : Nat) = (b : Int)) := Lib.hid (by rw [hb])
  have hpair : (decide (2 ≤ k)) = true := by simp; omega
  have h0 : IntKind.i64.wrap ((t : Int) * (P : Int)) = (p : Int) := by rw [hpi]; exact IntWalk.i64_in _ (by omega)
  have h1 : IntKind.i64.wrap ((p : Int) + (i : Int)) = (p : Int) + (i : Int) := IntWalk.i64_in _ (by omega)
  have h2 : IntKind.i64.wrap (2 * ((p : Int) + (i : Int))) = 2 * ((p : Int) + (i : Int)) := IntWalk.i64_in _ (by omega)
  have h3 : IntKind.i64.wrap ((b : Int) + 2 * ((p : Int) + (i : Int))) = (b : Int) + 2 * ((p : Int) + (i : Int)) := IntWalk.i64_in _ (by omega)
  have h4 : IntKind.i64.wrap ((b : Int) + 2 * ((p : Int) + (i : Int)) + (s : Int)) = (b : Int) + 2 * ((p : Int) + (i : Int)) + (s : Int) := IntWalk.i64_in _ (by omega)
  have h5 : IntKind.i64.wrap ((T : Int) + 1) = (T : Int) + 1 := IntWalk.i64_in _ (by omega)
  have HS := Lib.hid hs
  clear hp hpi hs HZ hb
  have hS : (w.alloc (.cells #[.int .i64 F, .int .i64 P, .int .i64 T] 45)).drew.cell? ⟨w.heap.size, 0, none⟩ = some (.int .i64 F) ∧ (w.alloc (.cells #[.int .i64 F, .int .i64 P, .int .i64 T] 45)).drew.cell? ⟨w.heap.size, 1, none⟩ = some (.int .i64 P) ∧ (w.alloc (.cells #[.int .i64 F, .int .i64 P, .int .i64 T] 45)).drew.cell? ⟨w.heap.size, 2, none⟩ = some (.int .i64 T) ∧ Below w.heap.size w (w.alloc (.cells #[.int .i64 F, .int .i64 P, .int .i64 T] 45)).drew ∧ w.heap.size < (w.alloc (.cells #[.int .i64 F, .int .i64 P, .int .i64 T] 45)).drew.heap.size := ⟨c0, c1, c2, hB.drew, by simp⟩
  clear hB
  go_enter Try.func24, Try.ntmps24
  go_upto_region 3 with (go_at_call 32; refine (implOfPair k _).mono ?_; rintro e w' ⟨rfl, rfl⟩; rw [hpair])
  go_region_held3 (fun w' => w'.cell? ⟨w.heap.size, 0, none⟩ = some (.int .i64 F) ∧ w'.cell? ⟨w.heap.size, 1, none⟩ = some (.int .i64 P) ∧ w'.cell? ⟨w.heap.size, 2, none⟩ = some (.int .i64 T) ∧ Below w.heap.size w w' ∧ w.heap.size < w'.heap.size)
    (first | exact hS | assumption)
    (first
      | (go_at_call 24; (try go_split_ands); (with_reducible refine (numBase F P T _ hF hT HNB _).mono ?_); rintro e w5 ⟨rfl, hb5⟩; (have hS5 := held_size (by assumption) (by assumption) (by assumption) (by assumption) (by assumption) hb5); clear hb5)
      | (go_at_call 33; refine (implSecond k (by omega) _).mono ?_; rintro e w' ⟨rfl, rfl⟩; rw [HS.out]))
  all_goals
    go_wp2_with fail
    go_ret
    exact ⟨rfl, hS5.2.2.2.1⟩

end Go.Proofs.Ytlkhecdlmbhiaaa
