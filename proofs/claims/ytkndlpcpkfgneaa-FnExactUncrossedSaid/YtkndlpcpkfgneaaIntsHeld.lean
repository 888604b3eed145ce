/-
  CONTRACT of laws.heldIntS. No law is proved here.
-/
import Derived.Test.YtkndlpcpkfgneaaInts
namespace Go.Proofs.Ytkndlpcpkfgneaa
set_option maxRecDepth 4096
open Go.ChangeShapes Go.WideShapes Go.ChangeAt Go.RowKit

set_option maxHeartbeats 400000 in
theorem heldInts (v : Value) (k n : Nat) (w : World) (h : Ints w v (nums k n)) (hn : k + n ≤ 100000000) :
    Calls Try.prog 26 #[v, .int .i64 k] w (Made w (.int .i64 ((k + n : Nat) : Int))) := by
  by_cases h0 : n = 0
  · subst h0
    obtain ⟨a1, c1, rfl⟩ : ∃ a c, v = .slice a 0 c := by
      rcases h with ⟨_, h⟩ | ⟨g, c, rfl, _⟩
      · exact h
      · exact ⟨_, c, by rw [length_nums]⟩
    clear h
    go_enter Try.func26, Try.ntmps26
    go_wp2
    refine wp_loop_rounds 1 ?_
    rw [rounds_succ]
    go_wp2
    go_ret
    exact ⟨ret_int (by omega), Below.refl _ _⟩
  · obtain ⟨g, c, rfl, hg, hc⟩ : ∃ g c, v = .slice (some ⟨g, 0, none⟩) (nums k n).length c ∧ g < w.heap.size ∧ ∀ (j : Nat) x, (nums k n)[j]? = some x → w.cell? ⟨g, j, none⟩ = some (.int .i64 x) := by
      rcases h with ⟨h, _⟩ | h
      · have := congrArg List.length h
        rw [length_nums] at this
        exact absurd this h0
      · exact h
    have HC := Lib.hid hc
    clear hc h h0
    rw [length_nums]
    go_enter Try.func26, Try.ntmps26
    go_wp2
    go_loop [1, 5] (fun a i => ∃ j : Nat, j ≤ n ∧ a = .int .i64 ((k + j : Nat) : Int) ∧ i = .int .i64 j) (fun _ i => n - (intOf i).toNat)
    case atStart => exact ⟨0, Nat.zero_le _, rfl, rfl⟩
    case round =>
      obtain ⟨j, hj, rfl, rfl⟩ := hrel
      by_cases hlt : j < n
      · have d1 : w.cell? ⟨g, j, none⟩ = some (.int .i64 ((k + j : Nat) : Int)) := HC.out j _ (nums_at hlt)
        have hlt2 : (j : Int) < (n : Int) := by omega
        go_wp2
        go_round
        case rel => exact ⟨j + 1, by omega, by go_num, by go_num⟩
        case measure => simp [intOf]; omega
      · obtain rfl : j = n := by omega
        go_wp2
        go_ret
        exact ⟨ret_int (by omega), Below.refl _ _⟩

end Go.Proofs.Ytkndlpcpkfgneaa
