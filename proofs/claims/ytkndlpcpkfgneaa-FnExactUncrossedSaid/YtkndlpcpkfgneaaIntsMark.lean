/-
  CONTRACT of laws.markIntS. No law is proved here.
-/
import Derived.Test.YtkndlpcpkfgneaaInts
namespace Go.Proofs.Ytkndlpcpkfgneaa
set_option maxRecDepth 4096
open Go.ChangeShapes Go.WideShapes Go.ChangeAt Go.RowKit

set_option maxHeartbeats 400000 in
theorem markInts (v : Value) (B k n : Nat) (xs : List Value) (w : World) (hown : w.ownsRow B 3 1 v n xs) (hn : k + n ≤ 100000000) :
    Calls Try.prog 25 #[v, .int .i64 k] w (MarkedI w B 3 v k n) := by
  have hxl : xs.length = n := by have := hown.1; omega
  by_cases h0 : n = 0
  · subst h0
    obtain ⟨a, c, rfl⟩ := own_form hown
    have hnil : xs = [] := List.eq_nil_of_length_eq_zero hxl
    subst hnil
    go_enter Try.func25, Try.ntmps25
    go_wp2
    refine wp_loop_rounds 1 ?_
    rw [rounds_succ]
    go_wp2
    go_ret
    exact ⟨ret_int (by omega), hown, World.grownBy.refl _ _⟩
  · obtain ⟨g, c, rfl⟩ : ∃ g c, v = .slice (some ⟨g, 0, none⟩) n c := by
      rcases hown.2 with ⟨_, h⟩ | ⟨g, cap, cur, rfl, _⟩
      · exact absurd h h0
      · exact ⟨g, cap, rfl⟩
    clear h0
    go_enter Try.func25, Try.ntmps25
    go_wp2
    go_loopw [1, 5] (fun a i wr => ∃ j : Nat, j ≤ n ∧ a = .int .i64 ((k + j : Nat) : Int) ∧ i = .int .i64 j ∧ wr.ownsRow B 3 1 (.slice (some ⟨g, 0, none⟩) n c) n ((nums k j).map (Value.int .i64) ++ xs.drop j) ∧ w.grownBy wr (some g)) (fun _ i _ => n - (intOf i).toNat)
    case atStart => exact ⟨0, Nat.zero_le _, rfl, rfl, by simpa [nums] using hown, World.grownBy.refl _ _⟩
    case round =>
      clear hown
      obtain ⟨j, hj, rfl, rfl, hown, hgr⟩ := hrel
      have hgs := hgr.size
      by_cases hlt : j < n
      · have hlt2 : (j : Int) < (n : Int) := by omega
        have hst := nums_set k j xs (by omega)
        have HST := Lib.hid hst
        clear hst
        obtain ⟨u, d1⟩ := own_cell hown hlt
        have d2 := hown.frozenAt j
        go_wp2
        go_roundw
        case rel => exact ⟨j + 1, by omega, by go_num, by go_num, by rw [← HST.out]; exact (hown.stored j _).1, grown_step hgr (Below.refl _ _) (hown.stored j _).2⟩
        case measure => simp [intOf]; omega
      · obtain rfl : j = n := by omega
        go_wp2
        go_ret
        exact ⟨ret_int (by omega), by rw [List.drop_of_length_le (by omega), List.append_nil] at hown; exact hown, hgr⟩

end Go.Proofs.Ytkndlpcpkfgneaa
