/-
  CONTRACT of laws.sameBools at two equal lists. No law is proved here.
-/
import Derived.Test.YtghhlojjjjnogaaBoolsO
import Derived.BigQuiet
import Derived.Deep.QuietTactic
namespace Go.Proofs.Ytghhlojjjjnogaa
set_option maxRecDepth 4096
open Go.ChangeShapes Go.WideShapes Go.ChangeAt Go.RowKit

theorem sameBoolsT (v1 v2 : Value) (o : Nat → Bool) (n : Nat) (w : World) (h1 : Bools w v1 o n) (h2 : Bools w v2 o n) (hn : n ≤ 2000000) :
    Calls Try.prog 23 #[v1, v2] w (Quiet w (.bool true)) := by
  obtain ⟨a1, c1, rfl, H1⟩ := h1
  obtain ⟨a2, c2, rfl, H2⟩ := h2
  have HH1 := Lib.hid H1
  have HH2 := Lib.hid H2
  have hne : ((n : Int) != (n : Int)) = false := by simp
  clear H1 H2
  go_enter Try.func23, Try.ntmps23
  go_wp2
  go_loopw [5] (fun i wr => ∃ k m : Nat, k ≤ n ∧ i = .int .i64 k ∧ wr = w.drewN m) (fun i _ => n - (intOf i).toNat)
  case atStart => exact ⟨0, 0, Nat.zero_le _, rfl, rfl⟩
  case round =>
    obtain ⟨k, m, hk, rfl, rfl⟩ := hrel
    by_cases hlt : k < n
    · rcases HH1.out with h0 | ⟨g1, rfl, hg1, hc1⟩
      · omega
      · rcases HH2.out with h0 | ⟨g2, rfl, hg2, hc2⟩
        · omega
        · have d1 := hc1 k hlt
          have d2 := hc2 k hlt
          have hlt2 : (k : Int) < (n : Int) := by omega
          clear hc1 hc2
          cases hb : o k with
          | true =>
            rw [hb] at d1 d2
            go_wp2
            go_quiet (fail)
            go_wp2
            go_roundw
            case rel => exact ⟨k + 1, _, by omega, by go_num, rfl⟩
            case measure => simp [intOf]; omega
          | false =>
            rw [hb] at d1 d2
            go_wp2
            go_quiet (fail)
            go_wp2
            go_roundw
            case rel => exact ⟨k + 1, _, by omega, by go_num, rfl⟩
            case measure => simp [intOf]; omega
    · go_wp2
      go_ret
      exact ⟨rfl, m, rfl⟩

end Go.Proofs.Ytghhlojjjjnogaa
