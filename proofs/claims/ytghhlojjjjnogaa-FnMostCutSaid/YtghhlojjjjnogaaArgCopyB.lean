/-
  A STEP: 'append([]bool{}, list...)', the list nil, empty or in memory: what comes back holds the list, and nothing that was there is touched. No statement is proved here.
-/
import Derived.Test.YtghhlojjjjnogaaBoolsO
import Derived.Test.YtghhlojjjjnogaaBoolRow
import Derived.Deep.Upon
import Derived.ArgAppend
namespace Go.Proofs.Ytghhlojjjjnogaa
set_option maxRecDepth 4096
open Go.ChangeShapes Go.WideShapes Go.ChangeAt Go.RowKit

theorem copyB_run (w : World) (b : Addr) (v : Value) (o : Nat → Bool) (n : Nat) (ty : TypeId) (hv : Bools w v o n) (hl : n ≤ 2000000) :
    ∃ v' w', (Builtin.append_ #[34, 34] ty #[.slice (some b) 0 0, v]).run Try.prog w = .ok v' w' ∧ Bools w' v' o n ∧ Below w.heap.size w w' := by
  obtain ⟨i0, hi, hz0, hz1, hz2⟩ := info_parts Try.infoBool
  obtain ⟨a, c, rfl, hv⟩ := hv
  rcases Nat.eq_zero_or_pos n with h0 | hpos
  · subst h0
    have hs : Src Try.prog i0.size 34 (.slice a 0 c) 0 [] w := by
      cases a with
      | none => exact Src.ofNil w Try.underlying34 c
      | some p => exact Src.ofSlice w Try.underlying34 p 0 c [] (by simp) (by intro j u h; simp at h) (by intro u h; cases h)
    exact ⟨_, _, run_append_nothing w _ _ _ _ i0 Try.underlying34 hi (some b) 0 0 (Nat.le_refl _) _ hs, ⟨_, _, rfl, .inl rfl⟩, Below.refl _ _⟩
  · rcases hv with h0 | ⟨g, rfl, hg, hc⟩
    · omega
    · obtain ⟨v', w', h1, h2, h3⟩ := run_append_arg_grows w 34 ty 4 i0 (.bool false) 1 1 Try.underlying34 hi hz0 hz1 hz2 rfl (by decide) b 0 0 [] (by simp) (by intro j u h; simp at h)
        ⟨g, 0, none⟩ n c (rowB o n) (by rw [rowB_len]; simp) (fun j u h => by
          have hj : j < n := by
            have := (List.getElem?_eq_some_iff.1 h).1
            rwa [rowB_len] at this
          rw [rowB_at o hj] at h
          cases h
          rw [Addr.add_lit, Nat.zero_add]
          exact hc j hj) (by omega) (by unfold maxLen; omega) (by omega)
      rw [Nat.zero_add, List.nil_append] at h2
      exact ⟨v', w', h1, bools_of_own h2, (Below.refl _ _).grown h3 (Nat.le_refl _) (fun k h => by cases h)⟩

theorem wp_copyB {op : Oper} {a : Act} {w : World} {K : Act → World → Prop} {Q : Exit → Act → World → Prop} (s x : Operand) (hop : op.op = Op.call { callee := Callee.builtin Builtin.append, args := #[s, x], argTypes := #[34, 34] })
    (b : Addr) (hs : a.eval s = .slice (some b) 0 0) (v : Value) (o : Nat → Bool) (n : Nat) (hx : a.eval x = v) (hv : Bools w v o n) (hl : n ≤ 2000000)
    (hK : ∀ v' w', Bools w' v' o n → Below w.heap.size w w' → K (a.put op.dst v') w') : Oper.wp Try.prog op a w K Q := by
  obtain ⟨v', w', hrun, h1, h2⟩ := copyB_run w b v o n op.type hv hl
  unfold Oper.wp
  simp [execOp, hop, resolve, invoke, builtin, hs, hx, hrun, Result.andThen]
  exact hK _ _ h1 h2

end Go.Proofs.Ytghhlojjjjnogaa
