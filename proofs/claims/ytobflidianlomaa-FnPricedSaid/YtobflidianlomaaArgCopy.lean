/-
  A STEP: 'append([]int{}, list...)', the list nil, empty or in memory: what comes back holds the list, and nothing that was there is touched. No statement is proved here.
  A slice of bytes, byte by byte. Plain facts; no law is proved here.
-/
import Derived.Test.YtobflidianlomaaIntsBack
import Derived.Deep.Upon
import Derived.ArgAppend
import Derived.Test.YtobflidianlomaaArgBytes
import Derived.Test.YtobflidianlomaaCurF
namespace Go.Proofs.Ytobflidianlomaa
set_option maxRecDepth 4096
open Go.ChangeShapes Go.WideShapes Go.ChangeAt Go.RowKit

theorem copy_run (w : World) (b : Addr) (v : Value) (L : List Int) (ty : TypeId) (hv : Ints w v L) (hl : L.length ≤ 2000000) :
    ∃ v' w', (Builtin.append_ #[27, 27] ty #[.slice (some b) 0 0, v]).run Try.prog w = .ok v' w' ∧ Ints w' v' L ∧ Below w.heap.size w w' := by
  obtain ⟨i0, hi, hz0, hz1, hz2⟩ := info_parts Try.info3
  rcases hv with ⟨rfl, a, c, rfl⟩ | ⟨g, c, rfl, hg, hc⟩
  · have hs : Src Try.prog i0.size 27 (.slice a 0 c) 0 [] w := by
      cases a with
      | none => exact Src.ofNil w Try.underlying27 c
      | some p => exact Src.ofSlice w Try.underlying27 p 0 c [] (by simp) (by intro j u h; simp at h) (by intro u h; cases h)
    exact ⟨_, _, run_append_nothing w _ _ _ _ i0 Try.underlying27 hi (some b) 0 0 (Nat.le_refl _) _ hs, .inl ⟨rfl, _, _, rfl⟩, Below.refl _ _⟩
  · rcases Nat.eq_zero_or_pos L.length with h0 | hpos
    · obtain rfl := List.eq_nil_of_length_eq_zero h0
      have hs : Src Try.prog i0.size 27 (.slice (some ⟨g, 0, none⟩) 0 c) 0 [] w := Src.ofSlice w Try.underlying27 _ 0 c [] (by simp) (by intro j u h; simp at h) (by intro u h; cases h)
      exact ⟨_, _, run_append_nothing w _ _ _ _ i0 Try.underlying27 hi (some b) 0 0 (Nat.le_refl _) _ hs, .inl ⟨rfl, _, _, rfl⟩, Below.refl _ _⟩
    · obtain ⟨v', w', h1, h2, h3⟩ := run_append_arg_grows w 27 ty 3 i0 (.int .i64 0) 1 8 Try.underlying27 hi hz0 hz1 hz2 rfl (by decide) b 0 0 [] (by simp) (by intro j u h; simp at h)
        ⟨g, 0, none⟩ L.length c (L.map (Value.int .i64)) (by simp) (fun j u h => by
          rw [List.getElem?_map] at h
          obtain ⟨x, hx, rfl⟩ := Option.map_eq_some_iff.1 h
          rw [Addr.add_lit, Nat.zero_add]
          exact hc j x hx) (by omega) (by unfold maxLen; omega) (by omega)
      rw [Nat.zero_add, List.nil_append] at h2
      exact ⟨v', w', h1, ints_of_own h2, (Below.refl _ _).grown h3 (Nat.le_refl _) (fun k h => by cases h)⟩

theorem wp_copy {o : Oper} {a : Act} {w : World} {K : Act → World → Prop} {Q : Exit → Act → World → Prop} (s x : Operand) (hop : o.op = Op.call { callee := Callee.builtin Builtin.append, args := #[s, x], argTypes := #[27, 27] })
    (b : Addr) (hs : a.eval s = .slice (some b) 0 0) (v : Value) (L : List Int) (hx : a.eval x = v) (hv : Ints w v L) (hl : L.length ≤ 2000000)
    (hK : ∀ v' w', Ints w' v' L → Below w.heap.size w w' → K (a.put o.dst v') w') : Oper.wp Try.prog o a w K Q := by
  obtain ⟨v', w', hrun, h1, h2⟩ := copy_run w b v L o.type hv hl
  unfold Oper.wp
  simp [execOp, hop, resolve, invoke, builtin, hs, hx, hrun, Result.andThen]
  exact hK _ _ h1 h2

end Go.Proofs.Ytobflidianlomaa

namespace Go.Proofs.Ytobflidianlomaa
set_option maxRecDepth 4096
open Go.ChangeShapes Go.WideShapes Go.ChangeAt Go.RowKit

theorem code_of {w : World} {v : Value} {N g : Nat} (h : CodeB w v N g) : ∃ B, CodeF w v N B g := by
  obtain ⟨a, c, hv, hh⟩ := h
  rcases hh with h0 | ⟨b, ha, hg, hl, hc⟩
  · exact ⟨fun _ => 0, a, c, hv, .inl h0⟩
  · have hx : ∀ j, ∃ x : Int, j < N → (0 ≤ x ∧ x < 256) ∧ w.cell? (b.add j) = some (.int .u8 x) := fun j => by
      by_cases hj : j < N
      · obtain ⟨x, h1, h2, h3⟩ := hc j hj
        exact ⟨x, fun _ => ⟨⟨h1, h2⟩, h3⟩⟩
      · exact ⟨0, fun h => absurd h hj⟩
    exact ⟨fun j => (hx j).choose, a, c, hv, .inr ⟨b, ha, hg, hl, fun j hj => (hx j).choose_spec hj⟩⟩

end Go.Proofs.Ytobflidianlomaa

