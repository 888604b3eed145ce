/-
  A STEP: 'append(row, list...)', the row of the call's own, the list nil, empty or in memory. No statement is proved here.
-/
import Derived.Test.YtkbfbifepaoojaaGreatDoorZPU00
import Derived.Deep.Upon
import Derived.Laws.OwnMore
namespace Go.Proofs.YtkbfbifepaoojaaGreatDoor
set_option maxRecDepth 4096
open Go.ChangeShapes Go.WideShapes Go.ChangeAt Go.RowKit

theorem app_run (w : World) (B : Nat) (v u : Value) (M L : List Int) (ty : TypeId) (hown : w.ownsRow B 3 1 v M.length (M.map (Value.int .i64))) (hv : ArgI w u L) (hl : M.length + L.length ≤ 100000000) (hB : B ≤ w.heap.size) :
    ∃ v' w', (Builtin.append_ #[26, 26] ty #[v, u]).run Tryz.prog w = .ok v' w' ∧ w'.ownsRow B 3 1 v' (M ++ L).length ((M ++ L).map (Value.int .i64)) ∧ w.grownBy w' v.ownBlock := by
  obtain ⟨i0, hi, hz0, hz1, hz2⟩ := info_parts Tryz.info3
  obtain ⟨a, c, rfl, hc⟩ := hv
  by_cases h0 : L.length = 0
  · obtain rfl := List.eq_nil_of_length_eq_zero h0
    have hs : Src Tryz.prog i0.size 26 (.slice a 0 c) 0 [] w := by
      cases a with
      | none => exact Src.ofNil w Tryz.underlying26 c
      | some p => exact Src.ofSlice w Tryz.underlying26 p 0 c [] (by simp) (by intro j u h; simp at h) (by intro u h; cases h)
    obtain ⟨p, k, hk, hv⟩ : ∃ p k, M.length ≤ k ∧ v = .slice p M.length k := by
      rcases hown.2 with ⟨rfl, h⟩ | ⟨g, cap, cur, rfl, _, _, h, _⟩
      · exact ⟨none, 0, by omega, by rw [h]⟩
      · exact ⟨_, _, h, rfl⟩
    subst hv
    refine ⟨_, w, run_append_nothing w _ _ _ _ i0 Tryz.underlying26 hi p M.length k hk _ hs, ?_, World.grownBy.refl _ _⟩
    rw [List.append_nil]
    exact hown
  · rcases hc with h | ⟨b, rfl, _, hc⟩
    · exact absurd h h0
    · obtain ⟨v', w', h1, h2, h3, _⟩ := run_append_own (P := Tryz.prog) w B 26 ty 3 i0 (.int .i64 0) 1 8 Tryz.underlying26 hi hz0 hz1 hz2 rfl (by decide) v M.length (M.map (Value.int .i64)) hown b L.length c (L.map (Value.int .i64)) (by simp) (fun j u h => by
          rw [List.getElem?_map] at h
          obtain ⟨x, hx, rfl⟩ := Option.map_eq_some_iff.1 h
          exact hc j x hx) (ints_one _) (by unfold maxLen; omega) (by omega) hB
      refine ⟨v', w', h1, ?_, h3⟩
      rw [List.length_append, List.map_append]
      exact h2

theorem wp_app {o : Oper} {a : Act} {w : World} {K : Act → World → Prop} {Q : Exit → Act → World → Prop} (s x : Operand) (hop : o.op = Op.call { callee := Callee.builtin Builtin.append, args := #[s, x], argTypes := #[26, 26] })
    (B : Nat) (v u : Value) (M L : List Int) (hs : a.eval s = v) (hx : a.eval x = u) (hown : w.ownsRow B 3 1 v M.length (M.map (Value.int .i64))) (hv : ArgI w u L) (hl : M.length + L.length ≤ 100000000) (hB : B ≤ w.heap.size)
    (hK : ∀ v' w', w'.ownsRow B 3 1 v' (M ++ L).length ((M ++ L).map (Value.int .i64)) → w.grownBy w' v.ownBlock → K (a.put o.dst v') w') : Oper.wp Tryz.prog o a w K Q := by
  obtain ⟨v', w', hrun, h1, h2⟩ := app_run w B v u M L o.type hown hv hl hB
  unfold Oper.wp
  simp [execOp, hop, resolve, invoke, builtin, hs, hx, hrun, Result.andThen]
  exact hK _ _ h1 h2
theorem wpList_app {ops : Array Oper} {rest : List Oper} {o : Oper} {a : Act} {w : World} {Q : Exit → Act → World → Prop} (hgd : o.guard = none) (s x : Operand) (hop : o.op = Op.call { callee := Callee.builtin Builtin.append, args := #[s, x], argTypes := #[26, 26] })
    (B : Nat) (v u : Value) (M L : List Int) (hs : a.eval s = v) (hx : a.eval x = u) (hown : w.ownsRow B 3 1 v M.length (M.map (Value.int .i64))) (hv : ArgI w u L) (hl : M.length + L.length ≤ 100000000) (hB : B ≤ w.heap.size)
    (h : ∀ v' w', w'.ownsRow B 3 1 v' (M ++ L).length ((M ++ L).map (Value.int .i64)) → w.grownBy w' v.ownBlock → wpList Tryz.prog ops Q rest (a.put o.dst v') w') : wpList Tryz.prog ops Q (o :: rest) a w :=
  wpList_plain hgd fun _ hK => wp_app s x hop B v u M L hs hx hown hv hl hB fun v' w' h2 h3 => hK _ _ (h v' w' h2 h3)
theorem argI_of_ints {w : World} {v : Value} {L : List Int} (h : Ints w v L) : ArgI w v L := by
  rcases h with ⟨rfl, a, c, rfl⟩ | ⟨g, c, rfl, hg, hc⟩
  · exact ⟨a, c, rfl, .inl rfl⟩
  · refine ⟨_, c, rfl, .inr ⟨_, rfl, hg, fun j x hx => ?_⟩⟩
    have hadd : (⟨g, 0, none⟩ : Addr).add j = ⟨g, j, none⟩ := by unfold Addr.add; split <;> simp_all
    rw [hadd]
    exact hc j x hx

end Go.Proofs.YtkbfbifepaoojaaGreatDoor

