/-
  The cheapest flows, as functions of the bare lists: their sizes, their costs, how far they go. Plain facts; no statement is proved here.
-/
import Derived.Test.YtobflidianlomaaNextM
import Derived.Test.YtobflidianlomaaCutV
namespace Go.Proofs.Ytobflidianlomaa
set_option maxRecDepth 4096

/-- The flow after so many units; none if there is no way for one of them. -/
noncomputable def cheapF (A : List ArcD) (n : Nat) : Nat → Option (List Int)
  | 0 => some (List.replicate A.length 0)
  | k + 1 => match cheapF A n k with
    | none => none
    | some F => if farV (A.zip F) 1 < 1152921504606846976 then some (nextF A F n) else none
noncomputable def cheapO (N : Int) (A : List ArcD) (K : Int) : Option (List Int) := if netOkV N A = true ∧ 0 ≤ K ∧ K ≤ 16 then cheapF A N.toNat K.toNat else none
noncomputable def cheapL (N : Int) (A : List ArcD) (K : Int) : List Int := (cheapO N A K).getD []
noncomputable def cheapC (N : Int) (A : List ArcD) (K : Int) : Int := match cheapO N A K with
  | none => 0
  | some F => costO (A.zip F)
noncomputable def cheapB (N : Int) (A : List ArcD) (K : Int) : Bool := (cheapO N A K).isSome
noncomputable def leastV (N : Int) (A : List ArcD) (K : Int) : Int := if cheapB N A K = true then cheapC N A K else -1

section
variable {n : Nat} {A : List ArcD}
theorem cheapF_succ {k : Nat} {F' : List Int} (h : cheapF A n (k + 1) = some F') : ∃ F, cheapF A n k = some F ∧ farV (A.zip F) 1 < 1152921504606846976 ∧ F' = nextF A F n := by
  unfold cheapF at h
  cases hk : cheapF A n k with
  | none => rw [hk] at h; cases h
  | some F =>
    rw [hk] at h
    simp only at h
    split at h
    · rename_i h1
      exact ⟨F, rfl, h1, (Option.some.inj h).symm⟩
    · cases h
/-- Each of them is a flow of its size, and lengths are bounded from below. -/
theorem cheap_ok (hn : netOkV n A = true) : ∀ {k : Nat} {F : List Int}, cheapF A n k = some F → flowOkV n A F = true ∧ netO (A.zip F) 0 = (k : Int) ∧ ∃ S π, Feas (A.zip F) S π
  | 0, F, h => by
    cases h
    exact ⟨zero_ok hn, by rw [netO_zero]; rfl, _, _, feas_zero hn⟩
  | k + 1, F', h => by
    obtain ⟨F, h1, h2, rfl⟩ := cheapF_succ h
    obtain ⟨h3, h4, S, π, h5⟩ := cheap_ok hn h1
    obtain ⟨⟨h6, h15⟩, _, _⟩ := netOk_out hn
    obtain ⟨d, hd⟩ := (far_lt (fit_of hn) (by omega) (by omega)).1 h2
    obtain ⟨g1, g2, g3, _⟩ := next_ok h3 h5 ((isD_res (fit_of hn) h5).2 ⟨d, hd⟩)
    exact ⟨g1, by rw [g2, h4]; omega, _, _, g3⟩
/-- The cost of one more unit. -/
theorem cheap_step (hn : netOkV n A = true) {k : Nat} {F F' : List Int} (h : cheapF A n k = some F) (h' : cheapF A n (k + 1) = some F') :
    10000 * (costO (A.zip F') - costO (A.zip F)) = farV (A.zip F) 1 - (rkV (A.zip F) 1 : Int) ∧ rkV (A.zip F) 1 < 1500 ∧ Feas (A.zip F') (fun v => ∃ d, IsD (A.zip F) v d) (farV (A.zip F)) ∧ farV (A.zip F) 1 < 1152921504606846976 ∧ farV (A.zip F) 0 = 0 := by
  obtain ⟨F0, h1, h2, rfl⟩ := cheapF_succ h'
  rw [h] at h1
  cases h1
  obtain ⟨h3, h4, S, π, h5⟩ := cheap_ok hn h
  obtain ⟨⟨h6, h15⟩, _, _⟩ := netOk_out hn
  obtain ⟨d, hd⟩ := (far_lt (fit_of hn) (by omega) (by omega)).1 h2
  obtain ⟨_, _, g3, g4, g5⟩ := next_ok h3 h5 ((isD_res (fit_of hn) h5).2 ⟨d, hd⟩)
  exact ⟨g4, g5, g3, h2, far_is (far_zero h5)⟩
/-- The first unit costs nothing less than nothing; each further one no less than the one before it. -/
theorem cheap_first (hn : netOkV n A = true) {F F' : List Int} (h : cheapF A n 0 = some F) (h' : cheapF A n 1 = some F') : costO (A.zip F) ≤ costO (A.zip F') := by
  obtain ⟨g1, g2, _, g4, _⟩ := cheap_step hn h h'
  obtain ⟨⟨h6, h15⟩, _, _⟩ := netOk_out hn
  obtain ⟨d, hd⟩ := (far_lt (fit_of hn) (by omega) (by omega)).1 g4
  cases h
  obtain ⟨k, hw⟩ := hd.1
  have := (feas_zero hn).wk hw
  rw [far_is hd] at g1
  omega
theorem cheap_more (hn : netOkV n A = true) {k : Nat} {F F' F'' : List Int} (h : cheapF A n k = some F) (h' : cheapF A n (k + 1) = some F') (h'' : cheapF A n (k + 2) = some F'') : costO (A.zip F') - costO (A.zip F) ≤ costO (A.zip F'') - costO (A.zip F') := by
  obtain ⟨a1, a2, a3, _, a5⟩ := cheap_step hn h h'
  obtain ⟨b1, b2, _, b4, _⟩ := cheap_step hn h' h''
  obtain ⟨⟨h6, h15⟩, _, _⟩ := netOk_out hn
  obtain ⟨d, hd⟩ := (far_lt (fit_of hn) (by omega) (by omega)).1 b4
  obtain ⟨j, hw⟩ := hd.1
  have := (a3.wk hw).2
  rw [far_is hd] at b1
  omega
/-- They go as far as the greatest flow. -/
theorem cheap_le (hn : netOkV n A = true) {k : Nat} {F : List Int} (h : cheapF A n k = some F) : (k : Int) ≤ mostS n A := by
  obtain ⟨h1, h2, _⟩ := cheap_ok hn h
  obtain ⟨g1, g2⟩ := most_ok hn
  have := stop_most g1 g2 h1
  have e := (most_is g1 g2).1
  omega
theorem cheap_none (hn : netOkV n A = true) : ∀ {k : Nat}, cheapF A n k = none → mostS n A < (k : Int)
  | 0, h => by cases h
  | k + 1, h => by
    cases hk : cheapF A n k with
    | none =>
      have := cheap_none hn hk
      omega
    | some F =>
      unfold cheapF at h
      rw [hk] at h
      simp only at h
      split at h
      · cases h
      · rename_i h1
        obtain ⟨h3, h4, S, π, h5⟩ := cheap_ok hn hk
        obtain ⟨⟨h6, h15⟩, _, _⟩ := netOk_out hn
        have hno : reachedB A F 1 = false := by
          cases hb : reachedB A F 1 with
          | false => rfl
          | true => exact absurd ((far_lt (fit_of hn) (by omega) (by omega)).2 ((isD_res (fit_of hn) h5).1 hb)) h1
        have := (most_is h3 hno).1
        omega
theorem cheap_iff (hn : netOkV n A = true) (k : Nat) : (cheapF A n k).isSome = decide ((k : Int) ≤ mostS n A) := by
  cases h : cheapF A n k with
  | none =>
    have := cheap_none hn h
    simp
    omega
  | some F =>
    have := cheap_le hn h
    simp
    omega
theorem cheap_down {k j : Nat} {F : List Int} (h : cheapF A n k = some F) (hj : j ≤ k) : ∃ F', cheapF A n j = some F' := by
  induction k generalizing F with
  | zero =>
    have : j = 0 := by omega
    subst this
    exact ⟨F, h⟩
  | succ k ih =>
    by_cases e : j = k + 1
    · subst e
      exact ⟨F, h⟩
    · obtain ⟨F0, h1, _, _⟩ := cheapF_succ h
      exact ih h1 (by omega)
theorem cheapO_some {N K : Int} {F : List Int} (h : cheapO N A K = some F) : netOkV N A = true ∧ 0 ≤ K ∧ K ≤ 16 ∧ cheapF A N.toNat K.toNat = some F := by
  unfold cheapO at h
  split at h
  · rename_i h1
    exact ⟨h1.1, h1.2.1, h1.2.2, h⟩
  · cases h
theorem cheapO_is {k : Nat} (hn : netOkV n A = true) (hk : k ≤ 16) : cheapO n A k = cheapF A n k := by
  unfold cheapO
  rw [if_pos ⟨hn, by omega, by omega⟩, Int.toNat_natCast, Int.toNat_natCast]
end

end Go.Proofs.Ytobflidianlomaa
