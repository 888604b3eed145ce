/-
  Plain facts on components: the least cell from which a cell can be reached. No statement is proved here.
-/
import Derived.Test.YtieipekhckambaaDoorWays
import Derived.Test.YtieipekhckambaaDoorListF
namespace Go.Proofs.YtieipekhckambaaDoor
set_option maxRecDepth 4096

/-- The least cell below c that has a number; c where there is none. -/
def homeN (far : Nat → Int) (c : Nat) : Nat := ((List.range c).find? fun i => decide (0 ≤ far i)).getD c
theorem homeN_none {far : Nat → Int} {c : Nat} (h : ∀ i, i < c → far i < 0) : homeN far c = c := by
  unfold homeN
  rw [List.find?_eq_none.2 (fun i hi => by have := h i (List.mem_range.1 hi); simp; omega)]
  rfl
theorem homeN_some {far : Nat → Int} {c i : Nat} (hi : i < c) (h0 : 0 ≤ far i) (h : ∀ j, j < i → far j < 0) : homeN far c = i := by
  unfold homeN
  have : (List.range c).find? (fun i => decide (0 ≤ far i)) = some i := by
    rw [List.find?_eq_some_iff_getElem]
    refine ⟨by simpa using h0, i, by simpa using hi, by simp, fun j hj => ?_⟩
    have := h j hj
    simp
    omega
  rw [this]
  rfl
/-- What it is: the least one that has a number, or c. -/
theorem homeN_is (far : Nat → Int) (c : Nat) : (homeN far c < c ∧ 0 ≤ far (homeN far c) ∨ homeN far c = c) ∧ ∀ j, j < homeN far c → far j < 0 := by
  by_cases h : ∃ i, i < c ∧ 0 ≤ far i
  · have key : ∀ n, n ≤ c → (∃ i, i < n ∧ 0 ≤ far i) → ∃ i, i < c ∧ 0 ≤ far i ∧ ∀ j, j < i → far j < 0 := by
      intro n
      induction n with
      | zero => rintro _ ⟨i, hi, _⟩; omega
      | succ n ih =>
        rintro hn ⟨i, hi, h0⟩
        by_cases hb : ∃ i, i < n ∧ 0 ≤ far i
        · exact ih (by omega) hb
        · have : i = n := by
            rcases Nat.lt_or_ge i n with h1 | h1
            · exact absurd ⟨i, h1, h0⟩ hb
            · omega
          subst this
          refine ⟨i, by omega, h0, fun j hj => ?_⟩
          by_cases h1 : far j < 0
          · exact h1
          · exact absurd ⟨j, hj, by omega⟩ hb
    obtain ⟨i, hi, h0, hl⟩ := key c (Nat.le_refl _) h
    rw [homeN_some hi h0 hl]
    exact ⟨.inl ⟨hi, h0⟩, hl⟩
  · have hn : ∀ i, i < c → far i < 0 := fun i hi => by
      by_cases h1 : far i < 0
      · exact h1
      · exact absurd ⟨i, hi, by omega⟩ h
    rw [homeN_none hn]
    exact ⟨.inr rfl, hn⟩

/-- The component's least cell, or -1. -/
noncomputable def homeV (W H : Int) (C : ByteArray) (c : Int) : Int := if freeV W H C c = true then (homeN (farF W H C c) c.toNat : Int) else -1
noncomputable def isHome (W H : Int) (C : ByteArray) (c : Int) : Bool := decide (homeV W H C c = c)
noncomputable def homesL (W H : Int) (C : ByteArray) : List Int := (freeL W H C).filter (isHome W H C)
noncomputable def countV (W H : Int) (C : ByteArray) (home : Int) (L : List Int) : Int :=
  if gok W H C = true ∧ homeV W H C home = home ∧ 0 ≤ home then ((L.filter fun c => decide (homeV W H C c = home)).length : Int) else 0
noncomputable def enoughV (W H : Int) (C : ByteArray) (S D : List Int) : Bool :=
  gok W H C && (S.all (freeV W H C) && (D.all (freeV W H C) && (homesL W H C).all fun h => decide (countV W H C h D ≤ countV W H C h S)))

section
variable {W H : Int} {C : ByteArray}
theorem homeV_free {n : Nat} (h : freeV W H C n = true) : homeV W H C n = (homeN (farF W H C n) n : Int) := by
  unfold homeV
  rw [if_pos h]
  rfl
theorem homeV_no {c : Int} (h : ¬ freeV W H C c = true) : homeV W H C c = -1 := if_neg h
theorem homeV_ge (c : Int) : -1 ≤ homeV W H C c := by
  unfold homeV
  split <;> omega
theorem homeV_le {n : Nat} (h : freeV W H C n = true) : 0 ≤ homeV W H C n ∧ homeV W H C n ≤ n := by
  rw [homeV_free h]
  rcases (homeN_is (farF W H C n) n).1 with ⟨h1, _⟩ | h1 <;> omega

/-- Reached: the numbers are there. -/
theorem far_iff {a c : Nat} (ha : freeV W H C a = true) : 0 ≤ farF W H C a c ↔ ∃ j, Rch (nbN W H C) C.size (srcS a) j c := by
  constructor
  · intro h
    rcases farF_dist ha c with ⟨j, _, hr, _⟩ | ⟨hv, _⟩
    · exact ⟨j, hr⟩
    · omega
  · rintro ⟨j, hr⟩
    rcases farF_dist ha c with ⟨k, hk, _⟩ | ⟨_, hn⟩
    · omega
    · exact absurd hr (hn j)
theorem far_sym {a b : Nat} (ha : freeV W H C a = true) (hb : freeV W H C b = true) : 0 ≤ farF W H C a b ↔ 0 ≤ farF W H C b a := by
  rw [far_iff ha, far_iff hb]
  exact ⟨fun ⟨j, h⟩ => ⟨j, rch_rev nbN_in nbN_sym j b h⟩, fun ⟨j, h⟩ => ⟨j, rch_rev nbN_in nbN_sym j a h⟩⟩
theorem far_trans {a b c : Nat} (ha : freeV W H C a = true) (hb : freeV W H C b = true) (h1 : 0 ≤ farF W H C a b) (h2 : 0 ≤ farF W H C b c) : 0 ≤ farF W H C a c := by
  obtain ⟨i, hi⟩ := (far_iff ha).1 h1
  obtain ⟨j, hj⟩ := (far_iff hb).1 h2
  exact (far_iff ha).2 ⟨i + j, rch_add hi j c hj⟩
theorem far_self {a : Nat} (ha : freeV W H C a = true) : 0 ≤ farF W H C a a := (far_iff ha).2 ⟨0, by show decide (a = a) = true; simp⟩
theorem rch_freeS {a : Nat} (ha : freeV W H C a = true) : ∀ (j b : Nat), Rch (nbN W H C) C.size (srcS a) j b → freeV W H C b = true := by
  intro j
  induction j with
  | zero =>
    intro b h
    have hb : b = a := of_decide_eq_true h
    rw [hb]
    exact ha
  | succ j ih =>
    rintro b (h | ⟨p, _, _, hm⟩)
    · exact ih b h
    · have hz := nbN_mem.1 hm
      unfold aroundL at hz
      split at hz
      · exact (List.mem_filter.1 hz).2
      · cases hz
theorem far_free {a b : Nat} (ha : freeV W H C a = true) (h : 0 ≤ farF W H C a b) : freeV W H C b = true := by
  obtain ⟨j, hj⟩ := (far_iff ha).1 h
  exact rch_freeS ha j b hj

/-- The home is a cell of the component, and its own home. -/
theorem home_far {a : Nat} (ha : freeV W H C a = true) : 0 ≤ farF W H C a (homeN (farF W H C a) a) := by
  rcases (homeN_is (farF W H C a) a).1 with ⟨_, h⟩ | h
  · exact h
  · rw [h]; exact far_self ha
theorem home_same {a b : Nat} (ha : freeV W H C a = true) (hb : freeV W H C b = true) (h : 0 ≤ farF W H C a b) : homeN (farF W H C a) a = homeN (farF W H C b) b := by
  have hba := (far_sym ha hb).1 h
  have hle : ∀ {x y : Nat}, freeV W H C x = true → freeV W H C y = true → 0 ≤ farF W H C x y → homeN (farF W H C x) x ≤ homeN (farF W H C y) y := fun {x y} hx hy hxy => by
    rcases Nat.lt_or_ge (homeN (farF W H C y) y) (homeN (farF W H C x) x) with h1 | h1
    · have h2 := (homeN_is (farF W H C x) x).2 _ h1
      have h3 := far_trans hx hy hxy (home_far hy)
      omega
    · exact h1
  exact Nat.le_antisymm (hle ha hb h) (hle hb ha hba)
theorem home_iff {a b : Nat} (ha : freeV W H C a = true) (hb : freeV W H C b = true) : homeV W H C a = homeV W H C b ↔ 0 ≤ stepsToV W H C a b := by
  rw [homeV_free ha, homeV_free hb, stepsTo_far ha hb, ← far_sym ha hb]
  constructor
  · intro h
    have e : homeN (farF W H C a) a = homeN (farF W H C b) b := by omega
    have h1 := home_far ha
    have h2 := home_far hb
    rw [e] at h1
    have hf := far_free hb h2
    exact far_trans ha hf h1 ((far_sym hb hf).1 h2)
  · intro h
    rw [home_same ha hb h]
theorem home_home {a : Nat} (ha : freeV W H C a = true) : homeV W H C (homeV W H C a) = homeV W H C a ∧ freeV W H C (homeV W H C a) = true := by
  have h1 := home_far ha
  have hf := far_free ha h1
  rw [homeV_free ha]
  exact ⟨by rw [homeV_free hf, ← home_same ha hf h1], hf⟩
end

end Go.Proofs.YtieipekhckambaaDoor
