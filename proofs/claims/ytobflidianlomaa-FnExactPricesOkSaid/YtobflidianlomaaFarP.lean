/-
  The rounds by which the model finds the least lengths. Plain facts; no statement is proved here.
-/
import Derived.Test.YtobflidianlomaaFarM
namespace Go.Proofs.Ytobflidianlomaa
set_option maxRecDepth 4096

/-- A number is set. -/
def putD (D : Nat → Int) (v : Nat) (x : Int) (j : Nat) : Int := if j = v then x else D j
theorem putD_at (D : Nat → Int) (v : Nat) (x : Int) : putD D v x v = x := if_pos rfl
theorem putD_ne {D : Nat → Int} {v j : Nat} (x : Int) (h : j ≠ v) : putD D v x j = D j := if_neg h
def canF (D : Nat → Int) (p : ArcD × Int) : Prop := p.2 < p.1.r ∧ D p.1.f.toNat < 1152921504606846976 ∧ D p.1.f.toNat + 10000 * p.1.c + 1 < D p.1.t.toNat
def canB (D : Nat → Int) (p : ArcD × Int) : Prop := 0 < p.2 ∧ D p.1.t.toNat < 1152921504606846976 ∧ D p.1.t.toNat - 10000 * p.1.c + 1 < D p.1.f.toNat
instance (D : Nat → Int) (p : ArcD × Int) : Decidable (canF D p) := by unfold canF; exact inferInstance
instance (D : Nat → Int) (p : ArcD × Int) : Decidable (canB D p) := by unfold canB; exact inferInstance
def relF (p : ArcD × Int) (s : (Nat → Int) × Bool) : (Nat → Int) × Bool := if canF s.1 p then (putD s.1 p.1.t.toNat (s.1 p.1.f.toNat + 10000 * p.1.c + 1), true) else s
def relB (p : ArcD × Int) (s : (Nat → Int) × Bool) : (Nat → Int) × Bool := if canB s.1 p then (putD s.1 p.1.f.toNat (s.1 p.1.t.toNat - 10000 * p.1.c + 1), true) else s
theorem canF_at {D : Nat → Int} {a t : Nat} {r c y : Int} : canF D (⟨(a : Int), (t : Int), r, c⟩, y) ↔ y < r ∧ D a < 1152921504606846976 ∧ D a + 10000 * c + 1 < D t := Iff.rfl
theorem canB_at {D : Nat → Int} {a t : Nat} {r c y : Int} : canB D (⟨(a : Int), (t : Int), r, c⟩, y) ↔ 0 < y ∧ D t < 1152921504606846976 ∧ D t - 10000 * c + 1 < D a := Iff.rfl
theorem relF_on {s : (Nat → Int) × Bool} {a t : Nat} {r c y : Int} (h : decide (canF s.1 (⟨(a : Int), (t : Int), r, c⟩, y)) = true) : relF (⟨(a : Int), (t : Int), r, c⟩, y) s = (putD s.1 t (s.1 a + 10000 * c + 1), true) := if_pos (of_decide_eq_true h)
theorem relF_off {s : (Nat → Int) × Bool} {a t : Nat} {r c y : Int} (h : decide (canF s.1 (⟨(a : Int), (t : Int), r, c⟩, y)) = false) : relF (⟨(a : Int), (t : Int), r, c⟩, y) s = s := if_neg (of_decide_eq_false h)
theorem relB_on {s : (Nat → Int) × Bool} {a t : Nat} {r c y : Int} (h : decide (canB s.1 (⟨(a : Int), (t : Int), r, c⟩, y)) = true) : relB (⟨(a : Int), (t : Int), r, c⟩, y) s = (putD s.1 a (s.1 t - 10000 * c + 1), true) := if_pos (of_decide_eq_true h)
theorem relB_off {s : (Nat → Int) × Bool} {a t : Nat} {r c y : Int} (h : decide (canB s.1 (⟨(a : Int), (t : Int), r, c⟩, y)) = false) : relB (⟨(a : Int), (t : Int), r, c⟩, y) s = s := if_neg (of_decide_eq_false h)
/-- One round, arc after arc. -/
def passL : List (ArcD × Int) → (Nat → Int) × Bool → (Nat → Int) × Bool
  | [], s => s
  | p :: P, s => passL P (relB p (relF p s))
theorem passL_append : ∀ (P Q : List (ArcD × Int)) (s : (Nat → Int) × Bool), passL (P ++ Q) s = passL Q (passL P s)
  | [], _, _ => rfl
  | p :: P, Q, s => by simp only [List.cons_append, passL]; exact passL_append P Q _
theorem passL_snoc {P : List (ArcD × Int)} {k : Nat} {p : ArcD × Int} (h : P[k]? = some p) (s : (Nat → Int) × Bool) : passL (P.take (k + 1)) s = relB p (relF p (passL (P.take k) s)) := by
  obtain ⟨hi, rfl⟩ := List.getElem?_eq_some_iff.1 h
  rw [List.take_succ_eq_append_getElem hi, passL_append]
  rfl

/-- Each number is the length of a walk of not too many steps, or stands for none. -/
structure FI (P : List (ArcD × Int)) (K : Nat) (D : Nat → Int) : Prop where
  wk : ∀ v, D v = 1152921504606846976 ∨ ∃ k, k ≤ K ∧ Wk P k v (D v)
  zero : D 0 ≤ 0
section
variable {P : List (ArcD × Int)} {n K : Nat} {D : Nat → Int}
theorem FI.bd (hP : Fit P n) (h : FI P K D) (hK : K ≤ 1000000000) (v : Nat) : -1000001 * (K : Int) ≤ D v ∧ D v ≤ 1152921504606846976 := by
  rcases h.wk v with e | ⟨k, hk, hw⟩
  · omega
  · have := hw.bd hP
    omega
theorem FI.bd2 (hP : Fit P n) (h : FI P K D) (hK : K ≤ 10000000) (v : Nat) : -10000010000000 ≤ D v ∧ D v ≤ 1152921504606846976 ∧ (D v < 1152921504606846976 → D v ≤ 10000010000000) := by
  rcases h.wk v with e | ⟨k, hk, hw⟩
  · omega
  · have := hw.bd hP
    omega
theorem FI.mono {K' : Nat} (h : FI P K D) (hK : K ≤ K') : FI P K' D := ⟨fun v => (h.wk v).imp id fun ⟨k, hk, hw⟩ => ⟨k, by omega, hw⟩, h.zero⟩
theorem FI.put (h : FI P K D) {u v : Nat} {l : Int} (hs : Stp P u v l) (hu : D u < 1152921504606846976) (hl : D u + l < D v) : FI P (K + 1) (putD D v (D u + l)) := by
  refine ⟨fun j => ?_, ?_⟩
  · by_cases e : j = v
    · rw [e, putD_at]
      rcases h.wk u with e2 | ⟨k, hk, hw⟩
      · omega
      · exact .inr ⟨k + 1, by omega, hw.snoc hs⟩
    · rw [putD_ne _ e]
      exact (h.wk j).imp id fun ⟨k, hk, hw⟩ => ⟨k, by omega, hw⟩
  · by_cases e : 0 = v
    · rw [← e, putD_at]
      rw [← e] at hl
      have := h.zero
      omega
    · rw [putD_ne _ e]
      exact h.zero
theorem relF_ok (hP : Fit P n) {p : ArcD × Int} (hp : p ∈ P) {s : (Nat → Int) × Bool} (h : FI P K s.1) : FI P (K + 1) (relF p s).1 ∧ (∀ v, (relF p s).1 v ≤ s.1 v) ∧ ((relF p s).2 = false → relF p s = s ∧ s.2 = false) ∧
    (p.2 < p.1.r → s.1 p.1.f.toNat < 1152921504606846976 → (relF p s).1 p.1.t.toNat ≤ s.1 p.1.f.toNat + (10000 * p.1.c + 1)) := by
  have hin := hP.1 _ hp
  unfold relF
  by_cases hc : canF s.1 p
  · rw [if_pos hc]
    obtain ⟨h1, h2, h3⟩ := hc
    refine ⟨?_, fun v => ?_, fun e => (by cases e), fun _ _ => ?_⟩
    · have := h.put (v := p.1.t.toNat) (.fwd hp (by omega) (by omega) h1) h2 (by omega)
      rw [← Int.add_assoc] at this
      exact this
    · by_cases e : v = p.1.t.toNat
      · show putD _ _ _ v ≤ _
        rw [e, putD_at]; omega
      · show putD _ _ _ v ≤ _
        rw [putD_ne _ e]; exact Int.le_refl _
    · show putD _ _ _ _ ≤ _
      rw [putD_at]; omega
  · rw [if_neg hc]
    refine ⟨h.mono (by omega), fun v => Int.le_refl _, fun e => ⟨rfl, e⟩, fun h1 h2 => Int.not_lt.1 fun h3 => hc ⟨h1, h2, by omega⟩⟩
theorem relB_ok (hP : Fit P n) {p : ArcD × Int} (hp : p ∈ P) {s : (Nat → Int) × Bool} (h : FI P K s.1) : FI P (K + 1) (relB p s).1 ∧ (∀ v, (relB p s).1 v ≤ s.1 v) ∧ ((relB p s).2 = false → relB p s = s ∧ s.2 = false) ∧
    (0 < p.2 → s.1 p.1.t.toNat < 1152921504606846976 → (relB p s).1 p.1.f.toNat ≤ s.1 p.1.t.toNat + (1 - 10000 * p.1.c)) := by
  have hin := hP.1 _ hp
  unfold relB
  by_cases hc : canB s.1 p
  · rw [if_pos hc]
    obtain ⟨h1, h2, h3⟩ := hc
    refine ⟨?_, fun v => ?_, fun e => (by cases e), fun _ _ => ?_⟩
    · have := h.put (v := p.1.f.toNat) (.bwd hp (by omega) (by omega) h1) h2 (by omega)
      rw [show s.1 p.1.t.toNat + (1 - 10000 * p.1.c) = s.1 p.1.t.toNat - 10000 * p.1.c + 1 by omega] at this
      exact this
    · by_cases e : v = p.1.f.toNat
      · show putD _ _ _ v ≤ _
        rw [e, putD_at]; omega
      · show putD _ _ _ v ≤ _
        rw [putD_ne _ e]; exact Int.le_refl _
    · show putD _ _ _ _ ≤ _
      rw [putD_at]; omega
  · rw [if_neg hc]
    refine ⟨h.mono (by omega), fun v => Int.le_refl _, fun e => ⟨rfl, e⟩, fun h1 h2 => Int.not_lt.1 fun h3 => hc ⟨h1, h2, by omega⟩⟩
/-- A round: sound, never up, and each step is served. -/
theorem pass_ok (hP : Fit P n) : ∀ (L : List (ArcD × Int)), (∀ p ∈ L, p ∈ P) → ∀ {K : Nat} {s : (Nat → Int) × Bool}, FI P K s.1 → FI P (K + 2 * L.length) (passL L s).1 ∧ (∀ v, (passL L s).1 v ≤ s.1 v) ∧ ((passL L s).2 = false → passL L s = s ∧ s.2 = false) ∧
    ∀ p ∈ L, (p.2 < p.1.r → s.1 p.1.f.toNat < 1152921504606846976 → (passL L s).1 p.1.t.toNat ≤ s.1 p.1.f.toNat + (10000 * p.1.c + 1)) ∧ (0 < p.2 → s.1 p.1.t.toNat < 1152921504606846976 → (passL L s).1 p.1.f.toNat ≤ s.1 p.1.t.toNat + (1 - 10000 * p.1.c))
  | [], _, K, s, h => ⟨h, fun _ => Int.le_refl _, fun e => ⟨rfl, e⟩, fun p hp => by cases hp⟩
  | q :: L, hL, K, s, h => by
    obtain ⟨a1, a2, a3, a4⟩ := relF_ok hP (hL q (List.mem_cons_self ..)) h
    obtain ⟨b1, b2, b3, b4⟩ := relB_ok hP (hL q (List.mem_cons_self ..)) a1
    obtain ⟨c1, c2, c3, c4⟩ := pass_ok hP L (fun p hp => hL p (List.mem_cons_of_mem _ hp)) b1
    refine ⟨?_, fun v => Int.le_trans (c2 v) (Int.le_trans (b2 v) (a2 v)), fun e => ?_, fun p hp => ?_⟩
    · have e : K + 2 * (q :: L).length = K + 1 + 1 + 2 * L.length := by simp only [List.length_cons]; omega
      rw [e]
      exact c1
    · obtain ⟨e1, e2⟩ := c3 e
      obtain ⟨e3, e4⟩ := b3 e2
      obtain ⟨e5, e6⟩ := a3 e4
      exact ⟨e1.trans (e3.trans e5), e6⟩
    · rcases List.mem_cons.1 hp with rfl | hp
      · refine ⟨fun h1 h2 => ?_, fun h1 h2 => ?_⟩
        · have := a4 h1 h2
          have := b2 p.1.t.toNat
          have := c2 p.1.t.toNat
          show (passL L (relB p (relF p s))).1 _ ≤ _
          omega
        · have g1 := a2 p.1.t.toNat
          have := b4 h1 (by omega)
          have := c2 p.1.f.toNat
          show (passL L (relB p (relF p s))).1 _ ≤ _
          omega
      · obtain ⟨d1, d2⟩ := c4 p hp
        refine ⟨fun h1 h2 => ?_, fun h1 h2 => ?_⟩
        · have g1 := a2 p.1.f.toNat
          have g2 := b2 p.1.f.toNat
          have := d1 h1 (by omega)
          show (passL L (relB q (relF q s))).1 _ ≤ _
          omega
        · have g1 := a2 p.1.t.toNat
          have g2 := b2 p.1.t.toNat
          have := d2 h1 (by omega)
          show (passL L (relB q (relF q s))).1 _ ≤ _
          omega
theorem pass_step (hP : Fit P n) {s : (Nat → Int) × Bool} (h : FI P K s.1) {u v : Nat} {l : Int} (hs : Stp P u v l) (hu : s.1 u < 1152921504606846976) : (passL P s).1 v ≤ s.1 u + l := by
  obtain ⟨_, _, _, h4⟩ := pass_ok hP P (fun _ hp => hp) h
  cases hs with
  | @fwd p _ _ hp h1 h2 hr =>
    have := (h4 p hp).1 hr (by rw [show p.1.f.toNat = u by omega]; exact hu)
    rwa [show p.1.f.toNat = u by omega, show p.1.t.toNat = v by omega] at this
  | @bwd p _ _ hp h1 h2 hr =>
    have := (h4 p hp).2 hr (by rw [show p.1.t.toNat = u by omega]; exact hu)
    rwa [show p.1.t.toNat = u by omega, show p.1.f.toNat = v by omega] at this
/-- Not below the least length. -/
theorem FI.ge (h : FI P K D) {v : Nat} {d : Int} (hd : IsD P v d) (hb : d ≤ 1152921504606846976) : d ≤ D v := by
  rcases h.wk v with e | ⟨k, _, hw⟩
  · omega
  · exact hd.2 _ _ hw
/-- After so many rounds: what few steps reach is right. -/
def Lev (P : List (ArcD × Int)) (r : Nat) (D : Nat → Int) : Prop := ∀ v k, Few P v k → k ≤ r → D v = farV P v
theorem lev_pass (hP : Fit P n) (hn : 0 < n) (h15 : n ≤ 1500) {m : Bool} {r : Nat} (h : FI P K D) (hl : Lev P r D) : Lev P (r + 1) (passL P (D, m)).1 := by
  obtain ⟨h1, h2, _, _⟩ := pass_ok hP P (fun _ hp => hp) (s := (D, m)) h
  intro v k hf hk
  obtain ⟨d, hd, _⟩ := id hf
  have hbd := isD_bd hP hn h15 hd
  have hge := h1.ge hd (by omega)
  rw [far_is hd]
  refine Int.le_antisymm ?_ hge
  cases k with
  | zero =>
    have := hl v 0 hf (Nat.zero_le _)
    rw [far_is hd] at this
    have := h2 v
    simp only at this
    omega
  | succ k =>
    obtain ⟨u, l, d', hu, hud, hs, hv⟩ := hf.prev
    have e := hl u k hu (by omega)
    rw [far_is hud] at e
    have hub := isD_bd hP hn h15 hud
    have := pass_step hP (s := (D, m)) h hs (by show D u < _; omega)
    have e2 := hv.one hd
    simp only at this
    omega
/-- The rounds are over: each number is the least length. -/
theorem lev_done {S : Nat → Prop} {π : Nat → Int} (hP : Fit P n) (hn : 0 < n) (hS : Feas P S π) (h : FI P K D) (hl : Lev P n D) (v : Nat) : D v = farV P v := by
  by_cases hx : ∃ d, IsD P v d
  · obtain ⟨d, hd⟩ := hx
    obtain ⟨k, hk⟩ := few_ex hd
    exact hl v k hk (Nat.le_of_lt (hk.lt hP hn))
  · rw [far_no hx]
    rcases h.wk v with e | ⟨k, _, hw⟩
    · exact e
    · obtain ⟨d0, h1, _⟩ := isD_ex hS hw
      exact absurd ⟨d0, h1⟩ hx
theorem still_done {S : Nat → Prop} {π : Nat → Int} (hP : Fit P n) (hn : 0 < n) (h15 : n ≤ 1500) (hS : Feas P S π) (h : FI P K D) (hm : (passL P (D, false)).2 = false) (v : Nat) : D v = farV P v := by
  obtain ⟨_, _, h3, _⟩ := pass_ok hP P (fun _ hp => hp) (s := (D, false)) h
  have e := (h3 hm).1
  have key : ∀ k u d, Few P u k → IsD P u d → D u ≤ d := by
    intro k
    induction k with
    | zero =>
      intro u d hf hd
      obtain ⟨d', _, hw, _⟩ := hf
      have e1 := hw.zero.1
      subst e1
      rw [isD_zero hd]
      exact h.zero
    | succ k ih =>
      intro v d hf hd
      obtain ⟨u, l, d', hu, hud, hs, hv⟩ := hf.prev
      have h1 := ih u d' hu hud
      have hub := isD_bd hP hn h15 hud
      have := pass_step hP (s := (D, false)) h hs (by show D u < _; omega)
      rw [e] at this
      have e2 := hv.one hd
      simp only at this
      omega
  by_cases hx : ∃ d, IsD P v d
  · obtain ⟨d, hd⟩ := hx
    obtain ⟨k, hk⟩ := few_ex hd
    rw [far_is hd]
    have := isD_bd hP hn h15 hd
    exact Int.le_antisymm (key k v d hk hd) (h.ge hd (by omega))
  · rw [far_no hx]
    rcases h.wk v with e | ⟨k, _, hw⟩
    · exact e
    · obtain ⟨d0, h1, _⟩ := isD_ex hS hw
      exact absurd ⟨d0, h1⟩ hx
/-- How it begins. -/
def startF (v : Nat) : Int := if v = 0 then 0 else 1152921504606846976
theorem FI.start : FI P 0 startF := by
  refine ⟨fun v => ?_, by simp [startF]⟩
  unfold startF
  by_cases e : v = 0
  · subst e
    exact .inr ⟨0, Nat.le_refl _, by rw [if_pos rfl]; exact Wk.nil⟩
  · rw [if_neg e]
    exact .inl rfl
theorem lev_start : Lev P 0 startF := by
  intro v k hf hk
  have e : k = 0 := by omega
  subst e
  obtain ⟨d, hd, hw, _⟩ := hf
  have e1 := hw.zero.1
  subst e1
  rw [far_is hd, isD_zero hd]
  rfl
end

end Go.Proofs.Ytobflidianlomaa
