/-
  Least costs of walks that begin anywhere, the rounds that find them, and what they say of flows of one size. Plain facts; no statement is proved here.
  What PricesOf, PricesOk and NoneCheaper answer, as functions of the bare lists; the cheapest flows have potentials. Plain facts; no statement is proved here.
  What PricesOf hands back. No statement is proved here.
  The program's rounds over the prices, node by node: each takes the least of its own number and of what the steps into it give. Plain facts; no statement is proved here.
-/
import Derived.Test.YtobflidianlomaaFarP
import Derived.Test.YtobflidianlomaaCutM
import Derived.Test.YtobflidianlomaaCheapM
import Derived.Test.YtobflidianlomaaRowO
import Derived.Test.YtobflidianlomaaRowS
namespace Go.Proofs.Ytobflidianlomaa
set_option maxRecDepth 4096

/-- A step of the residual network and its cost. -/
inductive Stc (P : List (ArcD × Int)) : Nat → Nat → Int → Prop
  | fwd {p : ArcD × Int} {u v : Nat} : p ∈ P → p.1.f = (u : Int) → p.1.t = (v : Int) → p.2 < p.1.r → Stc P u v p.1.c
  | bwd {p : ArcD × Int} {u v : Nat} : p ∈ P → p.1.t = (u : Int) → p.1.f = (v : Int) → 0 < p.2 → Stc P u v (-p.1.c)
/-- A walk from any node: its steps, its end, its cost. -/
inductive Wc (P : List (ArcD × Int)) (n : Nat) : Nat → Nat → Int → Prop
  | nil {v : Nat} : v < n → Wc P n 0 v 0
  | snoc {k u v : Nat} {d l : Int} : Wc P n k u d → Stc P u v l → Wc P n (k + 1) v (d + l)
def PotC (P : List (ArcD × Int)) (π : Nat → Int) : Prop := ∀ u v l, Stc P u v l → π v ≤ π u + l
section
variable {P : List (ArcD × Int)} {n : Nat}
theorem Stc.lt (h : Fit P n) {u v : Nat} {l : Int} (hs : Stc P u v l) : u < n ∧ v < n := by
  cases hs with
  | fwd hp h1 h2 _ => have := h.1 _ hp; omega
  | bwd hp h1 h2 _ => have := h.1 _ hp; omega
theorem Stc.bd (h : Fit P n) {u v : Nat} {l : Int} (hs : Stc P u v l) : -100 ≤ l ∧ l ≤ 100 := by
  cases hs with
  | fwd hp _ _ _ => have := h.2 _ hp; omega
  | bwd hp _ _ _ => have := h.2 _ hp; omega
theorem Wc.lt (h : Fit P n) {k v : Nat} {d : Int} (hw : Wc P n k v d) : v < n := by
  cases hw with
  | nil h => exact h
  | snoc _ hs => exact (hs.lt h).2
theorem Wc.bd (h : Fit P n) {k v : Nat} {d : Int} (hw : Wc P n k v d) : -100 * (k : Int) ≤ d ∧ d ≤ 100 * (k : Int) := by
  induction hw with
  | nil => simp
  | snoc _ hs ih =>
    have := hs.bd h
    omega
theorem max_of (π : Nat → Int) : ∀ n : Nat, ∃ b, ∀ u, u < n → π u ≤ b
  | 0 => ⟨0, fun u h => by omega⟩
  | n + 1 => by
    obtain ⟨b, hb⟩ := max_of π n
    refine ⟨max b (π n), fun u hu => ?_⟩
    by_cases e : u = n
    · rw [e]; omega
    · have := hb u (by omega); omega
theorem Wc.pot {π : Nat → Int} {b : Int} (h : PotC P π) (hb : ∀ u, u < n → π u ≤ b) {k v : Nat} {d : Int} (hw : Wc P n k v d) : π v - b ≤ d := by
  induction hw with
  | nil hv =>
    have := hb _ hv
    omega
  | snoc _ hs ih =>
    have := h _ _ _ hs
    omega
/-- The least cost. -/
def IsC (P : List (ArcD × Int)) (n v : Nat) (d : Int) : Prop := (∃ k, Wc P n k v d) ∧ ∀ k d', Wc P n k v d' → d ≤ d'
theorem IsC.one {v : Nat} {d d' : Int} (h : IsC P n v d) (h' : IsC P n v d') : d = d' := by
  obtain ⟨k, hk⟩ := h.1
  obtain ⟨k', hk'⟩ := h'.1
  have := h.2 _ _ hk'
  have := h'.2 _ _ hk
  omega
theorem isC_of {π : Nat → Int} {b : Int} (h : PotC P π) (hb : ∀ u, u < n → π u ≤ b) {v : Nat} : ∀ (m : Nat) {k : Nat} {d : Int}, Wc P n k v d → (d - (π v - b)).toNat ≤ m → ∃ d0, IsC P n v d0 ∧ d0 ≤ d
  | m, k, d, hw, hm => by
    by_cases hx : ∃ k' d', Wc P n k' v d' ∧ d' < d
    · obtain ⟨k', d', hw', hlt⟩ := hx
      have h1 := hw'.pot h hb
      cases m with
      | zero => omega
      | succ m =>
        obtain ⟨d0, h2, h3⟩ := isC_of h hb m hw' (by omega)
        exact ⟨d0, h2, by omega⟩
    · exact ⟨d, ⟨⟨k, hw⟩, fun k' d' hw' => Int.not_lt.1 fun hlt => hx ⟨k', d', hw', hlt⟩⟩, Int.le_refl _⟩
theorem isC_ex {π : Nat → Int} (h : PotC P π) {v : Nat} (hv : v < n) : ∃ d0, IsC P n v d0 := by
  obtain ⟨b, hb⟩ := max_of π n
  obtain ⟨d0, h1, _⟩ := isC_of h hb _ (.nil hv) (Nat.le_refl _)
  exact ⟨d0, h1⟩
def FewC (P : List (ArcD × Int)) (n v k : Nat) : Prop := ∃ d, IsC P n v d ∧ Wc P n k v d ∧ ∀ j, j < k → ¬ Wc P n j v d
theorem FewC.one {v k k' : Nat} (h : FewC P n v k) (h' : FewC P n v k') : k = k' := by
  obtain ⟨d, h1, h2, h3⟩ := h
  obtain ⟨d', h1', h2', h3'⟩ := h'
  have e := h1.one h1'
  subst e
  rcases Nat.lt_trichotomy k k' with hlt | e | hlt
  · exact absurd h2 (h3' k hlt)
  · exact e
  · exact absurd h2' (h3 k' hlt)
theorem fewC_ex {v : Nat} {d : Int} (h : IsC P n v d) : ∃ k, FewC P n v k := by
  obtain ⟨k, hk⟩ := h.1
  have key : ∀ m k, k ≤ m → Wc P n k v d → ∃ k, FewC P n v k := by
    intro m
    induction m with
    | zero =>
      intro k hkm hw
      exact ⟨k, d, h, hw, fun j hj => by omega⟩
    | succ m ih =>
      intro k hkm hw
      by_cases hx : ∃ j, j < k ∧ Wc P n j v d
      · obtain ⟨j, hj, hwj⟩ := hx
        exact ih j (by omega) hwj
      · exact ⟨k, d, h, hw, fun j hj hw' => hx ⟨j, hj, hw'⟩⟩
  exact key k k (Nat.le_refl _) hk
theorem FewC.prev {v k : Nat} (h : FewC P n v (k + 1)) : ∃ u l d, FewC P n u k ∧ IsC P n u d ∧ Stc P u v l ∧ IsC P n v (d + l) := by
  obtain ⟨d, h1, h2, h3⟩ := h
  cases h2 with
  | @snoc _ u _ d l hw hs =>
    have hu : IsC P n u d := ⟨⟨k, hw⟩, fun k' d' hw' => by
      have := h1.2 _ _ (hw'.snoc hs)
      omega⟩
    exact ⟨u, l, d, ⟨d, hu, hw, fun j hj hw' => h3 (j + 1) (by omega) (hw'.snoc hs)⟩, hu, hs, h1⟩
theorem fewC_list (h : Fit P n) : ∀ (k v : Nat), FewC P n v k → ∃ L : List Nat, L.length = k + 1 ∧ L.Nodup ∧ ∀ u ∈ L, u < n ∧ ∃ j, j ≤ k ∧ FewC P n u j
  | 0, v, hv => by
    obtain ⟨d, _, h2, _⟩ := id hv
    exact ⟨[v], rfl, by simp, fun u hu => by rw [List.mem_singleton.1 hu]; exact ⟨h2.lt h, 0, Nat.le_refl _, hv⟩⟩
  | k + 1, v, hv => by
    obtain ⟨u, l, d, hu, _, hs, _⟩ := hv.prev
    obtain ⟨L, h1, h2, h3⟩ := fewC_list h k u hu
    refine ⟨v :: L, by simp [h1], List.nodup_cons.2 ⟨fun hm => ?_, h2⟩, fun x hx => ?_⟩
    · obtain ⟨_, j, hj, hf⟩ := h3 v hm
      have := hv.one hf
      omega
    · rcases List.mem_cons.1 hx with rfl | hx
      · exact ⟨(hs.lt h).2, k + 1, Nat.le_refl _, hv⟩
      · obtain ⟨h4, j, hj, hf⟩ := h3 x hx
        exact ⟨h4, j, by omega, hf⟩
theorem FewC.lt (h : Fit P n) {v k : Nat} (hv : FewC P n v k) : k < n := by
  obtain ⟨L, h1, h2, h3⟩ := fewC_list h k v hv
  have := nodup_len n L h2 fun c hc => (h3 c hc).1
  omega
/-- The price of a node. -/
noncomputable def priceV (P : List (ArcD × Int)) (n v : Nat) : Int := @dite _ (∃ d, IsC P n v d) (Classical.propDecidable _) (fun h => h.choose) fun _ => 0
theorem price_is {v : Nat} {d : Int} (h : IsC P n v d) : priceV P n v = d := by
  have hx : ∃ d, IsC P n v d := ⟨d, h⟩
  unfold priceV
  rw [dif_pos hx]
  exact hx.choose_spec.one h
theorem price_bd (h : Fit P n) (h15 : n ≤ 1500) {v : Nat} {d : Int} (hd : IsC P n v d) : -150000 ≤ d ∧ d ≤ 0 := by
  obtain ⟨k, d', h1, h2, h3⟩ := fewC_ex hd
  have := hd.one h1
  subst this
  have h4 := FewC.lt h ⟨d, h1, h2, h3⟩
  have h5 := h2.bd h
  have h6 := h1.2 _ _ (.nil (h2.lt h))
  omega
/-- The prices are potentials. -/
theorem price_pot (h : Fit P n) {π : Nat → Int} (hπ : PotC P π) : PotC P (priceV P n) := by
  intro u v l hs
  obtain ⟨hu, hv⟩ := hs.lt h
  obtain ⟨d, hd⟩ := isC_ex hπ hu
  obtain ⟨e, he⟩ := isC_ex hπ hv
  obtain ⟨k, hw⟩ := hd.1
  rw [price_is hd, price_is he]
  exact he.2 _ _ (hw.snoc hs)
end

/-! ### the rounds -/
def moreF (D : Nat → Int) (p : ArcD × Int) : Prop := p.2 < p.1.r ∧ D p.1.f.toNat + p.1.c < D p.1.t.toNat
def moreB (D : Nat → Int) (p : ArcD × Int) : Prop := 0 < p.2 ∧ D p.1.t.toNat - p.1.c < D p.1.f.toNat
instance (D : Nat → Int) (p : ArcD × Int) : Decidable (moreF D p) := by unfold moreF; exact inferInstance
instance (D : Nat → Int) (p : ArcD × Int) : Decidable (moreB D p) := by unfold moreB; exact inferInstance
def lowF (p : ArcD × Int) (s : (Nat → Int) × Bool) : (Nat → Int) × Bool := if moreF s.1 p then (putD s.1 p.1.t.toNat (s.1 p.1.f.toNat + p.1.c), true) else s
def lowB (p : ArcD × Int) (s : (Nat → Int) × Bool) : (Nat → Int) × Bool := if moreB s.1 p then (putD s.1 p.1.f.toNat (s.1 p.1.t.toNat - p.1.c), true) else s
def lowL : List (ArcD × Int) → (Nat → Int) × Bool → (Nat → Int) × Bool
  | [], s => s
  | p :: P, s => lowL P (lowB p (lowF p s))
theorem lowL_append : ∀ (P Q : List (ArcD × Int)) (s : (Nat → Int) × Bool), lowL (P ++ Q) s = lowL Q (lowL P s)
  | [], _, _ => rfl
  | p :: P, Q, s => by simp only [List.cons_append, lowL]; exact lowL_append P Q _
theorem lowL_snoc {P : List (ArcD × Int)} {k : Nat} {p : ArcD × Int} (h : P[k]? = some p) (s : (Nat → Int) × Bool) : lowL (P.take (k + 1)) s = lowB p (lowF p (lowL (P.take k) s)) := by
  obtain ⟨hi, rfl⟩ := List.getElem?_eq_some_iff.1 h
  rw [List.take_succ_eq_append_getElem hi, lowL_append]
  rfl
/-- Each number of a node is the cost of a walk of not too many steps. -/
structure FC (P : List (ArcD × Int)) (n K : Nat) (D : Nat → Int) : Prop where
  wk : ∀ v, v < n → ∃ k, k ≤ K ∧ Wc P n k v (D v)
  up : ∀ v, v < n → D v ≤ 0
section
variable {P : List (ArcD × Int)} {n K : Nat} {D : Nat → Int}
theorem FC.bd (hP : Fit P n) (h : FC P n K D) (hK : K ≤ 100000000) {v : Nat} (hv : v < n) : -10000000000 ≤ D v ∧ D v ≤ 0 := by
  obtain ⟨k, hk, hw⟩ := h.wk v hv
  have := hw.bd hP
  have := h.up v hv
  omega
theorem FC.mono {K' : Nat} (h : FC P n K D) (hK : K ≤ K') : FC P n K' D := ⟨fun v hv => by
  obtain ⟨k, hk, hw⟩ := h.wk v hv
  exact ⟨k, by omega, hw⟩, h.up⟩
theorem FC.put (hP : Fit P n) (h : FC P n K D) {u v : Nat} {l : Int} (hs : Stc P u v l) (hl : D u + l < D v) : FC P n (K + 1) (putD D v (D u + l)) := by
  obtain ⟨hu, hv⟩ := hs.lt hP
  refine ⟨fun j hj => ?_, fun j hj => ?_⟩
  · by_cases e : j = v
    · rw [e, putD_at]
      obtain ⟨k, hk, hw⟩ := h.wk u hu
      exact ⟨k + 1, by omega, hw.snoc hs⟩
    · rw [putD_ne _ e]
      obtain ⟨k, hk, hw⟩ := h.wk j hj
      exact ⟨k, by omega, hw⟩
  · by_cases e : j = v
    · rw [e, putD_at]
      have := h.up v hv
      omega
    · rw [putD_ne _ e]
      exact h.up j hj
theorem lowF_ok (hP : Fit P n) {p : ArcD × Int} (hp : p ∈ P) {s : (Nat → Int) × Bool} (h : FC P n K s.1) : FC P n (K + 1) (lowF p s).1 ∧ (∀ v, (lowF p s).1 v ≤ s.1 v) ∧ ((lowF p s).2 = false → lowF p s = s ∧ s.2 = false) ∧
    (p.2 < p.1.r → (lowF p s).1 p.1.t.toNat ≤ s.1 p.1.f.toNat + p.1.c) := by
  have hin := hP.1 _ hp
  unfold lowF
  by_cases hc : moreF s.1 p
  · rw [if_pos hc]
    obtain ⟨h1, h3⟩ := hc
    refine ⟨h.put hP (v := p.1.t.toNat) (.fwd hp (by omega) (by omega) h1) h3, fun v => ?_, fun e => (by cases e), fun _ => ?_⟩
    · by_cases e : v = p.1.t.toNat
      · show putD _ _ _ v ≤ _
        rw [e, putD_at]; omega
      · show putD _ _ _ v ≤ _
        rw [putD_ne _ e]; exact Int.le_refl _
    · show putD _ _ _ _ ≤ _
      rw [putD_at]; omega
  · rw [if_neg hc]
    exact ⟨h.mono (by omega), fun v => Int.le_refl _, fun e => ⟨rfl, e⟩, fun h1 => Int.not_lt.1 fun h3 => hc ⟨h1, h3⟩⟩
theorem lowB_ok (hP : Fit P n) {p : ArcD × Int} (hp : p ∈ P) {s : (Nat → Int) × Bool} (h : FC P n K s.1) : FC P n (K + 1) (lowB p s).1 ∧ (∀ v, (lowB p s).1 v ≤ s.1 v) ∧ ((lowB p s).2 = false → lowB p s = s ∧ s.2 = false) ∧
    (0 < p.2 → (lowB p s).1 p.1.f.toNat ≤ s.1 p.1.t.toNat - p.1.c) := by
  have hin := hP.1 _ hp
  unfold lowB
  by_cases hc : moreB s.1 p
  · rw [if_pos hc]
    obtain ⟨h1, h3⟩ := hc
    refine ⟨h.put hP (v := p.1.f.toNat) (.bwd hp (by omega) (by omega) h1) (by omega), fun v => ?_, fun e => (by cases e), fun _ => ?_⟩
    · by_cases e : v = p.1.f.toNat
      · show putD _ _ _ v ≤ _
        rw [e, putD_at]; omega
      · show putD _ _ _ v ≤ _
        rw [putD_ne _ e]; exact Int.le_refl _
    · show putD _ _ _ _ ≤ _
      rw [putD_at]; omega
  · rw [if_neg hc]
    exact ⟨h.mono (by omega), fun v => Int.le_refl _, fun e => ⟨rfl, e⟩, fun h1 => Int.not_lt.1 fun h3 => hc ⟨h1, h3⟩⟩
theorem low_ok (hP : Fit P n) : ∀ (L : List (ArcD × Int)), (∀ p ∈ L, p ∈ P) → ∀ {K : Nat} {s : (Nat → Int) × Bool}, FC P n K s.1 → FC P n (K + 2 * L.length) (lowL L s).1 ∧ (∀ v, (lowL L s).1 v ≤ s.1 v) ∧ ((lowL L s).2 = false → lowL L s = s ∧ s.2 = false) ∧
    ∀ p ∈ L, (p.2 < p.1.r → (lowL L s).1 p.1.t.toNat ≤ s.1 p.1.f.toNat + p.1.c) ∧ (0 < p.2 → (lowL L s).1 p.1.f.toNat ≤ s.1 p.1.t.toNat - p.1.c)
  | [], _, K, s, h => ⟨h, fun _ => Int.le_refl _, fun e => ⟨rfl, e⟩, fun p hp => by cases hp⟩
  | q :: L, hL, K, s, h => by
    obtain ⟨a1, a2, a3, a4⟩ := lowF_ok hP (hL q (List.mem_cons_self ..)) h
    obtain ⟨b1, b2, b3, b4⟩ := lowB_ok hP (hL q (List.mem_cons_self ..)) a1
    obtain ⟨c1, c2, c3, c4⟩ := low_ok hP L (fun p hp => hL p (List.mem_cons_of_mem _ hp)) b1
    refine ⟨?_, fun v => Int.le_trans (c2 v) (Int.le_trans (b2 v) (a2 v)), fun e => ?_, fun p hp => ?_⟩
    · have e : K + 2 * (q :: L).length = K + 1 + 1 + 2 * L.length := by simp only [List.length_cons]; omega
      rw [e]
      exact c1
    · obtain ⟨e1, e2⟩ := c3 e
      obtain ⟨e3, e4⟩ := b3 e2
      obtain ⟨e5, e6⟩ := a3 e4
      exact ⟨e1.trans (e3.trans e5), e6⟩
    · rcases List.mem_cons.1 hp with rfl | hp
      · refine ⟨fun h1 => ?_, fun h1 => ?_⟩
        · have := a4 h1
          have := b2 p.1.t.toNat
          have := c2 p.1.t.toNat
          show (lowL L (lowB p (lowF p s))).1 _ ≤ _
          omega
        · have g1 := a2 p.1.t.toNat
          have := b4 h1
          have := c2 p.1.f.toNat
          show (lowL L (lowB p (lowF p s))).1 _ ≤ _
          omega
      · obtain ⟨d1, d2⟩ := c4 p hp
        refine ⟨fun h1 => ?_, fun h1 => ?_⟩
        · have g1 := a2 p.1.f.toNat
          have g2 := b2 p.1.f.toNat
          have := d1 h1
          show (lowL L (lowB q (lowF q s))).1 _ ≤ _
          omega
        · have g1 := a2 p.1.t.toNat
          have g2 := b2 p.1.t.toNat
          have := d2 h1
          show (lowL L (lowB q (lowF q s))).1 _ ≤ _
          omega
theorem low_step (hP : Fit P n) {s : (Nat → Int) × Bool} (h : FC P n K s.1) {u v : Nat} {l : Int} (hs : Stc P u v l) : (lowL P s).1 v ≤ s.1 u + l := by
  obtain ⟨_, _, _, h4⟩ := low_ok hP P (fun _ hp => hp) h
  cases hs with
  | @fwd p _ _ hp h1 h2 hr =>
    have := (h4 p hp).1 hr
    rwa [show p.1.f.toNat = u by omega, show p.1.t.toNat = v by omega] at this
  | @bwd p _ _ hp h1 h2 hr =>
    have := (h4 p hp).2 hr
    rw [show p.1.t.toNat = u by omega, show p.1.f.toNat = v by omega] at this
    omega
/-- A round that changes nothing has found potentials. -/
theorem low_still (hP : Fit P n) (h : FC P n K D) (hm : (lowL P (D, false)).2 = false) : PotC P D := by
  obtain ⟨_, _, h3, _⟩ := low_ok hP P (fun _ hp => hp) (s := (D, false)) h
  intro u v l hs
  have := low_step hP (s := (D, false)) h hs
  rw [(h3 hm).1] at this
  exact this
/-- Potentials that are costs of walks are the least costs. -/
theorem pot_price (h : FC P n K D) (hp : PotC P D) {v : Nat} (hv : v < n) : D v = priceV P n v := by
  have key : ∀ {k u : Nat} {d : Int}, Wc P n k u d → D u ≤ d := fun {k u d} hw => by
    induction hw with
    | nil hu => exact h.up _ hu
    | snoc _ hs ih =>
      have := hp _ _ _ hs
      omega
  obtain ⟨k, _, hw⟩ := h.wk v hv
  exact (price_is ⟨⟨k, hw⟩, fun _ _ hw' => key hw'⟩).symm
def LevC (P : List (ArcD × Int)) (n r : Nat) (D : Nat → Int) : Prop := ∀ v k, FewC P n v k → k ≤ r → D v = priceV P n v
theorem levC_pass (hP : Fit P n) {m : Bool} {r : Nat} (h : FC P n K D) (hl : LevC P n r D) : LevC P n (r + 1) (lowL P (D, m)).1 := by
  obtain ⟨h1, h2, _, _⟩ := low_ok hP P (fun _ hp => hp) (s := (D, m)) h
  intro v k hf hk
  obtain ⟨d, hd, hwd, _⟩ := id hf
  have hvn := hwd.lt hP
  obtain ⟨j, _, hj⟩ := h1.wk v hvn
  have hge := hd.2 _ _ hj
  rw [price_is hd]
  refine Int.le_antisymm ?_ hge
  cases k with
  | zero =>
    have := hl v 0 hf (Nat.zero_le _)
    rw [price_is hd] at this
    have := h2 v
    simp only at this
    omega
  | succ k =>
    obtain ⟨u, l, d', hu, hud, hs, hv⟩ := hf.prev
    have e := hl u k hu (by omega)
    rw [price_is hud] at e
    have := low_step hP (s := (D, m)) h hs
    have e2 := hv.one hd
    simp only at this
    omega
/-- Where there are potentials, the rounds come to rest. -/
theorem levC_still (hP : Fit P n) {π : Nat → Int} (hπ : PotC P π) (hl : LevC P n (n - 1) D) : (lowL P (D, false)).2 = false := by
  have e : ∀ v, v < n → D v = priceV P n v := fun v hv => by
    obtain ⟨d, hd⟩ := isC_ex hπ hv
    obtain ⟨k, hk⟩ := fewC_ex hd
    have := hk.lt hP
    exact hl v k hk (by omega)
  have hpot := price_pot hP hπ
  have key : ∀ (L : List (ArcD × Int)), (∀ p ∈ L, p ∈ P) → lowL L (D, false) = (D, false) := by
    intro L
    induction L with
    | nil => intro _; rfl
    | cons p L ih =>
      intro hL
      have hp := hL p (List.mem_cons_self ..)
      have hin := hP.1 _ hp
      have e1 : lowF p (D, false) = (D, false) := if_neg fun hc => by
        obtain ⟨c1, c2⟩ := hc
        have := hpot _ _ _ (.fwd (u := p.1.f.toNat) (v := p.1.t.toNat) hp (by omega) (by omega) c1)
        rw [← e _ (by omega), ← e _ (by omega)] at this
        simp only at c2
        omega
      have e2 : lowB p (D, false) = (D, false) := if_neg fun hc => by
        obtain ⟨c1, c2⟩ := hc
        have := hpot _ _ _ (.bwd (u := p.1.t.toNat) (v := p.1.f.toNat) hp (by omega) (by omega) c1)
        rw [← e _ (by omega), ← e _ (by omega)] at this
        simp only at c2
        omega
      show lowL L (lowB p (lowF p (D, false))) = _
      rw [e1, e2]
      exact ih fun q hq => hL q (List.mem_cons_of_mem _ hq)
  rw [key P fun _ hp => hp]
theorem FC.start : FC P n 0 (fun _ => 0) := ⟨fun _ hv => ⟨0, Nat.le_refl _, .nil hv⟩, fun _ _ => Int.le_refl _⟩
theorem levC_start : LevC P n 0 (fun _ => 0) := by
  intro v k hf hk
  have e : k = 0 := by omega
  subst e
  obtain ⟨d, hd, hw, _⟩ := hf
  cases hw
  exact (price_is hd).symm
end

/-! ### flows of one size -/
/-- What a flow costs by prices; what the prices take and give. -/
def rcA (π : Nat → Int) (x : ArcD) : Int := x.c + π x.f.toNat - π x.t.toNat
def redO (π : Nat → Int) : List (ArcD × Int) → Int
  | [] => 0
  | p :: P => p.2 * rcA π p.1 + redO π P
def potO (π : Nat → Int) : List (ArcD × Int) → Int
  | [] => 0
  | p :: P => p.2 * (π p.1.f.toNat - π p.1.t.toNat) + potO π P
theorem red_is (π : Nat → Int) : ∀ P : List (ArcD × Int), redO π P = costO P + potO π P
  | [] => rfl
  | p :: P => by
    simp only [redO, costO, potO, red_is π P, rcA]
    rw [show p.1.c + π p.1.f.toNat - π p.1.t.toNat = p.1.c + (π p.1.f.toNat - π p.1.t.toNat) by omega, Int.mul_add]
    omega
def allB : Nat → Bool := fun _ => true
theorem pot_one {π : Nat → Int} {x : ArcD} {y : Int} {n : Nat} (hf : 0 ≤ x.f ∧ x.f < (n : Int)) (ht : 0 ≤ x.t ∧ x.t < (n : Int)) : sumS allB (fun v => π v * outAt x y v) n = y * (π x.f.toNat - π x.t.toNat) := by
  have e : ∀ v, v < n → allB v = true → π v * outAt x y v = (if v = x.f.toNat then π x.f.toNat * y else 0) + (if v = x.t.toNat then -(π x.t.toNat * y) else 0) := fun v _ _ => by
    unfold outAt
    by_cases h1 : x.f = (v : Int) <;> by_cases h2 : x.t = (v : Int)
    · have h3 : v = x.f.toNat := by omega
      have h4 : v = x.t.toNat := by omega
      rw [if_pos h1, if_pos h2, if_pos h3, if_pos h4, ← h3, ← h4]
      simp
      omega
    · have h3 : v = x.f.toNat := by omega
      have h4 : ¬ v = x.t.toNat := by omega
      rw [if_pos h1, if_neg h2, if_pos h3, if_neg h4, ← h3]
      simp
    · have h3 : ¬ v = x.f.toNat := by omega
      have h4 : v = x.t.toNat := by omega
      rw [if_neg h1, if_pos h2, if_neg h3, if_pos h4, ← h4]
      simp
      exact Int.mul_neg _ _
    · have h3 : ¬ v = x.f.toNat := by omega
      have h4 : ¬ v = x.t.toNat := by omega
      rw [if_neg h1, if_neg h2, if_neg h3, if_neg h4]
      simp
  rw [sumS_same e, sumS_add, sumS_one, sumS_one, if_pos ⟨by omega, rfl⟩, if_pos ⟨by omega, rfl⟩, Int.mul_sub, Int.mul_comm (π x.f.toNat), Int.mul_comm (π x.t.toNat)]
  omega
theorem pot_sum {π : Nat → Int} {n : Nat} : ∀ {P : List (ArcD × Int)}, Inside P n → potO π P = sumS allB (fun v => π v * netO P v) n
  | [], _ => by
    simp only [potO, netO, Int.mul_zero]
    exact (sumS_zero allB n).symm
  | p :: P, h => by
    have hp := h p (List.mem_cons_self ..)
    have ih := pot_sum (π := π) (P := P) (n := n) fun q hq => h q (List.mem_cons_of_mem _ hq)
    have e : sumS allB (fun v => π v * netO (p :: P) v) n = sumS allB (fun v => π v * outAt p.1 p.2 v) n + sumS allB (fun v => π v * netO P v) n := by
      rw [← sumS_add]
      exact sumS_same fun v _ _ => by simp only [netO]; exact Int.mul_add ..
    rw [e, pot_one hp.1 hp.2, ← ih]
    rfl
section
variable {n : Nat} {A : List ArcD} {F G : List Int} {π : Nat → Int}
theorem pot_ends (h : flowOkV n A F = true) : potO π (A.zip F) = π 0 * netO (A.zip F) 0 + π 1 * netO (A.zip F) 1 := by
  obtain ⟨hk, _, _, hs⟩ := flowOk_out h
  obtain ⟨⟨h2, _⟩, _, _⟩ := netOk_out hk
  rw [pot_sum (inside_of hk)]
  have e : ∀ v, v < n → allB v = true → π v * netO (A.zip F) v = (if v = 0 then π 0 * netO (A.zip F) 0 else 0) + (if v = 1 then π 1 * netO (A.zip F) 1 else 0) := fun v hv _ => by
    by_cases h0 : v = 0
    · subst h0; simp
    · by_cases h1 : v = 1
      · subst h1; simp
      · rw [if_neg h0, if_neg h1, hs v (by omega) (by omega)]
        simp
  rw [sumS_same e, sumS_add, sumS_one, sumS_one, if_pos ⟨by omega, rfl⟩, if_pos ⟨by omega, rfl⟩]
theorem pot_flow (h : flowOkV n A F = true) : potO π (A.zip F) = (π 0 - π 1) * netO (A.zip F) 0 := by
  have h1 := pot_ends (π := fun _ => 1) h
  have e : ∀ P : List (ArcD × Int), potO (fun _ => 1) P = 0 := fun P => by
    induction P with
    | nil => rfl
    | cons p P ih => simp only [potO, ih]; simp
  rw [e] at h1
  rw [pot_ends h, show netO (A.zip F) 1 = -netO (A.zip F) 0 by omega, Int.sub_mul, Int.mul_neg]
  omega
/-- A flow of the same size changes each arc where it does not pay. -/
theorem red_le : ∀ {A : List ArcD} {F G : List Int}, F.length = A.length → G.length = A.length → (∀ (i : Nat) (x : ArcD) (y z : Int), A[i]? = some x → F[i]? = some y → G[i]? = some z → 0 ≤ (z - y) * rcA π x) →
    redO π (A.zip F) ≤ redO π (A.zip G) ∧ (redO π (A.zip F) = redO π (A.zip G) → ∀ (i : Nat) (x : ArcD) (y z : Int), A[i]? = some x → F[i]? = some y → G[i]? = some z → (z - y) * rcA π x = 0)
  | [], F, G, _, _, _ => ⟨Int.le_refl _, fun _ i x y z h => by simp at h⟩
  | a :: A, f :: F, g :: G, hF, hG, h => by
    obtain ⟨h1, h2⟩ := red_le (A := A) (F := F) (G := G) (by simpa using hF) (by simpa using hG) (fun i x y z e1 e2 e3 => h (i + 1) x y z (by simpa using e1) (by simpa using e2) (by simpa using e3))
    have h0 := h 0 a f g rfl rfl rfl
    have e : (g - f) * rcA π a = g * rcA π a - f * rcA π a := Int.sub_mul ..
    simp only [List.zip_cons_cons, redO]
    refine ⟨by omega, fun hq i x y z e1 e2 e3 => ?_⟩
    cases i with
    | zero =>
      simp only [List.getElem?_cons_zero, Option.some.injEq] at e1 e2 e3
      subst e1 e2 e3
      omega
    | succ i => exact h2 (by omega) i x y z (by simpa using e1) (by simpa using e2) (by simpa using e3)
  | _ :: _, [], _, hF, _, _ => by simp at hF
  | _ :: _, _ :: _, [], _, hG, _ => by simp at hG
theorem pays (hF : flowOkV n A F = true) (hG : flowOkV n A G = true) (hπ : PotC (A.zip F) π) {i : Nat} {x : ArcD} {y z : Int} (hx : A[i]? = some x) (hy : F[i]? = some y) (hz : G[i]? = some z) : 0 ≤ (z - y) * rcA π x := by
  obtain ⟨hk, _, hr, _⟩ := flowOk_out hF
  have hmem := List.mem_of_getElem? (zip_at hx hy)
  have h1 := hr _ hmem
  have h2 := (flowOk_out hG).2.2.1 _ (List.mem_of_getElem? (zip_at hx hz))
  have hin := inside_of (F := F) hk _ hmem
  simp only at h1 h2 hin
  rcases Int.lt_trichotomy y z with hlt | e | hgt
  · have := hπ _ _ _ (.fwd (u := x.f.toNat) (v := x.t.toNat) hmem (by simp only; omega) (by simp only; omega) (by simp only; omega))
    exact Int.mul_nonneg (by omega) (by unfold rcA; simp only at this; omega)
  · rw [e]; simp
  · have := hπ _ _ _ (.bwd (u := x.t.toNat) (v := x.f.toNat) hmem (by simp only; omega) (by simp only; omega) (by simp only; omega))
    exact Int.mul_nonneg_of_nonpos_of_nonpos (by omega) (by unfold rcA; simp only at this; omega)
/-- Of the flows of one size, one with potentials costs least. -/
theorem pot_least (hF : flowOkV n A F = true) (hG : flowOkV n A G = true) (hs : netO (A.zip F) 0 = netO (A.zip G) 0) (hπ : PotC (A.zip F) π) : costO (A.zip F) ≤ costO (A.zip G) ∧ (costO (A.zip F) = costO (A.zip G) → PotC (A.zip G) π) := by
  have hFl := (flowOk_out hF).2.1
  have hGl := (flowOk_out hG).2.1
  obtain ⟨h1, h2⟩ := red_le (π := π) hFl hGl (fun i x y z e1 e2 e3 => pays hF hG hπ e1 e2 e3)
  rw [red_is, red_is, pot_flow hF, pot_flow hG, hs] at h1 h2
  refine ⟨by omega, fun hc => ?_⟩
  have h3 := h2 (by omega)
  have tie : ∀ {i : Nat} {x : ArcD} {y z : Int}, A[i]? = some x → F[i]? = some y → G[i]? = some z → z ≠ y → rcA π x = 0 := fun e1 e2 e3 hne => by
    rcases Int.mul_eq_zero.1 (h3 _ _ _ _ e1 e2 e3) with h | h
    · omega
    · exact h
  have old : ∀ {p : ArcD × Int}, p ∈ A.zip G → ∃ (i : Nat) (y : Int), A[i]? = some p.1 ∧ F[i]? = some y ∧ G[i]? = some p.2 ∧ (0 ≤ y ∧ y ≤ p.1.r) := fun {p} hp => by
    obtain ⟨i, e1, e2⟩ := zip_in hp
    have hi := (List.getElem?_eq_some_iff.1 e1).1
    have e3 : F[i]? = some F[i] := List.getElem?_eq_getElem (by omega)
    exact ⟨i, _, e1, e3, e2, (flowOk_out hF).2.2.1 _ (List.mem_of_getElem? (zip_at e1 e3))⟩
  intro u v l hst
  cases hst with
  | @fwd p _ _ hp a1 a2 a3 =>
    obtain ⟨i, y, e1, e2, e3, h4⟩ := old hp
    by_cases hy : y < p.1.r
    · exact hπ _ _ _ (.fwd (p := (p.1, y)) (List.mem_of_getElem? (zip_at e1 e2)) a1 a2 hy)
    · have := tie e1 e2 e3 (by omega)
      unfold rcA at this
      rw [show p.1.f.toNat = u by omega, show p.1.t.toNat = v by omega] at this
      omega
  | @bwd p _ _ hp a1 a2 a3 =>
    obtain ⟨i, y, e1, e2, e3, h4⟩ := old hp
    by_cases hy : 0 < y
    · exact hπ _ _ _ (.bwd (p := (p.1, y)) (List.mem_of_getElem? (zip_at e1 e2)) a1 a2 hy)
    · have := tie e1 e2 e3 (by omega)
      unfold rcA at this
      rw [show p.1.t.toNat = u by omega, show p.1.f.toNat = v by omega] at this
      omega
end

end Go.Proofs.Ytobflidianlomaa

namespace Go.Proofs.Ytobflidianlomaa
set_option maxRecDepth 4096

/-- Are there potentials? -/
noncomputable def priceOk (N : Int) (A : List ArcD) (F : List Int) : Bool := @decide (flowOkV N A F = true ∧ ∃ π, PotC (A.zip F) π) (Classical.propDecidable _)
noncomputable def pricesV (N : Int) (A : List ArcD) (F : List Int) : List Int := if priceOk N A F = true then rowO (priceV (A.zip F) N.toNat) N.toNat else []
def prAt (Q : List Int) (v : Int) : Int := Q.getD v.toNat 0
def prF (Q : List Int) (p : ArcD × Int) : Bool := decide (p.2 < p.1.r) && decide (prAt Q p.1.f + p.1.c < prAt Q p.1.t)
def prB (Q : List Int) (p : ArcD × Int) : Bool := decide (0 < p.2) && decide (prAt Q p.1.t - p.1.c < prAt Q p.1.f)
def prArc (Q : List Int) (p : ArcD × Int) : Bool := !prF Q p && !prB Q p
def pricesOkV (N : Int) (A : List ArcD) (F Q : List Int) : Bool := flowOkV N A F && (decide ((Q.length : Int) = N) && (Q.all (fun q => inV q (-1000000) 1000000) && (A.zip F).all (prArc Q)))
theorem priceOk_iff {N : Int} {A : List ArcD} {F : List Int} : priceOk N A F = true ↔ flowOkV N A F = true ∧ ∃ π, PotC (A.zip F) π := by
  unfold priceOk
  exact @decide_eq_true_iff _ (Classical.propDecidable _)
section
variable {n : Nat} {A : List ArcD} {F G Q : List Int} {π : Nat → Int}
theorem prices_is (h : flowOkV n A F = true) (hπ : PotC (A.zip F) π) : pricesV n A F = rowO (priceV (A.zip F) n) n := by
  unfold pricesV
  rw [if_pos (priceOk_iff.2 ⟨h, _, hπ⟩), Int.toNat_natCast]
theorem prices_no {N : Int} (h : priceOk N A F = false) : pricesV N A F = [] := by
  unfold pricesV
  rw [if_neg (by rw [h]; decide)]
theorem prAt_row {o : Nat → Int} {v : Int} (h : 0 ≤ v ∧ v < (n : Int)) : prAt (rowO o n) v = o v.toNat := by
  unfold prAt
  rw [List.getD_eq_getElem?_getD, rowO_at o (by omega)]
  rfl
/-- The prices are such numbers. -/
theorem prices_ok (h : flowOkV n A F = true) (hπ : PotC (A.zip F) π) : pricesOkV n A F (rowO (priceV (A.zip F) n) n) = true := by
  obtain ⟨hk, _, _, _⟩ := flowOk_out h
  obtain ⟨⟨h2, h15⟩, _, _⟩ := netOk_out hk
  have hP : Fit (A.zip F) n := fit_of hk
  have hpot := price_pot hP hπ
  unfold pricesOkV
  rw [h, rowO_len]
  simp only [Bool.true_and, Bool.and_eq_true, decide_eq_true_eq, List.all_eq_true, true_and]
  refine ⟨fun q hq => ?_, fun p hp => ?_⟩
  · obtain ⟨v, hv, rfl⟩ := List.mem_map.1 hq
    obtain ⟨d, hd⟩ := isC_ex hπ (List.mem_range.1 hv)
    have := price_bd hP (by omega) hd
    rw [price_is hd]
    exact inV_iff.2 (by omega)
  · have hin := hP.1 _ hp
    unfold prArc prF prB
    rw [prAt_row hin.1, prAt_row hin.2]
    simp only [Bool.and_eq_true, Bool.not_eq_true', Bool.and_eq_false_iff, decide_eq_false_iff_not]
    refine ⟨?_, ?_⟩
    · by_cases hr : p.2 < p.1.r
      · have := hpot _ _ _ (.fwd (u := p.1.f.toNat) (v := p.1.t.toNat) hp (by omega) (by omega) hr)
        exact .inr (by omega)
      · exact .inl hr
    · by_cases hr : 0 < p.2
      · have := hpot _ _ _ (.bwd (u := p.1.t.toNat) (v := p.1.f.toNat) hp (by omega) (by omega) hr)
        exact .inr (by omega)
      · exact .inl hr

/-! ### the cheapest flows -/
theorem stc_stp {P : List (ArcD × Int)} {u v : Nat} {l : Int} (h : Stc P u v l) : Stp P u v (10000 * l + 1) := by
  cases h with
  | fwd hp h1 h2 hr => exact .fwd hp h1 h2 hr
  | @bwd p _ _ hp h1 h2 hr =>
    rw [show 10000 * -p.1.c + 1 = 1 - 10000 * p.1.c by omega]
    exact .bwd hp h1 h2 hr
/-- What one more unit leaves of the arcs: those that changed join nodes that could be reached. -/
theorem next_old {S : Nat → Prop} {π : Nat → Int} (hok : flowOkV n A F = true) (hS : Feas (A.zip F) S π) (h1 : resB (A.zip F) 1 = true) {p : ArcD × Int} (hp : p ∈ A.zip (nextF A F n)) :
    ∃ y0, (p.1, y0) ∈ A.zip F ∧ (p.2 = y0 ∨ ((∃ d, IsD (A.zip F) p.1.f.toNat d) ∧ ∃ d, IsD (A.zip F) p.1.t.toNat d)) := by
  obtain ⟨hk, hl, hr, hs⟩ := flowOk_out hok
  have hP : Fit (A.zip F) n := fit_of hk
  obtain ⟨⟨h2, h15⟩, _, _⟩ := netOk_out hk
  obtain ⟨d1, hd1⟩ := (isD_res hP hS).1 h1
  have hrk := rk_lt hP (by omega) (by omega) hd1
  have hC := CInv.walk hk hS n 1 F (CInv.start hok h1) hrk
  obtain ⟨i, e1, e2⟩ := zip_in hp
  have hi := (List.getElem?_eq_some_iff.1 e1).1
  have e3 : F[i]? = some F[i] := List.getElem?_eq_getElem (by omega)
  refine ⟨_, List.mem_of_getElem? (zip_at e1 e3), ?_⟩
  rcases hC.arcs i p.1 _ p.2 e1 e3 e2 with e | ⟨_, d, g1, g2⟩ | ⟨_, d, g1, g2⟩
  · exact .inl e
  · exact .inr ⟨⟨_, g1⟩, _, g2⟩
  · exact .inr ⟨⟨_, g2⟩, _, g1⟩
theorem abs_max (π : Nat → Int) : ∀ n : Nat, ∃ b : Int, 0 ≤ b ∧ ∀ u, u < n → -b ≤ π u
  | 0 => ⟨0, by omega, fun u h => by omega⟩
  | n + 1 => by
    obtain ⟨b, h0, hb⟩ := abs_max π n
    refine ⟨max b (-π n), by omega, fun u hu => ?_⟩
    by_cases e : u = n
    · rw [e]; omega
    · have := hb u (by omega); omega
open Classical in
/-- One more unit: potentials again. -/
theorem pot_next {S : Nat → Prop} {ρ : Nat → Int} (hok : flowOkV n A F = true) (hS : Feas (A.zip F) S ρ) (h1 : resB (A.zip F) 1 = true) (hπ : PotC (A.zip F) π) : ∃ π', PotC (A.zip (nextF A F n)) π' := by
  obtain ⟨hk, hl, hr, hs⟩ := flowOk_out hok
  have hP : Fit (A.zip F) n := fit_of hk
  obtain ⟨⟨h2, h15⟩, _, _⟩ := netOk_out hk
  have hn : 0 < n := by omega
  have hn15 : n ≤ 1500 := by omega
  obtain ⟨hok', _, hfe, _, _⟩ := next_ok hok hS h1
  have hP' : Fit (A.zip (nextF A F n)) n := fit_of hk
  obtain ⟨M, hM0, hM⟩ := abs_max π n
  refine ⟨fun v => if (∃ d, IsD (A.zip F) v d) then farV (A.zip F) v / 10000 else π v + (M + 1000000), fun u v l hst => ?_⟩
  obtain ⟨hu, hv⟩ := hst.lt hP'
  have hlb := hst.bd hP'
  by_cases hDu : ∃ d, IsD (A.zip F) u d
  · obtain ⟨hDv, hle⟩ := hfe.step u v _ hDu (stc_stp hst)
    simp only [if_pos hDu, if_pos hDv]
    obtain ⟨du, hdu⟩ := hDu
    obtain ⟨dv, hdv⟩ := hDv
    obtain ⟨q, hq⟩ := rk_div hP hn hn15 hdu
    obtain ⟨r, hr⟩ := rk_div hP hn hn15 hdv
    have g1 := rk_lt hP hn hn15 hdu
    have g2 := rk_lt hP hn hn15 hdv
    rw [far_is hdu, far_is hdv] at hle ⊢
    omega
  · by_cases hDv : ∃ d, IsD (A.zip F) v d
    · simp only [if_neg hDu, if_pos hDv]
      obtain ⟨dv, hdv⟩ := hDv
      rw [far_is hdv]
      have := isD_bd hP hn hn15 hdv
      have := hM u hu
      omega
    · simp only [if_neg hDu, if_neg hDv]
      have key : Stc (A.zip F) u v l := by
        cases hst with
        | @fwd p _ _ hp a1 a2 a3 =>
          obtain ⟨y0, hp0, e | ⟨e, _⟩⟩ := next_old hok hS h1 hp
          · exact .fwd (p := (p.1, y0)) hp0 a1 a2 (by show y0 < p.1.r; omega)
          · rw [show p.1.f.toNat = u by omega] at e
            exact absurd e hDu
        | @bwd p _ _ hp a1 a2 a3 =>
          obtain ⟨y0, hp0, e | ⟨_, e⟩⟩ := next_old hok hS h1 hp
          · exact .bwd (p := (p.1, y0)) hp0 a1 a2 (by show 0 < y0; omega)
          · rw [show p.1.t.toNat = u by omega] at e
            exact absurd e hDu
      have := hπ _ _ _ key
      omega
theorem pot_zero (h : netOkV n A = true) : PotC (A.zip (List.replicate A.length 0)) (fun _ => 0) := by
  intro u v l hs
  show (0 : Int) ≤ 0 + l
  cases hs with
  | @fwd p _ _ hp _ _ _ =>
    have := (arcOk_out ((netOk_out h).2.2 _ (zip_arc hp))).2.2.2.2
    omega
  | @bwd p _ _ hp _ _ h3 =>
    obtain ⟨i, _, e⟩ := zip_in hp
    have := List.eq_of_mem_replicate (List.mem_of_getElem? e)
    omega
/-- The cheapest flows have potentials. -/
theorem cheap_pot (hn : netOkV n A = true) : ∀ {k : Nat} {F : List Int}, cheapF A n k = some F → ∃ π, PotC (A.zip F) π
  | 0, F, h => by
    cases h
    exact ⟨_, pot_zero hn⟩
  | k + 1, F', h => by
    obtain ⟨F, h1, h2, rfl⟩ := cheapF_succ h
    obtain ⟨h3, h4, S, ρ, h5⟩ := cheap_ok hn h1
    obtain ⟨π, hπ⟩ := cheap_pot hn h1
    obtain ⟨⟨h6, h15⟩, _, _⟩ := netOk_out hn
    obtain ⟨d, hd⟩ := (far_lt (fit_of hn) (by omega) (by omega)).1 h2
    exact pot_next h3 h5 ((isD_res (fit_of hn) h5).2 ⟨d, hd⟩) hπ
/-- A flow of the size of a cheapest one costs no less; and as much just when it has potentials. -/
theorem cheap_least (hn : netOkV n A = true) {k : Nat} (hF : cheapF A n k = some F) (hG : flowOkV n A G = true) (hs : netO (A.zip G) 0 = (k : Int)) : costO (A.zip F) ≤ costO (A.zip G) ∧ (priceOk n A G = decide (costO (A.zip G) = costO (A.zip F))) := by
  obtain ⟨h1, h2, _⟩ := cheap_ok hn hF
  obtain ⟨π, hπ⟩ := cheap_pot hn hF
  obtain ⟨h3, h4⟩ := pot_least h1 hG (h2.trans hs.symm) hπ
  refine ⟨h3, ?_⟩
  by_cases hc : costO (A.zip G) = costO (A.zip F)
  · rw [decide_eq_true hc]
    exact priceOk_iff.2 ⟨hG, _, h4 hc.symm⟩
  · rw [decide_eq_false hc]
    cases hp : priceOk n A G with
    | false => rfl
    | true =>
      obtain ⟨_, π', hπ'⟩ := priceOk_iff.1 hp
      have := (pot_least hG h1 (hs.trans h2.symm) hπ').1
      exact absurd (by omega) hc
end

end Go.Proofs.Ytobflidianlomaa

namespace Go.Proofs.Ytobflidianlomaa
set_option maxRecDepth 4096
open Go.ChangeShapes Go.WideShapes Go.ChangeAt Go.RowKit

/-- A list of numbers in memory of the call's own, and a Boolean came back. -/
def PriceBack (w : World) (R : List Int) (b : Bool) (e : Ending) (w' : World) : Prop :=
  ∃ v, e = .returned (.tuple #[v, .bool b]) ∧ w'.ownsRow w.heap.size 3 1 v R.length (R.map (Value.int .i64)) ∧ Below w.heap.size w w'

end Go.Proofs.Ytobflidianlomaa

namespace Go.Proofs.Ytobflidianlomaa
set_option maxRecDepth 4096

/-- The steps into v, in the order of v's slice: from where, what is left, the cost. -/
def awI (p : ArcD × Int) (v : Nat) : List (Nat × Int × Int) := (if p.1.f = (v : Int) then [(p.1.t.toNat, p.2, -p.1.c)] else []) ++ (if p.1.t = (v : Int) then [(p.1.f.toNat, p.1.r - p.2, p.1.c)] else [])
def rowI (P : List (ArcD × Int)) (v : Nat) : List (Nat × Int × Int) := P.flatMap fun p => awI p v
theorem rowI_box_len : ∀ {A : List ArcD} {F : List Int} {X : List (Nat × Nat)}, F.length = A.length → X.length = A.length → ∀ v, (bsL (A.zip X) v).length = (rowI (A.zip F) v).length
  | [], _, _, _, _, _ => by simp [bsL, rowI]
  | x :: A, y :: F, z :: X, hF, hX, v => by
    have ih := rowI_box_len (A := A) (F := F) (X := X) (by simpa using hF) (by simpa using hX) v
    unfold bsL rowI at ih ⊢
    simp only [List.zip_cons_cons, List.flatMap_cons, List.length_append, ih]
    have : (boxA (x, z) v).length = (awI (x, y) v).length := by
      unfold boxA awI
      split <;> split <;> simp_all
    omega
  | _ :: _, [], _, hF, _, _ => by simp at hF
  | _ :: _, _ :: _, [], _, hX, _ => by simp at hX
/-- The step at a place of a node's slice. -/
theorem rowI_box_at : ∀ {A : List ArcD} {F : List Int} {X : List (Nat × Nat)}, F.length = A.length → X.length = A.length → ∀ {v j : Nat} {e : Nat × Int × Int} {b : Nat}, (rowI (A.zip F) v)[j]? = some e → (bsL (A.zip X) v)[j]? = some b →
    ∃ (i : Nat) (x : ArcD) (y : Int) (c d : Nat), A[i]? = some x ∧ F[i]? = some y ∧ X[i]? = some (c, d) ∧ ((b = c ∧ x.f = (v : Int) ∧ e = (x.t.toNat, y, -x.c)) ∨ (b = d ∧ x.t = (v : Int) ∧ e = (x.f.toNat, x.r - y, x.c)))
  | [], _, _, _, _, _, _, _, _, he, _ => by simp [rowI] at he
  | x :: A, y :: F, (c, d) :: X, hF, hX, v, j, e, b, he, hb => by
    have ih := fun j he hb => rowI_box_at (A := A) (F := F) (X := X) (by simpa using hF) (by simpa using hX) (v := v) (j := j) (e := e) (b := b) he hb
    unfold bsL at hb ih
    unfold rowI at he ih
    simp only [List.zip_cons_cons, List.flatMap_cons] at he hb
    have hl : (boxA (x, c, d) v).length = (awI (x, y) v).length := by
      unfold boxA awI
      split <;> split <;> simp_all
    rcases Nat.lt_or_ge j (awI (x, y) v).length with hj | hj
    · rw [List.getElem?_append_left hj] at he
      rw [List.getElem?_append_left (by omega)] at hb
      refine ⟨0, x, y, c, d, rfl, rfl, rfl, ?_⟩
      unfold boxA at hb
      unfold awI at he
      by_cases h1 : x.f = (v : Int)
      · rw [if_pos h1] at hb he
        cases j with
        | zero =>
          simp only [List.cons_append, List.nil_append, List.getElem?_cons_zero, Option.some.injEq] at he hb
          exact .inl ⟨hb.symm, h1, he.symm⟩
        | succ j =>
          by_cases h2 : x.t = (v : Int)
          · rw [if_pos h2] at hb he
            cases j with
            | zero =>
              simp only [List.cons_append, List.nil_append, List.getElem?_cons_succ, List.getElem?_cons_zero, Option.some.injEq] at he hb
              exact .inr ⟨hb.symm, h2, he.symm⟩
            | succ j => simp at he
          · rw [if_neg h2] at he
            simp at he
      · rw [if_neg h1] at hb he
        by_cases h2 : x.t = (v : Int)
        · rw [if_pos h2] at hb he
          cases j with
          | zero =>
            simp only [List.nil_append, List.getElem?_cons_zero, Option.some.injEq] at he hb
            exact .inr ⟨hb.symm, h2, he.symm⟩
          | succ j => simp at he
        · rw [if_neg h2] at he
          simp at he
    · rw [List.getElem?_append_right hj] at he
      rw [List.getElem?_append_right (by omega), hl] at hb
      obtain ⟨i, x', y', c', d', h1, h2, h3, h4⟩ := ih _ he hb
      exact ⟨i + 1, x', y', c', d', by simpa using h1, by simpa using h2, by simpa using h3, h4⟩
  | _ :: _, [], _, hF, _, _, _, _, _, _, _ => by simp at hF
  | _ :: _, _ :: _, [], _, hX, _, _, _, _, _, _ => by simp at hX
theorem rowI_iff {P : List (ArcD × Int)} {v : Nat} {e : Nat × Int × Int} : e ∈ rowI P v ↔ ∃ p ∈ P, (p.1.f = (v : Int) ∧ e = (p.1.t.toNat, p.2, -p.1.c)) ∨ (p.1.t = (v : Int) ∧ e = (p.1.f.toNat, p.1.r - p.2, p.1.c)) := by
  unfold rowI
  rw [List.mem_flatMap]
  constructor
  · rintro ⟨p, hp, h⟩
    refine ⟨p, hp, ?_⟩
    unfold awI at h
    rcases List.mem_append.1 h with h | h
    · by_cases h1 : p.1.f = (v : Int)
      · rw [if_pos h1] at h
        exact .inl ⟨h1, List.mem_singleton.1 h⟩
      · rw [if_neg h1] at h
        cases h
    · by_cases h1 : p.1.t = (v : Int)
      · rw [if_pos h1] at h
        exact .inr ⟨h1, List.mem_singleton.1 h⟩
      · rw [if_neg h1] at h
        cases h
  · rintro ⟨p, hp, h⟩
    refine ⟨p, hp, ?_⟩
    unfold awI
    rcases h with ⟨h1, rfl⟩ | ⟨h1, rfl⟩
    · exact List.mem_append_left _ (by rw [if_pos h1]; exact List.mem_singleton.2 rfl)
    · exact List.mem_append_right _ (by rw [if_pos h1]; exact List.mem_singleton.2 rfl)
theorem rowI_len {P : List (ArcD × Int)} (hne : ∀ p ∈ P, p.1.f ≠ p.1.t) (v : Nat) : (rowI P v).length ≤ P.length := by
  induction P with
  | nil => simp [rowI]
  | cons p P ih =>
    have h1 := ih fun q hq => hne q (List.mem_cons_of_mem _ hq)
    have h2 := hne p (List.mem_cons_self ..)
    unfold rowI at h1 ⊢
    simp only [List.flatMap_cons, List.length_append, List.length_cons]
    have : (awI p v).length ≤ 1 := by
      unfold awI
      by_cases h3 : p.1.f = (v : Int)
      · have h4 : ¬ p.1.t = (v : Int) := fun e => h2 (h3.trans e.symm)
        simp [h3, h4]
      · by_cases h4 : p.1.t = (v : Int) <;> simp [h3, h4]
    omega
section
variable {P : List (ArcD × Int)} {n K : Nat} {D : Nat → Int}
theorem rowI_stc (hP : Fit P n) {v : Nat} {e : Nat × Int × Int} (he : e ∈ rowI P v) (hz : 0 < e.2.1) : Stc P e.1 v e.2.2 := by
  obtain ⟨p, hp, ⟨h1, rfl⟩ | ⟨h1, rfl⟩⟩ := rowI_iff.1 he
  · have := hP.1 _ hp
    exact .bwd hp (by simp only; omega) h1 hz
  · have := hP.1 _ hp
    exact .fwd hp (by simp only; omega) h1 (by simp only at hz; omega)
theorem stc_rowI {u v : Nat} {l : Int} (h : Stc P u v l) : ∃ e ∈ rowI P v, 0 < e.2.1 ∧ e.1 = u ∧ e.2.2 = l := by
  cases h with
  | @fwd p _ _ hp h1 h2 hr => exact ⟨_, rowI_iff.2 ⟨p, hp, .inr ⟨h2, rfl⟩⟩, by simp only; omega, by simp only; omega, rfl⟩
  | @bwd p _ _ hp h1 h2 hr => exact ⟨_, rowI_iff.2 ⟨p, hp, .inl ⟨h2, rfl⟩⟩, hr, by simp only; omega, rfl⟩
theorem rowI_bd (hP : Fit P n) {v : Nat} {e : Nat × Int × Int} (he : e ∈ rowI P v) : e.1 < n ∧ -100 ≤ e.2.2 ∧ e.2.2 ≤ 100 := by
  obtain ⟨p, hp, ⟨h1, rfl⟩ | ⟨h1, rfl⟩⟩ := rowI_iff.1 he
  · have := hP.1 _ hp
    have := hP.2 _ hp
    simp only at *
    omega
  · have := hP.1 _ hp
    have := hP.2 _ hp
    simp only at *
    omega

/-! ### the least of some numbers -/
def leastL : Int → List Int → Int
  | x, [] => x
  | x, y :: L => leastL (min x y) L
theorem leastL_snoc : ∀ (L : List Int) (x y : Int), leastL x (L ++ [y]) = min (leastL x L) y
  | [], _, _ => rfl
  | z :: L, x, y => leastL_snoc L (min x z) y
theorem leastL_le : ∀ (L : List Int) (x : Int), leastL x L ≤ x
  | [], _ => Int.le_refl _
  | z :: L, x => Int.le_trans (leastL_le L (min x z)) (Int.min_le_left _ _)
theorem leastL_mem : ∀ (L : List Int) (x : Int), ∀ y ∈ L, leastL x L ≤ y
  | z :: L, x, y, h => by
    rcases List.mem_cons.1 h with rfl | h
    · exact Int.le_trans (leastL_le L (min x y)) (Int.min_le_right _ _)
    · exact leastL_mem L _ y h
theorem leastL_is : ∀ (L : List Int) (x : Int), leastL x L = x ∨ leastL x L ∈ L
  | [], _ => .inl rfl
  | z :: L, x => by
    rcases leastL_is L (min x z) with h | h
    · by_cases hz : x ≤ z
      · exact .inl (h.trans (Int.min_eq_left hz))
      · exact .inr (by rw [leastL, h, Int.min_eq_right (by omega)]; exact List.mem_cons_self ..)
    · exact .inr (List.mem_cons_of_mem _ h)

/-- What v costs by way of the open steps into it. -/
def costI (D : Nat → Int) (L : List (Nat × Int × Int)) : List Int := (L.filter fun e => decide (0 < e.2.1)).map fun e => D e.1 + e.2.2
theorem costI_len (D : Nat → Int) (L : List (Nat × Int × Int)) : (costI D L).length ≤ L.length := by
  unfold costI
  rw [List.length_map]
  exact List.length_filter_le _ _
theorem costI_mem {L : List (Nat × Int × Int)} {x : Int} : x ∈ costI D L ↔ ∃ e ∈ L, 0 < e.2.1 ∧ x = D e.1 + e.2.2 := by
  unfold costI
  rw [List.mem_map]
  constructor
  · rintro ⟨e, he, rfl⟩
    rw [List.mem_filter, decide_eq_true_eq] at he
    exact ⟨e, he.1, he.2, rfl⟩
  · rintro ⟨e, he, h1, rfl⟩
    exact ⟨e, by rw [List.mem_filter, decide_eq_true_eq]; exact ⟨he, h1⟩, rfl⟩
theorem costI_on {L : List (Nat × Int × Int)} {k u : Nat} {z c : Int} (h : L[k]? = some (u, z, c)) (hz : decide (0 < z) = true) : costI D (L.take (k + 1)) = costI D (L.take k) ++ [D u + c] := by
  obtain ⟨hi, h2⟩ := List.getElem?_eq_some_iff.1 h
  rw [List.take_succ_eq_append_getElem hi, h2]
  unfold costI
  rw [List.filter_append]
  simp [of_decide_eq_true hz]
theorem costI_off {L : List (Nat × Int × Int)} {k u : Nat} {z c : Int} (h : L[k]? = some (u, z, c)) (hz : decide (0 < z) = false) : costI D (L.take (k + 1)) = costI D (L.take k) := by
  obtain ⟨hi, h2⟩ := List.getElem?_eq_some_iff.1 h
  rw [List.take_succ_eq_append_getElem hi, h2]
  unfold costI
  rw [List.filter_append]
  simp [of_decide_eq_false hz]
/-- v's next number. -/
def nextV (P : List (ArcD × Int)) (D : Nat → Int) (v : Nat) : Int := leastL (D v) (costI D (rowI P v))
/-- The numbers behind the first k nodes of a round, and whether one has fallen. -/
def passK (P : List (ArcD × Int)) (D : Nat → Int) : Nat → (Nat → Int)
  | 0 => D
  | k + 1 => putD (passK P D k) k (nextV P (passK P D k) k)
def fellK (P : List (ArcD × Int)) (D : Nat → Int) : Nat → Bool
  | 0 => false
  | k + 1 => fellK P D k || decide (nextV P (passK P D k) k < passK P D k k)
theorem nextV_le (D : Nat → Int) (v : Nat) : nextV P D v ≤ D v := leastL_le _ _
theorem nextV_step (D : Nat → Int) {u v : Nat} {l : Int} (hs : Stc P u v l) : nextV P D v ≤ D u + l := by
  obtain ⟨e, he, h1, rfl, rfl⟩ := stc_rowI hs
  exact leastL_mem _ _ _ (costI_mem.2 ⟨e, he, h1, rfl⟩)
theorem nextV_is (hP : Fit P n) (D : Nat → Int) (v : Nat) : nextV P D v = D v ∨ ∃ u l, Stc P u v l ∧ nextV P D v = D u + l := by
  rcases leastL_is (costI D (rowI P v)) (D v) with h | h
  · exact .inl h
  · obtain ⟨e, he, h1, h2⟩ := costI_mem.1 h
    exact .inr ⟨_, _, rowI_stc hP he h1, h2⟩
theorem nextV_still (hP : Fit P n) (h : PotC P D) (v : Nat) : nextV P D v = D v := by
  refine Int.le_antisymm (nextV_le D v) ?_
  rcases nextV_is hP D v with e | ⟨u, l, hs, e⟩
  · rw [e]; exact Int.le_refl _
  · rw [e]; exact h _ _ _ hs
theorem nextV_bd (hP : Fit P n) (h : FC P n K D) (hK : K ≤ 90000000) {v : Nat} (hv : v < n) : -10000000000 ≤ nextV P D v ∧ nextV P D v ≤ 0 := by
  have h1 := nextV_le (P := P) D v
  have h2 := h.up v hv
  refine ⟨?_, by omega⟩
  rcases nextV_is hP D v with e | ⟨u, l, hs, e⟩
  · rw [e]; exact (h.bd hP (by omega) hv).1
  · obtain ⟨hu, _⟩ := hs.lt hP
    obtain ⟨k, hk, hw⟩ := h.wk u hu
    have := hw.bd hP
    have := hs.bd hP
    omega
theorem FC.next (hP : Fit P n) (h : FC P n K D) (v : Nat) : FC P n (K + 1) (putD D v (nextV P D v)) := by
  by_cases hlt : nextV P D v < D v
  · rcases nextV_is hP D v with e | ⟨u, l, hs, e⟩
    · omega
    · rw [e] at hlt ⊢
      exact h.put hP hs hlt
  · have e : nextV P D v = D v := by have := nextV_le (P := P) D v; omega
    have e2 : putD D v (nextV P D v) = D := by
      funext j
      by_cases hj : j = v
      · rw [hj, putD_at, e]
      · exact putD_ne _ hj
    rw [e2]
    exact h.mono (by omega)
theorem passK_fc (hP : Fit P n) (h : FC P n K D) : ∀ k, FC P n (K + k) (passK P D k)
  | 0 => h
  | k + 1 => (passK_fc hP h k).next hP k
theorem passK_le (D : Nat → Int) : ∀ k v, passK P D k v ≤ D v
  | 0, _ => Int.le_refl _
  | k + 1, v => by
    have ih := passK_le D k
    unfold passK
    by_cases e : v = k
    · rw [e, putD_at]
      exact Int.le_trans (nextV_le _ _) (ih k)
    · rw [putD_ne _ e]
      exact ih v
theorem passK_step (D : Nat → Int) {u v : Nat} {l : Int} (hs : Stc P u v l) : ∀ k, v < k → passK P D k v ≤ D u + l
  | k + 1, hv => by
    unfold passK
    by_cases e : v = k
    · rw [← e, putD_at]
      have := nextV_step (passK P D v) hs
      have := passK_le (P := P) D v u
      omega
    · rw [putD_ne _ e]
      exact passK_step D hs k (by omega)
theorem passK_same (D : Nat → Int) : ∀ k, fellK P D k = false → passK P D k = D
  | 0, _ => rfl
  | k + 1, h => by
    unfold fellK at h
    rw [Bool.or_eq_false_iff, decide_eq_false_iff_not] at h
    have ih := passK_same D k h.1
    have h2 := h.2
    unfold passK
    rw [ih] at h2 ⊢
    have e : nextV P D k = D k := by have := nextV_le (P := P) D k; omega
    funext j
    by_cases hj : j = k
    · rw [hj, putD_at, e]
    · exact putD_ne _ hj
theorem fell_no (hP : Fit P n) (h : PotC P D) : ∀ k, fellK P D k = false ∧ passK P D k = D
  | 0 => ⟨rfl, rfl⟩
  | k + 1 => by
    obtain ⟨h1, h2⟩ := fell_no hP h k
    have e : fellK P D (k + 1) = false := by
      unfold fellK
      rw [h1, h2, nextV_still hP h]
      simp
    exact ⟨e, passK_same D _ e⟩
/-- A round in which none has fallen leaves potentials. -/
theorem passK_pot (hP : Fit P n) (h : fellK P D n = false) : PotC P D := fun u v l hs => by
  have h1 := passK_step D hs n (hs.lt hP).2
  rwa [passK_same D n h] at h1
theorem passK_lev (hP : Fit P n) {r : Nat} (h : FC P n K D) (hl : LevC P n r D) : LevC P n (r + 1) (passK P D n) := by
  have h1 := passK_fc hP h n
  intro v k hf hk
  obtain ⟨d, hd, hwd, _⟩ := id hf
  have hvn := hwd.lt hP
  obtain ⟨j, _, hj⟩ := h1.wk v hvn
  have hge := hd.2 _ _ hj
  rw [price_is hd]
  refine Int.le_antisymm ?_ hge
  cases k with
  | zero =>
    have := hl v 0 hf (Nat.zero_le _)
    rw [price_is hd] at this
    have := passK_le (P := P) D n v
    omega
  | succ k =>
    obtain ⟨u, l, d', hu, hud, hs, hv⟩ := hf.prev
    have e := hl u k hu (by omega)
    rw [price_is hud] at e
    have := passK_step D hs n hvn
    have e2 := hv.one hd
    omega
/-- A last round in which one has fallen: there are no potentials. -/
theorem passK_none (hP : Fit P n) (h : FC P n K D) (hl : LevC P n (n - 1) D) (hf : fellK P D n = true) : ¬ ∃ π, PotC P π := by
  rintro ⟨π, hπ⟩
  have := (fell_no hP (low_still hP h (levC_still hP hπ hl)) n).1
  rw [this] at hf
  cases hf
end

end Go.Proofs.Ytobflidianlomaa

