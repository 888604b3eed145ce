/-
  Lengths of walks through the residual network: the least ones, and the numbers of their steps. Plain facts; no statement is proved here.
-/
import Derived.Test.YtobflidianlomaaPushM
import Derived.Test.YtobflidianlomaaBfs
namespace Go.Proofs.Ytobflidianlomaa
set_option maxRecDepth 4096

/-- A step of the residual network and its length. -/
inductive Stp (P : List (ArcD × Int)) : Nat → Nat → Int → Prop
  | fwd {p : ArcD × Int} {u v : Nat} : p ∈ P → p.1.f = (u : Int) → p.1.t = (v : Int) → p.2 < p.1.r → Stp P u v (10000 * p.1.c + 1)
  | bwd {p : ArcD × Int} {u v : Nat} : p ∈ P → p.1.t = (u : Int) → p.1.f = (v : Int) → 0 < p.2 → Stp P u v (1 - 10000 * p.1.c)
/-- A walk from node 0: its steps, its end, its length. -/
inductive Wk (P : List (ArcD × Int)) : Nat → Nat → Int → Prop
  | nil : Wk P 0 0 0
  | snoc {k u v : Nat} {d l : Int} : Wk P k u d → Stp P u v l → Wk P (k + 1) v (d + l)
/-- The arcs join nodes below n and cost 0 to 100. -/
def Fit (P : List (ArcD × Int)) (n : Nat) : Prop := Inside P n ∧ ∀ p ∈ P, 0 ≤ p.1.c ∧ p.1.c ≤ 100
section
variable {P : List (ArcD × Int)} {n : Nat}
theorem fit_of {A : List ArcD} {F : List Int} (h : netOkV n A = true) : Fit (A.zip F) n :=
  ⟨inside_of h, fun _ hp => (arcOk_out ((netOk_out h).2.2 _ (zip_arc hp))).2.2.2.2⟩
theorem Stp.lt (h : Fit P n) {u v : Nat} {l : Int} (hs : Stp P u v l) : u < n ∧ v < n := by
  cases hs with
  | fwd hp h1 h2 _ => have := h.1 _ hp; omega
  | bwd hp h1 h2 _ => have := h.1 _ hp; omega
theorem Stp.mod {u v : Nat} {l : Int} (hs : Stp P u v l) : ∃ q, l = 10000 * q + 1 := by
  cases hs with
  | fwd _ _ _ _ => exact ⟨_, rfl⟩
  | @bwd p _ _ _ _ _ _ => exact ⟨-p.1.c, by omega⟩
theorem Stp.bd (h : Fit P n) {u v : Nat} {l : Int} (hs : Stp P u v l) : -1000001 ≤ l ∧ l ≤ 1000001 := by
  cases hs with
  | fwd hp _ _ _ => have := h.2 _ hp; omega
  | bwd hp _ _ _ => have := h.2 _ hp; omega
theorem Wk.lt (h : Fit P n) (hn : 0 < n) {k v : Nat} {d : Int} (hw : Wk P k v d) : v < n := by
  cases hw with
  | nil => exact hn
  | snoc _ hs => exact (hs.lt h).2
theorem Wk.mod {k v : Nat} {d : Int} (hw : Wk P k v d) : ∃ q, d = 10000 * q + k := by
  induction hw with
  | nil => exact ⟨0, rfl⟩
  | snoc _ hs ih =>
    obtain ⟨q, rfl⟩ := ih
    obtain ⟨r, rfl⟩ := hs.mod
    exact ⟨q + r, by omega⟩
theorem Wk.bd (h : Fit P n) {k v : Nat} {d : Int} (hw : Wk P k v d) : -1000001 * (k : Int) ≤ d ∧ d ≤ 1000001 * (k : Int) := by
  induction hw with
  | nil => simp
  | snoc _ hs ih =>
    have := hs.bd h
    omega
theorem Wk.zero {v : Nat} {d : Int} (hw : Wk P 0 v d) : v = 0 ∧ d = 0 := by
  cases hw
  exact ⟨rfl, rfl⟩
theorem Wk.append {j : Nat} {e : Int} (h0 : Wk P j 0 e) {k v : Nat} {d : Int} (hw : Wk P k v d) : Wk P (j + k) v (e + d) := by
  induction hw with
  | nil => simpa using h0
  | snoc _ hs ih =>
    have := ih.snoc hs
    rw [Int.add_assoc] at this
    exact this

/-- Numbers that bound the lengths from below. -/
structure Feas (P : List (ArcD × Int)) (S : Nat → Prop) (π : Nat → Int) : Prop where
  zero : S 0
  step : ∀ u v l, S u → Stp P u v l → S v ∧ π v ≤ π u + l
theorem Feas.wk {S : Nat → Prop} {π : Nat → Int} (h : Feas P S π) {k v : Nat} {d : Int} (hw : Wk P k v d) : S v ∧ π v ≤ π 0 + d := by
  induction hw with
  | nil => exact ⟨h.zero, by omega⟩
  | snoc _ hs ih =>
    obtain ⟨h1, h2⟩ := h.step _ _ _ ih.1 hs
    exact ⟨h1, by omega⟩

/-- The least length. -/
def IsD (P : List (ArcD × Int)) (v : Nat) (d : Int) : Prop := (∃ k, Wk P k v d) ∧ ∀ k d', Wk P k v d' → d ≤ d'
theorem IsD.one {v : Nat} {d d' : Int} (h : IsD P v d) (h' : IsD P v d') : d = d' := by
  obtain ⟨k, hk⟩ := h.1
  obtain ⟨k', hk'⟩ := h'.1
  have := h.2 _ _ hk'
  have := h'.2 _ _ hk
  omega
theorem isD_of {S : Nat → Prop} {π : Nat → Int} (h : Feas P S π) {v : Nat} : ∀ (m : Nat) {k : Nat} {d : Int}, Wk P k v d → (d - (π v - π 0)).toNat ≤ m → ∃ d0, IsD P v d0 ∧ d0 ≤ d
  | m, k, d, hw, hm => by
    by_cases hx : ∃ k' d', Wk P k' v d' ∧ d' < d
    · obtain ⟨k', d', hw', hlt⟩ := hx
      have h1 := (h.wk hw').2
      cases m with
      | zero => omega
      | succ m =>
        obtain ⟨d0, h2, h3⟩ := isD_of h m hw' (by omega)
        exact ⟨d0, h2, by omega⟩
    · exact ⟨d, ⟨⟨k, hw⟩, fun k' d' hw' => Int.not_lt.1 fun hlt => hx ⟨k', d', hw', hlt⟩⟩, Int.le_refl _⟩
theorem isD_ex {S : Nat → Prop} {π : Nat → Int} (h : Feas P S π) {k v : Nat} {d : Int} (hw : Wk P k v d) : ∃ d0, IsD P v d0 ∧ d0 ≤ d := isD_of h _ hw (Nat.le_refl _)
theorem isD_zero {d : Int} (h : IsD P 0 d) : d = 0 := by
  obtain ⟨k, hk⟩ := h.1
  have h1 := h.2 _ _ Wk.nil
  have h2 := h.2 _ _ (hk.append hk)
  omega

/-- A least walk of the fewest steps. -/
def Few (P : List (ArcD × Int)) (v k : Nat) : Prop := ∃ d, IsD P v d ∧ Wk P k v d ∧ ∀ j, j < k → ¬ Wk P j v d
theorem Few.one {v k k' : Nat} (h : Few P v k) (h' : Few P v k') : k = k' := by
  obtain ⟨d, h1, h2, h3⟩ := h
  obtain ⟨d', h1', h2', h3'⟩ := h'
  have e := h1.one h1'
  subst e
  rcases Nat.lt_trichotomy k k' with hlt | e | hlt
  · exact absurd h2 (h3' k hlt)
  · exact e
  · exact absurd h2' (h3 k' hlt)
theorem few_ex {v : Nat} {d : Int} (h : IsD P v d) : ∃ k, Few P v k := by
  obtain ⟨k, hk⟩ := h.1
  have key : ∀ m k, k ≤ m → Wk P k v d → ∃ k, Few P v k := by
    intro m
    induction m with
    | zero =>
      intro k hkm hw
      exact ⟨k, d, h, hw, fun j hj => by omega⟩
    | succ m ih =>
      intro k hkm hw
      by_cases hx : ∃ j, j < k ∧ Wk P j v d
      · obtain ⟨j, hj, hwj⟩ := hx
        exact ih j (by omega) hwj
      · exact ⟨k, d, h, hw, fun j hj hw' => hx ⟨j, hj, hw'⟩⟩
  exact key k k (Nat.le_refl _) hk
/-- The node before the last one on such a walk. -/
theorem Few.prev {v k : Nat} (h : Few P v (k + 1)) : ∃ u l d, Few P u k ∧ IsD P u d ∧ Stp P u v l ∧ IsD P v (d + l) := by
  obtain ⟨d, h1, h2, h3⟩ := h
  cases h2 with
  | @snoc _ u _ d l hw hs =>
    have hu : IsD P u d := ⟨⟨k, hw⟩, fun k' d' hw' => by
      have := h1.2 _ _ (hw'.snoc hs)
      omega⟩
    exact ⟨u, l, d, ⟨d, hu, hw, fun j hj hw' => h3 (j + 1) (by omega) (hw'.snoc hs)⟩, hu, hs, h1⟩
theorem few_list (h : Fit P n) (hn : 0 < n) : ∀ (k v : Nat), Few P v k → ∃ L : List Nat, L.length = k + 1 ∧ L.Nodup ∧ ∀ u ∈ L, u < n ∧ ∃ j, j ≤ k ∧ Few P u j
  | 0, v, hv => by
    obtain ⟨d, _, h2, _⟩ := id hv
    exact ⟨[v], rfl, by simp, fun u hu => by rw [List.mem_singleton.1 hu]; exact ⟨h2.lt h hn, 0, Nat.le_refl _, hv⟩⟩
  | k + 1, v, hv => by
    obtain ⟨u, l, d, hu, _, hs, _⟩ := hv.prev
    obtain ⟨L, h1, h2, h3⟩ := few_list h hn k u hu
    refine ⟨v :: L, by simp [h1], List.nodup_cons.2 ⟨fun hm => ?_, h2⟩, fun x hx => ?_⟩
    · obtain ⟨_, j, hj, hf⟩ := h3 v hm
      have := hv.one hf
      omega
    · rcases List.mem_cons.1 hx with rfl | hx
      · exact ⟨(hs.lt h).2, k + 1, Nat.le_refl _, hv⟩
      · obtain ⟨h4, j, hj, hf⟩ := h3 x hx
        exact ⟨h4, j, by omega, hf⟩
theorem Few.lt (h : Fit P n) (hn : 0 < n) {v k : Nat} (hv : Few P v k) : k < n := by
  obtain ⟨L, h1, h2, h3⟩ := few_list h hn k v hv
  have := nodup_len n L h2 fun c hc => (h3 c hc).1
  omega

/-- What far holds of a node: the least length, or that there is none. -/
noncomputable def farV (P : List (ArcD × Int)) (v : Nat) : Int := @dite _ (∃ d, IsD P v d) (Classical.propDecidable _) (fun h => h.choose) fun _ => 1152921504606846976
theorem far_is {v : Nat} {d : Int} (h : IsD P v d) : farV P v = d := by
  have hx : ∃ d, IsD P v d := ⟨d, h⟩
  unfold farV
  rw [dif_pos hx]
  exact hx.choose_spec.one h
theorem far_no {v : Nat} (h : ¬ ∃ d, IsD P v d) : farV P v = 1152921504606846976 := by
  unfold farV
  rw [dif_neg h]
theorem isD_bd (h : Fit P n) (hn : 0 < n) (h15 : n ≤ 1500) {v : Nat} {d : Int} (hd : IsD P v d) : -1500001500 ≤ d ∧ d ≤ 1500001500 := by
  obtain ⟨k, d', h1, h2, h3⟩ := few_ex hd
  have := hd.one h1
  subst this
  have h4 := Few.lt h hn ⟨d, h1, h2, h3⟩
  have h5 := h2.bd h
  omega
theorem far_lt (h : Fit P n) (hn : 0 < n) (h15 : n ≤ 1500) {v : Nat} : farV P v < 1152921504606846976 ↔ ∃ d, IsD P v d := by
  refine ⟨fun hl => Classical.byContradiction fun hx => ?_, fun ⟨d, hd⟩ => ?_⟩
  · rw [far_no hx] at hl
    omega
  · rw [far_is hd]
    have := isD_bd h hn h15 hd
    omega
/-- The number of steps, off the length. -/
noncomputable def rkV (P : List (ArcD × Int)) (v : Nat) : Nat := (farV P v % 10000).toNat
theorem rk_few (h : Fit P n) (hn : 0 < n) (h15 : n ≤ 1500) {v k : Nat} (hf : Few P v k) : rkV P v = k ∧ ∃ q, farV P v = 10000 * q + (k : Int) := by
  have hk := hf.lt h hn
  obtain ⟨d, h1, h2, _⟩ := hf
  obtain ⟨q, hq⟩ := h2.mod
  have e := far_is h1
  refine ⟨?_, q, by omega⟩
  unfold rkV
  omega
theorem rk_lt (h : Fit P n) (hn : 0 < n) (h15 : n ≤ 1500) {v : Nat} {d : Int} (hd : IsD P v d) : rkV P v < n := by
  obtain ⟨k, hk⟩ := few_ex hd
  rw [(rk_few h hn h15 hk).1]
  exact hk.lt h hn
theorem rk_div (h : Fit P n) (hn : 0 < n) (h15 : n ≤ 1500) {v : Nat} {d : Int} (hd : IsD P v d) : ∃ q, d = 10000 * q + (rkV P v : Int) := by
  obtain ⟨k, hk⟩ := few_ex hd
  obtain ⟨h1, q, h2⟩ := rk_few h hn h15 hk
  rw [far_is hd] at h2
  exact ⟨q, by rw [h1]; exact h2⟩
theorem rk_zero (h : Fit P n) (hn : 0 < n) (h15 : n ≤ 1500) {v : Nat} {d : Int} (hd : IsD P v d) (h0 : rkV P v = 0) : v = 0 := by
  obtain ⟨k, hk⟩ := few_ex hd
  rw [(rk_few h hn h15 hk).1] at h0
  subst h0
  obtain ⟨_, _, h2, _⟩ := hk
  exact h2.zero.1
/-- Along a tight step the number of steps grows by one. -/
theorem rk_tight (h : Fit P n) (hn : 0 < n) (h15 : n ≤ 1500) {u v : Nat} {d l : Int} (hu : IsD P u d) (hs : Stp P u v l) (hv : IsD P v (d + l)) : rkV P v = rkV P u + 1 := by
  obtain ⟨q, hq⟩ := rk_div h hn h15 hu
  obtain ⟨r, hr⟩ := rk_div h hn h15 hv
  obtain ⟨s, hl⟩ := hs.mod
  have h1 := rk_lt h hn h15 hu
  have h2 := rk_lt h hn h15 hv
  omega
/-- Each node that can be reached, but node 0, has a tight step into it. -/
theorem tight_ex {v : Nat} {d : Int} (hd : IsD P v d) (h0 : v ≠ 0) : ∃ u l d', IsD P u d' ∧ Stp P u v l ∧ d = d' + l := by
  obtain ⟨k, hk⟩ := few_ex hd
  cases k with
  | zero =>
    obtain ⟨_, _, h2, _⟩ := hk
    exact absurd h2.zero.1 h0
  | succ k =>
    obtain ⟨u, l, d', _, h2, h3, h4⟩ := hk.prev
    exact ⟨u, l, d', h2, h3, hd.one h4⟩
/-- What can be reached has a walk. -/
theorem wk_res (h : Fit P n) {v : Int} (hv : Res P v) : ∃ k d, Wk P k v.toNat d := by
  induction hv with
  | src => exact ⟨0, 0, Wk.nil⟩
  | fwd hp _ hr ih =>
    obtain ⟨k, d, hw⟩ := ih
    have := h.1 _ hp
    exact ⟨_, _, hw.snoc (.fwd hp (by omega) (by omega) hr)⟩
  | bwd hp _ hr ih =>
    obtain ⟨k, d, hw⟩ := ih
    have := h.1 _ hp
    exact ⟨_, _, hw.snoc (.bwd hp (by omega) (by omega) hr)⟩
theorem res_wk {k v : Nat} {d : Int} (hw : Wk P k v d) : Res P (v : Int) := by
  induction hw with
  | nil => exact Res.src
  | snoc _ hs ih =>
    cases hs with
    | fwd hp h1 h2 hr =>
      rw [← h2]
      rw [← h1] at ih
      exact Res.fwd hp ih hr
    | bwd hp h1 h2 hr =>
      rw [← h2]
      rw [← h1] at ih
      exact Res.bwd hp ih hr
/-- The least lengths are themselves such numbers. -/
theorem far_feas {S : Nat → Prop} {π : Nat → Int} (h : Feas P S π) : Feas P (fun v => ∃ d, IsD P v d) (farV P) := by
  refine ⟨(isD_ex h Wk.nil).imp fun _ k => k.1, fun u v l ⟨d, hd⟩ hs => ?_⟩
  obtain ⟨k, hw⟩ := hd.1
  obtain ⟨d0, h1, h2⟩ := isD_ex h (hw.snoc hs)
  exact ⟨⟨d0, h1⟩, by rw [far_is h1, far_is hd]; exact h2⟩
end

end Go.Proofs.Ytobflidianlomaa
