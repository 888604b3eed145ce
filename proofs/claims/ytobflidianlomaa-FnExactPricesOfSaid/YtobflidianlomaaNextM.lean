/-
  One unit more along a shortest way, as functions of the bare lists. Plain facts; no statement is proved here.
-/
import Derived.Test.YtobflidianlomaaFarM
import Derived.Test.YtobflidianlomaaCutM
namespace Go.Proofs.Ytobflidianlomaa
set_option maxRecDepth 4096

/-- The step into v along the arc fits; against it. -/
def fitF (D : Nat → Int) (v : Nat) (p : ArcD × Int) : Prop := p.1.t = (v : Int) ∧ p.2 < p.1.r ∧ D p.1.f.toNat < 1152921504606846976 ∧ D p.1.f.toNat + 10000 * p.1.c + 1 = D v
def fitB (D : Nat → Int) (v : Nat) (p : ArcD × Int) : Prop := p.1.f = (v : Int) ∧ 0 < p.2 ∧ D p.1.t.toNat < 1152921504606846976 ∧ D p.1.t.toNat - 10000 * p.1.c + 1 = D v
instance (D : Nat → Int) (v : Nat) (p : ArcD × Int) : Decidable (fitF D v p) := by unfold fitF; exact inferInstance
instance (D : Nat → Int) (v : Nat) (p : ArcD × Int) : Decidable (fitB D v p) := by unfold fitB; exact inferInstance
/-- The first step into v that fits: along (i + 1), against (-i - 1), none (0). -/
def backI (D : Nat → Int) (v : Nat) : List (ArcD × Int) → Nat → Int
  | [], _ => 0
  | p :: P, i => if fitF D v p then (i : Int) + 1 else if fitB D v p then -(i : Int) - 1 else backI D v P (i + 1)
noncomputable def backB (P : List (ArcD × Int)) (v : Nat) : Int := backI (farV P) v P 0
noncomputable def nextF (A : List ArcD) (F : List Int) (n : Nat) : List Int := walkB A (backB (A.zip F)) n 1 F

theorem back_out {D : Nat → Int} {v : Nat} : ∀ {P : List (ArcD × Int)} {k : Nat}, (∃ p ∈ P, fitF D v p ∨ fitB D v p) → ∃ i p, P[i]? = some p ∧ ((backI D v P k = ((k + i : Nat) : Int) + 1 ∧ fitF D v p) ∨ (backI D v P k = -((k + i : Nat) : Int) - 1 ∧ fitB D v p))
  | [], k, ⟨p, hp, _⟩ => by cases hp
  | q :: P, k, ⟨p, hp, hf⟩ => by
    unfold backI
    by_cases h1 : fitF D v q
    · rw [if_pos h1]
      exact ⟨0, q, rfl, .inl ⟨rfl, h1⟩⟩
    · rw [if_neg h1]
      by_cases h2 : fitB D v q
      · rw [if_pos h2]
        exact ⟨0, q, rfl, .inr ⟨rfl, h2⟩⟩
      · rw [if_neg h2]
        have hp2 : p ∈ P := by
          rcases List.mem_cons.1 hp with rfl | h
          · exact absurd hf (by rintro (h | h); exact h1 h; exact h2 h)
          · exact h
        obtain ⟨i, p', h3, h4⟩ := back_out (k := k + 1) ⟨p, hp2, hf⟩
        refine ⟨i + 1, p', by simpa using h3, ?_⟩
        have e : k + 1 + i = k + (i + 1) := by omega
        rw [e] at h4
        exact h4
theorem costO_bump : ∀ {A : List ArcD} {F : List Int} {i : Nat} {x : ArcD} {y : Int} (d : Int), A[i]? = some x → F[i]? = some y → costO (A.zip (bump F i d)) = costO (A.zip F) + d * x.c
  | a :: A, f :: F, 0, x, y, d, hx, hy => by
    simp only [List.getElem?_cons_zero, Option.some.injEq] at hx hy
    subst hx hy
    simp only [bump, List.set_cons_zero, List.getD_cons_zero, List.zip_cons_cons, costO, Int.add_mul]
    omega
  | a :: A, f :: F, i + 1, x, y, d, hx, hy => by
    have ih := costO_bump (A := A) (F := F) (i := i) d (by simpa using hx) (by simpa using hy)
    have e : bump (f :: F) (i + 1) d = f :: bump F i d := by simp [bump]
    rw [e]
    simp only [List.zip_cons_cons, costO, ih]
    omega
  | [], _, _, _, _, _, hx, _ => by simp at hx
  | _ :: _, [], _, _, _, _, _, hy => by simp at hy

/-- An arc whose step is tight, one way or the other. -/
def tightF (P : List (ArcD × Int)) (x : ArcD) : Prop := ∃ d, IsD P x.f.toNat d ∧ IsD P x.t.toNat (d + (10000 * x.c + 1))
def tightB (P : List (ArcD × Int)) (x : ArcD) : Prop := ∃ d, IsD P x.t.toNat d ∧ IsD P x.f.toNat (d + (1 - 10000 * x.c))
section
variable {A : List ArcD} {F₀ F : List Int} {n : Nat} {v : Nat}
/-- What the unit's way is made of: all that can be reached, and the steps into it. -/
noncomputable def wayS (P : List (ArcD × Int)) : BS := ⟨resB P, backB P, []⟩
theorem isD_res {P : List (ArcD × Int)} {S : Nat → Prop} {π : Nat → Int} (hP : Fit P n) (hS : Feas P S π) : resB P v = true ↔ ∃ d, IsD P v d := by
  rw [resB_iff]
  refine ⟨fun h => ?_, fun ⟨d, hd⟩ => ?_⟩
  · obtain ⟨k, d, hw⟩ := wk_res hP h
    obtain ⟨d0, h1, _⟩ := isD_ex hS hw
    exact ⟨d0, by simpa using h1⟩
  · obtain ⟨k, hw⟩ := hd.1
    exact res_wk hw
theorem back_par {S : Nat → Prop} {π : Nat → Int} (hk : netOkV n A = true) (hS : Feas (A.zip F₀) S π) (v : Nat) (hv : resB (A.zip F₀) v = true) (h0 : v ≠ 0) :
    ∃ u i, (resB (A.zip F₀) u = true ∧ rkV (A.zip F₀) u < rkV (A.zip F₀) v ∧ Par (A.zip F₀) (backB (A.zip F₀)) v u i) ∧ ∃ x, A[i]? = some x ∧ ((backB (A.zip F₀) v = (i : Int) + 1 ∧ tightF (A.zip F₀) x) ∨ (backB (A.zip F₀) v = -(i : Int) - 1 ∧ tightB (A.zip F₀) x)) := by
  have hP : Fit (A.zip F₀) n := fit_of hk
  obtain ⟨⟨h2, h15⟩, _, _⟩ := netOk_out hk
  have hn : 0 < n := by omega
  have hn15 : n ≤ 1500 := by omega
  obtain ⟨d, hd⟩ := (isD_res hP hS).1 hv
  obtain ⟨u', l, d', hu', hs, hdl⟩ := tight_ex hd h0
  have hex : ∃ p ∈ A.zip F₀, fitF (farV (A.zip F₀)) v p ∨ fitB (farV (A.zip F₀)) v p := by
    have e1 := far_is hu'
    have e2 := far_is hd
    have e3 := (far_lt hP hn hn15).2 ⟨d', hu'⟩
    cases hs with
    | @fwd p _ _ hp h1 h2 hr =>
      refine ⟨p, hp, .inl ⟨h2, hr, ?_, ?_⟩⟩
      · rw [show p.1.f.toNat = u' by omega]; exact e3
      · rw [show p.1.f.toNat = u' by omega, e1, e2]; omega
    | @bwd p _ _ hp h1 h2 hr =>
      refine ⟨p, hp, .inr ⟨h2, hr, ?_, ?_⟩⟩
      · rw [show p.1.t.toNat = u' by omega]; exact e3
      · rw [show p.1.t.toNat = u' by omega, e1, e2]; omega
  obtain ⟨i, p, hi, hc⟩ := back_out (k := 0) hex
  rw [Nat.zero_add] at hc
  have hpm := List.mem_of_getElem? hi
  have hin := hP.1 _ hpm
  have hxi : A[i]? = some p.1 := by
    have := hi
    rw [List.getElem?_zip_eq_some] at this
    exact this.1
  rcases hc with ⟨h1, h3, h4, h5, h6⟩ | ⟨h1, h3, h4, h5, h6⟩
  · obtain ⟨du, hdu⟩ := (far_lt hP hn hn15).1 h5
    have hst : Stp (A.zip F₀) p.1.f.toNat v (10000 * p.1.c + 1) := .fwd hpm (by omega) h3 h4
    have hv2 : IsD (A.zip F₀) v (du + (10000 * p.1.c + 1)) := by
      rw [far_is hdu, far_is hd] at h6
      rw [show du + (10000 * p.1.c + 1) = d by omega]
      exact hd
    refine ⟨p.1.f.toNat, i, ⟨(isD_res hP hS).2 ⟨du, hdu⟩, ?_, p, hi, .inl ⟨h1, h3, by omega, h4⟩⟩, p.1, hxi, .inl ⟨h1, du, hdu, ?_⟩⟩
    · rw [rk_tight hP hn hn15 hdu hst hv2]; omega
    · rw [show p.1.t.toNat = v by omega]; exact hv2
  · obtain ⟨du, hdu⟩ := (far_lt hP hn hn15).1 h5
    have hst : Stp (A.zip F₀) p.1.t.toNat v (1 - 10000 * p.1.c) := .bwd hpm (by omega) h3 h4
    have hv2 : IsD (A.zip F₀) v (du + (1 - 10000 * p.1.c)) := by
      rw [far_is hdu, far_is hd] at h6
      rw [show du + (1 - 10000 * p.1.c) = d by omega]
      exact hd
    refine ⟨p.1.t.toNat, i, ⟨(isD_res hP hS).2 ⟨du, hdu⟩, ?_, p, hi, .inr ⟨h1, h3, by omega, h4⟩⟩, p.1, hxi, .inr ⟨h1, du, hdu, ?_⟩⟩
    · rw [rk_tight hP hn hn15 hdu hst hv2]; omega
    · rw [show p.1.f.toNat = v by omega]; exact hv2

/-- While the unit goes back along tight steps. -/
structure CInv (A : List ArcD) (F₀ : List Int) (v : Nat) (F : List Int) : Prop where
  w : WInv A F₀ (wayS (A.zip F₀)) (rkV (A.zip F₀)) v F
  arcs : ∀ (i : Nat) (x : ArcD) (y0 y : Int), A[i]? = some x → F₀[i]? = some y0 → F[i]? = some y → y = y0 ∨ (y = y0 + 1 ∧ tightF (A.zip F₀) x) ∨ (y = y0 - 1 ∧ tightB (A.zip F₀) x)
  cost : ∀ d1 d, IsD (A.zip F₀) 1 d1 → IsD (A.zip F₀) v d → 10000 * (costO (A.zip F) - costO (A.zip F₀)) = (d1 - (rkV (A.zip F₀) 1 : Int)) - (d - (rkV (A.zip F₀) v : Int))
theorem CInv.step {S : Nat → Prop} {π : Nat → Int} (hk : netOkV n A = true) (hS : Feas (A.zip F₀) S π) (h : CInv A F₀ v F) (h0 : v ≠ 0) (f : Nat) :
    ∃ u F', rkV (A.zip F₀) u < rkV (A.zip F₀) v ∧ CInv A F₀ u F' ∧ walkB A (backB (A.zip F₀)) (f + 1) v F = walkB A (backB (A.zip F₀)) f u F' ∧
      ∃ (i : Nat) (x : ArcD) (y : Int), A[i]? = some x ∧ F[i]? = some y ∧ 0 ≤ y ∧ y ≤ x.r ∧ ((backB (A.zip F₀) v = (i : Int) + 1 ∧ x.f = (u : Int) ∧ x.t = (v : Int) ∧ y < x.r ∧ F' = bump F i 1) ∨ (backB (A.zip F₀) v = -(i : Int) - 1 ∧ x.t = (u : Int) ∧ x.f = (v : Int) ∧ 0 < y ∧ F' = bump F i (-1))) := by
  have hP : Fit (A.zip F₀) n := fit_of hk
  obtain ⟨⟨h2, h15⟩, _, _⟩ := netOk_out hk
  have hn : 0 < n := by omega
  have hn15 : n ≤ 1500 := by omega
  have hpar := back_par hk hS
  obtain ⟨i, x, y, hx, hy, hy0, hyr, hc⟩ := h.w.step (fun v hv h0 => by
    obtain ⟨u, i, h1, _⟩ := hpar v hv h0
    exact ⟨u, i, h1⟩) h0
  obtain ⟨u1, i1, ⟨_, _, hp1⟩, x1, hx1, ht⟩ := hpar v h.w.met h0
  have hF0 : F₀[i]? = some y := by
    obtain ⟨u2, i2, ⟨g1, g2, g3⟩, x2, hx2, ht2⟩ := hpar v h.w.met h0
    have e : i = i2 := by
      show i = i2
      rcases hc with ⟨a1, _⟩ | ⟨a1, _⟩ <;> rcases ht2 with ⟨b1, _⟩ | ⟨b1, _⟩ <;> simp only [wayS] at a1 <;> omega
    have := h.w.same v u2 i2 h.w.met (Nat.le_refl _) g1 g2 g3
    rw [e] at hy ⊢
    rw [← this]
    exact hy
  rcases hc with ⟨a1, a2, ⟨u, a3, a4, a5⟩, a6⟩ | ⟨a1, a2, ⟨u, a3, a4, a5⟩, a6⟩
  · have hb : backB (A.zip F₀) v = (i : Int) + 1 := a1
    have e : i = i1 ∧ tightF (A.zip F₀) x1 := by
      rcases ht with ⟨b1, b2⟩ | ⟨b1, b2⟩
      · exact ⟨by omega, b2⟩
      · exfalso; omega
    obtain ⟨rfl, htt⟩ := e
    rw [hx] at hx1
    cases hx1
    refine ⟨u, _, a4, ⟨a5, fun j x' y0 y' g1 g2 g3 => ?_, fun d1 d k1 k2 => ?_⟩, walkB_fwd h0 hb hx a3, i, x, y, hx, hy, hy0, hyr, .inl ⟨hb, a3, a2, a6, rfl⟩⟩
    · by_cases e : i = j
      · subst e
        rw [hx] at g1
        rw [hF0] at g2
        rw [bump_at 1 hy] at g3
        cases g1
        cases g2
        cases g3
        exact .inr (.inl ⟨rfl, htt⟩)
      · rw [bump_ne 1 e] at g3
        exact h.arcs j x' y0 y' g1 g2 g3
    · obtain ⟨du, hdu, hdv⟩ := htt
      rw [show x.f.toNat = u by omega] at hdu
      rw [show x.t.toNat = v by omega] at hdv
      have e1 := k2.one hdu
      have e2 := h.cost d1 _ k1 hdv
      have e3 := rk_tight hP hn hn15 hdu (.fwd (List.mem_of_getElem? (zip_at hx hF0)) a3 a2 a6) hdv
      rw [costO_bump 1 hx hy]
      omega
  · have hb : backB (A.zip F₀) v = -(i : Int) - 1 := a1
    have e : i = i1 ∧ tightB (A.zip F₀) x1 := by
      rcases ht with ⟨b1, b2⟩ | ⟨b1, b2⟩
      · exfalso; omega
      · exact ⟨by omega, b2⟩
    obtain ⟨rfl, htt⟩ := e
    rw [hx] at hx1
    cases hx1
    refine ⟨u, _, a4, ⟨a5, fun j x' y0 y' g1 g2 g3 => ?_, fun d1 d k1 k2 => ?_⟩, walkB_bwd h0 hb hx a3, i, x, y, hx, hy, hy0, hyr, .inr ⟨hb, a3, a2, a6, rfl⟩⟩
    · by_cases e : i = j
      · subst e
        rw [hx] at g1
        rw [hF0] at g2
        rw [bump_at (-1) hy] at g3
        cases g1
        cases g2
        cases g3
        exact .inr (.inr ⟨rfl, htt⟩)
      · rw [bump_ne (-1) e] at g3
        exact h.arcs j x' y0 y' g1 g2 g3
    · obtain ⟨du, hdu, hdv⟩ := htt
      rw [show x.t.toNat = u by omega] at hdu
      rw [show x.f.toNat = v by omega] at hdv
      have e1 := k2.one hdu
      have e2 := h.cost d1 _ k1 hdv
      have e3 := rk_tight hP hn hn15 hdu (.bwd (List.mem_of_getElem? (zip_at hx hF0)) a3 a2 a6) hdv
      rw [costO_bump (-1) hx hy]
      omega
theorem CInv.start (hok : flowOkV n A F₀ = true) (h1 : resB (A.zip F₀) 1 = true) : CInv A F₀ 1 F₀ := by
  obtain ⟨_, hl, hr, _⟩ := flowOk_out hok
  refine ⟨WInv.start h1 hl hr, fun i x y0 y _ g2 g3 => ?_, fun d1 d k1 k2 => ?_⟩
  · rw [g2] at g3
    exact .inl (Option.some.inj g3).symm
  · rw [k1.one k2]
    omega
theorem CInv.walk {S : Nat → Prop} {π : Nat → Int} (hk : netOkV n A = true) (hS : Feas (A.zip F₀) S π) : ∀ (f v : Nat) (F : List Int), CInv A F₀ v F → rkV (A.zip F₀) v < f → CInv A F₀ 0 (walkB A (backB (A.zip F₀)) f v F)
  | 0, _, _, _, h => by omega
  | f + 1, v, F, h, hf => by
    by_cases h0 : v = 0
    · subst h0
      rw [walkB_zero]
      exact h
    · obtain ⟨u, F', h1, h2, h3, _⟩ := h.step hk hS h0 f
      rw [h3]
      exact CInv.walk hk hS f u F' h2 (by omega)
theorem far_zero {P : List (ArcD × Int)} {S : Nat → Prop} {π : Nat → Int} (hS : Feas P S π) : IsD P 0 0 := by
  obtain ⟨d, h, _⟩ := isD_ex hS Wk.nil
  have := isD_zero h
  rw [this] at h
  exact h
/-- One unit more: a flow, of one unit more, at the cost of the way; and the lengths bound the new ones. -/
theorem next_ok {S : Nat → Prop} {π : Nat → Int} (hok : flowOkV n A F₀ = true) (hS : Feas (A.zip F₀) S π) (h1 : resB (A.zip F₀) 1 = true) :
    flowOkV n A (nextF A F₀ n) = true ∧ netO (A.zip (nextF A F₀ n)) 0 = netO (A.zip F₀) 0 + 1 ∧ Feas (A.zip (nextF A F₀ n)) (fun v => ∃ d, IsD (A.zip F₀) v d) (farV (A.zip F₀)) ∧
      10000 * (costO (A.zip (nextF A F₀ n)) - costO (A.zip F₀)) = farV (A.zip F₀) 1 - (rkV (A.zip F₀) 1 : Int) ∧ rkV (A.zip F₀) 1 < 1500 := by
  obtain ⟨hk, hl, hr, hs⟩ := flowOk_out hok
  have hP : Fit (A.zip F₀) n := fit_of hk
  obtain ⟨⟨h2, h15⟩, _, _⟩ := netOk_out hk
  have hn : 0 < n := by omega
  have hn15 : n ≤ 1500 := by omega
  obtain ⟨d1, hd1⟩ := (isD_res hP hS).1 h1
  have hrk := rk_lt hP hn hn15 hd1
  have hC := CInv.walk hk hS n 1 F₀ (CInv.start hok h1) hrk
  have hd0 := far_zero hS
  obtain ⟨q0, hq0⟩ := rk_div hP hn hn15 hd0
  have hr0 := rk_lt hP hn hn15 hd0
  have hfe := far_feas hS
  refine ⟨flowOk_mk hk hC.w.len hC.w.room fun v hv hvn => ?_, ?_, ⟨⟨0, hd0⟩, fun u v l hu hst => ?_⟩, ?_, by omega⟩
  · show netO (A.zip (walkB A (backB (A.zip F₀)) n 1 F₀)) v = 0
    rw [hC.w.bal v, hs v hv hvn, if_neg (by omega), if_neg (by omega)]
    rfl
  · show netO (A.zip (walkB A (backB (A.zip F₀)) n 1 F₀)) 0 = _
    rw [hC.w.bal 0]
    simp
  · have old : ∀ {p : ArcD × Int}, p ∈ A.zip (nextF A F₀ n) → ∃ y0, (p.1, y0) ∈ A.zip F₀ ∧ (p.2 = y0 ∨ (p.2 = y0 + 1 ∧ tightF (A.zip F₀) p.1) ∨ (p.2 = y0 - 1 ∧ tightB (A.zip F₀) p.1)) := fun {p} hp => by
      obtain ⟨i, e1, e2⟩ := zip_in hp
      have hi := (List.getElem?_eq_some_iff.1 e1).1
      have e3 : F₀[i]? = some F₀[i] := List.getElem?_eq_getElem (by omega)
      exact ⟨_, List.mem_of_getElem? (zip_at e1 e3), hC.arcs i p.1 _ p.2 e1 e3 e2⟩
    cases hst with
    | @fwd p _ _ hp a1 a2 a3 =>
      obtain ⟨y0, hp0, e | ⟨e, _⟩ | ⟨e, d, k1, k2⟩⟩ := old hp
      · exact hfe.step u v _ hu (.fwd (p := (p.1, y0)) hp0 a1 a2 (by show y0 < p.1.r; omega))
      · exact hfe.step u v _ hu (.fwd (p := (p.1, y0)) hp0 a1 a2 (by show y0 < p.1.r; omega))
      · rw [show p.1.t.toNat = v by omega] at k1
        rw [show p.1.f.toNat = u by omega] at k2
        refine ⟨⟨_, k1⟩, ?_⟩
        rw [far_is k1, far_is k2]
        omega
    | @bwd p _ _ hp a1 a2 a3 =>
      obtain ⟨y0, hp0, e | ⟨e, d, k1, k2⟩ | ⟨e, _⟩⟩ := old hp
      · exact hfe.step u v _ hu (.bwd (p := (p.1, y0)) hp0 a1 a2 (by show 0 < y0; omega))
      · rw [show p.1.f.toNat = v by omega] at k1
        rw [show p.1.t.toNat = u by omega] at k2
        refine ⟨⟨_, k1⟩, ?_⟩
        rw [far_is k1, far_is k2]
        omega
      · exact hfe.step u v _ hu (.bwd (p := (p.1, y0)) hp0 a1 a2 (by show 0 < y0; omega))
  · have := hC.cost d1 0 hd1 hd0
    rw [far_is hd1]
    show 10000 * (costO (A.zip (walkB A (backB (A.zip F₀)) n 1 F₀)) - costO (A.zip F₀)) = _
    rw [this]
    have : rkV (A.zip F₀) 0 = 0 := by omega
    omega
theorem feas_zero {A : List ArcD} (h : netOkV n A = true) : Feas (A.zip (List.replicate A.length 0)) (fun _ => True) (fun _ => 0) := by
  refine ⟨trivial, fun u v l _ hs => ⟨trivial, ?_⟩⟩
  cases hs with
  | @fwd p _ _ hp _ _ _ =>
    have := (arcOk_out ((netOk_out h).2.2 _ (zip_arc hp))).2.2.2.2
    omega
  | @bwd p _ _ hp _ _ h3 =>
    obtain ⟨i, _, e⟩ := zip_in hp
    have := List.eq_of_mem_replicate (List.mem_of_getElem? e)
    omega
end

end Go.Proofs.Ytobflidianlomaa
