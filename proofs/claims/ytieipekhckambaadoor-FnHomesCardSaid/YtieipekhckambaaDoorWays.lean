/-
  Distances on a map: symmetric, the triangle's inequality, a shortest way leads from cell to cell beside it; two sources. No law is proved here.
-/
import Derived.Test.YtieipekhckambaaDoorStepsV
import Derived.Test.YtieipekhckambaaDoorAdj
namespace Go.Proofs.YtieipekhckambaaDoor
set_option maxRecDepth 4096
open Go.ChangeShapes Go.WideShapes Go.ChangeAt Go.RowKit

/-- One source. -/
def srcS (a : Nat) : Nat → Bool := fun c => decide (c = a)
theorem srcN_one (a : Nat) : srcN [(a : Int)] = srcS a := by
  funext c
  unfold srcN srcS
  rw [Bool.eq_iff_iff]
  simp
  omega

section
variable {nb : Nat → List Nat} {n : Nat}

theorem rch_add {a c i : Nat} (h : Rch nb n (srcS a) i c) : ∀ (j b : Nat), Rch nb n (srcS c) j b → Rch nb n (srcS a) (i + j) b
  | 0, b, h0 => by
    have e : b = c := by simpa [Rch, srcS] using h0
    subst e
    exact h
  | j + 1, b, h0 => by
    rcases h0 with h1 | ⟨p, hp, hr, hm⟩
    · exact .inl (rch_add h j b h1)
    · exact .inr ⟨p, hp, rch_add h j p hr, hm⟩

theorem rch_rev (hin : ∀ p, p < n → ∀ c ∈ nb p, c < n) (hsym : ∀ p, p < n → ∀ c ∈ nb p, p ∈ nb c) {a : Nat} : ∀ (j b : Nat), Rch nb n (srcS a) j b → Rch nb n (srcS b) j a
  | 0, b, h0 => by
    have e : b = a := by simpa [Rch, srcS] using h0
    subst e
    exact h0
  | j + 1, b, h0 => by
    rcases h0 with h1 | ⟨p, hp, hr, hm⟩
    · exact .inl (rch_rev hin hsym j b h1)
    · have h1 : Rch nb n (srcS b) 1 p := .inr ⟨b, hin p hp b hm, by simp [Rch, srcS], hsym p hp b hm⟩
      have h2 := rch_add h1 j a (rch_rev hin hsym j p hr)
      rwa [Nat.add_comm] at h2

theorem dist_rev (hin : ∀ p, p < n → ∀ c ∈ nb p, c < n) (hsym : ∀ p, p < n → ∀ c ∈ nb p, p ∈ nb c) {a b : Nat} {v : Int} (h : Dist nb n (srcS a) v b) : Dist nb n (srcS b) v a := by
  rcases h with ⟨j, hj, hr, hn⟩ | ⟨hv, hn⟩
  · exact .inl ⟨j, hj, rch_rev hin hsym j b hr, fun i hi h => hn i hi (rch_rev hin hsym i a h)⟩
  · exact .inr ⟨hv, fun j h => hn j (rch_rev hin hsym j a h)⟩

theorem dist_tri {a b c : Nat} {v x y : Int} (h : Dist nb n (srcS a) v b) (hx : Dist nb n (srcS a) x c) (hy : Dist nb n (srcS c) y b) (hx0 : 0 ≤ x) (hy0 : 0 ≤ y) : 0 ≤ v ∧ v ≤ x + y := by
  rcases hx with ⟨i, rfl, hi, _⟩ | ⟨rfl, _⟩
  · rcases hy with ⟨j, rfl, hj, _⟩ | ⟨rfl, _⟩
    · have hr := rch_add hi j b hj
      rcases h with ⟨k, rfl, _, hn⟩ | ⟨_, hn⟩
      · refine ⟨by omega, ?_⟩
        rcases Nat.lt_or_ge (i + j) k with hlt | hge
        · exact absurd hr (hn _ hlt)
        · omega
      · exact absurd hr (hn _)
    · omega
  · omega

theorem dist_zero {a b : Nat} {v : Int} (h : Dist nb n (srcS a) v b) : v = 0 ↔ a = b := by
  constructor
  · rintro rfl
    rcases h with ⟨j, hj, hr, _⟩ | ⟨hv, _⟩
    · obtain rfl : j = 0 := by omega
      have e : b = a := by simpa [Rch, srcS] using hr
      exact e.symm
    · omega
  · rintro rfl
    have h0 : Rch nb n (srcS a) 0 a := by simp [Rch, srcS]
    rcases h with ⟨j, rfl, _, hn⟩ | ⟨_, hn⟩
    · rcases Nat.eq_zero_or_pos j with rfl | hj
      · rfl
      · exact absurd h0 (hn 0 hj)
    · exact absurd h0 (hn 0)

/-- A cell one step nearer. -/
theorem dist_near (hsym : ∀ p, p < n → ∀ c ∈ nb p, p ∈ nb c) {b x m : Nat} (h : Dist nb n (srcS b) ((m + 1 : Nat) : Int) x) : ∃ z, z ∈ nb x ∧ z < n ∧ Dist nb n (srcS b) (m : Int) z := by
  rcases h with ⟨j, hj, hr, hn⟩ | ⟨hv, _⟩
  · obtain rfl : j = m + 1 := by omega
    rcases hr with h1 | ⟨p, hp, hr, hm⟩
    · exact absurd h1 (hn m (by omega))
    · refine ⟨p, hsym p hp x hm, hp, .inl ⟨m, rfl, hr, fun i hi h => ?_⟩⟩
      exact hn (i + 1) (by omega) (.inr ⟨p, hp, h, hm⟩)
  · omega

theorem rch_two {s t u : Nat → Bool} (hu : ∀ c, u c = true ↔ s c = true ∨ t c = true) : ∀ (j c : Nat), Rch nb n u j c ↔ Rch nb n s j c ∨ Rch nb n t j c
  | 0, c => hu c
  | j + 1, c => by
    constructor
    · rintro (h | ⟨p, hp, hr, hm⟩)
      · exact ((rch_two hu j c).1 h).imp .inl .inl
      · exact ((rch_two hu j p).1 hr).imp (fun h => .inr ⟨p, hp, h, hm⟩) (fun h => .inr ⟨p, hp, h, hm⟩)
    · rintro ((h | ⟨p, hp, hr, hm⟩) | (h | ⟨p, hp, hr, hm⟩))
      · exact .inl ((rch_two hu j c).2 (.inl h))
      · exact .inr ⟨p, hp, (rch_two hu j p).2 (.inl hr), hm⟩
      · exact .inl ((rch_two hu j c).2 (.inr h))
      · exact .inr ⟨p, hp, (rch_two hu j p).2 (.inr hr), hm⟩

/-- The lesser of two distances, of which -1 says that there is none. -/
def lesser (x y : Int) : Int := if 0 ≤ y ∧ (x < 0 ∨ y < x) then y else x
theorem dist_two {s t u : Nat → Bool} (hu : ∀ c, u c = true ↔ s c = true ∨ t c = true) {x y v : Int} {c : Nat} (hx : Dist nb n s x c) (hy : Dist nb n t y c) (hv : Dist nb n u v c) : v = lesser x y := by
  refine dist_one hv ?_
  have key := fun j => rch_two (nb := nb) (n := n) hu j c
  unfold lesser
  rcases hx with ⟨i, rfl, hi, hni⟩ | ⟨rfl, hni⟩
  · rcases hy with ⟨j, rfl, hj, hnj⟩ | ⟨rfl, hnj⟩
    · by_cases hlt : j < i
      · rw [if_pos ⟨by omega, .inr (by omega)⟩]
        exact .inl ⟨j, rfl, (key j).2 (.inr hj), fun k hk h => ((key k).1 h).elim (hni k (by omega)) (hnj k hk)⟩
      · rw [if_neg (by omega)]
        exact .inl ⟨i, rfl, (key i).2 (.inl hi), fun k hk h => ((key k).1 h).elim (hni k hk) (hnj k (by omega))⟩
    · rw [if_neg (by omega)]
      exact .inl ⟨i, rfl, (key i).2 (.inl hi), fun k hk h => ((key k).1 h).elim (hni k hk) (hnj k)⟩
  · rcases hy with ⟨j, rfl, hj, hnj⟩ | ⟨rfl, hnj⟩
    · rw [if_pos ⟨by omega, .inl (by omega)⟩]
      exact .inl ⟨j, rfl, (key j).2 (.inr hj), fun k hk h => ((key k).1 h).elim (hni k) (hnj k hk)⟩
    · rw [if_neg (by omega)]
      exact .inr ⟨rfl, fun k h => ((key k).1 h).elim (hni k) (hnj k)⟩
end

/-! ### On a map -/
theorem nbN_mem {W H : Int} {C : ByteArray} {p c : Nat} : c ∈ nbN W H C p ↔ (c : Int) ∈ aroundL W H C (p : Int) := by
  unfold nbN
  constructor
  · intro h
    obtain ⟨z, hz, rfl⟩ := List.mem_map.1 h
    obtain ⟨y, rfl, _⟩ := around_in hz
    simpa using hz
  · intro h
    exact List.mem_map.2 ⟨(c : Int), h, by simp⟩
theorem nbN_in {W H : Int} {C : ByteArray} : ∀ p, p < C.size → ∀ c ∈ nbN W H C p, c < C.size := fun _ _ _ hc => by
  obtain ⟨y, e, hy⟩ := around_in (nbN_mem.1 hc)
  omega
theorem nbN_sym {W H : Int} {C : ByteArray} : ∀ p, p < C.size → ∀ c ∈ nbN W H C p, p ∈ nbN W H C c := fun _ _ _ hc => nbN_mem.2 (around_sym (nbN_mem.1 hc))

/-- The steps between free cells are the distance. -/
theorem stepsTo_dist {W H : Int} {C : ByteArray} {a b : Nat} (ha : freeV W H C a = true) (hb : freeV W H C b = true) : Dist (nbN W H C) C.size (srcS a) (stepsToV W H C a b) b := by
  have h := steps_dist (W := W) (H := H) (C := C) (L := [(a : Int)]) (fun x hx => by rw [List.mem_singleton.1 hx]; exact ha) b
  rw [srcN_one] at h
  unfold stepsToV
  rw [if_pos ⟨ha, hb⟩, srcN_one]
  exact h
theorem stepsTo_comm {W H : Int} {C : ByteArray} (a b : Int) : stepsToV W H C a b = stepsToV W H C b a := by
  by_cases h : freeV W H C a = true ∧ freeV W H C b = true
  · obtain ⟨_, n, rfl, _⟩ := free_in h.1
    obtain ⟨_, m, rfl, _⟩ := free_in h.2
    exact dist_one (stepsTo_dist h.1 h.2) (dist_rev nbN_in nbN_sym (stepsTo_dist h.2 h.1))
  · unfold stepsToV
    rw [if_neg h, if_neg (fun h2 => h ⟨h2.2, h2.1⟩)]
theorem farF_dist {W H : Int} {C : ByteArray} {b : Nat} (hb : freeV W H C b = true) (c : Nat) : Dist (nbN W H C) C.size (srcS b) (farF W H C b c) c := by
  have h := steps_dist (W := W) (H := H) (C := C) (L := [(b : Int)]) (fun x hx => by rw [List.mem_singleton.1 hx]; exact hb) c
  unfold farF
  rw [srcN_one] at h ⊢
  exact h

/-- A list of cells of which each lies beside the one before it. -/
def Linked (W H : Int) (C : ByteArray) : List Int → Prop
  | [] => True
  | [_] => True
  | x :: y :: l => y ∈ aroundL W H C x ∧ Linked W H C (y :: l)

theorem pickN_near {W H : Int} {C : ByteArray} {b x m : Nat} (hb : freeV W H C b = true) (hx : farF W H C b x = ((m + 1 : Nat) : Int)) :
    ∃ z : Nat, pickN (farF W H C b) m (aroundL W H C x) x = z ∧ (z : Int) ∈ aroundL W H C x ∧ farF W H C b z = (m : Int) := by
  have hd := farF_dist hb x
  rw [hx] at hd
  obtain ⟨z, hz, _, hzd⟩ := dist_near nbN_sym hd
  have hf : farF W H C b z = (m : Int) := dist_one (farF_dist hb z) hzd
  have hmem := nbN_mem.1 hz
  unfold pickN
  cases h : (aroundL W H C x).find? fun d => decide (farF W H C b d.toNat = (m : Int)) with
  | none =>
    rw [List.find?_eq_none] at h
    exact absurd (by simpa using hf) (by simpa using h _ hmem)
  | some y =>
    have hy := List.mem_of_find?_eq_some h
    have hp := List.find?_some h
    obtain ⟨k, rfl, _⟩ := around_in hy
    exact ⟨k, rfl, hy, by simpa using hp⟩

/-- A shortest way: from x to b, step by step. -/
theorem wayAt_ok {W H : Int} {C : ByteArray} {b : Nat} (hb : freeV W H C b = true) : ∀ (m x : Nat), farF W H C b x = (m : Int) →
    (wayAt W H C (farF W H C b) m x)[0]? = some (x : Int) ∧ (wayAt W H C (farF W H C b) m x)[m]? = some (b : Int) ∧ Linked W H C (wayAt W H C (farF W H C b) m x)
  | 0, x, h => by
    have e : b = x := (dist_zero (farF_dist hb x)).1 (by simpa using h)
    subst e
    exact ⟨rfl, rfl, trivial⟩
  | m + 1, x, h => by
    obtain ⟨z, hz, hmem, hf⟩ := pickN_near hb h
    obtain ⟨h1, h2, h3⟩ := wayAt_ok hb m z hf
    rw [wayAt, hz]
    refine ⟨rfl, h2, ?_⟩
    have hl := wayAt_len W H C (farF W H C b) m (z : Int)
    generalize wayAt W H C (farF W H C b) m (z : Int) = l at h1 h3 hl
    cases l with
    | nil => simp at hl
    | cons y l =>
      obtain rfl : y = (z : Int) := by simpa using h1
      exact ⟨hmem, h3⟩

theorem linked_at {W H : Int} {C : ByteArray} : ∀ {l : List Int} {i : Nat} {x y : Int}, Linked W H C l → l[i]? = some x → l[i + 1]? = some y → y ∈ aroundL W H C x
  | [], i, _, _, _, h, _ => by simp at h
  | [_], i, _, _, _, h, h' => by simp at h'
  | x :: y :: l, 0, a, b, hl, h, h' => by
    simp at h h'
    subst h h'
    exact hl.1
  | x :: y :: l, i + 1, a, b, hl, h, h' => linked_at hl.2 (by simpa using h) (by simpa using h')

theorem far_val {W H : Int} {C : ByteArray} {b : Nat} (hb : freeV W H C b = true) (c : Nat) : farF W H C b c = -1 ∨ 0 ≤ farF W H C b c := by
  rcases farF_dist hb c with ⟨j, hj, _⟩ | ⟨hv, _⟩
  · exact .inr (by omega)
  · exact .inl hv
theorem stepsTo_far {W H : Int} {C : ByteArray} {a b : Nat} (ha : freeV W H C a = true) (hb : freeV W H C b = true) : stepsToV W H C a b = farF W H C b a := by
  rw [stepsTo_comm]
  unfold stepsToV farF
  rw [if_pos ⟨hb, ha⟩]
  rfl

/-- What is said of the way between two free cells. -/
theorem wayL_ok {W H : Int} {C : ByteArray} {a b : Nat} (ha : freeV W H C a = true) (hb : freeV W H C b = true) :
    ((wayL W H C a b).length : Int) = stepsToV W H C a b + 1 ∧ (∀ x : Int, (wayL W H C a b)[0]? = some x → x = a) ∧ (∀ (i : Nat) (x : Int), (i : Int) = stepsToV W H C a b → (wayL W H C a b)[i]? = some x → x = b) ∧
      ∀ (i : Nat) (x y : Int), (wayL W H C a b)[i]? = some x → (wayL W H C a b)[i + 1]? = some y → y ∈ aroundL W H C x := by
  unfold wayL
  by_cases h : 0 ≤ stepsToV W H C a b
  · rw [if_pos h]
    obtain ⟨m, hm⟩ : ∃ m : Nat, stepsToV W H C a b = m := ⟨(stepsToV W H C a b).toNat, by omega⟩
    have hf : farF W H C b a = (m : Int) := by rw [← stepsTo_far ha hb]; exact hm
    obtain ⟨h1, h2, h3⟩ := wayAt_ok hb m a hf
    have e : (stepsToV W H C a b).toNat = m := by omega
    rw [e]
    refine ⟨by rw [wayAt_len, hm]; rfl, fun x hx => (Option.some.inj (h1.symm.trans hx)).symm, fun i x hi hx => ?_, fun i x y hx hy => linked_at h3 hx hy⟩
    obtain rfl : i = m := by omega
    exact (Option.some.inj (h2.symm.trans hx)).symm
  · rw [if_neg h]
    have e : stepsToV W H C a b = -1 := by
      rw [stepsTo_far ha hb] at h ⊢
      exact (far_val hb a).resolve_right h
    refine ⟨by rw [e]; rfl, fun x hx => by simp at hx, fun i x _ hx => by simp at hx, fun i x y hx => by simp at hx⟩

/-- The steps from the nearer of two cells. -/
theorem two_far {W H : Int} {C : ByteArray} {a b c : Nat} (ha : freeV W H C a = true) (hb : freeV W H C b = true) (hc : freeV W H C c = true) :
    runB (nbN W H C) C.size (srcN [(a : Int), (c : Int)]) C.size b = lesser (stepsToV W H C a b) (stepsToV W H C c b) := by
  refine dist_two (s := srcS a) (t := srcS c) (u := srcN [(a : Int), (c : Int)]) (fun x => ?_) (stepsTo_dist ha hb) (stepsTo_dist hc hb) (steps_dist (fun x hx => ?_) b)
  · show [(a : Int), (c : Int)].contains (x : Int) = true ↔ decide (x = a) = true ∨ decide (x = c) = true
    simp
    omega
  · rcases List.mem_cons.1 hx with rfl | hx
    · exact ha
    · rw [List.mem_singleton.1 hx]
      exact hc
theorem steps_tri {W H : Int} {C : ByteArray} {a b c : Nat} (ha : freeV W H C a = true) (hb : freeV W H C b = true) (hc : freeV W H C c = true) (hx : 0 ≤ stepsToV W H C a c) (hy : 0 ≤ stepsToV W H C c b) :
    0 ≤ stepsToV W H C a b ∧ stepsToV W H C a b ≤ stepsToV W H C a c + stepsToV W H C c b := dist_tri (stepsTo_dist ha hb) (stepsTo_dist ha hc) (stepsTo_dist hc hb) hx hy
theorem steps_zero {W H : Int} {C : ByteArray} {a b : Nat} (ha : freeV W H C a = true) (hb : freeV W H C b = true) : stepsToV W H C a b = 0 ↔ (a : Int) = (b : Int) :=
  (dist_zero (stepsTo_dist ha hb)).trans (by omega)

end Go.Proofs.YtieipekhckambaaDoor
