/-
  Ways through the network in time: no two arcs lead from one node to the same one; where a flow has a unit in a cell at a time, one arc alone leads on. Plain facts; no statement is proved here.
-/
import Derived.Test.YtnbbhdbcapfbkaaDoorZFF06
namespace Go.Proofs.YtnbbhdbcapfbkaaDoor
set_option maxRecDepth 4096

/-! ### arcs that differ in their ends -/
def Dst (A : List ArcD) : Prop := A.Pairwise fun x y => ¬ (x.f = y.f ∧ x.t = y.t)
def ends (f t : Int) (x : ArcD) : Bool := decide (x.f = f) && decide (x.t = t)
theorem ends_iff {f t : Int} {x : ArcD} : ends f t x = true ↔ x.f = f ∧ x.t = t := by unfold ends; simp
/-- The place of the arc from f to t; their number where there is none. -/
def arcIx (A : List ArcD) (f t : Int) : Nat := A.findIdx (ends f t)
theorem dst_eq {A : List ArcD} (h : Dst A) : ∀ {i j : Nat} {x y : ArcD}, A[i]? = some x → A[j]? = some y → x.f = y.f → x.t = y.t → i = j := by
  intro i j x y hx hy hf ht
  obtain ⟨hi, rfl⟩ := List.getElem?_eq_some_iff.1 hx
  obtain ⟨hj, rfl⟩ := List.getElem?_eq_some_iff.1 hy
  have hp := List.pairwise_iff_getElem.1 h
  rcases Nat.lt_trichotomy i j with e | e | e
  · exact absurd ⟨hf, ht⟩ (hp i j hi hj e)
  · exact e
  · exact absurd ⟨hf.symm, ht.symm⟩ (hp j i hj hi e)
theorem arcIx_of {A : List ArcD} (h : Dst A) {i : Nat} {x : ArcD} (hx : A[i]? = some x) : arcIx A x.f x.t = i := by
  obtain ⟨hi, e⟩ := List.getElem?_eq_some_iff.1 hx
  unfold arcIx
  have hlt : A.findIdx (ends x.f x.t) < A.length := List.findIdx_lt_length_of_exists ⟨x, List.mem_of_getElem? hx, ends_iff.2 ⟨rfl, rfl⟩⟩
  have hp := ends_iff.1 (List.findIdx_getElem (w := hlt) (p := ends x.f x.t))
  exact dst_eq h (List.getElem?_eq_getElem hlt) hx hp.1 hp.2
theorem arcIx_no {A : List ArcD} {f t : Int} (h : ∀ x ∈ A, ¬ (x.f = f ∧ x.t = t)) : arcIx A f t = A.length := by
  unfold arcIx
  rw [List.findIdx_eq_length]
  intro x hx
  cases e : ends f t x with
  | false => rfl
  | true => exact absurd (ends_iff.1 e) (h x hx)
def isArc (A : List ArcD) (f t : Int) : Bool := A.any (ends f t)
theorem isArc_iff {A : List ArcD} {f t : Int} : isArc A f t = true ↔ ∃ x ∈ A, x.f = f ∧ x.t = t := by
  unfold isArc
  rw [List.any_eq_true]
  exact ⟨fun ⟨x, hx, h⟩ => ⟨x, hx, ends_iff.1 h⟩, fun ⟨x, hx, h⟩ => ⟨x, hx, ends_iff.2 h⟩⟩
theorem arcIx_lt {A : List ArcD} {f t : Int} : arcIx A f t < A.length ↔ isArc A f t = true := by
  rw [isArc_iff]
  constructor
  · intro h
    unfold arcIx at h
    exact ⟨_, List.getElem_mem h, ends_iff.1 (List.findIdx_getElem (w := h) (p := ends f t))⟩
  · rintro ⟨x, hx, h⟩
    exact List.findIdx_lt_length_of_exists ⟨x, hx, ends_iff.2 h⟩

/-! ### the network in time -/
section
variable {m : MapD} {sl : List Nat} {gl : Nat → Bool} {R : Int} {T : Nat}
theorem mem_cellA {t k : Nat} {x : ArcD} : x ∈ cellA m T t false k ↔ x = ⟨(inN m.F k t : Nat), (inN m.F k t + 1 : Nat), 1, 0⟩ ∨ (t ≠ T ∧ (x = ⟨(inN m.F k t + 1 : Nat), (inN m.F k (t + 1) : Nat), 1, 0⟩ ∨ ∃ j ∈ m.ar k, x = ⟨(inN m.F k t + 1 : Nat), (inN m.F j (t + 1) : Nat), 1, 1⟩)) := by
  unfold cellA
  by_cases h : t = T
  · simp [h]
  · simp only [if_neg h, Bool.false_eq_true, if_false, List.mem_cons, List.mem_map]
    constructor
    · rintro (h1 | h1 | ⟨j, hj, rfl⟩)
      · exact .inl h1
      · exact .inr ⟨h, .inl h1⟩
      · exact .inr ⟨h, .inr ⟨j, hj, rfl⟩⟩
    · rintro (h1 | ⟨_, h1 | ⟨j, hj, rfl⟩⟩)
      · exact .inl h1
      · exact .inr (.inl h1)
      · exact .inr (.inr ⟨j, hj, rfl⟩)
theorem mem_timeA {x : ArcD} : x ∈ timeA m sl gl R T false ↔ (∃ k ∈ sl, x = ⟨0, (inN m.F k 0 : Nat), 1, 0⟩) ∨ (∃ t k, t ≤ T ∧ k < m.F ∧ x ∈ cellA m T t false k) ∨
    (∃ k, k < m.F ∧ x = ⟨(inN m.F k T + 1 : Nat), (if gl k = true then 1 else 2 : Nat), 1, 0⟩) ∨ x = ⟨2, 1, R, 0⟩ := by
  unfold timeA layA
  simp only [or_true, if_true, List.append_nil, List.mem_append, List.mem_map, List.mem_flatMap, List.mem_range, List.mem_singleton]
  constructor
  · rintro (⟨k, hk, rfl⟩ | ⟨t, ht, k, hk, hx⟩ | ⟨k, hk, rfl⟩ | h)
    · exact .inl ⟨k, hk, rfl⟩
    · exact .inr (.inl ⟨t, k, by omega, hk, hx⟩)
    · exact .inr (.inr (.inl ⟨k, hk, rfl⟩))
    · exact .inr (.inr (.inr h))
  · rintro (⟨k, hk, rfl⟩ | ⟨t, k, ht, hk, hx⟩ | ⟨k, hk, rfl⟩ | h)
    · exact .inl ⟨k, hk, rfl⟩
    · exact .inr (.inl ⟨t, by omega, k, hk, hx⟩)
    · exact .inr (.inr (.inl ⟨k, hk, rfl⟩))
    · exact .inr (.inr (.inr h))
theorem inN_ge (F k t : Nat) : 3 ≤ inN F k t := by unfold inN; omega
theorem inN_inj {F k t k' t' : Nat} (hk : k < F) (hk' : k' < F) (h : inN F k t = inN F k' t') : k = k' ∧ t = t' := by
  have h1 := inN_dec (t := t) hk
  have h2 := inN_dec (t := t') hk'
  rw [h] at h1
  exact ⟨h1.1.symm.trans h2.1, h1.2.1.symm.trans h2.2.1⟩
theorem inN_out {F k t k' t' : Nat} : inN F k t ≠ inN F k' t' + 1 := by unfold inN; omega
/-- From where the arcs of a cell lead. -/
theorem cellA_from {t k : Nat} {x : ArcD} (h : x ∈ cellA m T t false k) : x.f = (inN m.F k t : Nat) ∨ x.f = (inN m.F k t + 1 : Nat) := by
  rcases mem_cellA.1 h with rfl | ⟨_, rfl | ⟨j, _, rfl⟩⟩
  · exact .inl rfl
  · exact .inr rfl
  · exact .inr rfl
theorem cellA_to {t k : Nat} {x : ArcD} (h : x ∈ cellA m T t false k) : 3 ≤ x.t := by
  rcases mem_cellA.1 h with rfl | ⟨_, rfl | ⟨j, _, rfl⟩⟩
  · show (3 : Int) ≤ ((inN m.F k t + 1 : Nat) : Int)
    have := inN_ge m.F k t
    omega
  · show (3 : Int) ≤ ((inN m.F k (t + 1) : Nat) : Int)
    have := inN_ge m.F k (t + 1)
    omega
  · show (3 : Int) ≤ ((inN m.F j (t + 1) : Nat) : Int)
    have := inN_ge m.F j (t + 1)
    omega
theorem cellA_dst (hm : MapOk m) (hnd : ∀ i, i < m.F → (m.ar i).Nodup) {t k : Nat} (hk : k < m.F) : Dst (cellA m T t false k) := by
  unfold Dst cellA
  have hin : ∀ (u : Nat) (c : Int) (j : Nat) (d : Int), ¬ ((⟨(inN m.F k t : Nat), (u : Nat), 1, c⟩ : ArcD).f = (⟨(inN m.F k t + 1 : Nat), (inN m.F j (t + 1) : Nat), 1, d⟩ : ArcD).f ∧ (⟨(inN m.F k t : Nat), (u : Nat), 1, c⟩ : ArcD).t = (⟨(inN m.F k t + 1 : Nat), (inN m.F j (t + 1) : Nat), 1, d⟩ : ArcD).t) := fun u c j d h => by
    have := h.1
    dsimp only at this
    omega
  by_cases h : t = T
  · rw [if_pos h]
    exact List.pairwise_singleton _ _
  · rw [if_neg h, if_neg (by decide)]
    refine List.pairwise_cons.2 ⟨fun y hy => ?_, List.pairwise_cons.2 ⟨fun y hy => ?_, ?_⟩⟩
    · rcases List.mem_cons.1 hy with rfl | hy
      · exact hin _ _ _ _
      · obtain ⟨j, _, rfl⟩ := List.mem_map.1 hy
        exact hin _ _ _ _
    · obtain ⟨j, hj, rfl⟩ := List.mem_map.1 hy
      rintro ⟨_, e⟩
      dsimp only at e
      obtain ⟨e1, _⟩ := inN_inj hk (hm.lt k hk j hj) (by omega : inN m.F k (t + 1) = inN m.F j (t + 1))
      subst e1
      have := hm.irr k
      unfold adjB at this
      rw [decide_eq_true hj] at this
      cases this
    · rw [List.pairwise_map]
      refine (List.Pairwise.and_mem.1 (hnd k hk)).imp ?_
      rintro a b ⟨ha, hb, hne⟩ ⟨_, e⟩
      dsimp only at e
      exact hne (inN_inj (hm.lt k hk a ha) (hm.lt k hk b hb) (by omega : inN m.F a (t + 1) = inN m.F b (t + 1))).1
theorem time_dst (hm : MapOk m) (hnd : ∀ i, i < m.F → (m.ar i).Nodup) (hs : sl.Nodup) (hsl : ∀ k ∈ sl, k < m.F) : Dst (timeA m sl gl R T false) := by
  unfold timeA Dst
  have hl : ∀ x ∈ (List.range (T + 1)).flatMap (layA m T false), ∃ t k, t ≤ T ∧ k < m.F ∧ x ∈ cellA m T t false k := fun x hx => by
    unfold layA at hx
    simp only [or_true, if_true, List.append_nil, List.mem_flatMap, List.mem_range] at hx
    obtain ⟨t, ht, k, hk, hx⟩ := hx
    exact ⟨t, k, by omega, hk, hx⟩
  refine List.pairwise_append.2 ⟨?_, List.pairwise_append.2 ⟨?_, List.pairwise_append.2 ⟨?_, List.pairwise_singleton _ _, ?_⟩, ?_⟩, ?_⟩
  · rw [List.pairwise_map]
    refine (List.Pairwise.and_mem.1 hs).imp ?_
    rintro a b ⟨ha, hb, hne⟩ ⟨_, e⟩
    dsimp only at e
    exact hne (inN_inj (hsl a ha) (hsl b hb) (by omega : inN m.F a 0 = inN m.F b 0)).1
  · rw [List.pairwise_flatMap]
    refine ⟨fun t _ => ?_, List.pairwise_lt_range.imp fun {t t'} htt => ?_⟩
    · unfold layA
      simp only [or_true, if_true, List.append_nil]
      rw [List.pairwise_flatMap]
      refine ⟨fun k hk => cellA_dst hm hnd (List.mem_range.1 hk), (List.Pairwise.and_mem.1 List.pairwise_lt_range).imp ?_⟩
      rintro a b ⟨ha, hb, hne⟩ x hx y hy ⟨e, _⟩
      have ha := List.mem_range.1 ha
      have hb := List.mem_range.1 hb
      have key : inN m.F a t = inN m.F b t ∨ inN m.F a t = inN m.F b t + 1 ∨ inN m.F a t + 1 = inN m.F b t := by
        rcases cellA_from hx with h1 | h1 <;> rcases cellA_from hy with h2 | h2 <;> rw [h1, h2] at e <;> omega
      rcases key with h | h | h
      · have := (inN_inj ha hb h).1
        omega
      · exact inN_out h
      · exact inN_out h.symm
    · unfold layA
      simp only [or_true, if_true, List.append_nil, List.mem_flatMap, List.mem_range]
      rintro x ⟨a, ha, hx⟩ y ⟨b, hb, hy⟩ ⟨e, _⟩
      have key : inN m.F a t = inN m.F b t' ∨ inN m.F a t = inN m.F b t' + 1 ∨ inN m.F a t + 1 = inN m.F b t' := by
        rcases cellA_from hx with h1 | h1 <;> rcases cellA_from hy with h2 | h2 <;> rw [h1, h2] at e <;> omega
      rcases key with h | h | h
      · have := (inN_inj ha hb h).2
        omega
      · exact inN_out h
      · exact inN_out h.symm
  · rw [List.pairwise_map]
    refine (List.Pairwise.and_mem.1 List.pairwise_lt_range).imp ?_
    rintro a b ⟨ha, hb, hne⟩ ⟨e, _⟩
    dsimp only at e
    have := (inN_inj (List.mem_range.1 ha) (List.mem_range.1 hb) (by omega : inN m.F a T = inN m.F b T)).1
    omega
  · rintro x hx y hy ⟨e, _⟩
    obtain ⟨k, _, rfl⟩ := List.mem_map.1 hx
    obtain rfl := List.mem_singleton.1 hy
    dsimp only at e
    have := inN_ge m.F k T
    omega
  · intro x hx y hy
    rintro ⟨_, e⟩
    obtain ⟨t, k, _, _, hx⟩ := hl x hx
    have h3 := cellA_to hx
    rcases List.mem_append.1 hy with hy | hy
    · obtain ⟨j, _, rfl⟩ := List.mem_map.1 hy
      dsimp only at e
      split at e <;> omega
    · obtain rfl := List.mem_singleton.1 hy
      dsimp only at e
      omega
  · intro x hx y hy
    rintro ⟨e, _⟩
    obtain ⟨k, _, rfl⟩ := List.mem_map.1 hx
    dsimp only at e
    rcases List.mem_append.1 hy with hy | hy
    · obtain ⟨t, j, _, _, hy⟩ := hl y hy
      have := inN_ge m.F j t
      rcases cellA_from hy with h | h <;> omega
    · rcases List.mem_append.1 hy with hy | hy
      · obtain ⟨j, _, rfl⟩ := List.mem_map.1 hy
        have := inN_ge m.F j T
        dsimp only at e
        omega
      · obtain rfl := List.mem_singleton.1 hy
        dsimp only at e
        omega
end

/-! ### units that leave a node and come to it -/
abbrev Fl := List (ArcD × Int)
def outF (P : Fl) (v : Int) : Int := match P with
  | [] => 0
  | p :: P => (if p.1.f = v then p.2 else 0) + outF P v
def inF (P : Fl) (v : Int) : Int := match P with
  | [] => 0
  | p :: P => (if p.1.t = v then p.2 else 0) + inF P v
theorem netO_split : ∀ (P : Fl) (v : Nat), netO P v = outF P v - inF P v
  | [], _ => rfl
  | p :: P, v => by
    simp only [netO, outF, inF, netO_split P v, outAt]
    omega
/-- A unit goes from f to t. -/
def Runs (P : Fl) (f t : Int) : Prop := ∃ p ∈ P, p.1.f = f ∧ p.1.t = t ∧ 0 < p.2
section
variable {P : Fl} {v : Int}
theorem outF_nn : ∀ {P : Fl}, (∀ p ∈ P, 0 ≤ p.2) → 0 ≤ outF P v
  | [], _ => Int.le_refl _
  | p :: P, h => by
    have := outF_nn (P := P) fun q hq => h q (List.mem_cons_of_mem _ hq)
    have := h p (List.mem_cons_self ..)
    simp only [outF]
    split <;> omega
theorem inF_nn : ∀ {P : Fl}, (∀ p ∈ P, 0 ≤ p.2) → 0 ≤ inF P v
  | [], _ => Int.le_refl _
  | p :: P, h => by
    have := inF_nn (P := P) fun q hq => h q (List.mem_cons_of_mem _ hq)
    have := h p (List.mem_cons_self ..)
    simp only [inF]
    split <;> omega
theorem outF_mem : ∀ {P : Fl}, (∀ p ∈ P, 0 ≤ p.2) → ∀ {p}, p ∈ P → p.1.f = v → p.2 ≤ outF P v
  | [], _, _, h, _ => by cases h
  | q :: P, hp, p, h, e => by
    have h0 : ∀ p ∈ P, 0 ≤ p.2 := fun q hq => hp q (List.mem_cons_of_mem _ hq)
    have := hp q (List.mem_cons_self ..)
    simp only [outF]
    rcases List.mem_cons.1 h with rfl | h
    · rw [if_pos e]
      have := outF_nn (v := v) h0
      omega
    · have := outF_mem h0 h e
      split <;> omega
theorem inF_mem : ∀ {P : Fl}, (∀ p ∈ P, 0 ≤ p.2) → ∀ {p}, p ∈ P → p.1.t = v → p.2 ≤ inF P v
  | [], _, _, h, _ => by cases h
  | q :: P, hp, p, h, e => by
    have h0 : ∀ p ∈ P, 0 ≤ p.2 := fun q hq => hp q (List.mem_cons_of_mem _ hq)
    have := hp q (List.mem_cons_self ..)
    simp only [inF]
    rcases List.mem_cons.1 h with rfl | h
    · rw [if_pos e]
      have := inF_nn (v := v) h0
      omega
    · have := inF_mem h0 h e
      split <;> omega
theorem outF_two : ∀ {P : Fl}, (∀ p ∈ P, 0 ≤ p.2) → ∀ {p q}, p ∈ P → q ∈ P → p ≠ q → p.1.f = v → q.1.f = v → p.2 + q.2 ≤ outF P v
  | [], _, _, _, h, _, _, _, _ => by cases h
  | a :: P, hp, p, q, h, h', hne, e, e' => by
    have h0 : ∀ p ∈ P, 0 ≤ p.2 := fun q hq => hp q (List.mem_cons_of_mem _ hq)
    have := hp a (List.mem_cons_self ..)
    simp only [outF]
    rcases List.mem_cons.1 h with rfl | k <;> rcases List.mem_cons.1 h' with rfl | k'
    · exact absurd rfl hne
    · rw [if_pos e]
      have := outF_mem h0 k' e'
      omega
    · rw [if_pos e']
      have := outF_mem h0 k e
      omega
    · have := outF_two h0 k k' hne e e'
      split <;> omega
theorem outF_pos : ∀ {P : Fl}, 0 < outF P v → ∃ p ∈ P, p.1.f = v ∧ 0 < p.2
  | [], h => by simp [outF] at h
  | a :: P, h => by
    simp only [outF] at h
    by_cases e : a.1.f = v ∧ 0 < a.2
    · exact ⟨a, List.mem_cons_self .., e⟩
    · have : 0 < outF P v := by
        split at h
        · have : ¬ 0 < a.2 := fun h2 => e ⟨by assumption, h2⟩
          omega
        · omega
      obtain ⟨p, hp, h⟩ := outF_pos this
      exact ⟨p, List.mem_cons_of_mem _ hp, h⟩
theorem inF_pos : ∀ {P : Fl}, 0 < inF P v → ∃ p ∈ P, p.1.t = v ∧ 0 < p.2
  | [], h => by simp [inF] at h
  | a :: P, h => by
    simp only [inF] at h
    by_cases e : a.1.t = v ∧ 0 < a.2
    · exact ⟨a, List.mem_cons_self .., e⟩
    · have : 0 < inF P v := by
        split at h
        · have : ¬ 0 < a.2 := fun h2 => e ⟨by assumption, h2⟩
          omega
        · omega
      obtain ⟨p, hp, h⟩ := inF_pos this
      exact ⟨p, List.mem_cons_of_mem _ hp, h⟩
theorem inF_none : ∀ {P : Fl}, (∀ p ∈ P, p.1.t ≠ v) → inF P v = 0
  | [], _ => rfl
  | a :: P, h => by
    simp only [inF, if_neg (h a (List.mem_cons_self ..)), inF_none (P := P) fun p hp => h p (List.mem_cons_of_mem _ hp)]
    rfl
theorem inF_one {f0 : Int} : ∀ {P : Fl}, P.Pairwise (fun p q => ¬ (p.1.f = q.1.f ∧ p.1.t = q.1.t)) → (∀ p ∈ P, p.1.t = v → p.1.f = f0 ∧ p.2 ≤ 1) → inF P v ≤ 1
  | [], _, _ => by simp [inF]
  | a :: P, hd, h => by
    obtain ⟨h1, h2⟩ := List.pairwise_cons.1 hd
    simp only [inF]
    by_cases e : a.1.t = v
    · rw [if_pos e, inF_none fun p hp ep => h1 p hp ⟨(h a (List.mem_cons_self ..) e).1.trans (h p (List.mem_cons_of_mem _ hp) ep).1.symm, e.trans ep.symm⟩]
      have := (h a (List.mem_cons_self ..) e).2
      omega
    · rw [if_neg e]
      have := inF_one h2 fun p hp => h p (List.mem_cons_of_mem _ hp)
      omega
/-- So many arcs leave a node: where as many units do, each has one. -/
theorem outF_full : ∀ {P : Fl}, (∀ p ∈ P, p.1.f = v → p.2 ≤ 1) → outF P v ≤ (P.countP fun p => decide (p.1.f = v) : Nat) ∧ ((P.countP fun p => decide (p.1.f = v) : Nat) ≤ outF P v → ∀ p ∈ P, p.1.f = v → p.2 = 1)
  | [], _ => ⟨by simp [outF], fun _ p hp => by cases hp⟩
  | a :: P, h => by
    obtain ⟨h1, h2⟩ := outF_full (P := P) fun p hp => h p (List.mem_cons_of_mem _ hp)
    simp only [outF, List.countP_cons]
    by_cases e : a.1.f = v
    · have h3 := h a (List.mem_cons_self ..) e
      simp only [e, decide_true, if_true]
      refine ⟨by omega, fun hh p hp ep => ?_⟩
      rcases List.mem_cons.1 hp with rfl | hp
      · omega
      · exact h2 (by omega) p hp ep
    · simp only [e, decide_false, if_false, Bool.false_eq_true]
      refine ⟨by omega, fun hh p hp ep => ?_⟩
      rcases List.mem_cons.1 hp with rfl | hp
      · exact absurd ep e
      · exact h2 (by omega) p hp ep
end

/-! ### what a flow says -/
section
variable {A : List ArcD} {F : List Int} {N : Int}
theorem zip_dst (h : Dst A) : (A.zip F).Pairwise fun p q => ¬ (p.1.f = q.1.f ∧ p.1.t = q.1.t) := by
  rw [List.pairwise_iff_getElem]
  intro i j hi hj hij
  have hi2 : i < A.length := by simp at hi; omega
  have hj2 : j < A.length := by simp at hj; omega
  have := List.pairwise_iff_getElem.1 h i j hi2 hj2 hij
  simpa using this
/-- Units that come to a node leave it. -/
theorem runs_on (h : flowOkV N A F = true) {f : Int} {v : Nat} (hv : 2 ≤ v) (hr : Runs (A.zip F) f v) : ∃ t, Runs (A.zip F) v t := by
  obtain ⟨hn, hl, hR, hz⟩ := flowOk_out h
  obtain ⟨p, hp, _, ht, h0⟩ := hr
  have hN : (v : Int) < N := by
    have := (arcOk_out ((netOk_out hn).2.2 p.1 (zip_arc hp))).2.1
    omega
  have h1 := hz v hv hN
  rw [netO_split] at h1
  have h2 := inF_mem (fun p hp => (hR p hp).1) hp ht
  obtain ⟨q, hq, hf, hq0⟩ := outF_pos (P := A.zip F) (v := (v : Int)) (by omega)
  exact ⟨_, q, hq, hf, rfl, hq0⟩
/-- Where one arc alone comes to a node, one arc alone leads its unit on. -/
theorem runs_one (h : flowOkV N A F = true) (hd : Dst A) {v : Nat} (hv : 2 ≤ v) {f0 : Int} (h1 : ∀ x ∈ A, x.t = (v : Int) → x.f = f0 ∧ x.r ≤ 1) {t t' : Int} (hr : Runs (A.zip F) v t) (hr' : Runs (A.zip F) v t') : t = t' := by
  obtain ⟨hn, hl, hR, hz⟩ := flowOk_out h
  obtain ⟨p, hp, hf, ht, h0⟩ := hr
  obtain ⟨p', hp', hf', ht', h0'⟩ := hr'
  refine Decidable.byContradiction fun hne => ?_
  have hN : (v : Int) < N := by
    have := (arcOk_out ((netOk_out hn).2.2 p.1 (zip_arc hp))).1
    omega
  have h2 := hz v hv hN
  rw [netO_split] at h2
  have h3 : inF (A.zip F) (v : Int) ≤ 1 := inF_one (f0 := f0) (zip_dst hd) fun p hp e => by
    have h4 := h1 p.1 (zip_arc hp) e
    have h5 := hR p hp
    exact ⟨h4.1, by omega⟩
  have h6 := outF_two (fun p hp => (hR p hp).1) hp hp' (fun e => hne (by rw [← ht, ← ht', e])) hf hf'
  omega
end

end Go.Proofs.YtnbbhdbcapfbkaaDoor

