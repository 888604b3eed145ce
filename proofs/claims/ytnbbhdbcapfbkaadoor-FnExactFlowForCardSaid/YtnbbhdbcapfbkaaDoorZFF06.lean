/-
  Cuts of the two networks of a map in time: each cut of one gives a cut of the other that lets no more through; the greatest flows. Plain facts; no statement is proved here.
  The networks of a map in time are right ones. Plain facts; no statement is proved here.
-/
import Derived.Test.YtnbbhdbcapfbkaaDoorZFF05
namespace Go.Proofs.YtnbbhdbcapfbkaaDoor
set_option maxRecDepth 4096

section
variable {m : MapD} {sl : List Nat} {gl : Nat → Bool} {R : Int} {T : Nat}
theorem b2_le (p q : Bool) : b2 p q ≤ 1 := by cases p <;> cases q <;> decide
theorem lay_plain (hm : MapOk m) (o : Nat → Bool) {t : Nat} (ht : t < T) : cutR (starO m T o) (layA m T false t) ≤ cutR o (layA m T true t) := by
  have n1 : ¬ t = T := by omega
  rw [cut_lay, cut_lay, if_pos (.inr rfl), if_neg (by simp [n1]), Int.add_zero]
  have h1 := pair_ge (m := m) o t m.pl (baseN m T + 2 * t * m.pl.length)
  rw [sumP_pl, sumL_pairs (adj := adjB m) hm.sym hm.irr (fun a b => b3 (o (inN m.F a t + 1)) (o (inN m.F a (t + 1))) (o (inN m.F b (t + 1))))] at h1
  refine Int.le_trans ?_ (Int.add_le_add_left h1 _)
  rw [← sumL_add]
  refine sumL_le fun k hk => ?_
  obtain ⟨z1, z2⟩ := star_steps (S := starO m T o) (o := o) (fun k hk t => star_in o hk) (fun k hk t => rfl) hm hk ht
  rw [cut_cell, cut_cell]
  simp only [n1, if_false, Bool.false_eq_true, if_true]
  rw [z1, z2, star_in o hk]
  have hn : 0 ≤ sumL (fun j => if adjB m k j = true then b3 (o (inN m.F k t + 1)) (o (inN m.F k (t + 1))) (o (inN m.F j (t + 1))) else 0) m.F := sumL_nonneg fun j _ => by
    split
    · exact b3_nn _ _ _
    · exact Int.le_refl _
  have p1 := b2_nn (o (inN m.F k t)) (o (inN m.F k t + 1))
  have p2 := b2_nn (o (inN m.F k t + 1)) (o (inN m.F k (t + 1)))
  have p3 := b2_le (o (inN m.F k t)) (starO m T o (inN m.F k t + 1))
  cases hs : starO m T o (inN m.F k t + 1) with
  | true =>
    rw [b2_true]
    omega
  | false =>
    cases ho : o (inN m.F k t + 1) with
    | false =>
      rw [ho] at hn p2
      omega
    | true =>
      rw [hs] at p3
      rw [ho] at hn p1 p2
      rcases star_off hk ho hs with h | ⟨j, hj, h⟩
      · rw [h] at hn p2 ⊢
        have : b2 true false = 1 := rfl
        omega
      · cases hk2 : o (inN m.F k (t + 1)) with
        | false =>
          rw [hk2] at hn p2
          have : b2 true false = 1 := rfl
          omega
        | true =>
          rw [hk2] at hn p2
          have h5 : (if adjB m k j = true then b3 true true (o (inN m.F j (t + 1))) else 0) ≤ sumL (fun j => if adjB m k j = true then b3 true true (o (inN m.F j (t + 1))) else 0) m.F := sumL_one (f := fun j => if adjB m k j = true then b3 true true (o (inN m.F j (t + 1))) else 0) (n := m.F) (j := j) (fun j _ => by
            show 0 ≤ (if adjB m k j = true then b3 true true (o (inN m.F j (t + 1))) else 0)
            split
            · exact b3_nn _ _ _
            · exact Int.le_refl _) (hm.lt k hk j hj)
          rw [if_pos (show adjB m k j = true from decide_eq_true hj), h] at h5
          have : b3 true true false = 1 := rfl
          omega
theorem lay_last (S o : Nat → Bool) (strict strict' : Bool) (h : ∀ k, k < m.F → S (inN m.F k T) = o (inN m.F k T) ∧ S (inN m.F k T + 1) = o (inN m.F k T + 1)) : cutR S (layA m T strict T) = cutR o (layA m T strict' T) := by
  rw [cut_lay, cut_lay, if_pos (.inl rfl), if_pos (.inl rfl)]
  congr 1
  refine sumL_same fun k hk => ?_
  rw [cut_cell, cut_cell, if_pos rfl, if_pos rfl, (h k hk).1, (h k hk).2]
/-- Where the layers let no more through, the whole does not. -/
theorem time_le {S o : Nat → Bool} {strict strict' : Bool} (hsl : ∀ k ∈ sl, k < m.F) (h0 : S 0 = o 0) (h1 : S 1 = o 1) (h2 : S 2 = o 2) (hi : ∀ k, k < m.F → S (inN m.F k 0) = o (inN m.F k 0) ∧ S (inN m.F k T) = o (inN m.F k T) ∧ S (inN m.F k T + 1) = o (inN m.F k T + 1))
    (hl : ∀ t, t < T → cutR S (layA m T strict t) ≤ cutR o (layA m T strict' t)) : cutR S (timeA m sl gl R T strict) ≤ cutR o (timeA m sl gl R T strict') := by
  rw [cut_time, cut_time]
  have a1 : cutR S (sl.map fun k => (⟨0, (inN m.F k 0 : Nat), 1, 0⟩ : ArcD)) ≤ cutR o (sl.map fun k => (⟨0, (inN m.F k 0 : Nat), 1, 0⟩ : ArcD)) := cutR_map_le fun k hk => by
    show cutAt S ⟨((0 : Nat) : Int), (inN m.F k 0 : Nat), 1, 0⟩ ≤ cutAt o ⟨((0 : Nat) : Int), (inN m.F k 0 : Nat), 1, 0⟩
    rw [cut_arc, cut_arc, h0, (hi k (hsl k hk)).1]
    exact Int.le_refl _
  have a2 : sumL (fun t => cutR S (layA m T strict t)) T ≤ sumL (fun t => cutR o (layA m T strict' t)) T := sumL_le hl
  have a3 := lay_last (T := T) S o strict strict' fun k hk => (hi k hk).2
  have a4 : sumL (fun k => b2 (S (inN m.F k T + 1)) (S (if gl k = true then 1 else 2))) m.F = sumL (fun k => b2 (o (inN m.F k T + 1)) (o (if gl k = true then 1 else 2))) m.F := sumL_same fun k hk => by
    rw [(hi k hk).2.2]
    split
    · rw [h1]
    · rw [h2]
  have a5 : cutAt S ⟨2, 1, R, 0⟩ = cutAt o ⟨2, 1, R, 0⟩ := by
    unfold cutAt
    show (if S 2 = true ∧ S 1 = false then R else 0) = (if o 2 = true ∧ o 1 = false then R else 0)
    rw [h1, h2]
  simp only [sumL]
  omega
theorem cut_plain (hm : MapOk m) (hsl : ∀ k ∈ sl, k < m.F) (o : Nat → Bool) : ∃ S : Nat → Bool, S 0 = o 0 ∧ S 1 = o 1 ∧ cutR S (timeA m sl gl R T false) ≤ cutR o (timeA m sl gl R T true) :=
  ⟨starO m T o, star_low o (by decide), star_low o (by decide), time_le hsl (star_low o (by decide)) (star_low o (by decide)) (star_low o (by decide)) (fun k hk => ⟨star_in o hk, star_in o hk, star_end o hk⟩) fun t ht => lay_plain hm o ht⟩

/-- .. and the pairs' nodes on the side of whoever could cross. -/
def gadO (m : MapD) (T : Nat) (o : Nat → Bool) (v : Nat) : Bool :=
  if v < baseN m T then starO m T o v
  else match m.pl[(v - baseN m T) / 2 % m.pl.length]? with
    | some (a, b) => starO m T o (inN m.F a ((v - baseN m T) / 2 / m.pl.length) + 1) || starO m T o (inN m.F b ((v - baseN m T) / 2 / m.pl.length) + 1)
    | none => false
theorem inN_base {k t : Nat} (hk : k < m.F) (ht : t ≤ T) : inN m.F k t + 1 < baseN m T := by
  have h1 : t * m.F ≤ T * m.F := Nat.mul_le_mul_right _ ht
  have h2 : m.F * (T + 1) = T * m.F + m.F := by rw [Nat.mul_add, Nat.mul_one, Nat.mul_comm]
  unfold inN baseN
  rw [Nat.mul_assoc, h2]
  omega
theorem gad_in (o : Nat → Bool) {k t : Nat} (hk : k < m.F) (ht : t ≤ T) : gadO m T o (inN m.F k t) = o (inN m.F k t) := by
  unfold gadO
  rw [if_pos (by have := inN_base (T := T) hk ht; omega), star_in o hk]
theorem gad_out (o : Nat → Bool) {k t : Nat} (hk : k < m.F) (ht : t ≤ T) : gadO m T o (inN m.F k t + 1) = starO m T o (inN m.F k t + 1) := by
  unfold gadO
  rw [if_pos (inN_base hk ht)]
theorem gad_low (o : Nat → Bool) {v : Nat} (h : v < 3) : gadO m T o v = o v := by
  unfold gadO
  rw [if_pos (by unfold baseN; omega), star_low o h]
theorem gad_pair (o : Nat → Bool) {t i a b : Nat} (h : m.pl[i]? = some (a, b)) : ∀ c, c < 2 → gadO m T o (baseN m T + 2 * t * m.pl.length + 2 * i + c) = (starO m T o (inN m.F a t + 1) || starO m T o (inN m.F b t + 1)) := fun c hc => by
  have hi := (List.getElem?_eq_some_iff.1 h).1
  have e1 : (baseN m T + 2 * t * m.pl.length + 2 * i + c - baseN m T) / 2 = t * m.pl.length + i := by
    rw [Nat.mul_assoc]
    omega
  have e2 : (t * m.pl.length + i) % m.pl.length = i := by rw [Nat.add_comm, Nat.add_mul_mod_self_right, Nat.mod_eq_of_lt hi]
  have e3 : (t * m.pl.length + i) / m.pl.length = t := by rw [Nat.add_comm, Nat.add_mul_div_right _ _ (by omega), Nat.div_eq_of_lt hi, Nat.zero_add]
  unfold gadO
  rw [if_neg (by rw [Nat.mul_assoc]; omega), e1, e2, e3, h]
theorem pair_zero {S : Nat → Bool} {t : Nat} : ∀ (L : List (Nat × Nat)) (p : Nat), (∀ (i a b : Nat), L[i]? = some (a, b) → (∀ c, c < 2 → S (p + 2 * i + c) = (S (inN m.F a t + 1) || S (inN m.F b t + 1))) ∧ ((S (inN m.F a t + 1) || S (inN m.F b t + 1)) = true → S (inN m.F a (t + 1)) = true ∧ S (inN m.F b (t + 1)) = true)) → cutR S (pairA m t p L) = 0
  | [], _, _ => rfl
  | (a, b) :: L, p, h => by
    obtain ⟨h1, h2⟩ := h 0 a b rfl
    have e0 := h1 0 (by decide)
    have e1 := h1 1 (by decide)
    rw [show p + 2 * 0 + 0 = p by omega] at e0
    rw [show p + 2 * 0 + 1 = p + 1 by omega] at e1
    have ih := pair_zero (S := S) (t := t) L (p + 2) (fun i a b hi => by
      obtain ⟨g1, g2⟩ := h (i + 1) a b (by simpa using hi)
      refine ⟨fun c hc => ?_, g2⟩
      rw [show p + 2 + 2 * i + c = p + 2 * (i + 1) + c by omega]
      exact g1 c hc)
    rw [cut_pair, e0, e1, ih]
    cases ha : S (inN m.F a t + 1) <;> cases hb : S (inN m.F b t + 1)
    · simp [b2_false]
    · obtain ⟨g1, g2⟩ := h2 (by rw [ha, hb]; rfl)
      rw [g1, g2]
      rfl
    · obtain ⟨g1, g2⟩ := h2 (by rw [ha, hb]; rfl)
      rw [g1, g2]
      rfl
    · obtain ⟨g1, g2⟩ := h2 (by rw [ha, hb]; rfl)
      rw [g1, g2]
      rfl
theorem lay_strict (hm : MapOk m) (o : Nat → Bool) {t : Nat} (ht : t < T) : cutR (gadO m T o) (layA m T true t) ≤ cutR o (layA m T false t) := by
  have n1 : ¬ t = T := by omega
  rw [cut_lay, cut_lay, if_neg (by simp [n1]), if_pos (.inr rfl), Int.add_zero]
  have hz : cutR (gadO m T o) (pairA m t (baseN m T + 2 * t * m.pl.length) m.pl) = 0 := pair_zero m.pl _ fun i a b hi => by
    obtain ⟨ha, hb, _, hab⟩ := pl_mem (List.mem_of_getElem? hi)
    rw [gad_out o ha (by omega), gad_out o hb (by omega)]
    refine ⟨gad_pair o hi, fun hc => ?_⟩
    rw [gad_in o ha (by omega), gad_in o hb (by omega)]
    have m1 : b ∈ m.ar a := of_decide_eq_true hab
    have m2 : a ∈ m.ar b := of_decide_eq_true (by rw [hm.sym] at hab; exact hab)
    rcases (Bool.or_eq_true_iff).1 hc with h | h
    · obtain ⟨_, g1, g2⟩ := star_on ha ht h
      exact ⟨g1, g2 b m1⟩
    · obtain ⟨_, g1, g2⟩ := star_on hb ht h
      exact ⟨g2 a m2, g1⟩
  rw [hz, Int.add_zero]
  refine sumL_le fun k hk => ?_
  rw [cut_cell, cut_cell]
  simp only [n1, if_false, Bool.false_eq_true, if_true]
  rw [gad_in o hk (by omega), gad_out o hk (by omega), gad_in o hk (by omega), Int.add_zero]
  have q0 : 0 ≤ cutR o ((m.ar k).map fun j => (⟨(inN m.F k t + 1 : Nat), (inN m.F j (t + 1) : Nat), 1, 1⟩ : ArcD)) := cutR_nn o fun x hx => by
    obtain ⟨j, _, rfl⟩ := List.mem_map.1 hx
    show (0 : Int) ≤ 1
    decide
  have p2 := b2_nn (o (inN m.F k t + 1)) (o (inN m.F k (t + 1)))
  have p3 := b2_le (o (inN m.F k t)) (starO m T o (inN m.F k t + 1))
  have p1 := b2_nn (o (inN m.F k t)) (o (inN m.F k t + 1))
  cases hs : starO m T o (inN m.F k t + 1) with
  | true =>
    have z1 : b2 true (o (inN m.F k (t + 1))) = 0 := by
      rw [(star_on hk ht hs).2.1]
      rfl
    rw [z1, b2_true]
    omega
  | false =>
    rw [b2_false]
    cases ho : o (inN m.F k t + 1) with
    | false =>
      rw [ho] at p2
      omega
    | true =>
      rw [hs] at p3
      rw [ho] at p1 p2
      rcases star_off hk ho hs with h | ⟨j, hj, h⟩
      · rw [h] at p2 ⊢
        have : b2 true false = 1 := rfl
        omega
      · have h5 := cutR_mem (S := o) (A := (m.ar k).map fun j => (⟨(inN m.F k t + 1 : Nat), (inN m.F j (t + 1) : Nat), 1, 1⟩ : ArcD)) (x := ⟨(inN m.F k t + 1 : Nat), (inN m.F j (t + 1) : Nat), 1, 1⟩) (fun x hx => by
          obtain ⟨j, _, rfl⟩ := List.mem_map.1 hx
          show (0 : Int) ≤ 1
          decide) (List.mem_map.2 ⟨j, hj, rfl⟩)
        rw [cut_arc, ho, h] at h5
        have : b2 true false = 1 := rfl
        omega
theorem cut_strict (hm : MapOk m) (hsl : ∀ k ∈ sl, k < m.F) (o : Nat → Bool) : ∃ S : Nat → Bool, S 0 = o 0 ∧ S 1 = o 1 ∧ cutR S (timeA m sl gl R T true) ≤ cutR o (timeA m sl gl R T false) :=
  ⟨gadO m T o, gad_low o (by decide), gad_low o (by decide), time_le hsl (gad_low o (by decide)) (gad_low o (by decide)) (gad_low o (by decide)) (fun k hk => ⟨gad_in o hk (by omega), gad_in o hk (by omega), (gad_out o hk (by omega)).trans (star_end o hk)⟩) fun t ht => lay_strict hm o ht⟩

/-! ### the greatest flows -/
theorem most_le {n : Nat} {A : List ArcD} {o : Nat → Bool} (h : netOkV n A = true) (h0 : o 0 = true) (h1 : o 1 = false) : mostS n A ≤ cutR o A := by
  obtain ⟨g1, g2⟩ := most_ok h
  rw [← (most_is g1 g2).1]
  exact size_le g1 h0 h1
theorem most_cut {n : Nat} {A : List ArcD} (h : netOkV n A = true) : ∃ o : Nat → Bool, o 0 = true ∧ o 1 = false ∧ mostS n A = cutR o A := by
  obtain ⟨g1, g2⟩ := most_ok h
  exact ⟨_, reached0, g2, by rw [← (most_is g1 g2).1]; exact stop_size g1 g2⟩
theorem most_nn {n : Nat} {A : List ArcD} (h : netOkV n A = true) : 0 ≤ mostS n A := by
  obtain ⟨g1, g2⟩ := most_ok h
  rw [← (most_is g1 g2).1]
  have := stop_most g1 g2 (zero_ok h)
  rw [netO_zero] at this
  exact this
/-- Pairs that let only one through let through as much. -/
theorem most_same (hm : MapOk m) (hsl : ∀ k ∈ sl, k < m.F) (h1 : netOkV (timeN m T false) (timeA m sl gl R T false) = true) (h2 : netOkV (timeN m T true) (timeA m sl gl R T true) = true) :
    mostS (timeN m T true) (timeA m sl gl R T true) = mostS (timeN m T false) (timeA m sl gl R T false) := by
  obtain ⟨o, a1, a2, a3⟩ := most_cut h1
  obtain ⟨S, b1, b2, b3⟩ := cut_strict (gl := gl) (R := R) (T := T) hm hsl o
  have c1 := most_le h2 (b1.trans a1) (b2.trans a2)
  obtain ⟨o', a1', a2', a3'⟩ := most_cut h2
  obtain ⟨S', b1', b2', b3'⟩ := cut_plain (gl := gl) (R := R) (T := T) hm hsl o'
  have c2 := most_le h1 (b1'.trans a1') (b2'.trans a2')
  omega
/-- One step more lets no less through. -/
theorem most_next (h1 : netOkV (timeN m T false) (timeA m sl gl R T false) = true) (h2 : netOkV (timeN m (T + 1) false) (timeA m sl gl R (T + 1) false) = true) :
    mostS (timeN m T false) (timeA m sl gl R T false) ≤ mostS (timeN m (T + 1) false) (timeA m sl gl R (T + 1) false) := by
  obtain ⟨o, a1, a2, a3⟩ := most_cut h2
  have c1 := most_le h1 a1 a2
  have c2 := cut_next (m := m) (sl := sl) (gl := gl) (R := R) (T := T) o
  omega
theorem starts_len (g : Nat → Nat) : ∀ L : List Nat, (∀ k ∈ L, g k ≠ 0) → cutR (fun v => decide (v = 0)) (L.map fun k => (⟨0, (g k : Nat), 1, 0⟩ : ArcD)) = (L.length : Int)
  | [], _ => rfl
  | k :: L, h => by
    have ih := starts_len g L fun j hj => h j (List.mem_cons_of_mem _ hj)
    have hk := h k (List.mem_cons_self ..)
    simp only [List.map_cons, cutR, ih, List.length_cons]
    have e : cutAt (fun v => decide (v = 0)) (⟨0, (g k : Nat), 1, 0⟩ : ArcD) = 1 := by
      unfold cutAt
      simp [hk]
    rw [e]
    omega
theorem cell_from {t k : Nat} {strict : Bool} {x : ArcD} (h : x ∈ cellA m T t strict k) : x.f.toNat ≠ 0 := by
  unfold cellA at h
  rcases List.mem_cons.1 h with rfl | h
  · show ((inN m.F k t : Nat) : Int).toNat ≠ 0
    unfold inN
    omega
  · split at h
    · cases h
    · rcases List.mem_cons.1 h with rfl | h
      · show ((inN m.F k t + 1 : Nat) : Int).toNat ≠ 0
        omega
      · split at h
        · cases h
        · obtain ⟨j, _, rfl⟩ := List.mem_map.1 h
          show ((inN m.F k t + 1 : Nat) : Int).toNat ≠ 0
          omega
theorem pair_from {t : Nat} {x : ArcD} : ∀ (L : List (Nat × Nat)) (p : Nat), 0 < p → x ∈ pairA m t p L → x.f.toNat ≠ 0
  | [], _, _, h => by cases h
  | (a, b) :: L, p, hp, h => by
    simp only [pairA, List.mem_cons] at h
    rcases h with rfl | rfl | rfl | rfl | rfl | h
    · show ((inN m.F a t + 1 : Nat) : Int).toNat ≠ 0
      omega
    · show ((inN m.F b t + 1 : Nat) : Int).toNat ≠ 0
      omega
    · show ((p : Nat) : Int).toNat ≠ 0
      omega
    · show ((p + 1 : Nat) : Int).toNat ≠ 0
      omega
    · show ((p + 1 : Nat) : Int).toNat ≠ 0
      omega
    · exact pair_from L (p + 2) (by omega) h
/-- No more than there are starts. -/
theorem most_starts {strict : Bool} (h : netOkV (timeN m T strict) (timeA m sl gl R T strict) = true) : mostS (timeN m T strict) (timeA m sl gl R T strict) ≤ (sl.length : Int) := by
  have h1 := most_le (o := fun v => decide (v = 0)) h (by decide) (by decide)
  have e1 : cutR (fun v => decide (v = 0)) (timeA m sl gl R T strict) = (sl.length : Int) := by
    unfold timeA
    rw [cutR_append, starts_len (fun k => inN m.F k 0) sl (fun k _ => by unfold inN; omega)]
    have : cutR (fun v => decide (v = 0)) ((List.range (T + 1)).flatMap (layA m T strict) ++ (((List.range m.F).map fun k => (⟨(inN m.F k T + 1 : Nat), (if gl k = true then 1 else 2 : Nat), 1, 0⟩ : ArcD)) ++ [⟨2, 1, R, 0⟩])) = 0 := by
      refine cutR_zero fun x hx => ?_
      have hf : x.f.toNat ≠ 0 := by
        rcases List.mem_append.1 hx with hx | hx
        · obtain ⟨t, _, hx⟩ := List.mem_flatMap.1 hx
          unfold layA at hx
          rcases List.mem_append.1 hx with hx | hx
          · obtain ⟨k, _, hx⟩ := List.mem_flatMap.1 hx
            exact cell_from hx
          · split at hx
            · cases hx
            · exact pair_from m.pl _ (by unfold baseN; omega) hx
        · rcases List.mem_append.1 hx with hx | hx
          · obtain ⟨k, _, rfl⟩ := List.mem_map.1 hx
            show ((inN m.F k T + 1 : Nat) : Int).toNat ≠ 0
            omega
          · rw [List.mem_singleton.1 hx]
            show (2 : Int).toNat ≠ 0
            decide
      unfold cutAt
      rw [if_neg (by simp [hf])]
    rw [this]
    omega
  omega
end

end Go.Proofs.YtnbbhdbcapfbkaaDoor

namespace Go.Proofs.YtnbbhdbcapfbkaaDoor
set_option maxRecDepth 4096

theorem flat_len {α : Type} (g : Nat → List α) (c : Nat) : ∀ n : Nat, (∀ k, k < n → (g k).length ≤ c) → ((List.range n).flatMap g).length ≤ n * c
  | 0, _ => by simp
  | n + 1, h => by
    rw [List.range_succ, List.flatMap_append, List.length_append, Nat.succ_mul]
    have := flat_len g c n fun k hk => h k (by omega)
    have := h n (by omega)
    simp only [List.flatMap_cons, List.flatMap_nil, List.append_nil]
    omega
section
variable {m : MapD} {sl : List Nat} {gl : Nat → Bool} {R : Int} {T : Nat} {strict : Bool}
theorem pair_len (t : Nat) : ∀ (L : List (Nat × Nat)) (p : Nat), (pairA m t p L).length = 5 * L.length
  | [], _ => rfl
  | (a, b) :: L, p => by
    simp only [pairA, List.length_cons, pair_len t L (p + 2)]
    omega
theorem count_le {L : List Nat} : ∀ n : Nat, sumL (fun k => if decide (k ∈ L) = true then (1 : Int) else 0) n ≤ (L.length : Int) := by
  intro n
  have key : ∀ n, sumL (fun k => if decide (k ∈ L) = true then (1 : Int) else 0) n = (((List.range n).filter fun k => decide (k ∈ L)).length : Int) := fun n => by
    induction n with
    | zero => rfl
    | succ n ih =>
      rw [List.range_succ, List.filter_append, List.length_append]
      simp only [sumL, ih]
      by_cases h : n ∈ L <;> simp [h]
  rw [key]
  have h1 : ((List.range n).filter fun k => decide (k ∈ L)).Nodup := List.Pairwise.filter _ List.nodup_range
  have h2 : ∀ {A B : List Nat}, A.Nodup → (∀ x ∈ A, x ∈ B) → A.length ≤ B.length := fun {A} => by
    induction A with
    | nil => intro B _ _; simp
    | cons a A ih =>
      intro B hn hs
      obtain ⟨ha, hn⟩ := List.nodup_cons.1 hn
      have hb := hs a (List.mem_cons_self ..)
      have := ih (B := B.erase a) hn fun x hx => (List.mem_erase_of_ne (fun e => ha (by rw [← e]; exact hx))).2 (hs x (List.mem_cons_of_mem _ hx))
      rw [List.length_erase_of_mem hb] at this
      have : 0 < B.length := List.length_pos_of_mem hb
      simp only [List.length_cons]
      omega
  have := h2 h1 fun x hx => of_decide_eq_true (List.mem_filter.1 hx).2
  omega
theorem sumP_const : ∀ L : List (Nat × Nat), sumP (fun _ _ => 1 + 1) L = 2 * (L.length : Int)
  | [] => rfl
  | (a, b) :: L => by
    simp only [sumP, sumP_const L, List.length_cons]
    omega
/-- Each cell has at most four neighbours: so many pairs. -/
theorem pl_len (hm : MapOk m) (h4 : ∀ i, i < m.F → (m.ar i).length ≤ 4) : m.pl.length ≤ 2 * m.F := by
  have h1 := sumP_pl (fun _ _ => 1 + 1) m
  rw [sumP_const, sumL_pairs (adj := adjB m) hm.sym hm.irr (fun _ _ => (1 : Int))] at h1
  have h2 : sumL (fun i => sumL (fun k => if adjB m i k = true then (1 : Int) else 0) m.F) m.F ≤ sumL (fun _ => 4) m.F := sumL_le fun i hi => by
    have := count_le (L := m.ar i) m.F
    have := h4 i hi
    unfold adjB
    omega
  have h3 : ∀ n, sumL (fun _ => 4) n = 4 * (n : Int) := fun n => by
    induction n with
    | zero => rfl
    | succ n ih => simp only [sumL, ih]; omega
  rw [h3] at h2
  omega
theorem cell_len (h4 : ∀ i, i < m.F → (m.ar i).length ≤ 4) {t k : Nat} (hk : k < m.F) : (cellA m T t strict k).length ≤ (if strict = true then 2 else 6) := by
  unfold cellA
  have := h4 k hk
  cases strict with
  | true =>
    split <;> simp
  | false =>
    split
    · simp
    · simp only [Bool.false_eq_true, if_false, List.length_cons, List.length_map]
      omega
theorem arc_in {f t : Nat} {c : Int} {N : Nat} (hf : f < N) (ht : t < N) (hne : f ≠ t) (hc : 0 ≤ c ∧ c ≤ 100) : arcOk (N : Int) ⟨(f : Int), (t : Int), 1, c⟩ = true := by
  unfold arcOk
  simp only [Bool.and_eq_true, Bool.not_eq_true', decide_eq_false_iff_not, inV_iff]
  omega
theorem pair_ok {N t : Nat} (hn : ∀ k, k < m.F → inN m.F k t + 1 < N ∧ inN m.F k (t + 1) < N) : ∀ (L : List (Nat × Nat)) (p : Nat), p + 2 * L.length ≤ N → (∀ a b, (a, b) ∈ L → a < m.F ∧ b < m.F) → (∀ k, k < m.F → inN m.F k (t + 1) < p) → (∀ k, k < m.F → inN m.F k t + 1 < p) → ∀ x ∈ pairA m t p L, arcOk (N : Int) x = true
  | [], _, _, _, _, _, x, hx => by cases hx
  | (a, b) :: L, p, hp, hL, hi, ho, x, hx => by
    obtain ⟨ha, hb⟩ := hL a b (List.mem_cons_self ..)
    have a1 := hi a ha
    have a2 := ho a ha
    have b1 := hi b hb
    have b2 := ho b hb
    simp only [List.length_cons] at hp
    simp only [pairA, List.mem_cons] at hx
    rcases hx with rfl | rfl | rfl | rfl | rfl | hx
    · exact arc_in (by omega) (by omega) (by omega) (by decide)
    · exact arc_in (by omega) (by omega) (by omega) (by decide)
    · exact arc_in (by omega) (by omega) (by omega) (by decide)
    · exact arc_in (by omega) (by omega) (by omega) (by decide)
    · exact arc_in (by omega) (by omega) (by omega) (by decide)
    · exact pair_ok hn L (p + 2) (by omega) (fun a b h => hL a b (List.mem_cons_of_mem _ h)) (fun k hk => by have := hi k hk; omega) (fun k hk => by have := ho k hk; omega) x hx
theorem time_ok (hm : MapOk m) (h4 : ∀ i, i < m.F → (m.ar i).length ≤ 4) (hF : m.F * (T + 1) ≤ 240) (hs : sl.length ≤ 10) (hsl : ∀ k ∈ sl, k < m.F) (hR : 0 ≤ R ∧ R ≤ 20) : netOkV (timeN m T strict) (timeA m sl gl R T strict) = true := by
  have hpl := pl_len hm h4
  have hFT : m.F * (T + 1) = m.F * T + m.F := by rw [Nat.mul_add, Nat.mul_one]
  have hpT : m.pl.length * T ≤ 2 * (m.F * T) := by
    have := Nat.mul_le_mul_right T hpl
    rw [Nat.mul_assoc] at this
    exact this
  have hbase : baseN m T = 3 + 2 * (m.F * (T + 1)) := by unfold baseN; rw [Nat.mul_assoc]
  have hN : timeN m T strict ≤ 1500 ∧ baseN m T ≤ timeN m T strict := by
    unfold timeN
    rw [Nat.mul_assoc]
    split <;> omega
  have hnode : ∀ k t, k < m.F → t ≤ T → inN m.F k t + 1 < timeN m T strict := fun k t hk ht => by
    have := inN_base (m := m) (T := T) hk ht
    omega
  have hlt : ∀ j k t, k < m.F → inN m.F k t + 1 < inN m.F j (t + 1) := fun j k t hk => by
    have : (t + 1) * m.F = t * m.F + m.F := Nat.succ_mul ..
    unfold inN
    omega
  have hlen : (timeA m sl gl R T strict).length ≤ 3200 := by
    have hcell : ∀ t, ((List.range m.F).flatMap (cellA m T t strict)).length ≤ m.F * (if strict = true then 2 else 6) := fun t => flat_len _ _ _ fun k hk => cell_len h4 hk
    have hlay : ((List.range T).flatMap (layA m T strict)).length ≤ T * (m.F * (if strict = true then 2 else 6) + (if strict = true then 5 * m.pl.length else 0)) := flat_len _ _ _ fun t ht => by
      unfold layA
      rw [List.length_append]
      have := hcell t
      have hp : ((if t = T ∨ strict = false then [] else pairA m t (baseN m T + 2 * t * m.pl.length) m.pl) : List ArcD).length ≤ (if strict = true then 5 * m.pl.length else 0) := by
        cases strict with
        | true =>
          split
          · simp
          · rw [pair_len, if_pos rfl]
            exact Nat.le_refl _
        | false => simp
      omega
    have hlast : (layA m T strict T).length ≤ m.F * (if strict = true then 2 else 6) := by
      unfold layA
      rw [if_pos (.inl rfl), List.append_nil]
      exact hcell T
    have hpT2 : T * (5 * m.pl.length) ≤ 10 * (m.F * T) := by
      have e : T * (5 * m.pl.length) = 5 * (m.pl.length * T) := by rw [Nat.mul_comm, Nat.mul_assoc]
      omega
    unfold timeA
    rw [List.length_append, List.length_append, List.length_append, List.length_map, List.length_map, List.length_range, List.range_succ, List.flatMap_append, List.length_append]
    simp only [List.flatMap_cons, List.flatMap_nil, List.append_nil, List.length_cons, List.length_nil]
    have e1 : T * (m.F * 2) = 2 * (m.F * T) := by rw [Nat.mul_comm m.F 2, Nat.mul_left_comm, Nat.mul_comm T]
    have e2 : T * (m.F * 6) = 6 * (m.F * T) := by rw [Nat.mul_comm m.F 6, Nat.mul_left_comm, Nat.mul_comm T]
    cases strict with
    | true =>
      simp only [if_true, Nat.mul_add] at hlay hlast
      omega
    | false =>
      simp only [Bool.false_eq_true, if_false, Nat.add_zero] at hlay hlast
      omega
  unfold netOkV
  rw [Bool.and_eq_true, Bool.and_eq_true]
  refine ⟨inV_iff.2 (by have := hN.2; unfold baseN at this; omega), decide_eq_true hlen, ?_⟩
  rw [List.all_eq_true]
  intro x hx
  unfold timeA at hx
  have hN3 : 3 ≤ timeN m T strict := by have := hN.2; unfold baseN at this; omega
  rcases List.mem_append.1 hx with hx | hx
  · obtain ⟨k, hk, rfl⟩ := List.mem_map.1 hx
    have := hnode k 0 (hsl k hk) (Nat.zero_le _)
    exact arc_in (f := 0) (by omega) (by omega) (by unfold inN; omega) (by decide)
  · rcases List.mem_append.1 hx with hx | hx
    · obtain ⟨t, ht, hx⟩ := List.mem_flatMap.1 hx
      have ht : t < T + 1 := List.mem_range.1 ht
      unfold layA at hx
      rcases List.mem_append.1 hx with hx | hx
      · obtain ⟨k, hk, hx⟩ := List.mem_flatMap.1 hx
        have hk : k < m.F := List.mem_range.1 hk
        have n1 := hnode k t hk (by omega)
        unfold cellA at hx
        rcases List.mem_cons.1 hx with rfl | hx
        · exact arc_in (by omega) (by omega) (by omega) (by decide)
        · split at hx
          · cases hx
          · rename_i hne
            have n2 := hnode k (t + 1) hk (by omega)
            rcases List.mem_cons.1 hx with rfl | hx
            · have := hlt k k t hk
              exact arc_in (by omega) (by omega) (by omega) (by decide)
            · split at hx
              · cases hx
              · obtain ⟨j, hj, rfl⟩ := List.mem_map.1 hx
                have hjF := hm.lt k hk j hj
                have n3 := hnode j (t + 1) hjF (by omega)
                have := hlt j k t hk
                exact arc_in (by omega) (by omega) (by omega) (by decide)
      · split at hx
        · cases hx
        · rename_i hns
          obtain ⟨hne, hst⟩ : ¬ t = T ∧ strict = true := by
            refine ⟨fun e => hns (.inl e), ?_⟩
            cases strict with
            | true => rfl
            | false => exact absurd (.inr rfl) hns
          have htT : t + 1 ≤ T := by omega
          have hle : (t + 1) * m.pl.length ≤ T * m.pl.length := Nat.mul_le_mul_right _ htT
          have hNs : timeN m T strict = baseN m T + 2 * (T * m.pl.length) := by
            unfold timeN
            rw [if_pos hst, Nat.mul_assoc, Nat.mul_comm m.pl.length T]
          refine pair_ok (N := timeN m T strict) (t := t) (fun k hk => ⟨hnode k t hk (by omega), by have := hnode k (t + 1) hk htT; omega⟩) m.pl _ ?_ (fun a b h => ⟨(pl_mem h).1, (pl_mem h).2.1⟩) (fun k hk => by have := inN_base (m := m) (T := T) hk htT; omega) (fun k hk => by have := inN_base (m := m) (T := T) hk (show t ≤ T by omega); omega) x hx
          rw [hNs, Nat.mul_assoc]
          rw [Nat.succ_mul] at hle
          omega
    · rcases List.mem_append.1 hx with hx | hx
      · obtain ⟨k, hk, rfl⟩ := List.mem_map.1 hx
        have hk : k < m.F := List.mem_range.1 hk
        have n1 := hnode k T hk (Nat.le_refl _)
        refine arc_in (by omega) (by split <;> omega) ?_ (by decide)
        unfold inN
        split <;> omega
      · rw [List.mem_singleton.1 hx]
        unfold arcOk
        simp only [Bool.and_eq_true, Bool.not_eq_true', decide_eq_false_iff_not, inV_iff]
        omega
end

end Go.Proofs.YtnbbhdbcapfbkaaDoor

