/-
  Plain facts: the cells that can be reached from a cell, as a list; which of them are known when the cells are visited in order. No statement is proved here.
  Plain facts: each free cell is counted in one component. No statement is proved here.
-/
import Derived.Test.YtieipekhckambaaDoorSpecCount
namespace Go.Proofs.YtieipekhckambaaDoor
set_option maxRecDepth 4096

theorem sumI_zero {f : Int → Nat} : ∀ {R : List Int}, (∀ h ∈ R, f h = 0) → (R.map f).sum = 0
  | [], _ => rfl
  | r :: R, h => by
    rw [List.map_cons, List.sum_cons, h r (List.mem_cons_self ..), sumI_zero fun x hx => h x (List.mem_cons_of_mem _ hx)]
theorem freeL_has {W H : Int} {C : ByteArray} {x : Int} (h : freeV W H C x = true) : x ∈ freeL W H C := by
  obtain ⟨hg, n, rfl, hn⟩ := free_in h
  have h64 := gok_most hg
  unfold freeL picks
  rw [Nat.min_eq_left h64]
  exact List.mem_map.2 ⟨n, List.mem_filter.2 ⟨List.mem_range.2 hn, h⟩, rfl⟩
theorem freeL_nd (W H : Int) (C : ByteArray) : (freeL W H C).Nodup := by
  unfold freeL picks
  refine List.Pairwise.map _ (fun a b h => ?_) (List.Pairwise.filter _ List.nodup_range)
  omega
theorem homesL_nodup (W H : Int) (C : ByteArray) : (homesL W H C).Nodup := List.Pairwise.filter _ (freeL_nd W H C)
theorem homesL_mem {W H : Int} {C : ByteArray} {x : Int} (h : x ∈ homesL W H C) : homeV W H C x = x ∧ 0 ≤ x := by
  have h1 := (List.mem_filter.1 h).2
  have e : homeV W H C x = x := of_decide_eq_true h1
  have h2 : x ∈ freeL W H C := (List.mem_filter.1 h).1
  unfold freeL picks at h2
  obtain ⟨n, _, rfl⟩ := List.mem_map.1 h2
  exact ⟨e, by omega⟩
theorem home_in {W H : Int} {C : ByteArray} {x : Int} (h : freeV W H C x = true) : homeV W H C x ∈ homesL W H C := by
  obtain ⟨_, n, rfl, _⟩ := free_in h
  obtain ⟨h1, h2⟩ := home_home h
  exact List.mem_filter.2 ⟨freeL_has h2, decide_eq_true h1⟩
theorem sumI_one {y : Int} : ∀ {R : List Int}, R.Nodup → y ∈ R → (R.map fun h => if y = h then 1 else 0).sum = 1
  | [], _, h => by cases h
  | r :: R, hn, h => by
    obtain ⟨h1, h2⟩ := List.nodup_cons.1 hn
    rw [List.map_cons, List.sum_cons]
    by_cases e : y = r
    · subst e
      rw [if_pos rfl]
      have : (R.map fun h => if y = h then 1 else 0).sum = 0 := sumI_zero fun u hu => if_neg (fun (e : y = u) => h1 (by rw [e]; exact hu))
      omega
    · rw [if_neg e]
      have := sumI_one h2 ((List.mem_cons.1 h).resolve_left e)
      omega
theorem sumI_add {R : List Int} (f g : Int → Nat) : (R.map fun h => f h + g h).sum = (R.map f).sum + (R.map g).sum := by
  induction R with
  | nil => rfl
  | cons r R ih =>
    simp only [List.map_cons, List.sum_cons, ih]
    omega
theorem sum_homes {W H : Int} {C : ByteArray} : ∀ {L : List Int}, (∀ x ∈ L, freeV W H C x = true) → ((homesL W H C).map fun h => cntHome W H C h L).sum = L.length
  | [], _ => sumI_zero fun _ _ => rfl
  | x :: L, hf => by
    have ih := sum_homes (fun y hy => hf y (List.mem_cons_of_mem _ hy))
    have h1 := sumI_one (homesL_nodup W H C) (home_in (hf x (List.mem_cons_self ..)))
    have e : (fun h => cntHome W H C h (x :: L)) = fun h => (if homeV W H C x = h then 1 else 0) + cntHome W H C h L := by
      funext h
      unfold cntHome
      rw [List.filter_cons]
      by_cases hh : homeV W H C x = h
      · simp [hh]; omega
      · simp [hh]
    rw [e, sumI_add, h1, ih, List.length_cons]
    omega
/-- The count of the first k homes. -/
noncomputable def sumTo (W H : Int) (C : ByteArray) (L : List Int) (k : Nat) : Nat := (((homesL W H C).take k).map fun h => cntHome W H C h L).sum
theorem sumTo_step {W H : Int} {C : ByteArray} {L : List Int} {k : Nat} {x : Int} (hx : (homesL W H C)[k]? = some x) : sumTo W H C L (k + 1) = sumTo W H C L k + cntHome W H C x L := by
  obtain ⟨hi, rfl⟩ := List.getElem?_eq_some_iff.1 hx
  unfold sumTo
  rw [List.take_succ_eq_append_getElem hi, List.map_append, List.sum_append]
  simp
theorem sumTo_le (W H : Int) (C : ByteArray) (L : List Int) (k : Nat) : sumTo W H C L k ≤ k * L.length := by
  induction k with
  | zero => simp [sumTo]
  | succ k ih =>
    by_cases hk : k < (homesL W H C).length
    · rw [sumTo_step (List.getElem?_eq_getElem hk), Nat.succ_mul]
      have : cntHome W H C (homesL W H C)[k] L ≤ L.length := List.length_filter_le _ _
      omega
    · have e : sumTo W H C L (k + 1) = sumTo W H C L k := by
        unfold sumTo
        rw [List.take_of_length_le (by omega), List.take_of_length_le (by omega)]
      rw [e, Nat.succ_mul]
      omega
theorem sumTo_all {W H : Int} {C : ByteArray} {L : List Int} (h : ∀ x ∈ L, freeV W H C x = true) : sumTo W H C L (homesL W H C).length = L.length := by
  unfold sumTo
  rw [List.take_length]
  exact sum_homes h
theorem countV_home {W H : Int} {C : ByteArray} {x : Int} {L : List Int} (hg : gok W H C = true) (h : x ∈ homesL W H C) : countV W H C x L = cntHome W H C x L := by
  obtain ⟨h1, h2⟩ := homesL_mem h
  unfold countV
  rw [if_pos ⟨hg, h1, h2⟩]
  rfl
theorem countV_nil {W H : Int} {C : ByteArray} (x : Int) : countV W H C x [] = 0 := by
  unfold countV
  split <;> rfl
theorem countV_ge {W H : Int} {C : ByteArray} (x : Int) (L : List Int) : 0 ≤ countV W H C x L := by
  unfold countV
  split <;> omega
theorem enough_same {W H : Int} {C : ByteArray} {L : List Int} (hg : gok W H C = true) (h : ∀ x ∈ L, freeV W H C x = true) : enoughV W H C L L = true := by
  unfold enoughV
  rw [hg, List.all_eq_true.2 h]
  simp
theorem enough_none {W H : Int} {C : ByteArray} {L : List Int} (hg : gok W H C = true) (h : ∀ x ∈ L, freeV W H C x = true) : enoughV W H C L [] = true := by
  unfold enoughV
  rw [hg, List.all_eq_true.2 h]
  simp only [Bool.true_and, List.all_nil]
  rw [List.all_eq_true]
  intro x _
  exact decide_eq_true (by rw [countV_nil]; exact countV_ge x L)

end Go.Proofs.YtieipekhckambaaDoor

namespace Go.Proofs.YtieipekhckambaaDoor
set_option maxRecDepth 4096

/-- Which places of the list bear a number. -/
def reachP (F : List Int) (d : Nat) : Bool := !decide (F.getD d (-1) = -1)
/-- The cells that can be reached from c, in ascending order. -/
noncomputable def reachL (W H : Int) (C : ByteArray) (c : Int) : List Int := picks (reachP (stepsL W H C [c])) (stepsL W H C [c]).length

theorem reachP_at {F : List Int} {k : Nat} {x : Int} (h : F[k]? = some x) : reachP F k = !decide (x = -1) := by
  unfold reachP
  rw [List.getD_eq_getElem?_getD, h]
  rfl
theorem steps_few (W H : Int) (C : ByteArray) (L : List Int) : (stepsL W H C L).length ≤ 64 := by
  unfold stepsL
  split
  · rename_i h
    rw [rowO_len]
    exact gok_few2 h.1
  · exact Nat.zero_le _
theorem reach_len (W H : Int) (C : ByteArray) (c : Int) : (reachL W H C c).length ≤ 64 := Nat.le_trans (picks_len _ _) (steps_few W H C [c])

section
variable {W H : Int} {C : ByteArray}
theorem reach_no {c : Int} (h : ¬ freeV W H C c = true) : reachL W H C c = [] := by
  have e : stepsL W H C [c] = [] := if_neg (fun k => h (k.2 c (by simp)))
  unfold reachL
  rw [e]
  rfl
theorem reach_row {a : Nat} (ha : freeV W H C a = true) : stepsL W H C [(a : Int)] = rowO (farF W H C a) C.size :=
  if_pos ⟨(free_in ha).1, fun x hx => by rw [List.mem_singleton.1 hx]; exact ha⟩
theorem picks_mem {p : Nat → Bool} {n : Nat} {x : Int} : x ∈ picks p n ↔ ∃ d : Nat, x = d ∧ d < n ∧ p d = true := by
  unfold picks
  constructor
  · intro h
    obtain ⟨d, hd, rfl⟩ := List.mem_map.1 h
    have := List.mem_filter.1 hd
    exact ⟨d, rfl, List.mem_range.1 this.1, this.2⟩
  · rintro ⟨d, rfl, hd, hp⟩
    exact List.mem_map.2 ⟨d, List.mem_filter.2 ⟨List.mem_range.2 hd, hp⟩, rfl⟩
theorem picks_up (p : Nat → Bool) (n : Nat) : (picks p n).Pairwise (· < ·) := by
  unfold picks
  refine List.Pairwise.map _ (fun a b h => ?_) (List.Pairwise.filter _ List.pairwise_lt_range)
  omega
theorem reach_mem {a : Nat} (ha : freeV W H C a = true) {x : Int} : x ∈ reachL W H C a ↔ ∃ d : Nat, x = d ∧ d < C.size ∧ 0 ≤ farF W H C a d := by
  unfold reachL
  rw [reach_row ha, picks_mem, rowO_len]
  constructor
  · rintro ⟨d, rfl, hd, hp⟩
    refine ⟨d, rfl, hd, ?_⟩
    rw [reachP_at (rowO_at _ hd)] at hp
    rcases far_val ha d with h | h
    · rw [h] at hp; cases hp
    · exact h
  · rintro ⟨d, rfl, hd, h0⟩
    refine ⟨d, rfl, hd, ?_⟩
    rw [reachP_at (rowO_at _ hd)]
    have : ¬ farF W H C a d = -1 := by omega
    simp [this]
/-- What can be reached from a free cell are the free cells of the same home. -/
theorem reach_home {a x : Int} (ha : freeV W H C a = true) : x ∈ reachL W H C a ↔ freeV W H C x = true ∧ homeV W H C x = homeV W H C a := by
  obtain ⟨_, a, rfl, _⟩ := free_in ha
  rw [reach_mem ha]
  constructor
  · rintro ⟨d, rfl, _, h0⟩
    have hd := far_free ha h0
    refine ⟨hd, ?_⟩
    rw [homeV_free hd, homeV_free ha, home_same ha hd h0]
  · rintro ⟨hx, he⟩
    obtain ⟨_, d, rfl, hd⟩ := free_in hx
    refine ⟨d, rfl, hd, ?_⟩
    rw [home_iff hx ha, stepsTo_far hx ha] at he
    exact he
theorem reach_in {a x : Int} (h : x ∈ reachL W H C a) : ∃ d : Nat, x = d ∧ d < C.size := by
  by_cases ha : freeV W H C a = true
  · obtain ⟨_, d, rfl, hd⟩ := free_in ((reach_home ha).1 h).1
    exact ⟨d, rfl, hd⟩
  · rw [reach_no ha] at h
    cases h
/-- The first of them is the home. -/
theorem reach_first {a : Int} (ha : freeV W H C a = true) : (reachL W H C a)[0]? = some (homeV W H C a) := by
  obtain ⟨_, n, rfl, _⟩ := free_in ha
  obtain ⟨e1, f1⟩ := home_home ha
  have hm : homeV W H C n ∈ reachL W H C n := (reach_home ha).2 ⟨f1, e1⟩
  have hu : (reachL W H C n).Pairwise (· < ·) := picks_up _ _
  cases hR : reachL W H C n with
  | nil => rw [hR] at hm; cases hm
  | cons r R =>
    rw [hR] at hm hu
    have hr : r ∈ reachL W H C n := by rw [hR]; exact List.mem_cons_self ..
    obtain ⟨f2, e2⟩ := (reach_home ha).1 hr
    obtain ⟨_, m, rfl, _⟩ := free_in f2
    have h2 := (homeV_le f2).2
    rw [e2] at h2
    rcases List.mem_cons.1 hm with h | h
    · rw [h]; rfl
    · have := (List.pairwise_cons.1 hu).1 _ h
      omega
theorem reach_head {a z : Int} (hz : homeV W H C a = z) : (reachL W H C a = [] ∧ z = -1) ∨ (1 ≤ (reachL W H C a).length ∧ (reachL W H C a)[0]? = some z) := by
  by_cases ha : freeV W H C a = true
  · have h := reach_first ha
    rw [hz] at h
    exact .inr ⟨(List.getElem?_eq_some_iff.1 h).1, h⟩
  · exact .inl ⟨reach_no ha, hz.symm.trans (homeV_no ha)⟩

/-- The cells of a list that lie ahead of place k, the list ascending. -/
theorem take_lt {L : List Int} (hs : L.Pairwise (· < ·)) {k : Nat} {c : Int} (h : L[k]? = some c) (x : Int) : x ∈ L.take k ↔ x ∈ L ∧ x < c := by
  obtain ⟨hk, rfl⟩ := List.getElem?_eq_some_iff.1 h
  constructor
  · intro hx
    refine ⟨List.mem_of_mem_take hx, ?_⟩
    obtain ⟨i, hi, rfl⟩ := List.getElem_of_mem hx
    rw [List.getElem_take]
    rw [List.length_take] at hi
    exact List.pairwise_iff_getElem.1 hs i k (by omega) hk (by omega)
  · rintro ⟨hx, hlt⟩
    obtain ⟨i, hi, rfl⟩ := List.getElem_of_mem hx
    have hik : i < k := by
      rcases Nat.lt_or_ge i k with h1 | h1
      · exact h1
      · rcases Nat.eq_or_lt_of_le h1 with h2 | h2
        · subst h2; omega
        · have := List.pairwise_iff_getElem.1 hs k i hk hi h2
          omega
    rw [← List.getElem_take (h := by rw [List.length_take]; omega) (j := k)]
    exact List.getElem_mem _
theorem freeL_up (W H : Int) (C : ByteArray) : (freeL W H C).Pairwise (· < ·) := picks_up _ _
theorem freeL_mem {x : Int} : x ∈ freeL W H C ↔ freeV W H C x = true := by
  constructor
  · intro h
    obtain ⟨d, rfl, _, hp⟩ := picks_mem.1 h
    exact hp
  · exact freeL_has
theorem homesL_iff {x : Int} : x ∈ homesL W H C ↔ x ∈ freeL W H C ∧ homeV W H C x = x := by
  unfold homesL isHome
  rw [List.mem_filter, decide_eq_true_eq]

/-- The cells whose component has been met. -/
noncomputable def metP (W H : Int) (C : ByteArray) (S : List Int) (j : Nat) : Bool := freeV W H C j && S.contains (homeV W H C j)
/-- A cell that is visited is met already just if it is not its own home. -/
theorem met_here {k : Nat} {c : Nat} (h : (freeL W H C)[k]? = some (c : Int)) : metP W H C ((freeL W H C).take k) c = !decide (homeV W H C c = c) := by
  have hf : freeV W H C c = true := freeL_mem.1 (List.mem_of_getElem? h)
  have hle := (homeV_le hf).2
  have hin : homeV W H C c ∈ freeL W H C := freeL_mem.2 (home_home hf).2
  unfold metP
  rw [hf, Bool.true_and, Bool.eq_iff_iff, List.contains_iff_mem, take_lt (freeL_up W H C) h]
  simp only [Bool.not_eq_true', decide_eq_false_iff_not]
  constructor
  · rintro ⟨_, h1⟩; omega
  · intro h1; exact ⟨hin, by omega⟩
theorem take_snoc {L : List Int} {k : Nat} {c : Int} (h : L[k]? = some c) : L.take (k + 1) = L.take k ++ [c] := by
  obtain ⟨hk, rfl⟩ := List.getElem?_eq_some_iff.1 h
  exact List.take_succ_eq_append_getElem hk
theorem met_old {S : List Int} {c : Int} (hc : ¬ homeV W H C c = c) : metP W H C (S ++ [c]) = metP W H C S := by
  funext j
  unfold metP
  by_cases hf : freeV W H C j = true
  · have hne : ¬ homeV W H C j = c := fun e => hc (by rw [← e]; exact (home_home hf).1)
    rw [Bool.eq_iff_iff]
    simp [hne]
  · simp [hf]
theorem met_new {S : List Int} {c : Int} (hf : freeV W H C c = true) (hc : homeV W H C c = c) : metP W H C (S ++ [c]) = fun j => metP W H C S j || (reachL W H C c).contains (j : Int) := by
  funext j
  rw [Bool.eq_iff_iff, Bool.or_eq_true, List.contains_iff_mem, reach_home hf, hc]
  unfold metP
  simp only [Bool.and_eq_true, List.contains_iff_mem, List.mem_append, List.mem_singleton]
  constructor
  · rintro ⟨h1, h2 | h2⟩
    · exact .inl ⟨h1, h2⟩
    · exact .inr ⟨h1, h2⟩
  · rintro (⟨h1, h2⟩ | ⟨h1, h2⟩)
    · exact ⟨h1, .inl h2⟩
    · exact ⟨h1, .inr h2⟩
theorem met_none : metP W H C [] = fun _ => false := by
  funext j
  unfold metP
  simp

/-- How many of a list lie in a component. -/
theorem count_home {h : Int} (hh : h ∈ homesL W H C) (L : List Int) : ((L.filter fun c => (reachL W H C h).contains c).length : Int) = countV W H C h L := by
  obtain ⟨h1, h2⟩ := homesL_iff.1 hh
  have hf := freeL_mem.1 h1
  obtain ⟨hg, n, rfl, _⟩ := free_in hf
  unfold countV
  rw [if_pos ⟨hg, h2, by omega⟩]
  have e : (fun c => (reachL W H C n).contains c) = fun c => decide (homeV W H C c = n) := by
    funext c
    rw [Bool.eq_iff_iff, List.contains_iff_mem, reach_home hf, h2, decide_eq_true_eq]
    constructor
    · exact fun h => h.2
    · intro h
      refine ⟨?_, h⟩
      by_cases hc : freeV W H C c = true
      · exact hc
      · rw [homeV_no hc] at h; omega
  rw [e]
theorem count_no {h : Int} (hh : ¬ h ∈ homesL W H C) (L : List Int) : countV W H C h L = 0 := by
  unfold countV
  rw [if_neg]
  rintro ⟨hg, h1, h2⟩
  refine hh (homesL_iff.2 ⟨freeL_mem.2 ?_, h1⟩)
  by_cases hc : freeV W H C h = true
  · exact hc
  · rw [homeV_no hc] at h1; omega
end

end Go.Proofs.YtieipekhckambaaDoor
