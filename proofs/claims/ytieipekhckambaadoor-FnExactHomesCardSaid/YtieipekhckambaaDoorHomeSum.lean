/-
  Plain facts: each free cell is counted in one component. No statement is proved here.
-/
import Derived.Test.YtieipekhckambaaDoorSpecCount
namespace Go.Proofs.YtieipekhckambaaDoor
set_option maxRecDepth 4096

theorem sumI_zero {f : Int → Nat} : ∀ {R : List Int}, (∀ h ∈ R, f h = 0) → (R.map f).sum = 0
  | [], _ => rfl
  | r :: R, h => by
    rw [List.map_cons, List.sum_cons, h r (List.mem_cons_self ..), sumI_zero fun x hx => h x (List.mem_cons_of_mem _ hx)]
theorem freeL_has {W H : Int} {C : ByteArray} {x : Int} (h : freeV W H C x = true) : x ∈ freeL W H C := by
  obtain ⟨hg, n, rfl, hn⟩ := free_in h
  have h64 := gok_most hg
  unfold freeL picks
  rw [Nat.min_eq_left h64]
  exact List.mem_map.2 ⟨n, List.mem_filter.2 ⟨List.mem_range.2 hn, h⟩, rfl⟩
theorem freeL_nd (W H : Int) (C : ByteArray) : (freeL W H C).Nodup := by
  unfold freeL picks
  refine List.Pairwise.map _ (fun a b h => ?_) (List.Pairwise.filter _ List.nodup_range)
  omega
theorem homesL_nodup (W H : Int) (C : ByteArray) : (homesL W H C).Nodup := List.Pairwise.filter _ (freeL_nd W H C)
theorem homesL_mem {W H : Int} {C : ByteArray} {x : Int} (h : x ∈ homesL W H C) : homeV W H C x = x ∧ 0 ≤ x := by
  have h1 := (List.mem_filter.1 h).2
  have e : homeV W H C x = x := of_decide_eq_true h1
  have h2 : x ∈ freeL W H C := (List.mem_filter.1 h).1
  unfold freeL picks at h2
  obtain ⟨n, _, rfl⟩ := List.mem_map.1 h2
  exact ⟨e, by omega⟩
theorem home_in {W H : Int} {C : ByteArray} {x : Int} (h : freeV W H C x = true) : homeV W H C x ∈ homesL W H C := by
  obtain ⟨_, n, rfl, _⟩ := free_in h
  obtain ⟨h1, h2⟩ := home_home h
  exact List.mem_filter.2 ⟨freeL_has h2, decide_eq_true h1⟩
theorem sumI_one {y : Int} : ∀ {R : List Int}, R.Nodup → y ∈ R → (R.map fun h => if y = h then 1 else 0).sum = 1
  | [], _, h => by cases h
  | r :: R, hn, h => by
    obtain ⟨h1, h2⟩ := List.nodup_cons.1 hn
    rw [List.map_cons, List.sum_cons]
    by_cases e : y = r
    · subst e
      rw [if_pos rfl]
      have : (R.map fun h => if y = h then 1 else 0).sum = 0 := sumI_zero fun u hu => if_neg (fun (e : y = u) => h1 (by rw [e]; exact hu))
      omega
    · rw [if_neg e]
      have := sumI_one h2 ((List.mem_cons.1 h).resolve_left e)
      omega
theorem sumI_add {R : List Int} (f g : Int → Nat) : (R.map fun h => f h + g h).sum = (R.map f).sum + (R.map g).sum := by
  induction R with
  | nil => rfl
  | cons r R ih =>
    simp only [List.map_cons, List.sum_cons, ih]
    omega
theorem sum_homes {W H : Int} {C : ByteArray} : ∀ {L : List Int}, (∀ x ∈ L, freeV W H C x = true) → ((homesL W H C).map fun h => cntHome W H C h L).sum = L.length
  | [], _ => sumI_zero fun _ _ => rfl
  | x :: L, hf => by
    have ih := sum_homes (fun y hy => hf y (List.mem_cons_of_mem _ hy))
    have h1 := sumI_one (homesL_nodup W H C) (home_in (hf x (List.mem_cons_self ..)))
    have e : (fun h => cntHome W H C h (x :: L)) = fun h => (if homeV W H C x = h then 1 else 0) + cntHome W H C h L := by
      funext h
      unfold cntHome
      rw [List.filter_cons]
      by_cases hh : homeV W H C x = h
      · simp [hh]; omega
      · simp [hh]
    rw [e, sumI_add, h1, ih, List.length_cons]
    omega
/-- The count of the first k homes. -/
noncomputable def sumTo (W H : Int) (C : ByteArray) (L : List Int) (k : Nat) : Nat := (((homesL W H C).take k).map fun h => cntHome W H C h L).sum
theorem sumTo_step {W H : Int} {C : ByteArray} {L : List Int} {k : Nat} {x : Int} (hx : (homesL W H C)[k]? = some x) : sumTo W H C L (k + 1) = sumTo W H C L k + cntHome W H C x L := by
  obtain ⟨hi, rfl⟩ := List.getElem?_eq_some_iff.1 hx
  unfold sumTo
  rw [List.take_succ_eq_append_getElem hi, List.map_append, List.sum_append]
  simp
theorem sumTo_le (W H : Int) (C : ByteArray) (L : List Int) (k : Nat) : sumTo W H C L k ≤ k * L.length := by
  induction k with
  | zero => simp [sumTo]
  | succ k ih =>
    by_cases hk : k < (homesL W H C).length
    · rw [sumTo_step (List.getElem?_eq_getElem hk), Nat.succ_mul]
      have : cntHome W H C (homesL W H C)[k] L ≤ L.length := List.length_filter_le _ _
      omega
    · have e : sumTo W H C L (k + 1) = sumTo W H C L k := by
        unfold sumTo
        rw [List.take_of_length_le (by omega), List.take_of_length_le (by omega)]
      rw [e, Nat.succ_mul]
      omega
theorem sumTo_all {W H : Int} {C : ByteArray} {L : List Int} (h : ∀ x ∈ L, freeV W H C x = true) : sumTo W H C L (homesL W H C).length = L.length := by
  unfold sumTo
  rw [List.take_length]
  exact sum_homes h
theorem countV_home {W H : Int} {C : ByteArray} {x : Int} {L : List Int} (hg : gok W H C = true) (h : x ∈ homesL W H C) : countV W H C x L = cntHome W H C x L := by
  obtain ⟨h1, h2⟩ := homesL_mem h
  unfold countV
  rw [if_pos ⟨hg, h1, h2⟩]
  rfl
theorem countV_nil {W H : Int} {C : ByteArray} (x : Int) : countV W H C x [] = 0 := by
  unfold countV
  split <;> rfl
theorem countV_ge {W H : Int} {C : ByteArray} (x : Int) (L : List Int) : 0 ≤ countV W H C x L := by
  unfold countV
  split <;> omega
theorem enough_same {W H : Int} {C : ByteArray} {L : List Int} (hg : gok W H C = true) (h : ∀ x ∈ L, freeV W H C x = true) : enoughV W H C L L = true := by
  unfold enoughV
  rw [hg, List.all_eq_true.2 h]
  simp
theorem enough_none {W H : Int} {C : ByteArray} {L : List Int} (hg : gok W H C = true) (h : ∀ x ∈ L, freeV W H C x = true) : enoughV W H C L [] = true := by
  unfold enoughV
  rw [hg, List.all_eq_true.2 h]
  simp only [Bool.true_and, List.all_nil]
  rw [List.all_eq_true]
  intro x _
  exact decide_eq_true (by rw [countV_nil]; exact countV_ge x L)

end Go.Proofs.YtieipekhckambaaDoor
