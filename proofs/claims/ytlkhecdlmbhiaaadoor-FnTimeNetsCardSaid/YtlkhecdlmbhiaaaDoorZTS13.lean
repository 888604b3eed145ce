/-
  The networks of a map in time are right ones. Plain facts; no statement is proved here.
-/
import Derived.Test.YtlkhecdlmbhiaaaDoorZTS12
namespace Go.Proofs.YtlkhecdlmbhiaaaDoor
set_option maxRecDepth 4096

theorem flat_len {α : Type} (g : Nat → List α) (c : Nat) : ∀ n : Nat, (∀ k, k < n → (g k).length ≤ c) → ((List.range n).flatMap g).length ≤ n * c
  | 0, _ => by simp
  | n + 1, h => by
    rw [List.range_succ, List.flatMap_append, List.length_append, Nat.succ_mul]
    have := flat_len g c n fun k hk => h k (by omega)
    have := h n (by omega)
    simp only [List.flatMap_cons, List.flatMap_nil, List.append_nil]
    omega
section
variable {m : MapD} {sl : List Nat} {gl : Nat → Bool} {R : Int} {T : Nat} {strict : Bool}
theorem pair_len (t : Nat) : ∀ (L : List (Nat × Nat)) (p : Nat), (pairA m t p L).length = 5 * L.length
  | [], _ => rfl
  | (a, b) :: L, p => by
    simp only [pairA, List.length_cons, pair_len t L (p + 2)]
    omega
theorem count_le {L : List Nat} : ∀ n : Nat, sumL (fun k => if decide (k ∈ L) = true then (1 : Int) else 0) n ≤ (L.length : Int) := by
  intro n
  have key : ∀ n, sumL (fun k => if decide (k ∈ L) = true then (1 : Int) else 0) n = (((List.range n).filter fun k => decide (k ∈ L)).length : Int) := fun n => by
    induction n with
    | zero => rfl
    | succ n ih =>
      rw [List.range_succ, List.filter_append, List.length_append]
      simp only [sumL, ih]
      by_cases h : n ∈ L <;> simp [h]
  rw [key]
  have h1 : ((List.range n).filter fun k => decide (k ∈ L)).Nodup := List.Pairwise.filter _ List.nodup_range
  have h2 : ∀ {A B : List Nat}, A.Nodup → (∀ x ∈ A, x ∈ B) → A.length ≤ B.length := fun {A} => by
    induction A with
    | nil => intro B _ _; simp
    | cons a A ih =>
      intro B hn hs
      obtain ⟨ha, hn⟩ := List.nodup_cons.1 hn
      have hb := hs a (List.mem_cons_self ..)
      have := ih (B := B.erase a) hn fun x hx => (List.mem_erase_of_ne (fun e => ha (by rw [← e]; exact hx))).2 (hs x (List.mem_cons_of_mem _ hx))
      rw [List.length_erase_of_mem hb] at this
      have : 0 < B.length := List.length_pos_of_mem hb
      simp only [List.length_cons]
      omega
  have := h2 h1 fun x hx => of_decide_eq_true (List.mem_filter.1 hx).2
  omega
theorem sumP_const : ∀ L : List (Nat × Nat), sumP (fun _ _ => 1 + 1) L = 2 * (L.length : Int)
  | [] => rfl
  | (a, b) :: L => by
    simp only [sumP, sumP_const L, List.length_cons]
    omega
/-- Each cell has at most four neighbours: so many pairs. -/
theorem pl_len (hm : MapOk m) (h4 : ∀ i, i < m.F → (m.ar i).length ≤ 4) : m.pl.length ≤ 2 * m.F := by
  have h1 := sumP_pl (fun _ _ => 1 + 1) m
  rw [sumP_const, sumL_pairs (adj := adjB m) hm.sym hm.irr (fun _ _ => (1 : Int))] at h1
  have h2 : sumL (fun i => sumL (fun k => if adjB m i k = true then (1 : Int) else 0) m.F) m.F ≤ sumL (fun _ => 4) m.F := sumL_le fun i hi => by
    have := count_le (L := m.ar i) m.F
    have := h4 i hi
    unfold adjB
    omega
  have h3 : ∀ n, sumL (fun _ => 4) n = 4 * (n : Int) := fun n => by
    induction n with
    | zero => rfl
    | succ n ih => simp only [sumL, ih]; omega
  rw [h3] at h2
  omega
theorem cell_len (h4 : ∀ i, i < m.F → (m.ar i).length ≤ 4) {t k : Nat} (hk : k < m.F) : (cellA m T t strict k).length ≤ (if strict = true then 2 else 6) := by
  unfold cellA
  have := h4 k hk
  cases strict with
  | true =>
    split <;> simp
  | false =>
    split
    · simp
    · simp only [Bool.false_eq_true, if_false, List.length_cons, List.length_map]
      omega
theorem arc_in {f t : Nat} {c : Int} {N : Nat} (hf : f < N) (ht : t < N) (hne : f ≠ t) (hc : 0 ≤ c ∧ c ≤ 100) : arcOk (N : Int) ⟨(f : Int), (t : Int), 1, c⟩ = true := by
  unfold arcOk
  simp only [Bool.and_eq_true, Bool.not_eq_true', decide_eq_false_iff_not, inV_iff]
  omega
theorem pair_ok {N t : Nat} (hn : ∀ k, k < m.F → inN m.F k t + 1 < N ∧ inN m.F k (t + 1) < N) : ∀ (L : List (Nat × Nat)) (p : Nat), p + 2 * L.length ≤ N → (∀ a b, (a, b) ∈ L → a < m.F ∧ b < m.F) → (∀ k, k < m.F → inN m.F k (t + 1) < p) → (∀ k, k < m.F → inN m.F k t + 1 < p) → ∀ x ∈ pairA m t p L, arcOk (N : Int) x = true
  | [], _, _, _, _, _, x, hx => by cases hx
  | (a, b) :: L, p, hp, hL, hi, ho, x, hx => by
    obtain ⟨ha, hb⟩ := hL a b (List.mem_cons_self ..)
    have a1 := hi a ha
    have a2 := ho a ha
    have b1 := hi b hb
    have b2 := ho b hb
    simp only [List.length_cons] at hp
    simp only [pairA, List.mem_cons] at hx
    rcases hx with rfl | rfl | rfl | rfl | rfl | hx
    · exact arc_in (by omega) (by omega) (by omega) (by decide)
    · exact arc_in (by omega) (by omega) (by omega) (by decide)
    · exact arc_in (by omega) (by omega) (by omega) (by decide)
    · exact arc_in (by omega) (by omega) (by omega) (by decide)
    · exact arc_in (by omega) (by omega) (by omega) (by decide)
    · exact pair_ok hn L (p + 2) (by omega) (fun a b h => hL a b (List.mem_cons_of_mem _ h)) (fun k hk => by have := hi k hk; omega) (fun k hk => by have := ho k hk; omega) x hx
theorem time_ok (hm : MapOk m) (h4 : ∀ i, i < m.F → (m.ar i).length ≤ 4) (hF : m.F * (T + 1) ≤ 240) (hs : sl.length ≤ 10) (hsl : ∀ k ∈ sl, k < m.F) (hR : 0 ≤ R ∧ R ≤ 20) : netOkV (timeN m T strict) (timeA m sl gl R T strict) = true := by
  have hpl := pl_len hm h4
  have hFT : m.F * (T + 1) = m.F * T + m.F := by rw [Nat.mul_add, Nat.mul_one]
  have hpT : m.pl.length * T ≤ 2 * (m.F * T) := by
    have := Nat.mul_le_mul_right T hpl
    rw [Nat.mul_assoc] at this
    exact this
  have hbase : baseN m T = 3 + 2 * (m.F * (T + 1)) := by unfold baseN; rw [Nat.mul_assoc]
  have hN : timeN m T strict ≤ 1500 ∧ baseN m T ≤ timeN m T strict := by
    unfold timeN
    rw [Nat.mul_assoc]
    split <;> omega
  have hnode : ∀ k t, k < m.F → t ≤ T → inN m.F k t + 1 < timeN m T strict := fun k t hk ht => by
    have := inN_base (m := m) (T := T) hk ht
    omega
  have hlt : ∀ j k t, k < m.F → inN m.F k t + 1 < inN m.F j (t + 1) := fun j k t hk => by
    have : (t + 1) * m.F = t * m.F + m.F := Nat.succ_mul ..
    unfold inN
    omega
  have hlen : (timeA m sl gl R T strict).length ≤ 3200 := by
    have hcell : ∀ t, ((List.range m.F).flatMap (cellA m T t strict)).length ≤ m.F * (if strict = true then 2 else 6) := fun t => flat_len _ _ _ fun k hk => cell_len h4 hk
    have hlay : ((List.range T).flatMap (layA m T strict)).length ≤ T * (m.F * (if strict = true then 2 else 6) + (if strict = true then 5 * m.pl.length else 0)) := flat_len _ _ _ fun t ht => by
      unfold layA
      rw [List.length_append]
      have := hcell t
      have hp : ((if t = T ∨ strict = false then [] else pairA m t (baseN m T + 2 * t * m.pl.length) m.pl) : List ArcD).length ≤ (if strict = true then 5 * m.pl.length else 0) := by
        cases strict with
        | true =>
          split
          · simp
          · rw [pair_len, if_pos rfl]
            exact Nat.le_refl _
        | false => simp
      omega
    have hlast : (layA m T strict T).length ≤ m.F * (if strict = true then 2 else 6) := by
      unfold layA
      rw [if_pos (.inl rfl), List.append_nil]
      exact hcell T
    have hpT2 : T * (5 * m.pl.length) ≤ 10 * (m.F * T) := by
      have e : T * (5 * m.pl.length) = 5 * (m.pl.length * T) := by rw [Nat.mul_comm, Nat.mul_assoc]
      omega
    unfold timeA
    rw [List.length_append, List.length_append, List.length_append, List.length_map, List.length_map, List.length_range, List.range_succ, List.flatMap_append, List.length_append]
    simp only [List.flatMap_cons, List.flatMap_nil, List.append_nil, List.length_cons, List.length_nil]
    have e1 : T * (m.F * 2) = 2 * (m.F * T) := by rw [Nat.mul_comm m.F 2, Nat.mul_left_comm, Nat.mul_comm T]
    have e2 : T * (m.F * 6) = 6 * (m.F * T) := by rw [Nat.mul_comm m.F 6, Nat.mul_left_comm, Nat.mul_comm T]
    cases strict with
    | true =>
      simp only [if_true, Nat.mul_add] at hlay hlast
      omega
    | false =>
      simp only [Bool.false_eq_true, if_false, Nat.add_zero] at hlay hlast
      omega
  unfold netOkV
  rw [Bool.and_eq_true, Bool.and_eq_true]
  refine ⟨inV_iff.2 (by have := hN.2; unfold baseN at this; omega), decide_eq_true hlen, ?_⟩
  rw [List.all_eq_true]
  intro x hx
  unfold timeA at hx
  have hN3 : 3 ≤ timeN m T strict := by have := hN.2; unfold baseN at this; omega
  rcases List.mem_append.1 hx with hx | hx
  · obtain ⟨k, hk, rfl⟩ := List.mem_map.1 hx
    have := hnode k 0 (hsl k hk) (Nat.zero_le _)
    exact arc_in (f := 0) (by omega) (by omega) (by unfold inN; omega) (by decide)
  · rcases List.mem_append.1 hx with hx | hx
    · obtain ⟨t, ht, hx⟩ := List.mem_flatMap.1 hx
      have ht : t < T + 1 := List.mem_range.1 ht
      unfold layA at hx
      rcases List.mem_append.1 hx with hx | hx
      · obtain ⟨k, hk, hx⟩ := List.mem_flatMap.1 hx
        have hk : k < m.F := List.mem_range.1 hk
        have n1 := hnode k t hk (by omega)
        unfold cellA at hx
        rcases List.mem_cons.1 hx with rfl | hx
        · exact arc_in (by omega) (by omega) (by omega) (by decide)
        · split at hx
          · cases hx
          · rename_i hne
            have n2 := hnode k (t + 1) hk (by omega)
            rcases List.mem_cons.1 hx with rfl | hx
            · have := hlt k k t hk
              exact arc_in (by omega) (by omega) (by omega) (by decide)
            · split at hx
              · cases hx
              · obtain ⟨j, hj, rfl⟩ := List.mem_map.1 hx
                have hjF := hm.lt k hk j hj
                have n3 := hnode j (t + 1) hjF (by omega)
                have := hlt j k t hk
                exact arc_in (by omega) (by omega) (by omega) (by decide)
      · split at hx
        · cases hx
        · rename_i hns
          obtain ⟨hne, hst⟩ : ¬ t = T ∧ strict = true := by
            refine ⟨fun e => hns (.inl e), ?_⟩
            cases strict with
            | true => rfl
            | false => exact absurd (.inr rfl) hns
          have htT : t + 1 ≤ T := by omega
          have hle : (t + 1) * m.pl.length ≤ T * m.pl.length := Nat.mul_le_mul_right _ htT
          have hNs : timeN m T strict = baseN m T + 2 * (T * m.pl.length) := by
            unfold timeN
            rw [if_pos hst, Nat.mul_assoc, Nat.mul_comm m.pl.length T]
          refine pair_ok (N := timeN m T strict) (t := t) (fun k hk => ⟨hnode k t hk (by omega), by have := hnode k (t + 1) hk htT; omega⟩) m.pl _ ?_ (fun a b h => ⟨(pl_mem h).1, (pl_mem h).2.1⟩) (fun k hk => by have := inN_base (m := m) (T := T) hk htT; omega) (fun k hk => by have := inN_base (m := m) (T := T) hk (show t ≤ T by omega); omega) x hx
          rw [hNs, Nat.mul_assoc]
          rw [Nat.succ_mul] at hle
          omega
    · rcases List.mem_append.1 hx with hx | hx
      · obtain ⟨k, hk, rfl⟩ := List.mem_map.1 hx
        have hk : k < m.F := List.mem_range.1 hk
        have n1 := hnode k T hk (Nat.le_refl _)
        refine arc_in (by omega) (by split <;> omega) ?_ (by decide)
        unfold inN
        split <;> omega
      · rw [List.mem_singleton.1 hx]
        unfold arcOk
        simp only [Bool.and_eq_true, Bool.not_eq_true', decide_eq_false_iff_not, inV_iff]
        omega
end

end Go.Proofs.YtlkhecdlmbhiaaaDoor

