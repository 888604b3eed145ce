/-
  Labels that only fall, a bag of nodes whose steps are still to be tried: what is left at the end are the least lengths. Plain facts; no statement is proved here.
-/
import Derived.Test.YtobflidianlomaaFarM
namespace Go.Proofs.Ytobflidianlomaa
set_option maxRecDepth 4096

/-- The steps away from a node, in the order of the arcs: where to, how many units, the cost. -/
def awS (p : ArcD × Int) (u : Nat) : List (Nat × Int × Int) := (if p.1.f = (u : Int) then [(p.1.t.toNat, p.1.r - p.2, p.1.c)] else []) ++ (if p.1.t = (u : Int) then [(p.1.f.toNat, p.2, -p.1.c)] else [])
def rowS (P : List (ArcD × Int)) (u : Nat) : List (Nat × Int × Int) := P.flatMap fun p => awS p u
theorem awS_iff {p : ArcD × Int} {u : Nat} {e : Nat × Int × Int} : e ∈ awS p u ↔ (p.1.f = (u : Int) ∧ e = (p.1.t.toNat, p.1.r - p.2, p.1.c)) ∨ (p.1.t = (u : Int) ∧ e = (p.1.f.toNat, p.2, -p.1.c)) := by
  unfold awS
  rw [List.mem_append]
  by_cases h1 : p.1.f = (u : Int) <;> by_cases h2 : p.1.t = (u : Int) <;> simp [h1, h2]
theorem rowS_iff {P : List (ArcD × Int)} {u : Nat} {e : Nat × Int × Int} : e ∈ rowS P u ↔ ∃ p ∈ P, (p.1.f = (u : Int) ∧ e = (p.1.t.toNat, p.1.r - p.2, p.1.c)) ∨ (p.1.t = (u : Int) ∧ e = (p.1.f.toNat, p.2, -p.1.c)) := by
  unfold rowS
  rw [List.mem_flatMap]
  exact ⟨fun ⟨p, hp, he⟩ => ⟨p, hp, awS_iff.1 he⟩, fun ⟨p, hp, he⟩ => ⟨p, hp, awS_iff.2 he⟩⟩
theorem rowS_len (P : List (ArcD × Int)) (u : Nat) : (rowS P u).length ≤ 2 * P.length := by
  unfold rowS
  induction P with
  | nil => simp
  | cons p P ih =>
    have : (awS p u).length ≤ 2 := by
      unfold awS
      split <;> split <;> simp
    simp only [List.flatMap_cons, List.length_append, List.length_cons]
    omega
section
variable {P : List (ArcD × Int)} {n : Nat}
theorem stp_row {u v : Nat} {l : Int} (h : Stp P u v l) : ∃ e ∈ rowS P u, e.1 = v ∧ 0 < e.2.1 ∧ l = 10000 * e.2.2 + 1 := by
  cases h with
  | @fwd p _ _ hp h1 h2 hr => exact ⟨_, rowS_iff.2 ⟨p, hp, .inl ⟨h1, rfl⟩⟩, by simp only; omega, by simp only; omega, rfl⟩
  | @bwd p _ _ hp h1 h2 hr => exact ⟨_, rowS_iff.2 ⟨p, hp, .inr ⟨h1, rfl⟩⟩, by simp only; omega, hr, by simp only; omega⟩
theorem row_stp (hP : Fit P n) {u : Nat} {e : Nat × Int × Int} (h : e ∈ rowS P u) (h0 : 0 < e.2.1) : Stp P u e.1 (10000 * e.2.2 + 1) := by
  obtain ⟨p, hp, ⟨h1, rfl⟩ | ⟨h1, rfl⟩⟩ := rowS_iff.1 h
  · have := hP.1 _ hp
    exact .fwd hp h1 (by simp only; omega) (by simp only at h0; omega)
  · have := hP.1 _ hp
    have k := Stp.bwd (P := P) (u := u) (v := p.1.f.toNat) hp h1 (by omega) h0
    simp only
    rw [show 10000 * -p.1.c + 1 = 1 - 10000 * p.1.c by omega]
    exact k
theorem row_lt (hP : Fit P n) {u : Nat} {e : Nat × Int × Int} (h : e ∈ rowS P u) : e.1 < n ∧ -100 ≤ e.2.2 ∧ e.2.2 ≤ 100 := by
  obtain ⟨p, hp, ⟨h1, rfl⟩ | ⟨h1, rfl⟩⟩ := rowS_iff.1 h
  · have := hP.1 _ hp
    have := hP.2 _ hp
    simp only
    omega
  · have := hP.1 _ hp
    have := hP.2 _ hp
    simp only
    omega

def putE (D : Nat → Int) (v : Nat) (x : Int) (j : Nat) : Int := if j = v then x else D j
theorem putE_at (D : Nat → Int) (v : Nat) (x : Int) : putE D v x v = x := if_pos rfl
theorem putE_ne {D : Nat → Int} {v j : Nat} (x : Int) (h : j ≠ v) : putE D v x j = D j := if_neg h
/-- How far a label can still fall. -/
def fallN (d : Int) : Nat := if d = 1099511627776 then 3000003002 else (d + 1500001500).toNat
def fallS (D : Nat → Int) (n : Nat) : Nat := ((List.range n).map fun v => fallN (D v)).sum
theorem fallS_succ (D : Nat → Int) (n : Nat) : fallS D (n + 1) = fallS D n + fallN (D n) := by
  unfold fallS
  rw [List.range_succ]
  simp
theorem fallS_same {D E : Nat → Int} : ∀ {n : Nat}, (∀ v, v < n → D v = E v) → fallS D n = fallS E n
  | 0, _ => rfl
  | n + 1, h => by rw [fallS_succ, fallS_succ, fallS_same fun v hv => h v (by omega), h n (by omega)]
theorem fallS_put {D : Nat → Int} {v : Nat} {x : Int} : ∀ {n : Nat}, v < n → fallN x + 1 ≤ fallN (D v) → fallS (putE D v x) n + 1 ≤ fallS D n
  | 0, h, _ => by omega
  | n + 1, h, hx => by
    rw [fallS_succ, fallS_succ]
    by_cases e : v = n
    · subst e
      rw [putE_at, fallS_same (D := putE D v x) (E := D) fun j hj => putE_ne x (by omega)]
      omega
    · rw [putE_ne x (fun h => e h.symm)]
      have := fallS_put (D := D) (v := v) (x := x) (n := n) (by omega) hx
      omega
theorem fallS_le {D : Nat → Int} (h : ∀ v, fallN (D v) ≤ 3000003002) : ∀ n : Nat, fallS D n ≤ n * 3000003002
  | 0 => by simp [fallS]
  | n + 1 => by
    rw [fallS_succ]
    have := fallS_le h n
    have := h n
    omega

/-- The labels on the way to v's own label: each node once. -/
def Lab (n : Nat) (e D : Nat → Int) (v : Nat) : Prop :=
  ∃ L : List (Nat × Int), (L.map Prod.fst).Nodup ∧ (∀ q ∈ L, q.1 < n ∧ q.1 ≠ v ∧ D q.1 ≤ q.2 ∧ e v + q.2 ≤ e q.1 + D v) ∧ D v ≤ 1000001 * (L.length : Int)
/-- What holds of the labels D, with the bag Q; x is a node whose steps are being tried. -/
structure DI (P : List (ArcD × Int)) (n : Nat) (S : Nat → Prop) (e : Nat → Int) (x : Nat) (D : Nat → Int) (Q : List (Int × Int)) : Prop where
  wk : ∀ v, D v ≠ 1099511627776 → S v ∧ v < n ∧ (∃ k, Wk P k v (D v)) ∧ Lab n e D v
  zero : D 0 = 0
  q : ∀ p ∈ Q, ∃ u : Nat, p.2 = (u : Int) ∧ D u ≠ 1099511627776 ∧ D u - e u ≤ p.1
  pend : ∀ u, u ≠ x → D u ≠ 1099511627776 → (D u - e u, (u : Int)) ∈ Q ∨ ∀ v l, Stp P u v l → D v ≤ D u + l
  few : Q.length + fallS D n ≤ 4500004503001
variable {S : Nat → Prop} {e D : Nat → Int} {x u v : Nat} {Q Q' : List (Int × Int)} {l : Int}
theorem Lab.bd (h : Lab n e D v) (hn : n ≤ 1500) : D v ≤ 1500001500 := by
  obtain ⟨L, h1, h2, h3⟩ := h
  have := nodup_len n _ h1 (fun c hc => by
    obtain ⟨q, hq, rfl⟩ := List.mem_map.1 hc
    exact (h2 q hq).1)
  rw [List.length_map] at this
  omega
theorem DI.bd (hP : Fit P n) (hn : 0 < n) (h15 : n ≤ 1500) (hS : Feas P S e) (h : DI P n S e x D Q) (hv : D v ≠ 1099511627776) : -1500001500 ≤ D v ∧ D v ≤ 1500001500 := by
  obtain ⟨_, _, ⟨k, hw⟩, h4⟩ := h.wk v hv
  obtain ⟨d0, h5, h6⟩ := isD_ex hS hw
  have := isD_bd hP hn h15 h5
  have := h4.bd h15
  omega
theorem DI.le (hP : Fit P n) (hn : 0 < n) (h15 : n ≤ 1500) (hS : Feas P S e) (h : DI P n S e x D Q) (v : Nat) : -1500001500 ≤ D v ∧ D v ≤ 1099511627776 := by
  by_cases hv : D v = 1099511627776
  · omega
  · have := h.bd hP hn h15 hS hv
    omega
theorem DI.start (hn : 0 < n) (h15 : n ≤ 1500) (hS : Feas P S e) (he : e 0 = 0) : DI P n S e n (putE (fun _ => 1099511627776) 0 0) [(0, 0)] := by
  refine ⟨fun v hv => ?_, putE_at _ _ _, fun p hp => ?_, fun u _ hu => ?_, ?_⟩
  · by_cases h0 : v = 0
    · subst h0
      rw [putE_at]
      exact ⟨hS.zero, hn, ⟨0, Wk.nil⟩, [], by simp, by simp, by rw [putE_at]; simp⟩
    · rw [putE_ne _ h0] at hv
      exact absurd rfl hv
  · rw [List.mem_singleton.1 hp]
    exact ⟨0, rfl, by rw [putE_at]; decide, by rw [putE_at, he]; decide⟩
  · by_cases h0 : u = 0
    · subst h0
      rw [putE_at, he]
      exact .inl (by simp)
    · rw [putE_ne _ h0] at hu
      exact absurd rfl hu
  · have h1 : fallS (putE (fun _ => 1099511627776) 0 0) n ≤ n * 3000003002 := fallS_le (fun v => by
      by_cases e1 : v = 0
      · rw [e1, putE_at]; decide
      · rw [putE_ne _ e1]; decide) n
    simp only [List.length_cons, List.length_nil]
    omega
/-- An entry whose node has a shorter label by now. -/
theorem DI.skip {r : Int} (h : DI P n S e n D Q) (hQ : Q.Perm ((r, (u : Int)) :: Q')) (hr : D u - e u < r) : DI P n S e n D Q' := by
  refine ⟨h.wk, h.zero, fun p hp => h.q p (hQ.mem_iff.2 (List.mem_cons_of_mem _ hp)), fun w hw hd => (h.pend w hw hd).imp (fun hm => ?_) id, ?_⟩
  · rcases List.mem_cons.1 (hQ.mem_iff.1 hm) with e2 | e2
    · injection e2 with e3 e4
      have : w = u := by omega
      subst this
      omega
    · exact e2
  · have := hQ.length_eq
    have := h.few
    simp only [List.length_cons] at *
    omega
theorem DI.take {r : Int} (h : DI P n S e n D Q) (hQ : Q.Perm ((r, (u : Int)) :: Q')) : DI P n S e u D Q' ∧ D u ≠ 1099511627776 := by
  refine ⟨⟨h.wk, h.zero, fun p hp => h.q p (hQ.mem_iff.2 (List.mem_cons_of_mem _ hp)), fun w hw hd => ?_, ?_⟩, ?_⟩
  · have hwn : w ≠ n := by have := (h.wk w hd).2.1; omega
    refine (h.pend w hwn hd).imp (fun hm => ?_) id
    rcases List.mem_cons.1 (hQ.mem_iff.1 hm) with e2 | e2
    · injection e2 with e3 e4
      exact absurd (by omega) hw
    · exact e2
  · have := hQ.length_eq
    have := h.few
    simp only [List.length_cons] at *
    omega
  · obtain ⟨u', h1, h2, _⟩ := h.q _ (hQ.mem_iff.2 (List.mem_cons_self ..))
    have : u = u' := by simp only at h1; omega
    rw [this]
    exact h2
theorem DI.entry {r y : Int} (h : DI P n S e n D Q) (hm : (r, y) ∈ Q) : ∃ u : Nat, y = (u : Int) ∧ u < n ∧ S u ∧ D u ≠ 1099511627776 := by
  obtain ⟨u, h1, h2, _⟩ := h.q _ hm
  exact ⟨u, h1, (h.wk u h2).2.1, (h.wk u h2).1, h2⟩
/-- A shorter label is found, its node goes into the bag. -/
theorem DI.relax (hP : Fit P n) (hn : 0 < n) (h15 : n ≤ 1500) (hS : Feas P S e) (h : DI P n S e u D Q) (hu : D u ≠ 1099511627776) (hs : Stp P u v l) (huv : u ≠ v) (hlt : D u + l < D v) (hQ : Q'.Perm (Q ++ [(D u + l - e v, (v : Int))])) :
    DI P n S e u (putE D v (D u + l)) Q' ∧ S v ∧ v < n ∧ fallS (putE D v (D u + l)) n + 1 ≤ fallS D n ∧ -1500001500 ≤ D u + l ∧ D u + l ≤ 1500001500 := by
  obtain ⟨hSu, hun, ⟨k, hw⟩, L, hL1, hL2, hL3⟩ := h.wk u hu
  obtain ⟨hSv, hev⟩ := hS.step u v l hSu hs
  have hvn := (hs.lt hP).2
  have hl := hs.bd hP
  have hmono : ∀ j, putE D v (D u + l) j ≤ D j := fun j => by
    by_cases e1 : j = v
    · rw [e1, putE_at]; omega
    · rw [putE_ne _ e1]; exact Int.le_refl _
  have hul : putE D v (D u + l) u = D u := putE_ne _ huv
  have hnot : ∀ q ∈ L, q.1 ≠ v := fun q hq e1 => by
    obtain ⟨_, _, h3, h4⟩ := hL2 q hq
    rw [e1] at h3 h4
    omega
  have hlab : Lab n e (putE D v (D u + l)) v := by
    refine ⟨(u, D u) :: L, ?_, fun q hq => ?_, ?_⟩
    · rw [List.map_cons]
      refine List.nodup_cons.2 ⟨fun hm => ?_, hL1⟩
      obtain ⟨q, hq, e1⟩ := List.mem_map.1 hm
      exact (hL2 q hq).2.1 e1
    · rw [putE_at]
      rcases List.mem_cons.1 hq with rfl | hq
      · exact ⟨hun, huv, by simp only; rw [hul]; exact Int.le_refl _, by simp only; omega⟩
      · obtain ⟨h1, h2, h3, h4⟩ := hL2 q hq
        exact ⟨h1, hnot q hq, Int.le_trans (hmono _) h3, by omega⟩
    · rw [putE_at]
      simp only [List.length_cons]
      omega
  have hwv := hw.snoc hs
  obtain ⟨d0, h5, h6⟩ := isD_ex hS hwv
  have hb1 := isD_bd hP hn h15 h5
  have hb2 := hlab.bd h15
  rw [putE_at] at hb2
  have hfall : fallS (putE D v (D u + l)) n + 1 ≤ fallS D n := by
    refine fallS_put hvn ?_
    have hx : fallN (D u + l) = (D u + l + 1500001500).toNat := if_neg (by omega)
    rw [hx]
    by_cases hv : D v = 1099511627776
    · rw [hv]
      unfold fallN
      rw [if_pos rfl]
      omega
    · have := h.bd hP hn h15 hS hv
      unfold fallN
      rw [if_neg hv]
      omega
  have hqm : ∀ {p}, p ∈ Q → p ∈ Q' := fun hp => hQ.mem_iff.2 (List.mem_append_left _ hp)
  refine ⟨⟨fun w hw2 => ?_, ?_, fun p hp => ?_, fun w hwu hw2 => ?_, ?_⟩, hSv, hvn, hfall, by omega, by omega⟩
  · by_cases e1 : w = v
    · subst e1
      refine ⟨hSv, hvn, ?_, hlab⟩
      rw [putE_at]
      exact ⟨_, hwv⟩
    · rw [putE_ne _ e1] at hw2 ⊢
      obtain ⟨a1, a2, a3, L', b1, b2, b3⟩ := h.wk w hw2
      refine ⟨a1, a2, a3, L', b1, fun q hq => ?_, by rw [putE_ne _ e1]; exact b3⟩
      rw [putE_ne _ e1]
      obtain ⟨c1, c2, c3, c4⟩ := b2 q hq
      exact ⟨c1, c2, Int.le_trans (hmono _) c3, c4⟩
  · by_cases e1 : 0 = v
    · exfalso
      subst e1
      have h0 := h.zero
      have := isD_zero (isD_ex hS hwv).choose_spec.1
      have := (isD_ex hS hwv).choose_spec.2
      omega
    · rw [putE_ne _ e1]
      exact h.zero
  · rcases List.mem_append.1 (hQ.mem_iff.1 hp) with hp | hp
    · obtain ⟨w, h1, h2, h3⟩ := h.q p hp
      refine ⟨w, h1, ?_, by have := hmono w; omega⟩
      by_cases e1 : w = v
      · rw [e1, putE_at]; omega
      · rw [putE_ne _ e1]; exact h2
    · rw [List.mem_singleton.1 hp]
      exact ⟨v, rfl, by rw [putE_at]; omega, by rw [putE_at]; exact Int.le_refl _⟩
  · by_cases e1 : w = v
    · rw [e1, putE_at]
      exact .inl (hQ.mem_iff.2 (List.mem_append_right _ (by simp)))
    · rw [putE_ne _ e1] at hw2 ⊢
      rcases h.pend w hwu hw2 with h1 | h1
      · exact .inl (hqm h1)
      · exact .inr fun v' l' hs' => Int.le_trans (hmono v') (h1 v' l' hs')
  · have := hQ.length_eq
    have := h.few
    rw [List.length_append] at *
    simp only [List.length_cons, List.length_nil] at *
    omega
/-- All steps of a node have been tried. -/
theorem DI.done (h : DI P n S e u D Q) (hd : ∀ v l, Stp P u v l → D v ≤ D u + l) : DI P n S e n D Q :=
  ⟨h.wk, h.zero, h.q, fun w _ hw2 => by
    by_cases e1 : w = u
    · subst e1
      exact .inr hd
    · exact h.pend w e1 hw2, h.few⟩
/-- The bag is empty. -/
theorem DI.end (hP : Fit P n) (hn : 0 < n) (h15 : n ≤ 1500) (hS : Feas P S e) (h : DI P n S e n D []) (v : Nat) : (D v = 1099511627776 ∧ ¬ ∃ d, IsD P v d) ∨ (D v ≠ 1099511627776 ∧ IsD P v (D v)) := by
  have key : ∀ {k v : Nat} {d : Int}, Wk P k v d → D v ≠ 1099511627776 ∧ D v ≤ d := by
    intro k v d hw
    induction hw with
    | nil => rw [h.zero]; decide
    | @snoc k u v d l hw hs ih =>
      obtain ⟨h1, h2⟩ := ih
      have hun := (h.wk u h1).2.1
      rcases h.pend u (by omega) h1 with h3 | h3
      · cases h3
      · have h4 := h3 v l hs
        have := h.bd hP hn h15 hS h1
        have := hs.bd hP
        exact ⟨by omega, by omega⟩
  by_cases hv : D v = 1099511627776
  · exact .inl ⟨hv, fun ⟨d, ⟨k, hw⟩, _⟩ => (key hw).1 hv⟩
  · exact .inr ⟨hv, (h.wk v hv).2.2.1, fun k d' hw => (key hw).2⟩
end

end Go.Proofs.Ytobflidianlomaa
