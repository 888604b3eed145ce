/-
  The ways of a flow through the network in time: where each leads on, as the flow's next arc and as the first one with a unit. Plain facts; no statement is proved here.
  CONTRACTS on grids: what spec.GridOk, laws.toGrid and laws.szGrid return. No law is proved here.
-/
import Derived.Test.YtnbbhdbcapfbkaaDoorZFF07
import Derived.Test.YtnbbhdbcapfbkaaDoorZFF00
namespace Go.Proofs.YtnbbhdbcapfbkaaDoor
set_option maxRecDepth 4096

section
variable {m : MapD} {sl : List Nat} {gl : Nat → Bool} {R : Int} {T : Nat}
theorem from_in {k t : Nat} (hk : k < m.F) {x : ArcD} (hx : x ∈ timeA m sl gl R T false) (hf : x.f = (inN m.F k t : Nat)) : x.t = (inN m.F k t + 1 : Nat) ∧ x.r = 1 := by
  rcases mem_timeA.1 hx with ⟨j, _, rfl⟩ | ⟨u, j, _, hj, hx⟩ | ⟨j, hj, rfl⟩ | rfl
  · have := inN_ge m.F k t
    dsimp only at hf
    omega
  · rcases mem_cellA.1 hx with rfl | ⟨_, rfl | ⟨i, _, rfl⟩⟩
    · dsimp only at hf
      obtain ⟨rfl, rfl⟩ := inN_inj hj hk (by omega : inN m.F j u = inN m.F k t)
      exact ⟨rfl, rfl⟩
    · dsimp only at hf
      exact absurd (by omega : inN m.F k t = inN m.F j u + 1) inN_out
    · dsimp only at hf
      exact absurd (by omega : inN m.F k t = inN m.F j u + 1) inN_out
  · dsimp only at hf
    exact absurd (by omega : inN m.F k t = inN m.F j T + 1) inN_out
  · have := inN_ge m.F k t
    dsimp only at hf
    omega
theorem to_out {k t : Nat} (hk : k < m.F) {x : ArcD} (hx : x ∈ timeA m sl gl R T false) (ht : x.t = (inN m.F k t + 1 : Nat)) : x.f = (inN m.F k t : Nat) ∧ x.r ≤ 1 := by
  have h3 := inN_ge m.F k t
  rcases mem_timeA.1 hx with ⟨j, _, rfl⟩ | ⟨u, j, _, hj, hx⟩ | ⟨j, hj, rfl⟩ | rfl
  · dsimp only at ht
    exact absurd (by omega : inN m.F j 0 = inN m.F k t + 1) inN_out
  · rcases mem_cellA.1 hx with rfl | ⟨_, rfl | ⟨i, _, rfl⟩⟩
    · dsimp only at ht
      obtain ⟨rfl, rfl⟩ := inN_inj hj hk (by omega : inN m.F j u = inN m.F k t)
      exact ⟨rfl, Int.le_refl _⟩
    · dsimp only at ht
      exact absurd (by omega : inN m.F j (u + 1) = inN m.F k t + 1) inN_out
    · dsimp only at ht
      exact absurd (by omega : inN m.F i (u + 1) = inN m.F k t + 1) inN_out
  · dsimp only at ht
    split at ht <;> omega
  · dsimp only at ht
    omega
theorem from_out {k t : Nat} (hk : k < m.F) {x : ArcD} (hx : x ∈ timeA m sl gl R T false) (hf : x.f = (inN m.F k t + 1 : Nat)) :
    (t < T ∧ ∃ j, (j = k ∨ j ∈ m.ar k) ∧ x.t = (inN m.F j (t + 1) : Nat) ∧ x.r = 1) ∨ (t = T ∧ x.t = (if gl k = true then 1 else 2 : Nat)) := by
  have h3 := inN_ge m.F k t
  rcases mem_timeA.1 hx with ⟨j, _, rfl⟩ | ⟨u, j, hu, hj, hx⟩ | ⟨j, hj, rfl⟩ | rfl
  · dsimp only at hf
    omega
  · rcases mem_cellA.1 hx with rfl | ⟨hne, rfl | ⟨i, hi, rfl⟩⟩
    · dsimp only at hf
      exact absurd (by omega : inN m.F j u = inN m.F k t + 1) inN_out
    · dsimp only at hf
      obtain ⟨rfl, rfl⟩ := inN_inj hj hk (by omega : inN m.F j u = inN m.F k t)
      exact .inl ⟨by omega, j, .inl rfl, rfl, rfl⟩
    · dsimp only at hf
      obtain ⟨rfl, rfl⟩ := inN_inj hj hk (by omega : inN m.F j u = inN m.F k t)
      exact .inl ⟨by omega, i, .inr hi, rfl, rfl⟩
  · dsimp only at hf
    obtain ⟨rfl, rfl⟩ := inN_inj hj hk (by omega : inN m.F j T = inN m.F k t)
    exact .inr ⟨rfl, rfl⟩
  · dsimp only at hf
    omega
theorem arc_self {k t : Nat} (hk : k < m.F) (ht : t ≤ T) : (⟨(inN m.F k t : Nat), (inN m.F k t + 1 : Nat), 1, 0⟩ : ArcD) ∈ timeA m sl gl R T false :=
  mem_timeA.2 (.inr (.inl ⟨t, k, ht, hk, mem_cellA.2 (.inl rfl)⟩))
theorem arc_to {k j t : Nat} (hk : k < m.F) (ht : t < T) (hj : j = k ∨ j ∈ m.ar k) : ∃ c, (⟨(inN m.F k t + 1 : Nat), (inN m.F j (t + 1) : Nat), 1, c⟩ : ArcD) ∈ timeA m sl gl R T false := by
  rcases hj with rfl | hj
  · exact ⟨0, mem_timeA.2 (.inr (.inl ⟨t, j, by omega, hk, mem_cellA.2 (.inr ⟨by omega, .inl rfl⟩)⟩))⟩
  · exact ⟨1, mem_timeA.2 (.inr (.inl ⟨t, k, by omega, hk, mem_cellA.2 (.inr ⟨by omega, .inr ⟨j, hj, rfl⟩⟩)⟩))⟩

/-- The value of the arc from f to t. -/
def flowAt (A : List ArcD) (F : List Int) (f t : Int) : Int := F.getD (arcIx A f t) 0
/-- Where a unit in cell k at time t goes: the first cell to which an arc has flow 1. -/
def nextK (m : MapD) (A : List ArcD) (F : List Int) (t k : Nat) : Nat := ((k :: m.ar k).find? fun j => decide (flowAt A F (inN m.F k t + 1 : Nat) (inN m.F j (t + 1) : Nat) = 1)).getD k
/-- The cells from cell k on, d times before the last one. -/
def wayK (m : MapD) (A : List ArcD) (F : List Int) (T : Nat) : Nat → Nat → List Nat
  | 0, k => [k]
  | d + 1, k => k :: wayK m A F T d (nextK m A F (T - (d + 1)) k)
theorem wayK_len (A : List ArcD) (F : List Int) : ∀ d k, (wayK m A F T d k).length = d + 1
  | 0, _ => rfl
  | d + 1, k => by simp [wayK, wayK_len A F d]
end

section
variable {A : List ArcD} {F : List Int} {N : Int}
theorem zip_get (hl : F.length = A.length) {x : ArcD} (hx : x ∈ A) : ∃ (i : Nat) (y : Int), A[i]? = some x ∧ F[i]? = some y ∧ (x, y) ∈ A.zip F := by
  obtain ⟨i, hi, rfl⟩ := List.getElem_of_mem hx
  have h1 : A[i]? = some A[i] := List.getElem?_eq_getElem hi
  have h2 : F[i]? = some (F[i]'(by omega)) := List.getElem?_eq_getElem (by omega)
  exact ⟨i, _, h1, h2, List.mem_of_getElem? (zip_at h1 h2)⟩
theorem flowAt_of (hd : Dst A) {i : Nat} {x : ArcD} {y : Int} (hx : A[i]? = some x) (hy : F[i]? = some y) : flowAt A F x.f x.t = y := by
  unfold flowAt
  rw [arcIx_of hd hx, List.getD_eq_getElem?_getD, hy]
  rfl
theorem flowAt_runs (h : flowOkV N A F = true) (hd : Dst A) {x : ArcD} (hx : x ∈ A) (hr : x.r = 1) : flowAt A F x.f x.t = 1 ↔ Runs (A.zip F) x.f x.t := by
  obtain ⟨_, hl, hR, _⟩ := flowOk_out h
  obtain ⟨i, y, h1, h2, h3⟩ := zip_get hl hx
  have hb := hR _ h3
  rw [flowAt_of hd h1 h2]
  constructor
  · intro e
    exact ⟨_, h3, rfl, rfl, by dsimp only; omega⟩
  · rintro ⟨p, hp, e1, e2, h0⟩
    obtain ⟨j, k1, k2⟩ := zip_in hp
    have e := dst_eq hd k1 h1 e1 e2
    subst e
    rw [h2] at k2
    have := Option.some.inj k2
    dsimp only at hb
    omega

/-- Where the last arc with a unit leads from a node. -/
def goV (P : Fl) (v : Int) : Int := P.foldl (fun z p => if p.1.f = v ∧ 0 < p.2 then p.1.t else z) 0
theorem go_fold {v x : Int} : ∀ (P : Fl) (z : Int), (∀ p ∈ P, p.1.f = v → 0 < p.2 → p.1.t = x) → (z = x ∨ ∃ p ∈ P, p.1.f = v ∧ 0 < p.2) → P.foldl (fun z p => if p.1.f = v ∧ 0 < p.2 then p.1.t else z) z = x
  | [], z, _, h => by
    rcases h with h | ⟨p, hp, _⟩
    · exact h
    · cases hp
  | a :: P, z, h1, h2 => by
    rw [List.foldl_cons]
    by_cases e : a.1.f = v ∧ 0 < a.2
    · rw [if_pos e]
      exact go_fold P _ (fun p hp => h1 p (List.mem_cons_of_mem _ hp)) (.inl (h1 a (List.mem_cons_self ..) e.1 e.2))
    · rw [if_neg e]
      refine go_fold P _ (fun p hp => h1 p (List.mem_cons_of_mem _ hp)) ?_
      rcases h2 with h2 | ⟨p, hp, h3⟩
      · exact .inl h2
      · rcases List.mem_cons.1 hp with rfl | hp
        · exact absurd h3 e
        · exact .inr ⟨p, hp, h3⟩
theorem goV_is {P : Fl} {v x : Int} (hr : Runs P v x) (hu : ∀ y, Runs P v y → y = x) : goV P v = x := by
  obtain ⟨p, hp, hf, ht, h0⟩ := hr
  exact go_fold P 0 (fun q hq e h => hu _ ⟨q, hq, e, rfl, h⟩) (.inr ⟨p, hp, hf, h0⟩)
end

/-- All that is known of the network of an ask. -/
structure NetT (m : MapD) (sl : List Nat) : Prop where
  ok : MapOk m
  nd : ∀ i, i < m.F → (m.ar i).Nodup
  sn : sl.Nodup
  sF : ∀ k ∈ sl, k < m.F

section
variable {m : MapD} {sl : List Nat} {gl : Nat → Bool} {R : Int} {T : Nat} {F : List Int} {N : Int}
theorem NetT.dst (hT : NetT m sl) : Dst (timeA m sl gl R T false) := time_dst hT.ok hT.nd hT.sn hT.sF
variable (hT : NetT m sl) (h : flowOkV N (timeA m sl gl R T false) F = true)
include hT h
omit hT in
theorem run_in {f : Int} {k t : Nat} (hk : k < m.F) (hr : Runs ((timeA m sl gl R T false).zip F) f (inN m.F k t : Nat)) : Runs ((timeA m sl gl R T false).zip F) (inN m.F k t : Nat) (inN m.F k t + 1 : Nat) := by
  obtain ⟨u, hu⟩ := runs_on h (by have := inN_ge m.F k t; omega) hr
  obtain ⟨p, hp, hf, ht, h0⟩ := hu
  exact ⟨p, hp, hf, (from_in hk (zip_arc hp) hf).1, h0⟩
omit hT h in
theorem in_uniq {k t : Nat} (hk : k < m.F) : ∀ y, Runs ((timeA m sl gl R T false).zip F) (inN m.F k t : Nat) y → y = (inN m.F k t + 1 : Nat) := by
  rintro y ⟨p, hp, hf, ht, h0⟩
  rw [← ht]
  exact (from_in hk (zip_arc hp) hf).1
theorem out_uniq {k t : Nat} (hk : k < m.F) {x y : Int} (hx : Runs ((timeA m sl gl R T false).zip F) (inN m.F k t + 1 : Nat) x) (hy : Runs ((timeA m sl gl R T false).zip F) (inN m.F k t + 1 : Nat) y) : y = x :=
  runs_one h hT.dst (by have := inN_ge m.F k t; omega) (f0 := (inN m.F k t : Nat)) (fun z hz e => to_out hk hz e) hy hx
/-- A unit in a cell goes on to the next cell. -/
theorem next_run {k t : Nat} (hk : k < m.F) (ht : t < T) (hr : Runs ((timeA m sl gl R T false).zip F) (inN m.F k t : Nat) (inN m.F k t + 1 : Nat)) :
    nextK m (timeA m sl gl R T false) F t k < m.F ∧ (nextK m (timeA m sl gl R T false) F t k = k ∨ nextK m (timeA m sl gl R T false) F t k ∈ m.ar k) ∧ Runs ((timeA m sl gl R T false).zip F) (inN m.F k t + 1 : Nat) (inN m.F (nextK m (timeA m sl gl R T false) F t k) (t + 1) : Nat) := by
  obtain ⟨u, p, hp, hf, hu, h0⟩ := runs_on h (by have := inN_ge m.F k t; omega) hr
  rcases from_out hk (zip_arc hp) hf with ⟨_, j, hj, hjt, _⟩ | ⟨e, _⟩
  · have hrun : Runs ((timeA m sl gl R T false).zip F) (inN m.F k t + 1 : Nat) (inN m.F j (t + 1) : Nat) := ⟨p, hp, hf, hjt, h0⟩
    have key : ∀ j, (j = k ∨ j ∈ m.ar k) → (flowAt (timeA m sl gl R T false) F (inN m.F k t + 1 : Nat) (inN m.F j (t + 1) : Nat) = 1 ↔ Runs ((timeA m sl gl R T false).zip F) (inN m.F k t + 1 : Nat) (inN m.F j (t + 1) : Nat)) := fun j hj => by
      obtain ⟨c, hc⟩ := arc_to (sl := sl) (gl := gl) (R := R) hk ht hj
      exact flowAt_runs h hT.dst hc rfl
    have hmem : ∀ j, j ∈ k :: m.ar k ↔ (j = k ∨ j ∈ m.ar k) := fun j => List.mem_cons
    cases e : (k :: m.ar k).find? fun j => decide (flowAt (timeA m sl gl R T false) F (inN m.F k t + 1 : Nat) (inN m.F j (t + 1) : Nat) = 1) with
    | none =>
      have := List.find?_eq_none.1 e j ((hmem j).2 hj)
      exact absurd (decide_eq_true ((key j hj).2 hrun)) this
    | some i =>
      have h1 := List.find?_some e
      simp only [decide_eq_true_eq] at h1
      have h2 := (hmem i).1 (List.mem_of_find?_eq_some e)
      have e2 : nextK m (timeA m sl gl R T false) F t k = i := by unfold nextK; rw [e]; rfl
      rw [e2]
      refine ⟨?_, h2, (key i h2).1 h1⟩
      rcases h2 with rfl | h2
      · exact hk
      · exact hT.ok.lt k hk i h2
  · omega
theorem nextK_eq {k t j : Nat} (hk : k < m.F) (ht : t < T) (hj : j < m.F) (hr : Runs ((timeA m sl gl R T false).zip F) (inN m.F k t : Nat) (inN m.F k t + 1 : Nat)) (hrj : Runs ((timeA m sl gl R T false).zip F) (inN m.F k t + 1 : Nat) (inN m.F j (t + 1) : Nat)) : nextK m (timeA m sl gl R T false) F t k = j := by
  obtain ⟨h1, _, h2⟩ := next_run hT h hk ht hr
  have := out_uniq hT h hk hrj h2
  exact (inN_inj h1 hj (by omega : inN m.F (nextK m (timeA m sl gl R T false) F t k) (t + 1) = inN m.F j (t + 1))).1
omit hT h in
/-- The program's two steps on: from the cell's first node to its second one, and on to the next cell's. -/
theorem goV_in {k t : Nat} (hk : k < m.F) (hr : Runs ((timeA m sl gl R T false).zip F) (inN m.F k t : Nat) (inN m.F k t + 1 : Nat)) : goV ((timeA m sl gl R T false).zip F) (inN m.F k t : Nat) = (inN m.F k t + 1 : Nat) :=
  goV_is hr (in_uniq hk)
theorem goV_out {k t : Nat} (hk : k < m.F) (ht : t < T) (hr : Runs ((timeA m sl gl R T false).zip F) (inN m.F k t : Nat) (inN m.F k t + 1 : Nat)) : goV ((timeA m sl gl R T false).zip F) (inN m.F k t + 1 : Nat) = (inN m.F (nextK m (timeA m sl gl R T false) F t k) (t + 1) : Nat) := by
  obtain ⟨_, _, h2⟩ := next_run hT h hk ht hr
  exact goV_is h2 fun y hy => out_uniq hT h hk h2 hy
theorem goV_end {k : Nat} (hk : k < m.F) (hr : Runs ((timeA m sl gl R T false).zip F) (inN m.F k T : Nat) (inN m.F k T + 1 : Nat)) : goV ((timeA m sl gl R T false).zip F) (inN m.F k T + 1 : Nat) < 3 ∧ 0 ≤ goV ((timeA m sl gl R T false).zip F) (inN m.F k T + 1 : Nat) := by
  obtain ⟨u, hu⟩ := runs_on h (by have := inN_ge m.F k T; omega) hr
  rw [goV_is hu fun y hy => out_uniq hT h hk hu hy]
  obtain ⟨p, hp, hf, e, h0⟩ := hu
  rcases from_out hk (zip_arc hp) hf with ⟨h1, _⟩ | ⟨_, h1⟩
  · omega
  · rw [← e, h1]
    split <;> omega
omit hT in
/-- A flow of as many units as starts sends one from each start. -/
theorem run_start (hz : netO ((timeA m sl gl R T false).zip F) 0 = (sl.length : Int)) {k : Nat} (hk : k ∈ sl) : Runs ((timeA m sl gl R T false).zip F) 0 (inN m.F k 0 : Nat) := by
  obtain ⟨_, hl, hR, _⟩ := flowOk_out h
  have hx : (⟨0, (inN m.F k 0 : Nat), 1, 0⟩ : ArcD) ∈ timeA m sl gl R T false := mem_timeA.2 (.inl ⟨k, hk, rfl⟩)
  obtain ⟨i, y, _, _, h3⟩ := zip_get hl hx
  have h1 := netO_split ((timeA m sl gl R T false).zip F) 0
  rw [hz] at h1
  have h2 := inF_nn (v := ((0 : Nat) : Int)) (P := (timeA m sl gl R T false).zip F) fun p hp => (hR p hp).1
  have h0r : ∀ x ∈ timeA m sl gl R T false, x.f = ((0 : Nat) : Int) → x.r = 1 := fun x hx e => by
    rcases mem_timeA.1 hx with ⟨j, _, rfl⟩ | ⟨u, j, _, _, hx⟩ | ⟨j, _, rfl⟩ | rfl
    · rfl
    · have := inN_ge m.F j u
      rcases cellA_from hx with h | h <;> omega
    · have := inN_ge m.F j T
      dsimp only at e
      omega
    · dsimp only at e
      omega
  obtain ⟨_, h4⟩ := outF_full (v := ((0 : Nat) : Int)) (P := (timeA m sl gl R T false).zip F) fun p hp e => by
    have h5 := h0r p.1 (zip_arc hp) e
    have h6 := hR p hp
    omega
  have hc : ((timeA m sl gl R T false).zip F).countP (fun p => decide (p.1.f = ((0 : Nat) : Int))) = sl.length := by
    have e1 : ((timeA m sl gl R T false).zip F).countP (fun p => decide (p.1.f = ((0 : Nat) : Int))) = (((timeA m sl gl R T false).zip F).map Prod.fst).countP (fun x => decide (x.f = ((0 : Nat) : Int))) := by
      rw [List.countP_map]
      rfl
    rw [e1, List.map_fst_zip (by omega)]
    unfold timeA
    rw [List.countP_append, List.countP_map]
    have e2 : sl.countP ((fun x => decide (x.f = ((0 : Nat) : Int))) ∘ fun k => (⟨0, (inN m.F k 0 : Nat), 1, 0⟩ : ArcD)) = sl.length := by
      rw [List.countP_eq_length]
      intro a _
      rfl
    rw [e2]
    refine Nat.add_eq_left.2 ?_
    rw [List.countP_eq_zero]
    intro x hx e
    have e := of_decide_eq_true e
    rcases List.mem_append.1 hx with hx | hx
    · obtain ⟨u, _, hx⟩ := List.mem_flatMap.1 hx
      unfold layA at hx
      simp only [or_true, if_true, List.append_nil, List.mem_flatMap, List.mem_range] at hx
      obtain ⟨j, _, hx⟩ := hx
      have := inN_ge m.F j u
      rcases cellA_from hx with h | h <;> omega
    · rcases List.mem_append.1 hx with hx | hx
      · obtain ⟨j, _, rfl⟩ := List.mem_map.1 hx
        have := inN_ge m.F j T
        dsimp only at e
        omega
      · obtain rfl := List.mem_singleton.1 hx
        dsimp only at e
        omega
  have h7 := h4 (by rw [hc]; omega) _ h3 rfl
  exact ⟨_, h3, rfl, rfl, by dsimp only at h7 ⊢; omega⟩
end

end Go.Proofs.YtnbbhdbcapfbkaaDoor

namespace Go.Proofs.YtnbbhdbcapfbkaaDoor
set_option maxRecDepth 4096
open Go.ChangeShapes Go.WideShapes Go.ChangeAt Go.RowKit

/-- A byte that a map may hold. -/
def kindB (x : Int) : Bool := decide (x = 46 ∨ x = 35 ∨ (97 ≤ x ∧ x ≤ 102) ∨ (65 ≤ x ∧ x ≤ 70))

/-- The sides and the number of bytes of a valid map. -/
def Sides (W H : Int) (C : ByteArray) : Prop := (1 ≤ W ∧ W ≤ 8) ∧ (1 ≤ H ∧ H ≤ 8) ∧ (C.size : Int) = W * H
/-- All bytes are of the kinds. -/
def Kinds (C : ByteArray) (n : Nat) : Prop := ∀ j, j < n → kindB (byteAt C j) = true

noncomputable def gok (W H : Int) (C : ByteArray) : Bool := @decide (Sides W H C ∧ Kinds C C.size) (Classical.propDecidable _)

theorem gok_yes {W H : Int} {C : ByteArray} (h : Sides W H C) (h2 : Kinds C C.size) : gok W H C = true := by
  unfold gok
  exact (@decide_eq_true_iff _ (Classical.propDecidable _)).2 ⟨h, h2⟩
theorem gok_no {W H : Int} {C : ByteArray} (h : ¬ (Sides W H C ∧ Kinds C C.size)) : gok W H C = false := by
  unfold gok
  exact (@decide_eq_false_iff_not _ (Classical.propDecidable _)).2 h
theorem gok_out {W H : Int} {C : ByteArray} (h : gok W H C = true) : Sides W H C ∧ Kinds C C.size := by
  unfold gok at h
  exact (@decide_eq_true_iff _ (Classical.propDecidable _)).1 h
theorem kinds_snoc {C : ByteArray} {k : Nat} (h : Kinds C k) (hk : kindB (byteAt C k) = true) : Kinds C (k + 1) := by
  intro j hj
  rcases Nat.lt_or_ge j k with h1 | h1
  · exact h j h1
  · obtain rfl : j = k := by omega
    exact hk

theorem bool_ret {a b c : Bool} (h : c = b) (e : a = c) : Ending.returned (.bool a) = .returned (.bool b) := by rw [e, h]

theorem l02KindI (x : Int) (b : Bool) (HB : Hid (kindB x = b)) (h0 : 0 ≤ x) (h : x < 256) (w : World) :
    Calls Tryd.prog 69 #[.int .u8 x] w fun e w' => e = .returned (.bool b) ∧ w = w' := by
  by_cases h1 : x = 46
  · subst h1
    go_enter Tryd.func69, Tryd.ntmps69
    go_wp2
    go_ret
    exact ⟨bool_ret HB.out rfl, rfl⟩
  · by_cases h2 : x = 35
    · subst h2
      go_enter Tryd.func69, Tryd.ntmps69
      go_wp2
      go_ret
      exact ⟨bool_ret HB.out rfl, rfl⟩
    · by_cases h3 : 97 ≤ x
      · by_cases h4 : x ≤ 102
        all_goals
          go_enter Tryd.func69, Tryd.ntmps69
          go_wp2
          go_ret
          refine ⟨bool_ret HB.out ?_, rfl⟩
          unfold kindB
          rw [Bool.eq_iff_iff]
          simp
          omega
      · by_cases h5 : 65 ≤ x
        · by_cases h6 : x ≤ 70
          all_goals
            go_enter Tryd.func69, Tryd.ntmps69
            go_wp2
            go_ret
            refine ⟨bool_ret HB.out ?_, rfl⟩
            unfold kindB
            rw [Bool.eq_iff_iff]
            simp
            omega
        · go_enter Tryd.func69, Tryd.ntmps69
          go_wp2
          go_ret
          refine ⟨bool_ret HB.out ?_, rfl⟩
          unfold kindB
          rw [Bool.eq_iff_iff]
          simp
          omega

theorem specGridOk_w (W H : Int) (C : ByteArray) (_hC : C.size ≤ 1048576) (hw : ¬ (1 ≤ W ∧ W ≤ 8)) (w : World) :
    Calls Tryd.prog 51 #[.agg #[.int .i64 W, .int .i64 H, .string C]] w (Made w (.bool false)) := by
  by_cases h1 : 1 ≤ W
  · have h2 : ¬ W ≤ 8 := by omega
    clear hw
    go_enter Tryd.func51, Tryd.ntmps51
    go_wp2
    go_ret
    exact ⟨rfl, (Below.refl _ _).alloc (Nat.le_refl _) _⟩
  · clear hw
    go_enter Tryd.func51, Tryd.ntmps51
    go_wp2
    go_ret
    exact ⟨rfl, (Below.refl _ _).alloc (Nat.le_refl _) _⟩

theorem specGridOk_h (W H : Int) (C : ByteArray) (_hC : C.size ≤ 1048576) (h1 : 1 ≤ W) (h2 : W ≤ 8) (hw : ¬ (1 ≤ H ∧ H ≤ 8)) (w : World) :
    Calls Tryd.prog 51 #[.agg #[.int .i64 W, .int .i64 H, .string C]] w (Made w (.bool false)) := by
  by_cases h3 : 1 ≤ H
  · have h4 : ¬ H ≤ 8 := by omega
    clear hw
    go_enter Tryd.func51, Tryd.ntmps51
    go_wp2
    go_ret
    exact ⟨rfl, (Below.refl _ _).alloc (Nat.le_refl _) _⟩
  · clear hw
    go_enter Tryd.func51, Tryd.ntmps51
    go_wp2
    go_ret
    exact ⟨rfl, (Below.refl _ _).alloc (Nat.le_refl _) _⟩

theorem mul_bd {W H : Int} (h1 : 1 ≤ W) (h2 : W ≤ 8) (h3 : 1 ≤ H) (h4 : H ≤ 8) : 1 ≤ W * H ∧ W * H ≤ 64 := by
  have a := Int.mul_le_mul h2 h4 (by omega) (by omega)
  have b := Int.mul_le_mul h1 h3 (by omega) (by omega)
  omega

theorem specGridOk_s (W H : Int) (C : ByteArray) (_hC : C.size ≤ 1048576) (h1 : 1 ≤ W) (h2 : W ≤ 8) (h3 : 1 ≤ H) (h4 : H ≤ 8) (hs : ¬ (C.size : Int) = W * H) (w : World) :
    Calls Tryd.prog 51 #[.agg #[.int .i64 W, .int .i64 H, .string C]] w (Made w (.bool false)) := by
  obtain ⟨hm1, hm2⟩ := mul_bd h1 h2 h3 h4
  go_enter Tryd.func51, Tryd.ntmps51
  go_wp2
  go_ret
  exact ⟨rfl, (Below.refl _ _).alloc (Nat.le_refl _) _⟩

theorem l01In_yes (x lo hi : Int) (h1 : lo ≤ x) (h2 : x ≤ hi) (w : World) :
    Calls Tryd.prog 36 #[.int .i64 x, .int .i64 lo, .int .i64 hi] w fun e w' => e = .returned (.bool true) ∧ w = w' := by
  go_enter Tryd.func36, Tryd.ntmps36
  go_wp2
  go_ret
  exact ⟨rfl, rfl⟩

set_option maxHeartbeats 400000 in
theorem specGridOk_k (W H : Int) (C : ByteArray) (b : Bool) (h1 : 1 ≤ W) (h2 : W ≤ 8) (h3 : 1 ≤ H) (h4 : H ≤ 8) (hs : (C.size : Int) = W * H) (HK : Hid (gok W H C = b)) (w : World) :
    Calls Tryd.prog 51 #[.agg #[.int .i64 W, .int .i64 H, .string C]] w (Made w (.bool b)) := by
  obtain ⟨hm1, hm2⟩ := mul_bd h1 h2 h3 h4
  have HS : Hid (Sides W H C) := Lib.hid ⟨⟨h1, h2⟩, ⟨h3, h4⟩, hs⟩
  have hs' : W * H = (C.size : Int) := hs.symm
  clear hs
  go_enter Tryd.func51, Tryd.ntmps51
  go_wp2_with (go_at_call 36; (with_reducible refine (l01In_yes _ _ _ (by omega) (by omega) _).mono ?_); rintro e w' ⟨rfl, rfl⟩)
  go_loop [3] (fun i => ∃ k : Nat, k ≤ C.size ∧ i = .int .i64 k ∧ Hid (Kinds C k)) (fun i => C.size - (intOf i).toNat)
  case atStart => exact ⟨0, Nat.zero_le _, rfl, Lib.hid (fun j hj => absurd hj (Nat.not_lt_zero _))⟩
  case round =>
    obtain ⟨k, hk, rfl, HQ⟩ := hrel
    by_cases hlt : k < C.size
    · have hat := run_at (P := Tryd.prog) 9 C .i64 k k rfl hlt Tryd.underlying9
      have hbd := byteAt_bd C k
      by_cases hkb : kindB (byteAt C k) = true
      · have HB := Lib.hid hkb
        have HQ2 : Hid (Kinds C (k + 1)) := Lib.hid (kinds_snoc HQ.out hkb)
        clear hkb
        go_wp2_with (go_at_call 69; (with_reducible refine (l02KindI _ true HB (by omega) (by omega) _).mono ?_); rintro e w' ⟨rfl, rfl⟩)
        go_round
        case rel => exact ⟨k + 1, hlt, by go_num, HQ2⟩
        case measure => simp [intOf]; omega
      · have HB : Hid (kindB (byteAt C k) = false) := Lib.hid (by simpa using hkb)
        have HN : Hid (false = b) := Lib.hid ((gok_no (fun h => hkb (h.2 k hlt))).symm.trans HK.out)
        clear hkb
        go_wp2_with (go_at_call 69; (with_reducible refine (l02KindI _ false HB (by omega) (by omega) _).mono ?_); rintro e w' ⟨rfl, rfl⟩)
        go_ret
        exact ⟨bool_ret HN.out rfl, (Below.refl _ _).alloc (Nat.le_refl _) _⟩
    · obtain rfl : k = C.size := by omega
      have HN : Hid (true = b) := Lib.hid ((gok_yes HS.out HQ.out).symm.trans HK.out)
      go_wp2
      go_ret
      exact ⟨bool_ret HN.out rfl, (Below.refl _ _).alloc (Nat.le_refl _) _⟩

theorem specGridOk (W H : Int) (C : ByteArray) (hC : C.size ≤ 1048576) (w : World) :
    Calls Tryd.prog 51 #[.agg #[.int .i64 W, .int .i64 H, .string C]] w (Made w (.bool (gok W H C))) := by
  by_cases hw : 1 ≤ W ∧ W ≤ 8
  · by_cases hh : 1 ≤ H ∧ H ≤ 8
    · by_cases hs : (C.size : Int) = W * H
      · exact specGridOk_k W H C _ hw.1 hw.2 hh.1 hh.2 hs (Lib.hid rfl) w
      · rw [gok_no (fun h => hs h.1.2.2)]
        exact specGridOk_s W H C hC hw.1 hw.2 hh.1 hh.2 hs w
    · rw [gok_no (fun h => hh h.1.2.1)]
      exact specGridOk_h W H C hC hw.1 hw.2 hh w
  · rw [gok_no (fun h => hw h.1.1)]
    exact specGridOk_w W H C hC hw w

end Go.Proofs.YtnbbhdbcapfbkaaDoor

