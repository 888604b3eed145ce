/-
  Flows of a net: what goes out of each node less what comes in, size, cost, what can be reached; sums of flows. Plain facts; no statement is proved here.
-/
import Derived.Test.YtobflidianlomaaNet
namespace Go.Proofs.Ytobflidianlomaa
set_option maxRecDepth 4096

/-- What an arc with y units brings to the excess of node v. -/
def outAt (x : ArcD) (y : Int) (v : Nat) : Int := (if x.f = (v : Int) then y else 0) - (if x.t = (v : Int) then y else 0)
def netO : List (ArcD × Int) → Nat → Int
  | [], _ => 0
  | p :: P, v => outAt p.1 p.2 v + netO P v
def costO : List (ArcD × Int) → Int
  | [] => 0
  | p :: P => p.2 * p.1.c + costO P
def inRoom (p : ArcD × Int) : Bool := inV p.2 0 p.1.r
def stillO (P : List (ArcD × Int)) (n : Nat) : Bool := (List.range n).all fun v => decide (v < 2) || decide (netO P v = 0)
/-- A flow. -/
def flowOkV (N : Int) (A : List ArcD) (F : List Int) : Bool := netOkV N A && (decide (F.length = A.length) && ((A.zip F).all inRoom && stillO (A.zip F) N.toNat))
def flowSizeV (N : Int) (A : List ArcD) (F : List Int) : Int := if flowOkV N A F = true then netO (A.zip F) 0 else -1
def flowCostV (N : Int) (A : List ArcD) (F : List Int) : Int := if flowOkV N A F = true then costO (A.zip F) else -1
def addL (F G : List Int) : List Int := List.zipWith (· + ·) F G
def flowMoreL (N : Int) (A : List ArcD) (F G : List Int) : List Int := if flowOkV N A F = true ∧ flowOkV N A G = true ∧ flowOkV N A (addL F G) = true then addL F G else []

/-- What can be reached from node 0 over arcs with room left, and back over arcs with flow. -/
inductive Res (P : List (ArcD × Int)) : Int → Prop
  | src : Res P 0
  | fwd {p : ArcD × Int} : p ∈ P → Res P p.1.f → p.2 < p.1.r → Res P p.1.t
  | bwd {p : ArcD × Int} : p ∈ P → Res P p.1.t → 0 < p.2 → Res P p.1.f
noncomputable def resB (P : List (ArcD × Int)) (v : Nat) : Bool := @decide (Res P v) (Classical.propDecidable _)
theorem resB_iff {P : List (ArcD × Int)} {v : Nat} : resB P v = true ↔ Res P v := @decide_eq_true_iff _ (Classical.propDecidable _)
/-- The Booleans that ReachedBy hands back. -/
noncomputable def reachedB (A : List ArcD) (F : List Int) : Nat → Bool := resB (A.zip F)
noncomputable def reachedN (N : Int) (A : List ArcD) (F : List Int) : Nat := if flowOkV N A F = true then N.toNat else 0

section
variable {N : Int} {A : List ArcD} {F G : List Int}
theorem flowOk_out (h : flowOkV N A F = true) : netOkV N A = true ∧ F.length = A.length ∧ (∀ p ∈ A.zip F, 0 ≤ p.2 ∧ p.2 ≤ p.1.r) ∧ ∀ v : Nat, 2 ≤ v → (v : Int) < N → netO (A.zip F) v = 0 := by
  unfold flowOkV at h
  simp only [Bool.and_eq_true, decide_eq_true_eq, List.all_eq_true] at h
  obtain ⟨h1, h2, h3, h4⟩ := h
  refine ⟨h1, h2, fun p hp => inV_iff.1 (h3 p hp), fun v hv hn => ?_⟩
  unfold stillO at h4
  rw [List.all_eq_true] at h4
  have := h4 v (List.mem_range.2 (by omega))
  simp only [Bool.or_eq_true, decide_eq_true_eq] at this
  omega
theorem flowOk_mk (h1 : netOkV N A = true) (h2 : F.length = A.length) (h3 : ∀ p ∈ A.zip F, 0 ≤ p.2 ∧ p.2 ≤ p.1.r) (h4 : ∀ v : Nat, 2 ≤ v → (v : Int) < N → netO (A.zip F) v = 0) : flowOkV N A F = true := by
  unfold flowOkV stillO
  simp only [Bool.and_eq_true, decide_eq_true_eq, List.all_eq_true]
  refine ⟨h1, h2, fun p hp => inV_iff.2 (h3 p hp), fun v hv => ?_⟩
  have := List.mem_range.1 hv
  by_cases e : v < 2
  · simp [e]
  · simp [h4 v (by omega) (by omega)]

theorem netO_append (P Q : List (ArcD × Int)) (v : Nat) : netO (P ++ Q) v = netO P v + netO Q v := by
  induction P with
  | nil => simp [netO]
  | cons p P ih => simp only [List.cons_append, netO, ih]; omega
theorem costO_append (P Q : List (ArcD × Int)) : costO (P ++ Q) = costO P + costO Q := by
  induction P with
  | nil => simp [costO]
  | cons p P ih => simp only [List.cons_append, costO, ih]; omega
theorem netO_snoc {P : List (ArcD × Int)} {k : Nat} {p : ArcD × Int} (h : P[k]? = some p) (v : Nat) : netO (P.take (k + 1)) v = netO (P.take k) v + outAt p.1 p.2 v := by
  obtain ⟨hi, rfl⟩ := List.getElem?_eq_some_iff.1 h
  rw [List.take_succ_eq_append_getElem hi, netO_append]
  simp [netO]
theorem costO_snoc {P : List (ArcD × Int)} {k : Nat} {p : ArcD × Int} (h : P[k]? = some p) : costO (P.take (k + 1)) = costO (P.take k) + p.2 * p.1.c := by
  obtain ⟨hi, rfl⟩ := List.getElem?_eq_some_iff.1 h
  rw [List.take_succ_eq_append_getElem hi, costO_append]
  simp [costO]
theorem outAt_bound {x : ArcD} {y : Int} (h : 0 ≤ y ∧ y ≤ 20) (v : Nat) : -20 ≤ outAt x y v ∧ outAt x y v ≤ 20 := by
  unfold outAt
  split <;> split <;> omega
theorem netO_bound {P : List (ArcD × Int)} (h : ∀ p ∈ P, 0 ≤ p.2 ∧ p.2 ≤ 20) (v : Nat) : -20 * (P.length : Int) ≤ netO P v ∧ netO P v ≤ 20 * (P.length : Int) := by
  induction P with
  | nil => simp [netO]
  | cons p P ih =>
    have h1 := outAt_bound (x := p.1) (h p (List.mem_cons_self ..)) v
    have h2 := ih fun q hq => h q (List.mem_cons_of_mem _ hq)
    simp only [netO, List.length_cons]
    omega
theorem zip_at {k : Nat} {x : ArcD} {y : Int} (hx : A[k]? = some x) (hy : F[k]? = some y) : (A.zip F)[k]? = some (x, y) := by
  rw [List.getElem?_zip_eq_some]
  exact ⟨hx, hy⟩
theorem zip_in {p : ArcD × Int} (h : p ∈ A.zip F) : ∃ k : Nat, A[k]? = some p.1 ∧ F[k]? = some p.2 := by
  obtain ⟨k, hk, rfl⟩ := List.getElem_of_mem h
  refine ⟨k, ?_⟩
  have : (A.zip F)[k]? = some (A.zip F)[k] := List.getElem?_eq_getElem hk
  rw [List.getElem?_zip_eq_some] at this
  exact this
theorem zip_arc {p : ArcD × Int} (h : p ∈ A.zip F) : p.1 ∈ A := by
  obtain ⟨k, h1, _⟩ := zip_in h
  exact List.mem_of_getElem? h1

/-! ### sums of flows -/
theorem addL_at {k : Nat} {x y : Int} (hx : F[k]? = some x) (hy : G[k]? = some y) : (addL F G)[k]? = some (x + y) := by
  unfold addL
  rw [List.getElem?_zipWith, hx, hy]
theorem addL_len (h1 : F.length = A.length) (h2 : G.length = A.length) : (addL F G).length = A.length := by
  unfold addL
  rw [List.length_zipWith]
  omega
theorem netO_add : ∀ {A : List ArcD} {F G : List Int}, F.length = A.length → G.length = A.length → ∀ v, netO (A.zip (addL F G)) v = netO (A.zip F) v + netO (A.zip G) v
  | [], _, _, _, _, _ => by simp [netO]
  | x :: A, a :: F, b :: G, h1, h2, v => by
    have ih := netO_add (A := A) (F := F) (G := G) (by simpa using h1) (by simpa using h2) v
    unfold addL at ih ⊢
    simp only [List.zipWith_cons_cons, List.zip_cons_cons, netO, ih, outAt]
    split <;> split <;> omega
  | _ :: _, [], _, h1, _, _ => by simp at h1
  | _ :: _, _ :: _, [], _, h2, _ => by simp at h2
theorem costO_add : ∀ {A : List ArcD} {F G : List Int}, F.length = A.length → G.length = A.length → costO (A.zip (addL F G)) = costO (A.zip F) + costO (A.zip G)
  | [], _, _, _, _ => by simp [costO]
  | x :: A, a :: F, b :: G, h1, h2 => by
    have ih := costO_add (A := A) (F := F) (G := G) (by simpa using h1) (by simpa using h2)
    unfold addL at ih ⊢
    simp only [List.zipWith_cons_cons, List.zip_cons_cons, costO, ih, Int.add_mul]
    omega
  | _ :: _, [], _, h1, _ => by simp at h1
  | _ :: _, _ :: _, [], _, h2 => by simp at h2

/-! ### what can be reached -/
theorem res_in (hn : netOkV N A = true) {v : Int} (h : Res (A.zip F) v) : 0 ≤ v ∧ v < N := by
  obtain ⟨hN, _, hA⟩ := netOk_out hn
  induction h with
  | src => omega
  | fwd hp _ _ _ => exact (arcOk_out (hA _ (zip_arc hp))).2.1
  | bwd hp _ _ _ => exact (arcOk_out (hA _ (zip_arc hp))).1
/-- A set that holds node 0, holds only what can be reached, and is closed, is what can be reached. -/
theorem res_is {P : List (ArcD × Int)} {S : Int → Prop} (h0 : S 0) (hS : ∀ v, S v → Res P v) (h1 : ∀ p ∈ P, S p.1.f → p.2 < p.1.r → S p.1.t) (h2 : ∀ p ∈ P, S p.1.t → 0 < p.2 → S p.1.f) (v : Int) : S v ↔ Res P v := by
  refine ⟨hS v, fun h => ?_⟩
  induction h with
  | src => exact h0
  | fwd hp _ hr ih => exact h1 _ hp ih hr
  | bwd hp _ hr ih => exact h2 _ hp ih hr
end

end Go.Proofs.Ytobflidianlomaa
