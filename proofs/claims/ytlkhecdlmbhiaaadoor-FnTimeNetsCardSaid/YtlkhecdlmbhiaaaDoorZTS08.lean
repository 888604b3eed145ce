/-
  Cuts: a flow from which node 1 cannot be reached is a greatest one; all greatest flows reach the same nodes. Plain facts; no statement is proved here.
-/
import Derived.Test.YtlkhecdlmbhiaaaDoorZTS07
namespace Go.Proofs.YtlkhecdlmbhiaaaDoor
set_option maxRecDepth 4096

/-- What a cut lets through. -/
def cutAt (S : Nat → Bool) (x : ArcD) : Int := if S x.f.toNat = true ∧ S x.t.toNat = false then x.r else 0
def cutR (S : Nat → Bool) : List ArcD → Int
  | [] => 0
  | x :: A => cutAt S x + cutR S A
/-- What flows across. -/
def crossAt (S : Nat → Bool) (x : ArcD) (y : Int) : Int := (if S x.f.toNat = true then y else 0) - (if S x.t.toNat = true then y else 0)
def crossO (S : Nat → Bool) : List (ArcD × Int) → Int
  | [] => 0
  | p :: P => crossAt S p.1 p.2 + crossO S P
def sumS (S : Nat → Bool) (o : Nat → Int) : Nat → Int
  | 0 => 0
  | n + 1 => sumS S o n + if S n = true then o n else 0

theorem sumS_add (S : Nat → Bool) (o o' : Nat → Int) (n : Nat) : sumS S (fun v => o v + o' v) n = sumS S o n + sumS S o' n := by
  induction n with
  | zero => rfl
  | succ n ih => simp only [sumS, ih]; split <;> omega
theorem sumS_zero (S : Nat → Bool) (n : Nat) : sumS S (fun _ => 0) n = 0 := by
  induction n with
  | zero => rfl
  | succ n ih => simp only [sumS, ih]; split <;> rfl
theorem sumS_same {S : Nat → Bool} {o o' : Nat → Int} {n : Nat} (h : ∀ v, v < n → S v = true → o v = o' v) : sumS S o n = sumS S o' n := by
  induction n with
  | zero => rfl
  | succ n ih =>
    simp only [sumS, ih (fun v hv => h v (by omega))]
    split
    · rename_i hs
      rw [h n (by omega) hs]
    · rfl
/-- One node's part. -/
theorem sumS_one (S : Nat → Bool) (a : Nat) (y : Int) (n : Nat) : sumS S (fun v => if v = a then y else 0) n = if a < n ∧ S a = true then y else 0 := by
  induction n with
  | zero => simp [sumS]
  | succ n ih =>
    simp only [sumS, ih]
    by_cases h : n = a
    · subst h
      by_cases hs : S n = true <;> simp [hs]
    · by_cases h2 : a < n
      · have h3 : a < n + 1 := by omega
        by_cases hs : S a = true <;> simp [h, h2, h3, hs]
      · have h3 : ¬ a < n + 1 := by omega
        simp [h, h2, h3]
theorem sumS_out {S : Nat → Bool} {x : ArcD} {y : Int} {n : Nat} (hf : 0 ≤ x.f ∧ x.f < (n : Int)) (ht : 0 ≤ x.t ∧ x.t < (n : Int)) : sumS S (outAt x y) n = crossAt S x y := by
  have e : ∀ v, outAt x y v = (if v = x.f.toNat then y else 0) + (if v = x.t.toNat then -y else 0) := fun v => by
    unfold outAt
    by_cases h1 : x.f = (v : Int) <;> by_cases h2 : x.t = (v : Int)
    · have h3 : v = x.f.toNat := by omega
      have h4 : v = x.t.toNat := by omega
      rw [if_pos h1, if_pos h2, if_pos h3, if_pos h4]; omega
    · have h3 : v = x.f.toNat := by omega
      have h4 : ¬ v = x.t.toNat := by omega
      rw [if_pos h1, if_neg h2, if_pos h3, if_neg h4]; omega
    · have h3 : ¬ v = x.f.toNat := by omega
      have h4 : v = x.t.toNat := by omega
      rw [if_neg h1, if_pos h2, if_neg h3, if_pos h4]; omega
    · have h3 : ¬ v = x.f.toNat := by omega
      have h4 : ¬ v = x.t.toNat := by omega
      rw [if_neg h1, if_neg h2, if_neg h3, if_neg h4]; omega
  rw [sumS_same (fun v _ _ => e v), sumS_add, sumS_one, sumS_one]
  have h1 : x.f.toNat < n := by omega
  have h2 : x.t.toNat < n := by omega
  unfold crossAt
  by_cases a : S x.f.toNat = true <;> by_cases b : S x.t.toNat = true <;> simp [h1, h2, a, b] <;> omega
theorem sumS_net {S : Nat → Bool} {n : Nat} : ∀ {P : List (ArcD × Int)}, (∀ p ∈ P, (0 ≤ p.1.f ∧ p.1.f < (n : Int)) ∧ (0 ≤ p.1.t ∧ p.1.t < (n : Int))) → sumS S (netO P) n = crossO S P
  | [], _ => sumS_zero S n
  | p :: P, h => by
    have h1 := h p (List.mem_cons_self ..)
    have ih := sumS_net (S := S) (P := P) (fun q hq => h q (List.mem_cons_of_mem _ hq))
    have e : sumS S (netO (p :: P)) n = sumS S (outAt p.1 p.2) n + sumS S (netO P) n := by
      rw [← sumS_add]
      exact sumS_same fun v _ _ => rfl
    rw [e, sumS_out h1.1 h1.2, ih]
    rfl
section
variable {n : Nat} {A : List ArcD} {F G : List Int} {S : Nat → Bool}
/-- A flow's size is what flows across a cut. -/
theorem size_cross (h : flowOkV n A F = true) (h0 : S 0 = true) (h1 : S 1 = false) : netO (A.zip F) 0 = crossO S (A.zip F) := by
  obtain ⟨hn, _, _, hb⟩ := flowOk_out h
  obtain ⟨hN, _, hA⟩ := netOk_out hn
  rw [← sumS_net (S := S) (n := n) (fun p hp => ⟨(arcOk_out (hA _ (zip_arc hp))).1, (arcOk_out (hA _ (zip_arc hp))).2.1⟩)]
  have e : ∀ v, v < n → S v = true → netO (A.zip F) v = if v = 0 then netO (A.zip F) 0 else 0 := fun v hv hs => by
    by_cases h2 : v = 0
    · rw [if_pos h2, h2]
    · rw [if_neg h2]
      refine hb v ?_ (by omega)
      have : v ≠ 1 := fun e => by rw [e, h1] at hs; cases hs
      omega
  rw [sumS_same e, sumS_one, if_pos ⟨by omega, h0⟩]
theorem cross_le : ∀ {A : List ArcD} {F : List Int}, F.length = A.length → (∀ p ∈ A.zip F, 0 ≤ p.2 ∧ p.2 ≤ p.1.r) → crossO S (A.zip F) ≤ cutR S A
  | [], _, _, _ => by simp [crossO, cutR]
  | x :: A, y :: F, hl, h => by
    have ih := cross_le (A := A) (F := F) (by simpa using hl) (fun p hp => h p (List.mem_cons_of_mem _ hp))
    have hy := h (x, y) (List.mem_cons_self ..)
    simp only [List.zip_cons_cons, crossO, cutR]
    simp only at hy
    have : crossAt S x y ≤ cutAt S x := by
      unfold crossAt cutAt
      cases a : S x.f.toNat <;> cases b : S x.t.toNat <;> simp <;> omega
    omega
  | _ :: _, [], hl, _ => by simp at hl
/-- Where as much flows across as the cut lets through, each arc across is full, each arc back is empty; and the other way about. -/
def tight (S : Nat → Bool) (p : ArcD × Int) : Prop := (S p.1.f.toNat = true → S p.1.t.toNat = false → p.2 = p.1.r) ∧ (S p.1.f.toNat = false → S p.1.t.toNat = true → p.2 = 0)
theorem tight_at {x : ArcD} {y : Int} (_hy : 0 ≤ y ∧ y ≤ x.r) : tight S (x, y) ↔ crossAt S x y = cutAt S x := by
  unfold tight crossAt cutAt
  cases a : S x.f.toNat <;> cases b : S x.t.toNat <;> simp <;> omega
theorem cross_eq : ∀ {A : List ArcD} {F : List Int}, F.length = A.length → (∀ p ∈ A.zip F, 0 ≤ p.2 ∧ p.2 ≤ p.1.r) → (crossO S (A.zip F) = cutR S A ↔ ∀ p ∈ A.zip F, tight S p)
  | [], _, _, _ => by simp [crossO, cutR]
  | x :: A, y :: F, hl, h => by
    have hl2 : F.length = A.length := by simpa using hl
    have h2 : ∀ p ∈ A.zip F, 0 ≤ p.2 ∧ p.2 ≤ p.1.r := fun p hp => h p (List.mem_cons_of_mem _ hp)
    have ih := cross_eq (A := A) (F := F) hl2 h2
    have hle := cross_le (S := S) hl2 h2
    have hy := h (x, y) (List.mem_cons_self ..)
    simp only at hy
    have hx : crossAt S x y ≤ cutAt S x := by
      unfold crossAt cutAt
      cases a : S x.f.toNat <;> cases b : S x.t.toNat <;> simp <;> omega
    simp only [List.zip_cons_cons, crossO, cutR, List.mem_cons, forall_eq_or_imp, tight_at hy, ← ih]
    omega
  | _ :: _, [], hl, _ => by simp at hl
/-- No flow is more than a cut lets through. -/
theorem size_le (h : flowOkV n A F = true) (h0 : S 0 = true) (h1 : S 1 = false) : netO (A.zip F) 0 ≤ cutR S A := by
  obtain ⟨_, hl, hr, _⟩ := flowOk_out h
  rw [size_cross h h0 h1]
  exact cross_le hl hr
theorem size_tight (h : flowOkV n A F = true) (h0 : S 0 = true) (h1 : S 1 = false) : netO (A.zip F) 0 = cutR S A ↔ ∀ p ∈ A.zip F, tight S p := by
  obtain ⟨_, hl, hr, _⟩ := flowOk_out h
  rw [size_cross h h0 h1]
  exact cross_eq hl hr
theorem reached0 : reachedB A F 0 = true := resB_iff.2 Res.src
theorem not_reached {v : Nat} (h : reachedB A F v = false) : ¬ Res (A.zip F) v := fun k => by
  have := resB_iff.2 k
  unfold reachedB at h
  rw [h] at this
  cases this
/-- Of a flow from which node 1 cannot be reached, the reached nodes are a tight cut. -/
theorem reached_tight (h : flowOkV n A F = true) : ∀ p ∈ A.zip F, tight (reachedB A F) p := by
  obtain ⟨hn, _, hr, _⟩ := flowOk_out h
  obtain ⟨_, _, hA⟩ := netOk_out hn
  intro p hp
  have hy := hr p hp
  obtain ⟨hf, ht, _⟩ := arcOk_out (hA _ (zip_arc hp))
  refine ⟨fun a b => ?_, fun a b => ?_⟩
  · refine Int.le_antisymm hy.2 (Int.not_lt.1 fun k => not_reached b ?_)
    have := resB_iff.1 a
    rw [Int.toNat_of_nonneg hf.1] at this
    rw [Int.toNat_of_nonneg ht.1]
    exact Res.fwd hp this k
  · refine Int.le_antisymm (Int.not_lt.1 fun k => not_reached a ?_) hy.1
    have := resB_iff.1 b
    rw [Int.toNat_of_nonneg ht.1] at this
    rw [Int.toNat_of_nonneg hf.1]
    exact Res.bwd hp this k
theorem stop_size (h : flowOkV n A F = true) (h1 : reachedB A F 1 = false) : netO (A.zip F) 0 = cutR (reachedB A F) A := (size_tight h reached0 h1).2 (reached_tight h)
/-- A flow from which node 1 cannot be reached is a greatest one. -/
theorem stop_most (h : flowOkV n A F = true) (h1 : reachedB A F 1 = false) (hg : flowOkV n A G = true) : netO (A.zip G) 0 ≤ netO (A.zip F) 0 := by
  rw [stop_size h h1]
  exact size_le hg reached0 h1
/-- What a tight cut holds, holds what can be reached. -/
theorem tight_reach (h0 : S 0 = true) (ht : ∀ p ∈ A.zip F, tight S p) {v : Int} (hv : Res (A.zip F) v) : S v.toNat = true := by
  induction hv with
  | src => exact h0
  | fwd hp _ hr ih =>
    rename_i p _
    cases b : S p.1.t.toNat with
    | true => rfl
    | false => have := (ht p hp).1 ih b; omega
  | bwd hp _ hr ih =>
    rename_i p _
    cases b : S p.1.f.toNat with
    | true => rfl
    | false => have := (ht p hp).2 b ih; omega
/-- Two such flows reach the same nodes. -/
theorem stop_same (h : flowOkV n A F = true) (h1 : reachedB A F 1 = false) (hg : flowOkV n A G = true) (g1 : reachedB A G 1 = false) : netO (A.zip F) 0 = netO (A.zip G) 0 ∧ reachedB A F = reachedB A G := by
  have e : netO (A.zip F) 0 = netO (A.zip G) 0 := Int.le_antisymm (stop_most hg g1 h) (stop_most h h1 hg)
  refine ⟨e, funext fun v => ?_⟩
  have tG : ∀ p ∈ A.zip G, tight (reachedB A F) p := (size_tight hg reached0 h1).1 (by rw [← e]; exact stop_size h h1)
  have tF : ∀ p ∈ A.zip F, tight (reachedB A G) p := (size_tight h reached0 g1).1 (by rw [e]; exact stop_size hg g1)
  rw [Bool.eq_iff_iff]
  refine ⟨fun k => ?_, fun k => ?_⟩
  · have := tight_reach reached0 tF (resB_iff.1 k)
    simpa using this
  · have := tight_reach reached0 tG (resB_iff.1 k)
    simpa using this
end

end Go.Proofs.YtlkhecdlmbhiaaaDoor

