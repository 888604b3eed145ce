/-
  Cuts: a flow from which node 1 cannot be reached is a greatest one; all greatest flows reach the same nodes. Plain facts; no statement is proved here.
  A unit that is pushed along a way found by a queue's search, as functions of the bare lists; what is pushed is a flow. Plain facts; no statement is proved here.
-/
import Derived.Test.YtnbbhdbcapfbkaaDoorZFF03
namespace Go.Proofs.YtnbbhdbcapfbkaaDoor
set_option maxRecDepth 4096

/-- What a cut lets through. -/
def cutAt (S : Nat → Bool) (x : ArcD) : Int := if S x.f.toNat = true ∧ S x.t.toNat = false then x.r else 0
def cutR (S : Nat → Bool) : List ArcD → Int
  | [] => 0
  | x :: A => cutAt S x + cutR S A
/-- What flows across. -/
def crossAt (S : Nat → Bool) (x : ArcD) (y : Int) : Int := (if S x.f.toNat = true then y else 0) - (if S x.t.toNat = true then y else 0)
def crossO (S : Nat → Bool) : List (ArcD × Int) → Int
  | [] => 0
  | p :: P => crossAt S p.1 p.2 + crossO S P
def sumS (S : Nat → Bool) (o : Nat → Int) : Nat → Int
  | 0 => 0
  | n + 1 => sumS S o n + if S n = true then o n else 0

theorem sumS_add (S : Nat → Bool) (o o' : Nat → Int) (n : Nat) : sumS S (fun v => o v + o' v) n = sumS S o n + sumS S o' n := by
  induction n with
  | zero => rfl
  | succ n ih => simp only [sumS, ih]; split <;> omega
theorem sumS_zero (S : Nat → Bool) (n : Nat) : sumS S (fun _ => 0) n = 0 := by
  induction n with
  | zero => rfl
  | succ n ih => simp only [sumS, ih]; split <;> rfl
theorem sumS_same {S : Nat → Bool} {o o' : Nat → Int} {n : Nat} (h : ∀ v, v < n → S v = true → o v = o' v) : sumS S o n = sumS S o' n := by
  induction n with
  | zero => rfl
  | succ n ih =>
    simp only [sumS, ih (fun v hv => h v (by omega))]
    split
    · rename_i hs
      rw [h n (by omega) hs]
    · rfl
/-- One node's part. -/
theorem sumS_one (S : Nat → Bool) (a : Nat) (y : Int) (n : Nat) : sumS S (fun v => if v = a then y else 0) n = if a < n ∧ S a = true then y else 0 := by
  induction n with
  | zero => simp [sumS]
  | succ n ih =>
    simp only [sumS, ih]
    by_cases h : n = a
    · subst h
      by_cases hs : S n = true <;> simp [hs]
    · by_cases h2 : a < n
      · have h3 : a < n + 1 := by omega
        by_cases hs : S a = true <;> simp [h, h2, h3, hs]
      · have h3 : ¬ a < n + 1 := by omega
        simp [h, h2, h3]
theorem sumS_out {S : Nat → Bool} {x : ArcD} {y : Int} {n : Nat} (hf : 0 ≤ x.f ∧ x.f < (n : Int)) (ht : 0 ≤ x.t ∧ x.t < (n : Int)) : sumS S (outAt x y) n = crossAt S x y := by
  have e : ∀ v, outAt x y v = (if v = x.f.toNat then y else 0) + (if v = x.t.toNat then -y else 0) := fun v => by
    unfold outAt
    by_cases h1 : x.f = (v : Int) <;> by_cases h2 : x.t = (v : Int)
    · have h3 : v = x.f.toNat := by omega
      have h4 : v = x.t.toNat := by omega
      rw [if_pos h1, if_pos h2, if_pos h3, if_pos h4]; omega
    · have h3 : v = x.f.toNat := by omega
      have h4 : ¬ v = x.t.toNat := by omega
      rw [if_pos h1, if_neg h2, if_pos h3, if_neg h4]; omega
    · have h3 : ¬ v = x.f.toNat := by omega
      have h4 : v = x.t.toNat := by omega
      rw [if_neg h1, if_pos h2, if_neg h3, if_pos h4]; omega
    · have h3 : ¬ v = x.f.toNat := by omega
      have h4 : ¬ v = x.t.toNat := by omega
      rw [if_neg h1, if_neg h2, if_neg h3, if_neg h4]; omega
  rw [sumS_same (fun v _ _ => e v), sumS_add, sumS_one, sumS_one]
  have h1 : x.f.toNat < n := by omega
  have h2 : x.t.toNat < n := by omega
  unfold crossAt
  by_cases a : S x.f.toNat = true <;> by_cases b : S x.t.toNat = true <;> simp [h1, h2, a, b] <;> omega
theorem sumS_net {S : Nat → Bool} {n : Nat} : ∀ {P : List (ArcD × Int)}, (∀ p ∈ P, (0 ≤ p.1.f ∧ p.1.f < (n : Int)) ∧ (0 ≤ p.1.t ∧ p.1.t < (n : Int))) → sumS S (netO P) n = crossO S P
  | [], _ => sumS_zero S n
  | p :: P, h => by
    have h1 := h p (List.mem_cons_self ..)
    have ih := sumS_net (S := S) (P := P) (fun q hq => h q (List.mem_cons_of_mem _ hq))
    have e : sumS S (netO (p :: P)) n = sumS S (outAt p.1 p.2) n + sumS S (netO P) n := by
      rw [← sumS_add]
      exact sumS_same fun v _ _ => rfl
    rw [e, sumS_out h1.1 h1.2, ih]
    rfl
section
variable {n : Nat} {A : List ArcD} {F G : List Int} {S : Nat → Bool}
/-- A flow's size is what flows across a cut. -/
theorem size_cross (h : flowOkV n A F = true) (h0 : S 0 = true) (h1 : S 1 = false) : netO (A.zip F) 0 = crossO S (A.zip F) := by
  obtain ⟨hn, _, _, hb⟩ := flowOk_out h
  obtain ⟨hN, _, hA⟩ := netOk_out hn
  rw [← sumS_net (S := S) (n := n) (fun p hp => ⟨(arcOk_out (hA _ (zip_arc hp))).1, (arcOk_out (hA _ (zip_arc hp))).2.1⟩)]
  have e : ∀ v, v < n → S v = true → netO (A.zip F) v = if v = 0 then netO (A.zip F) 0 else 0 := fun v hv hs => by
    by_cases h2 : v = 0
    · rw [if_pos h2, h2]
    · rw [if_neg h2]
      refine hb v ?_ (by omega)
      have : v ≠ 1 := fun e => by rw [e, h1] at hs; cases hs
      omega
  rw [sumS_same e, sumS_one, if_pos ⟨by omega, h0⟩]
theorem cross_le : ∀ {A : List ArcD} {F : List Int}, F.length = A.length → (∀ p ∈ A.zip F, 0 ≤ p.2 ∧ p.2 ≤ p.1.r) → crossO S (A.zip F) ≤ cutR S A
  | [], _, _, _ => by simp [crossO, cutR]
  | x :: A, y :: F, hl, h => by
    have ih := cross_le (A := A) (F := F) (by simpa using hl) (fun p hp => h p (List.mem_cons_of_mem _ hp))
    have hy := h (x, y) (List.mem_cons_self ..)
    simp only [List.zip_cons_cons, crossO, cutR]
    simp only at hy
    have : crossAt S x y ≤ cutAt S x := by
      unfold crossAt cutAt
      cases a : S x.f.toNat <;> cases b : S x.t.toNat <;> simp <;> omega
    omega
  | _ :: _, [], hl, _ => by simp at hl
/-- Where as much flows across as the cut lets through, each arc across is full, each arc back is empty; and the other way about. -/
def tight (S : Nat → Bool) (p : ArcD × Int) : Prop := (S p.1.f.toNat = true → S p.1.t.toNat = false → p.2 = p.1.r) ∧ (S p.1.f.toNat = false → S p.1.t.toNat = true → p.2 = 0)
theorem tight_at {x : ArcD} {y : Int} (_hy : 0 ≤ y ∧ y ≤ x.r) : tight S (x, y) ↔ crossAt S x y = cutAt S x := by
  unfold tight crossAt cutAt
  cases a : S x.f.toNat <;> cases b : S x.t.toNat <;> simp <;> omega
theorem cross_eq : ∀ {A : List ArcD} {F : List Int}, F.length = A.length → (∀ p ∈ A.zip F, 0 ≤ p.2 ∧ p.2 ≤ p.1.r) → (crossO S (A.zip F) = cutR S A ↔ ∀ p ∈ A.zip F, tight S p)
  | [], _, _, _ => by simp [crossO, cutR]
  | x :: A, y :: F, hl, h => by
    have hl2 : F.length = A.length := by simpa using hl
    have h2 : ∀ p ∈ A.zip F, 0 ≤ p.2 ∧ p.2 ≤ p.1.r := fun p hp => h p (List.mem_cons_of_mem _ hp)
    have ih := cross_eq (A := A) (F := F) hl2 h2
    have hle := cross_le (S := S) hl2 h2
    have hy := h (x, y) (List.mem_cons_self ..)
    simp only at hy
    have hx : crossAt S x y ≤ cutAt S x := by
      unfold crossAt cutAt
      cases a : S x.f.toNat <;> cases b : S x.t.toNat <;> simp <;> omega
    simp only [List.zip_cons_cons, crossO, cutR, List.mem_cons, forall_eq_or_imp, tight_at hy, ← ih]
    omega
  | _ :: _, [], hl, _ => by simp at hl
/-- No flow is more than a cut lets through. -/
theorem size_le (h : flowOkV n A F = true) (h0 : S 0 = true) (h1 : S 1 = false) : netO (A.zip F) 0 ≤ cutR S A := by
  obtain ⟨_, hl, hr, _⟩ := flowOk_out h
  rw [size_cross h h0 h1]
  exact cross_le hl hr
theorem size_tight (h : flowOkV n A F = true) (h0 : S 0 = true) (h1 : S 1 = false) : netO (A.zip F) 0 = cutR S A ↔ ∀ p ∈ A.zip F, tight S p := by
  obtain ⟨_, hl, hr, _⟩ := flowOk_out h
  rw [size_cross h h0 h1]
  exact cross_eq hl hr
theorem reached0 : reachedB A F 0 = true := resB_iff.2 Res.src
theorem not_reached {v : Nat} (h : reachedB A F v = false) : ¬ Res (A.zip F) v := fun k => by
  have := resB_iff.2 k
  unfold reachedB at h
  rw [h] at this
  cases this
/-- Of a flow from which node 1 cannot be reached, the reached nodes are a tight cut. -/
theorem reached_tight (h : flowOkV n A F = true) : ∀ p ∈ A.zip F, tight (reachedB A F) p := by
  obtain ⟨hn, _, hr, _⟩ := flowOk_out h
  obtain ⟨_, _, hA⟩ := netOk_out hn
  intro p hp
  have hy := hr p hp
  obtain ⟨hf, ht, _⟩ := arcOk_out (hA _ (zip_arc hp))
  refine ⟨fun a b => ?_, fun a b => ?_⟩
  · refine Int.le_antisymm hy.2 (Int.not_lt.1 fun k => not_reached b ?_)
    have := resB_iff.1 a
    rw [Int.toNat_of_nonneg hf.1] at this
    rw [Int.toNat_of_nonneg ht.1]
    exact Res.fwd hp this k
  · refine Int.le_antisymm (Int.not_lt.1 fun k => not_reached a ?_) hy.1
    have := resB_iff.1 b
    rw [Int.toNat_of_nonneg ht.1] at this
    rw [Int.toNat_of_nonneg hf.1]
    exact Res.bwd hp this k
theorem stop_size (h : flowOkV n A F = true) (h1 : reachedB A F 1 = false) : netO (A.zip F) 0 = cutR (reachedB A F) A := (size_tight h reached0 h1).2 (reached_tight h)
/-- A flow from which node 1 cannot be reached is a greatest one. -/
theorem stop_most (h : flowOkV n A F = true) (h1 : reachedB A F 1 = false) (hg : flowOkV n A G = true) : netO (A.zip G) 0 ≤ netO (A.zip F) 0 := by
  rw [stop_size h h1]
  exact size_le hg reached0 h1
/-- What a tight cut holds, holds what can be reached. -/
theorem tight_reach (h0 : S 0 = true) (ht : ∀ p ∈ A.zip F, tight S p) {v : Int} (hv : Res (A.zip F) v) : S v.toNat = true := by
  induction hv with
  | src => exact h0
  | fwd hp _ hr ih =>
    rename_i p _
    cases b : S p.1.t.toNat with
    | true => rfl
    | false => have := (ht p hp).1 ih b; omega
  | bwd hp _ hr ih =>
    rename_i p _
    cases b : S p.1.f.toNat with
    | true => rfl
    | false => have := (ht p hp).2 b ih; omega
/-- Two such flows reach the same nodes. -/
theorem stop_same (h : flowOkV n A F = true) (h1 : reachedB A F 1 = false) (hg : flowOkV n A G = true) (g1 : reachedB A G 1 = false) : netO (A.zip F) 0 = netO (A.zip G) 0 ∧ reachedB A F = reachedB A G := by
  have e : netO (A.zip F) 0 = netO (A.zip G) 0 := Int.le_antisymm (stop_most hg g1 h) (stop_most h h1 hg)
  refine ⟨e, funext fun v => ?_⟩
  have tG : ∀ p ∈ A.zip G, tight (reachedB A F) p := (size_tight hg reached0 h1).1 (by rw [← e]; exact stop_size h h1)
  have tF : ∀ p ∈ A.zip F, tight (reachedB A G) p := (size_tight h reached0 g1).1 (by rw [e]; exact stop_size hg g1)
  rw [Bool.eq_iff_iff]
  refine ⟨fun k => ?_, fun k => ?_⟩
  · have := tight_reach reached0 tF (resB_iff.1 k)
    simpa using this
  · have := tight_reach reached0 tG (resB_iff.1 k)
    simpa using this
end

end Go.Proofs.YtnbbhdbcapfbkaaDoor

namespace Go.Proofs.YtnbbhdbcapfbkaaDoor
set_option maxRecDepth 4096

/-- What a search knows: what it has met, by which arc, its queue. -/
structure BS where
  o : Nat → Bool
  b : Nat → Int
  q : List Nat
def BS.met (s : BS) (t : Nat) (y : Int) : BS := ⟨fun j => s.o j || decide (j = t), fun j => if j = t then y else s.b j, s.q ++ [t]⟩
def fwdB (x : ArcD) (y : Int) (v i : Nat) (s : BS) : BS := if x.f = (v : Int) ∧ s.o x.t.toNat = false ∧ y < x.r then s.met x.t.toNat ((i : Int) + 1) else s
def bwdB (x : ArcD) (y : Int) (v i : Nat) (s : BS) : BS := if x.t = (v : Int) ∧ s.o x.f.toNat = false ∧ 0 < y then s.met x.f.toNat (-(i : Int) - 1) else s
/-- The arcs, one after the other, at node v. -/
def scanB (v : Nat) : List (ArcD × Int) → Nat → BS → BS
  | [], _, s => s
  | p :: P, k, s => scanB v P (k + 1) (bwdB p.1 p.2 v k (fwdB p.1 p.2 v k s))
def searchB (P : List (ArcD × Int)) : Nat → Nat → BS → BS
  | 0, _, s => s
  | f + 1, h, s => if h < s.q.length then searchB P f (h + 1) (scanB (s.q.getD h 0) P 0 s) else s
def startQ : BS := ⟨fun j => decide (j = 0), fun _ => 0, [0]⟩
def arcAt (A : List ArcD) (i : Nat) : ArcD := A.getD i ⟨0, 0, 0, 0⟩
def bump (F : List Int) (i : Nat) (d : Int) : List Int := F.set i (F.getD i 0 + d)
/-- The unit goes along the arcs by which the nodes were met, back from v. -/
def walkB (A : List ArcD) (b : Nat → Int) : Nat → Nat → List Int → List Int
  | 0, _, F => F
  | f + 1, v, F => if v = 0 then F else if 0 < b v then walkB A b f (arcAt A (b v - 1).toNat).f.toNat (bump F (b v - 1).toNat 1) else walkB A b f (arcAt A (-b v - 1).toNat).t.toNat (bump F (-b v - 1).toNat (-1))
def pushB (A : List ArcD) (n : Nat) : Nat → List Int → List Int
  | 0, F => F
  | k + 1, F => if (searchB (A.zip F) (n + 1) 0 startQ).o 1 = true then pushB A n k (walkB A (searchB (A.zip F) (n + 1) 0 startQ).b n 1 F) else F

/-- How node v was met: from node u over arc i. -/
def Par (P : List (ArcD × Int)) (b : Nat → Int) (v u i : Nat) : Prop :=
  ∃ p, P[i]? = some p ∧ ((b v = (i : Int) + 1 ∧ p.1.t = (v : Int) ∧ p.1.f = (u : Int) ∧ p.2 < p.1.r) ∨ (b v = -(i : Int) - 1 ∧ p.1.f = (v : Int) ∧ p.1.t = (u : Int) ∧ 0 < p.2))
/-- What holds throughout a search over n nodes; ρ is the step at which a node was met. -/
structure BInv (P : List (ArcD × Int)) (n : Nat) (s : BS) (ρ : Nat → Nat) : Prop where
  zero : s.o 0 = true
  mem : ∀ v, v ∈ s.q → s.o v = true
  bound : ∀ v, s.o v = true → v < n
  par : ∀ v, s.o v = true → v ≠ 0 → ∃ u i, s.o u = true ∧ ρ u < ρ v ∧ Par P s.b v u i
  rank : ∀ v, s.o v = true → ρ v < s.q.length
  nod : s.q.length + ((List.range n).filter fun j => !s.o j).length ≤ n
theorem filter_one {n t : Nat} {o : Nat → Bool} (ht : t < n) (h : o t = false) : ((List.range n).filter fun j => !(o j || decide (j = t))).length + 1 ≤ ((List.range n).filter fun j => !o j).length := by
  induction n with
  | zero => omega
  | succ n ih =>
    rw [List.range_succ, List.filter_append, List.filter_append, List.length_append, List.length_append]
    by_cases e : t = n
    · subst e
      have h1 : ((List.range t).filter fun j => !(o j || decide (j = t))).length ≤ ((List.range t).filter fun j => !o j).length := by
        refine Nat.le_of_eq (congrArg List.length (List.filter_congr fun j hj => ?_))
        have := List.mem_range.1 hj
        have e2 : j ≠ t := by omega
        simp [e2]
      simp [h]
      simpa using h1
    · have := ih (by omega)
      have e2 : (([n].filter fun j => !(o j || decide (j = t)))).length = ([n].filter fun j => !o j).length := by
        have : n ≠ t := fun h => e h.symm
        simp only [List.filter_cons, List.filter_nil]
        simp [this]
      omega
theorem BInv.start {P : List (ArcD × Int)} {n : Nat} (h : 0 < n) : BInv P n startQ (fun _ => 0) := by
  refine ⟨by simp [startQ], by simp [startQ], fun v hv => ?_, fun v hv h0 => ?_, fun v _ => by simp [startQ], ?_⟩
  · simp [startQ] at hv
    omega
  · simp [startQ] at hv
    exact absurd hv h0
  · have := filter_one (n := n) (t := 0) (o := fun _ => false) h rfl
    have e : ((List.range n).filter fun j => !(fun _ => false : Nat → Bool) j).length = n := by rw [List.filter_eq_self.2 (by simp)]; simp
    rw [e] at this
    simpa [startQ, Nat.add_comm] using this
theorem Par.keep {P : List (ArcD × Int)} {b b' : Nat → Int} {v u i : Nat} (h : Par P b v u i) (e : b' v = b v) : Par P b' v u i := by
  unfold Par
  rw [e]
  exact h
theorem BInv.met {P : List (ArcD × Int)} {n : Nat} {s : BS} {ρ : Nat → Nat} (h : BInv P n s ρ) {t u i : Nat} {y : Int} (ht : s.o t = false) (htn : t < n) (hu : s.o u = true) (hp : Par P (s.met t y).b t u i) :
    BInv P n (s.met t y) (fun j => if j = t then s.q.length else ρ j) := by
  have hne : ∀ v, s.o v = true → v ≠ t := fun v hv e => by rw [e, ht] at hv; cases hv
  have ho : ∀ v, (s.met t y).o v = true ↔ s.o v = true ∨ v = t := fun v => by simp [BS.met]
  refine ⟨(ho 0).2 (.inl h.zero), fun v hv => ?_, fun v hv => ?_, fun v hv h0 => ?_, fun v hv => ?_, ?_⟩
  · rcases List.mem_append.1 hv with h1 | h1
    · exact (ho v).2 (.inl (h.mem v h1))
    · exact (ho v).2 (.inr (List.mem_singleton.1 h1))
  · rcases (ho v).1 hv with h1 | h1
    · exact h.bound v h1
    · omega
  · rcases (ho v).1 hv with h1 | h1
    · obtain ⟨u', i', h2, h3, h4⟩ := h.par v h1 h0
      refine ⟨u', i', (ho u').2 (.inl h2), ?_, h4.keep ?_⟩
      · simp only [if_neg (hne v h1), if_neg (hne u' h2)]
        exact h3
      · show (if v = t then y else s.b v) = s.b v
        rw [if_neg (hne v h1)]
    · subst h1
      refine ⟨u, i, (ho u).2 (.inl hu), ?_, hp⟩
      simp only [if_neg (hne u hu), if_true]
      exact h.rank u hu
  · have hl : (s.met t y).q.length = s.q.length + 1 := by simp [BS.met]
    rw [hl]
    rcases (ho v).1 hv with h1 | h1
    · simp only [if_neg (hne v h1)]
      have := h.rank v h1
      omega
    · simp [h1]
  · have hl : (s.met t y).q.length = s.q.length + 1 := by simp [BS.met]
    have := filter_one (n := n) (t := t) (o := s.o) htn ht
    have h9 := h.nod
    have e : (fun j => !(s.met t y).o j) = fun j => !(s.o j || decide (j = t)) := rfl
    rw [hl, e]
    omega
theorem BInv.few {P : List (ArcD × Int)} {n : Nat} {s : BS} {ρ : Nat → Nat} (h : BInv P n s ρ) : s.q.length ≤ n := by
  have := h.nod
  omega

/-- The arcs join nodes below n. -/
def Inside (P : List (ArcD × Int)) (n : Nat) : Prop := ∀ p ∈ P, (0 ≤ p.1.f ∧ p.1.f < (n : Int)) ∧ (0 ≤ p.1.t ∧ p.1.t < (n : Int))
section
variable {P : List (ArcD × Int)} {n v k : Nat} {s : BS} {ρ : Nat → Nat} {p : ArcD × Int}
theorem fwd_inv (hP : Inside P n) (h : BInv P n s ρ) (hv : s.o v = true) (hp : P[k]? = some p) : ∃ ρ', BInv P n (fwdB p.1 p.2 v k s) ρ' ∧ (fwdB p.1 p.2 v k s).o v = true ∧ ∃ T, (fwdB p.1 p.2 v k s).q = s.q ++ T := by
  unfold fwdB
  split
  · rename_i hc
    obtain ⟨h1, h2, h3⟩ := hc
    have hb := hP p (List.mem_of_getElem? hp)
    refine ⟨_, h.met h2 (by omega) hv ⟨p, hp, .inl ⟨by simp [BS.met], by omega, h1, h3⟩⟩, by simp [BS.met, hv], _, rfl⟩
  · exact ⟨ρ, h, hv, [], by simp⟩
theorem bwd_inv (hP : Inside P n) (h : BInv P n s ρ) (hv : s.o v = true) (hp : P[k]? = some p) : ∃ ρ', BInv P n (bwdB p.1 p.2 v k s) ρ' ∧ (bwdB p.1 p.2 v k s).o v = true ∧ ∃ T, (bwdB p.1 p.2 v k s).q = s.q ++ T := by
  unfold bwdB
  split
  · rename_i hc
    obtain ⟨h1, h2, h3⟩ := hc
    have hb := hP p (List.mem_of_getElem? hp)
    refine ⟨_, h.met h2 (by omega) hv ⟨p, hp, .inr ⟨by simp [BS.met], by omega, h1, h3⟩⟩, by simp [BS.met, hv], _, rfl⟩
  · exact ⟨ρ, h, hv, [], by simp⟩
theorem scan_inv (hP : Inside P n) : ∀ (Q : List (ArcD × Int)) (k : Nat) (s : BS) (ρ : Nat → Nat), P.drop k = Q → BInv P n s ρ → s.o v = true → ∃ ρ', BInv P n (scanB v Q k s) ρ' ∧ ∃ T, (scanB v Q k s).q = s.q ++ T
  | [], _, s, ρ, _, h, _ => ⟨ρ, h, [], by simp [scanB]⟩
  | p :: Q, k, s, ρ, hQ, h, hv => by
    have hp : P[k]? = some p := by
      have := congrArg (fun L => L[0]?) hQ
      simpa using this
    obtain ⟨ρ1, h1, hv1, T1, e1⟩ := fwd_inv hP h hv hp
    obtain ⟨ρ2, h2, hv2, T2, e2⟩ := bwd_inv hP h1 hv1 hp
    obtain ⟨ρ3, h3, T3, e3⟩ := scan_inv hP Q (k + 1) _ ρ2 (by rw [← List.drop_drop, hQ]; rfl) h2 hv2
    exact ⟨ρ3, h3, T1 ++ (T2 ++ T3), by rw [scanB, e3, e2, e1]; simp⟩
theorem search_inv (hP : Inside P n) : ∀ (f h : Nat) (s : BS) (ρ : Nat → Nat), BInv P n s ρ → ∃ ρ', BInv P n (searchB P f h s) ρ'
  | 0, _, _, ρ, hi => ⟨ρ, hi⟩
  | f + 1, h, s, ρ, hi => by
    unfold searchB
    split
    · rename_i hlt
      have hv : s.o (s.q.getD h 0) = true := hi.mem _ (by rw [List.getD_eq_getElem?_getD, List.getElem?_eq_getElem hlt]; exact List.getElem_mem hlt)
      obtain ⟨ρ', h', _⟩ := scan_inv (v := s.q.getD h 0) hP P 0 s ρ rfl hi hv
      exact search_inv hP f (h + 1) _ ρ' h'
    · exact ⟨ρ, hi⟩
end

/-! ### the way back -/
theorem arcAt_of {A : List ArcD} {i : Nat} {x : ArcD} (h : A[i]? = some x) : arcAt A i = x := by
  unfold arcAt
  rw [List.getD_eq_getElem?_getD, h]
  rfl
theorem bump_len (F : List Int) (i : Nat) (d : Int) : (bump F i d).length = F.length := by simp [bump]
theorem bump_at {F : List Int} {i : Nat} {y : Int} (d : Int) (h : F[i]? = some y) : (bump F i d)[i]? = some (y + d) := by
  have hi := (List.getElem?_eq_some_iff.1 h).1
  unfold bump
  rw [List.getElem?_set_self hi, List.getD_eq_getElem?_getD, h]
  rfl
theorem bump_ne {F : List Int} {i j : Nat} (d : Int) (h : i ≠ j) : (bump F i d)[j]? = F[j]? := by
  unfold bump
  rw [List.getElem?_set_ne h]
theorem netO_bump : ∀ {A : List ArcD} {F : List Int} {i : Nat} {x : ArcD} {y : Int} (d : Int) (v : Nat), A[i]? = some x → F[i]? = some y → netO (A.zip (bump F i d)) v = netO (A.zip F) v + outAt x d v
  | a :: A, f :: F, 0, x, y, d, v, hx, hy => by
    simp only [List.getElem?_cons_zero, Option.some.injEq] at hx hy
    subst hx hy
    simp only [bump, List.set_cons_zero, List.getD_cons_zero, List.zip_cons_cons, netO, outAt]
    split <;> split <;> omega
  | a :: A, f :: F, i + 1, x, y, d, v, hx, hy => by
    have ih := netO_bump (A := A) (F := F) (i := i) d v (by simpa using hx) (by simpa using hy)
    have e : bump (f :: F) (i + 1) d = f :: bump F i d := by simp [bump]
    rw [e]
    simp only [List.zip_cons_cons, netO, ih]
    omega
  | [], _, _, _, _, _, _, hx, _ => by simp at hx
  | _ :: _, [], _, _, _, _, _, _, hy => by simp at hy

/-- While the unit goes back: it stands at v; what is left of the way is as it was. -/
structure WInv (A : List ArcD) (F₀ : List Int) (s : BS) (ρ : Nat → Nat) (v : Nat) (F : List Int) : Prop where
  met : s.o v = true
  len : F.length = A.length
  room : ∀ p ∈ A.zip F, 0 ≤ p.2 ∧ p.2 ≤ p.1.r
  bal : ∀ u : Nat, netO (A.zip F) u = netO (A.zip F₀) u + (if u = v then 1 else 0) - (if u = 1 then 1 else 0)
  same : ∀ w u i, s.o w = true → ρ w ≤ ρ v → s.o u = true → ρ u < ρ w → Par (A.zip F₀) s.b w u i → F[i]? = F₀[i]?
theorem room_bump {A : List ArcD} {F : List Int} {i : Nat} {x : ArcD} {y d : Int} (hx : A[i]? = some x) (hy : F[i]? = some y) (h : ∀ p ∈ A.zip F, 0 ≤ p.2 ∧ p.2 ≤ p.1.r) (hd : 0 ≤ y + d ∧ y + d ≤ x.r) : ∀ p ∈ A.zip (bump F i d), 0 ≤ p.2 ∧ p.2 ≤ p.1.r := by
  intro p hp
  obtain ⟨k, h1, h2⟩ := zip_in hp
  by_cases e : i = k
  · subst e
    rw [hx] at h1
    rw [bump_at d hy] at h2
    have e1 := Option.some.inj h1
    have e2 := Option.some.inj h2
    rw [← e1, ← e2]
    exact hd
  · rw [bump_ne d e] at h2
    exact h p (List.mem_of_getElem? (zip_at h1 h2))
/-- One step back. -/
theorem WInv.step {A : List ArcD} {F₀ F : List Int} {s : BS} {ρ : Nat → Nat} {v : Nat} (hb : ∀ v, s.o v = true → v ≠ 0 → ∃ u i, s.o u = true ∧ ρ u < ρ v ∧ Par (A.zip F₀) s.b v u i) (h : WInv A F₀ s ρ v F) (h0 : v ≠ 0) :
    ∃ (i : Nat) (x : ArcD) (y : Int), A[i]? = some x ∧ F[i]? = some y ∧ 0 ≤ y ∧ y ≤ x.r ∧
      ((s.b v = (i : Int) + 1 ∧ x.t = (v : Int) ∧ (∃ u : Nat, x.f = (u : Int) ∧ ρ u < ρ v ∧ WInv A F₀ s ρ u (bump F i 1)) ∧ y < x.r) ∨
       (s.b v = -(i : Int) - 1 ∧ x.f = (v : Int) ∧ (∃ u : Nat, x.t = (u : Int) ∧ ρ u < ρ v ∧ WInv A F₀ s ρ u (bump F i (-1))) ∧ 0 < y)) := by
  obtain ⟨u, i, hu, hr, hp⟩ := hb v h.met h0
  have hsame := h.same v u i h.met (Nat.le_refl _) hu hr hp
  have hp0 := hp
  obtain ⟨⟨x, y⟩, hz, hc⟩ := hp
  have hz2 := hz
  rw [List.getElem?_zip_eq_some] at hz2
  obtain ⟨hx, hy0⟩ := hz2
  have hy := hsame.trans hy0
  have hyr := h.room (x, y) (List.mem_of_getElem? (zip_at hx hy))
  simp only at hx hy0 hyr hc hy
  have other : ∀ w u' i', s.o w = true → ρ w ≤ ρ u → s.o u' = true → ρ u' < ρ w → Par (A.zip F₀) s.b w u' i' → i ≠ i' := by
    intro w u' i' hw hwu hu' hru hpw e
    subst e
    obtain ⟨p, hz', hc'⟩ := hpw
    rw [hz] at hz'
    have e2 := Option.some.inj hz'
    subst e2
    simp only at hc'
    rcases hc with ⟨_, a1, a2, _⟩ | ⟨_, a1, a2, _⟩ <;> rcases hc' with ⟨_, b1, b2, _⟩ | ⟨_, b1, b2, _⟩
    · have : w = v := by omega
      subst this; omega
    · have : u' = v := by omega
      subst this; omega
    · have : u' = v := by omega
      subst this; omega
    · have : w = v := by omega
      subst this; omega
  refine ⟨i, x, y, hx, hy, hyr.1, hyr.2, ?_⟩
  rcases hc with ⟨a0, a1, a2, a3⟩ | ⟨a0, a1, a2, a3⟩
  · refine .inl ⟨a0, a1, ⟨u, a2, hr, hu, by rw [bump_len]; exact h.len, room_bump hx hy h.room (by omega), fun w => ?_, fun w u' i' hw hwu hu' hru hpw => ?_⟩, a3⟩
    · rw [netO_bump 1 w hx hy, h.bal w]
      unfold outAt
      rw [a1, a2]
      by_cases e1 : w = u <;> by_cases e2 : w = v <;> simp [e1, e2] <;> omega
    · rw [bump_ne 1 (other w u' i' hw hwu hu' hru hpw)]
      exact h.same w u' i' hw (by omega) hu' hru hpw
  · refine .inr ⟨a0, a1, ⟨u, a2, hr, hu, by rw [bump_len]; exact h.len, room_bump hx hy h.room (by omega), fun w => ?_, fun w u' i' hw hwu hu' hru hpw => ?_⟩, a3⟩
    · rw [netO_bump (-1) w hx hy, h.bal w]
      unfold outAt
      rw [a1, a2]
      by_cases e1 : w = u <;> by_cases e2 : w = v <;> simp [e1, e2] <;> omega
    · rw [bump_ne (-1) (other w u' i' hw hwu hu' hru hpw)]
      exact h.same w u' i' hw (by omega) hu' hru hpw

theorem walkB_zero (A : List ArcD) (b : Nat → Int) (f : Nat) (F : List Int) : walkB A b f 0 F = F := by
  cases f <;> simp [walkB]
theorem walkB_fwd {A : List ArcD} {b : Nat → Int} {f v u i : Nat} {x : ArcD} {F : List Int} (h0 : v ≠ 0) (hb : b v = (i : Int) + 1) (hx : A[i]? = some x) (hu : x.f = (u : Int)) : walkB A b (f + 1) v F = walkB A b f u (bump F i 1) := by
  rw [walkB, if_neg h0, hb, if_pos (by omega), show ((i : Int) + 1 - 1).toNat = i from by omega, arcAt_of hx, hu]
  rfl
theorem walkB_bwd {A : List ArcD} {b : Nat → Int} {f v u i : Nat} {x : ArcD} {F : List Int} (h0 : v ≠ 0) (hb : b v = -(i : Int) - 1) (hx : A[i]? = some x) (hu : x.t = (u : Int)) : walkB A b (f + 1) v F = walkB A b f u (bump F i (-1)) := by
  rw [walkB, if_neg h0, hb, if_neg (by omega), show (-(-(i : Int) - 1) - 1).toNat = i from by omega, arcAt_of hx, hu]
  rfl
theorem walk_inv {A : List ArcD} {F₀ : List Int} {n : Nat} {s : BS} {ρ : Nat → Nat} (hb : BInv (A.zip F₀) n s ρ) : ∀ (f v : Nat) (F : List Int), WInv A F₀ s ρ v F → ρ v < f → WInv A F₀ s ρ 0 (walkB A s.b f v F)
  | 0, _, _, _, h => by omega
  | f + 1, v, F, h, hf => by
    by_cases h0 : v = 0
    · subst h0
      rw [walkB_zero]
      exact h
    · obtain ⟨i, x, y, hx, hy, _, _, ⟨e1, _, ⟨u, e2, hr, hi⟩, _⟩ | ⟨e1, _, ⟨u, e2, hr, hi⟩, _⟩⟩ := h.step hb.par h0
      · rw [walkB_fwd h0 e1 hx e2]
        exact walk_inv hb f u _ hi (by omega)
      · rw [walkB_bwd h0 e1 hx e2]
        exact walk_inv hb f u _ hi (by omega)
theorem WInv.start {A : List ArcD} {F : List Int} {s : BS} {ρ : Nat → Nat} (h1 : s.o 1 = true) (hl : F.length = A.length) (hr : ∀ p ∈ A.zip F, 0 ≤ p.2 ∧ p.2 ≤ p.1.r) : WInv A F s ρ 1 F :=
  ⟨h1, hl, hr, fun u => by split <;> omega, fun _ _ _ _ _ _ _ _ => rfl⟩

theorem netOk_outP {N : Int} {A : List ArcD} (h : netOkV N A = true) : 2 ≤ N ∧ N ≤ 1500 ∧ ∀ x ∈ A, arcOk N x = true := by
  unfold netOkV at h
  simp only [Bool.and_eq_true, decide_eq_true_eq, List.all_eq_true] at h
  obtain ⟨h1, _, h3⟩ := h
  have := inV_iff.1 h1
  exact ⟨this.1, this.2, h3⟩
theorem inside_of {n : Nat} {A : List ArcD} {F : List Int} (h : netOkV n A = true) : Inside (A.zip F) n := by
  intro p hp
  obtain ⟨h1, h2, _⟩ := arcOk_out ((netOk_outP h).2.2 _ (zip_arc hp))
  omega
/-- One push. -/
theorem push_one {n : Nat} {A : List ArcD} {F : List Int} (h : flowOkV n A F = true) (h1 : (searchB (A.zip F) (n + 1) 0 startQ).o 1 = true) :
    flowOkV n A (walkB A (searchB (A.zip F) (n + 1) 0 startQ).b n 1 F) = true ∧ netO (A.zip (walkB A (searchB (A.zip F) (n + 1) 0 startQ).b n 1 F)) 0 = netO (A.zip F) 0 + 1 := by
  obtain ⟨hk, hl, hr, hs⟩ := flowOk_out h
  have hn := netOk_outP hk
  obtain ⟨ρ, hb⟩ := search_inv (inside_of (F := F) hk) (n + 1) 0 startQ _ (BInv.start (by omega))
  have hw := walk_inv hb n 1 F (WInv.start h1 hl hr) (Nat.lt_of_lt_of_le (hb.rank 1 h1) hb.few)
  refine ⟨flowOk_mk hk hw.len hw.room fun v hv hn => ?_, ?_⟩
  · rw [hw.bal v, hs v hv hn, if_neg (by omega), if_neg (by omega)]
    rfl
  · rw [hw.bal 0]
    simp
theorem push_ok {n : Nat} {A : List ArcD} : ∀ (k : Nat) (F : List Int), flowOkV n A F = true → flowOkV n A (pushB A n k F) = true ∧ netO (A.zip F) 0 ≤ netO (A.zip (pushB A n k F)) 0
  | 0, F, h => ⟨h, Int.le_refl _⟩
  | k + 1, F, h => by
    unfold pushB
    split
    · rename_i h1
      obtain ⟨h2, h3⟩ := push_one h h1
      obtain ⟨h4, h5⟩ := push_ok k _ h2
      exact ⟨h4, by omega⟩
    · exact ⟨h, Int.le_refl _⟩
theorem netO_zero : ∀ (A : List ArcD) (n v : Nat), netO (A.zip (List.replicate n 0)) v = 0
  | [], n, v => by simp [netO]
  | a :: A, 0, v => by simp [netO]
  | a :: A, n + 1, v => by
    rw [List.replicate_succ, List.zip_cons_cons, netO, netO_zero A n v]
    simp [outAt]
theorem zero_ok {N : Int} {A : List ArcD} (h : netOkV N A = true) : flowOkV N A (List.replicate A.length 0) = true := by
  refine flowOk_mk h (by simp) (fun p hp => ?_) (fun v _ _ => netO_zero _ _ _)
  have h1 := arcOk_out ((netOk_outP h).2.2 _ (zip_arc hp))
  obtain ⟨k, _, h2⟩ := zip_in hp
  have h3 := List.mem_of_getElem? h2
  rw [List.mem_replicate] at h3
  omega
/-- The flow that l06Pushed hands back. -/
def pushedV (A : List ArcD) (n k : Nat) : List Int := pushB A n k (List.replicate A.length 0)
theorem pushed_ok {n : Nat} {A : List ArcD} (h : netOkV n A = true) (k : Nat) : flowOkV n A (pushedV A n k) = true ∧ 0 ≤ netO (A.zip (pushedV A n k)) 0 := by
  obtain ⟨h1, h2⟩ := push_ok k _ (zero_ok h)
  rw [netO_zero] at h2
  exact ⟨h1, h2⟩

end Go.Proofs.YtnbbhdbcapfbkaaDoor

