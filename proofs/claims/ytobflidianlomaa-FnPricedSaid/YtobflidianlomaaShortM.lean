/-
  The first step into a node that fits, found in the order of the node's own slice; a way as a list of such steps. Plain facts; no statement is proved here.
-/
import Derived.Test.YtobflidianlomaaNextM
import Derived.Test.YtobflidianlomaaResN
namespace Go.Proofs.Ytobflidianlomaa
set_option maxRecDepth 4096

/-- Which steps into v fit, in the order of v's slice. -/
def fitS (D : Nat → Int) (v : Nat) (p : ArcD × Int) : List Bool := (if p.1.f = (v : Int) then [decide (fitB D v p)] else []) ++ (if p.1.t = (v : Int) then [decide (fitF D v p)] else [])
def rowT (D : Nat → Int) (P : List (ArcD × Int)) (v : Nat) : List Bool := P.flatMap fun p => fitS D v p
theorem fitS_len (D : Nat → Int) (v : Nat) (x : ArcD) (y : Int) (z : Nat × Nat) : (fitS D v (x, y)).length = (boxA (x, z) v).length := by
  unfold fitS boxA
  split <;> split <;> simp_all
theorem rowT_len {D : Nat → Int} : ∀ {A : List ArcD} {F : List Int} {X : List (Nat × Nat)}, F.length = A.length → X.length = A.length → ∀ v, (rowT D (A.zip F) v).length = (bsL (A.zip X) v).length
  | [], _, _, _, _, _ => by simp [bsL, rowT]
  | x :: A, y :: F, z :: X, hF, hX, v => by
    have ih := rowT_len (D := D) (A := A) (F := F) (X := X) (by simpa using hF) (by simpa using hX) v
    unfold bsL rowT at ih ⊢
    simp only [List.zip_cons_cons, List.flatMap_cons, List.length_append, ih, fitS_len D v x y z]
  | _ :: _, [], _, hF, _, _ => by simp at hF
  | _ :: _, _ :: _, [], _, hX, _ => by simp at hX
theorem rowT_mem {D : Nat → Int} {P : List (ArcD × Int)} {v : Nat} (h : ∃ p ∈ P, fitF D v p ∨ fitB D v p) : true ∈ rowT D P v := by
  obtain ⟨p, hp, hf⟩ := h
  unfold rowT
  rw [List.mem_flatMap]
  refine ⟨p, hp, ?_⟩
  unfold fitS
  rw [List.mem_append]
  rcases hf with hf | hf
  · exact .inr (by rw [if_pos hf.1]; simp [hf])
  · exact .inl (by rw [if_pos hf.1]; simp [hf])
theorem boxA_cases {x : ArcD} {c d v j b : Nat} {y : Int} {D : Nat → Int} (hne : x.f ≠ x.t) (hb : (boxA (x, c, d) v)[j]? = some b) :
    j = 0 ∧ ((b = c ∧ x.f = (v : Int) ∧ x.t ≠ (v : Int) ∧ fitS D v (x, y) = [decide (fitB D v (x, y))]) ∨ (b = d ∧ x.t = (v : Int) ∧ x.f ≠ (v : Int) ∧ fitS D v (x, y) = [decide (fitF D v (x, y))])) := by
  unfold boxA at hb
  unfold fitS
  by_cases h1 : x.f = (v : Int)
  · have h2 : ¬ x.t = (v : Int) := fun e => hne (h1.trans e.symm)
    simp only [h1, if_true, h2, if_false, List.append_nil] at hb ⊢
    cases j with
    | zero =>
      simp only [List.getElem?_cons_zero, Option.some.injEq] at hb
      exact ⟨rfl, .inl ⟨hb.symm, by trivial, h2, by trivial⟩⟩
    | succ j => simp at hb
  · by_cases h2 : x.t = (v : Int)
    · simp only [h1, if_false, h2, if_true, List.nil_append] at hb ⊢
      cases j with
      | zero =>
        simp only [List.getElem?_cons_zero, Option.some.injEq] at hb
        exact ⟨rfl, .inr ⟨hb.symm, by trivial, h1, by trivial⟩⟩
      | succ j => simp at hb
    · simp [h1, h2] at hb
theorem fitS_none {D : Nat → Int} {v : Nat} {x : ArcD} {y : Int} (h : ∀ b ∈ fitS D v (x, y), b = false) : ¬ fitF D v (x, y) ∧ ¬ fitB D v (x, y) := by
  refine ⟨fun hf => ?_, fun hf => ?_⟩
  · have := h true (by unfold fitS; rw [List.mem_append]; exact .inr (by rw [if_pos hf.1]; simp [hf]))
    cases this
  · have := h true (by unfold fitS; rw [List.mem_append]; exact .inl (by rw [if_pos hf.1]; simp [hf]))
    cases this
/-- The block at a place of v's slice: its arc, whether the step into v fits; and if it is the first that fits, it is the one that backI finds. -/
theorem row_at {D : Nat → Int} : ∀ {A : List ArcD} {F : List Int} {X : List (Nat × Nat)}, (∀ x ∈ A, x.f ≠ x.t) → F.length = A.length → X.length = A.length → ∀ {v j b : Nat} (k : Nat), (bsL (A.zip X) v)[j]? = some b →
    ∃ (i : Nat) (x : ArcD) (y : Int) (c d : Nat), A[i]? = some x ∧ F[i]? = some y ∧ X[i]? = some (c, d) ∧
      ((b = c ∧ x.f = (v : Int) ∧ (rowT D (A.zip F) v)[j]? = some (decide (fitB D v (x, y)))) ∨ (b = d ∧ x.t = (v : Int) ∧ (rowT D (A.zip F) v)[j]? = some (decide (fitF D v (x, y))))) ∧
      ((∀ f ∈ (rowT D (A.zip F) v).take j, f = false) → (rowT D (A.zip F) v)[j]? = some true → (b = c → x.f = (v : Int) → backI D v (A.zip F) k = -((k + i : Nat) : Int) - 1) ∧ (b = d → x.t = (v : Int) → backI D v (A.zip F) k = ((k + i : Nat) : Int) + 1))
  | [], _, _, _, _, _, _, _, _, _, hb => by simp [bsL] at hb
  | x :: A, y :: F, (c, d) :: X, hne, hF, hX, v, j, b, k, hb => by
    have hne1 := hne x (List.mem_cons_self ..)
    have ih := fun j hb => row_at (D := D) (A := A) (F := F) (X := X) (fun x hx => hne x (List.mem_cons_of_mem _ hx)) (by simpa using hF) (by simpa using hX) (v := v) (j := j) (b := b) (k + 1) hb
    unfold bsL at hb ih
    unfold rowT at ih ⊢
    simp only [List.zip_cons_cons, List.flatMap_cons] at hb ⊢
    have hl := fitS_len D v x y (c, d)
    rcases Nat.lt_or_ge j (boxA (x, c, d) v).length with hj | hj
    · rw [List.getElem?_append_left hj] at hb
      obtain ⟨rfl, hc⟩ := boxA_cases (D := D) (y := y) hne1 hb
      refine ⟨0, x, y, c, d, rfl, rfl, rfl, ?_, fun _ hT => ?_⟩
      · rcases hc with ⟨h1, h2, h3, h4⟩ | ⟨h1, h2, h3, h4⟩
        · exact .inl ⟨h1, h2, by rw [h4]; rfl⟩
        · exact .inr ⟨h1, h2, by rw [h4]; rfl⟩
      · unfold backI
        rcases hc with ⟨h1, h2, h3, h4⟩ | ⟨h1, h2, h3, h4⟩
        · rw [h4] at hT
          have hT : fitB D v (x, y) := by simpa using hT
          have hno : ¬ fitF D v (x, y) := fun hf => h3 hf.1
          exact ⟨fun _ _ => by rw [if_neg hno, if_pos hT]; rfl, fun _ e => absurd e h3⟩
        · rw [h4] at hT
          have hT : fitF D v (x, y) := by simpa using hT
          exact ⟨fun _ e => absurd e h3, fun _ _ => by rw [if_pos hT]; rfl⟩
    · rw [List.getElem?_append_right hj] at hb
      obtain ⟨i, x', y', c', d', h1, h2, h3, h4, h5⟩ := ih _ hb
      refine ⟨i + 1, x', y', c', d', by simpa using h1, by simpa using h2, by simpa using h3, ?_, fun hall hT => ?_⟩
      · rw [List.getElem?_append_right (by omega), hl]
        exact h4
      · rw [List.getElem?_append_right (by omega), hl] at hT
        have hs : ∀ f ∈ fitS D v (x, y), f = false := fun f hf => hall f (by
          rw [List.take_append, List.take_of_length_le (by omega)]
          exact List.mem_append_left _ hf)
        obtain ⟨n1, n2⟩ := fitS_none hs
        have h6 := h5 (fun f hf => hall f (by
          rw [List.take_append, hl]
          exact List.mem_append_right _ hf)) hT
        unfold backI
        rw [if_neg n1, if_neg n2]
        have e : k + 1 + i = k + (i + 1) := by omega
        rw [e] at h6
        exact h6
  | _ :: _, [], _, _, hF, _, _, _, _, _, _ => by simp at hF
  | _ :: _, _ :: _, [], _, _, hX, _, _, _, _, _ => by simp at hX

/-- Block b is the step from u' into u that bk names. -/
def Link (A : List ArcD) (X : List (Nat × Nat)) (bk : Nat → Int) (u b u' : Nat) : Prop :=
  ∃ (i : Nat) (x : ArcD) (c d : Nat), A[i]? = some x ∧ X[i]? = some (c, d) ∧ ((bk u = (i : Int) + 1 ∧ b = c ∧ x.f = (u' : Int)) ∨ (bk u = -(i : Int) - 1 ∧ b = d ∧ x.t = (u' : Int)))
/-- Such blocks lead back from u to v. -/
def Seg (A : List ArcD) (X : List (Nat × Nat)) (bk : Nat → Int) : List Nat → Nat → Nat → Prop
  | [], u, v => u = v
  | b :: L, u, v => ∃ u', u ≠ 0 ∧ Link A X bk u b u' ∧ Seg A X bk L u' v
theorem Seg.snoc {A : List ArcD} {X : List (Nat × Nat)} {bk : Nat → Int} : ∀ {L : List Nat} {u v b v' : Nat}, Seg A X bk L u v → v ≠ 0 → Link A X bk v b v' → Seg A X bk (L ++ [b]) u v'
  | [], u, v, b, v', h, h0, hl => by
    have e : u = v := h
    subst e
    exact ⟨v', h0, hl, rfl⟩
  | _ :: L, u, v, b, v', ⟨u', h1, h2, h3⟩, h0, hl => ⟨u', h1, h2, h3.snoc h0 hl⟩

end Go.Proofs.Ytobflidianlomaa
