/-
  The residual network in memory, with the blocks of each arc's two directions. No statement is proved here.
-/
import Derived.Test.YtlkhecdlmbhiaaaDoorZTS34
namespace Go.Proofs.YtlkhecdlmbhiaaaDoor
set_option maxRecDepth 4096
open Go.ChangeShapes Go.WideShapes Go.ChangeAt Go.RowKit

/-- The blocks of the arcs that lead away from v. -/
def boxA (p : ArcD × Nat × Nat) (v : Nat) : List Nat := (if p.1.f = (v : Int) then [p.2.1] else []) ++ (if p.1.t = (v : Int) then [p.2.2] else [])
def bsL (Z : List (ArcD × Nat × Nat)) (v : Nat) : List Nat := Z.flatMap fun p => boxA p v
theorem bsL_nil (A : List ArcD) : bsL (A.zip []) = fun _ => [] := by
  funext v
  simp [bsL]
theorem zip_more {α β : Type} {x : α} {z : β} : ∀ {A : List α} {X : List β}, A[X.length]? = some x → A.zip (X ++ [z]) = A.zip X ++ [(x, z)]
  | [], _, h => by simp at h
  | a :: A, [], h => by
    simp only [List.length_nil, List.getElem?_cons_zero, Option.some.injEq] at h
    simp [h]
  | a :: A, y :: X, h => by
    simp only [List.cons_append, List.zip_cons_cons]
    rw [zip_more (A := A) (X := X) (by simpa using h)]
theorem bsL_step {A : List ArcD} {X : List (Nat × Nat)} {k a b : Nat} {r c : Int} {fb cb : Nat} (h : A[k]? = some ⟨a, b, r, c⟩) (hX : X.length = k) (hab : a ≠ b) :
    addB (addB (bsL (A.zip X)) a fb) b cb = bsL (A.zip (X ++ [(fb, cb)])) := by
  subst hX
  have e1 : A.zip (X ++ [(fb, cb)]) = A.zip X ++ [(⟨a, b, r, c⟩, fb, cb)] := zip_more h
  rw [e1]
  funext v
  unfold bsL addB boxA
  rw [List.flatMap_append]
  simp only [List.flatMap_cons, List.flatMap_nil, List.append_nil, Int.natCast_inj]
  by_cases h1 : v = a
  · subst h1
    have h2 : ¬ b = v := fun e => hab e.symm
    have h3 : ¬ v = b := hab
    simp [h2, h3]
  · by_cases h2 : v = b
    · subst h2
      have h3 : ¬ a = v := fun e => h1 e.symm
      simp [h1, h3]
    · have h3 : ¬ a = v := fun e => h1 e.symm
      have h4 : ¬ b = v := fun e => h2 e.symm
      simp [h1, h2, h3, h4]
theorem res_box_len : ∀ {A : List ArcD} {F : List Int} {X : List (Nat × Nat)}, F.length = A.length → X.length = A.length → ∀ v, (bsL (A.zip X) v).length = (resL (A.zip F) v).length
  | [], _, _, _, _, _ => by simp [bsL, resL]
  | x :: A, y :: F, z :: X, hF, hX, v => by
    have ih := res_box_len (A := A) (F := F) (X := X) (by simpa using hF) (by simpa using hX) v
    unfold bsL resL at ih ⊢
    simp only [List.zip_cons_cons, List.flatMap_cons, List.length_append, ih]
    have : (boxA (x, z) v).length = (awayP (x, y) v).length := by
      unfold boxA awayP
      split <;> split <;> simp_all
    omega
  | _ :: _, [], _, hF, _, _ => by simp at hF
  | _ :: _, _ :: _, [], _, hX, _ => by simp at hX
/-- The arc at a place of a node's slice. -/
theorem res_box_at : ∀ {A : List ArcD} {F : List Int} {X : List (Nat × Nat)}, F.length = A.length → X.length = A.length → ∀ {v j : Nat} {e : Nat × Int} {b : Nat}, (resL (A.zip F) v)[j]? = some e → (bsL (A.zip X) v)[j]? = some b →
    ∃ (i : Nat) (x : ArcD) (y : Int) (c d : Nat), A[i]? = some x ∧ F[i]? = some y ∧ X[i]? = some (c, d) ∧ ((b = c ∧ x.f = (v : Int) ∧ e = (x.t.toNat, x.r - y)) ∨ (b = d ∧ x.t = (v : Int) ∧ e = (x.f.toNat, y)))
  | [], _, _, _, _, _, _, _, _, he, _ => by simp [resL] at he
  | x :: A, y :: F, (c, d) :: X, hF, hX, v, j, e, b, he, hb => by
    have ih := fun j he hb => res_box_at (A := A) (F := F) (X := X) (by simpa using hF) (by simpa using hX) (v := v) (j := j) (e := e) (b := b) he hb
    unfold bsL at hb ih
    unfold resL at he ih
    simp only [List.zip_cons_cons, List.flatMap_cons] at he hb
    have hl : (boxA (x, c, d) v).length = (awayP (x, y) v).length := by
      unfold boxA awayP
      split <;> split <;> simp_all
    rcases Nat.lt_or_ge j (awayP (x, y) v).length with hj | hj
    · rw [List.getElem?_append_left hj] at he
      rw [List.getElem?_append_left (by omega)] at hb
      refine ⟨0, x, y, c, d, rfl, rfl, rfl, ?_⟩
      unfold boxA at hb
      unfold awayP at he
      by_cases h1 : x.f = (v : Int)
      · rw [if_pos h1] at hb he
        cases j with
        | zero =>
          simp only [List.cons_append, List.nil_append, List.getElem?_cons_zero, Option.some.injEq] at he hb
          exact .inl ⟨hb.symm, h1, he.symm⟩
        | succ j =>
          by_cases h2 : x.t = (v : Int)
          · rw [if_pos h2] at hb he
            cases j with
            | zero =>
              simp only [List.cons_append, List.nil_append, List.getElem?_cons_succ, List.getElem?_cons_zero, Option.some.injEq] at he hb
              exact .inr ⟨hb.symm, h2, he.symm⟩
            | succ j => simp at he
          · rw [if_neg h2] at he
            simp at he
      · rw [if_neg h1] at hb he
        by_cases h2 : x.t = (v : Int)
        · rw [if_pos h2] at hb he
          cases j with
          | zero =>
            simp only [List.nil_append, List.getElem?_cons_zero, Option.some.injEq] at he hb
            exact .inr ⟨hb.symm, h2, he.symm⟩
          | succ j => simp at he
        · rw [if_neg h2] at he
          simp at he
    · rw [List.getElem?_append_right hj] at he
      rw [List.getElem?_append_right (by omega), hl] at hb
      obtain ⟨i, x', y', c', d', h1, h2, h3, h4⟩ := ih _ he hb
      exact ⟨i + 1, x', y', c', d', by simpa using h1, by simpa using h2, by simpa using h3, h4⟩
  | _ :: _, [], _, hF, _, _, _, _, _, _, _ => by simp at hF
  | _ :: _, _ :: _, [], _, hX, _, _, _, _, _, _ => by simp at hX

/-- The two blocks of each arc. -/
structure Boxes (B : Nat) (w : World) (A : List ArcD) (F : List Int) (X : List (Nat × Nat)) : Prop where
  box : ∀ (i : Nat) (x : ArcD) (y : Int) (c d : Nat), A[i]? = some x → F[i]? = some y → X[i]? = some (c, d) → w.heap[c]? = some (boxR x.f (x.r - y) x.c (some ⟨d, 0, none⟩)) ∧ w.heap[d]? = some (boxR x.t y (-x.c) (some ⟨c, 0, none⟩))
  apart : ∀ (i j c d c' d' : Nat), X[i]? = some (c, d) → X[j]? = some (c', d') → c ≠ d' ∧ (c = c' ∨ d = d' → i = j)
  lt : ∀ p ∈ X, (B ≤ p.1 ∧ p.1 < w.heap.size) ∧ (B ≤ p.2 ∧ p.2 < w.heap.size)
section
variable {B : Nat} {w w' : World} {A : List ArcD} {F : List Int} {X : List (Nat × Nat)}
theorem Boxes.start : Boxes B w A F [] := ⟨fun _ _ _ _ _ _ _ h => by simp at h, fun _ _ _ _ _ _ h => by simp at h, fun _ h => by cases h⟩
theorem Boxes.on (h : Boxes B w A F X) (hs : w.heap.size ≤ w'.heap.size) (hk : ∀ (q : Nat) (a l k : Int) (p : Option Addr), w.heap[q]? = some (boxR a l k p) → w'.heap[q]? = some (boxR a l k p)) : Boxes B w' A F X :=
  ⟨fun i x y c d h1 h2 h3 => ⟨hk _ _ _ _ _ (h.box i x y c d h1 h2 h3).1, hk _ _ _ _ _ (h.box i x y c d h1 h2 h3).2⟩, h.apart, fun p hp => by
    obtain ⟨⟨h1, h2⟩, h3, h4⟩ := h.lt p hp
    exact ⟨⟨h1, Nat.lt_of_lt_of_le h2 hs⟩, h3, Nat.lt_of_lt_of_le h4 hs⟩⟩
theorem Boxes.grown {r : Option Nat} (h : Boxes B w A F X) (g : w.grownBy w' r) (hr : notBox w r) : Boxes B w' A F X :=
  h.on g.size fun q a l c p k => (g.block q (Array.getElem?_eq_some_iff.1 k).1 (fun e => hr q e.symm a l c p k)).trans k
theorem Boxes.below (h : Boxes B w A F X) (g : Below w.heap.size w w') : Boxes B w' A F X := h.grown (below_grownN g) (notBox_none w)
/-- One arc more. -/
theorem Boxes.more {k c d : Nat} {x : ArcD} {y : Int} (h : Boxes B w A F X) (hX : X.length = k) (hx : A[k]? = some x) (hy : F[k]? = some y) (h1 : w.heap[c]? = some (boxR x.f (x.r - y) x.c (some ⟨d, 0, none⟩))) (h2 : w.heap[d]? = some (boxR x.t y (-x.c) (some ⟨c, 0, none⟩)))
    (hB : B ≤ c ∧ B ≤ d) (hcd : c ≠ d) (hn : ∀ p ∈ X, (p.1 ≠ c ∧ p.1 ≠ d) ∧ (p.2 ≠ c ∧ p.2 ≠ d)) : Boxes B w A F (X ++ [(c, d)]) := by
  subst hX
  have key : ∀ {i : Nat} {c' d' : Nat}, (X ++ [(c, d)])[i]? = some (c', d') → (X[i]? = some (c', d') ∧ i < X.length) ∨ (i = X.length ∧ c' = c ∧ d' = d) := fun {i c' d'} hi => by
    rcases Nat.lt_trichotomy i X.length with hlt | rfl | hgt
    · rw [List.getElem?_append_left hlt] at hi
      exact .inl ⟨hi, hlt⟩
    · simp at hi
      exact .inr ⟨rfl, hi.1.symm, hi.2.symm⟩
    · rw [List.getElem?_append_right (by omega)] at hi
      obtain ⟨m, hm⟩ : ∃ m, i - X.length = m + 1 := ⟨i - X.length - 1, by omega⟩
      rw [hm] at hi
      simp at hi
  refine ⟨fun i x' y' c' d' a1 a2 a3 => ?_, fun i j c1 d1 c2 d2 a1 a2 => ?_, fun p hp => ?_⟩
  · rcases key a3 with ⟨a4, _⟩ | ⟨rfl, rfl, rfl⟩
    · exact h.box i x' y' c' d' a1 a2 a4
    · rw [hx] at a1
      rw [hy] at a2
      cases a1
      cases a2
      exact ⟨h1, h2⟩
  · rcases key a1 with ⟨b1, b2⟩ | ⟨rfl, rfl, rfl⟩ <;> rcases key a2 with ⟨b3, b4⟩ | ⟨rfl, rfl, rfl⟩
    · exact h.apart i j c1 d1 c2 d2 b1 b3
    · have := hn _ (List.mem_of_getElem? b1)
      simp only at this
      exact ⟨this.1.2, fun e => by rcases e with e | e <;> omega⟩
    · have := hn _ (List.mem_of_getElem? b3)
      simp only at this
      exact ⟨fun e => this.2.1 e.symm, fun e => by rcases e with e | e <;> omega⟩
    · exact ⟨hcd, fun _ => rfl⟩
  · rcases List.mem_append.1 hp with hp | hp
    · exact h.lt p hp
    · rw [List.mem_singleton.1 hp]
      exact ⟨⟨hB.1, (Array.getElem?_eq_some_iff.1 h1).1⟩, hB.2, (Array.getElem?_eq_some_iff.1 h2).1⟩
/-- What flows through one arc has changed. -/
theorem Boxes.bump {i c d : Nat} {x : ArcD} {y : Int} (δ : Int) (h : Boxes B w A F X) (hx : A[i]? = some x) (hy : F[i]? = some y) (hc : X[i]? = some (c, d)) (hs : w.heap.size ≤ w'.heap.size)
    (h1 : w'.heap[c]? = some (boxR x.f (x.r - (y + δ)) x.c (some ⟨d, 0, none⟩))) (h2 : w'.heap[d]? = some (boxR x.t (y + δ) (-x.c) (some ⟨c, 0, none⟩))) (hk : ∀ q, q < w.heap.size → q ≠ c → q ≠ d → w'.heap[q]? = w.heap[q]?) : Boxes B w' A (bump F i δ) X := by
  refine ⟨fun j x' y' c' d' a1 a2 a3 => ?_, h.apart, fun p hp => ?_⟩
  · by_cases e : i = j
    · subst e
      rw [hx] at a1
      rw [hc] at a3
      rw [bump_at δ hy] at a2
      cases a1
      cases a2
      cases a3
      exact ⟨h1, h2⟩
    · rw [bump_ne δ e] at a2
      obtain ⟨b1, b2⟩ := h.box j x' y' c' d' a1 a2 a3
      have p1 := h.apart i j c d c' d' hc a3
      have p2 := h.apart j i c' d' c d a3 hc
      refine ⟨(hk c' (Array.getElem?_eq_some_iff.1 b1).1 (fun e2 => e (p1.2 (.inl e2.symm))) p2.1).trans b1, (hk d' (Array.getElem?_eq_some_iff.1 b2).1 (fun e2 => p1.1 e2.symm) (fun e2 => e (p1.2 (.inr e2.symm)))).trans b2⟩
  · obtain ⟨⟨h1, h2⟩, h3, h4⟩ := h.lt p hp
    exact ⟨⟨h1, Nat.lt_of_lt_of_le h2 hs⟩, h3, Nat.lt_of_lt_of_le h4 hs⟩
end

/-- The network with what flows through it. -/
structure RN (B : Nat) (w : World) (G n : Nat) (A : List ArcD) (F : List Int) (S : Nat → Value) (X : List (Nat × Nat)) : Prop where
  row : w.ownsRow B 77 1 (.slice (some ⟨G, 0, none⟩) n n) n (rowV S n)
  own : ∀ v, v < n → w.ownsRow B 107 1 (S v) (bsL (A.zip X) v).length ((bsL (A.zip X) v).map ptrV)
  box : Boxes B w A F X
  len : X.length = A.length
  apart : ∀ u v, u < n → v < n → u ≠ v → (S u).ownBlock = none ∨ (S u).ownBlock ≠ (S v).ownBlock
section
variable {B G n : Nat} {w w' : World} {A : List ArcD} {F : List Int} {S : Nat → Value} {X : List (Nat × Nat)}
theorem RN.of (h : RG B w G n (resL (A.zip F)) S (bsL (A.zip X))) (hb : Boxes B w A F X) (hX : X.length = A.length) : RN B w G n A F S X := ⟨h.row, h.own, hb, hX, h.apart⟩
theorem RN.edge (h : RN B w G n A F S X) (hF : F.length = A.length) (hok : ∀ x ∈ A, arcOk (n : Int) x = true) {v j : Nat} {e : Nat × Int} {b : Nat} (he : (resL (A.zip F) v)[j]? = some e) (hb : (bsL (A.zip X) v)[j]? = some b) : Edge w v e b := by
  obtain ⟨i, x, y, c, d, h1, h2, h3, h4⟩ := res_box_at hF h.len he hb
  obtain ⟨b1, b2⟩ := h.box.box i x y c d h1 h2 h3
  obtain ⟨⟨hf0, _⟩, ⟨ht0, _⟩, _⟩ := arcOk_out (hok _ (List.mem_of_getElem? h1))
  rcases h4 with ⟨rfl, h5, rfl⟩ | ⟨rfl, h5, rfl⟩
  · refine ⟨d, x.c, y, -x.c, some ⟨b, 0, none⟩, ?_, by rw [Int.toNat_of_nonneg ht0]; exact b2⟩
    rw [← h5]
    exact b1
  · refine ⟨c, -x.c, x.r - y, x.c, some ⟨b, 0, none⟩, ?_, by rw [Int.toNat_of_nonneg hf0]; exact b1⟩
    rw [← h5]
    exact b2
theorem RN.rg (h : RN B w G n A F S X) (hF : F.length = A.length) (hok : ∀ x ∈ A, arcOk (n : Int) x = true) : RG B w G n (resL (A.zip F)) S (bsL (A.zip X)) :=
  ⟨h.row, fun v _ => res_box_len hF h.len v, h.own, fun _ _ _ _ _ he hb => h.edge hF hok he hb, h.apart⟩
theorem RN.below (h : RN B w G n A F S X) (g : Below w.heap.size w w') : RN B w' G n A F S X :=
  ⟨h.row.kept (below_grownN g) (ne_none _), fun v hv => (h.own v hv).kept (below_grownN g) (ne_none _), h.box.below g, h.len, h.apart⟩
/-- A hop off an edge that is open. -/
theorem hop_of (hF : F.length = A.length) (hX : X.length = A.length) (hok : ∀ x ∈ A, arcOk (n : Int) x = true) {u j : Nat} {t : Nat} {z : Int} {b : Nat} (he : (resL (A.zip F) u)[j]? = some (t, z)) (hb : (bsL (A.zip X) u)[j]? = some b) (hz : 0 < z) : Hop A F X 1 u t b := by
  obtain ⟨i, x, y, c, d, h1, h2, h3, h4⟩ := res_box_at hF hX he hb
  obtain ⟨⟨hf0, _⟩, ⟨ht0, _⟩, _⟩ := arcOk_out (hok _ (List.mem_of_getElem? h1))
  rcases h4 with ⟨rfl, h5, h6⟩ | ⟨rfl, h5, h6⟩
  · injection h6 with h7 h8
    exact ⟨i, x, y, b, d, h1, h2, h3, .inl ⟨rfl, h5, by omega, by omega⟩⟩
  · injection h6 with h7 h8
    exact ⟨i, x, y, c, b, h1, h2, h3, .inr ⟨rfl, h5, by omega, by omega⟩⟩
/-- What a hop's block holds. -/
theorem Boxes.hop (h : Boxes B w A F X) {U : Int} {u v b : Nat} (hh : Hop A F X U u v b) : ∃ l k q, w.heap[b]? = some (boxR u l k q) := by
  obtain ⟨i, x, y, c, d, h1, h2, h3, ⟨rfl, h4, _, _⟩ | ⟨rfl, h4, _, _⟩⟩ := hh
  · rw [← h4]; exact ⟨_, _, _, (h.box i x y _ _ h1 h2 h3).1⟩
  · rw [← h4]; exact ⟨_, _, _, (h.box i x y _ _ h1 h2 h3).2⟩
theorem Boxes.leftAt (h : Boxes B w A F X) {b : Nat} {l : Int} (hl : LeftAt A F X b l) : ∃ a k q, w.heap[b]? = some (boxR a l k q) := by
  obtain ⟨i, x, y, c, d, h1, h2, h3, ⟨rfl, rfl⟩ | ⟨rfl, rfl⟩⟩ := hl
  · exact ⟨_, _, _, (h.box i x y _ _ h1 h2 h3).1⟩
  · exact ⟨_, _, _, (h.box i x _ _ _ h1 h2 h3).2⟩
theorem Boxes.left_one (h : Boxes B w A F X) {b : Nat} {l l' : Int} (hl : LeftAt A F X b l) (hl' : LeftAt A F X b l') : l = l' := by
  obtain ⟨a, k, q, h1⟩ := h.leftAt hl
  obtain ⟨a', k', q', h2⟩ := h.leftAt hl'
  rw [h1] at h2
  unfold boxR at h2
  simp at h2
  exact h2.2.1
theorem own_notBox {B' : Nat} {e : TypeId} {s m : Nat} {v : Value} {xs : List Value} {b : Nat} {a l c : Int} {p : Option Addr} (h : w.ownsRow B' e s v m xs) (he : e ≠ 109) (hb : w.heap[b]? = some (boxR a l c p)) : v.ownBlock = none ∨ v.ownBlock ≠ some b :=
  .inr fun k => notBox_own h he b k a l c p hb
/-- The network behind two stores into the two blocks of an arc. -/
theorem RN.bump {w1 : World} {i c d p q : Nat} {x : ArcD} {y : Int} {a1 l1 k1 a2 l2 k2 : Int} {r1 r2 : Option Addr} (δ : Int) (h : RN B w G n A F S X) (hx : A[i]? = some x) (hy : F[i]? = some y) (hc : X[i]? = some (c, d))
    (hpq : (p = c ∧ q = d) ∨ (p = d ∧ q = c)) (hp : w.heap[p]? = some (boxR a1 l1 k1 r1)) (g1 : w.grownBy w1 (some p)) (hq : w1.heap[q]? = some (boxR a2 l2 k2 r2)) (g2 : w1.grownBy w' (some q))
    (h1 : w'.heap[c]? = some (boxR x.f (x.r - (y + δ)) x.c (some ⟨d, 0, none⟩))) (h2 : w'.heap[d]? = some (boxR x.t (y + δ) (-x.c) (some ⟨c, 0, none⟩))) : RN B w' G n A (bump F i δ) S X := by
  have keep : ∀ {e : TypeId} {m : Nat} {v : Value} {xs : List Value}, w.ownsRow B e 1 v m xs → e ≠ 109 → w'.ownsRow B e 1 v m xs := fun k he => by
    have k1 := k.kept g1 (own_notBox k he hp)
    exact k1.kept g2 (own_notBox k1 he hq)
  refine ⟨keep h.row (by decide), fun v hv => keep (h.own v hv) (by decide), h.box.bump δ hx hy hc (Nat.le_trans g1.size g2.size) h1 h2 (fun r hr e1 e2 => ?_), h.len, h.apart⟩
  have n1 : r ≠ p := by rcases hpq with ⟨rfl, rfl⟩ | ⟨rfl, rfl⟩ <;> assumption
  have n2 : r ≠ q := by rcases hpq with ⟨rfl, rfl⟩ | ⟨rfl, rfl⟩ <;> assumption
  exact (g2.block r (Nat.lt_of_lt_of_le hr g1.size) (fun e => n2 (Option.some.inj e))).trans (g1.block r hr (fun e => n1 (Option.some.inj e)))
theorem grown_setCellR (w : World) (a : Addr) (u : Value) : w.grownBy (w.setCell a u) (some a.block) :=
  ⟨rfl, rfl, rfl, by simp [World.setCell], fun i _ hne => heap_setCell_other w a i u (fun e => hne (by rw [e]))⟩
end

end Go.Proofs.YtlkhecdlmbhiaaaDoor

