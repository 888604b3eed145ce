/-
  Rows of ints that grow, each in memory of its own; a row of ways over such rows. Plain facts; no statement is proved here.
-/
import Derived.Test.YtkndlpcpkfgneaaWayRow
namespace Go.Proofs.Ytkndlpcpkfgneaa
set_option maxRecDepth 4096
open Go.ChangeShapes Go.WideShapes Go.ChangeAt Go.RowKit

/-- Rows of ints, no two in the same block. -/
structure AllR (w : World) (B : Nat) (us : List Value) (LL : List (List Int)) : Prop where
  len : us.length = LL.length
  row : ∀ (i : Nat) u L, us[i]? = some u → LL[i]? = some L → w.ownsRow B 3 1 u L.length (L.map (Value.int .i64))
  apart : ∀ (i j : Nat) u u', i ≠ j → us[i]? = some u → us[j]? = some u' → u.ownBlock = none ∨ u.ownBlock ≠ u'.ownBlock
section
variable {w w' : World} {B : Nat} {us : List Value} {LL : List (List Int)}
theorem AllR.nil : AllR w B [] [] := ⟨rfl, fun i u L h => by simp at h, fun i j u u' _ h => by simp at h⟩
theorem AllR.at (h : AllR w B us LL) {i : Nat} {L : List Int} (hL : LL[i]? = some L) : ∃ u, us[i]? = some u ∧ w.ownsRow B 3 1 u L.length (L.map (Value.int .i64)) := by
  have hi : i < us.length := by rw [h.len]; exact (List.getElem?_eq_some_iff.1 hL).1
  exact ⟨_, List.getElem?_eq_getElem hi, h.row i _ L (List.getElem?_eq_getElem hi) hL⟩
theorem AllR.kept {r : Option Nat} (h : AllR w B us LL) (hg : w.grownBy w' r) (hr : ∀ (i : Nat) u, us[i]? = some u → u.ownBlock = none ∨ u.ownBlock ≠ r) : AllR w' B us LL :=
  ⟨h.len, fun i u L hu hL => (h.row i u L hu hL).kept hg (hr i u hu), h.apart⟩
theorem AllR.on (h : AllR w B us LL) (hb : Below w.heap.size w w') : AllR w' B us LL :=
  h.kept (r := none) ⟨hb.os, hb.tape, hb.output, hb.size, fun i hi _ => hb.block i hi⟩ fun i u _ => by cases u.ownBlock <;> simp
theorem AllR.drewN (h : AllR w B us LL) (n : Nat) : AllR (w.drewN n) B us LL := ⟨h.len, fun i u L hu hL => h.row i u L hu hL, h.apart⟩
/-- A block below all of them is written. -/
theorem AllR.turn {g : Nat} (h : AllR w B us LL) (hg : w.grownBy w' (some g)) (hgB : g < B) : AllR w' B us LL := by
  refine h.kept hg fun i u hu => ?_
  have hi : i < LL.length := by rw [← h.len]; exact (List.getElem?_eq_some_iff.1 hu).1
  have ho := h.row i u _ hu (List.getElem?_eq_getElem hi)
  cases hb : u.ownBlock with
  | none => exact .inl rfl
  | some j => exact .inr fun e => by have := (ho.lt j hb).1; have := Option.some.inj e; omega
/-- A row of another type is written. -/
theorem AllR.kinds {s n : Nat} {e : TypeId} {v : Value} {xs : List Value} (h : AllR w B us LL) (hv : w.ownsRow B e s v n xs) (he : 3 ≠ e) (hg : w.grownBy w' v.ownBlock) : AllR w' B us LL := by
  refine h.kept hg fun i u hu => ?_
  have hi : i < LL.length := by rw [← h.len]; exact (List.getElem?_eq_some_iff.1 hu).1
  exact own_kinds (h.row i u _ hu (List.getElem?_eq_getElem hi)) hv he
/-- A new row comes first. -/
theorem AllR.cons {u : Value} {L : List Int} (h : AllR w B us LL) (hr : w'.ownsRow w.heap.size 3 1 u L.length (L.map (Value.int .i64))) (hb : Below w.heap.size w w') (hB : B ≤ w.heap.size) : AllR w' B (u :: us) (L :: LL) := by
  have h2 := h.on hb
  have key : ∀ (i : Nat) x, us[i]? = some x → x.ownBlock = none ∨ x.ownBlock ≠ u.ownBlock := fun i x hx => by
    have hi : i < LL.length := by rw [← h.len]; exact (List.getElem?_eq_some_iff.1 hx).1
    have ho := h.row i x _ hx (List.getElem?_eq_getElem hi)
    cases hb : x.ownBlock with
    | none => exact .inl rfl
    | some j =>
      refine .inr fun e => ?_
      have h3 := (ho.lt j hb).2
      have h4 := (hr.lt j e.symm).1
      omega
  refine ⟨by rw [List.length_cons, List.length_cons, h.len], fun i x M hx hM => ?_, fun i j x x' hij hx hx' => ?_⟩
  · cases i with
    | zero =>
      cases hx
      cases hM
      exact own_base hr hB
    | succ i => exact h2.row i x M (by simpa using hx) (by simpa using hM)
  · cases i with
    | zero =>
      cases j with
      | zero => exact absurd rfl hij
      | succ j =>
        cases hx
        rcases key j x' (by simpa using hx') with k | k
        · cases hu : u.ownBlock with
          | none => exact .inl rfl
          | some m => exact .inr fun e => by rw [k] at e; cases e
        · exact .inr fun e => k e.symm
    | succ i =>
      cases j with
      | zero =>
        cases hx'
        exact key i x (by simpa using hx)
      | succ j => exact h2.apart i j x x' (by omega) (by simpa using hx) (by simpa using hx')
/-- A new row comes last. -/
theorem AllR.snoc {u : Value} {L : List Int} (h : AllR w B us LL) (hr : w'.ownsRow w.heap.size 3 1 u L.length (L.map (Value.int .i64))) (hb : Below w.heap.size w w') (hB : B ≤ w.heap.size) : AllR w' B (us ++ [u]) (LL ++ [L]) := by
  have h2 := h.cons hr hb hB
  have hl := h.len
  have ix : ∀ (i : Nat) x, (us ++ [u])[i]? = some x → (u :: us)[if i < us.length then i + 1 else 0]? = some x := fun i x hx => by
    by_cases hi : i < us.length
    · rw [if_pos hi]
      rw [List.getElem?_append_left hi] at hx
      simpa using hx
    · rw [if_neg hi]
      rw [List.getElem?_append_right (by omega)] at hx
      have hi2 := (List.getElem?_eq_some_iff.1 hx).1
      have e : i - us.length = 0 := by simp at hi2; omega
      rw [e] at hx
      simpa using hx
  have ixL : ∀ (i : Nat) x, (LL ++ [L])[i]? = some x → (L :: LL)[if i < us.length then i + 1 else 0]? = some x := fun i x hx => by
    by_cases hi : i < us.length
    · rw [if_pos hi]
      rw [List.getElem?_append_left (by omega)] at hx
      simpa using hx
    · rw [if_neg hi]
      rw [List.getElem?_append_right (by omega)] at hx
      have hi2 := (List.getElem?_eq_some_iff.1 hx).1
      have e : i - LL.length = 0 := by simp at hi2; omega
      rw [e] at hx
      simpa using hx
  have ib : ∀ (i : Nat) x, (us ++ [u])[i]? = some x → i ≤ us.length := fun i x hx => by
    have := (List.getElem?_eq_some_iff.1 hx).1
    simp at this
    omega
  refine ⟨by simp [hl], fun i x M hx hM => h2.row _ x M (ix i x hx) (ixL i M hM), fun i j x x' hij hx hx' => h2.apart _ _ x x' (fun e => hij ?_) (ix i x hx) (ix j x' hx')⟩
  have h3 := ib i x hx
  have h4 := ib j x' hx'
  split at e <;> split at e <;> omega
theorem AllR.tail {u : Value} {L : List Int} (h : AllR w B (u :: us) (L :: LL)) : AllR w B us LL :=
  ⟨by have := h.len; simpa using this, fun i x M hx hM => h.row (i + 1) x M (by simpa using hx) (by simpa using hM), fun i j x x' hij hx hx' => h.apart (i + 1) (j + 1) x x' (by omega) (by simpa using hx) (by simpa using hx')⟩
/-- The second row goes. -/
theorem AllR.drop2 {u u2 : Value} {L L2 : List Int} (h : AllR w B (u :: u2 :: us) (L :: L2 :: LL)) : AllR w B (u :: us) (L :: LL) := by
  have ix : ∀ (i : Nat) x, (u :: us)[i]? = some x → (u :: u2 :: us)[if i = 0 then 0 else i + 1]? = some x := fun i x hx => by
    cases i with
    | zero => simpa using hx
    | succ i => simpa using hx
  have ixL : ∀ (i : Nat) x, (L :: LL)[i]? = some x → (L :: L2 :: LL)[if i = 0 then 0 else i + 1]? = some x := fun i x hx => by
    cases i with
    | zero => simpa using hx
    | succ i => simpa using hx
  refine ⟨by have := h.len; simpa using this, fun i x M hx hM => h.row _ x M (ix i x hx) (ixL i M hM), fun i j x x' hij hx hx' => h.apart _ _ x x' (fun e => hij ?_) (ix i x hx) (ix j x' hx')⟩
  split at e <;> split at e <;> omega
/-- A row turns: another value, another list; the others stay. -/
theorem AllR.swap {i : Nat} {u u' : Value} {L L' : List Int} (h : AllR w B us LL) (hu : us[i]? = some u) (hL : LL[i]? = some L) (hr : w'.ownsRow B 3 1 u' L'.length (L'.map (Value.int .i64))) (hg : w.grownBy w' u.ownBlock) (hat : u'.ownBlock = u.ownBlock ∨ ∃ m, u'.ownBlock = some m ∧ w.heap.size ≤ m) : AllR w' B (us.set i u') (LL.set i L') := by
  have hi := (List.getElem?_eq_some_iff.1 hu).1
  have hiL := (List.getElem?_eq_some_iff.1 hL).1
  have hk : ∀ (j : Nat) x, j ≠ i → us[j]? = some x → x.ownBlock = none ∨ x.ownBlock ≠ u.ownBlock := fun j x hj hx => h.apart j i x u hj hx hu
  have hk2 : ∀ (j : Nat) x, j ≠ i → us[j]? = some x → x.ownBlock = none ∨ x.ownBlock ≠ u'.ownBlock := fun j x hj hx => by
    rcases hat with e | ⟨m, e, hm⟩
    · rw [e]
      exact hk j x hj hx
    · have hjl : j < LL.length := by rw [← h.len]; exact (List.getElem?_eq_some_iff.1 hx).1
      have ho := h.row j x _ hx (List.getElem?_eq_getElem hjl)
      cases hb : x.ownBlock with
      | none => exact .inl rfl
      | some n =>
        refine .inr fun e2 => ?_
        have := (ho.lt n hb).2
        rw [e] at e2
        have := Option.some.inj e2
        omega
  refine ⟨by rw [List.length_set, List.length_set]; exact h.len, fun j x M hx hM => ?_, fun j k x x' hjk hx hx' => ?_⟩
  · rw [List.getElem?_set] at hx hM
    by_cases e : i = j
    · subst e
      rw [if_pos rfl, if_pos hi] at hx
      rw [if_pos rfl, if_pos hiL] at hM
      cases hx
      cases hM
      exact hr
    · rw [if_neg e] at hx hM
      exact (h.row j x M hx hM).kept hg (hk j x (Ne.symm e) hx)
  · rw [List.getElem?_set] at hx hx'
    by_cases e : i = j
    · subst e
      rw [if_pos rfl, if_pos hi] at hx
      rw [if_neg hjk] at hx'
      cases hx
      rcases hk2 k x' (Ne.symm hjk) hx' with e2 | e2
      · cases hu2 : u'.ownBlock with
        | none => exact .inl rfl
        | some m => exact .inr fun e3 => by rw [e2] at e3; cases e3
      · exact .inr fun e3 => e2 e3.symm
    · rw [if_neg e] at hx
      by_cases e2 : i = k
      · subst e2
        rw [if_pos rfl, if_pos hi] at hx'
        cases hx'
        exact hk2 j x (Ne.symm e) hx
      · rw [if_neg e2] at hx'
        exact h.apart j k x x' hjk hx hx'
end

/-- A row of ways over rows of ints. -/
structure OutW (w : World) (B : Nat) (v : Value) (vs : List Value) (Ls : List (List Int)) : Prop where
  own : w.ownsRow B 39 1 v vs.length vs
  rows : AllR w B vs Ls
theorem OutW.at {w : World} {B : Nat} {v : Value} {vs : List Value} {Ls : List (List Int)} (h : OutW w B v vs Ls) : WaysAt w v Ls := by
  have hl := h.rows.len
  by_cases h0 : Ls.length = 0
  · obtain ⟨a, c, rfl⟩ := own_form h.own
    rw [hl]
    exact ⟨a, c, rfl, .inl h0⟩
  · obtain ⟨g, c, rfl⟩ : ∃ g c, v = .slice (some ⟨g, 0, none⟩) vs.length c := by
      rcases h.own.2 with ⟨_, h⟩ | ⟨g, cap, cur, rfl, _⟩
      · omega
      · exact ⟨g, cap, rfl⟩
    have ho := h.own
    rw [hl]
    refine ⟨_, c, rfl, .inr ⟨g, rfl, (ho.lt g rfl).2, fun i L hL => ?_⟩⟩
    obtain ⟨u, hu, hr⟩ := h.rows.at hL
    have hc := ho.cells (g := g) rfl i _ hu
    have hadd : (⟨g, 0, none⟩ : Addr).add i = ⟨g, i, none⟩ := by unfold Addr.add; split <;> simp_all
    rw [hadd] at hc
    exact ⟨u, hc, ints_of_own hr⟩

end Go.Proofs.Ytkndlpcpkfgneaa
