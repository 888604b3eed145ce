/-
  A REGION THAT DRAWS ITS ORDER, WHOSE LAST OPERATION (a store) WAITS FOR ALL THE OTHERS: the condition on the world is shown behind every operation but that one. So the store may write a cell that the region reads. No statement is proved here.
  Rows of ints that grow, each in memory of its own; a row of ways over such rows. Plain facts; no statement is proved here.
-/
import Derived.OrdersHeld
import Derived.StillTail
import Derived.Deep.RegionHeld
import Derived.Test.YtkbfbifepaoojaaGreatDoorZPU02
namespace Go.Proofs.YtkbfbifepaoojaaGreatDoor
open Go

section
variable {P : Program} {ops : Array Oper} {Q : Exit → Act → World → Prop} {md : Region.Mode} {S : World → Prop} {L : Nat}

/-- Whatever order is picked from here on, and S holds behind every operation but L. -/
def anyTo (P : Program) (md : Region.Mode) (ops : Array Oper) (Q : Exit → Act → World → Prop) (S : World → Prop) (L : Nat) : Nat → Array Bool → Act → World → Prop
  | 0, listed, a, w => Region.ready md ops listed = [] ∧ Q .normal a w
  | fuel + 1, listed, a, w =>
    (Region.ready md ops listed = [] → Q .normal a w) ∧
    ∀ i ∈ Region.ready md ops listed, wpOp P ops Q i (fun a' w' => (i ≠ L → S w') ∧ anyTo P md ops Q S L fuel (listed.setIfInBounds i true) a' w') a w

theorem any_of_T : ∀ (fuel : Nat) (listed : Array Bool) (a : Act) (w : World), anyTo P md ops Q S L fuel listed a w → wpAny P md ops Q fuel listed a w
  | 0, _, _, _, h => h
  | fuel + 1, _, _, _, h => ⟨h.1, fun i hi => wpOp_mono (fun a' w' h' => any_of_T fuel _ a' w' h'.2) (h.2 i hi)⟩

theorem anyT_first {i : Nat} {oi : Oper} {v : Value} (hi : ops[i]? = some oi) (hsel : ∀ (j : Nat) (o : Oper) cs b, ops[j]? = some o → o.op ≠ .select cs b)
    (hQ : ∀ c a w, Q (.panic c) (a.put oi.dst v) w → Q (.panic c) a w) (hs : Region.sinkB md ops L = true) (hc : Region.chainB md ops L = true) (hL : L < ops.size) (hiL : i < L) :
    ∀ (fuel : Nat) (listed : Array Bool) (a : Act) (w : World), HeadInv md ops L listed →
      (∀ j oj, ops[j]? = some oj → j ≠ i → listed.getD j true = false → (∀ e ∈ oj.after, Region.binds md e = true → e.on ≠ i) → oi.apart ops oj = true) →
      i ∈ Region.ready md ops listed → YieldsIf P ops S oi v a → S w →
      anyTo P md ops Q S L fuel (listed.setIfInBounds i true) (a.put oi.dst v) w → anyTo P md ops Q S L (fuel + 1) listed a w := by
  intro fuel
  induction fuel with
  | zero =>
    intro listed a w _ _ hr hy hS H
    refine ⟨fun h => (by rw [h] at hr; cases hr), fun j hj => ?_⟩
    by_cases hji : j = i
    · subst hji; exact hy.wpOp hi hS ⟨fun _ => hS, H⟩
    · have := ready_mono hj hji
      rw [H.1] at this
      cases this
  | succ fuel ih =>
    intro listed a w inv hfree hr hy hS H
    refine ⟨fun h => (by rw [h] at hr; cases hr), fun j hj => ?_⟩
    by_cases hji : j = i
    · subst hji; exact hy.wpOp hi hS ⟨fun _ => hS, H⟩
    · have h1 := H.2 j (ready_mono hj hji)
      have hjL : j < L := by
        refine Nat.lt_of_not_le fun hle => ?_
        exact tail_waits hs hc hL inv (L - i) i rfl hiL (mem_ready.1 hr).1 j hle hj
      obtain ⟨hjun, oj, hoj, hall⟩ := mem_ready.1 hj
      have hnot : ∀ e ∈ oj.after, Region.binds md e = true → e.on ≠ i := fun e he hb heq => by
        have h1 := hall e he hb
        have h0 := (mem_ready.1 hr).1
        rw [heq] at h1
        rcases Nat.lt_or_ge i listed.size with h' | h'
        · simp [h'] at h0 h1; rw [h0] at h1; cases h1
        · simp [Array.getElem?_eq_none h'] at h1
      have h2 := wpOp_putIf hoj (hfree j oj hoj hji hjun hnot) (fun cs b => hsel i oi cs b hi) (fun cs b => hsel j oj cs b hoj) hQ hy h1
      have hfree' : ∀ k ok, ops[k]? = some ok → k ≠ i → (listed.setIfInBounds j true).getD k true = false →
          (∀ e ∈ ok.after, Region.binds md e = true → e.on ≠ i) → oi.apart ops ok = true := fun k ok hk hki hun hno => by
        refine hfree k ok hk hki ?_ hno
        by_cases hjk : j = k
        · subst hjk; exact hjun
        · rw [getD_set_ne true hjk] at hun; exact hun
      refine wpOp_mono (fun a' w' h3 => ⟨fun _ => h3.2.1 (by omega), ih (listed.setIfInBounds j true) a' w' (inv.set hj hjL) hfree' (ready_mono hr (Ne.symm hji)) h3.1 (h3.2.1 (by omega)) ?_⟩) h2
      rw [Array.setIfInBounds_comm _ _ hji]
      exact h3.2.2

/-- The same, with what has come up being closed: the goal of the walk. -/
def anyI (P : Program) (md : Region.Mode) (ops : Array Oper) (Q : Exit → Act → World → Prop) (S : World → Prop) (L : Nat) (fuel : Nat) (listed : Array Bool) (a : Act) (w : World) : Prop :=
  Region.sinkB md ops L = true → Region.chainB md ops L = true → L < ops.size → HeadInv md ops L listed → anyTo P md ops Q S L fuel listed a w

/-- Take number i first. -/
theorem anyI_take {i : Nat} {oi : Oper} {v : Value} {fuel : Nat} {listed : Array Bool} {a : Act} {w : World} (hi : ops[i]? = some oi)
    (hsl : Region.noSelect ops = true) (hf : Region.free md ops listed i = true) (hr : (Region.ready md ops listed).contains i = true) (hiL : decide (i < L) = true)
    (hQ : ∀ c a w, Q (.panic c) (a.put oi.dst v) w → Q (.panic c) a w) (hy : YieldsIf P ops S oi v a) (hS : S w)
    (h : anyI P md ops Q S L fuel (listed.setIfInBounds i true) (a.put oi.dst v) w) : anyI P md ops Q S L (fuel + 1) listed a w := fun hs hc hL inv =>
  have hr' : i ∈ Region.ready md ops listed := by simpa using hr
  anyT_first hi (Region.noSelect_spec hsl) hQ hs hc hL (of_decide_eq_true hiL) fuel listed a w inv (Region.free_spec hi hf) hr' hy hS (h hs hc hL (inv.set hr' (of_decide_eq_true hiL)))

/-- Each of those that may come up. -/
def AllI (P : Program) (md : Region.Mode) (ops : Array Oper) (Q : Exit → Act → World → Prop) (S : World → Prop) (L : Nat) (fuel : Nat) (listed : Array Bool) (a : Act) (w : World) (rs : List Nat) : Prop :=
  ∀ i ∈ rs, i < L ∧ wpOp P ops Q i (fun a' w' => S w' ∧ anyI P md ops Q S L fuel (listed.setIfInBounds i true) a' w') a w
theorem AllI.nil {fuel : Nat} {listed : Array Bool} {a : Act} {w : World} : AllI P md ops Q S L fuel listed a w [] := fun _ h => by cases h
theorem AllI.cons {fuel : Nat} {listed : Array Bool} {a : Act} {w : World} {i : Nat} {o : Oper} {rs : List Nat} (ho : ops[i]? = some o) (hiL : decide (i < L) = true)
    (h : ∀ K' : Act → World → Prop, Shut (∀ a w, S w → (S w → anyI P md ops Q S L fuel (listed.setIfInBounds i true) a w) → K' a w) → if Region.wanted o (yielded ops a.tmps) = true then Oper.wp P o a w K' Q else K' (a.put o.dst undef) w)
    (hs : AllI P md ops Q S L fuel listed a w rs) : AllI P md ops Q S L fuel listed a w (i :: rs) := fun j hj => by
  rcases List.mem_cons.1 hj with rfl | hj
  · exact ⟨of_decide_eq_true hiL, wpOp_step ho (fun K' hK => h K' (fun a w hS hW => hK a w ⟨hS, hW hS⟩))⟩
  · exact hs j hj
theorem anyI_ready {rs : List Nat} {fuel : Nat} {listed : Array Bool} {a : Act} {w : World} (hr : Region.ready md ops listed = rs) (hne : rs ≠ [])
    (h : AllI P md ops Q S L fuel listed a w rs) : anyI P md ops Q S L (fuel + 1) listed a w := fun hs hc hL inv =>
  ⟨fun h0 => absurd (hr ▸ h0) hne, fun i hi => by
    have hi2 : i ∈ rs := hr ▸ hi
    obtain ⟨h1, h2⟩ := h i hi2
    exact wpOp_mono (fun a' w' h3 => ⟨fun _ => h3.1, h3.2 hs hc hL (inv.set hi h1)⟩) h2⟩
/-- The last operation. -/
theorem anyI_last {o : Oper} {fuel : Nat} {listed : Array Bool} {a : Act} {w : World} (hr : Region.ready md ops listed = [L]) (hr2 : Region.ready md ops (listed.setIfInBounds L true) = []) (ho : ops[L]? = some o)
    (h : ∀ K' : Act → World → Prop, Shut (∀ a w, Q .normal a w → K' a w) → if Region.wanted o (yielded ops a.tmps) = true then Oper.wp P o a w K' Q else K' (a.put o.dst undef) w) : anyI P md ops Q S L (fuel + 1) listed a w := fun _ _ _ _ =>
  ⟨fun h0 => (by rw [hr] at h0; cases h0), fun i hi => by
    rw [hr] at hi
    have e := List.mem_singleton.1 hi
    subst e
    refine wpOp_step ho (fun K' hK => h K' (fun a w hq => hK a w ⟨fun hn => absurd rfl hn, ?_⟩))
    cases fuel with
    | zero => exact ⟨hr2, hq⟩
    | succ f => exact ⟨fun _ => hq, fun j hj => by rw [hr2] at hj; cases hj⟩⟩
theorem headInv_start (md : Region.Mode) (ops : Array Oper) (n : Nat) : HeadInv md ops n (Array.replicate ops.size false) :=
  ⟨by simp, fun j oj _ hl => (by rw [getD_replicate_false] at hl; cases hl), fun t _ ht => (by simp [ht])⟩
/-- The beginning. -/
theorem wp_region_last {id : Nat} {a : Act} {w : World} (L : Nat) (S : World → Prop) (hm : P.follows .mixedOrders = true) (hs : Region.sinkB .any ops L = true) (hc : Region.chainB .any ops L = true) (hL : L < ops.size) (hS : S w.drew)
    (h : S w.drew → anyI P .any ops Q S L ops.size (Array.replicate ops.size false) a w.drew) : (Code.region id ops true).wp P Q a w :=
  wp_region_any hm (any_of_T (S := S) (L := L) _ _ _ _ (h hS hs hc hL (headInv_start _ _ _)))
end

end Go.Proofs.YtkbfbifepaoojaaGreatDoor

namespace Go.Proofs.YtkbfbifepaoojaaGreatDoor
set_option maxRecDepth 4096
open Go.ChangeShapes Go.WideShapes Go.ChangeAt Go.RowKit

/-- Rows of ints, no two in the same block. -/
structure AllR (w : World) (B : Nat) (us : List Value) (LL : List (List Int)) : Prop where
  len : us.length = LL.length
  row : ∀ (i : Nat) u L, us[i]? = some u → LL[i]? = some L → w.ownsRow B 3 1 u L.length (L.map (Value.int .i64))
  apart : ∀ (i j : Nat) u u', i ≠ j → us[i]? = some u → us[j]? = some u' → u.ownBlock = none ∨ u.ownBlock ≠ u'.ownBlock
section
variable {w w' : World} {B : Nat} {us : List Value} {LL : List (List Int)}
theorem AllR.nil : AllR w B [] [] := ⟨rfl, fun i u L h => by simp at h, fun i j u u' _ h => by simp at h⟩
theorem AllR.at (h : AllR w B us LL) {i : Nat} {L : List Int} (hL : LL[i]? = some L) : ∃ u, us[i]? = some u ∧ w.ownsRow B 3 1 u L.length (L.map (Value.int .i64)) := by
  have hi : i < us.length := by rw [h.len]; exact (List.getElem?_eq_some_iff.1 hL).1
  exact ⟨_, List.getElem?_eq_getElem hi, h.row i _ L (List.getElem?_eq_getElem hi) hL⟩
theorem AllR.kept {r : Option Nat} (h : AllR w B us LL) (hg : w.grownBy w' r) (hr : ∀ (i : Nat) u, us[i]? = some u → u.ownBlock = none ∨ u.ownBlock ≠ r) : AllR w' B us LL :=
  ⟨h.len, fun i u L hu hL => (h.row i u L hu hL).kept hg (hr i u hu), h.apart⟩
theorem AllR.on (h : AllR w B us LL) (hb : Below w.heap.size w w') : AllR w' B us LL :=
  h.kept (r := none) ⟨hb.os, hb.tape, hb.output, hb.size, fun i hi _ => hb.block i hi⟩ fun i u _ => by cases u.ownBlock <;> simp
theorem AllR.drewN (h : AllR w B us LL) (n : Nat) : AllR (w.drewN n) B us LL := ⟨h.len, fun i u L hu hL => h.row i u L hu hL, h.apart⟩
/-- A block below all of them is written. -/
theorem AllR.turn {g : Nat} (h : AllR w B us LL) (hg : w.grownBy w' (some g)) (hgB : g < B) : AllR w' B us LL := by
  refine h.kept hg fun i u hu => ?_
  have hi : i < LL.length := by rw [← h.len]; exact (List.getElem?_eq_some_iff.1 hu).1
  have ho := h.row i u _ hu (List.getElem?_eq_getElem hi)
  cases hb : u.ownBlock with
  | none => exact .inl rfl
  | some j => exact .inr fun e => by have := (ho.lt j hb).1; have := Option.some.inj e; omega
/-- A row of another type is written. -/
theorem AllR.kinds {s n : Nat} {e : TypeId} {v : Value} {xs : List Value} (h : AllR w B us LL) (hv : w.ownsRow B e s v n xs) (he : 3 ≠ e) (hg : w.grownBy w' v.ownBlock) : AllR w' B us LL := by
  refine h.kept hg fun i u hu => ?_
  have hi : i < LL.length := by rw [← h.len]; exact (List.getElem?_eq_some_iff.1 hu).1
  exact own_kinds (h.row i u _ hu (List.getElem?_eq_getElem hi)) hv he
/-- A new row comes first. -/
theorem AllR.cons {u : Value} {L : List Int} (h : AllR w B us LL) (hr : w'.ownsRow w.heap.size 3 1 u L.length (L.map (Value.int .i64))) (hb : Below w.heap.size w w') (hB : B ≤ w.heap.size) : AllR w' B (u :: us) (L :: LL) := by
  have h2 := h.on hb
  have key : ∀ (i : Nat) x, us[i]? = some x → x.ownBlock = none ∨ x.ownBlock ≠ u.ownBlock := fun i x hx => by
    have hi : i < LL.length := by rw [← h.len]; exact (List.getElem?_eq_some_iff.1 hx).1
    have ho := h.row i x _ hx (List.getElem?_eq_getElem hi)
    cases hb : x.ownBlock with
    | none => exact .inl rfl
    | some j =>
      refine .inr fun e => ?_
      have h3 := (ho.lt j hb).2
      have h4 := (hr.lt j e.symm).1
      omega
  refine ⟨by rw [List.length_cons, List.length_cons, h.len], fun i x M hx hM => ?_, fun i j x x' hij hx hx' => ?_⟩
  · cases i with
    | zero =>
      cases hx
      cases hM
      exact own_base hr hB
    | succ i => exact h2.row i x M (by simpa using hx) (by simpa using hM)
  · cases i with
    | zero =>
      cases j with
      | zero => exact absurd rfl hij
      | succ j =>
        cases hx
        rcases key j x' (by simpa using hx') with k | k
        · cases hu : u.ownBlock with
          | none => exact .inl rfl
          | some m => exact .inr fun e => by rw [k] at e; cases e
        · exact .inr fun e => k e.symm
    | succ i =>
      cases j with
      | zero =>
        cases hx'
        exact key i x (by simpa using hx)
      | succ j => exact h2.apart i j x x' (by omega) (by simpa using hx) (by simpa using hx')
/-- A new row comes last. -/
theorem AllR.snoc {u : Value} {L : List Int} (h : AllR w B us LL) (hr : w'.ownsRow w.heap.size 3 1 u L.length (L.map (Value.int .i64))) (hb : Below w.heap.size w w') (hB : B ≤ w.heap.size) : AllR w' B (us ++ [u]) (LL ++ [L]) := by
  have h2 := h.cons hr hb hB
  have hl := h.len
  have ix : ∀ (i : Nat) x, (us ++ [u])[i]? = some x → (u :: us)[if i < us.length then i + 1 else 0]? = some x := fun i x hx => by
    by_cases hi : i < us.length
    · rw [if_pos hi]
      rw [List.getElem?_append_left hi] at hx
      simpa using hx
    · rw [if_neg hi]
      rw [List.getElem?_append_right (by omega)] at hx
      have hi2 := (List.getElem?_eq_some_iff.1 hx).1
      have e : i - us.length = 0 := by simp at hi2; omega
      rw [e] at hx
      simpa using hx
  have ixL : ∀ (i : Nat) x, (LL ++ [L])[i]? = some x → (L :: LL)[if i < us.length then i + 1 else 0]? = some x := fun i x hx => by
    by_cases hi : i < us.length
    · rw [if_pos hi]
      rw [List.getElem?_append_left (by omega)] at hx
      simpa using hx
    · rw [if_neg hi]
      rw [List.getElem?_append_right (by omega)] at hx
      have hi2 := (List.getElem?_eq_some_iff.1 hx).1
      have e : i - LL.length = 0 := by simp at hi2; omega
      rw [e] at hx
      simpa using hx
  have ib : ∀ (i : Nat) x, (us ++ [u])[i]? = some x → i ≤ us.length := fun i x hx => by
    have := (List.getElem?_eq_some_iff.1 hx).1
    simp at this
    omega
  refine ⟨by simp [hl], fun i x M hx hM => h2.row _ x M (ix i x hx) (ixL i M hM), fun i j x x' hij hx hx' => h2.apart _ _ x x' (fun e => hij ?_) (ix i x hx) (ix j x' hx')⟩
  have h3 := ib i x hx
  have h4 := ib j x' hx'
  split at e <;> split at e <;> omega
theorem AllR.tail {u : Value} {L : List Int} (h : AllR w B (u :: us) (L :: LL)) : AllR w B us LL :=
  ⟨by have := h.len; simpa using this, fun i x M hx hM => h.row (i + 1) x M (by simpa using hx) (by simpa using hM), fun i j x x' hij hx hx' => h.apart (i + 1) (j + 1) x x' (by omega) (by simpa using hx) (by simpa using hx')⟩
/-- The second row goes. -/
theorem AllR.drop2 {u u2 : Value} {L L2 : List Int} (h : AllR w B (u :: u2 :: us) (L :: L2 :: LL)) : AllR w B (u :: us) (L :: LL) := by
  have ix : ∀ (i : Nat) x, (u :: us)[i]? = some x → (u :: u2 :: us)[if i = 0 then 0 else i + 1]? = some x := fun i x hx => by
    cases i with
    | zero => simpa using hx
    | succ i => simpa using hx
  have ixL : ∀ (i : Nat) x, (L :: LL)[i]? = some x → (L :: L2 :: LL)[if i = 0 then 0 else i + 1]? = some x := fun i x hx => by
    cases i with
    | zero => simpa using hx
    | succ i => simpa using hx
  refine ⟨by have := h.len; simpa using this, fun i x M hx hM => h.row _ x M (ix i x hx) (ixL i M hM), fun i j x x' hij hx hx' => h.apart _ _ x x' (fun e => hij ?_) (ix i x hx) (ix j x' hx')⟩
  split at e <;> split at e <;> omega
/-- A row turns: another value, another list; the others stay. -/
theorem AllR.swap {i : Nat} {u u' : Value} {L L' : List Int} (h : AllR w B us LL) (hu : us[i]? = some u) (hL : LL[i]? = some L) (hr : w'.ownsRow B 3 1 u' L'.length (L'.map (Value.int .i64))) (hg : w.grownBy w' u.ownBlock) (hat : u'.ownBlock = u.ownBlock ∨ ∃ m, u'.ownBlock = some m ∧ w.heap.size ≤ m) : AllR w' B (us.set i u') (LL.set i L') := by
  have hi := (List.getElem?_eq_some_iff.1 hu).1
  have hiL := (List.getElem?_eq_some_iff.1 hL).1
  have hk : ∀ (j : Nat) x, j ≠ i → us[j]? = some x → x.ownBlock = none ∨ x.ownBlock ≠ u.ownBlock := fun j x hj hx => h.apart j i x u hj hx hu
  have hk2 : ∀ (j : Nat) x, j ≠ i → us[j]? = some x → x.ownBlock = none ∨ x.ownBlock ≠ u'.ownBlock := fun j x hj hx => by
    rcases hat with e | ⟨m, e, hm⟩
    · rw [e]
      exact hk j x hj hx
    · have hjl : j < LL.length := by rw [← h.len]; exact (List.getElem?_eq_some_iff.1 hx).1
      have ho := h.row j x _ hx (List.getElem?_eq_getElem hjl)
      cases hb : x.ownBlock with
      | none => exact .inl rfl
      | some n =>
        refine .inr fun e2 => ?_
        have := (ho.lt n hb).2
        rw [e] at e2
        have := Option.some.inj e2
        omega
  refine ⟨by rw [List.length_set, List.length_set]; exact h.len, fun j x M hx hM => ?_, fun j k x x' hjk hx hx' => ?_⟩
  · rw [List.getElem?_set] at hx hM
    by_cases e : i = j
    · subst e
      rw [if_pos rfl, if_pos hi] at hx
      rw [if_pos rfl, if_pos hiL] at hM
      cases hx
      cases hM
      exact hr
    · rw [if_neg e] at hx hM
      exact (h.row j x M hx hM).kept hg (hk j x (Ne.symm e) hx)
  · rw [List.getElem?_set] at hx hx'
    by_cases e : i = j
    · subst e
      rw [if_pos rfl, if_pos hi] at hx
      rw [if_neg hjk] at hx'
      cases hx
      rcases hk2 k x' (Ne.symm hjk) hx' with e2 | e2
      · cases hu2 : u'.ownBlock with
        | none => exact .inl rfl
        | some m => exact .inr fun e3 => by rw [e2] at e3; cases e3
      · exact .inr fun e3 => e2 e3.symm
    · rw [if_neg e] at hx
      by_cases e2 : i = k
      · subst e2
        rw [if_pos rfl, if_pos hi] at hx'
        cases hx'
        exact hk2 j x (Ne.symm e) hx
      · rw [if_neg e2] at hx'
        exact h.apart j k x x' hjk hx hx'
end

/-- A row of ways over rows of ints. -/
structure OutW (w : World) (B : Nat) (v : Value) (vs : List Value) (Ls : List (List Int)) : Prop where
  own : w.ownsRow B 51 1 v vs.length vs
  rows : AllR w B vs Ls
theorem OutW.at {w : World} {B : Nat} {v : Value} {vs : List Value} {Ls : List (List Int)} (h : OutW w B v vs Ls) : WaysAt w v Ls := by
  have hl := h.rows.len
  by_cases h0 : Ls.length = 0
  · obtain ⟨a, c, rfl⟩ := own_form h.own
    rw [hl]
    exact ⟨a, c, rfl, .inl h0⟩
  · obtain ⟨g, c, rfl⟩ : ∃ g c, v = .slice (some ⟨g, 0, none⟩) vs.length c := by
      rcases h.own.2 with ⟨_, h⟩ | ⟨g, cap, cur, rfl, _⟩
      · omega
      · exact ⟨g, cap, rfl⟩
    have ho := h.own
    rw [hl]
    refine ⟨_, c, rfl, .inr ⟨g, rfl, (ho.lt g rfl).2, fun i L hL => ?_⟩⟩
    obtain ⟨u, hu, hr⟩ := h.rows.at hL
    have hc := ho.cells (g := g) rfl i _ hu
    have hadd : (⟨g, 0, none⟩ : Addr).add i = ⟨g, i, none⟩ := by unfold Addr.add; split <;> simp_all
    rw [hadd] at hc
    exact ⟨u, hc, ints_of_own hr⟩

end Go.Proofs.YtkbfbifepaoojaaGreatDoor

