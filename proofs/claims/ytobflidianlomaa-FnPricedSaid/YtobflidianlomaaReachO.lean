/-
  A set of nodes that grows until it is closed: plain facts; how many Booleans of a row are false. No statement is proved here.
-/
import Derived.Test.YtobflidianlomaaRowO
import Derived.Test.YtobflidianlomaaNetM
import Derived.Test.YtobflidianlomaaDist
namespace Go.Proofs.Ytobflidianlomaa
set_option maxRecDepth 4096
open Go.ChangeShapes Go.WideShapes Go.ChangeAt Go.RowKit

/-- A list of Booleans came back in memory of the call's own. -/
def BoolsBack (w : World) (o : Nat → Bool) (n : Nat) (e : Ending) (w' : World) : Prop :=
  ∃ v, e = .returned v ∧ w'.ownsRow w.heap.size 4 1 v n (rowB o n) ∧ Below w.heap.size w w'

def isNo : Value → Bool
  | .bool false => true
  | _ => false
/-- The false ones in a block. -/
def noes (w : World) (g : Nat) : Nat :=
  match w.heap[g]? with
  | some (.cells cs _ _) => (cs.toList.filter isNo).length
  | _ => 0
noncomputable def cntNo (o : Nat → Bool) (n : Nat) : Nat := cnt (fun v => o v = false) n
theorem rowB_noes (o : Nat → Bool) (n : Nat) : ((rowB o n).filter isNo).length = cntNo o n := by
  unfold rowB cntNo cnt
  rw [List.filter_map, List.length_map]
  congr 1
  refine List.filter_congr fun v _ => ?_
  show isNo (.bool (o v)) = _
  cases h : o v <;> simp [isNo, h]
theorem noes_row {w : World} {B : Nat} {e : TypeId} {g n : Nat} {o : Nat → Bool} (h : w.ownsRow B e 1 (.slice (some ⟨g, 0, none⟩) n n) n (rowB o n)) : noes w g = cntNo o n := by
  rw [← rowB_noes]
  rcases h.2 with ⟨h1, _⟩ | ⟨g', c', cur, h1, _, hg, _, _, hs, ht⟩
  · cases h1
  · injection h1 with h1 _ h2
    injection h1 with h1
    injection h1 with h1
    subst h1 h2
    unfold noes
    rw [hg]
    show (cur.toList.filter isNo).length = _
    rw [List.take_of_length_le (by simpa using Nat.le_of_eq hs)] at ht
    rw [ht]

def addO (o : Nat → Bool) (v : Nat) (j : Nat) : Bool := o j || decide (j = v)
theorem addO_self (o : Nat → Bool) (v : Nat) : addO o v v = true := by simp [addO]
theorem addO_old {o : Nat → Bool} {v j : Nat} (h : o j = true) : addO o v j = true := by simp [addO, h]
theorem addO_other {o : Nat → Bool} {v j : Nat} (h : j ≠ v) : addO o v j = o j := by simp [addO, h]
theorem cntNo_add {o : Nat → Bool} {v n : Nat} (hv : v < n) (h : o v = false) : cntNo (addO o v) n < cntNo o n := by
  unfold cntNo
  refine cnt_lt (fun c hc => ?_) hv h (by rw [addO_self]; simp)
  cases ho : o c with
  | false => rfl
  | true => rw [addO_old ho] at hc; cases hc

/-- The set holds node 0 and only what can be reached. -/
structure Good (P : List (ArcD × Int)) (o : Nat → Bool) : Prop where
  zero : o 0 = true
  res : ∀ v : Nat, o v = true → Res P v
def closedAt (o : Nat → Bool) (p : ArcD × Int) : Prop := (o p.1.f.toNat = true → p.2 < p.1.r → o p.1.t.toNat = true) ∧ (o p.1.t.toNat = true → 0 < p.2 → o p.1.f.toNat = true)
theorem Good.fwd {P : List (ArcD × Int)} {o : Nat → Bool} (h : Good P o) {p : ArcD × Int} {a b : Nat} (hp : p ∈ P) (ha : p.1.f = a) (hb : p.1.t = b) (hf : o a = true) (hr : p.2 < p.1.r) : Good P (addO o b) :=
  ⟨addO_old h.zero, fun v hv => by
    by_cases e : v = b
    · rw [e, ← hb]
      exact Res.fwd hp (by rw [ha]; exact h.res a hf) hr
    · rw [addO_other e] at hv
      exact h.res v hv⟩
theorem Good.bwd {P : List (ArcD × Int)} {o : Nat → Bool} (h : Good P o) {p : ArcD × Int} {a b : Nat} (hp : p ∈ P) (ha : p.1.f = a) (hb : p.1.t = b) (ht : o b = true) (hr : 0 < p.2) : Good P (addO o a) :=
  ⟨addO_old h.zero, fun v hv => by
    by_cases e : v = a
    · rw [e, ← ha]
      exact Res.bwd hp (by rw [hb]; exact h.res b ht) hr
    · rw [addO_other e] at hv
      exact h.res v hv⟩
/-- A good set that is closed is what can be reached. -/
theorem good_is {N : Int} {A : List ArcD} {F : List Int} {o : Nat → Bool} (hn : netOkV N A = true) (h : Good (A.zip F) o) (hc : ∀ p ∈ A.zip F, closedAt o p) (v : Nat) : o v = reachedB A F v := by
  obtain ⟨hN, _, hA⟩ := netOk_out hn
  have key := res_is (P := A.zip F) (S := fun v => 0 ≤ v ∧ o v.toNat = true) ⟨Int.le_refl _, h.zero⟩ (fun v hv => by
    have := h.res v.toNat hv.2
    rwa [Int.toNat_of_nonneg hv.1] at this) (fun p hp hf hr => ⟨(arcOk_out (hA _ (zip_arc hp))).2.1.1, (hc p hp).1 hf.2 hr⟩) (fun p hp ht hr => ⟨(arcOk_out (hA _ (zip_arc hp))).1.1, (hc p hp).2 ht.2 hr⟩) (v : Int)
  rw [Bool.eq_iff_iff]
  unfold reachedB
  rw [resB_iff, ← key]
  simp
theorem good_start (P : List (ArcD × Int)) : Good P (addO (fun _ => false) 0) :=
  ⟨addO_self _ _, fun v hv => by
    have : v = 0 := by simpa [addO] using hv
    rw [this]
    exact Res.src⟩

/-- A pass under way, begun at o0: either nothing has been found and the arcs so far are closed, or there is less left. -/
def Pass (P : List (ArcD × Int)) (n k : Nat) (o0 o : Nat → Bool) (m : Bool) : Prop := (m = false → o = o0 ∧ ∀ p ∈ P.take k, closedAt o p) ∧ (m = true → cntNo o n < cntNo o0 n)
theorem Pass.le {P : List (ArcD × Int)} {n k : Nat} {o0 o : Nat → Bool} {m : Bool} (h : Pass P n k o0 o m) : cntNo o n ≤ cntNo o0 n := by
  cases m with
  | false => rw [(h.1 rfl).1]; exact Nat.le_refl _
  | true => exact Nat.le_of_lt (h.2 rfl)
theorem Pass.skip {P : List (ArcD × Int)} {n k : Nat} {o0 o : Nat → Bool} {m : Bool} (h : Pass P n k o0 o m) {p : ArcD × Int} (hp : P[k]? = some p) (hc : closedAt o p) : Pass P n (k + 1) o0 o m :=
  ⟨fun hm => ⟨(h.1 hm).1, fun q hq => by
    obtain ⟨hi, rfl⟩ := List.getElem?_eq_some_iff.1 hp
    rw [List.take_succ_eq_append_getElem hi] at hq
    rcases List.mem_append.1 hq with h1 | h1
    · exact (h.1 hm).2 q h1
    · rw [List.mem_singleton] at h1
      rw [h1]
      exact hc⟩, h.2⟩
theorem Pass.found {P : List (ArcD × Int)} {n k : Nat} {o0 o : Nat → Bool} {m : Bool} (h : Pass P n k o0 o m) {v : Nat} (hv : v < n) (ho : o v = false) : Pass P n (k + 1) o0 (addO o v) true :=
  ⟨fun hm => (by cases hm), fun _ => Nat.lt_of_lt_of_le (cntNo_add hv ho) h.le⟩

end Go.Proofs.Ytobflidianlomaa
