/-
  Plain facts on distances in a graph, level by level: what a count by levels gives is the least number of steps. No statement is proved here.
  A set of nodes that grows until it is closed: plain facts; how many Booleans of a row are false. No statement is proved here.
-/
import Derived.Test.YtlkhecdlmbhiaaaDoorZTS00
import Derived.Test.YtlkhecdlmbhiaaaDoorZTS18
import Derived.Test.YtlkhecdlmbhiaaaDoorZTS07
namespace Go.Proofs.YtlkhecdlmbhiaaaDoor
set_option maxRecDepth 4096
open Classical

/-- One cell's number, if it has none yet. -/
noncomputable def rel1 (d : Nat) (o : Nat → Int) (c : Nat) : Nat → Int := fun x => if x = c ∧ o c < 0 then (d : Int) + 1 else o x
noncomputable def relL (d : Nat) (o : Nat → Int) (L : List Nat) : Nat → Int := L.foldl (rel1 d) o
/-- The neighbours of a cell of level d. -/
noncomputable def nodeB (nb : Nat → List Nat) (d : Nat) (o : Nat → Int) (c : Nat) : Nat → Int := if o c = d then relL d o (nb c) else o
noncomputable def levelB (nb : Nat → List Nat) (n d : Nat) (o : Nat → Int) : Nat → Int := (List.range n).foldl (nodeB nb d) o
noncomputable def startB (src : Nat → Bool) : Nat → Int := fun c => if src c = true then 0 else -1
noncomputable def runB (nb : Nat → List Nat) (n : Nat) (src : Nat → Bool) (k : Nat) : Nat → Int := (List.range k).foldl (fun o d => levelB nb n d o) (startB src)

theorem relL_at (d : Nat) (L : List Nat) : ∀ (o : Nat → Int) (x : Nat), relL d o L x = if o x < 0 ∧ x ∈ L then (d : Int) + 1 else o x := by
  induction L with
  | nil => intro o x; simp [relL]
  | cons c L ih =>
    intro o x
    show relL d (rel1 d o c) L x = _
    rw [ih]
    by_cases hx : x = c
    · subst hx
      by_cases h0 : o x < 0
      · have e : rel1 d o x x = (d : Int) + 1 := if_pos ⟨rfl, h0⟩
        rw [e, if_neg (by omega), if_pos ⟨h0, by simp⟩]
      · have e : rel1 d o x x = o x := if_neg (fun h => h0 h.2)
        rw [e, if_neg (fun h => h0 h.1), if_neg (fun h => h0 h.1)]
    · have e : rel1 d o c x = o x := if_neg (fun h => hx h.1)
      rw [e]
      by_cases h0 : o x < 0 ∧ x ∈ L
      · rw [if_pos h0, if_pos ⟨h0.1, List.mem_cons_of_mem _ h0.2⟩]
      · rw [if_neg h0, if_neg (fun h => h0 ⟨h.1, (List.mem_cons.1 h.2).resolve_left hx⟩)]

theorem level_upto (nb : Nat → List Nat) (d : Nat) (o : Nat → Int) : ∀ (i : Nat) (x : Nat), (List.range i).foldl (nodeB nb d) o x = if o x < 0 ∧ ∃ c, c < i ∧ o c = d ∧ x ∈ nb c then (d : Int) + 1 else o x := by
  intro i
  induction i with
  | zero => intro x; rw [if_neg (by rintro ⟨_, c, h, _⟩; omega)]; rfl
  | succ i ih =>
    intro x
    rw [List.range_succ, List.foldl_append]
    show nodeB nb d ((List.range i).foldl (nodeB nb d) o) i x = _
    generalize (List.range i).foldl (nodeB nb d) o = p at ih
    unfold nodeB
    have hi : p i = d ↔ o i = d := by
      rw [ih i]
      split
      · rename_i h; constructor <;> intro e <;> omega
      · exact Iff.rfl
    by_cases hd : o i = d
    · rw [if_pos (hi.2 hd), relL_at]
      by_cases h1 : o x < 0 ∧ ∃ c, c < i ∧ o c = d ∧ x ∈ nb c
      · have e : p x = (d : Int) + 1 := (ih x).trans (if_pos h1)
        obtain ⟨h0, c, hc, hcd, hm⟩ := h1
        rw [e, if_neg (by omega), if_pos ⟨h0, c, by omega, hcd, hm⟩]
      · have e : p x = o x := (ih x).trans (if_neg h1)
        rw [e]
        by_cases h2 : o x < 0 ∧ x ∈ nb i
        · rw [if_pos h2, if_pos ⟨h2.1, i, by omega, hd, h2.2⟩]
        · rw [if_neg h2, if_neg]
          rintro ⟨h0, c, hc, hcd, hm⟩
          rcases Nat.lt_or_ge c i with h3 | h3
          · exact h1 ⟨h0, c, h3, hcd, hm⟩
          · obtain rfl : c = i := by omega
            exact h2 ⟨h0, hm⟩
    · rw [if_neg (fun e => hd (hi.1 e))]
      by_cases h1 : o x < 0 ∧ ∃ c, c < i ∧ o c = d ∧ x ∈ nb c
      · have e : p x = (d : Int) + 1 := (ih x).trans (if_pos h1)
        obtain ⟨h0, c, hc, hcd, hm⟩ := h1
        rw [e, if_pos ⟨h0, c, by omega, hcd, hm⟩]
      · have e : p x = o x := (ih x).trans (if_neg h1)
        rw [e, if_neg]
        rintro ⟨h0, c, hc, hcd, hm⟩
        rcases Nat.lt_or_ge c i with h3 | h3
        · exact h1 ⟨h0, c, h3, hcd, hm⟩
        · obtain rfl : c = i := by omega
          exact hd hcd

/-- Reached within d steps from the start. -/
def Rch (nb : Nat → List Nat) (n : Nat) (src : Nat → Bool) : Nat → Nat → Prop
  | 0, c => src c = true
  | d + 1, c => Rch nb n src d c ∨ ∃ p, p < n ∧ Rch nb n src d p ∧ c ∈ nb p
theorem rch_mono {nb : Nat → List Nat} {n : Nat} {src : Nat → Bool} {c : Nat} : ∀ {d e : Nat}, d ≤ e → Rch nb n src d c → Rch nb n src e c := by
  intro d e h
  induction h with
  | refl => exact id
  | step _ ih => exact fun hr => .inl (ih hr)

/-- The number is the least count of steps, if that is at most k; else -1. -/
def Least (nb : Nat → List Nat) (n : Nat) (src : Nat → Bool) (k : Nat) (v : Int) (c : Nat) : Prop :=
  (∃ j : Nat, v = j ∧ j ≤ k ∧ Rch nb n src j c ∧ ∀ i, i < j → ¬ Rch nb n src i c) ∨ (v = -1 ∧ ¬ Rch nb n src k c)

theorem run_least (nb : Nat → List Nat) (n : Nat) (src : Nat → Bool) : ∀ (k c : Nat), Least nb n src k (runB nb n src k c) c := by
  intro k
  induction k with
  | zero =>
    intro c
    show Least nb n src 0 (startB src c) c
    unfold startB
    by_cases h : src c = true
    · rw [if_pos h]
      exact .inl ⟨0, rfl, Nat.le_refl _, h, fun i hi => absurd hi (Nat.not_lt_zero _)⟩
    · rw [if_neg h]
      exact .inr ⟨rfl, h⟩
  | succ k ih =>
    intro c
    have e : runB nb n src (k + 1) c = levelB nb n k (runB nb n src k) c := by
      unfold runB
      rw [List.range_succ, List.foldl_append]
      rfl
    rw [e]
    unfold levelB
    rw [level_upto]
    generalize runB nb n src k = o at ih
    rcases ih c with ⟨j, hj, hjk, hr, hn⟩ | ⟨hv, hnr⟩
    · rw [if_neg (by rintro ⟨h0, _⟩; omega)]
      exact .inl ⟨j, hj, by omega, hr, hn⟩
    · by_cases h : ∃ p, p < n ∧ o p = k ∧ c ∈ nb p
      · rw [if_pos ⟨by omega, h⟩]
        obtain ⟨p, hp, hpk, hm⟩ := h
        refine .inl ⟨k + 1, by omega, Nat.le_refl _, .inr ⟨p, hp, ?_, hm⟩, fun i hi hri => hnr (rch_mono (by omega) hri)⟩
        rcases ih p with ⟨j, hj, _, hr, _⟩ | ⟨hv2, _⟩
        · have : j = k := by omega
          rw [← this]
          exact hr
        · omega
      · rw [if_neg (fun hh => h hh.2)]
        refine .inr ⟨hv, ?_⟩
        rintro (hr | ⟨p, hp, hrp, hm⟩)
        · exact hnr hr
        · rcases ih p with ⟨j, hj, hjk, hr, _⟩ | ⟨_, hnp⟩
          · rcases Nat.lt_or_ge j k with h3 | h3
            · exact hnr (rch_mono (show j + 1 ≤ k by omega) (.inr ⟨p, hp, hr, hm⟩))
            · exact h ⟨p, hp, by omega, hm⟩
          · exact hnp hrp

/-- No cell is new behind d steps. -/
def Still (nb : Nat → List Nat) (n : Nat) (src : Nat → Bool) (d : Nat) : Prop := ∀ c, Rch nb n src (d + 1) c → Rch nb n src d c
theorem still_on {nb : Nat → List Nat} {n : Nat} {src : Nat → Bool} {d : Nat} (h : Still nb n src d) : ∀ (e c : Nat), Rch nb n src (d + e) c → Rch nb n src d c := by
  intro e
  induction e with
  | zero => exact fun c hr => hr
  | succ e ih =>
    intro c hr
    rcases hr with hr | ⟨p, hp, hrp, hm⟩
    · exact ih c hr
    · exact h c (.inr ⟨p, hp, ih p hrp, hm⟩)

noncomputable def cnt (P : Nat → Prop) (n : Nat) : Nat := ((List.range n).filter fun c => decide (P c)).length
theorem cnt_succ (P : Nat → Prop) (n : Nat) : cnt P (n + 1) = cnt P n + if P n then 1 else 0 := by
  unfold cnt
  rw [List.range_succ, List.filter_append, List.length_append]
  by_cases h : P n
  · simp [h]
  · simp [h]
theorem cnt_le (P : Nat → Prop) (n : Nat) : cnt P n ≤ n := by
  induction n with
  | zero => exact Nat.le_refl _
  | succ n ih => rw [cnt_succ]; split <;> omega
theorem cnt_mono {P Q : Nat → Prop} (h : ∀ c, P c → Q c) (n : Nat) : cnt P n ≤ cnt Q n := by
  induction n with
  | zero => exact Nat.le_refl _
  | succ n ih =>
    rw [cnt_succ, cnt_succ]
    by_cases hp : P n
    · rw [if_pos hp, if_pos (h n hp)]; omega
    · rw [if_neg hp]; omega
theorem cnt_lt {P Q : Nat → Prop} (h : ∀ c, P c → Q c) {c : Nat} : ∀ {n : Nat}, c < n → Q c → ¬ P c → cnt P n < cnt Q n := by
  intro n
  induction n with
  | zero => intro hc; omega
  | succ n ih =>
    intro hc hq hp
    rw [cnt_succ, cnt_succ]
    rcases Nat.lt_or_ge c n with h1 | h1
    · have := ih h1 hq hp
      by_cases hpn : P n
      · rw [if_pos hpn, if_pos (h n hpn)]; omega
      · rw [if_neg hpn]; omega
    · obtain rfl : c = n := by omega
      have := cnt_mono h c
      rw [if_neg hp, if_pos hq]; omega
theorem cnt_all {P : Nat → Prop} : ∀ {n : Nat}, n ≤ cnt P n → ∀ c, c < n → P c := by
  intro n
  induction n with
  | zero => intro _ c hc; omega
  | succ n ih =>
    intro h c hc
    rw [cnt_succ] at h
    have h2 := cnt_le P n
    have hn : P n := by
      by_cases hp : P n
      · exact hp
      · rw [if_neg hp] at h; omega
    rw [if_pos hn] at h
    rcases Nat.lt_or_ge c n with h1 | h1
    · exact ih (by omega) c h1
    · obtain rfl : c = n := by omega
      exact hn

theorem still_some {nb : Nat → List Nat} {n : Nat} {src : Nat → Bool} (hs : ∀ c, src c = true → c < n) (hnb : ∀ p, p < n → ∀ c ∈ nb p, c < n) :
    ∀ d : Nat, (∃ e, e ≤ d ∧ Still nb n src e) ∨ d + 1 ≤ cnt (Rch nb n src (d + 1)) n := by
  have hlt : ∀ d c, Rch nb n src d c → c < n := by
    intro d
    induction d with
    | zero => exact fun c h => hs c h
    | succ d ih =>
      rintro c (h | ⟨p, hp, _, hm⟩)
      · exact ih c h
      · exact hnb p hp c hm
  have hone : ∀ d, ¬ Still nb n src d → cnt (Rch nb n src d) n < cnt (Rch nb n src (d + 1)) n := by
    intro d hst
    obtain ⟨c, h1, h2⟩ : ∃ c, Rch nb n src (d + 1) c ∧ ¬ Rch nb n src d c := by
      unfold Still at hst
      simpa using hst
    exact cnt_lt (P := Rch nb n src d) (Q := Rch nb n src (d + 1)) (fun c h => .inl h) (hlt _ c h1) h1 h2
  intro d
  induction d with
  | zero =>
    by_cases hst : Still nb n src 0
    · exact .inl ⟨0, Nat.le_refl _, hst⟩
    · have := hone 0 hst
      exact .inr (by omega)
  | succ d ih =>
    rcases ih with ⟨e, he, hse⟩ | h4
    · exact .inl ⟨e, by omega, hse⟩
    · by_cases hst : Still nb n src (d + 1)
      · exact .inl ⟨d + 1, Nat.le_refl _, hst⟩
      · have := hone (d + 1) hst
        exact .inr (by omega)

/-- What is reached at all is reached within n steps. -/
theorem rch_all {nb : Nat → List Nat} {n : Nat} {src : Nat → Bool} (hs : ∀ c, src c = true → c < n) (hnb : ∀ p, p < n → ∀ c ∈ nb p, c < n) {j c : Nat} (h : Rch nb n src j c) : Rch nb n src n c := by
  rcases still_some hs hnb n with ⟨e, he, hse⟩ | hn
  · rcases Nat.lt_or_ge j e with h1 | h1
    · exact rch_mono (by omega) h
    · have := still_on hse (j - e) c (by rw [show e + (j - e) = j from by omega]; exact h)
      exact rch_mono he this
  · have := cnt_le (Rch nb n src (n + 1)) n
    omega

/-- The number is the distance. -/
def Dist (nb : Nat → List Nat) (n : Nat) (src : Nat → Bool) (v : Int) (c : Nat) : Prop :=
  (∃ j : Nat, v = j ∧ Rch nb n src j c ∧ ∀ i, i < j → ¬ Rch nb n src i c) ∨ (v = -1 ∧ ∀ j, ¬ Rch nb n src j c)
theorem dist_one {nb : Nat → List Nat} {n : Nat} {src : Nat → Bool} {v v' : Int} {c : Nat} (h : Dist nb n src v c) (h' : Dist nb n src v' c) : v = v' := by
  rcases h with ⟨j, rfl, hr, hn⟩ | ⟨rfl, hn⟩
  · rcases h' with ⟨j', rfl, hr', hn'⟩ | ⟨_, hn'⟩
    · have h1 : ¬ j < j' := fun hh => hn' j hh hr
      have h2 : ¬ j' < j := fun hh => hn j' hh hr'
      omega
    · exact absurd hr (hn' _)
  · rcases h' with ⟨j', rfl, hr', _⟩ | ⟨rfl, _⟩
    · exact absurd hr' (hn _)
    · rfl
theorem run_dist {nb : Nat → List Nat} {n : Nat} {src : Nat → Bool} (hs : ∀ c, src c = true → c < n) (hnb : ∀ p, p < n → ∀ c ∈ nb p, c < n) {c : Nat} : Dist nb n src (runB nb n src n c) c := by
  rcases run_least nb n src n c with ⟨j, hj, _, hr, hn⟩ | ⟨hv, hn⟩
  · exact .inl ⟨j, hj, hr, hn⟩
  · exact .inr ⟨hv, fun j hr => hn (rch_all hs hnb hr)⟩

end Go.Proofs.YtlkhecdlmbhiaaaDoor

namespace Go.Proofs.YtlkhecdlmbhiaaaDoor
set_option maxRecDepth 4096
open Go.ChangeShapes Go.WideShapes Go.ChangeAt Go.RowKit

/-- A list of Booleans came back in memory of the call's own. -/
def BoolsBack (w : World) (o : Nat → Bool) (n : Nat) (e : Ending) (w' : World) : Prop :=
  ∃ v, e = .returned v ∧ w'.ownsRow w.heap.size 4 1 v n (rowB o n) ∧ Below w.heap.size w w'

def isNo : Value → Bool
  | .bool false => true
  | _ => false
/-- The false ones in a block. -/
def noes (w : World) (g : Nat) : Nat :=
  match w.heap[g]? with
  | some (.cells cs _ _) => (cs.toList.filter isNo).length
  | _ => 0
noncomputable def cntNo (o : Nat → Bool) (n : Nat) : Nat := cnt (fun v => o v = false) n
theorem rowB_noes (o : Nat → Bool) (n : Nat) : ((rowB o n).filter isNo).length = cntNo o n := by
  unfold rowB cntNo cnt
  rw [List.filter_map, List.length_map]
  congr 1
  refine List.filter_congr fun v _ => ?_
  show isNo (.bool (o v)) = _
  cases h : o v <;> simp [isNo, h]
theorem noes_row {w : World} {B : Nat} {e : TypeId} {g n : Nat} {o : Nat → Bool} (h : w.ownsRow B e 1 (.slice (some ⟨g, 0, none⟩) n n) n (rowB o n)) : noes w g = cntNo o n := by
  rw [← rowB_noes]
  rcases h.2 with ⟨h1, _⟩ | ⟨g', c', cur, h1, _, hg, _, _, hs, ht⟩
  · cases h1
  · injection h1 with h1 _ h2
    injection h1 with h1
    injection h1 with h1
    subst h1 h2
    unfold noes
    rw [hg]
    show (cur.toList.filter isNo).length = _
    rw [List.take_of_length_le (by simpa using Nat.le_of_eq hs)] at ht
    rw [ht]

def addO (o : Nat → Bool) (v : Nat) (j : Nat) : Bool := o j || decide (j = v)
theorem addO_self (o : Nat → Bool) (v : Nat) : addO o v v = true := by simp [addO]
theorem addO_old {o : Nat → Bool} {v j : Nat} (h : o j = true) : addO o v j = true := by simp [addO, h]
theorem addO_other {o : Nat → Bool} {v j : Nat} (h : j ≠ v) : addO o v j = o j := by simp [addO, h]
theorem cntNo_add {o : Nat → Bool} {v n : Nat} (hv : v < n) (h : o v = false) : cntNo (addO o v) n < cntNo o n := by
  unfold cntNo
  refine cnt_lt (fun c hc => ?_) hv h (by rw [addO_self]; simp)
  cases ho : o c with
  | false => rfl
  | true => rw [addO_old ho] at hc; cases hc

/-- The set holds node 0 and only what can be reached. -/
structure Good (P : List (ArcD × Int)) (o : Nat → Bool) : Prop where
  zero : o 0 = true
  res : ∀ v : Nat, o v = true → Res P v
def closedAt (o : Nat → Bool) (p : ArcD × Int) : Prop := (o p.1.f.toNat = true → p.2 < p.1.r → o p.1.t.toNat = true) ∧ (o p.1.t.toNat = true → 0 < p.2 → o p.1.f.toNat = true)
theorem Good.fwd {P : List (ArcD × Int)} {o : Nat → Bool} (h : Good P o) {p : ArcD × Int} {a b : Nat} (hp : p ∈ P) (ha : p.1.f = a) (hb : p.1.t = b) (hf : o a = true) (hr : p.2 < p.1.r) : Good P (addO o b) :=
  ⟨addO_old h.zero, fun v hv => by
    by_cases e : v = b
    · rw [e, ← hb]
      exact Res.fwd hp (by rw [ha]; exact h.res a hf) hr
    · rw [addO_other e] at hv
      exact h.res v hv⟩
theorem Good.bwd {P : List (ArcD × Int)} {o : Nat → Bool} (h : Good P o) {p : ArcD × Int} {a b : Nat} (hp : p ∈ P) (ha : p.1.f = a) (hb : p.1.t = b) (ht : o b = true) (hr : 0 < p.2) : Good P (addO o a) :=
  ⟨addO_old h.zero, fun v hv => by
    by_cases e : v = a
    · rw [e, ← ha]
      exact Res.bwd hp (by rw [hb]; exact h.res b ht) hr
    · rw [addO_other e] at hv
      exact h.res v hv⟩
/-- A good set that is closed is what can be reached. -/
theorem good_is {N : Int} {A : List ArcD} {F : List Int} {o : Nat → Bool} (hn : netOkV N A = true) (h : Good (A.zip F) o) (hc : ∀ p ∈ A.zip F, closedAt o p) (v : Nat) : o v = reachedB A F v := by
  obtain ⟨hN, _, hA⟩ := netOk_out hn
  have key := res_is (P := A.zip F) (S := fun v => 0 ≤ v ∧ o v.toNat = true) ⟨Int.le_refl _, h.zero⟩ (fun v hv => by
    have := h.res v.toNat hv.2
    rwa [Int.toNat_of_nonneg hv.1] at this) (fun p hp hf hr => ⟨(arcOk_out (hA _ (zip_arc hp))).2.1.1, (hc p hp).1 hf.2 hr⟩) (fun p hp ht hr => ⟨(arcOk_out (hA _ (zip_arc hp))).1.1, (hc p hp).2 ht.2 hr⟩) (v : Int)
  rw [Bool.eq_iff_iff]
  unfold reachedB
  rw [resB_iff, ← key]
  simp
theorem good_start (P : List (ArcD × Int)) : Good P (addO (fun _ => false) 0) :=
  ⟨addO_self _ _, fun v hv => by
    have : v = 0 := by simpa [addO] using hv
    rw [this]
    exact Res.src⟩

/-- A pass under way, begun at o0: either nothing has been found and the arcs so far are closed, or there is less left. -/
def Pass (P : List (ArcD × Int)) (n k : Nat) (o0 o : Nat → Bool) (m : Bool) : Prop := (m = false → o = o0 ∧ ∀ p ∈ P.take k, closedAt o p) ∧ (m = true → cntNo o n < cntNo o0 n)
theorem Pass.le {P : List (ArcD × Int)} {n k : Nat} {o0 o : Nat → Bool} {m : Bool} (h : Pass P n k o0 o m) : cntNo o n ≤ cntNo o0 n := by
  cases m with
  | false => rw [(h.1 rfl).1]; exact Nat.le_refl _
  | true => exact Nat.le_of_lt (h.2 rfl)
theorem Pass.skip {P : List (ArcD × Int)} {n k : Nat} {o0 o : Nat → Bool} {m : Bool} (h : Pass P n k o0 o m) {p : ArcD × Int} (hp : P[k]? = some p) (hc : closedAt o p) : Pass P n (k + 1) o0 o m :=
  ⟨fun hm => ⟨(h.1 hm).1, fun q hq => by
    obtain ⟨hi, rfl⟩ := List.getElem?_eq_some_iff.1 hp
    rw [List.take_succ_eq_append_getElem hi] at hq
    rcases List.mem_append.1 hq with h1 | h1
    · exact (h.1 hm).2 q h1
    · rw [List.mem_singleton] at h1
      rw [h1]
      exact hc⟩, h.2⟩
theorem Pass.found {P : List (ArcD × Int)} {n k : Nat} {o0 o : Nat → Bool} {m : Bool} (h : Pass P n k o0 o m) {v : Nat} (hv : v < n) (ho : o v = false) : Pass P n (k + 1) o0 (addO o v) true :=
  ⟨fun hm => (by cases hm), fun _ => Nat.lt_of_lt_of_le (cntNo_add hv ho) h.le⟩

end Go.Proofs.YtlkhecdlmbhiaaaDoor

