/-
  Plans: ways of one length, meetings, circles of ways. Plain facts; no statement is proved here.
  Have ways the form of a plan? Plain facts; no statement is proved here.
  The last cells of ways; all their cells. Plain facts; no statement is proved here.
  How many moves ways have. Plain facts; no statement is proved here.
-/
import Derived.Test.YtkbfbifepaoojaaGreatDoorZPU01
import Derived.Test.YtkbfbifepaoojaaGreatDoorZPU02
namespace Go.Proofs.YtkbfbifepaoojaaGreatDoor
set_option maxRecDepth 4096

/-- The cells of all ways at one time. -/
def colL (Ws : List (List Int)) (t : Nat) : List Int := Ws.map fun L => L.getD t 0
def wideV (Ws : List (List Int)) : Nat := (Ws.headD []).length
def evenV (Ws : List (List Int)) : Bool := decide (1 ≤ Ws.length) && decide (Ws.length ≤ 10) && Ws.all fun L => decide (L.length = wideV Ws)
def levV (Ws : List (List Int)) (t : Int) : Bool := evenV Ws && decide (0 ≤ t) && decide (t + 1 < (wideV Ws : Int))
def meetV (Ws : List (List Int)) (t : Int) : Bool := levV Ws t && (!decide (colL Ws t.toNat).Nodup || !decide (colL Ws (t.toNat + 1)).Nodup)

section
variable {Ws : List (List Int)} {t : Nat}
theorem col_len : (colL Ws t).length = Ws.length := by unfold colL; rw [List.length_map]
theorem col_at {i : Nat} {L : List Int} {x : Int} (h : Ws[i]? = some L) (hx : L[t]? = some x) : (colL Ws t)[i]? = some x := by
  unfold colL
  rw [List.getElem?_map, h]
  simp [hx]
theorem even_iff : evenV Ws = true ↔ 1 ≤ Ws.length ∧ Ws.length ≤ 10 ∧ ∀ (i : Nat) L, Ws[i]? = some L → L.length = wideV Ws := by
  unfold evenV
  rw [Bool.and_eq_true, Bool.and_eq_true, decide_eq_true_eq, decide_eq_true_eq, List.all_eq_true]
  constructor
  · rintro ⟨⟨h1, h2⟩, h3⟩
    exact ⟨h1, h2, fun i L hL => of_decide_eq_true (h3 L (List.mem_of_getElem? hL))⟩
  · rintro ⟨h1, h2, h3⟩
    refine ⟨⟨h1, h2⟩, fun L hL => ?_⟩
    obtain ⟨i, hi, rfl⟩ := List.getElem_of_mem hL
    exact decide_eq_true (h3 i _ (List.getElem?_eq_getElem hi))
theorem even_few (h : ¬ (1 ≤ Ws.length ∧ Ws.length ≤ 10)) : evenV Ws = false := by
  cases e : evenV Ws with
  | false => rfl
  | true => exact absurd (And.intro (even_iff.1 e).1 (even_iff.1 e).2.1) h
theorem even_no {i : Nat} {L : List Int} (hL : Ws[i]? = some L) (h : L.length ≠ wideV Ws) : evenV Ws = false := by
  cases e : evenV Ws with
  | false => rfl
  | true => exact absurd ((even_iff.1 e).2.2 i L hL) h
theorem wide_at {L : List Int} (h : Ws[0]? = some L) : wideV Ws = L.length := by
  unfold wideV
  cases Ws with
  | nil => simp at h
  | cons a Ws => simp at h; subst h; rfl
theorem lev_iff {t : Int} : levV Ws t = true ↔ evenV Ws = true ∧ 0 ≤ t ∧ t + 1 < (wideV Ws : Int) := by
  unfold levV
  rw [Bool.and_eq_true, Bool.and_eq_true, decide_eq_true_eq, decide_eq_true_eq, and_assoc]
theorem lev_no {t : Int} (h : ¬ (0 ≤ t ∧ t + 1 < (wideV Ws : Int))) : levV Ws t = false := by
  cases e : levV Ws t with
  | false => rfl
  | true => exact absurd (lev_iff.1 e).2 h
theorem lev_even {t : Int} (h : evenV Ws = false) : levV Ws t = false := by
  unfold levV
  rw [h]
  rfl
theorem lev_yes {t : Int} (h : evenV Ws = true) (h2 : 0 ≤ t) (h3 : t + 1 < (wideV Ws : Int)) : levV Ws t = true := lev_iff.2 ⟨h, h2, h3⟩
/-- What level ways have at a time. -/
theorem lev_cells {t : Nat} (h : levV Ws (t : Int) = true) {i : Nat} {L : List Int} (hL : Ws[i]? = some L) : ∃ x y, L[t]? = some x ∧ L[t + 1]? = some y ∧ (colL Ws t)[i]? = some x ∧ (colL Ws (t + 1))[i]? = some y := by
  obtain ⟨h1, h2, h3⟩ := lev_iff.1 h
  have hl := (even_iff.1 h1).2.2 i L hL
  have hx : L[t]? = some L[t] := List.getElem?_eq_getElem (by omega)
  have hy : L[t + 1]? = some L[t + 1] := List.getElem?_eq_getElem (by omega)
  exact ⟨_, _, hx, hy, col_at hL hx, col_at hL hy⟩
theorem meet_lev {t : Int} (h : levV Ws t = false) : meetV Ws t = false := by
  unfold meetV
  rw [h]
  rfl
theorem meet_of {t : Nat} (h : levV Ws (t : Int) = true) : meetV Ws (t : Int) = (!decide (colL Ws t).Nodup || !decide (colL Ws (t + 1)).Nodup) := by
  unfold meetV
  rw [h]
  simp
end

/-! The number of different ones tells whether there are equal ones. -/
theorem nodup_subP : ∀ {X Y : List Int}, X.Nodup → (∀ x ∈ X, x ∈ Y) → X.length ≤ Y.length
  | [], _, _, _ => by simp
  | a :: X, Y, hn, hs => by
    obtain ⟨ha, hn⟩ := List.nodup_cons.1 hn
    have hb := hs a (List.mem_cons_self ..)
    have := nodup_subP (X := X) (Y := Y.erase a) hn fun x hx => (List.mem_erase_of_ne (fun e => ha (by rw [← e]; exact hx))).2 (hs x (List.mem_cons_of_mem _ hx))
    rw [List.length_erase_of_mem hb] at this
    have : 0 < Y.length := List.length_pos_of_mem hb
    simp only [List.length_cons]
    omega
theorem once_nodup (L : List Int) : (onceL L).Nodup := (once_up L).imp fun h => by omega
theorem nodup_less : ∀ {L X : List Int}, X.Nodup → (∀ x ∈ X, x ∈ L) → ¬ L.Nodup → X.length < L.length
  | [], _, _, _, h => absurd List.nodup_nil h
  | a :: L, X, hX, hs, h => by
    by_cases hm : a ∈ L
    · have := nodup_subP (Y := L) hX fun x hx => by
        rcases List.mem_cons.1 (hs x hx) with rfl | h2
        · exact hm
        · exact h2
      simp only [List.length_cons]
      omega
    · have hL : ¬ L.Nodup := fun h2 => h (List.nodup_cons.2 ⟨hm, h2⟩)
      have := nodup_less (L := L) (X := X.erase a) (hX.erase a) (fun x hx => by
        have h1 := List.mem_of_mem_erase hx
        rcases List.mem_cons.1 (hs x h1) with rfl | h2
        · exact absurd hx (fun k => by have := (List.Nodup.mem_erase_iff hX).1 k; exact this.1 rfl)
        · exact h2) hL
      have h3 := List.length_erase (a := a) (l := X)
      simp only [List.length_cons]
      split at h3 <;> omega
theorem once_full {L : List Int} : (onceL L).length < L.length ↔ ¬ L.Nodup := by
  constructor
  · intro h hn
    have := nodup_subP hn fun x hx => once_mem.2 hx
    omega
  · intro h
    exact nodup_less (once_nodup L) (fun x hx => once_mem.1 hx) h

/-! Circles: A: where each way is at a time; B: where it comes to. -/
def nxtV (A B : List Int) (k : Nat) : Option Nat := A.findIdx? fun x => decide (x = B.getD k 0)
def ringG (A B : List Int) (i : Nat) : Nat → Nat → Nat → Nat
  | 0, _, _ => 0
  | f + 1, k, n => match nxtV A B k with
    | none => 0
    | some x => if x = i then n else ringG A B i f x (n + 1)
def ringV (A B : List Int) (i : Nat) : Nat := ringG A B i A.length i 1
/-- Where one is behind s steps. -/
def walkK (A B : List Int) (i : Nat) : Nat → Option Nat
  | 0 => some i
  | s + 1 => match walkK A B i s with
    | none => none
    | some k => nxtV A B k
/-- The steps before the s-th neither end nor come back. -/
def OnWay (A B : List Int) (i s : Nat) : Prop := 1 ≤ s ∧ ∀ r, 1 ≤ r → r < s → ∃ x, walkK A B i r = some x ∧ x ≠ i

section
variable {A B : List Int} {i k x s : Nat}
theorem nxt_some (h : nxtV A B k = some x) : x < A.length ∧ A[x]? = some (B.getD k 0) := by
  unfold nxtV at h
  obtain ⟨h1, h2, _⟩ := List.findIdx?_eq_some_iff_getElem.1 h
  exact ⟨h1, by rw [List.getElem?_eq_getElem h1, of_decide_eq_true h2]⟩
theorem nxt_is (hA : A.Nodup) (hx : A[x]? = some (B.getD k 0)) : nxtV A B k = some x := by
  obtain ⟨hl, he⟩ := List.getElem?_eq_some_iff.1 hx
  unfold nxtV
  refine List.findIdx?_eq_some_iff_getElem.2 ⟨hl, decide_eq_true he, fun j hj h => ?_⟩
  have h2 := of_decide_eq_true h
  have := List.pairwise_iff_getElem.1 hA j x (by omega) hl hj
  exact this (h2.trans he.symm)
theorem nxt_none (h : ∀ (j : Nat) y, A[j]? = some y → y ≠ B.getD k 0) : nxtV A B k = none := by
  unfold nxtV
  refine List.findIdx?_eq_none_iff.2 fun y hy => ?_
  obtain ⟨j, hj, rfl⟩ := List.getElem_of_mem hy
  exact decide_eq_false (h j _ (List.getElem?_eq_getElem hj))
theorem nxt_inj {k' : Nat} (hB : B.Nodup) (hk : k < B.length) (hk' : k' < B.length) (h : nxtV A B k = some x) (h' : nxtV A B k' = some x) : k = k' := by
  have h1 := (nxt_some h).2
  rw [(nxt_some h').2] at h1
  have h1 := Option.some.inj h1
  simp only [List.getD_eq_getElem?_getD, List.getElem?_eq_getElem hk, List.getElem?_eq_getElem hk', Option.getD_some] at h1
  rcases Nat.lt_trichotomy k k' with h2 | h2 | h2
  · exact absurd h1.symm (List.pairwise_iff_getElem.1 hB k k' hk hk' h2)
  · exact h2
  · exact absurd h1 (List.pairwise_iff_getElem.1 hB k' k hk' hk h2)
theorem walk_lt (hi : i < A.length) : ∀ {s : Nat} {x : Nat}, walkK A B i s = some x → x < A.length
  | 0, x, h => by cases h; exact hi
  | s + 1, x, h => by
    unfold walkK at h
    split at h
    · cases h
    · exact (nxt_some h).1
theorem on_one : OnWay A B i 1 := ⟨Nat.le_refl _, fun r h1 h2 => by omega⟩
theorem on_next (h : OnWay A B i s) (hw : walkK A B i s = some x) (hx : x ≠ i) : OnWay A B i (s + 1) := by
  refine ⟨by omega, fun r h1 h2 => ?_⟩
  by_cases e : r = s
  · subst e
    exact ⟨x, hw, hx⟩
  · exact h.2 r h1 (by omega)
theorem on_at (h : OnWay A B i s) {r : Nat} (hr : r < s) : ∃ x, walkK A B i r = some x := by
  by_cases e : r = 0
  · subst e
    exact ⟨i, rfl⟩
  · obtain ⟨x, hx, _⟩ := h.2 r (by omega) hr
    exact ⟨x, hx⟩
/-- No two steps come to the same. -/
theorem on_diff (hB : B.Nodup) (hl : A.length = B.length) (hi : i < A.length) (h : OnWay A B i s) : ∀ (a d : Nat), a + d + 1 < s → ∀ x, walkK A B i a = some x → walkK A B i (a + d + 1) ≠ some x
  | 0, d, hd, x, ha, hb => by
    cases ha
    obtain ⟨y, hy, hne⟩ := h.2 (0 + d + 1) (by omega) hd
    rw [hb] at hy
    exact hne (Option.some.inj hy).symm
  | a + 1, d, hd, x, ha, hb => by
    obtain ⟨p, hp⟩ := on_at h (r := a) (by omega)
    obtain ⟨q, hq⟩ := on_at h (r := a + d + 1) (by omega)
    have h1 : nxtV A B p = some x := by
      have := ha
      unfold walkK at this
      rw [hp] at this
      exact this
    have h2 : nxtV A B q = some x := by
      have e : a + 1 + d + 1 = (a + d + 1) + 1 := by omega
      rw [e] at hb
      unfold walkK at hb
      rw [hq] at hb
      exact hb
    have := nxt_inj hB (by rw [← hl]; exact walk_lt hi hp) (by rw [← hl]; exact walk_lt hi hq) h1 h2
    subst this
    exact on_diff hB hl hi h a d (by omega) p hp hq
theorem nat_sub : ∀ {X Y : List Nat}, X.Nodup → (∀ x ∈ X, x ∈ Y) → X.length ≤ Y.length
  | [], _, _, _ => by simp
  | a :: X, Y, hn, hs => by
    obtain ⟨ha, hn⟩ := List.nodup_cons.1 hn
    have hb := hs a (List.mem_cons_self ..)
    have := nat_sub (X := X) (Y := Y.erase a) hn fun x hx => (List.mem_erase_of_ne (fun e => ha (by rw [← e]; exact hx))).2 (hs x (List.mem_cons_of_mem _ hx))
    rw [List.length_erase_of_mem hb] at this
    have : 0 < Y.length := List.length_pos_of_mem hb
    simp only [List.length_cons]
    omega
theorem on_le (hB : B.Nodup) (hl : A.length = B.length) (hi : i < A.length) (h : OnWay A B i s) : s ≤ A.length := by
  have hn : ((List.range s).map fun r => (walkK A B i r).getD 0).Nodup := by
    refine List.pairwise_iff_getElem.2 fun a b ha hb hab => ?_
    simp only [List.length_map, List.length_range] at ha hb
    simp only [List.getElem_map, List.getElem_range]
    obtain ⟨x, hx⟩ := on_at h ha
    obtain ⟨y, hy⟩ := on_at h hb
    rw [hx, hy]
    intro e
    obtain ⟨d, rfl⟩ : ∃ d, b = a + d + 1 := ⟨b - a - 1, by omega⟩
    refine on_diff hB hl hi h a d hb x hx ?_
    rw [hy]
    exact congrArg some e.symm
  have := nat_sub (Y := List.range A.length) hn fun x hx => by
    obtain ⟨r, hr, rfl⟩ := List.mem_map.1 hx
    obtain ⟨y, hy⟩ := on_at h (List.mem_range.1 hr)
    rw [hy]
    exact List.mem_range.2 (walk_lt hi hy)
  simpa using this
/-- What the rest of the search gives. -/
theorem on_ring (hB : B.Nodup) (hl : A.length = B.length) (hi : i < A.length) : ∀ {s : Nat} {k : Nat}, OnWay A B i (s + 1) → walkK A B i s = some k → ringV A B i = ringG A B i (A.length - s) k (s + 1)
  | 0, k, _, hk => by cases hk; rfl
  | s + 1, k, h, hk => by
    have h1 : OnWay A B i (s + 1) := ⟨by omega, fun r h2 h3 => h.2 r h2 (by omega)⟩
    obtain ⟨p, hp⟩ := on_at h (r := s) (by omega)
    rw [on_ring hB hl hi h1 hp]
    have hle := on_le hB hl hi h1
    obtain ⟨f, hf⟩ : ∃ f, A.length - s = f + 1 := ⟨A.length - s - 1, by omega⟩
    have hn : nxtV A B p = some k := by
      have := hk
      unfold walkK at this
      rw [hp] at this
      exact this
    obtain ⟨y, hy, hne⟩ := h.2 (s + 1) (by omega) (by omega)
    rw [hk] at hy
    cases hy
    have hf2 : A.length - (s + 1) = f := by omega
    rw [hf, hf2]
    show (match nxtV A B p with | none => 0 | some x => if x = i then s + 1 else ringG A B i f x (s + 1 + 1)) = _
    rw [hn]
    exact if_neg hne
theorem on_end (hB : B.Nodup) (hl : A.length = B.length) (hi : i < A.length) (h : OnWay A B i s) (hw : walkK A B i s = some i) : ringV A B i = s := by
  obtain ⟨r, rfl⟩ : ∃ r, s = r + 1 := ⟨s - 1, by have := h.1; omega⟩
  obtain ⟨p, hp⟩ := on_at h (r := r) (by omega)
  have hle := on_le hB hl hi h
  rw [on_ring hB hl hi h hp]
  obtain ⟨f, hf⟩ : ∃ f, A.length - r = f + 1 := ⟨A.length - r - 1, by omega⟩
  have hn : nxtV A B p = some i := by
    have := hw
    unfold walkK at this
    rw [hp] at this
    exact this
  rw [hf]
  show (match nxtV A B p with | none => 0 | some x => if x = i then r + 1 else ringG A B i f x (r + 1 + 1)) = _
  rw [hn]
  exact if_pos rfl
theorem on_none (hB : B.Nodup) (hl : A.length = B.length) (hi : i < A.length) (h : OnWay A B i s) (hw : walkK A B i s = none) : ringV A B i = 0 := by
  obtain ⟨r, rfl⟩ : ∃ r, s = r + 1 := ⟨s - 1, by have := h.1; omega⟩
  obtain ⟨p, hp⟩ := on_at h (r := r) (by omega)
  have hle := on_le hB hl hi h
  rw [on_ring hB hl hi h hp]
  obtain ⟨f, hf⟩ : ∃ f, A.length - r = f + 1 := ⟨A.length - r - 1, by omega⟩
  have hn : nxtV A B p = none := by
    have := hw
    unfold walkK at this
    rw [hp] at this
    exact this
  rw [hf]
  show (match nxtV A B p with | none => 0 | some x => if x = i then r + 1 else ringG A B i f x (r + 1 + 1)) = _
  rw [hn]
theorem ringG_le : ∀ {f k n : Nat}, ringG A B i f k n ≤ f + n - 1
  | 0, _, _ => Nat.zero_le _
  | f + 1, k, n => by
    show (match nxtV A B k with | none => 0 | some x => if x = i then n else ringG A B i f x (n + 1)) ≤ _
    cases nxtV A B k with
    | none => exact Nat.zero_le _
    | some x =>
      show (if x = i then n else ringG A B i f x (n + 1)) ≤ _
      by_cases e : x = i
      · rw [if_pos e]; omega
      · rw [if_neg e]
        have := ringG_le (f := f) (k := x) (n := n + 1)
        omega
theorem ring_le : ringV A B i ≤ A.length := by
  have := ringG_le (A := A) (B := B) (i := i) (f := A.length) (k := i) (n := 1)
  unfold ringV
  omega
end

/-- How many ways are in circles of lo to hi ways. -/
def inR (A B : List Int) (lo hi i : Nat) : Bool := decide (lo ≤ ringV A B i) && decide (ringV A B i ≤ hi)
def countR (A B : List Int) (lo hi : Nat) (n : Nat) : Nat := (List.range n).countP (inR A B lo hi)
theorem countR_zero {A B : List Int} {lo hi : Nat} : countR A B lo hi 0 = 0 := rfl
theorem countR_succ {A B : List Int} {lo hi n : Nat} : countR A B lo hi (n + 1) = countR A B lo hi n + (if inR A B lo hi n = true then 1 else 0) := by
  unfold countR
  rw [List.range_succ, List.countP_append]
  congr 1
  simp only [List.countP_cons, List.countP_nil, Nat.zero_add]
theorem countR_le {A B : List Int} {lo hi n : Nat} : countR A B lo hi n ≤ n := by
  have := List.countP_le_length (p := inR A B lo hi) (l := List.range n)
  rw [List.length_range] at this
  exact this
def cntV (Ws : List (List Int)) (t : Int) (lo hi : Nat) : Nat := if levV Ws t = true ∧ meetV Ws t = false then countR (colL Ws t.toNat) (colL Ws (t.toNat + 1)) lo hi Ws.length else 0
def swapsV (Ws : List (List Int)) (t : Int) : Nat := cntV Ws t 2 2 / 2
def ringsV (Ws : List (List Int)) (t : Int) : Nat := cntV Ws t 3 10
theorem cnt_no {Ws : List (List Int)} {t : Int} {lo hi : Nat} (h : ¬ (levV Ws t = true ∧ meetV Ws t = false)) : cntV Ws t lo hi = 0 := if_neg h
theorem cnt_yes {Ws : List (List Int)} {t : Nat} {lo hi : Nat} (h1 : levV Ws (t : Int) = true) (h2 : meetV Ws (t : Int) = false) : cntV Ws (t : Int) lo hi = countR (colL Ws t) (colL Ws (t + 1)) lo hi Ws.length := by
  unfold cntV
  rw [if_pos ⟨h1, h2⟩, Int.toNat_natCast]
theorem free_nodup {Ws : List (List Int)} {t : Nat} (h1 : levV Ws (t : Int) = true) (h2 : meetV Ws (t : Int) = false) : (colL Ws t).Nodup ∧ (colL Ws (t + 1)).Nodup := by
  rw [meet_of h1, Bool.or_eq_false_iff] at h2
  simpa using h2
theorem cnt_le {Ws : List (List Int)} {t : Int} {lo hi : Nat} : cntV Ws t lo hi ≤ Ws.length := by
  unfold cntV
  split
  · exact countR_le
  · exact Nat.zero_le _

end Go.Proofs.YtkbfbifepaoojaaGreatDoor

namespace Go.Proofs.YtkbfbifepaoojaaGreatDoor
set_option maxRecDepth 4096
open Go.ChangeShapes Go.WideShapes Go.ChangeAt Go.RowKit

def okI (S : List Int) (T : Nat) (Ws : List (List Int)) (i : Nat) : Bool := match Ws[i]?, S[i]? with
  | some L, some c => decide (L.length = T + 1) && decide (L[0]? = some c)
  | _, _ => false
def formV (S : List Int) (T : Nat) (Ws : List (List Int)) : Bool := decide (Ws.length = S.length) && (List.range Ws.length).all (okI S T Ws)
section
variable {S : List Int} {T : Nat} {Ws : List (List Int)}
theorem form_len (h : Ws.length ≠ S.length) : formV S T Ws = false := by
  unfold formV
  rw [decide_eq_false h]
  rfl
theorem form_no {j : Nat} (hj : j < Ws.length) (h : okI S T Ws j = false) : formV S T Ws = false := by
  unfold formV
  rw [Bool.and_eq_false_iff]
  right
  cases e : (List.range Ws.length).all (okI S T Ws) with
  | false => rfl
  | true =>
    have := List.all_eq_true.1 e j (List.mem_range.2 hj)
    rw [h] at this
    cases this
theorem form_yes (hl : Ws.length = S.length) (h : ∀ k, k < Ws.length → okI S T Ws k = true) : formV S T Ws = true := by
  unfold formV
  rw [decide_eq_true hl, Bool.true_and, List.all_eq_true]
  exact fun k hk => h k (List.mem_range.1 hk)
theorem okI_at {i : Nat} {L : List Int} {c : Int} (hL : Ws[i]? = some L) (hc : S[i]? = some c) : okI S T Ws i = (decide (L.length = T + 1) && decide (L[0]? = some c)) := by
  unfold okI
  rw [hL, hc]
end

end Go.Proofs.YtkbfbifepaoojaaGreatDoor

namespace Go.Proofs.YtkbfbifepaoojaaGreatDoor
set_option maxRecDepth 4096
open Go.ChangeShapes Go.WideShapes Go.ChangeAt Go.RowKit

def lastOf (L : List Int) : List Int := L.drop (L.length - 1)
def lastsL (Ws : List (List Int)) : List Int := Ws.flatMap lastOf
def flatL (Ws : List (List Int)) : List Int := Ws.flatMap id
theorem lastOf_nil {L : List Int} (h : L.length = 0) : lastOf L = [] := by
  obtain rfl := List.eq_nil_of_length_eq_zero h
  rfl
theorem lastOf_one {L : List Int} {x : Int} (h : L[L.length - 1]? = some x) : lastOf L = [x] := by
  obtain ⟨hi, rfl⟩ := List.getElem?_eq_some_iff.1 h
  unfold lastOf
  rw [List.drop_eq_getElem_cons hi, List.drop_of_length_le (by omega)]
theorem lasts_succ {Ws : List (List Int)} {k : Nat} {L : List Int} (h : Ws[k]? = some L) : lastsL (Ws.take (k + 1)) = lastsL (Ws.take k) ++ lastOf L := by
  obtain ⟨hi, rfl⟩ := List.getElem?_eq_some_iff.1 h
  unfold lastsL
  rw [List.take_succ_eq_append_getElem hi, List.flatMap_append]
  simp
theorem flat_succ {Ws : List (List Int)} {k : Nat} {L : List Int} (h : Ws[k]? = some L) : flatL (Ws.take (k + 1)) = flatL (Ws.take k) ++ L := by
  obtain ⟨hi, rfl⟩ := List.getElem?_eq_some_iff.1 h
  unfold flatL
  rw [List.take_succ_eq_append_getElem hi, List.flatMap_append]
  simp
theorem flat_lenW (Ws : List (List Int)) : (flatL Ws).length = totW Ws := by
  unfold flatL totW
  rw [List.length_flatMap]
  rfl
theorem lasts_len (Ws : List (List Int)) : (lastsL Ws).length ≤ totW Ws := by
  unfold lastsL totW
  induction Ws with
  | nil => exact Nat.le_refl _
  | cons L Ws ih =>
    have : (lastOf L).length ≤ L.length := by
      unfold lastOf
      rw [List.length_drop]
      omega
    simp only [List.flatMap_cons, List.length_append, List.map_cons, List.sum_cons]
    omega

end Go.Proofs.YtkbfbifepaoojaaGreatDoor

namespace Go.Proofs.YtkbfbifepaoojaaGreatDoor
set_option maxRecDepth 4096

/-- The moves of a way before its k-th cell. -/
def moveN (L : List Int) (k : Nat) : Nat := (List.range k).countP fun t => decide (0 < t) && decide (L.getD t 0 ≠ L.getD (t - 1) 0)
def movesW (Ws : List (List Int)) : Nat := (Ws.map fun L => moveN L L.length).sum
theorem moveN_le (L : List Int) (k : Nat) : moveN L k ≤ k := by
  have := List.countP_le_length (p := fun t => decide (0 < t) && decide (L.getD t 0 ≠ L.getD (t - 1) 0)) (l := List.range k)
  rw [List.length_range] at this
  exact this
theorem moveN_one (L : List Int) : moveN L 1 = 0 := rfl
theorem moveN_zero (L : List Int) : moveN L 0 = 0 := rfl
theorem moveN_succ {L : List Int} {k : Nat} {x y : Int} (h0 : 0 < k) (hx : L[k]? = some x) (hy : L[k - 1]? = some y) : moveN L (k + 1) = moveN L k + (if x ≠ y then 1 else 0) := by
  unfold moveN
  rw [List.range_succ, List.countP_append]
  congr 1
  simp only [List.countP_cons, List.countP_nil, List.getD_eq_getElem?_getD, hx, hy, Option.getD_some, h0, decide_true, Bool.true_and, decide_eq_true_eq, Nat.zero_add]
theorem movesW_succ {Ws : List (List Int)} {k : Nat} {L : List Int} (h : Ws[k]? = some L) : movesW (Ws.take (k + 1)) = movesW (Ws.take k) + moveN L L.length := by
  obtain ⟨hi, rfl⟩ := List.getElem?_eq_some_iff.1 h
  unfold movesW
  rw [List.take_succ_eq_append_getElem hi, List.map_append, List.sum_append]
  simp
theorem movesW_le (Ws : List (List Int)) : movesW Ws ≤ totW Ws := by
  unfold movesW totW
  induction Ws with
  | nil => exact Nat.le_refl _
  | cons L Ws ih =>
    have := moveN_le L L.length
    simp only [List.map_cons, List.sum_cons]
    omega

end Go.Proofs.YtkbfbifepaoojaaGreatDoor

