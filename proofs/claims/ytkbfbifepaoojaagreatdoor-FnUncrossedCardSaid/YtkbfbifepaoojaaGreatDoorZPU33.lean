/-
  Swaps and rings taken out of ways: each way goes on like the one behind it. Plain facts; no statement is proved here.
-/
import Derived.Test.YtkbfbifepaoojaaGreatDoorZPU03
namespace Go.Proofs.YtkbfbifepaoojaaGreatDoor
set_option maxRecDepth 4096

/-- The ways are regular. -/
def regV (Ws : List (List Int)) : Bool := evenV Ws && decide (0 < wideV Ws) && (List.range (wideV Ws - 1)).all fun t => !meetV Ws (t : Int)
/-- Which way one goes on like behind one time. -/
def goB (A B : List Int) (i : Nat) : Nat := if 1 < ringV A B i then (nxtV B A i).getD i else i
/-- Which way one goes on like at a time. -/
def sigV (Ws : List (List Int)) (i : Nat) : Nat → Nat
  | 0 => i
  | t + 1 => goB (colL Ws t) (colL Ws (t + 1)) (sigV Ws i t)
/-- The cell of a changed way: changed at the times below c. -/
def celV (Ws : List (List Int)) (c i s : Nat) : Int := (colL Ws s).getD (sigV Ws i (min s c)) 0
def nowV (Ws : List (List Int)) (c : Nat) : List (List Int) := (List.range Ws.length).map fun i => (List.range (wideV Ws)).map (celV Ws c i)
def stayV (Ws : List (List Int)) (i : Nat) : List Int := (List.range (wideV Ws)).map (celV Ws (wideV Ws) i)
def uncV (Ws : List (List Int)) : List (List Int) := (List.range Ws.length).map (stayV Ws)
def cross1 (Ws : List (List Int)) (t : Nat) : Nat := 2 * swapsV Ws (t : Int) + ringsV Ws (t : Int)
def crossN (Ws : List (List Int)) (k : Nat) : Nat := ((List.range k).map (cross1 Ws)).sum

/-- What Uncrossed gives. -/
def resV (Ws : List (List Int)) : List (List Int) := if regV Ws = true then uncV Ws else []
/-- What Crossings gives. -/
def crossV13 (Ws : List (List Int)) : Int := if regV Ws = true then (crossN Ws (wideV Ws - 1) : Nat) else -1
/-- What SameStands gives. -/
def sameV (A B : List (List Int)) : Bool := regV A && regV B && decide (wideV A = wideV B) && (List.range (wideV A)).all fun t => decide (onceL (colL A t) = onceL (colL B t))
section
variable {Ws : List (List Int)} {t : Nat}
theorem reg_iff : regV Ws = true ↔ evenV Ws = true ∧ 0 < wideV Ws ∧ ∀ t : Nat, t + 1 < wideV Ws → meetV Ws (t : Int) = false := by
  unfold regV
  rw [Bool.and_eq_true, Bool.and_eq_true, decide_eq_true_eq, List.all_eq_true]
  constructor
  · rintro ⟨⟨h1, h2⟩, h3⟩
    refine ⟨h1, h2, fun t ht => ?_⟩
    have := h3 t (List.mem_range.2 (by omega))
    simpa using this
  · rintro ⟨h1, h2, h3⟩
    refine ⟨⟨h1, h2⟩, fun t ht => ?_⟩
    have := List.mem_range.1 ht
    rw [h3 t (by omega)]
    rfl
theorem reg_even (h : evenV Ws = false) : regV Ws = false := by
  unfold regV
  rw [h]
  rfl
theorem reg_bare (h : wideV Ws = 0) : regV Ws = false := by
  cases e : regV Ws with
  | false => rfl
  | true => have := (reg_iff.1 e).2.1; omega
theorem reg_meet (h : meetV Ws (t : Int) = true) : regV Ws = false := by
  cases e : regV Ws with
  | false => rfl
  | true =>
    have hl : levV Ws (t : Int) = true := by
      cases e2 : levV Ws (t : Int) with
      | true => rfl
      | false => rw [meet_lev e2] at h; exact absurd h (by decide)
    have := (reg_iff.1 e).2.2 t (by have := (lev_iff.1 hl).2.2; omega)
    rw [h] at this
    exact absurd this (by decide)
theorem reg_lev (h : regV Ws = true) (ht : t + 1 < wideV Ws) : levV Ws (t : Int) = true := lev_yes (reg_iff.1 h).1 (by omega) (by omega)
theorem reg_free (h : regV Ws = true) (ht : t + 1 < wideV Ws) : (colL Ws t).Nodup ∧ (colL Ws (t + 1)).Nodup := free_nodup (reg_lev h ht) ((reg_iff.1 h).2.2 t ht)
theorem crossN_succ {k : Nat} : crossN Ws (k + 1) = crossN Ws k + cross1 Ws k := by
  unfold crossN
  rw [List.range_succ, List.map_append, List.sum_append]
  simp
theorem cross1_le : cross1 Ws t ≤ 20 := by
  unfold cross1 swapsV ringsV
  by_cases h : levV Ws (t : Int) = true
  · have h1 := (even_iff.1 (lev_iff.1 h).1).2.1
    have h2 := cnt_le (Ws := Ws) (t := (t : Int)) (lo := 2) (hi := 2)
    have h3 := cnt_le (Ws := Ws) (t := (t : Int)) (lo := 3) (hi := 10)
    omega
  · rw [cnt_no (lo := 2) (hi := 2) (fun k => h k.1), cnt_no (lo := 3) (hi := 10) (fun k => h k.1)]
    omega
theorem crossN_le {k : Nat} : crossN Ws k ≤ 20 * k := by
  induction k with
  | zero => exact Nat.zero_le _
  | succ k ih =>
    rw [crossN_succ]
    have := cross1_le (Ws := Ws) (t := k)
    omega
end

section
variable {A B : List Int} {i : Nat}
/-- One that is in a circle has one behind it, in a circle as great. -/
theorem ring_behind (_ : A.Nodup) (hB : B.Nodup) (hl : A.length = B.length) (hi : i < A.length) (h : 0 < ringV A B i) : ∃ j, j < A.length ∧ nxtV B A i = some j ∧ B[j]? = some (A.getD i 0) ∧ 0 < ringV A B j ∧ (1 < ringV A B i → 1 < ringV A B j ∧ j ≠ i) := by
  -- the circle of i: walkK i r = some i with r = ring
  have key : ∃ s, OnWay A B i s ∧ walkK A B i s = some i ∧ ringV A B i = s := by
    -- search: on the way for each s, or come back
    have : ∀ s, (∃ r, 1 ≤ r ∧ r ≤ s ∧ OnWay A B i r ∧ walkK A B i r = some i) ∨ (∃ r, 1 ≤ r ∧ r ≤ s ∧ OnWay A B i r ∧ walkK A B i r = none) ∨ OnWay A B i (s + 1) := by
      intro s
      induction s with
      | zero => exact .inr (.inr on_one)
      | succ s ih =>
        rcases ih with ⟨r, h1, h2, h3⟩ | ⟨r, h1, h2, h3⟩ | h1
        · exact .inl ⟨r, h1, by omega, h3⟩
        · exact .inr (.inl ⟨r, h1, by omega, h3⟩)
        · cases hw : walkK A B i (s + 1) with
          | none => exact .inr (.inl ⟨s + 1, by omega, by omega, h1, hw⟩)
          | some x =>
            by_cases hx : x = i
            · subst hx
              exact .inl ⟨s + 1, by omega, by omega, h1, hw⟩
            · exact .inr (.inr (on_next h1 hw hx))
    rcases this A.length with ⟨r, h1, h2, h3, h4⟩ | ⟨r, h1, h2, h3, h4⟩ | h1
    · exact ⟨r, h3, h4, on_end hB hl hi h3 h4⟩
    · have := on_none hB hl hi h3 h4
      omega
    · have := on_le hB hl hi h1
      omega
  obtain ⟨s, ho, hw, hs⟩ := key
  obtain ⟨r, rfl⟩ : ∃ r, s = r + 1 := ⟨s - 1, by have := ho.1; omega⟩
  obtain ⟨j, hj⟩ := on_at ho (r := r) (by omega)
  have hjl := walk_lt hi hj
  have hji : nxtV A B j = some i := by
    have := hw
    unfold walkK at this
    rw [hj] at this
    exact this
  have hBj : B[j]? = some (A.getD i 0) := by
    have h1 := (nxt_some hji).2
    have hjb : j < B.length := by omega
    rw [List.getD_eq_getElem?_getD, h1, List.getD_eq_getElem?_getD, List.getElem?_eq_getElem hjb]
    rfl
  have hni : nxtV B A i = some j := nxt_is hB hBj
  -- the circle from j: i, walk i 1, ... walk i r = j
  have hsh : ∀ q, q ≤ r → walkK A B j (q + 1) = walkK A B i q := by
    intro q hq
    induction q with
    | zero =>
      show (match walkK A B j 0 with | none => none | some k => nxtV A B k) = some i
      exact hji
    | succ q ih =>
      show (match walkK A B j (q + 1) with | none => none | some k => nxtV A B k) = (match walkK A B i q with | none => none | some k => nxtV A B k)
      rw [ih (by omega)]
  have hoj : OnWay A B j (r + 1) := by
    refine ⟨by omega, fun q h1 h2 => ?_⟩
    obtain ⟨p, rfl⟩ : ∃ p, q = p + 1 := ⟨q - 1, by omega⟩
    obtain ⟨x, hx⟩ := on_at ho (r := p) (by omega)
    refine ⟨x, (hsh p (by omega)).trans hx, fun e => ?_⟩
    subst e
    obtain ⟨d, hd⟩ : ∃ d, r = p + d + 1 := ⟨r - p - 1, by omega⟩
    exact on_diff hB hl hi ho p d (by omega) x hx (by rw [← hd]; exact hj)
  have hwj : walkK A B j (r + 1) = some j := (hsh r (Nat.le_refl _)).trans hj
  have hrj := on_end hB hl hjl hoj hwj
  refine ⟨j, hjl, hni, hBj, by omega, fun h1 => ⟨by omega, fun e => ?_⟩⟩
  subst e
  have h2 : walkK A B j 1 = some j := (hsh 0 (by omega)).trans rfl
  obtain ⟨x, hx, hne⟩ := ho.2 1 (Nat.le_refl _) (by omega)
  rw [h2] at hx
  exact hne (Option.some.inj hx).symm
/-- One that is behind one in a circle is in a circle. -/
theorem ring_ahead (hA : A.Nodup) (hB : B.Nodup) (hl : A.length = B.length) {j : Nat} (hi : i < A.length) (h : 1 < ringV A B i) (hn : B[j]? = some (A.getD i 0)) : 1 < ringV A B j := by
  obtain ⟨k, hk, _, hkB, _, h2⟩ := ring_behind hA hB hl hi (by omega)
  have h1 := List.getElem?_eq_some_iff.1 hn
  have h3 := List.getElem?_eq_some_iff.1 hkB
  have : j = k := by
    obtain ⟨h4, h5⟩ := h1
    obtain ⟨h6, h7⟩ := h3
    rcases Nat.lt_trichotomy j k with h8 | h8 | h8
    · exact absurd (h5.trans h7.symm) (List.pairwise_iff_getElem.1 hB j k h4 h6 h8)
    · exact h8
    · exact absurd (h7.trans h5.symm) (List.pairwise_iff_getElem.1 hB k j h6 h4 h8)
  rw [this]
  exact (h2 h).1
/-- What comes behind one that is in a circle. -/
theorem goB_ring (hA : A.Nodup) (hB : B.Nodup) (hl : A.length = B.length) (hi : i < A.length) (h : 1 < ringV A B i) : goB A B i < A.length ∧ nxtV B A i = some (goB A B i) ∧ B[goB A B i]? = some (A.getD i 0) ∧ 1 < ringV A B (goB A B i) ∧ goB A B i ≠ i := by
  obtain ⟨j, h1, h2, h3, _, h5⟩ := ring_behind hA hB hl hi (by omega)
  have : goB A B i = j := by
    unfold goB
    rw [if_pos h, h2]
    rfl
  rw [this]
  exact ⟨h1, h2, h3, (h5 h).1, (h5 h).2⟩
theorem goB_stay (h : ¬ 1 < ringV A B i) : goB A B i = i := if_neg h
theorem goB_lt (hA : A.Nodup) (hB : B.Nodup) (hl : A.length = B.length) (hi : i < A.length) : goB A B i < A.length := by
  by_cases h : 1 < ringV A B i
  · exact (goB_ring hA hB hl hi h).1
  · rw [goB_stay h]; exact hi
theorem at_inj (hA : A.Nodup) {i j : Nat} {x : Int} (hi : A[i]? = some x) (hj : A[j]? = some x) : i = j := by
  obtain ⟨h4, h5⟩ := List.getElem?_eq_some_iff.1 hi
  obtain ⟨h6, h7⟩ := List.getElem?_eq_some_iff.1 hj
  rcases Nat.lt_trichotomy i j with h8 | h8 | h8
  · exact absurd (h5.trans h7.symm) (List.pairwise_iff_getElem.1 hA i j h4 h6 h8)
  · exact h8
  · exact absurd (h7.trans h5.symm) (List.pairwise_iff_getElem.1 hA j i h6 h4 h8)
theorem getD_at {i : Nat} (hi : i < A.length) : A[i]? = some (A.getD i 0) := by
  rw [List.getD_eq_getElem?_getD, List.getElem?_eq_getElem hi]
  rfl
theorem goB_inj (hA : A.Nodup) (hB : B.Nodup) (hl : A.length = B.length) {j : Nat} (hi : i < A.length) (hj : j < A.length) (h : goB A B i = goB A B j) : i = j := by
  by_cases h1 : 1 < ringV A B i
  · obtain ⟨a1, _, a3, a4, _⟩ := goB_ring hA hB hl hi h1
    by_cases h2 : 1 < ringV A B j
    · obtain ⟨_, _, b3, _, _⟩ := goB_ring hA hB hl hj h2
      rw [h, b3] at a3
      exact at_inj hA (getD_at hi) ((getD_at hj).trans a3)
    · rw [h, goB_stay h2] at a4
      exact absurd a4 h2
  · rw [goB_stay h1] at h
    by_cases h2 : 1 < ringV A B j
    · obtain ⟨_, _, _, b4, _⟩ := goB_ring hA hB hl hj h2
      rw [← h] at b4
      exact absurd b4 h1
    · rw [goB_stay h2] at h
      exact h
/-- Circles of the same ways in another order. -/
theorem inj_onto {n : Nat} {f : Nat → Nat} (hf : ∀ i, i < n → f i < n) (hi : ∀ i j, i < n → j < n → f i = f j → i = j) {y : Nat} (hy : y < n) : ∃ x, x < n ∧ f x = y := by
  have h1 : ((List.range n).map f).Nodup := by
    refine List.pairwise_iff_getElem.2 fun a b ha hb hab e => ?_
    simp only [List.length_map, List.length_range] at ha hb
    simp only [List.getElem_map, List.getElem_range] at e
    have := hi a b ha hb e
    omega
  by_cases h : y ∈ (List.range n).map f
  · obtain ⟨x, hx, e⟩ := List.mem_map.1 h
    exact ⟨x, List.mem_range.1 hx, e⟩
  · have := nat_sub (X := y :: (List.range n).map f) (Y := List.range n) (List.nodup_cons.2 ⟨h, h1⟩) fun x hx => by
      rcases List.mem_cons.1 hx with rfl | hx
      · exact List.mem_range.2 hy
      · obtain ⟨z, hz, rfl⟩ := List.mem_map.1 hx
        exact List.mem_range.2 (hf z (List.mem_range.1 hz))
    rw [List.length_cons, List.length_map, List.length_range] at this
    omega
theorem ring_turn {A' B' : List Int} {f : Nat → Nat} (hA : A.Nodup) (hl : A.length = B.length) (ha : A'.length = A.length) (hb : B'.length = A.length) (hf : ∀ i, i < A.length → f i < A.length) (hfi : ∀ i j, i < A.length → j < A.length → f i = f j → i = j) (hA' : ∀ i, i < A.length → A'[i]? = A[f i]?) (hB' : ∀ i, i < A.length → B'[i]? = B[f i]?) (hi : i < A.length) : ringV A' B' i = ringV A B (f i) := by
  have hn : ∀ k, k < A.length → nxtV A B (f k) = (nxtV A' B' k).map f := by
    intro k hk
    have hbk : B'.getD k 0 = B.getD (f k) 0 := by
      rw [List.getD_eq_getElem?_getD, hB' k hk, List.getD_eq_getElem?_getD]
    cases e : nxtV A' B' k with
    | some x =>
      obtain ⟨hx, hx2⟩ := nxt_some e
      rw [hA' x (by omega), hbk] at hx2
      exact nxt_is hA hx2
    | none =>
      refine nxt_none fun j y hj hy => ?_
      have hjl := (List.getElem?_eq_some_iff.1 hj).1
      obtain ⟨x, hx, rfl⟩ := inj_onto hf hfi hjl
      unfold nxtV at e
      have h1 := List.findIdx?_eq_none_iff.1 e (A.getD (f x) 0) (List.mem_of_getElem? ((hA' x hx).trans (getD_at hjl)))
      rw [hbk, ← hy] at h1
      rw [getD_at hjl] at hj
      have := of_decide_eq_false h1
      exact this (Option.some.inj hj)
  have hg : ∀ q k n, k < A.length → ringG A' B' i q k n = ringG A B (f i) q (f k) n := by
    intro q
    induction q with
    | zero => intros; rfl
    | succ q ih =>
      intro k n hk
      show (match nxtV A' B' k with | none => 0 | some x => if x = i then n else ringG A' B' i q x (n + 1)) = (match nxtV A B (f k) with | none => 0 | some x => if x = f i then n else ringG A B (f i) q x (n + 1))
      rw [hn k hk]
      cases e : nxtV A' B' k with
      | none => rfl
      | some x =>
        have hx : x < A.length := by have := (nxt_some e).1; omega
        show (if x = i then n else ringG A' B' i q x (n + 1)) = (if f x = f i then n else ringG A B (f i) q (f x) (n + 1))
        by_cases h : x = i
        · subst h
          rw [if_pos rfl, if_pos rfl]
        · rw [if_neg h, if_neg (fun h2 => h (hfi x i hx hi h2)), ih x (n + 1) hx]
  unfold ringV
  rw [ha]
  exact hg _ _ _ hi
end

section
variable {Ws : List (List Int)}
theorem sig_lt (h : regV Ws = true) {i : Nat} (hi : i < Ws.length) : ∀ {t : Nat}, t < wideV Ws → sigV Ws i t < Ws.length
  | 0, _ => hi
  | t + 1, ht => by
    have hf := reg_free h ht
    have := goB_lt (i := sigV Ws i t) hf.1 hf.2 (by rw [col_len, col_len]) (by rw [col_len]; exact sig_lt h hi (by omega))
    rw [col_len] at this
    exact this
theorem sig_inj (h : regV Ws = true) {i j : Nat} (hi : i < Ws.length) (hj : j < Ws.length) : ∀ {t : Nat}, t < wideV Ws → sigV Ws i t = sigV Ws j t → i = j
  | 0, _, e => e
  | t + 1, ht, e => by
    have hf := reg_free h ht
    exact sig_inj h hi hj (t := t) (by omega) (goB_inj hf.1 hf.2 (by rw [col_len, col_len]) (by rw [col_len]; exact sig_lt h hi (by omega)) (by rw [col_len]; exact sig_lt h hj (by omega)) e)
theorem col_is (h : evenV Ws = true) {i s : Nat} {L : List Int} (hL : Ws[i]? = some L) (hs : s < wideV Ws) : (colL Ws s)[i]? = some (L.getD s 0) ∧ L[s]? = some (L.getD s 0) := by
  have hl := (even_iff.1 h).2.2 i L hL
  have hx : L[s]? = some (L.getD s 0) := by
    rw [List.getD_eq_getElem?_getD, List.getElem?_eq_getElem (by omega)]
    rfl
  exact ⟨col_at hL hx, hx⟩
theorem now_len {c : Nat} : (nowV Ws c).length = Ws.length := by unfold nowV; simp
theorem now_at {c i : Nat} (hi : i < Ws.length) : (nowV Ws c)[i]? = some ((List.range (wideV Ws)).map (celV Ws c i)) := by
  unfold nowV
  rw [List.getElem?_map, List.getElem?_range hi]
  rfl
theorem row_at {c i s : Nat} (hs : s < wideV Ws) : ((List.range (wideV Ws)).map (celV Ws c i))[s]? = some (celV Ws c i s) := by
  rw [List.getElem?_map, List.getElem?_range hs]
  rfl
theorem now_wide {c : Nat} (h : 0 < Ws.length) : wideV (nowV Ws c) = wideV Ws := by
  rw [wide_at (now_at h)]
  simp
theorem now_even {c : Nat} (h : evenV Ws = true) : evenV (nowV Ws c) = true := by
  obtain ⟨h1, h2, _⟩ := even_iff.1 h
  refine even_iff.2 ⟨by rw [now_len]; exact h1, by rw [now_len]; exact h2, fun i L hL => ?_⟩
  have hi : i < Ws.length := by have := (List.getElem?_eq_some_iff.1 hL).1; rw [now_len] at this; exact this
  rw [now_at hi] at hL
  cases hL
  rw [now_wide (by omega)]
  simp
theorem now_zero (h : evenV Ws = true) : nowV Ws 0 = Ws := by
  refine List.ext_getElem? fun i => ?_
  by_cases hi : i < Ws.length
  · rw [now_at hi, List.getElem?_eq_getElem hi]
    congr 1
    have hL : Ws[i]? = some Ws[i] := List.getElem?_eq_getElem hi
    have hl := (even_iff.1 h).2.2 i _ hL
    refine List.ext_getElem? fun s => ?_
    by_cases hs : s < wideV Ws
    · rw [row_at hs]
      obtain ⟨h1, h2⟩ := col_is h hL hs
      rw [h2]
      congr 1
      unfold celV
      rw [List.getD_eq_getElem?_getD, Nat.min_zero]
      show ((colL Ws s)[i]?).getD 0 = _
      rw [h1]
      rfl
    · rw [List.getElem?_eq_none (by simpa using Nat.le_of_not_lt hs), List.getElem?_eq_none (by omega)]
  · rw [List.getElem?_eq_none (by rw [now_len]; omega), List.getElem?_eq_none (by omega)]
theorem cel_col {c i s : Nat} (hi : i < Ws.length) (hs : s < wideV Ws) : (colL (nowV Ws c) s)[i]? = some (celV Ws c i s) := col_at (now_at hi) (row_at hs)
/-- At the time t and behind it, the ways that are changed below t are the given ones in another order. -/
theorem cel_from (h : regV Ws = true) {i s t : Nat} (hi : i < Ws.length) (ht : t ≤ s) (hs : s < wideV Ws) : some (celV Ws t i s) = (colL Ws s)[sigV Ws i t]? := by
  unfold celV
  rw [Nat.min_eq_right ht]
  have hx : sigV Ws i t < (colL Ws s).length := by rw [col_len]; exact sig_lt h hi (by omega)
  exact (getD_at hx).symm
theorem ring_now (h : regV Ws = true) {i t : Nat} (hi : i < Ws.length) (ht : t + 1 < wideV Ws) : ringV (colL (nowV Ws t) t) (colL (nowV Ws t) (t + 1)) i = ringV (colL Ws t) (colL Ws (t + 1)) (sigV Ws i t) := by
  have hf := reg_free h ht
  refine ring_turn (f := fun i => sigV Ws i t) hf.1 (by rw [col_len, col_len]) (by rw [col_len, col_len, now_len]) (by rw [col_len, col_len, now_len]) (fun i hi => ?_) (fun i j hi hj e => ?_) (fun i hi => ?_) (fun i hi => ?_) (by rw [col_len]; exact hi)
  · rw [col_len] at hi ⊢
    exact sig_lt h hi (by omega)
  · rw [col_len] at hi hj
    exact sig_inj h hi hj (t := t) (by omega) e
  · rw [col_len] at hi
    rw [cel_col hi (by omega)]
    exact cel_from h hi (Nat.le_refl _) (by omega)
  · rw [col_len] at hi
    rw [cel_col hi ht]
    exact cel_from h hi (Nat.le_succ _) ht
/-- The ways that are changed below t are free of meetings. -/
theorem now_nodup (h : regV Ws = true) {t s : Nat} (hs : s < wideV Ws) (hn : (colL Ws s).Nodup) : (colL (nowV Ws t) s).Nodup := by
  refine List.pairwise_iff_getElem.2 fun a b ha hb hab e => ?_
  rw [col_len, now_len] at ha hb
  have h1 := cel_col (c := t) ha hs
  have h2 := cel_col (c := t) hb hs
  rw [List.getElem?_eq_getElem (by rw [col_len, now_len]; exact ha)] at h1
  rw [List.getElem?_eq_getElem (by rw [col_len, now_len]; exact hb)] at h2
  have e2 : celV Ws t a s = celV Ws t b s := by rw [← Option.some.inj h1, ← Option.some.inj h2]; exact e
  unfold celV at e2
  have hm : min s t < wideV Ws := by omega
  have hx : sigV Ws a (min s t) < (colL Ws s).length := by rw [col_len]; exact sig_lt h ha hm
  have hy : sigV Ws b (min s t) < (colL Ws s).length := by rw [col_len]; exact sig_lt h hb hm
  have := sig_inj h ha hb hm (at_inj hn ((getD_at hx).trans (congrArg some e2)) (getD_at hy))
  omega
theorem now_lev (h : regV Ws = true) {t : Nat} (ht : t + 1 < wideV Ws) : levV (nowV Ws t) (t : Int) = true ∧ meetV (nowV Ws t) (t : Int) = false := by
  have he := (reg_iff.1 h).1
  have h1 : levV (nowV Ws t) (t : Int) = true := lev_yes (now_even he) (by omega) (by rw [now_wide (even_iff.1 he).1]; omega)
  refine ⟨h1, ?_⟩
  have hf := reg_free h ht
  rw [meet_of h1, decide_eq_true (now_nodup h (by omega) hf.1), decide_eq_true (now_nodup h ht hf.2)]
  rfl
/-- One that is in no circle keeps its way. -/
theorem now_keep (h : regV Ws = true) {i t : Nat} (hi : i < Ws.length) (ht : t + 1 < wideV Ws) (hr : ¬ 1 < ringV (colL (nowV Ws t) t) (colL (nowV Ws t) (t + 1)) i) : (nowV Ws (t + 1))[i]? = (nowV Ws t)[i]? := by
  rw [now_at hi, now_at hi]
  congr 1
  rw [ring_now h hi ht] at hr
  refine List.map_congr_left fun s hs => ?_
  unfold celV
  by_cases hst : s ≤ t
  · rw [Nat.min_eq_left hst, Nat.min_eq_left (by omega)]
  · rw [Nat.min_eq_right (by omega), Nat.min_eq_right (by omega)]
    show (colL Ws s).getD (goB (colL Ws t) (colL Ws (t + 1)) (sigV Ws i t)) 0 = _
    rw [goB_stay hr]
/-- One that is in a circle goes on like the one behind it, of which there is just one. -/
theorem now_turn (h : regV Ws = true) {i j t : Nat} (hi : i < Ws.length) (hj : j < Ws.length) (ht : t + 1 < wideV Ws) (hr : 1 < ringV (colL (nowV Ws t) t) (colL (nowV Ws t) (t + 1)) i) (he : celV Ws t j (t + 1) = celV Ws t i t) {Li Lj : List Int} (hLi : (nowV Ws t)[i]? = some Li) (hLj : (nowV Ws t)[j]? = some Lj) : (nowV Ws (t + 1))[i]? = some (Li.take (t + 1) ++ Lj.drop (t + 1)) := by
  rw [now_at hi] at hLi
  rw [now_at hj] at hLj
  cases hLi
  cases hLj
  rw [now_at hi]
  congr 1
  rw [ring_now h hi ht] at hr
  have hf := reg_free h ht
  have hsi : sigV Ws i t < (colL Ws t).length := by rw [col_len]; exact sig_lt h hi (by omega)
  obtain ⟨_, _, h3, _, _⟩ := goB_ring hf.1 hf.2 (by rw [col_len, col_len]) hsi hr
  have hgo : goB (colL Ws t) (colL Ws (t + 1)) (sigV Ws i t) = sigV Ws j t := by
    refine at_inj hf.2 h3 ?_
    rw [← cel_from h hj (Nat.le_succ _) ht, he]
    unfold celV
    rw [Nat.min_self]
  refine List.ext_getElem? fun s => ?_
  by_cases hs : s < wideV Ws
  · rw [row_at hs]
    by_cases hst : s < t + 1
    · rw [List.getElem?_append_left (by simp; omega), List.getElem?_take_of_lt hst, row_at hs]
      congr 1
      unfold celV
      rw [Nat.min_eq_left (by omega), Nat.min_eq_left (by omega)]
    · rw [List.getElem?_append_right (by simp; omega), List.getElem?_drop]
      have hlen : (((List.range (wideV Ws)).map (celV Ws t i)).take (t + 1)).length = t + 1 := by simp; omega
      rw [hlen, Nat.add_sub_cancel' (by omega), row_at hs]
      congr 1
      unfold celV
      rw [Nat.min_eq_right (by omega), Nat.min_eq_right (by omega)]
      show (colL Ws s).getD (goB (colL Ws t) (colL Ws (t + 1)) (sigV Ws i t)) 0 = _
      rw [hgo]
  · rw [List.getElem?_eq_none (by simp; omega), List.getElem?_eq_none (by simp; omega)]
/-- There is one behind one in a circle. -/
theorem now_behind (h : regV Ws = true) {i t : Nat} (hi : i < Ws.length) (ht : t + 1 < wideV Ws) (hr : 1 < ringV (colL (nowV Ws t) t) (colL (nowV Ws t) (t + 1)) i) : ∃ j, j < Ws.length ∧ celV Ws t j (t + 1) = celV Ws t i t := by
  rw [ring_now h hi ht] at hr
  have hf := reg_free h ht
  have hsi : sigV Ws i t < (colL Ws t).length := by rw [col_len]; exact sig_lt h hi (by omega)
  obtain ⟨h1, _, h3, _, _⟩ := goB_ring hf.1 hf.2 (by rw [col_len, col_len]) hsi hr
  rw [col_len] at h1
  obtain ⟨j, hj, hje⟩ := inj_onto (f := fun i => sigV Ws i t) (fun k hk => sig_lt h hk (t := t) (by omega)) (fun a b ha hb e => sig_inj h ha hb (t := t) (by omega) e) h1
  refine ⟨j, hj, Option.some.inj ?_⟩
  rw [cel_from h hj (Nat.le_succ _) ht]
  have hje2 : sigV Ws j t = goB (colL Ws t) (colL Ws (t + 1)) (sigV Ws i t) := hje
  rw [hje2, h3]
  unfold celV
  rw [Nat.min_self]
theorem now_last {c : Nat} (hc : wideV Ws ≤ c + 1) : nowV Ws c = uncV Ws := by
  unfold nowV uncV stayV
  refine List.map_congr_left fun i _ => List.map_congr_left fun s hs => ?_
  have := List.mem_range.1 hs
  unfold celV
  rw [Nat.min_eq_left (by omega), Nat.min_eq_left (by omega)]
theorem stay_at {i s : Nat} (hs : s < wideV Ws) : (stayV Ws i)[s]? = some ((colL Ws s).getD (sigV Ws i s) 0) := by
  unfold stayV
  rw [List.getElem?_map, List.getElem?_range hs]
  show some (celV Ws (wideV Ws) i s) = _
  unfold celV
  rw [Nat.min_eq_left (by omega)]
theorem stay_len {i : Nat} : (stayV Ws i).length = wideV Ws := by unfold stayV; simp
theorem unc_len : (uncV Ws).length = Ws.length := by unfold uncV; simp
theorem unc_at {i : Nat} (hi : i < Ws.length) : (uncV Ws)[i]? = some (stayV Ws i) := by
  unfold uncV
  rw [List.getElem?_map, List.getElem?_range hi]
  rfl
end

section
variable {A B : List (List Int)}
theorem same_no (h : regV A = false ∨ regV B = false ∨ wideV A ≠ wideV B) : sameV A B = false := by
  unfold sameV
  rcases h with h | h | h
  · rw [h]; rfl
  · rw [h]; simp
  · rw [decide_eq_false h]; simp
theorem same_at {t : Nat} (h : onceL (colL A t) ≠ onceL (colL B t)) (ht : t < wideV A) : sameV A B = false := by
  cases e : sameV A B with
  | false => rfl
  | true =>
    unfold sameV at e
    rw [Bool.and_eq_true, List.all_eq_true] at e
    exact absurd (of_decide_eq_true (e.2 t (List.mem_range.2 ht))) h
theorem same_yes (h1 : regV A = true) (h2 : regV B = true) (h3 : wideV A = wideV B) (h : ∀ t, t < wideV A → onceL (colL A t) = onceL (colL B t)) : sameV A B = true := by
  unfold sameV
  rw [h1, h2, decide_eq_true h3, Bool.and_eq_true, List.all_eq_true]
  exact ⟨rfl, fun t ht => decide_eq_true (h t (List.mem_range.1 ht))⟩
end

end Go.Proofs.YtkbfbifepaoojaaGreatDoor

