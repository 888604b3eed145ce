/-
  The faults of plans. Plain facts; no statement is proved here.
  Ways that meet nowhere, made step by step: what each step keeps; what such ways are as a plan. Plain facts; no statement is proved here.
  A walk of ways grows by one cell each. Plain facts. No law is proved here.
-/
import Derived.Test.YtkbfbifepaoojaaGreatDoorZPU03
import Derived.Test.YtkbfbifepaoojaaGreatDoorZPU07
namespace Go.Proofs.YtkbfbifepaoojaaGreatDoor
set_option maxRecDepth 4096

section
variable (W H : Int) (C : ByteArray)
/-- One step of a way. -/
noncomputable def stepB (L : List Int) (k : Nat) : Bool := decide (k = 0) || decide (L.getD k 0 = L.getD (k - 1) 0) || (aroundL W H C (L.getD (k - 1) 0)).contains (L.getD k 0)
noncomputable def wayB (L : List Int) : Bool := (List.range L.length).all (stepB W H C L)
noncomputable def stepsV (Ws : List (List Int)) : Bool := Ws.all (wayB W H C)
end
def anyT (f : Nat → Bool) (T : Nat) : Bool := (List.range T).any f
def crossV (Ws : List (List Int)) (T : Nat) : Nat :=
  if anyT (fun t => meetV Ws (t : Int)) T = true then 4 else if anyT (fun t => decide (0 < swapsV Ws (t : Int))) T = true then 5 else if anyT (fun t => decide (0 < ringsV Ws (t : Int))) T = true then 6 else 0
def endV (G : List Int) (M : Int) (Ws : List (List Int)) : Nat :=
  if G.all (fun d => (onceL (lastsL Ws)).contains d) = false then 7 else if M ≠ (movesW Ws : Int) then 8 else 0
noncomputable def planV (W H : Int) (C : ByteArray) (S G : List Int) (T M : Int) (Ws : List (List Int)) : Nat :=
  if askV W H C S G T = false then 1 else if formV S T.toNat Ws = false then 2 else if stepsV W H C Ws = false then 3 else
    if crossV Ws T.toNat = 0 then endV G M Ws else crossV Ws T.toNat

section
variable {W H : Int} {C : ByteArray} {Ws : List (List Int)}
theorem anyT_zero {f : Nat → Bool} : anyT f 0 = false := rfl
theorem anyT_succ {f : Nat → Bool} {T : Nat} : anyT f (T + 1) = (anyT f T || f T) := by
  unfold anyT
  rw [List.range_succ, List.any_append]
  simp
theorem anyT_yes {f : Nat → Bool} {T t : Nat} (h : t < T) (hf : f t = true) : anyT f T = true := List.any_eq_true.2 ⟨t, List.mem_range.2 h, hf⟩
theorem anyT_no {f : Nat → Bool} {T : Nat} (h : ∀ t, t < T → f t = false) : anyT f T = false := by
  cases e : anyT f T with
  | false => rfl
  | true =>
    obtain ⟨t, h1, h2⟩ := List.any_eq_true.1 e
    rw [h t (List.mem_range.1 h1)] at h2
    cases h2
theorem stepB_at {L : List Int} {k : Nat} {x y : Int} (hk : 0 < k) (hx : L[k]? = some x) (hy : L[k - 1]? = some y) : stepB W H C L k = (decide (x = y) || (aroundL W H C y).contains x) := by
  unfold stepB
  rw [List.getD_eq_getElem?_getD, List.getD_eq_getElem?_getD, hx, hy, decide_eq_false (by omega), Bool.false_or]
  rfl
theorem stepB_zero {L : List Int} : stepB W H C L 0 = true := rfl
theorem wayB_no {L : List Int} {k : Nat} (hk : k < L.length) (h : stepB W H C L k = false) : wayB W H C L = false := by
  cases e : wayB W H C L with
  | false => rfl
  | true =>
    have := List.all_eq_true.1 e k (List.mem_range.2 hk)
    rw [h] at this
    cases this
theorem wayB_yes {L : List Int} (h : ∀ k, k < L.length → stepB W H C L k = true) : wayB W H C L = true := List.all_eq_true.2 fun k hk => h k (List.mem_range.1 hk)
theorem stepsV_no {j : Nat} {L : List Int} (hL : Ws[j]? = some L) (h : wayB W H C L = false) : stepsV W H C Ws = false := by
  cases e : stepsV W H C Ws with
  | false => rfl
  | true =>
    have := List.all_eq_true.1 e L (List.mem_of_getElem? hL)
    rw [h] at this
    cases this
theorem stepsV_yes (h : ∀ (j : Nat) L, Ws[j]? = some L → wayB W H C L = true) : stepsV W H C Ws = true := List.all_eq_true.2 fun L hL => by
  obtain ⟨j, hj, rfl⟩ := List.getElem_of_mem hL
  exact h j _ (List.getElem?_eq_getElem hj)
theorem swaps_le {t : Int} : swapsV Ws t ≤ Ws.length := by
  have := cnt_le (Ws := Ws) (t := t) (lo := 2) (hi := 2)
  unfold swapsV
  omega
theorem rings_le {t : Int} : ringsV Ws t ≤ Ws.length := cnt_le
end

end Go.Proofs.YtkbfbifepaoojaaGreatDoor

namespace Go.Proofs.YtkbfbifepaoojaaGreatDoor
set_option maxRecDepth 4096

/-- Where all go next: each stays or goes to a cell beside it, no two come to the same. -/
structure NextOk (ar : Int → List Int) (now next : List Int) : Prop where
  len : next.length = now.length
  nd : next.Nodup
  step : ∀ (i : Nat) x y, now[i]? = some x → next[i]? = some y → y = x ∨ y ∈ ar x
section
variable {ar : Int → List Int} {now next : List Int}
theorem next_start (h : now.Nodup) : NextOk ar now now := ⟨rfl, h, fun i x y hx hy => .inl (by rw [hx] at hy; exact (Option.some.inj hy).symm)⟩
theorem set_nodup {L : List Int} {i : Nat} {d : Int} (h : L.Nodup) (hd : ∀ (k : Nat) y, L[k]? = some y → y ≠ d) : (L.set i d).Nodup := by
  refine List.pairwise_iff_getElem.2 fun a b ha hb hab => ?_
  rw [List.length_set] at ha hb
  have hL := List.pairwise_iff_getElem.1 h a b ha hb hab
  rw [List.getElem_set, List.getElem_set]
  split
  · split
    · omega
    · exact fun e => hd b _ (List.getElem?_eq_getElem hb) e.symm
  · split
    · exact hd a _ (List.getElem?_eq_getElem ha)
    · exact hL
theorem next_move (h : NextOk ar now next) {i : Nat} {x d : Int} (hx : now[i]? = some x) (hd : d ∈ ar x) (hn : ∀ (k : Nat) y, next[k]? = some y → y ≠ d) : NextOk ar now (next.set i d) := by
  refine ⟨by rw [List.length_set]; exact h.len, set_nodup h.nd hn, fun k x' y hx' hy => ?_⟩
  rw [List.getElem?_set] at hy
  split at hy
  · rename_i e
    subst e
    split at hy
    · cases hy
      rw [hx] at hx'
      cases hx'
      exact .inr hd
    · cases hy
  · exact h.step k x' y hx' hy
theorem swap_nodup {L : List Int} {i j : Nat} {x d : Int} (h : L.Nodup) (hij : i ≠ j) (hi : L[i]? = some x) (hj : L[j]? = some d) : ((L.set i d).set j x).Nodup := by
  obtain ⟨hil, hie⟩ := List.getElem?_eq_some_iff.1 hi
  obtain ⟨hjl, hje⟩ := List.getElem?_eq_some_iff.1 hj
  have hP := List.pairwise_iff_getElem.1 h
  have hne : ∀ a b (ha : a < L.length) (hb : b < L.length), a ≠ b → L[a] ≠ L[b] := fun a b ha hb hab e => by
    rcases Nat.lt_or_gt_of_ne hab with k | k
    · exact hP a b ha hb k e
    · exact hP b a hb ha k e.symm
  refine List.pairwise_iff_getElem.2 fun a b ha hb hab => ?_
  rw [List.length_set, List.length_set] at ha hb
  simp only [List.getElem_set]
  by_cases a1 : j = a
  · subst a1
    rw [if_pos rfl, if_neg (by omega)]
    by_cases b2 : i = b
    · subst b2
      rw [if_pos rfl]
      exact fun e => hne i j hil hjl hij (hie.trans (e.trans hje.symm))
    · rw [if_neg b2]
      exact fun e => hne i b hil hb b2 (hie.trans e)
  · rw [if_neg a1]
    by_cases a2 : i = a
    · subst a2
      rw [if_pos rfl]
      by_cases b1 : j = b
      · subst b1
        rw [if_pos rfl]
        exact fun e => hne j i hjl hil (Ne.symm hij) (hje.trans (e.trans hie.symm))
      · rw [if_neg b1, if_neg (by omega)]
        exact fun e => hne j b hjl hb b1 (hje.trans e)
    · rw [if_neg a2]
      by_cases b1 : j = b
      · subst b1
        rw [if_pos rfl]
        exact fun e => hne a i ha hil (Ne.symm a2) (e.trans hie.symm)
      · rw [if_neg b1]
        by_cases b2 : i = b
        · subst b2
          rw [if_pos rfl]
          exact fun e => hne a j ha hjl (Ne.symm a1) (e.trans hje.symm)
        · rw [if_neg b2]
          exact hne _ _ ha hb (by omega)
theorem next_swap (h : NextOk ar now next) {i j : Nat} {x d : Int} (hij : i ≠ j) (hxn : now[i]? = some x) (hxi : next[i]? = some x) (hdn : now[j]? = some d) (hdj : next[j]? = some d) (hd : d ∈ ar x) (hx : x ∈ ar d) : NextOk ar now ((next.set i d).set j x) := by
  refine ⟨by rw [List.length_set, List.length_set]; exact h.len, swap_nodup h.nd hij hxi hdj, fun k x' y hx' hy => ?_⟩
  rw [List.getElem?_set] at hy
  split at hy
  · rename_i e
    subst e
    split at hy
    · cases hy
      rw [hdn] at hx'
      cases hx'
      exact .inr hx
    · cases hy
  · rw [List.getElem?_set] at hy
    split at hy
    · rename_i e
      subst e
      split at hy
      · cases hy
        rw [hxn] at hx'
        cases hx'
        exact .inr hd
      · cases hy
    · exact h.step k x' y hx' hy
end

/-- Ways of T steps from these starts that meet nowhere. -/
structure WalkD (ar : Int → List Int) (S : List Int) (T : Nat) (Ws : List (List Int)) : Prop where
  len : Ws.length = S.length
  cells : ∀ (i : Nat) L, Ws[i]? = some L → L.length = T + 1
  start : ∀ (i : Nat) L c, Ws[i]? = some L → S[i]? = some c → L[0]? = some c
  nd : ∀ t, t ≤ T → (colL Ws t).Nodup
  step : ∀ (i : Nat) L (t : Nat) x y, Ws[i]? = some L → L[t]? = some x → L[t + 1]? = some y → y = x ∨ y ∈ ar x
section
variable {ar : Int → List Int} {S : List Int} {T : Nat} {Ws : List (List Int)}
theorem walk_start (ar : Int → List Int) {S : List Int} (h : S.Nodup) : WalkD ar S 0 (S.map fun c => [c]) := by
  have hL : ∀ (i : Nat) L, (S.map fun c => [c])[i]? = some L → ∃ c, S[i]? = some c ∧ L = [c] := fun i L h => by
    rw [List.getElem?_map] at h
    cases hc : S[i]? with
    | none => rw [hc] at h; cases h
    | some c =>
      rw [hc] at h
      exact ⟨c, rfl, (Option.some.inj h).symm⟩
  refine ⟨by simp, fun i L h => ?_, fun i L c h hc => ?_, fun t ht => ?_, fun i L t x y h hx hy => ?_⟩
  · obtain ⟨c, _, rfl⟩ := hL i L h
    rfl
  · obtain ⟨d, hd, rfl⟩ := hL i L h
    rw [hd] at hc
    cases hc
    rfl
  · obtain rfl : t = 0 := by omega
    have e : colL (S.map fun c => [c]) 0 = S := by
      unfold colL
      rw [List.map_map]
      simp [Function.comp_def]
    rw [e]
    exact h
  · obtain ⟨c, _, rfl⟩ := hL i L h
    simp at hy
theorem col_start {S : List Int} : colL (S.map fun c => [c]) 0 = S := by
  unfold colL
  rw [List.map_map]
  simp [Function.comp_def]
theorem walk_form (h : WalkD ar S T Ws) : formV S T Ws = true := by
  refine form_yes h.len fun k hk => ?_
  have hL : Ws[k]? = some Ws[k] := List.getElem?_eq_getElem hk
  have hc : S[k]? = some (S[k]'(by rw [← h.len]; exact hk)) := List.getElem?_eq_getElem _
  rw [okI_at hL hc, h.cells k _ hL, h.start k _ _ hL hc]
  simp
theorem walk_wide (h : WalkD ar S T Ws) (h1 : 1 ≤ S.length) : wideV Ws = T + 1 := by
  have hL : Ws[0]? = some (Ws[0]'(by rw [h.len]; exact h1)) := List.getElem?_eq_getElem _
  rw [wide_at hL, h.cells 0 _ hL]
theorem walk_lev (h : WalkD ar S T Ws) (h1 : 1 ≤ S.length) (h10 : S.length ≤ 10) {t : Nat} (ht : t < T) : levV Ws (t : Int) = true := by
  have hw := walk_wide h h1
  exact lev_yes (even_iff.2 ⟨by rw [h.len]; exact h1, by rw [h.len]; exact h10, fun i L hL => by rw [hw]; exact h.cells i L hL⟩) (by omega) (by rw [hw]; omega)
theorem walk_free (h : WalkD ar S T Ws) (h1 : 1 ≤ S.length) (h10 : S.length ≤ 10) {t : Nat} (ht : t < T) : meetV Ws (t : Int) = false := by
  rw [meet_of (walk_lev h h1 h10 ht), decide_eq_true (h.nd t (by omega)), decide_eq_true (h.nd (t + 1) (by omega))]
  rfl
end
section
variable {W H : Int} {C : ByteArray} {S G : List Int} {T : Nat} {Ws : List (List Int)}
theorem walk_steps (h : WalkD (aroundL W H C) S T Ws) : stepsV W H C Ws = true := by
  refine stepsV_yes fun j L hL => wayB_yes fun k hk => ?_
  by_cases h0 : k = 0
  · subst h0
    exact stepB_zero
  · have hx : L[k]? = some L[k] := List.getElem?_eq_getElem hk
    have hy : L[k - 1]? = some (L[k - 1]'(by omega)) := List.getElem?_eq_getElem _
    rw [stepB_at (by omega) hx hy]
    have e : k - 1 + 1 = k := by omega
    rcases h.step j L (k - 1) _ _ hL hy (by rw [e]; exact hx) with k2 | k2
    · rw [decide_eq_true k2]
      rfl
    · rw [List.contains_iff_mem.2 k2, Bool.or_true]
/-- What such ways are as a plan whose goals are ends of theirs. -/
theorem walk_plan (h : WalkD (aroundL W H C) S T Ws) (h1 : 1 ≤ S.length) (h10 : S.length ≤ 10) (hk : askV W H C S G (T : Int) = true) (hG : ∀ d ∈ G, d ∈ lastsL Ws) (M : Int) :
    planV W H C S G T M Ws = if anyT (fun t => decide (0 < swapsV Ws (t : Int))) T = true then 5 else if anyT (fun t => decide (0 < ringsV Ws (t : Int))) T = true then 6 else if M ≠ (movesW Ws : Int) then 8 else 0 := by
  have hm : anyT (fun t => meetV Ws (t : Int)) T = false := anyT_no fun t ht => walk_free h h1 h10 ht
  have hg : (G.all fun d => (onceL (lastsL Ws)).contains d) = true := List.all_eq_true.2 fun d hd => List.contains_iff_mem.2 (once_mem.2 (hG d hd))
  unfold planV crossV endV
  rw [hk, Int.toNat_natCast, walk_form h, walk_steps h, hm, hg]
  simp only [Bool.true_eq_false, if_false, Bool.false_eq_true]
  by_cases hs : anyT (fun t => decide (0 < swapsV Ws (t : Int))) T = true
  · simp [hs]
  · by_cases hr : anyT (fun t => decide (0 < ringsV Ws (t : Int))) T = true
    · simp [hs, hr]
    · simp [hs, hr]
end

end Go.Proofs.YtkbfbifepaoojaaGreatDoor

namespace Go.Proofs.YtkbfbifepaoojaaGreatDoor
/-- The first i ways have their next cell. -/
def growL (Ls : List (List Int)) (X : List Int) (i : Nat) : List (List Int) := Ls.mapIdx fun k L => if k < i then L ++ [X.getD k 0] else L
theorem grow_at {Ls : List (List Int)} {X : List Int} {i k : Nat} : (growL Ls X i)[k]? = Ls[k]?.map fun L => if k < i then L ++ [X.getD k 0] else L := by
  unfold growL
  rw [List.getElem?_mapIdx]
theorem grow_zero {Ls : List (List Int)} {X : List Int} : growL Ls X 0 = Ls := List.ext_getElem? fun k => by
  rw [grow_at]
  cases Ls[k]? <;> simp
theorem grow_succ {Ls : List (List Int)} {X : List Int} {i : Nat} {x : Int} {L : List Int} (hx : X[i]? = some x) (hL : Ls[i]? = some L) : (growL Ls X i).set i (L ++ [x]) = growL Ls X (i + 1) := List.ext_getElem? fun k => by
  rw [List.getElem?_set, grow_at, grow_at]
  by_cases e : i = k
  · subst e
    have hl : i < (growL Ls X i).length := by
      unfold growL
      rw [List.length_mapIdx]
      exact (List.getElem?_eq_some_iff.1 hL).1
    rw [if_pos rfl, if_pos hl, hL, Option.map_some, if_pos (Nat.lt_succ_self i), List.getD_eq_getElem?_getD, hx]
    rfl
  · rw [if_neg e]
    cases Ls[k]? with
    | none => rfl
    | some M =>
      rw [Option.map_some, Option.map_some]
      by_cases h : k < i
      · rw [if_pos h, if_pos (by omega)]
      · rw [if_neg h, if_neg (by omega)]
theorem grow_self {Ls : List (List Int)} {X : List Int} {i : Nat} : (growL Ls X i)[i]? = Ls[i]? := by
  rw [grow_at]
  cases Ls[i]? with
  | none => rfl
  | some L => rw [Option.map_some, if_neg (Nat.lt_irrefl i)]
section
variable {ar : Int → List Int} {S X : List Int} {tt : Nat} {Ls : List (List Int)}
theorem grow_in (h : WalkD ar S tt Ls) {k : Nat} {M : List Int} (hM : (growL Ls X S.length)[k]? = some M) : ∃ L, Ls[k]? = some L ∧ k < S.length ∧ L.length = tt + 1 ∧ M = L ++ [X.getD k 0] := by
  rw [grow_at] at hM
  cases hL : Ls[k]? with
  | none => rw [hL] at hM; cases hM
  | some L =>
    have hk := (List.getElem?_eq_some_iff.1 hL).1
    rw [h.len] at hk
    rw [hL, Option.map_some, if_pos hk] at hM
    exact ⟨L, rfl, hk, h.cells k L hL, (Option.some.inj hM).symm⟩
theorem grow_col_old (h : WalkD ar S tt Ls) {t : Nat} (ht : t ≤ tt) : colL (growL Ls X S.length) t = colL Ls t := List.ext_getElem? fun k => by
  unfold colL
  rw [List.getElem?_map, List.getElem?_map]
  cases hM : (growL Ls X S.length)[k]? with
  | none =>
    rw [grow_at] at hM
    cases hL : Ls[k]? with
    | none => rfl
    | some L => rw [hL] at hM; cases hM
  | some M =>
    obtain ⟨L, hL, _, hl, rfl⟩ := grow_in h hM
    rw [hL, Option.map_some, Option.map_some]
    simp [List.getD_eq_getElem?_getD, List.getElem?_append_left (show t < L.length by omega)]
theorem grow_col_new (h : WalkD ar S tt Ls) (hX : X.length = S.length) : colL (growL Ls X S.length) (tt + 1) = X := List.ext_getElem? fun k => by
  unfold colL
  rw [List.getElem?_map]
  cases hM : (growL Ls X S.length)[k]? with
  | none =>
    rw [grow_at] at hM
    cases hL : Ls[k]? with
    | none =>
      have := List.getElem?_eq_none_iff.1 hL
      have hl := h.len
      rw [List.getElem?_eq_none (l := X) (by omega)]
      rfl
    | some L => rw [hL] at hM; cases hM
  | some M =>
    obtain ⟨L, hL, hk, hl, rfl⟩ := grow_in h hM
    have e : tt + 1 = L.length := hl.symm
    rw [Option.map_some, List.getD_eq_getElem?_getD, e, List.getElem?_concat_length, List.getD_eq_getElem?_getD, List.getElem?_eq_getElem (by omega)]
    rfl
theorem walk_next (h : WalkD ar S tt Ls) (hn : NextOk ar (colL Ls tt) X) (hX : X.length = S.length) : WalkD ar S (tt + 1) (growL Ls X S.length) := by
  refine ⟨by unfold growL; rw [List.length_mapIdx]; exact h.len, fun k M hM => ?_, fun k M c hM hc => ?_, fun t ht => ?_, fun k M t x y hM hx hy => ?_⟩
  · obtain ⟨L, hL, _, hl, rfl⟩ := grow_in h hM
    rw [List.length_append, hl]
    rfl
  · obtain ⟨L, hL, _, hl, rfl⟩ := grow_in h hM
    rw [List.getElem?_append_left (by omega)]
    exact h.start k L c hL hc
  · by_cases e : t ≤ tt
    · rw [grow_col_old h e]
      exact h.nd t e
    · obtain rfl : t = tt + 1 := by omega
      rw [grow_col_new h hX]
      exact hn.nd
  · obtain ⟨L, hL, hk, hl, rfl⟩ := grow_in h hM
    have ht := (List.getElem?_eq_some_iff.1 hy).1
    rw [List.length_append, hl, List.length_singleton] at ht
    by_cases e : t + 1 < tt + 1
    · rw [List.getElem?_append_left (by omega)] at hx hy
      exact h.step k L t x y hL hx hy
    · obtain rfl : t = tt := by omega
      rw [List.getElem?_append_left (by omega)] at hx
      have e2 : t + 1 = L.length := hl.symm
      rw [e2, List.getElem?_concat_length] at hy
      refine hn.step k x y ?_ ?_
      · unfold colL
        rw [List.getElem?_map, hL, Option.map_some, List.getD_eq_getElem?_getD, hx]
        rfl
      · rw [← hy, List.getD_eq_getElem?_getD, List.getElem?_eq_getElem (by omega)]
        rfl
end
end Go.Proofs.YtkbfbifepaoojaaGreatDoor

