/-
  A drawn walk without its swaps and rings: it is a walk again, stands on the same cells, crosses nowhere, and has as many moves less as went round. Plain facts; no statement is proved here.
-/
import Derived.Test.YtkbfbifepaoojaaGreatDoorZPU33
import Derived.Test.YtkbfbifepaoojaaGreatDoorZPU08
namespace Go.Proofs.YtkbfbifepaoojaaGreatDoor
set_option maxRecDepth 4096

section
variable {A B : List Int} {i : Nat}
theorem ring_walk (hB : B.Nodup) (hl : A.length = B.length) (hi : i < A.length) (h : 0 < ringV A B i) : ∃ s, OnWay A B i s ∧ walkK A B i s = some i ∧ ringV A B i = s := by
  have : ∀ s, (∃ r, 1 ≤ r ∧ r ≤ s ∧ OnWay A B i r ∧ walkK A B i r = some i) ∨ (∃ r, 1 ≤ r ∧ r ≤ s ∧ OnWay A B i r ∧ walkK A B i r = none) ∨ OnWay A B i (s + 1) := by
    intro s
    induction s with
    | zero => exact .inr (.inr on_one)
    | succ s ih =>
      rcases ih with ⟨r, h1, h2, h3⟩ | ⟨r, h1, h2, h3⟩ | h1
      · exact .inl ⟨r, h1, by omega, h3⟩
      · exact .inr (.inl ⟨r, h1, by omega, h3⟩)
      · cases hw : walkK A B i (s + 1) with
        | none => exact .inr (.inl ⟨s + 1, by omega, by omega, h1, hw⟩)
        | some x =>
          by_cases hx : x = i
          · subst hx
            exact .inl ⟨s + 1, by omega, by omega, h1, hw⟩
          · exact .inr (.inr (on_next h1 hw hx))
  rcases this A.length with ⟨r, h1, h2, h3, h4⟩ | ⟨r, h1, h2, h3, h4⟩ | h1
  · exact ⟨r, h3, h4, on_end hB hl hi h3 h4⟩
  · have := on_none hB hl hi h3 h4
    omega
  · have := on_le hB hl hi h1
    omega
/-- One that stays goes round alone. -/
theorem ring_self (hA : A.Nodup) (hi : i < A.length) (he : B.getD i 0 = A.getD i 0) : ringV A B i = 1 := by
  have hn : nxtV A B i = some i := nxt_is hA (by rw [he]; exact getD_at hi)
  obtain ⟨f, hf⟩ : ∃ f, A.length = f + 1 := ⟨A.length - 1, by omega⟩
  unfold ringV
  rw [hf]
  show (match nxtV A B i with | none => 0 | some x => if x = i then 1 else ringG A B i f x (1 + 1)) = 1
  rw [hn]
  exact if_pos rfl
theorem ring_moves (hA : A.Nodup) (hi : i < A.length) (h : 1 < ringV A B i) : B.getD i 0 ≠ A.getD i 0 := fun e => by
  rw [ring_self hA hi e] at h
  omega
/-- Where all in circles stay, nobody is in a circle. -/
theorem ring_none {D : List Int} (hA : A.Nodup) (hB : B.Nodup) (hl : A.length = B.length) (hD : D.Nodup) (hlD : A.length = D.length) (hs : ∀ k, k < A.length → D.getD k 0 = if 1 < ringV A B k then A.getD k 0 else B.getD k 0) (hi : i < A.length) : ¬ 1 < ringV A D i := by
  intro hr
  by_cases h1 : 1 < ringV A B i
  · have := ring_self (B := D) hA hi (by rw [hs i hi, if_pos h1])
    omega
  · obtain ⟨s, ho, hw, he⟩ := ring_walk hD hlD hi (by omega)
    have stuck : ∀ r x, x < A.length → walkK A D i r = some x → 1 < ringV A B x → ∀ d, walkK A D i (r + d) = some x := by
      intro r x hx hwx hrx d
      induction d with
      | zero => exact hwx
      | succ d ih =>
        show (match walkK A D i (r + d) with | none => none | some k => nxtV A D k) = some x
        rw [ih]
        exact nxt_is hA (by rw [hs x hx, if_pos hrx]; exact getD_at hx)
    have same : ∀ r, r ≤ s → walkK A B i r = walkK A D i r := by
      intro r
      induction r with
      | zero => intro _; rfl
      | succ r ih =>
        intro hrs
        have h2 := ih (by omega)
        obtain ⟨x, hx⟩ := on_at ho (r := r) (by omega)
        have hxl := walk_lt hi hx
        have hnr : ¬ 1 < ringV A B x := fun hrx => by
          have := stuck r x hxl hx hrx (s - r)
          rw [Nat.add_sub_cancel' (by omega), hw] at this
          rw [← Option.some.inj this] at hrx
          exact h1 hrx
        show (match walkK A B i r with | none => none | some k => nxtV A B k) = (match walkK A D i r with | none => none | some k => nxtV A D k)
        rw [h2, hx]
        show nxtV A B x = nxtV A D x
        unfold nxtV
        rw [hs x hxl, if_neg hnr]
    have hoB : OnWay A B i s := ⟨ho.1, fun r h2 h3 => by
      obtain ⟨x, hx, hne⟩ := ho.2 r h2 h3
      exact ⟨x, (same r (by omega)).trans hx, hne⟩⟩
    have := on_end hB hl hi hoB ((same s (Nat.le_refl _)).trans hw)
    omega
end

section
variable {Ws : List (List Int)}
theorem unc_now {c : Nat} (hc : wideV Ws ≤ c + 1) : uncV Ws = nowV Ws c := (now_last hc).symm
theorem unc_wide (h : 0 < Ws.length) : wideV (uncV Ws) = wideV Ws := by rw [unc_now (c := wideV Ws) (by omega), now_wide h]
theorem unc_even (h : evenV Ws = true) : evenV (uncV Ws) = true := by rw [unc_now (c := wideV Ws) (by omega)]; exact now_even h
theorem unc_col {i t : Nat} (hi : i < Ws.length) (ht : t < wideV Ws) : (colL (uncV Ws) t)[i]? = some ((colL Ws t).getD (sigV Ws i t) 0) := col_at (unc_at hi) (stay_at ht)
theorem unc_nodup (h : regV Ws = true) {t : Nat} (ht : t < wideV Ws) (hn : (colL Ws t).Nodup) : (colL (uncV Ws) t).Nodup := by
  rw [unc_now (c := wideV Ws) (by omega)]
  exact now_nodup h ht hn
/-- Who goes on like whom at the next time. -/
def betaV (Ws : List (List Int)) (t k : Nat) : Int := (colL Ws (t + 1)).getD (goB (colL Ws t) (colL Ws (t + 1)) k) 0
theorem beta_is (h : regV Ws = true) {t k : Nat} (ht : t + 1 < wideV Ws) (hk : k < Ws.length) : betaV Ws t k = if 1 < ringV (colL Ws t) (colL Ws (t + 1)) k then (colL Ws t).getD k 0 else (colL Ws (t + 1)).getD k 0 := by
  have hf := reg_free h ht
  unfold betaV
  by_cases hr : 1 < ringV (colL Ws t) (colL Ws (t + 1)) k
  · rw [if_pos hr]
    obtain ⟨_, _, h3, _, _⟩ := goB_ring hf.1 hf.2 (by rw [col_len, col_len]) (by rw [col_len]; exact hk) hr
    rw [List.getD_eq_getElem?_getD, h3]
    rfl
  · rw [if_neg hr, goB_stay hr]
theorem unc_next {i t : Nat} (hi : i < Ws.length) (ht : t + 1 < wideV Ws) : (colL (uncV Ws) (t + 1))[i]? = some (betaV Ws t (sigV Ws i t)) := unc_col hi ht
/-- In the changed ways nobody is in a circle. -/
theorem unc_ring (h : regV Ws = true) {i t : Nat} (hi : i < Ws.length) (ht : t + 1 < wideV Ws) : ¬ 1 < ringV (colL (uncV Ws) t) (colL (uncV Ws) (t + 1)) i := by
  have hf := reg_free h ht
  have hlen : ((List.range Ws.length).map (betaV Ws t)).length = Ws.length := by simp
  have hat : ∀ k, k < Ws.length → ((List.range Ws.length).map (betaV Ws t))[k]? = some (betaV Ws t k) := fun k hk => by rw [List.getElem?_map, List.getElem?_range hk]; rfl
  have hD : ((List.range Ws.length).map (betaV Ws t)).Nodup := by
    refine List.pairwise_iff_getElem.2 fun a b ha hb hab e => ?_
    rw [hlen] at ha hb
    simp only [List.getElem_map, List.getElem_range] at e
    have hx := goB_lt (i := a) hf.1 hf.2 (by rw [col_len, col_len]) (by rw [col_len]; exact ha)
    have hy := goB_lt (i := b) hf.1 hf.2 (by rw [col_len, col_len]) (by rw [col_len]; exact hb)
    rw [col_len] at hx hy
    unfold betaV at e
    have h1 := getD_at (A := colL Ws (t + 1)) (i := goB (colL Ws t) (colL Ws (t + 1)) a) (by rw [col_len]; exact hx)
    have h2 := getD_at (A := colL Ws (t + 1)) (i := goB (colL Ws t) (colL Ws (t + 1)) b) (by rw [col_len]; exact hy)
    rw [e] at h1
    have := goB_inj hf.1 hf.2 (by rw [col_len, col_len]) (by rw [col_len]; exact ha) (by rw [col_len]; exact hb) (at_inj hf.2 h1 h2)
    omega
  have hs : ∀ k, k < (colL Ws t).length → ((List.range Ws.length).map (betaV Ws t)).getD k 0 = if 1 < ringV (colL Ws t) (colL Ws (t + 1)) k then (colL Ws t).getD k 0 else (colL Ws (t + 1)).getD k 0 := fun k hk => by
    rw [col_len] at hk
    rw [List.getD_eq_getElem?_getD, hat k hk]
    exact beta_is h ht hk
  have hlt := sig_lt h hi (t := t) (by omega)
  have hr := ring_none hf.1 hf.2 (by rw [col_len, col_len]) hD (by rw [col_len, hlen]) hs (i := sigV Ws i t) (by rw [col_len]; exact hlt)
  rw [← ring_turn (A := colL Ws t) (B := (List.range Ws.length).map (betaV Ws t)) (A' := colL (uncV Ws) t) (B' := colL (uncV Ws) (t + 1)) (f := fun i => sigV Ws i t) hf.1 (by rw [col_len, hlen]) (by rw [col_len, col_len, unc_len]) (by rw [col_len, col_len, unc_len]) (fun k hk => by rw [col_len] at hk ⊢; exact sig_lt h hk (by omega)) (fun a b ha hb e => by rw [col_len] at ha hb; exact sig_inj h ha hb (t := t) (by omega) e) (fun k hk => by
      rw [col_len] at hk
      rw [unc_col hk (by omega)]
      exact (getD_at (by rw [col_len]; exact sig_lt h hk (by omega))).symm) (fun k hk => by
      rw [col_len] at hk
      rw [unc_next hk ht]
      exact (hat _ (sig_lt h hk (by omega))).symm) (i := i) (by rw [col_len]; exact hi)] at hr
  exact hr
theorem unc_meet (h : regV Ws = true) {t : Nat} (ht : t + 1 < wideV Ws) : levV (uncV Ws) (t : Int) = true ∧ meetV (uncV Ws) (t : Int) = false := by
  have he := (reg_iff.1 h).1
  have h0 := (even_iff.1 he).1
  have hf := reg_free h ht
  have hl : levV (uncV Ws) (t : Int) = true := lev_yes (unc_even he) (by omega) (by rw [unc_wide h0]; omega)
  refine ⟨hl, ?_⟩
  rw [meet_of hl, decide_eq_true (unc_nodup h (by omega) hf.1), decide_eq_true (unc_nodup h ht hf.2)]
  rfl
theorem unc_reg (h : regV Ws = true) : regV (uncV Ws) = true := by
  have he := (reg_iff.1 h).1
  have h0 := (even_iff.1 he).1
  refine reg_iff.2 ⟨unc_even he, by rw [unc_wide h0]; exact (reg_iff.1 h).2.1, fun t ht => ?_⟩
  rw [unc_wide h0] at ht
  exact (unc_meet h ht).2
theorem unc_cnt (h : regV Ws = true) {t lo hi : Nat} (ht : t + 1 < wideV Ws) (hlo : 2 ≤ lo) : cntV (uncV Ws) (t : Int) lo hi = 0 := by
  obtain ⟨h1, h2⟩ := unc_meet h ht
  rw [cnt_yes h1 h2]
  unfold countR
  rw [List.countP_eq_zero]
  intro i hi
  have hi := List.mem_range.1 hi
  rw [unc_len] at hi
  have := unc_ring h hi ht
  unfold inR
  simp only [Bool.and_eq_true, decide_eq_true_eq, not_and]
  omega
theorem unc_swaps (h : regV Ws = true) {t : Nat} (ht : t + 1 < wideV Ws) : swapsV (uncV Ws) (t : Int) = 0 ∧ ringsV (uncV Ws) (t : Int) = 0 := by
  unfold swapsV ringsV
  rw [unc_cnt h ht (by omega), unc_cnt h ht (by omega)]
  exact ⟨rfl, rfl⟩
theorem unc_cross (h : regV Ws = true) : ∀ {k : Nat}, k < wideV Ws → crossN (uncV Ws) k = 0
  | 0, _ => rfl
  | k + 1, hk => by
    rw [crossN_succ, unc_cross h (by omega)]
    unfold cross1
    rw [(unc_swaps h hk).1, (unc_swaps h hk).2]
/-- The changed ways do not change again. -/
theorem unc_unc (h : regV Ws = true) : uncV (uncV Ws) = uncV Ws := by
  have h0 := (even_iff.1 (reg_iff.1 h).1).1
  have hsig : ∀ i, i < Ws.length → ∀ t, t < wideV Ws → sigV (uncV Ws) i t = i := by
    intro i hi t
    induction t with
    | zero => intro _; rfl
    | succ t ih =>
      intro ht
      show goB (colL (uncV Ws) t) (colL (uncV Ws) (t + 1)) (sigV (uncV Ws) i t) = i
      rw [ih (by omega)]
      exact goB_stay (unc_ring h hi ht)
  refine List.ext_getElem? fun i => ?_
  by_cases hi : i < Ws.length
  · rw [unc_at (by rw [unc_len]; exact hi), unc_at hi]
    congr 1
    refine List.ext_getElem? fun s => ?_
    by_cases hs : s < wideV Ws
    · rw [stay_at (by rw [unc_wide h0]; exact hs), stay_at hs, hsig i hi s hs, List.getD_eq_getElem?_getD, unc_col hi hs]
      rfl
    · rw [List.getElem?_eq_none (by rw [stay_len, unc_wide h0]; omega), List.getElem?_eq_none (by rw [stay_len]; omega)]
  · rw [List.getElem?_eq_none (by rw [unc_len, unc_len]; omega), List.getElem?_eq_none (by rw [unc_len]; omega)]
/-- The changed ways stand on the same cells. -/
theorem unc_mem (h : regV Ws = true) {t : Nat} (ht : t < wideV Ws) (x : Int) : x ∈ colL (uncV Ws) t ↔ x ∈ colL Ws t := by
  constructor
  · intro hx
    obtain ⟨i, hi, rfl⟩ := List.getElem_of_mem hx
    rw [col_len, unc_len] at hi
    have h1 := unc_col hi ht
    rw [List.getElem?_eq_getElem (by rw [col_len, unc_len]; exact hi)] at h1
    rw [Option.some.inj h1]
    exact List.mem_of_getElem? (getD_at (by rw [col_len]; exact sig_lt h hi ht))
  · intro hx
    obtain ⟨j, hj, rfl⟩ := List.getElem_of_mem hx
    rw [col_len] at hj
    obtain ⟨i, hi, he⟩ := inj_onto (f := fun i => sigV Ws i t) (fun k hk => sig_lt h hk ht) (fun a b ha hb e => sig_inj h ha hb ht e) hj
    refine List.mem_of_getElem? (i := i) ?_
    rw [unc_col hi ht]
    have he2 : sigV Ws i t = j := he
    rw [he2, List.getD_eq_getElem?_getD, List.getElem?_eq_getElem (by rw [col_len]; exact hj)]
    rfl
theorem unc_same (h : regV Ws = true) : sameV (uncV Ws) Ws = true := by
  have h0 := (even_iff.1 (reg_iff.1 h).1).1
  refine same_yes (unc_reg h) h (unc_wide h0) fun t ht => ?_
  rw [unc_wide h0] at ht
  exact once_is (once_up _) fun x => once_mem.trans (unc_mem h ht x)
end

/-! Moves. -/
/-- The moves at one time. -/
def atM (A B : List Int) (k : Nat) : Bool := decide (B.getD k 0 ≠ A.getD k 0)
def moveT (Ws : List (List Int)) (t : Nat) : Nat := (List.range Ws.length).countP (atM (colL Ws t) (colL Ws (t + 1)))
def moveS (Ws : List (List Int)) (k : Nat) : Nat := (Ws.map fun L => moveN L (k + 1)).sum
theorem sum_range {f : Nat → Nat} {p : Nat → Bool} {g : Nat → Nat} (n : Nat) (h : ∀ i, i < n → g i = f i + (if p i = true then 1 else 0)) : ((List.range n).map g).sum = ((List.range n).map f).sum + (List.range n).countP p := by
  induction n with
  | zero => rfl
  | succ n ih =>
    rw [List.range_succ, List.map_append, List.sum_append, List.map_append, List.sum_append, List.countP_append, ih fun i hi => h i (by omega)]
    have := h n (by omega)
    simp only [List.map_cons, List.map_nil, List.sum_cons, List.sum_nil, List.countP_cons, List.countP_nil]
    rw [this]
    omega
theorem moveS_range (Ws : List (List Int)) (k : Nat) : moveS Ws k = ((List.range Ws.length).map fun i => moveN (Ws.getD i []) (k + 1)).sum := by
  unfold moveS
  congr 1
  refine List.ext_getElem? fun i => ?_
  rw [List.getElem?_map, List.getElem?_map]
  by_cases hi : i < Ws.length
  · rw [List.getElem?_range hi, List.getElem?_eq_getElem hi]
    simp [hi]
  · rw [List.getElem?_eq_none (by omega), List.getElem?_eq_none (by simp; omega)]
    rfl
theorem moveS_zero (Ws : List (List Int)) : moveS Ws 0 = 0 := by
  unfold moveS
  induction Ws with
  | nil => rfl
  | cons L Ws ih =>
    rw [List.map_cons, List.sum_cons, ih]
    rfl
theorem moveS_succ {Ws : List (List Int)} (h : evenV Ws = true) {k : Nat} (hk : k + 1 < wideV Ws) : moveS Ws (k + 1) = moveS Ws k + moveT Ws k := by
  rw [moveS_range, moveS_range]
  refine sum_range _ fun i hi => ?_
  have hL : Ws[i]? = some (Ws.getD i []) := by rw [List.getD_eq_getElem?_getD, List.getElem?_eq_getElem hi]; rfl
  obtain ⟨c1, d1⟩ := col_is h hL (s := k) (by omega)
  obtain ⟨c2, d2⟩ := col_is h hL hk
  rw [moveN_succ (k := k + 1) (by omega) d2 (by rw [Nat.add_sub_cancel]; exact d1)]
  unfold atM
  rw [List.getD_eq_getElem?_getD (l := colL Ws (k + 1)), c2, List.getD_eq_getElem?_getD (l := colL Ws k), c1]
  simp
theorem moveS_all {Ws : List (List Int)} (h : evenV Ws = true) (h0 : 0 < wideV Ws) : movesW Ws = moveS Ws (wideV Ws - 1) := by
  unfold movesW moveS
  congr 1
  refine List.map_congr_left fun L hL => ?_
  obtain ⟨i, hi, rfl⟩ := List.getElem_of_mem hL
  rw [(even_iff.1 h).2.2 i _ (List.getElem?_eq_getElem hi), Nat.sub_add_cancel h0]
/-- Those in pairs are even. -/
theorem even_pairs (f : Nat → Nat) : ∀ (d : Nat) (X : List Nat), X.length ≤ d → X.Nodup → (∀ x ∈ X, f x ∈ X ∧ f (f x) = x ∧ f x ≠ x) → X.length % 2 = 0
  | 0, X, hd, _, _ => by rw [Nat.le_zero.1 hd]
  | d + 1, X, hd, hn, hf => by
    cases X with
    | nil => rfl
    | cons a X =>
      obtain ⟨ha, hnX⟩ := List.nodup_cons.1 hn
      obtain ⟨h1, h2, h3⟩ := hf a (List.mem_cons_self ..)
      have hfa : f a ∈ X := by
        rcases List.mem_cons.1 h1 with e | e
        · exact absurd e h3
        · exact e
      have hlen : (X.erase (f a)).length = X.length - 1 := List.length_erase_of_mem hfa
      have hpos := List.length_pos_of_mem hfa
      simp only [List.length_cons] at hd
      have ih := even_pairs f d (X.erase (f a)) (by omega) (hnX.erase _) fun x hx => by
        obtain ⟨hxa, hxX⟩ := (List.Nodup.mem_erase_iff hnX).1 hx
        obtain ⟨g1, g2, g3⟩ := hf x (List.mem_cons_of_mem _ hxX)
        have hne1 : f x ≠ a := fun e => by rw [e] at g2; exact hxa g2.symm
        have hne2 : f x ≠ f a := fun e => by rw [e, h2] at g2; exact ha (g2 ▸ hxX)
        refine ⟨(List.Nodup.mem_erase_iff hnX).2 ⟨hne2, ?_⟩, g2, g3⟩
        rcases List.mem_cons.1 g1 with e | e
        · exact absurd e hne1
        · exact e
      simp only [List.length_cons]
      omega
section
variable {A B : List Int}
/-- Those in swaps are even. -/
theorem swaps_even (_ : A.Nodup) (hB : B.Nodup) (hl : A.length = B.length) : countR A B 2 2 A.length % 2 = 0 := by
  unfold countR
  rw [List.countP_eq_length_filter]
  have hin : ∀ x, x ∈ (List.range A.length).filter (inR A B 2 2) ↔ x < A.length ∧ ringV A B x = 2 := fun x => by
    rw [List.mem_filter, List.mem_range]
    unfold inR
    simp only [Bool.and_eq_true, decide_eq_true_eq]
    omega
  refine even_pairs (fun x => (nxtV A B x).getD x) _ _ (Nat.le_refl _) ((List.nodup_range).filter _) fun x hx => ?_
  obtain ⟨hxl, hr⟩ := (hin x).1 hx
  obtain ⟨s, ho, hw, hs⟩ := ring_walk hB hl hxl (by omega)
  obtain rfl : s = 2 := by omega
  obtain ⟨y, hy, hne⟩ := ho.2 1 (Nat.le_refl _) (by omega)
  have hxy : nxtV A B x = some y := hy
  have hyx : nxtV A B y = some x := by
    have h2 : (match walkK A B x 1 with | none => none | some k => nxtV A B k) = some x := hw
    rw [hy] at h2
    exact h2
  have hyl := (nxt_some hxy).1
  have hyr : ringV A B y = 2 := by
    refine on_end hB hl hyl ⟨by omega, fun r h1 h2 => ?_⟩ ?_
    · obtain rfl : r = 1 := by omega
      exact ⟨x, hyx, fun e => hne e.symm⟩
    · show (match walkK A B y 1 with | none => none | some k => nxtV A B k) = some y
      have h1 : walkK A B y 1 = some x := hyx
      rw [h1]
      exact hxy
  have e1 : (nxtV A B x).getD x = y := by rw [hxy]; rfl
  have e2 : (nxtV A B y).getD y = x := by rw [hyx]; rfl
  show (nxtV A B x).getD x ∈ _ ∧ (nxtV A B ((nxtV A B x).getD x)).getD ((nxtV A B x).getD x) = x ∧ (nxtV A B x).getD x ≠ x
  rw [e1, e2]
  exact ⟨(hin y).2 ⟨hyl, hyr⟩, rfl, hne⟩
theorem count_split {p q r : Nat → Bool} : ∀ (n : Nat), (∀ i, i < n → ((if p i = true then 1 else 0 : Nat) = (if q i = true then 1 else 0) + (if r i = true then 1 else 0))) → (List.range n).countP p = (List.range n).countP q + (List.range n).countP r
  | 0, _ => rfl
  | n + 1, h => by
    have ih := count_split n fun i hi => h i (by omega)
    have := h n (by omega)
    rw [List.range_succ, List.countP_append, List.countP_append, List.countP_append, ih]
    simp only [List.countP_cons, List.countP_nil]
    omega
/-- Those that go round at a time. -/
theorem round_count (hA : A.Nodup) (hB : B.Nodup) (hl : A.length = B.length) (h10 : A.length ≤ 10) : 2 * (countR A B 2 2 A.length / 2) + countR A B 3 10 A.length = (List.range A.length).countP fun k => decide (1 < ringV A B k) := by
  have he := swaps_even hA hB hl
  have hs : ((List.range A.length).countP fun k => decide (1 < ringV A B k)) = countR A B 2 2 A.length + countR A B 3 10 A.length := by
    unfold countR
    refine count_split _ fun i hi => ?_
    have := ring_le (A := A) (B := B) (i := i)
    unfold inR
    by_cases h1 : 1 < ringV A B i
    · by_cases h2 : ringV A B i = 2
      · simp [h2]
      · have h3 : 3 ≤ ringV A B i := by omega
        have h4 : ringV A B i ≤ 10 := by omega
        have h5 : ¬ ringV A B i ≤ 2 := by omega
        simp [h1, h3, h4, h5]
    · have h2 : ¬ 2 ≤ ringV A B i := by omega
      have h3 : ¬ 3 ≤ ringV A B i := by omega
      simp [h1, h2, h3]
  omega
end
/-- At each time the changed ways have as many moves less as go round. -/
theorem unc_moveT {Ws : List (List Int)} (h : regV Ws = true) {t : Nat} (ht : t + 1 < wideV Ws) : moveT (uncV Ws) t + cross1 Ws t = moveT Ws t := by
  have he := (reg_iff.1 h).1
  have h10 := (even_iff.1 he).2.1
  have hf := reg_free h ht
  have hlev := reg_lev h ht
  have hmeet := (reg_iff.1 h).2.2 t ht
  have hc : cross1 Ws t = (List.range Ws.length).countP fun k => decide (1 < ringV (colL Ws t) (colL Ws (t + 1)) k) := by
    unfold cross1 swapsV ringsV
    rw [cnt_yes hlev hmeet, cnt_yes hlev hmeet]
    have := round_count hf.1 hf.2 (by rw [col_len, col_len]) (by rw [col_len]; exact h10)
    rw [col_len] at this
    exact this
  -- the changed ways' moves, told by the given ones in another order
  have hu : moveT (uncV Ws) t = (List.range Ws.length).countP fun k => decide (betaV Ws t k ≠ (colL Ws t).getD k 0) := by
    unfold moveT
    rw [unc_len]
    have hp : List.Perm ((List.range Ws.length).map fun i => sigV Ws i t) (List.range Ws.length) := by
      refine (List.perm_ext_iff_of_nodup ?_ List.nodup_range).2 fun x => ?_
      · refine List.pairwise_iff_getElem.2 fun a b ha hb hab e => ?_
        simp only [List.length_map, List.length_range] at ha hb
        simp only [List.getElem_map, List.getElem_range] at e
        have := sig_inj h ha hb (t := t) (by omega) e
        omega
      · rw [List.mem_map, List.mem_range]
        constructor
        · rintro ⟨i, hi, rfl⟩
          exact sig_lt h (List.mem_range.1 hi) (by omega)
        · intro hx
          obtain ⟨i, hi, e⟩ := inj_onto (f := fun i => sigV Ws i t) (fun k hk => sig_lt h hk (t := t) (by omega)) (fun a b ha hb e => sig_inj h ha hb (t := t) (by omega) e) hx
          exact ⟨i, List.mem_range.2 hi, e⟩
    rw [← hp.countP_eq fun k => decide (betaV Ws t k ≠ (colL Ws t).getD k 0), List.countP_map]
    refine List.countP_congr fun i hi => ?_
    have hi := List.mem_range.1 hi
    unfold atM
    rw [List.getD_eq_getElem?_getD (l := colL (uncV Ws) (t + 1)), unc_next hi ht, List.getD_eq_getElem?_getD (l := colL (uncV Ws) t), unc_col hi (by omega)]
    rfl
  rw [hc, hu]
  unfold moveT
  refine (count_split _ fun k hk => ?_).symm
  have hb := beta_is h ht hk
  unfold atM
  by_cases hr : 1 < ringV (colL Ws t) (colL Ws (t + 1)) k
  · have hm := ring_moves hf.1 (by rw [col_len]; exact hk) hr
    have e2 : decide ((colL Ws t).getD k 0 ≠ (colL Ws t).getD k 0) = false := by simp
    rw [hb, if_pos hr, decide_eq_true hm, e2, decide_eq_true hr]
    rfl
  · rw [hb, if_neg hr]
    simp [hr]
theorem unc_moveS {Ws : List (List Int)} (h : regV Ws = true) : ∀ {k : Nat}, k < wideV Ws → moveS (uncV Ws) k + crossN Ws k = moveS Ws k
  | 0, _ => by rw [moveS_zero, moveS_zero]; rfl
  | k + 1, hk => by
    have he := (reg_iff.1 h).1
    have h0 := (even_iff.1 he).1
    rw [moveS_succ (unc_even he) (by rw [unc_wide h0]; exact hk), moveS_succ he hk, crossN_succ]
    have h1 := unc_moveS h (k := k) (by omega)
    have h2 := unc_moveT h hk
    omega
theorem unc_moves {Ws : List (List Int)} (h : regV Ws = true) : movesW (uncV Ws) + crossN Ws (wideV Ws - 1) = movesW Ws := by
  have he := (reg_iff.1 h).1
  have h0 := (even_iff.1 he).1
  have hw := (reg_iff.1 h).2.1
  rw [moveS_all (unc_even he) (by rw [unc_wide h0]; exact hw), moveS_all he hw, unc_wide h0]
  exact unc_moveS h (by omega)

section
variable {ar : Int → List Int} {S : List Int} {T : Nat} {Ws : List (List Int)}
theorem walk_even (h : WalkD ar S T Ws) (h1 : 1 ≤ S.length) (h10 : S.length ≤ 10) : evenV Ws = true := even_iff.2 ⟨by rw [h.len]; exact h1, by rw [h.len]; exact h10, fun i L hL => by rw [h.cells i L hL, walk_wide h h1]⟩
theorem walk_reg (h : WalkD ar S T Ws) (h1 : 1 ≤ S.length) (h10 : S.length ≤ 10) : regV Ws = true :=
  reg_iff.2 ⟨walk_even h h1 h10, by rw [walk_wide h h1]; omega, fun t ht => walk_free h h1 h10 (by rw [walk_wide h h1] at ht; omega)⟩
theorem walk_unc (h : WalkD ar S T Ws) (h1 : 1 ≤ S.length) (h10 : S.length ≤ 10) : WalkD ar S T (uncV Ws) := by
  have hr := walk_reg h h1 h10
  have he := walk_even h h1 h10
  have hw := walk_wide h h1
  have hrow : ∀ i L, (uncV Ws)[i]? = some L → i < Ws.length ∧ L = stayV Ws i := fun i L hL => by
    have hi : i < Ws.length := by have := (List.getElem?_eq_some_iff.1 hL).1; rw [unc_len] at this; exact this
    rw [unc_at hi] at hL
    exact ⟨hi, (Option.some.inj hL).symm⟩
  refine ⟨by rw [unc_len]; exact h.len, fun i L hL => ?_, fun i L c hL hc => ?_, fun t ht => ?_, fun i L t x y hL hx hy => ?_⟩
  · obtain ⟨_, rfl⟩ := hrow i L hL
    rw [stay_len, hw]
  · obtain ⟨hi, rfl⟩ := hrow i L hL
    have hWi : Ws[i]? = some Ws[i] := List.getElem?_eq_getElem hi
    obtain ⟨c1, c2⟩ := col_is he hWi (s := 0) (by rw [hw]; omega)
    rw [stay_at (by rw [hw]; omega), List.getD_eq_getElem?_getD]
    show some (((colL Ws 0)[i]?).getD 0) = some c
    rw [c1]
    have := h.start i _ c hWi hc
    rw [c2] at this
    exact this
  · exact unc_nodup hr (by rw [hw]; omega) (h.nd t ht)
  · obtain ⟨hi, rfl⟩ := hrow i L hL
    have hlt : t + 1 < wideV Ws := by have := (List.getElem?_eq_some_iff.1 hy).1; rw [stay_len] at this; exact this
    rw [stay_at (by omega)] at hx
    rw [stay_at hlt] at hy
    have hx := Option.some.inj hx
    have hy : betaV Ws t (sigV Ws i t) = y := Option.some.inj hy
    have hsl := sig_lt hr hi (t := t) (by omega)
    rw [beta_is hr hlt hsl] at hy
    by_cases hg : 1 < ringV (colL Ws t) (colL Ws (t + 1)) (sigV Ws i t)
    · rw [if_pos hg] at hy
      exact .inl (hy.symm.trans hx)
    · rw [if_neg hg] at hy
      have hWs : Ws[sigV Ws i t]? = some Ws[sigV Ws i t] := List.getElem?_eq_getElem hsl
      obtain ⟨c1, c2⟩ := col_is he hWs (s := t) (by omega)
      obtain ⟨d1, d2⟩ := col_is he hWs hlt
      rw [List.getD_eq_getElem?_getD, c1] at hx
      rw [List.getD_eq_getElem?_getD, d1] at hy
      exact h.step _ _ t x y hWs (by rw [c2]; exact congrArg some hx) (by rw [d2]; exact congrArg some hy)
/-- The ends are the same. -/
theorem lasts_col (h : WalkD ar S T Ws) (h1 : 1 ≤ S.length) (h10 : S.length ≤ 10) (x : Int) : x ∈ lastsL Ws ↔ x ∈ colL Ws T := by
  have he := walk_even h h1 h10
  have hw := walk_wide h h1
  unfold lastsL
  rw [List.mem_flatMap]
  constructor
  · rintro ⟨L, hL, hx⟩
    obtain ⟨i, hi, rfl⟩ := List.getElem_of_mem hL
    have hWi : Ws[i]? = some Ws[i] := List.getElem?_eq_getElem hi
    obtain ⟨c1, c2⟩ := col_is he hWi (s := T) (by rw [hw]; omega)
    rw [lastOf_one (by rw [h.cells i _ hWi, Nat.add_sub_cancel]; exact c2)] at hx
    obtain rfl := List.mem_singleton.1 hx
    exact List.mem_of_getElem? c1
  · intro hx
    obtain ⟨i, hi, rfl⟩ := List.getElem_of_mem hx
    rw [col_len] at hi
    have hWi : Ws[i]? = some Ws[i] := List.getElem?_eq_getElem hi
    obtain ⟨c1, c2⟩ := col_is he hWi (s := T) (by rw [hw]; omega)
    refine ⟨Ws[i], List.mem_of_getElem? hWi, ?_⟩
    rw [lastOf_one (by rw [h.cells i _ hWi, Nat.add_sub_cancel]; exact c2)]
    rw [List.getElem?_eq_getElem (by rw [col_len]; exact hi)] at c1
    rw [Option.some.inj c1]
    exact List.mem_singleton.2 rfl
theorem unc_ends (h : WalkD ar S T Ws) (h1 : 1 ≤ S.length) (h10 : S.length ≤ 10) (x : Int) : x ∈ lastsL (uncV Ws) ↔ x ∈ lastsL Ws := by
  rw [lasts_col (walk_unc h h1 h10) h1 h10, lasts_col h h1 h10]
  exact unc_mem (walk_reg h h1 h10) (by rw [walk_wide h h1]; omega) x
end

end Go.Proofs.YtkbfbifepaoojaaGreatDoor

