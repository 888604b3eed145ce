/-
  The search by a queue meets all that can be reached; pushing as often as can be leaves a greatest flow. Plain facts; no statement is proved here.
  What CutOk, CutRoom, Stopped and MostFlow answer, as functions of bare lists. Plain facts; no statement is proved here.
  The network of a map in time, as a list of arcs; what its cuts say: one step more lets no less through, and pairs of cells that let only one through let through as much. Plain facts; no statement is proved here.
-/
import Derived.Test.YtnbbhdbcapfbkaaDoorZFF04
namespace Go.Proofs.YtnbbhdbcapfbkaaDoor
set_option maxRecDepth 4096

/-- The search has gone on: what was met stays met, the queue has grown. -/
structure BOn (s s' : BS) : Prop where
  o : ∀ v, s.o v = true → s'.o v = true
  q : ∃ T, s'.q = s.q ++ T
  all : (∀ v, s.o v = true → v ∈ s.q) → ∀ v, s'.o v = true → v ∈ s'.q
theorem BOn.refl (s : BS) : BOn s s := ⟨fun _ h => h, ⟨[], by simp⟩, fun h => h⟩
theorem BOn.trans {a b c : BS} (h : BOn a b) (k : BOn b c) : BOn a c :=
  ⟨fun v hv => k.o v (h.o v hv), by
    obtain ⟨T, hT⟩ := h.q
    obtain ⟨U, hU⟩ := k.q
    exact ⟨T ++ U, by rw [hU, hT, List.append_assoc]⟩, fun ha => k.all (h.all ha)⟩
theorem BOn.met (s : BS) (t : Nat) (y : Int) : BOn s (s.met t y) :=
  ⟨fun v hv => by simp [BS.met, hv], ⟨[t], rfl⟩, fun ha v hv => by
    simp only [BS.met, Bool.or_eq_true, decide_eq_true_eq] at hv
    show v ∈ s.q ++ [t]
    rcases hv with h | h
    · exact List.mem_append_left _ (ha v h)
    · rw [h]; simp⟩
theorem fwd_go (x : ArcD) (y : Int) (v i : Nat) (s : BS) : BOn s (fwdB x y v i s) ∧ (x.f = (v : Int) → y < x.r → (fwdB x y v i s).o x.t.toNat = true) := by
  unfold fwdB
  split
  · exact ⟨BOn.met .., fun _ _ => by simp [BS.met]⟩
  · rename_i hc
    refine ⟨BOn.refl s, fun h1 h2 => ?_⟩
    cases h : s.o x.t.toNat with
    | true => rfl
    | false => exact absurd ⟨h1, h, h2⟩ hc
theorem bwd_go (x : ArcD) (y : Int) (v i : Nat) (s : BS) : BOn s (bwdB x y v i s) ∧ (x.t = (v : Int) → 0 < y → (bwdB x y v i s).o x.f.toNat = true) := by
  unfold bwdB
  split
  · exact ⟨BOn.met .., fun _ _ => by simp [BS.met]⟩
  · rename_i hc
    refine ⟨BOn.refl s, fun h1 h2 => ?_⟩
    cases h : s.o x.f.toNat with
    | true => rfl
    | false => exact absurd ⟨h1, h, h2⟩ hc
/-- All that leads on from node v has been met. -/
def metAt (P : List (ArcD × Int)) (o : Nat → Bool) (v : Nat) : Prop := ∀ p ∈ P, (p.1.f = (v : Int) → p.2 < p.1.r → o p.1.t.toNat = true) ∧ (p.1.t = (v : Int) → 0 < p.2 → o p.1.f.toNat = true)
theorem scan_go (v : Nat) : ∀ (Q : List (ArcD × Int)) (k : Nat) (s : BS), BOn s (scanB v Q k s) ∧ metAt Q (scanB v Q k s).o v
  | [], _, s => ⟨BOn.refl s, fun p hp => by cases hp⟩
  | p :: Q, k, s => by
    obtain ⟨h1, k1⟩ := fwd_go p.1 p.2 v k s
    obtain ⟨h2, k2⟩ := bwd_go p.1 p.2 v k (fwdB p.1 p.2 v k s)
    obtain ⟨h3, k3⟩ := scan_go v Q (k + 1) (bwdB p.1 p.2 v k (fwdB p.1 p.2 v k s))
    refine ⟨(h1.trans h2).trans h3, fun q hq => ?_⟩
    rcases List.mem_cons.1 hq with rfl | hq
    · exact ⟨fun a b => h3.o _ (h2.o _ (k1 a b)), fun a b => h3.o _ (k2 a b)⟩
    · exact k3 q hq
theorem metAt_on {P : List (ArcD × Int)} {s s' : BS} {v : Nat} (h : metAt P s.o v) (k : BOn s s') : metAt P s'.o v := fun p hp => ⟨fun a b => k.o _ ((h p hp).1 a b), fun a b => k.o _ ((h p hp).2 a b)⟩
theorem search_go {P : List (ArcD × Int)} {n : Nat} (hP : Inside P n) : ∀ (f h : Nat) (s : BS) (ρ : Nat → Nat), BInv P n s ρ → (∀ v, s.o v = true → v ∈ s.q) → h ≤ s.q.length → n + 1 ≤ f + h → (∀ (i v : Nat), i < h → s.q[i]? = some v → metAt P s.o v) →
    BOn s (searchB P f h s) ∧ ∀ v, (searchB P f h s).o v = true → metAt P (searchB P f h s).o v
  | 0, h, s, ρ, hi, _, hh, hf, _ => by
    have := hi.few
    omega
  | f + 1, h, s, ρ, hi, ha, hh, hf, hm => by
    unfold searchB
    split
    · rename_i hlt
      have hq : s.q[h]? = some (s.q.getD h 0) := by rw [List.getD_eq_getElem?_getD, List.getElem?_eq_getElem hlt]; rfl
      have hv : s.o (s.q.getD h 0) = true := hi.mem _ (List.mem_of_getElem? hq)
      obtain ⟨ρ', h', _⟩ := scan_inv (v := s.q.getD h 0) hP P 0 s ρ rfl hi hv
      obtain ⟨g1, g2⟩ := scan_go (s.q.getD h 0) P 0 s
      obtain ⟨T, hT⟩ := g1.q
      have hl : s.q.length ≤ (scanB (s.q.getD h 0) P 0 s).q.length := by rw [hT, List.length_append]; omega
      obtain ⟨k1, k2⟩ := search_go hP f (h + 1) _ ρ' h' (g1.all ha) (by omega) (by omega) (fun i v hi2 hv2 => by
        rw [hT, List.getElem?_append_left (by omega)] at hv2
        by_cases e : i = h
        · rw [e, hq] at hv2
          cases hv2
          exact g2
        · exact metAt_on (hm i v (by omega) hv2) g1)
      exact ⟨g1.trans k1, k2⟩
    · rename_i hge
      refine ⟨BOn.refl s, fun v hv => ?_⟩
      obtain ⟨i, hi2, hv2⟩ := List.getElem_of_mem (ha v hv)
      exact hm i v (by omega) (by rw [List.getElem?_eq_getElem hi2, hv2])
/-- What can be reached has been met. -/
theorem search_all {P : List (ArcD × Int)} {n : Nat} (hP : Inside P n) (hn : 0 < n) {v : Int} (hv : Res P v) : (searchB P (n + 1) 0 startQ).o v.toNat = true := by
  obtain ⟨h1, h2⟩ := search_go hP (n + 1) 0 startQ _ (BInv.start hn) (fun v hv => by
    have : v = 0 := by simpa [startQ] using hv
    rw [this]; simp [startQ]) (Nat.zero_le _) (by omega) (fun i v hi _ => by omega)
  induction hv with
  | src => exact h1.o 0 rfl
  | fwd hp _ hr ih => exact (h2 _ ih _ hp).1 (by have := (hP _ hp).1; omega) hr
  | bwd hp _ hr ih => exact (h2 _ ih _ hp).2 (by have := (hP _ hp).2; omega) hr
theorem search_no {n : Nat} {A : List ArcD} {F : List Int} (h : flowOkV n A F = true) (h1 : (searchB (A.zip F) (n + 1) 0 startQ).o 1 = false) : reachedB A F 1 = false := by
  have hn := (flowOk_out h).1
  have h2 := (netOk_outP hn).1
  cases k : reachedB A F 1 with
  | false => rfl
  | true =>
    have := search_all (inside_of (F := F) hn) (by omega) (resB_iff.1 k)
    rw [show ((1 : Nat) : Int).toNat = 1 from rfl, h1] at this
    cases this
/-- Pushed often enough, node 1 cannot be reached. -/
theorem push_most {n : Nat} {A : List ArcD} : ∀ (k : Nat) (F : List Int), flowOkV n A F = true → 20 * (A.length : Int) - netO (A.zip F) 0 < (k : Int) → reachedB A (pushB A n k F) 1 = false
  | 0, F, h, hk => by
    obtain ⟨hn, hl, hr, _⟩ := flowOk_out h
    have h20 : ∀ p ∈ A.zip F, 0 ≤ p.2 ∧ p.2 ≤ 20 := fun p hp => by
      have h1 := hr p hp
      have h2 := (arcOk_out ((netOk_outP hn).2.2 _ (zip_arc hp))).2.2.2.1
      omega
    have := (netO_bound h20 0).2
    rw [List.length_zip] at this
    omega
  | k + 1, F, h, hk => by
    unfold pushB
    split
    · rename_i h1
      obtain ⟨h2, h3⟩ := push_one h h1
      exact push_most k _ h2 (by omega)
    · rename_i h1
      exact search_no h (by simpa using h1)
theorem pushed_most {n k : Nat} {A : List ArcD} (h : netOkV n A = true) (hk : 64001 ≤ k) : flowOkV n A (pushedV A n k) = true ∧ reachedB A (pushedV A n k) 1 = false := by
  refine ⟨(pushed_ok h k).1, push_most k _ (zero_ok h) ?_⟩
  have := (netOk_out h).2.1
  rw [netO_zero]
  omega

end Go.Proofs.YtnbbhdbcapfbkaaDoor

namespace Go.Proofs.YtnbbhdbcapfbkaaDoor
set_option maxRecDepth 4096

def cutOkV (N : Int) (A : List ArcD) (o : Nat → Bool) (m : Nat) : Bool := netOkV N A && (decide ((m : Int) = N) && (o 0 && !o 1))
def cutRoomV (N : Int) (A : List ArcD) (o : Nat → Bool) (m : Nat) : Int := if cutOkV N A o m = true then cutR o A else -1
def stoppedV (N : Int) (A : List ArcD) (F : List Int) (o : Nat → Bool) (m : Nat) : Bool := flowOkV N A F && (cutOkV N A o m && decide (flowSizeV N A F = cutRoomV N A o m))
/-- A greatest flow. -/
def mostF (A : List ArcD) (n : Nat) : List Int := pushedV A n 64001
def mostS (N : Int) (A : List ArcD) : Int := if netOkV N A = true then netO (A.zip (mostF A N.toNat)) 0 else -1
noncomputable def mostO (N : Int) (A : List ArcD) : Nat → Bool := reachedB A (mostF A N.toNat)
def mostN (N : Int) (A : List ArcD) : Nat := if netOkV N A = true then N.toNat else 0

section
variable {N : Int} {A : List ArcD} {o : Nat → Bool} {m : Nat}
theorem cut_net (h : netOkV N A = false) : cutOkV N A o m = false := by unfold cutOkV; rw [h]; rfl
theorem cut_len (h : ¬ (m : Int) = N) : cutOkV N A o m = false := by unfold cutOkV; rw [decide_eq_false h]; simp
theorem cut_zero (h : o 0 = false) : cutOkV N A o m = false := by unfold cutOkV; rw [h]; simp
theorem cut_one (h : o 1 = true) : cutOkV N A o m = false := by unfold cutOkV; rw [h]; simp
theorem cut_yes (h1 : netOkV N A = true) (h2 : (m : Int) = N) (h3 : o 0 = true) (h4 : o 1 = false) : cutOkV N A o m = true := by unfold cutOkV; rw [h1, decide_eq_true h2, h3, h4]; rfl
theorem cutOk_out (h : cutOkV N A o m = true) : netOkV N A = true ∧ (m : Int) = N ∧ o 0 = true ∧ o 1 = false := by
  unfold cutOkV at h
  simp only [Bool.and_eq_true, decide_eq_true_eq, Bool.not_eq_true'] at h
  exact ⟨h.1, h.2.1, h.2.2.1, h.2.2.2⟩
theorem cutR_append (S : Nat → Bool) (A A' : List ArcD) : cutR S (A ++ A') = cutR S A + cutR S A' := by
  induction A with
  | nil => simp [cutR]
  | cons x A ih => simp only [List.cons_append, cutR, ih]; omega
theorem cutR_snoc {S : Nat → Bool} {k : Nat} {x : ArcD} (h : A[k]? = some x) : cutR S (A.take (k + 1)) = cutR S (A.take k) + cutAt S x := by
  obtain ⟨hi, rfl⟩ := List.getElem?_eq_some_iff.1 h
  rw [List.take_succ_eq_append_getElem hi, cutR_append]
  simp [cutR]
theorem cutR_bound {S : Nat → Bool} : ∀ {A : List ArcD}, (∀ x ∈ A, 0 ≤ x.r ∧ x.r ≤ 20) → 0 ≤ cutR S A ∧ cutR S A ≤ 20 * (A.length : Int)
  | [], _ => by simp [cutR]
  | x :: A, h => by
    have h1 := h x (List.mem_cons_self ..)
    have h2 := cutR_bound (S := S) (A := A) fun y hy => h y (List.mem_cons_of_mem _ hy)
    have h3 : 0 ≤ cutAt S x ∧ cutAt S x ≤ 20 := by unfold cutAt; split <;> omega
    simp only [cutR, List.length_cons]
    omega
theorem most_ok {n : Nat} (h : netOkV n A = true) : flowOkV n A (mostF A n) = true ∧ reachedB A (mostF A n) 1 = false := pushed_most h (Nat.le_refl _)
/-- Whatever flow from which node 1 cannot be reached: it has the size of the model's, and it reaches the same nodes. -/
theorem most_is {n : Nat} {F : List Int} (h : flowOkV n A F = true) (h1 : reachedB A F 1 = false) : netO (A.zip F) 0 = mostS n A ∧ reachedB A F = mostO n A := by
  have hn := (flowOk_out h).1
  obtain ⟨g, g1⟩ := most_ok hn
  unfold mostS mostO
  rw [if_pos hn, Int.toNat_natCast]
  exact stop_same h h1 g g1
end

end Go.Proofs.YtnbbhdbcapfbkaaDoor

namespace Go.Proofs.YtnbbhdbcapfbkaaDoor
set_option maxRecDepth 4096

/-! ### sums -/
def sumL (f : Nat → Int) : Nat → Int
  | 0 => 0
  | n + 1 => sumL f n + f n
theorem sumL_le {f g : Nat → Int} : ∀ {n : Nat}, (∀ k, k < n → f k ≤ g k) → sumL f n ≤ sumL g n
  | 0, _ => Int.le_refl _
  | n + 1, h => by
    have := sumL_le (n := n) fun k hk => h k (by omega)
    have := h n (by omega)
    simp only [sumL]
    omega
theorem sumL_same {f g : Nat → Int} : ∀ {n : Nat}, (∀ k, k < n → f k = g k) → sumL f n = sumL g n
  | 0, _ => rfl
  | n + 1, h => by simp only [sumL, sumL_same (n := n) fun k hk => h k (by omega), h n (by omega)]
theorem sumL_add (f g : Nat → Int) : ∀ n : Nat, sumL (fun k => f k + g k) n = sumL f n + sumL g n
  | 0 => rfl
  | n + 1 => by simp only [sumL, sumL_add f g n]; omega
theorem sumL_zero : ∀ n : Nat, sumL (fun _ => 0) n = 0
  | 0 => rfl
  | n + 1 => by simp only [sumL, sumL_zero n]; rfl
theorem sumL_nonneg {f : Nat → Int} {n : Nat} (h : ∀ k, k < n → 0 ≤ f k) : 0 ≤ sumL f n := by
  have := sumL_le (f := fun _ => 0) (g := f) h
  rw [sumL_zero] at this
  exact this
theorem sumL_one {f : Nat → Int} : ∀ {n j : Nat}, (∀ k, k < n → 0 ≤ f k) → j < n → f j ≤ sumL f n
  | 0, _, _, h => by omega
  | n + 1, j, h, hj => by
    simp only [sumL]
    by_cases e : j = n
    · subst e
      have := sumL_nonneg (f := f) (n := j) fun k hk => h k (by omega)
      omega
    · have := sumL_one (f := f) (n := n) (j := j) (fun k hk => h k (by omega)) (by omega)
      have := h n (by omega)
      omega
theorem sumL_swap (g : Nat → Nat → Int) : ∀ m n : Nat, sumL (fun i => sumL (fun k => g i k) n) m = sumL (fun k => sumL (fun i => g i k) m) n
  | 0, n => (sumL_zero n).symm
  | m + 1, n => by
    simp only [sumL]
    rw [sumL_swap g m n, ← sumL_add]
/-- Each pair once, both ways round. -/
theorem sumL_pairs {adj : Nat → Nat → Bool} (hs : ∀ i k, adj i k = adj k i) (hi : ∀ i, adj i i = false) (f : Nat → Nat → Int) (n : Nat) :
    sumL (fun i => sumL (fun k => if i < k ∧ adj i k = true then f i k + f k i else 0) n) n = sumL (fun i => sumL (fun k => if adj i k = true then f i k else 0) n) n := by
  have e : ∀ i k, (if adj i k = true then f i k else 0) = (if i < k ∧ adj i k = true then f i k else 0) + (if k < i ∧ adj k i = true then f i k else 0) := fun i k => by
    by_cases ha : adj i k = true
    · have hb : adj k i = true := by rw [hs]; exact ha
      rcases Nat.lt_trichotomy i k with h | h | h
      · rw [if_pos ha, if_pos ⟨h, ha⟩, if_neg (by omega)]; omega
      · subst h
        rw [hi i] at ha
        cases ha
      · rw [if_pos ha, if_neg (by omega), if_pos ⟨h, hb⟩]; omega
    · have hb : ¬ adj k i = true := by rw [hs]; exact ha
      rw [if_neg ha, if_neg (fun h => ha h.2), if_neg (fun h => hb h.2)]
      rfl
  have e2 : sumL (fun i => sumL (fun k => if adj i k = true then f i k else 0) n) n = sumL (fun i => sumL (fun k => if i < k ∧ adj i k = true then f i k else 0) n) n + sumL (fun i => sumL (fun k => if k < i ∧ adj k i = true then f i k else 0) n) n := by
    rw [← sumL_add]
    refine sumL_same fun i _ => ?_
    rw [← sumL_add]
    exact sumL_same fun k _ => e i k
  rw [e2, sumL_swap (fun i k => if k < i ∧ adj k i = true then f i k else 0), ← sumL_add]
  refine sumL_same fun i _ => ?_
  rw [← sumL_add]
  refine sumL_same fun k _ => ?_
  split <;> omega

/-! ### cuts of lists -/
theorem cutR_flat (S : Nat → Bool) (g : Nat → List ArcD) : ∀ n : Nat, cutR S ((List.range n).flatMap g) = sumL (fun k => cutR S (g k)) n
  | 0 => rfl
  | n + 1 => by
    rw [List.range_succ, List.flatMap_append, cutR_append, cutR_flat S g n]
    simp [sumL]
theorem cutR_row (S : Nat → Bool) (g : Nat → ArcD) : ∀ n : Nat, cutR S ((List.range n).map g) = sumL (fun k => cutAt S (g k)) n
  | 0 => rfl
  | n + 1 => by
    rw [List.range_succ, List.map_append, cutR_append, cutR_row S g n]
    simp [sumL, cutR]
theorem cutR_map_le {S S' : Nat → Bool} {g : Nat → ArcD} : ∀ {L : List Nat}, (∀ k ∈ L, cutAt S (g k) ≤ cutAt S' (g k)) → cutR S (L.map g) ≤ cutR S' (L.map g)
  | [], _ => Int.le_refl _
  | k :: L, h => by
    have := cutR_map_le (L := L) fun j hj => h j (List.mem_cons_of_mem _ hj)
    have := h k (List.mem_cons_self ..)
    simp only [List.map_cons, cutR]
    omega
/-- An arc of room 1 across a cut. -/
def b2 (p q : Bool) : Int := if p = true ∧ q = false then 1 else 0
theorem cut_arc (S : Nat → Bool) (f t : Nat) (c : Int) : cutAt S ⟨(f : Int), (t : Int), 1, c⟩ = b2 (S f) (S t) := rfl
theorem b2_nn (p q : Bool) : 0 ≤ b2 p q := by unfold b2; split <;> decide
theorem b2_tri (p q r : Bool) : b2 p r ≤ b2 p q + b2 q r := by cases p <;> cases q <;> cases r <;> decide
theorem cutR_nn (S : Nat → Bool) : ∀ {A : List ArcD}, (∀ x ∈ A, 0 ≤ x.r) → 0 ≤ cutR S A
  | [], _ => Int.le_refl _
  | x :: A, h => by
    have := cutR_nn S (A := A) fun y hy => h y (List.mem_cons_of_mem _ hy)
    have := h x (List.mem_cons_self ..)
    simp only [cutR]
    unfold cutAt
    split <;> omega

/-! ### the network in time -/
def inN (F k t : Nat) : Nat := 3 + 2 * (t * F + k)
theorem inN_dec {F k t : Nat} (h : k < F) : (inN F k t - 3) / 2 % F = k ∧ (inN F k t - 3) / 2 / F = t ∧ (inN F k t - 3) % 2 = 0 ∧ (inN F k t + 1 - 3) / 2 % F = k ∧ (inN F k t + 1 - 3) / 2 / F = t ∧ (inN F k t + 1 - 3) % 2 = 1 := by
  have e1 : (inN F k t - 3) / 2 = t * F + k := by unfold inN; omega
  have e2 : (inN F k t + 1 - 3) / 2 = t * F + k := by unfold inN; omega
  have e3 : (t * F + k) % F = k := by rw [Nat.add_comm, Nat.add_mul_mod_self_right, Nat.mod_eq_of_lt h]
  have e4 : (t * F + k) / F = t := by
    rw [Nat.add_comm, Nat.add_mul_div_right _ _ (by omega), Nat.div_eq_of_lt h, Nat.zero_add]
  refine ⟨by rw [e1]; exact e3, by rw [e1]; exact e4, by unfold inN; omega, by rw [e2]; exact e3, by rw [e2]; exact e4, by unfold inN; omega⟩
/-- What a map gives: how many free cells, which lie around each, the pairs. -/
structure MapD where
  F : Nat
  ar : Nat → List Nat
def adjB (m : MapD) (i k : Nat) : Bool := decide (k ∈ m.ar i)
/-- The pairs, by their smaller cell and then by their greater one. -/
def MapD.pl (m : MapD) : List (Nat × Nat) := (List.range m.F).flatMap fun i => ((List.range m.F).filter fun k => decide (i < k) && adjB m i k).map fun k => (i, k)
/-- What a right map gives. -/
structure MapOk (m : MapD) : Prop where
  lt : ∀ i, i < m.F → ∀ k ∈ m.ar i, k < m.F
  sym : ∀ i k, adjB m i k = adjB m k i
  irr : ∀ i, adjB m i i = false
/-- A cell's arcs at one time. -/
def cellA (m : MapD) (T t : Nat) (strict : Bool) (k : Nat) : List ArcD :=
  ⟨(inN m.F k t : Nat), (inN m.F k t + 1 : Nat), 1, 0⟩ ::
    (if t = T then [] else ⟨(inN m.F k t + 1 : Nat), (inN m.F k (t + 1) : Nat), 1, 0⟩ :: (if strict = true then [] else (m.ar k).map fun j => ⟨(inN m.F k t + 1 : Nat), (inN m.F j (t + 1) : Nat), 1, 1⟩))
/-- The pairs' arcs at one time, from node p on. -/
def pairA (m : MapD) (t : Nat) : Nat → List (Nat × Nat) → List ArcD
  | _, [] => []
  | p, (a, b) :: L => ⟨(inN m.F a t + 1 : Nat), (p : Nat), 1, 0⟩ :: ⟨(inN m.F b t + 1 : Nat), (p : Nat), 1, 0⟩ :: ⟨(p : Nat), (p + 1 : Nat), 1, 1⟩ :: ⟨(p + 1 : Nat), (inN m.F a (t + 1) : Nat), 1, 0⟩ :: ⟨(p + 1 : Nat), (inN m.F b (t + 1) : Nat), 1, 0⟩ :: pairA m t (p + 2) L
def baseN (m : MapD) (T : Nat) : Nat := 3 + 2 * m.F * (T + 1)
def layA (m : MapD) (T : Nat) (strict : Bool) (t : Nat) : List ArcD :=
  (List.range m.F).flatMap (cellA m T t strict) ++ (if t = T ∨ strict = false then [] else pairA m t (baseN m T + 2 * t * m.pl.length) m.pl)
def timeA (m : MapD) (sl : List Nat) (gl : Nat → Bool) (R : Int) (T : Nat) (strict : Bool) : List ArcD :=
  (sl.map fun k => (⟨0, (inN m.F k 0 : Nat), 1, 0⟩ : ArcD)) ++ ((List.range (T + 1)).flatMap (layA m T strict) ++ (((List.range m.F).map fun k => (⟨(inN m.F k T + 1 : Nat), (if gl k = true then 1 else 2 : Nat), 1, 0⟩ : ArcD)) ++ [⟨2, 1, R, 0⟩]))
def timeN (m : MapD) (T : Nat) (strict : Bool) : Nat := if strict = true then baseN m T + 2 * m.pl.length * T else baseN m T

section
variable {m : MapD} {sl : List Nat} {gl : Nat → Bool} {R : Int} {T : Nat} {S : Nat → Bool}
theorem cut_cell (S : Nat → Bool) (t k : Nat) (strict : Bool) : cutR S (cellA m T t strict k) = b2 (S (inN m.F k t)) (S (inN m.F k t + 1)) +
    (if t = T then 0 else b2 (S (inN m.F k t + 1)) (S (inN m.F k (t + 1))) + (if strict = true then 0 else cutR S ((m.ar k).map fun j => ⟨(inN m.F k t + 1 : Nat), (inN m.F j (t + 1) : Nat), 1, 1⟩))) := by
  unfold cellA
  simp only [cutR, cut_arc]
  by_cases h : t = T
  · simp [h, cutR]
  · simp only [h, if_false, cutR, cut_arc]
    by_cases hs : strict = true
    · simp [hs, cutR]
    · simp [hs]
theorem cut_time (S : Nat → Bool) (strict : Bool) : cutR S (timeA m sl gl R T strict) = cutR S (sl.map fun k => (⟨0, (inN m.F k 0 : Nat), 1, 0⟩ : ArcD)) + (sumL (fun t => cutR S (layA m T strict t)) (T + 1) +
    (sumL (fun k => b2 (S (inN m.F k T + 1)) (S (if gl k = true then 1 else 2))) m.F + cutAt S ⟨2, 1, R, 0⟩)) := by
  unfold timeA
  rw [cutR_append, cutR_append, cutR_append, cutR_flat, cutR_row]
  simp only [cut_arc, cutR, Int.add_zero]
theorem cut_lay (S : Nat → Bool) (t : Nat) (strict : Bool) : cutR S (layA m T strict t) = sumL (fun k => cutR S (cellA m T t strict k)) m.F + (if t = T ∨ strict = false then 0 else cutR S (pairA m t (baseN m T + 2 * t * m.pl.length) m.pl)) := by
  unfold layA
  rw [cutR_append, cutR_flat]
  split <;> simp [cutR]
/-- One step more: each cut lets no less through. -/
theorem cut_next (S : Nat → Bool) : cutR S (timeA m sl gl R T false) ≤ cutR S (timeA m sl gl R (T + 1) false) := by
  rw [cut_time, cut_time]
  have h1 : sumL (fun t => cutR S (layA m T false t)) T ≤ sumL (fun t => cutR S (layA m (T + 1) false t)) T := by
    refine sumL_le fun t ht => ?_
    rw [cut_lay, cut_lay, if_pos (.inr rfl), if_pos (.inr rfl)]
    refine Int.add_le_add_right (sumL_le fun k hk => ?_) _
    have n1 : ¬ t = T := by omega
    have n2 : ¬ t = T + 1 := by omega
    rw [cut_cell, cut_cell]
    simp only [n1, n2, if_false]
    exact Int.le_refl _
  have h2 : cutR S (layA m T false T) + sumL (fun k => b2 (S (inN m.F k T + 1)) (S (if gl k = true then 1 else 2))) m.F ≤
      cutR S (layA m (T + 1) false T) + cutR S (layA m (T + 1) false (T + 1)) + sumL (fun k => b2 (S (inN m.F k (T + 1) + 1)) (S (if gl k = true then 1 else 2))) m.F := by
    rw [cut_lay, cut_lay, cut_lay, if_pos (.inr rfl), if_pos (.inr rfl), if_pos (.inr rfl), Int.add_zero, Int.add_zero, Int.add_zero, ← sumL_add, ← sumL_add, ← sumL_add]
    refine sumL_le fun k hk => ?_
    have n2 : ¬ T = T + 1 := by omega
    generalize S (if gl k = true then 1 else 2) = se
    rw [cut_cell, cut_cell, cut_cell]
    simp only [n2, if_true, if_false, Bool.false_eq_true, Int.add_zero]
    have a1 := b2_tri (S (inN m.F k T + 1)) (S (inN m.F k (T + 1))) se
    have a2 := b2_tri (S (inN m.F k (T + 1))) (S (inN m.F k (T + 1) + 1)) se
    have a3 : 0 ≤ cutR S ((m.ar k).map fun j => (⟨(inN m.F k T + 1 : Nat), (inN m.F j (T + 1) : Nat), 1, 1⟩ : ArcD)) := cutR_nn S fun x hx => by
      obtain ⟨j, _, rfl⟩ := List.mem_map.1 hx
      show (0 : Int) ≤ 1
      decide
    omega
  simp only [sumL] at h1 h2 ⊢
  omega
end

/-! ### pairs of cells that let only one through -/
def sumP (h : Nat → Nat → Int) : List (Nat × Nat) → Int
  | [] => 0
  | (a, b) :: L => h a b + sumP h L
theorem sumP_append (h : Nat → Nat → Int) : ∀ L L' : List (Nat × Nat), sumP h (L ++ L') = sumP h L + sumP h L'
  | [], L' => by simp [sumP]
  | (a, b) :: L, L' => by
    simp only [List.cons_append, sumP, sumP_append h L L']
    omega
theorem sumP_flat (h : Nat → Nat → Int) (g : Nat → List (Nat × Nat)) : ∀ n : Nat, sumP h ((List.range n).flatMap g) = sumL (fun k => sumP h (g k)) n
  | 0 => rfl
  | n + 1 => by
    rw [List.range_succ, List.flatMap_append, sumP_append, sumP_flat h g n]
    simp [sumL]
theorem sumP_filter (h : Nat → Nat → Int) (i : Nat) (p : Nat → Bool) : ∀ n : Nat, sumP h (((List.range n).filter p).map fun k => (i, k)) = sumL (fun k => if p k = true then h i k else 0) n
  | 0 => rfl
  | n + 1 => by
    rw [List.range_succ, List.filter_append, List.map_append, sumP_append, sumP_filter h i p n]
    by_cases hp : p n = true <;> simp [sumL, sumP, hp]
theorem sumP_pl (h : Nat → Nat → Int) (m : MapD) : sumP h m.pl = sumL (fun i => sumL (fun k => if i < k ∧ adjB m i k = true then h i k else 0) m.F) m.F := by
  unfold MapD.pl
  rw [sumP_flat]
  refine sumL_same fun i _ => ?_
  rw [sumP_filter]
  refine sumL_same fun k _ => ?_
  simp only [Bool.and_eq_true, decide_eq_true_eq]
theorem pl_mem {m : MapD} {a b : Nat} (h : (a, b) ∈ m.pl) : a < m.F ∧ b < m.F ∧ a < b ∧ adjB m a b = true := by
  unfold MapD.pl at h
  rw [List.mem_flatMap] at h
  obtain ⟨i, hi, h⟩ := h
  obtain ⟨k, hk, e⟩ := List.mem_map.1 h
  injection e with e1 e2
  subst e1 e2
  rw [List.mem_filter] at hk
  simp only [List.mem_range, Bool.and_eq_true, decide_eq_true_eq] at hi hk
  exact ⟨hi, hk.1, hk.2.1, hk.2.2⟩
def b3 (p q r : Bool) : Int := if p = true ∧ q = true ∧ r = false then 1 else 0
theorem b3_nn (p q r : Bool) : 0 ≤ b3 p q r := by unfold b3; split <;> decide
theorem gad_ge (a b p q i k : Bool) : b3 a i k + b3 b k i ≤ b2 a p + (b2 b p + (b2 p q + (b2 q i + b2 q k))) := by
  cases a <;> cases b <;> cases p <;> cases q <;> cases i <;> cases k <;> decide
section
variable {m : MapD} {sl : List Nat} {gl : Nat → Bool} {R : Int} {T : Nat} {S : Nat → Bool}
theorem cut_pair (S : Nat → Bool) (t p a b : Nat) (L : List (Nat × Nat)) : cutR S (pairA m t p ((a, b) :: L)) = b2 (S (inN m.F a t + 1)) (S p) + (b2 (S (inN m.F b t + 1)) (S p) + (b2 (S p) (S (p + 1)) + (b2 (S (p + 1)) (S (inN m.F a (t + 1))) + (b2 (S (p + 1)) (S (inN m.F b (t + 1))) + cutR S (pairA m t (p + 2) L))))) := by
  simp only [pairA, cutR, cut_arc]
theorem pair_ge (S : Nat → Bool) (t : Nat) : ∀ (L : List (Nat × Nat)) (p : Nat), sumP (fun a b => b3 (S (inN m.F a t + 1)) (S (inN m.F a (t + 1))) (S (inN m.F b (t + 1))) + b3 (S (inN m.F b t + 1)) (S (inN m.F b (t + 1))) (S (inN m.F a (t + 1)))) L ≤ cutR S (pairA m t p L)
  | [], _ => Int.le_refl _
  | (a, b) :: L, p => by
    have ih := pair_ge S t L (p + 2)
    have h := gad_ge (S (inN m.F a t + 1)) (S (inN m.F b t + 1)) (S p) (S (p + 1)) (S (inN m.F a (t + 1))) (S (inN m.F b (t + 1)))
    rw [cut_pair]
    simp only [sumP]
    omega

/-- A cut that no step crosses: who could cross is taken out. -/
def starO (m : MapD) (T : Nat) (o : Nat → Bool) (v : Nat) : Bool :=
  if v < 3 ∨ (v - 3) % 2 = 0 then o v
  else o v && (decide (T ≤ (v - 3) / 2 / m.F) || (o (inN m.F ((v - 3) / 2 % m.F) ((v - 3) / 2 / m.F + 1)) && (m.ar ((v - 3) / 2 % m.F)).all fun j => o (inN m.F j ((v - 3) / 2 / m.F + 1))))
theorem star_low (o : Nat → Bool) {v : Nat} (h : v < 3) : starO m T o v = o v := by unfold starO; rw [if_pos (.inl h)]
theorem star_in (o : Nat → Bool) {k t : Nat} (h : k < m.F) : starO m T o (inN m.F k t) = o (inN m.F k t) := by
  unfold starO
  rw [if_pos (.inr (inN_dec h).2.2.1)]
theorem star_out (o : Nat → Bool) {k t : Nat} (h : k < m.F) : starO m T o (inN m.F k t + 1) = (o (inN m.F k t + 1) && (decide (T ≤ t) || (o (inN m.F k (t + 1)) && (m.ar k).all fun j => o (inN m.F j (t + 1))))) := by
  obtain ⟨_, _, _, h1, h2, h3⟩ := inN_dec (t := t) h
  unfold starO
  rw [if_neg (by rw [h3]; unfold inN; omega), h1, h2]
theorem star_on {o : Nat → Bool} {k t : Nat} (h : k < m.F) (ht : t < T) (hs : starO m T o (inN m.F k t + 1) = true) : o (inN m.F k t + 1) = true ∧ o (inN m.F k (t + 1)) = true ∧ ∀ j ∈ m.ar k, o (inN m.F j (t + 1)) = true := by
  rw [star_out o h, decide_eq_false (by omega), Bool.false_or] at hs
  simp only [Bool.and_eq_true, List.all_eq_true] at hs
  exact ⟨hs.1, hs.2.1, hs.2.2⟩
theorem star_off {o : Nat → Bool} {k t : Nat} (h : k < m.F) (ho : o (inN m.F k t + 1) = true) (hs : starO m T o (inN m.F k t + 1) = false) : o (inN m.F k (t + 1)) = false ∨ ∃ j ∈ m.ar k, o (inN m.F j (t + 1)) = false := by
  rw [star_out o h, ho, Bool.true_and, Bool.or_eq_false_iff, Bool.and_eq_false_iff] at hs
  rcases hs.2 with h | h
  · exact .inl h
  · obtain ⟨j, hj, he⟩ := List.all_eq_false.1 h
    exact .inr ⟨j, hj, by simpa using he⟩
theorem star_end (o : Nat → Bool) {k : Nat} (h : k < m.F) : starO m T o (inN m.F k T + 1) = o (inN m.F k T + 1) := by
  rw [star_out o h, decide_eq_true (Nat.le_refl T), Bool.true_or, Bool.and_true]
theorem b2_true (p : Bool) : b2 p true = 0 := by cases p <;> rfl
theorem b2_false (q : Bool) : b2 false q = 0 := by cases q <;> rfl
theorem cutR_zero : ∀ {A : List ArcD}, (∀ x ∈ A, cutAt S x = 0) → cutR S A = 0
  | [], _ => rfl
  | x :: A, h => by simp only [cutR, cutR_zero (A := A) fun y hy => h y (List.mem_cons_of_mem _ hy), h x (List.mem_cons_self ..)]; rfl
theorem cutR_mem : ∀ {A : List ArcD} {x : ArcD}, (∀ y ∈ A, 0 ≤ y.r) → x ∈ A → cutAt S x ≤ cutR S A
  | [], _, _, hx => by cases hx
  | a :: A, x, h, hx => by
    have h1 := cutR_nn S (A := A) fun y hy => h y (List.mem_cons_of_mem _ hy)
    have h2 : 0 ≤ cutAt S a := by
      have := h a (List.mem_cons_self ..)
      unfold cutAt
      split <;> omega
    simp only [cutR]
    rcases List.mem_cons.1 hx with rfl | hx
    · omega
    · have := cutR_mem (A := A) (fun y hy => h y (List.mem_cons_of_mem _ hy)) hx
      omega
theorem star_steps {o : Nat → Bool} {S : Nat → Bool} (hS : ∀ k, k < m.F → ∀ t, S (inN m.F k t) = o (inN m.F k t)) (hO : ∀ k, k < m.F → ∀ t, S (inN m.F k t + 1) = starO m T o (inN m.F k t + 1)) (hm : MapOk m) {k t : Nat} (hk : k < m.F) (ht : t < T) :
    b2 (S (inN m.F k t + 1)) (S (inN m.F k (t + 1))) = 0 ∧ cutR S ((m.ar k).map fun j => (⟨(inN m.F k t + 1 : Nat), (inN m.F j (t + 1) : Nat), 1, 1⟩ : ArcD)) = 0 := by
  cases h : S (inN m.F k t + 1) with
  | false =>
    refine ⟨b2_false _, cutR_zero fun x hx => ?_⟩
    obtain ⟨j, _, rfl⟩ := List.mem_map.1 hx
    rw [cut_arc, h, b2_false]
  | true =>
    rw [hO k hk t] at h
    obtain ⟨_, h2, h3⟩ := star_on hk ht h
    refine ⟨by rw [hS k hk, h2, b2_true], cutR_zero fun x hx => ?_⟩
    obtain ⟨j, hj, rfl⟩ := List.mem_map.1 hx
    rw [cut_arc, hS j (hm.lt k hk j hj), h3 j hj, b2_true]
end

end Go.Proofs.YtnbbhdbcapfbkaaDoor

