/-
  The search by a queue meets all that can be reached; pushing as often as can be leaves a greatest flow. Plain facts; no statement is proved here.
  What CutOk, CutRoom, Stopped and MostFlow answer, as functions of bare lists. Plain facts; no statement is proved here.
-/
import Derived.Test.YtlkhecdlmbhiaaaDoorZTS08
import Derived.Test.YtlkhecdlmbhiaaaDoorZTS09
namespace Go.Proofs.YtlkhecdlmbhiaaaDoor
set_option maxRecDepth 4096

/-- The search has gone on: what was met stays met, the queue has grown. -/
structure BOn (s s' : BS) : Prop where
  o : ∀ v, s.o v = true → s'.o v = true
  q : ∃ T, s'.q = s.q ++ T
  all : (∀ v, s.o v = true → v ∈ s.q) → ∀ v, s'.o v = true → v ∈ s'.q
theorem BOn.refl (s : BS) : BOn s s := ⟨fun _ h => h, ⟨[], by simp⟩, fun h => h⟩
theorem BOn.trans {a b c : BS} (h : BOn a b) (k : BOn b c) : BOn a c :=
  ⟨fun v hv => k.o v (h.o v hv), by
    obtain ⟨T, hT⟩ := h.q
    obtain ⟨U, hU⟩ := k.q
    exact ⟨T ++ U, by rw [hU, hT, List.append_assoc]⟩, fun ha => k.all (h.all ha)⟩
theorem BOn.met (s : BS) (t : Nat) (y : Int) : BOn s (s.met t y) :=
  ⟨fun v hv => by simp [BS.met, hv], ⟨[t], rfl⟩, fun ha v hv => by
    simp only [BS.met, Bool.or_eq_true, decide_eq_true_eq] at hv
    show v ∈ s.q ++ [t]
    rcases hv with h | h
    · exact List.mem_append_left _ (ha v h)
    · rw [h]; simp⟩
theorem fwd_go (x : ArcD) (y : Int) (v i : Nat) (s : BS) : BOn s (fwdB x y v i s) ∧ (x.f = (v : Int) → y < x.r → (fwdB x y v i s).o x.t.toNat = true) := by
  unfold fwdB
  split
  · exact ⟨BOn.met .., fun _ _ => by simp [BS.met]⟩
  · rename_i hc
    refine ⟨BOn.refl s, fun h1 h2 => ?_⟩
    cases h : s.o x.t.toNat with
    | true => rfl
    | false => exact absurd ⟨h1, h, h2⟩ hc
theorem bwd_go (x : ArcD) (y : Int) (v i : Nat) (s : BS) : BOn s (bwdB x y v i s) ∧ (x.t = (v : Int) → 0 < y → (bwdB x y v i s).o x.f.toNat = true) := by
  unfold bwdB
  split
  · exact ⟨BOn.met .., fun _ _ => by simp [BS.met]⟩
  · rename_i hc
    refine ⟨BOn.refl s, fun h1 h2 => ?_⟩
    cases h : s.o x.f.toNat with
    | true => rfl
    | false => exact absurd ⟨h1, h, h2⟩ hc
/-- All that leads on from node v has been met. -/
def metAt (P : List (ArcD × Int)) (o : Nat → Bool) (v : Nat) : Prop := ∀ p ∈ P, (p.1.f = (v : Int) → p.2 < p.1.r → o p.1.t.toNat = true) ∧ (p.1.t = (v : Int) → 0 < p.2 → o p.1.f.toNat = true)
theorem scan_go (v : Nat) : ∀ (Q : List (ArcD × Int)) (k : Nat) (s : BS), BOn s (scanB v Q k s) ∧ metAt Q (scanB v Q k s).o v
  | [], _, s => ⟨BOn.refl s, fun p hp => by cases hp⟩
  | p :: Q, k, s => by
    obtain ⟨h1, k1⟩ := fwd_go p.1 p.2 v k s
    obtain ⟨h2, k2⟩ := bwd_go p.1 p.2 v k (fwdB p.1 p.2 v k s)
    obtain ⟨h3, k3⟩ := scan_go v Q (k + 1) (bwdB p.1 p.2 v k (fwdB p.1 p.2 v k s))
    refine ⟨(h1.trans h2).trans h3, fun q hq => ?_⟩
    rcases List.mem_cons.1 hq with rfl | hq
    · exact ⟨fun a b => h3.o _ (h2.o _ (k1 a b)), fun a b => h3.o _ (k2 a b)⟩
    · exact k3 q hq
theorem metAt_on {P : List (ArcD × Int)} {s s' : BS} {v : Nat} (h : metAt P s.o v) (k : BOn s s') : metAt P s'.o v := fun p hp => ⟨fun a b => k.o _ ((h p hp).1 a b), fun a b => k.o _ ((h p hp).2 a b)⟩
theorem search_go {P : List (ArcD × Int)} {n : Nat} (hP : Inside P n) : ∀ (f h : Nat) (s : BS) (ρ : Nat → Nat), BInv P n s ρ → (∀ v, s.o v = true → v ∈ s.q) → h ≤ s.q.length → n + 1 ≤ f + h → (∀ (i v : Nat), i < h → s.q[i]? = some v → metAt P s.o v) →
    BOn s (searchB P f h s) ∧ ∀ v, (searchB P f h s).o v = true → metAt P (searchB P f h s).o v
  | 0, h, s, ρ, hi, _, hh, hf, _ => by
    have := hi.few
    omega
  | f + 1, h, s, ρ, hi, ha, hh, hf, hm => by
    unfold searchB
    split
    · rename_i hlt
      have hq : s.q[h]? = some (s.q.getD h 0) := by rw [List.getD_eq_getElem?_getD, List.getElem?_eq_getElem hlt]; rfl
      have hv : s.o (s.q.getD h 0) = true := hi.mem _ (List.mem_of_getElem? hq)
      obtain ⟨ρ', h', _⟩ := scan_inv (v := s.q.getD h 0) hP P 0 s ρ rfl hi hv
      obtain ⟨g1, g2⟩ := scan_go (s.q.getD h 0) P 0 s
      obtain ⟨T, hT⟩ := g1.q
      have hl : s.q.length ≤ (scanB (s.q.getD h 0) P 0 s).q.length := by rw [hT, List.length_append]; omega
      obtain ⟨k1, k2⟩ := search_go hP f (h + 1) _ ρ' h' (g1.all ha) (by omega) (by omega) (fun i v hi2 hv2 => by
        rw [hT, List.getElem?_append_left (by omega)] at hv2
        by_cases e : i = h
        · rw [e, hq] at hv2
          cases hv2
          exact g2
        · exact metAt_on (hm i v (by omega) hv2) g1)
      exact ⟨g1.trans k1, k2⟩
    · rename_i hge
      refine ⟨BOn.refl s, fun v hv => ?_⟩
      obtain ⟨i, hi2, hv2⟩ := List.getElem_of_mem (ha v hv)
      exact hm i v (by omega) (by rw [List.getElem?_eq_getElem hi2, hv2])
/-- What can be reached has been met. -/
theorem search_all {P : List (ArcD × Int)} {n : Nat} (hP : Inside P n) (hn : 0 < n) {v : Int} (hv : Res P v) : (searchB P (n + 1) 0 startQ).o v.toNat = true := by
  obtain ⟨h1, h2⟩ := search_go hP (n + 1) 0 startQ _ (BInv.start hn) (fun v hv => by
    have : v = 0 := by simpa [startQ] using hv
    rw [this]; simp [startQ]) (Nat.zero_le _) (by omega) (fun i v hi _ => by omega)
  induction hv with
  | src => exact h1.o 0 rfl
  | fwd hp _ hr ih => exact (h2 _ ih _ hp).1 (by have := (hP _ hp).1; omega) hr
  | bwd hp _ hr ih => exact (h2 _ ih _ hp).2 (by have := (hP _ hp).2; omega) hr
theorem search_no {n : Nat} {A : List ArcD} {F : List Int} (h : flowOkV n A F = true) (h1 : (searchB (A.zip F) (n + 1) 0 startQ).o 1 = false) : reachedB A F 1 = false := by
  have hn := (flowOk_out h).1
  have h2 := (netOk_outP hn).1
  cases k : reachedB A F 1 with
  | false => rfl
  | true =>
    have := search_all (inside_of (F := F) hn) (by omega) (resB_iff.1 k)
    rw [show ((1 : Nat) : Int).toNat = 1 from rfl, h1] at this
    cases this
/-- Pushed often enough, node 1 cannot be reached. -/
theorem push_most {n : Nat} {A : List ArcD} : ∀ (k : Nat) (F : List Int), flowOkV n A F = true → 20 * (A.length : Int) - netO (A.zip F) 0 < (k : Int) → reachedB A (pushB A n k F) 1 = false
  | 0, F, h, hk => by
    obtain ⟨hn, hl, hr, _⟩ := flowOk_out h
    have h20 : ∀ p ∈ A.zip F, 0 ≤ p.2 ∧ p.2 ≤ 20 := fun p hp => by
      have h1 := hr p hp
      have h2 := (arcOk_out ((netOk_outP hn).2.2 _ (zip_arc hp))).2.2.2.1
      omega
    have := (netO_bound h20 0).2
    rw [List.length_zip] at this
    omega
  | k + 1, F, h, hk => by
    unfold pushB
    split
    · rename_i h1
      obtain ⟨h2, h3⟩ := push_one h h1
      exact push_most k _ h2 (by omega)
    · rename_i h1
      exact search_no h (by simpa using h1)
theorem pushed_most {n k : Nat} {A : List ArcD} (h : netOkV n A = true) (hk : 64001 ≤ k) : flowOkV n A (pushedV A n k) = true ∧ reachedB A (pushedV A n k) 1 = false := by
  refine ⟨(pushed_ok h k).1, push_most k _ (zero_ok h) ?_⟩
  have := (netOk_out h).2.1
  rw [netO_zero]
  omega

end Go.Proofs.YtlkhecdlmbhiaaaDoor

namespace Go.Proofs.YtlkhecdlmbhiaaaDoor
set_option maxRecDepth 4096

def cutOkV (N : Int) (A : List ArcD) (o : Nat → Bool) (m : Nat) : Bool := netOkV N A && (decide ((m : Int) = N) && (o 0 && !o 1))
def cutRoomV (N : Int) (A : List ArcD) (o : Nat → Bool) (m : Nat) : Int := if cutOkV N A o m = true then cutR o A else -1
def stoppedV (N : Int) (A : List ArcD) (F : List Int) (o : Nat → Bool) (m : Nat) : Bool := flowOkV N A F && (cutOkV N A o m && decide (flowSizeV N A F = cutRoomV N A o m))
/-- A greatest flow. -/
def mostF (A : List ArcD) (n : Nat) : List Int := pushedV A n 64001
def mostS (N : Int) (A : List ArcD) : Int := if netOkV N A = true then netO (A.zip (mostF A N.toNat)) 0 else -1
noncomputable def mostO (N : Int) (A : List ArcD) : Nat → Bool := reachedB A (mostF A N.toNat)
def mostN (N : Int) (A : List ArcD) : Nat := if netOkV N A = true then N.toNat else 0

section
variable {N : Int} {A : List ArcD} {o : Nat → Bool} {m : Nat}
theorem cut_net (h : netOkV N A = false) : cutOkV N A o m = false := by unfold cutOkV; rw [h]; rfl
theorem cut_len (h : ¬ (m : Int) = N) : cutOkV N A o m = false := by unfold cutOkV; rw [decide_eq_false h]; simp
theorem cut_zero (h : o 0 = false) : cutOkV N A o m = false := by unfold cutOkV; rw [h]; simp
theorem cut_one (h : o 1 = true) : cutOkV N A o m = false := by unfold cutOkV; rw [h]; simp
theorem cut_yes (h1 : netOkV N A = true) (h2 : (m : Int) = N) (h3 : o 0 = true) (h4 : o 1 = false) : cutOkV N A o m = true := by unfold cutOkV; rw [h1, decide_eq_true h2, h3, h4]; rfl
theorem cutOk_out (h : cutOkV N A o m = true) : netOkV N A = true ∧ (m : Int) = N ∧ o 0 = true ∧ o 1 = false := by
  unfold cutOkV at h
  simp only [Bool.and_eq_true, decide_eq_true_eq, Bool.not_eq_true'] at h
  exact ⟨h.1, h.2.1, h.2.2.1, h.2.2.2⟩
theorem cutR_append (S : Nat → Bool) (A A' : List ArcD) : cutR S (A ++ A') = cutR S A + cutR S A' := by
  induction A with
  | nil => simp [cutR]
  | cons x A ih => simp only [List.cons_append, cutR, ih]; omega
theorem cutR_snoc {S : Nat → Bool} {k : Nat} {x : ArcD} (h : A[k]? = some x) : cutR S (A.take (k + 1)) = cutR S (A.take k) + cutAt S x := by
  obtain ⟨hi, rfl⟩ := List.getElem?_eq_some_iff.1 h
  rw [List.take_succ_eq_append_getElem hi, cutR_append]
  simp [cutR]
theorem cutR_bound {S : Nat → Bool} : ∀ {A : List ArcD}, (∀ x ∈ A, 0 ≤ x.r ∧ x.r ≤ 20) → 0 ≤ cutR S A ∧ cutR S A ≤ 20 * (A.length : Int)
  | [], _ => by simp [cutR]
  | x :: A, h => by
    have h1 := h x (List.mem_cons_self ..)
    have h2 := cutR_bound (S := S) (A := A) fun y hy => h y (List.mem_cons_of_mem _ hy)
    have h3 : 0 ≤ cutAt S x ∧ cutAt S x ≤ 20 := by unfold cutAt; split <;> omega
    simp only [cutR, List.length_cons]
    omega
theorem most_ok {n : Nat} (h : netOkV n A = true) : flowOkV n A (mostF A n) = true ∧ reachedB A (mostF A n) 1 = false := pushed_most h (Nat.le_refl _)
/-- Whatever flow from which node 1 cannot be reached: it has the size of the model's, and it reaches the same nodes. -/
theorem most_is {n : Nat} {F : List Int} (h : flowOkV n A F = true) (h1 : reachedB A F 1 = false) : netO (A.zip F) 0 = mostS n A ∧ reachedB A F = mostO n A := by
  have hn := (flowOk_out h).1
  obtain ⟨g, g1⟩ := most_ok hn
  unfold mostS mostO
  rw [if_pos hn, Int.toNat_natCast]
  exact stop_same h h1 g g1
end

end Go.Proofs.YtlkhecdlmbhiaaaDoor

