/-
  What CutOk, CutRoom, Stopped and MostFlow answer, as functions of bare lists. Plain facts; no statement is proved here.
-/
import Derived.Test.YtobflidianlomaaCutP
namespace Go.Proofs.Ytobflidianlomaa
set_option maxRecDepth 4096

def cutOkV (N : Int) (A : List ArcD) (o : Nat → Bool) (m : Nat) : Bool := netOkV N A && (decide ((m : Int) = N) && (o 0 && !o 1))
def cutRoomV (N : Int) (A : List ArcD) (o : Nat → Bool) (m : Nat) : Int := if cutOkV N A o m = true then cutR o A else -1
def stoppedV (N : Int) (A : List ArcD) (F : List Int) (o : Nat → Bool) (m : Nat) : Bool := flowOkV N A F && (cutOkV N A o m && decide (flowSizeV N A F = cutRoomV N A o m))
/-- A greatest flow. -/
def mostF (A : List ArcD) (n : Nat) : List Int := pushedV A n 64001
def mostS (N : Int) (A : List ArcD) : Int := if netOkV N A = true then netO (A.zip (mostF A N.toNat)) 0 else -1
noncomputable def mostO (N : Int) (A : List ArcD) : Nat → Bool := reachedB A (mostF A N.toNat)
def mostN (N : Int) (A : List ArcD) : Nat := if netOkV N A = true then N.toNat else 0

section
variable {N : Int} {A : List ArcD} {o : Nat → Bool} {m : Nat}
theorem cut_net (h : netOkV N A = false) : cutOkV N A o m = false := by unfold cutOkV; rw [h]; rfl
theorem cut_len (h : ¬ (m : Int) = N) : cutOkV N A o m = false := by unfold cutOkV; rw [decide_eq_false h]; simp
theorem cut_zero (h : o 0 = false) : cutOkV N A o m = false := by unfold cutOkV; rw [h]; simp
theorem cut_one (h : o 1 = true) : cutOkV N A o m = false := by unfold cutOkV; rw [h]; simp
theorem cut_yes (h1 : netOkV N A = true) (h2 : (m : Int) = N) (h3 : o 0 = true) (h4 : o 1 = false) : cutOkV N A o m = true := by unfold cutOkV; rw [h1, decide_eq_true h2, h3, h4]; rfl
theorem cutOk_out (h : cutOkV N A o m = true) : netOkV N A = true ∧ (m : Int) = N ∧ o 0 = true ∧ o 1 = false := by
  unfold cutOkV at h
  simp only [Bool.and_eq_true, decide_eq_true_eq, Bool.not_eq_true'] at h
  exact ⟨h.1, h.2.1, h.2.2.1, h.2.2.2⟩
theorem cutR_append (S : Nat → Bool) (A A' : List ArcD) : cutR S (A ++ A') = cutR S A + cutR S A' := by
  induction A with
  | nil => simp [cutR]
  | cons x A ih => simp only [List.cons_append, cutR, ih]; omega
theorem cutR_snoc {S : Nat → Bool} {k : Nat} {x : ArcD} (h : A[k]? = some x) : cutR S (A.take (k + 1)) = cutR S (A.take k) + cutAt S x := by
  obtain ⟨hi, rfl⟩ := List.getElem?_eq_some_iff.1 h
  rw [List.take_succ_eq_append_getElem hi, cutR_append]
  simp [cutR]
theorem cutR_bound {S : Nat → Bool} : ∀ {A : List ArcD}, (∀ x ∈ A, 0 ≤ x.r ∧ x.r ≤ 20) → 0 ≤ cutR S A ∧ cutR S A ≤ 20 * (A.length : Int)
  | [], _ => by simp [cutR]
  | x :: A, h => by
    have h1 := h x (List.mem_cons_self ..)
    have h2 := cutR_bound (S := S) (A := A) fun y hy => h y (List.mem_cons_of_mem _ hy)
    have h3 : 0 ≤ cutAt S x ∧ cutAt S x ≤ 20 := by unfold cutAt; split <;> omega
    simp only [cutR, List.length_cons]
    omega
theorem most_ok {n : Nat} (h : netOkV n A = true) : flowOkV n A (mostF A n) = true ∧ reachedB A (mostF A n) 1 = false := pushed_most h (Nat.le_refl _)
/-- Whatever flow from which node 1 cannot be reached: it has the size of the model's, and it reaches the same nodes. -/
theorem most_is {n : Nat} {F : List Int} (h : flowOkV n A F = true) (h1 : reachedB A F 1 = false) : netO (A.zip F) 0 = mostS n A ∧ reachedB A F = mostO n A := by
  have hn := (flowOk_out h).1
  obtain ⟨g, g1⟩ := most_ok hn
  unfold mostS mostO
  rw [if_pos hn, Int.toNat_natCast]
  exact stop_same h h1 g g1
end

end Go.Proofs.Ytobflidianlomaa
