/-
  Plain lemma: the reading head of a region, walked by the quiet walk's step. No law is proved here.
-/
import Derived.Test.YtgknnlbdkjhaoaaDoorBase
import Derived.StillTail
import Derived.BigQuiet
namespace Go.Proofs.YtgknnlbdkjhaoaaDoor

/-- What a quiet walk in one world says, a still walk says. -/
theorem still_of_quiet {P : Program} {ops : Array Oper} {w : World} {Q : Act → Prop} : ∀ (l : List Oper) (a : Act), wpQuiet P ops (fun w' => w' = w) Q l a → wpStill P ops w Q l a
  | [], _, h => h
  | o :: l, a, h => by
    unfold wpQuiet at h
    unfold wpStill
    split
    · rename_i hw
      rw [if_pos hw] at h
      obtain ⟨v, h1, h2⟩ := h
      have h3 := h1 w rfl
      have h4 := still_of_quiet l _ h2
      unfold Oper.quietAt at h3
      unfold Oper.still
      generalize (execOp a.eval o).run P w = r at h3
      cases r with
      | ok n w' =>
        cases n <;> simp only [Oper.quietUpon] at h3 <;> simp only [Oper.stillUpon]
        case value u => obtain ⟨e, rfl⟩ := h3; exact ⟨e, h4⟩
        case skip => obtain ⟨e, rfl⟩ := h3; exact ⟨e, h4⟩
        case enter f args => exact ⟨h3.1, v, h3.2, h4⟩
      | halt x w' => simp only [Oper.quietUpon] at h3
    · rename_i hw
      rw [if_neg hw] at h
      exact still_of_quiet l _ h

end Go.Proofs.YtgknnlbdkjhaoaaDoor
