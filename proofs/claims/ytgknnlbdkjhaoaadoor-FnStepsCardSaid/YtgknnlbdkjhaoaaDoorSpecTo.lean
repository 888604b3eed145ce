/-
  CONTRACT of spec.StepsTo. No law is proved here.
-/
import Derived.Test.YtgknnlbdkjhaoaaDoorSpecSteps
namespace Go.Proofs.YtgknnlbdkjhaoaaDoor
open Go.ChangeShapes Go.WideShapes Go.ChangeAt Go.RowKit

/-- The distance of two free cells, or -1. -/
noncomputable def stepsToV (W H : Int) (C : ByteArray) (a b : Int) : Int := if freeV W H C a = true ∧ freeV W H C b = true then runB (nbN W H C) C.size (srcN [a]) C.size b.toNat else -1

theorem free_in {W H : Int} {C : ByteArray} {c : Int} (h : freeV W H C c = true) : gok W H C = true ∧ ∃ n : Nat, c = n ∧ n < C.size := by
  unfold freeV at h
  simp only [Bool.and_eq_true] at h
  exact cellOk_out h.1
theorem ints_cell1 (w : World) (x : Int) (e : TypeId) : Ints (w.alloc (.cells #[.int .i64 x] e)) (.slice (some ⟨w.heap.size, 0, none⟩) 1 1) [x] :=
  .inr ⟨w.heap.size, 1, rfl, by simp, fun j y hy => by
    rw [cell_of_row _ _ j _ _ _ (heap_alloc_new w _)]
    match j, hy with
    | 0, hy => exact congrArg some (congrArg (Value.int .i64) (Option.some.inj hy))⟩

theorem specTo_no (W H : Int) (C : ByteArray) (a b : Int) (hC : C.size ≤ 1048576) (h : ¬ (freeV W H C a = true ∧ freeV W H C b = true)) (w : World) :
    Calls Tryd.prog 21 #[.agg #[.int .i64 W, .int .i64 H, .string C], .int .i64 a, .int .i64 b] w (Made w (.int .i64 (-1))) := by
  have hB := Below.refl (w.alloc (.cells #[.int .i64 W, .int .i64 H, .string C] 25)).heap.size (w.alloc (.cells #[.int .i64 W, .int .i64 H, .string C] 25))
  cases ha : freeV W H C a with
  | false =>
    have HA := Lib.hid ha
    clear h ha
    go_enter Tryd.func21, Tryd.ntmps21
    go_wp2_with (go_at_call 36; (with_reducible refine (specFreeTo W H C a false hC HA _).mono ?_); rintro e w1 ⟨rfl, hb⟩; replace hB := chain hB hb; obtain ⟨c0, c1, c2⟩ := box_cells hB; clear hb)
    go_ret
    exact ⟨rfl, box_below hB⟩
  | true =>
    have HA := Lib.hid ha
    have HBF : Hid (freeV W H C b = false) := Lib.hid (by
      cases hb : freeV W H C b with
      | false => rfl
      | true => exact absurd ⟨ha, hb⟩ h)
    clear h ha
    go_enter Tryd.func21, Tryd.ntmps21
    go_wp2_with fail
    refine (specFreeTo W H C a true hC HA _).mono ?_
    rintro e w1 ⟨rfl, hb⟩
    replace hB := chain hB hb
    obtain ⟨c0, c1, c2⟩ := box_cells hB
    clear hb
    go_wp2_with fail
    refine (specFreeTo W H C b false hC HBF _).mono ?_
    rintro e w2 ⟨rfl, hb⟩
    replace hB := chain hB hb
    go_wp2_with fail
    go_ret
    exact ⟨rfl, box_below hB⟩

set_option maxHeartbeats 400000 in
theorem specTo_yes (W H : Int) (C : ByteArray) (a : Int) (n : Nat) (z : Int) (hC : C.size ≤ 1048576) (ha : freeV W H C a = true) (hb : freeV W H C n = true) (hn : n < C.size) (HZ : Hid (runB (nbN W H C) C.size (srcN [a]) C.size n = z)) (w : World) :
    Calls Tryd.prog 21 #[.agg #[.int .i64 W, .int .i64 H, .string C], .int .i64 a, .int .i64 n] w (Made w (.int .i64 z)) := by
  obtain ⟨F, HF⟩ : ∃ F, Hid (stepsL W H C [a] = F) := ⟨_, rfl⟩
  have hF : F = rowO (runB (nbN W H C) C.size (srcN [a]) C.size) C.size := by
    rw [← HF.out]
    exact if_pos ⟨(free_in ha).1, fun x hx => by rw [List.mem_singleton.1 hx]; exact ha⟩
  have hlen : F.length = C.size := by rw [hF, rowO_len]
  have hat : F[n]? = some z := by rw [hF, rowO_at _ hn, HZ.out]
  have HA := Lib.hid ha
  have HBB := Lib.hid hb
  have HLEN := Lib.hid hlen
  have HAT := Lib.hid hat
  clear ha hb hF hlen hat
  have hB := Below.refl (w.alloc (.cells #[.int .i64 W, .int .i64 H, .string C] 25)).heap.size (w.alloc (.cells #[.int .i64 W, .int .i64 H, .string C] 25))
  go_enter Tryd.func21, Tryd.ntmps21
  go_wp2_with fail
  refine (specFreeTo W H C a true hC HA _).mono ?_
  rintro e w1 ⟨rfl, hb⟩
  replace hB := chain hB hb
  obtain ⟨c0, c1, c2⟩ := box_cells hB
  clear hb
  go_wp2_with fail
  refine (specFreeTo W H C (n : Int) true hC HBB _).mono ?_
  rintro e w2 ⟨rfl, hb⟩
  replace hB := chain hB hb
  obtain ⟨c0, c1, c2⟩ := box_cells hB
  clear hb
  have hI := ints_cell1 w2 a 3
  replace hB := hB.alloc hB.size (.cells #[.int .i64 a] 3)
  go_wp2_with fail
  refine (specSteps W H C [a] F _ hC (by simp) HF _ hI).mono ?_
  rintro e w3 ⟨v, rfl, hown, hb⟩
  replace hB := chain hB hb
  clear hb hI c0 c1 c2
  rw [HLEN.out] at hown
  obtain ⟨g, cap, rfl⟩ : ∃ g cap, v = .slice (some ⟨g, 0, none⟩) C.size cap := by
    rcases hown.2 with ⟨_, h⟩ | ⟨g, cap, cur, h, _⟩
    · omega
    · exact ⟨g, cap, h⟩
  have d1 := own_int hown HAT.out
  have hn2 : (n : Int) < (C.size : Int) := by omega
  clear hown
  go_wp2_with fail
  go_ret
  exact ⟨rfl, box_below hB⟩

theorem specStepsTo (W H : Int) (C : ByteArray) (a b z : Int) (hC : C.size ≤ 1048576) (HZ : Hid (stepsToV W H C a b = z)) (w : World) :
    Calls Tryd.prog 21 #[.agg #[.int .i64 W, .int .i64 H, .string C], .int .i64 a, .int .i64 b] w (Made w (.int .i64 z)) := by
  by_cases h : freeV W H C a = true ∧ freeV W H C b = true
  · obtain ⟨_, n, rfl, hn⟩ := free_in h.2
    exact specTo_yes W H C a n z hC h.1 h.2 hn (Lib.hid (by rw [← HZ.out]; unfold stepsToV; rw [if_pos h]; rfl)) w
  · have e : z = -1 := by rw [← HZ.out]; unfold stepsToV; rw [if_neg h]
    subst e
    exact specTo_no W H C a b hC h w

end Go.Proofs.YtgknnlbdkjhaoaaDoor
