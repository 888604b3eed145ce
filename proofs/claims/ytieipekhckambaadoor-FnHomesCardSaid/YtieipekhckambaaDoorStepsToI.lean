/-
  CONTRACTS of the program's stepsAt and StepsTo. No law is proved here.
-/
import Derived.Test.YtieipekhckambaaDoorStepsI
namespace Go.Proofs.YtieipekhckambaaDoor
set_option maxRecDepth 4096
open Go.ChangeShapes Go.WideShapes Go.ChangeAt Go.RowKit

/-- The list's number at a place, or -1. -/
def atV (L : List Int) (c : Int) : Int := if 0 ≤ c ∧ c < (L.length : Int) then L.getD c.toNat 0 else -1

theorem stepsAtI (L : List Int) (c z : Int) (v : Value) (HZ : Hid (atV L c = z)) (w : World) (hv : Ints w v L) :
    Calls Tryd.prog 34 #[v, .int .i64 c] w fun e w' => e = .returned (.int .i64 z) ∧ w = w' := by
  obtain ⟨av, cv, rfl, HV⟩ := ints_form hv
  clear hv
  by_cases h0 : c < 0
  · have e : z = -1 := by rw [← HZ.out]; exact if_neg (fun h => by omega)
    subst e
    clear HV
    go_enter Tryd.func34, Tryd.ntmps34
    go_wp2
    go_ret
    exact ⟨rfl, rfl⟩
  · by_cases h1 : (L.length : Int) ≤ c
    · have e : z = -1 := by rw [← HZ.out]; exact if_neg (fun h => by omega)
      subst e
      clear HV
      go_enter Tryd.func34, Tryd.ntmps34
      go_wp2
      go_ret
      exact ⟨rfl, rfl⟩
    · obtain ⟨n, rfl⟩ : ∃ n : Nat, c = n := ⟨c.toNat, by omega⟩
      have hn : n < L.length := by omega
      have hx : L[n]? = some z := by
        rw [← HZ.out]
        unfold atV
        rw [if_pos ⟨by omega, by omega⟩, List.getElem?_eq_getElem hn]
        simp [List.getD, hn]
      have h1b : ¬ (L.length : Int) ≤ (n : Int) := h1
      have hn2 : (n : Int) < (L.length : Int) := by omega
      rcases HV with h | ⟨g, rfl, _, hc⟩
      · omega
      · have d0 := hc n z hx
        clear hc hx h0 h1
        go_enter Tryd.func34, Tryd.ntmps34
        go_wp2
        go_ret
        exact ⟨rfl, rfl⟩

theorem rch_free {W H : Int} {C : ByteArray} {a : Int} (ha : freeV W H C a = true) : ∀ (j b : Nat), Rch (nbN W H C) C.size (srcN [a]) j b → freeV W H C b = true := by
  intro j
  induction j with
  | zero =>
    intro b h
    have hb : (b : Int) ∈ [a] := List.contains_iff_mem.1 h
    rw [List.mem_singleton.1 hb]
    exact ha
  | succ j ih =>
    rintro b (h | ⟨p, _, _, hm⟩)
    · exact ih b h
    · obtain ⟨z, hz, hzb⟩ := List.mem_map.1 hm
      obtain ⟨y, rfl, _⟩ := around_in hz
      have hyb : y = b := by simpa using hzb
      rw [← hyb]
      unfold aroundL at hz
      split at hz
      · exact (List.mem_filter.1 hz).2
      · cases hz
theorem atV_steps (W H : Int) (C : ByteArray) (a b : Int) : atV (stepsL W H C [a]) b = stepsToV W H C a b := by
  by_cases ha : freeV W H C a = true
  · have hall : ∀ x ∈ [a], freeV W H C x = true := fun x hx => by rw [List.mem_singleton.1 hx]; exact ha
    have e : stepsL W H C [a] = rowO (runB (nbN W H C) C.size (srcN [a]) C.size) C.size := if_pos ⟨(free_in ha).1, hall⟩
    rw [e]
    unfold atV stepsToV
    rw [rowO_len]
    by_cases hr : 0 ≤ b ∧ b < (C.size : Int)
    · obtain ⟨n, rfl⟩ : ∃ n : Nat, b = n := ⟨b.toNat, by omega⟩
      have hn : n < C.size := by omega
      rw [if_pos hr]
      have e2 : (rowO (runB (nbN W H C) C.size (srcN [a]) C.size) C.size).getD (n : Int).toNat 0 = runB (nbN W H C) C.size (srcN [a]) C.size n := by
        rw [List.getD_eq_getElem?_getD, show (n : Int).toNat = n from rfl, rowO_at _ hn]
        rfl
      rw [e2]
      by_cases hb : freeV W H C n = true
      · rw [if_pos ⟨ha, hb⟩]
        rfl
      · rw [if_neg (fun h => hb h.2)]
        rcases steps_dist hall n with ⟨j, _, hr, _⟩ | ⟨hv, _⟩
        · exact absurd (rch_free ha j n hr) hb
        · exact hv
    · rw [if_neg hr, if_neg]
      rintro ⟨_, hb⟩
      obtain ⟨_, n, rfl, hn⟩ := free_in hb
      exact hr ⟨by omega, by omega⟩
  · have e : stepsL W H C [a] = [] := if_neg (fun h => ha (h.2 a (by simp)))
    rw [e]
    unfold atV stepsToV
    rw [if_neg (c := 0 ≤ b ∧ b < (([] : List Int).length : Int)) (fun h => by have := h.1; have := h.2; simp at this; omega), if_neg (fun h => ha h.1)]

theorem stepsL_len (W H : Int) (C : ByteArray) (L : List Int) : (stepsL W H C L).length ≤ 64 := by
  unfold stepsL
  split
  · rename_i h
    rw [rowO_len]
    exact (gok_size h.1).2
  · exact Nat.zero_le _

theorem implStepsTo (W H : Int) (C : ByteArray) (a b z : Int) (hC : C.size ≤ 1048576) (HZ : Hid (stepsToV W H C a b = z)) (w : World) (hS : SidesAt w) :
    Calls Tryd.prog 13 #[.agg #[.int .i64 W, .int .i64 H, .string C], .int .i64 a, .int .i64 b] w (Made w (.int .i64 z)) := by
  obtain ⟨F, HF⟩ : ∃ F, Hid (stepsL W H C [a] = F) := ⟨_, rfl⟩
  have hFl : F.length ≤ 64 := by rw [← HF.out]; exact stepsL_len W H C [a]
  have HA : Hid (atV F b = z) := Lib.hid (by rw [← HF.out, atV_steps]; exact HZ.out)
  have hB := (Below.refl w.heap.size w).alloc (Nat.le_refl _) (.cells #[.int .i64 W, .int .i64 H, .string C] 25)
  have hI := ints_cell1 (w.alloc (.cells #[.int .i64 W, .int .i64 H, .string C] 25)) a 3
  rw [World.size_alloc] at hI
  have hB2 := hB.alloc hB.size (.cells #[.int .i64 a] 3)
  have HS := Lib.hid (hS.below hB2)
  have HI := Lib.hid hI
  clear hS hI
  go_enter Tryd.func13, Tryd.ntmps13
  go_wp2_with fail
  refine (implSteps W H C [a] F _ hC (by simp) HF _ HI.out HS.out).mono ?_
  rintro e w3 ⟨v, rfl, hown, hb⟩
  have hB3 := hB2.trans (hb.mono hB2.size)
  clear hb hB hB2
  go_wp2_with fail
  refine (stepsAtI F b z v HA _ (ints_of_own hown)).mono ?_
  rintro e w4 ⟨rfl, rfl⟩
  go_wp2_with fail
  go_ret
  exact ⟨rfl, hB3⟩

end Go.Proofs.YtieipekhckambaaDoor
