/-
  CONTRACTS on cells of grids: spec.FreeAt, spec.ZoneOf, spec.ParkAt and the program's rowWith, FreeAt, ZoneOf, ParkAt. No law is proved here.
-/
import Derived.Test.YtcofajganakbiaaGridLaw
namespace Go.Proofs.Ytcofajganakbiaa
open Go.ChangeShapes Go.WideShapes Go.ChangeAt Go.RowKit

/-- The cell c exists in a valid map. -/
noncomputable def cellOk (W H : Int) (C : ByteArray) (c : Int) : Bool := gok W H C && (decide (0 ≤ c) && decide (c < (C.size : Int)))
noncomputable def freeV (W H : Int) (C : ByteArray) (c : Int) : Bool := cellOk W H C c && freeB (byteAt C c.toNat)
noncomputable def zoneV (W H : Int) (C : ByteArray) (c : Int) : Int := if cellOk W H C c = true then zoneI (byteAt C c.toNat) else -1
noncomputable def parkV (W H : Int) (C : ByteArray) (c : Int) : Bool := cellOk W H C c && parkB (byteAt C c.toNat)

theorem cellOk_yes {W H : Int} {C : ByteArray} {n : Nat} (hg : gok W H C = true) (h : n < C.size) : cellOk W H C n = true := by
  unfold cellOk
  rw [hg]
  simp
  exact h
theorem cellOk_out {W H : Int} {C : ByteArray} {c : Int} (h : cellOk W H C c = true) : gok W H C = true ∧ ∃ n : Nat, c = n ∧ n < C.size := by
  unfold cellOk at h
  simp only [Bool.and_eq_true, decide_eq_true_eq] at h
  exact ⟨h.1, c.toNat, by omega, by omega⟩
/-- Why a cell is none. -/
theorem cellOk_no {W H : Int} {C : ByteArray} {c : Int} (h : ¬ cellOk W H C c = true) : gok W H C = false ∨ (gok W H C = true ∧ c < 0) ∨ (gok W H C = true ∧ 0 ≤ c ∧ (C.size : Int) ≤ c) := by
  unfold cellOk at h
  simp only [Bool.and_eq_true, decide_eq_true_eq] at h
  cases hg : gok W H C with
  | false => exact .inl rfl
  | true =>
    by_cases h0 : c < 0
    · exact .inr (.inl ⟨rfl, h0⟩)
    · refine .inr (.inr ⟨rfl, by omega, ?_⟩)
      rcases Int.lt_or_le c (C.size : Int) with h1 | h1
      · exact absurd ⟨hg, by omega, h1⟩ h
      · exact h1
theorem gok_byte {W H : Int} {C : ByteArray} {n : Nat} (hg : gok W H C = true) (h : n < C.size) : kindB (byteAt C n) = true := (gok_out hg).2 n h

theorem specFree_no (W H : Int) (C : ByteArray) (c : Int) (hC : C.size ≤ 1048576) (h : ¬ cellOk W H C c = true) (w : World) :
    Calls Try.prog 14 #[.agg #[.int .i64 W, .int .i64 H, .string C], .int .i64 c] w (Made w (.bool false)) := by
  rcases cellOk_no h with hg | ⟨hg, h1⟩ | ⟨hg, h1, h2⟩
  all_goals
    clear h
    have hB := Below.refl (w.alloc (.cells #[.int .i64 W, .int .i64 H, .string C] 26)).heap.size (w.alloc (.cells #[.int .i64 W, .int .i64 H, .string C] 26))
    go_enter Try.func14, Try.ntmps14
    go_wp2_with (go_at_call 11; (with_reducible refine (specGridOk W H C hC _).mono ?_); rintro e w1 ⟨rfl, hb⟩; replace hB := chain hB hb; obtain ⟨c0, c1, c2⟩ := box_cells hB; clear hb)
    go_ret
    exact ⟨rfl, box_below hB⟩

theorem specFree_yes (W H : Int) (C : ByteArray) (n : Nat) (b : Bool) (hC : C.size ≤ 1048576) (hg : gok W H C = true) (hn : n < C.size) (HB : Hid (freeB (byteAt C n) = b)) (w : World) :
    Calls Try.prog 14 #[.agg #[.int .i64 W, .int .i64 H, .string C], .int .i64 n] w (Made w (.bool b)) := by
  have hat := run_at (P := Try.prog) 9 C .i64 n n rfl hn Try.underlying9
  have hn2 : (n : Int) < (C.size : Int) := by omega
  have hB := Below.refl (w.alloc (.cells #[.int .i64 W, .int .i64 H, .string C] 26)).heap.size (w.alloc (.cells #[.int .i64 W, .int .i64 H, .string C] 26))
  go_enter Try.func14, Try.ntmps14
  go_wp2_with (go_at_call 11; (with_reducible refine (specGridOk W H C hC _).mono ?_); rintro e w1 ⟨rfl, hb⟩; replace hB := chain hB hb; obtain ⟨c0, c1, c2⟩ := box_cells hB; clear hb)
  go_ret
  exact ⟨bool_ret HB.out (by unfold freeB; simp [bne, Bool.beq_eq_decide_eq]), box_below hB⟩

theorem specFreeAt (W H : Int) (C : ByteArray) (c : Int) (hC : C.size ≤ 1048576) (w : World) :
    Calls Try.prog 14 #[.agg #[.int .i64 W, .int .i64 H, .string C], .int .i64 c] w (Made w (.bool (freeV W H C c))) := by
  by_cases h : cellOk W H C c = true
  · obtain ⟨hg, n, rfl, hn⟩ := cellOk_out h
    exact specFree_yes W H C n _ hC hg hn (Lib.hid (by unfold freeV; rw [h]; rfl)) w
  · rw [show freeV W H C c = false from by unfold freeV; simp [h]]
    exact specFree_no W H C c hC h w

theorem specZone_no (W H : Int) (C : ByteArray) (c : Int) (hC : C.size ≤ 1048576) (h : ¬ cellOk W H C c = true) (w : World) :
    Calls Try.prog 16 #[.agg #[.int .i64 W, .int .i64 H, .string C], .int .i64 c] w (Made w (.int .i64 (-1))) := by
  have hf : freeV W H C c = false := by unfold freeV; simp [h]
  clear h
  have hB := Below.refl (w.alloc (.cells #[.int .i64 W, .int .i64 H, .string C] 26)).heap.size (w.alloc (.cells #[.int .i64 W, .int .i64 H, .string C] 26))
  go_enter Try.func16, Try.ntmps16
  go_wp2_with (go_at_call 14; (with_reducible refine (specFreeAt W H C c hC _).mono ?_); rintro e w1 ⟨rfl, hb⟩; replace hB := chain hB hb; obtain ⟨c0, c1, c2⟩ := box_cells hB; clear hb)
  go_ret
  exact ⟨rfl, box_below hB⟩

theorem freeV_at {W H : Int} {C : ByteArray} {n : Nat} (hg : gok W H C = true) (hn : n < C.size) : freeV W H C n = freeB (byteAt C n) := by
  unfold freeV
  rw [cellOk_yes hg hn]
  rfl

theorem specZone_yes (W H : Int) (C : ByteArray) (n : Nat) (z : Int) (hC : C.size ≤ 1048576) (hg : gok W H C = true) (hn : n < C.size) (HZ : Hid (zoneI (byteAt C n) = z)) (w : World) :
    Calls Try.prog 16 #[.agg #[.int .i64 W, .int .i64 H, .string C], .int .i64 n] w (Made w (.int .i64 z)) := by
  have hat := run_at (P := Try.prog) 9 C .i64 n n rfl hn Try.underlying9
  have hbd := byteAt_bd C n
  have hk := of_decide_eq_true (gok_byte hg hn)
  have HF := Lib.hid (freeV_at hg hn)
  clear hg
  have hB := Below.refl (w.alloc (.cells #[.int .i64 W, .int .i64 H, .string C] 26)).heap.size (w.alloc (.cells #[.int .i64 W, .int .i64 H, .string C] 26))
  by_cases h1 : byteAt C n = 35
  · have hf : freeV W H C n = false := by rw [HF.out, h1]; rfl
    have HZ2 : Hid (-1 = z) := Lib.hid (by rw [← HZ.out, h1]; rfl)
    clear hk
    go_enter Try.func16, Try.ntmps16
    go_wp2_with (go_at_call 14; (with_reducible refine (specFreeAt W H C n hC _).mono ?_); rintro e w1 ⟨rfl, hb⟩; replace hB := chain hB hb; obtain ⟨c0, c1, c2⟩ := box_cells hB; clear hb)
    go_ret
    exact ⟨ret_int HZ2.out, box_below hB⟩
  · have hf : freeV W H C n = true := by rw [HF.out]; unfold freeB; simpa using h1
    by_cases h2 : byteAt C n = 46
    · have HZ2 : Hid (-1 = z) := Lib.hid (by rw [← HZ.out, h2]; rfl)
      clear hk
      go_enter Try.func16, Try.ntmps16
      go_wp2_with (go_at_call 14; (with_reducible refine (specFreeAt W H C n hC _).mono ?_); rintro e w1 ⟨rfl, hb⟩; replace hB := chain hB hb; obtain ⟨c0, c1, c2⟩ := box_cells hB; clear hb)
      go_ret
      exact ⟨ret_int HZ2.out, box_below hB⟩
    · have hn46 : (byteAt C n == 46) = false := by simpa using h2
      by_cases h3 : 97 ≤ byteAt C n
      · have HZ2 : Hid (byteAt C n - 97 = z) := Lib.hid (by rw [← HZ.out]; unfold zoneI; rw [if_neg (by omega), if_pos (by omega)])
        clear hk
        go_enter Try.func16, Try.ntmps16
        go_wp2_with (go_at_call 14; (with_reducible refine (specFreeAt W H C n hC _).mono ?_); rintro e w1 ⟨rfl, hb⟩; replace hB := chain hB hb; obtain ⟨c0, c1, c2⟩ := box_cells hB; clear hb)
        go_ret
        exact ⟨ret_int HZ2.out, box_below hB⟩
      · have HZ2 : Hid (byteAt C n - 65 = z) := Lib.hid (by rw [← HZ.out]; unfold zoneI; rw [if_pos (by omega)])
        clear hk
        go_enter Try.func16, Try.ntmps16
        go_wp2_with (go_at_call 14; (with_reducible refine (specFreeAt W H C n hC _).mono ?_); rintro e w1 ⟨rfl, hb⟩; replace hB := chain hB hb; obtain ⟨c0, c1, c2⟩ := box_cells hB; clear hb)
        go_ret
        exact ⟨ret_int HZ2.out, box_below hB⟩

theorem specZoneOf (W H : Int) (C : ByteArray) (c : Int) (hC : C.size ≤ 1048576) (w : World) :
    Calls Try.prog 16 #[.agg #[.int .i64 W, .int .i64 H, .string C], .int .i64 c] w (Made w (.int .i64 (zoneV W H C c))) := by
  by_cases h : cellOk W H C c = true
  · obtain ⟨hg, n, rfl, hn⟩ := cellOk_out h
    exact specZone_yes W H C n _ hC hg hn (Lib.hid (by unfold zoneV; rw [if_pos h]; rfl)) w
  · rw [show zoneV W H C c = -1 from by unfold zoneV; rw [if_neg h]]
    exact specZone_no W H C c hC h w

theorem specPark_no (W H : Int) (C : ByteArray) (c : Int) (hC : C.size ≤ 1048576) (h : ¬ cellOk W H C c = true) (w : World) :
    Calls Try.prog 18 #[.agg #[.int .i64 W, .int .i64 H, .string C], .int .i64 c] w (Made w (.bool false)) := by
  have hf : freeV W H C c = false := by unfold freeV; simp [h]
  clear h
  have hB := Below.refl (w.alloc (.cells #[.int .i64 W, .int .i64 H, .string C] 26)).heap.size (w.alloc (.cells #[.int .i64 W, .int .i64 H, .string C] 26))
  go_enter Try.func18, Try.ntmps18
  go_wp2_with (go_at_call 14; (with_reducible refine (specFreeAt W H C c hC _).mono ?_); rintro e w1 ⟨rfl, hb⟩; replace hB := chain hB hb; obtain ⟨c0, c1, c2⟩ := box_cells hB; clear hb)
  go_ret
  exact ⟨rfl, box_below hB⟩

theorem specPark_yes (W H : Int) (C : ByteArray) (n : Nat) (b : Bool) (hC : C.size ≤ 1048576) (hg : gok W H C = true) (hn : n < C.size) (HZ : Hid (parkB (byteAt C n) = b)) (w : World) :
    Calls Try.prog 18 #[.agg #[.int .i64 W, .int .i64 H, .string C], .int .i64 n] w (Made w (.bool b)) := by
  have hat := run_at (P := Try.prog) 9 C .i64 n n rfl hn Try.underlying9
  have hbd := byteAt_bd C n
  have HF := Lib.hid (freeV_at hg hn)
  clear hg
  have hB := Below.refl (w.alloc (.cells #[.int .i64 W, .int .i64 H, .string C] 26)).heap.size (w.alloc (.cells #[.int .i64 W, .int .i64 H, .string C] 26))
  by_cases h1 : byteAt C n = 35
  · have hf : freeV W H C n = false := by rw [HF.out, h1]; rfl
    have HZ2 : Hid (false = b) := Lib.hid (by rw [← HZ.out, h1]; rfl)
    go_enter Try.func18, Try.ntmps18
    go_wp2_with (go_at_call 14; (with_reducible refine (specFreeAt W H C n hC _).mono ?_); rintro e w1 ⟨rfl, hb⟩; replace hB := chain hB hb; obtain ⟨c0, c1, c2⟩ := box_cells hB; clear hb)
    go_ret
    exact ⟨bool_ret HZ2.out rfl, box_below hB⟩
  · have hf : freeV W H C n = true := by rw [HF.out]; unfold freeB; simpa using h1
    by_cases h2 : 65 ≤ byteAt C n
    all_goals
      go_enter Try.func18, Try.ntmps18
      go_wp2_with (go_at_call 14; (with_reducible refine (specFreeAt W H C n hC _).mono ?_); rintro e w1 ⟨rfl, hb⟩; replace hB := chain hB hb; obtain ⟨c0, c1, c2⟩ := box_cells hB; clear hb)
      go_ret
      exact ⟨bool_ret HZ.out (by unfold parkB; rw [Bool.eq_iff_iff]; simp; try omega), box_below hB⟩

theorem specParkAt (W H : Int) (C : ByteArray) (c : Int) (hC : C.size ≤ 1048576) (w : World) :
    Calls Try.prog 18 #[.agg #[.int .i64 W, .int .i64 H, .string C], .int .i64 c] w (Made w (.bool (parkV W H C c))) := by
  by_cases h : cellOk W H C c = true
  · obtain ⟨hg, n, rfl, hn⟩ := cellOk_out h
    exact specPark_yes W H C n _ hC hg hn (Lib.hid (by unfold parkV; rw [h]; rfl)) w
  · rw [show parkV W H C c = false from by unfold parkV; simp [h]]
    exact specPark_no W H C c hC h w

end Go.Proofs.Ytcofajganakbiaa
