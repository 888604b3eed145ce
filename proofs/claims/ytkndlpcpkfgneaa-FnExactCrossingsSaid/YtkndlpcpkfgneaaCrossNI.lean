/-
  CONTRACT of the program's Crossings. No law is proved here.
-/
import Derived.Test.YtkndlpcpkfgneaaRegTab
import Derived.Test.YtkndlpcpkfgneaaRingI
namespace Go.Proofs.Ytkndlpcpkfgneaa
set_option maxRecDepth 4096
open Go.ChangeShapes Go.WideShapes Go.ChangeAt Go.RowKit

theorem wide_le {Ws : List (List Int)} (hT : totW Ws ≤ 2000000) : wideV Ws ≤ 2000000 := by
  unfold wideV
  cases Ws with
  | nil => simp
  | cons a Ws => have := totW_one (Ws := a :: Ws) (k := 0) rfl; simpa using (by omega : a.length ≤ 2000000)
theorem lev_out_of {Ws : List (List Int)} {k : Nat} (h : evenV Ws = true) (hl : levV Ws (k : Int) = false) : wideV Ws ≤ k + 1 := by
  refine Nat.le_of_not_lt fun h2 => ?_
  rw [lev_yes h (by omega) (by omega)] at hl
  cases hl

set_option maxHeartbeats 2000000 in
theorem implCrossings (v : Value) (Ws : List (List Int)) (z : Int) (hW : Ws.length ≤ 2000000) (hT : totW Ws ≤ 2000000) (HZ : Hid (crossV13 Ws = z)) (w : World) (hv : WaysAt w v Ws) :
    Calls Try.prog 14 #[v] w (Made w (.int .i64 z)) := by
  obtain ⟨b, HB⟩ : ∃ b, Hid (regV Ws = b) := ⟨_, rfl⟩
  have HC := Lib.hid (implRegular v Ws b hW hT HB w hv)
  have HL : Hid (∀ (t : Nat) r (wr : World), t ≤ 2000000 → Hid (levV Ws (t : Int) = r) → Below w.heap.size w wr → Calls Try.prog 29 #[v, .int .i64 (t : Int)] wr (Made wr (.bool r))) := Lib.hid fun t r wr ht HR hB => implLevel v Ws t r hW hT HR wr (waysAt_on hv hB) (wf_few ht)
  have HS : Hid (∀ (t m : Nat) (wr : World), t ≤ 2000000 → Hid (swapsV Ws (t : Int) = m) → Below w.heap.size w wr → Calls Try.prog 30 #[v, .int .i64 (t : Int)] wr (Made wr (.int .i64 (m : Int)))) := Lib.hid fun t m wr ht HR hB => implSwaps v Ws t m hW hT HR wr (waysAt_on hv hB) (wf_few ht)
  have HG : Hid (∀ (t m : Nat) (wr : World), t ≤ 2000000 → Hid (ringsV Ws (t : Int) = m) → Below w.heap.size w wr → Calls Try.prog 31 #[v, .int .i64 (t : Int)] wr (Made wr (.int .i64 (m : Int)))) := Lib.hid fun t m wr ht HR hB => implRings v Ws t m hW hT HR wr (waysAt_on hv hB) (wf_few ht)
  have hwd := wide_le hT
  obtain ⟨av, cv, rfl, _⟩ := hv
  clear hT
  cases b with
  | false =>
    obtain rfl : z = -1 := by rw [← HZ.out]; exact if_neg (by rw [HB.out]; decide)
    go_enter Try.func14, Try.ntmps14
    go_wp2_with fail
    refine HC.out.mono ?_
    rintro e w1 ⟨rfl, hB⟩
    go_wp2_with fail
    go_ret
    exact ⟨rfl, hB⟩
  | true =>
    have HZ2 : Hid (((crossN Ws (wideV Ws - 1) : Nat) : Int) = z) := Lib.hid (by rw [← HZ.out]; exact (if_pos HB.out).symm)
    have HE := Lib.hid (reg_iff.1 HB.out).1
    have HP := Lib.hid (reg_iff.1 HB.out).2.1
    go_enter Try.func14, Try.ntmps14
    go_wp2_with fail
    refine HC.out.mono ?_
    rintro e wm ⟨rfl, hB⟩
    have HB1 := Lib.hid hB
    clear hB
    go_wp2_with fail
    go_loopw [3, 4] (fun s i wr => ∃ k : Nat, k + 1 ≤ wideV Ws ∧ s = .int .i64 ((crossN Ws k : Nat) : Int) ∧ i = .int .i64 k ∧ Below w.heap.size w wr) (fun _ i _ => wideV Ws - (intOf i).toNat)
    case atStart => exact ⟨0, HP.out, rfl, rfl, HB1.out⟩
    case round =>
      obtain ⟨k, hk, rfl, rfl, hbe⟩ := hrel
      obtain ⟨r, HR⟩ : ∃ r, Hid (levV Ws (k : Int) = r) := ⟨_, rfl⟩
      have H1 := Lib.hid (HL.out k r wr (by omega) HR hbe)
      have hle := crossN_le (Ws := Ws) (k := k)
      have HSU := Lib.hid (crossN_succ (Ws := Ws) (k := k))
      obtain ⟨n, HN⟩ : ∃ n, Hid (crossN Ws k = n) := ⟨_, rfl⟩
      have HBR := Lib.hid hbe
      clear hbe
      cases r with
      | false =>
        have he : k = wideV Ws - 1 := by have := lev_out_of HE.out HR.out; omega
        have e : ((n : Nat) : Int) = z := by rw [← HZ2.out, ← he, HN.out]
        rw [HN.out] at hle ⊢
        subst e
        clear he HSU
        go_wp2_with fail
        refine H1.out.mono ?_
        rintro e w1 ⟨rfl, hb⟩
        have HB2 := Lib.hid (HBR.out.trans (hb.mono HBR.out.size))
        clear hb
        go_wp2_with fail
        go_ret
        exact ⟨rfl, HB2.out⟩
      | true =>
        have hkw : k + 1 < wideV Ws := by have := (lev_iff.1 HR.out).2.2; omega
        rw [HN.out] at hle HSU ⊢
        obtain ⟨a, HA⟩ : ∃ a, Hid (swapsV Ws (k : Int) = a) := ⟨_, rfl⟩
        obtain ⟨c, HCC⟩ : ∃ c, Hid (ringsV Ws (k : Int) = c) := ⟨_, rfl⟩
        have hc1 := cross1_le (Ws := Ws) (t := k)
        have HC1 : Hid (cross1 Ws k = 2 * a + c) := Lib.hid (by unfold cross1; rw [HA.out, HCC.out])
        rw [HC1.out] at hc1 HSU
        go_wp2_with fail
        refine H1.out.mono ?_
        rintro e w1 ⟨rfl, hb⟩
        have HB2 := Lib.hid (HBR.out.trans (hb.mono HBR.out.size))
        clear hb
        go_wp2_with fail
        refine (HS.out k a w1 (by omega) HA HB2.out).mono ?_
        rintro e w2 ⟨rfl, hb⟩
        have HB3 := Lib.hid (HB2.out.trans (hb.mono HB2.out.size))
        clear hb
        go_wp2_with fail
        refine (HG.out k c w2 (by omega) HCC HB3.out).mono ?_
        rintro e w3 ⟨rfl, hb⟩
        have HB4 := Lib.hid (HB3.out.trans (hb.mono HB3.out.size))
        clear hb
        have e1 : IntKind.i64.wrap (2 * (a : Int)) = ((2 * a : Nat) : Int) := by rw [IntWalk.i64_in _ (by omega)]; omega
        have e2 : IntKind.i64.wrap (((2 * a : Nat) : Int) + (c : Int)) = ((2 * a + c : Nat) : Int) := by rw [IntWalk.i64_in _ (by omega)]; omega
        have e3 : IntKind.i64.wrap ((n : Int) + ((2 * a + c : Nat) : Int)) = ((n + (2 * a + c) : Nat) : Int) := by rw [IntWalk.i64_in _ (by omega)]; omega
        go_wp2_with fail
        go_roundw
        case rel => exact ⟨k + 1, by omega, by rw [HSU.out]; exact congrArg (Value.int IntKind.i64) (by omega), by go_num, HB4.out⟩
        case measure => simp [intOf]; omega

end Go.Proofs.Ytkndlpcpkfgneaa
