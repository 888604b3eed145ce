/-
  CONTRACT of spec.Crossings. No law is proved here.
-/
import Derived.Test.YtkndlpcpkfgneaaSpecReg
import Derived.Test.YtkndlpcpkfgneaaSpecSwaps
namespace Go.Proofs.Ytkndlpcpkfgneaa
set_option maxRecDepth 4096
open Go.ChangeShapes Go.WideShapes Go.ChangeAt Go.RowKit

theorem wide_leS {Ws : List (List Int)} (hT : totW Ws ≤ 2000000) : wideV Ws ≤ 2000000 := by
  unfold wideV
  cases Ws with
  | nil => simp
  | cons a Ws => have := totW_one (Ws := a :: Ws) (k := 0) rfl; simpa using (by omega : a.length ≤ 2000000)
theorem wf_fewS {n : Nat} (h : n ≤ 2000000) : (Lit.int .i64 (n : Int)).wf = true := WalkArith.wf_i64 (by omega)

set_option maxHeartbeats 2000000 in
theorem specCrossings (v : Value) (Ws : List (List Int)) (z : Int) (hW : Ws.length ≤ 2000000) (hT : totW Ws ≤ 2000000) (HZ : Hid (crossV13 Ws = z)) (w : World) (hv : WaysAt w v Ws) :
    Calls Try.prog 13 #[v] w (Made w (.int .i64 z)) := by
  obtain ⟨b, HB⟩ : ∃ b, Hid (regV Ws = b) := ⟨_, rfl⟩
  have HC := Lib.hid (specReg v Ws b hW hT HB w hv)
  have HS : Hid (∀ (t m : Nat) (wr : World), t ≤ 2000000 → Hid (swapsV Ws (t : Int) = m) → Below w.heap.size w wr → Calls Try.prog 27 #[v, .int .i64 (t : Int)] wr (Made wr (.int .i64 (m : Int)))) := Lib.hid fun t m wr ht HR hB => specSwaps v Ws t m hW hT HR wr (waysAt_on hv hB) (wf_fewS ht)
  have HG : Hid (∀ (t m : Nat) (wr : World), t ≤ 2000000 → Hid (ringsV Ws (t : Int) = m) → Below w.heap.size w wr → Calls Try.prog 28 #[v, .int .i64 (t : Int)] wr (Made wr (.int .i64 (m : Int)))) := Lib.hid fun t m wr ht HR hB => specRings v Ws t m hW hT HR wr (waysAt_on hv hB) (wf_fewS ht)
  have hwd := wide_leS hT
  have HVV := Lib.hid hv
  cases b with
  | false =>
    obtain ⟨av, cv, rfl, _⟩ := hv
    clear hT
    obtain rfl : z = -1 := by rw [← HZ.out]; exact if_neg (by rw [HB.out]; decide)
    go_enter Try.func13, Try.ntmps13
    go_wp2_with fail
    refine HC.out.mono ?_
    rintro e w1 ⟨rfl, q, rfl⟩
    go_wp2_with fail
    go_ret
    exact ⟨rfl, below_drewN (Below.refl _ _) _⟩
  | true =>
    have HZ2 : Hid (((crossN Ws (wideV Ws - 1) : Nat) : Int) = z) := Lib.hid (by rw [← HZ.out]; exact (if_pos HB.out).symm)
    have HE := Lib.hid (reg_iff.1 HB.out).1
    have HP := Lib.hid (reg_iff.1 HB.out).2.1
    have h1 := (even_iff.1 HE.out).1
    obtain ⟨L0, hL0⟩ : ∃ L, Ws[0]? = some L := ⟨_, List.getElem?_eq_getElem (by omega)⟩
    obtain ⟨g, a0, _, e, hg, u, b0, rfl, d0, _⟩ := way_at hv hL0
    subst e
    have HW0 := Lib.hid (wide_at hL0)
    have h0N : (0 : Int) < (Ws.length : Int) := by omega
    have HD0 := Lib.hid d0
    clear hT hv hL0 d0
    go_enter Try.func13, Try.ntmps13
    go_wp2_with fail
    refine HC.out.mono ?_
    rintro e wm ⟨rfl, q, rfl⟩
    have HB1 := Lib.hid (below_drewN (Below.refl w.heap.size w) q)
    go_wp2_with fail
    go_loopw [3, 4] (fun s i wr => ∃ k : Nat, k + 1 ≤ wideV Ws ∧ s = .int .i64 ((crossN Ws k : Nat) : Int) ∧ i = .int .i64 k ∧ Below w.heap.size w wr) (fun _ i _ => wideV Ws - (intOf i).toNat)
    case atStart => exact ⟨0, HP.out, rfl, rfl, HB1.out⟩
    case round =>
      obtain ⟨k, hk, rfl, rfl, hbe⟩ := hrel
      have hle := crossN_le (Ws := Ws) (k := k)
      have HSU := Lib.hid (crossN_succ (Ws := Ws) (k := k))
      obtain ⟨n, HN⟩ : ∃ n, Hid (crossN Ws k = n) := ⟨_, rfl⟩
      have d1 := (hbe.cell (p := ⟨g, 0, none⟩) hg).trans HD0.out
      have hwk : IntKind.i64.wrap ((k : Int) + 1) = ((k + 1 : Nat) : Int) := by rw [IntWalk.i64_in _ (by omega)]; omega
      have HBR := Lib.hid hbe
      clear hbe
      by_cases hkw : k + 1 < wideV Ws
      · have hkI : ((k + 1 : Nat) : Int) < (L0.length : Int) := by rw [HW0.out] at hkw; omega
        rw [HN.out] at hle HSU ⊢
        obtain ⟨a, HA⟩ : ∃ a, Hid (swapsV Ws (k : Int) = a) := ⟨_, rfl⟩
        obtain ⟨c, HCC⟩ : ∃ c, Hid (ringsV Ws (k : Int) = c) := ⟨_, rfl⟩
        have hc1 := cross1_le (Ws := Ws) (t := k)
        have HC1 : Hid (cross1 Ws k = 2 * a + c) := Lib.hid (by unfold cross1; rw [HA.out, HCC.out])
        rw [HC1.out] at hc1 HSU
        go_wp2_with fail
        refine (HS.out k a wr (by omega) HA HBR.out).mono ?_
        rintro e w2 ⟨rfl, hb⟩
        have HB3 := Lib.hid (HBR.out.trans (hb.mono HBR.out.size))
        clear hb
        have e1 : IntKind.i64.wrap (2 * (a : Int)) = ((2 * a : Nat) : Int) := by rw [IntWalk.i64_in _ (by omega)]; omega
        have e2 : IntKind.i64.wrap ((n : Int) + ((2 * a : Nat) : Int)) = ((n + 2 * a : Nat) : Int) := by rw [IntWalk.i64_in _ (by omega)]; omega
        go_wp2_with fail
        refine (HG.out k c w2 (by omega) HCC HB3.out).mono ?_
        rintro e w3 ⟨rfl, hb⟩
        have HB4 := Lib.hid (HB3.out.trans (hb.mono HB3.out.size))
        clear hb
        have e3 : IntKind.i64.wrap (((n + 2 * a : Nat) : Int) + (c : Int)) = ((n + (2 * a + c) : Nat) : Int) := by rw [IntWalk.i64_in _ (by omega)]; omega
        go_wp2_with fail
        go_roundw
        case rel => exact ⟨k + 1, by omega, by rw [HSU.out]; exact congrArg (Value.int IntKind.i64) (by omega), by go_num, HB4.out⟩
        case measure => simp [intOf]; omega
      · have hnk : ¬ ((k + 1 : Nat) : Int) < (L0.length : Int) := by rw [HW0.out] at hkw; omega
        have he : k = wideV Ws - 1 := by omega
        have e : ((n : Nat) : Int) = z := by rw [← HZ2.out, ← he, HN.out]
        rw [HN.out] at hle ⊢
        subst e
        clear he HSU
        go_wp2_with fail
        go_ret
        exact ⟨rfl, HBR.out⟩

end Go.Proofs.Ytkndlpcpkfgneaa
