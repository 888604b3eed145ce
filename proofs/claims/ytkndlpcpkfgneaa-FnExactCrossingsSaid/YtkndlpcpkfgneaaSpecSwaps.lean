/-
  CONTRACTS of spec.l12Count, SwapsAt and RingsAt. No law is proved here.
-/
import Derived.Test.YtkndlpcpkfgneaaSpecRing
namespace Go.Proofs.Ytkndlpcpkfgneaa
set_option maxRecDepth 4096
open Go.ChangeShapes Go.WideShapes Go.ChangeAt Go.RowKit

theorem inR_isS (A B : List Int) (lo hi i m : Nat) (h : ringV A B i = m) : inR A B lo hi i = (decide ((lo : Int) ≤ (m : Int)) && decide ((m : Int) ≤ (hi : Int))) := by
  unfold inR
  rw [h]
  congr 1
  · exact decide_eq_decide.2 (by omega)
  · exact decide_eq_decide.2 (by omega)

set_option maxHeartbeats 2000000 in
theorem specCount (v : Value) (Ws : List (List Int)) (t : Int) (lo hi m : Nat) (hW : Ws.length ≤ 2000000) (hT : totW Ws ≤ 2000000) (HM : Hid (cntV Ws t lo hi = m)) (w : World) (hv : WaysAt w v Ws) (hwf : (Lit.int .i64 t).wf = true) :
    Calls Try.prog 46 #[v, .int .i64 t, .int .i64 (lo : Int), .int .i64 (hi : Int)] w (Made w (.int .i64 (m : Int))) := by
  obtain ⟨r, HR⟩ : ∃ r, Hid (levV Ws t = r) := ⟨_, rfl⟩
  obtain ⟨q, HQ⟩ : ∃ q, Hid (meetV Ws t = q) := ⟨_, rfl⟩
  have HL := Lib.hid (specLevel v Ws t r hW hT HR w hv hwf)
  have HME : Hid (∀ wr, Below w.heap.size w wr → Calls Try.prog 60 #[v, .int .i64 t] wr (Made wr (.bool q))) := Lib.hid fun wr hB => specMeet v Ws t q hW hT HQ wr (waysAt_on hv hB) hwf
  have HVV := Lib.hid hv
  have HT := Lib.hid hT
  obtain ⟨av, cv, rfl, _⟩ := hv
  clear hT hwf
  cases r with
  | false =>
    obtain rfl : m = 0 := by rw [← HM.out]; exact cnt_no fun h => by have := h.1; rw [HR.out] at this; cases this
    go_enter Try.func46, Try.ntmps46
    go_wp2_with fail
    refine HL.out.mono ?_
    rintro e w1 ⟨rfl, hB⟩
    go_wp2_with fail
    go_ret
    exact ⟨rfl, hB⟩
  | true =>
    cases q with
    | true =>
      obtain rfl : m = 0 := by rw [← HM.out]; exact cnt_no fun h => by have := h.2; rw [HQ.out] at this; cases this
      go_enter Try.func46, Try.ntmps46
      go_wp2_with fail
      refine HL.out.mono ?_
      rintro e w1 ⟨rfl, hB⟩
      go_wp2_with fail
      refine (HME.out w1 hB).mono ?_
      rintro e w2 ⟨rfl, hb⟩
      replace hB := hB.trans (hb.mono hB.size)
      clear hb
      go_wp2_with fail
      go_ret
      exact ⟨rfl, hB⟩
    | false =>
      obtain ⟨n, rfl⟩ := levS_out HR.out
      have HMC : Hid (countR (colL Ws n) (colL Ws (n + 1)) lo hi Ws.length = m) := Lib.hid (by rw [← HM.out, cnt_yes HR.out HQ.out])
      obtain ⟨A, HA⟩ : ∃ A, Hid (colL Ws n = A) := ⟨_, rfl⟩
      obtain ⟨B, HBB⟩ : ∃ B, Hid (colL Ws (n + 1) = B) := ⟨_, rfl⟩
      have HCI : Hid (∀ (i : Nat) (wr : World), i < Ws.length → Below w.heap.size w wr → Calls Try.prog 20 #[.slice av Ws.length cv, .int .i64 (n : Int), .int .i64 (i : Int)] wr fun e w' => e = .returned (.int .i64 ((ringV A B i : Nat) : Int)) ∧ ∃ q, w' = wr.drewN q) := Lib.hid fun i wr hi hB => specRing _ Ws n i _ HT.out HR.out HQ.out hi (Lib.hid (by rw [HA.out, HBB.out])) wr (waysAt_on HVV.out hB)
      rw [HA.out, HBB.out] at HMC
      clear HM HVV
      go_enter Try.func46, Try.ntmps46
      go_wp2_with fail
      refine HL.out.mono ?_
      rintro e w1 ⟨rfl, hB⟩
      go_wp2_with fail
      refine (HME.out w1 hB).mono ?_
      rintro e w2 ⟨rfl, hb⟩
      replace hB := hB.trans (hb.mono hB.size)
      have HB2 := Lib.hid hB
      clear hb hB HL HME
      go_wp2_with fail
      go_loopw [9, 10] (fun s x wr => ∃ i : Nat, i ≤ Ws.length ∧ s = .int .i64 ((countR A B lo hi i : Nat) : Int) ∧ x = .int .i64 i ∧ Below w.heap.size w wr) (fun _ x _ => Ws.length - (intOf x).toNat)
      case atStart => exact ⟨0, Nat.zero_le _, by rw [countR_zero]; rfl, rfl, HB2.out⟩
      case round =>
        clear HB2
        obtain ⟨i, hiW, rfl, rfl, hB⟩ := hrel
        by_cases hlt : i < Ws.length
        · have hlt2 : (i : Int) < (Ws.length : Int) := by omega
          have HC := Lib.hid (HCI.out i wr hlt hB)
          have hcl := countR_le (A := A) (B := B) (lo := lo) (hi := hi) (n := i)
          have HS := Lib.hid (countR_succ (A := A) (B := B) (lo := lo) (hi := hi) (n := i))
          obtain ⟨d, HD⟩ : ∃ d, Hid (ringV A B i = d) := ⟨_, rfl⟩
          obtain ⟨cc, HCC⟩ : ∃ cc, Hid (countR A B lo hi i = cc) := ⟨_, rfl⟩
          rw [HD.out] at HC
          rw [HCC.out] at hcl HS ⊢
          obtain ⟨b, HBR⟩ : ∃ b, Hid ((decide ((lo : Int) ≤ (d : Int)) && decide ((d : Int) ≤ (hi : Int))) = b) := ⟨_, rfl⟩
          have HIN : Hid (inR A B lo hi i = b) := Lib.hid (by rw [inR_isS A B lo hi i d HD.out, HBR.out])
          have HWI := Lib.hid (specRange (d : Int) (lo : Int) (hi : Int) b HBR)
          have HBW := Lib.hid hB
          clear hB
          cases b with
          | true =>
            go_wp2_with (first | (go_at_call 20; refine HC.out.mono ?_; rintro e w' ⟨rfl, q7, rfl⟩; have HB3 := Lib.hid (below_drewN HBW.out q7)) | (go_at_call 36; refine (HWI.out _).mono ?_; rintro e w' ⟨rfl, rfl⟩))
            go_roundw
            case rel => exact ⟨i + 1, by omega, by rw [HS.out, HIN.out, if_pos rfl]; go_num, by go_num, HB3.out⟩
            case measure => simp [intOf]; omega
          | false =>
            go_wp2_with (first | (go_at_call 20; refine HC.out.mono ?_; rintro e w' ⟨rfl, q7, rfl⟩; have HB3 := Lib.hid (below_drewN HBW.out q7)) | (go_at_call 36; refine (HWI.out _).mono ?_; rintro e w' ⟨rfl, rfl⟩))
            go_roundw
            case rel => exact ⟨i + 1, by omega, by rw [HS.out, HIN.out, if_neg (by decide)]; go_num, by go_num, HB3.out⟩
            case measure => simp [intOf]; omega
        · obtain rfl : i = Ws.length := by omega
          have hnl : ¬ (Ws.length : Int) < (Ws.length : Int) := by omega
          rw [HMC.out]
          go_wp2
          go_ret
          exact ⟨rfl, hB⟩

theorem specSwaps (v : Value) (Ws : List (List Int)) (t : Int) (m : Nat) (hW : Ws.length ≤ 2000000) (hT : totW Ws ≤ 2000000) (HM : Hid (swapsV Ws t = m)) (w : World) (hv : WaysAt w v Ws) (hwf : (Lit.int .i64 t).wf = true) :
    Calls Try.prog 27 #[v, .int .i64 t] w (Made w (.int .i64 (m : Int))) := by
  obtain ⟨q, HQ⟩ : ∃ q, Hid (cntV Ws t 2 2 = q) := ⟨_, rfl⟩
  have hq : q ≤ Ws.length := by rw [← HQ.out]; exact cnt_le
  have e : m = q / 2 := by rw [← HM.out]; unfold swapsV; rw [HQ.out]
  have HC := Lib.hid (specCount v Ws t 2 2 q hW hT HQ w hv hwf)
  have hdiv : (q : Int).tdiv 2 = ((q / 2 : Nat) : Int) := rfl
  subst e
  obtain ⟨av, cv, rfl, _⟩ := hv
  clear hwf hT
  go_enter Try.func27, Try.ntmps27
  go_wp2_with fail
  refine HC.out.mono ?_
  rintro e w1 ⟨rfl, hB⟩
  go_wp2_with fail
  go_ret
  exact ⟨by go_num, hB⟩
theorem specRings (v : Value) (Ws : List (List Int)) (t : Int) (m : Nat) (hW : Ws.length ≤ 2000000) (hT : totW Ws ≤ 2000000) (HM : Hid (ringsV Ws t = m)) (w : World) (hv : WaysAt w v Ws) (hwf : (Lit.int .i64 t).wf = true) :
    Calls Try.prog 28 #[v, .int .i64 t] w (Made w (.int .i64 (m : Int))) := by
  have HC := Lib.hid (specCount v Ws t 3 10 m hW hT HM w hv hwf)
  obtain ⟨av, cv, rfl, _⟩ := hv
  clear hwf hT
  go_enter Try.func28, Try.ntmps28
  go_wp2_with fail
  refine HC.out.mono ?_
  rintro e w1 ⟨rfl, hB⟩
  go_wp2_with fail
  go_ret
  exact ⟨rfl, hB⟩

end Go.Proofs.Ytkndlpcpkfgneaa
