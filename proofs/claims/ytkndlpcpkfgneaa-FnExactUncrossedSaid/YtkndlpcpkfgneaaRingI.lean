/-
  CONTRACTS of the program's circleOf, inCircles, SwapsAt and RingsAt. No law is proved here.
-/
import Derived.Test.YtkndlpcpkfgneaaAheadI
import Derived.Test.YtkndlpcpkfgneaaMeetI
namespace Go.Proofs.Ytkndlpcpkfgneaa
set_option maxRecDepth 4096
open Go.ChangeShapes Go.WideShapes Go.ChangeAt Go.RowKit

theorem walkK_succ {A B : List Int} {i s k : Nat} (h : walkK A B i s = some k) : walkK A B i (s + 1) = nxtV A B k := by
  show (match walkK A B i s with | none => none | some k => nxtV A B k) = _
  rw [h]

set_option maxHeartbeats 2000000 in
theorem implCircle (v : Value) (Ws : List (List Int)) (n i : Nat) (m : Nat) (hT : totW Ws ≤ 2000000) (hlev : levV Ws (n : Int) = true) (hfree : meetV Ws (n : Int) = false) (hi : i < Ws.length) (HZ : Hid (ringV (colL Ws n) (colL Ws (n + 1)) i = m)) (w : World) (hv : WaysAt w v Ws) :
    Calls Try.prog 43 #[v, .int .i64 (n : Int), .int .i64 (i : Int)] w (Made w (.int .i64 (m : Int))) := by
  have hW10 := (even_iff.1 (lev_iff.1 hlev).1).2.1
  have hnd := (free_nodup hlev hfree).2
  have hAl : (colL Ws n).length = Ws.length := col_len
  have hBl : (colL Ws (n + 1)).length = Ws.length := col_len
  have HT := Lib.hid hT
  have HLEV := Lib.hid hlev
  have HVV := Lib.hid hv
  have HCALL : Hid (∀ (k : Nat) (wr : World), k < Ws.length → Below w.heap.size w wr → Calls Try.prog 56 #[v, .int .i64 (n : Int), .int .i64 (k : Int)] wr (Made wr (.int .i64 (nxtI (nxtV (colL Ws n) (colL Ws (n + 1)) k))))) := Lib.hid fun k wr hk hB => implAhead v Ws n k _ hT hlev hk (Lib.hid rfl) wr (waysAt_on hv hB)
  obtain ⟨A, HA⟩ : ∃ A, Hid (colL Ws n = A) := ⟨_, rfl⟩
  obtain ⟨B, HBB⟩ : ∃ B, Hid (colL Ws (n + 1) = B) := ⟨_, rfl⟩
  rw [HA.out, HBB.out] at HCALL HZ
  rw [HA.out] at hAl
  rw [HBB.out] at hnd hBl
  have HND := Lib.hid hnd
  have HAB := Lib.hid (hAl.trans hBl.symm)
  have HIA : Hid (i < A.length) := Lib.hid (by omega)
  have HALW := Lib.hid hAl
  obtain ⟨g, _, c, e, _⟩ := way_at hv (List.getElem?_eq_getElem hi)
  subst e
  clear hnd hAl hBl hv hlev hfree hT
  go_enter Try.func43, Try.ntmps43
  go_wp2_with fail
  refine (HCALL.out i w hi (Below.refl _ _)).mono ?_
  rintro e w1 ⟨rfl, hB⟩
  go_wp2_with fail
  go_loopw [7, 8] (fun s x wr => ∃ r : Nat, s = .int .i64 r ∧ x = .int .i64 (nxtI (walkK A B i r)) ∧ Hid (OnWay A B i r) ∧ Below w.heap.size w wr) (fun s _ _ => Ws.length - (intOf s).toNat)
  case atStart => exact ⟨1, rfl, by rw [walkK_succ (A := A) (B := B) (i := i) (s := 0) rfl], Lib.hid on_one, hB⟩
  case round =>
    clear hB
    obtain ⟨r, rfl, rfl, HON, hB⟩ := hrel
    have hrl : r ≤ Ws.length := by
      have := on_le HND.out HAB.out HIA.out HON.out
      rw [HALW.out] at this
      exact this
    cases hx : walkK A B i r with
    | none =>
      have e : m = 0 := by rw [← HZ.out]; exact on_none HND.out HAB.out HIA.out HON.out hx
      subst e
      have hne : ((-1 : Int) != (i : Int)) = true := by rw [bne_iff_ne]; omega
      have hm : nxtI none = -1 := rfl
      clear hx
      rw [hm]
      go_wp2
      go_ret
      exact ⟨rfl, hB⟩
    | some x =>
      have hm : nxtI (some x) = (x : Int) := rfl
      rw [hm]
      have hxl : x < Ws.length := by
        have := walk_lt HIA.out hx
        rw [HALW.out] at this
        exact this
      have HX := Lib.hid hx
      clear hx hm
      by_cases e : x = i
      · subst e
        have hne : ((x : Int) != (x : Int)) = false := by simp
        have e : m = r := by rw [← HZ.out]; exact on_end HND.out HAB.out HIA.out HON.out HX.out
        subst e
        go_wp2
        go_ret
        exact ⟨rfl, hB⟩
      · have hne : ((x : Int) != (i : Int)) = true := by rw [bne_iff_ne]; omega
        have h0 : ¬ (x : Int) < 0 := by omega
        have HN := Lib.hid (on_next HON.out HX.out e)
        have hrl2 : r + 1 ≤ Ws.length := by
          have := on_le HND.out HAB.out HIA.out HN.out
          rw [HALW.out] at this
          exact this
        have HWS := Lib.hid (walkK_succ HX.out)
        have HC := Lib.hid (HCALL.out x wr hxl hB)
        have HBR := Lib.hid hB
        clear hB e
        go_wp2_with (go_at_call 56; refine HC.out.mono ?_; rintro e w' ⟨rfl, hb'⟩; have HB2 := Lib.hid (HBR.out.trans (hb'.mono HBR.out.size)); clear hb')
        go_roundw
        case rel => exact ⟨r + 1, by go_num, by rw [HWS.out], HN, HB2.out⟩
        case measure => simp [intOf]; omega

theorem inR_is (A B : List Int) (lo hi i m : Nat) (h : ringV A B i = m) : inR A B lo hi i = (decide ((lo : Int) ≤ (m : Int)) && decide ((m : Int) ≤ (hi : Int))) := by
  unfold inR
  rw [h]
  congr 1
  · exact decide_eq_decide.2 (by omega)
  · exact decide_eq_decide.2 (by omega)

set_option maxHeartbeats 2000000 in
theorem implCircles (v : Value) (Ws : List (List Int)) (t : Int) (lo hi m : Nat) (hW : Ws.length ≤ 2000000) (hT : totW Ws ≤ 2000000) (HM : Hid (cntV Ws t lo hi = m)) (w : World) (hv : WaysAt w v Ws) (hwf : (Lit.int .i64 t).wf = true) :
    Calls Try.prog 49 #[v, .int .i64 t, .int .i64 (lo : Int), .int .i64 (hi : Int)] w (Made w (.int .i64 (m : Int))) := by
  obtain ⟨r, HR⟩ : ∃ r, Hid (levV Ws t = r) := ⟨_, rfl⟩
  obtain ⟨q, HQ⟩ : ∃ q, Hid (meetV Ws t = q) := ⟨_, rfl⟩
  have HL := Lib.hid (implLevel v Ws t r hW hT HR w hv hwf)
  have HME : Hid (∀ wr, Below w.heap.size w wr → Calls Try.prog 54 #[v, .int .i64 t] wr (Made wr (.bool q))) := Lib.hid fun wr hB => implMeet v Ws t q hW hT HQ wr (waysAt_on hv hB) hwf
  have HVV := Lib.hid hv
  have HT := Lib.hid hT
  obtain ⟨av, cv, rfl, _⟩ := hv
  clear hT hwf
  cases r with
  | false =>
    obtain rfl : m = 0 := by rw [← HM.out]; exact cnt_no fun h => by have := h.1; rw [HR.out] at this; cases this
    go_enter Try.func49, Try.ntmps49
    go_wp2_with fail
    refine HL.out.mono ?_
    rintro e w1 ⟨rfl, hB⟩
    go_wp2_with fail
    go_ret
    exact ⟨rfl, hB⟩
  | true =>
    cases q with
    | true =>
      obtain rfl : m = 0 := by rw [← HM.out]; exact cnt_no fun h => by have := h.2; rw [HQ.out] at this; cases this
      go_enter Try.func49, Try.ntmps49
      go_wp2_with fail
      refine HL.out.mono ?_
      rintro e w1 ⟨rfl, hB⟩
      go_wp2_with fail
      refine (HME.out w1 hB).mono ?_
      rintro e w2 ⟨rfl, hb⟩
      replace hB := hB.trans (hb.mono hB.size)
      clear hb
      go_wp2_with fail
      go_ret
      exact ⟨rfl, hB⟩
    | false =>
      obtain ⟨n, rfl⟩ := lev_out HR.out
      have HMC : Hid (countR (colL Ws n) (colL Ws (n + 1)) lo hi Ws.length = m) := Lib.hid (by rw [← HM.out, cnt_yes HR.out HQ.out])
      obtain ⟨A, HA⟩ : ∃ A, Hid (colL Ws n = A) := ⟨_, rfl⟩
      obtain ⟨B, HBB⟩ : ∃ B, Hid (colL Ws (n + 1) = B) := ⟨_, rfl⟩
      have HCI : Hid (∀ (i : Nat) (wr : World), i < Ws.length → Below w.heap.size w wr → Calls Try.prog 43 #[.slice av Ws.length cv, .int .i64 (n : Int), .int .i64 (i : Int)] wr (Made wr (.int .i64 ((ringV A B i : Nat) : Int)))) := Lib.hid fun i wr hi hB => implCircle _ Ws n i _ HT.out HR.out HQ.out hi (Lib.hid (by rw [HA.out, HBB.out])) wr (waysAt_on HVV.out hB)
      rw [HA.out, HBB.out] at HMC
      clear HM HVV
      go_enter Try.func49, Try.ntmps49
      go_wp2_with fail
      refine HL.out.mono ?_
      rintro e w1 ⟨rfl, hB⟩
      go_wp2_with fail
      refine (HME.out w1 hB).mono ?_
      rintro e w2 ⟨rfl, hb⟩
      replace hB := hB.trans (hb.mono hB.size)
      have HB2 := Lib.hid hB
      clear hb hB HL HME
      go_wp2_with fail
      go_loopw [9, 10, 22] (fun s _ x wr => ∃ i : Nat, i ≤ Ws.length ∧ s = .int .i64 ((countR A B lo hi i : Nat) : Int) ∧ x = .int .i64 i ∧ Below w.heap.size w wr) (fun _ _ x _ => Ws.length - (intOf x).toNat)
      case atStart => exact ⟨0, Nat.zero_le _, by rw [countR_zero]; rfl, rfl, HB2.out⟩
      case round =>
        clear HB2
        obtain ⟨i, hiW, rfl, rfl, hB⟩ := hrel
        by_cases hlt : i < Ws.length
        · have hlt2 : (i : Int) < (Ws.length : Int) := by omega
          have HC := Lib.hid (HCI.out i wr hlt hB)
          have hcl := countR_le (A := A) (B := B) (lo := lo) (hi := hi) (n := i)
          have HS := Lib.hid (countR_succ (A := A) (B := B) (lo := lo) (hi := hi) (n := i))
          obtain ⟨d, HD⟩ : ∃ d, Hid (ringV A B i = d) := ⟨_, rfl⟩
          obtain ⟨cc, HCC⟩ : ∃ cc, Hid (countR A B lo hi i = cc) := ⟨_, rfl⟩
          rw [HD.out] at HC
          rw [HCC.out] at hcl HS ⊢
          obtain ⟨b, HBR⟩ : ∃ b, Hid ((decide ((lo : Int) ≤ (d : Int)) && decide ((d : Int) ≤ (hi : Int))) = b) := ⟨_, rfl⟩
          have HIN : Hid (inR A B lo hi i = b) := Lib.hid (by rw [inR_is A B lo hi i d HD.out, HBR.out])
          have HWI := Lib.hid (implRange (d : Int) (lo : Int) (hi : Int) b HBR)
          have HBW := Lib.hid hB
          clear hB
          cases b with
          | true =>
            go_wp2_with (first | (go_at_call 43; refine HC.out.mono ?_; rintro e w' ⟨rfl, hb'⟩; have HB3 := Lib.hid (HBW.out.trans (hb'.mono HBW.out.size)); clear hb') | (go_at_call 48; refine (HWI.out _).mono ?_; rintro e w' ⟨rfl, rfl⟩))
            go_roundw
            case rel => exact ⟨i + 1, by omega, by rw [HS.out, HIN.out, if_pos rfl]; go_num, by go_num, HB3.out⟩
            case measure => simp [intOf]; omega
          | false =>
            go_wp2_with (first | (go_at_call 43; refine HC.out.mono ?_; rintro e w' ⟨rfl, hb'⟩; have HB3 := Lib.hid (HBW.out.trans (hb'.mono HBW.out.size)); clear hb') | (go_at_call 48; refine (HWI.out _).mono ?_; rintro e w' ⟨rfl, rfl⟩))
            go_roundw
            case rel => exact ⟨i + 1, by omega, by rw [HS.out, HIN.out, if_neg (by decide)]; go_num, by go_num, HB3.out⟩
            case measure => simp [intOf]; omega
        · obtain rfl : i = Ws.length := by omega
          have hnl : ¬ (Ws.length : Int) < (Ws.length : Int) := by omega
          rw [HMC.out]
          go_wp2
          go_ret
          exact ⟨rfl, hB⟩

theorem implSwaps (v : Value) (Ws : List (List Int)) (t : Int) (m : Nat) (hW : Ws.length ≤ 2000000) (hT : totW Ws ≤ 2000000) (HM : Hid (swapsV Ws t = m)) (w : World) (hv : WaysAt w v Ws) (hwf : (Lit.int .i64 t).wf = true) :
    Calls Try.prog 30 #[v, .int .i64 t] w (Made w (.int .i64 (m : Int))) := by
  obtain ⟨q, HQ⟩ : ∃ q, Hid (cntV Ws t 2 2 = q) := ⟨_, rfl⟩
  have hq : q ≤ Ws.length := by rw [← HQ.out]; exact cnt_le
  have e : m = q / 2 := by rw [← HM.out]; unfold swapsV; rw [HQ.out]
  have HC := Lib.hid (implCircles v Ws t 2 2 q hW hT HQ w hv hwf)
  have hdiv : (q : Int).tdiv 2 = ((q / 2 : Nat) : Int) := rfl
  subst e
  obtain ⟨av, cv, rfl, _⟩ := hv
  clear hwf hT
  go_enter Try.func30, Try.ntmps30
  go_wp2_with fail
  refine HC.out.mono ?_
  rintro e w1 ⟨rfl, hB⟩
  go_wp2_with fail
  go_ret
  exact ⟨by go_num, hB⟩
theorem implRings (v : Value) (Ws : List (List Int)) (t : Int) (m : Nat) (hW : Ws.length ≤ 2000000) (hT : totW Ws ≤ 2000000) (HM : Hid (ringsV Ws t = m)) (w : World) (hv : WaysAt w v Ws) (hwf : (Lit.int .i64 t).wf = true) :
    Calls Try.prog 31 #[v, .int .i64 t] w (Made w (.int .i64 (m : Int))) := by
  have HC := Lib.hid (implCircles v Ws t 3 10 m hW hT HM w hv hwf)
  obtain ⟨av, cv, rfl, _⟩ := hv
  clear hwf hT
  go_enter Try.func31, Try.ntmps31
  go_wp2_with fail
  refine HC.out.mono ?_
  rintro e w1 ⟨rfl, hB⟩
  go_wp2_with fail
  go_ret
  exact ⟨rfl, hB⟩

end Go.Proofs.Ytkndlpcpkfgneaa
