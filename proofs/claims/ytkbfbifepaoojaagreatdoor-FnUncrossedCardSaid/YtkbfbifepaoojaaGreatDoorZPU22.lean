/-
  CONTRACT of the program's MeetAt. No law is proved here.
  CONTRACTS of the program's circleOf, inCircles, SwapsAt and RingsAt. No law is proved here.
-/
import Derived.Test.YtkbfbifepaoojaaGreatDoorZPU21
namespace Go.Proofs.YtkbfbifepaoojaaGreatDoor
set_option maxRecDepth 4096
open Go.ChangeShapes Go.WideShapes Go.ChangeAt Go.RowKit

theorem lev_out {Ws : List (List Int)} {t : Int} (h : levV Ws t = true) : ∃ n : Nat, t = (n : Int) := ⟨t.toNat, by have := (lev_iff.1 h).2.1; omega⟩
theorem lev_lens {Ws : List (List Int)} {t : Nat} (h : levV Ws (t : Int) = true) (hT : totW Ws ≤ 2000000) : ∀ (i : Nat) L, Ws[i]? = some L → t < L.length ∧ t + 1 < L.length ∧ L.length ≤ 2000000 := fun i L hL => by
  have h1 := lev_iff.1 h
  have h2 := (even_iff.1 h1.1).2.2 i L hL
  have h3 := totW_one hL
  omega

set_option maxHeartbeats 2000000 in
theorem implMeet (v : Value) (Ws : List (List Int)) (t : Int) (b : Bool) (hW : Ws.length ≤ 2000000) (hT : totW Ws ≤ 2000000) (HB : Hid (meetV Ws t = b)) (w : World) (hv : WaysAt w v Ws) (hwf : (Lit.int .i64 t).wf = true) :
    Calls Tryz.prog 16 #[v, .int .i64 t] w (Made w (.bool b)) := by
  obtain ⟨r, HR⟩ : ∃ r, Hid (levV Ws t = r) := ⟨_, rfl⟩
  have HC := Lib.hid (implLevel v Ws t r hW hT HR w hv hwf)
  have HVV := Lib.hid hv
  have HTh := Lib.hid hT
  obtain ⟨av, cv, rfl, _⟩ := hv
  clear hT hwf
  cases r with
  | false =>
    have e : b = false := by rw [← HB.out]; exact meet_lev HR.out
    subst e
    go_enter Tryz.func16, Tryz.ntmps16
    go_wp2_with fail
    refine HC.out.mono ?_
    rintro e w1 ⟨rfl, hB⟩
    go_wp2_with fail
    go_ret
    exact ⟨rfl, hB⟩
  | true =>
    obtain ⟨n, rfl⟩ := lev_out HR.out
    have hlens := lev_lens HR.out HTh.out
    obtain ⟨A, HA⟩ : ∃ A, Hid (colL Ws n = A) := ⟨_, rfl⟩
    obtain ⟨A2, HA2⟩ : ∃ A2, Hid (colL Ws (n + 1) = A2) := ⟨_, rfl⟩
    have hAl : A.length = Ws.length := by rw [← HA.out]; exact col_len
    have hA2l : A2.length = Ws.length := by rw [← HA2.out]; exact col_len
    have hm : (!decide A.Nodup || !decide A2.Nodup) = b := by rw [← HB.out, meet_of HR.out, HA.out, HA2.out]
    have hne : 1 ≤ Ws.length := (even_iff.1 (lev_iff.1 HR.out).1).1
    obtain ⟨L0, hx0⟩ : ∃ L0, Ws[0]? = some L0 := ⟨_, List.getElem?_eq_getElem (by omega)⟩
    have hb0 := hlens 0 L0 hx0
    have HL1 := Lib.hid (fun (i : Nat) L (h : Ws[i]? = some L) => And.intro (hlens i L h).1 (hlens i L h).2.2)
    have HL2 := Lib.hid (fun (i : Nat) L (h : Ws[i]? = some L) => And.intro (hlens i L h).2.1 (hlens i L h).2.2)
    have hwr : IntKind.i64.wrap ((n : Int) + 1) = ((n + 1 : Nat) : Int) := by rw [IntWalk.i64_in _ (by omega)]; omega
    have HM := Lib.hid hm
    have HF1 := Lib.hid (once_full (L := A))
    have HF2 := Lib.hid (once_full (L := A2))
    rw [hAl] at HF1
    rw [hA2l] at HF2
    clear hlens hx0 hb0 hm hAl hA2l
    by_cases h1 : (onceL A).length < Ws.length
    · have e : b = true := by rw [← HM.out, decide_eq_false (HF1.out.1 h1)]; rfl
      subst e
      have h1i : ((onceL A).length : Int) < (Ws.length : Int) := by omega
      go_enter Tryz.func16, Tryz.ntmps16
      go_wp2_with fail
      refine HC.out.mono ?_
      rintro e w1 ⟨rfl, hB⟩
      go_wp2_with fail
      refine (implCol _ Ws n A hW HL1.out HA _ (waysAt_on HVV.out hB)).mono ?_
      rintro e w2 ⟨a2, c2, rfl, hb⟩
      replace hB := hB.trans (hb.mono hB.size)
      clear hb
      go_wp2_with fail
      go_ret
      exact ⟨rfl, hB⟩
    · have h1i : ¬ ((onceL A).length : Int) < (Ws.length : Int) := by omega
      have hn1 : A.Nodup := Decidable.byContradiction fun h => h1 (HF1.out.2 h)
      have HN1 := Lib.hid hn1
      clear hn1
      by_cases h2 : (onceL A2).length < Ws.length
      · have e : b = true := by rw [← HM.out, decide_eq_false (HF2.out.1 h2)]; simp
        subst e
        have h2i : ((onceL A2).length : Int) < (Ws.length : Int) := by omega
        go_enter Tryz.func16, Tryz.ntmps16
        go_wp2_with fail
        refine HC.out.mono ?_
        rintro e w1 ⟨rfl, hB⟩
        go_wp2_with fail
        refine (implCol _ Ws n A hW HL1.out HA _ (waysAt_on HVV.out hB)).mono ?_
        rintro e w2 ⟨a2, c2, rfl, hb⟩
        replace hB := hB.trans (hb.mono hB.size)
        clear hb
        go_wp2_with fail
        refine (implCol _ Ws (n + 1) A2 hW HL2.out HA2 _ (waysAt_on HVV.out hB)).mono ?_
        rintro e w3 ⟨a3, c3, rfl, hb⟩
        replace hB := hB.trans (hb.mono hB.size)
        clear hb
        go_wp2_with fail
        go_ret
        exact ⟨rfl, hB⟩
      · have h2i : ¬ ((onceL A2).length : Int) < (Ws.length : Int) := by omega
        have hn2 : A2.Nodup := Decidable.byContradiction fun h => h2 (HF2.out.2 h)
        have e : b = false := by rw [← HM.out, decide_eq_true HN1.out, decide_eq_true hn2]; rfl
        subst e
        clear hn2
        go_enter Tryz.func16, Tryz.ntmps16
        go_wp2_with fail
        refine HC.out.mono ?_
        rintro e w1 ⟨rfl, hB⟩
        go_wp2_with fail
        refine (implCol _ Ws n A hW HL1.out HA _ (waysAt_on HVV.out hB)).mono ?_
        rintro e w2 ⟨a2, c2, rfl, hb⟩
        replace hB := hB.trans (hb.mono hB.size)
        clear hb
        go_wp2_with fail
        refine (implCol _ Ws (n + 1) A2 hW HL2.out HA2 _ (waysAt_on HVV.out hB)).mono ?_
        rintro e w3 ⟨a3, c3, rfl, hb⟩
        replace hB := hB.trans (hb.mono hB.size)
        clear hb
        go_wp2_with fail
        go_ret
        exact ⟨rfl, hB⟩

end Go.Proofs.YtkbfbifepaoojaaGreatDoor

namespace Go.Proofs.YtkbfbifepaoojaaGreatDoor
set_option maxRecDepth 4096
open Go.ChangeShapes Go.WideShapes Go.ChangeAt Go.RowKit

theorem walkK_succ {A B : List Int} {i s k : Nat} (h : walkK A B i s = some k) : walkK A B i (s + 1) = nxtV A B k := by
  show (match walkK A B i s with | none => none | some k => nxtV A B k) = _
  rw [h]

set_option maxHeartbeats 2000000 in
theorem implCircle (v : Value) (Ws : List (List Int)) (n i : Nat) (m : Nat) (hT : totW Ws ≤ 2000000) (hlev : levV Ws (n : Int) = true) (hfree : meetV Ws (n : Int) = false) (hi : i < Ws.length) (HZ : Hid (ringV (colL Ws n) (colL Ws (n + 1)) i = m)) (w : World) (hv : WaysAt w v Ws) :
    Calls Tryz.prog 70 #[v, .int .i64 (n : Int), .int .i64 (i : Int)] w (Made w (.int .i64 (m : Int))) := by
  have hW10 := (even_iff.1 (lev_iff.1 hlev).1).2.1
  have hnd := (free_nodup hlev hfree).2
  have hAl : (colL Ws n).length = Ws.length := col_len
  have hBl : (colL Ws (n + 1)).length = Ws.length := col_len
  have HT := Lib.hid hT
  have HLEV := Lib.hid hlev
  have HVV := Lib.hid hv
  have HCALL : Hid (∀ (k : Nat) (wr : World), k < Ws.length → Below w.heap.size w wr → Calls Tryz.prog 107 #[v, .int .i64 (n : Int), .int .i64 (k : Int)] wr (Made wr (.int .i64 (nxtI (nxtV (colL Ws n) (colL Ws (n + 1)) k))))) := Lib.hid fun k wr hk hB => implAhead v Ws n k _ hT hlev hk (Lib.hid rfl) wr (waysAt_on hv hB)
  obtain ⟨A, HA⟩ : ∃ A, Hid (colL Ws n = A) := ⟨_, rfl⟩
  obtain ⟨B, HBB⟩ : ∃ B, Hid (colL Ws (n + 1) = B) := ⟨_, rfl⟩
  rw [HA.out, HBB.out] at HCALL HZ
  rw [HA.out] at hAl
  rw [HBB.out] at hnd hBl
  have HND := Lib.hid hnd
  have HAB := Lib.hid (hAl.trans hBl.symm)
  have HIA : Hid (i < A.length) := Lib.hid (by omega)
  have HALW := Lib.hid hAl
  obtain ⟨g, _, c, e, _⟩ := way_at hv (List.getElem?_eq_getElem hi)
  subst e
  clear hnd hAl hBl hv hlev hfree hT
  go_enter Tryz.func70, Tryz.ntmps70
  go_wp2_with fail
  refine (HCALL.out i w hi (Below.refl _ _)).mono ?_
  rintro e w1 ⟨rfl, hB⟩
  go_wp2_with fail
  go_loopw [7, 8] (fun s x wr => ∃ r : Nat, s = .int .i64 r ∧ x = .int .i64 (nxtI (walkK A B i r)) ∧ Hid (OnWay A B i r) ∧ Below w.heap.size w wr) (fun s _ _ => Ws.length - (intOf s).toNat)
  case atStart => exact ⟨1, rfl, by rw [walkK_succ (A := A) (B := B) (i := i) (s := 0) rfl], Lib.hid on_one, hB⟩
  case round =>
    clear hB
    obtain ⟨r, rfl, rfl, HON, hB⟩ := hrel
    have hrl : r ≤ Ws.length := by
      have := on_le HND.out HAB.out HIA.out HON.out
      rw [HALW.out] at this
      exact this
    cases hx : walkK A B i r with
    | none =>
      have e : m = 0 := by rw [← HZ.out]; exact on_none HND.out HAB.out HIA.out HON.out hx
      subst e
      have hne : ((-1 : Int) != (i : Int)) = true := by rw [bne_iff_ne]; omega
      have hm : nxtI none = -1 := rfl
      clear hx
      rw [hm]
      go_wp2
      go_ret
      exact ⟨rfl, hB⟩
    | some x =>
      have hm : nxtI (some x) = (x : Int) := rfl
      rw [hm]
      have hxl : x < Ws.length := by
        have := walk_lt HIA.out hx
        rw [HALW.out] at this
        exact this
      have HX := Lib.hid hx
      clear hx hm
      by_cases e : x = i
      · subst e
        have hne : ((x : Int) != (x : Int)) = false := by simp
        have e : m = r := by rw [← HZ.out]; exact on_end HND.out HAB.out HIA.out HON.out HX.out
        subst e
        go_wp2
        go_ret
        exact ⟨rfl, hB⟩
      · have hne : ((x : Int) != (i : Int)) = true := by rw [bne_iff_ne]; omega
        have h0 : ¬ (x : Int) < 0 := by omega
        have HN := Lib.hid (on_next HON.out HX.out e)
        have hrl2 : r + 1 ≤ Ws.length := by
          have := on_le HND.out HAB.out HIA.out HN.out
          rw [HALW.out] at this
          exact this
        have HWS := Lib.hid (walkK_succ HX.out)
        have HC := Lib.hid (HCALL.out x wr hxl hB)
        have HBR := Lib.hid hB
        clear hB e
        go_wp2_with (go_at_call 107; refine HC.out.mono ?_; rintro e w' ⟨rfl, hb'⟩; have HB2 := Lib.hid (HBR.out.trans (hb'.mono HBR.out.size)); clear hb')
        go_roundw
        case rel => exact ⟨r + 1, by go_num, by rw [HWS.out], HN, HB2.out⟩
        case measure => simp [intOf]; omega

theorem inR_is (A B : List Int) (lo hi i m : Nat) (h : ringV A B i = m) : inR A B lo hi i = (decide ((lo : Int) ≤ (m : Int)) && decide ((m : Int) ≤ (hi : Int))) := by
  unfold inR
  rw [h]
  congr 1
  · exact decide_eq_decide.2 (by omega)
  · exact decide_eq_decide.2 (by omega)

set_option maxHeartbeats 2000000 in
theorem implCircles (v : Value) (Ws : List (List Int)) (t : Int) (lo hi m : Nat) (hW : Ws.length ≤ 2000000) (hT : totW Ws ≤ 2000000) (HM : Hid (cntV Ws t lo hi = m)) (w : World) (hv : WaysAt w v Ws) (hwf : (Lit.int .i64 t).wf = true) :
    Calls Tryz.prog 42 #[v, .int .i64 t, .int .i64 (lo : Int), .int .i64 (hi : Int)] w (Made w (.int .i64 (m : Int))) := by
  obtain ⟨r, HR⟩ : ∃ r, Hid (levV Ws t = r) := ⟨_, rfl⟩
  obtain ⟨q, HQ⟩ : ∃ q, Hid (meetV Ws t = q) := ⟨_, rfl⟩
  have HL := Lib.hid (implLevel v Ws t r hW hT HR w hv hwf)
  have HME : Hid (∀ wr, Below w.heap.size w wr → Calls Tryz.prog 16 #[v, .int .i64 t] wr (Made wr (.bool q))) := Lib.hid fun wr hB => implMeet v Ws t q hW hT HQ wr (waysAt_on hv hB) hwf
  have HVV := Lib.hid hv
  have HT := Lib.hid hT
  obtain ⟨av, cv, rfl, _⟩ := hv
  clear hT hwf
  cases r with
  | false =>
    obtain rfl : m = 0 := by rw [← HM.out]; exact cnt_no fun h => by have := h.1; rw [HR.out] at this; cases this
    go_enter Tryz.func42, Tryz.ntmps42
    go_wp2_with fail
    refine HL.out.mono ?_
    rintro e w1 ⟨rfl, hB⟩
    go_wp2_with fail
    go_ret
    exact ⟨rfl, hB⟩
  | true =>
    cases q with
    | true =>
      obtain rfl : m = 0 := by rw [← HM.out]; exact cnt_no fun h => by have := h.2; rw [HQ.out] at this; cases this
      go_enter Tryz.func42, Tryz.ntmps42
      go_wp2_with fail
      refine HL.out.mono ?_
      rintro e w1 ⟨rfl, hB⟩
      go_wp2_with fail
      refine (HME.out w1 hB).mono ?_
      rintro e w2 ⟨rfl, hb⟩
      replace hB := hB.trans (hb.mono hB.size)
      clear hb
      go_wp2_with fail
      go_ret
      exact ⟨rfl, hB⟩
    | false =>
      obtain ⟨n, rfl⟩ := lev_out HR.out
      have HMC : Hid (countR (colL Ws n) (colL Ws (n + 1)) lo hi Ws.length = m) := Lib.hid (by rw [← HM.out, cnt_yes HR.out HQ.out])
      obtain ⟨A, HA⟩ : ∃ A, Hid (colL Ws n = A) := ⟨_, rfl⟩
      obtain ⟨B, HBB⟩ : ∃ B, Hid (colL Ws (n + 1) = B) := ⟨_, rfl⟩
      have HCI : Hid (∀ (i : Nat) (wr : World), i < Ws.length → Below w.heap.size w wr → Calls Tryz.prog 70 #[.slice av Ws.length cv, .int .i64 (n : Int), .int .i64 (i : Int)] wr (Made wr (.int .i64 ((ringV A B i : Nat) : Int)))) := Lib.hid fun i wr hi hB => implCircle _ Ws n i _ HT.out HR.out HQ.out hi (Lib.hid (by rw [HA.out, HBB.out])) wr (waysAt_on HVV.out hB)
      rw [HA.out, HBB.out] at HMC
      clear HM HVV
      go_enter Tryz.func42, Tryz.ntmps42
      go_wp2_with fail
      refine HL.out.mono ?_
      rintro e w1 ⟨rfl, hB⟩
      go_wp2_with fail
      refine (HME.out w1 hB).mono ?_
      rintro e w2 ⟨rfl, hb⟩
      replace hB := hB.trans (hb.mono hB.size)
      have HB2 := Lib.hid hB
      clear hb hB HL HME
      go_wp2_with fail
      go_loopw [9, 10, 22] (fun s _ x wr => ∃ i : Nat, i ≤ Ws.length ∧ s = .int .i64 ((countR A B lo hi i : Nat) : Int) ∧ x = .int .i64 i ∧ Below w.heap.size w wr) (fun _ _ x _ => Ws.length - (intOf x).toNat)
      case atStart => exact ⟨0, Nat.zero_le _, by rw [countR_zero]; rfl, rfl, HB2.out⟩
      case round =>
        clear HB2
        obtain ⟨i, hiW, rfl, rfl, hB⟩ := hrel
        by_cases hlt : i < Ws.length
        · have hlt2 : (i : Int) < (Ws.length : Int) := by omega
          have HC := Lib.hid (HCI.out i wr hlt hB)
          have hcl := countR_le (A := A) (B := B) (lo := lo) (hi := hi) (n := i)
          have HS := Lib.hid (countR_succ (A := A) (B := B) (lo := lo) (hi := hi) (n := i))
          obtain ⟨d, HD⟩ : ∃ d, Hid (ringV A B i = d) := ⟨_, rfl⟩
          obtain ⟨cc, HCC⟩ : ∃ cc, Hid (countR A B lo hi i = cc) := ⟨_, rfl⟩
          rw [HD.out] at HC
          rw [HCC.out] at hcl HS ⊢
          obtain ⟨b, HBR⟩ : ∃ b, Hid ((decide ((lo : Int) ≤ (d : Int)) && decide ((d : Int) ≤ (hi : Int))) = b) := ⟨_, rfl⟩
          have HIN : Hid (inR A B lo hi i = b) := Lib.hid (by rw [inR_is A B lo hi i d HD.out, HBR.out])
          have HWI := Lib.hid (implRange (d : Int) (lo : Int) (hi : Int) b HBR)
          have HBW := Lib.hid hB
          clear hB
          cases b with
          | true =>
            go_wp2_with (first | (go_at_call 70; refine HC.out.mono ?_; rintro e w' ⟨rfl, hb'⟩; have HB3 := Lib.hid (HBW.out.trans (hb'.mono HBW.out.size)); clear hb') | (go_at_call 41; refine (HWI.out _).mono ?_; rintro e w' ⟨rfl, rfl⟩))
            go_roundw
            case rel => exact ⟨i + 1, by omega, by rw [HS.out, HIN.out, if_pos rfl]; go_num, by go_num, HB3.out⟩
            case measure => simp [intOf]; omega
          | false =>
            go_wp2_with (first | (go_at_call 70; refine HC.out.mono ?_; rintro e w' ⟨rfl, hb'⟩; have HB3 := Lib.hid (HBW.out.trans (hb'.mono HBW.out.size)); clear hb') | (go_at_call 41; refine (HWI.out _).mono ?_; rintro e w' ⟨rfl, rfl⟩))
            go_roundw
            case rel => exact ⟨i + 1, by omega, by rw [HS.out, HIN.out, if_neg (by decide)]; go_num, by go_num, HB3.out⟩
            case measure => simp [intOf]; omega
        · obtain rfl : i = Ws.length := by omega
          have hnl : ¬ (Ws.length : Int) < (Ws.length : Int) := by omega
          rw [HMC.out]
          go_wp2
          go_ret
          exact ⟨rfl, hB⟩

theorem implSwaps (v : Value) (Ws : List (List Int)) (t : Int) (m : Nat) (hW : Ws.length ≤ 2000000) (hT : totW Ws ≤ 2000000) (HM : Hid (swapsV Ws t = m)) (w : World) (hv : WaysAt w v Ws) (hwf : (Lit.int .i64 t).wf = true) :
    Calls Tryz.prog 19 #[v, .int .i64 t] w (Made w (.int .i64 (m : Int))) := by
  obtain ⟨q, HQ⟩ : ∃ q, Hid (cntV Ws t 2 2 = q) := ⟨_, rfl⟩
  have hq : q ≤ Ws.length := by rw [← HQ.out]; exact cnt_le
  have e : m = q / 2 := by rw [← HM.out]; unfold swapsV; rw [HQ.out]
  have HC := Lib.hid (implCircles v Ws t 2 2 q hW hT HQ w hv hwf)
  have hdiv : (q : Int).tdiv 2 = ((q / 2 : Nat) : Int) := rfl
  subst e
  obtain ⟨av, cv, rfl, _⟩ := hv
  clear hwf hT
  go_enter Tryz.func19, Tryz.ntmps19
  go_wp2_with fail
  refine HC.out.mono ?_
  rintro e w1 ⟨rfl, hB⟩
  go_wp2_with fail
  go_ret
  exact ⟨by go_num, hB⟩
theorem implRings (v : Value) (Ws : List (List Int)) (t : Int) (m : Nat) (hW : Ws.length ≤ 2000000) (hT : totW Ws ≤ 2000000) (HM : Hid (ringsV Ws t = m)) (w : World) (hv : WaysAt w v Ws) (hwf : (Lit.int .i64 t).wf = true) :
    Calls Tryz.prog 18 #[v, .int .i64 t] w (Made w (.int .i64 (m : Int))) := by
  have HC := Lib.hid (implCircles v Ws t 3 10 m hW hT HM w hv hwf)
  obtain ⟨av, cv, rfl, _⟩ := hv
  clear hwf hT
  go_enter Tryz.func18, Tryz.ntmps18
  go_wp2_with fail
  refine HC.out.mono ?_
  rintro e w1 ⟨rfl, hB⟩
  go_wp2_with fail
  go_ret
  exact ⟨rfl, hB⟩

end Go.Proofs.YtkbfbifepaoojaaGreatDoor

