/-
  CONTRACTS of the program's circleOf, inCircles, SwapsAt and RingsAt. No law is proved here.
  CONTRACT of the program's crossingFault. No law is proved here.
  CONTRACT of the program's gridRow.free. No law is proved here.
  CONTRACT of the program's gridRows.freeAt. No law is proved here.
  CONTRACT of the program's GridOk. No law is proved here.
-/
import Derived.Test.YthnmapomhgjblaaGreatDoorZPF16
import Derived.Test.YthnmapomhgjblaaGreatDoorZPF08
import Derived.Test.YthnmapomhgjblaaGreatDoorZPF05
import Derived.Test.YthnmapomhgjblaaGreatDoorZPF07
import Derived.Test.YthnmapomhgjblaaGreatDoorZPF06
namespace Go.Proofs.YthnmapomhgjblaaGreatDoor
set_option maxRecDepth 4096
open Go.ChangeShapes Go.WideShapes Go.ChangeAt Go.RowKit

theorem walkK_succ {A B : List Int} {i s k : Nat} (h : walkK A B i s = some k) : walkK A B i (s + 1) = nxtV A B k := by
  show (match walkK A B i s with | none => none | some k => nxtV A B k) = _
  rw [h]

set_option maxHeartbeats 2000000 in
theorem implCircle (v : Value) (Ws : List (List Int)) (n i : Nat) (m : Nat) (hT : totW Ws ≤ 2000000) (hlev : levV Ws (n : Int) = true) (hfree : meetV Ws (n : Int) = false) (hi : i < Ws.length) (HZ : Hid (ringV (colL Ws n) (colL Ws (n + 1)) i = m)) (w : World) (hv : WaysAt w v Ws) :
    Calls Tryz.prog 56 #[v, .int .i64 (n : Int), .int .i64 (i : Int)] w (Made w (.int .i64 (m : Int))) := by
  have hW10 := (even_iff.1 (lev_iff.1 hlev).1).2.1
  have hnd := (free_nodup hlev hfree).2
  have hAl : (colL Ws n).length = Ws.length := col_len
  have hBl : (colL Ws (n + 1)).length = Ws.length := col_len
  have HT := Lib.hid hT
  have HLEV := Lib.hid hlev
  have HVV := Lib.hid hv
  have HCALL : Hid (∀ (k : Nat) (wr : World), k < Ws.length → Below w.heap.size w wr → Calls Tryz.prog 84 #[v, .int .i64 (n : Int), .int .i64 (k : Int)] wr (Made wr (.int .i64 (nxtI (nxtV (colL Ws n) (colL Ws (n + 1)) k))))) := Lib.hid fun k wr hk hB => implAhead v Ws n k _ hT hlev hk (Lib.hid rfl) wr (waysAt_on hv hB)
  obtain ⟨A, HA⟩ : ∃ A, Hid (colL Ws n = A) := ⟨_, rfl⟩
  obtain ⟨B, HBB⟩ : ∃ B, Hid (colL Ws (n + 1) = B) := ⟨_, rfl⟩
  rw [HA.out, HBB.out] at HCALL HZ
  rw [HA.out] at hAl
  rw [HBB.out] at hnd hBl
  have HND := Lib.hid hnd
  have HAB := Lib.hid (hAl.trans hBl.symm)
  have HIA : Hid (i < A.length) := Lib.hid (by omega)
  have HALW := Lib.hid hAl
  obtain ⟨g, _, c, e, _⟩ := way_at hv (List.getElem?_eq_getElem hi)
  subst e
  clear hnd hAl hBl hv hlev hfree hT
  go_enter Tryz.func56, Tryz.ntmps56
  go_wp2_with fail
  refine (HCALL.out i w hi (Below.refl _ _)).mono ?_
  rintro e w1 ⟨rfl, hB⟩
  go_wp2_with fail
  go_loopw [7, 8] (fun s x wr => ∃ r : Nat, s = .int .i64 r ∧ x = .int .i64 (nxtI (walkK A B i r)) ∧ Hid (OnWay A B i r) ∧ Below w.heap.size w wr) (fun s _ _ => Ws.length - (intOf s).toNat)
  case atStart => exact ⟨1, rfl, by rw [walkK_succ (A := A) (B := B) (i := i) (s := 0) rfl], Lib.hid on_one, hB⟩
  case round =>
    clear hB
    obtain ⟨r, rfl, rfl, HON, hB⟩ := hrel
    have hrl : r ≤ Ws.length := by
      have := on_le HND.out HAB.out HIA.out HON.out
      rw [HALW.out] at this
      exact this
    cases hx : walkK A B i r with
    | none =>
      have e : m = 0 := by rw [← HZ.out]; exact on_none HND.out HAB.out HIA.out HON.out hx
      subst e
      have hne : ((-1 : Int) != (i : Int)) = true := by rw [bne_iff_ne]; omega
      have hm : nxtI none = -1 := rfl
      clear hx
      rw [hm]
      go_wp2
      go_ret
      exact ⟨rfl, hB⟩
    | some x =>
      have hm : nxtI (some x) = (x : Int) := rfl
      rw [hm]
      have hxl : x < Ws.length := by
        have := walk_lt HIA.out hx
        rw [HALW.out] at this
        exact this
      have HX := Lib.hid hx
      clear hx hm
      by_cases e : x = i
      · subst e
        have hne : ((x : Int) != (x : Int)) = false := by simp
        have e : m = r := by rw [← HZ.out]; exact on_end HND.out HAB.out HIA.out HON.out HX.out
        subst e
        go_wp2
        go_ret
        exact ⟨rfl, hB⟩
      · have hne : ((x : Int) != (i : Int)) = true := by rw [bne_iff_ne]; omega
        have h0 : ¬ (x : Int) < 0 := by omega
        have HN := Lib.hid (on_next HON.out HX.out e)
        have hrl2 : r + 1 ≤ Ws.length := by
          have := on_le HND.out HAB.out HIA.out HN.out
          rw [HALW.out] at this
          exact this
        have HWS := Lib.hid (walkK_succ HX.out)
        have HC := Lib.hid (HCALL.out x wr hxl hB)
        have HBR := Lib.hid hB
        clear hB e
        go_wp2_with (go_at_call 84; refine HC.out.mono ?_; rintro e w' ⟨rfl, hb'⟩; have HB2 := Lib.hid (HBR.out.trans (hb'.mono HBR.out.size)); clear hb')
        go_roundw
        case rel => exact ⟨r + 1, by go_num, by rw [HWS.out], HN, HB2.out⟩
        case measure => simp [intOf]; omega

theorem inR_is (A B : List Int) (lo hi i m : Nat) (h : ringV A B i = m) : inR A B lo hi i = (decide ((lo : Int) ≤ (m : Int)) && decide ((m : Int) ≤ (hi : Int))) := by
  unfold inR
  rw [h]
  congr 1
  · exact decide_eq_decide.2 (by omega)
  · exact decide_eq_decide.2 (by omega)

set_option maxHeartbeats 2000000 in
theorem implCircles (v : Value) (Ws : List (List Int)) (t : Int) (lo hi m : Nat) (hW : Ws.length ≤ 2000000) (hT : totW Ws ≤ 2000000) (HM : Hid (cntV Ws t lo hi = m)) (w : World) (hv : WaysAt w v Ws) (hwf : (Lit.int .i64 t).wf = true) :
    Calls Tryz.prog 28 #[v, .int .i64 t, .int .i64 (lo : Int), .int .i64 (hi : Int)] w (Made w (.int .i64 (m : Int))) := by
  obtain ⟨r, HR⟩ : ∃ r, Hid (levV Ws t = r) := ⟨_, rfl⟩
  obtain ⟨q, HQ⟩ : ∃ q, Hid (meetV Ws t = q) := ⟨_, rfl⟩
  have HL := Lib.hid (implLevel v Ws t r hW hT HR w hv hwf)
  have HME : Hid (∀ wr, Below w.heap.size w wr → Calls Tryz.prog 9 #[v, .int .i64 t] wr (Made wr (.bool q))) := Lib.hid fun wr hB => implMeet v Ws t q hW hT HQ wr (waysAt_on hv hB) hwf
  have HVV := Lib.hid hv
  have HT := Lib.hid hT
  obtain ⟨av, cv, rfl, _⟩ := hv
  clear hT hwf
  cases r with
  | false =>
    obtain rfl : m = 0 := by rw [← HM.out]; exact cnt_no fun h => by have := h.1; rw [HR.out] at this; cases this
    go_enter Tryz.func28, Tryz.ntmps28
    go_wp2_with fail
    refine HL.out.mono ?_
    rintro e w1 ⟨rfl, hB⟩
    go_wp2_with fail
    go_ret
    exact ⟨rfl, hB⟩
  | true =>
    cases q with
    | true =>
      obtain rfl : m = 0 := by rw [← HM.out]; exact cnt_no fun h => by have := h.2; rw [HQ.out] at this; cases this
      go_enter Tryz.func28, Tryz.ntmps28
      go_wp2_with fail
      refine HL.out.mono ?_
      rintro e w1 ⟨rfl, hB⟩
      go_wp2_with fail
      refine (HME.out w1 hB).mono ?_
      rintro e w2 ⟨rfl, hb⟩
      replace hB := hB.trans (hb.mono hB.size)
      clear hb
      go_wp2_with fail
      go_ret
      exact ⟨rfl, hB⟩
    | false =>
      obtain ⟨n, rfl⟩ := lev_out HR.out
      have HMC : Hid (countR (colL Ws n) (colL Ws (n + 1)) lo hi Ws.length = m) := Lib.hid (by rw [← HM.out, cnt_yes HR.out HQ.out])
      obtain ⟨A, HA⟩ : ∃ A, Hid (colL Ws n = A) := ⟨_, rfl⟩
      obtain ⟨B, HBB⟩ : ∃ B, Hid (colL Ws (n + 1) = B) := ⟨_, rfl⟩
      have HCI : Hid (∀ (i : Nat) (wr : World), i < Ws.length → Below w.heap.size w wr → Calls Tryz.prog 56 #[.slice av Ws.length cv, .int .i64 (n : Int), .int .i64 (i : Int)] wr (Made wr (.int .i64 ((ringV A B i : Nat) : Int)))) := Lib.hid fun i wr hi hB => implCircle _ Ws n i _ HT.out HR.out HQ.out hi (Lib.hid (by rw [HA.out, HBB.out])) wr (waysAt_on HVV.out hB)
      rw [HA.out, HBB.out] at HMC
      clear HM HVV
      go_enter Tryz.func28, Tryz.ntmps28
      go_wp2_with fail
      refine HL.out.mono ?_
      rintro e w1 ⟨rfl, hB⟩
      go_wp2_with fail
      refine (HME.out w1 hB).mono ?_
      rintro e w2 ⟨rfl, hb⟩
      replace hB := hB.trans (hb.mono hB.size)
      have HB2 := Lib.hid hB
      clear hb hB HL HME
      go_wp2_with fail
      go_loopw [9, 10, 22] (fun s _ x wr => ∃ i : Nat, i ≤ Ws.length ∧ s = .int .i64 ((countR A B lo hi i : Nat) : Int) ∧ x = .int .i64 i ∧ Below w.heap.size w wr) (fun _ _ x _ => Ws.length - (intOf x).toNat)
      case atStart => exact ⟨0, Nat.zero_le _, by rw [countR_zero]; rfl, rfl, HB2.out⟩
      case round =>
        clear HB2
        obtain ⟨i, hiW, rfl, rfl, hB⟩ := hrel
        by_cases hlt : i < Ws.length
        · have hlt2 : (i : Int) < (Ws.length : Int) := by omega
          have HC := Lib.hid (HCI.out i wr hlt hB)
          have hcl := countR_le (A := A) (B := B) (lo := lo) (hi := hi) (n := i)
          have HS := Lib.hid (countR_succ (A := A) (B := B) (lo := lo) (hi := hi) (n := i))
          obtain ⟨d, HD⟩ : ∃ d, Hid (ringV A B i = d) := ⟨_, rfl⟩
          obtain ⟨cc, HCC⟩ : ∃ cc, Hid (countR A B lo hi i = cc) := ⟨_, rfl⟩
          rw [HD.out] at HC
          rw [HCC.out] at hcl HS ⊢
          obtain ⟨b, HBR⟩ : ∃ b, Hid ((decide ((lo : Int) ≤ (d : Int)) && decide ((d : Int) ≤ (hi : Int))) = b) := ⟨_, rfl⟩
          have HIN : Hid (inR A B lo hi i = b) := Lib.hid (by rw [inR_is A B lo hi i d HD.out, HBR.out])
          have HWI := Lib.hid (implRange (d : Int) (lo : Int) (hi : Int) b HBR)
          have HBW := Lib.hid hB
          clear hB
          cases b with
          | true =>
            go_wp2_with (first | (go_at_call 56; refine HC.out.mono ?_; rintro e w' ⟨rfl, hb'⟩; have HB3 := Lib.hid (HBW.out.trans (hb'.mono HBW.out.size)); clear hb') | (go_at_call 27; refine (HWI.out _).mono ?_; rintro e w' ⟨rfl, rfl⟩))
            go_roundw
            case rel => exact ⟨i + 1, by omega, by rw [HS.out, HIN.out, if_pos rfl]; go_num, by go_num, HB3.out⟩
            case measure => simp [intOf]; omega
          | false =>
            go_wp2_with (first | (go_at_call 56; refine HC.out.mono ?_; rintro e w' ⟨rfl, hb'⟩; have HB3 := Lib.hid (HBW.out.trans (hb'.mono HBW.out.size)); clear hb') | (go_at_call 27; refine (HWI.out _).mono ?_; rintro e w' ⟨rfl, rfl⟩))
            go_roundw
            case rel => exact ⟨i + 1, by omega, by rw [HS.out, HIN.out, if_neg (by decide)]; go_num, by go_num, HB3.out⟩
            case measure => simp [intOf]; omega
        · obtain rfl : i = Ws.length := by omega
          have hnl : ¬ (Ws.length : Int) < (Ws.length : Int) := by omega
          rw [HMC.out]
          go_wp2
          go_ret
          exact ⟨rfl, hB⟩

theorem implSwaps (v : Value) (Ws : List (List Int)) (t : Int) (m : Nat) (hW : Ws.length ≤ 2000000) (hT : totW Ws ≤ 2000000) (HM : Hid (swapsV Ws t = m)) (w : World) (hv : WaysAt w v Ws) (hwf : (Lit.int .i64 t).wf = true) :
    Calls Tryz.prog 12 #[v, .int .i64 t] w (Made w (.int .i64 (m : Int))) := by
  obtain ⟨q, HQ⟩ : ∃ q, Hid (cntV Ws t 2 2 = q) := ⟨_, rfl⟩
  have hq : q ≤ Ws.length := by rw [← HQ.out]; exact cnt_le
  have e : m = q / 2 := by rw [← HM.out]; unfold swapsV; rw [HQ.out]
  have HC := Lib.hid (implCircles v Ws t 2 2 q hW hT HQ w hv hwf)
  have hdiv : (q : Int).tdiv 2 = ((q / 2 : Nat) : Int) := rfl
  subst e
  obtain ⟨av, cv, rfl, _⟩ := hv
  clear hwf hT
  go_enter Tryz.func12, Tryz.ntmps12
  go_wp2_with fail
  refine HC.out.mono ?_
  rintro e w1 ⟨rfl, hB⟩
  go_wp2_with fail
  go_ret
  exact ⟨by go_num, hB⟩
theorem implRings (v : Value) (Ws : List (List Int)) (t : Int) (m : Nat) (hW : Ws.length ≤ 2000000) (hT : totW Ws ≤ 2000000) (HM : Hid (ringsV Ws t = m)) (w : World) (hv : WaysAt w v Ws) (hwf : (Lit.int .i64 t).wf = true) :
    Calls Tryz.prog 11 #[v, .int .i64 t] w (Made w (.int .i64 (m : Int))) := by
  have HC := Lib.hid (implCircles v Ws t 3 10 m hW hT HM w hv hwf)
  obtain ⟨av, cv, rfl, _⟩ := hv
  clear hwf hT
  go_enter Tryz.func11, Tryz.ntmps11
  go_wp2_with fail
  refine HC.out.mono ?_
  rintro e w1 ⟨rfl, hB⟩
  go_wp2_with fail
  go_ret
  exact ⟨rfl, hB⟩

end Go.Proofs.YthnmapomhgjblaaGreatDoor

namespace Go.Proofs.YthnmapomhgjblaaGreatDoor
set_option maxRecDepth 4096
open Go.ChangeShapes Go.WideShapes Go.ChangeAt Go.RowKit

/-- A fault as an error. -/
def errV (c : Nat) : Value := if c = 0 then .nilIface else .iface 54 (.agg #[.int .i64 (c : Int)])
theorem errV_zero : errV 0 = .nilIface := rfl
theorem errV_pos {c : Nat} (h : c ≠ 0) : errV c = .iface 54 (.agg #[.int .i64 (c : Int)]) := if_neg h
theorem pair_cells {w w1 : World} {a b c : Value} {t : TypeId} (h : Below (w.alloc (.cells #[a, b, c] t)).heap.size (w.alloc (.cells #[a, b, c] t)) w1) :
    w1.cell? ⟨w.heap.size, 0, none⟩ = some a ∧ w1.cell? ⟨w.heap.size, 1, none⟩ = some b ∧ w1.cell? ⟨w.heap.size, 2, none⟩ = some c := by
  have h0 : w1.heap[w.heap.size]? = some (.cells #[a, b, c] t) := (h.block _ (by simp)).trans (heap_alloc_new w _)
  refine ⟨?_, ?_, ?_⟩ <;> (rw [cell_of_row _ _ _ _ _ _ h0]; rfl)
theorem wf_small {n : Nat} (h : n ≤ 2000000) : (Lit.int .i64 (n : Int)).wf = true := WalkArith.wf_i64 (by omega)

/-- How far the times have been looked through. -/
structure CrossTo (Ws : List (List Int)) (t : Nat) (m : Bool) (a b : Nat) : Prop where
  meet : anyT (fun t => meetV Ws (t : Int)) t = m
  swap : anyT (fun t => decide (0 < swapsV Ws (t : Int))) t = decide (0 < a)
  ring : anyT (fun t => decide (0 < ringsV Ws (t : Int))) t = decide (0 < b)
  aLe : a ≤ t * 2000000
  bLe : b ≤ t * 2000000
theorem cross_start {Ws : List (List Int)} : CrossTo Ws 0 false 0 0 := ⟨rfl, rfl, rfl, by omega, by omega⟩
theorem cross_next {Ws : List (List Int)} {t a b s r : Nat} {m q : Bool} (h : CrossTo Ws t m a b) (hW : Ws.length ≤ 2000000) (hq : meetV Ws (t : Int) = q ∨ m = true ∧ q = true) (hs : swapsV Ws (t : Int) = s) (hr : ringsV Ws (t : Int) = r) : CrossTo Ws (t + 1) (m || q) (a + s) (b + r) := by
  have h1 : s ≤ 2000000 := by have := swaps_le (Ws := Ws) (t := (t : Int)); omega
  have h2 : r ≤ 2000000 := by have := rings_le (Ws := Ws) (t := (t : Int)); omega
  refine ⟨?_, ?_, ?_, by have := h.aLe; omega, by have := h.bLe; omega⟩
  · rw [anyT_succ, h.meet]
    rcases hq with hq | ⟨rfl, rfl⟩
    · rw [hq]
    · rfl
  · rw [anyT_succ, h.swap, hs, ← Bool.decide_or]
    exact decide_eq_decide.2 (by omega)
  · rw [anyT_succ, h.ring, hr, ← Bool.decide_or]
    exact decide_eq_decide.2 (by omega)
theorem cross_end {Ws : List (List Int)} {t a b : Nat} {m : Bool} (h : CrossTo Ws t m a b) : crossV Ws t = if m = true then 4 else if 0 < a then 5 else if 0 < b then 6 else 0 := by
  unfold crossV
  rw [h.meet, h.swap, h.ring]
  simp only [decide_eq_true_eq]

set_option maxHeartbeats 4000000 in
theorem implCross (v : Value) (Ws : List (List Int)) (T : Nat) (M : Int) (c : Nat) (hT20 : T ≤ 20) (hW : Ws.length ≤ 2000000) (hT : totW Ws ≤ 2000000) (HX : Hid (crossV Ws T = c)) (w : World) (hv : WaysAt w v Ws) :
    Calls Tryz.prog 53 #[.agg #[.int .i64 (T : Int), .int .i64 M, v]] w (Made w (errV c)) := by
  have HME : Hid (∀ (t : Nat) (wr : World), t ≤ 20 → Below w.heap.size w wr → ∀ q, meetV Ws (t : Int) = q → Calls Tryz.prog 9 #[v, .int .i64 (t : Int)] wr (Made wr (.bool q))) := Lib.hid fun t wr ht hB q hq => implMeet v Ws t q hW hT (Lib.hid hq) wr (waysAt_on hv hB) (wf_small (by omega))
  have HSE : Hid (∀ (t : Nat) (wr : World), t ≤ 20 → Below w.heap.size w wr → ∀ q, swapsV Ws (t : Int) = q → Calls Tryz.prog 12 #[v, .int .i64 (t : Int)] wr (Made wr (.int .i64 (q : Int)))) := Lib.hid fun t wr ht hB q hq => implSwaps v Ws t q hW hT (Lib.hid hq) wr (waysAt_on hv hB) (wf_small (by omega))
  have HRE : Hid (∀ (t : Nat) (wr : World), t ≤ 20 → Below w.heap.size w wr → ∀ q, ringsV Ws (t : Int) = q → Calls Tryz.prog 11 #[v, .int .i64 (t : Int)] wr (Made wr (.int .i64 (q : Int)))) := Lib.hid fun t wr ht hB q hq => implRings v Ws t q hW hT (Lib.hid hq) wr (waysAt_on hv hB) (wf_small (by omega))
  have hB := Below.refl (w.alloc (.cells #[.int .i64 (T : Int), .int .i64 M, v] 29)).heap.size (w.alloc (.cells #[.int .i64 (T : Int), .int .i64 M, v] 29))
  have HB0 := Lib.hid hB
  obtain ⟨p0, p1, p2⟩ := pair_cells hB
  obtain ⟨av, cv, rfl, _⟩ := hv
  clear hT hB
  go_enter Tryz.func53, Tryz.ntmps53
  go_wp2
  clear p0 p1 p2
  go_loopw [3, 4, 5, 6, 9] (fun x y z _ i wr => ∃ (t a b : Nat) (m : Bool), t ≤ T ∧ x = .bool m ∧ y = .int .i64 (a : Int) ∧ z = .int .i64 (b : Int) ∧ i = .int .i64 (t : Int) ∧ Hid (CrossTo Ws t m a b) ∧ Below (w.alloc (.cells #[.int .i64 (T : Int), .int .i64 M, .slice av Ws.length cv] 29)).heap.size (w.alloc (.cells #[.int .i64 (T : Int), .int .i64 M, .slice av Ws.length cv] 29)) wr) (fun _ _ _ _ i _ => T - (intOf i).toNat)
  case atStart => exact ⟨0, 0, 0, false, Nat.zero_le _, rfl, rfl, rfl, rfl, Lib.hid cross_start, HB0.out⟩
  case round =>
    clear HB0
    obtain ⟨t, a, b, m, ht, rfl, rfl, rfl, rfl, HC, hB⟩ := hrel
    have haL := HC.out.aLe
    have hbL := HC.out.bLe
    obtain ⟨p0, p1, p2⟩ := pair_cells hB
    by_cases hlt : t < T
    · have hlt2 : (t : Int) < (T : Int) := by omega
      obtain ⟨q, HQ⟩ : ∃ q, Hid (meetV Ws (t : Int) = q) := ⟨_, rfl⟩
      obtain ⟨s, HSV⟩ : ∃ s, Hid (swapsV Ws (t : Int) = s) := ⟨_, rfl⟩
      obtain ⟨r, HRV⟩ : ∃ r, Hid (ringsV Ws (t : Int) = r) := ⟨_, rfl⟩
      have hsl : s ≤ 2000000 := by have := swaps_le (Ws := Ws) (t := (t : Int)); rw [HSV.out] at this; omega
      have hrl : r ≤ 2000000 := by have := rings_le (Ws := Ws) (t := (t : Int)); rw [HRV.out] at this; omega
      have HBW := Lib.hid hB
      clear hB
      cases m with
      | true =>
        have HN := Lib.hid (cross_next (q := true) HC.out hW (.inr ⟨rfl, rfl⟩) HSV.out HRV.out)
        clear p0 p1
        go_wp2_with fail
        refine (HSE.out t wr (by omega) (box_below HBW.out) s HSV.out).mono ?_
        rintro e w1 ⟨rfl, hb⟩
        have hB1 := HBW.out.trans (hb.mono HBW.out.size)
        obtain ⟨p0, p1, p2⟩ := pair_cells hB1
        have HB1 := Lib.hid hB1
        clear hb hB1 p0 p1
        go_wp2_with fail
        refine (HRE.out t w1 (by omega) (box_below HB1.out) r HRV.out).mono ?_
        rintro e w2 ⟨rfl, hb⟩
        have HB2 := Lib.hid (HB1.out.trans (hb.mono HB1.out.size))
        clear hb
        go_wp2_with fail
        go_roundw
        case rel => exact ⟨t + 1, a + s, b + r, true, by omega, rfl, by go_num, by go_num, by go_num, HN, HB2.out⟩
        case measure => simp [intOf]; omega
      | false =>
        have HN := Lib.hid (cross_next (q := q) HC.out hW (.inl HQ.out) HSV.out HRV.out)
        clear p0 p1
        go_wp2_with fail
        refine (HME.out t wr (by omega) (box_below HBW.out) q HQ.out).mono ?_
        rintro e w0 ⟨rfl, hb⟩
        have hB1 := HBW.out.trans (hb.mono HBW.out.size)
        obtain ⟨p0, p1, p2⟩ := pair_cells hB1
        have HB0 := Lib.hid hB1
        clear hb hB1 p0 p1
        go_wp2_with fail
        refine (HSE.out t w0 (by omega) (box_below HB0.out) s HSV.out).mono ?_
        rintro e w1 ⟨rfl, hb⟩
        have hB1 := HB0.out.trans (hb.mono HB0.out.size)
        obtain ⟨p0, p1, p2⟩ := pair_cells hB1
        have HB1 := Lib.hid hB1
        clear hb hB1 p0 p1
        go_wp2_with fail
        refine (HRE.out t w1 (by omega) (box_below HB1.out) r HRV.out).mono ?_
        rintro e w2 ⟨rfl, hb⟩
        have HB2 := Lib.hid (HB1.out.trans (hb.mono HB1.out.size))
        clear hb
        go_wp2_with fail
        go_roundw
        case rel => exact ⟨t + 1, a + s, b + r, q, by omega, rfl, by go_num, by go_num, by go_num, HN, HB2.out⟩
        case measure => simp [intOf]; omega
    · obtain rfl : t = T := by omega
      have hnl : ¬ (t : Int) < (t : Int) := by omega
      have hc := cross_end HC.out
      rw [HX.out] at hc
      clear p0 p1 p2
      cases m with
      | true =>
        obtain rfl : c = 4 := hc
        go_wp2
        go_ret
        exact ⟨rfl, box_below hB⟩
      | false =>
        rw [if_neg (by decide)] at hc
        by_cases ha : 0 < a
        · rw [if_pos ha] at hc
          subst hc
          have ha2 : (0 : Int) < (a : Int) := by omega
          go_wp2
          go_ret
          exact ⟨rfl, box_below hB⟩
        · rw [if_neg ha] at hc
          have ha2 : ¬ (0 : Int) < (a : Int) := by omega
          by_cases hb : 0 < b
          · rw [if_pos hb] at hc
            subst hc
            have hb2 : (0 : Int) < (b : Int) := by omega
            go_wp2
            go_ret
            exact ⟨rfl, box_below hB⟩
          · rw [if_neg hb] at hc
            subst hc
            have hb2 : ¬ (0 : Int) < (b : Int) := by omega
            go_wp2
            go_ret
            exact ⟨rfl, box_below hB⟩

end Go.Proofs.YthnmapomhgjblaaGreatDoor

namespace Go.Proofs.YthnmapomhgjblaaGreatDoor
set_option maxRecDepth 4096
open Go.ChangeShapes Go.WideShapes Go.ChangeAt Go.RowKit

theorem freeI (r : ByteArray) (x : Int) (n : Nat) (e : x = n) (h : n < r.size) (w : World) :
    Calls Tryz.prog 93 #[.string r, .int .i64 x] w fun e w' => e = .returned (.bool (freeB (byteAt r n))) ∧ w = w' := by
  subst e
  have hat := run_at (P := Tryz.prog) 132 r .i64 n n rfl h Tryz.underlying132
  go_enter Tryz.func93, Tryz.ntmps93
  go_wp2
  go_ret
  exact ⟨bool_ret (c := freeB (byteAt r n)) rfl (by unfold freeB; simp [bne, Bool.beq_eq_decide_eq]), rfl⟩

theorem freeTo (r : ByteArray) (x : Int) (n : Nat) (b : Bool) (hb : Hid (freeB (byteAt r n) = b)) (e : x = n) (h : n < r.size) (w : World) :
    Calls Tryz.prog 93 #[.string r, .int .i64 x] w fun e w' => e = .returned (.bool b) ∧ w = w' := by
  rw [← hb.out]
  exact freeI r x n e h w

end Go.Proofs.YthnmapomhgjblaaGreatDoor

namespace Go.Proofs.YthnmapomhgjblaaGreatDoor
set_option maxRecDepth 4096
open Go.ChangeShapes Go.WideShapes Go.ChangeAt Go.RowKit

/-- Row y of the array of rows. -/
def rowAt (C : ByteArray) (a b y : Nat) : ByteArray := if y < b then rowT C a y else ⟨#[]⟩
theorem rowsV_any (C : ByteArray) (a b y : Nat) (h : y < 8) : (rowsV C a b)[y]? = some (.string (rowAt C a b y)) := by
  unfold rowsV rowAt
  rw [Array.getElem?_ofFn, dif_pos h]
  dsimp only
  split <;> rfl

theorem freeVTo {W H : Int} {C : ByteArray} {z : Int} {f : Bool} (HF : Hid (freeV W H C z = f)) (h : z < 0) : false = f := by
  rw [← HF.out]
  unfold freeV cellOk
  have h1 : decide (0 ≤ z) = false := by simpa using h
  rw [h1]
  simp

set_option maxHeartbeats 1000000 in
theorem stepFree (a b : Nat) (C : ByteArray) (x y : Int) (f : Bool) (hg : gok a b C = true) (HF : Hid (freeV a b C (cellAtV a b C x y) = f)) (w : World) :
    Calls Tryz.prog 105 #[.agg (rowsV C a b), .int .i64 x, .int .i64 y] w (Made w (.bool f)) := by
  obtain ⟨⟨⟨h1, h2⟩, ⟨h3, h4⟩, hs⟩, _⟩ := gok_out hg
  have hs2 : C.size = a * b := by have : ((a * b : Nat) : Int) = (a : Int) * (b : Int) := Int.natCast_mul a b; omega
  have hB := (Below.refl w.heap.size w).alloc (Nat.le_refl _) (.cells (rowsV C a b) 134)
  have HG := Lib.hid hg
  have HS2 := Lib.hid hs2
  clear hs hs2 hg
  by_cases hy0 : 0 ≤ y
  · by_cases hy8 : y < 8
    · obtain ⟨Y, rfl⟩ : ∃ Y : Nat, y = Y := ⟨y.toNat, by omega⟩
      by_cases hx0 : 0 ≤ x
      · obtain ⟨X, rfl⟩ : ∃ X : Nat, x = X := ⟨x.toNat, by omega⟩
        obtain ⟨r, HR⟩ : ∃ r, Hid (rowAt C a b Y = r) := ⟨_, rfl⟩
        have d1 : (w.alloc (.cells (rowsV C a b) 134)).cell? ⟨w.heap.size, Y, none⟩ = some (.string r) := by
          rw [cell_of_row _ _ _ _ _ _ (heap_alloc_new w _), rowsV_any C a b Y (by omega), HR.out]
        by_cases hx : (X : Int) < (r.size : Int)
        · have hYb : Y < b := by
            rcases Nat.lt_or_ge Y b with h | h
            · exact h
            · have e := HR.out; unfold rowAt at e; rw [if_neg (by omega)] at e; rw [← e] at hx; have : (X : Int) < 0 := hx; omega
          have hrT : rowT C a Y = r := by have e := HR.out; unfold rowAt at e; rwa [if_pos hYb] at e
          have hle : (Y + 1) * a ≤ C.size := by rw [HS2.out, Nat.mul_comm a b]; exact Nat.mul_le_mul_right a (by omega)
          have hrs : r.size = a := by rw [← hrT]; exact row_size C a Y hle
          have hlt : Y * a + X < C.size := by rw [Nat.add_mul, Nat.one_mul] at hle; omega
          have hz : cellAtV a b C X Y = ((Y * a + X : Nat) : Int) := by
            rw [cellAtV_yes ⟨HG.out, ⟨by omega, by omega⟩, by omega, by omega⟩, Int.natCast_add, Int.natCast_mul]
          have HP : Hid (freeB (byteAt r X) = f) := Lib.hid (by
            rw [← HF.out, hz, freeV_at HG.out hlt, ← hrT, row_byte C a Y X hle (by omega)])
          clear hrT hle hlt hz
          go_enter Tryz.func105, Tryz.ntmps105
          go_wp2_with (go_at_call 93; (with_reducible refine (freeTo _ _ X f HP rfl (by omega) _).mono ?_); rintro e w2 ⟨rfl, rfl⟩)
          go_ret
          exact ⟨rfl, hB⟩
        · have HN : Hid (false = f) := Lib.hid (by
            refine freeVTo HF ?_
            rw [cellAtV_no (fun h => ?_)]
            · decide
            · have hYb : Y < b := by omega
              have hrT : rowT C a Y = r := by have e := HR.out; unfold rowAt at e; rwa [if_pos hYb] at e
              have hle : (Y + 1) * a ≤ C.size := by rw [HS2.out, Nat.mul_comm a b]; exact Nat.mul_le_mul_right a (by omega)
              have hrs : r.size = a := by rw [← hrT]; exact row_size C a Y hle
              omega)
          go_enter Tryz.func105, Tryz.ntmps105
          go_wp2
          go_ret
          exact ⟨bool_ret HN.out rfl, hB⟩
      · have HN : Hid (false = f) := Lib.hid (freeVTo HF (by rw [cellAtV_no (fun h => by omega)]; decide))
        go_enter Tryz.func105, Tryz.ntmps105
        go_wp2
        go_ret
        exact ⟨bool_ret HN.out rfl, hB⟩
    · have HN : Hid (false = f) := Lib.hid (freeVTo HF (by rw [cellAtV_no (fun h => by omega)]; decide))
      go_enter Tryz.func105, Tryz.ntmps105
      go_wp2
      go_ret
      exact ⟨bool_ret HN.out rfl, hB⟩
  · have HN : Hid (false = f) := Lib.hid (freeVTo HF (by rw [cellAtV_no (fun h => by omega)]; decide))
    go_enter Tryz.func105, Tryz.ntmps105
    go_wp2
    go_ret
    exact ⟨bool_ret HN.out rfl, hB⟩

end Go.Proofs.YthnmapomhgjblaaGreatDoor

namespace Go.Proofs.YthnmapomhgjblaaGreatDoor
set_option maxRecDepth 4096
open Go.ChangeShapes Go.WideShapes Go.ChangeAt Go.RowKit

theorem implGridOk (W H : Int) (C : ByteArray) (hC : C.size ≤ 1048576) (w : World) :
    Calls Tryz.prog 74 #[.agg #[.int .i64 W, .int .i64 H, .string C]] w (Made w (.bool (gok W H C))) := by
  go_enter Tryz.func74, Tryz.ntmps74
  go_wp2_with (first
    | (go_at_call 90; (with_reducible refine (rowsOf W H C hC _).mono ?_); rintro e w' ⟨rfl, hb⟩)
    | (refine wpStoreRows W H C _ _ rfl rfl rfl rfl ?_))
  go_ret
  exact ⟨rfl, (((Below.refl _ _).alloc (Nat.le_refl _) _).trans (hb.mono (by simp))).trans ((rows_in _ _).1.mono (by have := hb.size; simp at this; omega))⟩

end Go.Proofs.YthnmapomhgjblaaGreatDoor

