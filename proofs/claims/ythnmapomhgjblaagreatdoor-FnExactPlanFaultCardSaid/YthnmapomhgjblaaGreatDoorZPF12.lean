/-
  CONTRACTS of spec.l12Ring, l12Count, SwapsAt and RingsAt. No law is proved here.
  CONTRACTS of spec.l12Count, SwapsAt and RingsAt. No law is proved here.
  A STEP: 'append(row, list...)', the row of the call's own, the list nil, empty or in memory. No statement is proved here.
-/
import Derived.Test.YthnmapomhgjblaaGreatDoorZPF11
import Derived.Test.YthnmapomhgjblaaGreatDoorZPF00
import Derived.Deep.Upon
import Derived.Laws.OwnMore
namespace Go.Proofs.YthnmapomhgjblaaGreatDoor
set_option maxRecDepth 4096
open Go.ChangeShapes Go.WideShapes Go.ChangeAt Go.RowKit

/-- What is found among the first j: the last one; there is at most one. -/
def Seen (A : List Int) (y : Int) (j : Nat) (z : Int) : Prop := (z = -1 ∧ ∀ (a : Nat) x, a < j → A[a]? = some x → x ≠ y) ∨ (∃ a : Nat, a < A.length ∧ z = (a : Int) ∧ A[a]? = some y)
theorem ringG_at (A B : List Int) (i f k n : Nat) : ringG A B i (f + 1) k n = (match nxtV A B k with | none => 0 | some x => if x = i then n else ringG A B i f x (n + 1)) := rfl

set_option maxHeartbeats 4000000 in
theorem specRing (v : Value) (Ws : List (List Int)) (n i : Nat) (m : Nat) (hT : totW Ws ≤ 2000000) (hlev : levV Ws (n : Int) = true) (hfree : meetV Ws (n : Int) = false) (hi : i < Ws.length) (HZ : Hid (ringV (colL Ws n) (colL Ws (n + 1)) i = m)) (w : World) (hv : WaysAt w v Ws) :
    Calls Tryz.prog 89 #[v, .int .i64 (n : Int), .int .i64 (i : Int)] w fun e w' => e = .returned (.int .i64 (m : Int)) ∧ ∃ q, w' = w.drewN q := by
  have hW10 := (even_iff.1 (lev_iff.1 hlev).1).2.1
  have hnd := (free_nodup hlev hfree).1
  have hAl : (colL Ws n).length = Ws.length := col_len
  have HT := Lib.hid hT
  have HLEV := Lib.hid hlev
  have HVV := Lib.hid hv
  obtain ⟨A, HA⟩ : ∃ A, Hid (colL Ws n = A) := ⟨_, rfl⟩
  obtain ⟨B, HBB⟩ : ∃ B, Hid (colL Ws (n + 1) = B) := ⟨_, rfl⟩
  rw [HA.out, HBB.out] at HZ
  rw [HA.out] at hAl hnd
  have HND := Lib.hid hnd
  have HALW := Lib.hid hAl
  have hwr : IntKind.i64.wrap ((n : Int) + 1) = ((n + 1 : Nat) : Int) := by
    have := lev_cells hlev (List.getElem?_eq_getElem hi)
    obtain ⟨_, _, _, h2, _⟩ := this
    have h3 := (List.getElem?_eq_some_iff.1 h2).1
    have h4 := totW_one (List.getElem?_eq_getElem hi)
    rw [IntWalk.i64_in _ (by omega)]; omega
  have HWR := Lib.hid hwr
  obtain ⟨g, _, c, e, _⟩ := way_at hv (List.getElem?_eq_getElem hi)
  subst e
  have HZ0 : Hid (ringG A B i (Ws.length + 1 - 1) i 1 = m) := Lib.hid (by rw [← HZ.out]; unfold ringV; rw [HALW.out]; rfl)
  clear hnd hAl hv hlev hfree hT hwr
  go_enter Tryz.func89, Tryz.ntmps89
  go_wp2_with fail
  go_loopw [7, 8, 9, 10] (fun x s _ _ wr => ∃ k r q : Nat, x = .int .i64 k ∧ s = .int .i64 r ∧ k < Ws.length ∧ 1 ≤ r ∧ r ≤ Ws.length + 1 ∧ Hid (ringG A B i (Ws.length + 1 - r) k r = m) ∧ wr = w.drewN q) (fun _ s _ _ _ => Ws.length + 1 - (intOf s).toNat)
  case atStart => exact ⟨i, 1, 0, rfl, rfl, hi, Nat.le_refl _, by omega, HZ0, rfl⟩
  case round =>
    clear HZ0
    obtain ⟨k, r, q, rfl, rfl, hk, hr1, hr2, HG, rfl⟩ := hrel
    by_cases hlt : r ≤ Ws.length
    · have hlt2 : (r : Int) ≤ (Ws.length : Int) := by omega
      obtain ⟨K, hx⟩ : ∃ K, Ws[k]? = some K := ⟨_, List.getElem?_eq_getElem hk⟩
      obtain ⟨_, y, _, hyt, _, hyc⟩ := lev_cells HLEV.out hx
      rw [HBB.out] at hyc
      obtain ⟨_, ak, _, e, hg, u, bk, rfl, dk, hI⟩ := way_at HVV.out hx
      injection e with e1 e2 e3
      injection e1 with e1
      injection e1 with e1
      subst e1
      have hKb : K.length ≤ 2000000 := by have := totW_one hx; have := HT.out; omega
      have hn1 : n + 1 < K.length := (List.getElem?_eq_some_iff.1 hyt).1
      rcases ints_form hI with ⟨_, _, e, HI⟩
      injection e with e1 _ e4
      subst e1 e4
      rcases HI with h0 | ⟨p, rfl, hp, hpc⟩
      · omega
      · have dy := hpc (n + 1) y hyt
        have HYB : Hid (B.getD k 0 = y) := Lib.hid (by rw [List.getD_eq_getElem?_getD, hyc]; rfl)
        have hnK : ((n + 1 : Nat) : Int) < (K.length : Int) := by omega
        have hkW : (k : Int) < (Ws.length : Int) := by omega
        clear hx hyt hyc hpc hI e2 e3
        go_wp2
        go_loopw [9, 10] (fun z s wr => ∃ (j q : Nat) (zz : Int), z = .int .i64 zz ∧ s = .int .i64 j ∧ j ≤ Ws.length ∧ Hid (Seen A y j zz) ∧ wr = w.drewN q) (fun _ s _ => Ws.length - (intOf s).toNat)
        case atStart => exact ⟨0, q, -1, rfl, rfl, Nat.zero_le _, Lib.hid (.inl ⟨rfl, fun a x h => absurd h (by omega)⟩), rfl⟩
        case round =>
          obtain ⟨j, q2, zz, rfl, rfl, hj, HSN, rfl⟩ := hrel
          by_cases hlj : j < Ws.length
          · have hlj2 : (j : Int) < (Ws.length : Int) := by omega
            obtain ⟨L, hx⟩ : ∃ L, Ws[j]? = some L := ⟨_, List.getElem?_eq_getElem hlj⟩
            obtain ⟨x, _, hxt, _, hxc, _⟩ := lev_cells HLEV.out hx
            rw [HA.out] at hxc
            obtain ⟨_, al, _, e, _, u, bl, rfl, dl, hI⟩ := way_at HVV.out hx
            injection e with e1 e2 e3
            injection e1 with e1
            injection e1 with e1
            subst e1
            have hLb : L.length ≤ 2000000 := by have := totW_one hx; have := HT.out; omega
            have hn2 : n < L.length := (List.getElem?_eq_some_iff.1 hxt).1
            rcases ints_form hI with ⟨_, _, e, HI⟩
            injection e with e1 _ e4
            subst e1 e4
            rcases HI with h0 | ⟨p2, rfl, hp2, hpc⟩
            · omega
            · have dx := hpc n x hxt
              have HXC := Lib.hid hxc
              have hnL : (n : Int) < (L.length : Int) := by omega
              have hwr := HWR.out
              clear hx hxt hxc hpc hI e2 e3
              by_cases hxy : x = y
              · subst hxy
                have hb : (x == x) = true := by simp
                go_wp2
                go_quiet (fail)
                go_wp2
                go_roundw
                case rel => exact ⟨j + 1, _, (j : Int), rfl, by go_num, by omega, Lib.hid (.inr ⟨j, by rw [HALW.out]; exact hlj, rfl, HXC.out⟩), rfl⟩
                case measure => simp [intOf]; omega
              · have hb : (x == y) = false := by simpa using hxy
                have HNE := Lib.hid hxy
                clear hxy
                go_wp2
                go_quiet (fail)
                go_wp2
                go_roundw
                case rel => exact ⟨j + 1, _, zz, rfl, by go_num, by omega, Lib.hid (by
                  rcases HSN.out with ⟨h1, h2⟩ | h
                  · refine .inl ⟨h1, fun a x2 ha hz => ?_⟩
                    rcases Nat.lt_succ_iff_lt_or_eq.1 ha with h | h
                    · exact h2 a x2 h hz
                    · rw [h, HXC.out] at hz
                      cases hz
                      exact HNE.out
                  · exact .inr h), rfl⟩
                case measure => simp [intOf]; omega
          · obtain rfl : j = Ws.length := by omega
            have hnl : ¬ (Ws.length : Int) < (Ws.length : Int) := by omega
            have hf : Ws.length + 1 - r = (Ws.length - r) + 1 := by omega
            have hg2 := HG.out
            rw [hf, ringG_at] at hg2
            rcases HSN.out with ⟨rfl, h2⟩ | ⟨a, ha, rfl, haA⟩
            · have e : nxtV A B k = none := nxt_none fun a x hx => by
                rw [HYB.out]
                exact h2 a x (by rw [← HALW.out]; exact (List.getElem?_eq_some_iff.1 hx).1) hx
              rw [e] at hg2
              obtain rfl : m = 0 := hg2.symm
              have hneg : ((-1 : Int) < 0) = True := by simp
              clear hg2 h2
              go_wp2
              go_ret
              exact ⟨rfl, _, rfl⟩
            · have e : nxtV A B k = some a := nxt_is HND.out (by rw [HYB.out]; exact haA)
              rw [e] at hg2
              have haW : a < Ws.length := by rw [← HALW.out]; exact ha
              have h0 : ¬ (a : Int) < 0 := by omega
              clear haA e
              by_cases hai : a = i
              · subst hai
                have hb : ((a : Int) == (a : Int)) = true := by simp
                obtain rfl : m = r := by rw [← hg2]; simp
                clear hg2
                go_wp2
                go_ret
                exact ⟨rfl, _, rfl⟩
              · have hb : ((a : Int) == (i : Int)) = false := by rw [beq_eq_false_iff_ne]; omega
                have HG3 : Hid (ringG A B i (Ws.length - r) a (r + 1) = m) := Lib.hid (by rw [← hg2]; exact (if_neg hai).symm)
                clear hg2 hai
                go_wp2
                go_roundw
                case rel => exact ⟨a, r + 1, q2, rfl, by go_num, haW, by omega, by omega, Lib.hid (by rw [show Ws.length + 1 - (r + 1) = Ws.length - r by omega]; exact HG3.out), rfl⟩
                case measure => simp [intOf]; omega
    · obtain rfl : r = Ws.length + 1 := by omega
      have hnl : ¬ ((Ws.length + 1 : Nat) : Int) ≤ (Ws.length : Int) := by omega
      obtain rfl : m = 0 := by rw [← HG.out, Nat.sub_self]; rfl
      go_wp2
      go_ret
      exact ⟨rfl, _, rfl⟩

end Go.Proofs.YthnmapomhgjblaaGreatDoor

namespace Go.Proofs.YthnmapomhgjblaaGreatDoor
set_option maxRecDepth 4096
open Go.ChangeShapes Go.WideShapes Go.ChangeAt Go.RowKit

theorem inR_isS (A B : List Int) (lo hi i m : Nat) (h : ringV A B i = m) : inR A B lo hi i = (decide ((lo : Int) ≤ (m : Int)) && decide ((m : Int) ≤ (hi : Int))) := by
  unfold inR
  rw [h]
  congr 1
  · exact decide_eq_decide.2 (by omega)
  · exact decide_eq_decide.2 (by omega)

set_option maxHeartbeats 2000000 in
theorem specCount (v : Value) (Ws : List (List Int)) (t : Int) (lo hi m : Nat) (hW : Ws.length ≤ 2000000) (hT : totW Ws ≤ 2000000) (HM : Hid (cntV Ws t lo hi = m)) (w : World) (hv : WaysAt w v Ws) (hwf : (Lit.int .i64 t).wf = true) :
    Calls Tryz.prog 64 #[v, .int .i64 t, .int .i64 (lo : Int), .int .i64 (hi : Int)] w (Made w (.int .i64 (m : Int))) := by
  obtain ⟨r, HR⟩ : ∃ r, Hid (levV Ws t = r) := ⟨_, rfl⟩
  obtain ⟨q, HQ⟩ : ∃ q, Hid (meetV Ws t = q) := ⟨_, rfl⟩
  have HL := Lib.hid (specLevel v Ws t r hW hT HR w hv hwf)
  have HME : Hid (∀ wr, Below w.heap.size w wr → Calls Tryz.prog 34 #[v, .int .i64 t] wr (Made wr (.bool q))) := Lib.hid fun wr hB => specMeet v Ws t q hW hT HQ wr (waysAt_on hv hB) hwf
  have HVV := Lib.hid hv
  have HT := Lib.hid hT
  obtain ⟨av, cv, rfl, _⟩ := hv
  clear hT hwf
  cases r with
  | false =>
    obtain rfl : m = 0 := by rw [← HM.out]; exact cnt_no fun h => by have := h.1; rw [HR.out] at this; cases this
    go_enter Tryz.func64, Tryz.ntmps64
    go_wp2_with fail
    refine HL.out.mono ?_
    rintro e w1 ⟨rfl, hB⟩
    go_wp2_with fail
    go_ret
    exact ⟨rfl, hB⟩
  | true =>
    cases q with
    | true =>
      obtain rfl : m = 0 := by rw [← HM.out]; exact cnt_no fun h => by have := h.2; rw [HQ.out] at this; cases this
      go_enter Tryz.func64, Tryz.ntmps64
      go_wp2_with fail
      refine HL.out.mono ?_
      rintro e w1 ⟨rfl, hB⟩
      go_wp2_with fail
      refine (HME.out w1 hB).mono ?_
      rintro e w2 ⟨rfl, hb⟩
      replace hB := hB.trans (hb.mono hB.size)
      clear hb
      go_wp2_with fail
      go_ret
      exact ⟨rfl, hB⟩
    | false =>
      obtain ⟨n, rfl⟩ := levS_out HR.out
      have HMC : Hid (countR (colL Ws n) (colL Ws (n + 1)) lo hi Ws.length = m) := Lib.hid (by rw [← HM.out, cnt_yes HR.out HQ.out])
      obtain ⟨A, HA⟩ : ∃ A, Hid (colL Ws n = A) := ⟨_, rfl⟩
      obtain ⟨B, HBB⟩ : ∃ B, Hid (colL Ws (n + 1) = B) := ⟨_, rfl⟩
      have HCI : Hid (∀ (i : Nat) (wr : World), i < Ws.length → Below w.heap.size w wr → Calls Tryz.prog 89 #[.slice av Ws.length cv, .int .i64 (n : Int), .int .i64 (i : Int)] wr fun e w' => e = .returned (.int .i64 ((ringV A B i : Nat) : Int)) ∧ ∃ q, w' = wr.drewN q) := Lib.hid fun i wr hi hB => specRing _ Ws n i _ HT.out HR.out HQ.out hi (Lib.hid (by rw [HA.out, HBB.out])) wr (waysAt_on HVV.out hB)
      rw [HA.out, HBB.out] at HMC
      clear HM HVV
      go_enter Tryz.func64, Tryz.ntmps64
      go_wp2_with fail
      refine HL.out.mono ?_
      rintro e w1 ⟨rfl, hB⟩
      go_wp2_with fail
      refine (HME.out w1 hB).mono ?_
      rintro e w2 ⟨rfl, hb⟩
      replace hB := hB.trans (hb.mono hB.size)
      have HB2 := Lib.hid hB
      clear hb hB HL HME
      go_wp2_with fail
      go_loopw [9, 10] (fun s x wr => ∃ i : Nat, i ≤ Ws.length ∧ s = .int .i64 ((countR A B lo hi i : Nat) : Int) ∧ x = .int .i64 i ∧ Below w.heap.size w wr) (fun _ x _ => Ws.length - (intOf x).toNat)
      case atStart => exact ⟨0, Nat.zero_le _, by rw [countR_zero]; rfl, rfl, HB2.out⟩
      case round =>
        clear HB2
        obtain ⟨i, hiW, rfl, rfl, hB⟩ := hrel
        by_cases hlt : i < Ws.length
        · have hlt2 : (i : Int) < (Ws.length : Int) := by omega
          have HC := Lib.hid (HCI.out i wr hlt hB)
          have hcl := countR_le (A := A) (B := B) (lo := lo) (hi := hi) (n := i)
          have HS := Lib.hid (countR_succ (A := A) (B := B) (lo := lo) (hi := hi) (n := i))
          obtain ⟨d, HD⟩ : ∃ d, Hid (ringV A B i = d) := ⟨_, rfl⟩
          obtain ⟨cc, HCC⟩ : ∃ cc, Hid (countR A B lo hi i = cc) := ⟨_, rfl⟩
          rw [HD.out] at HC
          rw [HCC.out] at hcl HS ⊢
          obtain ⟨b, HBR⟩ : ∃ b, Hid ((decide ((lo : Int) ≤ (d : Int)) && decide ((d : Int) ≤ (hi : Int))) = b) := ⟨_, rfl⟩
          have HIN : Hid (inR A B lo hi i = b) := Lib.hid (by rw [inR_isS A B lo hi i d HD.out, HBR.out])
          have HWI := Lib.hid (specRange (d : Int) (lo : Int) (hi : Int) b HBR)
          have HBW := Lib.hid hB
          clear hB
          cases b with
          | true =>
            go_wp2_with (first | (go_at_call 89; refine HC.out.mono ?_; rintro e w' ⟨rfl, q7, rfl⟩; have HB3 := Lib.hid (below_drewN HBW.out q7)) | (go_at_call 59; refine (HWI.out _).mono ?_; rintro e w' ⟨rfl, rfl⟩))
            go_roundw
            case rel => exact ⟨i + 1, by omega, by rw [HS.out, HIN.out, if_pos rfl]; go_num, by go_num, HB3.out⟩
            case measure => simp [intOf]; omega
          | false =>
            go_wp2_with (first | (go_at_call 89; refine HC.out.mono ?_; rintro e w' ⟨rfl, q7, rfl⟩; have HB3 := Lib.hid (below_drewN HBW.out q7)) | (go_at_call 59; refine (HWI.out _).mono ?_; rintro e w' ⟨rfl, rfl⟩))
            go_roundw
            case rel => exact ⟨i + 1, by omega, by rw [HS.out, HIN.out, if_neg (by decide)]; go_num, by go_num, HB3.out⟩
            case measure => simp [intOf]; omega
        · obtain rfl : i = Ws.length := by omega
          have hnl : ¬ (Ws.length : Int) < (Ws.length : Int) := by omega
          rw [HMC.out]
          go_wp2
          go_ret
          exact ⟨rfl, hB⟩

theorem specSwaps (v : Value) (Ws : List (List Int)) (t : Int) (m : Nat) (hW : Ws.length ≤ 2000000) (hT : totW Ws ≤ 2000000) (HM : Hid (swapsV Ws t = m)) (w : World) (hv : WaysAt w v Ws) (hwf : (Lit.int .i64 t).wf = true) :
    Calls Tryz.prog 35 #[v, .int .i64 t] w (Made w (.int .i64 (m : Int))) := by
  obtain ⟨q, HQ⟩ : ∃ q, Hid (cntV Ws t 2 2 = q) := ⟨_, rfl⟩
  have hq : q ≤ Ws.length := by rw [← HQ.out]; exact cnt_le
  have e : m = q / 2 := by rw [← HM.out]; unfold swapsV; rw [HQ.out]
  have HC := Lib.hid (specCount v Ws t 2 2 q hW hT HQ w hv hwf)
  have hdiv : (q : Int).tdiv 2 = ((q / 2 : Nat) : Int) := rfl
  subst e
  obtain ⟨av, cv, rfl, _⟩ := hv
  clear hwf hT
  go_enter Tryz.func35, Tryz.ntmps35
  go_wp2_with fail
  refine HC.out.mono ?_
  rintro e w1 ⟨rfl, hB⟩
  go_wp2_with fail
  go_ret
  exact ⟨by go_num, hB⟩
theorem specRings (v : Value) (Ws : List (List Int)) (t : Int) (m : Nat) (hW : Ws.length ≤ 2000000) (hT : totW Ws ≤ 2000000) (HM : Hid (ringsV Ws t = m)) (w : World) (hv : WaysAt w v Ws) (hwf : (Lit.int .i64 t).wf = true) :
    Calls Tryz.prog 36 #[v, .int .i64 t] w (Made w (.int .i64 (m : Int))) := by
  have HC := Lib.hid (specCount v Ws t 3 10 m hW hT HM w hv hwf)
  obtain ⟨av, cv, rfl, _⟩ := hv
  clear hwf hT
  go_enter Tryz.func36, Tryz.ntmps36
  go_wp2_with fail
  refine HC.out.mono ?_
  rintro e w1 ⟨rfl, hB⟩
  go_wp2_with fail
  go_ret
  exact ⟨rfl, hB⟩

end Go.Proofs.YthnmapomhgjblaaGreatDoor

namespace Go.Proofs.YthnmapomhgjblaaGreatDoor
set_option maxRecDepth 4096
open Go.ChangeShapes Go.WideShapes Go.ChangeAt Go.RowKit

theorem app_run (w : World) (B : Nat) (v u : Value) (M L : List Int) (ty : TypeId) (hown : w.ownsRow B 3 1 v M.length (M.map (Value.int .i64))) (hv : ArgI w u L) (hl : M.length + L.length ≤ 100000000) (hB : B ≤ w.heap.size) :
    ∃ v' w', (Builtin.append_ #[26, 26] ty #[v, u]).run Tryz.prog w = .ok v' w' ∧ w'.ownsRow B 3 1 v' (M ++ L).length ((M ++ L).map (Value.int .i64)) ∧ w.grownBy w' v.ownBlock := by
  obtain ⟨i0, hi, hz0, hz1, hz2⟩ := info_parts Tryz.info3
  obtain ⟨a, c, rfl, hc⟩ := hv
  by_cases h0 : L.length = 0
  · obtain rfl := List.eq_nil_of_length_eq_zero h0
    have hs : Src Tryz.prog i0.size 26 (.slice a 0 c) 0 [] w := by
      cases a with
      | none => exact Src.ofNil w Tryz.underlying26 c
      | some p => exact Src.ofSlice w Tryz.underlying26 p 0 c [] (by simp) (by intro j u h; simp at h) (by intro u h; cases h)
    obtain ⟨p, k, hk, hv⟩ : ∃ p k, M.length ≤ k ∧ v = .slice p M.length k := by
      rcases hown.2 with ⟨rfl, h⟩ | ⟨g, cap, cur, rfl, _, _, h, _⟩
      · exact ⟨none, 0, by omega, by rw [h]⟩
      · exact ⟨_, _, h, rfl⟩
    subst hv
    refine ⟨_, w, run_append_nothing w _ _ _ _ i0 Tryz.underlying26 hi p M.length k hk _ hs, ?_, World.grownBy.refl _ _⟩
    rw [List.append_nil]
    exact hown
  · rcases hc with h | ⟨b, rfl, _, hc⟩
    · exact absurd h h0
    · obtain ⟨v', w', h1, h2, h3, _⟩ := run_append_own (P := Tryz.prog) w B 26 ty 3 i0 (.int .i64 0) 1 8 Tryz.underlying26 hi hz0 hz1 hz2 rfl (by decide) v M.length (M.map (Value.int .i64)) hown b L.length c (L.map (Value.int .i64)) (by simp) (fun j u h => by
          rw [List.getElem?_map] at h
          obtain ⟨x, hx, rfl⟩ := Option.map_eq_some_iff.1 h
          exact hc j x hx) (ints_one _) (by unfold maxLen; omega) (by omega) hB
      refine ⟨v', w', h1, ?_, h3⟩
      rw [List.length_append, List.map_append]
      exact h2

theorem wp_app {o : Oper} {a : Act} {w : World} {K : Act → World → Prop} {Q : Exit → Act → World → Prop} (s x : Operand) (hop : o.op = Op.call { callee := Callee.builtin Builtin.append, args := #[s, x], argTypes := #[26, 26] })
    (B : Nat) (v u : Value) (M L : List Int) (hs : a.eval s = v) (hx : a.eval x = u) (hown : w.ownsRow B 3 1 v M.length (M.map (Value.int .i64))) (hv : ArgI w u L) (hl : M.length + L.length ≤ 100000000) (hB : B ≤ w.heap.size)
    (hK : ∀ v' w', w'.ownsRow B 3 1 v' (M ++ L).length ((M ++ L).map (Value.int .i64)) → w.grownBy w' v.ownBlock → K (a.put o.dst v') w') : Oper.wp Tryz.prog o a w K Q := by
  obtain ⟨v', w', hrun, h1, h2⟩ := app_run w B v u M L o.type hown hv hl hB
  unfold Oper.wp
  simp [execOp, hop, resolve, invoke, builtin, hs, hx, hrun, Result.andThen]
  exact hK _ _ h1 h2
theorem wpList_app {ops : Array Oper} {rest : List Oper} {o : Oper} {a : Act} {w : World} {Q : Exit → Act → World → Prop} (hgd : o.guard = none) (s x : Operand) (hop : o.op = Op.call { callee := Callee.builtin Builtin.append, args := #[s, x], argTypes := #[26, 26] })
    (B : Nat) (v u : Value) (M L : List Int) (hs : a.eval s = v) (hx : a.eval x = u) (hown : w.ownsRow B 3 1 v M.length (M.map (Value.int .i64))) (hv : ArgI w u L) (hl : M.length + L.length ≤ 100000000) (hB : B ≤ w.heap.size)
    (h : ∀ v' w', w'.ownsRow B 3 1 v' (M ++ L).length ((M ++ L).map (Value.int .i64)) → w.grownBy w' v.ownBlock → wpList Tryz.prog ops Q rest (a.put o.dst v') w') : wpList Tryz.prog ops Q (o :: rest) a w :=
  wpList_plain hgd fun _ hK => wp_app s x hop B v u M L hs hx hown hv hl hB fun v' w' h2 h3 => hK _ _ (h v' w' h2 h3)
theorem argI_of_ints {w : World} {v : Value} {L : List Int} (h : Ints w v L) : ArgI w v L := by
  rcases h with ⟨rfl, a, c, rfl⟩ | ⟨g, c, rfl, hg, hc⟩
  · exact ⟨a, c, rfl, .inl rfl⟩
  · refine ⟨_, c, rfl, .inr ⟨_, rfl, hg, fun j x hx => ?_⟩⟩
    have hadd : (⟨g, 0, none⟩ : Addr).add j = ⟨g, j, none⟩ := by unfold Addr.add; split <;> simp_all
    rw [hadd]
    exact hc j x hx

end Go.Proofs.YthnmapomhgjblaaGreatDoor

