/-
  CONTRACTS of spec.PricesOf and spec.NoneCheaper. No law is proved here.
-/
import Derived.Test.YtobflidianlomaaPriceP
import Derived.BigQuiet
import Derived.Deep.QuietTactic
import Derived.Deep.DeepCutAuto
import Derived.Deep.CutRange
namespace Go.Proofs.Ytobflidianlomaa
set_option maxRecDepth 4096
open Go.ChangeShapes Go.WideShapes Go.ChangeAt Go.RowKit

theorem made_row9 {w : World} {B g n : Nat} (h : w.ownsRow B 3 1 (.slice (some ⟨g, 0, none⟩) n n) n (madeCells (Value.int .i64 0).cells (n * 1)).toList) : w.ownsRow B 3 1 (.slice (some ⟨g, 0, none⟩) n n) n ((rowO (fun _ => 0) n).map (Value.int .i64)) := by
  have e : (madeCells (Value.int .i64 0).cells (n * 1)).toList = (rowO (fun _ => 0) n).map (Value.int .i64) := by
    rw [Nat.mul_one]
    refine (toList_madeCells_one _ _).trans ?_
    rw [rowO_const0]
  rw [← e]
  exact h

set_option maxHeartbeats 4000000 in
theorem specPrices (N : Int) (A : List ArcD) (F R : List Int) (v vf : Value) (b : Bool) (hAl : A.length ≤ 2000000) (hFl : F.length ≤ 2000000) (HR : Hid (pricesV N A F = R)) (HB : Hid (priceOk N A F = b)) (w : World) (hv : Arcs w v A) (hf : Ints w vf F) :
    Calls Try.prog 16 #[.agg #[.int .i64 N, v], vf] w (PriceBack w R b) := by
  have hB := Below.refl (w.alloc (.cells #[.int .i64 N, v] 26)).heap.size (w.alloc (.cells #[.int .i64 N, v] 26))
  obtain ⟨c0, c1⟩ := net_cells hB
  have HVV := Lib.hid hv
  have HFF := Lib.hid hf
  clear hv hf
  cases hok : flowOkV N A F with
  | false =>
    have HK := Lib.hid hok
    have hpb : priceOk N A F = false := by
      cases h : priceOk N A F with
      | false => rfl
      | true => rw [(priceOk_iff.1 h).1] at hok; cases hok
    obtain rfl : b = false := HB.out.symm.trans hpb
    obtain rfl : R = [] := HR.out.symm.trans (prices_no hpb)
    clear hok hpb
    go_enter Try.func16, Try.ntmps16
    go_wp2_with (go_at_call 30; refine (specFlowOk N A F v vf false hAl hFl HK _ (arcs_on HVV.out (below_box hB)) (ints_on HFF.out (below_box hB))).mono ?_; rintro e w1 ⟨rfl, hb⟩; have HB1 := Lib.hid (next_below hB hb); clear hb)
    go_ret2
    have hs := HB1.out.size
    rw [World.size_alloc] at hs
    exact ⟨_, rfl, own_base (World.ownsRow_lit (base := w1.heap.size) (e := 3) (size := 1) w1 #[] 0 (Nat.le_refl _) (Nat.zero_le _) rfl) (by omega), (below_box HB1.out).alloc (by omega) _⟩
  | true =>
    have HOKF := Lib.hid hok
    obtain ⟨hn, hF, _, _⟩ := flowOk_out hok
    obtain ⟨⟨h2, h15⟩, hA, hokA⟩ := netOk_out hn
    obtain ⟨n, rfl⟩ : ∃ n : Nat, N = n := ⟨N.toNat, by omega⟩
    have HPO : Hid ((∃ π, PotC (A.zip F) π) ↔ b = true) := Lib.hid (by rw [← HB.out, priceOk_iff]; exact ⟨fun h => ⟨hok, h⟩, fun h => h.2⟩)
    obtain ⟨i0, hi, hz0, hz1, hz2⟩ := info_parts Try.info3
    obtain ⟨av, cv, rfl, HV⟩ := arcs_form HVV.out
    obtain ⟨af, cf, rfl, HF⟩ := ints_form HFF.out
    have HVh := Lib.hid HV
    have HFh := Lib.hid HF
    have HOK := Lib.hid hokA
    have HL := Lib.hid hF
    have HP : Hid (Fit (A.zip F) n) := Lib.hid (fit_of hn)
    have HZL : Hid ((A.zip F).length = A.length) := Lib.hid (by rw [List.length_zip, hF]; omega)
    have hn0 : 0 < n := by omega
    have hn15 : n ≤ 1500 := by omega
    rw [hF] at HFF ⊢
    clear HV HF hokA hn hok hF
    go_enter Try.func16, Try.ntmps16
    go_wp2_with (first
      | (go_at_call 30; refine (specFlowOk n A F _ _ true hAl hFl HOKF _ (arcs_on HVV.out (below_box hB)) (ints_on HFF.out (below_box hB))).mono ?_; rintro e w1 ⟨rfl, hb⟩; have hB1 := next_below hB hb; obtain ⟨c0, c1⟩ := net_cells hB1; clear hb)
      | (at_make; refine wpList_make_full _ rfl (.tmp 17) (.tmp 17) 27 rfl w1.heap.size 3 i0 (.int .i64 0) 1 Try.underlying27 hi hz0 hz1 .i64 .i64 n n n rfl rfl rfl rfl (by rw [hz2]; omega) (by unfold maxLen; omega) (Nat.le_refl _) ?_; intro w2 hrow hg1; have HR1 := Lib.hid hrow; have HB2 := Lib.hid (hB1.grown hg1 hB1.size (fun j hj => (by cases hj))); obtain ⟨c0, c1⟩ := net_cells HB2.out; clear hrow hg1))
    have hs1 := hB1.size
    rw [World.size_alloc] at hs1
    have HM0 : Hid (PM w n w1.heap.size (.slice av A.length cv) (fun _ => 0) w2) := Lib.hid ⟨own_base (made_row9 HR1.out) hs1, HB2.out⟩
    clear hB hB1 c0 c1 HR1 HB2 hs1
    generalize w1.heap.size = gp at HM0 ⊢
    go_loopw [7] (fun i wr => ∃ (r K : Nat) (D : Nat → Int), i = .int .i64 r ∧ r ≤ n + 1 ∧ K ≤ 6400 * r ∧ Hid (FC (A.zip F) n K D) ∧ Hid (LevC (A.zip F) n r D) ∧ Hid (n ≤ r → ¬ ∃ π, PotC (A.zip F) π) ∧ PM w n gp (.slice av A.length cv) D wr) (fun i _ => n + 1 - (intOf i).toNat)
    case atStart => exact ⟨0, 0, _, rfl, Nat.zero_le _, Nat.zero_le _, Lib.hid FC.start, Lib.hid levC_start, Lib.hid (fun h => by omega), HM0.out⟩
    case round =>
      clear HM0
      obtain ⟨r, K, D, rfl, hr, hK, HI, HLV, HNP, hM⟩ := hrel
      obtain ⟨c0, c1⟩ := net_cells hM.below
      by_cases hlt : r ≤ n
      · have hlt2 : (r : Int) ≤ (n : Int) := by omega
        have HM := Lib.hid hM
        clear hM
        go_wp2_with fail
        clear c0 c1
        go_loopw [8, 9] (fun b i wr => ∃ (k : Nat) (s : (Nat → Int) × Bool), i = .int .i64 k ∧ k ≤ A.length ∧ b = .bool s.2 ∧ Hid (lowL ((A.zip F).take k) (D, false) = s) ∧ PM w n gp (.slice av A.length cv) s.1 wr) (fun _ i _ => A.length - (intOf i).toNat)
        case atStart => exact ⟨0, (D, false), rfl, Nat.zero_le _, rfl, Lib.hid (by rw [List.take_zero]; rfl), HM.out⟩
        case round =>
          clear HM
          obtain ⟨k, s, rfl, hk, rfl, HPS, hM⟩ := hrel
          obtain ⟨c0, c1⟩ := net_cells hM.below
          by_cases hltk : k < A.length
          · have hltF : k < F.length := by have := HL.out; omega
            obtain ⟨y, hy⟩ : ∃ y, F[k]? = some y := ⟨_, List.getElem?_eq_getElem hltF⟩
            obtain ⟨a, t, xr, xc, hx, han, htn, hne, _, hcb⟩ := arc_natP HOK.out hltk
            have HZ := Lib.hid (zip_at hx hy)
            rcases HVh.out with h0 | ⟨g, rfl, hgl, hc⟩
            · omega
            · rcases HFh.out with h0 | ⟨gf, rfl, hgf, hcf⟩
              · have := HL.out; omega
              · obtain ⟨d0, d1, d2, d3⟩ := hc k _ hx
                dsimp only at d0 d1 d2 d3
                have hb0 := below_box hM.below
                have e0 := (hb0.cell (p := ⟨g, _, none⟩) hgl).trans d0
                have e1 := (hb0.cell (p := ⟨g, _, none⟩) hgl).trans d1
                have e2 := (hb0.cell (p := ⟨g, _, none⟩) hgl).trans d2
                have e3 := (hb0.cell (p := ⟨g, _, none⟩) hgl).trans d3
                have HY := Lib.hid (hcf k y hy)
                have HMa := Lib.hid (PA.make hM ⟨(a : Int), (t : Int), xr, xc⟩)
                obtain ⟨hI1, _, _, _⟩ := low_ok HP.out ((A.zip F).take k) (fun p hp => List.mem_of_mem_take hp) (s := (D, false)) HI.out
                rw [HPS.out] at hI1
                have hlk : ((A.zip F).take k).length ≤ 3200 := by rw [List.length_take]; omega
                have hK9 : K + 2 * ((A.zip F).take k).length + 1 ≤ 100000000 := by omega
                have HI1 := Lib.hid hI1
                have hlt6 : (k : Int) < (A.length : Int) := by omega
                have han2 : (a : Int) < (n : Int) := by omega
                have htn2 : (t : Int) < (n : Int) := by omega
                clear hc hcf hx hy hb0 hM hI1 d0 d1 d2 d3 hlk
                go_upto_region 12 with fail
                generalize wr.alloc (.cells #[.int .i64 (a : Int), .int .i64 (t : Int), .int .i64 xr, .int .i64 xc] 66) = wa at HMa ⊢
                generalize wr.heap.size = q at HMa ⊢
                have b0 := HMa.out.c0
                have b1 := HMa.out.c1
                have b2 := HMa.out.c2
                have b3 := HMa.out.c3
                dsimp only at b0 b1 b2 b3
                have da := own_num HMa.out.fm.row han
                have dt := own_num HMa.out.fm.row htn
                have dy := ((below_box HMa.out.fm.below).cell (p := ⟨gf, _, none⟩) hgf).trans HY.out
                obtain ⟨k1, hk1⟩ : ∃ c, Hid (decide (moreF s.1 (⟨(a : Int), (t : Int), xr, xc⟩, y)) = c) := ⟨_, rfl⟩
                obtain ⟨ba0, ba1⟩ := HI1.out.bd HP.out (by omega) han
                obtain ⟨bt0, bt1⟩ := HI1.out.bd HP.out (by omega) htn
                generalize hsa : s.1 a = sa at da ba0 ba1
                generalize hst : s.1 t = st at dt bt0 bt1
                have HSA := Lib.hid hsa
                have HST := Lib.hid hst
                clear hsa hst
                have hwa : IntKind.i64.wrap (sa + xc) = sa + xc := IntWalk.i64_in _ (by omega)
                go_cut [58] from 31 to 103 (fun b wx => b = .bool k1 ∧ PA w n gp (.slice (some ⟨g, 0, none⟩) A.length cv) s.1 q ⟨(a : Int), (t : Int), xr, xc⟩ wx)
                case first =>
                  by_cases hr9 : y < xr
                  · by_cases hl : sa + xc < st
                    · have e : k1 = true := by rw [← hk1.out]; exact decide_eq_true (moreF_at.2 ⟨hr9, by rw [HSA.out, HST.out]; exact hl⟩)
                      go_quiet (fail)
                      go_wp2_with fail
                      go_meet
                      exact ⟨by rw [e], HMa.out.drewN _⟩
                    · have e : k1 = false := by rw [← hk1.out]; exact decide_eq_false (fun h => hl (by have := (moreF_at.1 h).2; rw [HSA.out, HST.out] at this; exact this))
                      go_quiet (fail)
                      go_wp2_with fail
                      go_meet
                      exact ⟨by rw [e], HMa.out.drewN _⟩
                  · have e : k1 = false := by rw [← hk1.out]; exact decide_eq_false (fun h => hr9 (moreF_at.1 h).1)
                    go_quiet (fail)
                    go_wp2_with fail
                    go_meet
                    exact ⟨by rw [e], HMa.out.drewN _⟩
                case rest =>
                  clear b0 b1 b2 b3 da dt dy HMa
                  obtain ⟨rfl, hFA⟩ := hcut
                  go_upto_if 58 with fail
                  go_cut [8] from 31 to 103 (fun b wx => b = .bool (lowF (⟨(a : Int), (t : Int), xr, xc⟩, y) s).2 ∧ PA w n gp (.slice (some ⟨g, 0, none⟩) A.length cv) (lowF (⟨(a : Int), (t : Int), xr, xc⟩, y) s).1 q ⟨(a : Int), (t : Int), xr, xc⟩ wx)
                  case first =>
                    cases k1 with
                    | false =>
                      have HFA := Lib.hid hFA
                      clear hFA
                      go_wp2_with fail
                      go_meet
                      rw [lowF_off hk1.out]
                      exact ⟨rfl, HFA.out⟩
                    | true =>
                      have b0 := hFA.c0
                      have b1 := hFA.c1
                      have b3 := hFA.c3
                      dsimp only at b0 b1 b3
                      have da := own_num hFA.fm.row han
                      rw [HSA.out] at da
                      obtain ⟨x0, dt⟩ := own_cell hFA.fm.row htn
                      have f1 := hFA.fm.row.frozenAt t
                      have HSF := Lib.hid (hFA.set t (sa + xc))
                      clear hFA
                      go_wp2_with fail
                      go_still_tail 12, (by kernel_rfl)
                      go_wp2_with fail
                      go_meet
                      rw [lowF_on hk1.out, HSA.out]
                      exact ⟨rfl, HSF.out.drew⟩
                  case rest =>
                    clear hFA
                    obtain ⟨rfl, hFA⟩ := hcut
                    obtain ⟨hI2, _, _, _⟩ := lowF_ok HP.out (List.mem_of_getElem? HZ.out) HI1.out
                    obtain ⟨s1, HS1⟩ : ∃ s1, Hid (lowF (⟨(a : Int), (t : Int), xr, xc⟩, y) s = s1) := ⟨_, rfl⟩
                    rw [HS1.out] at hFA hI2 ⊢
                    clear ba0 ba1 bt0 bt1 HSA HST hk1 hwa
                    go_upto_region 15 with fail
                    have HFA := Lib.hid hFA
                    have b0 := hFA.c0
                    have b1 := hFA.c1
                    have b3 := hFA.c3
                    dsimp only at b0 b1 b3
                    have da := own_num hFA.fm.row han
                    have dt := own_num hFA.fm.row htn
                    have dy := ((below_box hFA.fm.below).cell (p := ⟨gf, _, none⟩) hgf).trans HY.out
                    obtain ⟨k2, hk2⟩ : ∃ c, Hid (decide (moreB s1.1 (⟨(a : Int), (t : Int), xr, xc⟩, y)) = c) := ⟨_, rfl⟩
                    obtain ⟨ba0, ba1⟩ := hI2.bd HP.out (by omega) han
                    obtain ⟨bt0, bt1⟩ := hI2.bd HP.out (by omega) htn
                    generalize hsa : s1.1 a = sa1 at da ba0 ba1
                    generalize hst : s1.1 t = st1 at dt bt0 bt1
                    have HSA := Lib.hid hsa
                    have HST := Lib.hid hst
                    clear hsa hst hFA hI2
                    have hwa : IntKind.i64.wrap (st1 - xc) = st1 - xc := IntWalk.i64_in _ (by omega)
                    go_cut [91] from 31 to 103 (fun b wx => b = .bool k2 ∧ PA w n gp (.slice (some ⟨g, 0, none⟩) A.length cv) s1.1 q ⟨(a : Int), (t : Int), xr, xc⟩ wx)
                    case first =>
                      by_cases hr9 : 0 < y
                      · by_cases hl : st1 - xc < sa1
                        · have e : k2 = true := by rw [← hk2.out]; exact decide_eq_true (moreB_at.2 ⟨hr9, by rw [HSA.out, HST.out]; exact hl⟩)
                          go_quiet (fail)
                          go_wp2_with fail
                          go_meet
                          exact ⟨by rw [e], HFA.out.drewN _⟩
                        · have e : k2 = false := by rw [← hk2.out]; exact decide_eq_false (fun h => hl (by have := (moreB_at.1 h).2; rw [HSA.out, HST.out] at this; exact this))
                          go_quiet (fail)
                          go_wp2_with fail
                          go_meet
                          exact ⟨by rw [e], HFA.out.drewN _⟩
                      · have e : k2 = false := by rw [← hk2.out]; exact decide_eq_false (fun h => hr9 (moreB_at.1 h).1)
                        go_quiet (fail)
                        go_wp2_with fail
                        go_meet
                        exact ⟨by rw [e], HFA.out.drewN _⟩
                    case rest =>
                      clear b0 b1 b3 da dt dy HFA
                      obtain ⟨rfl, hFA⟩ := hcut
                      have HPN : Hid (lowL ((A.zip F).take (k + 1)) (D, false) = lowB (⟨(a : Int), (t : Int), xr, xc⟩, y) s1) := Lib.hid (by rw [lowL_snoc HZ.out, HPS.out, HS1.out])
                      cases k2 with
                      | false =>
                        have HFA := Lib.hid hFA
                        rw [lowB_off hk2.out] at HPN
                        clear hFA
                        go_wp2_with fail
                        go_roundw
                        case rel => exact ⟨k + 1, s1, by go_num, by omega, rfl, HPN, HFA.out.fm⟩
                        case measure => simp [intOf]; omega
                      | true =>
                        have b0 := hFA.c0
                        have b1 := hFA.c1
                        have b3 := hFA.c3
                        dsimp only at b0 b1 b3
                        have dt := own_num hFA.fm.row htn
                        rw [HST.out] at dt
                        obtain ⟨x0, da⟩ := own_cell hFA.fm.row han
                        have f1 := hFA.fm.row.frozenAt a
                        have HSF := Lib.hid (hFA.set a (st1 - xc))
                        rw [lowB_on hk2.out, HST.out] at HPN
                        clear hFA
                        go_wp2_with fail
                        go_still_tail 12, (by kernel_rfl)
                        go_wp2_with fail
                        go_roundw
                        case rel => exact ⟨k + 1, _, by go_num, by omega, rfl, HPN, HSF.out.drew.fm⟩
                        case measure => simp [intOf]; omega
          · obtain rfl : k = A.length := by omega
            have HPA : Hid (lowL (A.zip F) (D, false) = s) := Lib.hid (by rw [← HPS.out, List.take_of_length_le (Nat.le_of_eq HZL.out)])
            obtain ⟨hI2, _, h3, _⟩ := low_ok HP.out (A.zip F) (fun _ hp => hp) (s := (D, false)) HI.out
            rw [HPA.out] at hI2 h3
            rw [HZL.out] at hI2
            have HI2 := Lib.hid hI2
            cases hm : s.2 with
            | false =>
              have e := (h3 hm).1
              have hpot := low_still HP.out HI.out (by rw [HPA.out]; exact hm)
              obtain rfl : b = true := HPO.out.1 ⟨_, hpot⟩
              have HD : Hid (rowO s.1 n = R) := Lib.hid (by
                rw [← HR.out, prices_is HOKF.out hpot]
                exact rowO_same (fun u hu => by rw [e]; exact pot_price HI.out hpot hu))
              have HM := Lib.hid hM
              clear hM hI2 h3 e hpot hm
              go_wp2_with fail
              go_ret2
              have h9 := HM.out.row
              rw [HD.out] at h9
              exact ⟨_, rfl, by have : R.length = n := by rw [← HD.out, rowO_len]
                                rw [this]; exact own_base h9 (by omega), below_box HM.out.below⟩
            | true =>
              have HL2 := Lib.hid (levC_pass HP.out (m := false) HI.out HLV.out)
              rw [HPA.out] at HL2
              have HNN : Hid (n ≤ r + 1 → ¬ ∃ π, PotC (A.zip F) π) := Lib.hid (fun h ⟨π, hπ⟩ => by
                have := levC_still HP.out hπ (HLV.out.mono (show n - 1 ≤ r by omega))
                rw [HPA.out, hm] at this
                cases this)
              have HM := Lib.hid hM
              clear hM hI2 h3 hm
              go_wp2_with fail
              go_roundw
              case rel => exact ⟨r + 1, _, s.1, by go_num, by omega, by omega, HI2, HL2, HNN, HM.out⟩
              case measure => simp [intOf]; omega
      · have hno := HNP.out (by omega)
        have hpb : priceOk n A F = false := by
          cases h : priceOk n A F with
          | false => rfl
          | true => exact absurd (priceOk_iff.1 h).2 hno
        obtain rfl : b = false := HB.out.symm.trans hpb
        obtain rfl : R = [] := HR.out.symm.trans (prices_no hpb)
        have hlt2 : ¬ (r : Int) ≤ (n : Int) := by omega
        have HM := Lib.hid hM
        clear hM hno hpb
        go_wp2_with fail
        go_ret2
        have hs := HM.out.below.size
        rw [World.size_alloc] at hs
        exact ⟨_, rfl, own_base (World.ownsRow_lit (base := wr.heap.size) (e := 3) (size := 1) wr #[] 0 (Nat.le_refl _) (Nat.zero_le _) rfl) (by omega), (below_box HM.out.below).alloc (by omega) _⟩

theorem specNoneCheaper (N : Int) (A : List ArcD) (F : List Int) (v vf : Value) (b : Bool) (hAl : A.length ≤ 2000000) (hFl : F.length ≤ 2000000) (HB : Hid (priceOk N A F = b)) (w : World) (hv : Arcs w v A) (hf : Ints w vf F) :
    Calls Try.prog 25 #[.agg #[.int .i64 N, v], vf] w (Made w (.bool b)) := by
  obtain ⟨R, HR⟩ : ∃ R, Hid (pricesV N A F = R) := ⟨_, rfl⟩
  have hB := Below.refl (w.alloc (.cells #[.int .i64 N, v] 26)).heap.size (w.alloc (.cells #[.int .i64 N, v] 26))
  obtain ⟨c0, c1⟩ := net_cells hB
  have HVV := Lib.hid hv
  have HFF := Lib.hid hf
  clear hv hf
  go_enter Try.func25, Try.ntmps25
  go_wp2_with (go_at_call 16; refine (specPrices N A F R v vf b hAl hFl HR HB _ (arcs_on HVV.out (below_box hB)) (ints_on HFF.out (below_box hB))).mono ?_; rintro e w1 ⟨vl, rfl, hown, hb⟩; have HB1 := Lib.hid (next_below hB hb); clear hown hb)
  go_ret
  exact ⟨rfl, below_box HB1.out⟩

end Go.Proofs.Ytobflidianlomaa
