/-
  CONTRACT of spec.l08Back: the first step that fits. No law is proved here.
-/
import Derived.Test.YthaaadbeoedgbaaNextM
import Derived.Test.YthaaadbeoedgbaaSpecFar
namespace Go.Proofs.Ythaaadbeoedgbaa
set_option maxRecDepth 4096
open Go.ChangeShapes Go.WideShapes Go.ChangeAt Go.RowKit

theorem fitF_at {D : Nat → Int} {v a t : Nat} {r c y : Int} : fitF D v (⟨(a : Int), (t : Int), r, c⟩, y) ↔ (t : Int) = (v : Int) ∧ y < r ∧ D a < 1152921504606846976 ∧ D a + 10000 * c + 1 = D v := Iff.rfl
theorem fitB_at {D : Nat → Int} {v a t : Nat} {r c y : Int} : fitB D v (⟨(a : Int), (t : Int), r, c⟩, y) ↔ (a : Int) = (v : Int) ∧ 0 < y ∧ D t < 1152921504606846976 ∧ D t - 10000 * c + 1 = D v := Iff.rfl
theorem back_drop {D : Nat → Int} {v k : Nat} {P : List (ArcD × Int)} {p : ArcD × Int} (h : P[k]? = some p) : backI D v (P.drop k) k = if fitF D v p then (k : Int) + 1 else if fitB D v p then -(k : Int) - 1 else backI D v (P.drop (k + 1)) (k + 1) := by
  obtain ⟨hi, rfl⟩ := List.getElem?_eq_some_iff.1 h
  rw [List.drop_eq_getElem_cons hi]
  rfl
/-- The numbers are in bounds. -/
def Small (D : Nat → Int) : Prop := ∀ j, -10000010000000 ≤ D j ∧ D j ≤ 1152921504606846976 ∧ (D j < 1152921504606846976 → D j ≤ 10000010000000)
theorem far_small {P : List (ArcD × Int)} {n : Nat} (hP : Fit P n) (hn : 0 < n) (h15 : n ≤ 1500) : Small (farV P) := by
  intro j
  by_cases hx : ∃ d, IsD P j d
  · obtain ⟨d, hd⟩ := hx
    have := isD_bd hP hn h15 hd
    rw [far_is hd]
    omega
  · rw [far_no hx]
    omega
theorem arc_c {wr : World} {q : Nat} {x : ArcD} (h : wr.heap[q]? = some (.cells #[.int .i64 x.f, .int .i64 x.t, .int .i64 x.r, .int .i64 x.c] 64 (0, 0))) :
    wr.cell? ⟨q, 0, none⟩ = some (.int .i64 x.f) ∧ wr.cell? ⟨q, 1, none⟩ = some (.int .i64 x.t) ∧ wr.cell? ⟨q, 2, none⟩ = some (.int .i64 x.r) ∧ wr.cell? ⟨q, 3, none⟩ = some (.int .i64 x.c) :=
  ⟨by rw [cell_of_row _ _ _ _ _ _ h]; rfl, by rw [cell_of_row _ _ _ _ _ _ h]; rfl, by rw [cell_of_row _ _ _ _ _ _ h]; rfl, by rw [cell_of_row _ _ _ _ _ _ h]; rfl⟩

set_option maxHeartbeats 4000000 in
theorem specBack (n : Nat) (A : List ArcD) (F : List Int) (D : Nat → Int) (u : Nat) (z : Int) (v vf vd : Value) (hok : flowOkV n A F = true) (hD : Small D) (hu : u < n) (HZ : Hid (backI D u (A.zip F) 0 = z)) (w : World) (hv : Arcs w v A) (hf : Ints w vf F) (hd : Ints w vd (rowO D n)) :
    Calls Try.prog 40 #[.agg #[.int .i64 (n : Int), v], vf, vd, .int .i64 (u : Int)] w (Made w (.int .i64 z)) := by
  obtain ⟨hn, hF, _, _⟩ := flowOk_out hok
  obtain ⟨⟨h2, h15⟩, hA, hokA⟩ := netOk_out hn
  have hB := Below.refl (w.alloc (.cells #[.int .i64 (n : Int), v] 26)).heap.size (w.alloc (.cells #[.int .i64 (n : Int), v] 26))
  obtain ⟨av, cv, rfl, HV⟩ := arcs_form hv
  obtain ⟨af, cf, rfl, HF⟩ := ints_form hf
  obtain ⟨ad, cd, rfl, HDD⟩ := ints_form hd
  rw [hF, rowO_len]
  rw [rowO_len] at HDD
  have HVh := Lib.hid HV
  have HFh := Lib.hid HF
  have HDh := Lib.hid HDD
  have HOK := Lib.hid hokA
  have HL := Lib.hid hF
  have HSM := Lib.hid hD
  have hu2 : (u : Int) < (n : Int) := by omega
  clear HV hv HF hf HDD hd hok hokA hF hn hD
  go_enter Try.func40, Try.ntmps40
  go_wp2_with fail
  go_loopw [9] (fun i wr => ∃ k : Nat, i = .int .i64 k ∧ k ≤ A.length ∧ Hid (backI D u ((A.zip F).drop k) k = z) ∧ Below (w.alloc (.cells #[.int .i64 (n : Int), .slice av A.length cv] 26)).heap.size (w.alloc (.cells #[.int .i64 (n : Int), .slice av A.length cv] 26)) wr) (fun i _ => A.length - (intOf i).toNat)
  case atStart => exact ⟨0, rfl, Nat.zero_le _, by simpa using HZ, hB⟩
  case round =>
    clear hB HZ
    obtain ⟨k, rfl, hk, HZ, hB⟩ := hrel
    obtain ⟨c0, c1⟩ := net_cells hB
    by_cases hltk : k < A.length
    · have hltF : k < F.length := by have := HL.out; omega
      obtain ⟨y, hy⟩ : ∃ y, F[k]? = some y := ⟨_, List.getElem?_eq_getElem hltF⟩
      obtain ⟨a, t, xr, xc, hx, han, htn, hne, _, hcb⟩ := arc_natD HOK.out hltk
      have hz := back_drop (D := D) (v := u) (zip_at hx hy)
      rw [HZ.out] at hz
      have HBK := Lib.hid hz
      rcases HVh.out with h0 | ⟨g, rfl, hgl, hc⟩
      · omega
      · rcases HFh.out with h0 | ⟨gf, rfl, hgf, hcf⟩
        · have := HL.out; omega
        · rcases HDh.out with h0 | ⟨gd, rfl, hgd, hcd⟩
          · omega
          · obtain ⟨d0, d1, d2, d3⟩ := hc k _ hx
            dsimp only at d0 d1 d2 d3
            have hb0 := below_box hB
            have e0 := (hb0.cell (p := ⟨g, _, none⟩) hgl).trans d0
            have e1 := (hb0.cell (p := ⟨g, _, none⟩) hgl).trans d1
            have e2 := (hb0.cell (p := ⟨g, _, none⟩) hgl).trans d2
            have e3 := (hb0.cell (p := ⟨g, _, none⟩) hgl).trans d3
            have HY := Lib.hid (hcf k y hy)
            have HDA := Lib.hid (hcd a _ (rowO_at D han))
            have HDT := Lib.hid (hcd t _ (rowO_at D htn))
            have HDU := Lib.hid (hcd u _ (rowO_at D hu))
            have HB2 := Lib.hid (hB.alloc hB.size (.cells #[.int .i64 (a : Int), .int .i64 (t : Int), .int .i64 xr, .int .i64 xc] 64))
            have H0 := Lib.hid (heap_alloc_new wr (.cells #[.int .i64 (a : Int), .int .i64 (t : Int), .int .i64 xr, .int .i64 xc] 64))
            have hlt5 : (k : Int) < (A.length : Int) := by omega
            have han2 : (a : Int) < (n : Int) := by omega
            have htn2 : (t : Int) < (n : Int) := by omega
            have hw0 : IntKind.i64.wrap (10000 * xc) = 10000 * xc := IntWalk.i64_in _ (by omega)
            obtain ⟨ba0, ba1, ba2⟩ := HSM.out a
            obtain ⟨bt0, bt1, bt2⟩ := HSM.out t
            clear hc hcf hcd hx hy hb0 hB d0 d1 d2 d3 hz
            go_upto_region 5 with fail
            generalize wr.alloc (.cells #[.int .i64 (a : Int), .int .i64 (t : Int), .int .i64 xr, .int .i64 xc] 64) = wa at HB2 H0 ⊢
            generalize wr.heap.size = q at H0 ⊢
            obtain ⟨b0, b1, b2, b3⟩ := arc_c (x := ⟨(a : Int), (t : Int), xr, xc⟩) H0.out
            dsimp only at b0 b1 b2 b3
            have dy := ((below_box HB2.out).cell (p := ⟨gf, _, none⟩) hgf).trans HY.out
            have da := ((below_box HB2.out).cell (p := ⟨gd, _, none⟩) hgd).trans HDA.out
            have dt := ((below_box HB2.out).cell (p := ⟨gd, _, none⟩) hgd).trans HDT.out
            have du := ((below_box HB2.out).cell (p := ⟨gd, _, none⟩) hgd).trans HDU.out
            obtain ⟨k1, hk1⟩ : ∃ c, Hid (decide (fitF D u (⟨(a : Int), (t : Int), xr, xc⟩, y)) = c) := ⟨_, rfl⟩
            obtain ⟨k2, hk2⟩ : ∃ c, Hid (decide (fitB D u (⟨(a : Int), (t : Int), xr, xc⟩, y)) = c) := ⟨_, rfl⟩
            generalize hsa : D a = sa at da ba0 ba1 ba2
            generalize hst : D t = st at dt bt0 bt1 bt2
            generalize hsu : D u = su at du
            have HSA := Lib.hid hsa
            have HST := Lib.hid hst
            have HSU := Lib.hid hsu
            clear hsa hst hsu
            go_upto_region 6 with fail
            go_cut [61] from 26 to 97 (fun b wx => b = .bool k1 ∧ ∃ m, wx = wa.drewN m)
            case first =>
              by_cases htu : t = u
              · subst htu
                obtain rfl : st = su := HST.out.symm.trans HSU.out
                have hq1 : ((t : Int) == (t : Int)) = true := by simp
                clear du
                by_cases hr : y < xr
                · by_cases hd : sa < 1152921504606846976
                  · have hwa : IntKind.i64.wrap (sa + 10000 * xc) = sa + 10000 * xc := IntWalk.i64_in _ (by have := ba2 hd; omega)
                    have hwb : IntKind.i64.wrap (sa + 10000 * xc + 1) = sa + 10000 * xc + 1 := IntWalk.i64_in _ (by have := ba2 hd; omega)
                    by_cases hl : sa + 10000 * xc + 1 = st
                    · have e : k1 = true := by rw [← hk1.out]; exact decide_eq_true (fitF_at.2 ⟨rfl, hr, by rw [HSA.out]; exact hd, by rw [HSA.out, HST.out]; exact hl⟩)
                      have hq2 : (sa + 10000 * xc + 1 == st) = true := by simpa using hl
                      clear hl
                      go_quiet (fail)
                      go_wp2_with fail
                      go_meet
                      exact ⟨by rw [e], _, rfl⟩
                    · have e : k1 = false := by rw [← hk1.out]; exact decide_eq_false (fun h => hl (by have := (fitF_at.1 h).2.2.2; rw [HSA.out, HST.out] at this; exact this))
                      have hq2 : (sa + 10000 * xc + 1 == st) = false := by simpa using hl
                      clear hl
                      go_quiet (fail)
                      go_wp2_with fail
                      go_meet
                      exact ⟨by rw [e], _, rfl⟩
                  · have e : k1 = false := by rw [← hk1.out]; exact decide_eq_false (fun h => hd (by have := (fitF_at.1 h).2.2.1; rw [HSA.out] at this; exact this))
                    go_quiet (fail)
                    go_wp2_with fail
                    go_meet
                    exact ⟨by rw [e], _, rfl⟩
                · have e : k1 = false := by rw [← hk1.out]; exact decide_eq_false (fun h => hr (fitF_at.1 h).2.1)
                  go_quiet (fail)
                  go_wp2_with fail
                  go_meet
                  exact ⟨by rw [e], _, rfl⟩
              · have hq1 : ((t : Int) == (u : Int)) = false := by simp; omega
                have e : k1 = false := by rw [← hk1.out]; exact decide_eq_false (fun h => htu (by have := (fitF_at.1 h).1; omega))
                clear htu
                go_quiet (fail)
                go_wp2_with fail
                go_meet
                exact ⟨by rw [e], _, rfl⟩
            case rest =>
              clear b0 b1 b2 b3 da dt du dy
              obtain ⟨rfl, m, rfl⟩ := hcut
              have HB3 := Lib.hid (below_drewN HB2.out m)
              have H3 : Hid ((wa.drewN m).heap[q]? = _) := Lib.hid H0.out
              generalize wa.drewN m = wb at HB3 H3 ⊢
              go_upto_if 61 with fail
              cases k1 with
              | true =>
                have e : z = (k : Int) + 1 := by rw [HBK.out, if_pos (of_decide_eq_true hk1.out)]
                have HE := Lib.hid e
                have hw1 : IntKind.i64.wrap ((k : Int) + 1) = (k : Int) + 1 := IntWalk.i64_in _ (by omega)
                clear e
                go_wp2_with fail
                go_ret
                exact ⟨by rw [HE.out]; rfl, below_box HB3.out⟩
              | false =>
                go_upto_region 8 with fail
                obtain ⟨b0, b1, b2, b3⟩ := arc_c (x := ⟨(a : Int), (t : Int), xr, xc⟩) H3.out
                dsimp only at b0 b1 b2 b3
                have dy := ((below_box HB3.out).cell (p := ⟨gf, _, none⟩) hgf).trans HY.out
                have da := ((below_box HB3.out).cell (p := ⟨gd, _, none⟩) hgd).trans HDA.out
                have dt := ((below_box HB3.out).cell (p := ⟨gd, _, none⟩) hgd).trans HDT.out
                have du := ((below_box HB3.out).cell (p := ⟨gd, _, none⟩) hgd).trans HDU.out
                rw [HSA.out] at da
                rw [HST.out] at dt
                rw [HSU.out] at du
                clear b2 b3
                go_cut [97] from 26 to 97 (fun b wx => b = .bool k2 ∧ ∃ m, wx = wb.drewN m)
                case first =>
                  by_cases hau : a = u
                  · subst hau
                    obtain rfl : sa = su := HSA.out.symm.trans HSU.out
                    have hq1 : ((a : Int) == (a : Int)) = true := by simp
                    clear du
                    by_cases hr : 0 < y
                    · by_cases hd : st < 1152921504606846976
                      · have hwa : IntKind.i64.wrap (st - 10000 * xc) = st - 10000 * xc := IntWalk.i64_in _ (by have := bt2 hd; omega)
                        have hwb : IntKind.i64.wrap (st - 10000 * xc + 1) = st - 10000 * xc + 1 := IntWalk.i64_in _ (by have := bt2 hd; omega)
                        by_cases hl : st - 10000 * xc + 1 = sa
                        · have e : k2 = true := by rw [← hk2.out]; exact decide_eq_true (fitB_at.2 ⟨rfl, hr, by rw [HST.out]; exact hd, by rw [HSA.out, HST.out]; exact hl⟩)
                          have hq2 : (st - 10000 * xc + 1 == sa) = true := by simpa using hl
                          clear hl
                          go_quiet (fail)
                          go_wp2_with fail
                          go_meet
                          exact ⟨by rw [e], _, rfl⟩
                        · have e : k2 = false := by rw [← hk2.out]; exact decide_eq_false (fun h => hl (by have := (fitB_at.1 h).2.2.2; rw [HSA.out, HST.out] at this; exact this))
                          have hq2 : (st - 10000 * xc + 1 == sa) = false := by simpa using hl
                          clear hl
                          go_quiet (fail)
                          go_wp2_with fail
                          go_meet
                          exact ⟨by rw [e], _, rfl⟩
                      · have e : k2 = false := by rw [← hk2.out]; exact decide_eq_false (fun h => hd (by have := (fitB_at.1 h).2.2.1; rw [HST.out] at this; exact this))
                        go_quiet (fail)
                        go_wp2_with fail
                        go_meet
                        exact ⟨by rw [e], _, rfl⟩
                    · have e : k2 = false := by rw [← hk2.out]; exact decide_eq_false (fun h => hr (fitB_at.1 h).2.1)
                      go_quiet (fail)
                      go_wp2_with fail
                      go_meet
                      exact ⟨by rw [e], _, rfl⟩
                  · have hq1 : ((a : Int) == (u : Int)) = false := by simp; omega
                    have e : k2 = false := by rw [← hk2.out]; exact decide_eq_false (fun h => hau (by have := (fitB_at.1 h).1; omega))
                    clear hau
                    go_quiet (fail)
                    go_wp2_with fail
                    go_meet
                    exact ⟨by rw [e], _, rfl⟩
                case rest =>
                  clear b0 b1 da dt du dy
                  obtain ⟨rfl, m2, rfl⟩ := hcut
                  have HB4 := Lib.hid (below_drewN HB3.out m2)
                  generalize wb.drewN m2 = wd at HB4 ⊢
                  go_upto_if 97 with fail
                  have hn1 : ¬ fitF D u (⟨(a : Int), (t : Int), xr, xc⟩, y) := of_decide_eq_false hk1.out
                  cases k2 with
                  | true =>
                    have e : z = -(k : Int) - 1 := by rw [HBK.out, if_neg hn1, if_pos (of_decide_eq_true hk2.out)]
                    have HE := Lib.hid e
                    have hw1 : IntKind.i64.wrap (-(k : Int)) = -(k : Int) := IntWalk.i64_in _ (by omega)
                    have hw2 : IntKind.i64.wrap (-(k : Int) - 1) = -(k : Int) - 1 := IntWalk.i64_in _ (by omega)
                    clear e hn1
                    go_wp2_with fail
                    go_ret
                    exact ⟨by rw [HE.out]; rfl, below_box HB4.out⟩
                  | false =>
                    have HZ2 : Hid (backI D u ((A.zip F).drop (k + 1)) (k + 1) = z) := Lib.hid (by rw [HBK.out, if_neg hn1, if_neg (of_decide_eq_false hk2.out)])
                    clear hn1
                    go_wp2_with fail
                    go_roundw
                    case rel => exact ⟨k + 1, by go_num, by omega, HZ2, HB4.out⟩
                    case measure => simp [intOf]; omega
    · obtain rfl : k = A.length := by omega
      have hzl : (A.zip F).length = A.length := by rw [List.length_zip, HL.out]; omega
      have HZ0 : Hid ((0 : Int) = z) := Lib.hid (by rw [← HZ.out, List.drop_eq_nil_of_le (Nat.le_of_eq hzl)]; rfl)
      have HB2 := Lib.hid hB
      clear hB hzl
      go_wp2_with fail
      go_ret
      exact ⟨by rw [← HZ0.out]; rfl, below_box HB2.out⟩

end Go.Proofs.Ythaaadbeoedgbaa
