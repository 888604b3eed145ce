/-
  CONTRACT of spec.l08Far: the least lengths. No law is proved here.
-/
import Derived.Test.YthaaadbeoedgbaaFarP
import Derived.Test.YthaaadbeoedgbaaSpecFlow
import Derived.BigQuiet
import Derived.Deep.QuietTactic
import Derived.Deep.DeepCutAuto
import Derived.Deep.CutRange
namespace Go.Proofs.Ythaaadbeoedgbaa
set_option maxRecDepth 4096
open Go.ChangeShapes Go.WideShapes Go.ChangeAt Go.RowKit

/-- The row of numbers under way, and all else as it was. -/
structure FM (w : World) (n : Nat) (v : Value) (D : Nat → Int) (wr : World) : Prop where
  row : wr.ownsRow (w.heap.size + 1) 3 1 (.slice (some ⟨w.heap.size + 1, 0, none⟩) n n) n ((rowO D n).map (Value.int .i64))
  below : Below (w.alloc (.cells #[.int .i64 (n : Int), v] 26)).heap.size (w.alloc (.cells #[.int .i64 (n : Int), v] 26)) wr
structure FA (w : World) (n : Nat) (v : Value) (D : Nat → Int) (q : Nat) (x : ArcD) (wr : World) : Prop where
  fm : FM w n v D wr
  arc : wr.heap[q]? = some (.cells #[.int .i64 x.f, .int .i64 x.t, .int .i64 x.r, .int .i64 x.c] 64 (0, 0))
  far : w.heap.size + 1 < q
section
variable {w wr : World} {n q : Nat} {v : Value} {D : Nat → Int} {x : ArcD}
theorem FM.drewN (h : FM w n v D wr) (m : Nat) : FM w n v D (wr.drewN m) := ⟨h.row, below_drewN h.below m⟩
theorem FM.drew (h : FM w n v D wr) : FM w n v D wr.drew := ⟨h.row, h.below.drew⟩
theorem FM.alloc (h : FM w n v D wr) (b : Obj) : FM w n v D (wr.alloc b) := ⟨h.row.alloc b, h.below.alloc h.below.size b⟩
theorem FM.set (h : FM w n v D wr) (t : Nat) (y : Int) : FM w n v (putD D t y) (wr.setCell ⟨w.heap.size + 1, t, none⟩ (.int .i64 y)) := by
  obtain ⟨h1, h2⟩ := h.row.stored t (.int .i64 y)
  rw [rowO_put (o' := putD D t y) (putD_at D t y) (fun j e => putD_ne y e)] at h1
  exact ⟨h1, h.below.grown h2 h.below.size (fun j e => by cases e; simp)⟩
theorem FM.same {D' : Nat → Int} (h : FM w n v D wr) (e : ∀ j, j < n → D j = D' j) : FM w n v D' wr := ⟨by rw [← rowO_same e]; exact h.row, h.below⟩
theorem FA.make (h : FM w n v D wr) (x : ArcD) : FA w n v D wr.heap.size x (wr.alloc (.cells #[.int .i64 x.f, .int .i64 x.t, .int .i64 x.r, .int .i64 x.c] 64)) :=
  ⟨h.alloc _, heap_alloc_new wr _, (h.row.lt _ rfl).2⟩
theorem FA.drewN (h : FA w n v D q x wr) (m : Nat) : FA w n v D q x (wr.drewN m) := ⟨h.fm.drewN m, h.arc, h.far⟩
theorem FA.drew (h : FA w n v D q x wr) : FA w n v D q x wr.drew := ⟨h.fm.drew, h.arc, h.far⟩
theorem FA.set (h : FA w n v D q x wr) (t : Nat) (y : Int) : FA w n v (putD D t y) q x (wr.setCell ⟨w.heap.size + 1, t, none⟩ (.int .i64 y)) :=
  ⟨h.fm.set t y, (heap_setCell_other _ _ _ _ (fun e => by have := h.far; simp at e; omega)).trans h.arc, h.far⟩
theorem FA.c0 (h : FA w n v D q x wr) : wr.cell? ⟨q, 0, none⟩ = some (.int .i64 x.f) := by rw [cell_of_row _ _ _ _ _ _ h.arc]; rfl
theorem FA.c1 (h : FA w n v D q x wr) : wr.cell? ⟨q, 1, none⟩ = some (.int .i64 x.t) := by rw [cell_of_row _ _ _ _ _ _ h.arc]; rfl
theorem FA.c2 (h : FA w n v D q x wr) : wr.cell? ⟨q, 2, none⟩ = some (.int .i64 x.r) := by rw [cell_of_row _ _ _ _ _ _ h.arc]; rfl
theorem FA.c3 (h : FA w n v D q x wr) : wr.cell? ⟨q, 3, none⟩ = some (.int .i64 x.c) := by rw [cell_of_row _ _ _ _ _ _ h.arc]; rfl
end

theorem arc_natD {n k : Nat} {A : List ArcD} (hok : ∀ x ∈ A, arcOk (n : Int) x = true) (h : k < A.length) : ∃ (a b : Nat) (r c : Int), A[k]? = some ⟨a, b, r, c⟩ ∧ a < n ∧ b < n ∧ a ≠ b ∧ (0 ≤ r ∧ r ≤ 20) ∧ (0 ≤ c ∧ c ≤ 100) := by
  have hx : A[k]? = some A[k] := List.getElem?_eq_getElem h
  obtain ⟨⟨hf0, hf1⟩, ⟨ht0, ht1⟩, hne, hr, hc⟩ := arcOk_out (hok _ (List.mem_of_getElem? hx))
  refine ⟨A[k].f.toNat, A[k].t.toNat, A[k].r, A[k].c, ?_, by omega, by omega, by omega, hr, hc⟩
  rw [hx, Int.toNat_of_nonneg hf0, Int.toNat_of_nonneg ht0]

set_option maxHeartbeats 4000000 in
theorem specFar (n : Nat) (A : List ArcD) (F : List Int) (v vf : Value) (S : Nat → Prop) (π : Nat → Int) (hok : flowOkV n A F = true) (hS : Feas (A.zip F) S π) (w : World) (hv : Arcs w v A) (hf : Ints w vf F) :
    Calls Try.prog 39 #[.agg #[.int .i64 (n : Int), v], vf] w (IntsBack w (rowO (farV (A.zip F)) n)) := by
  obtain ⟨i0, hi, hz0, hz1, hz2⟩ := info_parts Try.info3
  obtain ⟨hn, hF, _, _⟩ := flowOk_out hok
  obtain ⟨⟨h2, h15⟩, hA, hokA⟩ := netOk_out hn
  have hB := Below.refl (w.alloc (.cells #[.int .i64 (n : Int), v] 26)).heap.size (w.alloc (.cells #[.int .i64 (n : Int), v] 26))
  obtain ⟨c0, c1⟩ := net_cells hB
  obtain ⟨av, cv, rfl, HV⟩ := arcs_form hv
  obtain ⟨af, cf, rfl, HF⟩ := ints_form hf
  rw [hF]
  have HVh := Lib.hid HV
  have HFh := Lib.hid HF
  have HOK := Lib.hid hokA
  have HL := Lib.hid hF
  have HFE := Lib.hid hS
  have HP : Hid (Fit (A.zip F) n) := Lib.hid (fit_of hn)
  have HZL : Hid ((A.zip F).length = A.length) := Lib.hid (by rw [List.length_zip, hF]; omega)
  have hn0 : 0 < n := by omega
  have hn15 : n ≤ 1500 := by omega
  clear HV hv HF hf hok hS hokA hF hn
  go_enter Try.func39, Try.ntmps39
  go_wp2_with (at_make; go_loud (refine wpList_make_full _ rfl (.tmp 13) (.tmp 13) 31 rfl (w.heap.size + 1) 3 i0 (.int .i64 0) 1 Try.underlying31 hi hz0 hz1 .i64 .i64 n n n rfl rfl rfl rfl (by rw [hz2]; omega) (by unfold maxLen; omega) (by simp) ?_); intro w1 hrow hg1; have HR1 := Lib.hid hrow; have HB1 := Lib.hid (hB.grown hg1 hB.size (fun j hj => (by cases hj))); obtain ⟨c0, c1⟩ := net_cells HB1.out; clear hrow hg1)
  have HM0 : Hid (FM w n (.slice av A.length cv) (fun _ => 0) w1) := Lib.hid ⟨by
    have h := HR1.out
    have e : (madeCells (Value.int .i64 0).cells (n * 1)).toList = (rowO (fun _ => 0) n).map (Value.int .i64) := by
      rw [Nat.mul_one, ← rowO_const0]
      exact toList_madeCells_one _ _
    rw [e] at h
    simpa using h, HB1.out⟩
  clear hB c0 c1 HR1 HB1
  go_wp2_with fail
  go_loopw [6] (fun i wr => ∃ j : Nat, i = .int .i64 j ∧ 1 ≤ j ∧ j ≤ n ∧ FM w n (.slice av A.length cv) (fun v => if v = 0 then 0 else if v < j then 1152921504606846976 else 0) wr) (fun i _ => n - (intOf i).toNat)
  case atStart => exact ⟨1, rfl, Nat.le_refl _, hn0, HM0.out.same (fun j _ => by by_cases e : j = 0 <;> simp [e] <;> omega)⟩
  case round =>
    clear HM0
    obtain ⟨j, rfl, hj1, hj, hM⟩ := hrel
    obtain ⟨c0, c1⟩ := net_cells hM.below
    by_cases hlt : j < n
    · have hlt2 : (j : Int) < (n : Int) := by omega
      have f0 := hM.row.frozenAt j
      obtain ⟨x0, d0⟩ := own_cell hM.row hlt
      have HM := Lib.hid (hM.set j 1152921504606846976)
      clear hM
      go_wp2_with fail
      go_roundw
      case rel =>
        refine ⟨j + 1, by go_num, by omega, by omega, HM.out.same (fun u _ => ?_)⟩
        unfold putD
        dsimp only
        by_cases e : u = j
        · subst e
          rw [if_pos rfl, if_neg (by omega), if_pos (by omega)]
        · rw [if_neg e]
          by_cases e0 : u = 0
          · rw [if_pos e0, if_pos e0]
          · rw [if_neg e0, if_neg e0]
            by_cases e1 : u < j
            · rw [if_pos e1, if_pos (by omega)]
            · rw [if_neg e1, if_neg (by omega)]
      case measure => simp [intOf]; omega
    · obtain rfl : j = n := by omega
      have HM : Hid (FM w j (.slice av A.length cv) startF wr) := Lib.hid (hM.same (fun u hu => by unfold startF; by_cases e : u = 0 <;> simp [e]; omega))
      clear hM
      go_wp2_with fail
      clear c0 c1
      go_loopw [7] (fun i wr => ∃ (r K : Nat) (D : Nat → Int), i = .int .i64 r ∧ r ≤ j ∧ K ≤ 6400 * r ∧ Hid (FI (A.zip F) K D) ∧ Hid (Lev (A.zip F) r D) ∧ FM w j (.slice av A.length cv) D wr) (fun i _ => j - (intOf i).toNat)
      case atStart => exact ⟨0, 0, startF, rfl, Nat.zero_le _, Nat.zero_le _, Lib.hid FI.start, Lib.hid lev_start, HM.out⟩
      case round =>
        clear HM
        obtain ⟨r, K, D, rfl, hr, hK, HI, HLV, hM⟩ := hrel
        obtain ⟨c0, c1⟩ := net_cells hM.below
        by_cases hlt : r < j
        · have hlt2 : (r : Int) < (j : Int) := by omega
          have HM := Lib.hid hM
          clear hM
          go_wp2_with fail
          clear c0 c1
          go_loopw [8, 9] (fun b i wr => ∃ (k : Nat) (s : (Nat → Int) × Bool), i = .int .i64 k ∧ k ≤ A.length ∧ b = .bool s.2 ∧ Hid (passL ((A.zip F).take k) (D, false) = s) ∧ FM w j (.slice av A.length cv) s.1 wr) (fun _ i _ => A.length - (intOf i).toNat)
          case atStart => exact ⟨0, (D, false), rfl, Nat.zero_le _, rfl, Lib.hid (by rw [List.take_zero]; rfl), HM.out⟩
          case round =>
            clear HM
            obtain ⟨k, s, rfl, hk, rfl, HPS, hM⟩ := hrel
            obtain ⟨c0, c1⟩ := net_cells hM.below
            by_cases hltk : k < A.length
            · have hltF : k < F.length := by have := HL.out; omega
              obtain ⟨y, hy⟩ : ∃ y, F[k]? = some y := ⟨_, List.getElem?_eq_getElem hltF⟩
              obtain ⟨a, t, xr, xc, hx, han, htn, hne, _, hcb⟩ := arc_natD HOK.out hltk
              have HZ := Lib.hid (zip_at hx hy)
              rcases HVh.out with h0 | ⟨g, rfl, hgl, hc⟩
              · omega
              · rcases HFh.out with h0 | ⟨gf, rfl, hgf, hcf⟩
                · have := HL.out; omega
                · obtain ⟨d0, d1, d2, d3⟩ := hc k _ hx
                  dsimp only at d0 d1 d2 d3
                  have hb0 := below_box hM.below
                  have e0 := (hb0.cell (p := ⟨g, _, none⟩) hgl).trans d0
                  have e1 := (hb0.cell (p := ⟨g, _, none⟩) hgl).trans d1
                  have e2 := (hb0.cell (p := ⟨g, _, none⟩) hgl).trans d2
                  have e3 := (hb0.cell (p := ⟨g, _, none⟩) hgl).trans d3
                  have HY := Lib.hid (hcf k y hy)
                  have HMa := Lib.hid (FA.make hM ⟨(a : Int), (t : Int), xr, xc⟩)
                  obtain ⟨hI1, _, _, _⟩ := pass_ok HP.out ((A.zip F).take k) (fun p hp => List.mem_of_mem_take hp) (s := (D, false)) HI.out
                  rw [HPS.out] at hI1
                  have hlk : ((A.zip F).take k).length ≤ 3200 := by rw [List.length_take]; omega
                  have hK9 : K + 2 * ((A.zip F).take k).length + 1 ≤ 10000000 := by omega
                  have HI1 := Lib.hid hI1
                  have hlt5 : (k : Int) < (F.length : Int) := by omega
                  have hlt6 : (k : Int) < (A.length : Int) := by omega
                  have han2 : (a : Int) < (j : Int) := by omega
                  have htn2 : (t : Int) < (j : Int) := by omega
                  have hw0 : IntKind.i64.wrap (10000 * xc) = 10000 * xc := IntWalk.i64_in _ (by omega)
                  have hjne := HL.out
                  rw [hjne] at hlt5
                  clear hc hcf hx hy hb0 hM hI1 d0 d1 d2 d3 hlk hjne
                  go_upto_region 14 with fail
                  generalize wr.alloc (.cells #[.int .i64 (a : Int), .int .i64 (t : Int), .int .i64 xr, .int .i64 xc] 64) = wa at HMa ⊢
                  generalize wr.heap.size = q at HMa ⊢
                  have b3 := HMa.out.c3
                  dsimp only at b3
                  go_upto_region 15 with fail
                  clear b3
                  have b0 := HMa.out.c0
                  have b1 := HMa.out.c1
                  have b2 := HMa.out.c2
                  dsimp only at b0 b1 b2
                  have da := own_num HMa.out.fm.row han
                  have dt := own_num HMa.out.fm.row htn
                  have dy := ((below_box HMa.out.fm.below).cell (p := ⟨gf, _, none⟩) hgf).trans HY.out
                  obtain ⟨k1, hk1⟩ : ∃ c, Hid (decide (canF s.1 (⟨(a : Int), (t : Int), xr, xc⟩, y)) = c) := ⟨_, rfl⟩
                  obtain ⟨ba0, ba1, ba2⟩ := HI1.out.bd2 HP.out (by omega) a
                  obtain ⟨bt0, bt1, _⟩ := HI1.out.bd2 HP.out (by omega) t
                  generalize hsa : s.1 a = sa at da ba0 ba1 ba2
                  generalize hst : s.1 t = st at dt bt0 bt1
                  have HSA := Lib.hid hsa
                  have HST := Lib.hid hst
                  clear hsa hst
                  go_cut [74] from 44 to 127 (fun b wx => b = .bool k1 ∧ FA w j (.slice (some ⟨g, 0, none⟩) A.length cv) s.1 q ⟨(a : Int), (t : Int), xr, xc⟩ wx)
                  case first =>
                    by_cases hr : y < xr
                    · by_cases hd : sa < 1152921504606846976
                      · have hwa : IntKind.i64.wrap (sa + 10000 * xc) = sa + 10000 * xc := IntWalk.i64_in _ (by have := ba2 hd; omega)
                        have hwb : IntKind.i64.wrap (sa + 10000 * xc + 1) = sa + 10000 * xc + 1 := IntWalk.i64_in _ (by have := ba2 hd; omega)
                        by_cases hl : sa + 10000 * xc + 1 < st
                        · have e : k1 = true := by rw [← hk1.out]; exact decide_eq_true (canF_at.2 ⟨hr, by rw [HSA.out]; exact hd, by rw [HSA.out, HST.out]; exact hl⟩)
                          go_quiet (fail)
                          go_wp2_with fail
                          go_meet
                          exact ⟨by rw [e], HMa.out.drewN _⟩
                        · have e : k1 = false := by rw [← hk1.out]; exact decide_eq_false (fun h => hl (by have := (canF_at.1 h).2.2; rw [HSA.out, HST.out] at this; exact this))
                          go_quiet (fail)
                          go_wp2_with fail
                          go_meet
                          exact ⟨by rw [e], HMa.out.drewN _⟩
                      · have e : k1 = false := by rw [← hk1.out]; exact decide_eq_false (fun h => hd (by have := (canF_at.1 h).2.1; rw [HSA.out] at this; exact this))
                        go_quiet (fail)
                        go_wp2_with fail
                        go_meet
                        exact ⟨by rw [e], HMa.out.drewN _⟩
                    · have e : k1 = false := by rw [← hk1.out]; exact decide_eq_false (fun h => hr (canF_at.1 h).1)
                      go_quiet (fail)
                      go_wp2_with fail
                      go_meet
                      exact ⟨by rw [e], HMa.out.drewN _⟩
                  case rest =>
                    clear b0 b1 b2 da dt dy HMa
                    obtain ⟨rfl, hFA⟩ := hcut
                    go_upto_if 74 with fail
                    go_cut [8] from 44 to 127 (fun b wx => b = .bool (relF (⟨(a : Int), (t : Int), xr, xc⟩, y) s).2 ∧ FA w j (.slice (some ⟨g, 0, none⟩) A.length cv) (relF (⟨(a : Int), (t : Int), xr, xc⟩, y) s).1 q ⟨(a : Int), (t : Int), xr, xc⟩ wx)
                    case first =>
                      cases k1 with
                      | false =>
                        have HFA := Lib.hid hFA
                        clear hFA
                        go_wp2_with fail
                        go_meet
                        rw [relF_off hk1.out]
                        exact ⟨rfl, HFA.out⟩
                      | true =>
                        obtain ⟨hr, hd, hl⟩ := canF_at.1 (of_decide_eq_true hk1.out)
                        rw [HSA.out] at hd
                        have b0 := hFA.c0
                        have b1 := hFA.c1
                        dsimp only at b0 b1
                        have da := own_num hFA.fm.row han
                        rw [HSA.out] at da
                        obtain ⟨x0, dt⟩ := own_cell hFA.fm.row htn
                        have f1 := hFA.fm.row.frozenAt t
                        have hwa : IntKind.i64.wrap (sa + 10000 * xc) = sa + 10000 * xc := IntWalk.i64_in _ (by have := ba2 hd; omega)
                        have hwb : IntKind.i64.wrap (sa + 10000 * xc + 1) = sa + 10000 * xc + 1 := IntWalk.i64_in _ (by have := ba2 hd; omega)
                        have HSF := Lib.hid (hFA.set t (sa + 10000 * xc + 1))
                        clear hFA hr hd hl
                        go_wp2_with fail
                        go_still_tail 12, (by kernel_rfl)
                        go_wp2_with fail
                        go_meet
                        rw [relF_on hk1.out, HSA.out]
                        exact ⟨rfl, HSF.out.drew⟩
                    case rest =>
                      clear hFA
                      obtain ⟨rfl, hFA⟩ := hcut
                      obtain ⟨hI2, _, _, _⟩ := relF_ok HP.out (List.mem_of_getElem? HZ.out) HI1.out
                      obtain ⟨s1, HS1⟩ : ∃ s1, Hid (relF (⟨(a : Int), (t : Int), xr, xc⟩, y) s = s1) := ⟨_, rfl⟩
                      rw [HS1.out] at hFA hI2 ⊢
                      clear ba0 ba1 ba2 bt0 bt1 HSA HST hk1
                      go_upto_region 18 with fail
                      have HFA := Lib.hid hFA
                      have b0 := hFA.c0
                      have b1 := hFA.c1
                      dsimp only at b0 b1
                      have da := own_num hFA.fm.row han
                      have dt := own_num hFA.fm.row htn
                      have dy := ((below_box hFA.fm.below).cell (p := ⟨gf, _, none⟩) hgf).trans HY.out
                      obtain ⟨k2, hk2⟩ : ∃ c, Hid (decide (canB s1.1 (⟨(a : Int), (t : Int), xr, xc⟩, y)) = c) := ⟨_, rfl⟩
                      obtain ⟨ba0, ba1, _⟩ := hI2.bd2 HP.out (by omega) a
                      obtain ⟨bt0, bt1, bt2⟩ := hI2.bd2 HP.out (by omega) t
                      generalize hsa : s1.1 a = sa1 at da ba0 ba1
                      generalize hst : s1.1 t = st1 at dt bt0 bt1 bt2
                      have HSA := Lib.hid hsa
                      have HST := Lib.hid hst
                      clear hsa hst hFA hI2
                      go_cut [115] from 44 to 127 (fun b wx => b = .bool k2 ∧ FA w j (.slice (some ⟨g, 0, none⟩) A.length cv) s1.1 q ⟨(a : Int), (t : Int), xr, xc⟩ wx)
                      case first =>
                        by_cases hr : 0 < y
                        · by_cases hd : st1 < 1152921504606846976
                          · have hwa : IntKind.i64.wrap (st1 - 10000 * xc) = st1 - 10000 * xc := IntWalk.i64_in _ (by have := bt2 hd; omega)
                            have hwb : IntKind.i64.wrap (st1 - 10000 * xc + 1) = st1 - 10000 * xc + 1 := IntWalk.i64_in _ (by have := bt2 hd; omega)
                            by_cases hl : st1 - 10000 * xc + 1 < sa1
                            · have e : k2 = true := by rw [← hk2.out]; exact decide_eq_true (canB_at.2 ⟨hr, by rw [HST.out]; exact hd, by rw [HSA.out, HST.out]; exact hl⟩)
                              go_quiet (fail)
                              go_wp2_with fail
                              go_meet
                              exact ⟨by rw [e], HFA.out.drewN _⟩
                            · have e : k2 = false := by rw [← hk2.out]; exact decide_eq_false (fun h => hl (by have := (canB_at.1 h).2.2; rw [HSA.out, HST.out] at this; exact this))
                              go_quiet (fail)
                              go_wp2_with fail
                              go_meet
                              exact ⟨by rw [e], HFA.out.drewN _⟩
                          · have e : k2 = false := by rw [← hk2.out]; exact decide_eq_false (fun h => hd (by have := (canB_at.1 h).2.1; rw [HST.out] at this; exact this))
                            go_quiet (fail)
                            go_wp2_with fail
                            go_meet
                            exact ⟨by rw [e], HFA.out.drewN _⟩
                        · have e : k2 = false := by rw [← hk2.out]; exact decide_eq_false (fun h => hr (canB_at.1 h).1)
                          go_quiet (fail)
                          go_wp2_with fail
                          go_meet
                          exact ⟨by rw [e], HFA.out.drewN _⟩
                      case rest =>
                        clear b0 b1 da dt dy HFA
                        obtain ⟨rfl, hFA⟩ := hcut
                        have HPN : Hid (passL ((A.zip F).take (k + 1)) (D, false) = relB (⟨(a : Int), (t : Int), xr, xc⟩, y) s1) := Lib.hid (by rw [passL_snoc HZ.out, HPS.out, HS1.out])
                        cases k2 with
                        | false =>
                          have HFA := Lib.hid hFA
                          rw [relB_off hk2.out] at HPN
                          clear hFA
                          go_wp2_with fail
                          go_roundw
                          case rel => exact ⟨k + 1, s1, by go_num, by omega, rfl, HPN, HFA.out.fm⟩
                          case measure => simp [intOf]; omega
                        | true =>
                          obtain ⟨hr, hd, hl⟩ := canB_at.1 (of_decide_eq_true hk2.out)
                          rw [HST.out] at hd
                          have b0 := hFA.c0
                          have b1 := hFA.c1
                          dsimp only at b0 b1
                          have dt := own_num hFA.fm.row htn
                          rw [HST.out] at dt
                          obtain ⟨x0, da⟩ := own_cell hFA.fm.row han
                          have f1 := hFA.fm.row.frozenAt a
                          have hwa : IntKind.i64.wrap (st1 - 10000 * xc) = st1 - 10000 * xc := IntWalk.i64_in _ (by have := bt2 hd; omega)
                          have hwb : IntKind.i64.wrap (st1 - 10000 * xc + 1) = st1 - 10000 * xc + 1 := IntWalk.i64_in _ (by have := bt2 hd; omega)
                          have HSF := Lib.hid (hFA.set a (st1 - 10000 * xc + 1))
                          rw [relB_on hk2.out, HST.out] at HPN
                          clear hFA hr hd hl
                          go_wp2_with fail
                          go_still_tail 12, (by kernel_rfl)
                          go_wp2_with fail
                          go_roundw
                          case rel => exact ⟨k + 1, _, by go_num, by omega, rfl, HPN, HSF.out.drew.fm⟩
                          case measure => simp [intOf]; omega
            · obtain rfl : k = A.length := by omega
              have HPA : Hid (passL (A.zip F) (D, false) = s) := Lib.hid (by rw [← HPS.out, List.take_of_length_le (Nat.le_of_eq HZL.out)])
              obtain ⟨hI2, _, h3, _⟩ := pass_ok HP.out (A.zip F) (fun _ hp => hp) (s := (D, false)) HI.out
              rw [HPA.out] at hI2 h3
              rw [HZL.out] at hI2
              have HI2 := Lib.hid hI2
              cases hm : s.2 with
              | false =>
                have e := (h3 hm).1
                have hst := still_done HP.out hn0 hn15 HFE.out HI.out (by rw [HPA.out]; exact hm)
                have HD : Hid (rowO s.1 j = rowO (farV (A.zip F)) j) := Lib.hid (rowO_same (fun u _ => by rw [e]; exact hst u))
                have HM := Lib.hid hM
                clear hM hI2 h3 e hst hm
                go_wp2_with fail
                go_ret
                have h9 := HM.out.row
                rw [HD.out] at h9
                exact ⟨_, rfl, by rw [rowO_len]; exact own_base h9 (by omega), below_box HM.out.below⟩
              | true =>
                have HL2 := Lib.hid (lev_pass HP.out hn0 hn15 (m := false) HI.out HLV.out)
                rw [HPA.out] at HL2
                have HM := Lib.hid hM
                clear hM hI2 h3 hm
                go_wp2_with fail
                go_roundw
                case rel => exact ⟨r + 1, _, s.1, by go_num, by omega, by omega, HI2, HL2, HM.out⟩
                case measure => simp [intOf]; omega
        · obtain rfl : r = j := by omega
          have HD : Hid (rowO D r = rowO (farV (A.zip F)) r) := Lib.hid (rowO_same (fun u _ => lev_done HP.out hn0 HFE.out HI.out HLV.out u))
          have HM := Lib.hid hM
          clear hM
          go_wp2_with fail
          go_ret
          have h9 := HM.out.row
          rw [HD.out] at h9
          exact ⟨_, rfl, by rw [rowO_len]; exact own_base h9 (by omega), below_box HM.out.below⟩

end Go.Proofs.Ythaaadbeoedgbaa
