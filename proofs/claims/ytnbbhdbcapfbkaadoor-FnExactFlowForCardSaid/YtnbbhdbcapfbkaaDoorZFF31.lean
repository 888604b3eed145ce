/-
  CONTRACTS of the program's excesses, FlowOk, FlowSize. No law is proved here.
  CONTRACT of the program's FlowFor. No law is proved here.
-/
import Derived.Test.YtnbbhdbcapfbkaaDoorZFF30
import Derived.Test.YtnbbhdbcapfbkaaDoorZFF19
import Derived.Test.YtnbbhdbcapfbkaaDoorZFF29
namespace Go.Proofs.YtnbbhdbcapfbkaaDoor
set_option maxRecDepth 4096
open Go.ChangeShapes Go.WideShapes Go.ChangeAt Go.RowKit

set_option maxHeartbeats 1000000 in
theorem implOut (n : Nat) (A : List ArcD) (F : List Int) (R : List Int) (v vf : Value) (hn : n ≤ 1500) (hok : ∀ x ∈ A, arcOk (n : Int) x = true) (hA : A.length ≤ 3200) (hF : F.length = A.length) (hP : ∀ p ∈ A.zip F, 0 ≤ p.2 ∧ p.2 ≤ 20) (HR : Hid (rowO (netO (A.zip F)) n = R)) (w : World) (hv : Arcs w v A) (hf : Ints w vf F) :
    Calls Tryd.prog 50 #[.agg #[.int .i64 (n : Int), v], vf] w (IntsBack w R) := by
  obtain ⟨i0, hi, hz0, hz1, hz2⟩ := info_parts Tryd.info3
  have hB := Below.refl (w.alloc (.cells #[.int .i64 (n : Int), v] 45)).heap.size (w.alloc (.cells #[.int .i64 (n : Int), v] 45))
  obtain ⟨c0, c1⟩ := net_cells hB
  obtain ⟨av, cv, rfl, HV⟩ := arcs_form hv
  obtain ⟨af, cf, rfl, HF⟩ := ints_form hf
  rw [hF]
  have HVh := Lib.hid HV
  have HFh := Lib.hid HF
  have HOK := Lib.hid hok
  have HP := Lib.hid hP
  have HL := Lib.hid hF
  clear HV hv HF hf hok hP hF
  go_enter Tryd.func50, Tryd.ntmps50
  go_wp2_with (at_make; go_loud (refine wpList_make_full _ rfl (.tmp 9) (.tmp 9) 24 rfl _ 3 i0 (.int .i64 0) 1 Tryd.underlying24 hi hz0 hz1 .i64 .i64 n n n rfl rfl rfl rfl (by rw [hz2]; omega) (by unfold maxLen; omega) (Nat.le_refl _) ?_); intro w1 hrow hg1; go_loud (have hB1 := hB.grown hg1 hB.size (fun j hj => (by cases hj))); go_loud (have hrow1 := made_row0 hrow); have HR1 := Lib.hid hrow1; have HB1 := Lib.hid hB1; obtain ⟨c0, c1⟩ := net_cells hB1; clear hrow hrow1 hg1 hB1)
  clear hB c0 c1
  go_loopw [14] (fun i wr => ∃ k : Nat, k ≤ A.length ∧ i = .int .i64 k ∧ wr.ownsRow (w.heap.size + 1) 3 1 (.slice (some ⟨w.heap.size + 1, 0, none⟩) n n) n ((rowO (netO ((A.zip F).take k)) n).map (Value.int .i64)) ∧ Below (w.alloc (.cells #[.int .i64 (n : Int), .slice av A.length cv] 45)).heap.size (w.alloc (.cells #[.int .i64 (n : Int), .slice av A.length cv] 45)) wr) (fun i _ => A.length - (intOf i).toNat)
  case atStart => exact ⟨0, Nat.zero_le _, rfl, by simpa using HR1.out, HB1.out⟩
  case round =>
    clear HR1 HB1
    obtain ⟨k, hk, rfl, hrow, hB⟩ := hrel
    by_cases hlt : k < A.length
    · have hltF : k < F.length := by have := HL.out; omega
      obtain ⟨y, hy⟩ : ∃ y, F[k]? = some y := ⟨_, List.getElem?_eq_getElem hltF⟩
      obtain ⟨a, b, r, c, hx, han, hbn, hne, _, _⟩ := arc_nat HOK.out hlt
      have hz := zip_at hx hy
      have hyb := HP.out _ (List.mem_of_getElem? hz)
      have hob := netO_bound (P := (A.zip F).take k) (fun p hp => HP.out p (List.mem_of_mem_take hp))
      have hzl : ((A.zip F).take k).length ≤ 3200 := by rw [List.length_take, List.length_zip]; omega
      rcases HVh.out with h0 | ⟨g, rfl, hgl, hc⟩
      · omega
      · rcases HFh.out with h0 | ⟨gf, rfl, hgf, hcf⟩
        · have := HL.out; omega
        · obtain ⟨d0, d1, d2, d3⟩ := hc k _ hx
          dsimp only at d0 d1 d2 d3
          have e0 := ((below_box hB).cell (p := ⟨g, _, none⟩) hgl).trans d0
          have e1 := ((below_box hB).cell (p := ⟨g, _, none⟩) hgl).trans d1
          have e2 := ((below_box hB).cell (p := ⟨g, _, none⟩) hgl).trans d2
          have e3 := ((below_box hB).cell (p := ⟨g, _, none⟩) hgl).trans d3
          have hB2 := hB.alloc hB.size (.cells #[.int .i64 a, .int .i64 b, .int .i64 r, .int .i64 c] 62)
          have hrow2 := hrow.alloc (.cells #[.int .i64 a, .int .i64 b, .int .i64 r, .int .i64 c] 62)
          have hb0 : (wr.alloc (.cells #[.int .i64 a, .int .i64 b, .int .i64 r, .int .i64 c] 62)).heap[wr.heap.size]? = some (.cells #[.int .i64 a, .int .i64 b, .int .i64 r, .int .i64 c] 62) := heap_alloc_new wr _
          have hGw : w.heap.size + 1 ≠ wr.heap.size := Nat.ne_of_lt (hrow.lt (w.heap.size + 1) rfl).2
          have hlt2 : (k : Int) < (A.length : Int) := by omega
          have HZ := Lib.hid hz
          have HB2 := Lib.hid hB2
          have HR2 := Lib.hid hrow2
          have H0 := Lib.hid hb0
          have HF2 := Lib.hid (hcf k y hy)
          clear hc hcf d0 d1 d2 d3 hrow hB hz hrow2 hB2 hx hy hb0
          go_wp2_with fail
          generalize wr.alloc (.cells #[.int .i64 (a : Int), .int .i64 b, .int .i64 r, .int .i64 c] 62) = wb at HB2 HR2 H0 ⊢
          generalize wr.heap.size = q at H0 hGw ⊢
          have a0 := box_cell (j := 0) H0.out rfl
          have e4 := ((below_box HB2.out).cell (p := ⟨gf, _, none⟩) hgf).trans HF2.out
          have r0 := own_num HR2.out han
          have w0 : IntKind.i64.wrap (netO ((A.zip F).take k) a + y) = netO ((A.zip F).take k) a + y := by
            have := hob a
            exact IntWalk.i64_in _ (by omega)
          have han2 : (a : Int) < (n : Int) := by omega
          have hlt3 : (k : Int) < (F.length : Int) := by omega
          have f0 := HR2.out.frozenAt a
          have HH1 := Lib.hid (box_set (j := a) (u := .int .i64 (netO ((A.zip F).take k) a + y)) H0.out hGw)
          have HSG := Lib.hid (HR2.out.stored a (.int .i64 (netO ((A.zip F).take k) a + y)))
          go_still_tail 11, (by kernel_rfl)
          go_wp2_with fail
          generalize hq : (wb.setCell ⟨w.heap.size + 1, a, none⟩ (.int .i64 (netO ((A.zip F).take k) a + y))).drew = wq
          have H1 : wq.heap[q]? = some (.cells #[.int .i64 (a : Int), .int .i64 b, .int .i64 r, .int .i64 c] 62) := by rw [← hq]; exact HH1.out
          have hsq : wq.ownsRow (w.heap.size + 1) 3 1 (.slice (some ⟨w.heap.size + 1, 0, none⟩) n n) n ((rowO (halfO (netO ((A.zip F).take k)) ⟨a, b, r, c⟩ y) n).map (Value.int .i64)) := by
            rw [← hq, ← rowO_put (half_at (o := netO ((A.zip F).take k)) (x := ⟨a, b, r, c⟩) (y := y) rfl) (half_other rfl)]
            exact own_drew1 HSG.out.1
          have hBq : Below (w.alloc (.cells #[.int .i64 (n : Int), .slice (some ⟨g, 0, none⟩) A.length cv] 45)).heap.size (w.alloc (.cells #[.int .i64 (n : Int), .slice (some ⟨g, 0, none⟩) A.length cv] 45)) wq := by
            rw [← hq]
            exact (HB2.out.grown HSG.out.2 HB2.out.size (fun j hj => by cases hj; simp)).drew
          clear hq HSG HH1 HB2 HR2 H0 e4 r0 w0 f0 a0
          have a1 := box_cell (j := 1) H1 rfl
          have e4 := ((below_box hBq).cell (p := ⟨gf, _, none⟩) hgf).trans HF2.out
          have r0 := own_num hsq hbn
          have w0 : IntKind.i64.wrap (halfO (netO ((A.zip F).take k)) ⟨a, b, r, c⟩ y b - y) = halfO (netO ((A.zip F).take k)) ⟨a, b, r, c⟩ y b - y := by
            have := hob b
            rw [half_other (o := netO ((A.zip F).take k)) (x := ⟨a, b, r, c⟩) (y := y) rfl b (by omega)]
            exact IntWalk.i64_in _ (by omega)
          have hbn2 : (b : Int) < (n : Int) := by omega
          have f0 := hsq.frozenAt b
          obtain ⟨hs2, hg2⟩ := hsq.stored b (.int .i64 (halfO (netO ((A.zip F).take k)) ⟨a, b, r, c⟩ y b - y))
          rw [rowO_put (o := halfO (netO ((A.zip F).take k)) ⟨a, b, r, c⟩ y) (o' := netO ((A.zip F).take (k + 1))) ((netO_snoc HZ.out b).trans (full_at rfl)) (fun j hj => (netO_snoc HZ.out j).trans (full_other rfl j hj))] at hs2
          have hB2 := hBq.grown hg2 hBq.size (fun j hj => by cases hj; simp)
          have HS2 := Lib.hid hs2
          have HB2 := Lib.hid hB2
          clear hs2 hg2 hB2 hsq hBq H1
          go_still_tail 11, (by kernel_rfl)
          go_wp2_with fail
          go_roundw
          case rel => exact ⟨k + 1, by omega, by go_num, own_drew1 HS2.out, HB2.out.drew⟩
          case measure => simp [intOf]; omega
    · obtain rfl : k = A.length := by omega
      have e : rowO (netO ((A.zip F).take A.length)) n = R := by
        rw [← HR.out, List.take_of_length_le (by rw [List.length_zip]; omega)]
      have hl : R.length = n := by rw [← HR.out, rowO_len]
      rw [e] at hrow
      have HO := Lib.hid hrow
      clear hrow
      go_wp2_with fail
      go_ret
      exact ⟨_, rfl, by rw [hl]; exact own_base HO.out (by omega), below_box hB⟩

set_option maxHeartbeats 1000000 in
theorem implFlow_in (n : Nat) (A : List ArcD) (F : List Int) (v vf : Value) (b : Bool) (hn : netOkV n A = true) (hF : F.length = A.length) (HB : Hid (flowOkV n A F = b)) (w : World) (hv : Arcs w v A) (hf : Ints w vf F) :
    Calls Tryd.prog 26 #[.agg #[.int .i64 (n : Int), v], vf] w (Made w (.bool b)) := by
  obtain ⟨hN, hA, hok⟩ := netOk_out hn
  have hB := Below.refl (w.alloc (.cells #[.int .i64 (n : Int), v] 45)).heap.size (w.alloc (.cells #[.int .i64 (n : Int), v] 45))
  obtain ⟨c0, c1⟩ := net_cells hB
  have HVV := Lib.hid hv
  obtain ⟨av, cv, rfl, HV⟩ := arcs_form hv
  obtain ⟨af, cf, rfl, HF⟩ := ints_form hf
  have hf2 : Ints w (.slice af A.length cf) F := by rw [← hF]; exact hf
  have HFF := Lib.hid hf2
  have HVh := Lib.hid HV
  have HFh := Lib.hid HF
  have HOK := Lib.hid hok
  have HNT := Lib.hid hn
  have HL := Lib.hid hF
  have hF2 : (A.length != A.length) = false := by simp
  rw [hF]
  clear HV hv HF hf hok hn hf2 hF
  go_enter Tryd.func26, Tryd.ntmps26
  go_wp2_with fail
  refine (implNetOk n A _ true HNT _ (by omega) (arcs_on HVV.out (below_box hB))).mono ?_
  rintro e w1 ⟨rfl, hb⟩
  replace hB := next_below hB hb
  obtain ⟨c0, c1⟩ := net_cells hB
  clear hb
  go_wp2_with fail
  go_loopw [23] (fun i wr => ∃ k : Nat, k ≤ A.length ∧ i = .int .i64 k ∧ Hid (∀ q ∈ (A.zip F).take k, inRoom q = true) ∧ Below (w.alloc (.cells #[.int .i64 (n : Int), .slice av A.length cv] 45)).heap.size (w.alloc (.cells #[.int .i64 (n : Int), .slice av A.length cv] 45)) wr) (fun i _ => A.length - (intOf i).toNat)
  case atStart => exact ⟨0, Nat.zero_le _, rfl, Lib.hid (by simp), hB⟩
  case round =>
    clear hB c0 c1
    obtain ⟨k, hk, rfl, HK, hB⟩ := hrel
    obtain ⟨c0, c1⟩ := net_cells hB
    by_cases hlt : k < A.length
    · have hltF : k < F.length := by have := HL.out; omega
      obtain ⟨y, hy⟩ : ∃ y, F[k]? = some y := ⟨_, List.getElem?_eq_getElem hltF⟩
      obtain ⟨a, bb, r, c, hx, han, hbn, hne, _, _⟩ := arc_nat HOK.out hlt
      rcases HVh.out with h0 | ⟨g, rfl, hgl, hc⟩
      · omega
      · rcases HFh.out with h0 | ⟨gf, rfl, hgf, hcf⟩
        · omega
        · obtain ⟨d0, d1, d2, d3⟩ := hc k _ hx
          dsimp only at d0 d1 d2 d3
          have e0 := ((below_box hB).cell (p := ⟨g, _, none⟩) hgl).trans d0
          have e1 := ((below_box hB).cell (p := ⟨g, _, none⟩) hgl).trans d1
          have e2 := ((below_box hB).cell (p := ⟨g, _, none⟩) hgl).trans d2
          have e3 := ((below_box hB).cell (p := ⟨g, _, none⟩) hgl).trans d3
          have hB2 := hB.alloc hB.size (.cells #[.int .i64 a, .int .i64 bb, .int .i64 r, .int .i64 c] 62)
          have hb0 : (wr.alloc (.cells #[.int .i64 a, .int .i64 bb, .int .i64 r, .int .i64 c] 62)).heap[wr.heap.size]? = some (.cells #[.int .i64 a, .int .i64 bb, .int .i64 r, .int .i64 c] 62) := heap_alloc_new wr _
          have hlt2 : (k : Int) < (A.length : Int) := by omega
          have HZ := Lib.hid (zip_at hx hy)
          have HB2 := Lib.hid hB2
          have H0 := Lib.hid hb0
          have HF2 := Lib.hid (hcf k y hy)
          clear hc hcf d0 d1 d2 d3 hB hB2 hx hy hb0
          go_wp2_with fail
          generalize wr.alloc (.cells #[.int .i64 (a : Int), .int .i64 bb, .int .i64 r, .int .i64 c] 62) = wb at HB2 H0 ⊢
          generalize wr.heap.size = q at H0 ⊢
          have a0 : wb.cell? ⟨q, 2, none⟩ = some (.int .i64 r) := box_cell H0.out rfl
          have e4 := ((below_box HB2.out).cell (p := ⟨gf, _, none⟩) hgf).trans HF2.out
          have hlt3 : (k : Int) < (F.length : Int) := by omega
          have HB3 := Lib.hid HB2.out.drew
          cases hr : inV y 0 r with
          | true =>
            have HR := Lib.hid hr
            clear hr
            go_still_tail 6, (by kernel_rfl)
            change wpList _ _ _ _ _ wb.drew
            go_wp2_with (go_at_call 49; refine (implWithin _ _ _ _ HR _).mono ?_; rintro e w' ⟨rfl, rfl⟩)
            go_roundw
            case rel => exact ⟨k + 1, by omega, by go_num, Lib.hid (room_all HK.out HZ.out HR.out), HB3.out⟩
            case measure => simp [intOf]; omega
          | false =>
            have HR := Lib.hid hr
            have e : b = false := by rw [← HB.out]; exact flow_room (List.mem_of_getElem? HZ.out) hr
            subst e
            clear hr
            go_still_tail 6, (by kernel_rfl)
            change wpList _ _ _ _ _ wb.drew
            go_wp2_with (go_at_call 49; refine (implWithin _ _ _ _ HR _).mono ?_; rintro e w' ⟨rfl, rfl⟩)
            go_ret
            exact ⟨rfl, below_box HB3.out⟩
    · obtain rfl : k = A.length := by omega
      have HALL : Hid (∀ q ∈ A.zip F, inRoom q = true) := Lib.hid (by
        have := HK.out
        rwa [List.take_of_length_le (by rw [List.length_zip]; omega)] at this)
      obtain ⟨R, HR⟩ : ∃ R, Hid (rowO (netO (A.zip F)) n = R) := ⟨_, rfl⟩
      have hn15 : n ≤ 1500 := by omega
      have hRl : R.length = n := by rw [← HR.out, rowO_len]
      clear HK
      go_wp2_with (go_at_call 50; refine (implOut n A F R _ _ hn15 HOK.out hA HL.out (room_20 HNT.out HALL.out) HR _ (arcs_on HVV.out (below_box hB)) (ints_on HFF.out (below_box hB))).mono ?_; rintro e w5 ⟨vo, rfl, hown, hb⟩; go_loud (replace hB := next_below hB hb); obtain ⟨ao, co, rfl, HO⟩ := ints_form (ints_of_own hown); have HOh := Lib.hid HO; rw [hRl]; clear hb hown HO c0 c1)
      go_loopw [41] (fun i wr => ∃ k : Nat, k ≤ n ∧ i = .int .i64 k ∧ Hid (∀ v : Nat, 2 ≤ v → v < k → netO (A.zip F) v = 0) ∧ wr = w5) (fun i _ => n - (intOf i).toNat)
      case atStart => exact ⟨0, Nat.zero_le _, rfl, Lib.hid (fun v h1 h2 => by omega), rfl⟩
      case round =>
        obtain ⟨k, hkn, rfl, HK, rfl⟩ := hrel
        by_cases hlt : k < n
        · rcases HOh.out with h0 | ⟨go, rfl, hgo, hco⟩
          · omega
          · have d0 := hco k (netO (A.zip F) k) (by rw [← HR.out]; exact rowO_at _ hlt)
            have hlt2 : (k : Int) < (n : Int) := by omega
            clear hco
            by_cases hz : netO (A.zip F) k = 0
            · have HZ := Lib.hid hz
              have hz2 : (netO (A.zip F) k != 0) = false := by simp [hz]
              clear hz
              go_wp2_with fail
              go_roundw
              case rel => exact ⟨k + 1, by omega, by go_num, Lib.hid (fun v h1 h2 => by
                rcases Nat.lt_or_ge v k with h3 | h3
                · exact HK.out v h1 h3
                · obtain rfl : v = k := by omega
                  exact HZ.out), trivial⟩
              case measure => simp [intOf]; omega
            · have hz2 : (netO (A.zip F) k != 0) = true := by simp [hz]
              by_cases hk0 : k = 0
              · subst hk0
                go_wp2_with fail
                go_roundw
                case rel => exact ⟨1, by omega, by go_num, Lib.hid (fun v h1 h2 => by omega), trivial⟩
                case measure => simp [intOf]; omega
              · have hk2 : ((k : Int) != 0) = true := by simp; omega
                by_cases hk1 : k = 1
                · subst hk1
                  go_wp2_with fail
                  go_roundw
                  case rel => exact ⟨2, by omega, by go_num, Lib.hid (fun v h1 h2 => by omega), trivial⟩
                  case measure => simp [intOf]; omega
                · have hk3 : ((k : Int) != 1) = true := by simp; omega
                  have e : b = false := by rw [← HB.out]; exact flow_out (by omega) hlt2 hz
                  subst e
                  clear hz
                  go_wp2_with fail
                  go_ret
                  exact ⟨rfl, below_box hB⟩
        · obtain rfl : k = n := by omega
          have e : b = true := by
            rw [← HB.out]
            exact flowOk_mk HNT.out HL.out (fun p hp => inV_iff.1 (HALL.out p hp)) (fun v h1 h2 => HK.out v h1 (by omega))
          subst e
          go_wp2_with fail
          go_ret
          exact ⟨rfl, below_box hB⟩

theorem implFlowOk (N : Int) (A : List ArcD) (F : List Int) (v vf : Value) (b : Bool) (hAl : A.length ≤ 2000000) (_hFl : F.length ≤ 2000000) (HB : Hid (flowOkV N A F = b)) (w : World) (hv : Arcs w v A) (hf : Ints w vf F) :
    Calls Tryd.prog 26 #[.agg #[.int .i64 N, v], vf] w (Made w (.bool b)) := by
  cases hn : netOkV N A with
  | true =>
    by_cases hF : F.length = A.length
    · obtain ⟨⟨h1, _⟩, _⟩ := netOk_out hn
      obtain ⟨n, rfl⟩ : ∃ n : Nat, N = n := ⟨N.toNat, by omega⟩
      exact implFlow_in n A F v vf b hn hF HB w hv hf
    · have e : b = false := by rw [← HB.out]; exact flow_len hF
      subst e
      have hB := Below.refl (w.alloc (.cells #[.int .i64 N, v] 45)).heap.size (w.alloc (.cells #[.int .i64 N, v] 45))
      obtain ⟨c0, c1⟩ := net_cells hB
      have HVV := Lib.hid hv
      obtain ⟨av, cv, rfl, _⟩ := arcs_form hv
      obtain ⟨af, cf, rfl, _⟩ := ints_form hf
      have HNT := Lib.hid hn
      have hF2 : (F.length == A.length) = false := by simpa using hF
      clear hv hf hn
      go_enter Tryd.func26, Tryd.ntmps26
      go_wp2_with fail
      refine (implNetOk N A _ true HNT _ (by omega) (arcs_on HVV.out (below_box hB))).mono ?_
      rintro e w1 ⟨rfl, hb⟩
      replace hB := next_below hB hb
      obtain ⟨c0, c1⟩ := net_cells hB
      clear hb
      go_wp2_with fail
      go_ret
      exact ⟨rfl, below_box hB⟩
  | false =>
    have e : b = false := by rw [← HB.out]; exact flow_net hn
    subst e
    have hB := Below.refl (w.alloc (.cells #[.int .i64 N, v] 45)).heap.size (w.alloc (.cells #[.int .i64 N, v] 45))
    obtain ⟨c0, c1⟩ := net_cells hB
    have HVV := Lib.hid hv
    obtain ⟨av, cv, rfl, _⟩ := arcs_form hv
    have HNT := Lib.hid hn
    clear hv hf hn
    go_enter Tryd.func26, Tryd.ntmps26
    go_wp2_with fail
    refine (implNetOk N A _ false HNT _ (by omega) (arcs_on HVV.out (below_box hB))).mono ?_
    rintro e w1 ⟨rfl, hb⟩
    replace hB := next_below hB hb
    clear hb
    go_wp2_with fail
    go_ret
    exact ⟨rfl, below_box hB⟩

end Go.Proofs.YtnbbhdbcapfbkaaDoor

namespace Go.Proofs.YtnbbhdbcapfbkaaDoor
set_option maxRecDepth 4096
open Go.ChangeShapes Go.WideShapes Go.ChangeAt Go.RowKit

/-- The flow of given ways, if there is one. -/
noncomputable def fluxB (W H : Int) (C : ByteArray) (S G : List Int) (T : Int) (Ws : List (List Int)) : Bool :=
  askV W H C S G T && (formV S T.toNat Ws && flowOkV (timeNV W H C S G T false) (timeAV W H C S G T false) (unitsL (timeAV W H C S G T false) (hopsAll W H C G Ws)))
noncomputable def fluxL (W H : Int) (C : ByteArray) (S G : List Int) (T : Int) (Ws : List (List Int)) : List Int :=
  if fluxB W H C S G T Ws = true then unitsL (timeAV W H C S G T false) (hopsAll W H C G Ws) else []
/-- A list and a Boolean came back, the list in memory of the call's own. -/
def FluxRet (w : World) (R : List Int) (b : Bool) (e : Ending) (w' : World) : Prop :=
  ∃ v, e = .returned (.tuple #[v, .bool b]) ∧ w'.ownsRow w.heap.size 3 1 v R.length (R.map (Value.int .i64)) ∧ Below w.heap.size w w'

set_option maxHeartbeats 4000000 in
theorem implFlux (W H : Int) (C : ByteArray) (S G : List Int) (T : Int) (Ws : List (List Int)) (vs vg v : Value) (R : List Int) (b : Bool) (hC : C.size ≤ 1048576) (hS : S.length ≤ 2000000) (hG : G.length ≤ 2000000) (hW : totW Ws ≤ 2000000) (HB : Hid (fluxB W H C S G T Ws = b)) (HR : Hid (fluxL W H C S G T Ws = R)) (w : World) (hs : Ints w vs S) (hg : Ints w vg G) (hv : WaysAt w v Ws) (hSd : SidesAt w) :
    Calls Tryd.prog 10 #[.agg #[.int .i64 W, .int .i64 H, .string C], vs, vg, .int .i64 T, v] w (FluxRet w R b) := by
  have hB := Below.refl (w.alloc (.cells #[.int .i64 W, .int .i64 H, .string C] 30)).heap.size (w.alloc (.cells #[.int .i64 W, .int .i64 H, .string C] 30))
  obtain ⟨c0, c1, c2⟩ := box_cells hB
  have HSS := Lib.hid hs
  have HGG := Lib.hid hg
  have HVV := Lib.hid hv
  have HSD := Lib.hid hSd
  obtain ⟨N, HN⟩ : ∃ N, Hid (timeNV W H C S G T false = N) := ⟨_, rfl⟩
  obtain ⟨A, HA⟩ : ∃ A, Hid (timeAV W H C S G T false = A) := ⟨_, rfl⟩
  obtain ⟨a, HK⟩ : ∃ a, Hid (askV W H C S G T = a) := ⟨_, rfl⟩
  have hAl : A.length ≤ 3200 := by rw [← HA.out]; exact timeAV_len
  have HT := Lib.hid (implTimeNet W H C S G T false vs vg N A a hC hS hG HN HA HK _ (ints_on HSS.out (box_below hB)) (ints_on HGG.out (box_below hB)) (hSd.below (box_below hB)))
  clear hs hg hv hSd
  obtain ⟨ss, cs, rfl, _⟩ := ints_form HSS.out
  obtain ⟨av, cv, rfl, _⟩ := HVV.out
  go_enter Tryd.func10, Tryd.ntmps10
  go_wp2_with fail
  refine HT.out.mono ?_
  rintro e w2 ⟨va, rfl, hown, hb⟩
  replace hB := chain hB hb
  obtain ⟨aa, ca, rfl⟩ := own_form hown
  have HAr := Lib.hid (arcs_of_own hown)
  clear hb hown c0 c1 c2 HT
  cases a with
  | false =>
    have e1 : b = false := by rw [← HB.out]; unfold fluxB; rw [HK.out]; rfl
    have e2 : R = [] := by rw [← HR.out]; unfold fluxL; rw [HB.out, e1]; rfl
    subst e1 e2
    have hbz := (box_below hB).alloc (box_below hB).size (.cells #[.int .i64 N, .slice aa A.length ca] 45)
    go_wp2_with fail
    refine bodyPost_ret (v := .tuple #[.slice none 0 0, .bool false]) ?_ rfl ⟨_, rfl, World.ownsRow_nil _ _ _ 1, hbz⟩
    simp [results, Tryd.results10, go_sem]
  | true =>
    obtain ⟨t, rfl, hd⟩ := ask_out HK.out
    obtain ⟨n, Hn⟩ : ∃ n : Nat, Hid (nodesG W H C t false = n) := ⟨_, rfl⟩
    have e2 : N = (n : Int) := by rw [← HN.out, ← Hn.out]; exact if_pos HK.out
    have HA2 : Hid (netG W H C S G t false = A) := Lib.hid (by rw [← HA.out]; exact (if_pos HK.out).symm)
    subst e2
    obtain ⟨fb, HF⟩ : ∃ fb, Hid (formV S t Ws = fb) := ⟨_, rfl⟩
    obtain ⟨U, HU⟩ : ∃ U, Hid (unitsL A (hopsAll W H C G Ws) = U) := ⟨_, rfl⟩
    obtain ⟨z, HZ⟩ : ∃ z, Hid (flowOkV (n : Int) A U = z) := ⟨_, rfl⟩
    have HBZ : Hid ((fb && z) = b) := Lib.hid (by
      rw [← HB.out]
      unfold fluxB
      rw [HK.out, HN.out, HA.out, HU.out, HZ.out, Int.toNat_natCast, HF.out, Bool.true_and])
    have HRU : Hid ((if b = true then U else []) = R) := Lib.hid (by
      rw [← HR.out]
      unfold fluxL
      rw [HB.out, HA.out, HU.out])
    have hBn := hB.alloc hB.size (.cells #[.int .i64 (n : Int), .slice aa A.length ca] 45)
    have HAn := Lib.hid (arcs_on HAr.out ((Below.refl w2.heap.size w2).alloc (Nat.le_refl _) (.cells #[.int .i64 (n : Int), .slice aa A.length ca] 45)))
    have hnew := heap_alloc_new w2 (.cells #[.int .i64 (n : Int), .slice aa A.length ca] 45)
    have HBn := Lib.hid hBn
    have HNEW := Lib.hid hnew
    have ht20 := hd.t20
    have hs10 := hd.s10
    have hok := netG_ok (strict := false) hd
    rw [Hn.out, HA2.out] at hok
    have hAw : Hid (∀ x ∈ A, (Lit.int .i64 x.f).wf = true ∧ (Lit.int .i64 x.t).wf = true) := Lib.hid fun x hx => by
      obtain ⟨h1, _, h3⟩ := netOk_out hok
      obtain ⟨h4, h5, _⟩ := arcOk_out (h3 x hx)
      exact ⟨WalkArith.wf_i64 (by omega), WalkArith.wf_i64 (by omega)⟩
    have HFO := Lib.hid (implForm _ _ S Ws t fb ht20 hS hW HF _ (ints_on HSS.out (box_below hBn)) (waysAt_on HVV.out (box_below hBn)))
    have HD := Lib.hid hd
    clear hB hBn hnew hd hok
    cases fb with
    | false =>
      have e1 : b = false := by rw [← HBZ.out]; rfl
      subst e1
      have e2 : R = [] := by rw [← HRU.out]; rfl
      subst e2
      go_wp2_with (go_at_call 24; refine HFO.out.mono ?_; rintro e w3 ⟨rfl, hb⟩; have HB3 := Lib.hid (HBn.out.trans (hb.mono HBn.out.size)); have HNE3 := Lib.hid ((hb.block w2.heap.size (by simp)).trans HNEW.out); have HA3 := Lib.hid (arcs_on HAn.out hb); clear hb HFO)
      refine bodyPost_ret (v := .tuple #[.slice none 0 0, .bool false]) ?_ rfl ⟨_, rfl, World.ownsRow_nil _ _ _ 1, box_below HB3.out⟩
      simp [results, Tryd.results10, go_sem]
    | true =>
      have HFP := Lib.hid (formV_iff.1 HF.out)
      have hWl : Ws.length ≤ 1000 := by have := HFP.out.1; omega
      have hWs : Hid (∀ L ∈ Ws, 0 < L.length ∧ L.length ≤ 21) := Lib.hid fun L hL => by
        obtain ⟨h1, _⟩ := form_mem HFP.out hL
        omega
      have hUl : U.length ≤ 2000000 := by rw [← HU.out, unitsL_len]; omega
      have hG2 := hG
      go_wp2_with (go_at_call 24; refine HFO.out.mono ?_; rintro e w3 ⟨rfl, hb⟩; have HB3 := Lib.hid (HBn.out.trans (hb.mono HBn.out.size)); have HNE3 := Lib.hid ((hb.block w2.heap.size (by simp)).trans HNEW.out); have HA3 := Lib.hid (arcs_on HAn.out hb); obtain ⟨c0, c1, c2⟩ := box_cells HB3.out; have q0 : w3.cell? ⟨w2.heap.size, 0, none⟩ = some (.int .i64 (n : Int)) := (by rw [cell_of_row _ _ _ _ _ _ HNE3.out]; rfl); have q1 : w3.cell? ⟨w2.heap.size, 1, none⟩ = some (.slice aa A.length ca) := (by rw [cell_of_row _ _ _ _ _ _ HNE3.out]; rfl); clear hb HFO)
      have HG3 := Lib.hid (ints_on HGG.out (box_below HB3.out))
      have HV3 := Lib.hid (waysAt_on HVV.out (box_below HB3.out))
      refine (implUnits W H n C G A Ws U _ vg _ hC hG (by omega) hAw.out hWl hWs.out HU w3 HG3.out HA3.out HV3.out).mono ?_
      rintro e w4 ⟨v4, rfl, hown4, hb4⟩
      obtain ⟨a4, c4, rfl⟩ := own_form hown4
      have HB4 := Lib.hid (HB3.out.trans (hb4.mono HB3.out.size))
      have HNE4 := (hb4.block w2.heap.size (Array.getElem?_eq_some_iff.1 HNE3.out).1).trans HNE3.out
      have q2 : w4.cell? ⟨w2.heap.size, 0, none⟩ = some (.int .i64 (n : Int)) := by rw [cell_of_row _ _ _ _ _ _ HNE4]; rfl
      have q3 : w4.cell? ⟨w2.heap.size, 1, none⟩ = some (.slice aa A.length ca) := by rw [cell_of_row _ _ _ _ _ _ HNE4]; rfl
      have HA4 := Lib.hid (arcs_on HA3.out hb4)
      have HO4 := Lib.hid (own_base hown4 (Nat.le_trans (box_below HB3.out).size (Nat.le_refl _)))
      have HI4 := Lib.hid (ints_of_own hown4)
      have HOK := Lib.hid (implFlowOk n A U _ _ z (by omega) hUl HZ w4 HA4.out HI4.out)
      clear hown4 hb4 HNE4 c0 c1 c2 q0 q1
      cases z with
      | false =>
        have e1 : b = false := by rw [← HBZ.out]; rfl
        subst e1
        have e2 : R = [] := by rw [← HRU.out]; rfl
        subst e2
        go_wp2_with fail
        refine HOK.out.mono ?_
        rintro e w5 ⟨rfl, hb5⟩
        have HB5 := Lib.hid (HB4.out.trans (hb5.mono HB4.out.size))
        clear hb5
        go_wp2_with fail
        refine bodyPost_ret (v := .tuple #[.slice none 0 0, .bool false]) ?_ rfl ⟨_, rfl, World.ownsRow_nil _ _ _ 1, box_below HB5.out⟩
        simp [results, Tryd.results10, go_sem]
      | true =>
        have e1 : b = true := by rw [← HBZ.out]; rfl
        subst e1
        have e2 : U = R := by rw [← HRU.out]; rfl
        subst e2
        go_wp2_with fail
        refine HOK.out.mono ?_
        rintro e w5 ⟨rfl, hb5⟩
        have HB5 := Lib.hid (HB4.out.trans (hb5.mono HB4.out.size))
        have HO5 := Lib.hid (own_below HO4.out hb5 (box_below HB4.out).size)
        clear hb5
        go_wp2_with fail
        refine bodyPost_ret (v := .tuple #[.slice a4 U.length c4, .bool true]) ?_ rfl ⟨_, rfl, HO5.out, box_below HB5.out⟩
        simp [results, Tryd.results10, go_sem]

end Go.Proofs.YtnbbhdbcapfbkaaDoor

