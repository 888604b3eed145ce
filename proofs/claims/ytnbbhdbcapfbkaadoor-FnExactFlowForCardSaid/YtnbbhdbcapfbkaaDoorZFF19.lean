/-
  CONTRACT of the program's unitsOf. No law is proved here.
  Rows of arcs in memory. Plain facts; no statement is proved here.
  What TimeNet and CanAt hand back. No statement is proved here.
-/
import Derived.Test.YtnbbhdbcapfbkaaDoorZFF17
import Derived.Test.YtnbbhdbcapfbkaaDoorZFF18
import Derived.BigRegion
import Derived.Test.YtnbbhdbcapfbkaaDoorZFF03
import Derived.Test.YtnbbhdbcapfbkaaDoorZFF00
import Derived.Laws.OwnMore
import Derived.Test.YtnbbhdbcapfbkaaDoorZFF12
namespace Go.Proofs.YtnbbhdbcapfbkaaDoor
set_option maxRecDepth 4096
open Go.ChangeShapes Go.WideShapes Go.ChangeAt Go.RowKit

theorem units_box {W H N : Int} {C : ByteArray} {va : Value} {w wr : World} (h : Below ((w.alloc (.cells #[.int .i64 W, .int .i64 H, .string C] 30)).alloc (.cells #[.int .i64 N, va] 45)).heap.size ((w.alloc (.cells #[.int .i64 W, .int .i64 H, .string C] 30)).alloc (.cells #[.int .i64 N, va] 45)) wr) :
    wr.cell? ⟨w.heap.size, 0, none⟩ = some (.int .i64 W) ∧ wr.cell? ⟨w.heap.size, 1, none⟩ = some (.int .i64 H) ∧ wr.cell? ⟨w.heap.size, 2, none⟩ = some (.string C) ∧ wr.cell? ⟨w.heap.size + 1, 0, none⟩ = some (.int .i64 N) ∧ wr.cell? ⟨w.heap.size + 1, 1, none⟩ = some va := by
  have h1 : wr.heap[w.heap.size]? = some (.cells #[.int .i64 W, .int .i64 H, .string C] 30 (0, 0)) := (h.block _ (by simp; omega)).trans ((@Go.heap_alloc_old _ _ _ (by simp)).trans (heap_alloc_new w _))
  have h2 : wr.heap[w.heap.size + 1]? = some (.cells #[.int .i64 N, va] 45 (0, 0)) := (h.block _ (by simp)).trans (by
    have := heap_alloc_new (w.alloc (.cells #[.int .i64 W, .int .i64 H, .string C] 30)) (.cells #[.int .i64 N, va] 45)
    rwa [World.size_alloc] at this)
  refine ⟨?_, ?_, ?_, ?_, ?_⟩ <;> first | (rw [cell_of_row _ _ _ _ _ _ h1]; rfl) | (rw [cell_of_row _ _ _ _ _ _ h2]; rfl)

/-- The first k numbers of units, and noughts behind them. -/
def cntO (A : List ArcD) (hs : List (Int × Int)) (k j : Nat) : Int := if j < k then (unitsL A hs).getD j 0 else 0
theorem cntO_none (A : List ArcD) (hs : List (Int × Int)) (n : Nat) : rowO (netO []) n = rowO (cntO A hs 0) n := rowO_same fun c _ => by simp [cntO, netO]
theorem cntO_at {A : List ArcD} {hs : List (Int × Int)} {k : Nat} {x : ArcD} (hx : A[k]? = some x) : cntO A hs (k + 1) k = ((hs.count (x.f, x.t) : Nat) : Int) := by
  unfold cntO
  rw [if_pos (by omega), List.getD_eq_getElem?_getD, unitsL_at hx]
  rfl
theorem cntO_other (A : List ArcD) (hs : List (Int × Int)) (k : Nat) : ∀ j, j ≠ k → cntO A hs (k + 1) j = cntO A hs k j := fun j hj => by
  unfold cntO
  by_cases h : j < k
  · rw [if_pos h, if_pos (by omega)]
  · rw [if_neg h, if_neg (by omega)]
theorem cntO_all (A : List ArcD) (hs : List (Int × Int)) : rowO (cntO A hs A.length) A.length = unitsL A hs := by
  apply List.ext_getElem?
  intro j
  by_cases hj : j < A.length
  · have hx : A[j]? = some A[j] := List.getElem?_eq_getElem hj
    rw [rowO_at _ hj, unitsL_at hx]
    unfold cntO
    rw [if_pos hj, List.getD_eq_getElem?_getD, unitsL_at hx]
    rfl
  · rw [List.getElem?_eq_none_iff.2 (by rw [rowO_len]; omega), List.getElem?_eq_none_iff.2 (by rw [unitsL_len]; omega)]

set_option maxHeartbeats 4000000 in
theorem implUnits (W H N : Int) (C : ByteArray) (G : List Int) (A : List ArcD) (Ws : List (List Int)) (R : List Int) (va vg v : Value) (hC : C.size ≤ 1048576) (hG : G.length ≤ 2000000) (hA : A.length ≤ 2000000) (hAw : ∀ x ∈ A, (Lit.int .i64 x.f).wf = true ∧ (Lit.int .i64 x.t).wf = true)
    (hWl : Ws.length ≤ 1000) (hWs : ∀ L ∈ Ws, 0 < L.length ∧ L.length ≤ 21) (HR : Hid (unitsL A (hopsAll W H C G Ws) = R)) (w : World) (hg : Ints w vg G) (ha : Arcs w va A) (hv : WaysAt w v Ws) :
    Calls Tryd.prog 25 #[.agg #[.int .i64 W, .int .i64 H, .string C], vg, .agg #[.int .i64 N, va], v] w (IntsBack w R) := by
  obtain ⟨i0, hi, hz0, hz1, hz2⟩ := info_parts Tryd.info3
  obtain ⟨av, cv, rfl, HV⟩ := hv
  obtain ⟨aa, ca, rfl, HA⟩ := arcs_form ha
  have HVh := Lib.hid HV
  have HAh := Lib.hid HA
  have HG := Lib.hid hg
  have HWS := Lib.hid hWs
  have HAW := Lib.hid hAw
  clear HV HA ha hg hWs hAw
  have HBX := Lib.hid (((Below.refl w.heap.size w).alloc (Nat.le_refl _) (.cells #[.int .i64 W, .int .i64 H, .string C] 30)).alloc (by simp) (.cells #[.int .i64 N, .slice aa A.length ca] 45))
  have hM : CntMap (((w.alloc (.cells #[.int .i64 W, .int .i64 H, .string C] 30)).alloc (.cells #[.int .i64 N, .slice aa A.length ca] 45)).alloc (.map #[] 0)) (w.heap.size + 1 + 1) 0 [] := by
    have := CntMap.made ((w.alloc (.cells #[.int .i64 W, .int .i64 H, .string C] 30)).alloc (.cells #[.int .i64 N, .slice aa A.length ca] 45))
    rwa [World.size_alloc, World.size_alloc] at this
  have HM0 := Lib.hid hM
  have HR3 := Lib.hid ((Below.refl ((w.alloc (.cells #[.int .i64 W, .int .i64 H, .string C] 30)).alloc (.cells #[.int .i64 N, .slice aa A.length ca] 45)).heap.size ((w.alloc (.cells #[.int .i64 W, .int .i64 H, .string C] 30)).alloc (.cells #[.int .i64 N, .slice aa A.length ca] 45))).alloc (Nat.le_refl _) (.map #[] 0))
  clear hM
  have hmm := @run_makeMap Tryd.prog
  go_enter Tryd.func25, Tryd.ntmps25
  go_wp2
  clear hmm
  go_loopw [20] (fun i wr => ∃ j : Nat, j ≤ Ws.length ∧ i = .int .i64 j ∧ CntMap wr (w.heap.size + 1 + 1) (hopsAll W H C G (Ws.take j)).length (hopsAll W H C G (Ws.take j)) ∧ Below ((w.alloc (.cells #[.int .i64 W, .int .i64 H, .string C] 30)).alloc (.cells #[.int .i64 N, .slice aa A.length ca] 45)).heap.size ((w.alloc (.cells #[.int .i64 W, .int .i64 H, .string C] 30)).alloc (.cells #[.int .i64 N, .slice aa A.length ca] 45)) wr) (fun i _ => Ws.length - (intOf i).toNat)
  case atStart => exact ⟨0, Nat.zero_le _, rfl, HM0.out, HR3.out⟩
  case round =>
    clear HM0 HR3
    obtain ⟨j, hj, rfl, hcm, hB⟩ := hrel
    obtain ⟨b0, b1, b2, b3, b4⟩ := units_box hB
    have hlenH := hopsAll_len (W := W) (H := H) (C := C) (G := G) HWS.out j
    have HCM := Lib.hid hcm
    have HBB := Lib.hid hB
    have hws : w.heap.size + 1 + 1 ≤ wr.heap.size := by have := hB.size; simpa using this
    have hMlt : w.heap.size + 1 + 1 < wr.heap.size := hcm.lt
    by_cases hlt : j < Ws.length
    · have hlt2 : (j : Int) < (Ws.length : Int) := by omega
      obtain ⟨L, hx⟩ : ∃ L, Ws[j]? = some L := ⟨_, List.getElem?_eq_getElem hlt⟩
      obtain ⟨hL0, hL⟩ := HWS.out L (List.mem_of_getElem? hx)
      rcases HVh.out with h0 | ⟨g, rfl, hgl, hc⟩
      · omega
      · obtain ⟨u, d0, hI⟩ := hc j L hx
        have hBw : Below w.heap.size w wr := HBX.out.trans (hB.mono HBX.out.size)
        have d1 := (hBw.cell (p := ⟨g, j, none⟩) hgl).trans d0
        obtain ⟨au, cu, rfl, HI⟩ := ints_form hI
        have HIh := Lib.hid hI
        have HHS := Lib.hid (hopsAll_succ (W := W) (H := H) (C := C) (G := G) hx)
        obtain ⟨P, HP⟩ : ∃ P, Hid (nodesL W H C G L = P) := ⟨_, rfl⟩
        have hPl : P.length ≤ 45 := by
          rw [← HP.out]
          have := nodes_len (W := W) (H := H) (C := C) (G := G) L
          omega
        have HPB : Hid (∀ x ∈ P, -1 ≤ x ∧ x ≤ 100001) := Lib.hid (by rw [← HP.out]; exact nodes_bound hL)
        have hPp : Hid (pairsO P = hopsW W H C G L) := Lib.hid (by rw [← HP.out]; exact pairs_nodes (by intro e; rw [e] at hL0; simp at hL0))
        have hP1 : 1 ≤ P.length := by rw [← HP.out]; unfold nodesL nodesK; simp
        have hB4 := HBB.out.alloc HBB.out.size (.cells #[.slice au L.length cu] 48)
        have hBw4 := hBw.alloc hBw.size (.cells #[.slice au L.length cu] 48)
        have HI4 : Hid (Ints (wr.alloc (.cells #[.slice au L.length cu] 48)) (.slice au L.length cu) L) := Lib.hid (ints_on hI hBw4)
        have HG4 : Hid (Ints (wr.alloc (.cells #[.slice au L.length cu] 48)) vg G) := Lib.hid (ints_on HG.out hBw4)
        obtain ⟨e0, e1, e2, _, _⟩ := units_box hB4
        have e3 : (wr.alloc (.cells #[.slice au L.length cu] 48)).cell? ⟨wr.heap.size, 0, none⟩ = some (.slice au L.length cu) := by
          rw [cell_of_row _ _ _ _ _ _ (heap_alloc_new wr _)]; rfl
        have HB4 := Lib.hid hB4
        have HCM4 : Hid (CntMap (wr.alloc (.cells #[.slice au L.length cu] 48)) (w.heap.size + 1 + 1) (hopsAll W H C G (Ws.take j)).length (hopsAll W H C G (Ws.take j))) := Lib.hid (hcm.kept (World.grownBy_alloc _ _ none) (by simp))
        clear hI HI hc hx d0 hB hB4 hBw hBw4 hcm
        go_wp2_with fail
        refine (implNodesOf W H C G L P (.slice au L.length cu) vg hC hG hL0 hL HP _ HG4.out HI4.out).mono ?_
        rintro e w5 ⟨v5, rfl, hown5, hb5⟩
        obtain ⟨g5, c5, rfl, hge5, _⟩ := World.ownsRow.form hown5 (by omega)
        have HCM5 := Lib.hid (HCM4.out.below hb5)
        have HB5 := Lib.hid (HB4.out.trans (hb5.mono HB4.out.size))
        have HO5 := Lib.hid hown5
        obtain ⟨hs0, HH0⟩ : ∃ hs0, Hid (hopsAll W H C G (Ws.take j) = hs0) := ⟨_, rfl⟩
        rw [HH0.out] at HCM5 HHS hlenH
        have hg5 : w.heap.size + 1 + 1 ≠ g5 := by
          simp at hge5
          omega
        clear hown5 hb5 hge5 e0 e1 e2 e3 b0 b1 b2 b3 b4 d1
        go_wp2_with fail
        obtain ⟨wi, rfl⟩ : ∃ wi, wi = wr := ⟨_, rfl⟩
        go_loopw [13] (fun i wq => ∃ k : Nat, k + 1 ≤ P.length ∧ i = .int .i64 ((k + 1 : Nat) : Int) ∧ CntMap wq (w.heap.size + 1 + 1) (hs0.length + k) (hs0 ++ (pairsO P).take k) ∧ wq.ownsRow (wi.alloc (.cells #[.slice au L.length cu] 48)).heap.size 3 1 (.slice (some ⟨g5, 0, none⟩) P.length c5) P.length (P.map (Value.int .i64)) ∧ Below ((w.alloc (.cells #[.int .i64 W, .int .i64 H, .string C] 30)).alloc (.cells #[.int .i64 N, .slice aa A.length ca] 45)).heap.size ((w.alloc (.cells #[.int .i64 W, .int .i64 H, .string C] 30)).alloc (.cells #[.int .i64 N, .slice aa A.length ca] 45)) wq) (fun i _ => P.length - (intOf i).toNat)
        case atStart => exact ⟨0, by omega, by go_num, by rw [List.take_zero, List.append_nil]; exact HCM5.out, HO5.out, HB5.out⟩
        case round =>
          clear HCM5 HB5 HO5
          obtain ⟨k, hk, rfl, hcm, hown, hB⟩ := hrel
          by_cases hlk : k + 1 < P.length
          · have hlk2 : ((k + 1 : Nat) : Int) < (P.length : Int) := by omega
            obtain ⟨x, hx⟩ : ∃ x, P[k]? = some x := ⟨_, List.getElem?_eq_getElem (by omega)⟩
            obtain ⟨y, hy⟩ : ∃ y, P[k + 1]? = some y := ⟨_, List.getElem?_eq_getElem hlk⟩
            have d0 := own_int hown hx
            have d1 := own_int hown hy
            have hxb := HPB.out x (List.mem_of_getElem? hx)
            have hyb := HPB.out y (List.mem_of_getElem? hy)
            have hwx : (Lit.int .i64 x).wf = true := WalkArith.wf_i64 (by omega)
            have hwy : (Lit.int .i64 y).wf = true := WalkArith.wf_i64 (by omega)
            have HTK := Lib.hid (pairs_take hx hy)
            have hwk : IntKind.i64.wrap (((k + 1 : Nat) : Int) - 1) = (k : Int) := by rw [IntWalk.i64_in _ (by omega)]; omega
            have hk2 : (k : Int) < (P.length : Int) := by omega
            obtain ⟨hs1, HH1⟩ : ∃ hs1, Hid (hs0 ++ (pairsO P).take k = hs1) := ⟨_, rfl⟩
            rw [HH1.out] at hcm
            have hs1l : hs1.length ≤ 44 * 1000 + 45 := by
              rw [← HH1.out, List.length_append, List.length_take]
              omega
            obtain ⟨c, HCc⟩ : ∃ c : Nat, Hid (hs1.count (x, y) = c) := ⟨_, rfl⟩
            have hcl : c ≤ 50000 := by
              rw [← HCc.out]
              have := List.count_le_length (a := (x, y)) (l := hs1)
              omega
            have hwc : IntKind.i64.wrap ((c : Int) + 1) = (c : Int) + 1 := IntWalk.i64_in _ (by omega)
            have hcmd : CntMap wr.drew (w.heap.size + 1 + 1) (hs0.length + k) hs1 := hcm.block rfl
            have hlook := hcmd.look hwx hwy
            obtain ⟨v0, st, w1, hent, hcm1, hg1, hsto⟩ := hcmd.entry (by unfold maxLen; omega) hwx hwy (by rw [HCc.out]; exact WalkArith.wf_i64 (by omega)) (by rw [HCc.out]; exact WalkArith.wf_i64 (by omega))
            have hlook1 := hcm1.look hwx hwy
            obtain ⟨w3, hst3, hcm3, hg3⟩ := hsto w1 rfl
            rw [HCc.out] at hlook hlook1 hst3
            change (Instr.mapEntry _ _ _).run _ _ = .ok (.tuple #[v0, .int .i64 (st : Int)]) w1 at hent
            change (Instr.entryStore _ _ (.int .i64 (st : Int)) _).run _ _ = _ at hst3
            have hown1 := World.ownsRow.kept (w := wr.drew) hown hg1 (.inr (fun e => hg5 (by simpa [Value.ownBlock] using e.symm)))
            have HO3 := Lib.hid (hown1.kept hg3 (.inr (fun e => hg5 (by simpa [Value.ownBlock] using e.symm))))
            have hB1 := hB.drew.grown hg1 hB.drew.size (fun k hk => by cases hk; simp)
            have HB3 := Lib.hid (hB1.grown hg3 hB1.size (fun k hk => by cases hk; simp))
            rw [← HH1.out, List.append_assoc, ← HTK.out, Nat.add_assoc] at hcm3
            have HCM3 := Lib.hid hcm3
            clear hcm hcmd hown hB hB1 hcm1 hg1 hsto hcm3 hg3 hown1 hx hy
            go_wp2
            go_region
            go_wp2
            go_roundw
            case rel => exact ⟨k + 1, by omega, by go_num, HCM3.out, HO3.out, HB3.out⟩
            case measure => simp [intOf]; omega
          · have hke : (pairsO P).take k = pairsO P := List.take_of_length_le (by rw [pairs_len]; omega)
            have hkl : (hs0 ++ pairsO P).length = hs0.length + k := by rw [List.length_append, pairs_len]; omega
            rw [hke, ← hkl, hPp.out, ← HHS.out] at hcm
            have HC2 := Lib.hid hcm
            have hnl : ¬ ((k + 1 : Nat) : Int) < (P.length : Int) := by omega
            have HB2 := Lib.hid hB
            clear hcm hB hown hke hkl
            go_wp2
            go_roundw
            case rel => exact ⟨j + 1, by omega, by go_num, HC2.out, HB2.out⟩
            case measure => simp [intOf]; omega
    · obtain rfl : j = Ws.length := by omega
      rw [List.take_length] at HCM
      obtain ⟨hs, HHS⟩ : ∃ hs, Hid (hopsAll W H C G Ws = hs) := ⟨_, rfl⟩
      rw [HHS.out] at HCM HR
      have hnl : ¬ (Ws.length : Int) < (Ws.length : Int) := by omega
      clear hcm hB hlenH b0 b1 b2 b3
      go_wp2_with (at_make; go_loud (refine wpList_make_full _ rfl (.tmp 52) (.tmp 52) 24 rfl _ 3 i0 (.int .i64 0) 1 Tryd.underlying24 hi hz0 hz1 .i64 .i64 A.length A.length A.length rfl rfl rfl rfl (by rw [hz2]; omega) (by unfold maxLen; omega) (Nat.le_refl _) ?_); intro w3 hrow hg3; go_loud (have hB3 := HBB.out.grown hg3 HBB.out.size (fun j hj => (by cases hj))); go_loud (have hrow3 := own_base (made_row0 hrow) hws (B' := w.heap.size + 1 + 1)); go_loud (have hcm3 := HCM.out.kept hg3 (by simp)); generalize hGG : wr.heap.size = Gs at hrow3; obtain ⟨_, _, _, _, b4⟩ := units_box hB3; have HR3 := Lib.hid hrow3; have HB3 := Lib.hid hB3; have HM3 := Lib.hid hcm3; clear hrow hrow3 hg3 hB3 hcm3)
      have hGM : w.heap.size + 1 + 1 ≠ Gs := by omega
      go_loopw [57] (fun i wr => ∃ k : Nat, k ≤ A.length ∧ i = .int .i64 k ∧ wr.ownsRow (w.heap.size + 1 + 1) 3 1 (.slice (some ⟨Gs, 0, none⟩) A.length A.length) A.length ((rowO (cntO A hs k) A.length).map (Value.int .i64)) ∧ CntMap wr (w.heap.size + 1 + 1) hs.length hs ∧ Below ((w.alloc (.cells #[.int .i64 W, .int .i64 H, .string C] 30)).alloc (.cells #[.int .i64 N, .slice aa A.length ca] 45)).heap.size ((w.alloc (.cells #[.int .i64 W, .int .i64 H, .string C] 30)).alloc (.cells #[.int .i64 N, .slice aa A.length ca] 45)) wr) (fun i _ => A.length - (intOf i).toNat)
      case atStart => exact ⟨0, Nat.zero_le _, rfl, by rw [← cntO_none]; exact HR3.out, HM3.out, HB3.out⟩
      case round =>
        clear HR3 HB3 HM3 b4
        obtain ⟨k, hk, rfl, hown, hcm, hB⟩ := hrel
        by_cases hlt : k < A.length
        · have hlt2 : (k : Int) < (A.length : Int) := by omega
          obtain ⟨x, hx⟩ : ∃ x, A[k]? = some x := ⟨_, List.getElem?_eq_getElem hlt⟩
          obtain ⟨hwx, hwy⟩ := HAW.out x (List.mem_of_getElem? hx)
          rcases HAh.out with h0 | ⟨ga, rfl, hga, hca⟩
          · omega
          · have hbw : Below w.heap.size w wr := HBX.out.trans (hB.mono HBX.out.size)
            obtain ⟨p0, p1, p2, p3⟩ := hca k x hx
            have e0 := (hbw.cell (p := ⟨ga, _, none⟩) hga).trans p0
            have e1 := (hbw.cell (p := ⟨ga, _, none⟩) hga).trans p1
            have e2 := (hbw.cell (p := ⟨ga, _, none⟩) hga).trans p2
            have e3 := (hbw.cell (p := ⟨ga, _, none⟩) hga).trans p3
            have hk4 : (k : Int) * 4 = ((k * 4 : Nat) : Int) := by omega
            obtain ⟨n0, n1, _, _⟩ := arc_cells wr x 62
            have hown6 := hown.alloc (.cells #[.int .i64 x.f, .int .i64 x.t, .int .i64 x.r, .int .i64 x.c] 62)
            have hcm6 : CntMap (wr.alloc (.cells #[.int .i64 x.f, .int .i64 x.t, .int .i64 x.r, .int .i64 x.c] 62)) (w.heap.size + 1 + 1) hs.length hs := hcm.kept (World.grownBy_alloc _ _ none) (by simp)
            have hB6 := hB.alloc hB.size (.cells #[.int .i64 x.f, .int .i64 x.t, .int .i64 x.r, .int .i64 x.c] 62)
            obtain ⟨c, HCc⟩ : ∃ c, Hid (((hs.count (x.f, x.t) : Nat) : Int) = c) := ⟨_, rfl⟩
            have hlook := hcm6.look hwx hwy
            rw [HCc.out] at hlook
            have f0 := hown6.frozenAt k
            have r0 := own_num hown6 hlt
            obtain ⟨hs1, hg1⟩ := hown6.stored k (.int .i64 c)
            rw [rowO_put ((cntO_at hx).trans HCc.out) (cntO_other A hs k)] at hs1
            have hB7 := Lib.hid (hB6.grown hg1 hB6.size (fun j hj => by cases hj; simp; omega))
            have hcm7 := Lib.hid (hcm6.kept hg1 (by simpa using hGM))
            have HS1 := Lib.hid hs1
            clear p0 p1 p2 p3 hca hx hbw hcm hcm6 hB hB6 hown hown6 hs1 hg1
            go_wp2_with fail
            go_roundw
            case rel => exact ⟨k + 1, by omega, by go_num, HS1.out, hcm7.out, hB7.out⟩
            case measure => simp [intOf]; omega
        · obtain rfl : k = A.length := by omega
          have hnl : ¬ (A.length : Int) < (A.length : Int) := by omega
          rw [cntO_all, HR.out] at hown
          have hRl : R.length = A.length := by rw [← HR.out, unitsL_len]
          have HO := Lib.hid hown
          have HB9 := Lib.hid (HBX.out.trans (hB.mono HBX.out.size))
          clear hown hcm hB
          go_wp2_with fail
          go_ret
          exact ⟨_, rfl, by rw [hRl]; exact own_base HO.out (by omega), HB9.out⟩

end Go.Proofs.YtnbbhdbcapfbkaaDoor

namespace Go.Proofs.YtnbbhdbcapfbkaaDoor
set_option maxRecDepth 4096
open Go.ChangeShapes Go.WideShapes Go.ChangeAt Go.RowKit

theorem Tryd.infoArc : (Tryd.prog.info? 62).map (fun i => (i.zero, i.size, i.bytes)) = some (some (.agg #[.int .i64 0, .int .i64 0, .int .i64 0, .int .i64 0]), 4, 32) := by kernel_rfl

/-- An argument that is a slice of arcs: nil or empty, or somewhere in a block. -/
def ArgA (w : World) (v : Value) (A : List ArcD) : Prop :=
  ∃ a c, v = .slice a A.length c ∧ (A.length = 0 ∨ ∃ b, a = some b ∧ b.block < w.heap.size ∧ ∀ (j : Nat) x, A[j]? = some x →
    w.cell? (b.add (j * 4)) = some (.int .i64 x.f) ∧ w.cell? (b.add (j * 4 + 1)) = some (.int .i64 x.t) ∧ w.cell? (b.add (j * 4 + 2)) = some (.int .i64 x.r) ∧ w.cell? (b.add (j * 4 + 3)) = some (.int .i64 x.c))
theorem add_block (b : Addr) (j : Nat) : (b.add j).block = b.block := by unfold Addr.add; split <;> rfl
theorem add_next (b : Addr) (m j : Nat) : (⟨(b.add m).block, (b.add m).off + (j + 1), none⟩ : Addr) = b.add (m + (j + 1)) := by
  unfold Addr.add
  split
  · rename_i h; subst h; simp
  · simp [Nat.add_assoc]
theorem argA_below {w w1 : World} {v : Value} {A : List ArcD} (h : ArgA w v A) (hb : Below w.heap.size w w1) : ArgA w1 v A := by
  obtain ⟨a, c, hv, hh⟩ := h
  refine ⟨a, c, hv, ?_⟩
  rcases hh with h0 | ⟨b, ha, hlt, hc⟩
  · exact .inl h0
  · refine .inr ⟨b, ha, Nat.lt_of_lt_of_le hlt hb.size, fun j x hx => ?_⟩
    obtain ⟨h1, h2, h3, h4⟩ := hc j x hx
    exact ⟨(hb.cell (p := b.add _) (by rw [add_block]; exact hlt)).trans h1, (hb.cell (p := b.add _) (by rw [add_block]; exact hlt)).trans h2, (hb.cell (p := b.add _) (by rw [add_block]; exact hlt)).trans h3, (hb.cell (p := b.add _) (by rw [add_block]; exact hlt)).trans h4⟩

/-- The cells of arcs. -/
def cellsA (A : List ArcD) : List Value := A.flatMap arcC
theorem cellsA_len : ∀ A : List ArcD, (cellsA A).length = A.length * 4
  | [] => rfl
  | x :: A => by
    have := cellsA_len A
    unfold cellsA at this ⊢
    rw [List.flatMap_cons, List.length_append, this, List.length_cons]
    show 4 + _ = _
    omega
theorem cellsA_snoc {A : List ArcD} {k : Nat} {x : ArcD} (h : A[k]? = some x) : cellsA (A.take (k + 1)) = cellsA (A.take k) ++ arcC x := by
  obtain ⟨hi, rfl⟩ := List.getElem?_eq_some_iff.1 h
  rw [List.take_succ_eq_append_getElem hi]
  unfold cellsA
  rw [List.flatMap_append, List.flatMap_cons, List.flatMap_nil, List.append_nil]
theorem cellsA_at {A : List ArcD} {k i : Nat} {x : ArcD} (h : A[k]? = some x) (hi : i < 4) : (cellsA A)[k * 4 + i]? = (arcC x)[i]? := by
  obtain ⟨hk, rfl⟩ := List.getElem?_eq_some_iff.1 h
  have e : cellsA A = cellsA (A.take k) ++ (arcC A[k] ++ cellsA (A.drop (k + 1))) := by
    unfold cellsA
    rw [← List.flatMap_cons, ← List.drop_eq_getElem_cons hk, ← List.flatMap_append, List.take_append_drop]
  have hl : (cellsA (A.take k)).length = k * 4 := by rw [cellsA_len, List.length_take]; omega
  rw [e, List.getElem?_append_right (by omega), hl, Nat.add_sub_cancel_left, List.getElem?_append_left (by show i < 4; exact hi)]
/-- Four cells are written anew. -/
theorem set_four {pre post : List Value} {u0 u1 u2 u3 a b c d : Value} {m : Nat} (hm : pre.length = m) :
    ((((pre ++ u0 :: u1 :: u2 :: u3 :: post).set m a).set (m + 1) b).set (m + 2) c).set (m + 3) d = pre ++ [a, b, c, d] ++ post := by
  subst hm
  simp
theorem drop_four {xs : List Value} {m : Nat} (h : m + 4 ≤ xs.length) : ∃ u0 u1 u2 u3, xs.drop m = u0 :: u1 :: u2 :: u3 :: xs.drop (m + 4) := by
  refine ⟨xs[m], xs[m + 1], xs[m + 2], xs[m + 3], ?_⟩
  rw [List.drop_eq_getElem_cons (by omega), List.drop_eq_getElem_cons (by omega), List.drop_eq_getElem_cons (by omega), List.drop_eq_getElem_cons (by omega)]
theorem arcs_step {A : List ArcD} {k : Nat} {x : ArcD} {xs : List Value} (hx : A[k]? = some x) (h : xs.length = A.length * 4) :
    ((((cellsA (A.take k) ++ xs.drop (k * 4)).set (k * 4) (.int .i64 x.f)).set (k * 4 + 1) (.int .i64 x.t)).set (k * 4 + 2) (.int .i64 x.r)).set (k * 4 + 3) (.int .i64 x.c) = cellsA (A.take (k + 1)) ++ xs.drop ((k + 1) * 4) := by
  have hk := (List.getElem?_eq_some_iff.1 hx).1
  obtain ⟨u0, u1, u2, u3, e⟩ := drop_four (xs := xs) (m := k * 4) (by omega)
  rw [e, set_four (by rw [cellsA_len, List.length_take]; omega), cellsA_snoc hx]
  have e2 : (k + 1) * 4 = k * 4 + 4 := by omega
  rw [e2]
  rfl

/-- The list of arcs came back in memory of the call's own. -/
def ArcsBack (w : World) (A : List ArcD) (e : Ending) (w' : World) : Prop :=
  ∃ v, e = .returned v ∧ w'.ownsRow w.heap.size 62 4 v A.length (cellsA A) ∧ Below w.heap.size w w'
theorem arcs_of_own {w : World} {B : Nat} {e : TypeId} {v : Value} {A : List ArcD} (h : w.ownsRow B e 4 v A.length (cellsA A)) : Arcs w v A := by
  rcases h.2 with ⟨rfl, h0⟩ | ⟨g, cap, cur, rfl, _, hh, _⟩
  · exact .inl ⟨List.eq_nil_of_length_eq_zero h0, _, _, rfl⟩
  · refine .inr ⟨g, cap, rfl, (Array.getElem?_eq_some_iff.1 hh).1, fun j x hx => ?_⟩
    have key : ∀ i u, i < 4 → (arcC x)[i]? = some u → w.cell? ⟨g, j * 4 + i, none⟩ = some u := fun i u hi hu => by
      have := h.cells (g := g) rfl (j * 4 + i) u (by rw [cellsA_at hx hi]; exact hu)
      have hadd : (⟨g, 0, none⟩ : Addr).add (j * 4 + i) = ⟨g, j * 4 + i, none⟩ := by unfold Addr.add; split <;> simp_all
      rwa [hadd] at this
    exact ⟨key 0 _ (by decide) rfl, key 1 _ (by decide) rfl, key 2 _ (by decide) rfl, key 3 _ (by decide) rfl⟩
theorem own_cell4 {w : World} {B : Nat} {e : TypeId} {g n c j : Nat} {xs : List Value} (h : w.ownsRow B e 4 (.slice (some ⟨g, 0, none⟩) n c) n xs) (hj : j < n * 4) : ∃ u, w.cell? ⟨g, j, none⟩ = some u := by
  have hl : j < xs.length := by have := h.1; omega
  have := h.cells (g := g) rfl j xs[j] (List.getElem?_eq_getElem hl)
  have hadd : (⟨g, 0, none⟩ : Addr).add j = ⟨g, j, none⟩ := by unfold Addr.add; split <;> simp_all
  rw [hadd] at this
  exact ⟨_, this⟩

/-- The net came back, its arcs in memory of the call's own. -/
def NetBack (w : World) (N : Int) (A : List ArcD) (e : Ending) (w' : World) : Prop :=
  ∃ v, e = .returned (.agg #[.int .i64 N, v]) ∧ w'.ownsRow w.heap.size 62 4 v A.length (cellsA A) ∧ Below w.heap.size w w'

theorem own_set {w : World} {B r i s : Nat} {e : TypeId} {n : Nat} {v u : Value} {xs : List Value} (h : w.ownsRow B e s v n xs) (hr : r < B) : (w.setCell ⟨r, i, none⟩ u).ownsRow B e s v n xs := by
  have hg : w.grownBy (w.setCell ⟨r, i, none⟩ u) (some r) := ⟨rfl, rfl, rfl, by simp [World.setCell], fun k _ hk => heap_setCell_other w ⟨r, i, none⟩ k u (fun e => hk (by simp [e]))⟩
  refine h.kept hg ?_
  cases hv : v.ownBlock with
  | none => exact .inl rfl
  | some j => exact .inr (fun e => by have := (h.lt j hv).1; have := Option.some.inj e; omega)
/-- A block that a call has left as it was. -/
theorem old_block {wa w3 : World} {c0 c1 : Value} {t : TypeId} {m : Nat} (hb : Below wa.heap.size wa w3) (h : wa.heap[m]? = some (.cells #[c0, c1] t (0, 0))) :
    w3.cell? ⟨m, 0, none⟩ = some c0 ∧ w3.cell? ⟨m, 1, none⟩ = some c1 ∧ w3.frozen? ⟨m, 0, none⟩ = false ∧ w3.frozen? ⟨m, 1, none⟩ = false := by
  have h3 : w3.heap[m]? = some (.cells #[c0, c1] t (0, 0)) := (hb.block m (Array.getElem?_eq_some_iff.1 h).1).trans h
  refine ⟨?_, ?_, ?_, ?_⟩
  · rw [cell_of_row _ _ _ _ _ _ h3]; rfl
  · rw [cell_of_row _ _ _ _ _ _ h3]; rfl
  · simp [World.frozen?, h3]
  · simp [World.frozen?, h3]

end Go.Proofs.YtnbbhdbcapfbkaaDoor

namespace Go.Proofs.YtnbbhdbcapfbkaaDoor
set_option maxRecDepth 4096
open Go.ChangeShapes Go.WideShapes Go.ChangeAt Go.RowKit

/-- A net and a Boolean came back, the net's arcs in memory of the call's own. -/
def TimeBack (w : World) (N : Int) (A : List ArcD) (b : Bool) (e : Ending) (w' : World) : Prop :=
  ∃ v, e = .returned (.tuple #[.agg #[.int .i64 N, v], .bool b]) ∧ w'.ownsRow w.heap.size 62 4 v A.length (cellsA A) ∧ Below w.heap.size w w'
noncomputable def timeNV (W H : Int) (C : ByteArray) (S G : List Int) (T : Int) (strict : Bool) : Int := if askV W H C S G T = true then (nodesG W H C T.toNat strict : Nat) else 0
noncomputable def timeAV (W H : Int) (C : ByteArray) (S G : List Int) (T : Int) (strict : Bool) : List ArcD := if askV W H C S G T = true then netG W H C S G T.toNat strict else []
noncomputable def canV (W H : Int) (C : ByteArray) (S G : List Int) (T : Int) : Bool := askV W H C S G T && decide (mostS (timeNV W H C S G T false) (timeAV W H C S G T false) = (S.length : Int))
theorem timeAV_len {W H : Int} {C : ByteArray} {S G : List Int} {T : Int} {strict : Bool} : (timeAV W H C S G T strict).length ≤ 3200 := by
  unfold timeAV
  split
  · rename_i h
    obtain ⟨t, rfl, hd⟩ := ask_out h
    have h2 := netG_ok (strict := strict) hd
    unfold netOkV at h2
    simp only [Bool.and_eq_true, decide_eq_true_eq] at h2
    exact h2.2.1
  · exact Nat.zero_le _

end Go.Proofs.YtnbbhdbcapfbkaaDoor

