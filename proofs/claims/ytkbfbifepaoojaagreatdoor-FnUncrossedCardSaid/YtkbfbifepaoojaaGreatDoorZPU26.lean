/-
  CONTRACT of the program's Beside. No law is proved here.
  CONTRACT of the program's stepsOk. No law is proved here.
  Where a cell lies among the rows. No law is proved here.
  CONTRACT of the program's rowWith. No law is proved here.
  CONTRACT of the program's FreeAt. No law is proved here.
-/
import Derived.Test.YtkbfbifepaoojaaGreatDoorZPU25
import Derived.Test.YtkbfbifepaoojaaGreatDoorZPU08
import Derived.Test.YtkbfbifepaoojaaGreatDoorZPU14
import Derived.StillTailTactics
import Derived.BigQuiet
import Derived.Deep.QuietTactic
import Derived.Test.YtkbfbifepaoojaaGreatDoorZPU05
import Derived.Test.YtkbfbifepaoojaaGreatDoorZPU23
namespace Go.Proofs.YtkbfbifepaoojaaGreatDoor
set_option maxRecDepth 4096
open Go.ChangeShapes Go.WideShapes Go.ChangeAt Go.RowKit Go.Shelf

attribute [local go_sem] Oper.semAt_some

set_option maxRecDepth 100000 in
set_option maxHeartbeats 2000000 in
theorem beside_in (W H : Int) (C : ByteArray) (a b : Int) (r : Bool) (L : List Int) (hC : C.size ≤ 1048576) (HL : Hid (aroundL W H C a = L)) (HR : Hid (L.contains b = r)) (w : World) (hS : SidesAt w) :
    CallsIn Fence.wide 4 Tryz.prog 116 #[.agg #[.int .i64 W, .int .i64 H, .string C], .int .i64 a, .int .i64 b] w (Made w (.bool r)) := by
  refine callsIn_of_wp_marks Tryz.func116 rfl trivial ?_ rfl
  simp only [Tryz.ntmps116, List.size_toArray, List.length_cons, List.length_nil, Nat.reduceAdd, Nat.reduceSub, Array.replicate_succ, Array.replicate_zero, List.push_toArray, List.append_toArray, List.nil_append, List.cons_append]
  have bB := Boxed.new (w.alloc (.cells #[.int .i64 W, .int .i64 H, .string C] 25)) 3 (.int .i64 b)
  have bR := Boxed.new ((w.alloc (.cells #[.int .i64 W, .int .i64 H, .string C] 25)).alloc (.cells #[.int .i64 b] 3)) 4 (.bool false)
  have hcap := caps_new W H C a (((w.alloc (.cells #[.int .i64 W, .int .i64 H, .string C] 25)).alloc (.cells #[.int .i64 b] 3)).alloc (.cells #[.bool false] 4)) 25 3
  simp only [World.size_alloc] at bB bR hcap
  have hB0 := below3 w (.cells #[.int .i64 W, .int .i64 H, .string C] 25) (.cells #[.int .i64 b] 3) (.cells #[.bool false] 4)
  have hB1 := (hB0.alloc hB0.size (.cells #[.int .i64 W, .int .i64 H, .string C] 25)).alloc (by simp; omega) (.cells #[.int .i64 a] 3)
  have bB1 := ((bB.alloc (.cells #[.bool false] 4)).alloc (.cells #[.int .i64 W, .int .i64 H, .string C] 25)).alloc (.cells #[.int .i64 a] 3)
  have bR1 := (bR.alloc (.cells #[.int .i64 W, .int .i64 H, .string C] 25)).alloc (.cells #[.int .i64 a] 3)
  have hst := nbr_stops W H C a L hC HL 3 _ _ _ hcap (hS.below hB1)
  gi_wp2_with (refine ⟨trivial, ?_⟩; gi_at_call 87; refine (callsIn_wide.2 (implNeighbors W H C a _)).mono ?_; rintro e w1 ⟨rfl, rfl⟩)
  refine wpIn_rangeFunc_ownF rfl (by decide) (gf := 120) (lb := #[.pointer (some ⟨w.heap.size + 1 + 1 + 1, 0, none⟩), .pointer (some ⟨w.heap.size + 1 + 1 + 1 + 1, 0, none⟩)]) rfl trivial (enters_of Tryz.func120 (by kernel_rfl) rfl)
    hst nbrK_t (nbrK_b hcap.2.2.2.2.1 hcap.2.2.2.2.2) (Below.refl _ _) (fun _ => rfl)
    (fun pre W' => ((∀ y ∈ pre, y ≠ b) ∧ W'.cell? ⟨w.heap.size + 1, 0, none⟩ = some (.int .i64 b) ∧ W'.cell? ⟨w.heap.size + 1 + 1, 0, none⟩ = some (.bool false) ∧ W'.frozen? ⟨w.heap.size + 1 + 1, 0, none⟩ = false) ∧ Below w.heap.size w W')
    (fun c pre W' => (c = .ret ∧ b ∈ pre ∧ W'.cell? ⟨w.heap.size + 1 + 1, 0, none⟩ = some (.bool true)) ∧ Below w.heap.size w W')
    (OwnFrom.and (Own.from (fun s A B row hs hg hr => ⟨hs.1, cell_kept hs.2.1 hg hr, cell_kept hs.2.2.1 hg hr, (frozen_kept hs.2.2.1 hg hr).trans hs.2.2.2⟩) _) (ownFrom_below (Nat.le_refl _) (by simp; omega)))
    (fun c => OwnFrom.and (Own.from (fun s A B row hs hg hr => ⟨hs.1, hs.2.1, cell_kept hs.2.2 hg hr⟩) _) (ownFrom_below (Nat.le_refl _) (by simp; omega)))
    ⟨⟨by simp, bB1.cell, bR1.cell, bR1.frozen⟩, hB1⟩
    (fun x => { tmps := #[.agg #[.int .i64 W, .int .i64 H, .string C], .int .i64 a, .int .i64 b, .pointer (some ⟨w.heap.size, 0, none⟩), undef, .pointer (some ⟨w.heap.size + 1, 0, none⟩), .pointer (some ⟨w.heap.size + 1 + 1, 0, none⟩), .int .i64 x, .agg #[.int .i64 W, .int .i64 H, .string C], .int .i64 a, .func (.func 120) #[] #[.pointer (some ⟨w.heap.size + 1 + 1 + 1, 0, none⟩), .pointer (some ⟨w.heap.size + 1 + 1 + 1 + 1, 0, none⟩)], .int .i64 x, undef, undef, undef], defers := [] }) ?assign ?body ?done ?stop
  case assign =>
    intro l x W' K hK
    gi_wp2
    exact hK
  case body =>
    rintro l pre x W' ⟨⟨hp, hcw, hcr, hfr⟩, hB⟩ _
    gi_wp2
    · rename_i hx
      obtain rfl : x = b := eq_of_beq hx
      exact ⟨KeepsOthers.setCell _ _ _, ⟨rfl, List.mem_append.2 (.inr (by simp)), World.cell?_setCell_same' _ _ _ (by rw [hcr]; rfl)⟩, hB.setCell (p := ⟨w.heap.size + 1 + 1, 0, none⟩) (by simp; omega) _⟩
    · rename_i hx
      exact ⟨KeepsOthers.refl _, nbrK_refl _ _ _, ⟨fun y hy => (List.mem_append.1 hy).elim (hp y) (fun e e' => by simp at e; subst e; subst e'; simp at hx), hcw, hcr, hfr⟩, hB⟩
  case done =>
    rintro D ys W' hD rfl ⟨⟨hne, _, hcr, hfr⟩, hB⟩ hK
    gi_wp2
    have hK' := (KeepsOthers.setCell W' ⟨w.heap.size + 1 + 1, 0, none⟩ (.bool false)).same D _ hK rfl
    refine ⟨by simp, .inl ⟨_, _, rfl, run_takeDeferred hK', ?_⟩⟩
    have hc5 := cell_kept (World.cell?_setCell_same' W' ⟨w.heap.size + 1 + 1, 0, none⟩ (.bool false) (by rw [hcr]; rfl)) (grownBy_putObj' _ D (.deferred none)) (fun r e => by cases e; exact ⟨_, hK', rfl⟩)
    have hr0 : false = r := by
      rw [← HR.out]
      have : b ∉ ys := fun h => hne b h rfl
      simpa using this
    refine ⟨.bool false, ?_, bool_ret hr0 rfl, (hB.setCell (p := ⟨w.heap.size + 1 + 1, 0, none⟩) (by simp; omega) _).trans (belowK_b (w := w) (Nat.le_refl _) _ D _ _ (by simp at hD; omega) hK' rfl rfl)⟩
    simp [results, Tryz.f116, go_sem, hc5]
  case stop =>
    rintro D c pre W' hD hpre ⟨⟨rfl, hin, hcr⟩, hB⟩ hK
    gi_wp2
    refine ⟨by simp, .inl ⟨_, _, rfl, run_takeDeferred hK, ?_⟩⟩
    have hc5 := cell_kept hcr (grownBy_putObj' _ D (.deferred none)) (fun r e => by cases e; exact ⟨_, hK, rfl⟩)
    have hr1 : true = r := by
      rw [← HR.out]
      exact (List.contains_iff_mem.2 (hpre.subset hin)).symm
    refine ⟨.bool true, ?_, bool_ret hr1 rfl, hB.trans (belowK_b (w := w) (Nat.le_refl _) W' D _ _ (by simp at hD; omega) hK rfl rfl)⟩
    simp [results, Tryz.f116, go_sem, hc5]

theorem implBeside (W H : Int) (C : ByteArray) (a b : Int) (r : Bool) (hC : C.size ≤ 1048576) (HR : Hid ((aroundL W H C a).contains b = r)) (w : World) (hS : SidesAt w) :
    Calls Tryz.prog 116 #[.agg #[.int .i64 W, .int .i64 H, .string C], .int .i64 a, .int .i64 b] w (Made w (.bool r)) :=
  callsIn_wide.1 (beside_in W H C a b r _ hC (Lib.hid rfl) HR w hS)

end Go.Proofs.YtkbfbifepaoojaaGreatDoor

namespace Go.Proofs.YtkbfbifepaoojaaGreatDoor
set_option maxRecDepth 4096
open Go.ChangeShapes Go.WideShapes Go.ChangeAt Go.RowKit

set_option maxHeartbeats 4000000 in
theorem implStepsOk (W H : Int) (C : ByteArray) (v : Value) (Ws : List (List Int)) (b : Bool) (hC : C.size ≤ 1048576) (hW : Ws.length ≤ 2000000) (hT : totW Ws ≤ 2000000) (HB : Hid (stepsV W H C Ws = b)) (w : World) (hv : WaysAt w v Ws) (hS : SidesAt w) :
    Calls Tryz.prog 79 #[.agg #[.int .i64 W, .int .i64 H, .string C], v] w (Made w (.bool b)) := by
  have hB := Below.refl (w.alloc (.cells #[.int .i64 W, .int .i64 H, .string C] 25)).heap.size (w.alloc (.cells #[.int .i64 W, .int .i64 H, .string C] 25))
  have HVV := Lib.hid hv
  have HTh := Lib.hid hT
  have HSd := Lib.hid hS
  have HB0 := Lib.hid hB
  obtain ⟨av, cv, rfl, _⟩ := hv
  clear hT hS hB
  go_enter Tryz.func79, Tryz.ntmps79
  go_wp2
  go_loopw [10] (fun i wr => ∃ j : Nat, j ≤ Ws.length ∧ i = .int .i64 j ∧ Hid (∀ (k : Nat) L, k < j → Ws[k]? = some L → wayB W H C L = true) ∧ Below (w.alloc (.cells #[.int .i64 W, .int .i64 H, .string C] 25)).heap.size (w.alloc (.cells #[.int .i64 W, .int .i64 H, .string C] 25)) wr) (fun i _ => Ws.length - (intOf i).toNat)
  case atStart => exact ⟨0, Nat.zero_le _, rfl, Lib.hid fun k L h => absurd h (by omega), HB0.out⟩
  case round =>
    clear HB0
    obtain ⟨j, hj, rfl, HK, hB⟩ := hrel
    by_cases hlt : j < Ws.length
    · have hlt2 : (j : Int) < (Ws.length : Int) := by omega
      obtain ⟨L, hx⟩ : ∃ L, Ws[j]? = some L := ⟨_, List.getElem?_eq_getElem hlt⟩
      obtain ⟨g, au, _, e, hg, u, bu, rfl, d1, hI⟩ := way_at (waysAt_on HVV.out (box_below hB)) hx
      injection e with e1 e2 e3
      subst e1
      have hLb := totW_one hx
      have hLb2 : L.length ≤ 2000000 := by have := HTh.out; omega
      have HX := Lib.hid hx
      have hb1 := (Below.refl wr.heap.size wr).alloc (Nat.le_refl _) (.cells #[.slice au L.length bu] 51)
      have HBW := Lib.hid (hB.trans (hb1.mono hB.size))
      have HI := Lib.hid (ints_on hI hb1)
      have hnew := heap_alloc_new wr (.cells #[.slice au L.length bu] 51)
      have HNW := Lib.hid hnew
      clear hx hLb e2 e3 hI hb1 hnew hB
      go_wp2
      generalize wr.alloc (.cells #[.slice au L.length bu] 51) = w5 at *
      generalize wr.heap.size = q5 at *
      go_loopw [7] (fun t w6 => ∃ k : Nat, 1 ≤ k ∧ k ≤ L.length + 1 ∧ t = .int .i64 k ∧ Hid (∀ m, m < k → m < L.length → stepB W H C L m = true) ∧ Below w5.heap.size w5 w6) (fun t _ => L.length + 1 - (intOf t).toNat)
      case atStart => exact ⟨1, Nat.le_refl _, by omega, rfl, Lib.hid fun m h _ => by
        obtain rfl : m = 0 := by omega
        exact stepB_zero, Below.refl _ _⟩
      case round =>
        obtain ⟨k, hk1, hk, rfl, HM, hb6⟩ := hrel
        have hq5 : q5 < w5.heap.size := (Array.getElem?_eq_some_iff.1 HNW.out).1
        have d2 : wr.cell? ⟨q5, 0, none⟩ = some (.slice au L.length bu) := by
          rw [cell_of_row _ _ _ _ _ _ ((hb6.block q5 hq5).trans HNW.out)]; rfl
        by_cases hl2 : k < L.length
        · have hl3 : (k : Int) < (L.length : Int) := by omega
          obtain ⟨x, hx⟩ : ∃ x, L[k]? = some x := ⟨_, List.getElem?_eq_getElem hl2⟩
          obtain ⟨y, hy⟩ : ∃ y, L[k - 1]? = some y := ⟨_, List.getElem?_eq_getElem (by omega)⟩
          have HST := Lib.hid (stepB_at (W := W) (H := H) (C := C) (by omega) hx hy)
          obtain ⟨a9, c9, e, HI2⟩ := ints_form (ints_on HI.out hb6)
          injection e with e1 e2 e3
          subst e1
          rcases HI2 with h0 | ⟨q, rfl, hq, hqc⟩
          · omega
          · have dx := hqc k x hx
            have dy := hqc (k - 1) y hy
            have hwk : IntKind.i64.wrap ((k : Int) - 1) = ((k - 1 : Nat) : Int) := by rw [IntWalk.i64_in _ (by omega)]; omega
            have hl4 : ((k - 1 : Nat) : Int) < (L.length : Int) := by omega
            have hl5 : ¬ ((k - 1 : Nat) : Int) < 0 := by omega
            have HBC := Lib.hid (HBW.out.trans (hb6.mono HBW.out.size))
            clear hx hy hqc e2 e3
            by_cases e : x = y
            · subst e
              have hxx : (x != x) = false := by simp
              have HSB : Hid (stepB W H C L k = true) := Lib.hid (by rw [HST.out]; simp)
              have HB6 := Lib.hid hb6
              clear hb6
              go_wp2
              go_quiet (fail)
              go_wp2
              go_roundw
              case rel => exact ⟨k + 1, by omega, by omega, by go_num, Lib.hid fun m h1 h2 => (by
                rcases Nat.lt_succ_iff_lt_or_eq.1 h1 with h | h
                · exact HM.out m h h2
                · rw [h]; exact HSB.out), below_drewN HB6.out _⟩
              case measure => simp [intOf]; omega
            · have hxy : (x != y) = true := by simpa using e
              obtain ⟨c0, c1, c2⟩ := box_cells HBC.out
              obtain ⟨r, HR⟩ : ∃ r, Hid ((aroundL W H C y).contains x = r) := ⟨_, rfl⟩
              have HSB : Hid (stepB W H C L k = r) := Lib.hid (by rw [HST.out, HR.out, decide_eq_false e, Bool.false_or])
              have HB6 := Lib.hid hb6
              have HSW : Hid (SidesAt wr) := Lib.hid (HSd.out.below (box_below HBC.out))
              have HCB : Hid (∀ n, Calls Tryz.prog 116 #[.agg #[.int .i64 W, .int .i64 H, .string C], .int .i64 y, .int .i64 x] (wr.drewN n) (Made (wr.drewN n) (.bool r))) := Lib.hid fun n => implBeside W H C y x r hC HR _ (HSW.out.below (below_drewN (Below.refl _ _) n))
              clear hb6
              go_wp2
              go_still_tail 25, (by kernel_rfl)
              change wpList _ _ _ _ _ wr.drew
              have HCD : Hid (Calls Tryz.prog 116 #[.agg #[.int .i64 W, .int .i64 H, .string C], .int .i64 y, .int .i64 x] wr.drew (Made wr.drew (.bool r))) := Lib.hid (HCB.out 1)
              cases r with
              | true =>
                go_wp2_with (go_at_call 116; refine HCD.out.mono ?_; rintro e w' ⟨rfl, hb'⟩; have HB7 := Lib.hid (HB6.out.trans ((below_drewN (Below.refl wr.heap.size wr) 1).trans (hb'.mono (Nat.le_refl _)) |>.mono HB6.out.size)); clear hb')
                go_roundw
                case rel => exact ⟨k + 1, by omega, by omega, by go_num, Lib.hid fun m h1 h2 => (by
                  rcases Nat.lt_succ_iff_lt_or_eq.1 h1 with h | h
                  · exact HM.out m h h2
                  · rw [h]; exact HSB.out), HB7.out⟩
                case measure => simp [intOf]; omega
              | false =>
                have e : b = false := by
                  rw [← HB.out]
                  exact stepsV_no HX.out (wayB_no hl2 HSB.out)
                subst e
                go_wp2_with (go_at_call 116; refine HCD.out.mono ?_; rintro e w' ⟨rfl, hb'⟩; have HB7 := Lib.hid (HBC.out.trans ((below_drewN (Below.refl wr.heap.size wr) 1).trans (hb'.mono (Nat.le_refl _)) |>.mono HBC.out.size)); clear hb')
                go_ret
                exact ⟨rfl, box_below HB7.out⟩
        · have hnl : ¬ (k : Int) < (L.length : Int) := by omega
          have HBC := Lib.hid (HBW.out.trans (hb6.mono HBW.out.size))
          have HWY : Hid (wayB W H C L = true) := Lib.hid (wayB_yes fun m hm => HM.out m (by omega) hm)
          clear hb6
          go_wp2
          go_roundw
          case rel => exact ⟨j + 1, by omega, by go_num, Lib.hid fun m M h1 hM => (by
            rcases Nat.lt_succ_iff_lt_or_eq.1 h1 with h | h
            · exact HK.out m M h hM
            · rw [h, HX.out] at hM
              cases hM
              exact HWY.out), HBC.out⟩
          case measure => simp [intOf]; omega
    · obtain rfl : j = Ws.length := by omega
      have hnl : ¬ (Ws.length : Int) < (Ws.length : Int) := by omega
      have e : b = true := by
        rw [← HB.out]
        exact stepsV_yes fun k L hL => HK.out k L (List.getElem?_eq_some_iff.1 hL).1 hL
      subst e
      go_wp2
      go_ret
      exact ⟨rfl, box_below hB⟩

end Go.Proofs.YtkbfbifepaoojaaGreatDoor

namespace Go.Proofs.YtkbfbifepaoojaaGreatDoor
set_option maxRecDepth 4096
open Go.ChangeShapes Go.WideShapes Go.ChangeAt Go.RowKit

theorem rowsR_at {a b : Nat} {C : ByteArray} {y : Nat} (hg : gok a b C = true) (hy : y < b) (hb : b ≤ 8) : (rowsR a b C)[y]? = some (.string (rowT C a y)) := by
  unfold rowsR
  rw [if_pos hg]
  exact rowsV_at C a b y hy hb

theorem cell_rows {w : World} {g q : Nat} {R S : Array Value} {t : TypeId} {v : Value} (hR : w.heap[g]? = some (.cells S t (0, 0))) (HR : Hid (S = R)) (hr : Hid (R[q]? = some v)) : w.cell? ⟨g, q, none⟩ = some v := by
  rw [cell_of_row _ _ _ _ _ _ hR, HR.out]
  exact hr.out

/-- Where the cell n of a valid map lies among the rows. -/
theorem place {W H : Int} {C : ByteArray} {n : Nat} (hg : gok W H C = true) (hn : n < C.size) : ∃ a b q m : Nat, W = a ∧ H = b ∧ 1 ≤ a ∧ a ≤ 8 ∧ b ≤ 8 ∧ q < b ∧ m < a ∧ (n : Int).tdiv (a : Int) = (q : Int) ∧ (n : Int).tmod (a : Int) = (m : Int) ∧
    m < (rowT C a q).size ∧ byteAt (rowT C a q) m = byteAt C n ∧ (rowsR W H C)[q]? = some (.string (rowT C a q)) := by
  obtain ⟨⟨⟨h1, h2⟩, ⟨h3, h4⟩, hs⟩, _⟩ := gok_out hg
  obtain ⟨a, rfl⟩ : ∃ a : Nat, W = a := ⟨W.toNat, by omega⟩
  obtain ⟨b, rfl⟩ : ∃ b : Nat, H = b := ⟨H.toNat, by omega⟩
  have hs2 : C.size = a * b := by have : ((a * b : Nat) : Int) = (a : Int) * (b : Int) := Int.natCast_mul a b; omega
  have ha : 0 < a := by omega
  have hq : n / a < b := Nat.div_lt_of_lt_mul (by omega)
  have hm : n % a < a := Nat.mod_lt _ ha
  have hle : (n / a + 1) * a ≤ C.size := by rw [hs2, Nat.mul_comm a b]; exact Nat.mul_le_mul_right a (by omega)
  have hnn : n / a * a + n % a = n := by rw [Nat.mul_comm]; exact Nat.div_add_mod n a
  refine ⟨a, b, n / a, n % a, rfl, rfl, by omega, by omega, by omega, hq, hm, ?_, ?_, by rw [row_size C a _ hle]; exact hm, ?_, rowsR_at hg hq (by omega)⟩
  · rw [Int.tdiv_eq_ediv_of_nonneg (by omega)]; rfl
  · rw [Int.tmod_eq_emod_of_nonneg (by omega)]; rfl
  · rw [row_byte C a _ _ hle hm, hnn]

end Go.Proofs.YtkbfbifepaoojaaGreatDoor

namespace Go.Proofs.YtkbfbifepaoojaaGreatDoor
set_option maxRecDepth 4096
open Go.ChangeShapes Go.WideShapes Go.ChangeAt Go.RowKit

def RowNone (w : World) (e : Ending) (w' : World) : Prop := e = .returned (.tuple #[.string ⟨#[]⟩, .int .i64 0, .bool false]) ∧ Below w.heap.size w w'
def RowSome (r : ByteArray) (m : Nat) (w : World) (e : Ending) (w' : World) : Prop := e = .returned (.tuple #[.string r, .int .i64 m, .bool true]) ∧ Below w.heap.size w w'

set_option maxHeartbeats 1000000 in
theorem rowWith_no (W H : Int) (C : ByteArray) (c : Int) (hC : C.size ≤ 1048576) (h : ¬ cellOk W H C c = true) (w : World) :
    Calls Tryz.prog 138 #[.agg #[.int .i64 W, .int .i64 H, .string C], .int .i64 c] w (RowNone w) := by
  rcases cellOk_no h with hg | ⟨hg, h1⟩ | ⟨hg, h1, h2⟩
  all_goals
    clear h
    have hB := Below.refl (w.alloc (.cells #[.int .i64 W, .int .i64 H, .string C] 25)).heap.size (w.alloc (.cells #[.int .i64 W, .int .i64 H, .string C] 25))
    go_enter Tryz.func138, Tryz.ntmps138
    go_wp2_with (first
      | (go_at_call 118; (with_reducible refine (rowsOf W H C hC _).mono ?_); rintro e w1 ⟨rfl, hb⟩; replace hB := chain hB hb; clear hb)
      | (refine wpStoreRows W H C _ _ rfl rfl rfl rfl ?_; replace hB := chain hB (rows_in w1 (rowsR W H C)).1; obtain ⟨c0, c1, c2⟩ := box_cells hB))
    go_ret3
    exact ⟨rfl, box_below hB⟩

set_option maxHeartbeats 400000 in
theorem rowWith_yes (a b : Nat) (C : ByteArray) (n q m : Nat) (R : Array Value) (hC : C.size ≤ 1048576) (ha : 1 ≤ a) (_hm : m < a) (hq : q < 8) (hn : n < C.size) (hd : (n : Int).tdiv (a : Int) = (q : Int)) (he : (n : Int).tmod (a : Int) = (m : Int)) (hg : gok a b C = true)
    (HR : Hid (rowsR a b C = R)) (hr : R[q]? = some (.string (rowT C a q))) (w : World) :
    Calls Tryz.prog 138 #[.agg #[.int .i64 a, .int .i64 b, .string C], .int .i64 n] w (RowSome (rowT C a q) m w) := by
  have hB := Below.refl (w.alloc (.cells #[.int .i64 a, .int .i64 b, .string C] 25)).heap.size (w.alloc (.cells #[.int .i64 a, .int .i64 b, .string C] 25))
  have HRq : Hid (R[q]? = some (.string (rowT C a q))) := Lib.hid hr
  have hn2 : (n : Int) < (C.size : Int) := by omega
  have hn3 : ¬ (C.size : Int) ≤ (n : Int) := by omega
  have HE := Lib.hid hd
  have HE2 := Lib.hid he
  clear hr hd he
  go_enter Tryz.func138, Tryz.ntmps138
  go_wp2_with (first
    | (go_at_call 118; (with_reducible refine (rowsOf a b C hC _).mono ?_); rintro e w1 ⟨rfl, hb⟩; replace hB := chain hB hb; clear hb)
    | (refine wpStoreRows a b C _ _ rfl rfl rfl rfl ?_; have hR := (rows_in w1 (rowsR a b C)).2; replace hB := chain hB (rows_in w1 (rowsR a b C)).1; obtain ⟨c0, c1, c2⟩ := box_cells hB; have d1 := cell_rows hR HR HRq; clear hR))
  have e1 := HE.out
  have e2 := HE2.out
  have e3 : IntKind.i64.wrap (q : Int) = (q : Int) := IntWalk.i64_in _ (by omega)
  go_quiet (fail)
  go_wp2
  go_ret3
  exact ⟨rfl, box_below (below_drewN hB nq)⟩

/-- The row and the place in it of a cell. -/
theorem rowWith_at {W H : Int} {C : ByteArray} {n : Nat} (hC : C.size ≤ 1048576) (hg : gok W H C = true) (hn : n < C.size) : ∃ (r : ByteArray) (m : Nat), m < r.size ∧ byteAt r m = byteAt C n ∧
    ∀ w, Calls Tryz.prog 138 #[.agg #[.int .i64 W, .int .i64 H, .string C], .int .i64 n] w (RowSome r m w) := by
  obtain ⟨a, b, q, m, rfl, rfl, ha1, ha2, hb, hq, hm, hd, he, hms, hby, hr⟩ := place hg hn
  exact ⟨rowT C a q, m, hms, hby, fun w => rowWith_yes a b C n q m _ hC ha1 hm (by omega) hn hd he hg (Lib.hid rfl) hr w⟩

end Go.Proofs.YtkbfbifepaoojaaGreatDoor

namespace Go.Proofs.YtkbfbifepaoojaaGreatDoor
set_option maxRecDepth 4096
open Go.ChangeShapes Go.WideShapes Go.ChangeAt Go.RowKit

set_option maxHeartbeats 400000 in
theorem implFreeAt (W H : Int) (C : ByteArray) (c : Int) (hC : C.size ≤ 1048576) (w : World) :
    Calls Tryz.prog 119 #[.agg #[.int .i64 W, .int .i64 H, .string C], .int .i64 c] w (Made w (.bool (freeV W H C c))) := by
  have hB := Below.refl (w.alloc (.cells #[.int .i64 W, .int .i64 H, .string C] 25)).heap.size (w.alloc (.cells #[.int .i64 W, .int .i64 H, .string C] 25))
  by_cases h : cellOk W H C c = true
  · obtain ⟨hg, n, rfl, hn⟩ := cellOk_out h
    obtain ⟨r, m, hm, hby, HW⟩ := rowWith_at hC hg hn
    have HF : Hid (freeB (byteAt r m) = freeV W H C n) := Lib.hid (by rw [hby, freeV_at hg hn])
    have HWW := Lib.hid HW
    clear h hg hby HW
    go_enter Tryz.func119, Tryz.ntmps119
    go_wp2_with (first
      | (go_at_call 138; (with_reducible refine (HWW.out _).mono ?_); rintro e w1 ⟨rfl, hb⟩; replace hB := chain hB hb; clear hb)
      | (go_at_call 93; (with_reducible refine (freeI _ _ m rfl hm _).mono ?_); rintro e w2 ⟨rfl, rfl⟩))
    go_ret
    exact ⟨bool_ret HF.out rfl, box_below hB⟩
  · have HF : Hid (false = freeV W H C c) := Lib.hid (by unfold freeV; simp [h])
    go_enter Tryz.func119, Tryz.ntmps119
    go_wp2_with (go_at_call 138; (with_reducible refine (rowWith_no W H C c hC h _).mono ?_); rintro e w1 ⟨rfl, hb⟩; replace hB := chain hB hb; clear hb)
    go_ret
    exact ⟨bool_ret HF.out rfl, box_below hB⟩

end Go.Proofs.YtkbfbifepaoojaaGreatDoor

