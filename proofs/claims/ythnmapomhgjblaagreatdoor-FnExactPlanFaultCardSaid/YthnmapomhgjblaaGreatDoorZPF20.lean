/-
  CONTRACT of the program's stepsOk. No law is proved here.
  Where a cell lies among the rows. No law is proved here.
  CONTRACT of the program's rowWith. No law is proved here.
  CONTRACT of the program's FreeAt. No law is proved here.
  CONTRACT of the program's allFree. No law is proved here.
  CONTRACT of the program's cellsWith at an invalid map, and plain lemmas. No law is proved here.
  CONTRACTS of the program's cellsWith at gridRow.free and of its FreeCells. No law is proved here.
-/
import Derived.Test.YthnmapomhgjblaaGreatDoorZPF08
import Derived.Test.YthnmapomhgjblaaGreatDoorZPF09
import Derived.Test.YthnmapomhgjblaaGreatDoorZPF19
import Derived.StillTailTactics
import Derived.BigQuiet
import Derived.Deep.QuietTactic
import Derived.Test.YthnmapomhgjblaaGreatDoorZPF06
import Derived.Test.YthnmapomhgjblaaGreatDoorZPF17
import Derived.Test.YthnmapomhgjblaaGreatDoorZPF00
namespace Go.Proofs.YthnmapomhgjblaaGreatDoor
set_option maxRecDepth 4096
open Go.ChangeShapes Go.WideShapes Go.ChangeAt Go.RowKit

set_option maxHeartbeats 4000000 in
theorem implStepsOk (W H : Int) (C : ByteArray) (v : Value) (Ws : List (List Int)) (b : Bool) (hC : C.size ≤ 1048576) (hW : Ws.length ≤ 2000000) (hT : totW Ws ≤ 2000000) (HB : Hid (stepsV W H C Ws = b)) (w : World) (hv : WaysAt w v Ws) (hS : SidesAt w) :
    Calls Tryz.prog 52 #[.agg #[.int .i64 W, .int .i64 H, .string C], v] w (Made w (.bool b)) := by
  have hB := Below.refl (w.alloc (.cells #[.int .i64 W, .int .i64 H, .string C] 25)).heap.size (w.alloc (.cells #[.int .i64 W, .int .i64 H, .string C] 25))
  have HVV := Lib.hid hv
  have HTh := Lib.hid hT
  have HSd := Lib.hid hS
  have HB0 := Lib.hid hB
  obtain ⟨av, cv, rfl, _⟩ := hv
  clear hT hS hB
  go_enter Tryz.func52, Tryz.ntmps52
  go_wp2
  go_loopw [10] (fun i wr => ∃ j : Nat, j ≤ Ws.length ∧ i = .int .i64 j ∧ Hid (∀ (k : Nat) L, k < j → Ws[k]? = some L → wayB W H C L = true) ∧ Below (w.alloc (.cells #[.int .i64 W, .int .i64 H, .string C] 25)).heap.size (w.alloc (.cells #[.int .i64 W, .int .i64 H, .string C] 25)) wr) (fun i _ => Ws.length - (intOf i).toNat)
  case atStart => exact ⟨0, Nat.zero_le _, rfl, Lib.hid fun k L h => absurd h (by omega), HB0.out⟩
  case round =>
    clear HB0
    obtain ⟨j, hj, rfl, HK, hB⟩ := hrel
    by_cases hlt : j < Ws.length
    · have hlt2 : (j : Int) < (Ws.length : Int) := by omega
      obtain ⟨L, hx⟩ : ∃ L, Ws[j]? = some L := ⟨_, List.getElem?_eq_getElem hlt⟩
      obtain ⟨g, au, _, e, hg, u, bu, rfl, d1, hI⟩ := way_at (waysAt_on HVV.out (box_below hB)) hx
      injection e with e1 e2 e3
      subst e1
      have hLb := totW_one hx
      have hLb2 : L.length ≤ 2000000 := by have := HTh.out; omega
      have HX := Lib.hid hx
      have hb1 := (Below.refl wr.heap.size wr).alloc (Nat.le_refl _) (.cells #[.slice au L.length bu] 52)
      have HBW := Lib.hid (hB.trans (hb1.mono hB.size))
      have HI := Lib.hid (ints_on hI hb1)
      have hnew := heap_alloc_new wr (.cells #[.slice au L.length bu] 52)
      have HNW := Lib.hid hnew
      clear hx hLb e2 e3 hI hb1 hnew hB
      go_wp2
      generalize wr.alloc (.cells #[.slice au L.length bu] 52) = w5 at *
      generalize wr.heap.size = q5 at *
      go_loopw [7] (fun t w6 => ∃ k : Nat, 1 ≤ k ∧ k ≤ L.length + 1 ∧ t = .int .i64 k ∧ Hid (∀ m, m < k → m < L.length → stepB W H C L m = true) ∧ Below w5.heap.size w5 w6) (fun t _ => L.length + 1 - (intOf t).toNat)
      case atStart => exact ⟨1, Nat.le_refl _, by omega, rfl, Lib.hid fun m h _ => by
        obtain rfl : m = 0 := by omega
        exact stepB_zero, Below.refl _ _⟩
      case round =>
        obtain ⟨k, hk1, hk, rfl, HM, hb6⟩ := hrel
        have hq5 : q5 < w5.heap.size := (Array.getElem?_eq_some_iff.1 HNW.out).1
        have d2 : wr.cell? ⟨q5, 0, none⟩ = some (.slice au L.length bu) := by
          rw [cell_of_row _ _ _ _ _ _ ((hb6.block q5 hq5).trans HNW.out)]; rfl
        by_cases hl2 : k < L.length
        · have hl3 : (k : Int) < (L.length : Int) := by omega
          obtain ⟨x, hx⟩ : ∃ x, L[k]? = some x := ⟨_, List.getElem?_eq_getElem hl2⟩
          obtain ⟨y, hy⟩ : ∃ y, L[k - 1]? = some y := ⟨_, List.getElem?_eq_getElem (by omega)⟩
          have HST := Lib.hid (stepB_at (W := W) (H := H) (C := C) (by omega) hx hy)
          obtain ⟨a9, c9, e, HI2⟩ := ints_form (ints_on HI.out hb6)
          injection e with e1 e2 e3
          subst e1
          rcases HI2 with h0 | ⟨q, rfl, hq, hqc⟩
          · omega
          · have dx := hqc k x hx
            have dy := hqc (k - 1) y hy
            have hwk : IntKind.i64.wrap ((k : Int) - 1) = ((k - 1 : Nat) : Int) := by rw [IntWalk.i64_in _ (by omega)]; omega
            have hl4 : ((k - 1 : Nat) : Int) < (L.length : Int) := by omega
            have hl5 : ¬ ((k - 1 : Nat) : Int) < 0 := by omega
            have HBC := Lib.hid (HBW.out.trans (hb6.mono HBW.out.size))
            clear hx hy hqc e2 e3
            by_cases e : x = y
            · subst e
              have hxx : (x != x) = false := by simp
              have HSB : Hid (stepB W H C L k = true) := Lib.hid (by rw [HST.out]; simp)
              have HB6 := Lib.hid hb6
              clear hb6
              go_wp2
              go_quiet (fail)
              go_wp2
              go_roundw
              case rel => exact ⟨k + 1, by omega, by omega, by go_num, Lib.hid fun m h1 h2 => (by
                rcases Nat.lt_succ_iff_lt_or_eq.1 h1 with h | h
                · exact HM.out m h h2
                · rw [h]; exact HSB.out), below_drewN HB6.out _⟩
              case measure => simp [intOf]; omega
            · have hxy : (x != y) = true := by simpa using e
              obtain ⟨c0, c1, c2⟩ := box_cells HBC.out
              obtain ⟨r, HR⟩ : ∃ r, Hid ((aroundL W H C y).contains x = r) := ⟨_, rfl⟩
              have HSB : Hid (stepB W H C L k = r) := Lib.hid (by rw [HST.out, HR.out, decide_eq_false e, Bool.false_or])
              have HB6 := Lib.hid hb6
              have HSW : Hid (SidesAt wr) := Lib.hid (HSd.out.below (box_below HBC.out))
              have HCB : Hid (∀ n, Calls Tryz.prog 78 #[.agg #[.int .i64 W, .int .i64 H, .string C], .int .i64 y, .int .i64 x] (wr.drewN n) (Made (wr.drewN n) (.bool r))) := Lib.hid fun n => implBeside W H C y x r hC HR _ (HSW.out.below (below_drewN (Below.refl _ _) n))
              clear hb6
              go_wp2
              go_still_tail 25, (by kernel_rfl)
              change wpList _ _ _ _ _ wr.drew
              have HCD : Hid (Calls Tryz.prog 78 #[.agg #[.int .i64 W, .int .i64 H, .string C], .int .i64 y, .int .i64 x] wr.drew (Made wr.drew (.bool r))) := Lib.hid (HCB.out 1)
              cases r with
              | true =>
                go_wp2_with (go_at_call 78; refine HCD.out.mono ?_; rintro e w' ⟨rfl, hb'⟩; have HB7 := Lib.hid (HB6.out.trans ((below_drewN (Below.refl wr.heap.size wr) 1).trans (hb'.mono (Nat.le_refl _)) |>.mono HB6.out.size)); clear hb')
                go_roundw
                case rel => exact ⟨k + 1, by omega, by omega, by go_num, Lib.hid fun m h1 h2 => (by
                  rcases Nat.lt_succ_iff_lt_or_eq.1 h1 with h | h
                  · exact HM.out m h h2
                  · rw [h]; exact HSB.out), HB7.out⟩
                case measure => simp [intOf]; omega
              | false =>
                have e : b = false := by
                  rw [← HB.out]
                  exact stepsV_no HX.out (wayB_no hl2 HSB.out)
                subst e
                go_wp2_with (go_at_call 78; refine HCD.out.mono ?_; rintro e w' ⟨rfl, hb'⟩; have HB7 := Lib.hid (HBC.out.trans ((below_drewN (Below.refl wr.heap.size wr) 1).trans (hb'.mono (Nat.le_refl _)) |>.mono HBC.out.size)); clear hb')
                go_ret
                exact ⟨rfl, box_below HB7.out⟩
        · have hnl : ¬ (k : Int) < (L.length : Int) := by omega
          have HBC := Lib.hid (HBW.out.trans (hb6.mono HBW.out.size))
          have HWY : Hid (wayB W H C L = true) := Lib.hid (wayB_yes fun m hm => HM.out m (by omega) hm)
          clear hb6
          go_wp2
          go_roundw
          case rel => exact ⟨j + 1, by omega, by go_num, Lib.hid fun m M h1 hM => (by
            rcases Nat.lt_succ_iff_lt_or_eq.1 h1 with h | h
            · exact HK.out m M h hM
            · rw [h, HX.out] at hM
              cases hM
              exact HWY.out), HBC.out⟩
          case measure => simp [intOf]; omega
    · obtain rfl : j = Ws.length := by omega
      have hnl : ¬ (Ws.length : Int) < (Ws.length : Int) := by omega
      have e : b = true := by
        rw [← HB.out]
        exact stepsV_yes fun k L hL => HK.out k L (List.getElem?_eq_some_iff.1 hL).1 hL
      subst e
      go_wp2
      go_ret
      exact ⟨rfl, box_below hB⟩

end Go.Proofs.YthnmapomhgjblaaGreatDoor

namespace Go.Proofs.YthnmapomhgjblaaGreatDoor
set_option maxRecDepth 4096
open Go.ChangeShapes Go.WideShapes Go.ChangeAt Go.RowKit

theorem rowsR_at {a b : Nat} {C : ByteArray} {y : Nat} (hg : gok a b C = true) (hy : y < b) (hb : b ≤ 8) : (rowsR a b C)[y]? = some (.string (rowT C a y)) := by
  unfold rowsR
  rw [if_pos hg]
  exact rowsV_at C a b y hy hb

theorem cell_rows {w : World} {g q : Nat} {R S : Array Value} {t : TypeId} {v : Value} (hR : w.heap[g]? = some (.cells S t (0, 0))) (HR : Hid (S = R)) (hr : Hid (R[q]? = some v)) : w.cell? ⟨g, q, none⟩ = some v := by
  rw [cell_of_row _ _ _ _ _ _ hR, HR.out]
  exact hr.out

/-- Where the cell n of a valid map lies among the rows. -/
theorem place {W H : Int} {C : ByteArray} {n : Nat} (hg : gok W H C = true) (hn : n < C.size) : ∃ a b q m : Nat, W = a ∧ H = b ∧ 1 ≤ a ∧ a ≤ 8 ∧ b ≤ 8 ∧ q < b ∧ m < a ∧ (n : Int).tdiv (a : Int) = (q : Int) ∧ (n : Int).tmod (a : Int) = (m : Int) ∧
    m < (rowT C a q).size ∧ byteAt (rowT C a q) m = byteAt C n ∧ (rowsR W H C)[q]? = some (.string (rowT C a q)) := by
  obtain ⟨⟨⟨h1, h2⟩, ⟨h3, h4⟩, hs⟩, _⟩ := gok_out hg
  obtain ⟨a, rfl⟩ : ∃ a : Nat, W = a := ⟨W.toNat, by omega⟩
  obtain ⟨b, rfl⟩ : ∃ b : Nat, H = b := ⟨H.toNat, by omega⟩
  have hs2 : C.size = a * b := by have : ((a * b : Nat) : Int) = (a : Int) * (b : Int) := Int.natCast_mul a b; omega
  have ha : 0 < a := by omega
  have hq : n / a < b := Nat.div_lt_of_lt_mul (by omega)
  have hm : n % a < a := Nat.mod_lt _ ha
  have hle : (n / a + 1) * a ≤ C.size := by rw [hs2, Nat.mul_comm a b]; exact Nat.mul_le_mul_right a (by omega)
  have hnn : n / a * a + n % a = n := by rw [Nat.mul_comm]; exact Nat.div_add_mod n a
  refine ⟨a, b, n / a, n % a, rfl, rfl, by omega, by omega, by omega, hq, hm, ?_, ?_, by rw [row_size C a _ hle]; exact hm, ?_, rowsR_at hg hq (by omega)⟩
  · rw [Int.tdiv_eq_ediv_of_nonneg (by omega)]; rfl
  · rw [Int.tmod_eq_emod_of_nonneg (by omega)]; rfl
  · rw [row_byte C a _ _ hle hm, hnn]

end Go.Proofs.YthnmapomhgjblaaGreatDoor

namespace Go.Proofs.YthnmapomhgjblaaGreatDoor
set_option maxRecDepth 4096
open Go.ChangeShapes Go.WideShapes Go.ChangeAt Go.RowKit

def RowNone (w : World) (e : Ending) (w' : World) : Prop := e = .returned (.tuple #[.string ⟨#[]⟩, .int .i64 0, .bool false]) ∧ Below w.heap.size w w'
def RowSome (r : ByteArray) (m : Nat) (w : World) (e : Ending) (w' : World) : Prop := e = .returned (.tuple #[.string r, .int .i64 m, .bool true]) ∧ Below w.heap.size w w'

set_option maxHeartbeats 1000000 in
theorem rowWith_no (W H : Int) (C : ByteArray) (c : Int) (hC : C.size ≤ 1048576) (h : ¬ cellOk W H C c = true) (w : World) :
    Calls Tryz.prog 102 #[.agg #[.int .i64 W, .int .i64 H, .string C], .int .i64 c] w (RowNone w) := by
  rcases cellOk_no h with hg | ⟨hg, h1⟩ | ⟨hg, h1, h2⟩
  all_goals
    clear h
    have hB := Below.refl (w.alloc (.cells #[.int .i64 W, .int .i64 H, .string C] 25)).heap.size (w.alloc (.cells #[.int .i64 W, .int .i64 H, .string C] 25))
    go_enter Tryz.func102, Tryz.ntmps102
    go_wp2_with (first
      | (go_at_call 90; (with_reducible refine (rowsOf W H C hC _).mono ?_); rintro e w1 ⟨rfl, hb⟩; replace hB := chain hB hb; clear hb)
      | (refine wpStoreRows W H C _ _ rfl rfl rfl rfl ?_; replace hB := chain hB (rows_in w1 (rowsR W H C)).1; obtain ⟨c0, c1, c2⟩ := box_cells hB))
    go_ret3
    exact ⟨rfl, box_below hB⟩

set_option maxHeartbeats 400000 in
theorem rowWith_yes (a b : Nat) (C : ByteArray) (n q m : Nat) (R : Array Value) (hC : C.size ≤ 1048576) (ha : 1 ≤ a) (_hm : m < a) (hq : q < 8) (hn : n < C.size) (hd : (n : Int).tdiv (a : Int) = (q : Int)) (he : (n : Int).tmod (a : Int) = (m : Int)) (hg : gok a b C = true)
    (HR : Hid (rowsR a b C = R)) (hr : R[q]? = some (.string (rowT C a q))) (w : World) :
    Calls Tryz.prog 102 #[.agg #[.int .i64 a, .int .i64 b, .string C], .int .i64 n] w (RowSome (rowT C a q) m w) := by
  have hB := Below.refl (w.alloc (.cells #[.int .i64 a, .int .i64 b, .string C] 25)).heap.size (w.alloc (.cells #[.int .i64 a, .int .i64 b, .string C] 25))
  have HRq : Hid (R[q]? = some (.string (rowT C a q))) := Lib.hid hr
  have hn2 : (n : Int) < (C.size : Int) := by omega
  have hn3 : ¬ (C.size : Int) ≤ (n : Int) := by omega
  have HE := Lib.hid hd
  have HE2 := Lib.hid he
  clear hr hd he
  go_enter Tryz.func102, Tryz.ntmps102
  go_wp2_with (first
    | (go_at_call 90; (with_reducible refine (rowsOf a b C hC _).mono ?_); rintro e w1 ⟨rfl, hb⟩; replace hB := chain hB hb; clear hb)
    | (refine wpStoreRows a b C _ _ rfl rfl rfl rfl ?_; have hR := (rows_in w1 (rowsR a b C)).2; replace hB := chain hB (rows_in w1 (rowsR a b C)).1; obtain ⟨c0, c1, c2⟩ := box_cells hB; have d1 := cell_rows hR HR HRq; clear hR))
  have e1 := HE.out
  have e2 := HE2.out
  have e3 : IntKind.i64.wrap (q : Int) = (q : Int) := IntWalk.i64_in _ (by omega)
  go_quiet (fail)
  go_wp2
  go_ret3
  exact ⟨rfl, box_below (below_drewN hB nq)⟩

/-- The row and the place in it of a cell. -/
theorem rowWith_at {W H : Int} {C : ByteArray} {n : Nat} (hC : C.size ≤ 1048576) (hg : gok W H C = true) (hn : n < C.size) : ∃ (r : ByteArray) (m : Nat), m < r.size ∧ byteAt r m = byteAt C n ∧
    ∀ w, Calls Tryz.prog 102 #[.agg #[.int .i64 W, .int .i64 H, .string C], .int .i64 n] w (RowSome r m w) := by
  obtain ⟨a, b, q, m, rfl, rfl, ha1, ha2, hb, hq, hm, hd, he, hms, hby, hr⟩ := place hg hn
  exact ⟨rowT C a q, m, hms, hby, fun w => rowWith_yes a b C n q m _ hC ha1 hm (by omega) hn hd he hg (Lib.hid rfl) hr w⟩

end Go.Proofs.YthnmapomhgjblaaGreatDoor

namespace Go.Proofs.YthnmapomhgjblaaGreatDoor
set_option maxRecDepth 4096
open Go.ChangeShapes Go.WideShapes Go.ChangeAt Go.RowKit

set_option maxHeartbeats 400000 in
theorem implFreeAt (W H : Int) (C : ByteArray) (c : Int) (hC : C.size ≤ 1048576) (w : World) :
    Calls Tryz.prog 91 #[.agg #[.int .i64 W, .int .i64 H, .string C], .int .i64 c] w (Made w (.bool (freeV W H C c))) := by
  have hB := Below.refl (w.alloc (.cells #[.int .i64 W, .int .i64 H, .string C] 25)).heap.size (w.alloc (.cells #[.int .i64 W, .int .i64 H, .string C] 25))
  by_cases h : cellOk W H C c = true
  · obtain ⟨hg, n, rfl, hn⟩ := cellOk_out h
    obtain ⟨r, m, hm, hby, HW⟩ := rowWith_at hC hg hn
    have HF : Hid (freeB (byteAt r m) = freeV W H C n) := Lib.hid (by rw [hby, freeV_at hg hn])
    have HWW := Lib.hid HW
    clear h hg hby HW
    go_enter Tryz.func91, Tryz.ntmps91
    go_wp2_with (first
      | (go_at_call 102; (with_reducible refine (HWW.out _).mono ?_); rintro e w1 ⟨rfl, hb⟩; replace hB := chain hB hb; clear hb)
      | (go_at_call 93; (with_reducible refine (freeI _ _ m rfl hm _).mono ?_); rintro e w2 ⟨rfl, rfl⟩))
    go_ret
    exact ⟨bool_ret HF.out rfl, box_below hB⟩
  · have HF : Hid (false = freeV W H C c) := Lib.hid (by unfold freeV; simp [h])
    go_enter Tryz.func91, Tryz.ntmps91
    go_wp2_with (go_at_call 102; (with_reducible refine (rowWith_no W H C c hC h _).mono ?_); rintro e w1 ⟨rfl, hb⟩; replace hB := chain hB hb; clear hb)
    go_ret
    exact ⟨bool_ret HF.out rfl, box_below hB⟩

end Go.Proofs.YthnmapomhgjblaaGreatDoor

namespace Go.Proofs.YthnmapomhgjblaaGreatDoor
set_option maxRecDepth 4096
open Go.ChangeShapes Go.WideShapes Go.ChangeAt Go.RowKit

theorem all_take {p : Int → Bool} {L : List Int} {k : Nat} {x : Int} (h : (L.take k).all p = true) (hx : L[k]? = some x) (hp : p x = true) : (L.take (k + 1)).all p = true := by
  obtain ⟨hi, rfl⟩ := List.getElem?_eq_some_iff.1 hx
  rw [List.take_succ_eq_append_getElem hi, List.all_append, h]
  simp [hp]
theorem all_not {p : Int → Bool} {L : List Int} {k : Nat} {x : Int} (hx : L[k]? = some x) (hp : p x = false) : L.all p = false := by
  rw [List.all_eq_false]
  exact ⟨x, List.mem_of_getElem? hx, by simp [hp]⟩

set_option maxHeartbeats 1000000 in
theorem allFreeI (W H : Int) (C : ByteArray) (L : List Int) (b : Bool) (v : Value) (hC : C.size ≤ 1048576) (hL : L.length ≤ 2000000) (HB : Hid (L.all (freeV W H C) = b)) (w : World) (hv : Ints w v L) :
    Calls Tryz.prog 75 #[.agg #[.int .i64 W, .int .i64 H, .string C], v] w (Made w (.bool b)) := by
  have hB := Below.refl (w.alloc (.cells #[.int .i64 W, .int .i64 H, .string C] 25)).heap.size (w.alloc (.cells #[.int .i64 W, .int .i64 H, .string C] 25))
  obtain ⟨av, cv, rfl, HV⟩ := ints_form hv
  have HVh := Lib.hid HV
  clear HV hv
  go_enter Tryz.func75, Tryz.ntmps75
  go_wp2_with fail
  go_loopw [9] (fun i wr => ∃ k : Nat, k ≤ L.length ∧ i = .int .i64 k ∧ Hid ((L.take k).all (freeV W H C) = true) ∧ Below (w.alloc (.cells #[.int .i64 W, .int .i64 H, .string C] 25)).heap.size (w.alloc (.cells #[.int .i64 W, .int .i64 H, .string C] 25)) wr) (fun i _ => L.length - (intOf i).toNat)
  case atStart => exact ⟨0, Nat.zero_le _, rfl, Lib.hid rfl, hB⟩
  case round =>
    clear hB
    obtain ⟨k, hk, rfl, HK, hB⟩ := hrel
    obtain ⟨c0, c1, c2⟩ := box_cells hB
    by_cases hlt : k < L.length
    · obtain ⟨x, hx⟩ : ∃ x, L[k]? = some x := ⟨_, List.getElem?_eq_getElem hlt⟩
      rcases HVh.out with h0 | ⟨g, rfl, hgl, hc⟩
      · omega
      · have d0 : wr.cell? ⟨g, k, none⟩ = some (.int .i64 x) := ((box_below hB).cell (p := ⟨g, k, none⟩) hgl).trans (hc k x hx)
        have HX := Lib.hid hx
        have hlt2 : (k : Int) < (L.length : Int) := by omega
        clear hx hc
        cases hf : freeV W H C x with
        | true =>
          have HF := Lib.hid hf
          clear hf
          go_wp2_with fail
          refine (implFreeAt W H C x hC _).mono ?_
          rintro e w5 ⟨rfl, hb⟩
          rw [HF.out]
          replace hB := chain hB hb
          clear d0 hb c0 c1 c2
          go_wp2_with fail
          go_roundw
          case rel => exact ⟨k + 1, by omega, by go_num, Lib.hid (all_take HK.out HX.out HF.out), hB⟩
          case measure => simp [intOf]; omega
        | false =>
          have HF := Lib.hid hf
          have e : b = false := by rw [← HB.out]; exact all_not HX.out hf
          subst e
          clear hf
          go_wp2_with fail
          refine (implFreeAt W H C x hC _).mono ?_
          rintro e w5 ⟨rfl, hb⟩
          rw [HF.out]
          replace hB := chain hB hb
          clear d0 hb c0 c1 c2
          go_wp2_with fail
          go_ret
          exact ⟨rfl, box_below hB⟩
    · obtain rfl : k = L.length := by omega
      have e : b = true := by rw [← HB.out, ← HK.out, List.take_length]
      subst e
      go_wp2_with fail
      go_ret
      exact ⟨rfl, box_below hB⟩

end Go.Proofs.YthnmapomhgjblaaGreatDoor

namespace Go.Proofs.YthnmapomhgjblaaGreatDoor
set_option maxRecDepth 4096
open Go.ChangeShapes Go.WideShapes Go.ChangeAt Go.RowKit

theorem left_quiet {P : Program} {f : FuncId} {args : Array Value} {w : World} {n : Nat} {v : Value} (h : Calls P f args (w.drewN n) fun e w' => e = .returned v ∧ w.drewN n = w') :
    Calls P f args (w.drewN n) fun e w'' => e = .returned v ∧ ∃ m, w'' = w.drewN m :=
  h.mono fun _ _ ⟨he, hm⟩ => ⟨he, n, hm.symm⟩
theorem own_drewN {w : World} {B : Nat} {e : TypeId} {s n : Nat} {v : Value} {xs : List Value} (h : w.ownsRow B e s v n xs) (m : Nat) : (w.drewN m).ownsRow B e s v n xs := h
theorem ints_nil (w : World) : IntsBack w [] (.returned (.slice none 0 0)) w := ⟨_, rfl, ⟨rfl, .inl ⟨rfl, rfl⟩⟩, Below.refl _ _⟩
theorem picks_none {p : Nat → Bool} {k : Nat} (h : ∀ n, p n = false) : picks p k = [] := by
  simp [picks, h]
theorem gok_few {W H : Int} {C : ByteArray} (hg : gok W H C = true) : C.size ≤ 64 := by
  obtain ⟨⟨⟨h1, h2⟩, ⟨h3, h4⟩, hs⟩, _⟩ := gok_out hg
  have := mul_bd h1 h2 h3 h4
  omega

theorem with_no (W H : Int) (C : ByteArray) (f : Value) (hC : C.size ≤ 1048576) (hg : gok W H C = false) (w : World) :
    Calls Tryz.prog 92 #[.agg #[.int .i64 W, .int .i64 H, .string C], f] w (IntsBack w []) := by
  have hB := Below.refl (w.alloc (.cells #[.int .i64 W, .int .i64 H, .string C] 25)).heap.size (w.alloc (.cells #[.int .i64 W, .int .i64 H, .string C] 25))
  go_enter Tryz.func92, Tryz.ntmps92
  go_wp2_with (first
    | (go_at_call 90; (with_reducible refine (rowsOf W H C hC _).mono ?_); rintro e w1 ⟨rfl, hb⟩; replace hB := chain hB hb; clear hb)
    | (refine wpStoreRows W H C _ _ rfl rfl rfl rfl ?_; replace hB := chain hB (rows_in w1 (rowsR W H C)).1))
  go_ret
  exact ⟨_, rfl, ⟨rfl, .inl ⟨rfl, rfl⟩⟩, box_below hB⟩

theorem ints_under {w w0 w' : World} {L : List Int} {e : Ending} (h : IntsBack w0 L e w') (hb : Below w.heap.size w w0) : IntsBack w L e w' := by
  obtain ⟨v, he, ho, h2⟩ := h
  exact ⟨v, he, own_base ho hb.size, hb.trans (h2.mono hb.size)⟩
theorem ints_out {w w' : World} {L : List Int} {e : Ending} (h : IntsBack w L e w') : ∃ v, e = .returned v ∧ IntsBack w L (.returned v) w' := by
  obtain ⟨v, rfl, h⟩ := h
  exact ⟨v, rfl, v, rfl, h⟩

end Go.Proofs.YthnmapomhgjblaaGreatDoor

namespace Go.Proofs.YthnmapomhgjblaaGreatDoor
set_option maxRecDepth 4096
open Go.ChangeShapes Go.WideShapes Go.ChangeAt Go.RowKit

theorem freeL_no {W H : Int} {C : ByteArray} (hg : ¬ gok W H C = true) : freeL W H C = [] :=
  picks_none fun n => by unfold freeP freeV cellOk; simp [hg]
theorem freeP_at {W H : Int} {C : ByteArray} {n : Nat} {b : Bool} (hg : gok W H C = true) (hn : n < C.size) (h : freeP W H C n = b) : freeB (byteAt C n) = b := by
  rw [← h]
  unfold freeP
  exact (freeV_at hg hn).symm

set_option maxHeartbeats 1000000 in
theorem withFree (W H : Int) (C : ByteArray) (p : Nat → Bool) (L : List Int) (hC : C.size ≤ 1048576) (hg : gok W H C = true) (HPB : Hid (∀ n b, n < C.size → p n = b → freeB (byteAt C n) = b)) (HL : Hid (picks p (min C.size 64) = L)) (w : World) :
    Calls Tryz.prog 92 #[.agg #[.int .i64 W, .int .i64 H, .string C], .func (.func 93) #[] #[]] w (IntsBack w L) := by
  obtain ⟨i0, hi, hz0, hz1, hz2⟩ := info_parts Tryz.info3
  have hfew := gok_few hg
  have hB := Below.refl (w.alloc (.cells #[.int .i64 W, .int .i64 H, .string C] 25)).heap.size (w.alloc (.cells #[.int .i64 W, .int .i64 H, .string C] 25))
  go_enter Tryz.func92, Tryz.ntmps92
  go_wp2_with (first
    | (go_at_call 90; (with_reducible refine (rowsOf W H C hC _).mono ?_); rintro e w1 ⟨rfl, hb⟩; replace hB := chain hB hb; have hs1 := box_size hB; clear hb)
    | (refine wpStoreRows W H C _ _ rfl rfl rfl rfl ?_; have hR := (rows_in w1 (rowsR W H C)).2; replace hB := chain hB (rows_in w1 (rowsR W H C)).1; have hs2 := rowsW2_size w1 (rowsR W H C); obtain ⟨c0, c1, c2⟩ := box_cells hB))
  clear c0 c1 c2
  generalize rowsW2 w1 (rowsR W H C) = wS at hR hB hs2 ⊢
  generalize w1.heap.size = G at hR hs1 hs2 ⊢
  have HR := Lib.hid hR
  have HG := Lib.hid hg
  have hs3 : w.heap.size + 1 ≤ wS.heap.size := by omega
  have hs4 : G < wS.heap.size := by omega
  clear hR hg hs2
  go_loopw [7, 19] (fun v i wr => ∃ k : Nat, k ≤ C.size ∧ i = .int .i64 k ∧ wr.ownsRow wS.heap.size 3 1 v (picks p k).length ((picks p k).map (Value.int .i64)) ∧ Below wS.heap.size wS wr) (fun _ i _ => C.size - (intOf i).toNat)
  case atStart => exact ⟨0, Nat.zero_le _, rfl, ⟨rfl, .inl ⟨rfl, rfl⟩⟩, Below.refl _ _⟩
  case round =>
    obtain ⟨k, hk, rfl, hown, hbe⟩ := hrel
    have hbs := hbe.size
    by_cases hlt : k < C.size
    · obtain ⟨c0, c1, c2⟩ := box_cells (chain hB hbe)
      obtain ⟨a, b, q, m, rfl, rfl, ha1, ha2, hb8, hq, hm, hd, he, hms, hby, hr⟩ := place HG.out hlt
      have d1 : wr.cell? ⟨G, q, none⟩ = some (.string (rowT C a q)) := (hbe.cell (p := ⟨G, q, none⟩) hs4).trans (cell_rows HR.out (Lib.hid rfl) (Lib.hid hr))
      have e3 : IntKind.i64.wrap (q : Int) = (q : Int) := IntWalk.i64_in _ (by omega)
      have hl := picks_len p k
      have HB := Lib.hid hby
      clear hby hr
      by_cases hp : p k = true
      · have HP : Hid (picks p (k + 1) = picks p k ++ [(k : Int)]) := Lib.hid (picks_yes hp)
        have HPT : Hid (freeB (byteAt (rowT C a q) m) = true) := Lib.hid (by rw [HB.out]; exact HPB.out _ _ hlt hp)
        clear hp
        go_wp2
        go_quiet ((go_at_call 93; exact left_quiet (freeTo _ _ m _ HPT rfl hms _)))
        clear d1 e3 hd he
        go_wp2_with (at_builtin; go_loud (refine wpList_append_own _ rfl _ _ 26 rfl wS.heap.size 3 i0 (.int .i64 0) 1 8 Tryz.underlying26 hi hz0 hz1 hz2 rfl (by decide) _ _ _ rfl ((own_drewN hown _).alloc _) ⟨wr.heap.size, 0, none⟩ 1 1 ([(k : Int)].map (Value.int .i64)) rfl rfl (int_new _ _ _) (ints_one _) (by unfold maxLen; omega) (by omega) (by simp; omega) ?_); intro v' w2 hown2 hgrow _; have hbe2 := ((below_drewN hbe _).alloc (by simpa using hbs) _).grown hgrow (by simp; omega) (fun j hj => (hown.lt j hj).1); clear hgrow)
        go_roundw
        case rel => exact ⟨k + 1, by omega, by go_num, ints_push hown2 HP.out, hbe2⟩
        case measure => simp [intOf]; omega
      · have hp2 : p k = false := by simpa using hp
        have HP : Hid (picks p (k + 1) = picks p k) := Lib.hid (picks_no hp2)
        have HPT : Hid (freeB (byteAt (rowT C a q) m) = false) := Lib.hid (by rw [HB.out]; exact HPB.out _ _ hlt hp2)
        clear hp hp2
        go_wp2
        go_quiet ((go_at_call 93; exact left_quiet (freeTo _ _ m _ HPT rfl hms _)))
        clear d1 e3 hd he
        go_wp2
        go_roundw
        case rel => exact ⟨k + 1, by omega, by go_num, by rw [HP.out]; exact own_drewN hown _, below_drewN hbe _⟩
        case measure => simp [intOf]; omega
    · obtain rfl : k = C.size := by omega
      have HE : Hid (picks p C.size = L) := Lib.hid (by rw [← HL.out]; congr 1; omega)
      go_wp2
      go_ret
      exact ⟨_, rfl, by rw [← HE.out]; exact own_base hown (by omega), box_below (chain hB hbe)⟩

theorem withFreeAny (W H : Int) (C : ByteArray) (L : List Int) (hC : C.size ≤ 1048576) (HL : Hid (freeL W H C = L)) (w : World) :
    Calls Tryz.prog 92 #[.agg #[.int .i64 W, .int .i64 H, .string C], .func (.func 93) #[] #[]] w (IntsBack w L) := by
  by_cases hg : gok W H C = true
  · exact withFree W H C (freeP W H C) L hC hg (Lib.hid fun n b hn h => freeP_at hg hn h) HL w
  · have : L = [] := HL.out.symm.trans (freeL_no hg)
    subst this
    exact with_no W H C _ hC (by simpa using hg) w

theorem implFreeCells (W H : Int) (C : ByteArray) (L : List Int) (hC : C.size ≤ 1048576) (HL : Hid (freeL W H C = L)) (w : World) :
    Calls Tryz.prog 77 #[.agg #[.int .i64 W, .int .i64 H, .string C]] w (IntsBack w L) := by
  go_enter Tryz.func77, Tryz.ntmps77
  go_wp2_with (go_at_call 92; (with_reducible refine (withFreeAny W H C L hC HL _).mono ?_); intro e w1 h1; obtain ⟨v, rfl, h2⟩ := ints_out h1)
  go_ret
  exact ints_under h2 ((Below.refl _ _).alloc (Nat.le_refl _) _)

end Go.Proofs.YthnmapomhgjblaaGreatDoor

