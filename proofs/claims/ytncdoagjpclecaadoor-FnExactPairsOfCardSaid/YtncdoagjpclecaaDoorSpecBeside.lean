/-
  CONTRACTS of spec.Beside and spec.PairsOf. No law is proved here.
-/
import Derived.Test.YtncdoagjpclecaaDoorSpecAround
import Derived.Test.YtncdoagjpclecaaDoorListF
namespace Go.Proofs.YtncdoagjpclecaaDoor
open Go.ChangeShapes Go.WideShapes Go.ChangeAt Go.RowKit

theorem specBeside (W H : Int) (C : ByteArray) (a b : Int) (r : Bool) (hC : C.size ≤ 1048576) (HR : Hid ((aroundL W H C a).contains b = r)) (w : World) :
    Calls Tryd.prog 13 #[.agg #[.int .i64 W, .int .i64 H, .string C], .int .i64 a, .int .i64 b] w (Made w (.bool r)) := by
  obtain ⟨L, HL⟩ : ∃ L, Hid (aroundL W H C a = L) := ⟨_, rfl⟩
  have HR2 : Hid (L.contains b = r) := Lib.hid (by rw [← HL.out]; exact HR.out)
  have hlen : L.length ≤ 2000000 := by rw [← HL.out]; exact Nat.le_trans (aroundL_len W H C a) (by decide)
  clear HR
  have hB := Below.refl (w.alloc (.cells #[.int .i64 W, .int .i64 H, .string C] 27)).heap.size (w.alloc (.cells #[.int .i64 W, .int .i64 H, .string C] 27))
  go_enter Tryd.func13, Tryd.ntmps13
  go_wp2_with fail
  refine (specAround W H C a L hC HL _).mono ?_
  rintro e w1 ⟨v, rfl, hown, hb⟩
  replace hB := chain hB hb
  go_wp2_with fail
  refine (specHas v L b r _ (ints_of_own hown) HR2 hlen).mono ?_
  rintro e w' ⟨rfl, rfl⟩
  go_wp2_with fail
  go_ret
  exact ⟨rfl, box_below hB⟩

/-- How many neighbours the first k cells of F have. -/
noncomputable def degs (W H : Int) (C : ByteArray) (F : List Int) (k : Nat) : Nat := ((F.take k).map fun c => (aroundL W H C c).length).sum
theorem degs_succ {W H : Int} {C : ByteArray} {F : List Int} {k : Nat} {x : Int} (h : F[k]? = some x) : degs W H C F (k + 1) = degs W H C F k + (aroundL W H C x).length := by
  obtain ⟨hk, rfl⟩ := List.getElem?_eq_some_iff.1 h
  unfold degs
  rw [List.take_succ_eq_append_getElem hk, List.map_append, List.sum_append]
  simp
theorem degs_le (W H : Int) (C : ByteArray) (F : List Int) (k : Nat) : degs W H C F k ≤ 4 * k := by
  induction k with
  | zero => simp [degs]
  | succ k ih =>
    rcases h : F[k]? with _ | x
    · have hl : F.length ≤ k := List.getElem?_eq_none_iff.1 h
      have e : F.take (k + 1) = F.take k := by rw [List.take_of_length_le (by omega), List.take_of_length_le hl]
      unfold degs at ih ⊢
      rw [e]
      omega
    · rw [degs_succ h]
      have := aroundL_len W H C x
      omega
noncomputable def pairsV (W H : Int) (C : ByteArray) : Int := ((degs W H C (freeL W H C) (freeL W H C).length / 2 : Nat) : Int)

set_option maxHeartbeats 1000000 in
theorem specPairs (W H : Int) (C : ByteArray) (z : Int) (hC : C.size ≤ 1048576) (HZ : Hid (pairsV W H C = z)) (w : World) :
    Calls Tryd.prog 15 #[.agg #[.int .i64 W, .int .i64 H, .string C]] w (Made w (.int .i64 z)) := by
  obtain ⟨F, HF⟩ : ∃ F, Hid (freeL W H C = F) := ⟨_, rfl⟩
  have HZ2 : Hid (((degs W H C F F.length / 2 : Nat) : Int) = z) := Lib.hid (by rw [← HF.out]; exact HZ.out)
  have hlen : F.length ≤ 64 := by rw [← HF.out]; exact Nat.le_trans (picks_len _ _) (Nat.min_le_right _ 64)
  clear HZ
  have hB := Below.refl (w.alloc (.cells #[.int .i64 W, .int .i64 H, .string C] 27)).heap.size (w.alloc (.cells #[.int .i64 W, .int .i64 H, .string C] 27))
  go_enter Tryd.func15, Tryd.ntmps15
  go_wp2_with fail
  refine (specFreeCells W H C F hC HF _).mono ?_
  rintro e w1 ⟨v, rfl, hown, hb⟩
  replace hB := chain hB hb
  obtain ⟨av, cv, rfl, HV⟩ := ints_form (ints_of_own hown)
  have HVh := Lib.hid HV
  clear HV hown hb
  go_wp2_with fail
  go_loopw [3, 5] (fun s i wr => ∃ k : Nat, k ≤ F.length ∧ i = .int .i64 k ∧ s = .int .i64 ((degs W H C F k : Nat) : Int) ∧ Below w1.heap.size w1 wr) (fun _ i _ => F.length - (intOf i).toNat)
  case atStart => exact ⟨0, Nat.zero_le _, rfl, rfl, Below.refl _ _⟩
  case round =>
    obtain ⟨k, hk, rfl, rfl, hbe⟩ := hrel
    by_cases hlt : k < F.length
    · obtain ⟨x, hx⟩ : ∃ x, F[k]? = some x := ⟨_, List.getElem?_eq_getElem hlt⟩
      rcases HVh.out with h0 | ⟨g, rfl, hg, hc⟩
      · omega
      · have d0 : wr.cell? ⟨g, k, none⟩ = some (.int .i64 x) := (hbe.cell (p := ⟨g, k, none⟩) hg).trans (hc k x hx)
        obtain ⟨c0, c1, c2⟩ := box_cells (chain hB hbe)
        obtain ⟨L, HL⟩ : ∃ L, Hid (aroundL W H C x = L) := ⟨_, rfl⟩
        have hl4 : L.length ≤ 4 := by rw [← HL.out]; exact aroundL_len W H C x
        have HS : Hid (degs W H C F (k + 1) = degs W H C F k + L.length) := Lib.hid (by rw [degs_succ hx, HL.out])
        have hdk := degs_le W H C F k
        have hlt2 : (k : Int) < (F.length : Int) := by omega
        have e1 : IntKind.i64.wrap ((degs W H C F k : Int) + (L.length : Int)) = (degs W H C F k : Int) + (L.length : Int) := IntWalk.i64_in _ (by omega)
        have HE1 := Lib.hid e1
        clear hx hc e1
        go_wp2_with fail
        have e1 := HE1.out
        go_region_with (go_at_call 7; (with_reducible refine (specAround W H C x L hC HL _).mono ?_); rintro e w5 ⟨v5, rfl, hown5, hb5⟩; obtain ⟨a5, c5, rfl⟩ := own_form hown5; have hbe5 : Below w1.heap.size w1 w5 := chain hbe.drew hb5; clear hown5 hb5)
        all_goals
          clear e1 d0 c0 c1 c2
          go_wp2_with fail
          go_roundw
          case rel => exact ⟨k + 1, by omega, by go_num, by rw [HS.out]; exact congrArg (Value.int .i64) (Int.natCast_add _ _).symm, hbe5⟩
          case measure => simp [intOf]; omega
    · obtain rfl : k = F.length := by omega
      have hdk := degs_le W H C F F.length
      have e2 : ((degs W H C F F.length : Nat) : Int).tdiv 2 = z := by rw [Int.tdiv_eq_ediv_of_nonneg (by omega)]; exact HZ2.out
      have hzb : 0 ≤ z ∧ z ≤ 128 := by rw [← HZ2.out]; omega
      go_wp2_with fail
      go_ret
      exact ⟨rfl, box_below (chain hB hbe)⟩

end Go.Proofs.YtncdoagjpclecaaDoor
