/-
  CONTRACT of the model's DrawPlaces: twelve numbers below ten thousand. No law is proved here.
-/
import Derived.Test.YtgknnlbdkjhaoaaDoorDrawMap
import Derived.Test.YtgknnlbdkjhaoaaDoorIntsBack
namespace Go.Proofs.YtgknnlbdkjhaoaaDoor
open Go.ChangeShapes Go.WideShapes Go.ChangeAt Go.RowKit

def Places (L : List Int) : Prop := ∀ x ∈ L, 0 ≤ x ∧ x < 10000
/-- Twelve numbers came back in memory of the call's own. -/
def PlacesBack (w : World) (e : Ending) (w' : World) : Prop := ∃ L, L.length = 12 ∧ Places L ∧ IntsBack w L e w'

set_option maxHeartbeats 2000000 in
theorem drawPlaces (N : Nat) (v : Value) (hN : N ≤ 9000000000000000) (w : World) (hc : CodeB w v N w.heap.size) :
    Calls Tryd.prog 9 #[v] w (PlacesBack w) := by
  obtain ⟨i0, hi, hz0, hz1, hz2⟩ := info_parts Tryd.info3
  go_enter Tryd.func9, Tryd.ntmps9
  go_wp2_with fail
  refine (l01New N v _ hN hc).mono ?_
  rintro e w1 ⟨rfl, hk1, hB1⟩
  have hc1 := hc.below hB1
  go_wp2_with fail
  refine (l01Byte w.heap.size N v w1 hN hc1 hk1).mono ?_
  rintro e w2 ⟨x, rfl, _, hk2, hg2⟩
  have hc2 := hc1.turn hg2
  have hB2 : Below w.heap.size w w2 := hB1.grown hg2 hB1.size (fun k e => by cases e; omega)
  have hO := World.ownsRow_made (base := w2.heap.size) (e := 3) (size := 1) w2 #[] 0 (Nat.le_refl _) (by decide) rfl
  have hb := (Below.refl _ w2).alloc (Nat.le_refl _) (.cells #[] 3)
  have hk3 := hk2.below hb
  have hc3 := hc2.below hb
  have hB3 := hB2.trans (hb.mono hB2.size)
  have hs2 : w.heap.size < w2.heap.size := hk2.lt
  clear hc hk1 hc1 hB1 hk2 hg2 hc2 hB2 hb
  go_wp2_with fail
  go_loopw [4, 5] (fun p i wr => ∃ (k : Nat) (L : List Int), k ≤ 12 ∧ i = .int .i64 k ∧ L.length = k ∧ Places L ∧ wr.ownsRow w2.heap.size 3 1 p L.length (L.map (Value.int .i64)) ∧ Below w.heap.size w wr ∧ Cur wr w.heap.size v N ∧ CodeB wr v N w.heap.size ∧ w2.heap.size ≤ wr.heap.size)
    (fun _ i _ => 12 - (intOf i).toNat)
  case atStart => exact ⟨0, [], by omega, rfl, rfl, (fun _ h => by cases h), hO, hB3, hk3, hc3, by simp⟩
  case round =>
    clear hO hB3 hk3 hc3
    obtain ⟨k, L, hk, rfl, hL, hP, hown, hB, hcur, hcode, hsw⟩ := hrel
    by_cases hlt : k < 12
    · have hlt2 : (k : Int) < 12 := by omega
      go_wp2_with fail
      refine (l01Below w.heap.size N v 10000 wr hN hcode hcur (by decide)).mono ?_
      rintro e w3 ⟨y, rfl, hy, hk3, hg3⟩
      have hown3 := hown.kept hg3 (own_ne hown hs2)
      have hc3 := hcode.turn hg3
      have hB3 : Below w.heap.size w w3 := hB.grown hg3 hB.size (fun k e => by cases e; omega)
      have hs3 := Nat.le_trans hsw hg3.size
      have HY := Lib.hid hy
      clear hown hcur hcode hB hg3 hy
      go_wp2_with (at_builtin; refine wpList_append_own _ rfl _ _ 26 rfl w2.heap.size 3 i0 (.int .i64 0) 1 8 Tryd.underlying26 hi hz0 hz1 hz2 rfl (by decide) _ _ _ rfl (hown3.alloc _) ⟨w3.heap.size, 0, none⟩ 1 1 ([y].map (Value.int .i64)) rfl rfl (int_new _ _ _) (ints_one _) (by unfold maxLen; omega) (by omega) (by simp; omega) ?_; intro v' w6 hown6 hgrow _; have hB6 := (hB3.alloc hB3.size _).grown hgrow (by simp; omega) (fun j hj => (by have := (hown3.lt j hj).1; omega)); have hk6 := hk3.keep (heap_on hgrow hk3.lt (fun e => (by have := (hown3.lt _ e).1; omega))); have hc6 := code_on hc3 hgrow (fun j e => (by have := (hown3.lt j e).1; omega)); have hs6 : w3.heap.size ≤ w6.heap.size := Nat.le_trans (by simp) hgrow.size; clear hgrow)
      go_roundw
      case rel => exact ⟨k + 1, L ++ [y], by omega, by go_num, by simp [hL], (fun z hz => (List.mem_append.1 hz).elim (hP z) (fun h => by rw [List.mem_singleton.1 h]; exact HY.out)), ints_push hown6 rfl, hB6, hk6, hc6, by omega⟩
      case measure => simp [intOf]; omega
    · obtain rfl : k = 12 := by omega
      go_wp2_with fail
      go_ret
      exact ⟨L, hL, hP, _, rfl, own_base hown (by omega), hB⟩

end Go.Proofs.YtgknnlbdkjhaoaaDoor
