/-
  CONTRACT of the program's GridText. No law is proved here.
-/
import Derived.Test.YtcofajganakbiaaDoorTextOf
namespace Go.Proofs.YtcofajganakbiaaDoor
open Go.ChangeShapes Go.WideShapes Go.ChangeAt Go.RowKit

set_option maxRecDepth 10000 in
theorem implText_no (W H : Int) (C : ByteArray) (hC : C.size ≤ 1048576) (hg : gok W H C = false) (w : World) :
    Calls Tryd.prog 8 #[.agg #[.int .i64 W, .int .i64 H, .string C]] w fun e w' => e = .returned (.tuple #[.string ⟨#[]⟩, .bool false]) ∧ Below w.heap.size w w' := by
  have hB := Below.refl (w.alloc (.cells #[.int .i64 W, .int .i64 H, .string C] 27)).heap.size (w.alloc (.cells #[.int .i64 W, .int .i64 H, .string C] 27))
  go_enter Tryd.func8, Tryd.ntmps8
  go_wp2_with (first
    | (go_at_call 14; (with_reducible refine (rowsOf W H C hC _).mono ?_); rintro e w1 ⟨rfl, hb⟩; replace hB := chain hB hb; clear hb)
    | (refine wpStoreRows W H C _ _ rfl rfl rfl rfl ?_; replace hB := chain hB (rows_in w1 (rowsR W H C)).1))
  go_ret2
  exact ⟨rfl, box_below hB⟩

theorem rowsR_at2 {a b : Nat} {C : ByteArray} {y : Nat} (hg : gok a b C = true) (hy : y < b) (hb : b ≤ 8) : (rowsR a b C)[y]? = some (.string (rowT C a y)) := by
  unfold rowsR
  rw [if_pos hg]
  exact rowsV_at C a b y hy hb
theorem size_row (w : World) : (sizeOf 36).run Tryd.prog w = .ok 1 w := by
  have hi : (Tryd.prog.info? 36).map (·.size) = some 1 := by kernel_rfl
  cases hq : Tryd.prog.info? 36 with
  | none => simp [hq] at hi
  | some i =>
    have hs : i.size = 1 := by simpa [hq] using hi
    simp [sizeOf, typeInfo, hq, hs]
/-- The first b rows. -/
theorem slice_rows (G b : Nat) (h : b ≤ 8) (w : World) :
    (Instr.sliceAt 38 (.pointer (some ⟨G, 0, none⟩)) none (some (.int .i64 (b : Int))) none).run Tryd.prog w = .ok (.slice (some ⟨G, 0, none⟩) b 8) w := by
  have hA : Tryd.prog.arrayLen 38 = 8 := by kernel_rfl
  have hE : Tryd.prog.elem 38 = 36 := by kernel_rfl
  have hu : Tryd.prog.underlying 38 = some (.array (Tryd.prog.arrayLen 38) (Tryd.prog.elem 38)) := by
    rw [hA, hE]
    exact Tryd.underlying38
  rw [run_sliceAt_array_h w 38 ⟨G, 0, none⟩ hu .i64 b (by omega) (by rw [hA]; omega), hA, hE, size_row w]
  simp [Result.andThen, slicedAt, Addr.add]

theorem cell_rows2 {w : World} {g q : Nat} {S : Array Value} {t : TypeId} {v : Value} (hR : w.heap[g]? = some (.cells S t (0, 0))) (hr : S[q]? = some v) : w.cell? ⟨g, q, none⟩ = some v := by
  rw [cell_of_row _ _ _ _ _ _ hR]
  exact hr

set_option maxHeartbeats 1000000 in
set_option maxRecDepth 10000 in
theorem implText_yes (a b : Nat) (C T : ByteArray) (hC : C.size ≤ 1048576) (hg : gok a b C = true) (h1 : 1 ≤ a) (h2 : a ≤ 8) (h3 : 1 ≤ b) (h4 : b ≤ 8) (HS : Hid (C.size = a * b)) (HT : Hid (textT a b C = T)) (w : World) (ht : Hid (Tab w)) :
    Calls Tryd.prog 8 #[.agg #[.int .i64 a, .int .i64 b, .string C]] w fun e w' => e = .returned (.tuple #[.string T, .bool true]) ∧ Below w.heap.size w w' := by
  have hB := Below.refl (w.alloc (.cells #[.int .i64 a, .int .i64 b, .string C] 27)).heap.size (w.alloc (.cells #[.int .i64 a, .int .i64 b, .string C] 27))
  have hda : (digT a).size ≤ 1 := Nat.le_refl _
  have hdb : (digT b).size ≤ 1 := Nat.le_refl _
  go_enter Tryd.func8, Tryd.ntmps8
  go_upto_region 4 with (first
    | (go_at_call 14; (with_reducible refine (rowsOf a b C hC _).mono ?_); rintro e w1 ⟨rfl, hb⟩; replace hB := chain hB hb; have hs1 := box_size hB; clear hb)
    | (refine wpStoreRows a b C _ _ rfl rfl rfl rfl ?_; have hR := (rows_in w1 (rowsR a b C)).2; replace hB := chain hB (rows_in w1 (rowsR a b C)).1; have hs2 := rowsW2_size w1 (rowsR a b C)))
  generalize rowsW2 w1 (rowsR a b C) = wS at hR hB hs2 ⊢
  generalize w1.heap.size = G at hR hs1 hs2 ⊢
  have HR := Lib.hid hR
  have HG := Lib.hid hg
  have hs4 : G < wS.heap.size := by omega
  clear hR hg hs2
  go_cut [6] from 16 to 25 (fun t wx => t = .string (headT a b) ∧ Below wS.heap.size wS wx)
  case first =>
    have hbe := Below.refl wS.heap.size wS
    obtain ⟨c0, c1, c2⟩ := box_cells hB
    go_region_with (first
      | (go_at_call 15; (with_reducible refine (implDec (a : Int) a rfl h1 h2 _ (Lib.hid (tab_on ht.out (by first | exact (box_below (chain hB hbe)).drew | exact box_below (chain hB hbe))))).mono ?_); rintro e w2 ⟨rfl, hb⟩; replace hbe := (by first | exact chain hbe hb | exact chain hbe.drew hb); obtain ⟨c0, c1, c2⟩ := box_cells (chain hB hbe); clear hb)
      | (go_at_call 15; (with_reducible refine (implDec (b : Int) b rfl h3 h4 _ (Lib.hid (tab_on ht.out (by first | exact (box_below (chain hB hbe)).drew | exact box_below (chain hB hbe))))).mono ?_); rintro e w2 ⟨rfl, hb⟩; replace hbe := (by first | exact chain hbe hb | exact chain hbe.drew hb); obtain ⟨c0, c1, c2⟩ := box_cells (chain hB hbe); clear hb))
    all_goals
      go_wp2_with fail
      go_meet
      exact ⟨rfl, hbe⟩
  case rest =>
    obtain ⟨rfl, hbe⟩ := hcut
    obtain ⟨c0, c1, c2⟩ := box_cells (chain hB hbe)
    have hbs := hbe.size
    have hG : wc.heap[G]? = some (.cells (rowsR a b C) 38 (0, 0)) := (hbe.block G hs4).trans HR.out
    have hB2 := chain hB hbe
    have hsl := slice_rows G b h4
    clear hbe hB
    go_wp2_with fail
    go_loop [6, 30] (fun s i => ∃ (k : Nat) (out : ByteArray), k ≤ b ∧ i = .int .i64 k ∧ s = .string out ∧ out.size ≤ 21 + k * 9 ∧ Hid (out.data.toList = textL a b C k)) (fun _ i => b - (intOf i).toNat)
    case atStart => exact ⟨0, _, Nat.zero_le _, rfl, rfl, by rw [headT_size]; omega, Lib.hid (textL_zero a b C).symm⟩
    case round =>
      clear hsl
      obtain ⟨k, out, hk, rfl, rfl, ho, HD⟩ := hrel
      by_cases hlt : k < b
      · have hle : (k + 1) * a ≤ C.size := by rw [HS.out, Nat.mul_comm a b]; exact Nat.mul_le_mul_right a (by omega)
        have d1 := cell_rows2 hG (rowsR_at2 HG.out hlt h4)
        have hes : (rowT C a k).size ≤ 8 := by rw [row_size C a k hle]; exact h2
        have HD2 : Hid ((out ++ (rowT C a k ++ ⟨#[10]⟩)).data.toList = textL a b C (k + 1)) := Lib.hid (by rw [textL_succ, ← HD.out]; simp)
        have ho2 : (out ++ (rowT C a k ++ (⟨#[10]⟩ : ByteArray))).size ≤ 21 + (k + 1) * 9 := by
          rw [ByteArray.size_append, ByteArray.size_append]
          have : (⟨#[10]⟩ : ByteArray).size = 1 := rfl
          omega
        have HO2 := Lib.hid ho2
        have hlt2 : (k : Int) < (b : Int) := by omega
        clear hle ho2
        go_wp2_with fail
        go_round
        case rel => exact ⟨k + 1, _, by omega, by go_num, rfl, HO2.out, HD2⟩
        case measure => simp [intOf]; omega
      · obtain rfl : k = b := by omega
        have HE : Hid (out = T) := Lib.hid (by rw [← HT.out]; apply ByteArray.ext; unfold textT; rw [← HD.out])
        go_wp2_with fail
        go_ret2
        exact ⟨text_ret HE.out, box_below hB2⟩

end Go.Proofs.YtcofajganakbiaaDoor
