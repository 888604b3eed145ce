/-
  CONTRACTS of spec.CellAt and spec.SpotOf. No law is proved here.
  CONTRACT of spec.FreeAt. No law is proved here.
  CONTRACT of spec.l03Has. No law is proved here.
-/
import Derived.Test.YtkbfbifepaoojaaGreatDoorZPU05
import Derived.Deep.QuietTactic
import Derived.BigQuiet
import Derived.Test.YtkbfbifepaoojaaGreatDoorZPU00
namespace Go.Proofs.YtkbfbifepaoojaaGreatDoor
set_option maxRecDepth 4096
open Go.ChangeShapes Go.WideShapes Go.ChangeAt Go.RowKit

/-- The cell in column x and row y, or -1. -/
noncomputable def cellAtV (W H : Int) (C : ByteArray) (x y : Int) : Int := @ite _ (gok W H C = true ∧ (0 ≤ x ∧ x < W) ∧ (0 ≤ y ∧ y < H)) (Classical.propDecidable _) (y * W + x) (-1)
theorem cellAtV_yes {W H : Int} {C : ByteArray} {x y : Int} (h : gok W H C = true ∧ (0 ≤ x ∧ x < W) ∧ (0 ≤ y ∧ y < H)) : cellAtV W H C x y = y * W + x := if_pos h
theorem cellAtV_no {W H : Int} {C : ByteArray} {x y : Int} (h : ¬ (gok W H C = true ∧ (0 ≤ x ∧ x < W) ∧ (0 ≤ y ∧ y < H))) : cellAtV W H C x y = -1 := if_neg h

theorem l01In_no (x lo hi : Int) (h : ¬ (lo ≤ x ∧ x ≤ hi)) (w : World) :
    Calls Tryz.prog 72 #[.int .i64 x, .int .i64 lo, .int .i64 hi] w fun e w' => e = .returned (.bool false) ∧ w = w' := by
  by_cases h1 : lo ≤ x
  · have h2 : ¬ x ≤ hi := fun e => h ⟨h1, e⟩
    clear h
    go_enter Tryz.func72, Tryz.ntmps72
    go_wp2
    go_ret
    exact ⟨rfl, rfl⟩
  · clear h
    go_enter Tryz.func72, Tryz.ntmps72
    go_wp2
    go_ret
    exact ⟨rfl, rfl⟩

set_option maxHeartbeats 400000 in
theorem specCellAt_no (W H : Int) (C : ByteArray) (x y : Int) (hC : C.size ≤ 1048576) (h : ¬ (gok W H C = true ∧ (0 ≤ x ∧ x < W) ∧ (0 ≤ y ∧ y < H))) (w : World) :
    Calls Tryz.prog 133 #[.agg #[.int .i64 W, .int .i64 H, .string C], .int .i64 x, .int .i64 y] w (Made w (.int .i64 (-1))) := by
  have hB := Below.refl (w.alloc (.cells #[.int .i64 W, .int .i64 H, .string C] 25)).heap.size (w.alloc (.cells #[.int .i64 W, .int .i64 H, .string C] 25))
  by_cases hg : gok W H C = true
  · obtain ⟨⟨⟨h1, h2⟩, ⟨h3, h4⟩, hs⟩, _⟩ := gok_out hg
    clear hs
    have e1 : IntKind.i64.wrap (W - 1) = W - 1 := IntWalk.i64_in _ (by omega)
    have e2 : IntKind.i64.wrap (H - 1) = H - 1 := IntWalk.i64_in _ (by omega)
    by_cases hx : 0 ≤ x ∧ x ≤ W - 1
    · have hy : ¬ (0 ≤ y ∧ y ≤ H - 1) := fun hy => h ⟨hg, ⟨hx.1, by omega⟩, hy.1, by omega⟩
      clear h
      go_enter Tryz.func133, Tryz.ntmps133
      go_wp2_with (first
        | (go_at_call 150; (with_reducible refine (specGridOk W H C hC _).mono ?_); rintro e w1 ⟨rfl, hb⟩; replace hB := chain hB hb; obtain ⟨c0, c1, c2⟩ := box_cells hB; clear hb)
        | (go_at_call 72; (with_reducible refine (l01In_yes x 0 (W - 1) hx.1 hx.2 _).mono ?_); rintro e w' ⟨rfl, rfl⟩)
        | (go_at_call 72; (with_reducible refine (l01In_no y 0 (H - 1) hy _).mono ?_); rintro e w' ⟨rfl, rfl⟩))
      go_ret
      exact ⟨rfl, box_below hB⟩
    · clear h
      go_enter Tryz.func133, Tryz.ntmps133
      go_wp2_with (first
        | (go_at_call 150; (with_reducible refine (specGridOk W H C hC _).mono ?_); rintro e w1 ⟨rfl, hb⟩; replace hB := chain hB hb; obtain ⟨c0, c1, c2⟩ := box_cells hB; clear hb)
        | (go_at_call 72; (with_reducible refine (l01In_no x 0 (W - 1) hx _).mono ?_); rintro e w' ⟨rfl, rfl⟩))
      go_ret
      exact ⟨rfl, box_below hB⟩
  · have hg2 : gok W H C = false := by simpa using hg
    clear h hg
    go_enter Tryz.func133, Tryz.ntmps133
    go_wp2_with (go_at_call 150; (with_reducible refine (specGridOk W H C hC _).mono ?_); rintro e w1 ⟨rfl, hb⟩; replace hB := chain hB hb; obtain ⟨c0, c1, c2⟩ := box_cells hB; clear hb)
    go_ret
    exact ⟨rfl, box_below hB⟩

set_option maxHeartbeats 400000 in
theorem specCellAt_yes (W H : Int) (C : ByteArray) (x y z : Int) (hC : C.size ≤ 1048576) (hg : gok W H C = true) (hx : 0 ≤ x ∧ x ≤ W - 1) (hy : 0 ≤ y ∧ y ≤ H - 1) (HZ : Hid (y * W + x = z)) (w : World) :
    Calls Tryz.prog 133 #[.agg #[.int .i64 W, .int .i64 H, .string C], .int .i64 x, .int .i64 y] w (Made w (.int .i64 z)) := by
  have hB := Below.refl (w.alloc (.cells #[.int .i64 W, .int .i64 H, .string C] 25)).heap.size (w.alloc (.cells #[.int .i64 W, .int .i64 H, .string C] 25))
  obtain ⟨⟨⟨h1, h2⟩, ⟨h3, h4⟩, hs⟩, _⟩ := gok_out hg
  clear hs
  have e1 : IntKind.i64.wrap (W - 1) = W - 1 := IntWalk.i64_in _ (by omega)
  have e2 : IntKind.i64.wrap (H - 1) = H - 1 := IntWalk.i64_in _ (by omega)
  obtain ⟨p, hp⟩ : ∃ p, y * W = p := ⟨_, rfl⟩
  have hp1 : 0 ≤ p := by rw [← hp]; exact Int.mul_nonneg (by omega) (by omega)
  have hp2 : p ≤ 64 := by rw [← hp]; have := Int.mul_le_mul (show y ≤ 8 by omega) h2 (by omega) (by omega); omega
  have HZ2 : Hid (p + x = z) := Lib.hid (by rw [← hp]; exact HZ.out)
  clear HZ
  go_enter Tryz.func133, Tryz.ntmps133
  go_wp2_with (first
    | (go_at_call 150; (with_reducible refine (specGridOk W H C hC _).mono ?_); rintro e w1 ⟨rfl, hb⟩; replace hB := chain hB hb; obtain ⟨c0, c1, c2⟩ := box_cells hB; clear hb)
    | (go_at_call 72; (with_reducible refine (l01In_yes x 0 (W - 1) hx.1 hx.2 _).mono ?_); rintro e w' ⟨rfl, rfl⟩)
    | (go_at_call 72; (with_reducible refine (l01In_yes y 0 (H - 1) hy.1 hy.2 _).mono ?_); rintro e w' ⟨rfl, rfl⟩))
  go_ret
  exact ⟨ret_int HZ2.out, box_below hB⟩

theorem specCellAt (W H : Int) (C : ByteArray) (x y : Int) (hC : C.size ≤ 1048576) (w : World) :
    Calls Tryz.prog 133 #[.agg #[.int .i64 W, .int .i64 H, .string C], .int .i64 x, .int .i64 y] w (Made w (.int .i64 (cellAtV W H C x y))) := by
  by_cases h : gok W H C = true ∧ (0 ≤ x ∧ x < W) ∧ (0 ≤ y ∧ y < H)
  · exact specCellAt_yes W H C x y _ hC h.1 ⟨h.2.1.1, by omega⟩ ⟨h.2.2.1, by omega⟩ (Lib.hid (cellAtV_yes h).symm) w
  · rw [cellAtV_no h]
    exact specCellAt_no W H C x y hC h w

/-- The column and the row of a cell. -/
def Spot (p q : Int) (w : World) (e : Ending) (w' : World) : Prop := e = .returned (.tuple #[.int .i64 p, .int .i64 q]) ∧ Below w.heap.size w w'

theorem specSpot_no (W H : Int) (C : ByteArray) (c : Int) (hC : C.size ≤ 1048576) (h : ¬ cellOk W H C c = true) (w : World) :
    Calls Tryz.prog 132 #[.agg #[.int .i64 W, .int .i64 H, .string C], .int .i64 c] w (Spot (-1) (-1) w) := by
  rcases cellOk_no h with hg | ⟨hg, h1⟩ | ⟨hg, h1, h2⟩
  all_goals
    clear h
    have hB := Below.refl (w.alloc (.cells #[.int .i64 W, .int .i64 H, .string C] 25)).heap.size (w.alloc (.cells #[.int .i64 W, .int .i64 H, .string C] 25))
    go_enter Tryz.func132, Tryz.ntmps132
    go_wp2_with (go_at_call 150; (with_reducible refine (specGridOk W H C hC _).mono ?_); rintro e w1 ⟨rfl, hb⟩; replace hB := chain hB hb; obtain ⟨c0, c1, c2⟩ := box_cells hB; clear hb)
    go_ret2
    exact ⟨rfl, box_below hB⟩

set_option maxHeartbeats 400000 in
theorem specSpot_yes (a b : Nat) (C : ByteArray) (n q m : Nat) (hC : C.size ≤ 1048576) (hg : gok a b C = true) (hn : n < C.size) (ha : 1 ≤ a) (_hm : m < a) (hd : (n : Int).tdiv (a : Int) = (q : Int)) (he : (n : Int).tmod (a : Int) = (m : Int)) (hq : q < 8) (w : World) :
    Calls Tryz.prog 132 #[.agg #[.int .i64 a, .int .i64 b, .string C], .int .i64 n] w (Spot m q w) := by
  have hB := Below.refl (w.alloc (.cells #[.int .i64 a, .int .i64 b, .string C] 25)).heap.size (w.alloc (.cells #[.int .i64 a, .int .i64 b, .string C] 25))
  have hn3 : ¬ (C.size : Int) ≤ (n : Int) := by omega
  have HE := Lib.hid hd
  have HE2 := Lib.hid he
  have e3 : IntKind.i64.wrap (q : Int) = (q : Int) := IntWalk.i64_in _ (by omega)
  have HE3 := Lib.hid e3
  clear hd he e3
  go_enter Tryz.func132, Tryz.ntmps132
  go_wp2_with (go_at_call 150; (with_reducible refine (specGridOk a b C hC _).mono ?_); rintro e w1 ⟨rfl, hb⟩; replace hB := chain hB hb; obtain ⟨c0, c1, c2⟩ := box_cells hB; clear hb)
  have e1 := HE.out
  have e2 := HE2.out
  have e3 := HE3.out
  go_quiet (fail)
  clear e1 e2 e3
  go_wp2
  go_ret2
  exact ⟨rfl, box_below (below_drewN hB nq)⟩

/-- The column and the row that SpotOf returns. -/
noncomputable def spotX (W H : Int) (C : ByteArray) (c : Int) : Int := if cellOk W H C c = true then c.tmod W else -1
noncomputable def spotY (W H : Int) (C : ByteArray) (c : Int) : Int := if cellOk W H C c = true then c.tdiv W else -1
theorem spot_to {p q p' q' : Int} {w w' : World} {e : Ending} (h : Spot p q w e w') (hp : p = p') (hq : q = q') : Spot p' q' w e w' := by rw [← hp, ← hq]; exact h

theorem specSpotOf (W H : Int) (C : ByteArray) (c : Int) (hC : C.size ≤ 1048576) (w : World) :
    Calls Tryz.prog 132 #[.agg #[.int .i64 W, .int .i64 H, .string C], .int .i64 c] w (Spot (spotX W H C c) (spotY W H C c) w) := by
  by_cases h : cellOk W H C c = true
  · obtain ⟨hg, n, rfl, hn⟩ := cellOk_out h
    obtain ⟨a, b, q, m, rfl, rfl, ha1, _, hb, hq, hm, hd, he, _⟩ := spot_of hg hn
    refine (specSpot_yes a b C n q m hC hg hn ha1 hm hd he (by omega) w).mono fun e w' hh => spot_to hh ?_ ?_
    · unfold spotX; rw [if_pos h, he]
    · unfold spotY; rw [if_pos h, hd]
  · refine (specSpot_no W H C c hC h w).mono fun e w' hh => spot_to hh ?_ ?_
    · unfold spotX; rw [if_neg h]
    · unfold spotY; rw [if_neg h]

end Go.Proofs.YtkbfbifepaoojaaGreatDoor

namespace Go.Proofs.YtkbfbifepaoojaaGreatDoor
set_option maxRecDepth 4096
open Go.ChangeShapes Go.WideShapes Go.ChangeAt Go.RowKit

theorem specFree_no (W H : Int) (C : ByteArray) (c : Int) (hC : C.size ≤ 1048576) (h : ¬ cellOk W H C c = true) (w : World) :
    Calls Tryz.prog 131 #[.agg #[.int .i64 W, .int .i64 H, .string C], .int .i64 c] w (Made w (.bool false)) := by
  rcases cellOk_no h with hg | ⟨hg, h1⟩ | ⟨hg, h1, h2⟩
  all_goals
    clear h
    have hB := Below.refl (w.alloc (.cells #[.int .i64 W, .int .i64 H, .string C] 25)).heap.size (w.alloc (.cells #[.int .i64 W, .int .i64 H, .string C] 25))
    go_enter Tryz.func131, Tryz.ntmps131
    go_wp2_with (go_at_call 150; (with_reducible refine (specGridOk W H C hC _).mono ?_); rintro e w1 ⟨rfl, hb⟩; replace hB := chain hB hb; obtain ⟨c0, c1, c2⟩ := box_cells hB; clear hb)
    go_ret
    exact ⟨rfl, box_below hB⟩

theorem specFree_yes (W H : Int) (C : ByteArray) (n : Nat) (b : Bool) (hC : C.size ≤ 1048576) (hg : gok W H C = true) (hn : n < C.size) (HB : Hid (freeB (byteAt C n) = b)) (w : World) :
    Calls Tryz.prog 131 #[.agg #[.int .i64 W, .int .i64 H, .string C], .int .i64 n] w (Made w (.bool b)) := by
  have hat := run_at (P := Tryz.prog) 9 C .i64 n n rfl hn Tryz.underlying9
  have hn2 : (n : Int) < (C.size : Int) := by omega
  have hB := Below.refl (w.alloc (.cells #[.int .i64 W, .int .i64 H, .string C] 25)).heap.size (w.alloc (.cells #[.int .i64 W, .int .i64 H, .string C] 25))
  go_enter Tryz.func131, Tryz.ntmps131
  go_wp2_with (go_at_call 150; (with_reducible refine (specGridOk W H C hC _).mono ?_); rintro e w1 ⟨rfl, hb⟩; replace hB := chain hB hb; obtain ⟨c0, c1, c2⟩ := box_cells hB; clear hb)
  go_ret
  exact ⟨bool_ret HB.out (by unfold freeB; simp [bne, Bool.beq_eq_decide_eq]), box_below hB⟩

theorem specFreeAt (W H : Int) (C : ByteArray) (c : Int) (hC : C.size ≤ 1048576) (w : World) :
    Calls Tryz.prog 131 #[.agg #[.int .i64 W, .int .i64 H, .string C], .int .i64 c] w (Made w (.bool (freeV W H C c))) := by
  by_cases h : cellOk W H C c = true
  · obtain ⟨hg, n, rfl, hn⟩ := cellOk_out h
    exact specFree_yes W H C n _ hC hg hn (Lib.hid (by unfold freeV; rw [h]; rfl)) w
  · rw [show freeV W H C c = false from by unfold freeV; simp [h]]
    exact specFree_no W H C c hC h w

end Go.Proofs.YtkbfbifepaoojaaGreatDoor

namespace Go.Proofs.YtkbfbifepaoojaaGreatDoor
set_option maxRecDepth 4096
open Go.ChangeShapes Go.WideShapes Go.ChangeAt Go.RowKit

set_option maxHeartbeats 400000 in
theorem specHas (v : Value) (L : List Int) (x : Int) (b : Bool) (w : World) (h : Ints w v L) (HB : Hid (L.contains x = b)) (hL : L.length ≤ 2000000) :
    Calls Tryz.prog 130 #[v, .int .i64 x] w fun e w' => e = .returned (.bool b) ∧ w = w' := by
  obtain ⟨av, cv, rfl, HV⟩ : ∃ a c, v = .slice a L.length c ∧ (L.length = 0 ∨ ∃ g, a = some ⟨g, 0, none⟩ ∧ g < w.heap.size ∧ ∀ (j : Nat) x, L[j]? = some x → w.cell? ⟨g, j, none⟩ = some (.int .i64 x)) := by
    rcases h with ⟨rfl, a, c, rfl⟩ | ⟨g, c, rfl, hg, hc⟩
    · exact ⟨a, c, rfl, .inl rfl⟩
    · exact ⟨_, c, rfl, .inr ⟨g, rfl, hg, hc⟩⟩
  have HVh := Lib.hid HV
  clear HV h
  go_enter Tryz.func130, Tryz.ntmps130
  go_wp2
  go_loop [5] (fun i => ∃ k : Nat, k ≤ L.length ∧ i = .int .i64 k ∧ Hid ((L.take k).contains x = false)) (fun i => L.length - (intOf i).toNat)
  case atStart => exact ⟨0, Nat.zero_le _, rfl, Lib.hid (by simp)⟩
  case round =>
    obtain ⟨k, hk, rfl, HK⟩ := hrel
    by_cases hlt : k < L.length
    · obtain ⟨y, hy⟩ : ∃ y, L[k]? = some y := ⟨_, List.getElem?_eq_getElem hlt⟩
      rcases HVh.out with h0 | ⟨g, rfl, _, hc⟩
      · omega
      · have d0 := hc k y hy
        have HY := Lib.hid hy
        have hlt2 : (k : Int) < (L.length : Int) := by omega
        clear hc hy
        by_cases hxy : y = x
        · have HT : Hid (true = b) := Lib.hid (by rw [← HB.out]; subst hxy; exact (List.contains_iff_mem.2 (List.mem_of_getElem? HY.out)).symm)
          have hyx : (y == x) = true := by simpa using hxy
          clear hxy
          go_wp2
          go_ret
          exact ⟨bool_ret HT.out rfl, rfl⟩
        · have hyx : (y == x) = false := by simpa using hxy
          have HK2 : Hid ((L.take (k + 1)).contains x = false) := Lib.hid (by
            have h1 := HK.out
            obtain ⟨hl, hy⟩ := List.getElem?_eq_some_iff.1 HY.out
            rw [List.take_succ_eq_append_getElem hl, hy]
            simp at h1 ⊢
            exact ⟨h1, fun e => hxy e.symm⟩)
          clear hxy
          go_wp2
          go_round
          case rel => exact ⟨k + 1, by omega, by go_num, HK2⟩
          case measure => simp [intOf]; omega
    · obtain rfl : k = L.length := by omega
      have HT : Hid (false = b) := Lib.hid (by rw [← HB.out, ← HK.out, List.take_length])
      go_wp2
      go_ret
      exact ⟨bool_ret HT.out rfl, rfl⟩

end Go.Proofs.YtkbfbifepaoojaaGreatDoor

