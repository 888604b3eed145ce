/-
  CONTRACTS of spec.CellAt and spec.SpotOf. No law is proved here.
  CONTRACT of spec.FreeAt. No law is proved here.
  Slices of ints in memory; marks. Plain facts; no law is proved here.
  CONTRACT of spec.l03Has. No law is proved here.
  Plain lemmas on slices of ints that a call made itself and hands back. No law is proved here.
  CONTRACT of spec.FreeCells: the free cells, in ascending order. No law is proved here.
-/
import Derived.Test.YtlkhecdlmbhiaaaDoorZTS03
import Derived.Deep.QuietTactic
import Derived.BigQuiet
import Derived.Test.YtlkhecdlmbhiaaaDoorZTS00
import Derived.Deep.RegionWith
import Derived.Laws.OwnMore
namespace Go.Proofs.YtlkhecdlmbhiaaaDoor
set_option maxRecDepth 4096
open Go.ChangeShapes Go.WideShapes Go.ChangeAt Go.RowKit

/-- The cell in column x and row y, or -1. -/
noncomputable def cellAtV (W H : Int) (C : ByteArray) (x y : Int) : Int := @ite _ (gok W H C = true ∧ (0 ≤ x ∧ x < W) ∧ (0 ≤ y ∧ y < H)) (Classical.propDecidable _) (y * W + x) (-1)
theorem cellAtV_yes {W H : Int} {C : ByteArray} {x y : Int} (h : gok W H C = true ∧ (0 ≤ x ∧ x < W) ∧ (0 ≤ y ∧ y < H)) : cellAtV W H C x y = y * W + x := if_pos h
theorem cellAtV_no {W H : Int} {C : ByteArray} {x y : Int} (h : ¬ (gok W H C = true ∧ (0 ≤ x ∧ x < W) ∧ (0 ≤ y ∧ y < H))) : cellAtV W H C x y = -1 := if_neg h

theorem l01In_no (x lo hi : Int) (h : ¬ (lo ≤ x ∧ x ≤ hi)) (w : World) :
    Calls Tryd.prog 76 #[.int .i64 x, .int .i64 lo, .int .i64 hi] w fun e w' => e = .returned (.bool false) ∧ w = w' := by
  by_cases h1 : lo ≤ x
  · have h2 : ¬ x ≤ hi := fun e => h ⟨h1, e⟩
    clear h
    go_enter Tryd.func76, Tryd.ntmps76
    go_wp2
    go_ret
    exact ⟨rfl, rfl⟩
  · clear h
    go_enter Tryd.func76, Tryd.ntmps76
    go_wp2
    go_ret
    exact ⟨rfl, rfl⟩

set_option maxHeartbeats 400000 in
theorem specCellAt_no (W H : Int) (C : ByteArray) (x y : Int) (hC : C.size ≤ 1048576) (h : ¬ (gok W H C = true ∧ (0 ≤ x ∧ x < W) ∧ (0 ≤ y ∧ y < H))) (w : World) :
    Calls Tryd.prog 80 #[.agg #[.int .i64 W, .int .i64 H, .string C], .int .i64 x, .int .i64 y] w (Made w (.int .i64 (-1))) := by
  have hB := Below.refl (w.alloc (.cells #[.int .i64 W, .int .i64 H, .string C] 25)).heap.size (w.alloc (.cells #[.int .i64 W, .int .i64 H, .string C] 25))
  by_cases hg : gok W H C = true
  · obtain ⟨⟨⟨h1, h2⟩, ⟨h3, h4⟩, hs⟩, _⟩ := gok_out hg
    clear hs
    have e1 : IntKind.i64.wrap (W - 1) = W - 1 := IntWalk.i64_in _ (by omega)
    have e2 : IntKind.i64.wrap (H - 1) = H - 1 := IntWalk.i64_in _ (by omega)
    by_cases hx : 0 ≤ x ∧ x ≤ W - 1
    · have hy : ¬ (0 ≤ y ∧ y ≤ H - 1) := fun hy => h ⟨hg, ⟨hx.1, by omega⟩, hy.1, by omega⟩
      clear h
      go_enter Tryd.func80, Tryd.ntmps80
      go_wp2_with (first
        | (go_at_call 75; (with_reducible refine (specGridOk W H C hC _).mono ?_); rintro e w1 ⟨rfl, hb⟩; replace hB := chain hB hb; obtain ⟨c0, c1, c2⟩ := box_cells hB; clear hb)
        | (go_at_call 76; (with_reducible refine (l01In_yes x 0 (W - 1) hx.1 hx.2 _).mono ?_); rintro e w' ⟨rfl, rfl⟩)
        | (go_at_call 76; (with_reducible refine (l01In_no y 0 (H - 1) hy _).mono ?_); rintro e w' ⟨rfl, rfl⟩))
      go_ret
      exact ⟨rfl, box_below hB⟩
    · clear h
      go_enter Tryd.func80, Tryd.ntmps80
      go_wp2_with (first
        | (go_at_call 75; (with_reducible refine (specGridOk W H C hC _).mono ?_); rintro e w1 ⟨rfl, hb⟩; replace hB := chain hB hb; obtain ⟨c0, c1, c2⟩ := box_cells hB; clear hb)
        | (go_at_call 76; (with_reducible refine (l01In_no x 0 (W - 1) hx _).mono ?_); rintro e w' ⟨rfl, rfl⟩))
      go_ret
      exact ⟨rfl, box_below hB⟩
  · have hg2 : gok W H C = false := by simpa using hg
    clear h hg
    go_enter Tryd.func80, Tryd.ntmps80
    go_wp2_with (go_at_call 75; (with_reducible refine (specGridOk W H C hC _).mono ?_); rintro e w1 ⟨rfl, hb⟩; replace hB := chain hB hb; obtain ⟨c0, c1, c2⟩ := box_cells hB; clear hb)
    go_ret
    exact ⟨rfl, box_below hB⟩

set_option maxHeartbeats 400000 in
theorem specCellAt_yes (W H : Int) (C : ByteArray) (x y z : Int) (hC : C.size ≤ 1048576) (hg : gok W H C = true) (hx : 0 ≤ x ∧ x ≤ W - 1) (hy : 0 ≤ y ∧ y ≤ H - 1) (HZ : Hid (y * W + x = z)) (w : World) :
    Calls Tryd.prog 80 #[.agg #[.int .i64 W, .int .i64 H, .string C], .int .i64 x, .int .i64 y] w (Made w (.int .i64 z)) := by
  have hB := Below.refl (w.alloc (.cells #[.int .i64 W, .int .i64 H, .string C] 25)).heap.size (w.alloc (.cells #[.int .i64 W, .int .i64 H, .string C] 25))
  obtain ⟨⟨⟨h1, h2⟩, ⟨h3, h4⟩, hs⟩, _⟩ := gok_out hg
  clear hs
  have e1 : IntKind.i64.wrap (W - 1) = W - 1 := IntWalk.i64_in _ (by omega)
  have e2 : IntKind.i64.wrap (H - 1) = H - 1 := IntWalk.i64_in _ (by omega)
  obtain ⟨p, hp⟩ : ∃ p, y * W = p := ⟨_, rfl⟩
  have hp1 : 0 ≤ p := by rw [← hp]; exact Int.mul_nonneg (by omega) (by omega)
  have hp2 : p ≤ 64 := by rw [← hp]; have := Int.mul_le_mul (show y ≤ 8 by omega) h2 (by omega) (by omega); omega
  have HZ2 : Hid (p + x = z) := Lib.hid (by rw [← hp]; exact HZ.out)
  clear HZ
  go_enter Tryd.func80, Tryd.ntmps80
  go_wp2_with (first
    | (go_at_call 75; (with_reducible refine (specGridOk W H C hC _).mono ?_); rintro e w1 ⟨rfl, hb⟩; replace hB := chain hB hb; obtain ⟨c0, c1, c2⟩ := box_cells hB; clear hb)
    | (go_at_call 76; (with_reducible refine (l01In_yes x 0 (W - 1) hx.1 hx.2 _).mono ?_); rintro e w' ⟨rfl, rfl⟩)
    | (go_at_call 76; (with_reducible refine (l01In_yes y 0 (H - 1) hy.1 hy.2 _).mono ?_); rintro e w' ⟨rfl, rfl⟩))
  go_ret
  exact ⟨ret_int HZ2.out, box_below hB⟩

theorem specCellAt (W H : Int) (C : ByteArray) (x y : Int) (hC : C.size ≤ 1048576) (w : World) :
    Calls Tryd.prog 80 #[.agg #[.int .i64 W, .int .i64 H, .string C], .int .i64 x, .int .i64 y] w (Made w (.int .i64 (cellAtV W H C x y))) := by
  by_cases h : gok W H C = true ∧ (0 ≤ x ∧ x < W) ∧ (0 ≤ y ∧ y < H)
  · exact specCellAt_yes W H C x y _ hC h.1 ⟨h.2.1.1, by omega⟩ ⟨h.2.2.1, by omega⟩ (Lib.hid (cellAtV_yes h).symm) w
  · rw [cellAtV_no h]
    exact specCellAt_no W H C x y hC h w

/-- The column and the row of a cell. -/
def Spot (p q : Int) (w : World) (e : Ending) (w' : World) : Prop := e = .returned (.tuple #[.int .i64 p, .int .i64 q]) ∧ Below w.heap.size w w'

theorem specSpot_no (W H : Int) (C : ByteArray) (c : Int) (hC : C.size ≤ 1048576) (h : ¬ cellOk W H C c = true) (w : World) :
    Calls Tryd.prog 79 #[.agg #[.int .i64 W, .int .i64 H, .string C], .int .i64 c] w (Spot (-1) (-1) w) := by
  rcases cellOk_no h with hg | ⟨hg, h1⟩ | ⟨hg, h1, h2⟩
  all_goals
    clear h
    have hB := Below.refl (w.alloc (.cells #[.int .i64 W, .int .i64 H, .string C] 25)).heap.size (w.alloc (.cells #[.int .i64 W, .int .i64 H, .string C] 25))
    go_enter Tryd.func79, Tryd.ntmps79
    go_wp2_with (go_at_call 75; (with_reducible refine (specGridOk W H C hC _).mono ?_); rintro e w1 ⟨rfl, hb⟩; replace hB := chain hB hb; obtain ⟨c0, c1, c2⟩ := box_cells hB; clear hb)
    go_ret2
    exact ⟨rfl, box_below hB⟩

set_option maxHeartbeats 400000 in
theorem specSpot_yes (a b : Nat) (C : ByteArray) (n q m : Nat) (hC : C.size ≤ 1048576) (hg : gok a b C = true) (hn : n < C.size) (ha : 1 ≤ a) (_hm : m < a) (hd : (n : Int).tdiv (a : Int) = (q : Int)) (he : (n : Int).tmod (a : Int) = (m : Int)) (hq : q < 8) (w : World) :
    Calls Tryd.prog 79 #[.agg #[.int .i64 a, .int .i64 b, .string C], .int .i64 n] w (Spot m q w) := by
  have hB := Below.refl (w.alloc (.cells #[.int .i64 a, .int .i64 b, .string C] 25)).heap.size (w.alloc (.cells #[.int .i64 a, .int .i64 b, .string C] 25))
  have hn3 : ¬ (C.size : Int) ≤ (n : Int) := by omega
  have HE := Lib.hid hd
  have HE2 := Lib.hid he
  have e3 : IntKind.i64.wrap (q : Int) = (q : Int) := IntWalk.i64_in _ (by omega)
  have HE3 := Lib.hid e3
  clear hd he e3
  go_enter Tryd.func79, Tryd.ntmps79
  go_wp2_with (go_at_call 75; (with_reducible refine (specGridOk a b C hC _).mono ?_); rintro e w1 ⟨rfl, hb⟩; replace hB := chain hB hb; obtain ⟨c0, c1, c2⟩ := box_cells hB; clear hb)
  have e1 := HE.out
  have e2 := HE2.out
  have e3 := HE3.out
  go_quiet (fail)
  clear e1 e2 e3
  go_wp2
  go_ret2
  exact ⟨rfl, box_below (below_drewN hB nq)⟩

/-- The column and the row that SpotOf returns. -/
noncomputable def spotX (W H : Int) (C : ByteArray) (c : Int) : Int := if cellOk W H C c = true then c.tmod W else -1
noncomputable def spotY (W H : Int) (C : ByteArray) (c : Int) : Int := if cellOk W H C c = true then c.tdiv W else -1
theorem spot_to {p q p' q' : Int} {w w' : World} {e : Ending} (h : Spot p q w e w') (hp : p = p') (hq : q = q') : Spot p' q' w e w' := by rw [← hp, ← hq]; exact h

theorem specSpotOf (W H : Int) (C : ByteArray) (c : Int) (hC : C.size ≤ 1048576) (w : World) :
    Calls Tryd.prog 79 #[.agg #[.int .i64 W, .int .i64 H, .string C], .int .i64 c] w (Spot (spotX W H C c) (spotY W H C c) w) := by
  by_cases h : cellOk W H C c = true
  · obtain ⟨hg, n, rfl, hn⟩ := cellOk_out h
    obtain ⟨a, b, q, m, rfl, rfl, ha1, _, hb, hq, hm, hd, he, _⟩ := spot_of hg hn
    refine (specSpot_yes a b C n q m hC hg hn ha1 hm hd he (by omega) w).mono fun e w' hh => spot_to hh ?_ ?_
    · unfold spotX; rw [if_pos h, he]
    · unfold spotY; rw [if_pos h, hd]
  · refine (specSpot_no W H C c hC h w).mono fun e w' hh => spot_to hh ?_ ?_
    · unfold spotX; rw [if_neg h]
    · unfold spotY; rw [if_neg h]

end Go.Proofs.YtlkhecdlmbhiaaaDoor

namespace Go.Proofs.YtlkhecdlmbhiaaaDoor
set_option maxRecDepth 4096
open Go.ChangeShapes Go.WideShapes Go.ChangeAt Go.RowKit

theorem specFree_no (W H : Int) (C : ByteArray) (c : Int) (hC : C.size ≤ 1048576) (h : ¬ cellOk W H C c = true) (w : World) :
    Calls Tryd.prog 78 #[.agg #[.int .i64 W, .int .i64 H, .string C], .int .i64 c] w (Made w (.bool false)) := by
  rcases cellOk_no h with hg | ⟨hg, h1⟩ | ⟨hg, h1, h2⟩
  all_goals
    clear h
    have hB := Below.refl (w.alloc (.cells #[.int .i64 W, .int .i64 H, .string C] 25)).heap.size (w.alloc (.cells #[.int .i64 W, .int .i64 H, .string C] 25))
    go_enter Tryd.func78, Tryd.ntmps78
    go_wp2_with (go_at_call 75; (with_reducible refine (specGridOk W H C hC _).mono ?_); rintro e w1 ⟨rfl, hb⟩; replace hB := chain hB hb; obtain ⟨c0, c1, c2⟩ := box_cells hB; clear hb)
    go_ret
    exact ⟨rfl, box_below hB⟩

theorem specFree_yes (W H : Int) (C : ByteArray) (n : Nat) (b : Bool) (hC : C.size ≤ 1048576) (hg : gok W H C = true) (hn : n < C.size) (HB : Hid (freeB (byteAt C n) = b)) (w : World) :
    Calls Tryd.prog 78 #[.agg #[.int .i64 W, .int .i64 H, .string C], .int .i64 n] w (Made w (.bool b)) := by
  have hat := run_at (P := Tryd.prog) 9 C .i64 n n rfl hn Tryd.underlying9
  have hn2 : (n : Int) < (C.size : Int) := by omega
  have hB := Below.refl (w.alloc (.cells #[.int .i64 W, .int .i64 H, .string C] 25)).heap.size (w.alloc (.cells #[.int .i64 W, .int .i64 H, .string C] 25))
  go_enter Tryd.func78, Tryd.ntmps78
  go_wp2_with (go_at_call 75; (with_reducible refine (specGridOk W H C hC _).mono ?_); rintro e w1 ⟨rfl, hb⟩; replace hB := chain hB hb; obtain ⟨c0, c1, c2⟩ := box_cells hB; clear hb)
  go_ret
  exact ⟨bool_ret HB.out (by unfold freeB; simp [bne, Bool.beq_eq_decide_eq]), box_below hB⟩

theorem specFreeAt (W H : Int) (C : ByteArray) (c : Int) (hC : C.size ≤ 1048576) (w : World) :
    Calls Tryd.prog 78 #[.agg #[.int .i64 W, .int .i64 H, .string C], .int .i64 c] w (Made w (.bool (freeV W H C c))) := by
  by_cases h : cellOk W H C c = true
  · obtain ⟨hg, n, rfl, hn⟩ := cellOk_out h
    exact specFree_yes W H C n _ hC hg hn (Lib.hid (by unfold freeV; rw [h]; rfl)) w
  · rw [show freeV W H C c = false from by unfold freeV; simp [h]]
    exact specFree_no W H C c hC h w

end Go.Proofs.YtlkhecdlmbhiaaaDoor

namespace Go.Proofs.YtlkhecdlmbhiaaaDoor
set_option maxRecDepth 4096
open Go.ChangeShapes Go.WideShapes Go.ChangeAt Go.RowKit

/-- A list of ints that lies in memory: nil or empty, or at the head of a block. -/
def Ints (w : World) (v : Value) (L : List Int) : Prop :=
  (L = [] ∧ ∃ a c, v = .slice a 0 c) ∨ ∃ g c, v = .slice (some ⟨g, 0, none⟩) L.length c ∧ g < w.heap.size ∧ ∀ (j : Nat) x, L[j]? = some x → w.cell? ⟨g, j, none⟩ = some (.int .i64 x)

theorem ints_of_own {w : World} {B : Nat} {e : TypeId} {v : Value} {L : List Int} (h : w.ownsRow B e 1 v L.length (L.map (Value.int .i64))) : Ints w v L := by
  rcases h.2 with ⟨rfl, h0⟩ | ⟨g, cap, cur, rfl, _, hh, _⟩
  · exact .inl ⟨List.eq_nil_of_length_eq_zero h0, _, _, rfl⟩
  · refine .inr ⟨g, cap, rfl, (Array.getElem?_eq_some_iff.1 hh).1, fun j x hx => ?_⟩
    have := h.cells (g := g) rfl j (.int .i64 x) (by rw [List.getElem?_map, hx]; rfl)
    have hadd : (⟨g, 0, none⟩ : Addr).add j = ⟨g, j, none⟩ := by unfold Addr.add; split <;> simp_all
    rwa [hadd] at this

theorem ints_form {w : World} {v : Value} {L : List Int} (h : Ints w v L) : ∃ a c, v = .slice a L.length c ∧ (L.length = 0 ∨ ∃ g, a = some ⟨g, 0, none⟩ ∧ g < w.heap.size ∧ ∀ (j : Nat) x, L[j]? = some x → w.cell? ⟨g, j, none⟩ = some (.int .i64 x)) := by
  rcases h with ⟨rfl, a, c, rfl⟩ | ⟨g, c, rfl, hg, hc⟩
  · exact ⟨a, c, rfl, .inl rfl⟩
  · exact ⟨_, c, rfl, .inr ⟨g, rfl, hg, hc⟩⟩

/-- A call has only read, and has returned v. -/
def Quiet (w : World) (v : Value) (e : Ending) (w' : World) : Prop := e = .returned v ∧ ∃ n, w' = w.drewN n

/-- The ints that the marks from k on are. -/
def nums (k n : Nat) : List Int := (List.range n).map fun j => ((k + j : Nat) : Int)
theorem length_nums (k n : Nat) : (nums k n).length = n := by simp [nums]
theorem nums_at {k n j : Nat} (h : j < n) : (nums k n)[j]? = some ((k + j : Nat) : Int) := by simp [nums, h]

theorem nums_succ (k j : Nat) : nums k (j + 1) = nums k j ++ [((k + j : Nat) : Int)] := by simp [nums, List.range_succ]
theorem nums_set (k j : Nat) (xs : List Value) (h : j < xs.length) :
    ((nums k j).map (Value.int .i64) ++ xs.drop j).set j (.int .i64 ((k + j : Nat) : Int)) = (nums k (j + 1)).map (Value.int .i64) ++ xs.drop (j + 1) := by
  rw [List.set_append, if_neg (by simp [length_nums]), List.length_map, length_nums, Nat.sub_self, List.drop_eq_getElem_cons h, List.set_cons_zero, nums_succ]
  simp

/-- markIntS has written its marks, and nothing else that was there. -/
def MarkedI (w : World) (B : Nat) (T : TypeId) (v : Value) (k n : Nat) (e : Ending) (w' : World) : Prop :=
  e = .returned (.int .i64 ((k + n : Nat) : Int)) ∧ w'.ownsRow B T 1 v n ((nums k n).map (Value.int .i64)) ∧ w.grownBy w' v.ownBlock

end Go.Proofs.YtlkhecdlmbhiaaaDoor

namespace Go.Proofs.YtlkhecdlmbhiaaaDoor
set_option maxRecDepth 4096
open Go.ChangeShapes Go.WideShapes Go.ChangeAt Go.RowKit

set_option maxHeartbeats 400000 in
theorem specHas (v : Value) (L : List Int) (x : Int) (b : Bool) (w : World) (h : Ints w v L) (HB : Hid (L.contains x = b)) (hL : L.length ≤ 2000000) :
    Calls Tryd.prog 52 #[v, .int .i64 x] w fun e w' => e = .returned (.bool b) ∧ w = w' := by
  obtain ⟨av, cv, rfl, HV⟩ : ∃ a c, v = .slice a L.length c ∧ (L.length = 0 ∨ ∃ g, a = some ⟨g, 0, none⟩ ∧ g < w.heap.size ∧ ∀ (j : Nat) x, L[j]? = some x → w.cell? ⟨g, j, none⟩ = some (.int .i64 x)) := by
    rcases h with ⟨rfl, a, c, rfl⟩ | ⟨g, c, rfl, hg, hc⟩
    · exact ⟨a, c, rfl, .inl rfl⟩
    · exact ⟨_, c, rfl, .inr ⟨g, rfl, hg, hc⟩⟩
  have HVh := Lib.hid HV
  clear HV h
  go_enter Tryd.func52, Tryd.ntmps52
  go_wp2
  go_loop [5] (fun i => ∃ k : Nat, k ≤ L.length ∧ i = .int .i64 k ∧ Hid ((L.take k).contains x = false)) (fun i => L.length - (intOf i).toNat)
  case atStart => exact ⟨0, Nat.zero_le _, rfl, Lib.hid (by simp)⟩
  case round =>
    obtain ⟨k, hk, rfl, HK⟩ := hrel
    by_cases hlt : k < L.length
    · obtain ⟨y, hy⟩ : ∃ y, L[k]? = some y := ⟨_, List.getElem?_eq_getElem hlt⟩
      rcases HVh.out with h0 | ⟨g, rfl, _, hc⟩
      · omega
      · have d0 := hc k y hy
        have HY := Lib.hid hy
        have hlt2 : (k : Int) < (L.length : Int) := by omega
        clear hc hy
        by_cases hxy : y = x
        · have HT : Hid (true = b) := Lib.hid (by rw [← HB.out]; subst hxy; exact (List.contains_iff_mem.2 (List.mem_of_getElem? HY.out)).symm)
          have hyx : (y == x) = true := by simpa using hxy
          clear hxy
          go_wp2
          go_ret
          exact ⟨bool_ret HT.out rfl, rfl⟩
        · have hyx : (y == x) = false := by simpa using hxy
          have HK2 : Hid ((L.take (k + 1)).contains x = false) := Lib.hid (by
            have h1 := HK.out
            obtain ⟨hl, hy⟩ := List.getElem?_eq_some_iff.1 HY.out
            rw [List.take_succ_eq_append_getElem hl, hy]
            simp at h1 ⊢
            exact ⟨h1, fun e => hxy e.symm⟩)
          clear hxy
          go_wp2
          go_round
          case rel => exact ⟨k + 1, by omega, by go_num, HK2⟩
          case measure => simp [intOf]; omega
    · obtain rfl : k = L.length := by omega
      have HT : Hid (false = b) := Lib.hid (by rw [← HB.out, ← HK.out, List.take_length])
      go_wp2
      go_ret
      exact ⟨bool_ret HT.out rfl, rfl⟩

end Go.Proofs.YtlkhecdlmbhiaaaDoor

namespace Go.Proofs.YtlkhecdlmbhiaaaDoor
set_option maxRecDepth 4096
open Go.ChangeShapes Go.WideShapes Go.ChangeAt Go.RowKit

theorem Tryd.info3 : (Tryd.prog.info? 3).map (fun i => (i.zero, i.size, i.bytes)) = some (some (.int .i64 0), 1, 8) := by kernel_rfl

/-- The numbers below k that are picked. -/
def picks (p : Nat → Bool) (k : Nat) : List Int := ((List.range k).filter p).map fun (n : Nat) => (n : Int)
theorem picks_yes {p : Nat → Bool} {k : Nat} (h : p k = true) : picks p (k + 1) = picks p k ++ [(k : Int)] := by simp [picks, List.range_succ, h]
theorem picks_no {p : Nat → Bool} {k : Nat} (h : p k = false) : picks p (k + 1) = picks p k := by simp [picks, List.range_succ, h]
theorem picks_len (p : Nat → Bool) (k : Nat) : (picks p k).length ≤ k := by
  unfold picks
  rw [List.length_map]
  exact Nat.le_trans (List.length_filter_le _ _) (by simp)

/-- The list L came back in memory of the call's own. -/
def IntsBack (w : World) (L : List Int) (e : Ending) (w' : World) : Prop :=
  ∃ v, e = .returned v ∧ w'.ownsRow w.heap.size 3 1 v L.length (L.map (Value.int .i64)) ∧ Below w.heap.size w w'

theorem ints_one (L : List Int) : ∀ u ∈ L.map (Value.int .i64), u.oneCell' = true := by
  intro u hu
  obtain ⟨b, _, rfl⟩ := List.mem_map.1 hu
  rfl
theorem int_new (w : World) (x : Int) (t : TypeId) : ∀ j u, ([x].map (Value.int .i64))[j]? = some u → (w.alloc (.cells #[.int .i64 x] t)).cell? ((⟨w.heap.size, 0, none⟩ : Addr).add j) = some u := by
  intro j u h
  have hadd : (⟨w.heap.size, 0, none⟩ : Addr).add j = ⟨w.heap.size, j, none⟩ := by unfold Addr.add; split <;> simp_all
  rw [hadd, World.cell?_alloc_mark]
  simpa using h
theorem ints_push {w1 : World} {base : Nat} {e : TypeId} {v : Value} {L M : List Int} {x : Int} (h : w1.ownsRow base e 1 v (L.length + 1) (L.map (Value.int .i64) ++ [x].map (Value.int .i64))) (hM : M = L ++ [x]) :
    w1.ownsRow base e 1 v M.length (M.map (Value.int .i64)) := by
  subst hM
  simpa using h

theorem own_base {w : World} {B B' : Nat} {e : TypeId} {size : Nat} {v : Value} {n : Nat} {xs : List Value} (h : w.ownsRow B e size v n xs) (hB : B' ≤ B) : w.ownsRow B' e size v n xs := by
  refine ⟨h.1, ?_⟩
  rcases h.2 with h2 | ⟨g, cap, cur, hv, hg, r⟩
  · exact .inl h2
  · exact .inr ⟨g, cap, cur, hv, Nat.le_trans hB hg, r⟩

theorem made_box (w : World) (o : Obj) (e : TypeId) : ((w.alloc o).alloc (.cells #[] e)).ownsRow (w.heap.size + 1) e 1 (.slice (some ⟨w.heap.size + 1, 0, none⟩) 0 0) 0 [] := by
  have := World.ownsRow_made (base := w.heap.size + 1) (e := e) (size := 1) (w.alloc o) #[] 0 (Nat.le_of_eq (World.size_alloc _ _).symm) (by decide) rfl
  simpa using this

end Go.Proofs.YtlkhecdlmbhiaaaDoor

namespace Go.Proofs.YtlkhecdlmbhiaaaDoor
set_option maxRecDepth 4096
open Go.ChangeShapes Go.WideShapes Go.ChangeAt Go.RowKit

/-- The cells that are free. -/
noncomputable def freeP (W H : Int) (C : ByteArray) (n : Nat) : Bool := freeV W H C n
noncomputable def freeL (W H : Int) (C : ByteArray) : List Int := picks (freeP W H C) (min C.size 64)

set_option maxHeartbeats 1000000 in
theorem specFreeCells (W H : Int) (C : ByteArray) (L : List Int) (hC : C.size ≤ 1048576) (HL : Hid (freeL W H C = L)) (w : World) :
    Calls Tryd.prog 47 #[.agg #[.int .i64 W, .int .i64 H, .string C]] w (IntsBack w L) := by
  obtain ⟨i0, hi, hz0, hz1, hz2⟩ := info_parts Tryd.info3
  have hB := Below.refl (w.alloc (.cells #[.int .i64 W, .int .i64 H, .string C] 25)).heap.size (w.alloc (.cells #[.int .i64 W, .int .i64 H, .string C] 25))
  go_enter Tryd.func47, Tryd.ntmps47
  go_wp2
  go_loopw [3, 4] (fun v i wr => ∃ k : Nat, k ≤ C.size ∧ k ≤ 64 ∧ i = .int .i64 k ∧ wr.ownsRow (w.heap.size + 1) 3 1 v (picks (freeP W H C) k).length ((picks (freeP W H C) k).map (Value.int .i64)) ∧
    Below (w.alloc (.cells #[.int .i64 W, .int .i64 H, .string C] 25)).heap.size (w.alloc (.cells #[.int .i64 W, .int .i64 H, .string C] 25)) wr) (fun _ i _ => C.size - (intOf i).toNat)
  case atStart =>
    exact ⟨0, Nat.zero_le _, Nat.zero_le _, rfl, made_box _ _ _, hB.alloc (Nat.le_refl _) _⟩
  case round =>
    clear hB
    obtain ⟨k, hk, hk2, rfl, hown, hB⟩ := hrel
    obtain ⟨c0, c1, c2⟩ := box_cells hB
    by_cases hlt : k < C.size ∧ k < 64
    · obtain ⟨hlt1, hlt2⟩ := hlt
      have hl := picks_len (freeP W H C) k
      by_cases hf : freeV W H C k = true
      · have HP : Hid (picks (freeP W H C) (k + 1) = picks (freeP W H C) k ++ [(k : Int)]) := Lib.hid (picks_yes hf)
        go_wp2_with (first
          | (go_at_call 78; (with_reducible refine (specFreeAt W H C k hC _).mono ?_); rintro e w1 ⟨rfl, hb⟩; have hown1 := own_below hown hb (box_size hB); replace hB := chain hB hb; have hs1 := box_size hB; clear hb)
          | (at_builtin; refine wpList_append_own _ rfl _ _ 26 rfl (w.heap.size + 1) 3 i0 (.int .i64 0) 1 8 Tryd.underlying26 hi hz0 hz1 hz2 rfl (by decide) _ _ _ rfl (hown1.alloc _) ⟨w1.heap.size, 0, none⟩ 1 1 ([(k : Int)].map (Value.int .i64)) rfl rfl (int_new _ _ _) (ints_one _) (by unfold maxLen; omega) (by omega) (by simp; omega) ?_; intro v' w2 hown2 hgrow _; have hB2 := (hB.alloc hB.size _).grown hgrow (by simp; omega) (fun j hj => by simpa using (hown1.lt j hj).1); clear hgrow))
        go_roundw
        case rel => exact ⟨k + 1, by omega, by omega, by go_num, ints_push hown2 HP.out, hB2⟩
        case measure => simp [intOf]; omega
      · have hf2 : freeV W H C k = false := by simpa using hf
        have HP : Hid (picks (freeP W H C) (k + 1) = picks (freeP W H C) k) := Lib.hid (picks_no hf2)
        go_wp2_with (go_at_call 78; (with_reducible refine (specFreeAt W H C k hC _).mono ?_); rintro e w1 ⟨rfl, hb⟩; have hown1 := own_below hown hb (box_size hB); replace hB := chain hB hb; have hs1 := box_size hB; clear hb)
        go_roundw
        case rel => exact ⟨k + 1, by omega, by omega, by go_num, by rw [HP.out]; exact hown1, hB⟩
        case measure => simp [intOf]; omega
    · have HE : Hid (picks (freeP W H C) k = L) := Lib.hid (by rw [← HL.out]; unfold freeL; congr 1; omega)
      by_cases h1 : k < C.size
      · obtain rfl : k = 64 := by omega
        go_wp2
        go_ret
        exact ⟨_, rfl, by rw [← HE.out]; exact own_base hown (by omega), box_below hB⟩
      · obtain rfl : k = C.size := by omega
        go_wp2
        go_ret
        exact ⟨_, rfl, by rw [← HE.out]; exact own_base hown (by omega), box_below hB⟩

end Go.Proofs.YtlkhecdlmbhiaaaDoor

