/-
  CONTRACT of spec.Around: the free cells beside a free cell. No law is proved here.
  CONTRACT of spec.FreeCells: the free cells, in ascending order. No law is proved here.
  What can be asked for: cells that are free and in ascending order; the number of a cell's node. Plain facts; no statement is proved here.
-/
import Derived.Test.YtkbfbifepaoojaaGreatDoorZPU06
import Derived.Test.YtkbfbifepaoojaaGreatDoorZPU00
import Derived.Deep.RegionHeld3
import Derived.Deep.CutRange
import Derived.Deep.AppendLies
import Derived.Deep.RegionWith
namespace Go.Proofs.YtkbfbifepaoojaaGreatDoor
set_option maxRecDepth 4096
open Go.ChangeShapes Go.WideShapes Go.ChangeAt Go.RowKit

/-- The four places beside column x and row y: above, left, right, below. -/
noncomputable def nbrs (W H : Int) (C : ByteArray) (x y : Int) : List Int := [cellAtV W H C x (y - 1), cellAtV W H C (x - 1) y, cellAtV W H C (x + 1) y, cellAtV W H C x (y + 1)]
/-- The free cells beside the cell c. -/
noncomputable def aroundL (W H : Int) (C : ByteArray) (c : Int) : List Int := if freeV W H C c = true then (nbrs W H C (c.tmod W) (c.tdiv W)).filter (freeV W H C) else []

/-- What the region holds: the argument's box, the call's own list, nothing below turned. -/
theorem held_alloc {w wc : World} {W H : Int} {C : ByteArray} {t e : TypeId} {v : Value} {o : Obj} (h : Below (w.alloc (.cells #[.int .i64 W, .int .i64 H, .string C] t)).heap.size (w.alloc (.cells #[.int .i64 W, .int .i64 H, .string C] t)) wc)
    (ho : wc.ownsRow (w.heap.size + 1) e 1 v 0 []) :
    (wc.alloc o).cell? ⟨w.heap.size, 0, none⟩ = some (.int .i64 W) ∧ (wc.alloc o).cell? ⟨w.heap.size, 1, none⟩ = some (.int .i64 H) ∧ (wc.alloc o).cell? ⟨w.heap.size, 2, none⟩ = some (.string C) ∧
      Below (w.alloc (.cells #[.int .i64 W, .int .i64 H, .string C] t)).heap.size (w.alloc (.cells #[.int .i64 W, .int .i64 H, .string C] t)) (wc.alloc o) ∧ (wc.alloc o).ownsRow (w.heap.size + 1) e 1 v 0 [] := by
  have h2 := h.alloc h.size o
  obtain ⟨c0, c1, c2⟩ := box_cells h2
  exact ⟨c0, c1, c2, h2, ho.alloc o⟩

theorem held_call {w wc w3 : World} {W H : Int} {C : ByteArray} {t e : TypeId} {v : Value} (h : Below (w.alloc (.cells #[.int .i64 W, .int .i64 H, .string C] t)).heap.size (w.alloc (.cells #[.int .i64 W, .int .i64 H, .string C] t)) wc)
    (ho : wc.ownsRow (w.heap.size + 1) e 1 v 0 []) (hb : Below wc.heap.size wc w3) :
    w3.cell? ⟨w.heap.size, 0, none⟩ = some (.int .i64 W) ∧ w3.cell? ⟨w.heap.size, 1, none⟩ = some (.int .i64 H) ∧ w3.cell? ⟨w.heap.size, 2, none⟩ = some (.string C) ∧
      Below (w.alloc (.cells #[.int .i64 W, .int .i64 H, .string C] t)).heap.size (w.alloc (.cells #[.int .i64 W, .int .i64 H, .string C] t)) w3 ∧ w3.ownsRow (w.heap.size + 1) e 1 v 0 [] := by
  have h2 := chain h hb
  obtain ⟨c0, c1, c2⟩ := box_cells h2
  exact ⟨c0, c1, c2, h2, own_below ho hb (box_size h)⟩

theorem specCellTo (W H : Int) (C : ByteArray) (x y z : Int) (hC : C.size ≤ 1048576) (HZ : Hid (cellAtV W H C x y = z)) (w : World) :
    Calls Tryz.prog 133 #[.agg #[.int .i64 W, .int .i64 H, .string C], .int .i64 x, .int .i64 y] w (Made w (.int .i64 z)) := by
  rw [← HZ.out]
  exact specCellAt W H C x y hC w

theorem specAround_no (W H : Int) (C : ByteArray) (c : Int) (hC : C.size ≤ 1048576) (h : freeV W H C c = false) (w : World) :
    Calls Tryz.prog 101 #[.agg #[.int .i64 W, .int .i64 H, .string C], .int .i64 c] w (IntsBack w []) := by
  have hB := Below.refl (w.alloc (.cells #[.int .i64 W, .int .i64 H, .string C] 25)).heap.size (w.alloc (.cells #[.int .i64 W, .int .i64 H, .string C] 25))
  have hown := made_box w (.cells #[.int .i64 W, .int .i64 H, .string C] 25) 3
  have hB1 := hB.alloc (Nat.le_refl _) (.cells #[] 3)
  go_enter Tryz.func101, Tryz.ntmps101
  go_wp2_with (go_at_call 131; (with_reducible refine (specFreeAt W H C c hC _).mono ?_); rintro e w1 ⟨rfl, hb⟩; have hown1 := own_below hown hb (by simp); replace hB1 := hB1.trans (hb.mono (by simp)))
  go_ret
  exact ⟨_, rfl, own_base hown1 (by omega), box_below hB1⟩

theorem specFreeTo (W H : Int) (C : ByteArray) (c : Int) (f : Bool) (hC : C.size ≤ 1048576) (HF : Hid (freeV W H C c = f)) (w : World) :
    Calls Tryz.prog 131 #[.agg #[.int .i64 W, .int .i64 H, .string C], .int .i64 c] w (Made w (.bool f)) := by
  rw [← HF.out]
  exact specFreeAt W H C c hC w
/-- The free ones among the first k. -/
noncomputable def frees (a b : Nat) (C : ByteArray) (L : List Int) (k : Nat) : List Int := (L.take k).filter (freeV a b C)
theorem frees_len (a b : Nat) (C : ByteArray) (L : List Int) (k : Nat) : (frees a b C L k).length ≤ k :=
  Nat.le_trans (List.length_filter_le _ _) (by rw [List.length_take]; exact Nat.min_le_left _ _)
theorem frees_yes {a b : Nat} {C : ByteArray} {L : List Int} {k : Nat} {x : Int} (h : L[k]? = some x) (hf : freeV a b C x = true) : frees a b C L (k + 1) = frees a b C L k ++ [x] := by
  obtain ⟨hk, rfl⟩ := List.getElem?_eq_some_iff.1 h
  unfold frees
  rw [List.take_succ_eq_append_getElem hk, List.filter_append, List.filter_cons_of_pos hf]
  rfl
theorem frees_no {a b : Nat} {C : ByteArray} {L : List Int} {k : Nat} {x : Int} (h : L[k]? = some x) (hf : freeV a b C x = false) : frees a b C L (k + 1) = frees a b C L k := by
  obtain ⟨hk, rfl⟩ := List.getElem?_eq_some_iff.1 h
  unfold frees
  rw [List.take_succ_eq_append_getElem hk, List.filter_append, List.filter_cons_of_neg (by rw [hf]; decide)]
  simp
theorem four_at {x0 x1 x2 x3 x : Int} {k : Nat} (h : ([x0, x1, x2, x3] : List Int)[k]? = some x) : (#[Value.int .i64 x0, .int .i64 x1, .int .i64 x2, .int .i64 x3] : Array Value)[k]? = some (.int .i64 x) := by
  match k, h with
  | 0, h => exact congrArg some (congrArg (Value.int .i64) (Option.some.inj h))
  | 1, h => exact congrArg some (congrArg (Value.int .i64) (Option.some.inj h))
  | 2, h => exact congrArg some (congrArg (Value.int .i64) (Option.some.inj h))
  | 3, h => exact congrArg some (congrArg (Value.int .i64) (Option.some.inj h))
/-- A call behind the draw of a region. -/
theorem step_call {w wr w5 : World} {W H : Int} {C : ByteArray} {t e : TypeId} {v : Value} {n g : Nat} {xs : List Value} {o : Obj} (hB : Below (w.alloc (.cells #[.int .i64 W, .int .i64 H, .string C] t)).heap.size (w.alloc (.cells #[.int .i64 W, .int .i64 H, .string C] t)) wr)
    (ho : wr.ownsRow (w.heap.size + 1) e 1 v n xs) (hg : wr.heap[g]? = some o) (hb : Below wr.drew.heap.size wr.drew w5) :
    Below (w.alloc (.cells #[.int .i64 W, .int .i64 H, .string C] t)).heap.size (w.alloc (.cells #[.int .i64 W, .int .i64 H, .string C] t)) w5 ∧ w5.ownsRow (w.heap.size + 1) e 1 v n xs ∧ w5.heap[g]? = some o :=
  ⟨chain hB.drew hb, own_below (w := wr.drew) ho hb (box_size hB.drew), (hb.block g (Array.getElem?_eq_some_iff.1 hg).1).trans hg⟩

/-- An append behind a new cell. -/
theorem step_app {w w5 w6 : World} {W H : Int} {C : ByteArray} {t e : TypeId} {v : Value} {n g g' cap : Nat} {xs : List Value} {o o1 : Obj} {l : Nat} (hB : Below (w.alloc (.cells #[.int .i64 W, .int .i64 H, .string C] t)).heap.size (w.alloc (.cells #[.int .i64 W, .int .i64 H, .string C] t)) w5)
    (ho : w5.ownsRow (w.heap.size + 1) e 1 v n xs) (hne : v.ownBlock ≠ some g) (hg : w5.heap[g]? = some o) (hgr : (w5.alloc o1).grownBy w6 v.ownBlock) (hat : v.ownBlock = some g' ∨ g' = (w5.alloc o1).heap.size) :
    (Value.slice (some ⟨g', 0, none⟩) l cap).ownBlock ≠ some g ∧ w6.heap[g]? = some o ∧ Below (w.alloc (.cells #[.int .i64 W, .int .i64 H, .string C] t)).heap.size (w.alloc (.cells #[.int .i64 W, .int .i64 H, .string C] t)) w6 := by
  have hgl := (Array.getElem?_eq_some_iff.1 hg).1
  have hs := box_size hB
  refine ⟨?_, ?_, (hB.alloc hB.size o1).grown hgr (by simp; omega) (fun j hj => by simpa using (ho.lt j hj).1)⟩
  · intro e
    have e2 : g' = g := Option.some.inj e
    subst e2
    rcases hat with h | h
    · exact hne h
    · simp at h; omega
  · rw [hgr.block g (by simp; omega) (fun e => hne e.symm), heap_alloc_old _ _ hgl]
    exact hg

/-- The world behind the four neighbours: the box, the call's own list, the four in a block g. -/
def NbrW (w : World) (a b : Nat) (C : ByteArray) (x0 x1 x2 x3 : Int) (t : Value) (wx : World) : Prop :=
  ∃ g, t = .slice (some ⟨g, 0, none⟩) 4 4 ∧ w.heap.size + 1 < g ∧ wx.heap[g]? = some (.cells #[.int .i64 x0, .int .i64 x1, .int .i64 x2, .int .i64 x3] 3 (0, 0)) ∧
    Below (w.alloc (.cells #[.int .i64 a, .int .i64 b, .string C] 25)).heap.size (w.alloc (.cells #[.int .i64 a, .int .i64 b, .string C] 25)) wx ∧
    wx.ownsRow (w.heap.size + 1) 3 1 (.slice (some ⟨w.heap.size + 1, 0, none⟩) 0 0) 0 []
theorem nbrW_of {w w3 : World} {a b : Nat} {C : ByteArray} {x0 x1 x2 x3 : Int} (h : Below (w.alloc (.cells #[.int .i64 a, .int .i64 b, .string C] 25)).heap.size (w.alloc (.cells #[.int .i64 a, .int .i64 b, .string C] 25)) w3)
    (ho : w3.ownsRow (w.heap.size + 1) 3 1 (.slice (some ⟨w.heap.size + 1, 0, none⟩) 0 0) 0 []) :
    NbrW w a b C x0 x1 x2 x3 (.slice (some ⟨w3.heap.size, 0, none⟩) 4 4) (w3.alloc (.cells #[.int .i64 x0, .int .i64 x1, .int .i64 x2, .int .i64 x3] 3)) :=
  ⟨w3.heap.size, rfl, (ho.lt _ rfl).2, heap_alloc_new w3 _, h.alloc h.size _, ho.alloc _⟩

set_option maxHeartbeats 2000000 in
theorem specAround_yes (a b : Nat) (C : ByteArray) (n q m : Nat) (N : List Int) (hC : C.size ≤ 1048576) (hg : gok a b C = true) (hn : n < C.size) (ha : 1 ≤ a) (ha8 : a ≤ 8) (hm : m < a) (hd : (n : Int).tdiv (a : Int) = (q : Int)) (he : (n : Int).tmod (a : Int) = (m : Int)) (hq : q < 8)
    (hf : freeV a b C n = true) (x0 x1 x2 x3 : Int) (X0 : Hid (cellAtV a b C m (q - 1) = x0)) (X1 : Hid (cellAtV a b C (m - 1) q = x1)) (X2 : Hid (cellAtV a b C (m + 1) q = x2)) (X3 : Hid (cellAtV a b C m (q + 1) = x3))
    (HN : Hid ([x0, x1, x2, x3].filter (freeV a b C) = N)) (w : World) :
    Calls Tryz.prog 101 #[.agg #[.int .i64 a, .int .i64 b, .string C], .int .i64 n] w (IntsBack w N) := by
  obtain ⟨i0, hi, hz0, hz1, hz2⟩ := info_parts Tryz.info3
  have hB := Below.refl (w.alloc (.cells #[.int .i64 a, .int .i64 b, .string C] 25)).heap.size (w.alloc (.cells #[.int .i64 a, .int .i64 b, .string C] 25))
  have hown := made_box w (.cells #[.int .i64 a, .int .i64 b, .string C] 25) 3
  replace hB := hB.alloc (Nat.le_refl _) (.cells #[] 3)
  have HD := Lib.hid hd
  have HE := Lib.hid he
  clear hd he
  have c00 := box_cells hB
  obtain ⟨c0, c1, c2⟩ := c00
  go_enter Tryz.func101, Tryz.ntmps101
  go_upto_region 5 with (first
    | (go_at_call 131; (with_reducible refine (specFreeAt a b C n hC _).mono ?_); rintro e w1 ⟨rfl, hb⟩; replace hown := own_below hown hb (box_size hB); replace hB := chain hB hb; obtain ⟨c0, c1, c2⟩ := box_cells hB; clear hb)
    | (go_at_call 132; (with_reducible refine (specSpot_yes a b C n q m hC hg hn ha hm HD.out HE.out hq _).mono ?_); rintro e w2 ⟨rfl, hb⟩; replace hown := own_below hown hb (box_size hB); replace hB := chain hB hb; obtain ⟨c0, c1, c2⟩ := box_cells hB; clear hb))
  go_cut [8] from 22 to 42 (fun t wx => NbrW w a b C x0 x1 x2 x3 t wx)
  case first =>
    have hBd := hB.drew
    have hownd : w2.drew.ownsRow (w.heap.size + 1) 3 1 (.slice (some ⟨w.heap.size + 1, 0, none⟩) 0 0) 0 [] := hown
    have e1 : IntKind.i64.wrap ((q : Int) - 1) = (q : Int) - 1 := IntWalk.i64_in _ (by omega)
    have e2 : IntKind.i64.wrap ((m : Int) - 1) = (m : Int) - 1 := IntWalk.i64_in _ (by omega)
    have e3 : IntKind.i64.wrap ((m : Int) + 1) = (m : Int) + 1 := IntWalk.i64_in _ (by omega)
    have e4 : IntKind.i64.wrap ((q : Int) + 1) = (q : Int) + 1 := IntWalk.i64_in _ (by omega)
    go_region_held3 (fun w' => w'.cell? ⟨w.heap.size, 0, none⟩ = some (.int .i64 a) ∧ w'.cell? ⟨w.heap.size, 1, none⟩ = some (.int .i64 b) ∧ w'.cell? ⟨w.heap.size, 2, none⟩ = some (.string C) ∧
        Below (w.alloc (.cells #[.int .i64 a, .int .i64 b, .string C] 25)).heap.size (w.alloc (.cells #[.int .i64 a, .int .i64 b, .string C] 25)) w' ∧ w'.ownsRow (w.heap.size + 1) 3 1 (.slice (some ⟨w.heap.size + 1, 0, none⟩) 0 0) 0 [])
      (first | exact hS | exact ⟨c0, c1, c2, hBd, hownd⟩ | (go_split_ands; exact held_alloc (by assumption) (by assumption)) | go_keep)
      (first
        | (go_at_call 133; (with_reducible refine (specCellTo (a : Int) (b : Int) C (m : Int) ((q : Int) - 1) x0 hC X0 _).mono ?_); rintro e w3 ⟨rfl, hb⟩; (try go_split_ands); have hS := held_call (by assumption) (by assumption) hb; clear hb)
        | (go_at_call 133; (with_reducible refine (specCellTo (a : Int) (b : Int) C ((m : Int) - 1) (q : Int) x1 hC X1 _).mono ?_); rintro e w3 ⟨rfl, hb⟩; (try go_split_ands); have hS := held_call (by assumption) (by assumption) hb; clear hb)
        | (go_at_call 133; (with_reducible refine (specCellTo (a : Int) (b : Int) C ((m : Int) + 1) (q : Int) x2 hC X2 _).mono ?_); rintro e w3 ⟨rfl, hb⟩; (try go_split_ands); have hS := held_call (by assumption) (by assumption) hb; clear hb)
        | (go_at_call 133; (with_reducible refine (specCellTo (a : Int) (b : Int) C (m : Int) ((q : Int) + 1) x3 hC X3 _).mono ?_); rintro e w3 ⟨rfl, hb⟩; (try go_split_ands); have hS := held_call (by assumption) (by assumption) hb; clear hb))
    go_wp2_with fail
    go_meet
    exact nbrW_of hS.2.2.2.1 hS.2.2.2.2
  case rest =>
    clear hown hB c0 c1 c2
    obtain ⟨g, rfl, hg1, hgb, hB, hown⟩ := hcut
    have hne : (Value.slice (some ⟨w.heap.size + 1, 0, none⟩) 0 0).ownBlock ≠ some g := by
      intro e
      have : w.heap.size + 1 = g := Option.some.inj e
      omega
    go_wp2_with fail
    go_loopw [5, 9] (fun v i wr => ∃ k : Nat, k ≤ 4 ∧ i = .int .i64 k ∧ v.ownBlock ≠ some g ∧ wr.heap[g]? = some (.cells #[.int .i64 x0, .int .i64 x1, .int .i64 x2, .int .i64 x3] 3 (0, 0)) ∧
      Below (w.alloc (.cells #[.int .i64 a, .int .i64 b, .string C] 25)).heap.size (w.alloc (.cells #[.int .i64 a, .int .i64 b, .string C] 25)) wr ∧
      wr.ownsRow (w.heap.size + 1) 3 1 v (frees a b C [x0, x1, x2, x3] k).length ((frees a b C [x0, x1, x2, x3] k).map (Value.int .i64))) (fun _ i _ => 4 - (intOf i).toNat)
    case atStart => exact ⟨0, Nat.zero_le _, rfl, hne, hgb, hB, hown⟩
    case round =>
      clear hne hgb hB hown
      obtain ⟨k, hk, rfl, hne, hgb, hB, hown⟩ := hrel
      have hgl := (Array.getElem?_eq_some_iff.1 hgb).1
      by_cases hlt : k < 4
      · obtain ⟨x, hx⟩ : ∃ x, ([x0, x1, x2, x3] : List Int)[k]? = some x := ⟨_, List.getElem?_eq_getElem (by simpa using hlt)⟩
        have d0 : wr.cell? ⟨g, k, none⟩ = some (.int .i64 x) := (cell_of_row _ _ k _ _ _ hgb).trans (four_at hx)
        obtain ⟨c0, c1, c2⟩ := box_cells hB
        have hlt2 : (k : Int) < 4 := by omega
        have hfl := frees_len a b C [x0, x1, x2, x3] k
        cases hfr : freeV a b C x with
        | true =>
          have HF := Lib.hid hfr
          have HP : Hid (frees a b C [x0, x1, x2, x3] (k + 1) = frees a b C [x0, x1, x2, x3] k ++ [x]) := Lib.hid (frees_yes hx hfr)
          clear hfr hx
          go_wp2_with fail
          go_region_with (go_at_call 131; (with_reducible refine (specFreeTo a b C x true hC HF _).mono ?_); rintro e w5 ⟨rfl, hb⟩; have hS5 := step_call hB hown hgb hb)
          all_goals
            obtain ⟨hB5, hown5, hgb5⟩ := hS5
            have d5 : w5.cell? ⟨g, k, none⟩ = some (.int .i64 x) := (hb.cell (p := ⟨g, k, none⟩) hgl).trans d0
            have hs5 := box_size hB5
            have hgl5 := (Array.getElem?_eq_some_iff.1 hgb5).1
            clear d0 hB hown hgb hb c0 c1 c2
            go_wp2_with (at_builtin; (refine wpList_append_lies _ rfl _ _ 26 rfl (w.heap.size + 1) 3 i0 (.int .i64 0) 1 8 Tryz.underlying26 hi hz0 hz1 hz2 rfl (by decide) _ _ _ rfl (hown5.alloc _) ⟨w5.heap.size, 0, none⟩ 1 1 ([x].map (Value.int .i64)) rfl rfl (int_new _ _ _) (ints_one _) (by decide) (by unfold maxLen; omega) (by omega) (by simp; omega) _ rfl ?_); intro g' cap w6 hown6 hgrow hat hlt6; have hS6 := step_app (cap := cap) (l := (frees a b C [x0, x1, x2, x3] k).length + 1) hB5 hown5 hne hgb5 hgrow hat)
            go_roundw
            case rel => exact ⟨k + 1, by omega, by go_num, hS6.1, hS6.2.1, hS6.2.2, ints_push hown6 HP.out⟩
            case measure => simp [intOf]; omega
        | false =>
          have HF := Lib.hid hfr
          have HP : Hid (frees a b C [x0, x1, x2, x3] (k + 1) = frees a b C [x0, x1, x2, x3] k) := Lib.hid (frees_no hx hfr)
          clear hfr hx
          go_wp2_with fail
          go_region_with (go_at_call 131; (with_reducible refine (specFreeTo a b C x false hC HF _).mono ?_); rintro e w5 ⟨rfl, hb⟩; have hS5 := step_call hB hown hgb hb)
          all_goals
            obtain ⟨hB5, hown5, hgb5⟩ := hS5
            clear d0 hB hown hgb hb c0 c1 c2
            go_wp2_with fail
            go_roundw
            case rel => exact ⟨k + 1, by omega, by go_num, hne, hgb5, hB5, by rw [HP.out]; exact hown5⟩
            case measure => simp [intOf]; omega
      · obtain rfl : k = 4 := by omega
        have HE : Hid (frees a b C [x0, x1, x2, x3] 4 = N) := Lib.hid (by rw [← HN.out]; rfl)
        go_wp2_with fail
        go_ret
        exact ⟨_, rfl, by rw [← HE.out]; exact own_base hown (by omega), box_below hB⟩

theorem specAround (W H : Int) (C : ByteArray) (c : Int) (L : List Int) (hC : C.size ≤ 1048576) (HL : Hid (aroundL W H C c = L)) (w : World) :
    Calls Tryz.prog 101 #[.agg #[.int .i64 W, .int .i64 H, .string C], .int .i64 c] w (IntsBack w L) := by
  by_cases hf : freeV W H C c = true
  · have hk : cellOk W H C c = true := by
      have h := hf
      unfold freeV at h
      simp only [Bool.and_eq_true] at h
      exact h.1
    obtain ⟨hg, n, rfl, hn⟩ := cellOk_out hk
    obtain ⟨a, b, q, m, rfl, rfl, ha1, ha8, hb8, hq, hm, hd, he, _⟩ := spot_of hg hn
    have hl : ([cellAtV a b C m (q - 1), cellAtV a b C (m - 1) q, cellAtV a b C (m + 1) q, cellAtV a b C m (q + 1)] : List Int).filter (freeV a b C) = L := by
      rw [← HL.out]
      unfold aroundL nbrs
      rw [if_pos hf, hd, he]
    exact specAround_yes a b C n q m L hC hg hn ha1 ha8 hm hd he (by omega) hf _ _ _ _ (Lib.hid rfl) (Lib.hid rfl) (Lib.hid rfl) (Lib.hid rfl) hl w
  · have hl : L = [] := by rw [← HL.out]; unfold aroundL; rw [if_neg hf]
    subst hl
    exact specAround_no W H C c hC (by simpa using hf) w
theorem aroundL_len (W H : Int) (C : ByteArray) (c : Int) : (aroundL W H C c).length ≤ 4 := by
  unfold aroundL
  split
  · exact Nat.le_trans (List.length_filter_le _ _) (Nat.le_refl 4)
  · exact Nat.zero_le _

end Go.Proofs.YtkbfbifepaoojaaGreatDoor

namespace Go.Proofs.YtkbfbifepaoojaaGreatDoor
set_option maxRecDepth 4096
open Go.ChangeShapes Go.WideShapes Go.ChangeAt Go.RowKit

/-- The cells that are free. -/
noncomputable def freeP (W H : Int) (C : ByteArray) (n : Nat) : Bool := freeV W H C n
noncomputable def freeL (W H : Int) (C : ByteArray) : List Int := picks (freeP W H C) (min C.size 64)

set_option maxHeartbeats 1000000 in
theorem specFreeCells (W H : Int) (C : ByteArray) (L : List Int) (hC : C.size ≤ 1048576) (HL : Hid (freeL W H C = L)) (w : World) :
    Calls Tryz.prog 129 #[.agg #[.int .i64 W, .int .i64 H, .string C]] w (IntsBack w L) := by
  obtain ⟨i0, hi, hz0, hz1, hz2⟩ := info_parts Tryz.info3
  have hB := Below.refl (w.alloc (.cells #[.int .i64 W, .int .i64 H, .string C] 25)).heap.size (w.alloc (.cells #[.int .i64 W, .int .i64 H, .string C] 25))
  go_enter Tryz.func129, Tryz.ntmps129
  go_wp2
  go_loopw [3, 4] (fun v i wr => ∃ k : Nat, k ≤ C.size ∧ k ≤ 64 ∧ i = .int .i64 k ∧ wr.ownsRow (w.heap.size + 1) 3 1 v (picks (freeP W H C) k).length ((picks (freeP W H C) k).map (Value.int .i64)) ∧
    Below (w.alloc (.cells #[.int .i64 W, .int .i64 H, .string C] 25)).heap.size (w.alloc (.cells #[.int .i64 W, .int .i64 H, .string C] 25)) wr) (fun _ i _ => C.size - (intOf i).toNat)
  case atStart =>
    exact ⟨0, Nat.zero_le _, Nat.zero_le _, rfl, made_box _ _ _, hB.alloc (Nat.le_refl _) _⟩
  case round =>
    clear hB
    obtain ⟨k, hk, hk2, rfl, hown, hB⟩ := hrel
    obtain ⟨c0, c1, c2⟩ := box_cells hB
    by_cases hlt : k < C.size ∧ k < 64
    · obtain ⟨hlt1, hlt2⟩ := hlt
      have hl := picks_len (freeP W H C) k
      by_cases hf : freeV W H C k = true
      · have HP : Hid (picks (freeP W H C) (k + 1) = picks (freeP W H C) k ++ [(k : Int)]) := Lib.hid (picks_yes hf)
        go_wp2_with (first
          | (go_at_call 131; (with_reducible refine (specFreeAt W H C k hC _).mono ?_); rintro e w1 ⟨rfl, hb⟩; have hown1 := own_below hown hb (box_size hB); replace hB := chain hB hb; have hs1 := box_size hB; clear hb)
          | (at_builtin; refine wpList_append_own _ rfl _ _ 26 rfl (w.heap.size + 1) 3 i0 (.int .i64 0) 1 8 Tryz.underlying26 hi hz0 hz1 hz2 rfl (by decide) _ _ _ rfl (hown1.alloc _) ⟨w1.heap.size, 0, none⟩ 1 1 ([(k : Int)].map (Value.int .i64)) rfl rfl (int_new _ _ _) (ints_one _) (by unfold maxLen; omega) (by omega) (by simp; omega) ?_; intro v' w2 hown2 hgrow _; have hB2 := (hB.alloc hB.size _).grown hgrow (by simp; omega) (fun j hj => by simpa using (hown1.lt j hj).1); clear hgrow))
        go_roundw
        case rel => exact ⟨k + 1, by omega, by omega, by go_num, ints_push hown2 HP.out, hB2⟩
        case measure => simp [intOf]; omega
      · have hf2 : freeV W H C k = false := by simpa using hf
        have HP : Hid (picks (freeP W H C) (k + 1) = picks (freeP W H C) k) := Lib.hid (picks_no hf2)
        go_wp2_with (go_at_call 131; (with_reducible refine (specFreeAt W H C k hC _).mono ?_); rintro e w1 ⟨rfl, hb⟩; have hown1 := own_below hown hb (box_size hB); replace hB := chain hB hb; have hs1 := box_size hB; clear hb)
        go_roundw
        case rel => exact ⟨k + 1, by omega, by omega, by go_num, by rw [HP.out]; exact hown1, hB⟩
        case measure => simp [intOf]; omega
    · have HE : Hid (picks (freeP W H C) k = L) := Lib.hid (by rw [← HL.out]; unfold freeL; congr 1; omega)
      by_cases h1 : k < C.size
      · obtain rfl : k = 64 := by omega
        go_wp2
        go_ret
        exact ⟨_, rfl, by rw [← HE.out]; exact own_base hown (by omega), box_below hB⟩
      · obtain rfl : k = C.size := by omega
        go_wp2
        go_ret
        exact ⟨_, rfl, by rw [← HE.out]; exact own_base hown (by omega), box_below hB⟩

end Go.Proofs.YtkbfbifepaoojaaGreatDoor

namespace Go.Proofs.YtkbfbifepaoojaaGreatDoor
set_option maxRecDepth 4096

def rgB (x lo hi : Int) : Bool := decide (lo ≤ x) && decide (x ≤ hi)
theorem rgB_iff {x lo hi : Int} : rgB x lo hi = true ↔ lo ≤ x ∧ x ≤ hi := by unfold rgB; simp
section
variable {W H : Int} {C : ByteArray} {L : List Int}
/-- The first k are free and in ascending order. -/
def ascTo (W H : Int) (C : ByteArray) (L : List Int) (k : Nat) : Prop := ∀ (i : Nat) (x : Int), i < k → L[i]? = some x → freeV W H C x = true ∧ ∀ y, 0 < i → L[i - 1]? = some y → y < x
noncomputable def ascV (W H : Int) (C : ByteArray) (L : List Int) : Bool := @decide (ascTo W H C L L.length) (Classical.propDecidable _)
theorem asc_yes (h : ascTo W H C L L.length) : ascV W H C L = true := by unfold ascV; exact (@decide_eq_true_iff _ (Classical.propDecidable _)).2 h
theorem asc_iff : ascV W H C L = true ↔ ascTo W H C L L.length := by unfold ascV; exact @decide_eq_true_iff _ (Classical.propDecidable _)
theorem asc_no (h : ¬ ascTo W H C L L.length) : ascV W H C L = false := by
  cases e : ascV W H C L with
  | false => rfl
  | true => exact absurd (asc_iff.1 e) h
theorem asc_zero : ascTo W H C L 0 := fun i x h => by omega
theorem asc_bad {k : Nat} {x : Int} (hx : L[k]? = some x) (h : freeV W H C x = false ∨ ∃ y, 0 < k ∧ L[k - 1]? = some y ∧ x ≤ y) : ascV W H C L = false := by
  refine asc_no fun ha => ?_
  obtain ⟨h1, h2⟩ := ha k x (List.getElem?_eq_some_iff.1 hx).1 hx
  rcases h with h | ⟨y, h0, hy, hle⟩
  · rw [h1] at h
    cases h
  · have := h2 y h0 hy
    omega
theorem asc_more {k : Nat} {x : Int} (h : ascTo W H C L k) (hx : L[k]? = some x) (h1 : freeV W H C x = true) (h2 : ∀ y, 0 < k → L[k - 1]? = some y → y < x) : ascTo W H C L (k + 1) := fun i z hi hz => by
  by_cases e : i = k
  · subst e
    rw [hx] at hz
    cases hz
    exact ⟨h1, h2⟩
  · exact h i z (by omega) hz
/-- May it be asked? -/
noncomputable def askV (W H : Int) (C : ByteArray) (S G : List Int) (T : Int) : Bool :=
  gok W H C && (rgB S.length 1 10 && (decide (G.length ≤ S.length) && (rgB T 0 20 && (ascV W H C S && (ascV W H C G && decide (((freeL W H C).length : Int) * (T + 1) ≤ 240))))))
noncomputable def inNodeV (W H : Int) (C : ByteArray) (c t : Int) : Int := if freeV W H C c = true ∧ rgB t 0 20 = true then 3 + 2 * (t * ((freeL W H C).length : Int) + (((freeL W H C).idxOf c : Nat) : Int)) else -1
end

end Go.Proofs.YtkbfbifepaoojaaGreatDoor

