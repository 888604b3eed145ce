/-
  CONTRACTS of slices.Collect at the iterator of the neighbours, and of the program's Around. No law is proved here.
-/
import Derived.Test.YtncdoagjpclecaaDoorNbr
namespace Go.Proofs.YtncdoagjpclecaaDoor
open Go.ChangeShapes Go.WideShapes Go.ChangeAt Go.RowKit Go.Shelf

attribute [local go_sem] Oper.semAt_some

/-- What a step of 'out = append(out, v)' keeps of the arrays of rows. -/
theorem rows_kept {W w1 : World} {n₀ B k : Nat} {v u : Value} {xs : List Value} {o : Obj} (hv : Boxed W B 25 v) (hrow : W.ownsRow n₀ 3 1 v k xs) (hg : (W.alloc o).grownBy w1 v.ownBlock) :
    ∀ (i : Nat) (cs : Array Value), W.heap[i]? = some (.cells cs 52 (0, 0)) → (w1.setCell ⟨B, 0, none⟩ u).heap[i]? = some (.cells cs 52 (0, 0)) := by
  intro i cs hi
  have hlt := (Array.getElem?_eq_some_iff.1 hi).1
  have hB : i ≠ B := by
    intro e
    subst e
    have := hi.symm.trans hv
    simp at this
  have hr : some i ≠ v.ownBlock := by
    rcases hrow.2 with ⟨rfl, _⟩ | ⟨g, cap, cur, rfl, _, hgb, _⟩
    · simp [Value.ownBlock]
    · intro e
      obtain rfl : i = g := by simpa [Value.ownBlock] using e
      have := hi.symm.trans hgb
      simp at this
  rw [heap_setCell_other _ _ _ _ hB, hg.block i (by simp; omega) hr, heap_alloc_old _ _ _ hlt]
  exact hi

set_option maxRecDepth 100000 in
set_option maxHeartbeats 2000000 in
theorem appendSeq (G K F : Nat) (L : List Int) (hF : 3 ≤ F) (hL : L.length ≤ 4) (w : World) (hG : G < w.heap.size) (hK : K < w.heap.size)
    (hseq : SeqStopsK Fence.wide (F - 1) Tryd.prog 28 #[.pointer (some ⟨G, 0, none⟩), .pointer (some ⟨K, 0, none⟩)] (fun x : Int => #[Value.int .i64 x]) (NbrK G K) (fun ys => ys = L) (fun pre => pre <+: L) 4 w) :
    CallsIn Fence.wide F Tryd.prog 27 #[.slice none 0 0, .func (.func 28) #[] #[.pointer (some ⟨G, 0, none⟩), .pointer (some ⟨K, 0, none⟩)]] w fun e W' =>
      ∃ v, e = .returned v ∧ W'.ownsRow w.heap.size 3 1 v L.length (L.map (Value.int .i64)) ∧ Below w.heap.size w W' := by
  have h1 : 1 ≤ F := by omega
  obtain ⟨i0, hi, hz0, hz1, hz2⟩ := info_parts Tryd.info3
  refine callsIn_of_wp_marks Tryd.func27 rfl trivial ?_ rfl
  simp only [Tryd.ntmps27, List.size_toArray, List.length_cons, List.length_nil, Nat.reduceAdd, Nat.reduceSub, Array.replicate_succ, Array.replicate_zero, List.push_toArray, List.append_toArray, List.nil_append, List.cons_append]
  gi_wp2
  have bO := Boxed.new w 25 (.slice none 0 0)
  have hB0 : Below w.heap.size w (w.alloc (.cells #[.slice none 0 0] 25)) := (Below.refl _ w).alloc (Nat.le_refl _) _
  refine wpIn_rangeFunc_ownG rfl h1 (gf := 28) (lb := #[.pointer (some ⟨G, 0, none⟩), .pointer (some ⟨K, 0, none⟩)]) rfl trivial (enters_of Tryd.func28 (by kernel_rfl) rfl)
    hseq nbrK_t (nbrK_b (by simp; omega) (by simp; omega)) hB0 (fun _ => rfl)
    (fun pre W => (∃ v, Boxed W w.heap.size 25 v ∧ W.ownsRow w.heap.size 3 1 v pre.length (pre.map (Value.int .i64)) ∧ True) ∧ Below w.heap.size w W)
    (fun _ _ _ => False)
    (OwnFrom.and (Own.from (holdsRow_own w.heap.size w.heap.size 25 3 1 (fun (pre : List Int) => pre.length) (fun (pre : List Int) => pre.map (Value.int .i64)) (fun _ _ => True)) _) (ownFrom_below (Nat.le_refl _) (by simp)))
    (fun _ _ _ _ _ hs _ _ => hs)
    ⟨⟨_, bO, World.ownsRow_nil _ _ _ _, trivial⟩, hB0⟩
    (fun x => { tmps := #[.slice none 0 0, .func (.func 28) #[] #[.pointer (some ⟨G, 0, none⟩), .pointer (some ⟨K, 0, none⟩)], .pointer (some ⟨w.heap.size, 0, none⟩), undef, .slice none 0 0, .int .i64 x, .func (.func 28) #[] #[.pointer (some ⟨G, 0, none⟩), .pointer (some ⟨K, 0, none⟩)], .int .i64 x, undef, undef, undef, undef, undef], defers := [] }) ?assign ?body ?done ?stop
  case assign =>
    intro l x W K hK
    gi_wp2
    exact hK
  case body =>
    rintro l pre x W ⟨⟨v, hv, hrow, _⟩, hB⟩ hlt
    have hc := hv.cell
    have hGW : G < W.heap.size := Nat.lt_of_lt_of_le hG hB.size
    have hKW : K < W.heap.size := Nat.lt_of_lt_of_le hK hB.size
    gi_wp2_with (gi_at_builtin; refine wpListIn_append_own _ rfl _ _ 25 rfl w.heap.size 3 i0 (.int .i64 0) 1 8 Tryd.underlying25 hi hz0 hz1 hz2 rfl (by decide) _ _ _ rfl (hrow.alloc _) ⟨W.heap.size, 0, none⟩ 1 1 ([x].map (Value.int .i64)) rfl rfl (int_new _ _ _) (ints_one _) (by unfold maxLen; omega) (by omega) (by have := hB.size; simp; omega) ?_; intro v' w1 hown' hgrow _; obtain ⟨g', cap', rfl⟩ := ownsRow_succ hown'; obtain ⟨hv1, hv2, hr2, hk2, hb2⟩ := hv.appended (by decide) hrow hB.size (Nat.le_refl _) hown' hgrow; have hrk := rows_kept (u := .slice (some ⟨g', 0, none⟩) (pre.length + 1) cap') hv hrow hgrow; have hc1 := hv1.cell; have hf1 := hv1.frozen)
    exact ⟨hk2.from _, ⟨⟨hb2.size, hb2.block G (by omega), hb2.block K (by omega)⟩, hrk⟩, ⟨_, hv2, by simpa using hr2, trivial⟩, hB.trans hb2⟩
  case done =>
    rintro D ys W hD rfl ⟨⟨v, hv, hrow, _⟩, hB⟩ hK
    have hc := hv.cell
    gi_wp2
    refine ⟨by simp, .inl ⟨_, _, rfl, run_takeDeferred hK, ?_⟩⟩
    exact ⟨_, results_tmp rfl _ _ _, v, rfl, ownsRow_putObj hrow _ hK rfl, hB.trans (belowK_b (w := w) (Nat.le_refl _) W D _ _ (by simp at hD; omega) hK rfl rfl)⟩
  case stop =>
    rintro D c pre W _ _ h _
    exact h.elim

theorem collect (G K F : Nat) (L : List Int) (hF : 4 ≤ F) (hL : L.length ≤ 4) (w : World) (hG : G < w.heap.size) (hK : K < w.heap.size)
    (hseq : SeqStopsK Fence.wide (F - 1) Tryd.prog 28 #[.pointer (some ⟨G, 0, none⟩), .pointer (some ⟨K, 0, none⟩)] (fun x : Int => #[Value.int .i64 x]) (NbrK G K) (fun ys => ys = L) (fun pre => pre <+: L) 4 w) :
    Calls Tryd.prog 20 #[.func (.func 28) #[] #[.pointer (some ⟨G, 0, none⟩), .pointer (some ⟨K, 0, none⟩)]] w (IntsBack w L) := by
  have hA := callsIn_wide.1 (appendSeq G K F L (by omega) hL w hG hK hseq)
  go_enter Tryd.func20, Tryd.ntmps20
  go_wp2_with (go_at_call 27; refine hA.mono ?_; rintro e w' ⟨v, rfl, hrow, hb⟩)
  go_ret
  exact ⟨v, rfl, hrow, hb⟩

theorem caps_new3 (W H : Int) (C : ByteArray) (c : Int) (w : World) (o : Obj) (t u : TypeId) :
    Caps (((w.alloc o).alloc (.cells #[.int .i64 W, .int .i64 H, .string C] t)).alloc (.cells #[.int .i64 c] u)) (w.heap.size + 1) (w.heap.size + 1 + 1) W H C c := by
  have h := caps_new W H C c (w.alloc o) t u
  simpa using h
theorem below3 (w : World) (o p q : Obj) : Below w.heap.size w (((w.alloc o).alloc p).alloc q) := (((Below.refl _ w).alloc (Nat.le_refl _) _).alloc (by simp) _).alloc (by simp; omega) _

theorem implAround (W H : Int) (C : ByteArray) (c : Int) (L : List Int) (hC : C.size ≤ 1048576) (HL : Hid (aroundL W H C c = L)) (w : World) (hS : SidesAt w) :
    Calls Tryd.prog 9 #[.agg #[.int .i64 W, .int .i64 H, .string C], .int .i64 c] w (IntsBack w L) := by
  have hlen : L.length ≤ 4 := by rw [← HL.out]; exact aroundL_len W H C c
  have hB0 := below3 w (.cells #[.int .i64 W, .int .i64 H, .string C] 27) (.cells #[.int .i64 W, .int .i64 H, .string C] 27) (.cells #[.int .i64 c] 3)
  have hcap := caps_new3 W H C c w (.cells #[.int .i64 W, .int .i64 H, .string C] 27) 27 3
  have hcol := collect _ _ 4 L (Nat.le_refl _) hlen _ hcap.2.2.2.2.1 hcap.2.2.2.2.2 (nbr_stops W H C c L hC HL 3 _ _ _ hcap (hS.below hB0))
  clear hcap hS HL
  go_enter Tryd.func9, Tryd.ntmps9
  go_wp2_with (first
    | (go_at_call 21; refine (implNeighbors W H C c _).mono ?_; rintro e w1 ⟨rfl, rfl⟩)
    | (go_at_call 20; refine hcol.mono ?_; rintro e w1 ⟨v, rfl, hrow, hb⟩))
  go_ret
  exact ⟨v, rfl, own_base hrow hB0.size, hB0.trans (hb.mono hB0.size)⟩

end Go.Proofs.YtncdoagjpclecaaDoor
