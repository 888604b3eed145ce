/-
  CONTRACT of the program's PairsOf. No law is proved here.
-/
import Derived.Test.YtncdoagjpclecaaDoorCollect
import Derived.Test.YtncdoagjpclecaaDoorPairs
import Derived.Test.YtncdoagjpclecaaDoorWithF
namespace Go.Proofs.YtncdoagjpclecaaDoor
open Go.ChangeShapes Go.WideShapes Go.ChangeAt Go.RowKit Go.Shelf

attribute [local go_sem] Oper.semAt_some

/-- The mark that a range over a function leaves among the deferred calls. -/
def markD (r : Nat) : Deferred := { target := .collected r, args := #[] }

theorem leavesMarks {n : Nat} {P : Program} {fn : Func} {tmps : Array Value} {R : Ending → World → Prop} {v : Value} (hres : ∀ w, (results fn tmps).run P w = .ok v w) (w0 : World) (hR : ∀ w', Below w0.heap.size w0 w' → R (.returned v) w') :
    ∀ (ms : List Nat) (w : World), ms.Nodup → (∀ r ∈ ms, w0.heap.size ≤ r ∧ w.heap[r]? = some (.deferred (some []))) → Below w0.heap.size w0 w → LeavesInM Fence.wide n P fn tmps R (ms.map markD) .returning w
  | [], w, _, _, hB => ⟨v, hres w, hR w hB⟩
  | r :: ms, w, hn, hm, hB => by
    obtain ⟨hr, hw⟩ := hm r (List.mem_cons_self ..)
    obtain ⟨hne, hn2⟩ := List.nodup_cons.1 hn
    refine ⟨by simp, .inl ⟨r, _, rfl, run_takeDeferred hw, ?_⟩⟩
    refine leavesMarks hres w0 hR ms _ hn2 (fun s hs => ?_) (hB.trans (belowK_b (w := w0) (Nat.le_refl _) w r _ _ hr hw rfl rfl))
    obtain ⟨h1, h2⟩ := hm s (List.mem_cons_of_mem _ hs)
    refine ⟨h1, (World.putObj_heap_other ?_).trans h2⟩
    rintro rfl
    exact hne hs

/-- A list of ints in memory of a call's own, with its block. -/
theorem ints_at {w : World} {B : Nat} {e : TypeId} {v : Value} {L : List Int} (h : w.ownsRow B e 1 v L.length (L.map (Value.int .i64))) :
    ∃ a c, v = .slice a L.length c ∧ (L.length = 0 ∨ ∃ g, a = some ⟨g, 0, none⟩ ∧ B ≤ g ∧ g < w.heap.size ∧ ∀ (j : Nat) x, L[j]? = some x → w.cell? ⟨g, j, none⟩ = some (.int .i64 x)) := by
  obtain ⟨a, c, rfl⟩ := own_form h
  refine ⟨a, c, rfl, ?_⟩
  rcases h.2 with ⟨hv, h0⟩ | ⟨g, cap, cur, hv, hg, hh, _⟩
  · exact .inl h0
  · cases hv
    refine .inr ⟨g, rfl, hg, (Array.getElem?_eq_some_iff.1 hh).1, fun j x hx => ?_⟩
    have h2 := h.cells (g := g) rfl j (.int .i64 x) (by simp [hx])
    have hadd : (⟨g, 0, none⟩ : Addr).add j = ⟨g, j, none⟩ := by unfold Addr.add; split <;> simp_all
    rw [hadd] at h2
    exact h2

theorem grown_trans {a b c : World} {p : Nat} {row : Option Nat} (h : a.grownBy b (some p)) (k : b.grownBy c row) (hr : ∀ r, row = some r → a.heap.size ≤ r ∨ r = p) : a.grownBy c (some p) :=
  ⟨k.os.trans h.os, k.tape.trans h.tape, k.output.trans h.output, Nat.le_trans h.size k.size, fun i hi hne =>
    (k.block i (Nat.lt_of_lt_of_le hi h.size) (fun e => by
      rcases hr i e.symm with h1 | h1
      · omega
      · exact hne (by rw [h1]))).trans (h.block i hi hne)⟩
theorem grown_cell {a b : World} {p g : Nat} (h : a.grownBy b (some p)) (hg : g < a.heap.size) (hne : g ≠ p) (j : Nat) : b.cell? ⟨g, j, none⟩ = a.cell? ⟨g, j, none⟩ := cell_block (h.block g hg (fun e => hne (by cases e; rfl))) j
theorem grown_refl (a : World) (r : Option Nat) : a.grownBy a r := ⟨rfl, rfl, rfl, Nat.le_refl _, fun _ _ _ => rfl⟩
theorem grown_alloc {a b : World} {r : Option Nat} (h : a.grownBy b r) (o : Obj) : a.grownBy (b.alloc o) r :=
  ⟨h.os, h.tape, h.output, Nat.le_trans h.size (by simp), fun i hi hne => (heap_alloc_old _ _ _ (Nat.lt_of_lt_of_le hi h.size)).trans (h.block i hi hne)⟩

/-- How many of the list are greater than x. -/
def cntUp (x : Int) (L : List Int) : Nat := (L.filter fun d => decide (x < d)).length
theorem cntUp_le (x : Int) (L : List Int) : cntUp x L ≤ L.length := List.length_filter_le _ _
theorem cntUp_yes {x y : Int} {L : List Int} (h : x < y) : cntUp x (L ++ [y]) = cntUp x L + 1 := by simp [cntUp, h]
theorem cntUp_no {x y : Int} {L : List Int} (h : ¬ x < y) : cntUp x (L ++ [y]) = cntUp x L := by simp [cntUp, h]

theorem nbrK_set {G K P : Nat} {W : World} {x : Value} (hG : G ≠ P) (hK : K ≠ P) (hv : Boxed W P 3 x) (u : Value) : NbrK G K W (W.setCell ⟨P, 0, none⟩ u) := by
  refine ⟨⟨(KeepsOthers.setCell W ⟨P, 0, none⟩ u).size, heap_setCell_other _ _ _ _ hG, heap_setCell_other _ _ _ _ hK⟩, fun k cs hk => ?_⟩
  rw [heap_setCell_other _ _ _ _ (fun e => by subst e; have := hk.symm.trans hv; simp at this)]
  exact hk

set_option maxRecDepth 100000 in
set_option maxHeartbeats 2000000 in
theorem pairs_in (W H : Int) (C : ByteArray) (z : Int) (L : List Int) (hC : C.size ≤ 1048576) (HL : Hid (freeL W H C = L)) (HZ : Hid (((ups W H C L L.length : Nat) : Int) = z)) (w : World) (hS : SidesAt w) :
    CallsIn Fence.wide 6 Tryd.prog 16 #[.agg #[.int .i64 W, .int .i64 H, .string C]] w (Made w (.int .i64 z)) := by
  refine callsIn_of_wp_marks Tryd.func16 rfl trivial ?_ rfl
  simp only [Tryd.ntmps16, List.size_toArray, List.length_cons, List.length_nil, Nat.reduceAdd, Nat.reduceSub, Array.replicate_succ, Array.replicate_zero, List.push_toArray, List.append_toArray, List.nil_append, List.cons_append]
  gi_wp2_with (refine ⟨trivial, ?_⟩; gi_at_call 24; refine (callsIn_wide.2 (implFreeCells W H C L hC HL _)).mono ?_; rintro e w1 ⟨v, rfl, hown, hb⟩; obtain ⟨av, cv, rfl, HV⟩ := ints_at hown; have HVh := Lib.hid HV; clear HV hown)
  have hs1 : w.heap.size + 1 + 1 ≤ w1.heap.size := by have := hb.size; simpa using this
  have hlen : L.length ≤ 64 := by rw [← HL.out]; exact Nat.le_trans (picks_len _ _) (Nat.min_le_right _ 64)
  have hB1 : Below w.heap.size w w1 := ((((Below.refl _ w).alloc (Nat.le_refl _) _).alloc (by simp) _)).trans (hb.mono (by simp; omega))
  have hP1 : Boxed w1 (w.heap.size + 1) 3 (.int .i64 ((ups W H C L 0 : Nat) : Int)) := (hb.block _ (by simp)).trans (by
    have h1 := heap_alloc_new (w.alloc (.cells #[.int .i64 W, .int .i64 H, .string C] 27)) (.cells #[.int .i64 0] 3)
    rw [World.size_alloc] at h1
    exact h1)
  have hG1 : w1.heap[w.heap.size]? = some (.cells #[.int .i64 W, .int .i64 H, .string C] 27 (0, 0)) := (hb.block _ (by simp; omega)).trans ((heap_alloc_old _ _ _ (by simp)).trans (heap_alloc_new w _))
  refine wpIn_loop (fun a' wr => ∃ (k : Nat) (ms : List Nat) (u5 u11 u12 u13 u14 u15 u16 u23 : Value), a' = { tmps := #[.agg #[.int .i64 W, .int .i64 H, .string C], .pointer (some ⟨w.heap.size, 0, none⟩), .int .i64 0, .pointer (some ⟨w.heap.size + 1, 0, none⟩), undef, u5, undef,
      .agg #[.int .i64 W, .int .i64 H, .string C], .slice av L.length cv, .int .i64 L.length, .int .i64 k, u11, u12, u13, u14, u15, u16, undef, undef, undef, undef, undef, undef, u23, undef], defers := ms.map markD } ∧ k ≤ L.length ∧ ms.Nodup ∧
      (∀ r ∈ ms, w.heap.size ≤ r ∧ wr.heap[r]? = some (.deferred (some []))) ∧ w1.grownBy wr (some (w.heap.size + 1)) ∧ Boxed wr (w.heap.size + 1) 3 (.int .i64 ((ups W H C L k : Nat) : Int)))
    (fun a' _ => L.length - (intOf (a'.tmps.getD 10 undef)).toNat) ?start ?round
  case start => exact ⟨0, [], _, _, _, _, _, _, _, _, rfl, Nat.zero_le _, List.Pairwise.nil, (fun _ h => by cases h), grown_refl _ _, hP1⟩
  case round =>
    rintro a' wr ⟨k, ms, u5, u11, u12, u13, u14, u15, u16, u23, rfl, hk, hnd, hms, hgr, hP⟩
    have hrs := hgr.size
    by_cases hlt : k < L.length
    · obtain ⟨x, hx⟩ : ∃ x, L[k]? = some x := ⟨_, List.getElem?_eq_getElem hlt⟩
      rcases HVh.out with h0 | ⟨g, rfl, hgB, hg, hc⟩
      · omega
      · have d0 : wr.cell? ⟨g, k, none⟩ = some (.int .i64 x) := (grown_cell hgr hg (by simp at hgB; omega) k).trans (hc k x hx)
        have hGr : wr.heap[w.heap.size]? = some (.cells #[.int .i64 W, .int .i64 H, .string C] 27 (0, 0)) := (hgr.block _ (by omega) (by simp)).trans hG1
        have c0 : wr.cell? ⟨w.heap.size, 0, none⟩ = some (.int .i64 W) := by rw [cell_of_row _ _ _ _ _ _ hGr]; rfl
        have c1 : wr.cell? ⟨w.heap.size, 1, none⟩ = some (.int .i64 H) := by rw [cell_of_row _ _ _ _ _ _ hGr]; rfl
        have c2 : wr.cell? ⟨w.heap.size, 2, none⟩ = some (.string C) := by rw [cell_of_row _ _ _ _ _ _ hGr]; rfl
        have hwr : w.heap.size < wr.heap.size := by omega
        have hlt2 : (k : Int) < (L.length : Int) := by omega
        have HX := Lib.hid hx
        clear hx hc
        gi_wp2_with (refine ⟨trivial, ?_⟩; gi_at_call 21; refine (callsIn_wide.2 (implNeighbors W H C x _)).mono ?_; rintro e w2 ⟨rfl, rfl⟩)
        obtain ⟨Lx, HLx⟩ : ∃ Lx, Hid (aroundL W H C x = Lx) := ⟨_, rfl⟩
        have hBr : Below w.heap.size w wr := hB1.grown hgr (by omega) (fun k e => by cases e; omega)
        have hBs := ((hBr.alloc hBr.size (.cells #[.int .i64 x] 3)).alloc (by simp; omega) (.cells #[.int .i64 W, .int .i64 H, .string C] 27)).alloc (by simp; omega) (.cells #[.int .i64 x] 3)
        have hgs := grown_alloc (grown_alloc (grown_alloc hgr (.cells #[.int .i64 x] 3)) (.cells #[.int .i64 W, .int .i64 H, .string C] 27)) (.cells #[.int .i64 x] 3)
        have hPs := ((hP.alloc (.cells #[.int .i64 x] 3)).alloc (.cells #[.int .i64 W, .int .i64 H, .string C] 27)).alloc (.cells #[.int .i64 x] 3)
        have hXs := ((Boxed.new wr 3 (.int .i64 x)).alloc (.cells #[.int .i64 W, .int .i64 H, .string C] 27)).alloc (.cells #[.int .i64 x] 3)
        have hms2 : ∀ r ∈ ms, (((wr.alloc (.cells #[.int .i64 x] 3)).alloc (.cells #[.int .i64 W, .int .i64 H, .string C] 27)).alloc (.cells #[.int .i64 x] 3)).heap[r]? = some (.deferred (some [])) ∧ r < wr.heap.size ∧ r ≠ w.heap.size + 1 := fun r hr => by
          have hl := (Array.getElem?_eq_some_iff.1 (hms r hr).2).1
          refine ⟨?_, hl, fun e => by have := (hms r hr).2; rw [e] at this; have := this.symm.trans hP; simp at this⟩
          rw [heap_alloc_old _ _ _ (by simp; omega), heap_alloc_old _ _ _ (by simp; omega), heap_alloc_old _ _ _ hl]
          exact (hms r hr).2
        have hcap := caps_new W H C x (wr.alloc (.cells #[.int .i64 x] 3)) 27 3
        simp only [World.size_alloc] at hcap
        have hst := nbr_stops W H C x Lx hC HLx 5 _ _ _ hcap (hS.below hBs)
        have hss : (((wr.alloc (.cells #[.int .i64 x] 3)).alloc (.cells #[.int .i64 W, .int .i64 H, .string C] 27)).alloc (.cells #[.int .i64 x] 3)).heap.size = wr.heap.size + 3 := by simp
        have hG2 := hcap.2.2.2.2.1
        have hK2 := hcap.2.2.2.2.2
        clear hcap
        generalize ((wr.alloc (.cells #[.int .i64 x] 3)).alloc (.cells #[.int .i64 W, .int .i64 H, .string C] 27)).alloc (.cells #[.int .i64 x] 3) = ws at *
        have hxs := hXs.cell
        have hup := ups_le W H C L k
        refine wpIn_rangeFunc_ownG rfl (by decide) (gf := 28) (lb := #[.pointer (some ⟨wr.heap.size + 1, 0, none⟩), .pointer (some ⟨wr.heap.size + 1 + 1, 0, none⟩)]) rfl trivial (enters_of Tryd.func28 (by kernel_rfl) rfl)
          hst nbrK_t (nbrK_b hG2 hK2) (Below.refl _ _) (fun _ => rfl)
          (fun pre W' => ws.grownBy W' (some (w.heap.size + 1)) ∧ Boxed W' (w.heap.size + 1) 3 (.int .i64 ((ups W H C L k + cntUp x pre : Nat) : Int)))
          (fun _ _ _ => False)
          (fun s A B row hs hg hr => ⟨grown_trans hs.1 hg (fun r e => .inl (hr r e).1), hs.2.kept hg (fun e => by have := (hr _ e.symm).1; omega)⟩)
          (fun _ _ _ _ _ hs _ _ => hs)
          ⟨grown_refl _ _, hPs⟩
          (fun y => { tmps := #[.agg #[.int .i64 W, .int .i64 H, .string C], .pointer (some ⟨w.heap.size, 0, none⟩), .int .i64 0, .pointer (some ⟨w.heap.size + 1, 0, none⟩), undef, .pointer (some ⟨wr.heap.size, 0, none⟩), .int .i64 y,
            .agg #[.int .i64 W, .int .i64 H, .string C], .slice (some ⟨g, 0, none⟩) L.length cv, .int .i64 L.length, .int .i64 k, .bool true, .pointer (some ⟨g, k, none⟩), .int .i64 x, .agg #[.int .i64 W, .int .i64 H, .string C], .int .i64 x, .func (.func 28) #[] #[.pointer (some ⟨wr.heap.size + 1, 0, none⟩), .pointer (some ⟨wr.heap.size + 1 + 1, 0, none⟩)], .int .i64 y, undef, undef, undef, undef, undef, u23, undef], defers := [] }) ?assign ?body ?done ?stop
        case assign =>
          intro l y W' K hK
          gi_wp2
          exact hK
        case body =>
          rintro l pre y W' ⟨hg', hv⟩ hlen4
          have hc := hv.cell
          have hf := hv.frozen
          have hxc : W'.cell? ⟨wr.heap.size, 0, none⟩ = some (.int .i64 x) := (grown_cell hg' (by omega) (by omega) 0).trans hxs
          have hcn := cntUp_le x pre
          obtain ⟨N, hN⟩ : ∃ N, N = ups W H C L k + cntUp x pre := ⟨_, rfl⟩
          rw [← hN] at hc
          have HN := Lib.hid hN
          have hNb : N ≤ 300 := by omega
          clear hN
          gi_wp2
          · have hxy : x < y := by assumption
            exact ⟨(KeepsOthers.setCell _ _ _).from _, nbrK_set (by omega) (by omega) hv _, grown_trans hg' (grownBy_setCell' W' _ _) (fun r e => .inr (by cases e; rfl)), by
              rw [cntUp_yes hxy, ← Nat.add_assoc, ← HN.out]
              exact hv.set _⟩
          · have hxy : ¬ x < y := by rename_i h; omega
            exact ⟨KeepsFrom.refl _ _, nbrK_refl _ _ _, hg', by rw [cntUp_no hxy]; exact hv⟩
        case done =>
          rintro D ys W' hD rfl ⟨hg', hv⟩ hK
          gi_wp2
          have hDn : D ∉ ms := fun h => by have := (hms2 D h).2.1; omega
          refine ⟨⟨k + 1, D :: ms, _, _, _, _, _, _, _, _, rfl, by omega, List.nodup_cons.2 ⟨hDn, hnd⟩, fun r hr => ?_, grown_trans hgs hg' (fun r e => .inr (by cases e; rfl)), ?_⟩, ?_⟩
          · rcases List.mem_cons.1 hr with rfl | hr
            · exact ⟨by omega, hK⟩
            · obtain ⟨h1, h2, h3⟩ := hms2 r hr
              exact ⟨(hms r hr).1, (hg'.block r (by omega) (fun e => h3 (by cases e; rfl))).trans h1⟩
          · rw [ups_succ HX.out, upV, HLx.out]
            exact hv
          · simp [intOf]; omega
        case stop =>
          rintro D c pre W' _ _ h _
          exact h.elim
    · obtain rfl : k = L.length := by omega
      have hc := hP.cell
      gi_wp2
      show LeavesInM Fence.wide 6 Tryd.prog Tryd.f16 _ (Made w (.int .i64 z)) (ms.map markD) .returning wr
      refine leavesMarks (v := .int .i64 z) (fun w' => ?_) w (fun w' h => ⟨rfl, h⟩) ms wr hnd hms (hB1.grown hgr (by omega) (fun k e => by cases e; omega))
      rw [← HZ.out]
      exact results_tmp Tryd.results16 _ _ _

theorem implPairs (W H : Int) (C : ByteArray) (z : Int) (hC : C.size ≤ 1048576) (HZ : Hid (pairsV W H C = z)) (w : World) (hS : SidesAt w) :
    Calls Tryd.prog 16 #[.agg #[.int .i64 W, .int .i64 H, .string C]] w (Made w (.int .i64 z)) :=
  callsIn_wide.1 (pairs_in W H C z _ hC (Lib.hid rfl) (Lib.hid (by rw [← pairs_up]; exact HZ.out)) w hS)

end Go.Proofs.YtncdoagjpclecaaDoor
