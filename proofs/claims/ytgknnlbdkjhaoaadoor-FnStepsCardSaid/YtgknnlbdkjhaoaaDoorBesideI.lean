/-
  CONTRACT of the program's Beside. No law is proved here.
-/
import Derived.Test.YtgknnlbdkjhaoaaDoorNbr
namespace Go.Proofs.YtgknnlbdkjhaoaaDoor
open Go.ChangeShapes Go.WideShapes Go.ChangeAt Go.RowKit Go.Shelf

attribute [local go_sem] Oper.semAt_some

set_option maxRecDepth 100000 in
set_option maxHeartbeats 2000000 in
theorem beside_in (W H : Int) (C : ByteArray) (a b : Int) (r : Bool) (L : List Int) (hC : C.size ≤ 1048576) (HL : Hid (aroundL W H C a = L)) (HR : Hid (L.contains b = r)) (w : World) (hS : SidesAt w) :
    CallsIn Fence.wide 4 Tryd.prog 12 #[.agg #[.int .i64 W, .int .i64 H, .string C], .int .i64 a, .int .i64 b] w (Made w (.bool r)) := by
  refine callsIn_of_wp_marks Tryd.func12 rfl trivial ?_ rfl
  simp only [Tryd.ntmps12, List.size_toArray, List.length_cons, List.length_nil, Nat.reduceAdd, Nat.reduceSub, Array.replicate_succ, Array.replicate_zero, List.push_toArray, List.append_toArray, List.nil_append, List.cons_append]
  have bB := Boxed.new (w.alloc (.cells #[.int .i64 W, .int .i64 H, .string C] 25)) 3 (.int .i64 b)
  have bR := Boxed.new ((w.alloc (.cells #[.int .i64 W, .int .i64 H, .string C] 25)).alloc (.cells #[.int .i64 b] 3)) 4 (.bool false)
  have hcap := caps_new W H C a (((w.alloc (.cells #[.int .i64 W, .int .i64 H, .string C] 25)).alloc (.cells #[.int .i64 b] 3)).alloc (.cells #[.bool false] 4)) 25 3
  simp only [World.size_alloc] at bB bR hcap
  have hB0 := below3 w (.cells #[.int .i64 W, .int .i64 H, .string C] 25) (.cells #[.int .i64 b] 3) (.cells #[.bool false] 4)
  have hB1 := (hB0.alloc hB0.size (.cells #[.int .i64 W, .int .i64 H, .string C] 25)).alloc (by simp; omega) (.cells #[.int .i64 a] 3)
  have bB1 := ((bB.alloc (.cells #[.bool false] 4)).alloc (.cells #[.int .i64 W, .int .i64 H, .string C] 25)).alloc (.cells #[.int .i64 a] 3)
  have bR1 := (bR.alloc (.cells #[.int .i64 W, .int .i64 H, .string C] 25)).alloc (.cells #[.int .i64 a] 3)
  have hst := nbr_stops W H C a L hC HL 3 _ _ _ hcap (hS.below hB1)
  gi_wp2_with (refine ⟨trivial, ?_⟩; gi_at_call 30; refine (callsIn_wide.2 (implNeighbors W H C a _)).mono ?_; rintro e w1 ⟨rfl, rfl⟩)
  refine wpIn_rangeFunc_ownF rfl (by decide) (gf := 41) (lb := #[.pointer (some ⟨w.heap.size + 1 + 1 + 1, 0, none⟩), .pointer (some ⟨w.heap.size + 1 + 1 + 1 + 1, 0, none⟩)]) rfl trivial (enters_of Tryd.func41 (by kernel_rfl) rfl)
    hst nbrK_t (nbrK_b hcap.2.2.2.2.1 hcap.2.2.2.2.2) (Below.refl _ _) (fun _ => rfl)
    (fun pre W' => ((∀ y ∈ pre, y ≠ b) ∧ W'.cell? ⟨w.heap.size + 1, 0, none⟩ = some (.int .i64 b) ∧ W'.cell? ⟨w.heap.size + 1 + 1, 0, none⟩ = some (.bool false) ∧ W'.frozen? ⟨w.heap.size + 1 + 1, 0, none⟩ = false) ∧ Below w.heap.size w W')
    (fun c pre W' => (c = .ret ∧ b ∈ pre ∧ W'.cell? ⟨w.heap.size + 1 + 1, 0, none⟩ = some (.bool true)) ∧ Below w.heap.size w W')
    (OwnFrom.and (Own.from (fun s A B row hs hg hr => ⟨hs.1, cell_kept hs.2.1 hg hr, cell_kept hs.2.2.1 hg hr, (frozen_kept hs.2.2.1 hg hr).trans hs.2.2.2⟩) _) (ownFrom_below (Nat.le_refl _) (by simp; omega)))
    (fun c => OwnFrom.and (Own.from (fun s A B row hs hg hr => ⟨hs.1, hs.2.1, cell_kept hs.2.2 hg hr⟩) _) (ownFrom_below (Nat.le_refl _) (by simp; omega)))
    ⟨⟨by simp, bB1.cell, bR1.cell, bR1.frozen⟩, hB1⟩
    (fun x => { tmps := #[.agg #[.int .i64 W, .int .i64 H, .string C], .int .i64 a, .int .i64 b, .pointer (some ⟨w.heap.size, 0, none⟩), undef, .pointer (some ⟨w.heap.size + 1, 0, none⟩), .pointer (some ⟨w.heap.size + 1 + 1, 0, none⟩), .int .i64 x, .agg #[.int .i64 W, .int .i64 H, .string C], .int .i64 a, .func (.func 41) #[] #[.pointer (some ⟨w.heap.size + 1 + 1 + 1, 0, none⟩), .pointer (some ⟨w.heap.size + 1 + 1 + 1 + 1, 0, none⟩)], .int .i64 x, undef, undef, undef], defers := [] }) ?assign ?body ?done ?stop
  case assign =>
    intro l x W' K hK
    gi_wp2
    exact hK
  case body =>
    rintro l pre x W' ⟨⟨hp, hcw, hcr, hfr⟩, hB⟩ _
    gi_wp2
    · rename_i hx
      obtain rfl : x = b := eq_of_beq hx
      exact ⟨KeepsOthers.setCell _ _ _, ⟨rfl, List.mem_append.2 (.inr (by simp)), World.cell?_setCell_same' _ _ _ (by rw [hcr]; rfl)⟩, hB.setCell (p := ⟨w.heap.size + 1 + 1, 0, none⟩) (by simp; omega) _⟩
    · rename_i hx
      exact ⟨KeepsOthers.refl _, nbrK_refl _ _ _, ⟨fun y hy => (List.mem_append.1 hy).elim (hp y) (fun e e' => by simp at e; subst e; subst e'; simp at hx), hcw, hcr, hfr⟩, hB⟩
  case done =>
    rintro D ys W' hD rfl ⟨⟨hne, _, hcr, hfr⟩, hB⟩ hK
    gi_wp2
    have hK' := (KeepsOthers.setCell W' ⟨w.heap.size + 1 + 1, 0, none⟩ (.bool false)).same D _ hK rfl
    refine ⟨by simp, .inl ⟨_, _, rfl, run_takeDeferred hK', ?_⟩⟩
    have hc5 := cell_kept (World.cell?_setCell_same' W' ⟨w.heap.size + 1 + 1, 0, none⟩ (.bool false) (by rw [hcr]; rfl)) (grownBy_putObj' _ D (.deferred none)) (fun r e => by cases e; exact ⟨_, hK', rfl⟩)
    have hr0 : false = r := by
      rw [← HR.out]
      have : b ∉ ys := fun h => hne b h rfl
      simpa using this
    refine ⟨.bool false, ?_, bool_ret hr0 rfl, (hB.setCell (p := ⟨w.heap.size + 1 + 1, 0, none⟩) (by simp; omega) _).trans (belowK_b (w := w) (Nat.le_refl _) _ D _ _ (by simp at hD; omega) hK' rfl rfl)⟩
    simp [results, Tryd.f12, go_sem, hc5]
  case stop =>
    rintro D c pre W' hD hpre ⟨⟨rfl, hin, hcr⟩, hB⟩ hK
    gi_wp2
    refine ⟨by simp, .inl ⟨_, _, rfl, run_takeDeferred hK, ?_⟩⟩
    have hc5 := cell_kept hcr (grownBy_putObj' _ D (.deferred none)) (fun r e => by cases e; exact ⟨_, hK, rfl⟩)
    have hr1 : true = r := by
      rw [← HR.out]
      exact (List.contains_iff_mem.2 (hpre.subset hin)).symm
    refine ⟨.bool true, ?_, bool_ret hr1 rfl, hB.trans (belowK_b (w := w) (Nat.le_refl _) W' D _ _ (by simp at hD; omega) hK rfl rfl)⟩
    simp [results, Tryd.f12, go_sem, hc5]

theorem implBeside (W H : Int) (C : ByteArray) (a b : Int) (r : Bool) (hC : C.size ≤ 1048576) (HR : Hid ((aroundL W H C a).contains b = r)) (w : World) (hS : SidesAt w) :
    Calls Tryd.prog 12 #[.agg #[.int .i64 W, .int .i64 H, .string C], .int .i64 a, .int .i64 b] w (Made w (.bool r)) :=
  callsIn_wide.1 (beside_in W H C a b r _ hC (Lib.hid rfl) HR w hS)

end Go.Proofs.YtgknnlbdkjhaoaaDoor
