/-
  CONTRACT of the program's nearer. No law is proved here.
-/
import Derived.Test.YtgknnlbdkjhaoaaDoorNbr
import Derived.Test.YtgknnlbdkjhaoaaDoorRoundTail
import Derived.Test.YtgknnlbdkjhaoaaDoorSpecSteps
namespace Go.Proofs.YtgknnlbdkjhaoaaDoor
open Go.ChangeShapes Go.WideShapes Go.ChangeAt Go.RowKit Go.Shelf

attribute [local go_sem] Oper.semAt_some

/-- The first of the list that has a lesser number than c; c where there is none. -/
noncomputable def nearV (far : Nat → Int) (L : List Int) (c : Nat) : Int := (L.find? fun d => decide (far d.toNat < far c)).getD c
theorem nearV_none {far : Nat → Int} {L : List Int} {c : Nat} (h : ∀ d ∈ L, far c ≤ far d.toNat) : nearV far L c = c := by
  unfold nearV
  rw [List.find?_eq_none.2 (fun x hx => by simpa using h x hx)]
  rfl
theorem nearV_some {far : Nat → Int} {L pre : List Int} {d : Int} {c : Nat} (hp : pre ++ [d] <+: L) (h : ∀ x ∈ pre, far c ≤ far x.toNat) (hd : far d.toNat < far c) : nearV far L c = d := by
  obtain ⟨t, rfl⟩ := hp
  unfold nearV
  rw [List.append_assoc, List.find?_append, List.find?_eq_none.2 (fun x hx => by simpa using h x hx)]
  simp [hd]

theorem int_ret {a b : Int} {e : Ending} (h : a = b) (he : e = .returned (.int .i64 a)) : e = .returned (.int .i64 b) := by rw [he, h]

set_option maxRecDepth 100000 in
set_option maxHeartbeats 2000000 in
theorem near_in (W H : Int) (C : ByteArray) (c gf cf : Nat) (far : Nat → Int) (L : List Int) (z : Int) (hC : C.size ≤ 1048576) (HL : Hid (aroundL W H C (c : Int) = L)) (HZ : Hid (nearV far L c = z)) (hc : c < C.size) (w : World) (hgf : gf < w.heap.size) (hfar : Hid (∀ y, y < C.size → w.cell? ⟨gf, y, none⟩ = some (.int .i64 (far y)))) (hS : SidesAt w) :
    CallsIn Fence.wide 4 Tryd.prog 29 #[.agg #[.int .i64 W, .int .i64 H, .string C], .slice (some ⟨gf, 0, none⟩) C.size cf, .int .i64 c] w (Made w (.int .i64 z)) := by
  refine callsIn_of_wp_marks Tryd.func29 rfl trivial ?_ rfl
  simp only [Tryd.ntmps29, List.size_toArray, List.length_cons, List.length_nil, Nat.reduceAdd, Nat.reduceSub, Array.replicate_succ, Array.replicate_zero, List.push_toArray, List.append_toArray, List.nil_append, List.cons_append]
  have b4 := Boxed.new (w.alloc (.cells #[.int .i64 W, .int .i64 H, .string C] 25)) 26 (.slice (some ⟨gf, 0, none⟩) C.size cf)
  have b5 := Boxed.new ((w.alloc (.cells #[.int .i64 W, .int .i64 H, .string C] 25)).alloc (.cells #[.slice (some ⟨gf, 0, none⟩) C.size cf] 26)) 3 (.int .i64 c)
  have b6 := Boxed.new (((w.alloc (.cells #[.int .i64 W, .int .i64 H, .string C] 25)).alloc (.cells #[.slice (some ⟨gf, 0, none⟩) C.size cf] 26)).alloc (.cells #[.int .i64 c] 3)) 3 (.int .i64 0)
  have hcap := caps_new W H C c ((((w.alloc (.cells #[.int .i64 W, .int .i64 H, .string C] 25)).alloc (.cells #[.slice (some ⟨gf, 0, none⟩) C.size cf] 26)).alloc (.cells #[.int .i64 c] 3)).alloc (.cells #[.int .i64 0] 3)) 25 3
  simp only [World.size_alloc] at b4 b5 b6 hcap
  have hB0 := below3 w (.cells #[.int .i64 W, .int .i64 H, .string C] 25) (.cells #[.slice (some ⟨gf, 0, none⟩) C.size cf] 26) (.cells #[.int .i64 c] 3)
  have hB1 := ((hB0.alloc hB0.size (.cells #[.int .i64 0] 3)).alloc (by simp; omega) (.cells #[.int .i64 W, .int .i64 H, .string C] 25)).alloc (by simp; omega) (.cells #[.int .i64 c] 3)
  have b4' := (((b4.alloc (.cells #[.int .i64 c] 3)).alloc (.cells #[.int .i64 0] 3)).alloc (.cells #[.int .i64 W, .int .i64 H, .string C] 25)).alloc (.cells #[.int .i64 c] 3)
  have b5' := ((b5.alloc (.cells #[.int .i64 0] 3)).alloc (.cells #[.int .i64 W, .int .i64 H, .string C] 25)).alloc (.cells #[.int .i64 c] 3)
  have b6' := (b6.alloc (.cells #[.int .i64 W, .int .i64 H, .string C] 25)).alloc (.cells #[.int .i64 c] 3)
  have hst := nbr_stopsIn W H C c L hC HL 3 _ _ _ hcap (hS.below hB1)
  clear b4 b5 b6 hS
  gi_wp2_with (refine ⟨trivial, ?_⟩; gi_at_call 30; refine (callsIn_wide.2 (implNeighbors W H C c _)).mono ?_; rintro e w1 ⟨rfl, rfl⟩)
  refine wpIn_rangeFunc_ownF rfl (by decide) (gf := 41) (lb := #[.pointer (some ⟨w.heap.size + 1 + 1 + 1 + 1, 0, none⟩), .pointer (some ⟨w.heap.size + 1 + 1 + 1 + 1 + 1, 0, none⟩)]) rfl trivial (enters_of Tryd.func41 (by kernel_rfl) rfl)
    hst nbrK_t (nbrK_b hcap.2.2.2.2.1 hcap.2.2.2.2.2) (Below.refl _ _) (fun _ => rfl)
    (fun pre W' => ((∀ y ∈ valsL pre, far c ≤ far y.toNat) ∧ W'.cell? ⟨w.heap.size + 1, 0, none⟩ = some (.slice (some ⟨gf, 0, none⟩) C.size cf) ∧ W'.cell? ⟨w.heap.size + 1 + 1, 0, none⟩ = some (.int .i64 c) ∧ W'.cell? ⟨w.heap.size + 1 + 1 + 1, 0, none⟩ = some (.int .i64 0) ∧ W'.frozen? ⟨w.heap.size + 1 + 1 + 1, 0, none⟩ = false) ∧ Below w.heap.size w W')
    (fun k pre W' => (k = .ret ∧ ∃ d, W'.cell? ⟨w.heap.size + 1 + 1 + 1, 0, none⟩ = some (.int .i64 d) ∧ ∃ p, valsL pre = p ++ [d] ∧ (∀ x ∈ p, far c ≤ far x.toNat) ∧ far d.toNat < far c) ∧ Below w.heap.size w W')
    (OwnFrom.and (Own.from (fun s A B row hs hg hr => ⟨hs.1, cell_kept hs.2.1 hg hr, cell_kept hs.2.2.1 hg hr, cell_kept hs.2.2.2.1 hg hr, (frozen_kept hs.2.2.2.1 hg hr).trans hs.2.2.2.2⟩) _) (ownFrom_below (Nat.le_refl _) (by simp; omega)))
    (fun k => OwnFrom.and (Own.from (fun s A B row hs hg hr => ⟨hs.1, by obtain ⟨d, hd, hh⟩ := hs.2; exact ⟨d, cell_kept hd hg hr, hh⟩⟩) _) (ownFrom_below (Nat.le_refl _) (by simp; omega)))
    ⟨⟨(fun y hy => by cases hy), b4'.cell, b5'.cell, b6'.cell, b6'.frozen⟩, hB1⟩
    (fun x => { tmps := #[.agg #[.int .i64 W, .int .i64 H, .string C], .slice (some ⟨gf, 0, none⟩) C.size cf, .int .i64 c, .pointer (some ⟨w.heap.size, 0, none⟩), .pointer (some ⟨w.heap.size + 1, 0, none⟩), .pointer (some ⟨w.heap.size + 1 + 1, 0, none⟩), .pointer (some ⟨w.heap.size + 1 + 1 + 1, 0, none⟩), .int .i64 x.1, .agg #[.int .i64 W, .int .i64 H, .string C], .int .i64 c, .func (.func 41) #[] #[.pointer (some ⟨w.heap.size + 1 + 1 + 1 + 1, 0, none⟩), .pointer (some ⟨w.heap.size + 1 + 1 + 1 + 1 + 1, 0, none⟩)], .int .i64 x.1, undef, undef, undef, undef, undef, undef, undef, undef, undef, undef, undef], defers := [] }) ?assign ?body ?done ?stop
  case assign =>
    intro l x W' K hK
    gi_wp2
    exact hK
  case body =>
    rintro l pre x W' ⟨⟨hp, k4, k5, k6, f6⟩, hB⟩ _
    obtain ⟨y, hy, hyn⟩ := around_in (by rw [HL.out]; exact x.2)
    obtain ⟨x, hx⟩ := x
    have hxy : x = (y : Int) := hy
    subst hxy
    have d1 : W'.cell? ⟨gf, y, none⟩ = some (.int .i64 (far y)) := (hB.cell (p := ⟨gf, y, none⟩) hgf).trans (hfar.out y hyn)
    have d2 : W'.cell? ⟨gf, c, none⟩ = some (.int .i64 (far c)) := (hB.cell (p := ⟨gf, c, none⟩) hgf).trans (hfar.out c hc)
    have hy2 : (y : Int) < (C.size : Int) := by omega
    have hc2 : (c : Int) < (C.size : Int) := by omega
    have HP := Lib.hid hp
    clear hp hy
    by_cases hlt : far y < far c
    · gi_wp2
      refine wpIn_round_tail 8 (by kernel_rfl) (by kernel_rfl) (by kernel_rfl) ?_
      simp only [List.take_succ_cons, List.take_zero, List.drop_succ_cons, List.drop_zero]
      repeat still_step
      refine wpStill_nil ?_
      go_wp2_with fail
      refine onlyN_normal ?_
      gi_wp2
      exact ⟨(KeepsOthers.setCell _ _ _).trans (KeepsOthers.drew _), ⟨rfl, (y : Int), World.cell?_setCell_same' W' ⟨w.heap.size + 1 + 1 + 1, 0, none⟩ _ (by rw [k6]; rfl), valsL pre, valsL_snoc _ _, HP.out, by simpa using hlt⟩, (hB.setCell (p := ⟨w.heap.size + 1 + 1 + 1, 0, none⟩) (by simp; omega) _).drew⟩
    · gi_wp2
      refine wpIn_round_tail 8 (by kernel_rfl) (by kernel_rfl) (by kernel_rfl) ?_
      simp only [List.take_succ_cons, List.take_zero, List.drop_succ_cons, List.drop_zero]
      repeat still_step
      refine wpStill_nil ?_
      go_wp2_with fail
      refine onlyN_normal ?_
      gi_wp2
      exact ⟨KeepsOthers.drew _, ⟨⟨Nat.le_refl _, rfl, rfl⟩, fun _ _ h => h⟩, ⟨fun t ht => by
        rw [valsL_snoc] at ht
        rcases List.mem_append.1 ht with h | h
        · exact HP.out t h
        · rw [List.mem_singleton.1 h]
          simpa using hlt, k4, k5, k6, f6⟩, hB.drew⟩
  case done =>
    rintro D ys W' hD hys ⟨⟨hne, _, k5, hcr, hfr⟩, hB⟩ hK
    gi_wp2
    have hK' := (KeepsOthers.setCell W' ⟨w.heap.size + 1 + 1 + 1, 0, none⟩ (.int .i64 c)).same D _ hK rfl
    refine ⟨by simp, .inl ⟨_, _, rfl, run_takeDeferred hK', ?_⟩⟩
    have hc5 := cell_kept (World.cell?_setCell_same' W' ⟨w.heap.size + 1 + 1 + 1, 0, none⟩ (.int .i64 c) (by rw [hcr]; rfl)) (grownBy_putObj' _ D (.deferred none)) (fun r e => by cases e; exact ⟨_, hK', rfl⟩)
    have hz : (c : Int) = z := by
      rw [← HZ.out]
      exact (nearV_none (fun d hd => by have := hne d (by rw [hys]; exact hd); omega)).symm
    refine ⟨.int .i64 c, ?_, int_ret hz rfl, (hB.setCell (p := ⟨w.heap.size + 1 + 1 + 1, 0, none⟩) (by simp; omega) _).trans (belowK_b (w := w) (Nat.le_refl _) _ D _ _ (by simp at hD; omega) hK' rfl rfl)⟩
    simp [results, Tryd.f29, go_sem, hc5]
  case stop =>
    rintro D k pre W' hD hpre ⟨⟨rfl, d, hcr, p, hp, hno, hyes⟩, hB⟩ hK
    gi_wp2
    refine ⟨by simp, .inl ⟨_, _, rfl, run_takeDeferred hK, ?_⟩⟩
    have hc5 := cell_kept hcr (grownBy_putObj' _ D (.deferred none)) (fun r e => by cases e; exact ⟨_, hK, rfl⟩)
    have hz : d = z := by
      rw [← HZ.out]
      exact (nearV_some (by rw [← hp]; exact hpre) (fun x hx => by have := hno x hx; omega) hyes).symm
    refine ⟨.int .i64 d, ?_, int_ret hz rfl, hB.trans (belowK_b (w := w) (Nat.le_refl _) W' D _ _ (by simp at hD; omega) hK rfl rfl)⟩
    simp [results, Tryd.f29, go_sem, hc5]

theorem nearI (W H : Int) (C : ByteArray) (c gf cf : Nat) (far : Nat → Int) (z : Int) (hC : C.size ≤ 1048576) (HZ : Hid (nearV far (aroundL W H C (c : Int)) c = z)) (hc : c < C.size) (w : World) (hgf : gf < w.heap.size) (hfar : Hid (∀ y, y < C.size → w.cell? ⟨gf, y, none⟩ = some (.int .i64 (far y)))) (hS : SidesAt w) :
    Calls Tryd.prog 29 #[.agg #[.int .i64 W, .int .i64 H, .string C], .slice (some ⟨gf, 0, none⟩) C.size cf, .int .i64 c] w (Made w (.int .i64 z)) :=
  callsIn_wide.1 (near_in W H C c gf cf far _ z hC (Lib.hid rfl) HZ hc w hgf hfar hS)

end Go.Proofs.YtgknnlbdkjhaoaaDoor
