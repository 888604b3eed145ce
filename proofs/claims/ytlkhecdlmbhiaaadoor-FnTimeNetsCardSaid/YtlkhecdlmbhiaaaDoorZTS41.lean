/-
  CONTRACT of the program's CanAt. No law is proved here.
  CONTRACT of the program's PairsOf. No law is proved here.
  Plain lemmas: an argument that is a slice of bytes, opened for the model's cursor, and read again after the call. No law is proved here.
-/
import Derived.Test.YtlkhecdlmbhiaaaDoorZTS30
import Derived.Test.YtlkhecdlmbhiaaaDoorZTS40
import Derived.Test.YtlkhecdlmbhiaaaDoorZTS24
import Derived.Test.YtlkhecdlmbhiaaaDoorZTS15
import Derived.Test.YtlkhecdlmbhiaaaDoorZTS18
import Derived.Test.YtlkhecdlmbhiaaaDoorZTS00
namespace Go.Proofs.YtlkhecdlmbhiaaaDoor
set_option maxRecDepth 4096
open Go.ChangeShapes Go.WideShapes Go.ChangeAt Go.RowKit

theorem implCan (W H : Int) (C : ByteArray) (S G : List Int) (T : Int) (vs vg : Value) (b : Bool) (hC : C.size ≤ 1048576) (hS : S.length ≤ 2000000) (hG : G.length ≤ 2000000) (HB : Hid (canV W H C S G T = b)) (w : World) (hs : Ints w vs S) (hg : Ints w vg G) (hSd : SidesAt w) :
    Calls Tryd.prog 12 #[.agg #[.int .i64 W, .int .i64 H, .string C], vs, vg, .int .i64 T] w (Made w (.bool b)) := by
  have hB := Below.refl (w.alloc (.cells #[.int .i64 W, .int .i64 H, .string C] 25)).heap.size (w.alloc (.cells #[.int .i64 W, .int .i64 H, .string C] 25))
  obtain ⟨c0, c1, c2⟩ := box_cells hB
  have HSS := Lib.hid hs
  have HGG := Lib.hid hg
  have HSD := Lib.hid hSd
  obtain ⟨al, cs, rfl, _⟩ := ints_form hs
  clear hs hg hSd
  obtain ⟨N, HN⟩ : ∃ N, Hid (timeNV W H C S G T false = N) := ⟨_, rfl⟩
  obtain ⟨A, HA⟩ : ∃ A, Hid (timeAV W H C S G T false = A) := ⟨_, rfl⟩
  have hA : A.length ≤ 3200 := by rw [← HA.out]; exact timeAV_len
  cases hk : askV W H C S G T with
  | false =>
    obtain rfl : b = false := HB.out.symm.trans (by unfold canV; rw [hk]; rfl)
    have HK := Lib.hid hk
    clear hk HB
    go_enter Tryd.func12, Tryd.ntmps12
    go_wp2_with fail
    refine (implTimeNet W H C S G T false _ _ N A false hC hS hG HN HA HK _ (ints_on HSS.out (box_below hB)) (ints_on HGG.out (box_below hB)) (HSD.out.below (box_below hB))).mono ?_
    rintro e w1 ⟨v, rfl, hown, hb⟩
    obtain ⟨av, cv, rfl⟩ := own_form hown
    replace hB := chain hB hb
    clear hb hown c0 c1 c2
    go_wp2_with fail
    go_ret
    exact ⟨rfl, box_below (hB.alloc hB.size _)⟩
  | true =>
    obtain ⟨z, HZ⟩ : ∃ z, Hid (mostS N A = z) := ⟨_, rfl⟩
    obtain rfl : decide (z = (S.length : Int)) = b := by rw [← HB.out, ← HZ.out, ← HN.out, ← HA.out]; unfold canV; rw [hk]; rfl
    have HK := Lib.hid hk
    clear hk HB
    go_enter Tryd.func12, Tryd.ntmps12
    go_wp2_with fail
    refine (implTimeNet W H C S G T false _ _ N A true hC hS hG HN HA HK _ (ints_on HSS.out (box_below hB)) (ints_on HGG.out (box_below hB)) (HSD.out.below (box_below hB))).mono ?_
    rintro e w1 ⟨v, rfl, hown, hb⟩
    obtain ⟨av, cv, rfl⟩ := own_form hown
    replace hB := chain hB hb
    have HAR := Lib.hid (arcs_on (arcs_of_own hown) ((Below.refl w1.heap.size w1).alloc (Nat.le_refl _) (.cells #[.int .i64 N, .slice av A.length cv] 32)))
    have hB2 := hB.alloc hB.size (.cells #[.int .i64 N, .slice av A.length cv] 32)
    clear hb hown c0 c1 c2 hB
    go_wp2_with fail
    refine (implMost N A _ z _ _ (by omega) HZ (Lib.hid rfl) (Lib.hid rfl) _ HAR.out).mono ?_
    rintro e w2 ⟨vo, rfl, _, hb⟩
    replace hB2 := chain hB2 hb
    clear hb HAR
    go_wp2_with fail
    go_ret
    exact ⟨bool_ret rfl (by first | rfl | simp), box_below hB2⟩

end Go.Proofs.YtlkhecdlmbhiaaaDoor

namespace Go.Proofs.YtlkhecdlmbhiaaaDoor
set_option maxRecDepth 4096
open Go.ChangeShapes Go.WideShapes Go.ChangeAt Go.RowKit Go.Shelf

attribute [local go_sem] Oper.semAt_some

/-- How many of the list are greater than x. -/
def cntUp (x : Int) (L : List Int) : Nat := (L.filter fun d => decide (x < d)).length
theorem cntUp_le (x : Int) (L : List Int) : cntUp x L ≤ L.length := List.length_filter_le _ _
theorem cntUp_yes {x y : Int} {L : List Int} (h : x < y) : cntUp x (L ++ [y]) = cntUp x L + 1 := by simp [cntUp, h]
theorem cntUp_no {x y : Int} {L : List Int} (h : ¬ x < y) : cntUp x (L ++ [y]) = cntUp x L := by simp [cntUp, h]

set_option maxRecDepth 100000 in
set_option maxHeartbeats 2000000 in
theorem pairs_in (W H : Int) (C : ByteArray) (z : Int) (L : List Int) (hC : C.size ≤ 1048576) (HL : Hid (freeL W H C = L)) (HZ : Hid (((ups W H C L L.length : Nat) : Int) = z)) (w : World) (hS : SidesAt w) :
    CallsIn Fence.wide 6 Tryd.prog 14 #[.agg #[.int .i64 W, .int .i64 H, .string C]] w (Made w (.int .i64 z)) := by
  refine callsIn_of_wp_marks Tryd.func14 rfl trivial ?_ rfl
  simp only [Tryd.ntmps14, List.size_toArray, List.length_cons, List.length_nil, Nat.reduceAdd, Nat.reduceSub, Array.replicate_succ, Array.replicate_zero, List.push_toArray, List.append_toArray, List.nil_append, List.cons_append]
  gi_wp2_with (refine ⟨trivial, ?_⟩; gi_at_call 11; refine (callsIn_wide.2 (implFreeCells W H C L hC HL _)).mono ?_; rintro e w1 ⟨v, rfl, hown, hb⟩; obtain ⟨av, cv, rfl, HV⟩ := ints_at hown; have HVh := Lib.hid HV; clear HV hown)
  have hs1 : w.heap.size + 1 + 1 ≤ w1.heap.size := by have := hb.size; simpa using this
  have hlen : L.length ≤ 64 := by rw [← HL.out]; exact Nat.le_trans (picks_len _ _) (Nat.min_le_right _ 64)
  have hB1 : Below w.heap.size w w1 := ((((Below.refl _ w).alloc (Nat.le_refl _) _).alloc (by simp) _)).trans (hb.mono (by simp; omega))
  have hP1 : Boxed w1 (w.heap.size + 1) 3 (.int .i64 ((ups W H C L 0 : Nat) : Int)) := (hb.block _ (by simp)).trans (by
    have h1 := heap_alloc_new (w.alloc (.cells #[.int .i64 W, .int .i64 H, .string C] 25)) (.cells #[.int .i64 0] 3)
    rw [World.size_alloc] at h1
    exact h1)
  have hG1 : w1.heap[w.heap.size]? = some (.cells #[.int .i64 W, .int .i64 H, .string C] 25 (0, 0)) := (hb.block _ (by simp; omega)).trans ((@Go.heap_alloc_old _ _ _ (by simp)).trans (heap_alloc_new w _))
  refine wpIn_loop (fun a' wr => ∃ (k : Nat) (ms : List Nat) (u5 u11 u12 u13 u14 u15 u16 u23 : Value), a' = { tmps := #[.agg #[.int .i64 W, .int .i64 H, .string C], .pointer (some ⟨w.heap.size, 0, none⟩), .int .i64 0, .pointer (some ⟨w.heap.size + 1, 0, none⟩), undef, u5, undef,
      .agg #[.int .i64 W, .int .i64 H, .string C], .slice av L.length cv, .int .i64 L.length, .int .i64 k, u11, u12, u13, u14, u15, u16, undef, undef, undef, undef, undef, undef, u23, undef], defers := ms.map markD } ∧ k ≤ L.length ∧ ms.Nodup ∧
      (∀ r ∈ ms, w.heap.size ≤ r ∧ wr.heap[r]? = some (.deferred (some []))) ∧ w1.grownBy wr (some (w.heap.size + 1)) ∧ Boxed wr (w.heap.size + 1) 3 (.int .i64 ((ups W H C L k : Nat) : Int)))
    (fun a' _ => L.length - (intOf (a'.tmps.getD 10 undef)).toNat) ?start ?round
  case start => exact ⟨0, [], _, _, _, _, _, _, _, _, rfl, Nat.zero_le _, List.Pairwise.nil, (fun _ h => by cases h), grown_refl _ _, hP1⟩
  case round =>
    rintro a' wr ⟨k, ms, u5, u11, u12, u13, u14, u15, u16, u23, rfl, hk, hnd, hms, hgr, hP⟩
    have hrs := hgr.size
    by_cases hlt : k < L.length
    · obtain ⟨x, hx⟩ : ∃ x, L[k]? = some x := ⟨_, List.getElem?_eq_getElem hlt⟩
      rcases HVh.out with h0 | ⟨g, rfl, hgB, hg, hc⟩
      · omega
      · have d0 : wr.cell? ⟨g, k, none⟩ = some (.int .i64 x) := (grown_cell hgr hg (by simp at hgB; omega) k).trans (hc k x hx)
        have hGr : wr.heap[w.heap.size]? = some (.cells #[.int .i64 W, .int .i64 H, .string C] 25 (0, 0)) := (hgr.block _ (by omega) (by simp)).trans hG1
        have c0 : wr.cell? ⟨w.heap.size, 0, none⟩ = some (.int .i64 W) := by rw [cell_of_row _ _ _ _ _ _ hGr]; rfl
        have c1 : wr.cell? ⟨w.heap.size, 1, none⟩ = some (.int .i64 H) := by rw [cell_of_row _ _ _ _ _ _ hGr]; rfl
        have c2 : wr.cell? ⟨w.heap.size, 2, none⟩ = some (.string C) := by rw [cell_of_row _ _ _ _ _ _ hGr]; rfl
        have hwr : w.heap.size < wr.heap.size := by omega
        have hlt2 : (k : Int) < (L.length : Int) := by omega
        have HX := Lib.hid hx
        clear hx hc
        gi_wp2_with (refine ⟨trivial, ?_⟩; gi_at_call 45; refine (callsIn_wide.2 (implNeighbors W H C x _)).mono ?_; rintro e w2 ⟨rfl, rfl⟩)
        obtain ⟨Lx, HLx⟩ : ∃ Lx, Hid (aroundL W H C x = Lx) := ⟨_, rfl⟩
        have hBr : Below w.heap.size w wr := hB1.grown hgr (by omega) (fun k e => by cases e; omega)
        have hBs := ((hBr.alloc hBr.size (.cells #[.int .i64 x] 3)).alloc (by simp; omega) (.cells #[.int .i64 W, .int .i64 H, .string C] 25)).alloc (by simp; omega) (.cells #[.int .i64 x] 3)
        have hgs := grown_alloc (grown_alloc (grown_alloc hgr (.cells #[.int .i64 x] 3)) (.cells #[.int .i64 W, .int .i64 H, .string C] 25)) (.cells #[.int .i64 x] 3)
        have hPs := ((hP.alloc (.cells #[.int .i64 x] 3)).alloc (.cells #[.int .i64 W, .int .i64 H, .string C] 25)).alloc (.cells #[.int .i64 x] 3)
        have hXs := ((Boxed.new wr 3 (.int .i64 x)).alloc (.cells #[.int .i64 W, .int .i64 H, .string C] 25)).alloc (.cells #[.int .i64 x] 3)
        have hms2 : ∀ r ∈ ms, (((wr.alloc (.cells #[.int .i64 x] 3)).alloc (.cells #[.int .i64 W, .int .i64 H, .string C] 25)).alloc (.cells #[.int .i64 x] 3)).heap[r]? = some (.deferred (some [])) ∧ r < wr.heap.size ∧ r ≠ w.heap.size + 1 := fun r hr => by
          have hl := (Array.getElem?_eq_some_iff.1 (hms r hr).2).1
          refine ⟨?_, hl, fun e => by have := (hms r hr).2; rw [e] at this; have := this.symm.trans hP; simp at this⟩
          rw [@Go.heap_alloc_old _ _ _ (by simp; omega), @Go.heap_alloc_old _ _ _ (by simp; omega), @Go.heap_alloc_old _ _ _ hl]
          exact (hms r hr).2
        have hcap := caps_new W H C x (wr.alloc (.cells #[.int .i64 x] 3)) 25 3
        simp only [World.size_alloc] at hcap
        have hst := nbr_stops W H C x Lx hC HLx 5 _ _ _ hcap (hS.below hBs)
        have hss : (((wr.alloc (.cells #[.int .i64 x] 3)).alloc (.cells #[.int .i64 W, .int .i64 H, .string C] 25)).alloc (.cells #[.int .i64 x] 3)).heap.size = wr.heap.size + 3 := by simp
        have hG2 := hcap.2.2.2.2.1
        have hK2 := hcap.2.2.2.2.2
        clear hcap
        generalize ((wr.alloc (.cells #[.int .i64 x] 3)).alloc (.cells #[.int .i64 W, .int .i64 H, .string C] 25)).alloc (.cells #[.int .i64 x] 3) = ws at *
        have hxs := hXs.cell
        have hup := ups_le W H C L k
        refine wpIn_rangeFunc_ownG rfl (by decide) (gf := 72) (lb := #[.pointer (some ⟨wr.heap.size + 1, 0, none⟩), .pointer (some ⟨wr.heap.size + 1 + 1, 0, none⟩)]) rfl trivial (enters_of Tryd.func72 (by kernel_rfl) rfl)
          hst nbrK_t (nbrK_b hG2 hK2) (Below.refl _ _) (fun _ => rfl)
          (fun pre W' => ws.grownBy W' (some (w.heap.size + 1)) ∧ Boxed W' (w.heap.size + 1) 3 (.int .i64 ((ups W H C L k + cntUp x pre : Nat) : Int)))
          (fun _ _ _ => False)
          (fun s A B row hs hg hr => ⟨grown_trans hs.1 hg (fun r e => .inl (hr r e).1), hs.2.kept hg (fun e => by have := (hr _ e.symm).1; omega)⟩)
          (fun _ _ _ _ _ hs _ _ => hs)
          ⟨grown_refl _ _, hPs⟩
          (fun y => { tmps := #[.agg #[.int .i64 W, .int .i64 H, .string C], .pointer (some ⟨w.heap.size, 0, none⟩), .int .i64 0, .pointer (some ⟨w.heap.size + 1, 0, none⟩), undef, .pointer (some ⟨wr.heap.size, 0, none⟩), .int .i64 y,
            .agg #[.int .i64 W, .int .i64 H, .string C], .slice (some ⟨g, 0, none⟩) L.length cv, .int .i64 L.length, .int .i64 k, .bool true, .pointer (some ⟨g, k, none⟩), .int .i64 x, .agg #[.int .i64 W, .int .i64 H, .string C], .int .i64 x, .func (.func 72) #[] #[.pointer (some ⟨wr.heap.size + 1, 0, none⟩), .pointer (some ⟨wr.heap.size + 1 + 1, 0, none⟩)], .int .i64 y, undef, undef, undef, undef, undef, u23, undef], defers := [] }) ?assign ?body ?done ?stop
        case assign =>
          intro l y W' K hK
          gi_wp2
          exact hK
        case body =>
          rintro l pre y W' ⟨hg', hv⟩ hlen4
          have hc := hv.cell
          have hf := hv.frozen
          have hxc : W'.cell? ⟨wr.heap.size, 0, none⟩ = some (.int .i64 x) := (grown_cell hg' (by omega) (by omega) 0).trans hxs
          have hcn := cntUp_le x pre
          obtain ⟨N, hN⟩ : ∃ N, N = ups W H C L k + cntUp x pre := ⟨_, rfl⟩
          rw [← hN] at hc
          have HN := Lib.hid hN
          have hNb : N ≤ 300 := by omega
          clear hN
          gi_wp2
          · have hxy : x < y := by assumption
            exact ⟨(KeepsOthers.setCell _ _ _).from _, nbrK_set (by omega) (by omega) hv _, grown_trans hg' (grownBy_setCell' W' _ _) (fun r e => .inr (by cases e; rfl)), by
              rw [cntUp_yes hxy, ← Nat.add_assoc, ← HN.out]
              exact hv.set _⟩
          · have hxy : ¬ x < y := by rename_i h; omega
            exact ⟨KeepsFrom.refl _ _, nbrK_refl _ _ _, hg', by rw [cntUp_no hxy]; exact hv⟩
        case done =>
          rintro D ys W' hD rfl ⟨hg', hv⟩ hK
          gi_wp2
          have hDn : D ∉ ms := fun h => by have := (hms2 D h).2.1; omega
          refine ⟨⟨k + 1, D :: ms, _, _, _, _, _, _, _, _, rfl, by omega, List.nodup_cons.2 ⟨hDn, hnd⟩, fun r hr => ?_, grown_trans hgs hg' (fun r e => .inr (by cases e; rfl)), ?_⟩, ?_⟩
          · rcases List.mem_cons.1 hr with rfl | hr
            · exact ⟨by omega, hK⟩
            · obtain ⟨h1, h2, h3⟩ := hms2 r hr
              exact ⟨(hms r hr).1, (hg'.block r (by omega) (fun e => h3 (by cases e; rfl))).trans h1⟩
          · rw [ups_succ HX.out, upV, HLx.out]
            exact hv
          · simp [intOf]; omega
        case stop =>
          rintro D c pre W' _ _ h _
          exact h.elim
    · obtain rfl : k = L.length := by omega
      have hc := hP.cell
      gi_wp2
      show LeavesInM Fence.wide 6 Tryd.prog Tryd.f14 _ (Made w (.int .i64 z)) (ms.map markD) .returning wr
      refine leavesMarks (v := .int .i64 z) (fun w' => ?_) w (fun w' h => ⟨rfl, h⟩) ms wr hnd hms (hB1.grown hgr (by omega) (fun k e => by cases e; omega))
      rw [← HZ.out]
      exact results_tmp Tryd.results14 _ _ _

theorem implPairs (W H : Int) (C : ByteArray) (z : Int) (hC : C.size ≤ 1048576) (HZ : Hid (pairsV W H C = z)) (w : World) (hS : SidesAt w) :
    Calls Tryd.prog 14 #[.agg #[.int .i64 W, .int .i64 H, .string C]] w (Made w (.int .i64 z)) :=
  callsIn_wide.1 (pairs_in W H C z _ hC (Lib.hid rfl) (Lib.hid (by rw [← pairs_up]; exact HZ.out)) w hS)

end Go.Proofs.YtlkhecdlmbhiaaaDoor

namespace Go.Proofs.YtlkhecdlmbhiaaaDoor
set_option maxRecDepth 4096
open Go.ChangeShapes Go.WideShapes Go.ChangeAt Go.RowKit

section
variable {H : Type} {enc : TypeId × Value → H}

/-- The argument is read again as it was, whatever a call made behind it. -/
def AgainB (enc : TypeId × Value → H) (w : World) (v : Value) (d : DataW H) (ps : List MemPlace) : Prop :=
  ∀ (w1 : World), Below w.heap.size w w1 → ∀ sp : Nat → Bool, (∀ p ∈ ps, sp p.block = true) → DataW.Trod enc Tryd.prog w1 0 sp true 22 v d ps

theorem open_arg_bytes {w : World} {r : Reach} {b0 : Nat} {v : Value} {d : DataW H} {ps : List MemPlace} (hv : Value.okWide Tryd.prog w r b0 22 v) (h : DataW.Trod enc Tryd.prog w 0 (fun _ => true) true 22 v d ps) :
    ∃ N, CodeB w v N w.heap.size ∧ N ≤ maxLen ∧ AgainB enc w v d ps := by
  obtain ⟨a0, len0, cap0, rfl⟩ := okWide_slice Tryd.underlying22 hv
  obtain ⟨fuel, hf⟩ := h
  rcases open_ints Tryd.underlying22 Tryd.underlying5 (by kernel_rfl) hf with ⟨hcs, hx⟩ | ⟨a, len, cap, zs, hcs, _, hl, hm, hz, hx, hcell, hwz⟩
  · simp [Value.cells] at hcs
    obtain ⟨rfl, rfl, rfl⟩ := hcs
    obtain ⟨rfl, rfl⟩ := Prod.mk.inj hx
    exact ⟨0, ⟨none, 0, rfl, .inl rfl⟩, Nat.zero_le _, fun w1 _ sp _ => shut_slice_nil Tryd.underlying22⟩
  · simp [Value.cells] at hcs
    obtain ⟨rfl, rfl, rfl⟩ := hcs
    obtain ⟨rfl, rfl⟩ := Prod.mk.inj hx
    simp only [if_true] at hz
    have hbl : ∀ i, (a.add i).block = a.block := fun i => by unfold Addr.add; split <;> rfl
    have hlt : ∀ i, i < zs.length → a.block < w.heap.size := fun i hi => by have := block_lt_of_cell (hcell i hi); rwa [hbl] at this
    refine ⟨len0, ⟨some a, cap0, rfl, ?_⟩, by omega, fun w1 hb sp hsp => ?_⟩
    · by_cases h0 : len0 = 0
      · exact .inl h0
      · refine .inr ⟨a, rfl, hlt 0 (by omega), hlt 0 (by omega), fun j hj => ⟨_, ?_, ?_, hcell j (by omega)⟩⟩
        all_goals
          have hb := range_u8 hwz j
          rw [List.getD_eq_getElem?_getD]
          omega
    · by_cases hc0 : cap0 = 0
      · exact ⟨2, shut_ints 0 Tryd.underlying22 Tryd.underlying5 (by kernel_rfl) (Nat.zero_le _) hl hm (by split <;> omega) (fun i hi => by omega) hwz⟩
      · have hs : sp a.block = true := by
          have hin : MemPlace.cell a.block a.off ∈ MemPlace.row a zs.length := MemPlace.mem_row.2 ⟨0, by omega, rfl⟩
          exact hsp _ hin
        exact ⟨2, shut_ints 0 Tryd.underlying22 Tryd.underlying5 (by kernel_rfl) (Nat.zero_le _) hl hm (by rw [if_pos hs]; exact hz) (fun i hi => (hb.cell (p := a.add i) (by rw [hbl]; exact hlt i hi)).trans (hcell i hi)) hwz⟩
end

end Go.Proofs.YtlkhecdlmbhiaaaDoor

