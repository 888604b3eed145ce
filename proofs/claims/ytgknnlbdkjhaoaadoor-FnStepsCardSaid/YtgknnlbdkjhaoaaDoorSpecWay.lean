/-
  CONTRACT of spec.WayTo. No law is proved here.
-/
import Derived.Test.YtgknnlbdkjhaoaaDoorSpecTo
namespace Go.Proofs.YtgknnlbdkjhaoaaDoor
open Go.ChangeShapes Go.WideShapes Go.ChangeAt Go.RowKit

/-- The steps from each cell to b. -/
noncomputable def farF (W H : Int) (C : ByteArray) (b : Int) : Nat → Int := runB (nbN W H C) C.size (srcN [b]) C.size
/-- The first of the list that lies n steps from the end; x where there is none. -/
noncomputable def pickN (far : Nat → Int) (n : Nat) (L : List Int) (x : Int) : Int := (L.find? fun d => decide (far d.toNat = (n : Int))).getD x
noncomputable def wayAt (W H : Int) (C : ByteArray) (far : Nat → Int) : Nat → Int → List Int
  | 0, x => [x]
  | n + 1, x => x :: wayAt W H C far n (pickN far n (aroundL W H C x) x)
noncomputable def wayL (W H : Int) (C : ByteArray) (a b : Int) : List Int := if 0 ≤ stepsToV W H C a b then wayAt W H C (farF W H C b) (stepsToV W H C a b).toNat a else []

theorem own_one (w : World) (base : Nat) (hb : base ≤ w.heap.size) (x : Int) : (w.alloc (.cells #[.int .i64 x] 3)).ownsRow base 3 1 (.slice (some ⟨w.heap.size, 0, none⟩) 1 1) 1 [.int .i64 x] :=
  ⟨by simp, .inr ⟨w.heap.size, 1, #[.int .i64 x], rfl, hb, heap_alloc_new w _, Nat.le_refl _, by decide, rfl, by simp⟩⟩
theorem wayAt_len (W H : Int) (C : ByteArray) (far : Nat → Int) : ∀ (n : Nat) (x : Int), (wayAt W H C far n x).length = n + 1
  | 0, _ => rfl
  | n + 1, x => by rw [wayAt, List.length_cons, wayAt_len]

theorem far_le (W H : Int) (C : ByteArray) (b : Int) (c : Nat) : farF W H C b c ≤ (C.size : Int) := by
  unfold farF
  rcases run_least (nbN W H C) C.size (srcN [b]) C.size c with ⟨j, hj, hjk, _⟩ | ⟨hv, _⟩
  · rw [hj]; omega
  · rw [hv]; omega
theorem stepsTo_le (W H : Int) (C : ByteArray) (a b : Int) : stepsToV W H C a b ≤ (C.size : Int) := by
  unfold stepsToV
  split
  · exact far_le W H C a _
  · omega
theorem stepsTo_free {W H : Int} {C : ByteArray} {a b : Int} (h : 0 ≤ stepsToV W H C a b) : freeV W H C a = true ∧ freeV W H C b = true := by
  unfold stepsToV at h
  split at h
  · assumption
  · omega

theorem specWay_no (W H : Int) (C : ByteArray) (a b z : Int) (hC : C.size ≤ 1048576) (HZ : Hid (stepsToV W H C a b = z)) (hz : z < 0) (w : World) :
    Calls Tryd.prog 22 #[.agg #[.int .i64 W, .int .i64 H, .string C], .int .i64 a, .int .i64 b] w (IntsBack w []) := by
  have hB := Below.refl (w.alloc (.cells #[.int .i64 W, .int .i64 H, .string C] 25)).heap.size (w.alloc (.cells #[.int .i64 W, .int .i64 H, .string C] 25))
  go_enter Tryd.func22, Tryd.ntmps22
  go_wp2_with fail
  refine (specStepsTo W H C a b z hC HZ _).mono ?_
  rintro e w1 ⟨rfl, hb⟩
  have hs := hB.size
  replace hB := chain hB hb
  have hs1 := hb.size
  go_wp2_with fail
  go_ret
  have hs2 := hB.size
  exact ⟨_, rfl, own_base (World.ownsRow_made (base := w1.heap.size) w1 #[] 0 (Nat.le_refl _) (by decide) rfl) (by simp at hs2; omega), box_below (hB.alloc hB.size _)⟩

theorem pickN_hit {far : Nat → Int} {n k : Nat} {L : List Int} {x y : Int} (hk : ∀ j z, j < k → L[j]? = some z → ¬ far z.toNat = (n : Int)) (hy : L[k]? = some y) (h : far y.toNat = (n : Int)) : pickN far n L x = y := by
  unfold pickN
  obtain ⟨hlt, rfl⟩ := List.getElem?_eq_some_iff.1 hy
  have : L.find? (fun d => decide (far d.toNat = (n : Int))) = some L[k] := by
    rw [List.find?_eq_some_iff_getElem]
    exact ⟨by simpa using h, k, hlt, rfl, fun j hj => by simpa using hk j _ hj (List.getElem?_eq_getElem (by omega))⟩
  rw [this]
  rfl
theorem pickN_none {far : Nat → Int} {n : Nat} {L : List Int} {x : Int} (hk : ∀ j z, j < L.length → L[j]? = some z → ¬ far z.toNat = (n : Int)) : pickN far n L x = x := by
  unfold pickN
  have : L.find? (fun d => decide (far d.toNat = (n : Int))) = none := by
    rw [List.find?_eq_none]
    intro z hz
    obtain ⟨j, hj, rfl⟩ := List.getElem_of_mem hz
    simpa using hk j _ hj (List.getElem?_eq_getElem hj)
  rw [this]
  rfl

theorem far_on {w5 w6 : World} {o : Obj} {r : Option Nat} {g n : Nat} {far : Nat → Int} (hg : (w5.alloc o).grownBy w6 r) (h : g < w5.heap.size) (hr : ¬ r = some g) (hf : ∀ y, y < n → w5.cell? ⟨g, y, none⟩ = some (.int .i64 (far y))) :
    ∀ y, y < n → w6.cell? ⟨g, y, none⟩ = some (.int .i64 (far y)) := fun y hy => by
  have e := (hg.block g (by simp; omega) (fun e => hr e.symm)).trans (by first | exact heap_alloc_old _ _ h | exact heap_alloc_old _ _ _ h)
  rw [← hf y hy]
  simp [World.cell?, e]

set_option maxHeartbeats 4000000 in
theorem specWay_yes (W H : Int) (C : ByteArray) (a b : Int) (n : Nat) (R : List Int) (hC : C.size ≤ 1048576) (hb : freeV W H C b = true) (HN : Hid (stepsToV W H C a b = (n : Int))) (HR : Hid (wayAt W H C (farF W H C b) n a = R)) (w : World) :
    Calls Tryd.prog 22 #[.agg #[.int .i64 W, .int .i64 H, .string C], .int .i64 a, .int .i64 b] w (IntsBack w R) := by
  obtain ⟨i0, hi, hz0, hz1, hz2⟩ := info_parts Tryd.info3
  obtain ⟨F, HF⟩ : ∃ F, Hid (stepsL W H C [b] = F) := ⟨_, rfl⟩
  have hg := (free_in hb).1
  have hF : F = rowO (farF W H C b) C.size := by
    rw [← HF.out]
    exact if_pos ⟨hg, fun x hx => by rw [List.mem_singleton.1 hx]; exact hb⟩
  have HFR := Lib.hid hF
  have hn64 : n ≤ 64 := by have := stepsTo_le W H C a b; rw [HN.out] at this; have := gok_few2 hg; omega
  have hs1 : 1 ≤ C.size := gok_some hg
  clear hF hb hg
  have hB := Below.refl (w.alloc (.cells #[.int .i64 W, .int .i64 H, .string C] 25)).heap.size (w.alloc (.cells #[.int .i64 W, .int .i64 H, .string C] 25))
  go_enter Tryd.func22, Tryd.ntmps22
  go_wp2_with fail
  refine (specStepsTo W H C a b n hC HN _).mono ?_
  rintro e w1 ⟨rfl, hb⟩
  replace hB := chain hB hb
  obtain ⟨c0, c1, c2⟩ := box_cells hB
  clear hb
  have hI := ints_cell1 w1 b 3
  replace hB := hB.alloc hB.size (.cells #[.int .i64 b] 3)
  go_wp2_with fail
  refine (specSteps W H C [b] F _ hC (by simp) HF _ hI).mono ?_
  rintro e w2 ⟨v, rfl, hown, hb⟩
  replace hB := chain hB hb
  clear hb hI c0 c1 c2
  rw [HFR.out, rowO_len] at hown
  obtain ⟨g, cap, rfl⟩ : ∃ g cap, v = .slice (some ⟨g, 0, none⟩) C.size cap := by
    rcases hown.2 with ⟨_, h⟩ | ⟨g, cap, cur, h, _⟩
    · omega
    · exact ⟨g, cap, h⟩
  have ho := own_one w2 w2.heap.size (Nat.le_refl _) a
  have hgl : g < w2.heap.size := (hown.lt g rfl).2
  have hBa := hB.alloc hB.size (.cells #[.int .i64 a] 3)
  have hfr := hown.alloc (.cells #[.int .i64 a] 3)
  have hs2 := box_size hB
  clear hown hB
  go_wp2_with fail
  go_loopw [1, 7, 9] (fun a' n' v wr => ∃ (x : Int) (m : Nat) (pre : List Int), a' = .int .i64 x ∧ n' = .int .i64 m ∧ pre.length + m = n ∧ wr.ownsRow w2.heap.size 3 1 v (pre ++ [x]).length ((pre ++ [x]).map (Value.int .i64)) ∧
    Below (w.alloc (.cells #[.int .i64 W, .int .i64 H, .string C] 25)).heap.size (w.alloc (.cells #[.int .i64 W, .int .i64 H, .string C] 25)) wr ∧ w2.heap.size ≤ wr.heap.size ∧ (∀ y, y < C.size → wr.cell? ⟨g, y, none⟩ = some (.int .i64 (farF W H C b y))) ∧
    Hid (pre ++ wayAt W H C (farF W H C b) m x = R)) (fun _ n' _ _ => (intOf n').toNat)
  case atStart => exact ⟨a, n, [], rfl, rfl, by simp, by simpa using ho, hBa, by simp, fun y hy => own_num hfr hy, Lib.hid (by rw [← HR.out]; rfl)⟩
  case round =>
    clear ho hfr hBa
    obtain ⟨x, m, pre, rfl, rfl, hpm, hown, hB, hsw, hfar, HP⟩ := hrel
    obtain ⟨c0, c1, c2⟩ := box_cells hB
    cases m with
    | zero =>
      have HE : Hid (pre ++ [x] = R) := Lib.hid HP.out
      clear hfar
      go_wp2_with fail
      go_ret
      exact ⟨_, rfl, by rw [← HE.out]; exact own_base hown (by omega), box_below hB⟩
    | succ m =>
      have hm0 : (0 : Int) < ((m + 1 : Nat) : Int) := by omega
      obtain ⟨Lx, HLx⟩ : ∃ Lx, Hid (aroundL W H C x = Lx) := ⟨_, rfl⟩
      have hl4 : Lx.length ≤ 4 := by rw [← HLx.out]; exact aroundL_len W H C x
      go_wp2_with fail
      refine (specAround W H C x Lx hC HLx _).mono ?_
      rintro e w5 ⟨v5, rfl, hownL, hb⟩
      have hs5 := hb.size
      have hown5 := own_below hown hb hsw
      have hfar5 : ∀ y, y < C.size → w5.cell? ⟨g, y, none⟩ = some (.int .i64 (farF W H C b y)) := fun y hy => (hb.cell (p := ⟨g, y, none⟩) (Nat.lt_of_lt_of_le hgl hsw)).trans (hfar y hy)
      replace hB := chain hB hb
      obtain ⟨a5, c5, rfl, HV⟩ := ints_form (ints_of_own hownL)
      have HVh := Lib.hid HV
      have hsw5 : w2.heap.size ≤ w5.heap.size := Nat.le_trans hsw hs5
      have hlen : (pre ++ [x]).length = pre.length + 1 := by simp
      clear hb hown hfar HV hownL c0 c1 c2
      go_wp2_with fail
      go_loop [1, 11] (fun a' i => a' = .int .i64 x ∧ ∃ k : Nat, k ≤ Lx.length ∧ i = .int .i64 k ∧ Hid (∀ j z, j < k → Lx[j]? = some z → ¬ farF W H C b z.toNat = (m : Int))) (fun _ i => Lx.length - (intOf i).toNat)
      case atStart => exact ⟨rfl, 0, Nat.zero_le _, rfl, Lib.hid (fun j z hj => absurd hj (Nat.not_lt_zero _))⟩
      case round =>
        obtain ⟨rfl, k, hk, rfl, HK⟩ := hrel
        by_cases hil : k < Lx.length
        · obtain ⟨z, hz⟩ : ∃ z, Lx[k]? = some z := ⟨_, List.getElem?_eq_getElem hil⟩
          obtain ⟨y, rfl, hy⟩ := around_in (c := x) (x := z) (by rw [HLx.out]; exact List.mem_of_getElem? hz)
          rcases HVh.out with h0 | ⟨gl, rfl, hgl5, hc⟩
          · omega
          · have d3 := hc k y hz
            have d4 := hfar5 y hy
            have hil2 : (k : Int) < (Lx.length : Int) := by omega
            have hy2 : (y : Int) < (C.size : Int) := by omega
            have HZ := Lib.hid hz
            clear hz hc
            by_cases hit : farF W H C b y = (m : Int)
            · have hit2 : (farF W H C b y == (m : Int)) = true := by simpa using hit
              have HQ : Hid (pre ++ [x] ++ wayAt W H C (farF W H C b) m (y : Int) = R) := Lib.hid (by
                rw [← HP.out, wayAt, HLx.out, pickN_hit HK.out HZ.out (by simpa using hit), List.append_assoc]
                rfl)
              clear hit
              go_wp2_with (at_builtin; refine wpList_append_own _ rfl _ _ 26 rfl w2.heap.size 3 i0 (.int .i64 0) 1 8 Tryd.underlying26 hi hz0 hz1 hz2 rfl (by decide) _ _ _ rfl (hown5.alloc _) ⟨w5.heap.size, 0, none⟩ 1 1 ([(y : Int)].map (Value.int .i64)) rfl rfl (int_new _ _ _) (ints_one _) (by unfold maxLen; omega) (by omega) (by simp; omega) ?_; intro v' w6 hown6 hgrow _; have hB6 := (hB.alloc hB.size _).grown hgrow (by simp; omega) (fun j hj => by have := (hown5.lt j hj).1; simp; omega); have hs6 : w2.heap.size ≤ w6.heap.size := Nat.le_trans (by simp; omega) hgrow.size; have hfar6 := far_on hgrow (Nat.lt_of_lt_of_le hgl hsw5) (fun e => by have := (hown5.lt g e).1; omega) hfar5; clear hgrow)
              go_roundw
              case rel => exact ⟨y, m, pre ++ [x], rfl, rfl, by simp; omega, ints_push hown6 rfl, hB6, hs6, hfar6, HQ⟩
              case measure => simp [intOf]
            · have hit2 : (farF W H C b y == (m : Int)) = false := by simpa using hit
              have HK2 : Hid (∀ j z, j < k + 1 → Lx[j]? = some z → ¬ farF W H C b z.toNat = (m : Int)) := Lib.hid (fun j z hj hz => by
                rcases Nat.lt_or_ge j k with h | h
                · exact HK.out j z h hz
                · obtain rfl : j = k := by omega
                  obtain rfl : (y : Int) = z := Option.some.inj (HZ.out.symm.trans hz)
                  simpa using hit)
              clear hit
              go_wp2_with fail
              go_round
              case rel => exact ⟨rfl, k + 1, by omega, by go_num, HK2⟩
              case measure => simp [intOf]; omega
        · obtain rfl : k = Lx.length := by omega
          have HQ : Hid (pre ++ [x] ++ wayAt W H C (farF W H C b) m x = R) := Lib.hid (by
            rw [← HP.out, wayAt, HLx.out, pickN_none HK.out, List.append_assoc]
            rfl)
          go_wp2_with (at_builtin; refine wpList_append_own _ rfl _ _ 26 rfl w2.heap.size 3 i0 (.int .i64 0) 1 8 Tryd.underlying26 hi hz0 hz1 hz2 rfl (by decide) _ _ _ rfl (hown5.alloc _) ⟨w5.heap.size, 0, none⟩ 1 1 ([(x : Int)].map (Value.int .i64)) rfl rfl (int_new _ _ _) (ints_one _) (by unfold maxLen; omega) (by omega) (by simp; omega) ?_; intro v' w6 hown6 hgrow _; have hB6 := (hB.alloc hB.size _).grown hgrow (by simp; omega) (fun j hj => by have := (hown5.lt j hj).1; simp; omega); have hs6 : w2.heap.size ≤ w6.heap.size := Nat.le_trans (by simp; omega) hgrow.size; have hfar6 := far_on hgrow (Nat.lt_of_lt_of_le hgl hsw5) (fun e => by have := (hown5.lt g e).1; omega) hfar5; clear hgrow)
          go_roundw
          case rel => exact ⟨x, m, pre ++ [x], rfl, rfl, by simp; omega, ints_push hown6 rfl, hB6, hs6, hfar6, HQ⟩
          case measure => simp [intOf]

theorem specWayTo (W H : Int) (C : ByteArray) (a b : Int) (R : List Int) (hC : C.size ≤ 1048576) (HR : Hid (wayL W H C a b = R)) (w : World) :
    Calls Tryd.prog 22 #[.agg #[.int .i64 W, .int .i64 H, .string C], .int .i64 a, .int .i64 b] w (IntsBack w R) := by
  by_cases h : 0 ≤ stepsToV W H C a b
  · obtain ⟨n, hn⟩ : ∃ n : Nat, stepsToV W H C a b = n := ⟨(stepsToV W H C a b).toNat, by omega⟩
    refine specWay_yes W H C a b n R hC (stepsTo_free h).2 (Lib.hid hn) (Lib.hid ?_) w
    rw [← HR.out]
    unfold wayL
    rw [if_pos h, hn]
    rfl
  · have e : R = [] := by rw [← HR.out]; unfold wayL; rw [if_neg h]
    subst e
    exact specWay_no W H C a b _ hC (Lib.hid rfl) (by omega) w

end Go.Proofs.YtgknnlbdkjhaoaaDoor
