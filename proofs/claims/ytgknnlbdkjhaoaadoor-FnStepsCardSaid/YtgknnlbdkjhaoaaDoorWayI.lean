/-
  CONTRACT of the program's WayTo. No law is proved here.
-/
import Derived.Deep.RegionLaw
import Derived.Deep.AppendLies
import Derived.Test.YtgknnlbdkjhaoaaDoorStepsToI
import Derived.Test.YtgknnlbdkjhaoaaDoorNearI
import Derived.Test.YtgknnlbdkjhaoaaDoorWays
namespace Go.Proofs.YtgknnlbdkjhaoaaDoor
open Go.ChangeShapes Go.WideShapes Go.ChangeAt Go.RowKit

theorem find_same {p q : Int → Bool} : ∀ {L : List Int}, (∀ d ∈ L, p d = q d) → L.find? p = L.find? q
  | [], _ => rfl
  | d :: L, h => by
    rw [List.find?_cons, List.find?_cons, h d (List.mem_cons_self ..), find_same fun x hx => h x (List.mem_cons_of_mem _ hx)]
theorem near_pick {W H : Int} {C : ByteArray} {b x m : Nat} (hb : freeV W H C b = true) (hxn : x < C.size) (hx : farF W H C b x = ((m + 1 : Nat) : Int)) :
    nearV (farF W H C b) (aroundL W H C x) x = pickN (farF W H C b) m (aroundL W H C x) x := by
  unfold nearV pickN
  rw [find_same (q := fun d => decide (farF W H C b d.toNat = (m : Int)))]
  intro d hd
  obtain ⟨y, rfl, hy⟩ := around_in hd
  have hym : y ∈ nbN W H C x := nbN_mem.2 hd
  have hxy : x ∈ nbN W H C y := nbN_sym x hxn y hym
  have e : (y : Int).toNat = y := rfl
  rw [e, decide_eq_decide, hx]
  have hdx := farF_dist hb x
  rw [hx] at hdx
  have hrx : Rch (nbN W H C) C.size (srcS b) (m + 1) x := by
    rcases hdx with ⟨j, hj, hr, _⟩ | ⟨hv, _⟩
    · have : j = m + 1 := by omega
      rw [← this]; exact hr
    · omega
  have hnx : ∀ i, i < m + 1 → ¬ Rch (nbN W H C) C.size (srcS b) i x := by
    rcases hdx with ⟨j, hj, _, hn⟩ | ⟨hv, _⟩
    · have : j = m + 1 := by omega
      rw [← this]; exact hn
    · omega
  rcases farF_dist hb y with ⟨j, hj, hr, _⟩ | ⟨hv, hn⟩
  · rw [hj]
    have : ¬ j + 1 < m + 1 := fun h => hnx (j + 1) h (.inr ⟨y, hy, hr, hxy⟩)
    omega
  · exact absurd (.inr ⟨x, hxn, hrx, hym⟩) (hn (m + 1 + 1))

theorem way_no (W H : Int) (C : ByteArray) (a b : Int) (hC : C.size ≤ 1048576) (hz : stepsToV W H C a b = -1) (w : World) (hS : SidesAt w) :
    Calls Tryd.prog 11 #[.agg #[.int .i64 W, .int .i64 H, .string C], .int .i64 a, .int .i64 b] w (IntsBack w []) := by
  obtain ⟨F, HF⟩ : ∃ F, Hid (stepsL W H C [b] = F) := ⟨_, rfl⟩
  have hFl : F.length ≤ 64 := by rw [← HF.out]; exact stepsL_len W H C [b]
  have HA : Hid (atV F a = -1) := Lib.hid (by rw [← HF.out, atV_steps, stepsTo_comm]; exact hz)
  have hB := (Below.refl w.heap.size w).alloc (Nat.le_refl _) (.cells #[.int .i64 W, .int .i64 H, .string C] 25)
  have hI := ints_cell1 (w.alloc (.cells #[.int .i64 W, .int .i64 H, .string C] 25)) b 3
  rw [World.size_alloc] at hI
  have hB2 := hB.alloc hB.size (.cells #[.int .i64 b] 3)
  have HS := Lib.hid (hS.below hB2)
  have HI := Lib.hid hI
  clear hS hI hz
  go_enter Tryd.func11, Tryd.ntmps11
  go_wp2_with fail
  refine (implSteps W H C [b] F _ hC (by simp) HF _ HI.out HS.out).mono ?_
  rintro e w3 ⟨v, rfl, hown, hb⟩
  have hB3 := hB2.trans (hb.mono hB2.size)
  clear hb hB hB2
  go_wp2_with fail
  refine (stepsAtI F a (-1) v HA _ (ints_of_own hown)).mono ?_
  rintro e w4 ⟨rfl, rfl⟩
  go_wp2_with fail
  go_ret
  exact ⟨_, rfl, World.ownsRow_nil _ _ _ _, hB3⟩

/-- What a step of the way leaves. -/
structure WayOn (W H : Int) (C : ByteArray) (gf base : Nat) (far : Nat → Int) (w : World) (pre : List Int) (v : Value) (wr : World) : Prop where
  own : wr.ownsRow base 3 1 v pre.length (pre.map (Value.int .i64))
  below : Below w.heap.size w wr
  size : base ≤ wr.heap.size
  grid : wr.heap[w.heap.size]? = some (.cells #[.int .i64 W, .int .i64 H, .string C] 25 (0, 0))
  far : ∀ y, y < C.size → wr.cell? ⟨gf, y, none⟩ = some (.int .i64 (far y))
theorem way_step {W H : Int} {C : ByteArray} {gf k gw cw g6 cap6 : Nat} {far : Nat → Int} {w w3 wr w5 w6 : World} {pre : List Int} {x y : Int} {b : Obj} (hsw : w.heap.size + 1 + 1 ≤ w3.heap.size) (hgf : gf < w3.heap.size) (hB : Below w.heap.size w wr)
    (hown : wr.ownsRow w3.heap.size 3 1 (.slice (some ⟨gw, 0, none⟩) (k + 1) cw) (k + 1) ((pre ++ [x]).map (Value.int .i64))) (hG : wr.heap[w.heap.size]? = some (.cells #[.int .i64 W, .int .i64 H, .string C] 25 (0, 0))) (hF : ∀ y, y < C.size → wr.cell? ⟨gf, y, none⟩ = some (.int .i64 (far y))) (hs : w3.heap.size ≤ wr.heap.size)
    (h5 : Below wr.drew.heap.size wr.drew w5) (h6 : w6.ownsRow w3.heap.size 3 1 (.slice (some ⟨g6, 0, none⟩) (k + 1 + 1) cap6) (k + 1 + 1) ((pre ++ [x]).map (Value.int .i64) ++ [y].map (Value.int .i64))) (hgrow : (w5.alloc b).grownBy w6 (some gw)) :
    WayOn W H C gf w3.heap.size far w (pre ++ [x] ++ [y]) (.slice (some ⟨g6, 0, none⟩) (k + 1 + 1) cap6) w6 := by
  have hlen : k + 1 = (pre ++ [x]).length := by have := hown.1; simp at this ⊢; omega
  have hgw := (hown.lt gw rfl).1
  have hz5 : wr.heap.size ≤ w5.heap.size := h5.size
  have hz6 := hgrow.size
  rw [World.size_alloc] at hz6
  have keep : ∀ j, j < w3.heap.size → w6.heap[j]? = wr.heap[j]? := fun j hj =>
    (hgrow.block j (by rw [World.size_alloc]; omega) (fun e => by have := Option.some.inj e; omega)).trans ((Below.heap_alloc w5 b j (by omega)).trans (h5.block j (show j < wr.heap.size by omega)))
  refine ⟨?_, ⟨?_, ?_, ?_, ?_, fun j hj => (keep j (by omega)).trans (hB.block j hj)⟩, by omega, (keep _ (by omega)).trans hG, fun t ht => ?_⟩
  · rw [show (pre ++ [x] ++ [y]).length = k + 1 + 1 from by rw [List.length_append, ← hlen]; rfl, List.map_append]
    exact h6
  · exact hgrow.os.trans (h5.os.trans hB.os)
  · exact hgrow.tape.trans (h5.tape.trans hB.tape)
  · exact hgrow.output.trans (h5.output.trans hB.output)
  · have := hB.size; omega
  · exact (cell_block (keep gf hgf) t).trans (hF t ht)

set_option maxHeartbeats 4000000 in
theorem way_yes (W H : Int) (C : ByteArray) (a b m : Nat) (R : List Int) (hC : C.size ≤ 1048576) (ha : freeV W H C a = true) (hb : freeV W H C b = true) (hn : a < C.size) (HN : Hid (farF W H C b a = (m : Int))) (HR : Hid (wayAt W H C (farF W H C b) m a = R)) (w : World) (hS : SidesAt w) :
    Calls Tryd.prog 11 #[.agg #[.int .i64 W, .int .i64 H, .string C], .int .i64 a, .int .i64 b] w (IntsBack w R) := by
  obtain ⟨i0, hi, hz0, hz1, hz2⟩ := info_parts Tryd.info3
  obtain ⟨F, HF⟩ : ∃ F, Hid (stepsL W H C [(b : Int)] = F) := ⟨_, rfl⟩
  have hg := (free_in hb).1
  obtain ⟨hs1, hs64⟩ := gok_size hg
  have hF : F = rowO (farF W H C b) C.size := by
    rw [← HF.out]
    exact if_pos ⟨hg, fun x hx => by rw [List.mem_singleton.1 hx]; exact hb⟩
  have HA : Hid (atV F a = (m : Int)) := Lib.hid (by
    rw [← HF.out, atV_steps, stepsTo_comm, stepsTo_far ha hb]
    exact HN.out)
  have hm64 : m ≤ 64 := by have := far_le W H C b a; rw [HN.out] at this; omega
  have HFR := Lib.hid hF
  have HBF := Lib.hid hb
  have hFl : F.length ≤ 64 := by rw [hF, rowO_len]; exact hs64
  have hB := (Below.refl w.heap.size w).alloc (Nat.le_refl _) (.cells #[.int .i64 W, .int .i64 H, .string C] 25)
  have hI := ints_cell1 (w.alloc (.cells #[.int .i64 W, .int .i64 H, .string C] 25)) b 3
  rw [World.size_alloc] at hI
  have hB2 := hB.alloc hB.size (.cells #[.int .i64 b] 3)
  have hGb : ((w.alloc (.cells #[.int .i64 W, .int .i64 H, .string C] 25)).alloc (.cells #[.int .i64 b] 3)).heap[w.heap.size]? = some (.cells #[.int .i64 W, .int .i64 H, .string C] 25 (0, 0)) := (Below.heap_alloc _ _ _ (by simp)).trans (heap_alloc_new w _)
  have HS := Lib.hid (hS.below hB2)
  have HI := Lib.hid hI
  have hm1 : ((m : Int) == -1) = false := by rw [beq_eq_false_iff_ne]; omega
  clear hI hF ha hb hg
  go_enter Tryd.func11, Tryd.ntmps11
  go_wp2_with fail
  refine (implSteps W H C [(b : Int)] F _ hC (by simp) HF _ HI.out HS.out).mono ?_
  rintro e w3 ⟨v, rfl, hown, hbb⟩
  have hB3 := hB2.trans (hbb.mono hB2.size)
  have hG3 := (hbb.block w.heap.size (by simp; omega)).trans hGb
  have hs3 := hbb.size
  clear hbb hB hB2 hGb
  go_wp2_with fail
  refine (stepsAtI F a m v HA _ (ints_of_own hown)).mono ?_
  rintro e w4 ⟨rfl, rfl⟩
  rw [HFR.out, rowO_len] at hown
  obtain ⟨gf, cf, rfl⟩ := ownsRow_pos hs1 hown
  have hgf := (hown.lt gf rfl).2
  have ho := own_one w3 w3.heap.size (Nat.le_refl _) a
  have hBa := hB3.alloc hB3.size (.cells #[.int .i64 a] 3)
  have hfr := hown.alloc (.cells #[.int .i64 a] 3)
  have d0 := own_num hfr hn
  rw [HN.out] at d0
  have hn2 : (a : Int) < (C.size : Int) := by omega
  have HSw := Lib.hid hS
  have hsw : w.heap.size + 1 + 1 ≤ w3.heap.size := by simpa using hs3
  have hG3' := (Below.heap_alloc w3 (.cells #[.int .i64 a] 3) w.heap.size (by omega)).trans hG3
  clear hown hB3 hS hs3 hG3
  go_wp2_with fail
  go_loopw [8, 23] (fun v kk wr => ∃ (k x : Nat) (pre : List Int), k ≤ m ∧ kk = .int .i64 k ∧ Hid (pre.length = k) ∧ x < C.size ∧ wr.ownsRow w3.heap.size 3 1 v (k + 1) ((pre ++ [(x : Int)]).map (Value.int .i64)) ∧
    Below w.heap.size w wr ∧ w3.heap.size ≤ wr.heap.size ∧ wr.heap[w.heap.size]? = some (.cells #[.int .i64 W, .int .i64 H, .string C] 25 (0, 0)) ∧ Hid (∀ y, y < C.size → wr.cell? ⟨gf, y, none⟩ = some (.int .i64 (farF W H C b y))) ∧
    Hid (pre ++ wayAt W H C (farF W H C b) (m - k) x = R) ∧ Hid (farF W H C b x = ((m - k : Nat) : Int))) (fun _ kk _ => m - (intOf kk).toNat)
  case atStart => exact ⟨0, a, [], Nat.zero_le _, rfl, Lib.hid rfl, hn, by simpa using ho, hBa, by simp, hG3', Lib.hid (fun y hy => own_num hfr hy), Lib.hid (by rw [← HR.out]; rfl), Lib.hid (by rw [HN.out]; rfl)⟩
  case round =>
    clear ho hfr hBa d0 hG3'
    obtain ⟨k, x, pre, hk, rfl, HPL, hx, hown, hB, hsw3, hGr, HFar, HP, HX⟩ := hrel
    obtain ⟨gw, cw, rfl⟩ := ownsRow_succ hown
    by_cases hlt : k < m
    · obtain ⟨q, hq⟩ : ∃ q, m - k = q + 1 := ⟨m - k - 1, by omega⟩
      have hx1 : farF W H C b x = ((q + 1 : Nat) : Int) := by rw [HX.out, hq]
      obtain ⟨y, hy, hym, hfy⟩ := pickN_near HBF.out hx1
      have HNear : Hid (nearV (farF W H C b) (aroundL W H C x) x = (y : Int)) := Lib.hid ((near_pick HBF.out hx hx1).trans hy)
      have hyn : y < C.size := by
        obtain ⟨y', e, h'⟩ := around_in hym
        omega
      have c0 : wr.cell? ⟨w.heap.size, 0, none⟩ = some (.int .i64 W) := by rw [cell_of_row _ _ _ _ _ _ hGr]; rfl
      have c1 : wr.cell? ⟨w.heap.size, 1, none⟩ = some (.int .i64 H) := by rw [cell_of_row _ _ _ _ _ _ hGr]; rfl
      have c2 : wr.cell? ⟨w.heap.size, 2, none⟩ = some (.string C) := by rw [cell_of_row _ _ _ _ _ _ hGr]; rfl
      have d1 : wr.cell? ⟨gw, k, none⟩ = some (.int .i64 x) := own_int hown (by rw [List.getElem?_append_right (by rw [HPL.out]; exact Nat.le_refl _), HPL.out]; simp)
      have hlt2 : (k : Int) < (m : Int) := by omega
      have hk64 : k < 64 := by omega
      have hw1 : IntKind.i64.wrap (k : Int) = k := IntWalk.i64_in _ (by omega)
      have hSr := HSw.out.below hB
      have HQ : Hid (q = m - (k + 1)) := Lib.hid (by omega)
      have HPn : Hid (pre ++ [(x : Int)] ++ wayAt W H C (farF W H C b) q y = R) := Lib.hid (by
        rw [← HP.out, hq, wayAt, hy, List.append_assoc]
        rfl)
      have HFy := Lib.hid hfy
      have HBw := Lib.hid hB
      have HOW := Lib.hid hown
      have HGR := Lib.hid hGr
      clear hx1 hy hym hfy hq hB hown hGr HX HP
      have hkk : (k : Int) < (k : Int) + 1 := by omega
      have hgfr : gf < wr.drew.heap.size := Nat.lt_of_lt_of_le hgf hsw3
      have HFd : Hid (∀ y, y < C.size → wr.drew.cell? ⟨gf, y, none⟩ = some (.int .i64 (farF W H C b y))) := Lib.hid HFar.out
      have hSd := hSr.below ((Below.refl wr.heap.size wr).drew)
      go_wp2_with fail
      go_region_law (first
        | (refine step_append_lies _ rfl (.tmp 25) (.tmp 35) 26 rfl w3.heap.size 3 i0 (.int .i64 0) 1 8 Tryd.underlying26 hi hz0 hz1 hz2 rfl (by decide) _ _ _ (by simp [Act.eval]) (HO5.out.alloc _) ⟨w5.heap.size, 0, none⟩ 1 1 ([(y : Int)].map (Value.int .i64)) (by simp [Act.eval]) rfl (int_new _ _ _) (ints_one _) (by decide) (by unfold maxLen; omega) (by omega) (by rw [World.size_alloc]; exact Nat.le_succ_of_le HZ5.out) _ rfl ?_; intro g6 cap6 w6 hown6 hgrow _ _; have HR6 := Lib.hid (way_step hsw hgf HBw.out HOW.out HGR.out HFar.out hsw3 HB5.out hown6 hgrow); clear hown6 hgrow)
        | (go_simp; go_at_call 29; (with_reducible refine (nearI W H C x gf cf (farF W H C b) y hC HNear hx _ hgfr HFd hSd).mono ?_); rintro e w5 ⟨rfl, hb5⟩; have HB5 := Lib.hid hb5; have HZ5 : Hid (w3.heap.size ≤ w5.heap.size) := Lib.hid (Nat.le_trans (show w3.heap.size ≤ wr.drew.heap.size from hsw3) hb5.size); have HO5 := Lib.hid (own_below (w := wr.drew) HOW.out.drew hb5 (show w3.heap.size ≤ wr.heap.size from hsw3)); clear hb5))
      all_goals
        go_simp
        go_wp2_with fail
        have HW := HR6.out
        have hown6 := HW.own
        rw [show (pre ++ [(x : Int)] ++ [(y : Int)]).length = k + 1 + 1 from by have := HPL.out; simp; omega] at hown6
        refine ⟨⟨k + 1, y, pre ++ [(x : Int)], by omega, by go_num, Lib.hid (by rw [List.length_append, HPL.out]; rfl), hyn, hown6, HW.below, HW.size, HW.grid, Lib.hid HW.far, Lib.hid (by rw [← HQ.out]; exact HPn.out), Lib.hid (by rw [← HQ.out]; exact HFy.out)⟩, ?_⟩
        simp [intOf]; omega
    · obtain rfl : k = m := by omega
      have HE : Hid (pre ++ [(x : Int)] = R) := Lib.hid (by rw [← HP.out, Nat.sub_self]; rfl)
      have hlen : (pre ++ [(x : Int)]).length = k + 1 := by simp [HPL.out]
      have HO := Lib.hid hown
      clear hown
      go_wp2_with fail
      go_ret
      refine ⟨_, rfl, ?_, hB⟩
      rw [← HE.out, hlen]
      exact own_base HO.out (by omega)

theorem implWayTo (W H : Int) (C : ByteArray) (a b : Int) (R : List Int) (hC : C.size ≤ 1048576) (HR : Hid (wayL W H C a b = R)) (w : World) (hS : SidesAt w) :
    Calls Tryd.prog 11 #[.agg #[.int .i64 W, .int .i64 H, .string C], .int .i64 a, .int .i64 b] w (IntsBack w R) := by
  by_cases h : 0 ≤ stepsToV W H C a b
  · obtain ⟨fa, fb⟩ := stepsTo_free h
    obtain ⟨_, n, rfl, hn⟩ := free_in fa
    obtain ⟨_, b', rfl, _⟩ := free_in fb
    obtain ⟨m, hm⟩ : ∃ m : Nat, stepsToV W H C n b' = m := ⟨(stepsToV W H C n b').toNat, by omega⟩
    refine way_yes W H C n b' m R hC fa fb hn (Lib.hid (by rw [← stepsTo_far fa fb]; exact hm)) (Lib.hid ?_) w hS
    rw [← HR.out]
    unfold wayL
    rw [if_pos h, hm]
    rfl
  · have e : R = [] := by rw [← HR.out]; unfold wayL; rw [if_neg h]
    subst e
    refine way_no W H C a b hC ?_ w hS
    by_cases hf : freeV W H C a = true ∧ freeV W H C b = true
    · obtain ⟨_, n, rfl, _⟩ := free_in hf.1
      obtain ⟨_, b', rfl, _⟩ := free_in hf.2
      rw [stepsTo_far hf.1 hf.2] at h ⊢
      exact (far_val hf.2 n).resolve_right h
    · unfold stepsToV
      rw [if_neg hf]

theorem wayL_few (W H : Int) (C : ByteArray) (a b : Int) : (wayL W H C a b).length ≤ 1000000 := by
  unfold wayL
  by_cases h : 0 ≤ stepsToV W H C a b
  · rw [if_pos h, wayAt_len]
    have h1 := stepsTo_le W H C a b
    have h2 := gok_size (free_in (stepsTo_free h).1).1
    omega
  · rw [if_neg h]
    exact Nat.zero_le _

end Go.Proofs.YtgknnlbdkjhaoaaDoor
