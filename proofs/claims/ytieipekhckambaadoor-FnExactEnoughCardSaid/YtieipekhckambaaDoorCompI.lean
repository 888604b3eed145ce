/-
  CONTRACT of the program's componentsOf. No law is proved here.
-/
import Derived.Test.YtieipekhckambaaDoorCompM
import Derived.Test.YtieipekhckambaaDoorWithF
namespace Go.Proofs.YtieipekhckambaaDoor
set_option maxRecDepth 4096
open Go.ChangeShapes Go.WideShapes Go.ChangeAt Go.RowKit Go.Maps

/-- What componentsOf hands back. -/
def CompOut (W H : Int) (C : ByteArray) (w : World) (e : Ending) (w' : World) : Prop :=
  ∃ B D, e = .returned (.map (some B)) ∧ w.heap.size ≤ B ∧ Comp W H C B D w' ∧ Below w.heap.size w w'

theorem freeL_few64 (W H : Int) (C : ByteArray) : (freeL W H C).length ≤ 64 := Nat.le_trans (picks_len _ _) (Nat.min_le_right _ _)
theorem comp_start {W H : Int} {C : ByteArray} {B : Nat} {w w1 w2 : World} {va : Value} {L : List Int} {n : Nat} {o : Nat → Bool} (ho : ∀ j, o j = false)
    (hm : w.ownsMap Tryd.prog 3 Rv B 0 (.map [])) (hB : B < w.heap.size) (hrow : w1.ownsRow w.heap.size 4 1 (.slice (some ⟨w.heap.size, 0, none⟩) n n) n (madeCells (Value.bool false).cells (n * 1)).toList) (hg : w.grownBy w1 none)
    (hL : w2.ownsRow w1.heap.size 3 1 va L.length (L.map (Value.int .i64))) (hb : Below w1.heap.size w1 w2) :
    CSt W H C B w.heap.size w1.heap.size n [] 0 o (.map []) va L w2 := by
  have h1 := hrow.lt w.heap.size rfl
  refine ⟨(hm.kept hg (by simp)).kept (below_grown hb) (by simp), fun x => ⟨fun h => (by cases h), fun h => (by cases h.1)⟩, fun x hx => (by cases hx), ?_, hL, hB, h1.2, hb.size⟩
  have e : rowB o n = (madeCells (Value.bool false).cells (n * 1)).toList := by
    rw [Nat.mul_one]
    exact ((rowB_eq ho).trans (rowB_none n).symm).trans (toList_madeCells_one _ _).symm
  rw [e]
  exact hrow.kept (below_grown hb) (.inr (by simp [Value.ownBlock]))

theorem keyLit (x : Int) : WideAt.IsKeyLit (.int .i64 x) := trivial
theorem comp_look {B m : Nat} {D : DataW Value} {w : World} {x : Int} {v : Value} (h : w.ownsMap Tryd.prog 3 Rv B m D) (hx : (Lit.int .i64 x).wf = true) (hat : ∀ z, D.atKey (.int .i64 x) z = .held v) :
    (Instr.lookup 53 (.map (some B)) (.int .i64 x) false).run Tryd.prog w = .ok v w := by
  obtain ⟨u, ps, hrun, hu⟩ := h.lookup lawK Tryd.underlying53 (zeroS w) (zd := .held (.slice none 0 0)) (zp := []) rfl (keyI hx)
  rw [hat] at hu
  cases hu
  exact hrun
theorem comp_look_no {B m : Nat} {D : DataW Value} {w : World} {x : Int} (h : w.ownsMap Tryd.prog 3 Rv B m D) (hx : (Lit.int .i64 x).wf = true) (hno : has D (.int .i64 x) = false) :
    (Instr.lookup 53 (.map (some B)) (.int .i64 x) false).run Tryd.prog w = .ok (.slice none 0 0) w := by
  obtain ⟨u, ps, hrun, hu⟩ := h.lookup lawK Tryd.underlying53 (zeroS w) (zd := .held (.slice none 0 0)) (zp := []) rfl (keyI hx)
  rw [atKey_of_not_has hno] at hu
  cases hu
  exact hrun
theorem CSt.same {W H : Int} {C : ByteArray} {B G base n m : Nat} {S : List Int} {o o' : Nat → Bool} {D : DataW Value} {va : Value} {L : List Int} {w : World} (h : CSt W H C B G base n S m o D va L w) (ho : ∀ j, o' j = o j) : CSt W H C B G base n S m o' D va L w := by
  have : o' = o := funext ho
  rw [this]
  exact h
/-- What has been met when q cells of a component have been marked. -/
def upTo (o : Nat → Bool) (R : List Int) (q : Nat) (j : Nat) : Bool := o j || (R.take q).contains (j : Int)
theorem upTo_start (o : Nat → Bool) (R : List Int) (j : Nat) : upTo o R 0 j = o j := by simp [upTo]
theorem upTo_next {o : Nat → Bool} {R : List Int} {q d : Nat} (h : R[q]? = some (d : Int)) (j : Nat) : upTo o R (q + 1) j = (upTo o R q j || decide (j = d)) := by
  unfold upTo
  rw [take_snoc h, Bool.or_assoc, Bool.eq_iff_iff]
  simp only [Bool.or_eq_true, List.contains_iff_mem, List.mem_append, List.mem_singleton, decide_eq_true_eq]
  rw [show ((j : Int) = (d : Int)) ↔ j = d from by omega]
theorem upTo_end (o : Nat → Bool) (R : List Int) (j : Nat) : upTo o R R.length j = (o j || R.contains (j : Int)) := by simp [upTo]

set_option maxHeartbeats 2000000 in
theorem componentsI (W H : Int) (C : ByteArray) (hC : C.size ≤ 1048576) (w : World) (hS : SidesAt w) :
    Calls Tryd.prog 31 #[.agg #[.int .i64 W, .int .i64 H, .string C]] w (CompOut W H C w) := by
  obtain ⟨i0, hi, hz0, hz1, hz2⟩ := info_parts infoB
  have hmm := @run_makeMap Tryd.prog
  obtain ⟨L, HL⟩ : ∃ L, Hid (freeL W H C = L) := ⟨_, rfl⟩
  have hLl : L.length ≤ 64 := by rw [← HL.out]; exact freeL_few64 W H C
  have hB := Below.refl (w.alloc (.cells #[.int .i64 W, .int .i64 H, .string C] 25)).heap.size (w.alloc (.cells #[.int .i64 W, .int .i64 H, .string C] 25))
  have hM := World.ownsMap_made (w.alloc (.cells #[.int .i64 W, .int .i64 H, .string C] 25)) Tryd.prog 3 Rv
  have hB1 := hB.alloc (Nat.le_refl _) (.map #[] 0)
  have HS := Lib.hid hS
  clear hS hB
  obtain ⟨cb0, cb1, cb2⟩ := box_cells hB1
  go_enter Tryd.func31, Tryd.ntmps31
  go_wp2_with (at_make; refine wpList_make_full _ rfl (.tmp 12) (.tmp 12) 68 rfl _ 4 i0 (.bool false) 1 Tryd.underlying68 hi hz0 hz1 .i64 .i64 C.size C.size C.size rfl rfl rfl rfl (by rw [hz2]; omega) (by unfold maxLen; omega) (Nat.le_refl _) ?_; intro w1 hrow hg1; have hB2 := hB1.grown hg1 hB1.size (fun j hj => (by cases hj)); obtain ⟨c0, c1, c2⟩ := box_cells hB2; clear cb0 cb1 cb2 hmm)
  refine (implFreeCells W H C L hC HL _).mono ?_
  rintro e w2 ⟨va, rfl, hlst, hb⟩
  replace hB2 := chain hB2 hb
  have hc := comp_start (W := W) (H := H) (C := C) (o := metP W H C []) (fun j => congrFun met_none j) hM (by simp) hrow hg1 hlst hb
  simp only [World.size_alloc] at hc
  have HC := Lib.hid hc
  clear hM hrow hg1 hlst hb c0 c1 c2 hB1 hc
  obtain ⟨aa, ca, rfl⟩ := own_form HC.out.lst
  have HBH := Lib.hid hB2
  generalize w1.heap.size = base at HC
  clear hB2
  go_wp2_with fail
  go_loopw [17] (fun i wr => ∃ k : Nat, k ≤ L.length ∧ i = .int .i64 k ∧ (∃ D, CSt W H C (w.heap.size + 1) (w.heap.size + 1 + 1) base C.size (L.take k) k (metP W H C (L.take k)) D (.slice aa L.length ca) L wr) ∧ Below (w.alloc (.cells #[.int .i64 W, .int .i64 H, .string C] 25)).heap.size (w.alloc (.cells #[.int .i64 W, .int .i64 H, .string C] 25)) wr) (fun i _ => L.length - (intOf i).toNat)
  case atStart => exact ⟨0, Nat.zero_le _, rfl, ⟨_, HC.out⟩, HBH.out⟩
  case round =>
    clear HC HBH
    obtain ⟨k, hk, rfl, ⟨D, hst⟩, hB⟩ := hrel
    by_cases hlt : k < L.length
    · obtain ⟨x, hx⟩ : ∃ x, L[k]? = some x := ⟨_, List.getElem?_eq_getElem hlt⟩
      have hx' : (freeL W H C)[k]? = some x := by rw [HL.out]; exact hx
      have hf : freeV W H C x = true := freeL_mem.1 (List.mem_of_getElem? hx')
      obtain ⟨hg, c, rfl, hcn⟩ := free_in hf
      have hmet := met_here hx'
      rw [HL.out] at hmet
      obtain ⟨a', c', e0, HV⟩ := ints_form (ints_of_own hst.lst)
      cases e0
      rcases HV with h0 | ⟨g, rfl, hgl, hc⟩
      · omega
      · have d0 := hc k _ hx
        have d1 := hst.met hcn
        rw [hmet] at d1
        have hlt2 : (k : Int) < (L.length : Int) := by omega
        have hcn2 : (c : Int) < (C.size : Int) := by omega
        have HX := Lib.hid hx
        have HF := Lib.hid hf
        have HST := Lib.hid hst
        clear hc hx hx' hf hmet hst
        by_cases hh : homeV W H C c = c
        · have d2 : wr.cell? ⟨w.heap.size + 1 + 1, c, none⟩ = some (.bool false) := by rw [d1]; simp [hh]
          have HH := Lib.hid hh
          clear d1 hh
          obtain ⟨c0, c1, c2⟩ := box_cells hB
          obtain ⟨R, HR⟩ : ∃ R, Hid (reachL W H C c = R) := ⟨_, rfl⟩
          go_wp2_with fail
          refine (reachedI W H C c R hC HR _ (HS.out.below (box_below hB))).mono ?_
          rintro e w4 ⟨v, rfl, hown, hb⟩
          have hv4 : w4.ownsRow base 3 1 v (reachL W H C c).length ((reachL W H C c).map (Value.int .i64)) := by
            rw [HR.out]
            exact own_base hown HST.out.lo.2.2
          have hst4 := HST.out.below hb
          replace hB := chain hB hb
          obtain ⟨av, cv, rfl⟩ := own_form hown
          have HV4 := Lib.hid hv4
          have HST4 := Lib.hid hst4
          have hRl : R.length ≤ 64 := by rw [← HR.out]; exact reach_len W H C c
          have hwf : (Lit.int .i64 (c : Int)).wf = true := WalkArith.wf_i64 (by omega)
          clear hown hb c0 c1 c2 d0 d2 hv4 hst4 HST
          go_wp2_with (at_mapUpdate; refine wpList_mapUpdate_own _ rfl _ _ _ 53 rfl 3 26 lawK Tryd.underlying53 Rv (w.heap.size + 1) k D rfl HST4.out.map (by unfold maxLen; omega) _ _ _ rfl rfl (keyI hwf) (.held (.slice av R.length cv)) [] rfl ?_; intro w5 hm5 hg5; have hrun := comp_look hm5 hwf (fun z => atKey_put_same HST4.out.map.isMap (keyLit (c : Int)) _ z); have HS5 := Lib.hid (HST4.out.put HH.out HV4.out hm5 hg5); have hB5 := hB.grown hg5 hB.size (fun j hj => by cases hj; simp); clear hm5 hg5)
          clear hrun HV4 HST4 hB
          obtain ⟨hS5, hV5⟩ := HS5.out
          rw [HR.out] at hV5
          have HS6 := Lib.hid (hS5.same (o' := upTo (metP W H C (L.take k)) R 0) (upTo_start _ R))
          have HV6 := Lib.hid hV5
          have HB6 := Lib.hid hB5
          clear hS5 hV5 hB5 HS5
          obtain ⟨D', HD⟩ : ∃ D', Hid (D.put (.int .i64 (c : Int)) (.held (.slice av R.length cv)) = D') := ⟨_, rfl⟩
          rw [HD.out] at HS6
          clear HD
          go_loopw [34] (fun i wq => ∃ q : Nat, q ≤ R.length ∧ i = .int .i64 q ∧ CSt W H C (w.heap.size + 1) (w.heap.size + 1 + 1) base C.size (L.take k ++ [(c : Int)]) (k + 1) (upTo (metP W H C (L.take k)) R q) D' (.slice (some ⟨g, 0, none⟩) L.length ca) L wq ∧
            wq.ownsRow base 3 1 (.slice av R.length cv) R.length (R.map (Value.int .i64)) ∧ Below (w.alloc (.cells #[.int .i64 W, .int .i64 H, .string C] 25)).heap.size (w.alloc (.cells #[.int .i64 W, .int .i64 H, .string C] 25)) wq) (fun i _ => R.length - (intOf i).toNat)
          case atStart => exact ⟨0, Nat.zero_le _, rfl, HS6.out, HV6.out, HB6.out⟩
          case round =>
            clear HS6 HV6 HB6
            obtain ⟨q, hq, rfl, hst, hV, hB⟩ := hrel
            by_cases hqt : q < R.length
            · obtain ⟨y, hy⟩ : ∃ y, R[q]? = some y := ⟨_, List.getElem?_eq_getElem hqt⟩
              obtain ⟨d, rfl, hdn⟩ := reach_in (W := W) (H := H) (C := C) (a := (c : Int)) (x := y) (by rw [HR.out]; exact List.mem_of_getElem? hy)
              obtain ⟨a'', c'', e0, HV'⟩ := ints_form (ints_of_own hV)
              cases e0
              rcases HV' with h0 | ⟨gv, rfl, hgv, hcv⟩
              · omega
              · have d3 := hcv q _ hy
                have d4 := hst.met hdn
                have f4 := hst.row.frozenAt d
                have hqt2 : (q : Int) < (R.length : Int) := by omega
                have hdn2 : (d : Int) < (C.size : Int) := by omega
                obtain ⟨hst7, hg7⟩ := hst.stored d (upTo_next hy)
                have HS7 := Lib.hid hst7
                have HV7 := Lib.hid (own_far hV hg7 hst.lo.2.1)
                have HB7 := Lib.hid (hB.grown hg7 hB.size (fun j hj => by cases hj; simp))
                clear hst hV hB hcv hy hst7 hg7
                go_wp2_with fail
                go_roundw
                case rel => exact ⟨q + 1, by omega, by go_num, HS7.out, HV7.out, HB7.out⟩
                case measure => simp [intOf]; omega
            · obtain rfl : q = R.length := by omega
              have hS8 := hst.same (o' := metP W H C (L.take k ++ [(c : Int)])) (fun j => by rw [upTo_end, met_new HF.out HH.out, HR.out])
              have HS8 := Lib.hid hS8
              have HB8 := Lib.hid hB
              clear hst hV hB hS8
              go_wp2_with fail
              go_roundw
              case rel => exact ⟨k + 1, by omega, by go_num, ⟨D', by rw [take_snoc HX.out]; exact HS8.out⟩, HB8.out⟩
              case measure => simp [intOf]; omega
        · have d2 : wr.cell? ⟨w.heap.size + 1 + 1, c, none⟩ = some (.bool true) := by rw [d1]; simp [hh]
          have HN := Lib.hid hh
          clear d1 hh
          go_wp2_with fail
          go_roundw
          case rel => exact ⟨k + 1, by omega, by go_num, ⟨D, by rw [take_snoc HX.out]; exact HST.out.skip HN.out rfl⟩, hB⟩
          case measure => simp [intOf]; omega
    · obtain rfl : k = L.length := by omega
      go_wp2_with fail
      go_ret
      exact ⟨_, D, rfl, by omega, hst.comp (by rw [List.take_length, HL.out]) hLl, box_below hB⟩

end Go.Proofs.YtieipekhckambaaDoor
