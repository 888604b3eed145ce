/-
  CONTRACTS of spec.HomeOf and spec.Homes. No law is proved here.
-/
import Derived.Test.YtieipekhckambaaDoorHomeM
import Derived.Test.YtieipekhckambaaDoorStepsV
import Derived.Maps.AppendAt
import Derived.Deep.CutRange
import Derived.Deep.DeepCutAuto
namespace Go.Proofs.YtieipekhckambaaDoor
set_option maxRecDepth 4096
open Go.ChangeShapes Go.WideShapes Go.ChangeAt Go.RowKit

set_option maxHeartbeats 1000000 in
theorem specHome_yes (W H : Int) (C : ByteArray) (c : Nat) (z : Nat) (hC : C.size ≤ 1048576) (hf : freeV W H C c = true) (hc : c < C.size) (HZ : Hid (homeN (farF W H C c) c = z)) (w : World) :
    Calls Tryd.prog 16 #[.agg #[.int .i64 W, .int .i64 H, .string C], .int .i64 c] w (Made w (.int .i64 z)) := by
  obtain ⟨F, HF⟩ : ∃ F, Hid (stepsL W H C [(c : Int)] = F) := ⟨_, rfl⟩
  have hF : F = rowO (farF W H C c) C.size := by
    rw [← HF.out]
    exact if_pos ⟨(free_in hf).1, fun x hx => by rw [List.mem_singleton.1 hx]; exact hf⟩
  have HFr := Lib.hid hF
  have HFF := Lib.hid hf
  have hs1 : 1 ≤ C.size := by omega
  clear hF hf
  have hB := Below.refl (w.alloc (.cells #[.int .i64 W, .int .i64 H, .string C] 25)).heap.size (w.alloc (.cells #[.int .i64 W, .int .i64 H, .string C] 25))
  go_enter Tryd.func16, Tryd.ntmps16
  go_wp2_with fail
  refine (specFreeTo W H C (c : Int) true hC HFF _).mono ?_
  rintro e w1 ⟨rfl, hb⟩
  replace hB := chain hB hb
  obtain ⟨c0, c1, c2⟩ := box_cells hB
  clear hb
  have hI := ints_cell1 w1 (c : Int) 3
  replace hB := hB.alloc hB.size (.cells #[.int .i64 c] 3)
  go_wp2_with fail
  refine (specSteps W H C [(c : Int)] F _ hC (by simp) HF _ hI).mono ?_
  rintro e w2 ⟨v, rfl, hown, hb⟩
  replace hB := chain hB hb
  clear hb hI c0 c1 c2
  rw [HFr.out, rowO_len] at hown
  obtain ⟨g, cap, rfl⟩ : ∃ g cap, v = .slice (some ⟨g, 0, none⟩) C.size cap := by
    rcases hown.2 with ⟨_, h⟩ | ⟨g, cap, cur, h, _⟩
    · omega
    · exact ⟨g, cap, h⟩
  have HO := Lib.hid hown
  clear hown
  go_wp2_with fail
  go_loop [6] (fun i => ∃ k : Nat, k ≤ c ∧ i = .int .i64 k ∧ Hid (∀ j, j < k → farF W H C c j < 0)) (fun i => c - (intOf i).toNat)
  case atStart => exact ⟨0, Nat.zero_le _, rfl, Lib.hid (fun j hj => absurd hj (Nat.not_lt_zero _))⟩
  case round =>
    obtain ⟨k, hk, rfl, HK⟩ := hrel
    by_cases hlt : k < c
    · have d0 := own_num HO.out (show k < C.size by omega)
      have hk2 : (k : Int) < (C.size : Int) := by omega
      have hk3 : (k : Int) < (c : Int) := by omega
      by_cases h0 : 0 ≤ farF W H C c k
      · have hz : homeN (farF W H C c) c = k := homeN_some hlt h0 HK.out
        have hzk : (z : Int) = k := by rw [← HZ.out, hz]
        have HZK := Lib.hid hzk
        clear hz hzk
        go_wp2_with fail
        go_ret
        exact ⟨ret_int HZK.out.symm, box_below hB⟩
      · have HK2 : Hid (∀ j, j < k + 1 → farF W H C c j < 0) := Lib.hid (fun j hj => by
          rcases Nat.lt_or_ge j k with h | h
          · exact HK.out j h
          · have : j = k := by omega
            subst this
            omega)
        go_wp2_with fail
        go_round
        case rel => exact ⟨k + 1, by omega, by go_num, HK2⟩
        case measure => simp [intOf]; omega
    · obtain rfl : k = c := by omega
      have hz : homeN (farF W H C k) k = k := homeN_none HK.out
      have hzk : (z : Int) = k := by rw [← HZ.out, hz]
      have HZK := Lib.hid hzk
      clear hz hzk
      go_wp2_with fail
      go_ret
      exact ⟨ret_int HZK.out.symm, box_below hB⟩

theorem specHome_no (W H : Int) (C : ByteArray) (c : Int) (hC : C.size ≤ 1048576) (HF : Hid (freeV W H C c = false)) (w : World) :
    Calls Tryd.prog 16 #[.agg #[.int .i64 W, .int .i64 H, .string C], .int .i64 c] w (Made w (.int .i64 (-1))) := by
  have hB := Below.refl (w.alloc (.cells #[.int .i64 W, .int .i64 H, .string C] 25)).heap.size (w.alloc (.cells #[.int .i64 W, .int .i64 H, .string C] 25))
  go_enter Tryd.func16, Tryd.ntmps16
  go_wp2_with fail
  refine (specFreeTo W H C c false hC HF _).mono ?_
  rintro e w1 ⟨rfl, hb⟩
  replace hB := chain hB hb
  go_wp2_with fail
  go_ret
  exact ⟨rfl, box_below hB⟩

theorem specHomeOf (W H : Int) (C : ByteArray) (c z : Int) (hC : C.size ≤ 1048576) (HZ : Hid (homeV W H C c = z)) (w : World) :
    Calls Tryd.prog 16 #[.agg #[.int .i64 W, .int .i64 H, .string C], .int .i64 c] w (Made w (.int .i64 z)) := by
  by_cases hf : freeV W H C c = true
  · obtain ⟨_, n, rfl, hn⟩ := free_in hf
    rw [← HZ.out, homeV_free hf]
    exact specHome_yes W H C n _ hC hf hn (Lib.hid rfl) w
  · rw [← HZ.out, homeV_no hf]
    exact specHome_no W H C c hC (Lib.hid (by simpa using hf)) w

theorem freeL_few (W H : Int) (C : ByteArray) : (freeL W H C).length ≤ 64 := Nat.le_trans (picks_len _ _) (Nat.min_le_right _ 64)

/-- A list of ints in memory, apart from another row. -/
def ListAt (w : World) (av : Option Addr) (L : List Int) (ov : Value) : Prop :=
  L.length = 0 ∨ ∃ g, av = some ⟨g, 0, none⟩ ∧ g < w.heap.size ∧ ov.ownBlock ≠ some g ∧ ∀ (j : Nat) x, L[j]? = some x → w.cell? ⟨g, j, none⟩ = some (.int .i64 x)
theorem ListAt.below {w w1 : World} {av : Option Addr} {L : List Int} {ov : Value} (h : ListAt w av L ov) (hb : Below w.heap.size w w1) : ListAt w1 av L ov := by
  rcases h with h | ⟨g, e, hg, ho, hc⟩
  · exact .inl h
  · exact .inr ⟨g, e, Nat.lt_of_lt_of_le hg hb.size, ho, fun j x hx => (hb.cell (p := ⟨g, j, none⟩) hg).trans (hc j x hx)⟩
theorem ListAt.push {w w1 : World} {av : Option Addr} {L : List Int} {ov ov' : Value} {o : Obj} (h : ListAt w av L ov) (hb : (w.alloc o).grownBy w1 ov.ownBlock) (hat : ov'.ownBlock = ov.ownBlock ∨ ov'.ownBlock = some (w.alloc o).heap.size) : ListAt w1 av L ov' := by
  rcases h with h | ⟨g, e, hg, ho, hc⟩
  · exact .inl h
  · have hs := hb.size
    rw [World.size_alloc] at hs hat
    refine .inr ⟨g, e, by omega, fun hh => ?_, fun j x hx => ?_⟩
    · rcases hat with h1 | h1
      · exact ho (h1 ▸ hh)
      · rw [h1] at hh
        have := Option.some.inj hh
        omega
    · have h1 : w1.heap[g]? = w.heap[g]? := (hb.block g (by rw [World.size_alloc]; omega) (fun e => ho e.symm)).trans (Below.heap_alloc w o g hg)
      rw [← hc j x hx]
      simp [World.cell?, h1]
theorem listAt_new {w0 w : World} {B : Nat} {ov : Value} {n : Nat} {xs : List Value} {v : Value} {L : List Int} (ho : w0.ownsRow B 3 1 ov n xs) (h : w.ownsRow w0.heap.size 3 1 v L.length (L.map (Value.int .i64))) : ∃ av cv, v = .slice av L.length cv ∧ ListAt w av L ov := by
  obtain ⟨av, cv, rfl⟩ := own_form h
  refine ⟨av, cv, rfl, ?_⟩
  rcases h.2 with ⟨_, h0⟩ | ⟨g, cap, cur, hv, hg, hh, _⟩
  · exact .inl h0
  · cases hv
    exact .inr ⟨g, rfl, (Array.getElem?_eq_some_iff.1 hh).1, fun e => by have := (ho.lt g e).2; omega, fun j x hx => own_int h hx⟩

theorem filter_take {p : Int → Bool} {L : List Int} {k : Nat} {x : Int} (hx : L[k]? = some x) : (L.take (k + 1)).filter p = (L.take k).filter p ++ if p x = true then [x] else [] := by
  obtain ⟨hi, rfl⟩ := List.getElem?_eq_some_iff.1 hx
  rw [List.take_succ_eq_append_getElem hi, List.filter_append]
  by_cases h : p L[k] = true
  · simp [h]
  · simp [h]

set_option maxHeartbeats 2000000 in
theorem specHomes (W H : Int) (C : ByteArray) (R : List Int) (hC : C.size ≤ 1048576) (HR : Hid (homesL W H C = R)) (w : World) :
    Calls Tryd.prog 18 #[.agg #[.int .i64 W, .int .i64 H, .string C]] w (IntsBack w R) := by
  obtain ⟨i0, hi, hz0, hz1, hz2⟩ := info_parts Tryd.info3
  obtain ⟨L, HL⟩ : ∃ L, Hid (freeL W H C = L) := ⟨_, rfl⟩
  have hfew : L.length ≤ 64 := by rw [← HL.out]; exact freeL_few W H C
  have hB := Below.refl (w.alloc (.cells #[.int .i64 W, .int .i64 H, .string C] 25)).heap.size (w.alloc (.cells #[.int .i64 W, .int .i64 H, .string C] 25))
  have hown := made_box w (.cells #[.int .i64 W, .int .i64 H, .string C] 25) 3
  replace hB := hB.alloc (Nat.le_refl _) (.cells #[] 3)
  obtain ⟨c0, c1, c2⟩ := box_cells hB
  go_enter Tryd.func18, Tryd.ntmps18
  go_wp2_with fail
  refine (specFreeCells W H C L hC HL _).mono ?_
  rintro e w1 ⟨v, rfl, hownL, hb⟩
  obtain ⟨av, cv, rfl, hLA⟩ := listAt_new hown hownL
  replace hown := own_below hown hb (box_size hB)
  replace hB := chain hB hb
  clear hb hownL c0 c1 c2
  go_wp2_with fail
  go_loopw [3, 5] (fun ov i wr => ∃ k : Nat, k ≤ L.length ∧ i = .int .i64 k ∧ Below (w.alloc (.cells #[.int .i64 W, .int .i64 H, .string C] 25)).heap.size (w.alloc (.cells #[.int .i64 W, .int .i64 H, .string C] 25)) wr ∧
    wr.ownsRow (w.heap.size + 1) 3 1 ov ((L.take k).filter (isHome W H C)).length (((L.take k).filter (isHome W H C)).map (Value.int .i64)) ∧ Hid (ListAt wr av L ov)) (fun _ i _ => L.length - (intOf i).toNat)
  case atStart => exact ⟨0, Nat.zero_le _, rfl, hB, hown, Lib.hid hLA⟩
  case round =>
    clear hB hown hLA
    obtain ⟨k, hk, rfl, hB, hown, HLA⟩ := hrel
    obtain ⟨c0, c1, c2⟩ := box_cells hB
    by_cases hlt : k < L.length
    · obtain ⟨x, hx⟩ : ∃ x, L[k]? = some x := ⟨_, List.getElem?_eq_getElem hlt⟩
      rcases HLA.out with h0 | ⟨g, rfl, hgl, hgo, hc⟩
      · omega
      · have d0 := hc k x hx
        obtain ⟨z, HZ⟩ : ∃ z, Hid (homeV W H C x = z) := ⟨_, rfl⟩
        have hlt2 : (k : Int) < (L.length : Int) := by omega
        have HX := Lib.hid hx
        have HLT := Lib.hid hlt
        have HO := Lib.hid hown
        have hfl : ((L.take k).filter (isHome W H C)).length ≤ 64 := Nat.le_trans (List.length_filter_le _ _) (Nat.le_trans (List.length_take_le _ _) (by omega))
        clear hx hc hown
        go_upto_region 6 with fail
        go_cut [25] from 9 to 32 (fun s wx => s = .bool (z == x) ∧ Below wr.heap.size wr wx)
        case first =>
          have d0d : wr.drew.cell? ⟨g, k, none⟩ = some (.int .i64 x) := d0
          go_region_with (go_at_call 16; (with_reducible refine (specHomeOf W H C x z hC HZ _).mono ?_); rintro e w5 ⟨rfl, hb⟩; have hb5 : Below wr.heap.size wr w5 := ⟨hb.os, hb.tape, hb.output, hb.size, hb.block⟩; have d5 : w5.cell? ⟨g, k, none⟩ = some (.int .i64 x) := (hb5.cell (p := ⟨g, k, none⟩) hgl).trans d0; clear hb)
          all_goals
            go_wp2_with fail
            go_meet
            exact ⟨rfl, hb5⟩
        case rest =>
          obtain ⟨rfl, hb⟩ := hcut
          have HLA5 := HLA.out.below hb
          have hown5 := own_below HO.out hb (box_size hB)
          have hsb := box_size hB
          have hsz5 := hb.size
          replace hB := chain hB hb
          have d5 : wc.cell? ⟨g, k, none⟩ = some (.int .i64 x) := (hb.cell (p := ⟨g, k, none⟩) hgl).trans d0
          have HL5 := Lib.hid HLA5
          have HFT := Lib.hid (filter_take (p := isHome W H C) HX.out)
          clear hb c0 c1 c2 d0 HLA5 hgl
          by_cases hzx : z = x
          · have hp : isHome W H C x = true := by unfold isHome; rw [HZ.out]; exact decide_eq_true hzx
            have hzb : (z == x) = true := beq_iff_eq.2 hzx
            have HP := Lib.hid hp
            clear hzx hp
            go_wp2_with (at_builtin; refine wpList_append_own_at _ rfl _ _ 26 rfl (w.heap.size + 1) 3 i0 (.int .i64 0) 1 8 Tryd.underlying26 hi hz0 hz1 hz2 rfl (by decide) _ _ _ rfl (hown5.alloc _) ⟨wc.heap.size, 0, none⟩ 1 1 ([x].map (Value.int .i64)) rfl rfl (int_new _ _ _) (ints_one _) (by unfold maxLen; omega) (by omega) (by simp; omega) ?_; intro v' w6 hown6 hgrow _ hat; have HL6 := Lib.hid (HL5.out.push hgrow hat); have HB6 := Lib.hid ((hB.alloc hB.size _).grown hgrow (by simp; omega) (fun j hj => by have := (hown5.lt j hj).1; simp; omega)); have HO6 := Lib.hid (ints_push hown6 rfl); clear hgrow hat hown6)
            go_roundw
            case rel => exact ⟨k + 1, HLT.out, by go_num, HB6.out, by rw [HFT.out, if_pos HP.out]; exact HO6.out, HL6⟩
            case measure => have := HLT.out; simp [intOf]; omega
          · have hp : ¬ isHome W H C x = true := by unfold isHome; rw [HZ.out]; simpa using hzx
            have hzb : (z == x) = false := beq_eq_false_iff_ne.2 hzx
            have HP := Lib.hid hp
            clear hzx hp
            go_wp2_with fail
            go_roundw
            case rel => exact ⟨k + 1, HLT.out, by go_num, hB, by rw [HFT.out, if_neg HP.out, List.append_nil]; exact hown5, HL5⟩
            case measure => have := HLT.out; simp [intOf]; omega
    · obtain rfl : k = L.length := by omega
      have HO := Lib.hid hown
      clear hown
      go_wp2_with fail
      go_ret
      refine ⟨_, rfl, ?_, box_below hB⟩
      have h := own_base HO.out (show w.heap.size ≤ w.heap.size + 1 by omega)
      rw [List.take_length] at h
      rw [← HR.out, homesL, HL.out]
      exact h

end Go.Proofs.YtieipekhckambaaDoor
