/-
  CONTRACT of spec.Enough. No law is proved here.
-/
import Derived.Test.YtieipekhckambaaDoorSpecCount
import Derived.Deep.RegionHeld3
import Derived.StillTailTactics
namespace Go.Proofs.YtieipekhckambaaDoor
set_option maxRecDepth 4096
open Go.ChangeShapes Go.WideShapes Go.ChangeAt Go.RowKit

theorem all_on {p : Int → Bool} {L : List Int} {k : Nat} {x : Int} (h : (L.take k).all p = true) (hx : L[k]? = some x) (hp : p x = true) : (L.take (k + 1)).all p = true := by
  obtain ⟨hi, rfl⟩ := List.getElem?_eq_some_iff.1 hx
  rw [List.take_succ_eq_append_getElem hi, List.all_append, h]
  simp [hp]
theorem all_off {p : Int → Bool} {L : List Int} {k : Nat} {x : Int} (hx : L[k]? = some x) (hp : p x = false) : L.all p = false := by
  rw [List.all_eq_false]
  exact ⟨x, List.mem_of_getElem? hx, by simp [hp]⟩

/-- What is held while two counts are made. -/
theorem held_enough {w wr wc w3 : World} {W H : Int} {C : ByteArray} {t : TypeId} {g k : Nat} {x : Value} (h : Below (w.alloc (.cells #[.int .i64 W, .int .i64 H, .string C] t)).heap.size (w.alloc (.cells #[.int .i64 W, .int .i64 H, .string C] t)) wc) (hr : Below wr.heap.size wr wc)
    (hg : g < wr.heap.size) (hd : wr.cell? ⟨g, k, none⟩ = some x) (hb : Below wc.heap.size wc w3) :
    w3.cell? ⟨w.heap.size, 0, none⟩ = some (.int .i64 W) ∧ w3.cell? ⟨w.heap.size, 1, none⟩ = some (.int .i64 H) ∧ w3.cell? ⟨w.heap.size, 2, none⟩ = some (.string C) ∧ w3.cell? ⟨g, k, none⟩ = some x ∧
      Below (w.alloc (.cells #[.int .i64 W, .int .i64 H, .string C] t)).heap.size (w.alloc (.cells #[.int .i64 W, .int .i64 H, .string C] t)) w3 ∧ Below wr.heap.size wr w3 := by
  have h2 := chain h hb
  have hr2 := chain hr hb
  obtain ⟨c0, c1, c2⟩ := box_cells h2
  exact ⟨c0, c1, c2, (hr2.cell (p := ⟨g, k, none⟩) hg).trans hd, h2, hr2⟩

set_option maxRecDepth 100000 in
set_option maxHeartbeats 4000000 in
theorem specEnough_in (W H : Int) (C : ByteArray) (S D : List Int) (b : Bool) (vs vd : Value) (hC : C.size ≤ 1048576) (hg : gok W H C = true) (hSl : S.length ≤ 2000000) (hDl : D.length ≤ 2000000) (HB : Hid ((S.all (freeV W H C) && (D.all (freeV W H C) && (homesL W H C).all fun h => decide (countV W H C h D ≤ countV W H C h S))) = b))
    (w : World) (hvs : Ints w vs S) (hvd : Ints w vd D) :
    Calls Tryd.prog 24 #[.agg #[.int .i64 W, .int .i64 H, .string C], vs, vd] w (Made w (.bool b)) := by
  have hB := Below.refl (w.alloc (.cells #[.int .i64 W, .int .i64 H, .string C] 25)).heap.size (w.alloc (.cells #[.int .i64 W, .int .i64 H, .string C] 25))
  have HG := Lib.hid hg
  obtain ⟨asv, cs, rfl, HVs⟩ := ints_form hvs
  obtain ⟨adv, cd, rfl, HVd⟩ := ints_form hvd
  have HSf := Lib.hid HVs
  have HDf := Lib.hid HVd
  have HSv := Lib.hid hvs
  have HDv := Lib.hid hvd
  obtain ⟨R, HR⟩ : ∃ R, Hid (homesL W H C = R) := ⟨_, rfl⟩
  have hR64 : R.length ≤ 64 := by rw [← HR.out]; exact Nat.le_trans (List.length_filter_le _ _) (freeL_few W H C)
  clear HVs HVd hvs hvd hg
  go_enter Tryd.func24, Tryd.ntmps24
  go_wp2_with (go_at_call 41; (with_reducible refine (specGridOk W H C hC _).mono ?_); rintro e w1 ⟨rfl, hb⟩; rw [HG.out]; replace hB := chain hB hb; clear hb)
  go_loopw [7] (fun i wr => ∃ k : Nat, k ≤ S.length ∧ i = .int .i64 k ∧ Hid ((S.take k).all (freeV W H C) = true) ∧ Below (w.alloc (.cells #[.int .i64 W, .int .i64 H, .string C] 25)).heap.size (w.alloc (.cells #[.int .i64 W, .int .i64 H, .string C] 25)) wr) (fun i _ => S.length - (intOf i).toNat)
  case atStart => exact ⟨0, Nat.zero_le _, rfl, Lib.hid rfl, hB⟩
  case round =>
    clear hB
    obtain ⟨k, hk, rfl, HK, hB⟩ := hrel
    obtain ⟨c0, c1, c2⟩ := box_cells hB
    by_cases hlt : k < S.length
    · obtain ⟨x, hx⟩ : ∃ x, S[k]? = some x := ⟨_, List.getElem?_eq_getElem hlt⟩
      rcases HSf.out with h0 | ⟨g, rfl, hgl, hc⟩
      · omega
      · have d0 : wr.cell? ⟨g, k, none⟩ = some (.int .i64 x) := ((box_below hB).cell (p := ⟨g, k, none⟩) hgl).trans (hc k x hx)
        have HX := Lib.hid hx
        have hlt2 : (k : Int) < (S.length : Int) := by omega
        clear hx hc
        cases hf : freeV W H C x with
        | true =>
          have HF := Lib.hid hf
          clear hf
          go_wp2_with fail
          go_still_tail 5, (by kernel_rfl)
          change wpList _ _ _ _ _ wr.drew
          go_wp2_with (go_at_call 38; (with_reducible refine (specFreeTo W H C x true hC HF _).mono ?_); rintro e w5 ⟨rfl, hb⟩; have HB5 := Lib.hid (chain hB.drew hb); clear hb)
          go_roundw
          case rel => exact ⟨k + 1, by omega, by go_num, Lib.hid (all_on HK.out HX.out HF.out), HB5.out⟩
          case measure => simp [intOf]; omega
        | false =>
          have HF := Lib.hid hf
          have e : b = false := by rw [← HB.out, all_off HX.out hf]; rfl
          subst e
          clear hf
          go_wp2_with fail
          go_still_tail 5, (by kernel_rfl)
          change wpList _ _ _ _ _ wr.drew
          go_wp2_with (go_at_call 38; (with_reducible refine (specFreeTo W H C x false hC HF _).mono ?_); rintro e w5 ⟨rfl, hb⟩; have HB5 := Lib.hid (chain hB.drew hb); clear hb)
          go_ret
          exact ⟨rfl, box_below HB5.out⟩
    · obtain rfl : k = S.length := by omega
      have HSall : Hid (S.all (freeV W H C) = true) := Lib.hid (by have := HK.out; rwa [List.take_length] at this)
      clear HK
      go_wp2_with fail
      go_loopw [8] (fun i wr => ∃ k : Nat, k ≤ D.length ∧ i = .int .i64 k ∧ Hid ((D.take k).all (freeV W H C) = true) ∧ Below (w.alloc (.cells #[.int .i64 W, .int .i64 H, .string C] 25)).heap.size (w.alloc (.cells #[.int .i64 W, .int .i64 H, .string C] 25)) wr) (fun i _ => D.length - (intOf i).toNat)
      case atStart => exact ⟨0, Nat.zero_le _, rfl, Lib.hid rfl, hB⟩
      case round =>
        clear hB
        obtain ⟨k, hk, rfl, HK, hB⟩ := hrel
        obtain ⟨c0, c1, c2⟩ := box_cells hB
        by_cases hlt : k < D.length
        · obtain ⟨x, hx⟩ : ∃ x, D[k]? = some x := ⟨_, List.getElem?_eq_getElem hlt⟩
          rcases HDf.out with h0 | ⟨g, rfl, hgl, hc⟩
          · omega
          · have d0 : wr.cell? ⟨g, k, none⟩ = some (.int .i64 x) := ((box_below hB).cell (p := ⟨g, k, none⟩) hgl).trans (hc k x hx)
            have HX := Lib.hid hx
            have hlt2 : (k : Int) < (D.length : Int) := by omega
            clear hx hc
            cases hf : freeV W H C x with
            | true =>
              have HF := Lib.hid hf
              clear hf
              go_wp2_with fail
              go_still_tail 5, (by kernel_rfl)
              change wpList _ _ _ _ _ wr.drew
              go_wp2_with (go_at_call 38; (with_reducible refine (specFreeTo W H C x true hC HF _).mono ?_); rintro e w5 ⟨rfl, hb⟩; have HB5 := Lib.hid (chain hB.drew hb); clear hb)
              go_roundw
              case rel => exact ⟨k + 1, by omega, by go_num, Lib.hid (all_on HK.out HX.out HF.out), HB5.out⟩
              case measure => simp [intOf]; omega
            | false =>
              have HF := Lib.hid hf
              have e : b = false := by rw [← HB.out, all_off HX.out hf, Bool.false_and, Bool.and_false]
              subst e
              clear hf
              go_wp2_with fail
              go_still_tail 5, (by kernel_rfl)
              change wpList _ _ _ _ _ wr.drew
              go_wp2_with (go_at_call 38; (with_reducible refine (specFreeTo W H C x false hC HF _).mono ?_); rintro e w5 ⟨rfl, hb⟩; have HB5 := Lib.hid (chain hB.drew hb); clear hb)
              go_ret
              exact ⟨rfl, box_below HB5.out⟩
        · obtain rfl : k = D.length := by omega
          have HDall : Hid (D.all (freeV W H C) = true) := Lib.hid (by have := HK.out; rwa [List.take_length] at this)
          have HB3 : Hid ((R.all fun h => decide (countV W H C h D ≤ countV W H C h S)) = b) := Lib.hid (by rw [← HB.out, HSall.out, HDall.out, HR.out, Bool.true_and, Bool.true_and])
          clear HK
          go_wp2_with fail
          refine (specHomes W H C R hC HR _).mono ?_
          rintro e w3 ⟨v3, rfl, hown3, hb⟩
          replace hB := chain hB hb
          obtain ⟨a3, c3, rfl, HV3⟩ := ints_form (ints_of_own hown3)
          have HRf := Lib.hid HV3
          clear hb hown3 HV3 c0 c1 c2
          go_wp2_with fail
          go_loopw [10] (fun i wr => ∃ k : Nat, k ≤ R.length ∧ i = .int .i64 k ∧ Hid (((R.take k).all fun h => decide (countV W H C h D ≤ countV W H C h S)) = true) ∧ Below (w.alloc (.cells #[.int .i64 W, .int .i64 H, .string C] 25)).heap.size (w.alloc (.cells #[.int .i64 W, .int .i64 H, .string C] 25)) wr ∧ Below w3.heap.size w3 wr) (fun i _ => R.length - (intOf i).toNat)
          case atStart => exact ⟨0, Nat.zero_le _, rfl, Lib.hid rfl, hB, Below.refl _ _⟩
          case round =>
            clear hB
            obtain ⟨k, hk, rfl, HK, hB, hB3⟩ := hrel
            obtain ⟨c0, c1, c2⟩ := box_cells hB
            by_cases hlt : k < R.length
            · obtain ⟨x, hx⟩ : ∃ x, R[k]? = some x := ⟨_, List.getElem?_eq_getElem hlt⟩
              rcases HRf.out with h0 | ⟨g, rfl, hgl, hc⟩
              · omega
              · have d0 : wr.cell? ⟨g, k, none⟩ = some (.int .i64 x) := (hB3.cell (p := ⟨g, k, none⟩) hgl).trans (hc k x hx)
                have HX := Lib.hid hx
                have HLT := Lib.hid hlt
                have hlt2 : (k : Int) < (R.length : Int) := by omega
                obtain ⟨zd, HZd⟩ : ∃ z, Hid (countV W H C x D = z) := ⟨_, rfl⟩
                obtain ⟨zs, HZs⟩ : ∃ z, Hid (countV W H C x S = z) := ⟨_, rfl⟩
                have hgr : g < wr.heap.size := Nat.lt_of_lt_of_le hgl hB3.size
                have hBB := Lib.hid hB
                have hrd : Below wr.heap.size wr wr.drew := (Below.refl wr.heap.size wr).drew
                have hBd := hB.drew
                have HD0 := Lib.hid d0
                clear hx hc
                go_upto_region 17 with fail
                go_cut [62] from 42 to 62 (fun s wx => s = .bool (decide (zs < zd)) ∧ Below wr.heap.size wr wx)
                case first =>
                  go_region_held3 (fun w' => w'.cell? ⟨w.heap.size, 0, none⟩ = some (.int .i64 W) ∧ w'.cell? ⟨w.heap.size, 1, none⟩ = some (.int .i64 H) ∧ w'.cell? ⟨w.heap.size, 2, none⟩ = some (.string C) ∧ w'.cell? ⟨g, k, none⟩ = some (.int .i64 x) ∧
                      Below (w.alloc (.cells #[.int .i64 W, .int .i64 H, .string C] 25)).heap.size (w.alloc (.cells #[.int .i64 W, .int .i64 H, .string C] 25)) w' ∧ Below wr.heap.size wr w')
                    (first | exact hS | exact ⟨c0, c1, c2, d0, hBd, hrd⟩ | go_keep)
                    (first
                      | (go_at_call 22; (try go_split_ands); (with_reducible refine (specCountIn W H C x D zd (.slice adv D.length cd) hC hDl HZd _ (ints_on HDv.out (box_below (by assumption)))).mono ?_); rintro e w5 ⟨rfl, hb⟩; (try go_split_ands); have hS := held_enough (by assumption) (by assumption) hgr HD0.out hb; clear hb)
                      | (go_at_call 22; (try go_split_ands); (with_reducible refine (specCountIn W H C x S zs (.slice asv S.length cs) hC hSl HZs _ (ints_on HSv.out (box_below (by assumption)))).mono ?_); rintro e w5 ⟨rfl, hb⟩; (try go_split_ands); have hS := held_enough (by assumption) (by assumption) hgr HD0.out hb; clear hb))
                  go_wp2_with fail
                  go_meet
                  exact ⟨rfl, hS.2.2.2.2.2⟩
                case rest =>
                  obtain ⟨rfl, hb⟩ := hcut
                  have hB9 := chain hBB.out hb
                  have hB39 := hB3.trans (hb.mono hB3.size)
                  clear hB hBd hrd d0 c0 c1 c2 hb hB3
                  by_cases hlz : zs < zd
                  · have hp : (fun h => decide (countV W H C h D ≤ countV W H C h S)) x = false := by
                      show decide (countV W H C x D ≤ countV W H C x S) = false
                      rw [HZd.out, HZs.out]
                      exact decide_eq_false (by omega)
                    have e : b = false := by rw [← HB3.out]; exact all_off HX.out hp
                    subst e
                    clear hp
                    go_wp2_with fail
                    go_ret
                    exact ⟨rfl, box_below hB9⟩
                  · have hp : (fun h => decide (countV W H C h D ≤ countV W H C h S)) x = true := by
                      show decide (countV W H C x D ≤ countV W H C x S) = true
                      rw [HZd.out, HZs.out]
                      exact decide_eq_true (by omega)
                    have HP := Lib.hid (all_on HK.out HX.out hp)
                    have hk64 : (k : Int) < 64 := by have := HLT.out; omega
                    clear hp
                    go_wp2_with fail
                    go_roundw
                    case rel => exact ⟨k + 1, HLT.out, by go_num, HP, hB9, hB39⟩
                    case measure => have := HLT.out; simp [intOf]; omega
            · obtain rfl : k = R.length := by omega
              have e : b = true := by rw [← HB3.out, ← HK.out, List.take_length]
              subst e
              go_wp2_with fail
              go_ret
              exact ⟨rfl, box_below hB⟩

theorem specEnough_no (W H : Int) (C : ByteArray) (vs vd : Value) (hC : C.size ≤ 1048576) (hg : gok W H C = false) (w : World) :
    Calls Tryd.prog 24 #[.agg #[.int .i64 W, .int .i64 H, .string C], vs, vd] w (Made w (.bool false)) := by
  have hB := Below.refl (w.alloc (.cells #[.int .i64 W, .int .i64 H, .string C] 25)).heap.size (w.alloc (.cells #[.int .i64 W, .int .i64 H, .string C] 25))
  have HG := Lib.hid hg
  clear hg
  go_enter Tryd.func24, Tryd.ntmps24
  go_wp2_with (go_at_call 41; (with_reducible refine (specGridOk W H C hC _).mono ?_); rintro e w1 ⟨rfl, hb⟩; rw [HG.out]; replace hB := chain hB hb; clear hb)
  go_ret
  exact ⟨rfl, box_below hB⟩

theorem specEnough (W H : Int) (C : ByteArray) (S D : List Int) (b : Bool) (vs vd : Value) (hC : C.size ≤ 1048576) (hSl : S.length ≤ 2000000) (hDl : D.length ≤ 2000000) (HB : Hid (enoughV W H C S D = b)) (w : World) (hvs : Ints w vs S) (hvd : Ints w vd D) :
    Calls Tryd.prog 24 #[.agg #[.int .i64 W, .int .i64 H, .string C], vs, vd] w (Made w (.bool b)) := by
  cases hg : gok W H C with
  | true => exact specEnough_in W H C S D b vs vd hC hg hSl hDl (Lib.hid (by rw [← HB.out, enoughV, hg, Bool.true_and])) w hvs hvd
  | false =>
    have e : b = false := by rw [← HB.out, enoughV, hg, Bool.false_and]
    subst e
    exact specEnough_no W H C vs vd hC hg w

end Go.Proofs.YtieipekhckambaaDoor
