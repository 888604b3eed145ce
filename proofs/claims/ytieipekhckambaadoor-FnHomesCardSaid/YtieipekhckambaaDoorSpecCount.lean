/-
  CONTRACTS of spec.l05All and spec.CountIn. No law is proved here.
-/
import Derived.Test.YtieipekhckambaaDoorSpecHome
namespace Go.Proofs.YtieipekhckambaaDoor
set_option maxRecDepth 4096
open Go.ChangeShapes Go.WideShapes Go.ChangeAt Go.RowKit

set_option maxHeartbeats 1000000 in
theorem specAll (W H : Int) (C : ByteArray) (hC : C.size ≤ 64) (w : World) :
    Calls Tryd.prog 42 #[.agg #[.int .i64 W, .int .i64 H, .string C]] w (IntsBack w (rowO (fun c => homeV W H C c) C.size)) := by
  obtain ⟨i0, hi, hz0, hz1, hz2⟩ := info_parts Tryd.info3
  have hC2 : C.size ≤ 1048576 := by omega
  have hB := Below.refl (w.alloc (.cells #[.int .i64 W, .int .i64 H, .string C] 25)).heap.size (w.alloc (.cells #[.int .i64 W, .int .i64 H, .string C] 25))
  have hown := made_box w (.cells #[.int .i64 W, .int .i64 H, .string C] 25) 3
  replace hB := hB.alloc (Nat.le_refl _) (.cells #[] 3)
  obtain ⟨c0, c1, c2⟩ := box_cells hB
  go_enter Tryd.func42, Tryd.ntmps42
  go_wp2_with fail
  go_loopw [3, 4] (fun ov i wr => ∃ k : Nat, k ≤ C.size ∧ i = .int .i64 k ∧ Below (w.alloc (.cells #[.int .i64 W, .int .i64 H, .string C] 25)).heap.size (w.alloc (.cells #[.int .i64 W, .int .i64 H, .string C] 25)) wr ∧
    wr.ownsRow (w.heap.size + 1) 3 1 ov (rowO (fun c => homeV W H C c) k).length ((rowO (fun c => homeV W H C c) k).map (Value.int .i64))) (fun _ i _ => C.size - (intOf i).toNat)
  case atStart => exact ⟨0, Nat.zero_le _, rfl, hB, hown⟩
  case round =>
    clear hB hown c0 c1 c2
    obtain ⟨k, hk, rfl, hB, hown⟩ := hrel
    obtain ⟨c0, c1, c2⟩ := box_cells hB
    by_cases hlt : k < C.size
    · obtain ⟨z, HZ⟩ : ∃ z, Hid (homeV W H C (k : Int) = z) := ⟨_, rfl⟩
      have hlt2 : (k : Int) < (C.size : Int) := by omega
      have hl : (rowO (fun c => homeV W H C c) k).length ≤ 64 := by rw [rowO_len]; omega
      have hsb := box_size hB
      have HLT := Lib.hid hlt
      go_wp2_with (first
        | (go_at_call 16; (with_reducible refine (specHomeOf W H C (k : Int) z hC2 HZ _).mono ?_); rintro e w5 ⟨rfl, hb⟩; have hown5 := own_below hown hb hsb; have hB5 := chain hB hb; have hsz := hb.size; clear hb)
        | (at_builtin; refine wpList_append_own _ rfl _ _ 26 rfl (w.heap.size + 1) 3 i0 (.int .i64 0) 1 8 Tryd.underlying26 hi hz0 hz1 hz2 rfl (by decide) _ _ _ rfl (hown5.alloc _) ⟨w5.heap.size, 0, none⟩ 1 1 ([z].map (Value.int .i64)) rfl rfl (int_new _ _ _) (ints_one _) (by unfold maxLen; omega) (by omega) (by simp; omega) ?_; intro v' w6 hown6 hgrow _; have HB6 := Lib.hid ((hB5.alloc hB5.size _).grown hgrow (by simp; omega) (fun j hj => by have := (hown5.lt j hj).1; simp; omega)); have HO6 := Lib.hid (ints_push hown6 (M := rowO (fun c => homeV W H C c) (k + 1)) (by rw [rowO_succ, HZ.out])); clear hgrow hown6))
      go_roundw
      case rel => exact ⟨k + 1, HLT.out, by go_num, HB6.out, HO6.out⟩
      case measure => have := HLT.out; simp [intOf]; omega
    · obtain rfl : k = C.size := by omega
      go_wp2_with fail
      go_ret
      exact ⟨_, rfl, own_base hown (by omega), box_below hB⟩

/-- What does not count. -/
theorem specCount_no (W H : Int) (C : ByteArray) (home : Int) (v : Value) (hC : C.size ≤ 1048576) (h : ¬ (gok W H C = true ∧ homeV W H C home = home ∧ 0 ≤ home)) (w : World) :
    Calls Tryd.prog 22 #[.agg #[.int .i64 W, .int .i64 H, .string C], .int .i64 home, v] w (Made w (.int .i64 0)) := by
  have hB := Below.refl (w.alloc (.cells #[.int .i64 W, .int .i64 H, .string C] 25)).heap.size (w.alloc (.cells #[.int .i64 W, .int .i64 H, .string C] 25))
  cases hg : gok W H C with
  | false =>
    have HG := Lib.hid hg
    clear h hg
    go_enter Tryd.func22, Tryd.ntmps22
    go_wp2_with (go_at_call 41; (with_reducible refine (specGridOk W H C hC _).mono ?_); rintro e w1 ⟨rfl, hb⟩; rw [HG.out]; replace hB := chain hB hb; clear hb)
    go_ret
    exact ⟨rfl, box_below hB⟩
  | true =>
    have HG := Lib.hid hg
    obtain ⟨z, HZ⟩ : ∃ z, Hid (homeV W H C home = z) := ⟨_, rfl⟩
    by_cases hz : z = home
    · have hneg : home < 0 := by
        rcases Int.lt_or_le home 0 with h1 | h1
        · exact h1
        · exact absurd ⟨hg, HZ.out.trans hz, h1⟩ h
      have hzb : (z != home) = false := by simp [hz]
      clear h hg hz
      go_enter Tryd.func22, Tryd.ntmps22
      go_wp2_with (first
        | (go_at_call 41; (with_reducible refine (specGridOk W H C hC _).mono ?_); rintro e w1 ⟨rfl, hb⟩; rw [HG.out]; replace hB := chain hB hb; obtain ⟨c0, c1, c2⟩ := box_cells hB; clear hb)
        | (go_at_call 16; (with_reducible refine (specHomeOf W H C home z hC HZ _).mono ?_); rintro e w5 ⟨rfl, hb⟩; replace hB := chain hB hb; clear hb))
      go_ret
      exact ⟨rfl, box_below hB⟩
    · have hzb : (z != home) = true := by simpa using hz
      clear h hg hz
      go_enter Tryd.func22, Tryd.ntmps22
      go_wp2_with (first
        | (go_at_call 41; (with_reducible refine (specGridOk W H C hC _).mono ?_); rintro e w1 ⟨rfl, hb⟩; rw [HG.out]; replace hB := chain hB hb; obtain ⟨c0, c1, c2⟩ := box_cells hB; clear hb)
        | (go_at_call 16; (with_reducible refine (specHomeOf W H C home z hC HZ _).mono ?_); rintro e w5 ⟨rfl, hb⟩; replace hB := chain hB hb; clear hb))
      go_ret
      exact ⟨rfl, box_below hB⟩

/-- How many of the list have this home. -/
noncomputable def cntHome (W H : Int) (C : ByteArray) (home : Int) (L : List Int) : Nat := (L.filter fun c => decide (homeV W H C c = home)).length
theorem cntHome_step {W H : Int} {C : ByteArray} {home x : Int} {L : List Int} {k : Nat} (hx : L[k]? = some x) : cntHome W H C home (L.take (k + 1)) = cntHome W H C home (L.take k) + if homeV W H C x = home then 1 else 0 := by
  unfold cntHome
  rw [filter_take hx, List.length_append]
  congr 1
  by_cases h : homeV W H C x = home
  · simp [h]
  · simp [h]
theorem cntHome_le (W H : Int) (C : ByteArray) (home : Int) (L : List Int) (k : Nat) : cntHome W H C home (L.take k) ≤ k := Nat.le_trans (List.length_filter_le _ _) (List.length_take_le _ _)

theorem own_pos {w : World} {B : Nat} {e : TypeId} {n : Nat} {v : Value} {xs : List Value} (hn : 1 ≤ n) (h : w.ownsRow B e 1 v n xs) : ∃ g cap, v = .slice (some ⟨g, 0, none⟩) n cap := by
  rcases h.2 with ⟨_, h0⟩ | ⟨g, cap, _, rfl, _⟩
  · omega
  · exact ⟨g, cap, rfl⟩
theorem gok_pos {W H : Int} {C : ByteArray} (h : gok W H C = true) : 1 ≤ C.size := by
  obtain ⟨⟨⟨h1, h2⟩, ⟨h3, h4⟩, hs⟩, _⟩ := gok_out h
  have := mul_bd h1 h2 h3 h4
  omega
theorem gok_most {W H : Int} {C : ByteArray} (h : gok W H C = true) : C.size ≤ 64 := by
  obtain ⟨⟨⟨h1, h2⟩, ⟨h3, h4⟩, hs⟩, _⟩ := gok_out h
  have := mul_bd h1 h2 h3 h4
  omega

set_option maxHeartbeats 1000000 in
theorem specCount_yes (W H : Int) (C : ByteArray) (home : Int) (L : List Int) (v : Value) (hg : gok W H C = true) (hh : homeV W H C home = home) (h0 : 0 ≤ home) (hn : C.size ≤ 64) (hL : L.length ≤ 2000000) (w : World) (hv : Ints w v L) :
    Calls Tryd.prog 22 #[.agg #[.int .i64 W, .int .i64 H, .string C], .int .i64 home, v] w (Made w (.int .i64 (cntHome W H C home L))) := by
  have hC : C.size ≤ 1048576 := by omega
  have hB := Below.refl (w.alloc (.cells #[.int .i64 W, .int .i64 H, .string C] 25)).heap.size (w.alloc (.cells #[.int .i64 W, .int .i64 H, .string C] 25))
  have HG := Lib.hid hg
  have HZ := Lib.hid hh
  obtain ⟨av, cv, rfl, HV⟩ := ints_form hv
  have HVh := Lib.hid HV
  have h0n : ¬ home < 0 := by omega
  have hs1 : 1 ≤ C.size := gok_pos hg
  clear HV hv hg hh
  go_enter Tryd.func22, Tryd.ntmps22
  go_wp2_with (first
    | (go_at_call 41; (with_reducible refine (specGridOk W H C hC _).mono ?_); rintro e w1 ⟨rfl, hb⟩; rw [HG.out]; replace hB := chain hB hb; obtain ⟨c0, c1, c2⟩ := box_cells hB; clear hb)
    | (go_at_call 16; (with_reducible refine (specHomeOf W H C home home hC HZ _).mono ?_); rintro e w5 ⟨rfl, hb⟩; replace hB := chain hB hb; obtain ⟨c0, c1, c2⟩ := box_cells hB; clear hb)
    | (go_at_call 42; (with_reducible refine (specAll W H C hn _).mono ?_); rintro e w6 ⟨va, rfl, howna, hb⟩; replace hB := chain hB hb; rw [rowO_len] at howna; obtain ⟨ga, ca, rfl⟩ := own_pos hs1 howna; have HOA := Lib.hid howna; clear hb howna))
  go_loop [8, 9] (fun n i => ∃ k : Nat, k ≤ L.length ∧ i = .int .i64 k ∧ n = .int .i64 (cntHome W H C home (L.take k))) (fun _ i => L.length - (intOf i).toNat)
  case atStart => exact ⟨0, Nat.zero_le _, rfl, rfl⟩
  case round =>
    obtain ⟨k, hk, rfl, rfl⟩ := hrel
    by_cases hlt : k < L.length
    · obtain ⟨x, hx⟩ : ∃ x, L[k]? = some x := ⟨_, List.getElem?_eq_getElem hlt⟩
      rcases HVh.out with h1 | ⟨g, rfl, hgl, hc⟩
      · omega
      · have d0 : w6.cell? ⟨g, k, none⟩ = some (.int .i64 x) := ((box_below hB).cell (p := ⟨g, k, none⟩) hgl).trans (hc k x hx)
        have HS := Lib.hid (cntHome_step (W := W) (H := H) (C := C) (home := home) hx)
        have hlt2 : (k : Int) < (L.length : Int) := by omega
        have hcb := cntHome_le W H C home L k
        generalize cntHome W H C home (L.take k) = q at *
        clear hx hc
        by_cases hin : 0 ≤ x ∧ x < (C.size : Int)
        · obtain ⟨y, rfl⟩ : ∃ y : Nat, x = y := ⟨x.toNat, by omega⟩
          have hyn : y < C.size := by omega
          have d1 := own_num HOA.out hyn
          have hy2 : (y : Int) < (C.size : Int) := by omega
          by_cases he : homeV W H C (y : Int) = home
          · have heb : (homeV W H C (y : Int) == home) = true := beq_iff_eq.2 he
            have HE := Lib.hid he
            clear he hin
            go_wp2_with fail
            go_round
            case rel => exact ⟨k + 1, hlt, by go_num, by rw [HS.out, if_pos HE.out]; go_num⟩
            case measure => simp [intOf]; omega
          · have heb : (homeV W H C (y : Int) == home) = false := beq_eq_false_iff_ne.2 he
            have HE := Lib.hid he
            clear he hin
            go_wp2_with fail
            go_round
            case rel => exact ⟨k + 1, hlt, by go_num, by rw [HS.out, if_neg HE.out]; rfl⟩
            case measure => simp [intOf]; omega
        · have HE : Hid (¬ homeV W H C x = home) := Lib.hid (by
            rw [homeV_no (fun hf => by
              obtain ⟨_, n, rfl, hn'⟩ := free_in hf
              exact hin ⟨by omega, by omega⟩)]
            omega)
          by_cases hx0 : x < 0
          · clear hin
            go_wp2_with fail
            go_round
            case rel => exact ⟨k + 1, hlt, by go_num, by rw [HS.out, if_neg HE.out]; rfl⟩
            case measure => simp [intOf]; omega
          · have hxn : (C.size : Int) ≤ x := by omega
            clear hin
            go_wp2_with fail
            go_round
            case rel => exact ⟨k + 1, hlt, by go_num, by rw [HS.out, if_neg HE.out]; rfl⟩
            case measure => simp [intOf]; omega
    · obtain rfl : k = L.length := by omega
      go_wp2_with fail
      go_ret
      exact ⟨rfl, box_below hB⟩

theorem specCountIn (W H : Int) (C : ByteArray) (home : Int) (L : List Int) (z : Int) (v : Value) (hC : C.size ≤ 1048576) (hL : L.length ≤ 2000000) (HZ : Hid (countV W H C home L = z)) (w : World) (hv : Ints w v L) :
    Calls Tryd.prog 22 #[.agg #[.int .i64 W, .int .i64 H, .string C], .int .i64 home, v] w (Made w (.int .i64 z)) := by
  by_cases h : gok W H C = true ∧ homeV W H C home = home ∧ 0 ≤ home
  · rw [← HZ.out, countV, if_pos h]
    exact specCount_yes W H C home L v h.1 h.2.1 h.2.2 (gok_most h.1) hL w hv
  · rw [← HZ.out, countV, if_neg h]
    exact specCount_no W H C home v hC h w

end Go.Proofs.YtieipekhckambaaDoor
