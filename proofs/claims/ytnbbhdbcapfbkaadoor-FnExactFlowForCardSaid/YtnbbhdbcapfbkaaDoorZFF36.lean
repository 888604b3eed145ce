/-
  The walk of spec.TimeNet in parts: branch A. No law is proved here.
-/
import Derived.Test.YtnbbhdbcapfbkaaDoorZFF22
import Derived.Test.YtnbbhdbcapfbkaaDoorZFF20
import Derived.Test.YtnbbhdbcapfbkaaDoorZFF34
import Derived.Test.YtnbbhdbcapfbkaaDoorZFF11
import Derived.Test.YtnbbhdbcapfbkaaDoorZFF10
import Derived.Deep.RegionLaw
import Derived.Test.YtnbbhdbcapfbkaaDoorZFF25
import Derived.Deep.DeepCutAuto
import Derived.Deep.CutRange
import Derived.Laws.ResultCell
import Derived.Test.YtnbbhdbcapfbkaaDoorZFF35
namespace Go.Proofs.YtnbbhdbcapfbkaaDoor
set_option maxRecDepth 4096
open Go.ChangeShapes Go.WideShapes Go.ChangeAt Go.RowKit
set_option maxRecDepth 20000 in
set_option maxHeartbeats 60000000 in
theorem timePartA : timeParts.a := by
  delta timeParts
  intro W H C S G strict N A hC hS hG w hB t HN HA HK HB L HL m HM p HPV HIN HIS HBD ht20 hs10 hgs bN q q2 F hw1 hw2 hw5 HNN HLF HMF HPP HBN HPT hF2 hp480 hbN2 HAA HD hF i0 hi9 hz90 hz91 hz92 ast cst HSS HSC agl cgl zz1 HGG w1 w2 af cf HI2 w3 HI3 HB3 wc u49 u50 u51 u52 u53 u54 u55 u56 zz2 zz3 wr u57 u58 u59 u60 u61 u62 u63 u64 u65 u66 u67 u68 u69 u70 u71 u72 u73 u74 k va hk hN hlt
  obtain ⟨x, hx⟩ : ∃ x, S[k]? = some x := ⟨_, List.getElem?_eq_getElem hlt⟩
  obtain ⟨gs, rfl, hgs, hcs⟩ := HSC.out k x hx
  have hB9 := next_below HB3.out hN.below
  obtain ⟨d0, d1, d2⟩ := tn_cells hB9
  have ds := ((tn_below hB9).cell (p := ⟨gs, k, none⟩) hgs).trans hcs
  have dn := hN.c1
  obtain ⟨z, HZ⟩ : ∃ z, Hid (inNodeV W H C x 0 = z) := ⟨_, rfl⟩
  have HZ2 : Hid ([(⟨0, z, 1, 0⟩ : ArcD)] = [startA m (numG W H C x)]) := Lib.hid (by rw [← HZ.out, (HIS.out x (List.mem_of_getElem? hx)).1]; rfl)
  have HX := Lib.hid hx
  have hl : ((S.take k).map (fun x => startA m (numG W H C x))).length ≤ 10 := by rw [List.length_map, List.length_take]; omega
  have hlt2 : (k : Int) < (S.length : Int) := by omega
  have hnl := hN.lt
  have HN := Lib.hid hN
  clear hx hB9 hN
  generalize hZA : (S.take k).map (fun x => startA m (numG W H C x)) = Z at HN hl
  have HZA := Lib.hid hZA
  clear hZA
  go_wp2_with fail
  have hgs3 : gs < w3.heap.size := Nat.lt_of_lt_of_le hgs (tn_below HB3.out).size
  have hcs3 := ((tn_below HB3.out).cell (p := ⟨gs, k, none⟩) hgs).trans hcs
  have hS0 := And.intro (tn_S HB3.out hgs3 hcs3 HN.out.below) dn
  simp only [and_assoc] at hS0
  clear d0 d1 d2 ds
  go_wp2_with fail
  refine wp_region_last 12 (fun w' => w'.cell? ⟨w.heap.size, 0, none⟩ = some (.int .i64 W) ∧ w'.cell? ⟨w.heap.size, 1, none⟩ = some (.int .i64 H) ∧ w'.cell? ⟨w.heap.size, 2, none⟩ = some (.string C) ∧ w'.cell? ⟨gs, k, none⟩ = some (.int .i64 x) ∧ w'.cell? ⟨w3.heap.size, 1, none⟩ = some va) (by as_aux_lemma => kernel_rfl) (by as_aux_lemma => kernel_rfl) (by as_aux_lemma => kernel_rfl) (by decide) hS0 (fun hHeld => ?_)
  refine anyI_take (i := 0) (oi := _) (v := ?q1v1) rfl (by as_aux_lemma => kernel_rfl) (by as_aux_lemma => kernel_rfl) (by as_aux_lemma => kernel_rfl) rfl (fun _ _ _ h => h) (Or.inl ⟨by rfl, ?q1y1⟩) (by assumption) ?q1r1
  case q1y1 =>
    intro w' hSw
    (try dsimp only at hSw)
    go_split_ands
    simp only [List.getElem_toArray, List.getElem_cons_zero]
    go_simp
    all_goals (try with_reducible rfl)
  simp only [List.getElem_toArray, List.getElem_cons_zero, Act.put, List.setIfInBounds_toArray, List.set_cons_zero, List.set_cons_succ]
  refine anyI_take (i := 1) (oi := _) (v := ?q1v2) rfl (by as_aux_lemma => kernel_rfl) (by as_aux_lemma => kernel_rfl) (by as_aux_lemma => kernel_rfl) rfl (fun _ _ _ h => h) (Or.inl ⟨by rfl, ?q1y2⟩) (by assumption) ?q1r2
  case q1y2 =>
    intro w' hSw
    (try dsimp only at hSw)
    go_split_ands
    simp only [List.getElem_toArray, List.getElem_cons_succ, List.getElem_cons_zero]
    go_simp
    all_goals (try with_reducible rfl)
  simp only [List.getElem_toArray, List.getElem_cons_succ, List.getElem_cons_zero, Act.put, List.setIfInBounds_toArray, List.set_cons_zero, List.set_cons_succ]
  refine anyI_take (i := 2) (oi := _) (v := ?q1v3) rfl (by as_aux_lemma => kernel_rfl) (by as_aux_lemma => kernel_rfl) (by as_aux_lemma => kernel_rfl) rfl (fun _ _ _ h => h) (Or.inl ⟨by rfl, ?q1y3⟩) (by assumption) ?q1r3
  case q1y3 =>
    intro w' hSw
    (try dsimp only at hSw)
    go_split_ands
    simp only [List.getElem_toArray, List.getElem_cons_succ, List.getElem_cons_zero]
    go_simp
    all_goals (try with_reducible rfl)
  simp only [List.getElem_toArray, List.getElem_cons_succ, List.getElem_cons_zero, Act.put, List.setIfInBounds_toArray, List.set_cons_zero, List.set_cons_succ]
  refine anyI_take (i := 3) (oi := _) (v := ?q1v4) rfl (by as_aux_lemma => kernel_rfl) (by as_aux_lemma => kernel_rfl) (by as_aux_lemma => kernel_rfl) rfl (fun _ _ _ h => h) (Or.inl ⟨by rfl, ?q1y4⟩) (by assumption) ?q1r4
  case q1y4 =>
    intro w' hSw
    (try dsimp only at hSw)
    go_split_ands
    simp only [List.getElem_toArray, List.getElem_cons_succ, List.getElem_cons_zero]
    go_simp
    all_goals (try with_reducible rfl)
  simp only [List.getElem_toArray, List.getElem_cons_succ, List.getElem_cons_zero, Act.put, List.setIfInBounds_toArray, List.set_cons_zero, List.set_cons_succ]
  refine anyI_take (i := 4) (oi := _) (v := ?q1v5) rfl (by as_aux_lemma => kernel_rfl) (by as_aux_lemma => kernel_rfl) (by as_aux_lemma => kernel_rfl) rfl (fun _ _ _ h => h) (Or.inl ⟨by rfl, ?q1y5⟩) (by assumption) ?q1r5
  case q1y5 =>
    intro w' hSw
    (try dsimp only at hSw)
    go_split_ands
    simp only [List.getElem_toArray, List.getElem_cons_succ, List.getElem_cons_zero]
    go_simp
    all_goals (try with_reducible rfl)
  simp only [List.getElem_toArray, List.getElem_cons_succ, List.getElem_cons_zero, Act.put, List.setIfInBounds_toArray, List.set_cons_zero, List.set_cons_succ]
  refine anyI_take (i := 5) (oi := _) (v := ?q1v6) rfl (by as_aux_lemma => kernel_rfl) (by as_aux_lemma => kernel_rfl) (by as_aux_lemma => kernel_rfl) rfl (fun _ _ _ h => h) (Or.inl ⟨by rfl, ?q1y6⟩) (by assumption) ?q1r6
  case q1y6 =>
    intro w' hSw
    (try dsimp only at hSw)
    go_split_ands
    simp only [List.getElem_toArray, List.getElem_cons_succ, List.getElem_cons_zero]
    go_simp
    all_goals (try with_reducible rfl)
  simp only [List.getElem_toArray, List.getElem_cons_succ, List.getElem_cons_zero, Act.put, List.setIfInBounds_toArray, List.set_cons_zero, List.set_cons_succ]
  refine anyI_take (i := 6) (oi := _) (v := ?q1v7) rfl (by as_aux_lemma => kernel_rfl) (by as_aux_lemma => kernel_rfl) (by as_aux_lemma => kernel_rfl) rfl (fun _ _ _ h => h) (Or.inl ⟨by rfl, ?q1y7⟩) (by assumption) ?q1r7
  case q1y7 =>
    intro w' hSw
    (try dsimp only at hSw)
    go_split_ands
    simp only [List.getElem_toArray, List.getElem_cons_succ, List.getElem_cons_zero]
    go_simp
    all_goals (try with_reducible rfl)
  simp only [List.getElem_toArray, List.getElem_cons_succ, List.getElem_cons_zero, Act.put, List.setIfInBounds_toArray, List.set_cons_zero, List.set_cons_succ]
  refine anyI_ready (rs := [7]) (by as_aux_lemma => kernel_rfl) (by simp) ?_
  refine AllI.cons rfl rfl (fun K hK => ?_) AllI.nil
  simp only [List.getElem_toArray, List.getElem_cons_succ, List.getElem_cons_zero]
  go_simp
  go_at_call 18
  refine (specInNode W H C x 0 z hC HZ _).mono ?_
  rintro e w5 ⟨rfl, hb5⟩
  have hN5 := HN.out.drew.call hb5
  have hS5 := And.intro (tn_S HB3.out hgs3 hcs3 hN5.below) hN5.c1
  (try simp only [and_assoc] at hS5)
  have HN5 := Lib.hid hN5
  clear hb5 hN5 hHeld
  refine hK.out _ _ hS5 (fun hHeld => ?_)
  clear hK K
  (try simp only [Act.put, List.setIfInBounds_toArray, List.set_cons_zero, List.set_cons_succ])
  refine anyI_take (i := 8) (oi := _) (v := ?q1v9) rfl (by as_aux_lemma => kernel_rfl) (by as_aux_lemma => kernel_rfl) (by as_aux_lemma => kernel_rfl) rfl (fun _ _ _ h => h) (Or.inl ⟨by rfl, ?q1y9⟩) (by assumption) ?q1r9
  case q1y9 =>
    intro w' hSw
    (try dsimp only at hSw)
    go_split_ands
    simp only [List.getElem_toArray, List.getElem_cons_succ, List.getElem_cons_zero]
    go_simp
    all_goals (try with_reducible rfl)
  simp only [List.getElem_toArray, List.getElem_cons_succ, List.getElem_cons_zero, Act.put, List.setIfInBounds_toArray, List.set_cons_zero, List.set_cons_succ]
  refine anyI_ready (rs := [9]) (by as_aux_lemma => kernel_rfl) (by simp) ?_
  refine AllI.cons rfl rfl (fun K hK => ?_) AllI.nil
  simp only [List.getElem_toArray, List.getElem_cons_succ, List.getElem_cons_zero]
  go_simp
  have hN7 := HN5.out.alloc (.cells #[.int .i64 0, .int .i64 z, .int .i64 1, .int .i64 0] 62)
  have hS7 := And.intro (tn_S HB3.out hgs3 hcs3 hN7.below) hN7.c1
  (try simp only [and_assoc] at hS7)
  clear hN7 hHeld
  refine hK.out _ _ hS7 (fun hHeld => ?_)
  clear hK K
  (try simp only [Act.put, List.setIfInBounds_toArray, List.set_cons_zero, List.set_cons_succ])
  refine anyI_ready (rs := [10]) (by as_aux_lemma => kernel_rfl) (by simp) ?_
  refine AllI.cons rfl rfl (fun K hK => ?_) AllI.nil
  simp only [List.getElem_toArray, List.getElem_cons_succ, List.getElem_cons_zero]
  rw [if_pos (by rfl)]
  refine wp_append_lies _ (.tmp 64) (.tmp 72) 43 rfl (w3.heap.size + 1) 62 i0 (.agg #[.int .i64 0, .int .i64 0, .int .i64 0, .int .i64 0]) 4 32 Tryd.underlying43 hi9 hz90 hz91 hz92 rfl (by decide) _ _ _ (by simp [Act.eval]) (HN5.out.row.alloc _) ⟨w5.heap.size, 0, none⟩ 1 1 (cellsA [⟨0, z, 1, 0⟩]) (by simp [Act.eval]) rfl (arcs_newT _ [⟨0, z, 1, 0⟩] _ rfl _) (arcs_oneT _) (by decide) (by unfold maxLen; omega) (by omega) (by simp; have := HN5.out.lt; omega) _ rfl ?_; intro g9 c9 w9 hown6 hgrow6 _ _; have hN6 := HN5.out.app (Z := [⟨0, z, 1, 0⟩]) hown6 hgrow6; have e6 := HN5.out.g1 hgrow6; have f6 := HN5.out.k1 hgrow6; have hS6 := And.intro (tn_S HB3.out hgs3 hcs3 (HN5.out.below6 hgrow6)) e6; (try simp only [and_assoc] at hS6); have HN9 := Lib.hid hN6; clear hown6 hgrow6 hN6
  clear hHeld
  refine hK.out _ _ hS6 (fun hHeld => ?_)
  clear hK K
  (try simp only [Act.put, List.setIfInBounds_toArray, List.set_cons_zero, List.set_cons_succ])
  refine anyI_take (i := 11) (oi := _) (v := ?q1v12) rfl (by as_aux_lemma => kernel_rfl) (by as_aux_lemma => kernel_rfl) (by as_aux_lemma => kernel_rfl) rfl (fun _ _ _ h => h) (Or.inl ⟨by rfl, ?q1y12⟩) (by assumption) ?q1r12
  case q1y12 =>
    intro w' hSw
    (try dsimp only at hSw)
    go_split_ands
    simp only [List.getElem_toArray, List.getElem_cons_succ, List.getElem_cons_zero]
    go_simp
    all_goals (try with_reducible rfl)
  simp only [List.getElem_toArray, List.getElem_cons_succ, List.getElem_cons_zero, Act.put, List.setIfInBounds_toArray, List.set_cons_zero, List.set_cons_succ]
  refine anyI_last (by as_aux_lemma => kernel_rfl) (by as_aux_lemma => kernel_rfl) rfl (fun K hK => ?_)
  simp only [List.getElem_toArray, List.getElem_cons_succ, List.getElem_cons_zero]
  go_simp
  refine hK.out _ _ ?_
  clear hK K
  (try simp only [Act.put, List.setIfInBounds_toArray, List.set_cons_zero, List.set_cons_succ])
  clear hS0 hHeld
  all_goals
    go_wp2_with fail
    go_roundw
    case rel => exact ⟨k + 1, _, by go_num, by omega, by
      have e : (S.take (k + 1)).map (fun x => startA m (numG W H C x)) = Z ++ [⟨0, z, 1, 0⟩] := by
        obtain ⟨hi2, h3⟩ := List.getElem?_eq_some_iff.1 HX.out
        rw [List.take_succ_eq_append_getElem hi2, h3, List.map_append, HZA.out, HZ2.out]
        rfl
      rw [e]
      exact HN9.out⟩
    case measure => simp [intOf]; omega

end Go.Proofs.YtnbbhdbcapfbkaaDoor

