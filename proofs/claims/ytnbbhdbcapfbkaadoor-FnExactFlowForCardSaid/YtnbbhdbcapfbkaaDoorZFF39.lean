/-
  The walk of spec.TimeNet in parts: branch D. No law is proved here.
-/
import Derived.Test.YtnbbhdbcapfbkaaDoorZFF22
import Derived.Test.YtnbbhdbcapfbkaaDoorZFF20
import Derived.Test.YtnbbhdbcapfbkaaDoorZFF34
import Derived.Test.YtnbbhdbcapfbkaaDoorZFF11
import Derived.Test.YtnbbhdbcapfbkaaDoorZFF10
import Derived.Deep.RegionLaw
import Derived.Test.YtnbbhdbcapfbkaaDoorZFF25
import Derived.Deep.DeepCutAuto
import Derived.Deep.CutRange
import Derived.Laws.ResultCell
import Derived.Test.YtnbbhdbcapfbkaaDoorZFF35
namespace Go.Proofs.YtnbbhdbcapfbkaaDoor
set_option maxRecDepth 4096
open Go.ChangeShapes Go.WideShapes Go.ChangeAt Go.RowKit
set_option maxRecDepth 20000 in
set_option maxHeartbeats 60000000 in
theorem timePartD : timeParts.d := by
  delta timeParts
  intro W H C S G strict N A hC hS hG w hB t HN HA HK HB L HL m HM p HPV HIN HIS HBD ht20 hgs bN q q2 F hw1 hw2 hw5 HNN HLF HMF HPP HBN HPT hF2 hp480 hbN2 HAA HD hF i0 hi9 hz90 hz91 hz92 ast cst HSS HSC agl cgl zz1 HGG w1 w2 af cf HI2 w3 HI3 HB3 wc u49 u50 u51 u52 u53 u54 u55 u56 zz2 zz3 u57 u58 u59 u60 u61 u62 u63 u64 u65 u66 u67 u68 u69 u70 u71 u72 u73 u74 zz4 zz5 zz6 zz7 zz8 zz9 sl HSL hsl HFC HLL H4 va0 wr u18 u19 u20 u21 u22 u23 u24 u25 u26 u75 u76 u77 u78 u79 u80 u81 u82 u83 u84 u85 u86 u87 u88 u89 u90 u91 u92 u93 u94 u95 u96 u97 u98 u99 u100 u101 u102 u103 u104 u105 u106 u107 u108 u109 u110 u111 u112 u113 u114 u115 u116 u117 u118 u119 u120 u121 u122 u123 u124 u125 u126 u127 u128 u129 u130 u131 u132 u133 u134 u135 u136 u137 u138 u139 u140 u141 u142 u143 u144 u145 u146 u147 u148 u149 u150 u151 u152 u153 u154 u155 u156 u157 u158 u159 u160 u161 u162 u163 u164 u165 u166 u167 u168 u169 u170 u171 u172 u173 u174 u175 u176 u177 u178 u179 u180 u181 u182 u183 u184 u185 u186 u187 u188 u189 u190 u191 u192 u193 u194 u195 u196 u197 u198 u199 u200 u201 u202 u203 u204 u205 u206 u207 u208 u209 u210 u211 u212 u213 u214 u215 u216 u217 u218 u219 u220 u221 u222 u223 u224 u225 u226 u227 u228 u229 u230 u231 u232 u233 u234 u235 u236 u237 u238 u239 u240 u241 u242 u243 u244 u245 tt va htt hN hlt
  skip --[L7
  have HTT : Hid (tt = t + 1) := Lib.hid (by omega)
  obtain ⟨gl, hgl⟩ : ∃ gl : Nat → Bool, gl = fun k => G.contains (cellG W H C k) := ⟨_, rfl⟩
  have HGL := Lib.hid hgl
  have hN0 : NB w3 N va (endT m sl gl t strict 0) wr := by rw [endT_zero, ← HTT.out]; exact hN
  have HN1 := Lib.hid hN0
  have HLE : Hid (∀ i, (endT m sl gl t strict i).length ≤ 10 + 4000 * (t + 1) + i) := Lib.hid fun i => Nat.le_trans (endT_len H4.out (by rw [HMF.out]; exact hF2) (by rw [← HPP.out]; exact hp480)) (by omega)
  clear hN hN0 hgl htt
  go_wp2_with fail
  go_loopw [27] (fun j wr => ∃ (i : Nat) (va : Value), j = .int .i64 i ∧ i ≤ F ∧ NB w3 N va (endT m sl gl t strict i) wr) (fun j _ => F - (intOf j).toNat)
  case atStart => exact ⟨0, va, rfl, Nat.zero_le _, HN1.out⟩
  case round =>
    clear HN1
    obtain ⟨i, va, rfl, hi, hN⟩ := hrel
    have hl9 := HLE.out i
    by_cases hiF : i < F
    · obtain ⟨x, hx⟩ : ∃ x, L[i]? = some x := ⟨_, List.getElem?_eq_getElem (by omega)⟩
      obtain ⟨gf, rfl, hgf, hcf⟩ := HFC.out i x hx
      obtain ⟨n1, hn1⟩ : ∃ n1, n1 = inN m.F i t := ⟨_, rfl⟩
      have HZ : Hid (inNodeV W H C x (t : Int) = (n1 : Int)) := Lib.hid (by rw [hn1]; exact HIN.out i t x hx (by omega))
      have hn1b : n1 ≤ 483 := by rw [hn1]; exact HBD.out i t (by rw [HMF.out]; exact hiF) (Nat.le_refl _)
      have hw8 : IntKind.i64.wrap ((n1 : Int) + 1) = (n1 : Int) + 1 := IntWalk.i64_in _ (by omega)
      have hl : (endT m sl gl t strict i).length ≤ 200000 := by omega
      have hiF2 : (i : Int) < (F : Int) := by omega
      obtain ⟨c, HCG⟩ : ∃ c, Hid (G.contains x = c) := ⟨_, rfl⟩
      have HGI : Hid (gl i = c) := Lib.hid (by
        have h9 := hx
        rw [← HL.out] at h9
        rw [cellG_at (List.getElem?_eq_some_iff.1 h9).1] at h9
        rw [HGL.out, ← HCG.out, ← Option.some.inj h9])
      have HSU : Hid (endT m sl gl t strict (i + 1) = endT m sl gl t strict i ++ [endA m gl t i]) := Lib.hid endT_succ
      have HGO : Hid (∀ wr, Below w3.heap.size w3 wr → Ints wr (.slice agl G.length cgl) G) := Lib.hid fun wr hb => ints_on HGG.out (tn_below (next_below HB3.out hb))
      have dfn := (hN.below.cell (p := ⟨gf, i, none⟩) hgf).trans hcf
      have hS0 := And.intro (tn_S HB3.out hgf hcf hN.below) hN.c1
      simp only [and_assoc] at hS0
      have HN := Lib.hid hN
      have HNI := Lib.hid hn1
      clear hN hx hn1 hl9
      generalize endT m sl gl t strict i = Z at HN HSU hl
      cases c with
      | true =>
        have HEA : Hid ([(⟨(n1 : Int) + 1, 1, 1, 0⟩ : ArcD)] = [endA m gl t i]) := Lib.hid (by unfold endA; rw [HGI.out, HNI.out]; rfl)
        go_wp2_with (go_at_call 34; refine (specHas _ G x true _ (HGO.out _ HN.out.below) HCG hG).mono ?_; rintro e w9 ⟨rfl, rfl⟩)
        refine wp_region_last 15 (fun w' => w'.cell? ⟨w.heap.size, 0, none⟩ = some (.int .i64 W) ∧ w'.cell? ⟨w.heap.size, 1, none⟩ = some (.int .i64 H) ∧ w'.cell? ⟨w.heap.size, 2, none⟩ = some (.string C) ∧ w'.cell? ⟨gf, i, none⟩ = some (.int .i64 x) ∧ w'.cell? ⟨w3.heap.size, 1, none⟩ = some va) (by as_aux_lemma => kernel_rfl) (by as_aux_lemma => kernel_rfl) (by as_aux_lemma => kernel_rfl) (by decide) hS0 (fun hHeld => ?_)
        refine anyI_take (i := 0) (oi := _) (v := ?q5v1) rfl (by as_aux_lemma => kernel_rfl) (by as_aux_lemma => kernel_rfl) (by as_aux_lemma => kernel_rfl) rfl (fun _ _ _ h => h) (Or.inl ⟨by rfl, ?q5y1⟩) (by assumption) ?q5r1
        case q5y1 =>
          intro w' hSw
          (try dsimp only at hSw)
          go_split_ands
          simp only [List.getElem_toArray, List.getElem_cons_zero]
          go_simp
          all_goals (try with_reducible rfl)
        simp only [List.getElem_toArray, List.getElem_cons_zero, Act.put, List.setIfInBounds_toArray, List.set_cons_zero, List.set_cons_succ]
        refine anyI_take (i := 1) (oi := _) (v := ?q5v2) rfl (by as_aux_lemma => kernel_rfl) (by as_aux_lemma => kernel_rfl) (by as_aux_lemma => kernel_rfl) rfl (fun _ _ _ h => h) (Or.inl ⟨by rfl, ?q5y2⟩) (by assumption) ?q5r2
        case q5y2 =>
          intro w' hSw
          (try dsimp only at hSw)
          go_split_ands
          simp only [List.getElem_toArray, List.getElem_cons_succ, List.getElem_cons_zero]
          go_simp
          all_goals (try with_reducible rfl)
        simp only [List.getElem_toArray, List.getElem_cons_succ, List.getElem_cons_zero, Act.put, List.setIfInBounds_toArray, List.set_cons_zero, List.set_cons_succ]
        refine anyI_take (i := 2) (oi := _) (v := ?q5v3) rfl (by as_aux_lemma => kernel_rfl) (by as_aux_lemma => kernel_rfl) (by as_aux_lemma => kernel_rfl) rfl (fun _ _ _ h => h) (Or.inl ⟨by rfl, ?q5y3⟩) (by assumption) ?q5r3
        case q5y3 =>
          intro w' hSw
          (try dsimp only at hSw)
          go_split_ands
          simp only [List.getElem_toArray, List.getElem_cons_succ, List.getElem_cons_zero]
          go_simp
          all_goals (try with_reducible rfl)
        simp only [List.getElem_toArray, List.getElem_cons_succ, List.getElem_cons_zero, Act.put, List.setIfInBounds_toArray, List.set_cons_zero, List.set_cons_succ]
        refine anyI_take (i := 3) (oi := _) (v := ?q5v4) rfl (by as_aux_lemma => kernel_rfl) (by as_aux_lemma => kernel_rfl) (by as_aux_lemma => kernel_rfl) rfl (fun _ _ _ h => h) (Or.inl ⟨by rfl, ?q5y4⟩) (by assumption) ?q5r4
        case q5y4 =>
          intro w' hSw
          (try dsimp only at hSw)
          go_split_ands
          simp only [List.getElem_toArray, List.getElem_cons_succ, List.getElem_cons_zero]
          go_simp
          all_goals (try with_reducible rfl)
        simp only [List.getElem_toArray, List.getElem_cons_succ, List.getElem_cons_zero, Act.put, List.setIfInBounds_toArray, List.set_cons_zero, List.set_cons_succ]
        refine anyI_take (i := 4) (oi := _) (v := ?q5v5) rfl (by as_aux_lemma => kernel_rfl) (by as_aux_lemma => kernel_rfl) (by as_aux_lemma => kernel_rfl) rfl (fun _ _ _ h => h) (Or.inl ⟨by rfl, ?q5y5⟩) (by assumption) ?q5r5
        case q5y5 =>
          intro w' hSw
          (try dsimp only at hSw)
          go_split_ands
          simp only [List.getElem_toArray, List.getElem_cons_succ, List.getElem_cons_zero]
          go_simp
          all_goals (try with_reducible rfl)
        simp only [List.getElem_toArray, List.getElem_cons_succ, List.getElem_cons_zero, Act.put, List.setIfInBounds_toArray, List.set_cons_zero, List.set_cons_succ]
        refine anyI_take (i := 5) (oi := _) (v := ?q5v6) rfl (by as_aux_lemma => kernel_rfl) (by as_aux_lemma => kernel_rfl) (by as_aux_lemma => kernel_rfl) rfl (fun _ _ _ h => h) (Or.inl ⟨by rfl, ?q5y6⟩) (by assumption) ?q5r6
        case q5y6 =>
          intro w' hSw
          (try dsimp only at hSw)
          go_split_ands
          simp only [List.getElem_toArray, List.getElem_cons_succ, List.getElem_cons_zero]
          go_simp
          all_goals (try with_reducible rfl)
        simp only [List.getElem_toArray, List.getElem_cons_succ, List.getElem_cons_zero, Act.put, List.setIfInBounds_toArray, List.set_cons_zero, List.set_cons_succ]
        refine anyI_take (i := 6) (oi := _) (v := ?q5v7) rfl (by as_aux_lemma => kernel_rfl) (by as_aux_lemma => kernel_rfl) (by as_aux_lemma => kernel_rfl) rfl (fun _ _ _ h => h) (Or.inl ⟨by rfl, ?q5y7⟩) (by assumption) ?q5r7
        case q5y7 =>
          intro w' hSw
          (try dsimp only at hSw)
          go_split_ands
          simp only [List.getElem_toArray, List.getElem_cons_succ, List.getElem_cons_zero]
          go_simp
          all_goals (try with_reducible rfl)
        simp only [List.getElem_toArray, List.getElem_cons_succ, List.getElem_cons_zero, Act.put, List.setIfInBounds_toArray, List.set_cons_zero, List.set_cons_succ]
        refine anyI_take (i := 7) (oi := _) (v := ?q5v8) rfl (by as_aux_lemma => kernel_rfl) (by as_aux_lemma => kernel_rfl) (by as_aux_lemma => kernel_rfl) rfl (fun _ _ _ h => h) (Or.inl ⟨by rfl, ?q5y8⟩) (by assumption) ?q5r8
        case q5y8 =>
          intro w' hSw
          (try dsimp only at hSw)
          go_split_ands
          simp only [List.getElem_toArray, List.getElem_cons_succ, List.getElem_cons_zero]
          go_simp
          all_goals (try with_reducible rfl)
        simp only [List.getElem_toArray, List.getElem_cons_succ, List.getElem_cons_zero, Act.put, List.setIfInBounds_toArray, List.set_cons_zero, List.set_cons_succ]
        refine anyI_take (i := 10) (oi := _) (v := ?q5v9) rfl (by as_aux_lemma => kernel_rfl) (by as_aux_lemma => kernel_rfl) (by as_aux_lemma => kernel_rfl) rfl (fun _ _ _ h => h) (Or.inl ⟨by rfl, ?q5y9⟩) (by assumption) ?q5r9
        case q5y9 =>
          intro w' hSw
          (try dsimp only at hSw)
          go_split_ands
          simp only [List.getElem_toArray, List.getElem_cons_succ, List.getElem_cons_zero]
          go_simp
          all_goals (try with_reducible rfl)
        simp only [List.getElem_toArray, List.getElem_cons_succ, List.getElem_cons_zero, Act.put, List.setIfInBounds_toArray, List.set_cons_zero, List.set_cons_succ]
        refine anyI_ready (rs := [8]) (by as_aux_lemma => kernel_rfl) (by simp) ?_
        refine AllI.cons rfl rfl (fun K hK => ?_) AllI.nil
        simp only [List.getElem_toArray, List.getElem_cons_succ, List.getElem_cons_zero]
        go_simp
        go_at_call 18
        refine (specInNode W H C x t n1 hC HZ _).mono ?_
        rintro e w5 ⟨rfl, hb5⟩
        have hN5 := HN.out.drew.call hb5
        have hS5 := And.intro (tn_S HB3.out hgf hcf hN5.below) hN5.c1
        (try simp only [and_assoc] at hS5)
        have HN5 := Lib.hid hN5
        clear hb5 hN5 hHeld
        refine hK.out _ _ hS5 (fun hHeld => ?_)
        clear hK K
        (try simp only [Act.put, List.setIfInBounds_toArray, List.set_cons_zero, List.set_cons_succ])
        refine anyI_take (i := 9) (oi := _) (v := ?q5v11) rfl (by as_aux_lemma => kernel_rfl) (by as_aux_lemma => kernel_rfl) (by as_aux_lemma => kernel_rfl) rfl (fun _ _ _ h => h) (Or.inl ⟨by rfl, ?q5y11⟩) (by assumption) ?q5r11
        case q5y11 =>
          intro w' hSw
          (try dsimp only at hSw)
          go_split_ands
          simp only [List.getElem_toArray, List.getElem_cons_succ, List.getElem_cons_zero]
          go_simp
          all_goals (try with_reducible rfl)
        simp only [List.getElem_toArray, List.getElem_cons_succ, List.getElem_cons_zero, Act.put, List.setIfInBounds_toArray, List.set_cons_zero, List.set_cons_succ]
        refine anyI_take (i := 11) (oi := _) (v := ?q5v12) rfl (by as_aux_lemma => kernel_rfl) (by as_aux_lemma => kernel_rfl) (by as_aux_lemma => kernel_rfl) rfl (fun _ _ _ h => h) (Or.inl ⟨by rfl, ?q5y12⟩) (by assumption) ?q5r12
        case q5y12 =>
          intro w' hSw
          (try dsimp only at hSw)
          go_split_ands
          simp only [List.getElem_toArray, List.getElem_cons_succ, List.getElem_cons_zero]
          go_simp
          all_goals (try with_reducible rfl)
        simp only [List.getElem_toArray, List.getElem_cons_succ, List.getElem_cons_zero, Act.put, List.setIfInBounds_toArray, List.set_cons_zero, List.set_cons_succ]
        refine anyI_ready (rs := [12]) (by as_aux_lemma => kernel_rfl) (by simp) ?_
        refine AllI.cons rfl rfl (fun K hK => ?_) AllI.nil
        simp only [List.getElem_toArray, List.getElem_cons_succ, List.getElem_cons_zero]
        go_simp
        have hN7 := HN5.out.alloc (.cells #[.int .i64 ((n1 : Int) + 1), .int .i64 1, .int .i64 1, .int .i64 0] 62)
        have hS7 := And.intro (tn_S HB3.out hgf hcf hN7.below) hN7.c1
        (try simp only [and_assoc] at hS7)
        clear hN7 hHeld
        refine hK.out _ _ hS7 (fun hHeld => ?_)
        clear hK K
        (try simp only [Act.put, List.setIfInBounds_toArray, List.set_cons_zero, List.set_cons_succ])
        refine anyI_ready (rs := [13]) (by as_aux_lemma => kernel_rfl) (by simp) ?_
        refine AllI.cons rfl rfl (fun K hK => ?_) AllI.nil
        simp only [List.getElem_toArray, List.getElem_cons_succ, List.getElem_cons_zero]
        rw [if_pos (by rfl)]
        refine wp_append_lies _ (.tmp 259) (.tmp 270) 43 rfl (w3.heap.size + 1) 62 i0 (.agg #[.int .i64 0, .int .i64 0, .int .i64 0, .int .i64 0]) 4 32 Tryd.underlying43 hi9 hz90 hz91 hz92 rfl (by decide) _ _ _ (by simp [Act.eval]) (HN5.out.row.alloc _) ⟨w5.heap.size, 0, none⟩ 1 1 (cellsA [⟨(n1 : Int) + 1, 1, 1, 0⟩]) (by simp [Act.eval]) rfl (arcs_newT _ [⟨(n1 : Int) + 1, 1, 1, 0⟩] _ rfl _) (arcs_oneT _) (by decide) (by unfold maxLen; omega) (by omega) (by simp; have := HN5.out.lt; omega) _ rfl ?_; intro g9 c9 w9 hown6 hgrow6 _ _; have hN6 := HN5.out.app (Z := [⟨(n1 : Int) + 1, 1, 1, 0⟩]) hown6 hgrow6; have e6 := HN5.out.g1 hgrow6; have f6 := HN5.out.k1 hgrow6; have hS6 := And.intro (tn_S HB3.out hgf hcf (HN5.out.below6 hgrow6)) e6; (try simp only [and_assoc] at hS6); have HN9 := Lib.hid hN6; clear hown6 hgrow6 hN6
        clear hHeld
        refine hK.out _ _ hS6 (fun hHeld => ?_)
        clear hK K
        (try simp only [Act.put, List.setIfInBounds_toArray, List.set_cons_zero, List.set_cons_succ])
        refine anyI_take (i := 14) (oi := _) (v := ?q5v15) rfl (by as_aux_lemma => kernel_rfl) (by as_aux_lemma => kernel_rfl) (by as_aux_lemma => kernel_rfl) rfl (fun _ _ _ h => h) (Or.inl ⟨by rfl, ?q5y15⟩) (by assumption) ?q5r15
        case q5y15 =>
          intro w' hSw
          (try dsimp only at hSw)
          go_split_ands
          simp only [List.getElem_toArray, List.getElem_cons_succ, List.getElem_cons_zero]
          go_simp
          all_goals (try with_reducible rfl)
        simp only [List.getElem_toArray, List.getElem_cons_succ, List.getElem_cons_zero, Act.put, List.setIfInBounds_toArray, List.set_cons_zero, List.set_cons_succ]
        refine anyI_last (by as_aux_lemma => kernel_rfl) (by as_aux_lemma => kernel_rfl) rfl (fun K hK => ?_)
        simp only [List.getElem_toArray, List.getElem_cons_succ, List.getElem_cons_zero]
        go_simp
        refine hK.out _ _ ?_
        clear hK K
        (try simp only [Act.put, List.setIfInBounds_toArray, List.set_cons_zero, List.set_cons_succ])
        clear hS0 hHeld hS5 hS6 hS7 dfn
        go_wp2_with fail
        go_roundw
        case rel => exact ⟨i + 1, _, by go_num, by omega, by rw [HSU.out, ← HEA.out]; exact HN9.out⟩
        case measure => simp [intOf]; omega
      | false =>
        have HEA : Hid ([(⟨(n1 : Int) + 1, 2, 1, 0⟩ : ArcD)] = [endA m gl t i]) := Lib.hid (by unfold endA; rw [HGI.out, HNI.out]; rfl)
        go_wp2_with (go_at_call 34; refine (specHas _ G x false _ (HGO.out _ HN.out.below) HCG hG).mono ?_; rintro e w9 ⟨rfl, rfl⟩)
        refine wp_region_last 15 (fun w' => w'.cell? ⟨w.heap.size, 0, none⟩ = some (.int .i64 W) ∧ w'.cell? ⟨w.heap.size, 1, none⟩ = some (.int .i64 H) ∧ w'.cell? ⟨w.heap.size, 2, none⟩ = some (.string C) ∧ w'.cell? ⟨gf, i, none⟩ = some (.int .i64 x) ∧ w'.cell? ⟨w3.heap.size, 1, none⟩ = some va) (by as_aux_lemma => kernel_rfl) (by as_aux_lemma => kernel_rfl) (by as_aux_lemma => kernel_rfl) (by decide) hS0 (fun hHeld => ?_)
        refine anyI_take (i := 0) (oi := _) (v := ?q6v1) rfl (by as_aux_lemma => kernel_rfl) (by as_aux_lemma => kernel_rfl) (by as_aux_lemma => kernel_rfl) rfl (fun _ _ _ h => h) (Or.inl ⟨by rfl, ?q6y1⟩) (by assumption) ?q6r1
        case q6y1 =>
          intro w' hSw
          (try dsimp only at hSw)
          go_split_ands
          simp only [List.getElem_toArray, List.getElem_cons_zero]
          go_simp
          all_goals (try with_reducible rfl)
        simp only [List.getElem_toArray, List.getElem_cons_zero, Act.put, List.setIfInBounds_toArray, List.set_cons_zero, List.set_cons_succ]
        refine anyI_take (i := 1) (oi := _) (v := ?q6v2) rfl (by as_aux_lemma => kernel_rfl) (by as_aux_lemma => kernel_rfl) (by as_aux_lemma => kernel_rfl) rfl (fun _ _ _ h => h) (Or.inl ⟨by rfl, ?q6y2⟩) (by assumption) ?q6r2
        case q6y2 =>
          intro w' hSw
          (try dsimp only at hSw)
          go_split_ands
          simp only [List.getElem_toArray, List.getElem_cons_succ, List.getElem_cons_zero]
          go_simp
          all_goals (try with_reducible rfl)
        simp only [List.getElem_toArray, List.getElem_cons_succ, List.getElem_cons_zero, Act.put, List.setIfInBounds_toArray, List.set_cons_zero, List.set_cons_succ]
        refine anyI_take (i := 2) (oi := _) (v := ?q6v3) rfl (by as_aux_lemma => kernel_rfl) (by as_aux_lemma => kernel_rfl) (by as_aux_lemma => kernel_rfl) rfl (fun _ _ _ h => h) (Or.inl ⟨by rfl, ?q6y3⟩) (by assumption) ?q6r3
        case q6y3 =>
          intro w' hSw
          (try dsimp only at hSw)
          go_split_ands
          simp only [List.getElem_toArray, List.getElem_cons_succ, List.getElem_cons_zero]
          go_simp
          all_goals (try with_reducible rfl)
        simp only [List.getElem_toArray, List.getElem_cons_succ, List.getElem_cons_zero, Act.put, List.setIfInBounds_toArray, List.set_cons_zero, List.set_cons_succ]
        refine anyI_take (i := 3) (oi := _) (v := ?q6v4) rfl (by as_aux_lemma => kernel_rfl) (by as_aux_lemma => kernel_rfl) (by as_aux_lemma => kernel_rfl) rfl (fun _ _ _ h => h) (Or.inl ⟨by rfl, ?q6y4⟩) (by assumption) ?q6r4
        case q6y4 =>
          intro w' hSw
          (try dsimp only at hSw)
          go_split_ands
          simp only [List.getElem_toArray, List.getElem_cons_succ, List.getElem_cons_zero]
          go_simp
          all_goals (try with_reducible rfl)
        simp only [List.getElem_toArray, List.getElem_cons_succ, List.getElem_cons_zero, Act.put, List.setIfInBounds_toArray, List.set_cons_zero, List.set_cons_succ]
        refine anyI_take (i := 4) (oi := _) (v := ?q6v5) rfl (by as_aux_lemma => kernel_rfl) (by as_aux_lemma => kernel_rfl) (by as_aux_lemma => kernel_rfl) rfl (fun _ _ _ h => h) (Or.inl ⟨by rfl, ?q6y5⟩) (by assumption) ?q6r5
        case q6y5 =>
          intro w' hSw
          (try dsimp only at hSw)
          go_split_ands
          simp only [List.getElem_toArray, List.getElem_cons_succ, List.getElem_cons_zero]
          go_simp
          all_goals (try with_reducible rfl)
        simp only [List.getElem_toArray, List.getElem_cons_succ, List.getElem_cons_zero, Act.put, List.setIfInBounds_toArray, List.set_cons_zero, List.set_cons_succ]
        refine anyI_take (i := 5) (oi := _) (v := ?q6v6) rfl (by as_aux_lemma => kernel_rfl) (by as_aux_lemma => kernel_rfl) (by as_aux_lemma => kernel_rfl) rfl (fun _ _ _ h => h) (Or.inl ⟨by rfl, ?q6y6⟩) (by assumption) ?q6r6
        case q6y6 =>
          intro w' hSw
          (try dsimp only at hSw)
          go_split_ands
          simp only [List.getElem_toArray, List.getElem_cons_succ, List.getElem_cons_zero]
          go_simp
          all_goals (try with_reducible rfl)
        simp only [List.getElem_toArray, List.getElem_cons_succ, List.getElem_cons_zero, Act.put, List.setIfInBounds_toArray, List.set_cons_zero, List.set_cons_succ]
        refine anyI_take (i := 6) (oi := _) (v := ?q6v7) rfl (by as_aux_lemma => kernel_rfl) (by as_aux_lemma => kernel_rfl) (by as_aux_lemma => kernel_rfl) rfl (fun _ _ _ h => h) (Or.inl ⟨by rfl, ?q6y7⟩) (by assumption) ?q6r7
        case q6y7 =>
          intro w' hSw
          (try dsimp only at hSw)
          go_split_ands
          simp only [List.getElem_toArray, List.getElem_cons_succ, List.getElem_cons_zero]
          go_simp
          all_goals (try with_reducible rfl)
        simp only [List.getElem_toArray, List.getElem_cons_succ, List.getElem_cons_zero, Act.put, List.setIfInBounds_toArray, List.set_cons_zero, List.set_cons_succ]
        refine anyI_take (i := 7) (oi := _) (v := ?q6v8) rfl (by as_aux_lemma => kernel_rfl) (by as_aux_lemma => kernel_rfl) (by as_aux_lemma => kernel_rfl) rfl (fun _ _ _ h => h) (Or.inl ⟨by rfl, ?q6y8⟩) (by assumption) ?q6r8
        case q6y8 =>
          intro w' hSw
          (try dsimp only at hSw)
          go_split_ands
          simp only [List.getElem_toArray, List.getElem_cons_succ, List.getElem_cons_zero]
          go_simp
          all_goals (try with_reducible rfl)
        simp only [List.getElem_toArray, List.getElem_cons_succ, List.getElem_cons_zero, Act.put, List.setIfInBounds_toArray, List.set_cons_zero, List.set_cons_succ]
        refine anyI_take (i := 10) (oi := _) (v := ?q6v9) rfl (by as_aux_lemma => kernel_rfl) (by as_aux_lemma => kernel_rfl) (by as_aux_lemma => kernel_rfl) rfl (fun _ _ _ h => h) (Or.inl ⟨by rfl, ?q6y9⟩) (by assumption) ?q6r9
        case q6y9 =>
          intro w' hSw
          (try dsimp only at hSw)
          go_split_ands
          simp only [List.getElem_toArray, List.getElem_cons_succ, List.getElem_cons_zero]
          go_simp
          all_goals (try with_reducible rfl)
        simp only [List.getElem_toArray, List.getElem_cons_succ, List.getElem_cons_zero, Act.put, List.setIfInBounds_toArray, List.set_cons_zero, List.set_cons_succ]
        refine anyI_ready (rs := [8]) (by as_aux_lemma => kernel_rfl) (by simp) ?_
        refine AllI.cons rfl rfl (fun K hK => ?_) AllI.nil
        simp only [List.getElem_toArray, List.getElem_cons_succ, List.getElem_cons_zero]
        go_simp
        go_at_call 18
        refine (specInNode W H C x t n1 hC HZ _).mono ?_
        rintro e w5 ⟨rfl, hb5⟩
        have hN5 := HN.out.drew.call hb5
        have hS5 := And.intro (tn_S HB3.out hgf hcf hN5.below) hN5.c1
        (try simp only [and_assoc] at hS5)
        have HN5 := Lib.hid hN5
        clear hb5 hN5 hHeld
        refine hK.out _ _ hS5 (fun hHeld => ?_)
        clear hK K
        (try simp only [Act.put, List.setIfInBounds_toArray, List.set_cons_zero, List.set_cons_succ])
        refine anyI_take (i := 9) (oi := _) (v := ?q6v11) rfl (by as_aux_lemma => kernel_rfl) (by as_aux_lemma => kernel_rfl) (by as_aux_lemma => kernel_rfl) rfl (fun _ _ _ h => h) (Or.inl ⟨by rfl, ?q6y11⟩) (by assumption) ?q6r11
        case q6y11 =>
          intro w' hSw
          (try dsimp only at hSw)
          go_split_ands
          simp only [List.getElem_toArray, List.getElem_cons_succ, List.getElem_cons_zero]
          go_simp
          all_goals (try with_reducible rfl)
        simp only [List.getElem_toArray, List.getElem_cons_succ, List.getElem_cons_zero, Act.put, List.setIfInBounds_toArray, List.set_cons_zero, List.set_cons_succ]
        refine anyI_take (i := 11) (oi := _) (v := ?q6v12) rfl (by as_aux_lemma => kernel_rfl) (by as_aux_lemma => kernel_rfl) (by as_aux_lemma => kernel_rfl) rfl (fun _ _ _ h => h) (Or.inl ⟨by rfl, ?q6y12⟩) (by assumption) ?q6r12
        case q6y12 =>
          intro w' hSw
          (try dsimp only at hSw)
          go_split_ands
          simp only [List.getElem_toArray, List.getElem_cons_succ, List.getElem_cons_zero]
          go_simp
          all_goals (try with_reducible rfl)
        simp only [List.getElem_toArray, List.getElem_cons_succ, List.getElem_cons_zero, Act.put, List.setIfInBounds_toArray, List.set_cons_zero, List.set_cons_succ]
        refine anyI_ready (rs := [12]) (by as_aux_lemma => kernel_rfl) (by simp) ?_
        refine AllI.cons rfl rfl (fun K hK => ?_) AllI.nil
        simp only [List.getElem_toArray, List.getElem_cons_succ, List.getElem_cons_zero]
        go_simp
        have hN7 := HN5.out.alloc (.cells #[.int .i64 ((n1 : Int) + 1), .int .i64 2, .int .i64 1, .int .i64 0] 62)
        have hS7 := And.intro (tn_S HB3.out hgf hcf hN7.below) hN7.c1
        (try simp only [and_assoc] at hS7)
        clear hN7 hHeld
        refine hK.out _ _ hS7 (fun hHeld => ?_)
        clear hK K
        (try simp only [Act.put, List.setIfInBounds_toArray, List.set_cons_zero, List.set_cons_succ])
        refine anyI_ready (rs := [13]) (by as_aux_lemma => kernel_rfl) (by simp) ?_
        refine AllI.cons rfl rfl (fun K hK => ?_) AllI.nil
        simp only [List.getElem_toArray, List.getElem_cons_succ, List.getElem_cons_zero]
        rw [if_pos (by rfl)]
        refine wp_append_lies _ (.tmp 259) (.tmp 270) 43 rfl (w3.heap.size + 1) 62 i0 (.agg #[.int .i64 0, .int .i64 0, .int .i64 0, .int .i64 0]) 4 32 Tryd.underlying43 hi9 hz90 hz91 hz92 rfl (by decide) _ _ _ (by simp [Act.eval]) (HN5.out.row.alloc _) ⟨w5.heap.size, 0, none⟩ 1 1 (cellsA [⟨(n1 : Int) + 1, 2, 1, 0⟩]) (by simp [Act.eval]) rfl (arcs_newT _ [⟨(n1 : Int) + 1, 2, 1, 0⟩] _ rfl _) (arcs_oneT _) (by decide) (by unfold maxLen; omega) (by omega) (by simp; have := HN5.out.lt; omega) _ rfl ?_; intro g9 c9 w9 hown6 hgrow6 _ _; have hN6 := HN5.out.app (Z := [⟨(n1 : Int) + 1, 2, 1, 0⟩]) hown6 hgrow6; have e6 := HN5.out.g1 hgrow6; have f6 := HN5.out.k1 hgrow6; have hS6 := And.intro (tn_S HB3.out hgf hcf (HN5.out.below6 hgrow6)) e6; (try simp only [and_assoc] at hS6); have HN9 := Lib.hid hN6; clear hown6 hgrow6 hN6
        clear hHeld
        refine hK.out _ _ hS6 (fun hHeld => ?_)
        clear hK K
        (try simp only [Act.put, List.setIfInBounds_toArray, List.set_cons_zero, List.set_cons_succ])
        refine anyI_take (i := 14) (oi := _) (v := ?q6v15) rfl (by as_aux_lemma => kernel_rfl) (by as_aux_lemma => kernel_rfl) (by as_aux_lemma => kernel_rfl) rfl (fun _ _ _ h => h) (Or.inl ⟨by rfl, ?q6y15⟩) (by assumption) ?q6r15
        case q6y15 =>
          intro w' hSw
          (try dsimp only at hSw)
          go_split_ands
          simp only [List.getElem_toArray, List.getElem_cons_succ, List.getElem_cons_zero]
          go_simp
          all_goals (try with_reducible rfl)
        simp only [List.getElem_toArray, List.getElem_cons_succ, List.getElem_cons_zero, Act.put, List.setIfInBounds_toArray, List.set_cons_zero, List.set_cons_succ]
        refine anyI_last (by as_aux_lemma => kernel_rfl) (by as_aux_lemma => kernel_rfl) rfl (fun K hK => ?_)
        simp only [List.getElem_toArray, List.getElem_cons_succ, List.getElem_cons_zero]
        go_simp
        refine hK.out _ _ ?_
        clear hK K
        (try simp only [Act.put, List.setIfInBounds_toArray, List.set_cons_zero, List.set_cons_succ])
        clear hS0 hHeld hS5 hS6 hS7 dfn
        go_wp2_with fail
        go_roundw
        case rel => exact ⟨i + 1, _, by go_num, by omega, by rw [HSU.out, ← HEA.out]; exact HN9.out⟩
        case measure => simp [intOf]; omega
    · obtain rfl : F = i := by omega
      have HAE : Hid (A = endT m sl gl t strict F ++ [⟨2, 1, (S.length : Int) - (G.length : Int), 0⟩]) := Lib.hid (by
        rw [HAA.out]
        unfold netG
        rw [endT_all, HM.out, HSL.out, HMF.out, HGL.out])
      have hl : (endT m sl gl t strict F).length ≤ 200000 := by omega
      have hwsg : IntKind.i64.wrap ((S.length : Int) - (G.length : Int)) = (S.length : Int) - (G.length : Int) := IntWalk.i64_in _ (by omega)
      have dn := hN.c1
      have HN5 := Lib.hid hN
      clear hN hl9
      generalize endT m sl gl t strict F = Z at HN5 HAE hl
      go_upto_region 49 with (at_builtin; go_loud (refine wpList_append_lies _ rfl _ _ 43 rfl (w3.heap.size + 1) 62 i0 (.agg #[.int .i64 0, .int .i64 0, .int .i64 0, .int .i64 0]) 4 32 Tryd.underlying43 hi9 hz90 hz91 hz92 rfl (by decide) _ _ _ rfl (HN5.out.row.alloc _) ⟨wr.heap.size, 0, none⟩ 1 1 (cellsA [⟨2, 1, (S.length : Int) - (G.length : Int), 0⟩]) rfl rfl (arcs_newT _ [⟨2, 1, (S.length : Int) - (G.length : Int), 0⟩] _ rfl _) (arcs_oneT _) (by decide) (by unfold maxLen; omega) (by omega) (by simp; have := HN5.out.lt; omega) _ rfl ?_; intro g6 c6 w6 hown6 hgrow6 _ _; have hN6 := HN5.out.app (Z := [⟨2, 1, (S.length : Int) - (G.length : Int), 0⟩]) hown6 hgrow6; have e6 := HN5.out.g1 hgrow6; have f6 := HN5.out.k1 hgrow6; have HN6 := Lib.hid hN6; clear hown6 hgrow6 hN6))
      clear dn e6 f6
      generalize w6.setCell ⟨w3.heap.size, 1, none⟩ (.slice (some ⟨g6, 0, none⟩) (Z.length + 1) c6) = w7 at HN6 ⊢
      generalize hv7 : (Value.slice (some ⟨g6, 0, none⟩) (Z.length + 1) c6) = v7 at HN6
      rw [← HAE.out] at HN6
      have hN7 := HN6.out
      have x0 := hN7.c0
      have x1 := hN7.c1
      have hB7 := next_below HB3.out hN7.below
      have hr := tn_res hB7
      have r0 : w7.cell? ⟨w.heap.size + 1, 0, none⟩ = some (.int .i64 0) := (by rw [cell_of_row _ _ _ _ _ _ hr]; rfl)
      have r1 : w7.cell? ⟨w.heap.size + 1, 1, none⟩ = some (.slice none 0 0) := (by rw [cell_of_row _ _ _ _ _ _ hr]; rfl)
      have k0 := frozen_of_row _ _ 0 _ _ hr
      have k1 := frozen_of_row _ _ 1 _ _ hr
      have hs3 := HB3.out.size
      rw [World.size_alloc, World.size_alloc] at hs3
      obtain ⟨q0, q1, hown, hbl⟩ := tn_back (N := N) hB7 (own_base hN7.row (by omega))
      have HOW := Lib.hid hown
      have HBL := Lib.hid hbl
      subst hv7
      clear hN7 hB7 hr hs3 hown hbl HN6 HN5 HAE
      go_wp2_with fail
      refine bodyPost_ret (v := .tuple #[.agg #[.int .i64 N, .slice (some ⟨g6, 0, none⟩) (Z.length + 1) c6], .bool true]) ?_ rfl ⟨_, rfl, HOW.out, HBL.out⟩
      simp [results, Tryd.results17, go_sem, q0, q1]
  --L7]


end Go.Proofs.YtnbbhdbcapfbkaaDoor

