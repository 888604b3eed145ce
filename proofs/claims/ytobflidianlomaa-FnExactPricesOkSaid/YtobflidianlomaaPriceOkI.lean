/-
  CONTRACT of the program's PricesOk. No law is proved here.
-/
import Derived.Test.YtobflidianlomaaPricesI
namespace Go.Proofs.Ytobflidianlomaa
set_option maxRecDepth 4096
open Go.ChangeShapes Go.WideShapes Go.ChangeAt Go.RowKit

section
variable {P : List (ArcD × Int)} {Q : List Int} {n : Nat}
theorem prAt_nat (x : Int) : prAt Q ((x.toNat : Nat) : Int) = prAt Q x := by unfold prAt; rw [Int.toNat_natCast]
/-- A step that breaks the prices. -/
theorem pr_bad {u : Nat} {e : Nat × Int × Int} (he : e ∈ rowS P u) (hz : 0 < e.2.1) (hb : prAt Q (u : Int) + e.2.2 < prAt Q (e.1 : Int)) : P.all (prArc Q) = false := by
  obtain ⟨p, hp, ⟨h1, rfl⟩ | ⟨h1, rfl⟩⟩ := rowS_iff.1 he
  · rw [List.all_eq_false]
    refine ⟨p, hp, ?_⟩
    simp only at hz hb
    rw [prAt_nat, ← h1] at hb
    unfold prArc prF
    rw [decide_eq_true hb, decide_eq_true (show p.2 < p.1.r by omega)]
    simp
  · rw [List.all_eq_false]
    refine ⟨p, hp, ?_⟩
    simp only at hz hb
    rw [prAt_nat, ← h1] at hb
    unfold prArc prB
    rw [decide_eq_true (show prAt Q p.1.t - p.1.c < prAt Q p.1.f by omega), decide_eq_true hz]
    simp
/-- No step breaks them. -/
theorem pr_good (hP : Fit P n) (h : ∀ u, u < n → ∀ e ∈ rowS P u, ¬ (0 < e.2.1 ∧ prAt Q (u : Int) + e.2.2 < prAt Q (e.1 : Int))) : P.all (prArc Q) = true := by
  rw [List.all_eq_true]
  intro p hp
  obtain ⟨⟨f0, f1⟩, ⟨t0, t1⟩⟩ := hP.1 _ hp
  have h1 := h p.1.f.toNat (by omega) _ (rowS_iff.2 ⟨p, hp, .inl ⟨by omega, rfl⟩⟩)
  have h2 := h p.1.t.toNat (by omega) _ (rowS_iff.2 ⟨p, hp, .inr ⟨by omega, rfl⟩⟩)
  simp only [prAt_nat] at h1 h2
  unfold prArc prF prB
  simp only [Bool.and_eq_true, Bool.not_eq_true', Bool.and_eq_false_iff, decide_eq_false_iff_not]
  refine ⟨?_, ?_⟩
  · by_cases hr : p.2 < p.1.r
    · exact .inr fun hb => h1 ⟨by omega, hb⟩
    · exact .inl hr
  · by_cases hr : 0 < p.2
    · exact .inr fun hb => h2 ⟨hr, by omega⟩
    · exact .inl hr
theorem prAt_bd {c : Nat} (h : Q.all (fun q => inV q (-1000000) 1000000) = true) : -1000000 ≤ prAt Q (c : Int) ∧ prAt Q (c : Int) ≤ 1000000 := by
  unfold prAt
  rw [Int.toNat_natCast, List.getD_eq_getElem?_getD]
  cases hq : Q[c]? with
  | none => simp
  | some q => exact inV_iff.1 (List.all_eq_true.1 h q (List.mem_of_getElem? hq))
end
theorem okV_flow {N : Int} {A : List ArcD} {F Q : List Int} (h : flowOkV N A F = false) : pricesOkV N A F Q = false := by
  unfold pricesOkV
  rw [h]
  rfl
theorem okV_len {N : Int} {A : List ArcD} {F Q : List Int} (h : (Q.length : Int) ≠ N) : pricesOkV N A F Q = false := by
  unfold pricesOkV
  rw [decide_eq_false h]
  simp
theorem okV_out {N : Int} {A : List ArcD} {F Q : List Int} (h : Q.all (fun q => inV q (-1000000) 1000000) = false) : pricesOkV N A F Q = false := by
  unfold pricesOkV
  rw [h]
  simp
theorem okV_arc {N : Int} {A : List ArcD} {F Q : List Int} (h : (A.zip F).all (prArc Q) = false) : pricesOkV N A F Q = false := by
  unfold pricesOkV
  rw [h]
  simp
theorem okV_yes {N : Int} {A : List ArcD} {F Q : List Int} (h1 : flowOkV N A F = true) (h2 : (Q.length : Int) = N) (h3 : Q.all (fun q => inV q (-1000000) 1000000) = true) (h4 : (A.zip F).all (prArc Q) = true) : pricesOkV N A F Q = true := by
  unfold pricesOkV
  rw [h1, decide_eq_true h2, h3, h4]
  rfl

set_option maxHeartbeats 4000000 in
theorem implPricesOk (N : Int) (A : List ArcD) (F Q : List Int) (v vf vq : Value) (b : Bool) (hA : A.length ≤ 2000000) (hF : F.length ≤ 2000000) (_hQ : Q.length ≤ 2000000) (HB : Hid (pricesOkV N A F Q = b)) (w : World) (hv : Arcs w v A) (hf : Ints w vf F) (hq : Ints w vq Q) :
    Calls Try.prog 13 #[.agg #[.int .i64 N, v], vf, vq] w (Made w (.bool b)) := by
  have hB := Below.refl (w.alloc (.cells #[.int .i64 N, v] 26)).heap.size (w.alloc (.cells #[.int .i64 N, v] 26))
  obtain ⟨c0, c1⟩ := net_cells hB
  have HVV := Lib.hid hv
  have HFF := Lib.hid hf
  clear hv hf
  obtain ⟨aq, cq, rfl, HQ⟩ := ints_form hq
  have HQC : Hid (∀ (j : Nat) (y : Int), Q[j]? = some y → ∃ g, aq = some ⟨g, 0, none⟩ ∧ g < w.heap.size ∧ w.cell? ⟨g, j, none⟩ = some (.int .i64 y)) := Lib.hid fun j y hj => by
    rcases HQ with h0 | ⟨g, rfl, hg, hc⟩
    · have := (List.getElem?_eq_some_iff.1 hj).1
      omega
    · exact ⟨g, rfl, hg, hc j y hj⟩
  clear hq HQ
  cases hk : flowOkV N A F with
  | false =>
    have HK := Lib.hid hk
    have e1 : b = false := by rw [← HB.out]; exact okV_flow hk
    subst e1
    clear hk
    go_enter Try.func13, Try.ntmps13
    go_wp2_with (go_at_call 39; refine (implFlowOk N A F v vf false hA hF HK _ (arcs_on HVV.out (below_box hB)) (ints_on HFF.out (below_box hB))).mono ?_; rintro e w1 ⟨rfl, hb⟩; have HB1 := Lib.hid (next_below hB hb); clear hb)
    go_ret
    exact ⟨rfl, below_box HB1.out⟩
  | true =>
    have HK := Lib.hid hk
    obtain ⟨n, rfl, h2, h15, hok, hA3, hFl, hPt⟩ := flow_facts hk
    have HOK := Lib.hid hok
    have HPT := Lib.hid hPt
    have HL := Lib.hid hFl
    have HFT := Lib.hid (fit_of (F := F) ((flowOk_out hk).1))
    clear hk hok hFl hPt
    by_cases hlen : Q.length = n
    · have HLQ := Lib.hid hlen
      rw [hlen]
      clear hlen
      go_enter Try.func13, Try.ntmps13
      go_wp2_with (go_at_call 39; refine (implFlowOk n A F v vf true hA hF HK _ (arcs_on HVV.out (below_box hB)) (ints_on HFF.out (below_box hB))).mono ?_; rintro e w1 ⟨rfl, hb⟩; have hB1 := next_below hB hb; obtain ⟨k0, k1⟩ := net_cells hB1; have HB1 := Lib.hid hB1; clear hb hB1)
      clear hB c0 c1
      go_loopw [26] (fun i wr => ∃ k : Nat, i = .int .i64 k ∧ k ≤ n ∧ Hid (∀ q ∈ Q.take k, inV q (-1000000) 1000000 = true) ∧ Below (w.alloc (.cells #[.int .i64 (n : Int), v] 26)).heap.size (w.alloc (.cells #[.int .i64 (n : Int), v] 26)) wr) (fun i _ => n - (intOf i).toNat)
      case atStart => exact ⟨0, rfl, Nat.zero_le _, Lib.hid (by rw [List.take_zero]; intro q hq; cases hq), HB1.out⟩
      case round =>
        clear HB1 k0 k1
        obtain ⟨k, rfl, hk, HAL, hB⟩ := hrel
        by_cases hlt : k < n
        · obtain ⟨y, hy⟩ : ∃ y, Q[k]? = some y := ⟨_, List.getElem?_eq_getElem (by have := HLQ.out; omega)⟩
          obtain ⟨g, rfl, hg, hc⟩ := HQC.out k y hy
          have d0 := ((below_box hB).cell (p := ⟨g, k, none⟩) hg).trans hc
          have hlt2 : (k : Int) < (n : Int) := by omega
          have HY := Lib.hid hy
          have HBB := Lib.hid hB
          clear hy hc hB
          cases hi : inV y (-1000000) 1000000 with
          | true =>
            have HI := Lib.hid hi
            clear hi
            go_wp2_with (go_at_call 33; refine (implWithin _ _ _ _ HI _).mono ?_; rintro e w2 ⟨rfl, rfl⟩)
            go_roundw
            case rel =>
              refine ⟨k + 1, by go_num, by omega, Lib.hid ?_, HBB.out⟩
              obtain ⟨hi2, h3⟩ := List.getElem?_eq_some_iff.1 HY.out
              intro q hq
              rw [List.take_succ_eq_append_getElem hi2, h3] at hq
              rcases List.mem_append.1 hq with h | h
              · exact HAL.out q h
              · rw [List.mem_singleton.1 h]; exact HI.out
            case measure => simp [intOf]; omega
          | false =>
            have HI := Lib.hid hi
            have e1 : b = false := by
              rw [← HB.out]
              refine okV_out ?_
              rw [List.all_eq_false]
              exact ⟨y, List.mem_of_getElem? HY.out, by rw [hi]; simp⟩
            subst e1
            clear hi
            go_wp2_with (go_at_call 33; refine (implWithin _ _ _ _ HI _).mono ?_; rintro e w2 ⟨rfl, rfl⟩)
            go_ret
            exact ⟨rfl, below_box HBB.out⟩
        · obtain rfl : k = n := by omega
          have hall : Q.all (fun q => inV q (-1000000) 1000000) = true := by
            rw [List.all_eq_true]
            have := HAL.out
            rw [← HLQ.out, List.take_length] at this
            exact this
          have HALL := Lib.hid hall
          have hCQ : ∀ c, c < k → ∃ g, aq = some ⟨g, 0, none⟩ ∧ g < w.heap.size ∧ w.cell? ⟨g, c, none⟩ = some (.int .i64 (prAt Q (c : Int))) := fun c hc => by
            obtain ⟨y, hy⟩ : ∃ y, Q[c]? = some y := ⟨_, List.getElem?_eq_getElem (by have := HLQ.out; omega)⟩
            obtain ⟨g, h1, h3, h4⟩ := HQC.out c y hy
            refine ⟨g, h1, h3, ?_⟩
            unfold prAt
            rw [Int.toNat_natCast, List.getD_eq_getElem?_getD, hy]
            exact h4
          obtain ⟨gq, rfl, hgq, _⟩ := hCQ 0 (by omega)
          have HCQ : Hid (∀ c, c < k → w.cell? ⟨gq, c, none⟩ = some (.int .i64 (prAt Q (c : Int)))) := Lib.hid fun c hc => by
            obtain ⟨g, h1, _, h4⟩ := hCQ c hc
            cases h1
            exact h4
          obtain ⟨k0, k1⟩ := net_cells hB
          have HB1 := Lib.hid hB
          obtain ⟨av, cv, rfl, HV⟩ := arcs_form HVV.out
          clear hall hCQ HAL HQC hB HV
          go_wp2_with (go_at_call 34; refine (implResidual k A F _ vf h15 HOK.out hA3 HL.out HPT.out _ (arcs_on HVV.out (below_box HB1.out)) (ints_on HFF.out (below_box HB1.out))).mono ?_; rintro e w2 ⟨G, S, X, rfl, hRN, hb⟩; have HRN := Lib.hid hRN; have HB2 := Lib.hid (next_below HB1.out hb); clear hb hRN)
          clear k0 k1 HB1
          go_loopw [38] (fun i wr => ∃ u : Nat, i = .int .i64 u ∧ u ≤ k ∧ Hid (∀ u', u' < u → ∀ e ∈ rowS (A.zip F) u', ¬ (0 < e.2.1 ∧ prAt Q (u' : Int) + e.2.2 < prAt Q (e.1 : Int))) ∧ Below w2.heap.size w2 wr) (fun i _ => k - (intOf i).toNat)
          case atStart => exact ⟨0, rfl, Nat.zero_le _, Lib.hid (fun u' h => by omega), Below.refl _ _⟩
          case round =>
            obtain ⟨u, rfl, hu, HGD, hB⟩ := hrel
            by_cases hun : u < k
            · have d3 := (HRN.out.below hB).at_row hun
              obtain ⟨au, cu, hSu⟩ := own_form (HRN.out.own u hun)
              rw [hSu] at d3
              have hlen := rowS_box_len HL.out HRN.out.len u
              have hbl : (bsL (A.zip X) u).length ≤ 6400 := by
                rw [hlen]
                have := rowS_len (A.zip F) u
                have h2 : (A.zip F).length ≤ A.length := by rw [List.length_zip]; omega
                omega
              have HSV := Lib.hid hSu
              have hun2 : (u : Int) < (k : Int) := by omega
              obtain ⟨m, hm⟩ : ∃ m, m = (bsL (A.zip X) u).length := ⟨_, rfl⟩
              rw [← hm] at d3 hlen hbl
              have HLEN := Lib.hid hlen
              have HM := Lib.hid hm
              have HBW := Lib.hid hB
              clear hSu hlen hm hB
              go_wp2_with fail
              go_loopw [44] (fun i wq => ∃ j : Nat, i = .int .i64 j ∧ j ≤ m ∧ Hid (∀ e ∈ (rowS (A.zip F) u).take j, ¬ (0 < e.2.1 ∧ prAt Q (u : Int) + e.2.2 < prAt Q (e.1 : Int))) ∧ Below w2.heap.size w2 wq) (fun i _ => m - (intOf i).toNat)
              case atStart => exact ⟨0, rfl, Nat.zero_le _, Lib.hid (by rw [List.take_zero]; intro e he; cases he), HBW.out⟩
              case round =>
                clear HBW d3
                obtain ⟨j, rfl, hj, HGJ, hB⟩ := hrel
                have HBW := Lib.hid hB
                clear hB
                by_cases hjm : j < m
                · obtain ⟨⟨t, z, kc⟩, he⟩ : ∃ e, (rowS (A.zip F) u)[j]? = some e := ⟨_, List.getElem?_eq_getElem (by have := HLEN.out; omega)⟩
                  have hem := List.mem_of_getElem? he
                  obtain ⟨htn, hkc1, hkc2⟩ := row_lt HFT.out hem
                  simp only at htn hkc1 hkc2
                  have hRm := HRN.out.below HBW.out
                  obtain ⟨bb, c, z', k', hb, h1, h3, hut⟩ := hRm.step3 HL.out HOK.out he
                  obtain ⟨ga, ca, hga⟩ := own_at2 (hRm.own u hun) (by rw [← HM.out]; omega)
                  have hga2 := HSV.out.symm.trans hga
                  injection hga2 with hga3 _ hga4
                  subst hga3 hga4
                  have d0 := own_ptr (by have := hRm.own u hun; rw [hga] at this; exact this) hb
                  obtain ⟨_, c1, c3⟩ := boxR_cells h1
                  obtain ⟨c0, _, _⟩ := boxR_cells h3
                  have f0 : wr.cell? ⟨bb, 0, none⟩ = some (.int .i64 (u : Int)) := box_cell h1 rfl
                  have f2 : wr.cell? ⟨bb, 2, none⟩ = some (.int .i64 kc) := box_cell h1 rfl
                  have hBw := below_box (next_below HB2.out HBW.out)
                  have du := (hBw.cell (p := ⟨gq, u, none⟩) hgq).trans (HCQ.out u hun)
                  have dt := (hBw.cell (p := ⟨gq, t, none⟩) hgq).trans (HCQ.out t htn)
                  have hbu := prAt_bd (c := u) HALL.out
                  have hjm2 : (j : Int) < (m : Int) := by omega
                  have htn2 : (t : Int) < (k : Int) := by omega
                  have hw2 : IntKind.i64.wrap (prAt Q (u : Int) + kc) = prAt Q (u : Int) + kc := IntWalk.i64_in _ (by omega)
                  have HE := Lib.hid he
                  have HEM := Lib.hid hem
                  have hnext : Hid (¬ (0 < z ∧ prAt Q (u : Int) + kc < prAt Q (t : Int))) → Hid (∀ e ∈ (rowS (A.zip F) u).take (j + 1), ¬ (0 < e.2.1 ∧ prAt Q (u : Int) + e.2.2 < prAt Q (e.1 : Int))) := fun h => Lib.hid (by
                    obtain ⟨hi, h2⟩ := List.getElem?_eq_some_iff.1 HE.out
                    intro e he
                    rw [List.take_succ_eq_append_getElem hi] at he
                    rcases List.mem_append.1 he with h4 | h4
                    · exact HGJ.out e h4
                    · rw [List.mem_singleton.1 h4, h2]
                      exact h.out)
                  have HNX := Lib.hid hnext
                  have HXB : Hid (0 < z → prAt Q (u : Int) + kc < prAt Q (t : Int) → (A.zip F).all (prArc Q) = false) := Lib.hid fun h1 h2 => pr_bad HEM.out h1 h2
                  clear he hem h1 h3 hut hb hga hRm hBw hbu hnext
                  generalize prAt Q (u : Int) = qu at hw2 du HNX HXB
                  generalize prAt Q (t : Int) = qt at dt HNX HXB
                  cases hz : decide (0 < z) with
                  | false =>
                    have HZ := Lib.hid hz
                    clear hz
                    go_wp2_with fail
                    go_quiet ((go_at_call 41; exact quiet_of (implOpen bb z false HZ.out _ (by assumption))))
                    go_wp2_with fail
                    go_roundw
                    case rel => exact ⟨j + 1, by go_num, by omega, HNX.out (Lib.hid fun h => absurd h.1 (of_decide_eq_false HZ.out)), ⟨HBW.out.os, HBW.out.tape, HBW.out.output, HBW.out.size, HBW.out.block⟩⟩
                    case measure => simp [intOf]; omega
                  | true =>
                    have HZ := Lib.hid hz
                    clear hz
                    cases hq : decide (qu + kc < qt) with
                    | false =>
                      have HQQ := Lib.hid hq
                      go_wp2_with fail
                      go_quiet ((first | (go_at_call 41; exact quiet_of (implOpen bb z true HZ.out _ (by assumption))) | (go_at_call 42; exact quiet_of (implTo bb c t _ (by assumption) (by assumption)))))
                      go_wp2_with fail
                      go_roundw
                      case rel => exact ⟨j + 1, by go_num, by omega, HNX.out (Lib.hid fun h => absurd h.2 (of_decide_eq_false HQQ.out)), ⟨HBW.out.os, HBW.out.tape, HBW.out.output, HBW.out.size, HBW.out.block⟩⟩
                      case measure => simp [intOf]; omega
                    | true =>
                      have e1 : b = false := by rw [← HB.out]; exact okV_arc (HXB.out (of_decide_eq_true HZ.out) (of_decide_eq_true hq))
                      subst e1
                      go_wp2_with fail
                      go_quiet ((first | (go_at_call 41; exact quiet_of (implOpen bb z true HZ.out _ (by assumption))) | (go_at_call 42; exact quiet_of (implTo bb c t _ (by assumption) (by assumption)))))
                      go_wp2_with fail
                      go_ret
                      exact ⟨rfl, below_box (next_below HB2.out ⟨HBW.out.os, HBW.out.tape, HBW.out.output, HBW.out.size, HBW.out.block⟩)⟩
                · obtain rfl : j = m := by omega
                  have hrow : Hid (∀ u', u' < u + 1 → ∀ e ∈ rowS (A.zip F) u', ¬ (0 < e.2.1 ∧ prAt Q (u' : Int) + e.2.2 < prAt Q (e.1 : Int))) := Lib.hid fun u' hu' => by
                    by_cases e1 : u' = u
                    · subst e1
                      have := HGJ.out
                      rwa [HLEN.out, List.take_length] at this
                    · exact HGD.out u' (by omega)
                  go_wp2_with fail
                  go_roundw
                  case rel => exact ⟨u + 1, by go_num, by omega, hrow, HBW.out⟩
                  case measure => simp [intOf]; omega
            · obtain rfl : u = k := by omega
              have e1 : b = true := by rw [← HB.out]; exact okV_yes HK.out (by rw [HLQ.out]) HALL.out (pr_good HFT.out HGD.out)
              subst e1
              go_wp2_with fail
              go_ret
              exact ⟨rfl, below_box (next_below HB2.out hB)⟩
    · have e1 : b = false := by rw [← HB.out]; exact okV_len (fun e => hlen (by omega))
      subst e1
      have hne : ((Q.length : Int) == (n : Int)) = false := by simpa using fun e => hlen (by omega)
      have hne2 : ((Q.length : Int) != (n : Int)) = true := by simpa using fun e => hlen (by omega)
      clear hlen
      go_enter Try.func13, Try.ntmps13
      go_wp2_with (go_at_call 39; refine (implFlowOk n A F v vf true hA hF HK _ (arcs_on HVV.out (below_box hB)) (ints_on HFF.out (below_box hB))).mono ?_; rintro e w1 ⟨rfl, hb⟩; have hB1 := next_below hB hb; obtain ⟨k0, k1⟩ := net_cells hB1; have HB1 := Lib.hid hB1; clear hb hB1)
      go_ret
      exact ⟨rfl, below_box HB1.out⟩

end Go.Proofs.Ytobflidianlomaa
