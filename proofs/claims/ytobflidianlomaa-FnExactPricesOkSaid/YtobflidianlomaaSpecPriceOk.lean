/-
  CONTRACT of spec.PricesOk. No law is proved here.
-/
import Derived.Test.YtobflidianlomaaPriceP
import Derived.BigQuiet
import Derived.Deep.QuietTactic
import Derived.Deep.DeepCutAuto
import Derived.Deep.CutRange
namespace Go.Proofs.Ytobflidianlomaa
set_option maxRecDepth 4096
open Go.ChangeShapes Go.WideShapes Go.ChangeAt Go.RowKit

theorem prAt_at {Q : List Int} {v : Nat} {x : Int} (h : Q[v]? = some x) : prAt Q (v : Int) = x := by
  unfold prAt
  rw [Int.toNat_natCast, List.getD_eq_getElem?_getD, h]
  rfl
theorem prArc_at {Q : List Int} {a t : Nat} {r c y sa st : Int} (ha : Q[a]? = some sa) (ht : Q[t]? = some st) : prArc Q (⟨(a : Int), (t : Int), r, c⟩, y) = (!(decide (y < r) && decide (sa + c < st)) && !(decide (0 < y) && decide (st - c < sa))) := by
  unfold prArc prF prB
  simp only [prAt_at ha, prAt_at ht]

set_option maxHeartbeats 4000000 in
theorem specPricesOk (N : Int) (A : List ArcD) (F Q : List Int) (v vf vq : Value) (b : Bool) (hAl : A.length ≤ 2000000) (hFl : F.length ≤ 2000000) (hQl : Q.length ≤ 2000000) (HB : Hid (pricesOkV N A F Q = b)) (w : World) (hv : Arcs w v A) (hf : Ints w vf F) (hq : Ints w vq Q) :
    Calls Try.prog 24 #[.agg #[.int .i64 N, v], vf, vq] w (Made w (.bool b)) := by
  have hB := Below.refl (w.alloc (.cells #[.int .i64 N, v] 26)).heap.size (w.alloc (.cells #[.int .i64 N, v] 26))
  obtain ⟨c0, c1⟩ := net_cells hB
  have HVV := Lib.hid hv
  have HFF := Lib.hid hf
  have HQQ := Lib.hid hq
  clear hv hf hq
  cases hok : flowOkV N A F with
  | false =>
    have HK := Lib.hid hok
    obtain rfl : b = false := by
      rw [← HB.out]
      unfold pricesOkV
      rw [hok]
      rfl
    clear hok
    go_enter Try.func24, Try.ntmps24
    go_wp2_with (go_at_call 30; refine (specFlowOk N A F v vf false hAl hFl HK _ (arcs_on HVV.out (below_box hB)) (ints_on HFF.out (below_box hB))).mono ?_; rintro e w1 ⟨rfl, hb⟩; have HB1 := Lib.hid (next_below hB hb); clear hb)
    go_ret
    exact ⟨rfl, below_box HB1.out⟩
  | true =>
    have HOKF := Lib.hid hok
    obtain ⟨hn, hF, _, _⟩ := flowOk_out hok
    obtain ⟨⟨h2, h15⟩, hA, hokA⟩ := netOk_out hn
    obtain ⟨n, rfl⟩ : ∃ n : Nat, N = n := ⟨N.toNat, by omega⟩
    have HBV : Hid ((decide ((Q.length : Int) = (n : Int)) && (Q.all (fun q => inV q (-1000000) 1000000) && (A.zip F).all (prArc Q))) = b) := Lib.hid (by
      rw [← HB.out]
      unfold pricesOkV
      rw [hok]
      rfl)
    obtain ⟨av, cv, rfl, HV⟩ := arcs_form HVV.out
    obtain ⟨af, cf, rfl, HF⟩ := ints_form HFF.out
    obtain ⟨aq, cq, rfl, HQ⟩ := ints_form HQQ.out
    have HVh := Lib.hid HV
    have HFh := Lib.hid HF
    have HQh := Lib.hid HQ
    have HOK := Lib.hid hokA
    have HL := Lib.hid hF
    have hn0 : 0 < n := by omega
    have hn15 : n ≤ 1500 := by omega
    rw [hF] at HFF ⊢
    clear HV HF HQ hokA hn hok hF
    by_cases hql : Q.length = n
    · have HBV2 : Hid ((Q.all (fun q => inV q (-1000000) 1000000) && (A.zip F).all (prArc Q)) = b) := Lib.hid (by
        have := HBV.out
        rw [hql] at this
        simpa using this)
      have e1 : ((Q.length : Int) != (n : Int)) = false := by rw [hql]; simp
      have HQL := Lib.hid hql
      clear hql
      go_enter Try.func24, Try.ntmps24
      go_wp2_with (go_at_call 30; refine (specFlowOk n A F _ _ true hAl hFl HOKF _ (arcs_on HVV.out (below_box hB)) (ints_on HFF.out (below_box hB))).mono ?_; rintro e w1 ⟨rfl, hb⟩; have hB1 := next_below hB hb; obtain ⟨c0, c1⟩ := net_cells hB1; clear hb)
      have HB1 := Lib.hid hB1
      clear hB hB1 c0 c1 e1
      go_loopw [7] (fun i wr => ∃ k : Nat, i = .int .i64 k ∧ k ≤ n ∧ Hid (∀ (j : Nat) q, j < k → Q[j]? = some q → -1000000 ≤ q ∧ q ≤ 1000000) ∧ w1 = wr) (fun i _ => n - (intOf i).toNat)
      case atStart => exact ⟨0, rfl, Nat.zero_le _, Lib.hid (fun j q h => by omega), rfl⟩
      case round =>
        obtain ⟨k, rfl, hk, HIN, rfl⟩ := hrel
        obtain ⟨c0, c1⟩ := net_cells HB1.out
        by_cases hlt : k < n
        · have hlt2 : (k : Int) < (n : Int) := by omega
          obtain ⟨q, hqk⟩ : ∃ q, Q[k]? = some q := ⟨_, List.getElem?_eq_getElem (by rw [HQL.out]; exact hlt)⟩
          rcases HQh.out with h0 | ⟨gq, rfl, hgq, hcq⟩
          · have := HQL.out; omega
          · have dq := ((below_box HB1.out).cell (p := ⟨gq, _, none⟩) hgq).trans (hcq k q hqk)
            have hlq : (k : Int) < (Q.length : Int) := by rw [HQL.out]; exact hlt2
            have HQK := Lib.hid hqk
            clear hcq hqk
            cases hin : inV q (-1000000) 1000000 with
            | true =>
              have HI := Lib.hid hin
              clear hin
              go_wp2_with (go_at_call 47; refine (l01In _ _ _ _ HI _).mono ?_; rintro e w2 ⟨rfl, rfl⟩)
              go_roundw
              case rel =>
                refine ⟨k + 1, by go_num, by omega, Lib.hid (fun j q' hj hq' => ?_), trivial⟩
                by_cases e : j = k
                · subst e
                  rw [HQK.out] at hq'
                  cases hq'
                  exact inV_iff.1 HI.out
                · exact HIN.out j q' (by omega) hq'
              case measure => simp [intOf]; omega
            | false =>
              have HI := Lib.hid hin
              obtain rfl : b = false := by
                rw [← HBV2.out]
                have : Q.all (fun q => inV q (-1000000) 1000000) = false := by
                  rw [List.all_eq_false]
                  exact ⟨q, List.mem_of_getElem? HQK.out, by rw [hin]; decide⟩
                rw [this]
                rfl
              clear hin
              go_wp2_with (go_at_call 47; refine (l01In _ _ _ _ HI _).mono ?_; rintro e w2 ⟨rfl, rfl⟩)
              go_ret
              exact ⟨rfl, below_box HB1.out⟩
        · obtain rfl : n = k := by omega
          have hall : Q.all (fun q => inV q (-1000000) 1000000) = true := by
            rw [List.all_eq_true]
            intro q hqm
            obtain ⟨j, hj, e⟩ := List.getElem_of_mem hqm
            exact inV_iff.2 (HIN.out j q (by rw [← HQL.out]; exact hj) (by rw [List.getElem?_eq_getElem hj, e]))
          have HBV3 : Hid ((A.zip F).all (prArc Q) = b) := Lib.hid (by
            have := HBV2.out
            rw [hall] at this
            simpa using this)
          clear hall
          go_wp2_with fail
          clear c0 c1
          go_loopw [8] (fun i wr => ∃ k : Nat, i = .int .i64 k ∧ k ≤ A.length ∧ Hid (∀ p ∈ (A.zip F).take k, prArc Q p = true) ∧ Below (w.alloc (.cells #[.int .i64 (n : Int), .slice av A.length cv] 26)).heap.size (w.alloc (.cells #[.int .i64 (n : Int), .slice av A.length cv] 26)) wr) (fun i _ => A.length - (intOf i).toNat)
          case atStart => exact ⟨0, rfl, Nat.zero_le _, Lib.hid (by rw [List.take_zero]; intro p hp; cases hp), HB1.out⟩
          case round =>
            clear HB1
            obtain ⟨k, rfl, hk, HALL, hB⟩ := hrel
            obtain ⟨c0, c1⟩ := net_cells hB
            by_cases hltk : k < A.length
            · have hltF : k < F.length := by have := HL.out; omega
              obtain ⟨y, hy⟩ : ∃ y, F[k]? = some y := ⟨_, List.getElem?_eq_getElem hltF⟩
              obtain ⟨a, t, xr, xc, hx, han, htn, hne, _, hcb⟩ := arc_natP HOK.out hltk
              obtain ⟨sa, hsa⟩ : ∃ q, Q[a]? = some q := ⟨_, List.getElem?_eq_getElem (by rw [HQL.out]; exact han)⟩
              obtain ⟨st, hst⟩ : ∃ q, Q[t]? = some q := ⟨_, List.getElem?_eq_getElem (by rw [HQL.out]; exact htn)⟩
              have hba := HIN.out a sa han hsa
              have hbt := HIN.out t st htn hst
              rcases HVh.out with h0 | ⟨g, rfl, hgl, hc⟩
              · omega
              · rcases HFh.out with h0 | ⟨gf, rfl, hgf, hcf⟩
                · have := HL.out; omega
                · rcases HQh.out with h0 | ⟨gq, rfl, hgq, hcq⟩
                  · have := HQL.out; omega
                  · obtain ⟨d0, d1, d2, d3⟩ := hc k _ hx
                    dsimp only at d0 d1 d2 d3
                    have hb0 := below_box hB
                    have e0 := (hb0.cell (p := ⟨g, _, none⟩) hgl).trans d0
                    have e1 := (hb0.cell (p := ⟨g, _, none⟩) hgl).trans d1
                    have e2 := (hb0.cell (p := ⟨g, _, none⟩) hgl).trans d2
                    have e3 := (hb0.cell (p := ⟨g, _, none⟩) hgl).trans d3
                    have hBa := hB.alloc hB.size (.cells #[.int .i64 (a : Int), .int .i64 (t : Int), .int .i64 xr, .int .i64 xc] 66)
                    have hXa := heap_alloc_new wr (.cells #[.int .i64 (a : Int), .int .i64 (t : Int), .int .i64 xr, .int .i64 xc] 66)
                    have dy := ((below_box hBa).cell (p := ⟨gf, _, none⟩) hgf).trans (hcf k y hy)
                    have da := ((below_box hBa).cell (p := ⟨gq, _, none⟩) hgq).trans (hcq a sa hsa)
                    have dt := ((below_box hBa).cell (p := ⟨gq, _, none⟩) hgq).trans (hcq t st hst)
                    have HBa := Lib.hid hBa
                    have HXa := Lib.hid hXa
                    have HDA := Lib.hid da
                    have HDT := Lib.hid dt
                    have HDY := Lib.hid dy
                    have HZ := Lib.hid (zip_at hx hy)
                    have HPA := Lib.hid (prArc_at (r := xr) (c := xc) (y := y) hsa hst)
                    have hlt6 : (k : Int) < (A.length : Int) := by omega
                    have han2 : (a : Int) < (n : Int) := by omega
                    have htn2 : (t : Int) < (n : Int) := by omega
                    have han3 : (a : Int) < (Q.length : Int) := by rw [HQL.out]; exact han2
                    have htn3 : (t : Int) < (Q.length : Int) := by rw [HQL.out]; exact htn2
                    clear hc hcf hcq hx hy hb0 hB hBa hXa hsa hst d0 d1 d2 d3 da dt dy
                    go_upto_region 12 with fail
                    generalize wr.alloc (.cells #[.int .i64 (a : Int), .int .i64 (t : Int), .int .i64 xr, .int .i64 xc] 66) = wa at HBa HXa HDA HDT HDY ⊢
                    generalize wr.heap.size = q at HXa ⊢
                    have b0 : wa.cell? ⟨q, 0, none⟩ = some (.int .i64 (a : Int)) := (cell_of_row _ _ _ _ _ _ HXa.out).trans rfl
                    have b1 : wa.cell? ⟨q, 1, none⟩ = some (.int .i64 (t : Int)) := (cell_of_row _ _ _ _ _ _ HXa.out).trans rfl
                    have b2 : wa.cell? ⟨q, 2, none⟩ = some (.int .i64 xr) := (cell_of_row _ _ _ _ _ _ HXa.out).trans rfl
                    have b3 : wa.cell? ⟨q, 3, none⟩ = some (.int .i64 xc) := (cell_of_row _ _ _ _ _ _ HXa.out).trans rfl
                    have da := HDA.out
                    have dt := HDT.out
                    have dy := HDY.out
                    have hw1 : IntKind.i64.wrap (sa + xc) = sa + xc := IntWalk.i64_in _ (by omega)
                    have hw2 : IntKind.i64.wrap (st - xc) = st - xc := IntWalk.i64_in _ (by omega)
                    obtain ⟨k1, hk1⟩ : ∃ c, Hid ((!prArc Q (⟨(a : Int), (t : Int), xr, xc⟩, y)) = c) := ⟨_, rfl⟩
                    clear HDA HDT HDY HXa
                    go_cut [89] from 39 to 89 (fun b wx => b = .bool k1 ∧ Below (w.alloc (.cells #[.int .i64 (n : Int), .slice (some ⟨g, 0, none⟩) A.length cv] 26)).heap.size (w.alloc (.cells #[.int .i64 (n : Int), .slice (some ⟨g, 0, none⟩) A.length cv] 26)) wx)
                    case first =>
                      by_cases hr9 : y < xr
                      · by_cases hl1 : sa + xc < st
                        · have e : k1 = true := by rw [← hk1.out, HPA.out]; simp [hr9, hl1]
                          go_quiet (fail)
                          go_wp2_with fail
                          go_meet
                          exact ⟨by rw [e], below_drewN HBa.out _⟩
                        · by_cases hy0 : 0 < y
                          · by_cases hl2 : st - xc < sa
                            · have e : k1 = true := by rw [← hk1.out, HPA.out]; simp [hl1, hy0, hl2]
                              go_quiet (fail)
                              go_wp2_with fail
                              go_meet
                              exact ⟨by rw [e], below_drewN HBa.out _⟩
                            · have e : k1 = false := by rw [← hk1.out, HPA.out]; simp [hl1, hl2]
                              go_quiet (fail)
                              go_wp2_with fail
                              go_meet
                              exact ⟨by rw [e], below_drewN HBa.out _⟩
                          · have e : k1 = false := by rw [← hk1.out, HPA.out]; simp [hl1, hy0]
                            go_quiet (fail)
                            go_wp2_with fail
                            go_meet
                            exact ⟨by rw [e], below_drewN HBa.out _⟩
                      · by_cases hy0 : 0 < y
                        · by_cases hl2 : st - xc < sa
                          · have e : k1 = true := by rw [← hk1.out, HPA.out]; simp [hy0, hl2]
                            go_quiet (fail)
                            go_wp2_with fail
                            go_meet
                            exact ⟨by rw [e], below_drewN HBa.out _⟩
                          · have e : k1 = false := by rw [← hk1.out, HPA.out]; simp [hr9, hl2]
                            go_quiet (fail)
                            go_wp2_with fail
                            go_meet
                            exact ⟨by rw [e], below_drewN HBa.out _⟩
                        · have e : k1 = false := by rw [← hk1.out, HPA.out]; simp [hr9, hy0]
                          go_quiet (fail)
                          go_wp2_with fail
                          go_meet
                          exact ⟨by rw [e], below_drewN HBa.out _⟩
                    case rest =>
                      clear b0 b1 b2 b3 da dt dy HBa hw1 hw2
                      obtain ⟨rfl, hB⟩ := hcut
                      have HBc := Lib.hid hB
                      clear hB
                      cases k1 with
                      | true =>
                        obtain rfl : b = false := by
                          rw [← HBV3.out, List.all_eq_false]
                          exact ⟨_, List.mem_of_getElem? HZ.out, by have := hk1.out; simpa using this⟩
                        go_wp2_with fail
                        go_ret
                        exact ⟨rfl, below_box HBc.out⟩
                      | false =>
                        go_wp2_with fail
                        go_roundw
                        case rel =>
                          refine ⟨k + 1, by go_num, by omega, Lib.hid (fun p hp => ?_), HBc.out⟩
                          obtain ⟨hi, h2⟩ := List.getElem?_eq_some_iff.1 HZ.out
                          rw [List.take_succ_eq_append_getElem hi] at hp
                          rcases List.mem_append.1 hp with h | h
                          · exact HALL.out p h
                          · rw [List.mem_singleton.1 h, h2]
                            have := hk1.out
                            simpa using this
                        case measure => simp [intOf]; omega
            · obtain rfl : k = A.length := by omega
              obtain rfl : b = true := by
                rw [← HBV3.out, List.all_eq_true]
                intro p hp
                exact HALL.out p (by rw [List.take_of_length_le (by rw [List.length_zip]; omega)]; exact hp)
              have HBc := Lib.hid hB
              clear hB
              go_wp2_with fail
              go_ret
              exact ⟨rfl, below_box HBc.out⟩
    · have e1 : ((Q.length : Int) != (n : Int)) = true := by simpa using (fun e => hql (by omega))
      obtain rfl : b = false := by
        rw [← HBV.out, decide_eq_false (by omega)]
        rfl
      clear hql
      go_enter Try.func24, Try.ntmps24
      go_wp2_with (go_at_call 30; refine (specFlowOk n A F _ _ true hAl hFl HOKF _ (arcs_on HVV.out (below_box hB)) (ints_on HFF.out (below_box hB))).mono ?_; rintro e w1 ⟨rfl, hb⟩; have hB1 := next_below hB hb; obtain ⟨c0, c1⟩ := net_cells hB1; clear hb)
      go_ret
      exact ⟨rfl, below_box hB1⟩

end Go.Proofs.Ytobflidianlomaa
