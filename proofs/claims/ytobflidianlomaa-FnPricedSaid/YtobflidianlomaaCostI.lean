/-
  CONTRACT of the program's FlowCost. No law is proved here.
-/
import Derived.Test.YtobflidianlomaaFlowI
import Derived.Test.YtobflidianlomaaCostB
namespace Go.Proofs.Ytobflidianlomaa
set_option maxRecDepth 4096
open Go.ChangeShapes Go.WideShapes Go.ChangeAt Go.RowKit

set_option maxHeartbeats 1000000 in
theorem implFlowCost (N : Int) (A : List ArcD) (F : List Int) (v vf : Value) (z : Int) (hAl : A.length ≤ 2000000) (hFl : F.length ≤ 2000000) (HZ : Hid (flowCostV N A F = z)) (w : World) (hv : Arcs w v A) (hf : Ints w vf F) :
    Calls Try.prog 12 #[.agg #[.int .i64 N, v], vf] w (Made w (.int .i64 z)) := by
  have hB := Below.refl (w.alloc (.cells #[.int .i64 N, v] 26)).heap.size (w.alloc (.cells #[.int .i64 N, v] 26))
  obtain ⟨c0, c1⟩ := net_cells hB
  cases hk : flowOkV N A F with
  | false =>
    have HVV := Lib.hid hv
    have HFF := Lib.hid hf
    have HK := Lib.hid hk
    have e : z = -1 := by rw [← HZ.out]; exact if_neg (by rw [hk]; simp)
    subst e
    clear hk hv hf
    go_enter Try.func12, Try.ntmps12
    go_wp2_with fail
    refine (implFlowOk N A F v vf false hAl hFl HK _ (arcs_on HVV.out (below_box hB)) (ints_on HFF.out (below_box hB))).mono ?_
    rintro e w1 ⟨rfl, hb⟩
    replace hB := next_below hB hb
    clear hb c0 c1
    go_wp2_with fail
    go_ret
    exact ⟨rfl, below_box hB⟩
  | true =>
    have HK := Lib.hid hk
    obtain ⟨n, rfl, h2, h15, hok, hA, hF, hP⟩ := flow_facts hk
    have e : costO (A.zip F) = z := by rw [← HZ.out]; exact (if_pos hk).symm
    have HE := Lib.hid e
    have hQ : ∀ p ∈ A.zip F, (0 ≤ p.2 ∧ p.2 ≤ 20) ∧ 0 ≤ p.1.c ∧ p.1.c ≤ 100 := fun p hp => ⟨hP p hp, (arcOk_out (hok _ (zip_arc hp))).2.2.2.2⟩
    have HQ := Lib.hid hQ
    have HOK := Lib.hid hok
    have HL := Lib.hid hF
    have HVV := Lib.hid hv
    obtain ⟨av, cv, rfl, HV⟩ := arcs_form hv
    obtain ⟨af, cf, rfl, HF⟩ := ints_form hf
    have hf2 : Ints w (.slice af A.length cf) F := by rw [← hF]; exact hf
    have HFF := Lib.hid hf2
    have HVh := Lib.hid HV
    have HFh := Lib.hid HF
    rw [hF]
    clear hk e hok hP HZ hv hf HV HF hf2 hQ hF
    go_enter Try.func12, Try.ntmps12
    go_wp2_with fail
    refine (implFlowOk n A F _ _ true hAl hFl HK _ (arcs_on HVV.out (below_box hB)) (ints_on HFF.out (below_box hB))).mono ?_
    rintro e w1 ⟨rfl, hb⟩
    replace hB := next_below hB hb
    obtain ⟨c0, c1⟩ := net_cells hB
    clear hb
    go_wp2_with fail
    go_loopw [5, 15] (fun s i wr => ∃ k : Nat, k ≤ A.length ∧ i = .int .i64 k ∧ s = .int .i64 (costO ((A.zip F).take k)) ∧ Below (w.alloc (.cells #[.int .i64 (n : Int), .slice av A.length cv] 26)).heap.size (w.alloc (.cells #[.int .i64 (n : Int), .slice av A.length cv] 26)) wr) (fun _ i _ => A.length - (intOf i).toNat)
    case atStart => exact ⟨0, Nat.zero_le _, rfl, rfl, hB⟩
    case round =>
      clear hB
      obtain ⟨k, hk, rfl, rfl, hB⟩ := hrel
      obtain ⟨c0, c1⟩ := net_cells hB
      by_cases hlt : k < A.length
      · have hltF : k < F.length := by have := HL.out; omega
        obtain ⟨y, hy⟩ : ∃ y, F[k]? = some y := ⟨_, List.getElem?_eq_getElem hltF⟩
        obtain ⟨a, bb, r, c, hx, han, hbn, hne, _, _⟩ := arc_nat HOK.out hlt
        rcases HVh.out with h0 | ⟨g, rfl, hgl, hc⟩
        · omega
        · rcases HFh.out with h0 | ⟨gf, rfl, hgf, hcf⟩
          · omega
          · obtain ⟨d0, d1, d2, d3⟩ := hc k _ hx
            dsimp only at d0 d1 d2 d3
            have e0 := ((below_box hB).cell (p := ⟨g, _, none⟩) hgl).trans d0
            have e1 := ((below_box hB).cell (p := ⟨g, _, none⟩) hgl).trans d1
            have e2 := ((below_box hB).cell (p := ⟨g, _, none⟩) hgl).trans d2
            have e3 := ((below_box hB).cell (p := ⟨g, _, none⟩) hgl).trans d3
            have hz := zip_at hx hy
            have h1 := HQ.out _ (List.mem_of_getElem? hz)
            dsimp only at h1
            have hcb := costO_bound (P := (A.zip F).take k) (fun p hp => HQ.out p (List.mem_of_mem_take hp))
            have hzl : ((A.zip F).take k).length ≤ 3200 := by rw [List.length_take, List.length_zip]; omega
            have h3 : 0 ≤ y * c := Int.mul_nonneg h1.1.1 h1.2.1
            have h4 : y * c ≤ 20 * 100 := Int.mul_le_mul h1.1.2 h1.2.2 h1.2.1 (by omega)
            have hw1 : IntKind.i64.wrap (y * c) = y * c := IntWalk.i64_in _ (by omega)
            have hw2 : IntKind.i64.wrap (costO ((A.zip F).take k) + y * c) = costO ((A.zip F).take k) + y * c := IntWalk.i64_in _ (by omega)
            have HN := Lib.hid (costO_snoc hz)
            have hB2 := hB.alloc hB.size (.cells #[.int .i64 a, .int .i64 bb, .int .i64 r, .int .i64 c] 66)
            have hb0 : (wr.alloc (.cells #[.int .i64 a, .int .i64 bb, .int .i64 r, .int .i64 c] 66)).heap[wr.heap.size]? = some (.cells #[.int .i64 a, .int .i64 bb, .int .i64 r, .int .i64 c] 66) := heap_alloc_new wr _
            have hlt2 : (k : Int) < (A.length : Int) := by omega
            have HB2 := Lib.hid hB2
            have H0 := Lib.hid hb0
            have HF2 := Lib.hid (hcf k y hy)
            clear hc hcf d0 d1 d2 d3 hB hB2 hx hy hb0 hz h1 hcb hzl h3 h4
            go_wp2_with fail
            generalize wr.alloc (.cells #[.int .i64 (a : Int), .int .i64 bb, .int .i64 r, .int .i64 c] 66) = wb at HB2 H0 ⊢
            generalize wr.heap.size = q at H0 ⊢
            have a0 : wb.cell? ⟨q, 3, none⟩ = some (.int .i64 c) := box_cell H0.out rfl
            have e4 := ((below_box HB2.out).cell (p := ⟨gf, _, none⟩) hgf).trans HF2.out
            have hlt3 : (k : Int) < (F.length : Int) := by omega
            have HB3 := Lib.hid HB2.out.drew
            go_still_tail 9, (by kernel_rfl)
            go_wp2_with fail
            go_roundw
            case rel => exact ⟨k + 1, by omega, by go_num, by rw [HN.out], HB3.out⟩
            case measure => simp [intOf]; omega
      · obtain rfl : k = A.length := by omega
        have e : costO ((A.zip F).take A.length) = z := by rw [List.take_of_length_le (by rw [List.length_zip]; omega)]; exact HE.out
        have HE2 := Lib.hid e
        clear e
        go_wp2_with fail
        go_ret
        exact ⟨by rw [← HE2.out]; rfl, below_box hB⟩

end Go.Proofs.Ytobflidianlomaa
