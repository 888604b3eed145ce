/-
  CONTRACT of spec.FlowCost. No law is proved here.
-/
import Derived.Test.YthaaadbeoedgbaaSpecFlow
namespace Go.Proofs.Ythaaadbeoedgbaa
set_option maxRecDepth 4096
open Go.ChangeShapes Go.WideShapes Go.ChangeAt Go.RowKit

theorem costO_bound {P : List (ArcD × Int)} (h : ∀ p ∈ P, (0 ≤ p.2 ∧ p.2 ≤ 20) ∧ 0 ≤ p.1.c ∧ p.1.c ≤ 100) : 0 ≤ costO P ∧ costO P ≤ 2000 * (P.length : Int) := by
  induction P with
  | nil => simp [costO]
  | cons p P ih =>
    have h1 := h p (List.mem_cons_self ..)
    have h2 := ih fun q hq => h q (List.mem_cons_of_mem _ hq)
    have h3 : 0 ≤ p.2 * p.1.c := Int.mul_nonneg h1.1.1 h1.2.1
    have h4 : p.2 * p.1.c ≤ 20 * 100 := Int.mul_le_mul h1.1.2 h1.2.2 h1.2.1 (by omega)
    simp only [costO, List.length_cons]
    omega

set_option maxHeartbeats 1000000 in
theorem specFlowCost (N : Int) (A : List ArcD) (F : List Int) (v vf : Value) (z : Int) (hAl : A.length ≤ 2000000) (hFl : F.length ≤ 2000000) (HZ : Hid (flowCostV N A F = z)) (w : World) (hv : Arcs w v A) (hf : Ints w vf F) :
    Calls Try.prog 41 #[.agg #[.int .i64 N, v], vf] w (Made w (.int .i64 z)) := by
  have hB := Below.refl (w.alloc (.cells #[.int .i64 N, v] 26)).heap.size (w.alloc (.cells #[.int .i64 N, v] 26))
  obtain ⟨c0, c1⟩ := net_cells hB
  cases hk : flowOkV N A F with
  | false =>
    have HVV := Lib.hid hv
    have HFF := Lib.hid hf
    have HK := Lib.hid hk
    have e : z = -1 := by rw [← HZ.out]; exact if_neg (by rw [hk]; simp)
    subst e
    clear hk hv hf
    go_enter Try.func41, Try.ntmps41
    go_wp2_with fail
    refine (specFlowOk N A F v vf false hAl hFl HK _ (arcs_on HVV.out (below_box hB)) (ints_on HFF.out (below_box hB))).mono ?_
    rintro e w1 ⟨rfl, hb⟩
    replace hB := next_below hB hb
    clear hb c0 c1
    go_wp2_with fail
    go_ret
    exact ⟨rfl, below_box hB⟩
  | true =>
    have HK := Lib.hid hk
    obtain ⟨n, rfl, h2, h15, hok, hA, hF, hP⟩ := flow_facts hk
    have e : costO (A.zip F) = z := by rw [← HZ.out]; exact (if_pos hk).symm
    have HE := Lib.hid e
    have hQ : ∀ p ∈ A.zip F, (0 ≤ p.2 ∧ p.2 ≤ 20) ∧ 0 ≤ p.1.c ∧ p.1.c ≤ 100 := fun p hp => ⟨hP p hp, (arcOk_out (hok _ (zip_arc hp))).2.2.2.2⟩
    have HQ := Lib.hid hQ
    have HVV := Lib.hid hv
    obtain ⟨av, cv, rfl, HV⟩ := arcs_form hv
    obtain ⟨af, cf, rfl, HF⟩ := ints_form hf
    have hf2 : Ints w (.slice af A.length cf) F := by rw [← hF]; exact hf
    have HFF := Lib.hid hf2
    have HVh := Lib.hid HV
    have HFh := Lib.hid HF
    clear hk e hok hP HZ hv hf HV HF hf2 hQ
    go_enter Try.func41, Try.ntmps41
    go_wp2_with fail
    refine (specFlowOk n A F _ _ true hAl hFl HK _ (arcs_on HVV.out (below_box hB)) (ints_on HFF.out (below_box hB))).mono ?_
    rintro e w1 ⟨rfl, hb⟩
    replace hB := next_below hB hb
    clear hb c0 c1
    go_wp2_with fail
    go_loopw [5, 6] (fun s i wr => ∃ k : Nat, k ≤ F.length ∧ i = .int .i64 k ∧ s = .int .i64 (costO ((A.zip F).take k)) ∧ Below (w.alloc (.cells #[.int .i64 (n : Int), .slice av A.length cv] 26)).heap.size (w.alloc (.cells #[.int .i64 (n : Int), .slice av A.length cv] 26)) wr) (fun _ i _ => F.length - (intOf i).toNat)
    case atStart => exact ⟨0, Nat.zero_le _, rfl, rfl, hB⟩
    case round =>
      clear hB
      obtain ⟨k, hk, rfl, rfl, hB⟩ := hrel
      obtain ⟨c0, c1⟩ := net_cells hB
      by_cases hlt : k < F.length
      · obtain ⟨y, hy⟩ : ∃ y, F[k]? = some y := ⟨_, List.getElem?_eq_getElem hlt⟩
        obtain ⟨x, hx⟩ : ∃ x, A[k]? = some x := ⟨_, List.getElem?_eq_getElem (by omega)⟩
        rcases HVh.out with h0 | ⟨g, rfl, hgl, hc⟩
        · omega
        · rcases HFh.out with h0 | ⟨gf, rfl, hgf, hcf⟩
          · omega
          · have e0 := ((below_box hB).cell (p := ⟨g, _, none⟩) hgl).trans (hc k x hx).2.2.2
            have e2 := ((below_box hB).cell (p := ⟨gf, _, none⟩) hgf).trans (hcf k y hy)
            have hz := zip_at hx hy
            have h1 := HQ.out _ (List.mem_of_getElem? hz)
            have hcb := costO_bound (P := (A.zip F).take k) (fun p hp => HQ.out p (List.mem_of_mem_take hp))
            have hzl : ((A.zip F).take k).length ≤ 3200 := by rw [List.length_take, List.length_zip]; omega
            have h3 : 0 ≤ y * x.c := Int.mul_nonneg h1.1.1 h1.2.1
            have h4 : y * x.c ≤ 20 * 100 := Int.mul_le_mul h1.1.2 h1.2.2 h1.2.1 (by omega)
            have hw1 : IntKind.i64.wrap (y * x.c) = y * x.c := IntWalk.i64_in _ (by omega)
            have hw2 : IntKind.i64.wrap (costO ((A.zip F).take k) + y * x.c) = costO ((A.zip F).take k) + y * x.c := IntWalk.i64_in _ (by omega)
            have HN := Lib.hid (costO_snoc hz)
            have hlt2 : (k : Int) < (F.length : Int) := by omega
            have hlt3 : (k : Int) < (A.length : Int) := by omega
            have hlt4 : k < A.length := by omega
            have HB2 := Lib.hid hB.drew
            clear hc hcf hx hy hz h1 hcb hzl h3 h4 hB
            go_wp2_with fail
            go_still_tail 13, (by kernel_rfl)
            go_wp2_with fail
            go_roundw
            case rel => exact ⟨k + 1, by omega, by go_num, by rw [HN.out], HB2.out⟩
            case measure => simp [intOf]; omega
      · obtain rfl : k = F.length := by omega
        have e : costO ((A.zip F).take F.length) = z := by rw [List.take_of_length_le (by rw [List.length_zip]; omega)]; exact HE.out
        have HE2 := Lib.hid e
        clear e
        go_wp2_with fail
        go_ret
        exact ⟨by rw [← HE2.out, hF]; rfl, below_box hB⟩

end Go.Proofs.Ythaaadbeoedgbaa
