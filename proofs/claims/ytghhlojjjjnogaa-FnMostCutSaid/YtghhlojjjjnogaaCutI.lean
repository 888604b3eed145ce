/-
  CONTRACTS of the program's CutOk, CutRoom. No law is proved here.
-/
import Derived.Test.YtghhlojjjjnogaaCutO
import Derived.Test.YtghhlojjjjnogaaFlowI
import Derived.Deep.RegionHeld3
import Derived.Deep.DeepCutAuto
import Derived.Deep.CutRange
namespace Go.Proofs.Ytghhlojjjjnogaa
set_option maxRecDepth 4096
open Go.ChangeShapes Go.WideShapes Go.ChangeAt Go.RowKit

theorem implCutOk (N : Int) (A : List ArcD) (o : Nat → Bool) (m : Nat) (v vs : Value) (b : Bool) (hA : A.length ≤ 2000000) (hm : m ≤ 2000000) (HB : Hid (cutOkV N A o m = b)) (w : World) (hv : Arcs w v A) (hs : Bools w vs o m) :
    Calls Try.prog 20 #[.agg #[.int .i64 N, v], vs] w (Made w (.bool b)) := by
  have hB := Below.refl (w.alloc (.cells #[.int .i64 N, v] 26)).heap.size (w.alloc (.cells #[.int .i64 N, v] 26))
  obtain ⟨c0, c1⟩ := net_cells hB
  have HV := Lib.hid hv
  have HS := Lib.hid hs
  obtain ⟨a9, c9, rfl⟩ := bools_form hs
  clear hv hs
  cases hn : netOkV N A with
  | false =>
    have HN := Lib.hid hn
    have e : b = false := by rw [← HB.out]; exact cut_net hn
    subst e
    clear hn
    go_enter Try.func20, Try.ntmps20
    go_wp2_with fail
    refine (implNetOk N A _ false HN _ (by omega) (arcs_on HV.out (below_box hB))).mono ?_
    rintro e w1 ⟨rfl, hb⟩
    replace hB := next_below hB hb
    clear hb c0 c1
    go_wp2_with fail
    go_ret
    exact ⟨rfl, below_box hB⟩
  | true =>
    have HN := Lib.hid hn
    obtain ⟨⟨hn2, hn15⟩, _, _⟩ := netOk_out hn
    clear hn
    by_cases hmN : (m : Int) = N
    · subst hmN
      have hmm : ((m : Int) == (m : Int)) = true := by simp
      have hm0 : (0 : Int) < (m : Int) := by omega
      have hm1 : (1 : Int) < (m : Int) := by omega
      cases h0 : o 0 with
      | false =>
        have e : b = false := by rw [← HB.out]; exact cut_zero h0
        subst e
        have H0 := Lib.hid h0
        clear h0
        go_enter Try.func20, Try.ntmps20
        go_wp2_with (go_at_call 40; refine (implNetOk (m : Int) A _ true HN _ (by omega) (arcs_on HV.out (below_box hB))).mono ?_; rintro e w1 ⟨rfl, hb⟩; go_loud (replace hB := next_below hB hb); go_loud (obtain ⟨c0, c1⟩ := net_cells hB); go_loud (obtain ⟨g, rfl, hc⟩ := bools_at (bools_on HS.out (below_box hB)) (by omega)); have d0 := hc 0 (by omega); rw [H0.out] at d0; clear hb hc)
        go_ret
        exact ⟨rfl, below_box hB⟩
      | true =>
        cases h1 : o 1 with
        | true =>
          have e : b = false := by rw [← HB.out]; exact cut_one h1
          subst e
          have H0 := Lib.hid h0
          have H1 := Lib.hid h1
          clear h0 h1
          go_enter Try.func20, Try.ntmps20
          go_wp2_with (go_at_call 40; refine (implNetOk (m : Int) A _ true HN _ (by omega) (arcs_on HV.out (below_box hB))).mono ?_; rintro e w1 ⟨rfl, hb⟩; go_loud (replace hB := next_below hB hb); go_loud (obtain ⟨c0, c1⟩ := net_cells hB); go_loud (obtain ⟨g, rfl, hc⟩ := bools_at (bools_on HS.out (below_box hB)) (by omega)); have d0 := hc 0 (by omega); have d1 := hc 1 (by omega); rw [H0.out] at d0; rw [H1.out] at d1; clear hb hc)
          go_ret
          exact ⟨rfl, below_box hB⟩
        | false =>
          have e : b = true := by rw [← HB.out]; exact cut_yes HN.out rfl h0 h1
          subst e
          have H0 := Lib.hid h0
          have H1 := Lib.hid h1
          clear h0 h1
          go_enter Try.func20, Try.ntmps20
          go_wp2_with (go_at_call 40; refine (implNetOk (m : Int) A _ true HN _ (by omega) (arcs_on HV.out (below_box hB))).mono ?_; rintro e w1 ⟨rfl, hb⟩; go_loud (replace hB := next_below hB hb); go_loud (obtain ⟨c0, c1⟩ := net_cells hB); go_loud (obtain ⟨g, rfl, hc⟩ := bools_at (bools_on HS.out (below_box hB)) (by omega)); have d0 := hc 0 (by omega); have d1 := hc 1 (by omega); rw [H0.out] at d0; rw [H1.out] at d1; clear hb hc)
          go_ret
          exact ⟨rfl, below_box hB⟩
    · have hmm : ((m : Int) == N) = false := by simpa using hmN
      have e : b = false := by rw [← HB.out]; exact cut_len hmN
      subst e
      clear hmN
      go_enter Try.func20, Try.ntmps20
      go_wp2_with (go_at_call 40; refine (implNetOk N A _ true HN _ (by omega) (arcs_on HV.out (below_box hB))).mono ?_; rintro e w1 ⟨rfl, hb⟩; go_loud (replace hB := next_below hB hb); go_loud (obtain ⟨c0, c1⟩ := net_cells hB); clear hb)
      go_ret
      exact ⟨rfl, below_box hB⟩

set_option maxHeartbeats 1000000 in
theorem implCutRoom (N : Int) (A : List ArcD) (o : Nat → Bool) (m : Nat) (v vs : Value) (z : Int) (hA : A.length ≤ 2000000) (hm : m ≤ 2000000) (HZ : Hid (cutRoomV N A o m = z)) (w : World) (hv : Arcs w v A) (hs : Bools w vs o m) :
    Calls Try.prog 21 #[.agg #[.int .i64 N, v], vs] w (Made w (.int .i64 z)) := by
  have hB := Below.refl (w.alloc (.cells #[.int .i64 N, v] 26)).heap.size (w.alloc (.cells #[.int .i64 N, v] 26))
  obtain ⟨c0, c1⟩ := net_cells hB
  have HV := Lib.hid hv
  have HS := Lib.hid hs
  obtain ⟨a9, c9, rfl⟩ := bools_form hs
  cases hk : cutOkV N A o m with
  | false =>
    have HK := Lib.hid hk
    have e : z = -1 := by rw [← HZ.out]; exact if_neg (by rw [hk]; simp)
    subst e
    clear hk hv hs
    go_enter Try.func21, Try.ntmps21
    go_wp2_with fail
    refine (implCutOk N A o m _ _ false hA hm HK _ (arcs_on HV.out (below_box hB)) (bools_on HS.out (below_box hB))).mono ?_
    rintro e w1 ⟨rfl, hb⟩
    replace hB := next_below hB hb
    clear hb c0 c1
    go_wp2_with fail
    go_ret
    exact ⟨rfl, below_box hB⟩
  | true =>
    have HK := Lib.hid hk
    have e : cutR o A = z := by rw [← HZ.out]; exact (if_pos hk).symm
    have HE := Lib.hid e
    obtain ⟨hn, hmN, _, _⟩ := cutOk_out hk
    subst hmN
    obtain ⟨⟨hn2, hn15⟩, hA32, hok⟩ := netOk_out hn
    have HOK := Lib.hid hok
    have HRM : Hid (∀ x ∈ A, 0 ≤ x.r ∧ x.r ≤ 20) := Lib.hid (fun x hx => (arcOk_out (hok x hx)).2.2.2.1)
    obtain ⟨av, cv, rfl, HVV⟩ := arcs_form hv
    have HVh := Lib.hid HVV
    clear hk e hn hok hv hs HVV HZ
    go_enter Try.func21, Try.ntmps21
    go_wp2_with fail
    refine (implCutOk (m : Int) A o m _ _ true hA hm HK _ (arcs_on HV.out (below_box hB)) (bools_on HS.out (below_box hB))).mono ?_
    rintro e w1 ⟨rfl, hb⟩
    replace hB := next_below hB hb
    obtain ⟨c0, c1⟩ := net_cells hB
    clear hb
    go_wp2_with fail
    clear c0 c1
    go_loopw [5, 15] (fun s i wr => ∃ k : Nat, k ≤ A.length ∧ i = .int .i64 k ∧ s = .int .i64 (cutR o (A.take k)) ∧ Below (w.alloc (.cells #[.int .i64 (m : Int), .slice av A.length cv] 26)).heap.size (w.alloc (.cells #[.int .i64 (m : Int), .slice av A.length cv] 26)) wr) (fun _ i _ => A.length - (intOf i).toNat)
    case atStart => exact ⟨0, Nat.zero_le _, rfl, rfl, hB⟩
    case round =>
      clear hB
      obtain ⟨k, hk, rfl, rfl, hB⟩ := hrel
      by_cases hlt : k < A.length
      · obtain ⟨a, b, r, c, hx, han, hbn, _, hr, _⟩ := arc_natC HOK.out hlt
        rcases HVh.out with h0 | ⟨g, rfl, hgl, hc⟩
        · omega
        · obtain ⟨d0, d1, d2, d3⟩ := hc k _ hx
          dsimp only at d0 d1 d2 d3
          have e0 := ((below_box hB).cell (p := ⟨g, _, none⟩) hgl).trans d0
          have e1 := ((below_box hB).cell (p := ⟨g, _, none⟩) hgl).trans d1
          have e2 := ((below_box hB).cell (p := ⟨g, _, none⟩) hgl).trans d2
          have e3 := ((below_box hB).cell (p := ⟨g, _, none⟩) hgl).trans d3
          obtain ⟨gs, rfl, hcs⟩ := bools_at (bools_on HS.out (below_box hB)) (by omega)
          have HN := Lib.hid (cutR_snoc (S := o) hx)
          have hbd := cutR_bound (S := o) (A := A.take k) (fun x hx => HRM.out x (List.mem_of_mem_take hx))
          have htl : (A.take k).length ≤ 3200 := by rw [List.length_take]; omega
          have hw1 : IntKind.i64.wrap (cutR o (A.take k) + r) = cutR o (A.take k) + r := IntWalk.i64_in _ (by omega)
          have hlt2 : (k : Int) < (A.length : Int) := by omega
          have han2 : (a : Int) < (m : Int) := by omega
          have hbn2 : (b : Int) < (m : Int) := by omega
          have HB2 := Lib.hid (hB.alloc hB.size (.cells #[.int .i64 a, .int .i64 b, .int .i64 r, .int .i64 c] 64))
          have H0 := Lib.hid (heap_alloc_new wr (.cells #[.int .i64 a, .int .i64 b, .int .i64 r, .int .i64 c] 64))
          clear hc hcs hx hB hbd htl d0 d1 d2 d3
          go_upto_region 7 with fail
          generalize wr.alloc (.cells #[.int .i64 (a : Int), .int .i64 b, .int .i64 r, .int .i64 c] 64) = wb at HB2 H0 ⊢
          generalize wr.heap.size = q at H0 ⊢
          have a0 := box_cell (j := 0) H0.out rfl
          have a1 := box_cell (j := 1) H0.out rfl
          have a2 := box_cell (j := 2) H0.out rfl
          obtain ⟨gs', hgs, hcs⟩ := bools_at (bools_on HS.out (below_box HB2.out)) (by omega)
          injection hgs with hgs
          injection hgs with hgs
          subst hgs
          have s0 := hcs a han
          have s1 := hcs b hbn
          clear hcs
          cases ha : o a with
          | false =>
            have HX := Lib.hid (cutAt_no (S := o) (a := a) (b := b) (r := r) (c := c) (fun h => by rw [ha] at h; cases h.1))
            rw [ha] at s0
            clear ha
            go_wp2_with fail
            go_roundw
            case rel => exact ⟨k + 1, by omega, by go_num, by rw [HN.out, HX.out, Int.add_zero], HB2.out⟩
            case measure => simp [intOf]; omega
          | true =>
            cases hb : o b with
            | true =>
              have HX := Lib.hid (cutAt_no (S := o) (a := a) (b := b) (r := r) (c := c) (fun h => by rw [hb] at h; cases h.2))
              rw [ha] at s0
              rw [hb] at s1
              clear ha hb
              go_wp2_with fail
              go_roundw
              case rel => exact ⟨k + 1, by omega, by go_num, by rw [HN.out, HX.out, Int.add_zero], HB2.out⟩
              case measure => simp [intOf]; omega
            | false =>
              have HX := Lib.hid (cutAt_yes (r := r) (c := c) ha hb)
              rw [ha] at s0
              rw [hb] at s1
              clear ha hb
              go_wp2_with fail
              go_roundw
              case rel => exact ⟨k + 1, by omega, by go_num, by rw [HN.out, HX.out], HB2.out⟩
              case measure => simp [intOf]; omega
      · obtain rfl : k = A.length := by omega
        have e : cutR o (A.take A.length) = z := by rw [List.take_length]; exact HE.out
        have HE2 := Lib.hid e
        clear e
        go_wp2_with fail
        go_ret
        exact ⟨by rw [← HE2.out]; rfl, below_box hB⟩

end Go.Proofs.Ytghhlojjjjnogaa
