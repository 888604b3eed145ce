/-
  CONTRACT of the program's FlowMore. No law is proved here.
-/
import Derived.Test.YtghhlojjjjnogaaFlowI
import Derived.Test.YtghhlojjjjnogaaSpecMore
namespace Go.Proofs.Ytghhlojjjjnogaa
set_option maxRecDepth 4096
open Go.ChangeShapes Go.WideShapes Go.ChangeAt Go.RowKit

theorem implEmpty {w : World} {N : Int} {v : Value} {t : TypeId} {w1 : World} (hB : Below (w.alloc (.cells #[.int .i64 N, v] t)).heap.size (w.alloc (.cells #[.int .i64 N, v] t)) w1) :
    IntsBack w [] (.returned (.slice none 0 0)) w1 := ⟨_, rfl, World.ownsRow_nil _ _ _ _, below_box hB⟩
/-- The first k sums, and noughts behind them. -/
def sumK (F G : List Int) (k j : Nat) : Int := if j < k then F.getD j 0 + G.getD j 0 else 0
theorem sumK_none (F G : List Int) (n : Nat) : rowO (netO []) n = rowO (sumK F G 0) n := rowO_same fun c _ => by simp [sumK, netO]
theorem sumK_at {F G : List Int} {k : Nat} {x y : Int} (hx : F[k]? = some x) (hy : G[k]? = some y) : sumK F G (k + 1) k = x + y := by
  unfold sumK
  rw [if_pos (by omega), List.getD_eq_getElem?_getD, List.getD_eq_getElem?_getD, hx, hy]
  rfl
theorem sumK_other (F G : List Int) (k : Nat) : ∀ j, j ≠ k → sumK F G (k + 1) j = sumK F G k j := fun j hj => by
  unfold sumK
  by_cases h : j < k
  · rw [if_pos h, if_pos (by omega)]
  · rw [if_neg h, if_neg (by omega)]
theorem sumK_all {F G : List Int} (h : G.length = F.length) : rowO (sumK F G F.length) F.length = addL F G := by
  apply List.ext_getElem?
  intro j
  by_cases hj : j < F.length
  · have hx : F[j]? = some F[j] := List.getElem?_eq_getElem hj
    have hy : G[j]? = some (G[j]'(by omega)) := List.getElem?_eq_getElem (by omega)
    rw [rowO_at _ hj, addL_at hx hy]
    unfold sumK
    rw [if_pos hj, List.getD_eq_getElem?_getD, List.getD_eq_getElem?_getD, hx, hy]
    rfl
  · rw [List.getElem?_eq_none_iff.2 (by rw [rowO_len]; omega), List.getElem?_eq_none_iff.2 (by unfold addL; rw [List.length_zipWith]; omega)]

theorem implMoreA (N : Int) (A : List ArcD) (F : List Int) (v vf vg : Value) (hAl : A.length ≤ 2000000) (hFl : F.length ≤ 2000000) (hk : flowOkV N A F = false) (w : World) (hv : Arcs w v A) (hf : Ints w vf F) :
    Calls Try.prog 12 #[.agg #[.int .i64 N, v], vf, vg] w (IntsBack w []) := by
  have hB := Below.refl (w.alloc (.cells #[.int .i64 N, v] 26)).heap.size (w.alloc (.cells #[.int .i64 N, v] 26))
  obtain ⟨c0, c1⟩ := net_cells hB
  have HVV := Lib.hid hv
  have HFF := Lib.hid hf
  have HK := Lib.hid hk
  clear hv hf hk
  go_enter Try.func12, Try.ntmps12
  go_wp2_with fail
  refine (implFlowOk N A F v vf false hAl hFl HK _ (arcs_on HVV.out (below_box hB)) (ints_on HFF.out (below_box hB))).mono ?_
  rintro e w1 ⟨rfl, hb⟩
  replace hB := next_below hB hb
  clear hb c0 c1
  go_wp2_with fail
  go_ret
  exact implEmpty hB

theorem implMoreB (N : Int) (A : List ArcD) (F G : List Int) (v vf vg : Value) (hAl : A.length ≤ 2000000) (hFl : F.length ≤ 2000000) (hGl : G.length ≤ 2000000) (hk : flowOkV N A F = true) (hj : flowOkV N A G = false) (w : World) (hv : Arcs w v A) (hf : Ints w vf F) (hg : Ints w vg G) :
    Calls Try.prog 12 #[.agg #[.int .i64 N, v], vf, vg] w (IntsBack w []) := by
  have hB := Below.refl (w.alloc (.cells #[.int .i64 N, v] 26)).heap.size (w.alloc (.cells #[.int .i64 N, v] 26))
  obtain ⟨c0, c1⟩ := net_cells hB
  have HVV := Lib.hid hv
  have HFF := Lib.hid hf
  have HGG := Lib.hid hg
  have HK := Lib.hid hk
  have HJ := Lib.hid hj
  clear hv hf hg hk hj
  go_enter Try.func12, Try.ntmps12
  go_wp2_with fail
  refine (implFlowOk N A F v vf true hAl hFl HK _ (arcs_on HVV.out (below_box hB)) (ints_on HFF.out (below_box hB))).mono ?_
  rintro e w1 ⟨rfl, hb⟩
  replace hB := next_below hB hb
  obtain ⟨c0, c1⟩ := net_cells hB
  clear hb
  go_wp2_with fail
  refine (implFlowOk N A G v vg false hAl hGl HJ _ (arcs_on HVV.out (below_box hB)) (ints_on HGG.out (below_box hB))).mono ?_
  rintro e w2 ⟨rfl, hb⟩
  replace hB := next_below hB hb
  clear hb c0 c1
  go_wp2_with fail
  go_ret
  exact implEmpty hB

set_option maxHeartbeats 1000000 in
theorem implMoreC (N : Int) (A : List ArcD) (F G R : List Int) (v vf vg : Value) (hAl : A.length ≤ 2000000) (hFl : F.length ≤ 2000000) (hGl : G.length ≤ 2000000) (hk : flowOkV N A F = true) (hj : flowOkV N A G = true) (HR : Hid ((if flowOkV N A (addL F G) = true then addL F G else []) = R)) (w : World) (hv : Arcs w v A) (hf : Ints w vf F) (hg : Ints w vg G) :
    Calls Try.prog 12 #[.agg #[.int .i64 N, v], vf, vg] w (IntsBack w R) := by
  obtain ⟨i0, hi, hz0, hz1, hz2⟩ := info_parts Try.info3
  obtain ⟨n, rfl, _, _, _, hA, hF, hP⟩ := flow_facts hk
  obtain ⟨n', hn', _, _, _, _, hG, hQ⟩ := flow_facts hj
  clear hn'
  have hSl : (addL F G).length = A.length := addL_len hF hG
  have hB := Below.refl (w.alloc (.cells #[.int .i64 (n : Int), v] 26)).heap.size (w.alloc (.cells #[.int .i64 (n : Int), v] 26))
  obtain ⟨c0, c1⟩ := net_cells hB
  obtain ⟨af, cf, rfl, HF⟩ := ints_form hf
  obtain ⟨ag, cg, rfl, HG⟩ := ints_form hg
  have HVV := Lib.hid hv
  have HFF := Lib.hid hf
  have HGG := Lib.hid hg
  have HLF := Lib.hid hF
  have HLG := Lib.hid hG
  have HLS := Lib.hid hSl
  have HFh := Lib.hid HF
  have HGh := Lib.hid HG
  have HK := Lib.hid hk
  have HJ := Lib.hid hj
  have HP := Lib.hid hP
  have HQ := Lib.hid hQ
  clear hv hf hg hk hj HF HG hP hQ hF hG hSl
  go_enter Try.func12, Try.ntmps12
  go_wp2_with fail
  refine (implFlowOk n A F v _ true hAl hFl HK _ (arcs_on HVV.out (below_box hB)) (ints_on HFF.out (below_box hB))).mono ?_
  rintro e w1 ⟨rfl, hb⟩
  replace hB := next_below hB hb
  obtain ⟨c0, c1⟩ := net_cells hB
  clear hb
  go_wp2_with fail
  refine (implFlowOk n A G v _ true hAl hGl HJ _ (arcs_on HVV.out (below_box hB)) (ints_on HGG.out (below_box hB))).mono ?_
  rintro e w2 ⟨rfl, hb⟩
  replace hB := next_below hB hb
  obtain ⟨c0, c1⟩ := net_cells hB
  clear hb
  go_wp2_with (at_make; go_loud (refine wpList_make_full _ rfl (.tmp 20) (.tmp 20) 27 rfl _ 3 i0 (.int .i64 0) 1 Try.underlying27 hi hz0 hz1 .i64 .i64 F.length F.length F.length rfl rfl rfl rfl (by rw [hz2]; have := HLF.out; omega) (by unfold maxLen; have := HLF.out; omega) (Nat.le_refl _) ?_); intro w3 hrow hg3; go_loud (have hB3 := hB.grown hg3 hB.size (fun j hj => (by cases hj))); go_loud (have hrow3 := own_base (made_row0 hrow) (Nat.le_trans (by simp) hB.size) (B' := w.heap.size + 1)); generalize hGG : w2.heap.size = Gs at hrow3; have HR3 := Lib.hid hrow3; have HB3 := Lib.hid hB3; clear hrow hrow3 hg3 hB3)
  clear hB c0 c1
  go_loopw [24] (fun i wr => ∃ k : Nat, k ≤ F.length ∧ i = .int .i64 k ∧ wr.ownsRow (w.heap.size + 1) 3 1 (.slice (some ⟨Gs, 0, none⟩) F.length F.length) F.length ((rowO (sumK F G k) F.length).map (Value.int .i64)) ∧ Below (w.alloc (.cells #[.int .i64 (n : Int), v] 26)).heap.size (w.alloc (.cells #[.int .i64 (n : Int), v] 26)) wr) (fun i _ => F.length - (intOf i).toNat)
  case atStart => exact ⟨0, Nat.zero_le _, rfl, by rw [← sumK_none]; exact HR3.out, HB3.out⟩
  case round =>
    clear HR3 HB3
    obtain ⟨k, hk, rfl, hown, hB⟩ := hrel
    by_cases hlt : k < F.length
    · have hltA : k < A.length := by have := HLF.out; omega
      have hltG : k < G.length := by have := HLG.out; have := HLF.out; omega
      obtain ⟨y, hy⟩ : ∃ y, F[k]? = some y := ⟨_, List.getElem?_eq_getElem hlt⟩
      obtain ⟨u, hu⟩ : ∃ u, G[k]? = some u := ⟨_, List.getElem?_eq_getElem hltG⟩
      obtain ⟨x, hx⟩ : ∃ x, A[k]? = some x := ⟨_, List.getElem?_eq_getElem hltA⟩
      rcases HFh.out with h0 | ⟨gf, rfl, hgf, hcf⟩
      · omega
      · rcases HGh.out with h0 | ⟨gg, rfl, hgg, hcg⟩
        · omega
        · have e0 := ((below_box hB).cell (p := ⟨gf, _, none⟩) hgf).trans (hcf k y hy)
          have e1 := ((below_box hB).cell (p := ⟨gg, _, none⟩) hgg).trans (hcg k u hu)
          have hp := HP.out _ (List.mem_of_getElem? (zip_at hx hy))
          have hq := HQ.out _ (List.mem_of_getElem? (zip_at hx hu))
          have hw : IntKind.i64.wrap (y + u) = y + u := IntWalk.i64_in _ (by simp only at hp hq; omega)
          have hlt2 : (k : Int) < (F.length : Int) := by omega
          have hlt4 : (k : Int) < (G.length : Int) := by omega
          have r0 := own_num hown hlt
          have f0 := hown.frozenAt k
          obtain ⟨hs1, hg1⟩ := hown.stored k (.int .i64 (y + u))
          rw [rowO_put (sumK_at hy hu) (sumK_other F G k)] at hs1
          have hB1 := hB.grown hg1 hB.size (fun j hj => by cases hj; exact Nat.le_trans (by simp) (hown.lt Gs rfl).1)
          have HS1 := Lib.hid hs1
          have HB1 := Lib.hid hB1
          clear hcf hcg hy hu hx hp hq hs1 hg1 hB1 hown hB
          go_wp2_with fail
          go_still_tail 12, (by kernel_rfl)
          go_wp2_with fail
          go_roundw
          case rel => exact ⟨k + 1, by omega, by go_num, own_drew1 HS1.out, HB1.out.drew⟩
          case measure => simp [intOf]; omega
    · obtain rfl : k = F.length := by omega
      have hGF : G.length = F.length := by have := HLG.out; have := HLF.out; omega
      have hl : (addL F G).length = F.length := by have := HLS.out; have := HLF.out; omega
      rw [sumK_all hGF] at hown
      have HO := Lib.hid hown
      rw [← hl] at hown
      have HOI := Lib.hid (ints_of_own hown)
      rw [hl] at HOI
      have HL9 := Lib.hid hl
      obtain ⟨b, hb⟩ : ∃ b, Hid (flowOkV (n : Int) A (addL F G) = b) := ⟨_, rfl⟩
      have hbs := hB.size
      rw [World.size_alloc] at hbs
      obtain ⟨c0, c1⟩ := net_cells hB
      clear hown hGF hl
      go_wp2_with fail
      refine (implFlowOk n A (addL F G) v _ b hAl (by have := HLS.out; omega) hb _ (arcs_on HVV.out (below_box hB)) HOI.out).mono ?_
      rintro e w4 ⟨rfl, hbb⟩
      have HO4 := Lib.hid (own_below HO.out hbb (by omega))
      replace hB := next_below hB hbb
      clear hbb c0 c1
      cases b with
      | true =>
        have e : addL F G = R := by rw [← HR.out, hb.out]; rfl
        have HE := Lib.hid e
        clear e
        go_wp2_with fail
        go_ret
        exact ⟨_, rfl, by rw [← HE.out, HL9.out]; exact own_base HO4.out (by omega), below_box hB⟩
      | false =>
        have e : R = [] := by rw [← HR.out, hb.out]; rfl
        subst e
        go_wp2_with fail
        go_ret
        exact implEmpty hB

theorem implFlowMore (N : Int) (A : List ArcD) (F G R : List Int) (v vf vg : Value) (hAl : A.length ≤ 2000000) (hFl : F.length ≤ 2000000) (hGl : G.length ≤ 2000000) (HR : Hid (flowMoreL N A F G = R)) (w : World) (hv : Arcs w v A) (hf : Ints w vf F) (hg : Ints w vg G) :
    Calls Try.prog 12 #[.agg #[.int .i64 N, v], vf, vg] w (IntsBack w R) := by
  have h1 := HR.out
  unfold flowMoreL at h1
  cases hk : flowOkV N A F with
  | false =>
    rw [if_neg (by rw [hk]; simp)] at h1
    subst h1
    exact implMoreA N A F v vf vg hAl hFl hk w hv hf
  | true =>
    cases hj : flowOkV N A G with
    | false =>
      rw [if_neg (by rw [hj]; simp)] at h1
      subst h1
      exact implMoreB N A F G v vf vg hAl hFl hGl hk hj w hv hf hg
    | true =>
      refine implMoreC N A F G R v vf vg hAl hFl hGl hk hj (Lib.hid ?_) w hv hf hg
      rw [← h1]
      by_cases h2 : flowOkV N A (addL F G) = true
      · rw [if_pos h2, if_pos ⟨hk, hj, h2⟩]
      · rw [if_neg h2, if_neg (fun h => h2 h.2.2)]


end Go.Proofs.Ytghhlojjjjnogaa
