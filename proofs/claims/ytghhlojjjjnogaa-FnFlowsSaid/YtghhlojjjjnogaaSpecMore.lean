/-
  CONTRACT of spec.FlowMore. No law is proved here.
-/
import Derived.Test.YtghhlojjjjnogaaSpecFlow
import Derived.RegionTactic
import Derived.Deep.RegionLaw
import Derived.Deep.AppendLies
import Derived.BigRegion
namespace Go.Proofs.Ytghhlojjjjnogaa
set_option maxRecDepth 4096
open Go.ChangeShapes Go.WideShapes Go.ChangeAt Go.RowKit

theorem addL_snoc {F G : List Int} {k : Nat} {x y : Int} (hx : F[k]? = some x) (hy : G[k]? = some y) : (addL F G).take (k + 1) = (addL F G).take k ++ [x + y] := by
  obtain ⟨hi, e⟩ := List.getElem?_eq_some_iff.1 (addL_at hx hy)
  rw [List.take_succ_eq_append_getElem hi, e]
theorem specEmpty {w : World} {N : Int} {v : Value} {t : TypeId} {w1 : World} (hB : Below (w.alloc (.cells #[.int .i64 N, v] t)).heap.size (w.alloc (.cells #[.int .i64 N, v] t)) w1) :
    IntsBack w [] (.returned (.slice (some ⟨w1.heap.size, 0, none⟩) 0 0)) (w1.alloc (.cells #[] 3)) := by
  have hs := hB.size
  rw [World.size_alloc] at hs
  exact ⟨_, rfl, World.ownsRow_made (base := w.heap.size) (e := 3) (size := 1) w1 #[] 0 (by omega) (by decide) rfl, below_box (hB.alloc hB.size _)⟩

theorem int_newd (w : World) (x : Int) (t : TypeId) : ∀ j u, ([x].map (Value.int .i64))[j]? = some u → (w.alloc (.cells #[.int .i64 x] t)).drew.cell? ((⟨w.heap.size, 0, none⟩ : Addr).add j) = some u := int_new w x t
theorem more_step {B b0 : Nat} {w0 wr w3 : World} {S : Value} {L M : List Int} {x : Int} {v' : Value} {t : TypeId} (hM : M = L ++ [x]) (hB : Below b0 w0 wr) (hown : wr.ownsRow B 3 1 S L.length (L.map (Value.int .i64)))
    (h : w3.ownsRow B 3 1 v' (L.length + 1) (L.map (Value.int .i64) ++ [x].map (Value.int .i64))) (hg : (wr.drew.alloc (.cells #[.int .i64 x] t)).grownBy w3 S.ownBlock) (hb : b0 ≤ B) (hbw : b0 ≤ wr.heap.size) :
    w3.ownsRow B 3 1 v' M.length (M.map (Value.int .i64)) ∧ Below b0 w0 w3 :=
  ⟨ints_push h hM, (hB.drew.alloc (by simpa using hbw) _).grown hg (by simp; omega) (fun j hj => Nat.le_trans hb (hown.lt j hj).1)⟩
theorem specMoreA (N : Int) (A : List ArcD) (F : List Int) (v vf vg : Value) (hAl : A.length ≤ 2000000) (hFl : F.length ≤ 2000000) (hk : flowOkV N A F = false) (w : World) (hv : Arcs w v A) (hf : Ints w vf F) :
    Calls Try.prog 15 #[.agg #[.int .i64 N, v], vf, vg] w (IntsBack w []) := by
  have hB := Below.refl (w.alloc (.cells #[.int .i64 N, v] 26)).heap.size (w.alloc (.cells #[.int .i64 N, v] 26))
  obtain ⟨c0, c1⟩ := net_cells hB
  have HVV := Lib.hid hv
  have HFF := Lib.hid hf
  have HK := Lib.hid hk
  clear hv hf hk
  go_enter Try.func15, Try.ntmps15
  go_wp2_with fail
  refine (specFlowOk N A F v vf false hAl hFl HK _ (arcs_on HVV.out (below_box hB)) (ints_on HFF.out (below_box hB))).mono ?_
  rintro e w1 ⟨rfl, hb⟩
  replace hB := next_below hB hb
  clear hb c0 c1
  go_wp2_with fail
  go_ret
  exact specEmpty hB

theorem specMoreB (N : Int) (A : List ArcD) (F G : List Int) (v vf vg : Value) (hAl : A.length ≤ 2000000) (hFl : F.length ≤ 2000000) (hGl : G.length ≤ 2000000) (hk : flowOkV N A F = true) (hj : flowOkV N A G = false) (w : World) (hv : Arcs w v A) (hf : Ints w vf F) (hg : Ints w vg G) :
    Calls Try.prog 15 #[.agg #[.int .i64 N, v], vf, vg] w (IntsBack w []) := by
  have hB := Below.refl (w.alloc (.cells #[.int .i64 N, v] 26)).heap.size (w.alloc (.cells #[.int .i64 N, v] 26))
  obtain ⟨c0, c1⟩ := net_cells hB
  have HVV := Lib.hid hv
  have HFF := Lib.hid hf
  have HGG := Lib.hid hg
  have HK := Lib.hid hk
  have HJ := Lib.hid hj
  clear hv hf hg hk hj
  go_enter Try.func15, Try.ntmps15
  go_wp2_with fail
  refine (specFlowOk N A F v vf true hAl hFl HK _ (arcs_on HVV.out (below_box hB)) (ints_on HFF.out (below_box hB))).mono ?_
  rintro e w1 ⟨rfl, hb⟩
  replace hB := next_below hB hb
  obtain ⟨c0, c1⟩ := net_cells hB
  clear hb
  go_wp2_with fail
  refine (specFlowOk N A G v vg false hAl hGl HJ _ (arcs_on HVV.out (below_box hB)) (ints_on HGG.out (below_box hB))).mono ?_
  rintro e w2 ⟨rfl, hb⟩
  replace hB := next_below hB hb
  clear hb c0 c1
  go_wp2_with fail
  go_ret
  exact specEmpty hB

set_option maxHeartbeats 1000000 in
theorem specMoreC (N : Int) (A : List ArcD) (F G R : List Int) (v vf vg : Value) (hAl : A.length ≤ 2000000) (hFl : F.length ≤ 2000000) (hGl : G.length ≤ 2000000) (hk : flowOkV N A F = true) (hj : flowOkV N A G = true) (HR : Hid ((if flowOkV N A (addL F G) = true then addL F G else []) = R)) (w : World) (hv : Arcs w v A) (hf : Ints w vf F) (hg : Ints w vg G) :
    Calls Try.prog 15 #[.agg #[.int .i64 N, v], vf, vg] w (IntsBack w R) := by
  obtain ⟨i0, hi, hz0, hz1, hz2⟩ := info_parts Try.info3
  obtain ⟨n, rfl, _, _, _, hA, hF, hP⟩ := flow_facts hk
  obtain ⟨n', hn', _, _, _, _, hG, hQ⟩ := flow_facts hj
  clear hn'
  have hSl : (addL F G).length = A.length := addL_len hF hG
  have hB := Below.refl (w.alloc (.cells #[.int .i64 (n : Int), v] 26)).heap.size (w.alloc (.cells #[.int .i64 (n : Int), v] 26))
  obtain ⟨c0, c1⟩ := net_cells hB
  obtain ⟨af, cf, rfl, HF⟩ := ints_form hf
  obtain ⟨ag, cg, rfl, HG⟩ := ints_form hg
  have HVV := Lib.hid hv
  have HFF := Lib.hid hf
  have HGG := Lib.hid hg
  have HLF := Lib.hid hF
  have HLG := Lib.hid hG
  have HLS := Lib.hid hSl
  have HFh := Lib.hid HF
  have HGh := Lib.hid HG
  have HK := Lib.hid hk
  have HJ := Lib.hid hj
  have HP := Lib.hid hP
  have HQ := Lib.hid hQ
  clear hv hf hg hk hj HF HG hP hQ hF hG hSl
  go_enter Try.func15, Try.ntmps15
  go_wp2_with fail
  refine (specFlowOk n A F v _ true hAl hFl HK _ (arcs_on HVV.out (below_box hB)) (ints_on HFF.out (below_box hB))).mono ?_
  rintro e w1 ⟨rfl, hb⟩
  replace hB := next_below hB hb
  obtain ⟨c0, c1⟩ := net_cells hB
  clear hb
  go_wp2_with fail
  refine (specFlowOk n A G v _ true hAl hGl HJ _ (arcs_on HVV.out (below_box hB)) (ints_on HGG.out (below_box hB))).mono ?_
  rintro e w2 ⟨rfl, hb⟩
  replace hB := next_below hB hb
  have hs2 := hB.size
  rw [World.size_alloc] at hs2
  have HE := Lib.hid (World.ownsRow_made (base := w.heap.size + 1) (e := 3) (size := 1) w2 #[] 0 hs2 (by decide) rfl)
  have HB3 := Lib.hid (hB.alloc hB.size (.cells #[] 3))
  clear hb c0 c1 hB
  go_wp2_with fail
  go_loopw [7, 8] (fun s i wr => ∃ k : Nat, k ≤ F.length ∧ i = .int .i64 k ∧ wr.ownsRow (w.heap.size + 1) 3 1 s ((addL F G).take k).length (((addL F G).take k).map (Value.int .i64)) ∧ Below (w.alloc (.cells #[.int .i64 (n : Int), v] 26)).heap.size (w.alloc (.cells #[.int .i64 (n : Int), v] 26)) wr) (fun _ i _ => F.length - (intOf i).toNat)
  case atStart => exact ⟨0, Nat.zero_le _, rfl, by simpa using HE.out, HB3.out⟩
  case round =>
    clear HE HB3
    obtain ⟨k, hk, rfl, hown, hB⟩ := hrel
    obtain ⟨c0, c1⟩ := net_cells hB
    by_cases hlt : k < F.length
    · have hltA : k < A.length := by have := HLF.out; omega
      have hltG : k < G.length := by have := HLG.out; omega
      obtain ⟨y, hy⟩ : ∃ y, F[k]? = some y := ⟨_, List.getElem?_eq_getElem hlt⟩
      obtain ⟨u, hu⟩ : ∃ u, G[k]? = some u := ⟨_, List.getElem?_eq_getElem hltG⟩
      obtain ⟨x, hx⟩ : ∃ x, A[k]? = some x := ⟨_, List.getElem?_eq_getElem hltA⟩
      rcases HFh.out with h0 | ⟨gf, rfl, hgf, hcf⟩
      · omega
      · rcases HGh.out with h0 | ⟨gg, rfl, hgg, hcg⟩
        · omega
        · have e0 := ((below_box hB).cell (p := ⟨gf, _, none⟩) hgf).trans (hcf k y hy)
          have e1 := ((below_box hB).cell (p := ⟨gg, _, none⟩) hgg).trans (hcg k u hu)
          have hp := HP.out _ (List.mem_of_getElem? (zip_at hx hy))
          have hq := HQ.out _ (List.mem_of_getElem? (zip_at hx hu))
          have hw : IntKind.i64.wrap (y + u) = y + u := IntWalk.i64_in _ (by simp only at hp hq; omega)
          have HS := Lib.hid (addL_snoc hy hu)
          have hl : ((addL F G).take k).length ≤ 3200 := by rw [List.length_take, HLS.out]; omega
          have hlt2 : (k : Int) < (F.length : Int) := by omega
          have hlt4 : (k : Int) < (G.length : Int) := by omega
          have hbs := hB.size
          rw [World.size_alloc] at hbs
          clear hcf hcg hy hu hx hp hq
          go_wp2_with fail
          go_region_law (refine step_append_lies _ rfl (.tmp 27) (.tmp 37) 27 rfl (w.heap.size + 1) 3 i0 (.int .i64 0) 1 8 Try.underlying27 hi hz0 hz1 hz2 rfl (by decide) _ _ _ (by simp [Act.eval]) (hown.drew.alloc _) ⟨wr.heap.size, 0, none⟩ 1 1 ([y + u].map (Value.int .i64)) (by simp [Act.eval]) rfl (int_newd _ _ _) (ints_one _) (by decide) (by unfold maxLen; omega) (by omega) (by simp; omega) _ rfl ?_; intro g cap w3 hown2 hgrow _ _; have R := more_step HS.out hB hown hown2 hgrow (by simp) hB.size; clear hown2 hgrow)
          all_goals
            clear hown hB
            go_wp2_with fail
            go_roundw
            case rel => exact ⟨k + 1, by omega, by go_num, (by have h9 := R.1; rw [List.length_take (i := k)] at h9; exact h9), R.2⟩
            case measure => simp [intOf]; omega
    · obtain rfl : k = F.length := by omega
      have ht : (addL F G).take F.length = addL F G := List.take_of_length_le (by have := HLS.out; have := HLF.out; omega)
      rw [ht] at hown
      have HO := Lib.hid hown
      have HOI := Lib.hid (ints_of_own hown)
      obtain ⟨b, hb⟩ : ∃ b, Hid (flowOkV (n : Int) A (addL F G) = b) := ⟨_, rfl⟩
      have hbs := hB.size
      rw [World.size_alloc] at hbs
      clear hown
      go_wp2_with fail
      refine (specFlowOk n A (addL F G) v _ b hAl (by have := HLS.out; omega) hb _ (arcs_on HVV.out (below_box hB)) HOI.out).mono ?_
      rintro e w4 ⟨rfl, hbb⟩
      have HO4 := Lib.hid (own_below HO.out hbb (by omega))
      replace hB := next_below hB hbb
      clear hbb c0 c1
      cases b with
      | true =>
        have e : addL F G = R := by rw [← HR.out, hb.out]; rfl
        have HE := Lib.hid e
        clear e
        go_wp2_with fail
        go_ret
        exact ⟨_, rfl, by rw [← HE.out]; exact own_base HO4.out (by omega), below_box hB⟩
      | false =>
        have e : R = [] := by rw [← HR.out, hb.out]; rfl
        subst e
        go_wp2_with fail
        go_ret
        exact specEmpty hB

theorem specFlowMore (N : Int) (A : List ArcD) (F G R : List Int) (v vf vg : Value) (hAl : A.length ≤ 2000000) (hFl : F.length ≤ 2000000) (hGl : G.length ≤ 2000000) (HR : Hid (flowMoreL N A F G = R)) (w : World) (hv : Arcs w v A) (hf : Ints w vf F) (hg : Ints w vg G) :
    Calls Try.prog 15 #[.agg #[.int .i64 N, v], vf, vg] w (IntsBack w R) := by
  have h1 := HR.out
  unfold flowMoreL at h1
  cases hk : flowOkV N A F with
  | false =>
    rw [if_neg (by rw [hk]; simp)] at h1
    subst h1
    exact specMoreA N A F v vf vg hAl hFl hk w hv hf
  | true =>
    cases hj : flowOkV N A G with
    | false =>
      rw [if_neg (by rw [hj]; simp)] at h1
      subst h1
      exact specMoreB N A F G v vf vg hAl hFl hGl hk hj w hv hf hg
    | true =>
      refine specMoreC N A F G R v vf vg hAl hFl hGl hk hj (Lib.hid ?_) w hv hf hg
      rw [← h1]
      by_cases h2 : flowOkV N A (addL F G) = true
      · rw [if_pos h2, if_pos ⟨hk, hj, h2⟩]
      · rw [if_neg h2, if_neg (fun h => h2 h.2.2)]

end Go.Proofs.Ytghhlojjjjnogaa
