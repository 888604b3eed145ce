/-
  CONTRACT of the program's residual.flow: the flow is read off the arcs. No law is proved here.
-/
import Derived.Test.YtobflidianlomaaResI
import Derived.StillTailTactics
namespace Go.Proofs.Ytobflidianlomaa
set_option maxRecDepth 4096
open Go.ChangeShapes Go.WideShapes Go.ChangeAt Go.RowKit

/-- How many of the first k arcs touch v. -/
def cntK (Z : List (ArcD × Nat × Nat)) (k v : Nat) : Nat := (bsL (Z.take k) v).length
theorem bsL_app (Z Y : List (ArcD × Nat × Nat)) (v : Nat) : bsL (Z ++ Y) v = bsL Z v ++ bsL Y v := by
  unfold bsL
  rw [List.flatMap_append]
theorem bsL_one (p : ArcD × Nat × Nat) (v : Nat) : bsL [p] v = boxA p v := by
  unfold bsL
  simp
theorem cnt_step {Z : List (ArcD × Nat × Nat)} {k a b c d : Nat} {r s : Int} (h : Z[k]? = some (⟨a, b, r, s⟩, c, d)) (v : Nat) : cntK Z (k + 1) v = cntK Z k v + (if v = a then 1 else 0) + (if v = b then 1 else 0) := by
  obtain ⟨hi, e⟩ := List.getElem?_eq_some_iff.1 h
  unfold cntK
  rw [List.take_succ_eq_append_getElem hi, bsL_app, List.length_append, e, bsL_one]
  unfold boxA
  simp only [Int.natCast_inj]
  by_cases h1 : v = a
  · by_cases h2 : v = b
    · simp [← h1, ← h2]
    · have h3 : ¬ b = v := fun e => h2 e.symm
      simp [← h1, h2, h3]
  · have h4 : ¬ a = v := fun e => h1 e.symm
    by_cases h2 : v = b
    · simp [← h2, h1, h4]
    · have h3 : ¬ b = v := fun e => h2 e.symm
      simp [h1, h2, h3, h4]
theorem cnt_at {Z : List (ArcD × Nat × Nat)} {k a b c d : Nat} {r s : Int} (h : Z[k]? = some (⟨a, b, r, s⟩, c, d)) : (bsL Z a)[cntK Z k a]? = some c := by
  obtain ⟨hi, e⟩ := List.getElem?_eq_some_iff.1 h
  have h1 : Z = Z.take k ++ ([Z[k]] ++ Z.drop (k + 1)) := by
    rw [List.singleton_append, ← List.drop_eq_getElem_cons hi, List.take_append_drop]
  have h2 : bsL Z a = bsL (Z.take k) a ++ (boxA Z[k] a ++ bsL (Z.drop (k + 1)) a) := by
    conv => lhs; rw [h1]
    rw [bsL_app, bsL_app, bsL_one]
  rw [h2]
  unfold cntK
  rw [List.getElem?_append_right (Nat.le_refl _), Nat.sub_self, e]
  unfold boxA
  simp
theorem cntK_le (Z : List (ArcD × Nat × Nat)) (k v : Nat) : cntK Z k v ≤ 2 * k := by
  unfold cntK bsL
  induction k with
  | zero => simp
  | succ k ih =>
    by_cases hk : k < Z.length
    · rw [List.take_succ_eq_append_getElem hk, List.flatMap_append, List.length_append]
      have : (boxA Z[k] v).length ≤ 2 := by
        unfold boxA
        split <;> split <;> simp
      simp only [List.flatMap_cons, List.flatMap_nil, List.append_nil]
      omega
    · rw [List.take_of_length_le (by omega)] at ih ⊢
      omega
/-- The flow's first k numbers. -/
def flK (F : List Int) (k i : Nat) : Int := if i < k then F.getD i 0 else 0
theorem flK_all (F : List Int) : rowO (flK F F.length) F.length = F := by
  apply List.ext_getElem?
  intro j
  by_cases hj : j < F.length
  · rw [rowO_at _ hj]
    unfold flK
    rw [if_pos hj, List.getD_eq_getElem?_getD, List.getElem?_eq_getElem hj]
    rfl
  · rw [List.getElem?_eq_none_iff.2 (by rw [rowO_len]; omega), List.getElem?_eq_none_iff.2 (by omega)]

theorem RN.at_row' {B G n : Nat} {w : World} {A : List ArcD} {F : List Int} {S : Nat → Value} {X : List (Nat × Nat)} (h : RN B w G n A F S X) {v : Nat} (hv : v < n) : w.cell? ⟨G, v, none⟩ = some (S v) := by
  have := h.row.cells (g := G) rfl v (S v) (rowV_at S hv)
  have hadd : (⟨G, 0, none⟩ : Addr).add v = ⟨G, v, none⟩ := by unfold Addr.add; split <;> simp_all
  rwa [hadd] at this
theorem own_at2' {w : World} {B s n : Nat} {e : TypeId} {v : Value} {xs : List Value} (h : w.ownsRow B e s v n xs) (hn : 0 < n) : ∃ g c, v = .slice (some ⟨g, 0, none⟩) n c := by
  rcases h.2 with ⟨rfl, h0⟩ | ⟨g, cap, cur, rfl, _⟩
  · omega
  · exact ⟨_, _, rfl⟩

/-- The two rows of the reading. -/
structure FB (B n m gf gv : Nat) (fl vi : Nat → Int) (wr : World) : Prop where
  flow : wr.ownsRow B 3 1 (.slice (some ⟨gf, 0, none⟩) m m) m ((rowO fl m).map (Value.int .i64))
  vis : wr.ownsRow B 3 1 (.slice (some ⟨gv, 0, none⟩) n n) n ((rowO vi n).map (Value.int .i64))
  ne : gf ≠ gv
section
variable {B n m gf gv : Nat} {fl vi fl' vi' : Nat → Int} {wr : World}
theorem FB.alloc (h : FB B n m gf gv fl vi wr) (o : Obj) : FB B n m gf gv fl vi (wr.alloc o) := ⟨h.flow.alloc o, h.vis.alloc o, h.ne⟩
theorem FB.setF (h : FB B n m gf gv fl vi wr) {k : Nat} {y : Int} (h1 : fl' k = y) (h2 : ∀ j, j ≠ k → fl' j = fl j) : FB B n m gf gv fl' vi (wr.setCell ⟨gf, k, none⟩ (.int .i64 y)) := by
  obtain ⟨a1, a2⟩ := h.flow.stored k (.int .i64 y)
  rw [rowO_put h1 h2] at a1
  exact ⟨a1, h.vis.kept a2 (.inr fun e => h.ne (Option.some.inj e).symm), h.ne⟩
theorem FB.setV (h : FB B n m gf gv fl vi wr) {k : Nat} {y : Int} (h1 : vi' k = y) (h2 : ∀ j, j ≠ k → vi' j = vi j) : FB B n m gf gv fl vi' (wr.setCell ⟨gv, k, none⟩ (.int .i64 y)) := by
  obtain ⟨a1, a2⟩ := h.vis.stored k (.int .i64 y)
  rw [rowO_put h1 h2] at a1
  exact ⟨h.flow.kept a2 (.inr fun e => h.ne (Option.some.inj e)), a1, h.ne⟩
end
theorem own_ptrB {w : World} {B : Nat} {e : TypeId} {g n c j b : Nat} {L : List Nat} (h : w.ownsRow B e 1 (.slice (some ⟨g, 0, none⟩) n c) n (L.map ptrV)) (hb : L[j]? = some b) : w.cell? ⟨g, j, none⟩ = some (.pointer (some ⟨b, 0, none⟩)) := by
  have := h.cells (g := g) rfl j (ptrV b) (by rw [List.getElem?_map, hb]; rfl)
  have hadd : (⟨g, 0, none⟩ : Addr).add j = ⟨g, j, none⟩ := by unfold Addr.add; split <;> simp_all
  rwa [hadd] at this
theorem made_rowO {w : World} {B g n : Nat} (h : w.ownsRow B 3 1 (.slice (some ⟨g, 0, none⟩) n n) n (madeCells (Value.int .i64 0).cells (n * 1)).toList) : w.ownsRow B 3 1 (.slice (some ⟨g, 0, none⟩) n n) n ((rowO (fun _ => 0) n).map (Value.int .i64)) := by
  have e : (madeCells (Value.int .i64 0).cells (n * 1)).toList = (rowO (fun _ => 0) n).map (Value.int .i64) := by
    rw [Nat.mul_one]
    refine (toList_madeCells_one _ _).trans ?_
    rw [rowO_const0]
  rw [← e]
  exact h

set_option maxHeartbeats 4000000 in
theorem implFlowOf (n : Nat) (A : List ArcD) (F : List Int) (B G : Nat) (S : Nat → Value) (X : List (Nat × Nat)) (v : Value) (hn : netOkV n A = true) (hF : F.length = A.length) (hP : ∀ p ∈ A.zip F, 0 ≤ p.2 ∧ p.2 ≤ 20) (w : World) (hR : RN B w G n A F S X) (hv : Arcs w v A) :
    Calls Try.prog 38 #[.slice (some ⟨G, 0, none⟩) n n, .agg #[.int .i64 (n : Int), v]] w fun e w' => ∃ v', e = .returned v' ∧ w'.ownsRow w.heap.size 3 1 v' F.length (F.map (Value.int .i64)) ∧ Below w.heap.size w w' := by
  obtain ⟨i1, hi1, hz10, hz11, hz12⟩ := info_parts Try.info3
  obtain ⟨⟨hN1, hN2⟩, hA3, hok⟩ := netOk_out hn
  have hn15 : n ≤ 1500 := by omega
  have hB := Below.refl (w.alloc (.cells #[.int .i64 (n : Int), v] 26)).heap.size (w.alloc (.cells #[.int .i64 (n : Int), v] 26))
  obtain ⟨c0, c1⟩ := net_cells hB
  obtain ⟨av, cv, rfl, HV⟩ := arcs_form hv
  have HVh := Lib.hid HV
  have HOK := Lib.hid hok
  have HPP := Lib.hid hP
  have HL := Lib.hid hF
  have HR := Lib.hid hR
  clear HV hv hok hP hF hR hn hN1 hN2
  go_enter Try.func38, Try.ntmps38
  go_wp2_with (first
    | (at_make; refine wpList_make_full _ rfl (.tmp 11) (.tmp 11) 27 rfl (w.heap.size + 1) 3 i1 (.int .i64 0) 1 Try.underlying27 hi1 hz10 hz11 .i64 .i64 A.length A.length A.length rfl rfl rfl rfl (by rw [hz12]; omega) (by unfold maxLen; omega) (by simp) ?_; intro w1 hrow hg1; go_loud (have hB1 := hB.grown hg1 hB.size (fun j hj => (by cases hj))); have HR1 := Lib.hid (made_rowO hrow); have HB1 := Lib.hid hB1; obtain ⟨c0, c1⟩ := net_cells hB1; have hs1 := hg1.size; clear hrow hg1 hB1)
    | (at_make; go_loud (refine wpList_make_full _ rfl (.tmp 14) (.tmp 14) 27 rfl (w.heap.size + 1) 3 i1 (.int .i64 0) 1 Try.underlying27 hi1 hz10 hz11 .i64 .i64 n n n rfl rfl rfl rfl (by rw [hz12]; omega) (by unfold maxLen; omega) (by have := HB1.out.size; simpa using this) ?_); intro w2 hrow hg2; go_loud (have hB2 := HB1.out.grown hg2 HB1.out.size (fun j hj => (by cases hj))); have HR2 := Lib.hid (made_rowO hrow); have HR1b := Lib.hid (HR1.out.kept hg2 (ne_none _)); have HB2 := Lib.hid hB2; obtain ⟨c0, c1⟩ := net_cells hB2; clear hrow hg2 hB2))
  have hne : w.heap.size + 1 ≠ w1.heap.size := by
    have := (HR1.out.lt _ rfl).2
    simp only [World.size_alloc] at this
    omega
  have HFB : Hid (FB (w.heap.size + 1) n A.length (w.heap.size + 1) w1.heap.size (flK F 0) (fun v => (cntK (A.zip X) 0 v : Int)) w2) := Lib.hid ⟨by
      have e : flK F 0 = fun _ => 0 := by funext i; simp [flK]
      rw [e]
      simpa using HR1b.out, by
      have e : (fun v => (cntK (A.zip X) 0 v : Int)) = fun _ => 0 := by funext v; simp [cntK, bsL]
      rw [e]
      exact HR2.out, hne⟩
  clear HR1 HR1b HR2 HB1 hs1 hB hne
  generalize w1.heap.size = gv at HFB ⊢
  go_loopw [19] (fun i wr => ∃ k : Nat, i = .int .i64 k ∧ k ≤ A.length ∧ FB (w.heap.size + 1) n A.length (w.heap.size + 1) gv (flK F k) (fun v => (cntK (A.zip X) k v : Int)) wr ∧ Below (w.alloc (.cells #[.int .i64 (n : Int), .slice av A.length cv] 26)).heap.size (w.alloc (.cells #[.int .i64 (n : Int), .slice av A.length cv] 26)) wr) (fun i _ => A.length - (intOf i).toNat)
  case atStart => exact ⟨0, rfl, Nat.zero_le _, HFB.out, HB2.out⟩
  case round =>
    clear HFB HB2 c0 c1
    obtain ⟨k, rfl, hk, hFB, hB⟩ := hrel
    by_cases hlt : k < A.length
    · have hltF : k < F.length := by have := HL.out; omega
      obtain ⟨y, hy⟩ : ∃ y, F[k]? = some y := ⟨_, List.getElem?_eq_getElem hltF⟩
      obtain ⟨a, b, r, c, hx, han, hbn, hne, hrb, hcb⟩ := arc_nat HOK.out hlt
      obtain ⟨⟨xc, xd⟩, hX⟩ : ∃ z, X[k]? = some z := ⟨_, List.getElem?_eq_getElem (by rw [HR.out.len]; exact hlt)⟩
      have hz : (A.zip X)[k]? = some (⟨(a : Int), (b : Int), r, c⟩, xc, xd) := List.getElem?_zip_eq_some.2 ⟨hx, hX⟩
      have hyb := HPP.out _ (List.mem_of_getElem? (zip_at hx hy))
      simp only at hyb
      rcases HVh.out with h0 | ⟨g, rfl, hgl, hc⟩
      · omega
      · obtain ⟨d0, d1, d2, d3⟩ := hc k _ hx
        dsimp only at d0 d1 d2 d3
        have e0 := ((below_box hB).cell (p := ⟨g, _, none⟩) hgl).trans d0
        have e1 := ((below_box hB).cell (p := ⟨g, _, none⟩) hgl).trans d1
        have e2 := ((below_box hB).cell (p := ⟨g, _, none⟩) hgl).trans d2
        have e3 := ((below_box hB).cell (p := ⟨g, _, none⟩) hgl).trans d3
        have hlt2 : (k : Int) < (A.length : Int) := by omega
        have HZ := Lib.hid hz
        have HY := Lib.hid hy
        have HX2 := Lib.hid hX
        have HXA := Lib.hid hx
        have HFB := Lib.hid hFB
        have HB := Lib.hid hB
        clear hc d0 d1 d2 d3 hFB hB hz hx hy hX
        go_wp2_with fail
        have hBa : Below w.heap.size w (wr.alloc (.cells #[.int .i64 a, .int .i64 b, .int .i64 r, .int .i64 c] 66)) := (below_box HB.out).alloc (below_box HB.out).size _
        have hBb := HB.out.alloc HB.out.size (.cells #[.int .i64 a, .int .i64 b, .int .i64 r, .int .i64 c] 66)
        have hFa := HFB.out.alloc (.cells #[.int .i64 a, .int .i64 b, .int .i64 r, .int .i64 c] 66)
        have hbox : (wr.alloc (.cells #[.int .i64 a, .int .i64 b, .int .i64 r, .int .i64 c] 66)).heap[wr.heap.size]? = some (.cells #[.int .i64 a, .int .i64 b, .int .i64 r, .int .i64 c] 66) := heap_alloc_new wr _
        have hgf : w.heap.size + 1 < wr.heap.size := (HFB.out.flow.lt _ rfl).2
        have hgv : gv < wr.heap.size := (HFB.out.vis.lt _ rfl).2
        generalize wr.alloc (.cells #[.int .i64 (a : Int), .int .i64 b, .int .i64 r, .int .i64 c] 66) = wa at hBa hBb hFa hbox ⊢
        generalize wr.heap.size = q0 at hgf hgv hbox ⊢
        have hRa := HR.out.below hBa
        have d3 := hRa.at_row' han
        have hbs := cnt_at HZ.out
        have hbl := (List.getElem?_eq_some_iff.1 hbs).1
        obtain ⟨ga, ca, hga⟩ := own_at2' (hRa.own a han) (by omega)
        rw [hga] at d3
        have d4 := own_ptrB (by have := hRa.own a han; rw [hga] at this; exact this) hbs
        obtain ⟨b1, _⟩ := hRa.box.box k _ y xc xd HXA.out HY.out HX2.out
        dsimp only at b1
        obtain ⟨_, d5, _⟩ := boxR_cells b1
        have a0 : wa.cell? ⟨q0, 0, none⟩ = some (.int .i64 (a : Int)) := box_cell hbox rfl
        have a2 : wa.cell? ⟨q0, 2, none⟩ = some (.int .i64 r) := box_cell hbox rfl
        have v0 := own_num hFa.vis han
        have hcl := cntK_le (A.zip X) k a
        have hcl2 := cntK_le (A.zip X) k b
        have i1 : (a : Int) < (n : Int) := by omega
        have i1b : (b : Int) < (n : Int) := by omega
        have i2 : (cntK (A.zip X) k a : Int) < ((bsL (A.zip X) a).length : Int) := by omega
        have hw1 : IntKind.i64.wrap (r - (r - y)) = y := by rw [show r - (r - y) = y by omega]; exact IntWalk.i64_in _ (by omega)
        have ff := hFa.flow.frozenAt k
        have fc := own_num hFa.flow hlt
        have HFA := Lib.hid hFa
        have HBA := Lib.hid hBa
        have HBB := Lib.hid hBb
        have HBX := Lib.hid hbox
        clear hFa hBa hBb hbox hRa hbs hga b1
        go_still_tail 21, (by kernel_rfl)
        change wpList _ _ _ _ _ wa.drew
        obtain ⟨wb, hwb⟩ : ∃ wb, wb = wa.drew := ⟨_, rfl⟩
        rw [← hwb]
        have hF0 : FB (w.heap.size + 1) n A.length (w.heap.size + 1) gv (flK F k) (fun v => (cntK (A.zip X) k v : Int)) wb := by rw [hwb]; exact ⟨HFA.out.flow, HFA.out.vis, HFA.out.ne⟩
        have hX0 : wb.heap[q0]? = some (.cells #[.int .i64 a, .int .i64 b, .int .i64 r, .int .i64 c] 66) := by rw [hwb]; exact HBX.out
        have hL0 : Below (w.alloc (.cells #[.int .i64 (n : Int), .slice (some ⟨g, 0, none⟩) A.length cv] 26)).heap.size (w.alloc (.cells #[.int .i64 (n : Int), .slice (some ⟨g, 0, none⟩) A.length cv] 26)) wb := by rw [hwb]; exact HBB.out.drew
        clear a0 a2 v0 d3 d4 d5 ff fc hw1 hwb HFA HBB HBX HBA
        have ff := hF0.flow.frozenAt k
        have fc := own_num hF0.flow hlt
        have hq1 : w.heap.size + 1 ≠ q0 := by omega
        have hq2 : gv ≠ q0 := by omega
        have hgb : w.heap.size + 1 ≤ gv := (hF0.vis.lt _ rfl).1
        have hF1 := hF0.setF (k := k) (y := y) (fl' := flK F (k + 1)) (by unfold flK; rw [if_pos (by omega), List.getD_eq_getElem?_getD, HY.out]; rfl) (fun j hj => by
          unfold flK
          have : (j < k + 1) = (j < k) := by apply propext; omega
          simp only [this])
        have hX1 := box_set (j := k) (u := .int .i64 y) hX0 hq1
        have hL1 := hL0.setCell (p := ⟨w.heap.size + 1, k, none⟩) (by simp) (.int .i64 y)
        have g0 := box_cell hX1 (j := 0) (u := .int .i64 (a : Int)) rfl
        have g1 := own_num hF1.vis han
        have g2 := hF1.vis.frozenAt a
        have hw2 : IntKind.i64.wrap ((cntK (A.zip X) k a : Int) + 1) = (cntK (A.zip X) k a : Int) + 1 := IntWalk.i64_in _ (by omega)
        have hw3 : IntKind.i64.wrap ((cntK (A.zip X) k b : Int) + 1) = (cntK (A.zip X) k b : Int) + 1 := IntWalk.i64_in _ (by omega)
        have hF2 := hF1.setV (k := a) (y := (cntK (A.zip X) k a : Int) + 1) (vi' := fun v => if v = a then (cntK (A.zip X) k a : Int) + 1 else (cntK (A.zip X) k v : Int)) (if_pos rfl) (fun j hj => if_neg hj)
        have hX2 := box_set (j := a) (u := .int .i64 ((cntK (A.zip X) k a : Int) + 1)) hX1 hq2
        have hL2 := hL1.setCell (p := ⟨gv, a, none⟩) (by simpa using hgb) (.int .i64 ((cntK (A.zip X) k a : Int) + 1))
        have g3 := box_cell hX2 (j := 1) (u := .int .i64 (b : Int)) rfl
        have g4 := own_num hF2.vis hbn
        simp only [if_neg (fun e => hne e.symm : ¬ b = a)] at g4
        have g5 := hF2.vis.frozenAt b
        have hF3 := hF2.setV (k := b) (y := (cntK (A.zip X) k b : Int) + 1) (vi' := fun v => (cntK (A.zip X) (k + 1) v : Int)) (by
            have := cnt_step HZ.out b
            simp only [this, if_pos, if_neg (fun e => hne e.symm : ¬ b = a)]
            omega) (fun j hj => by
            have := cnt_step HZ.out j
            simp only [this, if_neg hj]
            by_cases hja : j = a
            · subst hja; simp
            · simp [hja])
        have hL3 := hL2.setCell (p := ⟨gv, b, none⟩) (by simpa using hgb) (.int .i64 ((cntK (A.zip X) k b : Int) + 1))
        have HF3 := Lib.hid hF3
        have HL3 := Lib.hid hL3
        clear hF0 hF1 hF2 hF3 hX0 hX1 hX2 hL0 hL1 hL2 hL3
        go_wp2_with fail
        go_roundw
        case rel => exact ⟨k + 1, by go_num, by omega, HF3.out, HL3.out⟩
        case measure => simp [intOf]; omega
    · obtain rfl : k = A.length := by omega
      have hown := hFB.flow
      rw [← HL.out, flK_all] at hown
      have HOW := Lib.hid hown
      have HB := Lib.hid hB
      clear hFB hB hown
      go_wp2_with fail
      go_ret
      exact ⟨_, rfl, by rw [HL.out] at HOW ⊢; exact own_base HOW.out (by omega), below_box HB.out⟩

end Go.Proofs.Ytobflidianlomaa
