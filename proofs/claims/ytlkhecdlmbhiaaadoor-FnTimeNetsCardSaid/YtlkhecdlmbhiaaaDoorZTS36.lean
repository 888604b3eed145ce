/-
  CONTRACTS of the program's residual arcs (join, open, to) and of residualOf. No law is proved here.
-/
import Derived.Test.YtlkhecdlmbhiaaaDoorZTS35
import Derived.RegionTactic
import Derived.Deep.RegionLaw
import Derived.Deep.AppendLies
import Derived.BigRegion
import Derived.Deep.DeepCutAuto
import Derived.Deep.CutRange
namespace Go.Proofs.YtlkhecdlmbhiaaaDoor
set_option maxRecDepth 4096
open Go.ChangeShapes Go.WideShapes Go.ChangeAt Go.RowKit

theorem boxR_cells {w : World} {b : Nat} {a l k : Int} {p : Option Addr} (h : w.heap[b]? = some (boxR a l k p)) : w.cell? ⟨b, 0, none⟩ = some (.int .i64 a) ∧ w.cell? ⟨b, 1, none⟩ = some (.int .i64 l) ∧ w.cell? ⟨b, 3, none⟩ = some (.pointer p) :=
  ⟨box_cell h rfl, box_cell h rfl, box_cell h rfl⟩
theorem boxR_join {w : World} {b : Nat} {a l k : Int} {p : Option Addr} (q : Option Addr) (h : w.heap[b]? = some (boxR a l k p)) : (w.setCell ⟨b, 3, none⟩ (.pointer q)).heap[b]? = some (boxR a l k q) :=
  heap_setCell_same w b 3 _ _ _ h

/-- Two arcs that are made the two directions of one. -/
def Joined (w : World) (b c : Nat) (a l k a' l' k' : Int) (w' : World) : Prop :=
  w'.heap[b]? = some (boxR a l k (some ⟨c, 0, none⟩)) ∧ w'.heap[c]? = some (boxR a' l' k' (some ⟨b, 0, none⟩)) ∧ w'.heap.size = w.heap.size ∧ w'.os = w.os ∧ w'.tape = w.tape ∧ w'.output = w.output ∧ ∀ i, i ≠ b → i ≠ c → w'.heap[i]? = w.heap[i]?
theorem implJoin (b c : Nat) (a l k a' l' k' : Int) (p p' : Option Addr) (hne : b ≠ c) (w : World) (h1 : w.heap[b]? = some (boxR a l k p)) (h2 : w.heap[c]? = some (boxR a' l' k' p')) :
    Calls Tryd.prog 67 #[ptrV b, ptrV c] w fun e w' => e = .returned (.tuple #[]) ∧ Joined w b c a l k a' l' k' w' := by
  obtain ⟨_, _, j1⟩ := boxR_cells h1
  have f1 := frozen_of_row w b 3 _ _ h1
  have hb2 : (w.setCell ⟨b, 3, none⟩ (.pointer (some ⟨c, 0, none⟩))).heap[c]? = some (boxR a' l' k' p') := (heap_setCell_other w ⟨b, 3, none⟩ c _ (fun e => hne e.symm)).trans h2
  obtain ⟨_, _, j2⟩ := boxR_cells hb2
  have f2 := frozen_of_row _ c 3 _ _ hb2
  have HB2 := Lib.hid hb2
  have H1 := Lib.hid h1
  clear h1 h2 hb2
  unfold ptrV
  go_enter Tryd.func67, Tryd.ntmps67
  go_wp2_with fail
  refine bodyPost_end (v := .tuple #[]) (by simp [results]) rfl ?_
  refine ⟨rfl, ?_, boxR_join _ HB2.out, by simp [World.setCell], rfl, rfl, rfl, fun i hi hj => ?_⟩
  · exact (heap_setCell_other _ ⟨c, 3, none⟩ b _ hne).trans (boxR_join _ H1.out)
  · exact (heap_setCell_other _ ⟨c, 3, none⟩ i _ hj).trans (heap_setCell_other _ ⟨b, 3, none⟩ i _ hi)

theorem implOpen (b : Nat) (l : Int) (o : Bool) (ho : decide (0 < l) = o) (w : World) (h : w.cell? ⟨b, 1, none⟩ = some (.int .i64 l)) :
    Calls Tryd.prog 68 #[ptrV b] w fun e w' => e = .returned (.bool o) ∧ w = w' := by
  unfold ptrV
  cases o with
  | true =>
    have h1 : 0 < l := of_decide_eq_true ho
    have h2 := Lib.hid h1
    go_enter Tryd.func68, Tryd.ntmps68
    go_wp2_with fail
    go_ret
    exact ⟨rfl, rfl⟩
  | false =>
    have h1 : ¬ 0 < l := of_decide_eq_false ho
    go_enter Tryd.func68, Tryd.ntmps68
    go_wp2_with fail
    go_ret
    exact ⟨rfl, rfl⟩

theorem implTo (b c : Nat) (u : Int) (w : World) (h : w.cell? ⟨b, 3, none⟩ = some (.pointer (some ⟨c, 0, none⟩))) (h2 : w.cell? ⟨c, 0, none⟩ = some (.int .i64 u)) :
    Calls Tryd.prog 69 #[ptrV b] w fun e w' => e = .returned (.int .i64 u) ∧ w = w' := by
  unfold ptrV
  go_enter Tryd.func69, Tryd.ntmps69
  go_wp2_with fail
  go_ret
  exact ⟨rfl, rfl⟩

theorem Tryd.infoRow : (Tryd.prog.info? 77).map (fun i => (i.zero, i.size, i.bytes)) = some (some (.slice none 0 0), 1, 24) := by kernel_rfl
theorem Tryd.infoPtr : (Tryd.prog.info? 107).map (fun i => (i.zero, i.size, i.bytes)) = some (some (.pointer none), 1, 8) := by kernel_rfl

theorem ptr_newd (w : World) (b : Nat) (t : TypeId) : ∀ j u, ([b].map ptrV)[j]? = some u → (w.alloc (.cells #[.pointer (some ⟨b, 0, none⟩)] t)).drew.cell? ((⟨w.heap.size, 0, none⟩ : Addr).add j) = some u := by
  intro j u h
  have hadd : (⟨w.heap.size, 0, none⟩ : Addr).add j = ⟨w.heap.size, j, none⟩ := by unfold Addr.add; split <;> simp_all
  rw [hadd]
  change (w.alloc (.cells #[.pointer (some ⟨b, 0, none⟩)] t)).cell? ⟨w.heap.size, j, none⟩ = some u
  rw [World.cell?_alloc_mark]
  simpa [ptrV] using h
theorem cells_own {w w' : World} {B : Nat} {e t : TypeId} {s n q : Nat} {v : Value} {xs : List Value} {cs : Array Value} {fr : Nat × Nat} (h : w.ownsRow B e s v n xs) (g : w.grownBy w' v.ownBlock) (he : e ≠ t) (hq : w.heap[q]? = some (.cells cs t fr)) : w'.heap[q]? = some (.cells cs t fr) := by
  refine (g.block q (Array.getElem?_eq_some_iff.1 hq).1 (fun k => ?_)).trans hq
  rcases h.2 with ⟨rfl, _⟩ | ⟨g', cap, cur, rfl, _, hg, _⟩
  · cases k
  · have k2 : q = g' := by simpa [Value.ownBlock] using k
    subst k2
    rw [hg] at hq
    injection hq with hq
    injection hq with _ h2
    exact he h2
/-- What an append to the slice of a node leaves: ready for the store; and what the store leaves. -/
structure Pushed (B b0 : Nat) (w0 wj w3 : World) (G n a : Nat) (E : Nat → List (Nat × Int)) (bs : Nat → List Nat) (e : Nat × Int) (b : Nat) (sa v' : Value) : Prop where
  cell : w3.cell? ⟨G, a, none⟩ = some sa
  frozen : w3.frozen? ⟨G, a, none⟩ = false
  rg : ∃ S', RG B (w3.setCell ⟨G, a, none⟩ v') G n (addE E a e) S' (addB bs a b)
  boxr : ∀ (q : Nat) (x l k : Int) (p : Option Addr), wj.heap[q]? = some (boxR x l k p) → (w3.setCell ⟨G, a, none⟩ v').heap[q]? = some (boxR x l k p)
  below : Below b0 w0 (w3.setCell ⟨G, a, none⟩ v')
  size : wj.heap.size ≤ (w3.setCell ⟨G, a, none⟩ v').heap.size
  edge : ∀ u x b, Edge wj u x b → Edge (w3.setCell ⟨G, a, none⟩ v') u x b
  box3 : ∀ (q : Nat) (cs : Array Value), wj.heap[q]? = some (Obj.cells cs 72) → w3.heap[q]? = some (Obj.cells cs 72)
  box : ∀ (q : Nat) (cs : Array Value), wj.heap[q]? = some (Obj.cells cs 72) → (w3.setCell ⟨G, a, none⟩ v').heap[q]? = some (Obj.cells cs 72)
theorem RG.app {B b0 G n a b : Nat} {w0 wj w3 : World} {E : Nat → List (Nat × Int)} {S : Nat → Value} {bs : Nat → List Nat} {e : Nat × Int} {sa v' : Value} {o : Obj} (h : RG B wj G n E S bs) (hsa : S a = sa) (ha : a < n) (hE : Edge wj a e b)
    (hB : Below b0 w0 wj) (hb : b0 ≤ B) (hbw : b0 ≤ wj.heap.size) (hown : w3.ownsRow B 107 1 v' ((bs a).length + 1) ((bs a).map ptrV ++ [b].map ptrV))
    (hg : (wj.drew.alloc o).grownBy w3 sa.ownBlock) (hat : sa.ownBlock = v'.ownBlock ∨ v'.ownBlock = some (wj.drew.alloc o).heap.size) : Pushed B b0 w0 wj w3 G n a E bs e b sa v' := by
  subst hsa
  have hbj : Below wj.heap.size wj (wj.drew.alloc o) := (Below.refl wj.heap.size wj).drew.alloc (Nat.le_refl _) _
  have h5 := h.below hbj
  have hE5 := hE.grown (below_grownN hbj) (notBox_none _)
  have hO5 := h5.own a ha
  have hrow : w3.ownsRow B 77 1 (.slice (some ⟨G, 0, none⟩) n n) n (rowV S n) := h5.row.kept hg (own_types h5.row hO5 (by decide))
  obtain ⟨h6, h7⟩ := h5.push ha hE5 hown hg hat
  refine ⟨?_, hrow.frozenAt a, ⟨_, h6⟩, fun q x l c p k => cells_own hrow h7 (by decide) (cells_own hO5 hg (by decide) ((hbj.block q (Array.getElem?_eq_some_iff.1 k).1).trans k)), ?_, Nat.le_trans hbj.size (Nat.le_trans hg.size h7.size), fun u x b k => ?_, fun q cs k => cells_own hO5 hg (by decide) ((hbj.block q (Array.getElem?_eq_some_iff.1 k).1).trans k), fun q cs k => ?_⟩
  · have := hrow.cells (g := G) rfl a (S a) (rowV_at S ha)
    have hadd : (⟨G, 0, none⟩ : Addr).add a = ⟨G, a, none⟩ := by unfold Addr.add; split <;> simp_all
    rwa [hadd] at this
  · refine ((hB.trans (hbj.mono hbw)).grown hg ?_ (fun j hj => Nat.le_trans hb (hO5.lt j hj).1)).grown h7 ?_ (fun j hj => by cases hj; exact Nat.le_trans hb (hrow.lt G rfl).1)
    · exact Nat.le_trans hbw hbj.size
    · exact Nat.le_trans hbw (Nat.le_trans hbj.size hg.size)
  · exact ((k.grown (below_grownN hbj) (notBox_none _)).grown hg (notBox_own hO5 (by decide))).grown h7 (notBox_own hrow (by decide))
  · exact cells_own hrow h7 (by decide) (cells_own hO5 hg (by decide) ((hbj.block q (Array.getElem?_eq_some_iff.1 k).1).trans k))
theorem ptrs_one (L : List Nat) : ∀ u ∈ L.map ptrV, u.oneCell' = true := by
  intro u hu
  obtain ⟨b, _, rfl⟩ := List.mem_map.1 hu
  rfl

set_option maxHeartbeats 2000000 in
theorem implResidual (n : Nat) (A : List ArcD) (F : List Int) (v vf : Value) (hn : n ≤ 1500) (hok : ∀ x ∈ A, arcOk (n : Int) x = true) (hA : A.length ≤ 3200) (hF : F.length = A.length) (hP : ∀ p ∈ A.zip F, 0 ≤ p.2 ∧ p.2 ≤ 20) (w : World) (hv : Arcs w v A) (hf : Ints w vf F) :
    Calls Tryd.prog 37 #[.agg #[.int .i64 (n : Int), v], vf] w fun e w' => ∃ G S X, e = .returned (.slice (some ⟨G, 0, none⟩) n n) ∧ RN (w.heap.size + 1) w' G n A F S X ∧ Below w.heap.size w w' := by
  obtain ⟨i0, hi, hz0, hz1, hz2⟩ := info_parts Tryd.infoRow
  obtain ⟨i1, hi1, hz10, hz11, hz12⟩ := info_parts Tryd.infoPtr
  have hB := Below.refl (w.alloc (.cells #[.int .i64 (n : Int), v] 32)).heap.size (w.alloc (.cells #[.int .i64 (n : Int), v] 32))
  obtain ⟨c0, c1⟩ := net_cells hB
  obtain ⟨av, cv, rfl, HV⟩ := arcs_form hv
  obtain ⟨af, cf, rfl, HF⟩ := ints_form hf
  rw [hF]
  have HVh := Lib.hid HV
  have HFh := Lib.hid HF
  have HOK := Lib.hid hok
  have HP := Lib.hid hP
  have HL := Lib.hid hF
  clear HV hv HF hf hok hP hF
  go_enter Tryd.func37, Tryd.ntmps37
  go_wp2_with (at_make; go_loud (refine wpList_make_full _ rfl (.tmp 11) (.tmp 11) 75 rfl _ 77 i0 (.slice none 0 0) 1 Tryd.underlying75 hi hz0 hz1 .i64 .i64 n n n rfl rfl rfl rfl (by rw [hz2]; omega) (by unfold maxLen; omega) (Nat.le_refl _) ?_); intro w1 hrow hg1; go_loud (have hB1 := hB.grown hg1 hB.size (fun j hj => (by cases hj))); go_loud (have hrow1 := RG.start (own_base hrow (Nat.le_of_eq (World.size_alloc _ _).symm) (B' := w.heap.size + 1))); have HR1 := Lib.hid hrow1; have HB1 := Lib.hid hB1; obtain ⟨c0, c1⟩ := net_cells hB1; clear hrow hrow1 hg1 hB1)
  clear hB c0 c1
  go_loopw [16] (fun i wr => ∃ (k : Nat) (S : Nat → Value) (X : List (Nat × Nat)), k ≤ A.length ∧ i = .int .i64 k ∧ Hid (X.length = k) ∧ RG (w.heap.size + 1) wr (w.heap.size + 1) n (resL ((A.zip F).take k)) S (bsL (A.zip X)) ∧ Boxes (w.heap.size + 1) wr A F X ∧ Below (w.alloc (.cells #[.int .i64 (n : Int), .slice av A.length cv] 32)).heap.size (w.alloc (.cells #[.int .i64 (n : Int), .slice av A.length cv] 32)) wr) (fun i _ => A.length - (intOf i).toNat)
  case atStart => exact ⟨0, _, [], Nat.zero_le _, rfl, Lib.hid rfl, by rw [List.take_zero, bsL_nil]; simpa using (HR1.out.same (E' := resL []) (fun v => rfl)), Boxes.start, HB1.out⟩
  case round =>
    clear HR1 HB1
    obtain ⟨k, S, X, hk, rfl, HX, hR, hBx, hB⟩ := hrel
    have HBX := Lib.hid hBx
    generalize hbs : bsL (A.zip X) = bs at hR
    have HBS := Lib.hid hbs
    clear hBx hbs
    by_cases hlt : k < A.length
    · have hltF : k < F.length := by have := HL.out; omega
      obtain ⟨y, hy⟩ : ∃ y, F[k]? = some y := ⟨_, List.getElem?_eq_getElem hltF⟩
      obtain ⟨a, b, r, c, hx, han, hbn, hne, hrb, hcb⟩ := arc_nat HOK.out hlt
      have hz := zip_at hx hy
      have hyb := HP.out _ (List.mem_of_getElem? hz)
      have hzl : ((A.zip F).take k).length ≤ 3200 := by rw [List.length_take, List.length_zip]; omega
      rcases HVh.out with h0 | ⟨g, rfl, hgl, hc⟩
      · omega
      · rcases HFh.out with h0 | ⟨gf, rfl, hgf, hcf⟩
        · have := HL.out; omega
        · obtain ⟨d0, d1, d2, d3⟩ := hc k _ hx
          dsimp only at d0 d1 d2 d3
          have e0 := ((below_box hB).cell (p := ⟨g, _, none⟩) hgl).trans d0
          have e1 := ((below_box hB).cell (p := ⟨g, _, none⟩) hgl).trans d1
          have e2 := ((below_box hB).cell (p := ⟨g, _, none⟩) hgl).trans d2
          have e3 := ((below_box hB).cell (p := ⟨g, _, none⟩) hgl).trans d3
          have hlt2 : (k : Int) < (A.length : Int) := by omega
          have hlt3 : (k : Int) < (F.length : Int) := by omega
          have hgf2 : gf < wr.heap.size := Nat.lt_of_lt_of_le hgf (below_box hB).size
          have HF2 := Lib.hid (((below_box hB).cell (p := ⟨gf, _, none⟩) hgf).trans (hcf k y hy))
          have w0 : IntKind.i64.wrap (r - y) = r - y := IntWalk.i64_in _ (by simp only at hyb; omega)
          have HZ := Lib.hid hz
          have HXA := Lib.hid hx
          have HYF := Lib.hid hy
          have HR := Lib.hid hR
          have HB := Lib.hid hB
          have hbA := (Below.refl wr.heap.size wr).alloc (Nat.le_refl _) (.cells #[.int .i64 a, .int .i64 b, .int .i64 r, .int .i64 c] 72)
          have HBA := Lib.hid hbA
          have hA0 : (wr.alloc (.cells #[.int .i64 a, .int .i64 b, .int .i64 r, .int .i64 c] 72)).heap[wr.heap.size]? = some (.cells #[.int .i64 a, .int .i64 b, .int .i64 r, .int .i64 c] 72) := heap_alloc_new wr _
          have HA0 := Lib.hid hA0
          have hs1 : (wr.alloc (.cells #[.int .i64 a, .int .i64 b, .int .i64 r, .int .i64 c] 72)).heap.size = wr.heap.size + 1 := World.size_alloc _ _
          have HS1 := Lib.hid hs1
          clear hc hcf d0 d1 d2 d3 hR hB hz hx hy hbA hA0 hs1 hyb
          go_wp2_with fail
          generalize wr.alloc (.cells #[.int .i64 (a : Int), .int .i64 b, .int .i64 r, .int .i64 c] 72) = wb at HBA HA0 HS1 ⊢
          have a0 : wb.cell? ⟨wr.heap.size, 0, none⟩ = some (.int .i64 (a : Int)) := box_cell HA0.out rfl
          have a2 : wb.cell? ⟨wr.heap.size, 2, none⟩ = some (.int .i64 r) := box_cell HA0.out rfl
          have a3 : wb.cell? ⟨wr.heap.size, 3, none⟩ = some (.int .i64 c) := box_cell HA0.out rfl
          have a4 := (HBA.out.cell (p := ⟨gf, _, none⟩) hgf2).trans HF2.out
          go_still_tail 12, (by kernel_rfl)
          go_wp2_with fail
          generalize hq : (wb.alloc (.cells #[.int .i64 (a : Int), .int .i64 (r - y), .int .i64 c, .pointer none] 109)).drew = wf
          have hb2 : Below wr.heap.size wr wf := by rw [← hq]; exact (HBA.out.alloc HBA.out.size _).drew
          have hA2 : wf.heap[wr.heap.size]? = some (.cells #[.int .i64 (a : Int), .int .i64 b, .int .i64 r, .int .i64 c] 72) := by
            rw [← hq]
            exact (((Below.refl wb.heap.size wb).alloc (Nat.le_refl _) _).block _ (by have := HS1.out; omega)).trans HA0.out
          have hF1 : wf.heap[wb.heap.size]? = some (boxR a (r - y) c none) := by rw [← hq]; exact heap_alloc_new wb _
          have hfb : wr.heap.size < wb.heap.size := by have := HS1.out; omega
          have HFB := Lib.hid hfb
          have HF1 := Lib.hid hF1
          have HA2 := Lib.hid hA2
          have HB2 := Lib.hid hb2
          clear hq hb2 hA2 hF1 a0 a2 a3 a4 HBA HA0 HS1 hfb
          generalize wb.heap.size = fb at HFB HF1 ⊢
          have a1 : wf.cell? ⟨wr.heap.size, 1, none⟩ = some (.int .i64 (b : Int)) := box_cell HA2.out rfl
          have a3 : wf.cell? ⟨wr.heap.size, 3, none⟩ = some (.int .i64 c) := box_cell HA2.out rfl
          have wc : IntKind.i64.wrap (-c) = -c := IntWalk.i64_in _ (by omega)
          have a4 := (HB2.out.cell (p := ⟨gf, _, none⟩) hgf2).trans HF2.out
          go_still_tail 10, (by kernel_rfl)
          go_wp2_with fail
          generalize hq : (wf.alloc (.cells #[.int .i64 (b : Int), .int .i64 y, .int .i64 (-c), .pointer none] 109)).drew = wg
          have hb3 : Below wr.heap.size wr wg := by rw [← hq]; exact (HB2.out.alloc HB2.out.size _).drew
          have hk3 : Below wf.heap.size wf wg := by rw [← hq]; exact ((Below.refl wf.heap.size wf).alloc (Nat.le_refl _) _).drew
          have hA3 := (hk3.block _ (Array.getElem?_eq_some_iff.1 HA2.out).1).trans HA2.out
          have hF3 := (hk3.block _ (Array.getElem?_eq_some_iff.1 HF1.out).1).trans HF1.out
          have hC3 : wg.heap[wf.heap.size]? = some (boxR b y (-c) none) := by rw [← hq]; exact heap_alloc_new wf _
          have hfc : fb < wf.heap.size := (Array.getElem?_eq_some_iff.1 HF1.out).1
          have HFC := Lib.hid hfc
          have HA3 := Lib.hid hA3
          have HF3 := Lib.hid hF3
          have HC3 := Lib.hid hC3
          have HB3 := Lib.hid hb3
          clear hq hb3 hk3 hA3 hF3 hC3 a1 a3 a4 wc HF1 HA2 HB2 hfc
          generalize wf.heap.size = cb at HFC HC3 ⊢
          go_wp2_with (go_at_call 67; refine (implJoin fb cb a (r - y) c b y (-c) none none (by have := HFC.out; omega) _ HF3.out HC3.out).mono ?_; rintro e wj ⟨rfl, hj⟩; have HJ := Lib.hid hj; clear hj)
          have hbj : Below wr.heap.size wr wj := by
            obtain ⟨_, _, j3, j4, j5, j6, j7⟩ := HJ.out
            have := HFB.out
            have := HFC.out
            exact ⟨j4.trans HB3.out.os, j5.trans HB3.out.tape, j6.trans HB3.out.output, Nat.le_trans HB3.out.size (Nat.le_of_eq j3.symm), fun i hi => (j7 i (by omega) (by omega)).trans (HB3.out.block i hi)⟩
          have hAj : wj.heap[wr.heap.size]? = some (.cells #[.int .i64 (a : Int), .int .i64 b, .int .i64 r, .int .i64 c] 72) := by
            obtain ⟨_, _, j3, j4, j5, j6, j7⟩ := HJ.out
            have := HFB.out
            have := HFC.out
            exact (j7 _ (by omega) (by omega)).trans HA3.out
          have hE1 : Edge wj a (b, r - y) fb := ⟨cb, _, y, _, _, HJ.out.1, HJ.out.2.1⟩
          have hE2 : Edge wj b (a, y) cb := ⟨fb, _, r - y, _, _, HJ.out.2.1, HJ.out.1⟩
          have hBXJ : Boxes (w.heap.size + 1) wj A F (X ++ [(fb, cb)]) := by
            have h1 := HFB.out
            have h2 := HFC.out
            have h3 : w.heap.size + 1 ≤ wr.heap.size := Nat.le_of_lt (HR.out.row.lt _ rfl).2
            refine (HBX.out.below hbj).more HX.out HXA.out HYF.out HJ.out.1 HJ.out.2.1 (by omega) (by omega) (fun p hp => ?_)
            have h4 := HBX.out.lt p hp
            omega
          have HBXJ := Lib.hid hBXJ
          clear hBXJ
          have hR1 := HR.out.below hbj
          have hrow := hR1.at_row han
          have a0 : wj.cell? ⟨wr.heap.size, 0, none⟩ = some (.int .i64 (a : Int)) := box_cell hAj rfl
          have han2 : (a : Int) < (n : Int) := by omega
          have HE1 := Lib.hid hE1
          have HE2 := Lib.hid hE2
          have HR1 := Lib.hid hR1
          have HAJ := Lib.hid hAj
          have HBJ := Lib.hid hbj
          clear hE1 hE2 hR1 hAj hbj HJ HF3 HC3 HA3 HB3
          have hlb : (bs a).length ≤ 6400 := by
            rw [HR1.out.len a han]
            have := resL_len ((A.zip F).take k) a
            omega
          have hown := HR1.out.own a han
          have hbw : w.heap.size + 1 ≤ wj.heap.size := Nat.le_of_lt (HR1.out.row.lt _ rfl).2
          have HBJ2 := Lib.hid (HB.out.trans (HBJ.out.mono HB.out.size))
          have hbw2 : (w.alloc (.cells #[.int .i64 (n : Int), .slice (some ⟨g, 0, none⟩) A.length cv] 32)).heap.size ≤ wj.heap.size := HBJ2.out.size
          generalize hsa : S a = sa at hrow hown
          have HSA := Lib.hid hsa
          clear hsa
          have hbq : Below wj.heap.size wj (wj.alloc (.cells #[.pointer (some ⟨fb, 0, none⟩)] 107)).drew := ((Below.refl wj.heap.size wj).alloc (Nat.le_refl _) _).drew
          have hrow9 := (hbq.cell (p := ⟨w.heap.size + 1, a, none⟩) (HR1.out.row.lt _ rfl).2).trans hrow
          have a09 := (hbq.cell (p := ⟨wr.heap.size, 0, none⟩) (Array.getElem?_eq_some_iff.1 HAJ.out).1).trans a0
          clear hbq
          go_upto_region 8 with fail
          go_cut [] from 18 to 72 (fun wx => (∃ S2, RG (w.heap.size + 1) wx (w.heap.size + 1) n (addE (resL ((A.zip F).take k)) a (b, r - y)) S2 (addB bs a fb)) ∧ Boxes (w.heap.size + 1) wx A F (X ++ [(fb, cb)]) ∧ Below (w.alloc (.cells #[.int .i64 (n : Int), .slice (some ⟨g, 0, none⟩) A.length cv] 32)).heap.size (w.alloc (.cells #[.int .i64 (n : Int), .slice (some ⟨g, 0, none⟩) A.length cv] 32)) wx ∧ Edge wx b (a, y) cb ∧ wx.heap[wr.heap.size]? = some (Obj.cells #[.int .i64 (a : Int), .int .i64 b, .int .i64 r, .int .i64 c] 72))
          case first =>
            go_region_law (refine step_append_lies _ rfl (.tmp 55) (.tmp 57) 77 rfl (w.heap.size + 1) 107 i1 (.pointer none) 1 8 Tryd.underlying77 hi1 hz10 hz11 hz12 rfl (by decide) _ _ _ (by simp [Act.eval]) (hown.drew.alloc _) ⟨wj.heap.size, 0, none⟩ 1 1 ([fb].map ptrV) (by simp [Act.eval]) rfl (ptr_newd _ _ _) (ptrs_one _) (by decide) (by unfold maxLen; omega) (by omega) (by simp; omega) _ rfl ?_; intro gn cap w3 hown2 hgrow hat _; have HP3 := RG.app HR1.out HSA.out han HE1.out HBJ2.out (by simp) hbw2 hown2 hgrow (hat.imp (fun e => e) (fun e => by rw [e]; rfl)); have f3 := HP3.frozen; have k3 := HP3.cell; have a3 : w3.cell? ⟨wr.heap.size, 0, none⟩ = some (.int .i64 (a : Int)) := box_cell (HP3.box3 _ _ HAJ.out) rfl; have HP4 := Lib.hid HP3; clear hown2 hgrow hat HP3)
            all_goals
              go_wp2_with fail
              go_meet
              exact ⟨HP4.out.rg, HBXJ.out.on HP4.out.size HP4.out.boxr, HP4.out.below, HP4.out.edge _ _ _ HE2.out, HP4.out.box _ _ HAJ.out⟩
          case rest =>
            clear hown hrow hrow9 a09 a0 hlb HR1 HE1 HE2 HAJ HBJ HBJ2 HSA HBXJ
            obtain ⟨⟨S2, hR2⟩, hBx2, hB2, hE2, hA2⟩ := hcut
            have HBX2 := Lib.hid hBx2
            generalize hbs2 : addB bs a fb = bs2 at hR2
            have HBS2 := Lib.hid hbs2
            clear hBx2 hbs2
            go_upto_region 9 with fail
            have hrow := hR2.at_row hbn
            have a1 : wc.cell? ⟨wr.heap.size, 1, none⟩ = some (.int .i64 (b : Int)) := box_cell hA2 rfl
            have hbn2 : (b : Int) < (n : Int) := by omega
            have hlb : (bs2 b).length ≤ 6401 := by
              rw [hR2.len b hbn]
              have := resL_len ((A.zip F).take k) b
              unfold addE
              split
              · simp only [List.length_append, List.length_cons, List.length_nil]
                omega
              · omega
            have hown := hR2.own b hbn
            have hbw : w.heap.size + 1 ≤ wc.heap.size := Nat.le_of_lt (hR2.row.lt _ rfl).2
            have hbw2 : (w.alloc (.cells #[.int .i64 (n : Int), .slice (some ⟨g, 0, none⟩) A.length cv] 32)).heap.size ≤ wc.heap.size := hB2.size
            generalize hsa : S2 b = sa at hrow hown
            have HSA := Lib.hid hsa
            have HR2 := Lib.hid hR2
            have HB2 := Lib.hid hB2
            have HE2 := Lib.hid hE2
            have HA2 := Lib.hid hA2
            have hbq : Below wc.heap.size wc (wc.alloc (.cells #[.pointer (some ⟨cb, 0, none⟩)] 107)).drew := ((Below.refl wc.heap.size wc).alloc (Nat.le_refl _) _).drew
            have hrow9 := (hbq.cell (p := ⟨w.heap.size + 1, b, none⟩) (hR2.row.lt _ rfl).2).trans hrow
            have a19 := (hbq.cell (p := ⟨wr.heap.size, 1, none⟩) (Array.getElem?_eq_some_iff.1 hA2).1).trans a1
            clear hbq hsa hR2 hB2 hE2 hA2
            go_region_law (refine step_append_lies _ rfl (.tmp 67) (.tmp 69) 77 rfl (w.heap.size + 1) 107 i1 (.pointer none) 1 8 Tryd.underlying77 hi1 hz10 hz11 hz12 rfl (by decide) _ _ _ (by simp [Act.eval]) (hown.drew.alloc _) ⟨wc.heap.size, 0, none⟩ 1 1 ([cb].map ptrV) (by simp [Act.eval]) rfl (ptr_newd _ _ _) (ptrs_one _) (by decide) (by unfold maxLen; omega) (by omega) (by simp; omega) _ rfl ?_; intro gn cap w3 hown2 hgrow hat _; have HP3 := RG.app HR2.out HSA.out hbn HE2.out HB2.out (by simp) hbw2 hown2 hgrow (hat.imp (fun e => e) (fun e => by rw [e]; rfl)); have f3 := HP3.frozen; have k3 := HP3.cell; have a3 : w3.cell? ⟨wr.heap.size, 1, none⟩ = some (.int .i64 (b : Int)) := box_cell (HP3.box3 _ _ HA2.out) rfl; have HP4 := Lib.hid HP3; clear hown2 hgrow hat HP3)
            all_goals
              clear hrow hown hrow9 a19 a1 HSA HR2 hlb
              go_wp2_with fail
              go_roundw
              case rel =>
                obtain ⟨S3, hR3⟩ := HP4.out.rg
                refine ⟨k + 1, S3, X ++ [(fb, cb)], by omega, by go_num, Lib.hid (by rw [List.length_append, HX.out]; rfl), ?_, HBX2.out.on HP4.out.size HP4.out.boxr, HP4.out.below⟩
                rw [← bsL_step HXA.out HX.out hne, HBS.out, HBS2.out]
                exact hR3.same (resL_step HZ.out hne)
              case measure => simp [intOf]; omega
    · obtain rfl : k = A.length := by omega
      have e : (A.zip F).take A.length = A.zip F := List.take_of_length_le (by rw [List.length_zip]; omega)
      rw [e] at hR
      have HR := Lib.hid hR
      clear hR
      go_wp2_with fail
      go_ret
      exact ⟨_, S, X, rfl, .of (by rw [HBS.out]; exact HR.out) HBX.out HX.out, below_box hB⟩

end Go.Proofs.YtlkhecdlmbhiaaaDoor

