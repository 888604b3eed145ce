/-
  CONTRACT of spec.DrawCut: the drawn network and a list of Booleans. No law is proved here.
-/
import Derived.Test.YtghhlojjjjnogaaDrawN
import Derived.Test.YtghhlojjjjnogaaBoolsO
import Derived.Test.YtghhlojjjjnogaaBoolRow
namespace Go.Proofs.Ytghhlojjjjnogaa
set_option maxRecDepth 4096
open Go.ChangeShapes Go.WideShapes Go.ChangeAt Go.RowKit

theorem onceF (g N : Nat) (B : Nat → Int) (v : Value) (s : DS) (w : World) (hN : N ≤ 9000000000000000) (hi : s.i ≤ N) (hc : CodeF w v N B g) (hk : CurF w g v s) :
    Calls Try.prog 48 #[.pointer (some ⟨g, 0, none⟩), .int .i64 2] w fun e w' => ∃ b, e = .returned (.bool b) ∧ CurF w' g v (s.next N) ∧ w.grownBy w' (some g) := by
  have HC := Lib.hid hc
  have HK := Lib.hid hk
  clear hc hk
  go_enter Try.func48, Try.ntmps48
  go_wp2_with fail
  refine (fewF g N B v s 2 w hN hi HC.out HK.out (by omega) (by omega)).mono ?_
  rintro e w1 ⟨rfl, hcur, hg⟩
  go_wp2_with fail
  go_ret
  exact ⟨_, rfl, hcur, hg⟩

theorem rowB_more {o : Nat → Bool} {j : Nat} (b : Bool) : rowB (fun i => if i = j then b else o i) (j + 1) = rowB o j ++ [.bool b] := by
  unfold rowB
  rw [List.range_succ, List.map_append]
  congr 1
  · refine List.map_congr_left fun i hi => ?_
    have := List.mem_range.1 hi
    show Value.bool (if i = j then b else o i) = _
    rw [if_neg (by omega)]
  · simp
theorem bool_new1 {w : World} {m : Nat} (h : w.heap.size = m) (b : Bool) (t : TypeId) : ∀ j u, ([Value.bool b] : List Value)[j]? = some u → (w.alloc (.cells #[.bool b] t)).cell? ((⟨m, 0, none⟩ : Addr).add j) = some u := by
  subst h
  intro j u hj
  have hadd : (⟨w.heap.size, 0, none⟩ : Addr).add j = ⟨w.heap.size, j, none⟩ := by unfold Addr.add; split <;> simp_all
  rw [hadd, World.cell?_alloc_mark]
  simpa using hj
/-- The memory while the list is drawn. -/
structure DC (N : Nat) (B : Nat → Int) (w : World) (g1 X : Nat) (v va vs : Value) (s : DS) (o : Nat → Bool) (j : Nat) (wr : World) : Prop where
  res : wr.heap[w.heap.size]? = some (.cells #[.int .i64 0, .slice none 0 0] 26)
  box : wr.heap[X]? = some (.cells #[.int .i64 (dpM N B : Int), va] 26)
  arc : wr.ownsRow g1 64 4 va (dpA N B).length (cellsA (dpA N B))
  al : ∀ k, va.ownBlock = some k → k < X
  cur : CurF wr (w.heap.size + 1) v s
  code : CodeF wr v N B (w.heap.size + 1)
  row : wr.ownsRow (X + 1) 4 1 vs j (rowB o j)
  ord : w.heap.size + 1 < g1 ∧ g1 ≤ X
  below : Below w.heap.size w wr
section
variable {N g1 X j : Nat} {B : Nat → Int} {w wr wy : World} {v va vs : Value} {s : DS} {o : Nat → Bool}
theorem DC.alloc (h : DC N B w g1 X v va vs s o j wr) (b : Obj) : DC N B w g1 X v va vs s o j (wr.alloc b) := by
  have hb := (Below.refl wr.heap.size wr).alloc (Nat.le_refl _) b
  exact ⟨(hb.block _ (Array.getElem?_eq_some_iff.1 h.res).1).trans h.res, (hb.block _ (Array.getElem?_eq_some_iff.1 h.box).1).trans h.box, h.arc.alloc b, h.al, h.cur.below hb, h.code.below hb, h.row.alloc b, h.ord, h.below.alloc h.below.size b⟩
theorem DC.once {s' : DS} (h : DC N B w g1 X v va vs s o j wr) (hc : CurF wy (w.heap.size + 1) v s') (hg : wr.grownBy wy (some (w.heap.size + 1))) : DC N B w g1 X v va vs s' o j wy := by
  obtain ⟨o1, o2⟩ := h.ord
  refine ⟨(hg.block _ (Array.getElem?_eq_some_iff.1 h.res).1 (fun e => by have := Option.some.inj e; omega)).trans h.res, (hg.block _ (Array.getElem?_eq_some_iff.1 h.box).1 (fun e => by have := Option.some.inj e; omega)).trans h.box, h.arc.kept hg ?_, h.al, hc, h.code.turn hg, h.row.kept hg ?_, h.ord, h.below.grown hg h.below.size (fun k e => by have := Option.some.inj e; omega)⟩
  · cases hv : va.ownBlock with
    | none => exact .inl rfl
    | some k => exact .inr (fun e => by have := (h.arc.lt k hv).1; have := Option.some.inj e; omega)
  · cases hv : vs.ownBlock with
    | none => exact .inl rfl
    | some k => exact .inr (fun e => by have := (h.row.lt k hv).1; have := Option.some.inj e; omega)
theorem DC.app {b : Bool} {vs' : Value} (h : DC N B w g1 X v va vs s o j wr) (hown : wy.ownsRow (X + 1) 4 1 vs' (j + 1) (rowB o j ++ [.bool b])) (hg : wr.grownBy wy vs.ownBlock) : DC N B w g1 X v va vs' s (fun i => if i = j then b else o i) (j + 1) wy := by
  obtain ⟨o1, o2⟩ := h.ord
  have hlo : ∀ k, vs.ownBlock = some k → X + 1 ≤ k := fun k e => (h.row.lt k e).1
  refine ⟨(hg.block _ (Array.getElem?_eq_some_iff.1 h.res).1 (fun e => by have := hlo _ e.symm; omega)).trans h.res, (hg.block _ (Array.getElem?_eq_some_iff.1 h.box).1 (fun e => by have := hlo _ e.symm; omega)).trans h.box, h.arc.kept hg ?_, h.al, h.cur.keep (hg.block _ (Array.getElem?_eq_some_iff.1 h.cur).1 (fun e => by have := hlo _ e.symm; omega)), h.code.keep (fun k hk hlt => hg.block k hlt (fun e => by have := hlo _ e.symm; omega)) hg.size, ?_, h.ord, h.below.grown hg h.below.size (fun k e => by have := hlo k e; omega)⟩
  · cases hv : va.ownBlock with
    | none => exact .inl rfl
    | some k => exact .inr (fun e => by have := h.al k hv; have := hlo _ e.symm; omega)
  · rw [rowB_more]
    exact hown
end

/-- What DrawCut hands back. -/
def DrawnC (N : Nat) (B : Nat → Int) (w : World) (e : Ending) (w' : World) : Prop :=
  ∃ va vs o, e = .returned (.tuple #[.agg #[.int .i64 (dpM N B : Int), va], vs]) ∧ Arcs w' va (dpA N B) ∧ Bools w' vs o (dpM N B) ∧ o 0 = true ∧ o 1 = false ∧ Below w.heap.size w w'

set_option maxHeartbeats 4000000 in
theorem drawCut (N : Nat) (B : Nat → Int) (v : Value) (w : World) (hN : N ≤ 9000000000000000) (hc : CodeF w v N B w.heap.size) :
    Calls Try.prog 17 #[v] w (DrawnC N B w) := by
  obtain ⟨i0, hi, hz0, hz1, hz2⟩ := info_parts Try.infoBool
  have hb0 := (Below.refl w.heap.size w).alloc (Nat.le_refl _) (.cells #[.int .i64 0, .slice none 0 0] 26)
  have hc0 := Lib.hid ((hc.below hb0).up (Nat.le_succ _))
  have HB0 := Lib.hid hb0
  have hR0 := Lib.hid (heap_alloc_new w (.cells #[.int .i64 0, .slice none 0 0] 26))
  have hs0 := Lib.hid (World.size_alloc w (.cells #[.int .i64 0, .slice none 0 0] 26))
  have hM8 : dpM N B ≤ 1500 := by have := (netOk_out (dp_ok N B).1).1.2; omega
  have hM2 : 2 ≤ dpM N B := by have := (netOk_out (dp_ok N B).1).1.1; omega
  clear hb0 hc
  go_enter Try.func17, Try.ntmps17
  go_wp2_with fail
  generalize w.alloc (.cells #[.int .i64 0, .slice none 0 0] 26) = w0 at hc0 HB0 hR0 hs0 ⊢
  refine (newF N B v w0 hN (by rw [hs0.out]; exact hc0.out)).mono ?_
  rintro e w1 ⟨rfl, hcur1, hb1⟩
  rw [hs0.out] at hcur1
  have hwg : w.heap.size + 1 < w1.heap.size := (Array.getElem?_eq_some_iff.1 hcur1).1
  have hcode1 := hc0.out.below hb1
  have hR1 : w1.heap[w.heap.size]? = some (.cells #[.int .i64 0, .slice none 0 0] 26) := (hb1.block _ (by have := hs0.out; omega)).trans hR0.out
  have HB1 := Lib.hid (HB0.out.trans (hb1.mono HB0.out.size))
  have HC1 := Lib.hid hcur1
  have HK1 := Lib.hid hcode1
  have HR1 := Lib.hid hR1
  have hst : (startD N B).i ≤ N := Nat.zero_le _
  clear hcur1 hcode1 hR1 hb1 HB0 hc0 hR0
  rw [hs0.out]
  go_wp2_with fail
  refine (rightF (w.heap.size + 1) N B v (startD N B) w1 hN hst HK1.out HC1.out).mono ?_
  rintro e w2 ⟨va, rfl, hown, hcur2, hg2⟩
  obtain ⟨av, cv, rfl⟩ := own_slice hown
  rw [show (rightP N B (startD N B)).1 = dpA N B from rfl] at hown ⊢
  rw [dpM_is]
  have hw2 := hg2.size
  have hcode2 := HK1.out.turn hg2
  have hR2 : w2.heap[w.heap.size]? = some (.cells #[.int .i64 0, .slice none 0 0] 26) := (hg2.block _ (by omega) (fun e => by have := Option.some.inj e; omega)).trans HR1.out
  have HB2 := Lib.hid (HB1.out.grown hg2 HB1.out.size (fun j e => by have := Option.some.inj e; omega))
  have hb3 := (Below.refl w2.heap.size w2).alloc (Nat.le_refl _) (.cells #[.int .i64 (dpM N B : Int), .slice av (dpA N B).length cv] 26)
  have hal : ∀ k, (Value.slice av (dpA N B).length cv).ownBlock = some k → k < w2.heap.size := fun k e => (hown.lt k e).2
  have hle := rightP_le (N := N) (B := B) hst
  have H3 : Hid (DC N B w w1.heap.size w2.heap.size v (.slice av (dpA N B).length cv) (.slice (some ⟨w2.heap.size + 1, 0, none⟩) 2 2) (rightP N B (startD N B)).2 (fun i => decide (i = 0)) 2 ((w2.alloc (.cells #[.int .i64 (dpM N B : Int), .slice av (dpA N B).length cv] 26)).alloc (.cells #[.bool true, .bool false] 4))) := Lib.hid (by
    have hb4 := hb3.alloc hb3.size (.cells #[.bool true, .bool false] 4)
    have hs3 : (w2.alloc (.cells #[.int .i64 (dpM N B : Int), .slice av (dpA N B).length cv] 26)).heap.size = w2.heap.size + 1 := World.size_alloc _ _
    refine ⟨(hb4.block _ (by omega)).trans hR2, ?_, (hown.alloc _).alloc _, hal, hcur2.below hb4, hcode2.below hb4, ?_, ⟨hwg, hw2⟩, HB2.out.trans (hb4.mono HB2.out.size)⟩
    · exact (((Below.refl _ _).alloc (Nat.le_refl _) _).block _ (by rw [hs3]; omega)).trans (heap_alloc_new w2 _)
    · have h := World.ownsRow_lit (base := w2.heap.size + 1) (e := 4) (size := 1) (w2.alloc (.cells #[.int .i64 (dpM N B : Int), .slice av (dpA N B).length cv] 26)) #[.bool true, .bool false] 2 (by rw [hs3]; exact Nat.le_refl _) (by decide) rfl
      rw [hs3] at h
      exact h)
  have hs3 : (w2.alloc (.cells #[.int .i64 (dpM N B : Int), .slice av (dpA N B).length cv] 26)).heap.size = w2.heap.size + 1 := World.size_alloc _ _
  have HS3 := Lib.hid hs3
  clear hown hcur2 hg2 hcode2 hR2 hb3 HB2 HC1 HK1 HR1 HB1 hal hs3
  go_wp2_with fail
  go_loopw [6, 7] (fun vs i wr => ∃ (j : Nat) (s : DS) (o : Nat → Bool), i = .int .i64 j ∧ 2 ≤ j ∧ j ≤ dpM N B ∧ s.i ≤ N ∧ Hid (o 0 = true) ∧ Hid (o 1 = false) ∧ DC N B w w1.heap.size w2.heap.size v (.slice av (dpA N B).length cv) vs s o j wr) (fun _ i _ => dpM N B - (intOf i).toNat)
  case atStart => exact ⟨2, _, _, rfl, Nat.le_refl _, hM2, hle, Lib.hid rfl, Lib.hid rfl, by first | exact H3.out | (rw [HS3.out]; exact H3.out) | simpa using H3.out⟩
  case round =>
    clear H3
    obtain ⟨j, s, o, rfl, hj2, hj, hsi, HO0, HO1, hS⟩ := hrel
    have c0 : wr.cell? ⟨w2.heap.size, 0, none⟩ = some (.int .i64 (dpM N B : Int)) := (cell_of_row wr w2.heap.size 0 _ _ _ hS.box).trans rfl
    have c1 : wr.cell? ⟨w2.heap.size, 1, none⟩ = some (.slice av (dpA N B).length cv) := (cell_of_row wr w2.heap.size 1 _ _ _ hS.box).trans rfl
    have HS := Lib.hid hS
    clear hS
    by_cases hlt : j < dpM N B
    · have hlt2 : (j : Int) < (dpM N B : Int) := by omega
      go_wp2_with fail
      refine (onceF (w.heap.size + 1) N B v s wr hN hsi HS.out.code HS.out.cur).mono ?_
      rintro e w5 ⟨b, rfl, hcur, hg⟩
      have H5 := Lib.hid (HS.out.once hcur hg)
      have hX5 : w2.heap.size + 1 ≤ w5.heap.size := (Array.getElem?_eq_some_iff.1 H5.out.box).1
      clear hcur hg c0 c1
      obtain ⟨a6, c6, rfl⟩ := own_slice H5.out.row
      go_wp2_with (at_builtin; go_loud (refine wpList_append_own _ rfl _ _ 34 rfl (w2.heap.size + 1) 4 i0 (.bool false) 1 1 Try.underlying34 hi hz0 hz1 hz2 rfl (by decide) _ _ _ rfl (H5.out.row.alloc _) ⟨w5.heap.size, 0, none⟩ 1 1 [.bool b] rfl rfl (bool_new1 rfl b _) (by simp [Value.oneCell']) (by unfold maxLen; omega) (by omega) (by simp; omega) ?_); intro v' w6 hown6 hgrow _; have H6 := Lib.hid ((H5.out.alloc _).app hown6 hgrow); clear hown6 hgrow)
      go_roundw
      case rel => exact ⟨j + 1, s.next N, _, by go_num, by omega, by omega, next_le hsi, Lib.hid (by show (if 0 = j then b else o 0) = true; rw [if_neg (by omega)]; exact HO0.out), Lib.hid (by show (if 1 = j then b else o 1) = false; rw [if_neg (by omega)]; exact HO1.out), H6.out⟩
      case measure => simp [intOf]; omega
    · obtain rfl : j = dpM N B := by omega
      obtain ⟨a6, c6, rfl⟩ := own_slice HS.out.row
      have r0 : wr.cell? ⟨w.heap.size, 0, none⟩ = some (.int .i64 0) := (cell_of_row wr w.heap.size 0 _ _ _ HS.out.res).trans rfl
      have r1 : wr.cell? ⟨w.heap.size, 1, none⟩ = some (.slice none 0 0) := (cell_of_row wr w.heap.size 1 _ _ _ HS.out.res).trans rfl
      have f0 := frozen_of_row wr w.heap.size 0 _ _ HS.out.res
      have f1 := frozen_of_row wr w.heap.size 1 _ _ HS.out.res
      go_wp2_with fail
      have hrow := heap_setCell_same _ w.heap.size 1 _ _ (.slice av (dpA N B).length cv) (heap_setCell_same wr w.heap.size 0 _ _ (.int .i64 (dpM N B : Int)) HS.out.res)
      have q0 : ((wr.setCell ⟨w.heap.size, 0, none⟩ (.int .i64 (dpM N B : Int))).setCell ⟨w.heap.size, 1, none⟩ (.slice av (dpA N B).length cv)).cell? ⟨w.heap.size, 0, none⟩ = some (.int .i64 (dpM N B : Int)) := (cell_of_row _ w.heap.size 0 _ _ _ hrow).trans rfl
      have q1 : ((wr.setCell ⟨w.heap.size, 0, none⟩ (.int .i64 (dpM N B : Int))).setCell ⟨w.heap.size, 1, none⟩ (.slice av (dpA N B).length cv)).cell? ⟨w.heap.size, 1, none⟩ = some (.slice av (dpA N B).length cv) := (cell_of_row _ w.heap.size 1 _ _ _ hrow).trans rfl
      have k1 : wr.grownBy (wr.setCell ⟨w.heap.size, 0, none⟩ (.int .i64 (dpM N B : Int))) (some w.heap.size) := ⟨rfl, rfl, rfl, by simp [World.setCell], fun i _ hne => heap_setCell_other _ _ _ _ (fun e => hne (by rw [e]))⟩
      have k2 : (wr.setCell ⟨w.heap.size, 0, none⟩ (.int .i64 (dpM N B : Int))).grownBy ((wr.setCell ⟨w.heap.size, 0, none⟩ (.int .i64 (dpM N B : Int))).setCell ⟨w.heap.size, 1, none⟩ (.slice av (dpA N B).length cv)) (some w.heap.size) := ⟨rfl, rfl, rfl, by simp [World.setCell], fun i _ hne => heap_setCell_other _ _ _ _ (fun e => hne (by rw [e]))⟩
      have k3 := grown_onF k1 k2
      refine bodyPost_ret (v := .tuple #[.agg #[.int .i64 (dpM N B : Int), (.slice av (dpA N B).length cv)], .slice a6 (dpM N B) c6]) ?_ rfl ?_
      · simp [results, Try.results17, go_sem, q0, q1]
      · refine ⟨_, _, o, rfl, arcs_of_own (HS.out.arc.kept k3 ?_), bools_of_own (HS.out.row.kept k3 ?_), HO0.out, HO1.out, HS.out.below.grown k3 HS.out.below.size (fun j e => Nat.le_of_eq (Option.some.inj e))⟩
        · cases hv : (Value.slice av (dpA N B).length cv).ownBlock with
          | none => exact .inl rfl
          | some k => exact .inr (fun e => by have := (HS.out.arc.lt k hv).1; have := Option.some.inj e; omega)
        · cases hv : (Value.slice a6 (dpM N B) c6).ownBlock with
          | none => exact .inl rfl
          | some k => exact .inr (fun e => by have := (HS.out.row.lt k hv).1; have := HS.out.ord; have := Option.some.inj e; omega)

end Go.Proofs.Ytghhlojjjjnogaa
