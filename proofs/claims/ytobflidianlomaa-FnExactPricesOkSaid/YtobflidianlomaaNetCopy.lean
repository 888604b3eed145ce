/-
  CONTRACTS of the laws' own helpers toArc, toArcS, toNet, and of arguments that are slices of arcs. No law is proved here.
-/
import Derived.Test.YtobflidianlomaaArcRow
import Derived.Laws.OwnMore
namespace Go.Proofs.Ytobflidianlomaa
set_option maxRecDepth 4096
open Go.ChangeShapes Go.WideShapes Go.ChangeAt Go.RowKit

theorem toArc (x : ArcD) (w : World) : Calls Try.prog 59 #[.agg #[.int .i64 x.f, .int .i64 x.t, .int .i64 x.r, .int .i64 x.c]] w (Made w (.agg #[.int .i64 x.f, .int .i64 x.t, .int .i64 x.r, .int .i64 x.c])) := by
  go_enter Try.func59, Try.ntmps59
  go_wp2
  exact bodyPost_ret (v := .agg #[.int .i64 x.f, .int .i64 x.t, .int .i64 x.r, .int .i64 x.c]) (by simp [results, Try.results59, go_sem]) rfl ⟨rfl, (((Below.refl _ _).alloc (Nat.le_refl _) _).alloc (by simp) _).alloc (by simp; omega) _⟩

set_option maxHeartbeats 1000000 in
theorem toArcs (v : Value) (A : List ArcD) (w : World) (hv : ArgA w v A) (hA : A.length ≤ 2000000) :
    Calls Try.prog 44 #[v] w (ArcsBack w A) := by
  obtain ⟨i0, hi, hz0, hz1, hz2⟩ := info_parts Try.infoArc
  obtain ⟨av, cv, rfl, HV⟩ := hv
  have HVh := Lib.hid HV
  clear HV
  go_enter Try.func44, Try.ntmps44
  go_wp2_with (at_make; refine wpList_make_full w rfl _ _ 24 rfl w.heap.size 66 i0 _ 4 Try.underlying24 hi hz0 hz1 .i64 .i64 (A.length : Int) (A.length : Int) A.length rfl rfl rfl rfl (by rw [hz2]; omega) (by unfold maxLen; omega) (Nat.le_refl _) ?_; intro w1 hown0 hgrow0)
  generalize (madeCells (Value.agg #[.int .i64 0, .int .i64 0, .int .i64 0, .int .i64 0]).cells (A.length * 4)).toList = xs at hown0
  have hxl : xs.length = A.length * 4 := by have := hown0.1; omega
  have hb0 := (Below.refl w.heap.size w).grown hgrow0 (Nat.le_refl _) (by simp)
  clear hgrow0
  go_loopw [4] (fun i wr => ∃ k : Nat, k ≤ A.length ∧ i = .int .i64 k ∧ wr.ownsRow w.heap.size 66 4 (.slice (some ⟨w.heap.size, 0, none⟩) A.length A.length) A.length (cellsA (A.take k) ++ xs.drop (k * 4)) ∧ Below w.heap.size w wr) (fun i _ => A.length - (intOf i).toNat)
  case atStart => exact ⟨0, Nat.zero_le _, rfl, by simpa [cellsA] using hown0, hb0⟩
  case round =>
    clear hown0
    obtain ⟨k, hk, rfl, hown, hbe⟩ := hrel
    by_cases hlt : k < A.length
    · obtain ⟨x, hx⟩ : ∃ x, A[k]? = some x := ⟨_, List.getElem?_eq_getElem hlt⟩
      rcases HVh.out with h0 | ⟨b, rfl, hg, hc⟩
      · omega
      · have hk2 : (k : Int) < (A.length : Int) := by omega
        obtain ⟨h0, h1, h2, h3⟩ := hc k x hx
        have d0 := (hbe.cell (p := b.add (k * 4)) (by rw [add_block]; exact hg)).trans h0
        have d1 := (hbe.cell (p := b.add (k * 4 + 1)) (by rw [add_block]; exact hg)).trans h1
        have d2 := (hbe.cell (p := b.add (k * 4 + 2)) (by rw [add_block]; exact hg)).trans h2
        have d3 := (hbe.cell (p := b.add (k * 4 + 3)) (by rw [add_block]; exact hg)).trans h3
        rw [← add_next b (k * 4) 0] at d1
        rw [← add_next b (k * 4) 1] at d2
        rw [← add_next b (k * 4) 2] at d3
        have hst := arcs_step hx hxl
        have HX := Lib.hid hst
        have hk4 : (k : Int) * 4 = ((k * 4 : Nat) : Int) := by omega
        clear h0 h1 h2 h3 hc hst
        go_wp2_with fail
        refine (toArc x _).mono ?_
        rintro e w3 ⟨rfl, hb⟩
        have hbs := hbe.size
        have hown3 := own_below hown hb hbs
        have hbe3 := hbe.trans (hb.mono hbs)
        obtain ⟨u0, f0⟩ := own_cell4 hown3 (j := k * 4) (by omega)
        obtain ⟨u1, f1⟩ := own_cell4 hown3 (j := k * 4 + 1) (by omega)
        obtain ⟨u2, f2⟩ := own_cell4 hown3 (j := k * 4 + 2) (by omega)
        obtain ⟨u3, f3⟩ := own_cell4 hown3 (j := k * 4 + 3) (by omega)
        have z0 := hown3.frozenAt (k * 4)
        have z1 := hown3.frozenAt (k * 4 + 1)
        have z2 := hown3.frozenAt (k * 4 + 2)
        have z3 := hown3.frozenAt (k * 4 + 3)
        have HO3 := Lib.hid hown3
        have HB3 := Lib.hid hbe3
        clear hown hbe hb hown3 hbe3 d0 d1 d2 d3
        go_wp2_with fail
        go_roundw
        case rel => exact ⟨k + 1, by omega, by go_num, by rw [← HX.out]; exact ((((HO3.out.stored _ _).1.stored _ _).1.stored _ _).1.stored _ _).1, (((HB3.out.setCell (Nat.le_refl _) _).setCell (Nat.le_refl _) _).setCell (Nat.le_refl _) _).setCell (Nat.le_refl _) _⟩
        case measure => simp [intOf]; omega
    · obtain rfl : k = A.length := by omega
      rw [List.take_length, List.drop_of_length_le (by omega), List.append_nil] at hown
      have HO := Lib.hid hown
      clear hown
      go_wp2_with fail
      go_ret
      exact ⟨_, rfl, HO.out, hbe⟩

theorem toNet (N : Int) (v : Value) (A : List ArcD) (w : World) (hv : ArgA w v A) (hA : A.length ≤ 2000000) :
    Calls Try.prog 17 #[.agg #[.int .i64 N, v]] w (NetBack w N A) := by
  have hB := ((((Below.refl w.heap.size w).alloc (Nat.le_refl _) (.cells #[.int .i64 N, v] 39)).alloc (by simp) (.cells #[.int .i64 0, .slice none 0 0] 26)).alloc (by simp; omega) (.cells #[.int .i64 N, .slice none 0 0] 26))
  have HV := Lib.hid (argA_below hv hB)
  clear hv
  go_enter Try.func17, Try.ntmps17
  go_wp2_with fail
  refine (toArcs v A _ HV.out hA).mono ?_
  rintro e w3 ⟨u, rfl, hown, hb⟩
  obtain ⟨q0, q1, z0, z1⟩ := old_block (m := w.heap.size + 1 + 1) hb (by
    have := heap_alloc_new ((w.alloc (.cells #[.int .i64 N, v] 39)).alloc (.cells #[.int .i64 0, .slice none 0 0] 26)) (.cells #[.int .i64 N, .slice none 0 0] 26)
    simpa using this)
  obtain ⟨r0, r1, y0, y1⟩ := old_block (m := w.heap.size + 1) (c0 := .int .i64 0) (c1 := .slice none 0 0) (t := 26) hb (by
    rw [Below.heap_alloc _ _ _ (by simp)]
    have := heap_alloc_new (w.alloc (.cells #[.int .i64 N, v] 39)) (.cells #[.int .i64 0, .slice none 0 0] 26)
    simpa using this)
  obtain ⟨au, cu, rfl⟩ := own_form hown
  have HO := Lib.hid hown
  have HB3 := Lib.hid (hB.trans (hb.mono hB.size))
  clear hown hb hB
  go_wp2_with fail
  refine bodyPost_ret (v := .agg #[.int .i64 N, .slice au A.length cu]) (by simp [results, Try.results17, go_sem, r0, r1]) rfl ⟨_, rfl, ?_, ?_⟩
  · have h1 := own_set (own_set (own_set HO.out (r := w.heap.size + 1 + 1) (i := 1) (u := .slice au A.length cu) (by simp)) (r := w.heap.size + 1) (i := 0) (u := .int .i64 N) (by simp)) (r := w.heap.size + 1) (i := 1) (u := .slice au A.length cu) (by simp)
    exact own_base h1 (by simp; omega)
  · exact ((HB3.out.setCell (by simp; omega) _).setCell (by simp) _).setCell (by simp) _

end Go.Proofs.Ytobflidianlomaa
