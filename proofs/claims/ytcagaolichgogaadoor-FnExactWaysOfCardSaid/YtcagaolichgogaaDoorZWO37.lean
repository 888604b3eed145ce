/-
  CONTRACTS of the program's within, arcOk, NetOk. No law is proved here.
  Cells of a boxed structure; an arc of a right net in natural numbers. Plain facts; no law is proved here.
-/
import Derived.Test.YtcagaolichgogaaDoorZWO12
import Derived.Test.YtcagaolichgogaaDoorZWO22
namespace Go.Proofs.YtcagaolichgogaaDoor
set_option maxRecDepth 4096
open Go.ChangeShapes Go.WideShapes Go.ChangeAt Go.RowKit

theorem implWithin (x lo hi : Int) (b : Bool) (HB : Hid (inV x lo hi = b)) (w : World) :
    Calls Tryd.prog 59 #[.int .i64 x, .int .i64 lo, .int .i64 hi] w fun e w' => e = .returned (.bool b) ∧ w = w' := by
  by_cases h1 : lo ≤ x
  · by_cases h2 : x ≤ hi
    · have e : b = true := by rw [← HB.out]; exact inV_iff.2 ⟨h1, h2⟩
      subst e
      go_enter Tryd.func59, Tryd.ntmps59
      go_wp2
      go_ret
      exact ⟨rfl, rfl⟩
    · have e : b = false := by
        rw [← HB.out]
        cases h : inV x lo hi with
        | false => rfl
        | true => exact absurd (inV_iff.1 h).2 h2
      subst e
      go_enter Tryd.func59, Tryd.ntmps59
      go_wp2
      go_ret
      exact ⟨rfl, rfl⟩
  · have e : b = false := by
      rw [← HB.out]
      cases h : inV x lo hi with
      | false => rfl
      | true => exact absurd (inV_iff.1 h).1 h1
    subst e
    go_enter Tryd.func59, Tryd.ntmps59
    go_wp2
    go_ret
    exact ⟨rfl, rfl⟩

/-- The cells of an arc in a box of its own. -/
theorem arc_cells (w : World) (x : ArcD) (t : TypeId) : (w.alloc (.cells #[.int .i64 x.f, .int .i64 x.t, .int .i64 x.r, .int .i64 x.c] t)).cell? ⟨w.heap.size, 0, none⟩ = some (.int .i64 x.f) ∧
    (w.alloc (.cells #[.int .i64 x.f, .int .i64 x.t, .int .i64 x.r, .int .i64 x.c] t)).cell? ⟨w.heap.size, 1, none⟩ = some (.int .i64 x.t) ∧
    (w.alloc (.cells #[.int .i64 x.f, .int .i64 x.t, .int .i64 x.r, .int .i64 x.c] t)).cell? ⟨w.heap.size, 2, none⟩ = some (.int .i64 x.r) ∧
    (w.alloc (.cells #[.int .i64 x.f, .int .i64 x.t, .int .i64 x.r, .int .i64 x.c] t)).cell? ⟨w.heap.size, 3, none⟩ = some (.int .i64 x.c) := by
  refine ⟨?_, ?_, ?_, ?_⟩ <;> rw [cell_of_row _ _ _ _ _ _ (heap_alloc_new w _)] <;> rfl

set_option maxHeartbeats 1000000 in
theorem implArcOk (x : ArcD) (N : Int) (b : Bool) (hN : 2 ≤ N ∧ N ≤ 1500) (HB : Hid (arcOk N x = b)) (w : World) :
    Calls Tryd.prog 80 #[arcV x, .int .i64 N] w (Made w (.bool b)) := by
  obtain ⟨c0, c1, c2, c3⟩ := arc_cells w x 69
  have hB := Lib.hid ((Below.refl w.heap.size w).alloc (Nat.le_refl _) (.cells #[.int .i64 x.f, .int .i64 x.t, .int .i64 x.r, .int .i64 x.c] 69))
  have hwN : IntKind.i64.wrap (N - 1) = N - 1 := IntWalk.i64_in _ (by omega)
  unfold arcV
  rcases arcOk_cases N x with ⟨hok, h1, h2, h3, h4, h5⟩ | ⟨hok, h1 | ⟨h1, h2⟩ | ⟨h1, h2, h3⟩ | ⟨h1, h2, h3, h4⟩ | ⟨h1, h2, h3, h4, h5⟩⟩
  · have e : b = true := by rw [← HB.out]; exact hok
    subst e
    have H1 := Lib.hid h1
    have H2 := Lib.hid h2
    have H4 := Lib.hid h4
    have H5 := Lib.hid h5
    have h3' : (x.f != x.t) = true := by simpa using h3
    clear h1 h2 h4 h5 hok h3
    go_enter Tryd.func80, Tryd.ntmps80
    go_wp2_with (go_at_call 59; refine (implWithin _ _ _ _ (by assumption) _).mono ?_; rintro e w' ⟨rfl, rfl⟩)
    go_ret
    exact ⟨rfl, hB.out⟩
  · have H1 := Lib.hid h1
    have e : b = false := by rw [← HB.out]; exact hok
    subst e
    clear h1 hok
    go_enter Tryd.func80, Tryd.ntmps80
    go_wp2_with (go_at_call 59; refine (implWithin _ _ _ _ (by assumption) _).mono ?_; rintro e w' ⟨rfl, rfl⟩)
    go_ret
    exact ⟨rfl, hB.out⟩
  · have H1 := Lib.hid h1
    have H2 := Lib.hid h2
    have e : b = false := by rw [← HB.out]; exact hok
    subst e
    clear h1 h2 hok
    go_enter Tryd.func80, Tryd.ntmps80
    go_wp2_with (go_at_call 59; refine (implWithin _ _ _ _ (by assumption) _).mono ?_; rintro e w' ⟨rfl, rfl⟩)
    go_ret
    exact ⟨rfl, hB.out⟩
  · have H1 := Lib.hid h1
    have H2 := Lib.hid h2
    have h3' : (x.f != x.t) = false := by simpa using h3
    have e : b = false := by rw [← HB.out]; exact hok
    subst e
    clear h1 h2 hok h3
    go_enter Tryd.func80, Tryd.ntmps80
    go_wp2_with (go_at_call 59; refine (implWithin _ _ _ _ (by assumption) _).mono ?_; rintro e w' ⟨rfl, rfl⟩)
    go_ret
    exact ⟨rfl, hB.out⟩
  · have H1 := Lib.hid h1
    have H2 := Lib.hid h2
    have H4 := Lib.hid h4
    have h3' : (x.f != x.t) = true := by simpa using h3
    have e : b = false := by rw [← HB.out]; exact hok
    subst e
    clear h1 h2 hok h3 h4
    go_enter Tryd.func80, Tryd.ntmps80
    go_wp2_with (go_at_call 59; refine (implWithin _ _ _ _ (by assumption) _).mono ?_; rintro e w' ⟨rfl, rfl⟩)
    go_ret
    exact ⟨rfl, hB.out⟩
  · have H1 := Lib.hid h1
    have H2 := Lib.hid h2
    have H4 := Lib.hid h4
    have H5 := Lib.hid h5
    have h3' : (x.f != x.t) = true := by simpa using h3
    have e : b = false := by rw [← HB.out]; exact hok
    subst e
    clear h1 h2 hok h3 h4 h5
    go_enter Tryd.func80, Tryd.ntmps80
    go_wp2_with (go_at_call 59; refine (implWithin _ _ _ _ (by assumption) _).mono ?_; rintro e w' ⟨rfl, rfl⟩)
    go_ret
    exact ⟨rfl, hB.out⟩

set_option maxHeartbeats 1000000 in
theorem implNet_in (N : Int) (A : List ArcD) (v : Value) (b : Bool) (hN : 2 ≤ N ∧ N ≤ 1500) (hA : A.length ≤ 3200) (HB : Hid (A.all (arcOk N) = b)) (w : World) (hv : Arcs w v A) :
    Calls Tryd.prog 63 #[.agg #[.int .i64 N, v]] w (Made w (.bool b)) := by
  have hB := Below.refl (w.alloc (.cells #[.int .i64 N, v] 45)).heap.size (w.alloc (.cells #[.int .i64 N, v] 45))
  obtain ⟨c0, c1⟩ := net_cells hB
  obtain ⟨av, cv, rfl, HV⟩ := arcs_form hv
  have HVh := Lib.hid HV
  have HN1 : Hid (inV N 2 1500 = true) := Lib.hid (inV_iff.2 hN)
  have hA1 : ¬ (3200 : Int) < (A.length : Int) := by omega
  clear HV hv
  go_enter Tryd.func63, Tryd.ntmps63
  go_wp2_with (go_at_call 59; refine (implWithin _ _ _ _ HN1 _).mono ?_; rintro e w' ⟨rfl, rfl⟩)
  go_loopw [18] (fun i wr => ∃ k : Nat, k ≤ A.length ∧ i = .int .i64 k ∧ Hid ((A.take k).all (arcOk N) = true) ∧ Below (w.alloc (.cells #[.int .i64 N, .slice av A.length cv] 45)).heap.size (w.alloc (.cells #[.int .i64 N, .slice av A.length cv] 45)) wr) (fun i _ => A.length - (intOf i).toNat)
  case atStart => exact ⟨0, Nat.zero_le _, rfl, Lib.hid rfl, hB⟩
  case round =>
    clear hB c0 c1
    obtain ⟨k, hk, rfl, HK, hB⟩ := hrel
    obtain ⟨c0, c1⟩ := net_cells hB
    by_cases hlt : k < A.length
    · obtain ⟨x, hx⟩ : ∃ x, A[k]? = some x := ⟨_, List.getElem?_eq_getElem hlt⟩
      rcases HVh.out with h0 | ⟨g, rfl, hgl, hc⟩
      · omega
      · obtain ⟨d0, d1, d2, d3⟩ := (hc k x hx)
        have e0 := ((below_box hB).cell (p := ⟨g, _, none⟩) hgl).trans d0
        have e1 := ((below_box hB).cell (p := ⟨g, _, none⟩) hgl).trans d1
        have e2 := ((below_box hB).cell (p := ⟨g, _, none⟩) hgl).trans d2
        have e3 := ((below_box hB).cell (p := ⟨g, _, none⟩) hgl).trans d3
        have hlt2 : (k : Int) < (A.length : Int) := by omega
        have hB2 := hB.alloc hB.size (.cells #[.int .i64 x.f, .int .i64 x.t, .int .i64 x.r, .int .i64 x.c] 69)
        have HB2 := Lib.hid hB2
        have HX := Lib.hid hx
        have b0 := (net_cells hB2).1
        obtain ⟨q, hq⟩ : ∃ q, Hid (arcOk N x = q) := ⟨_, rfl⟩
        clear d0 d1 d2 d3 hc hx hB2
        cases q with
        | true =>
          go_wp2_with (go_at_call 80; refine (implArcOk x N true hN hq _).mono ?_; rintro e w' ⟨rfl, hb⟩; have HB3 := Lib.hid (next_below HB2.out hb); clear hb)
          go_roundw
          case rel => exact ⟨k + 1, by omega, by go_num, Lib.hid (arc_all HK.out HX.out hq.out), HB3.out⟩
          case measure => simp [intOf]; omega
        | false =>
          have e : b = false := by rw [← HB.out]; exact arc_not HX.out hq.out
          subst e
          go_wp2_with (go_at_call 80; refine (implArcOk x N false hN hq _).mono ?_; rintro e w' ⟨rfl, hb⟩; have HB3 := Lib.hid (next_below HB2.out hb); clear hb)
          go_ret
          exact ⟨rfl, below_box HB3.out⟩
    · obtain rfl : k = A.length := by omega
      have e : b = true := by rw [← HB.out, ← HK.out, List.take_length]
      subst e
      go_wp2_with fail
      go_ret
      exact ⟨rfl, below_box hB⟩

theorem implNetOk (N : Int) (A : List ArcD) (v : Value) (b : Bool) (HB : Hid (netOkV N A = b)) (w : World) (hl : A.length ≤ 2000000) (hv : Arcs w v A) :
    Calls Tryd.prog 63 #[.agg #[.int .i64 N, v]] w (Made w (.bool b)) := by
  by_cases hN : inV N 2 1500 = true
  · by_cases hA : A.length ≤ 3200
    · refine implNet_in N A v b (inV_iff.1 hN) hA (Lib.hid ?_) w hv
      rw [← HB.out]
      unfold netOkV
      rw [hN, decide_eq_true hA]
      rfl
    · have e : b = false := by
        rw [← HB.out]
        unfold netOkV
        rw [decide_eq_false hA]
        simp
      subst e
      have hB := Below.refl (w.alloc (.cells #[.int .i64 N, v] 45)).heap.size (w.alloc (.cells #[.int .i64 N, v] 45))
      obtain ⟨c0, c1⟩ := net_cells hB
      obtain ⟨av, cv, rfl, _⟩ := arcs_form hv
      have HN := Lib.hid hN
      have hA2 : (3200 : Int) < (A.length : Int) := by omega
      clear hN hv
      go_enter Tryd.func63, Tryd.ntmps63
      go_wp2_with (go_at_call 59; refine (implWithin _ _ _ _ (by assumption) _).mono ?_; rintro e w' ⟨rfl, rfl⟩)
      go_ret
      exact ⟨rfl, below_box hB⟩
  · have e : b = false := by
      rw [← HB.out]
      unfold netOkV
      rw [(by simpa using hN : inV N 2 1500 = false)]
      rfl
    subst e
    have HN : Hid (inV N 2 1500 = false) := Lib.hid (by simpa using hN)
    have hB := Below.refl (w.alloc (.cells #[.int .i64 N, v] 45)).heap.size (w.alloc (.cells #[.int .i64 N, v] 45))
    obtain ⟨c0, c1⟩ := net_cells hB
    obtain ⟨av, cv, rfl, _⟩ := arcs_form hv
    clear hN hv
    go_enter Tryd.func63, Tryd.ntmps63
    go_wp2_with (go_at_call 59; refine (implWithin _ _ _ _ (by assumption) _).mono ?_; rintro e w' ⟨rfl, rfl⟩)
    go_ret
    exact ⟨rfl, below_box hB⟩

end Go.Proofs.YtcagaolichgogaaDoor

namespace Go.Proofs.YtcagaolichgogaaDoor
set_option maxRecDepth 4096
open Go.ChangeShapes Go.WideShapes Go.ChangeAt Go.RowKit

theorem box_cell {w : World} {g j : Nat} {cs : Array Value} {t : TypeId} {u : Value} (h : w.heap[g]? = some (.cells cs t)) (hu : cs[j]? = some u) : w.cell? ⟨g, j, none⟩ = some u := (cell_of_row w g j cs t _ h).trans hu
theorem box_set {w : World} {g G j : Nat} {o : Obj} {u : Value} (h : w.heap[g]? = some o) (hG : G ≠ g) : (w.setCell ⟨G, j, none⟩ u).heap[g]? = some o := (heap_setCell_other w ⟨G, j, none⟩ g u (fun e => hG e.symm)).trans h
/-- An arc of a right net, its ends as natural numbers. -/
theorem arc_nat {n k : Nat} {A : List ArcD} (hok : ∀ x ∈ A, arcOk (n : Int) x = true) (h : k < A.length) : ∃ (a b : Nat) (r c : Int), A[k]? = some ⟨a, b, r, c⟩ ∧ a < n ∧ b < n ∧ a ≠ b ∧ (0 ≤ r ∧ r ≤ 20) ∧ (0 ≤ c ∧ c ≤ 100) := by
  have hx : A[k]? = some A[k] := List.getElem?_eq_getElem h
  obtain ⟨⟨hf0, hf1⟩, ⟨ht0, ht1⟩, hne, hr, hc⟩ := arcOk_out (hok _ (List.mem_of_getElem? hx))
  refine ⟨A[k].f.toNat, A[k].t.toNat, A[k].r, A[k].c, ?_, by omega, by omega, by omega, hr, hc⟩
  rw [hx, Int.toNat_of_nonneg hf0, Int.toNat_of_nonneg ht0]

end Go.Proofs.YtcagaolichgogaaDoor

