/-
  CONTRACT of spec.NetOk. No law is proved here.
  CONTRACTS of the program's within, arcOk, NetOk. No law is proved here.
-/
import Derived.Test.YtlkhecdlmbhiaaaDoorZTS07
namespace Go.Proofs.YtlkhecdlmbhiaaaDoor
set_option maxRecDepth 4096
open Go.ChangeShapes Go.WideShapes Go.ChangeAt Go.RowKit

theorem arc_all {p : ArcD → Bool} {A : List ArcD} {k : Nat} {x : ArcD} (h : (A.take k).all p = true) (hx : A[k]? = some x) (hp : p x = true) : (A.take (k + 1)).all p = true := by
  obtain ⟨hi, rfl⟩ := List.getElem?_eq_some_iff.1 hx
  rw [List.take_succ_eq_append_getElem hi, List.all_append, h]
  simp [hp]
theorem arc_not {p : ArcD → Bool} {A : List ArcD} {k : Nat} {x : ArcD} (hx : A[k]? = some x) (hp : p x = false) : A.all p = false := by
  rw [List.all_eq_false]
  exact ⟨x, List.mem_of_getElem? hx, by simp [hp]⟩

set_option maxHeartbeats 1000000 in
theorem specNet_in (N : Int) (A : List ArcD) (v : Value) (b : Bool) (hN : 2 ≤ N ∧ N ≤ 1500) (hA : A.length ≤ 3200) (HB : Hid (A.all (arcOk N) = b)) (w : World) (hv : Arcs w v A) :
    Calls Tryd.prog 82 #[.agg #[.int .i64 N, v]] w (Made w (.bool b)) := by
  have hB := Below.refl (w.alloc (.cells #[.int .i64 N, v] 32)).heap.size (w.alloc (.cells #[.int .i64 N, v] 32))
  obtain ⟨c0, c1⟩ := net_cells hB
  obtain ⟨av, cv, rfl, HV⟩ := arcs_form hv
  have HVh := Lib.hid HV
  have HN1 : Hid (inV N 2 1500 = true) := Lib.hid (inV_iff.2 hN)
  have hwN : IntKind.i64.wrap (N - 1) = N - 1 := IntWalk.i64_in _ (by omega)
  have hA1 : ¬ (3200 : Int) < (A.length : Int) := by omega
  clear HV hv
  go_enter Tryd.func82, Tryd.ntmps82
  go_wp2_with (go_at_call 76; refine (l01In _ _ _ _ HN1 _).mono ?_; rintro e w' ⟨rfl, rfl⟩)
  go_loopw [3] (fun i wr => ∃ k : Nat, k ≤ A.length ∧ i = .int .i64 k ∧ Hid ((A.take k).all (arcOk N) = true) ∧ Below (w.alloc (.cells #[.int .i64 N, .slice av A.length cv] 32)).heap.size (w.alloc (.cells #[.int .i64 N, .slice av A.length cv] 32)) wr) (fun i _ => A.length - (intOf i).toNat)
  case atStart => exact ⟨0, Nat.zero_le _, rfl, Lib.hid rfl, hB⟩
  case round =>
    clear hB c0 c1
    obtain ⟨k, hk, rfl, HK, hB⟩ := hrel
    obtain ⟨c0, c1⟩ := net_cells hB
    by_cases hlt : k < A.length
    · obtain ⟨x, hx⟩ : ∃ x, A[k]? = some x := ⟨_, List.getElem?_eq_getElem hlt⟩
      rcases HVh.out with h0 | ⟨g, rfl, hgl, hc⟩
      · omega
      · obtain ⟨d0, d1, d2, d3⟩ := (hc k x hx)
        have e0 := ((below_box hB).cell (p := ⟨g, _, none⟩) hgl).trans d0
        have e1 := ((below_box hB).cell (p := ⟨g, _, none⟩) hgl).trans d1
        have e2 := ((below_box hB).cell (p := ⟨g, _, none⟩) hgl).trans d2
        have e3 := ((below_box hB).cell (p := ⟨g, _, none⟩) hgl).trans d3
        have hlt2 : (k : Int) < (A.length : Int) := by omega
        have hB2 := hB.alloc hB.size (.cells #[.int .i64 x.f, .int .i64 x.t, .int .i64 x.r, .int .i64 x.c] 72)
        have HB2 := Lib.hid hB2
        have HX := Lib.hid hx
        have b0 := (net_cells hB2).1
        clear d0 d1 d2 d3 hc hx hB2
        rcases arcOk_cases N x with ⟨hok, h1, h2, h3, h4, h5⟩ | ⟨hok, h1 | ⟨h1, h2⟩ | ⟨h1, h2, h3⟩ | ⟨h1, h2, h3, h4⟩ | ⟨h1, h2, h3, h4, h5⟩⟩
        · have H1 := Lib.hid h1
          have H2 := Lib.hid h2
          have H4 := Lib.hid h4
          have H5 := Lib.hid h5
          have HOK := Lib.hid hok
          have h3' : (x.f == x.t) = false := by simpa using h3
          clear h1 h2 h4 h5 hok h3
          go_wp2_with (go_at_call 76; refine (l01In _ _ _ _ (by assumption) _).mono ?_; rintro e w' ⟨rfl, rfl⟩)
          go_roundw
          case rel => exact ⟨k + 1, by omega, by go_num, Lib.hid (arc_all HK.out HX.out HOK.out), HB2.out⟩
          case measure => simp [intOf]; omega
        · have H1 := Lib.hid h1
          have e : b = false := by rw [← HB.out]; exact arc_not HX.out hok
          subst e
          clear h1 hok
          go_wp2_with (go_at_call 76; refine (l01In _ _ _ _ (by assumption) _).mono ?_; rintro e w' ⟨rfl, rfl⟩)
          go_ret
          exact ⟨rfl, below_box HB2.out⟩
        · have H1 := Lib.hid h1
          have H2 := Lib.hid h2
          have e : b = false := by rw [← HB.out]; exact arc_not HX.out hok
          subst e
          clear h1 h2 hok
          go_wp2_with (go_at_call 76; refine (l01In _ _ _ _ (by assumption) _).mono ?_; rintro e w' ⟨rfl, rfl⟩)
          go_ret
          exact ⟨rfl, below_box HB2.out⟩
        · have H1 := Lib.hid h1
          have H2 := Lib.hid h2
          have h3' : (x.f == x.t) = true := by simpa using h3
          have e : b = false := by rw [← HB.out]; exact arc_not HX.out hok
          subst e
          clear h1 h2 hok h3
          go_wp2_with (go_at_call 76; refine (l01In _ _ _ _ (by assumption) _).mono ?_; rintro e w' ⟨rfl, rfl⟩)
          go_ret
          exact ⟨rfl, below_box HB2.out⟩
        · have H1 := Lib.hid h1
          have H2 := Lib.hid h2
          have H4 := Lib.hid h4
          have h3' : (x.f == x.t) = false := by simpa using h3
          have e : b = false := by rw [← HB.out]; exact arc_not HX.out hok
          subst e
          clear h1 h2 hok h3 h4
          go_wp2_with (go_at_call 76; refine (l01In _ _ _ _ (by assumption) _).mono ?_; rintro e w' ⟨rfl, rfl⟩)
          go_ret
          exact ⟨rfl, below_box HB2.out⟩
        · have H1 := Lib.hid h1
          have H2 := Lib.hid h2
          have H4 := Lib.hid h4
          have H5 := Lib.hid h5
          have h3' : (x.f == x.t) = false := by simpa using h3
          have e : b = false := by rw [← HB.out]; exact arc_not HX.out hok
          subst e
          clear h1 h2 hok h3 h4 h5
          go_wp2_with (go_at_call 76; refine (l01In _ _ _ _ (by assumption) _).mono ?_; rintro e w' ⟨rfl, rfl⟩)
          go_ret
          exact ⟨rfl, below_box HB2.out⟩
    · obtain rfl : k = A.length := by omega
      have e : b = true := by rw [← HB.out, ← HK.out, List.take_length]
      subst e
      go_wp2_with fail
      go_ret
      exact ⟨rfl, below_box hB⟩

theorem specNetOk (N : Int) (A : List ArcD) (v : Value) (b : Bool) (HB : Hid (netOkV N A = b)) (w : World) (hl : A.length ≤ 9223372036854775807) (hv : Arcs w v A) :
    Calls Tryd.prog 82 #[.agg #[.int .i64 N, v]] w (Made w (.bool b)) := by
  by_cases hN : inV N 2 1500 = true
  · by_cases hA : A.length ≤ 3200
    · refine specNet_in N A v b (inV_iff.1 hN) hA (Lib.hid ?_) w hv
      rw [← HB.out]
      unfold netOkV
      rw [hN, decide_eq_true hA]
      rfl
    · have e : b = false := by
        rw [← HB.out]
        unfold netOkV
        rw [decide_eq_false hA]
        simp
      subst e
      have hB := Below.refl (w.alloc (.cells #[.int .i64 N, v] 32)).heap.size (w.alloc (.cells #[.int .i64 N, v] 32))
      obtain ⟨c0, c1⟩ := net_cells hB
      obtain ⟨av, cv, rfl, _⟩ := arcs_form hv
      have HN := Lib.hid hN
      have hA2 : (3200 : Int) < (A.length : Int) := by omega
      clear hN hv
      go_enter Tryd.func82, Tryd.ntmps82
      go_wp2_with (go_at_call 76; refine (l01In _ _ _ _ (by assumption) _).mono ?_; rintro e w' ⟨rfl, rfl⟩)
      go_ret
      exact ⟨rfl, below_box hB⟩
  · have e : b = false := by
      rw [← HB.out]
      unfold netOkV
      rw [(by simpa using hN : inV N 2 1500 = false)]
      rfl
    subst e
    have HN : Hid (inV N 2 1500 = false) := Lib.hid (by simpa using hN)
    have hB := Below.refl (w.alloc (.cells #[.int .i64 N, v] 32)).heap.size (w.alloc (.cells #[.int .i64 N, v] 32))
    obtain ⟨c0, c1⟩ := net_cells hB
    obtain ⟨av, cv, rfl, _⟩ := arcs_form hv
    clear hN hv
    go_enter Tryd.func82, Tryd.ntmps82
    go_wp2_with (go_at_call 76; refine (l01In _ _ _ _ (by assumption) _).mono ?_; rintro e w' ⟨rfl, rfl⟩)
    go_ret
    exact ⟨rfl, below_box hB⟩

end Go.Proofs.YtlkhecdlmbhiaaaDoor

namespace Go.Proofs.YtlkhecdlmbhiaaaDoor
set_option maxRecDepth 4096
open Go.ChangeShapes Go.WideShapes Go.ChangeAt Go.RowKit

theorem implWithin (x lo hi : Int) (b : Bool) (HB : Hid (inV x lo hi = b)) (w : World) :
    Calls Tryd.prog 43 #[.int .i64 x, .int .i64 lo, .int .i64 hi] w fun e w' => e = .returned (.bool b) ∧ w = w' := by
  by_cases h1 : lo ≤ x
  · by_cases h2 : x ≤ hi
    · have e : b = true := by rw [← HB.out]; exact inV_iff.2 ⟨h1, h2⟩
      subst e
      go_enter Tryd.func43, Tryd.ntmps43
      go_wp2
      go_ret
      exact ⟨rfl, rfl⟩
    · have e : b = false := by
        rw [← HB.out]
        cases h : inV x lo hi with
        | false => rfl
        | true => exact absurd (inV_iff.1 h).2 h2
      subst e
      go_enter Tryd.func43, Tryd.ntmps43
      go_wp2
      go_ret
      exact ⟨rfl, rfl⟩
  · have e : b = false := by
      rw [← HB.out]
      cases h : inV x lo hi with
      | false => rfl
      | true => exact absurd (inV_iff.1 h).1 h1
    subst e
    go_enter Tryd.func43, Tryd.ntmps43
    go_wp2
    go_ret
    exact ⟨rfl, rfl⟩

/-- The cells of an arc in a box of its own. -/
theorem arc_cells (w : World) (x : ArcD) (t : TypeId) : (w.alloc (.cells #[.int .i64 x.f, .int .i64 x.t, .int .i64 x.r, .int .i64 x.c] t)).cell? ⟨w.heap.size, 0, none⟩ = some (.int .i64 x.f) ∧
    (w.alloc (.cells #[.int .i64 x.f, .int .i64 x.t, .int .i64 x.r, .int .i64 x.c] t)).cell? ⟨w.heap.size, 1, none⟩ = some (.int .i64 x.t) ∧
    (w.alloc (.cells #[.int .i64 x.f, .int .i64 x.t, .int .i64 x.r, .int .i64 x.c] t)).cell? ⟨w.heap.size, 2, none⟩ = some (.int .i64 x.r) ∧
    (w.alloc (.cells #[.int .i64 x.f, .int .i64 x.t, .int .i64 x.r, .int .i64 x.c] t)).cell? ⟨w.heap.size, 3, none⟩ = some (.int .i64 x.c) := by
  refine ⟨?_, ?_, ?_, ?_⟩ <;> rw [cell_of_row _ _ _ _ _ _ (heap_alloc_new w _)] <;> rfl

set_option maxHeartbeats 1000000 in
theorem implArcOk (x : ArcD) (N : Int) (b : Bool) (hN : 2 ≤ N ∧ N ≤ 1500) (HB : Hid (arcOk N x = b)) (w : World) :
    Calls Tryd.prog 44 #[arcV x, .int .i64 N] w (Made w (.bool b)) := by
  obtain ⟨c0, c1, c2, c3⟩ := arc_cells w x 72
  have hB := Lib.hid ((Below.refl w.heap.size w).alloc (Nat.le_refl _) (.cells #[.int .i64 x.f, .int .i64 x.t, .int .i64 x.r, .int .i64 x.c] 72))
  have hwN : IntKind.i64.wrap (N - 1) = N - 1 := IntWalk.i64_in _ (by omega)
  unfold arcV
  rcases arcOk_cases N x with ⟨hok, h1, h2, h3, h4, h5⟩ | ⟨hok, h1 | ⟨h1, h2⟩ | ⟨h1, h2, h3⟩ | ⟨h1, h2, h3, h4⟩ | ⟨h1, h2, h3, h4, h5⟩⟩
  · have e : b = true := by rw [← HB.out]; exact hok
    subst e
    have H1 := Lib.hid h1
    have H2 := Lib.hid h2
    have H4 := Lib.hid h4
    have H5 := Lib.hid h5
    have h3' : (x.f != x.t) = true := by simpa using h3
    clear h1 h2 h4 h5 hok h3
    go_enter Tryd.func44, Tryd.ntmps44
    go_wp2_with (go_at_call 43; refine (implWithin _ _ _ _ (by assumption) _).mono ?_; rintro e w' ⟨rfl, rfl⟩)
    go_ret
    exact ⟨rfl, hB.out⟩
  · have H1 := Lib.hid h1
    have e : b = false := by rw [← HB.out]; exact hok
    subst e
    clear h1 hok
    go_enter Tryd.func44, Tryd.ntmps44
    go_wp2_with (go_at_call 43; refine (implWithin _ _ _ _ (by assumption) _).mono ?_; rintro e w' ⟨rfl, rfl⟩)
    go_ret
    exact ⟨rfl, hB.out⟩
  · have H1 := Lib.hid h1
    have H2 := Lib.hid h2
    have e : b = false := by rw [← HB.out]; exact hok
    subst e
    clear h1 h2 hok
    go_enter Tryd.func44, Tryd.ntmps44
    go_wp2_with (go_at_call 43; refine (implWithin _ _ _ _ (by assumption) _).mono ?_; rintro e w' ⟨rfl, rfl⟩)
    go_ret
    exact ⟨rfl, hB.out⟩
  · have H1 := Lib.hid h1
    have H2 := Lib.hid h2
    have h3' : (x.f != x.t) = false := by simpa using h3
    have e : b = false := by rw [← HB.out]; exact hok
    subst e
    clear h1 h2 hok h3
    go_enter Tryd.func44, Tryd.ntmps44
    go_wp2_with (go_at_call 43; refine (implWithin _ _ _ _ (by assumption) _).mono ?_; rintro e w' ⟨rfl, rfl⟩)
    go_ret
    exact ⟨rfl, hB.out⟩
  · have H1 := Lib.hid h1
    have H2 := Lib.hid h2
    have H4 := Lib.hid h4
    have h3' : (x.f != x.t) = true := by simpa using h3
    have e : b = false := by rw [← HB.out]; exact hok
    subst e
    clear h1 h2 hok h3 h4
    go_enter Tryd.func44, Tryd.ntmps44
    go_wp2_with (go_at_call 43; refine (implWithin _ _ _ _ (by assumption) _).mono ?_; rintro e w' ⟨rfl, rfl⟩)
    go_ret
    exact ⟨rfl, hB.out⟩
  · have H1 := Lib.hid h1
    have H2 := Lib.hid h2
    have H4 := Lib.hid h4
    have H5 := Lib.hid h5
    have h3' : (x.f != x.t) = true := by simpa using h3
    have e : b = false := by rw [← HB.out]; exact hok
    subst e
    clear h1 h2 hok h3 h4 h5
    go_enter Tryd.func44, Tryd.ntmps44
    go_wp2_with (go_at_call 43; refine (implWithin _ _ _ _ (by assumption) _).mono ?_; rintro e w' ⟨rfl, rfl⟩)
    go_ret
    exact ⟨rfl, hB.out⟩

set_option maxHeartbeats 1000000 in
theorem implNet_in (N : Int) (A : List ArcD) (v : Value) (b : Bool) (hN : 2 ≤ N ∧ N ≤ 1500) (hA : A.length ≤ 3200) (HB : Hid (A.all (arcOk N) = b)) (w : World) (hv : Arcs w v A) :
    Calls Tryd.prog 13 #[.agg #[.int .i64 N, v]] w (Made w (.bool b)) := by
  have hB := Below.refl (w.alloc (.cells #[.int .i64 N, v] 32)).heap.size (w.alloc (.cells #[.int .i64 N, v] 32))
  obtain ⟨c0, c1⟩ := net_cells hB
  obtain ⟨av, cv, rfl, HV⟩ := arcs_form hv
  have HVh := Lib.hid HV
  have HN1 : Hid (inV N 2 1500 = true) := Lib.hid (inV_iff.2 hN)
  have hA1 : ¬ (3200 : Int) < (A.length : Int) := by omega
  clear HV hv
  go_enter Tryd.func13, Tryd.ntmps13
  go_wp2_with (go_at_call 43; refine (implWithin _ _ _ _ HN1 _).mono ?_; rintro e w' ⟨rfl, rfl⟩)
  go_loopw [18] (fun i wr => ∃ k : Nat, k ≤ A.length ∧ i = .int .i64 k ∧ Hid ((A.take k).all (arcOk N) = true) ∧ Below (w.alloc (.cells #[.int .i64 N, .slice av A.length cv] 32)).heap.size (w.alloc (.cells #[.int .i64 N, .slice av A.length cv] 32)) wr) (fun i _ => A.length - (intOf i).toNat)
  case atStart => exact ⟨0, Nat.zero_le _, rfl, Lib.hid rfl, hB⟩
  case round =>
    clear hB c0 c1
    obtain ⟨k, hk, rfl, HK, hB⟩ := hrel
    obtain ⟨c0, c1⟩ := net_cells hB
    by_cases hlt : k < A.length
    · obtain ⟨x, hx⟩ : ∃ x, A[k]? = some x := ⟨_, List.getElem?_eq_getElem hlt⟩
      rcases HVh.out with h0 | ⟨g, rfl, hgl, hc⟩
      · omega
      · obtain ⟨d0, d1, d2, d3⟩ := (hc k x hx)
        have e0 := ((below_box hB).cell (p := ⟨g, _, none⟩) hgl).trans d0
        have e1 := ((below_box hB).cell (p := ⟨g, _, none⟩) hgl).trans d1
        have e2 := ((below_box hB).cell (p := ⟨g, _, none⟩) hgl).trans d2
        have e3 := ((below_box hB).cell (p := ⟨g, _, none⟩) hgl).trans d3
        have hlt2 : (k : Int) < (A.length : Int) := by omega
        have hB2 := hB.alloc hB.size (.cells #[.int .i64 x.f, .int .i64 x.t, .int .i64 x.r, .int .i64 x.c] 72)
        have HB2 := Lib.hid hB2
        have HX := Lib.hid hx
        have b0 := (net_cells hB2).1
        obtain ⟨q, hq⟩ : ∃ q, Hid (arcOk N x = q) := ⟨_, rfl⟩
        clear d0 d1 d2 d3 hc hx hB2
        cases q with
        | true =>
          go_wp2_with (go_at_call 44; refine (implArcOk x N true hN hq _).mono ?_; rintro e w' ⟨rfl, hb⟩; have HB3 := Lib.hid (next_below HB2.out hb); clear hb)
          go_roundw
          case rel => exact ⟨k + 1, by omega, by go_num, Lib.hid (arc_all HK.out HX.out hq.out), HB3.out⟩
          case measure => simp [intOf]; omega
        | false =>
          have e : b = false := by rw [← HB.out]; exact arc_not HX.out hq.out
          subst e
          go_wp2_with (go_at_call 44; refine (implArcOk x N false hN hq _).mono ?_; rintro e w' ⟨rfl, hb⟩; have HB3 := Lib.hid (next_below HB2.out hb); clear hb)
          go_ret
          exact ⟨rfl, below_box HB3.out⟩
    · obtain rfl : k = A.length := by omega
      have e : b = true := by rw [← HB.out, ← HK.out, List.take_length]
      subst e
      go_wp2_with fail
      go_ret
      exact ⟨rfl, below_box hB⟩

theorem implNetOk (N : Int) (A : List ArcD) (v : Value) (b : Bool) (HB : Hid (netOkV N A = b)) (w : World) (hl : A.length ≤ 2000000) (hv : Arcs w v A) :
    Calls Tryd.prog 13 #[.agg #[.int .i64 N, v]] w (Made w (.bool b)) := by
  by_cases hN : inV N 2 1500 = true
  · by_cases hA : A.length ≤ 3200
    · refine implNet_in N A v b (inV_iff.1 hN) hA (Lib.hid ?_) w hv
      rw [← HB.out]
      unfold netOkV
      rw [hN, decide_eq_true hA]
      rfl
    · have e : b = false := by
        rw [← HB.out]
        unfold netOkV
        rw [decide_eq_false hA]
        simp
      subst e
      have hB := Below.refl (w.alloc (.cells #[.int .i64 N, v] 32)).heap.size (w.alloc (.cells #[.int .i64 N, v] 32))
      obtain ⟨c0, c1⟩ := net_cells hB
      obtain ⟨av, cv, rfl, _⟩ := arcs_form hv
      have HN := Lib.hid hN
      have hA2 : (3200 : Int) < (A.length : Int) := by omega
      clear hN hv
      go_enter Tryd.func13, Tryd.ntmps13
      go_wp2_with (go_at_call 43; refine (implWithin _ _ _ _ (by assumption) _).mono ?_; rintro e w' ⟨rfl, rfl⟩)
      go_ret
      exact ⟨rfl, below_box hB⟩
  · have e : b = false := by
      rw [← HB.out]
      unfold netOkV
      rw [(by simpa using hN : inV N 2 1500 = false)]
      rfl
    subst e
    have HN : Hid (inV N 2 1500 = false) := Lib.hid (by simpa using hN)
    have hB := Below.refl (w.alloc (.cells #[.int .i64 N, v] 32)).heap.size (w.alloc (.cells #[.int .i64 N, v] 32))
    obtain ⟨c0, c1⟩ := net_cells hB
    obtain ⟨av, cv, rfl, _⟩ := arcs_form hv
    clear hN hv
    go_enter Tryd.func13, Tryd.ntmps13
    go_wp2_with (go_at_call 43; refine (implWithin _ _ _ _ (by assumption) _).mono ?_; rintro e w' ⟨rfl, rfl⟩)
    go_ret
    exact ⟨rfl, below_box hB⟩

end Go.Proofs.YtlkhecdlmbhiaaaDoor

