/-
  CONTRACTS of the program's within, arcOk, NetOk. No law is proved here.
  CONTRACT of spec.l06Out: what goes out of each node less what comes in. No law is proved here.
-/
import Derived.Test.YtnbbhdbcapfbkaaDoorZFF17
import Derived.Test.YtnbbhdbcapfbkaaDoorZFF01
import Derived.Test.YtnbbhdbcapfbkaaDoorZFF03
import Derived.Test.YtnbbhdbcapfbkaaDoorZFF00
import Derived.StillTailTactics
namespace Go.Proofs.YtnbbhdbcapfbkaaDoor
set_option maxRecDepth 4096
open Go.ChangeShapes Go.WideShapes Go.ChangeAt Go.RowKit

theorem implWithin (x lo hi : Int) (b : Bool) (HB : Hid (inV x lo hi = b)) (w : World) :
    Calls Tryd.prog 49 #[.int .i64 x, .int .i64 lo, .int .i64 hi] w fun e w' => e = .returned (.bool b) ∧ w = w' := by
  by_cases h1 : lo ≤ x
  · by_cases h2 : x ≤ hi
    · have e : b = true := by rw [← HB.out]; exact inV_iff.2 ⟨h1, h2⟩
      subst e
      go_enter Tryd.func49, Tryd.ntmps49
      go_wp2
      go_ret
      exact ⟨rfl, rfl⟩
    · have e : b = false := by
        rw [← HB.out]
        cases h : inV x lo hi with
        | false => rfl
        | true => exact absurd (inV_iff.1 h).2 h2
      subst e
      go_enter Tryd.func49, Tryd.ntmps49
      go_wp2
      go_ret
      exact ⟨rfl, rfl⟩
  · have e : b = false := by
      rw [← HB.out]
      cases h : inV x lo hi with
      | false => rfl
      | true => exact absurd (inV_iff.1 h).1 h1
    subst e
    go_enter Tryd.func49, Tryd.ntmps49
    go_wp2
    go_ret
    exact ⟨rfl, rfl⟩

/-- The cells of an arc in a box of its own. -/
theorem arc_cells (w : World) (x : ArcD) (t : TypeId) : (w.alloc (.cells #[.int .i64 x.f, .int .i64 x.t, .int .i64 x.r, .int .i64 x.c] t)).cell? ⟨w.heap.size, 0, none⟩ = some (.int .i64 x.f) ∧
    (w.alloc (.cells #[.int .i64 x.f, .int .i64 x.t, .int .i64 x.r, .int .i64 x.c] t)).cell? ⟨w.heap.size, 1, none⟩ = some (.int .i64 x.t) ∧
    (w.alloc (.cells #[.int .i64 x.f, .int .i64 x.t, .int .i64 x.r, .int .i64 x.c] t)).cell? ⟨w.heap.size, 2, none⟩ = some (.int .i64 x.r) ∧
    (w.alloc (.cells #[.int .i64 x.f, .int .i64 x.t, .int .i64 x.r, .int .i64 x.c] t)).cell? ⟨w.heap.size, 3, none⟩ = some (.int .i64 x.c) := by
  refine ⟨?_, ?_, ?_, ?_⟩ <;> rw [cell_of_row _ _ _ _ _ _ (heap_alloc_new w _)] <;> rfl

set_option maxHeartbeats 1000000 in
theorem implArcOk (x : ArcD) (N : Int) (b : Bool) (hN : 2 ≤ N ∧ N ≤ 1500) (HB : Hid (arcOk N x = b)) (w : World) :
    Calls Tryd.prog 68 #[arcV x, .int .i64 N] w (Made w (.bool b)) := by
  obtain ⟨c0, c1, c2, c3⟩ := arc_cells w x 62
  have hB := Lib.hid ((Below.refl w.heap.size w).alloc (Nat.le_refl _) (.cells #[.int .i64 x.f, .int .i64 x.t, .int .i64 x.r, .int .i64 x.c] 62))
  have hwN : IntKind.i64.wrap (N - 1) = N - 1 := IntWalk.i64_in _ (by omega)
  unfold arcV
  rcases arcOk_cases N x with ⟨hok, h1, h2, h3, h4, h5⟩ | ⟨hok, h1 | ⟨h1, h2⟩ | ⟨h1, h2, h3⟩ | ⟨h1, h2, h3, h4⟩ | ⟨h1, h2, h3, h4, h5⟩⟩
  · have e : b = true := by rw [← HB.out]; exact hok
    subst e
    have H1 := Lib.hid h1
    have H2 := Lib.hid h2
    have H4 := Lib.hid h4
    have H5 := Lib.hid h5
    have h3' : (x.f != x.t) = true := by simpa using h3
    clear h1 h2 h4 h5 hok h3
    go_enter Tryd.func68, Tryd.ntmps68
    go_wp2_with (go_at_call 49; refine (implWithin _ _ _ _ (by assumption) _).mono ?_; rintro e w' ⟨rfl, rfl⟩)
    go_ret
    exact ⟨rfl, hB.out⟩
  · have H1 := Lib.hid h1
    have e : b = false := by rw [← HB.out]; exact hok
    subst e
    clear h1 hok
    go_enter Tryd.func68, Tryd.ntmps68
    go_wp2_with (go_at_call 49; refine (implWithin _ _ _ _ (by assumption) _).mono ?_; rintro e w' ⟨rfl, rfl⟩)
    go_ret
    exact ⟨rfl, hB.out⟩
  · have H1 := Lib.hid h1
    have H2 := Lib.hid h2
    have e : b = false := by rw [← HB.out]; exact hok
    subst e
    clear h1 h2 hok
    go_enter Tryd.func68, Tryd.ntmps68
    go_wp2_with (go_at_call 49; refine (implWithin _ _ _ _ (by assumption) _).mono ?_; rintro e w' ⟨rfl, rfl⟩)
    go_ret
    exact ⟨rfl, hB.out⟩
  · have H1 := Lib.hid h1
    have H2 := Lib.hid h2
    have h3' : (x.f != x.t) = false := by simpa using h3
    have e : b = false := by rw [← HB.out]; exact hok
    subst e
    clear h1 h2 hok h3
    go_enter Tryd.func68, Tryd.ntmps68
    go_wp2_with (go_at_call 49; refine (implWithin _ _ _ _ (by assumption) _).mono ?_; rintro e w' ⟨rfl, rfl⟩)
    go_ret
    exact ⟨rfl, hB.out⟩
  · have H1 := Lib.hid h1
    have H2 := Lib.hid h2
    have H4 := Lib.hid h4
    have h3' : (x.f != x.t) = true := by simpa using h3
    have e : b = false := by rw [← HB.out]; exact hok
    subst e
    clear h1 h2 hok h3 h4
    go_enter Tryd.func68, Tryd.ntmps68
    go_wp2_with (go_at_call 49; refine (implWithin _ _ _ _ (by assumption) _).mono ?_; rintro e w' ⟨rfl, rfl⟩)
    go_ret
    exact ⟨rfl, hB.out⟩
  · have H1 := Lib.hid h1
    have H2 := Lib.hid h2
    have H4 := Lib.hid h4
    have H5 := Lib.hid h5
    have h3' : (x.f != x.t) = true := by simpa using h3
    have e : b = false := by rw [← HB.out]; exact hok
    subst e
    clear h1 h2 hok h3 h4 h5
    go_enter Tryd.func68, Tryd.ntmps68
    go_wp2_with (go_at_call 49; refine (implWithin _ _ _ _ (by assumption) _).mono ?_; rintro e w' ⟨rfl, rfl⟩)
    go_ret
    exact ⟨rfl, hB.out⟩

set_option maxHeartbeats 1000000 in
theorem implNet_in (N : Int) (A : List ArcD) (v : Value) (b : Bool) (hN : 2 ≤ N ∧ N ≤ 1500) (hA : A.length ≤ 3200) (HB : Hid (A.all (arcOk N) = b)) (w : World) (hv : Arcs w v A) :
    Calls Tryd.prog 48 #[.agg #[.int .i64 N, v]] w (Made w (.bool b)) := by
  have hB := Below.refl (w.alloc (.cells #[.int .i64 N, v] 45)).heap.size (w.alloc (.cells #[.int .i64 N, v] 45))
  obtain ⟨c0, c1⟩ := net_cells hB
  obtain ⟨av, cv, rfl, HV⟩ := arcs_form hv
  have HVh := Lib.hid HV
  have HN1 : Hid (inV N 2 1500 = true) := Lib.hid (inV_iff.2 hN)
  have hA1 : ¬ (3200 : Int) < (A.length : Int) := by omega
  clear HV hv
  go_enter Tryd.func48, Tryd.ntmps48
  go_wp2_with (go_at_call 49; refine (implWithin _ _ _ _ HN1 _).mono ?_; rintro e w' ⟨rfl, rfl⟩)
  go_loopw [18] (fun i wr => ∃ k : Nat, k ≤ A.length ∧ i = .int .i64 k ∧ Hid ((A.take k).all (arcOk N) = true) ∧ Below (w.alloc (.cells #[.int .i64 N, .slice av A.length cv] 45)).heap.size (w.alloc (.cells #[.int .i64 N, .slice av A.length cv] 45)) wr) (fun i _ => A.length - (intOf i).toNat)
  case atStart => exact ⟨0, Nat.zero_le _, rfl, Lib.hid rfl, hB⟩
  case round =>
    clear hB c0 c1
    obtain ⟨k, hk, rfl, HK, hB⟩ := hrel
    obtain ⟨c0, c1⟩ := net_cells hB
    by_cases hlt : k < A.length
    · obtain ⟨x, hx⟩ : ∃ x, A[k]? = some x := ⟨_, List.getElem?_eq_getElem hlt⟩
      rcases HVh.out with h0 | ⟨g, rfl, hgl, hc⟩
      · omega
      · obtain ⟨d0, d1, d2, d3⟩ := (hc k x hx)
        have e0 := ((below_box hB).cell (p := ⟨g, _, none⟩) hgl).trans d0
        have e1 := ((below_box hB).cell (p := ⟨g, _, none⟩) hgl).trans d1
        have e2 := ((below_box hB).cell (p := ⟨g, _, none⟩) hgl).trans d2
        have e3 := ((below_box hB).cell (p := ⟨g, _, none⟩) hgl).trans d3
        have hlt2 : (k : Int) < (A.length : Int) := by omega
        have hB2 := hB.alloc hB.size (.cells #[.int .i64 x.f, .int .i64 x.t, .int .i64 x.r, .int .i64 x.c] 62)
        have HB2 := Lib.hid hB2
        have HX := Lib.hid hx
        have b0 := (net_cells hB2).1
        obtain ⟨q, hq⟩ : ∃ q, Hid (arcOk N x = q) := ⟨_, rfl⟩
        clear d0 d1 d2 d3 hc hx hB2
        cases q with
        | true =>
          go_wp2_with (go_at_call 68; refine (implArcOk x N true hN hq _).mono ?_; rintro e w' ⟨rfl, hb⟩; have HB3 := Lib.hid (next_below HB2.out hb); clear hb)
          go_roundw
          case rel => exact ⟨k + 1, by omega, by go_num, Lib.hid (arc_all HK.out HX.out hq.out), HB3.out⟩
          case measure => simp [intOf]; omega
        | false =>
          have e : b = false := by rw [← HB.out]; exact arc_not HX.out hq.out
          subst e
          go_wp2_with (go_at_call 68; refine (implArcOk x N false hN hq _).mono ?_; rintro e w' ⟨rfl, hb⟩; have HB3 := Lib.hid (next_below HB2.out hb); clear hb)
          go_ret
          exact ⟨rfl, below_box HB3.out⟩
    · obtain rfl : k = A.length := by omega
      have e : b = true := by rw [← HB.out, ← HK.out, List.take_length]
      subst e
      go_wp2_with fail
      go_ret
      exact ⟨rfl, below_box hB⟩

theorem implNetOk (N : Int) (A : List ArcD) (v : Value) (b : Bool) (HB : Hid (netOkV N A = b)) (w : World) (hl : A.length ≤ 2000000) (hv : Arcs w v A) :
    Calls Tryd.prog 48 #[.agg #[.int .i64 N, v]] w (Made w (.bool b)) := by
  by_cases hN : inV N 2 1500 = true
  · by_cases hA : A.length ≤ 3200
    · refine implNet_in N A v b (inV_iff.1 hN) hA (Lib.hid ?_) w hv
      rw [← HB.out]
      unfold netOkV
      rw [hN, decide_eq_true hA]
      rfl
    · have e : b = false := by
        rw [← HB.out]
        unfold netOkV
        rw [decide_eq_false hA]
        simp
      subst e
      have hB := Below.refl (w.alloc (.cells #[.int .i64 N, v] 45)).heap.size (w.alloc (.cells #[.int .i64 N, v] 45))
      obtain ⟨c0, c1⟩ := net_cells hB
      obtain ⟨av, cv, rfl, _⟩ := arcs_form hv
      have HN := Lib.hid hN
      have hA2 : (3200 : Int) < (A.length : Int) := by omega
      clear hN hv
      go_enter Tryd.func48, Tryd.ntmps48
      go_wp2_with (go_at_call 49; refine (implWithin _ _ _ _ (by assumption) _).mono ?_; rintro e w' ⟨rfl, rfl⟩)
      go_ret
      exact ⟨rfl, below_box hB⟩
  · have e : b = false := by
      rw [← HB.out]
      unfold netOkV
      rw [(by simpa using hN : inV N 2 1500 = false)]
      rfl
    subst e
    have HN : Hid (inV N 2 1500 = false) := Lib.hid (by simpa using hN)
    have hB := Below.refl (w.alloc (.cells #[.int .i64 N, v] 45)).heap.size (w.alloc (.cells #[.int .i64 N, v] 45))
    obtain ⟨c0, c1⟩ := net_cells hB
    obtain ⟨av, cv, rfl, _⟩ := arcs_form hv
    clear hN hv
    go_enter Tryd.func48, Tryd.ntmps48
    go_wp2_with (go_at_call 49; refine (implWithin _ _ _ _ (by assumption) _).mono ?_; rintro e w' ⟨rfl, rfl⟩)
    go_ret
    exact ⟨rfl, below_box hB⟩

end Go.Proofs.YtnbbhdbcapfbkaaDoor

namespace Go.Proofs.YtnbbhdbcapfbkaaDoor
set_option maxRecDepth 4096
open Go.ChangeShapes Go.WideShapes Go.ChangeAt Go.RowKit

/-- The excess while an arc's flow is laid: first its start, then its end. -/
def halfO (o : Nat → Int) (x : ArcD) (y : Int) (v : Nat) : Int := o v + if x.f = (v : Int) then y else 0
theorem half_at {o : Nat → Int} {x : ArcD} {y : Int} {a : Nat} (h : x.f = a) : halfO o x y a = o a + y := by unfold halfO; rw [if_pos h]
theorem half_other {o : Nat → Int} {x : ArcD} {y : Int} {a : Nat} (h : x.f = a) : ∀ j, j ≠ a → halfO o x y j = o j := fun j hj => by
  unfold halfO
  rw [if_neg (by rw [h]; omega)]
  omega
theorem full_at {o : Nat → Int} {x : ArcD} {y : Int} {b : Nat} (h : x.t = b) : o b + outAt x y b = halfO o x y b - y := by
  unfold halfO outAt
  rw [if_pos (c := x.t = (b : Int)) h]
  omega
theorem full_other {o : Nat → Int} {x : ArcD} {y : Int} {b : Nat} (h : x.t = b) : ∀ j, j ≠ b → o j + outAt x y j = halfO o x y j := fun j hj => by
  unfold halfO outAt
  rw [if_neg (c := x.t = (j : Int)) (by rw [h]; omega)]
  omega

theorem own_drew1 {w : World} {B : Nat} {e : TypeId} {size : Nat} {v : Value} {n : Nat} {xs : List Value} (h : w.ownsRow B e size v n xs) : w.drew.ownsRow B e size v n xs := h
theorem made_row0 {w1 : World} {B : Nat} {g n : Nat} (h : w1.ownsRow B 3 1 (.slice (some ⟨g, 0, none⟩) n n) n (madeCells (Value.int .i64 0).cells (n * 1)).toList) :
    w1.ownsRow B 3 1 (.slice (some ⟨g, 0, none⟩) n n) n ((rowO (netO []) n).map (Value.int .i64)) := by
  have e : (madeCells (Value.int .i64 0).cells (n * 1)).toList = (rowO (netO []) n).map (Value.int .i64) := by
    rw [Nat.mul_one]
    exact (toList_madeCells_one _ _).trans (rowO_const0 0 n)
  rwa [e] at h

set_option maxHeartbeats 1000000 in
theorem specOut (n : Nat) (A : List ArcD) (F : List Int) (R : List Int) (v vf : Value) (hn : n ≤ 1500) (hok : ∀ x ∈ A, arcOk (n : Int) x = true) (hA : A.length ≤ 3200) (hF : F.length = A.length) (hP : ∀ p ∈ A.zip F, 0 ≤ p.2 ∧ p.2 ≤ 20) (HR : Hid (rowO (netO (A.zip F)) n = R)) (w : World) (hv : Arcs w v A) (hf : Ints w vf F) :
    Calls Tryd.prog 56 #[.agg #[.int .i64 (n : Int), v], vf] w (IntsBack w R) := by
  obtain ⟨i0, hi, hz0, hz1, hz2⟩ := info_parts Tryd.info3
  have hB := Below.refl (w.alloc (.cells #[.int .i64 (n : Int), v] 45)).heap.size (w.alloc (.cells #[.int .i64 (n : Int), v] 45))
  obtain ⟨c0, c1⟩ := net_cells hB
  obtain ⟨av, cv, rfl, HV⟩ := arcs_form hv
  obtain ⟨af, cf, rfl, HF⟩ := ints_form hf
  have HVh := Lib.hid HV
  have HFh := Lib.hid HF
  have HOK := Lib.hid hok
  have HP := Lib.hid hP
  clear HV hv HF hf hok hP
  go_enter Tryd.func56, Tryd.ntmps56
  go_wp2_with (at_make; go_loud (refine wpList_make_full _ rfl (.tmp 8) (.tmp 8) 24 rfl _ 3 i0 (.int .i64 0) 1 Tryd.underlying24 hi hz0 hz1 .i64 .i64 n n n rfl rfl rfl rfl (by rw [hz2]; omega) (by unfold maxLen; omega) (Nat.le_refl _) ?_); intro w1 hrow hg1; go_loud (have hB1 := hB.grown hg1 hB.size (fun j hj => (by cases hj))); go_loud (have hrow1 := made_row0 hrow); have HR1 := Lib.hid hrow1; have HB1 := Lib.hid hB1; clear hrow hrow1 hg1 hB1)
  clear hB c0 c1
  go_loopw [6] (fun i wr => ∃ k : Nat, k ≤ F.length ∧ i = .int .i64 k ∧ wr.ownsRow (w.heap.size + 1) 3 1 (.slice (some ⟨w.heap.size + 1, 0, none⟩) n n) n ((rowO (netO ((A.zip F).take k)) n).map (Value.int .i64)) ∧ Below (w.alloc (.cells #[.int .i64 (n : Int), .slice av A.length cv] 45)).heap.size (w.alloc (.cells #[.int .i64 (n : Int), .slice av A.length cv] 45)) wr) (fun i _ => F.length - (intOf i).toNat)
  case atStart => exact ⟨0, Nat.zero_le _, rfl, by simpa using HR1.out, HB1.out⟩
  case round =>
    clear HR1 HB1
    obtain ⟨k, hk, rfl, hrow, hB⟩ := hrel
    obtain ⟨c0, c1⟩ := net_cells hB
    by_cases hlt : k < F.length
    · obtain ⟨y, hy⟩ : ∃ y, F[k]? = some y := ⟨_, List.getElem?_eq_getElem hlt⟩
      obtain ⟨x, hx⟩ : ∃ x, A[k]? = some x := ⟨_, List.getElem?_eq_getElem (by omega)⟩
      have hz := zip_at hx hy
      obtain ⟨⟨hf0, hf1⟩, ⟨ht0, ht1⟩, hne, _, _⟩ := arcOk_out (HOK.out x (List.mem_of_getElem? hx))
      have hyb := HP.out _ (List.mem_of_getElem? hz)
      obtain ⟨a, ha⟩ : ∃ a : Nat, x.f = a := ⟨x.f.toNat, by omega⟩
      obtain ⟨b, hb⟩ : ∃ b : Nat, x.t = b := ⟨x.t.toNat, by omega⟩
      have han : a < n := by omega
      have hbn : b < n := by omega
      have hob := netO_bound (P := (A.zip F).take k) (fun p hp => HP.out p (List.mem_of_mem_take hp)) 
      have hzl : ((A.zip F).take k).length ≤ 3200 := by rw [List.length_take, List.length_zip]; omega
      rcases HVh.out with h0 | ⟨g, rfl, hgl, hc⟩
      · omega
      · rcases HFh.out with h0 | ⟨gf, rfl, hgf, hcf⟩
        · omega
        · obtain ⟨d0, d1, _, _⟩ := hc k x hx
          have e0 := ((below_box hB).cell (p := ⟨g, _, none⟩) hgl).trans d0
          have e1 := ((below_box hB).cell (p := ⟨g, _, none⟩) hgl).trans d1
          have e2 := ((below_box hB).cell (p := ⟨gf, _, none⟩) hgf).trans (hcf k y hy)
          rw [ha] at e0
          rw [hb] at e1
          have r0 := own_num hrow han
          have hoa := hob a
          have w0 : IntKind.i64.wrap (netO ((A.zip F).take k) a + y) = netO ((A.zip F).take k) a + y := IntWalk.i64_in _ (by omega)
          have hlt2 : (k : Int) < (F.length : Int) := by omega
          have hlt3 : (k : Int) < (A.length : Int) := by omega
          have hlt4 : k < A.length := by omega
          have han2 : (a : Int) < (n : Int) := by omega
          have hbn2 : (b : Int) < (n : Int) := by omega
          obtain ⟨hs1, hg1⟩ := hrow.stored a (.int .i64 (netO ((A.zip F).take k) a + y))
          have f0 := hrow.frozenAt a
          rw [rowO_put (half_at (o := netO ((A.zip F).take k)) (y := y) ha) (half_other ha)] at hs1
          have hB1 : Below (w.alloc (.cells #[.int .i64 (n : Int), .slice (some ⟨g, 0, none⟩) A.length cv] 45)).heap.size (w.alloc (.cells #[.int .i64 (n : Int), .slice (some ⟨g, 0, none⟩) A.length cv] 45)) (wr.setCell ⟨w.heap.size + 1, a, none⟩ (.int .i64 (netO ((A.zip F).take k) a + y))) :=
            hB.grown hg1 hB.size (fun j hj => by cases hj; simp)
          have hhb : halfO (netO ((A.zip F).take k)) x y b = netO ((A.zip F).take k) b := half_other ha b (by omega)
          have hob2 := hob b
          have w1 : IntKind.i64.wrap (halfO (netO ((A.zip F).take k)) x y b - y) = halfO (netO ((A.zip F).take k)) x y b - y := IntWalk.i64_in _ (by omega)
          have HS1 := Lib.hid hs1
          have HB1 := Lib.hid hB1
          have HZ := Lib.hid hz
          clear hc hcf d0 d1 hs1 hg1 hB1 hrow hob hob2 hhb hB hoa hyb hz
          go_wp2_with fail
          go_still_tail 22, (by kernel_rfl)
          go_wp2_with fail
          generalize hq : (wr.setCell ⟨w.heap.size + 1, a, none⟩ (.int .i64 (netO ((A.zip F).take k) a + y))).drew = wq
          have hsq : wq.ownsRow (w.heap.size + 1) 3 1 (.slice (some ⟨w.heap.size + 1, 0, none⟩) n n) n ((rowO (halfO (netO ((A.zip F).take k)) x y) n).map (Value.int .i64)) := by rw [← hq]; exact own_drew1 HS1.out
          have hBq : Below (w.alloc (.cells #[.int .i64 (n : Int), .slice (some ⟨g, 0, none⟩) A.length cv] 45)).heap.size (w.alloc (.cells #[.int .i64 (n : Int), .slice (some ⟨g, 0, none⟩) A.length cv] 45)) wq := by rw [← hq]; exact HB1.out.drew
          clear hq HS1 HB1 c0 c1 e0 e1 e2 r0 f0
          obtain ⟨k0, k1⟩ := net_cells hBq
          rcases HVh.out with h0 | ⟨g', hg', hgl', hc⟩
          · omega
          · rcases HFh.out with h0 | ⟨gf', hgf', hgfl', hcf⟩
            · omega
            · cases hg'
              cases hgf'
              have k2 := ((below_box hBq).cell (p := ⟨g, _, none⟩) hgl).trans (hc k x hx).2.1
              rw [hb] at k2
              have k3 := ((below_box hBq).cell (p := ⟨gf, _, none⟩) hgf).trans (hcf k y hy)
              have k4 := own_num hsq hbn
              obtain ⟨hs2, hg2⟩ := hsq.stored b (.int .i64 (halfO (netO ((A.zip F).take k)) x y b - y))
              have f2 := hsq.frozenAt b
              rw [rowO_put (o := halfO (netO ((A.zip F).take k)) x y) (o' := netO ((A.zip F).take (k + 1))) ((netO_snoc HZ.out b).trans (full_at hb)) (fun j hj => (netO_snoc HZ.out j).trans (full_other hb j hj))] at hs2
              have hB2 := hBq.grown hg2 hBq.size (fun j hj => by cases hj; simp)
              have HS2 := Lib.hid hs2
              have HB2 := Lib.hid hB2
              clear hc hcf hs2 hg2 hB2 hsq hBq hx hy
              go_still_tail 22, (by kernel_rfl)
              go_wp2_with fail
              go_roundw
              case rel => exact ⟨k + 1, by omega, by go_num, own_drew1 HS2.out, HB2.out.drew⟩
              case measure => simp [intOf]; omega
    · obtain rfl : k = F.length := by omega
      have e : rowO (netO ((A.zip F).take F.length)) n = R := by
        rw [← HR.out, List.take_of_length_le (by rw [List.length_zip]; omega)]
      have hl : R.length = n := by rw [← HR.out, rowO_len]
      rw [e] at hrow
      have HO := Lib.hid hrow
      clear hrow
      go_wp2_with fail
      go_ret
      exact ⟨_, rfl, by rw [hl]; exact own_base HO.out (by omega), below_box hB⟩

end Go.Proofs.YtnbbhdbcapfbkaaDoor

