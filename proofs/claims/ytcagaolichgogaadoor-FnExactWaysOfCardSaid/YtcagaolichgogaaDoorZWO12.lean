/-
  CONTRACT of spec.NetOk. No law is proved here.
  CONTRACT of spec.l11Arc: the place of the arc from one node to another one. No law is proved here.
  The next cell of a way as the model looks for it. Plain facts; no statement is proved here.
-/
import Derived.Test.YtcagaolichgogaaDoorZWO02
import Derived.Test.YtcagaolichgogaaDoorZWO06
import Derived.BigQuiet
import Derived.Deep.QuietTactic
import Derived.Test.YtcagaolichgogaaDoorZWO11
namespace Go.Proofs.YtcagaolichgogaaDoor
set_option maxRecDepth 4096
open Go.ChangeShapes Go.WideShapes Go.ChangeAt Go.RowKit

theorem arc_all {p : ArcD → Bool} {A : List ArcD} {k : Nat} {x : ArcD} (h : (A.take k).all p = true) (hx : A[k]? = some x) (hp : p x = true) : (A.take (k + 1)).all p = true := by
  obtain ⟨hi, rfl⟩ := List.getElem?_eq_some_iff.1 hx
  rw [List.take_succ_eq_append_getElem hi, List.all_append, h]
  simp [hp]
theorem arc_not {p : ArcD → Bool} {A : List ArcD} {k : Nat} {x : ArcD} (hx : A[k]? = some x) (hp : p x = false) : A.all p = false := by
  rw [List.all_eq_false]
  exact ⟨x, List.mem_of_getElem? hx, by simp [hp]⟩

set_option maxHeartbeats 1000000 in
theorem specNet_in (N : Int) (A : List ArcD) (v : Value) (b : Bool) (hN : 2 ≤ N ∧ N ≤ 1500) (hA : A.length ≤ 3200) (HB : Hid (A.all (arcOk N) = b)) (w : World) (hv : Arcs w v A) :
    Calls Tryd.prog 66 #[.agg #[.int .i64 N, v]] w (Made w (.bool b)) := by
  have hB := Below.refl (w.alloc (.cells #[.int .i64 N, v] 45)).heap.size (w.alloc (.cells #[.int .i64 N, v] 45))
  obtain ⟨c0, c1⟩ := net_cells hB
  obtain ⟨av, cv, rfl, HV⟩ := arcs_form hv
  have HVh := Lib.hid HV
  have HN1 : Hid (inV N 2 1500 = true) := Lib.hid (inV_iff.2 hN)
  have hwN : IntKind.i64.wrap (N - 1) = N - 1 := IntWalk.i64_in _ (by omega)
  have hA1 : ¬ (3200 : Int) < (A.length : Int) := by omega
  clear HV hv
  go_enter Tryd.func66, Tryd.ntmps66
  go_wp2_with (go_at_call 47; refine (l01In _ _ _ _ HN1 _).mono ?_; rintro e w' ⟨rfl, rfl⟩)
  go_loopw [3] (fun i wr => ∃ k : Nat, k ≤ A.length ∧ i = .int .i64 k ∧ Hid ((A.take k).all (arcOk N) = true) ∧ Below (w.alloc (.cells #[.int .i64 N, .slice av A.length cv] 45)).heap.size (w.alloc (.cells #[.int .i64 N, .slice av A.length cv] 45)) wr) (fun i _ => A.length - (intOf i).toNat)
  case atStart => exact ⟨0, Nat.zero_le _, rfl, Lib.hid rfl, hB⟩
  case round =>
    clear hB c0 c1
    obtain ⟨k, hk, rfl, HK, hB⟩ := hrel
    obtain ⟨c0, c1⟩ := net_cells hB
    by_cases hlt : k < A.length
    · obtain ⟨x, hx⟩ : ∃ x, A[k]? = some x := ⟨_, List.getElem?_eq_getElem hlt⟩
      rcases HVh.out with h0 | ⟨g, rfl, hgl, hc⟩
      · omega
      · obtain ⟨d0, d1, d2, d3⟩ := (hc k x hx)
        have e0 := ((below_box hB).cell (p := ⟨g, _, none⟩) hgl).trans d0
        have e1 := ((below_box hB).cell (p := ⟨g, _, none⟩) hgl).trans d1
        have e2 := ((below_box hB).cell (p := ⟨g, _, none⟩) hgl).trans d2
        have e3 := ((below_box hB).cell (p := ⟨g, _, none⟩) hgl).trans d3
        have hlt2 : (k : Int) < (A.length : Int) := by omega
        have hB2 := hB.alloc hB.size (.cells #[.int .i64 x.f, .int .i64 x.t, .int .i64 x.r, .int .i64 x.c] 69)
        have HB2 := Lib.hid hB2
        have HX := Lib.hid hx
        have b0 := (net_cells hB2).1
        clear d0 d1 d2 d3 hc hx hB2
        rcases arcOk_cases N x with ⟨hok, h1, h2, h3, h4, h5⟩ | ⟨hok, h1 | ⟨h1, h2⟩ | ⟨h1, h2, h3⟩ | ⟨h1, h2, h3, h4⟩ | ⟨h1, h2, h3, h4, h5⟩⟩
        · have H1 := Lib.hid h1
          have H2 := Lib.hid h2
          have H4 := Lib.hid h4
          have H5 := Lib.hid h5
          have HOK := Lib.hid hok
          have h3' : (x.f == x.t) = false := by simpa using h3
          clear h1 h2 h4 h5 hok h3
          go_wp2_with (go_at_call 47; refine (l01In _ _ _ _ (by assumption) _).mono ?_; rintro e w' ⟨rfl, rfl⟩)
          go_roundw
          case rel => exact ⟨k + 1, by omega, by go_num, Lib.hid (arc_all HK.out HX.out HOK.out), HB2.out⟩
          case measure => simp [intOf]; omega
        · have H1 := Lib.hid h1
          have e : b = false := by rw [← HB.out]; exact arc_not HX.out hok
          subst e
          clear h1 hok
          go_wp2_with (go_at_call 47; refine (l01In _ _ _ _ (by assumption) _).mono ?_; rintro e w' ⟨rfl, rfl⟩)
          go_ret
          exact ⟨rfl, below_box HB2.out⟩
        · have H1 := Lib.hid h1
          have H2 := Lib.hid h2
          have e : b = false := by rw [← HB.out]; exact arc_not HX.out hok
          subst e
          clear h1 h2 hok
          go_wp2_with (go_at_call 47; refine (l01In _ _ _ _ (by assumption) _).mono ?_; rintro e w' ⟨rfl, rfl⟩)
          go_ret
          exact ⟨rfl, below_box HB2.out⟩
        · have H1 := Lib.hid h1
          have H2 := Lib.hid h2
          have h3' : (x.f == x.t) = true := by simpa using h3
          have e : b = false := by rw [← HB.out]; exact arc_not HX.out hok
          subst e
          clear h1 h2 hok h3
          go_wp2_with (go_at_call 47; refine (l01In _ _ _ _ (by assumption) _).mono ?_; rintro e w' ⟨rfl, rfl⟩)
          go_ret
          exact ⟨rfl, below_box HB2.out⟩
        · have H1 := Lib.hid h1
          have H2 := Lib.hid h2
          have H4 := Lib.hid h4
          have h3' : (x.f == x.t) = false := by simpa using h3
          have e : b = false := by rw [← HB.out]; exact arc_not HX.out hok
          subst e
          clear h1 h2 hok h3 h4
          go_wp2_with (go_at_call 47; refine (l01In _ _ _ _ (by assumption) _).mono ?_; rintro e w' ⟨rfl, rfl⟩)
          go_ret
          exact ⟨rfl, below_box HB2.out⟩
        · have H1 := Lib.hid h1
          have H2 := Lib.hid h2
          have H4 := Lib.hid h4
          have H5 := Lib.hid h5
          have h3' : (x.f == x.t) = false := by simpa using h3
          have e : b = false := by rw [← HB.out]; exact arc_not HX.out hok
          subst e
          clear h1 h2 hok h3 h4 h5
          go_wp2_with (go_at_call 47; refine (l01In _ _ _ _ (by assumption) _).mono ?_; rintro e w' ⟨rfl, rfl⟩)
          go_ret
          exact ⟨rfl, below_box HB2.out⟩
    · obtain rfl : k = A.length := by omega
      have e : b = true := by rw [← HB.out, ← HK.out, List.take_length]
      subst e
      go_wp2_with fail
      go_ret
      exact ⟨rfl, below_box hB⟩

theorem specNetOk (N : Int) (A : List ArcD) (v : Value) (b : Bool) (HB : Hid (netOkV N A = b)) (w : World) (hl : A.length ≤ 9223372036854775807) (hv : Arcs w v A) :
    Calls Tryd.prog 66 #[.agg #[.int .i64 N, v]] w (Made w (.bool b)) := by
  by_cases hN : inV N 2 1500 = true
  · by_cases hA : A.length ≤ 3200
    · refine specNet_in N A v b (inV_iff.1 hN) hA (Lib.hid ?_) w hv
      rw [← HB.out]
      unfold netOkV
      rw [hN, decide_eq_true hA]
      rfl
    · have e : b = false := by
        rw [← HB.out]
        unfold netOkV
        rw [decide_eq_false hA]
        simp
      subst e
      have hB := Below.refl (w.alloc (.cells #[.int .i64 N, v] 45)).heap.size (w.alloc (.cells #[.int .i64 N, v] 45))
      obtain ⟨c0, c1⟩ := net_cells hB
      obtain ⟨av, cv, rfl, _⟩ := arcs_form hv
      have HN := Lib.hid hN
      have hA2 : (3200 : Int) < (A.length : Int) := by omega
      clear hN hv
      go_enter Tryd.func66, Tryd.ntmps66
      go_wp2_with (go_at_call 47; refine (l01In _ _ _ _ (by assumption) _).mono ?_; rintro e w' ⟨rfl, rfl⟩)
      go_ret
      exact ⟨rfl, below_box hB⟩
  · have e : b = false := by
      rw [← HB.out]
      unfold netOkV
      rw [(by simpa using hN : inV N 2 1500 = false)]
      rfl
    subst e
    have HN : Hid (inV N 2 1500 = false) := Lib.hid (by simpa using hN)
    have hB := Below.refl (w.alloc (.cells #[.int .i64 N, v] 45)).heap.size (w.alloc (.cells #[.int .i64 N, v] 45))
    obtain ⟨c0, c1⟩ := net_cells hB
    obtain ⟨av, cv, rfl, _⟩ := arcs_form hv
    clear hN hv
    go_enter Tryd.func66, Tryd.ntmps66
    go_wp2_with (go_at_call 47; refine (l01In _ _ _ _ (by assumption) _).mono ?_; rintro e w' ⟨rfl, rfl⟩)
    go_ret
    exact ⟨rfl, below_box hB⟩

end Go.Proofs.YtcagaolichgogaaDoor

namespace Go.Proofs.YtcagaolichgogaaDoor
set_option maxRecDepth 4096
open Go.ChangeShapes Go.WideShapes Go.ChangeAt Go.RowKit

def arcP (A : List ArcD) (f t : Int) : Int := if arcIx A f t < A.length then ((arcIx A f t : Nat) : Int) else -1
theorem arcP_found {A : List ArcD} {f t : Int} {k : Nat} {x : ArcD} (hx : A[k]? = some x) (hf : x.f = f) (ht : x.t = t) (hb : ∀ j y, j < k → A[j]? = some y → ¬ (y.f = f ∧ y.t = t)) : arcP A f t = (k : Int) := by
  obtain ⟨hk, e⟩ := List.getElem?_eq_some_iff.1 hx
  have h : arcIx A f t = k := by
    unfold arcIx
    rw [List.findIdx_eq hk]
    refine ⟨ends_iff.2 (by rw [e]; exact ⟨hf, ht⟩), fun j hj => ?_⟩
    cases h : ends f t (A[j]'(by omega)) with
    | false => rfl
    | true => exact absurd (ends_iff.1 h) (hb j _ hj (List.getElem?_eq_getElem _))
  unfold arcP
  rw [h, if_pos hk]
theorem arcP_none {A : List ArcD} {f t : Int} (hb : ∀ j y, j < A.length → A[j]? = some y → ¬ (y.f = f ∧ y.t = t)) : arcP A f t = -1 := by
  unfold arcP
  rw [arcIx_no, if_neg (by omega)]
  intro x hx
  obtain ⟨j, hj, rfl⟩ := List.getElem_of_mem hx
  exact hb j _ hj (List.getElem?_eq_getElem hj)

theorem nos_more {A : List ArcD} {f t : Int} {k : Nat} {x : ArcD} (h : ∀ j y, j < k → A[j]? = some y → ¬ (y.f = f ∧ y.t = t)) (hx : A[k]? = some x) (hn : ¬ (x.f = f ∧ x.t = t)) : ∀ j y, j < k + 1 → A[j]? = some y → ¬ (y.f = f ∧ y.t = t) := fun j y hj hy => by
  by_cases e : j = k
  · subst e
    rw [hx] at hy
    cases hy
    exact hn
  · exact h j y (by omega) hy

set_option maxHeartbeats 1000000 in
theorem specArc (N : Int) (A : List ArcD) (v : Value) (f t z : Int) (hA : A.length ≤ 2000000) (HZ : Hid (arcP A f t = z)) (w : World) (hv : Arcs w v A) :
    Calls Tryd.prog 23 #[.agg #[.int .i64 N, v], .int .i64 f, .int .i64 t] w (Made w (.int .i64 z)) := by
  have hB := Below.refl (w.alloc (.cells #[.int .i64 N, v] 45)).heap.size (w.alloc (.cells #[.int .i64 N, v] 45))
  obtain ⟨c0, c1⟩ := net_cells hB
  obtain ⟨av, cv, rfl, HV⟩ := arcs_form hv
  have HVh := Lib.hid HV
  have HBW := Lib.hid ((Below.refl w.heap.size w).alloc (Nat.le_refl _) (.cells #[.int .i64 N, .slice av A.length cv] 45))
  clear hv HV
  go_enter Tryd.func23, Tryd.ntmps23
  go_wp2
  obtain ⟨wn, hwn⟩ : ∃ wn, w.alloc (.cells #[.int .i64 N, .slice av A.length cv] 45) = wn := ⟨_, rfl⟩
  rw [hwn] at c0 c1 HBW
  clear hB
  go_loopw [7] (fun i wr => ∃ k : Nat, k ≤ A.length ∧ i = .int .i64 k ∧ Hid (∀ j y, j < k → A[j]? = some y → ¬ (y.f = f ∧ y.t = t)) ∧ wr = wn) (fun i _ => A.length - (intOf i).toNat)
  case atStart => exact ⟨0, Nat.zero_le _, rfl, Lib.hid (fun j y h => by omega), by assumption⟩
  case round =>
    obtain ⟨k, hk, rfl, HNO, rfl⟩ := hrel
    by_cases hlt : k < A.length
    · have hlt2 : (k : Int) < (A.length : Int) := by omega
      obtain ⟨x, hx⟩ : ∃ x, A[k]? = some x := ⟨_, List.getElem?_eq_getElem hlt⟩
      rcases HVh.out with h0 | ⟨g, rfl, hg, hc⟩
      · omega
      · obtain ⟨p0, p1, _, _⟩ := hc k x hx
        have e0 := (HBW.out.cell (p := ⟨g, k * 4, none⟩) hg).trans p0
        have e1 := (HBW.out.cell (p := ⟨g, k * 4 + 1, none⟩) hg).trans p1
        have hk4 : (k : Int) * 4 = ((k * 4 : Nat) : Int) := by omega
        by_cases hf : x.f = f
        · by_cases ht : x.t = t
          · have HE := Lib.hid (arcP_found hx hf ht HNO.out)
            rw [HZ.out] at HE
            have hz := HE.out
            subst hz
            obtain ⟨xf, hxf⟩ : ∃ y, x.f = y := ⟨_, rfl⟩
            obtain ⟨xt, hxt⟩ : ∃ y, x.t = y := ⟨_, rfl⟩
            rw [hxf] at e0 hf
            rw [hxt] at e1 ht
            subst hf ht
            clear p0 p1 hc hx hxf hxt
            go_wp2
            go_ret
            exact ⟨rfl, HBW.out⟩
          · have HNX := Lib.hid (nos_more HNO.out hx (fun h => ht h.2))
            obtain ⟨xf, hxf⟩ : ∃ y, x.f = y := ⟨_, rfl⟩
            obtain ⟨xt, hxt⟩ : ∃ y, x.t = y := ⟨_, rfl⟩
            rw [hxf] at e0 hf
            rw [hxt] at e1 ht
            have hb1 : (xt == t) = false := beq_eq_false_iff_ne.2 ht
            subst hf
            clear p0 p1 hc hx hxf hxt
            go_wp2
            go_roundw
            case rel => exact ⟨k + 1, by omega, by go_num, HNX.out, trivial⟩
            case measure => simp [intOf]; omega
        · have HNX := Lib.hid (nos_more HNO.out hx (fun h => hf h.1))
          obtain ⟨xf, hxf⟩ : ∃ y, x.f = y := ⟨_, rfl⟩
          obtain ⟨xt, hxt⟩ : ∃ y, x.t = y := ⟨_, rfl⟩
          rw [hxf] at e0 hf
          rw [hxt] at e1
          have hb1 : (xf == f) = false := beq_eq_false_iff_ne.2 hf
          clear p0 p1 hc hx hxf hxt
          go_wp2
          go_roundw
          case rel => exact ⟨k + 1, by omega, by go_num, HNX.out, trivial⟩
          case measure => simp [intOf]; omega
    · obtain rfl : k = A.length := by omega
      have HE := Lib.hid (arcP_none HNO.out)
      rw [HZ.out] at HE
      have hz := HE.out
      subst hz
      go_wp2
      go_ret
      exact ⟨rfl, HBW.out⟩

end Go.Proofs.YtcagaolichgogaaDoor

namespace Go.Proofs.YtcagaolichgogaaDoor
set_option maxRecDepth 4096

section
variable {W H : Int} {C : ByteArray} {S G : List Int} {T : Nat} {F : List Int}
/-- What the model finds at place k of the list of cells that can be next. -/
structure StepAt (A : List ArcD) (F : List Int) (z1 z2 : Int) (y : Int) : Prop where
  arc : ∃ a : Nat, arcP A (z1 + 1) z2 = (a : Int) ∧ F[a]? = some y
theorem arc_val (hn : NetT (mapG W H C) (S.map (numG W H C))) (hl : F.length = (netG W H C S G T false).length) {k j t : Nat} (hk : k < (mapG W H C).F) (ht : t < T) (hj : j = k ∨ j ∈ (mapG W H C).ar k) :
    ∃ (a : Nat), arcP (netG W H C S G T false) (inN (mapG W H C).F k t + 1 : Nat) (inN (mapG W H C).F j (t + 1) : Nat) = (a : Int) ∧ F[a]? = some (flowAt (netG W H C S G T false) F (inN (mapG W H C).F k t + 1 : Nat) (inN (mapG W H C).F j (t + 1) : Nat)) := by
  obtain ⟨c, hc⟩ := arc_to (sl := S.map (numG W H C)) (gl := fun k => G.contains (cellG W H C k)) (R := (S.length : Int) - (G.length : Int)) hk ht hj
  obtain ⟨i, y, h1, h2, _⟩ := zip_get (F := F) hl hc
  have hd : Dst (netG W H C S G T false) := hn.dst
  have e1 := arcIx_of hd h1
  have e2 := flowAt_of hd h1 h2
  dsimp only at e1 e2
  refine ⟨i, ?_, by rw [e2]; exact h2⟩
  unfold arcP
  rw [e1, if_pos (List.getElem?_eq_some_iff.1 h1).1]
theorem next_runG (h : UnitsD W H C S G T F) {k t : Nat} (hk : k < (mapG W H C).F) (ht : t < T) (hr : Runs ((netG W H C S G T false).zip F) (inN (mapG W H C).F k t : Nat) (inN (mapG W H C).F k t + 1 : Nat)) :
    nextK (mapG W H C) (netG W H C S G T false) F t k < (mapG W H C).F ∧ (nextK (mapG W H C) (netG W H C S G T false) F t k = k ∨ nextK (mapG W H C) (netG W H C S G T false) F t k ∈ (mapG W H C).ar k) ∧ Runs ((netG W H C S G T false).zip F) (inN (mapG W H C).F k t + 1 : Nat) (inN (mapG W H C).F (nextK (mapG W H C) (netG W H C S G T false) F t k) (t + 1) : Nat) :=
  next_run h.net h.ok hk ht hr
theorem nextK_eqG (h : UnitsD W H C S G T F) {k t j : Nat} (hk : k < (mapG W H C).F) (ht : t < T) (hj : j < (mapG W H C).F) (hr : Runs ((netG W H C S G T false).zip F) (inN (mapG W H C).F k t : Nat) (inN (mapG W H C).F k t + 1 : Nat)) (hrj : Runs ((netG W H C S G T false).zip F) (inN (mapG W H C).F k t + 1 : Nat) (inN (mapG W H C).F j (t + 1) : Nat)) :
    nextK (mapG W H C) (netG W H C S G T false) F t k = j := nextK_eq h.net h.ok hk ht hj hr hrj
/-- The cells that can be next: those before the one that is taken have no unit, it has one. -/
theorem next_find (h : UnitsD W H C S G T F) {c : Int} {t : Nat} (hc : freeV W H C c = true) (ht : t < T) (hr : Runs ((netG W H C S G T false).zip F) (inN (mapG W H C).F (numG W H C c) t : Nat) (inN (mapG W H C).F (numG W H C c) t + 1 : Nat)) :
    ∃ (ix : Nat) (d : Int), (c :: aroundL W H C c)[ix]? = some d ∧ d = cellG W H C (nextK (mapG W H C) (netG W H C S G T false) F t (numG W H C c)) ∧
      ∀ (j : Nat) (y : Int), (c :: aroundL W H C c)[j]? = some y → j ≤ ix → ∃ (a : Nat) (q : Int), arcP (netG W H C S G T false) (inNodeV W H C c (t : Int) + 1) (inNodeV W H C y ((t + 1 : Nat) : Int)) = (a : Int) ∧ F[a]? = some q ∧ (q = 1 ↔ j = ix) := by
  have hl : F.length = (netG W H C S G T false).length := (flowOk_out h.ok).2.1
  have h20 := h.ask.t20
  have hk := numG_lt hc
  obtain ⟨h1, h2, h3⟩ := next_runG h hk ht hr
  have hfree : ∀ y ∈ c :: aroundL W H C c, freeV W H C y = true := fun y hy => by
    rcases List.mem_cons.1 hy with rfl | hy
    · exact hc
    · exact (around_free hy).2
  have har : ∀ y ∈ c :: aroundL W H C c, numG W H C y = numG W H C c ∨ numG W H C y ∈ (mapG W H C).ar (numG W H C c) := fun y hy => by
    rcases List.mem_cons.1 hy with rfl | hy
    · exact .inl rfl
    · refine .inr (mem_ar.2 ⟨hk, numG_lt (around_free hy).2, ?_⟩)
      rw [cellG_num hc, cellG_num (around_free hy).2]
      exact hy
  obtain ⟨d, hd⟩ : ∃ d, d = cellG W H C (nextK (mapG W H C) (netG W H C S G T false) F t (numG W H C c)) := ⟨_, rfl⟩
  have hdm : d ∈ c :: aroundL W H C c := by
    rw [hd]
    rcases h2 with e | e
    · rw [e, cellG_num hc]
      exact List.mem_cons_self ..
    · have := (mem_ar.1 e).2.2
      rw [cellG_num hc] at this
      exact List.mem_cons_of_mem _ this
  have hnd : (c :: aroundL W H C c).Nodup := List.nodup_cons.2 ⟨around_irr, around_nodup W H C c⟩
  obtain ⟨ix, hix, e⟩ := List.getElem_of_mem hdm
  have hixs : (c :: aroundL W H C c)[ix]? = some d := by rw [List.getElem?_eq_getElem hix, e]
  refine ⟨ix, d, hixs, hd, fun j y hy _ => ?_⟩
  have hym := List.mem_of_getElem? hy
  have hyf := hfree y hym
  obtain ⟨a, ha1, ha2⟩ := arc_val (F := F) h.net hl hk ht (har y hym)
  have n1 : inNodeV W H C c (t : Int) = (inN (mapG W H C).F (numG W H C c) t : Nat) := by
    have := inNode_is hk (show t ≤ 20 by omega)
    rw [cellG_num hc] at this
    exact this
  have n2 : inNodeV W H C y ((t + 1 : Nat) : Int) = (inN (mapG W H C).F (numG W H C y) (t + 1) : Nat) := by
    have := inNode_is (numG_lt hyf) (show t + 1 ≤ 20 by omega)
    rw [cellG_num hyf] at this
    exact this
  refine ⟨a, _, by rw [n1, n2]; exact ha1, ha2, ?_⟩
  obtain ⟨c2, hc2⟩ := arc_to (sl := S.map (numG W H C)) (gl := fun k => G.contains (cellG W H C k)) (R := (S.length : Int) - (G.length : Int)) hk ht (har y hym)
  rw [show (flowAt (netG W H C S G T false) F (inN (mapG W H C).F (numG W H C c) t + 1 : Nat) (inN (mapG W H C).F (numG W H C y) (t + 1) : Nat) = 1 ↔ _) from flowAt_runs h.ok h.net.dst hc2 rfl]
  have hdn : numG W H C d = nextK (mapG W H C) (netG W H C S G T false) F t (numG W H C c) := by rw [hd]; exact num_cellG h1
  constructor
  · intro hrun
    have e2 := nextK_eqG h hk ht (numG_lt hyf) hr hrun
    have e3 : numG W H C y = numG W H C d := by rw [hdn]; exact e2.symm
    have e4 := numG_inj hyf (hfree d hdm) e3
    obtain ⟨hj, e5⟩ := List.getElem?_eq_some_iff.1 hy
    exact (List.getElem_inj hnd).1 (by rw [e5, e4, e])
  · rintro rfl
    rw [hixs] at hy
    cases hy
    rw [hdn]
    exact h3
end

/-- A way, cell by cell: what is known of its t-th cell. -/
structure WayK (W H : Int) (C : ByteArray) (A : List ArcD) (F : List Int) (T : Nat) (M : List Int) : Prop where
  len : M.length = T + 1
  step : ∀ (t : Nat) (c : Int), M[t]? = some c → t < T → freeV W H C c = true ∧ ∃ (ix : Nat) (d : Int), (c :: aroundL W H C c)[ix]? = some d ∧ M[t + 1]? = some d ∧
    ∀ (j : Nat) (y : Int), (c :: aroundL W H C c)[j]? = some y → j ≤ ix → ∃ (a : Nat) (q : Int), arcP A (inNodeV W H C c (t : Int) + 1) (inNodeV W H C y ((t + 1 : Nat) : Int)) = (a : Int) ∧ F[a]? = some q ∧ (q = 1 ↔ j = ix)
section
variable {W H : Int} {C : ByteArray} {S G : List Int} {T : Nat} {F : List Int}
theorem wayK_step (h : UnitsD W H C S G T F) : ∀ (d t k : Nat), t + d = T → k < (mapG W H C).F → Runs ((netG W H C S G T false).zip F) (inN (mapG W H C).F k t : Nat) (inN (mapG W H C).F k t + 1 : Nat) → ∀ (i : Nat) (c : Int), ((wayK (mapG W H C) (netG W H C S G T false) F T d k).map (cellG W H C))[i]? = some c → i < d → freeV W H C c = true ∧ ∃ (ix : Nat) (d' : Int), (c :: aroundL W H C c)[ix]? = some d' ∧ ((wayK (mapG W H C) (netG W H C S G T false) F T d k).map (cellG W H C))[i + 1]? = some d' ∧
    ∀ (j : Nat) (y : Int), (c :: aroundL W H C c)[j]? = some y → j ≤ ix → ∃ (a : Nat) (q : Int), arcP (netG W H C S G T false) (inNodeV W H C c ((t + i : Nat) : Int) + 1) (inNodeV W H C y ((t + i + 1 : Nat) : Int)) = (a : Int) ∧ F[a]? = some q ∧ (q = 1 ↔ j = ix)
  | 0, _, _, _, _, _, i, c, _, hi => by omega
  | d + 1, t, k, ht, hk, hr, i, c, hc, hi => by
    obtain ⟨h1, _, h2⟩ := next_runG h hk (by omega : t < T) hr
    rw [wayK, List.map_cons, show T - (d + 1) = t by omega] at hc ⊢
    cases i with
    | zero =>
      have e : cellG W H C k = c := by simpa using hc
      have hcf : freeV W H C c = true := by rw [← e]; exact cellG_free hk
      have hnum : numG W H C c = k := by rw [← e]; exact num_cellG hk
      obtain ⟨ix, d', f1, f2, f3⟩ := next_find h hcf (by omega : t < T) (by rw [hnum]; exact hr)
      rw [hnum] at f2
      refine ⟨hcf, ix, d', f1, ?_, f3⟩
      rw [f2]
      cases d with
      | zero => rfl
      | succ d => rfl
    | succ i =>
      have ih := wayK_step h d (t + 1) (nextK (mapG W H C) (netG W H C S G T false) F t k) (by omega) h1 (run_in h.ok h1 h2) i c (by simpa using hc) (by omega)
      rw [show t + (i + 1) = t + 1 + i by omega]
      exact ih
theorem way_know (h : UnitsD W H C S G T F) {c : Int} (hc : c ∈ S) : WayK W H C (netG W H C S G T false) F T (wayG W H C (netG W H C S G T false) F T c) where
  len := by unfold wayG; rw [List.length_map, wayK_len]
  step := fun t c' hc' ht => by
    have := wayK_step h T 0 _ (by omega) (numG_lt (h.ask.sf c hc)) (h.go c hc) t c' hc' ht
    rw [Nat.zero_add] at this
    exact this
theorem way_first (h : UnitsD W H C S G T F) {c : Int} (hc : c ∈ S) : (wayG W H C (netG W H C S G T false) F T c)[0]? = some c := by
  unfold wayG
  have : cellG W H C (numG W H C c) = c := cellG_num (h.ask.sf c hc)
  cases T with
  | zero => simp [wayK, this]
  | succ T => simp [wayK, this]
end

end Go.Proofs.YtcagaolichgogaaDoor

