/-
  CONTRACT of spec.TimeNet. No law is proved here.
  CONTRACT of spec.l06Out: what goes out of each node less what comes in. No law is proved here.
  CONTRACTS of spec.FlowOk, FlowSize. No law is proved here.
  CONTRACT of spec.FlowSize. No law is proved here.
  A STEP: 'append(row, list...)', the row of the call's own, the list nil, empty or in memory. No statement is proved here.
-/
import Derived.Test.YtcagaolichgogaaDoorZWO18
import Derived.Test.YtcagaolichgogaaDoorZWO19
import Derived.Test.YtcagaolichgogaaDoorZWO20
import Derived.Test.YtcagaolichgogaaDoorZWO21
import Derived.Test.YtcagaolichgogaaDoorZWO00
import Derived.Test.YtcagaolichgogaaDoorZWO02
import Derived.StillTailTactics
import Derived.Test.YtcagaolichgogaaDoorZWO12
import Derived.Deep.Upon
import Derived.Laws.OwnMore
namespace Go.Proofs.YtcagaolichgogaaDoor
set_option maxRecDepth 4096
open Go.ChangeShapes Go.WideShapes Go.ChangeAt Go.RowKit
theorem specTimeNet (W H : Int) (C : ByteArray) (S G : List Int) (T : Int) (strict : Bool) (vs vg : Value) (N : Int) (A : List ArcD) (b : Bool) (hC : C.size ≤ 1048576) (hS : S.length ≤ 2000000) (hG : G.length ≤ 2000000) (HN : Hid (timeNV W H C S G T strict = N)) (HA : Hid (timeAV W H C S G T strict = A)) (HB : Hid (askV W H C S G T = b)) (w : World) (hs : Ints w vs S) (hg : Ints w vg G) :
    Calls Tryd.prog 20 #[.agg #[.int .i64 W, .int .i64 H, .string C], vs, vg, .int .i64 T, .bool strict] w (TimeBack w N A b) :=
  timeParts.all timePartA timePartB timePartC timePartD W H C S G T strict vs vg N A b hC hS hG HN HA HB w hs hg

end Go.Proofs.YtcagaolichgogaaDoor

namespace Go.Proofs.YtcagaolichgogaaDoor
set_option maxRecDepth 4096
open Go.ChangeShapes Go.WideShapes Go.ChangeAt Go.RowKit

/-- The excess while an arc's flow is laid: first its start, then its end. -/
def halfO (o : Nat → Int) (x : ArcD) (y : Int) (v : Nat) : Int := o v + if x.f = (v : Int) then y else 0
theorem half_at {o : Nat → Int} {x : ArcD} {y : Int} {a : Nat} (h : x.f = a) : halfO o x y a = o a + y := by unfold halfO; rw [if_pos h]
theorem half_other {o : Nat → Int} {x : ArcD} {y : Int} {a : Nat} (h : x.f = a) : ∀ j, j ≠ a → halfO o x y j = o j := fun j hj => by
  unfold halfO
  rw [if_neg (by rw [h]; omega)]
  omega
theorem full_at {o : Nat → Int} {x : ArcD} {y : Int} {b : Nat} (h : x.t = b) : o b + outAt x y b = halfO o x y b - y := by
  unfold halfO outAt
  rw [if_pos (c := x.t = (b : Int)) h]
  omega
theorem full_other {o : Nat → Int} {x : ArcD} {y : Int} {b : Nat} (h : x.t = b) : ∀ j, j ≠ b → o j + outAt x y j = halfO o x y j := fun j hj => by
  unfold halfO outAt
  rw [if_neg (c := x.t = (j : Int)) (by rw [h]; omega)]
  omega

theorem own_drew1 {w : World} {B : Nat} {e : TypeId} {size : Nat} {v : Value} {n : Nat} {xs : List Value} (h : w.ownsRow B e size v n xs) : w.drew.ownsRow B e size v n xs := h
theorem made_row0 {w1 : World} {B : Nat} {g n : Nat} (h : w1.ownsRow B 3 1 (.slice (some ⟨g, 0, none⟩) n n) n (madeCells (Value.int .i64 0).cells (n * 1)).toList) :
    w1.ownsRow B 3 1 (.slice (some ⟨g, 0, none⟩) n n) n ((rowO (netO []) n).map (Value.int .i64)) := by
  have e : (madeCells (Value.int .i64 0).cells (n * 1)).toList = (rowO (netO []) n).map (Value.int .i64) := by
    rw [Nat.mul_one]
    exact (toList_madeCells_one _ _).trans (rowO_const0 0 n)
  rwa [e] at h

set_option maxHeartbeats 1000000 in
theorem specOut (n : Nat) (A : List ArcD) (F : List Int) (R : List Int) (v vf : Value) (hn : n ≤ 1500) (hok : ∀ x ∈ A, arcOk (n : Int) x = true) (hA : A.length ≤ 3200) (hF : F.length = A.length) (hP : ∀ p ∈ A.zip F, 0 ≤ p.2 ∧ p.2 ≤ 20) (HR : Hid (rowO (netO (A.zip F)) n = R)) (w : World) (hv : Arcs w v A) (hf : Ints w vf F) :
    Calls Tryd.prog 43 #[.agg #[.int .i64 (n : Int), v], vf] w (IntsBack w R) := by
  obtain ⟨i0, hi, hz0, hz1, hz2⟩ := info_parts Tryd.info3
  have hB := Below.refl (w.alloc (.cells #[.int .i64 (n : Int), v] 45)).heap.size (w.alloc (.cells #[.int .i64 (n : Int), v] 45))
  obtain ⟨c0, c1⟩ := net_cells hB
  obtain ⟨av, cv, rfl, HV⟩ := arcs_form hv
  obtain ⟨af, cf, rfl, HF⟩ := ints_form hf
  have HVh := Lib.hid HV
  have HFh := Lib.hid HF
  have HOK := Lib.hid hok
  have HP := Lib.hid hP
  clear HV hv HF hf hok hP
  go_enter Tryd.func43, Tryd.ntmps43
  go_wp2_with (at_make; go_loud (refine wpList_make_full _ rfl (.tmp 8) (.tmp 8) 24 rfl _ 3 i0 (.int .i64 0) 1 Tryd.underlying24 hi hz0 hz1 .i64 .i64 n n n rfl rfl rfl rfl (by rw [hz2]; omega) (by unfold maxLen; omega) (Nat.le_refl _) ?_); intro w1 hrow hg1; go_loud (have hB1 := hB.grown hg1 hB.size (fun j hj => (by cases hj))); go_loud (have hrow1 := made_row0 hrow); have HR1 := Lib.hid hrow1; have HB1 := Lib.hid hB1; clear hrow hrow1 hg1 hB1)
  clear hB c0 c1
  go_loopw [6] (fun i wr => ∃ k : Nat, k ≤ F.length ∧ i = .int .i64 k ∧ wr.ownsRow (w.heap.size + 1) 3 1 (.slice (some ⟨w.heap.size + 1, 0, none⟩) n n) n ((rowO (netO ((A.zip F).take k)) n).map (Value.int .i64)) ∧ Below (w.alloc (.cells #[.int .i64 (n : Int), .slice av A.length cv] 45)).heap.size (w.alloc (.cells #[.int .i64 (n : Int), .slice av A.length cv] 45)) wr) (fun i _ => F.length - (intOf i).toNat)
  case atStart => exact ⟨0, Nat.zero_le _, rfl, by simpa using HR1.out, HB1.out⟩
  case round =>
    clear HR1 HB1
    obtain ⟨k, hk, rfl, hrow, hB⟩ := hrel
    obtain ⟨c0, c1⟩ := net_cells hB
    by_cases hlt : k < F.length
    · obtain ⟨y, hy⟩ : ∃ y, F[k]? = some y := ⟨_, List.getElem?_eq_getElem hlt⟩
      obtain ⟨x, hx⟩ : ∃ x, A[k]? = some x := ⟨_, List.getElem?_eq_getElem (by omega)⟩
      have hz := zip_at hx hy
      obtain ⟨⟨hf0, hf1⟩, ⟨ht0, ht1⟩, hne, _, _⟩ := arcOk_out (HOK.out x (List.mem_of_getElem? hx))
      have hyb := HP.out _ (List.mem_of_getElem? hz)
      obtain ⟨a, ha⟩ : ∃ a : Nat, x.f = a := ⟨x.f.toNat, by omega⟩
      obtain ⟨b, hb⟩ : ∃ b : Nat, x.t = b := ⟨x.t.toNat, by omega⟩
      have han : a < n := by omega
      have hbn : b < n := by omega
      have hob := netO_bound (P := (A.zip F).take k) (fun p hp => HP.out p (List.mem_of_mem_take hp)) 
      have hzl : ((A.zip F).take k).length ≤ 3200 := by rw [List.length_take, List.length_zip]; omega
      rcases HVh.out with h0 | ⟨g, rfl, hgl, hc⟩
      · omega
      · rcases HFh.out with h0 | ⟨gf, rfl, hgf, hcf⟩
        · omega
        · obtain ⟨d0, d1, _, _⟩ := hc k x hx
          have e0 := ((below_box hB).cell (p := ⟨g, _, none⟩) hgl).trans d0
          have e1 := ((below_box hB).cell (p := ⟨g, _, none⟩) hgl).trans d1
          have e2 := ((below_box hB).cell (p := ⟨gf, _, none⟩) hgf).trans (hcf k y hy)
          rw [ha] at e0
          rw [hb] at e1
          have r0 := own_num hrow han
          have hoa := hob a
          have w0 : IntKind.i64.wrap (netO ((A.zip F).take k) a + y) = netO ((A.zip F).take k) a + y := IntWalk.i64_in _ (by omega)
          have hlt2 : (k : Int) < (F.length : Int) := by omega
          have hlt3 : (k : Int) < (A.length : Int) := by omega
          have hlt4 : k < A.length := by omega
          have han2 : (a : Int) < (n : Int) := by omega
          have hbn2 : (b : Int) < (n : Int) := by omega
          obtain ⟨hs1, hg1⟩ := hrow.stored a (.int .i64 (netO ((A.zip F).take k) a + y))
          have f0 := hrow.frozenAt a
          rw [rowO_put (half_at (o := netO ((A.zip F).take k)) (y := y) ha) (half_other ha)] at hs1
          have hB1 : Below (w.alloc (.cells #[.int .i64 (n : Int), .slice (some ⟨g, 0, none⟩) A.length cv] 45)).heap.size (w.alloc (.cells #[.int .i64 (n : Int), .slice (some ⟨g, 0, none⟩) A.length cv] 45)) (wr.setCell ⟨w.heap.size + 1, a, none⟩ (.int .i64 (netO ((A.zip F).take k) a + y))) :=
            hB.grown hg1 hB.size (fun j hj => by cases hj; simp)
          have hhb : halfO (netO ((A.zip F).take k)) x y b = netO ((A.zip F).take k) b := half_other ha b (by omega)
          have hob2 := hob b
          have w1 : IntKind.i64.wrap (halfO (netO ((A.zip F).take k)) x y b - y) = halfO (netO ((A.zip F).take k)) x y b - y := IntWalk.i64_in _ (by omega)
          have HS1 := Lib.hid hs1
          have HB1 := Lib.hid hB1
          have HZ := Lib.hid hz
          clear hc hcf d0 d1 hs1 hg1 hB1 hrow hob hob2 hhb hB hoa hyb hz
          go_wp2_with fail
          go_still_tail 22, (by kernel_rfl)
          go_wp2_with fail
          generalize hq : (wr.setCell ⟨w.heap.size + 1, a, none⟩ (.int .i64 (netO ((A.zip F).take k) a + y))).drew = wq
          have hsq : wq.ownsRow (w.heap.size + 1) 3 1 (.slice (some ⟨w.heap.size + 1, 0, none⟩) n n) n ((rowO (halfO (netO ((A.zip F).take k)) x y) n).map (Value.int .i64)) := by rw [← hq]; exact own_drew1 HS1.out
          have hBq : Below (w.alloc (.cells #[.int .i64 (n : Int), .slice (some ⟨g, 0, none⟩) A.length cv] 45)).heap.size (w.alloc (.cells #[.int .i64 (n : Int), .slice (some ⟨g, 0, none⟩) A.length cv] 45)) wq := by rw [← hq]; exact HB1.out.drew
          clear hq HS1 HB1 c0 c1 e0 e1 e2 r0 f0
          obtain ⟨k0, k1⟩ := net_cells hBq
          rcases HVh.out with h0 | ⟨g', hg', hgl', hc⟩
          · omega
          · rcases HFh.out with h0 | ⟨gf', hgf', hgfl', hcf⟩
            · omega
            · cases hg'
              cases hgf'
              have k2 := ((below_box hBq).cell (p := ⟨g, _, none⟩) hgl).trans (hc k x hx).2.1
              rw [hb] at k2
              have k3 := ((below_box hBq).cell (p := ⟨gf, _, none⟩) hgf).trans (hcf k y hy)
              have k4 := own_num hsq hbn
              obtain ⟨hs2, hg2⟩ := hsq.stored b (.int .i64 (halfO (netO ((A.zip F).take k)) x y b - y))
              have f2 := hsq.frozenAt b
              rw [rowO_put (o := halfO (netO ((A.zip F).take k)) x y) (o' := netO ((A.zip F).take (k + 1))) ((netO_snoc HZ.out b).trans (full_at hb)) (fun j hj => (netO_snoc HZ.out j).trans (full_other hb j hj))] at hs2
              have hB2 := hBq.grown hg2 hBq.size (fun j hj => by cases hj; simp)
              have HS2 := Lib.hid hs2
              have HB2 := Lib.hid hB2
              clear hc hcf hs2 hg2 hB2 hsq hBq hx hy
              go_still_tail 22, (by kernel_rfl)
              go_wp2_with fail
              go_roundw
              case rel => exact ⟨k + 1, by omega, by go_num, own_drew1 HS2.out, HB2.out.drew⟩
              case measure => simp [intOf]; omega
    · obtain rfl : k = F.length := by omega
      have e : rowO (netO ((A.zip F).take F.length)) n = R := by
        rw [← HR.out, List.take_of_length_le (by rw [List.length_zip]; omega)]
      have hl : R.length = n := by rw [← HR.out, rowO_len]
      rw [e] at hrow
      have HO := Lib.hid hrow
      clear hrow
      go_wp2_with fail
      go_ret
      exact ⟨_, rfl, by rw [hl]; exact own_base HO.out (by omega), below_box hB⟩

end Go.Proofs.YtcagaolichgogaaDoor

namespace Go.Proofs.YtcagaolichgogaaDoor
set_option maxRecDepth 4096
open Go.ChangeShapes Go.WideShapes Go.ChangeAt Go.RowKit

section
variable {N : Int} {A : List ArcD} {F : List Int}
theorem flow_net (h : netOkV N A = false) : flowOkV N A F = false := by
  unfold flowOkV
  rw [h]
  rfl
theorem flow_len (h : ¬ F.length = A.length) : flowOkV N A F = false := by
  unfold flowOkV
  rw [decide_eq_false h]
  simp
theorem flow_room {p : ArcD × Int} (hp : p ∈ A.zip F) (h : inRoom p = false) : flowOkV N A F = false := by
  cases hf : flowOkV N A F with
  | false => rfl
  | true =>
    have := inV_iff.2 ((flowOk_out hf).2.2.1 p hp)
    unfold inRoom at h
    rw [h] at this
    cases this
theorem flow_out {v : Nat} (h2 : 2 ≤ v) (hv : (v : Int) < N) (h : ¬ netO (A.zip F) v = 0) : flowOkV N A F = false := by
  cases hf : flowOkV N A F with
  | false => rfl
  | true => exact absurd ((flowOk_out hf).2.2.2 v h2 hv) h
theorem room_all {P : List (ArcD × Int)} {k : Nat} {p : ArcD × Int} (h : ∀ q ∈ P.take k, inRoom q = true) (hx : P[k]? = some p) (hp : inRoom p = true) : ∀ q ∈ P.take (k + 1), inRoom q = true := by
  obtain ⟨hi, rfl⟩ := List.getElem?_eq_some_iff.1 hx
  rw [List.take_succ_eq_append_getElem hi]
  intro q hq
  rcases List.mem_append.1 hq with h1 | h1
  · exact h q h1
  · rw [List.mem_singleton] at h1
    rw [h1]
    exact hp
theorem room_20 (hn : netOkV N A = true) (h : ∀ q ∈ A.zip F, inRoom q = true) : ∀ p ∈ A.zip F, 0 ≤ p.2 ∧ p.2 ≤ 20 := fun p hp => by
  have h1 := inV_iff.1 (h p hp)
  have h2 := (arcOk_out ((netOk_out hn).2.2 _ (zip_arc hp))).2.2.2.1
  omega
end

set_option maxHeartbeats 1000000 in
theorem specFlow_in (n : Nat) (A : List ArcD) (F : List Int) (v vf : Value) (b : Bool) (hn : netOkV n A = true) (hF : F.length = A.length) (HB : Hid (flowOkV n A F = b)) (w : World) (hv : Arcs w v A) (hf : Ints w vf F) :
    Calls Tryd.prog 42 #[.agg #[.int .i64 (n : Int), v], vf] w (Made w (.bool b)) := by
  obtain ⟨hN, hA, hok⟩ := netOk_out hn
  have hB := Below.refl (w.alloc (.cells #[.int .i64 (n : Int), v] 45)).heap.size (w.alloc (.cells #[.int .i64 (n : Int), v] 45))
  obtain ⟨c0, c1⟩ := net_cells hB
  have HVV := Lib.hid hv
  obtain ⟨av, cv, rfl, HV⟩ := arcs_form hv
  obtain ⟨af, cf, rfl, HF⟩ := ints_form hf
  have hf2 : Ints w (.slice af A.length cf) F := by rw [← hF]; exact hf
  have HFF := Lib.hid hf2
  have HVh := Lib.hid HV
  have HFh := Lib.hid HF
  have HOK := Lib.hid hok
  have HNT := Lib.hid hn
  have HL := Lib.hid hF
  have hF2 : (F.length == A.length) = true := by simpa using hF
  clear HV hv HF hf hok hn hf2
  go_enter Tryd.func42, Tryd.ntmps42
  go_wp2_with fail
  refine (specNetOk n A _ true HNT _ (by omega) (arcs_on HVV.out (below_box hB))).mono ?_
  rintro e w1 ⟨rfl, hb⟩
  replace hB := next_below hB hb
  obtain ⟨c0, c1⟩ := net_cells hB
  clear hb
  go_wp2_with fail
  go_loopw [5] (fun i wr => ∃ k : Nat, k ≤ F.length ∧ i = .int .i64 k ∧ Hid (∀ q ∈ (A.zip F).take k, inRoom q = true) ∧ Below (w.alloc (.cells #[.int .i64 (n : Int), .slice av A.length cv] 45)).heap.size (w.alloc (.cells #[.int .i64 (n : Int), .slice av A.length cv] 45)) wr) (fun i _ => F.length - (intOf i).toNat)
  case atStart => exact ⟨0, Nat.zero_le _, rfl, Lib.hid (by simp), hB⟩
  case round =>
    clear hB c0 c1
    obtain ⟨k, hk, rfl, HK, hB⟩ := hrel
    obtain ⟨c0, c1⟩ := net_cells hB
    by_cases hlt : k < F.length
    · obtain ⟨y, hy⟩ : ∃ y, F[k]? = some y := ⟨_, List.getElem?_eq_getElem hlt⟩
      obtain ⟨x, hx⟩ : ∃ x, A[k]? = some x := ⟨_, List.getElem?_eq_getElem (by omega)⟩
      rcases HVh.out with h0 | ⟨g, rfl, hgl, hc⟩
      · omega
      · rcases HFh.out with h0 | ⟨gf, rfl, hgf, hcf⟩
        · omega
        · have e0 := ((below_box hB).cell (p := ⟨g, _, none⟩) hgl).trans (hc k x hx).2.2.1
          have e2 := ((below_box hB).cell (p := ⟨gf, _, none⟩) hgf).trans (hcf k y hy)
          have HZ := Lib.hid (zip_at hx hy)
          have hlt2 : (k : Int) < (F.length : Int) := by omega
          have hlt3 : (k : Int) < (A.length : Int) := by omega
          have hlt4 : k < A.length := by omega
          have HB2 := Lib.hid hB.drew
          clear hc hcf hx hy
          cases hr : inV y 0 x.r with
          | true =>
            have HR := Lib.hid hr
            clear hr
            go_wp2_with fail
            go_still_tail 10, (by kernel_rfl)
            change wpList _ _ _ _ _ wr.drew
            go_wp2_with (go_at_call 47; refine (l01In _ _ _ _ HR _).mono ?_; rintro e w' ⟨rfl, rfl⟩)
            go_roundw
            case rel => exact ⟨k + 1, by omega, by go_num, Lib.hid (room_all HK.out HZ.out HR.out), HB2.out⟩
            case measure => simp [intOf]; omega
          | false =>
            have HR := Lib.hid hr
            have e : b = false := by rw [← HB.out]; exact flow_room (List.mem_of_getElem? HZ.out) hr
            subst e
            clear hr
            go_wp2_with fail
            go_still_tail 10, (by kernel_rfl)
            change wpList _ _ _ _ _ wr.drew
            go_wp2_with (go_at_call 47; refine (l01In _ _ _ _ HR _).mono ?_; rintro e w' ⟨rfl, rfl⟩)
            go_ret
            exact ⟨rfl, below_box HB2.out⟩
    · obtain rfl : k = F.length := by omega
      have HALL : Hid (∀ q ∈ A.zip F, inRoom q = true) := Lib.hid (by
        have := HK.out
        rwa [List.take_of_length_le (by rw [List.length_zip]; omega)] at this)
      obtain ⟨R, HR⟩ : ∃ R, Hid (rowO (netO (A.zip F)) n = R) := ⟨_, rfl⟩
      have hn15 : n ≤ 1500 := by omega
      have hRl : R.length = n := by rw [← HR.out, rowO_len]
      clear HK
      go_wp2_with fail
      refine (specOut n A F R _ _ hn15 HOK.out hA HL.out (room_20 HNT.out HALL.out) HR _ (arcs_on HVV.out (below_box hB)) (ints_on HFF.out (below_box hB))).mono ?_
      rintro e w5 ⟨vo, rfl, hown, hb⟩
      replace hB := next_below hB hb
      obtain ⟨ao, co, rfl, HO⟩ := ints_form (ints_of_own hown)
      have HOh := Lib.hid HO
      rw [hRl]
      clear hb hown HO c0 c1
      go_wp2_with fail
      go_loopw [7] (fun i wr => ∃ k : Nat, 2 ≤ k ∧ k ≤ n ∧ i = .int .i64 k ∧ Hid (∀ v : Nat, 2 ≤ v → v < k → netO (A.zip F) v = 0) ∧ wr = w5) (fun i _ => n - (intOf i).toNat)
      case atStart => exact ⟨2, Nat.le_refl _, by omega, rfl, Lib.hid (fun v h1 h2 => by omega), rfl⟩
      case round =>
        obtain ⟨k, hk2, hkn, rfl, HK, rfl⟩ := hrel
        obtain ⟨c0, c1⟩ := net_cells hB
        by_cases hlt : k < n
        · rcases HOh.out with h0 | ⟨go, rfl, hgo, hco⟩
          · omega
          · have d0 := hco k (netO (A.zip F) k) (by rw [← HR.out]; exact rowO_at _ hlt)
            have hlt2 : (k : Int) < (n : Int) := by omega
            clear hco
            by_cases hz : netO (A.zip F) k = 0
            · have HZ := Lib.hid hz
              have hz2 : (netO (A.zip F) k != 0) = false := by simp [hz]
              clear hz
              go_wp2_with fail
              go_roundw
              case rel => exact ⟨k + 1, by omega, by omega, by go_num, Lib.hid (fun v h1 h2 => by
                rcases Nat.lt_or_ge v k with h3 | h3
                · exact HK.out v h1 h3
                · obtain rfl : v = k := by omega
                  exact HZ.out), trivial⟩
              case measure => simp [intOf]; omega
            · have hz2 : (netO (A.zip F) k != 0) = true := by simp [hz]
              have e : b = false := by rw [← HB.out]; exact flow_out hk2 hlt2 hz
              subst e
              clear hz
              go_wp2_with fail
              go_ret
              exact ⟨rfl, below_box hB⟩
        · obtain rfl : k = n := by omega
          have e : b = true := by
            rw [← HB.out]
            exact flowOk_mk HNT.out HL.out (fun p hp => inV_iff.1 (HALL.out p hp)) (fun v h1 h2 => HK.out v h1 (by omega))
          subst e
          go_wp2_with fail
          go_ret
          exact ⟨rfl, below_box hB⟩

theorem specFlowOk (N : Int) (A : List ArcD) (F : List Int) (v vf : Value) (b : Bool) (hAl : A.length ≤ 2000000) (_hFl : F.length ≤ 2000000) (HB : Hid (flowOkV N A F = b)) (w : World) (hv : Arcs w v A) (hf : Ints w vf F) :
    Calls Tryd.prog 42 #[.agg #[.int .i64 N, v], vf] w (Made w (.bool b)) := by
  cases hn : netOkV N A with
  | true =>
    by_cases hF : F.length = A.length
    · obtain ⟨⟨h1, _⟩, _⟩ := netOk_out hn
      obtain ⟨n, rfl⟩ : ∃ n : Nat, N = n := ⟨N.toNat, by omega⟩
      exact specFlow_in n A F v vf b hn hF HB w hv hf
    · have e : b = false := by rw [← HB.out]; exact flow_len hF
      subst e
      have hB := Below.refl (w.alloc (.cells #[.int .i64 N, v] 45)).heap.size (w.alloc (.cells #[.int .i64 N, v] 45))
      obtain ⟨c0, c1⟩ := net_cells hB
      have HVV := Lib.hid hv
      obtain ⟨av, cv, rfl, _⟩ := arcs_form hv
      obtain ⟨af, cf, rfl, _⟩ := ints_form hf
      have HNT := Lib.hid hn
      have hF2 : (F.length == A.length) = false := by simpa using hF
      clear hv hf hn
      go_enter Tryd.func42, Tryd.ntmps42
      go_wp2_with fail
      refine (specNetOk N A _ true HNT _ (by omega) (arcs_on HVV.out (below_box hB))).mono ?_
      rintro e w1 ⟨rfl, hb⟩
      replace hB := next_below hB hb
      obtain ⟨c0, c1⟩ := net_cells hB
      clear hb
      go_wp2_with fail
      go_ret
      exact ⟨rfl, below_box hB⟩
  | false =>
    have e : b = false := by rw [← HB.out]; exact flow_net hn
    subst e
    have hB := Below.refl (w.alloc (.cells #[.int .i64 N, v] 45)).heap.size (w.alloc (.cells #[.int .i64 N, v] 45))
    obtain ⟨c0, c1⟩ := net_cells hB
    have HVV := Lib.hid hv
    obtain ⟨av, cv, rfl, _⟩ := arcs_form hv
    have HNT := Lib.hid hn
    clear hv hf hn
    go_enter Tryd.func42, Tryd.ntmps42
    go_wp2_with fail
    refine (specNetOk N A _ false HNT _ (by omega) (arcs_on HVV.out (below_box hB))).mono ?_
    rintro e w1 ⟨rfl, hb⟩
    replace hB := next_below hB hb
    clear hb
    go_wp2_with fail
    go_ret
    exact ⟨rfl, below_box hB⟩

theorem flow_facts {N : Int} {A : List ArcD} {F : List Int} (h : flowOkV N A F = true) : ∃ n : Nat, N = n ∧ 2 ≤ n ∧ n ≤ 1500 ∧ (∀ x ∈ A, arcOk (n : Int) x = true) ∧ A.length ≤ 3200 ∧ F.length = A.length ∧ ∀ p ∈ A.zip F, 0 ≤ p.2 ∧ p.2 ≤ 20 := by
  obtain ⟨hn, hF, hr, _⟩ := flowOk_out h
  obtain ⟨⟨h1, h2⟩, hA, hok⟩ := netOk_out hn
  obtain ⟨n, rfl⟩ : ∃ n : Nat, N = n := ⟨N.toNat, by omega⟩
  refine ⟨n, rfl, by omega, by omega, hok, hA, hF, fun p hp => ?_⟩
  have := hr p hp
  have h2 := (arcOk_out (hok _ (zip_arc hp))).2.2.2.1
  omega

end Go.Proofs.YtcagaolichgogaaDoor

namespace Go.Proofs.YtcagaolichgogaaDoor
set_option maxRecDepth 4096
open Go.ChangeShapes Go.WideShapes Go.ChangeAt Go.RowKit

theorem specFlowSize (N : Int) (A : List ArcD) (F : List Int) (v vf : Value) (z : Int) (hAl : A.length ≤ 2000000) (hFl : F.length ≤ 2000000) (HZ : Hid (flowSizeV N A F = z)) (w : World) (hv : Arcs w v A) (hf : Ints w vf F) :
    Calls Tryd.prog 21 #[.agg #[.int .i64 N, v], vf] w (Made w (.int .i64 z)) := by
  have hB := Below.refl (w.alloc (.cells #[.int .i64 N, v] 45)).heap.size (w.alloc (.cells #[.int .i64 N, v] 45))
  obtain ⟨c0, c1⟩ := net_cells hB
  have HVV := Lib.hid hv
  have HFF := Lib.hid hf
  clear hv hf
  cases hk : flowOkV N A F with
  | false =>
    have HK := Lib.hid hk
    have e : z = -1 := by rw [← HZ.out]; exact if_neg (by rw [hk]; simp)
    subst e
    clear hk
    go_enter Tryd.func21, Tryd.ntmps21
    go_wp2_with fail
    refine (specFlowOk N A F v vf false hAl hFl HK _ (arcs_on HVV.out (below_box hB)) (ints_on HFF.out (below_box hB))).mono ?_
    rintro e w1 ⟨rfl, hb⟩
    replace hB := next_below hB hb
    clear hb c0 c1
    go_wp2_with fail
    go_ret
    exact ⟨rfl, below_box hB⟩
  | true =>
    have HK := Lib.hid hk
    obtain ⟨n, rfl, h2, h15, hok, hA, hF, hP⟩ := flow_facts hk
    have e : netO (A.zip F) 0 = z := by rw [← HZ.out]; exact (if_pos hk).symm
    have HE := Lib.hid e
    have HOK := Lib.hid hok
    have HP := Lib.hid hP
    have HL := Lib.hid hF
    obtain ⟨R, HR⟩ : ∃ R, Hid (rowO (netO (A.zip F)) n = R) := ⟨_, rfl⟩
    have hRl : R.length = n := by rw [← HR.out, rowO_len]
    clear hk e hok hP hF HZ
    go_enter Tryd.func21, Tryd.ntmps21
    go_wp2_with fail
    refine (specFlowOk n A F v vf true hAl hFl HK _ (arcs_on HVV.out (below_box hB)) (ints_on HFF.out (below_box hB))).mono ?_
    rintro e w1 ⟨rfl, hb⟩
    replace hB := next_below hB hb
    obtain ⟨c0, c1⟩ := net_cells hB
    clear hb
    go_wp2_with fail
    refine (specOut n A F R _ _ h15 HOK.out hA HL.out HP.out HR _ (arcs_on HVV.out (below_box hB)) (ints_on HFF.out (below_box hB))).mono ?_
    rintro e w5 ⟨vo, rfl, hown, hb⟩
    replace hB := next_below hB hb
    obtain ⟨ao, co, rfl, HO⟩ := ints_form (ints_of_own hown)
    have hn0 : 0 < n := by omega
    rw [hRl] at HO ⊢
    rcases HO with h0 | ⟨go, rfl, hgo, hco⟩
    · omega
    · have d0 := hco 0 z (by rw [← HR.out, rowO_at _ hn0, HE.out])
      have hn1 : (0 : Int) < (n : Int) := by omega
      clear hb hown c0 c1 hco hRl
      go_wp2_with fail
      go_ret
      exact ⟨rfl, below_box hB⟩

end Go.Proofs.YtcagaolichgogaaDoor

namespace Go.Proofs.YtcagaolichgogaaDoor
set_option maxRecDepth 4096
open Go.ChangeShapes Go.WideShapes Go.ChangeAt Go.RowKit

theorem app_run (w : World) (B : Nat) (v u : Value) (M L : List Int) (ty : TypeId) (hown : w.ownsRow B 3 1 v M.length (M.map (Value.int .i64))) (hv : ArgI w u L) (hl : M.length + L.length ≤ 100000000) (hB : B ≤ w.heap.size) :
    ∃ v' w', (Builtin.append_ #[24, 24] ty #[v, u]).run Tryd.prog w = .ok v' w' ∧ w'.ownsRow B 3 1 v' (M ++ L).length ((M ++ L).map (Value.int .i64)) ∧ w.grownBy w' v.ownBlock := by
  obtain ⟨i0, hi, hz0, hz1, hz2⟩ := info_parts Tryd.info3
  obtain ⟨a, c, rfl, hc⟩ := hv
  by_cases h0 : L.length = 0
  · obtain rfl := List.eq_nil_of_length_eq_zero h0
    have hs : Src Tryd.prog i0.size 24 (.slice a 0 c) 0 [] w := by
      cases a with
      | none => exact Src.ofNil w Tryd.underlying24 c
      | some p => exact Src.ofSlice w Tryd.underlying24 p 0 c [] (by simp) (by intro j u h; simp at h) (by intro u h; cases h)
    obtain ⟨p, k, hk, hv⟩ : ∃ p k, M.length ≤ k ∧ v = .slice p M.length k := by
      rcases hown.2 with ⟨rfl, h⟩ | ⟨g, cap, cur, rfl, _, _, h, _⟩
      · exact ⟨none, 0, by omega, by rw [h]⟩
      · exact ⟨_, _, h, rfl⟩
    subst hv
    refine ⟨_, w, run_append_nothing w _ _ _ _ i0 Tryd.underlying24 hi p M.length k hk _ hs, ?_, World.grownBy.refl _ _⟩
    rw [List.append_nil]
    exact hown
  · rcases hc with h | ⟨b, rfl, _, hc⟩
    · exact absurd h h0
    · obtain ⟨v', w', h1, h2, h3, _⟩ := run_append_own (P := Tryd.prog) w B 24 ty 3 i0 (.int .i64 0) 1 8 Tryd.underlying24 hi hz0 hz1 hz2 rfl (by decide) v M.length (M.map (Value.int .i64)) hown b L.length c (L.map (Value.int .i64)) (by simp) (fun j u h => by
          rw [List.getElem?_map] at h
          obtain ⟨x, hx, rfl⟩ := Option.map_eq_some_iff.1 h
          exact hc j x hx) (ints_one _) (by unfold maxLen; omega) (by omega) hB
      refine ⟨v', w', h1, ?_, h3⟩
      rw [List.length_append, List.map_append]
      exact h2

theorem wp_app {o : Oper} {a : Act} {w : World} {K : Act → World → Prop} {Q : Exit → Act → World → Prop} (s x : Operand) (hop : o.op = Op.call { callee := Callee.builtin Builtin.append, args := #[s, x], argTypes := #[24, 24] })
    (B : Nat) (v u : Value) (M L : List Int) (hs : a.eval s = v) (hx : a.eval x = u) (hown : w.ownsRow B 3 1 v M.length (M.map (Value.int .i64))) (hv : ArgI w u L) (hl : M.length + L.length ≤ 100000000) (hB : B ≤ w.heap.size)
    (hK : ∀ v' w', w'.ownsRow B 3 1 v' (M ++ L).length ((M ++ L).map (Value.int .i64)) → w.grownBy w' v.ownBlock → K (a.put o.dst v') w') : Oper.wp Tryd.prog o a w K Q := by
  obtain ⟨v', w', hrun, h1, h2⟩ := app_run w B v u M L o.type hown hv hl hB
  unfold Oper.wp
  simp [execOp, hop, resolve, invoke, builtin, hs, hx, hrun, Result.andThen]
  exact hK _ _ h1 h2
theorem wpList_app {ops : Array Oper} {rest : List Oper} {o : Oper} {a : Act} {w : World} {Q : Exit → Act → World → Prop} (hgd : o.guard = none) (s x : Operand) (hop : o.op = Op.call { callee := Callee.builtin Builtin.append, args := #[s, x], argTypes := #[24, 24] })
    (B : Nat) (v u : Value) (M L : List Int) (hs : a.eval s = v) (hx : a.eval x = u) (hown : w.ownsRow B 3 1 v M.length (M.map (Value.int .i64))) (hv : ArgI w u L) (hl : M.length + L.length ≤ 100000000) (hB : B ≤ w.heap.size)
    (h : ∀ v' w', w'.ownsRow B 3 1 v' (M ++ L).length ((M ++ L).map (Value.int .i64)) → w.grownBy w' v.ownBlock → wpList Tryd.prog ops Q rest (a.put o.dst v') w') : wpList Tryd.prog ops Q (o :: rest) a w :=
  wpList_plain hgd fun _ hK => wp_app s x hop B v u M L hs hx hown hv hl hB fun v' w' h2 h3 => hK _ _ (h v' w' h2 h3)
theorem argI_of_ints {w : World} {v : Value} {L : List Int} (h : Ints w v L) : ArgI w v L := by
  rcases h with ⟨rfl, a, c, rfl⟩ | ⟨g, c, rfl, hg, hc⟩
  · exact ⟨a, c, rfl, .inl rfl⟩
  · refine ⟨_, c, rfl, .inr ⟨_, rfl, hg, fun j x hx => ?_⟩⟩
    have hadd : (⟨g, 0, none⟩ : Addr).add j = ⟨g, j, none⟩ := by unfold Addr.add; split <;> simp_all
    rw [hadd]
    exact hc j x hx

end Go.Proofs.YtcagaolichgogaaDoor

