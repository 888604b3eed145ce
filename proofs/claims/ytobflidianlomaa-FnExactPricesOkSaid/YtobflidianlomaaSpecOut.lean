/-
  CONTRACT of spec.l06Out: what goes out of each node less what comes in. No law is proved here.
-/
import Derived.Test.YtobflidianlomaaRowO
import Derived.Test.YtobflidianlomaaNetM
import Derived.Test.YtobflidianlomaaIntsBack
import Derived.StillTailTactics
namespace Go.Proofs.Ytobflidianlomaa
set_option maxRecDepth 4096
open Go.ChangeShapes Go.WideShapes Go.ChangeAt Go.RowKit

/-- The excess while an arc's flow is laid: first its start, then its end. -/
def halfO (o : Nat → Int) (x : ArcD) (y : Int) (v : Nat) : Int := o v + if x.f = (v : Int) then y else 0
theorem half_at {o : Nat → Int} {x : ArcD} {y : Int} {a : Nat} (h : x.f = a) : halfO o x y a = o a + y := by unfold halfO; rw [if_pos h]
theorem half_other {o : Nat → Int} {x : ArcD} {y : Int} {a : Nat} (h : x.f = a) : ∀ j, j ≠ a → halfO o x y j = o j := fun j hj => by
  unfold halfO
  rw [if_neg (by rw [h]; omega)]
  omega
theorem full_at {o : Nat → Int} {x : ArcD} {y : Int} {b : Nat} (h : x.t = b) : o b + outAt x y b = halfO o x y b - y := by
  unfold halfO outAt
  rw [if_pos (c := x.t = (b : Int)) h]
  omega
theorem full_other {o : Nat → Int} {x : ArcD} {y : Int} {b : Nat} (h : x.t = b) : ∀ j, j ≠ b → o j + outAt x y j = halfO o x y j := fun j hj => by
  unfold halfO outAt
  rw [if_neg (c := x.t = (j : Int)) (by rw [h]; omega)]
  omega

theorem own_drew1 {w : World} {B : Nat} {e : TypeId} {size : Nat} {v : Value} {n : Nat} {xs : List Value} (h : w.ownsRow B e size v n xs) : w.drew.ownsRow B e size v n xs := h
theorem made_row0 {w1 : World} {B : Nat} {g n : Nat} (h : w1.ownsRow B 3 1 (.slice (some ⟨g, 0, none⟩) n n) n (madeCells (Value.int .i64 0).cells (n * 1)).toList) :
    w1.ownsRow B 3 1 (.slice (some ⟨g, 0, none⟩) n n) n ((rowO (netO []) n).map (Value.int .i64)) := by
  have e : (madeCells (Value.int .i64 0).cells (n * 1)).toList = (rowO (netO []) n).map (Value.int .i64) := by
    rw [Nat.mul_one]
    exact (toList_madeCells_one _ _).trans (rowO_const0 0 n)
  rwa [e] at h

set_option maxHeartbeats 1000000 in
theorem specOut (n : Nat) (A : List ArcD) (F : List Int) (R : List Int) (v vf : Value) (hn : n ≤ 1500) (hok : ∀ x ∈ A, arcOk (n : Int) x = true) (hA : A.length ≤ 3200) (hF : F.length = A.length) (hP : ∀ p ∈ A.zip F, 0 ≤ p.2 ∧ p.2 ≤ 20) (HR : Hid (rowO (netO (A.zip F)) n = R)) (w : World) (hv : Arcs w v A) (hf : Ints w vf F) :
    Calls Try.prog 31 #[.agg #[.int .i64 (n : Int), v], vf] w (IntsBack w R) := by
  obtain ⟨i0, hi, hz0, hz1, hz2⟩ := info_parts Try.info3
  have hB := Below.refl (w.alloc (.cells #[.int .i64 (n : Int), v] 26)).heap.size (w.alloc (.cells #[.int .i64 (n : Int), v] 26))
  obtain ⟨c0, c1⟩ := net_cells hB
  obtain ⟨av, cv, rfl, HV⟩ := arcs_form hv
  obtain ⟨af, cf, rfl, HF⟩ := ints_form hf
  have HVh := Lib.hid HV
  have HFh := Lib.hid HF
  have HOK := Lib.hid hok
  have HP := Lib.hid hP
  clear HV hv HF hf hok hP
  go_enter Try.func31, Try.ntmps31
  go_wp2_with (at_make; go_loud (refine wpList_make_full _ rfl (.tmp 8) (.tmp 8) 27 rfl _ 3 i0 (.int .i64 0) 1 Try.underlying27 hi hz0 hz1 .i64 .i64 n n n rfl rfl rfl rfl (by rw [hz2]; omega) (by unfold maxLen; omega) (Nat.le_refl _) ?_); intro w1 hrow hg1; go_loud (have hB1 := hB.grown hg1 hB.size (fun j hj => (by cases hj))); go_loud (have hrow1 := made_row0 hrow); have HR1 := Lib.hid hrow1; have HB1 := Lib.hid hB1; clear hrow hrow1 hg1 hB1)
  clear hB c0 c1
  go_loopw [6] (fun i wr => ∃ k : Nat, k ≤ F.length ∧ i = .int .i64 k ∧ wr.ownsRow (w.heap.size + 1) 3 1 (.slice (some ⟨w.heap.size + 1, 0, none⟩) n n) n ((rowO (netO ((A.zip F).take k)) n).map (Value.int .i64)) ∧ Below (w.alloc (.cells #[.int .i64 (n : Int), .slice av A.length cv] 26)).heap.size (w.alloc (.cells #[.int .i64 (n : Int), .slice av A.length cv] 26)) wr) (fun i _ => F.length - (intOf i).toNat)
  case atStart => exact ⟨0, Nat.zero_le _, rfl, by simpa using HR1.out, HB1.out⟩
  case round =>
    clear HR1 HB1
    obtain ⟨k, hk, rfl, hrow, hB⟩ := hrel
    obtain ⟨c0, c1⟩ := net_cells hB
    by_cases hlt : k < F.length
    · obtain ⟨y, hy⟩ : ∃ y, F[k]? = some y := ⟨_, List.getElem?_eq_getElem hlt⟩
      obtain ⟨x, hx⟩ : ∃ x, A[k]? = some x := ⟨_, List.getElem?_eq_getElem (by omega)⟩
      have hz := zip_at hx hy
      obtain ⟨⟨hf0, hf1⟩, ⟨ht0, ht1⟩, hne, _, _⟩ := arcOk_out (HOK.out x (List.mem_of_getElem? hx))
      have hyb := HP.out _ (List.mem_of_getElem? hz)
      obtain ⟨a, ha⟩ : ∃ a : Nat, x.f = a := ⟨x.f.toNat, by omega⟩
      obtain ⟨b, hb⟩ : ∃ b : Nat, x.t = b := ⟨x.t.toNat, by omega⟩
      have han : a < n := by omega
      have hbn : b < n := by omega
      have hob := netO_bound (P := (A.zip F).take k) (fun p hp => HP.out p (List.mem_of_mem_take hp)) 
      have hzl : ((A.zip F).take k).length ≤ 3200 := by rw [List.length_take, List.length_zip]; omega
      rcases HVh.out with h0 | ⟨g, rfl, hgl, hc⟩
      · omega
      · rcases HFh.out with h0 | ⟨gf, rfl, hgf, hcf⟩
        · omega
        · obtain ⟨d0, d1, _, _⟩ := hc k x hx
          have e0 := ((below_box hB).cell (p := ⟨g, _, none⟩) hgl).trans d0
          have e1 := ((below_box hB).cell (p := ⟨g, _, none⟩) hgl).trans d1
          have e2 := ((below_box hB).cell (p := ⟨gf, _, none⟩) hgf).trans (hcf k y hy)
          rw [ha] at e0
          rw [hb] at e1
          have r0 := own_num hrow han
          have hoa := hob a
          have w0 : IntKind.i64.wrap (netO ((A.zip F).take k) a + y) = netO ((A.zip F).take k) a + y := IntWalk.i64_in _ (by omega)
          have hlt2 : (k : Int) < (F.length : Int) := by omega
          have hlt3 : (k : Int) < (A.length : Int) := by omega
          have hlt4 : k < A.length := by omega
          have han2 : (a : Int) < (n : Int) := by omega
          have hbn2 : (b : Int) < (n : Int) := by omega
          obtain ⟨hs1, hg1⟩ := hrow.stored a (.int .i64 (netO ((A.zip F).take k) a + y))
          have f0 := hrow.frozenAt a
          rw [rowO_put (half_at (o := netO ((A.zip F).take k)) (y := y) ha) (half_other ha)] at hs1
          have hB1 : Below (w.alloc (.cells #[.int .i64 (n : Int), .slice (some ⟨g, 0, none⟩) A.length cv] 26)).heap.size (w.alloc (.cells #[.int .i64 (n : Int), .slice (some ⟨g, 0, none⟩) A.length cv] 26)) (wr.setCell ⟨w.heap.size + 1, a, none⟩ (.int .i64 (netO ((A.zip F).take k) a + y))) :=
            hB.grown hg1 hB.size (fun j hj => by cases hj; simp)
          have hhb : halfO (netO ((A.zip F).take k)) x y b = netO ((A.zip F).take k) b := half_other ha b (by omega)
          have hob2 := hob b
          have w1 : IntKind.i64.wrap (halfO (netO ((A.zip F).take k)) x y b - y) = halfO (netO ((A.zip F).take k)) x y b - y := IntWalk.i64_in _ (by omega)
          have HS1 := Lib.hid hs1
          have HB1 := Lib.hid hB1
          have HZ := Lib.hid hz
          clear hc hcf d0 d1 hs1 hg1 hB1 hrow hob hob2 hhb hB hoa hyb hz
          go_wp2_with fail
          go_still_tail 22, (by kernel_rfl)
          go_wp2_with fail
          generalize hq : (wr.setCell ⟨w.heap.size + 1, a, none⟩ (.int .i64 (netO ((A.zip F).take k) a + y))).drew = wq
          have hsq : wq.ownsRow (w.heap.size + 1) 3 1 (.slice (some ⟨w.heap.size + 1, 0, none⟩) n n) n ((rowO (halfO (netO ((A.zip F).take k)) x y) n).map (Value.int .i64)) := by rw [← hq]; exact own_drew1 HS1.out
          have hBq : Below (w.alloc (.cells #[.int .i64 (n : Int), .slice (some ⟨g, 0, none⟩) A.length cv] 26)).heap.size (w.alloc (.cells #[.int .i64 (n : Int), .slice (some ⟨g, 0, none⟩) A.length cv] 26)) wq := by rw [← hq]; exact HB1.out.drew
          clear hq HS1 HB1 c0 c1 e0 e1 e2 r0 f0
          obtain ⟨k0, k1⟩ := net_cells hBq
          rcases HVh.out with h0 | ⟨g', hg', hgl', hc⟩
          · omega
          · rcases HFh.out with h0 | ⟨gf', hgf', hgfl', hcf⟩
            · omega
            · cases hg'
              cases hgf'
              have k2 := ((below_box hBq).cell (p := ⟨g, _, none⟩) hgl).trans (hc k x hx).2.1
              rw [hb] at k2
              have k3 := ((below_box hBq).cell (p := ⟨gf, _, none⟩) hgf).trans (hcf k y hy)
              have k4 := own_num hsq hbn
              obtain ⟨hs2, hg2⟩ := hsq.stored b (.int .i64 (halfO (netO ((A.zip F).take k)) x y b - y))
              have f2 := hsq.frozenAt b
              rw [rowO_put (o := halfO (netO ((A.zip F).take k)) x y) (o' := netO ((A.zip F).take (k + 1))) ((netO_snoc HZ.out b).trans (full_at hb)) (fun j hj => (netO_snoc HZ.out j).trans (full_other hb j hj))] at hs2
              have hB2 := hBq.grown hg2 hBq.size (fun j hj => by cases hj; simp)
              have HS2 := Lib.hid hs2
              have HB2 := Lib.hid hB2
              clear hc hcf hs2 hg2 hB2 hsq hBq hx hy
              go_still_tail 22, (by kernel_rfl)
              go_wp2_with fail
              go_roundw
              case rel => exact ⟨k + 1, by omega, by go_num, own_drew1 HS2.out, HB2.out.drew⟩
              case measure => simp [intOf]; omega
    · obtain rfl : k = F.length := by omega
      have e : rowO (netO ((A.zip F).take F.length)) n = R := by
        rw [← HR.out, List.take_of_length_le (by rw [List.length_zip]; omega)]
      have hl : R.length = n := by rw [← HR.out, rowO_len]
      rw [e] at hrow
      have HO := Lib.hid hrow
      clear hrow
      go_wp2_with fail
      go_ret
      exact ⟨_, rfl, by rw [hl]; exact own_base HO.out (by omega), below_box hB⟩

end Go.Proofs.Ytobflidianlomaa
