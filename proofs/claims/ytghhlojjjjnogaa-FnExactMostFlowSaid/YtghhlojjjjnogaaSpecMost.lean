/-
  CONTRACT of spec.MostFlow. No law is proved here.
-/
import Derived.Test.YtghhlojjjjnogaaMostO
import Derived.Test.YtghhlojjjjnogaaSpecSize
import Derived.Test.YtghhlojjjjnogaaSpecReach
import Derived.Test.YtghhlojjjjnogaaSpecPush
import Derived.Deep.RegionHeld3
import Derived.Deep.DeepCutAuto
import Derived.Deep.CutRange
namespace Go.Proofs.Ytghhlojjjjnogaa
set_option maxRecDepth 4096
open Go.ChangeShapes Go.WideShapes Go.ChangeAt Go.RowKit

theorem held_boxM {w w' w'' : World} {N : Int} {v : Value} {t : TypeId} (h : Below (w.alloc (.cells #[.int .i64 N, v] t)).heap.size (w.alloc (.cells #[.int .i64 N, v] t)) w') (hb : Below w'.heap.size w' w'') :
    w''.cell? ⟨w.heap.size, 0, none⟩ = some (.int .i64 N) ∧ w''.cell? ⟨w.heap.size, 1, none⟩ = some v ∧ Below (w.alloc (.cells #[.int .i64 N, v] t)).heap.size (w.alloc (.cells #[.int .i64 N, v] t)) w'' :=
  ⟨(net_cells (next_below h hb)).1, (net_cells (next_below h hb)).2, next_below h hb⟩
theorem held_boxF {w w' w'' : World} {N : Int} {v vf : Value} {F : List Int} {t : TypeId} (h : Below (w.alloc (.cells #[.int .i64 N, v] t)).heap.size (w.alloc (.cells #[.int .i64 N, v] t)) w') (hf : Ints w' vf F) (hb : Below w'.heap.size w' w'') :
    w''.cell? ⟨w.heap.size, 0, none⟩ = some (.int .i64 N) ∧ w''.cell? ⟨w.heap.size, 1, none⟩ = some v ∧ Below (w.alloc (.cells #[.int .i64 N, v] t)).heap.size (w.alloc (.cells #[.int .i64 N, v] t)) w'' ∧ Ints w'' vf F :=
  ⟨(net_cells (next_below h hb)).1, (net_cells (next_below h hb)).2, next_below h hb, ints_on hf hb⟩

set_option maxHeartbeats 2000000 in
theorem specMost (N : Int) (A : List ArcD) (v : Value) (z : Int) (o : Nat → Bool) (m : Nat) (hA : A.length ≤ 2000000) (HZ : Hid (mostS N A = z)) (HO : Hid (mostO N A = o)) (HM : Hid (mostN N A = m)) (w : World) (hv : Arcs w v A) :
    Calls Try.prog 35 #[.agg #[.int .i64 N, v]] w (MostBack w z o m) := by
  have hB := Below.refl (w.alloc (.cells #[.int .i64 N, v] 26)).heap.size (w.alloc (.cells #[.int .i64 N, v] 26))
  obtain ⟨c0, c1⟩ := net_cells hB
  have HV := Lib.hid hv
  clear hv
  cases hn : netOkV N A with
  | false =>
    have HN := Lib.hid hn
    have e1 : z = -1 := by rw [← HZ.out]; unfold mostS; rw [if_neg (by rw [hn]; simp)]
    have e2 : m = 0 := by rw [← HM.out]; unfold mostN; rw [if_neg (by rw [hn]; simp)]
    subst e1 e2
    clear hn
    go_enter Try.func35, Try.ntmps35
    go_wp2_with fail
    refine (specNetOk N A _ false HN _ (by omega) (arcs_on HV.out (below_box hB))).mono ?_
    rintro e w1 ⟨rfl, hb⟩
    replace hB := next_below hB hb
    have hs := hB.size
    rw [World.size_alloc] at hs
    clear hb c0 c1
    go_wp2_with fail
    go_ret2
    exact ⟨_, rfl, World.ownsRow_made (base := w.heap.size) (e := 4) (size := 1) w1 #[] 0 (by omega) (by decide) rfl, below_box (hB.alloc hB.size _)⟩
  | true =>
    have HN := Lib.hid hn
    obtain ⟨⟨h2, h15⟩, _, _⟩ := netOk_out hn
    obtain ⟨n, rfl⟩ : ∃ n : Nat, N = n := ⟨N.toNat, by omega⟩
    obtain ⟨hfo, hro⟩ := most_ok hn
    have e1 : netO (A.zip (mostF A n)) 0 = z := by rw [← HZ.out]; unfold mostS; rw [if_pos hn, Int.toNat_natCast]
    have e2 : n = m := by rw [← HM.out]; unfold mostN; rw [if_pos hn, Int.toNat_natCast]
    have e3 : reachedB A (mostF A n) = o := by rw [← HO.out]; unfold mostO; rw [Int.toNat_natCast]
    subst e2
    have HZ1 : Hid (flowSizeV (n : Int) A (mostF A n) = z) := Lib.hid (by unfold flowSizeV; rw [if_pos hfo, e1])
    have HM1 : Hid (reachedN (n : Int) A (mostF A n) = n) := Lib.hid (by unfold reachedN; rw [if_pos hfo, Int.toNat_natCast])
    have HO1 := Lib.hid e3
    have hFl : (mostF A n).length ≤ 2000000 := by have := (flowOk_out hfo).2.1; omega
    have HPV : Hid (pushedV A n 64001 = mostF A n) := Lib.hid rfl
    clear hn hfo hro e1 e3 HZ HM HO
    go_enter Try.func35, Try.ntmps35
    go_wp2_with fail
    refine (specNetOk (n : Int) A _ true HN _ (by omega) (arcs_on HV.out (below_box hB))).mono ?_
    rintro e w1 ⟨rfl, hb⟩
    replace hB := next_below hB hb
    obtain ⟨c0, c1⟩ := net_cells hB
    clear hb
    go_wp2_with fail
    refine (specPushed n A 64001 _ HN.out (by omega) _ (arcs_on HV.out (below_box hB))).mono ?_
    rintro e w2 ⟨vf, rfl, hown, hb⟩
    rw [HPV.out] at hown
    replace hB := next_below hB hb
    have hf := ints_of_own hown
    obtain ⟨af, cf, rfl⟩ := own_form hown
    have hS0 := held_boxF hB hf (Below.refl _ _).drew
    clear hb hown hf c0 c1 hB
    go_upto_region 4 with fail
    go_region_held3 (fun w' => w'.cell? ⟨w.heap.size, 0, none⟩ = some (.int .i64 (n : Int)) ∧ w'.cell? ⟨w.heap.size, 1, none⟩ = some v ∧ Below (w.alloc (.cells #[.int .i64 (n : Int), v] 26)).heap.size (w.alloc (.cells #[.int .i64 (n : Int), v] 26)) w' ∧ Ints w' (.slice af (mostF A n).length cf) (mostF A n))
      (first | exact hS | exact hS0 | go_keep)
      (first
        | (go_at_call 14; (try go_split_ands); have hB0 : Below (w.alloc (.cells #[.int .i64 (n : Int), v] 26)).heap.size (w.alloc (.cells #[.int .i64 (n : Int), v] 26)) _ := (by assumption); have hF0 : Ints _ (.slice af (mostF A n).length cf) (mostF A n) := (by assumption); (with_reducible refine (specFlowSize (n : Int) A (mostF A n) _ _ z hA hFl HZ1 _ (arcs_on HV.out (below_box hB0)) (by assumption)).mono ?_); rintro e w3 ⟨rfl, hb⟩; (try go_split_ands); have hS := held_boxF hB0 (by assumption) hb; clear hb)
        | (go_at_call 25; (try go_split_ands); have hB0 : Below (w.alloc (.cells #[.int .i64 (n : Int), v] 26)).heap.size (w.alloc (.cells #[.int .i64 (n : Int), v] 26)) _ := (by assumption); (with_reducible refine (specReached (n : Int) A (mostF A n) _ _ n HM1 _ hA hFl (arcs_on HV.out (below_box hB0)) (by assumption)).mono ?_); rintro e w4 ⟨vr, rfl, hownr, hb⟩; (try go_split_ands); have hS := held_boxF hB0 (by assumption) hb; have hBr := hB0; clear hb))
    have HR := Lib.hid hownr
    have HBr := Lib.hid hBr.size
    have HB4 := Lib.hid hS.2.2.1
    clear hownr hBr hS
    go_wp2_with fail
    go_ret2
    refine ⟨_, rfl, ?_, below_box HB4.out⟩
    have h9 := HBr.out
    rw [World.size_alloc] at h9
    rw [← HO1.out]
    exact own_base HR.out (by omega)

end Go.Proofs.Ytghhlojjjjnogaa
