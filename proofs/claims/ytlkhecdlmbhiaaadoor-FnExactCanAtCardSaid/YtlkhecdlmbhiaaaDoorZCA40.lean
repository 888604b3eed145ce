/-
  CONTRACT of spec.MostFlow. No law is proved here.
  CONTRACT of spec.CanAt. No law is proved here.
-/
import Derived.Test.YtlkhecdlmbhiaaaDoorZCA30
import Derived.Test.YtlkhecdlmbhiaaaDoorZCA38
import Derived.Test.YtlkhecdlmbhiaaaDoorZCA39
import Derived.Deep.RegionHeld3
import Derived.Deep.DeepCutAuto
import Derived.Deep.CutRange
namespace Go.Proofs.YtlkhecdlmbhiaaaDoor
set_option maxRecDepth 4096
open Go.ChangeShapes Go.WideShapes Go.ChangeAt Go.RowKit

theorem held_boxM {w w' w'' : World} {N : Int} {v : Value} {t : TypeId} (h : Below (w.alloc (.cells #[.int .i64 N, v] t)).heap.size (w.alloc (.cells #[.int .i64 N, v] t)) w') (hb : Below w'.heap.size w' w'') :
    w''.cell? ⟨w.heap.size, 0, none⟩ = some (.int .i64 N) ∧ w''.cell? ⟨w.heap.size, 1, none⟩ = some v ∧ Below (w.alloc (.cells #[.int .i64 N, v] t)).heap.size (w.alloc (.cells #[.int .i64 N, v] t)) w'' :=
  ⟨(net_cells (next_below h hb)).1, (net_cells (next_below h hb)).2, next_below h hb⟩
theorem held_boxF {w w' w'' : World} {N : Int} {v vf : Value} {F : List Int} {t : TypeId} (h : Below (w.alloc (.cells #[.int .i64 N, v] t)).heap.size (w.alloc (.cells #[.int .i64 N, v] t)) w') (hf : Ints w' vf F) (hb : Below w'.heap.size w' w'') :
    w''.cell? ⟨w.heap.size, 0, none⟩ = some (.int .i64 N) ∧ w''.cell? ⟨w.heap.size, 1, none⟩ = some v ∧ Below (w.alloc (.cells #[.int .i64 N, v] t)).heap.size (w.alloc (.cells #[.int .i64 N, v] t)) w'' ∧ Ints w'' vf F :=
  ⟨(net_cells (next_below h hb)).1, (net_cells (next_below h hb)).2, next_below h hb, ints_on hf hb⟩

set_option maxHeartbeats 2000000 in
theorem specMost (N : Int) (A : List ArcD) (v : Value) (z : Int) (o : Nat → Bool) (m : Nat) (hA : A.length ≤ 2000000) (HZ : Hid (mostS N A = z)) (HO : Hid (mostO N A = o)) (HM : Hid (mostN N A = m)) (w : World) (hv : Arcs w v A) :
    Calls Tryd.prog 56 #[.agg #[.int .i64 N, v]] w (MostBack w z o m) := by
  have hB := Below.refl (w.alloc (.cells #[.int .i64 N, v] 32)).heap.size (w.alloc (.cells #[.int .i64 N, v] 32))
  obtain ⟨c0, c1⟩ := net_cells hB
  have HV := Lib.hid hv
  clear hv
  cases hn : netOkV N A with
  | false =>
    have HN := Lib.hid hn
    have e1 : z = -1 := by rw [← HZ.out]; unfold mostS; rw [if_neg (by rw [hn]; simp)]
    have e2 : m = 0 := by rw [← HM.out]; unfold mostN; rw [if_neg (by rw [hn]; simp)]
    subst e1 e2
    clear hn
    go_enter Tryd.func56, Tryd.ntmps56
    go_wp2_with fail
    refine (specNetOk N A _ false HN _ (by omega) (arcs_on HV.out (below_box hB))).mono ?_
    rintro e w1 ⟨rfl, hb⟩
    replace hB := next_below hB hb
    have hs := hB.size
    rw [World.size_alloc] at hs
    clear hb c0 c1
    go_wp2_with fail
    go_ret2
    exact ⟨_, rfl, World.ownsRow_made (base := w.heap.size) (e := 4) (size := 1) w1 #[] 0 (by omega) (by decide) rfl, below_box (hB.alloc hB.size _)⟩
  | true =>
    have HN := Lib.hid hn
    obtain ⟨⟨h2, h15⟩, _, _⟩ := netOk_out hn
    obtain ⟨n, rfl⟩ : ∃ n : Nat, N = n := ⟨N.toNat, by omega⟩
    obtain ⟨hfo, hro⟩ := most_ok hn
    have e1 : netO (A.zip (mostF A n)) 0 = z := by rw [← HZ.out]; unfold mostS; rw [if_pos hn, Int.toNat_natCast]
    have e2 : n = m := by rw [← HM.out]; unfold mostN; rw [if_pos hn, Int.toNat_natCast]
    have e3 : reachedB A (mostF A n) = o := by rw [← HO.out]; unfold mostO; rw [Int.toNat_natCast]
    subst e2
    have HZ1 : Hid (flowSizeV (n : Int) A (mostF A n) = z) := Lib.hid (by unfold flowSizeV; rw [if_pos hfo, e1])
    have HM1 : Hid (reachedN (n : Int) A (mostF A n) = n) := Lib.hid (by unfold reachedN; rw [if_pos hfo, Int.toNat_natCast])
    have HO1 := Lib.hid e3
    have hFl : (mostF A n).length ≤ 2000000 := by have := (flowOk_out hfo).2.1; omega
    have HPV : Hid (pushedV A n 64001 = mostF A n) := Lib.hid rfl
    clear hn hfo hro e1 e3 HZ HM HO
    go_enter Tryd.func56, Tryd.ntmps56
    go_wp2_with fail
    refine (specNetOk (n : Int) A _ true HN _ (by omega) (arcs_on HV.out (below_box hB))).mono ?_
    rintro e w1 ⟨rfl, hb⟩
    replace hB := next_below hB hb
    obtain ⟨c0, c1⟩ := net_cells hB
    clear hb
    go_wp2_with fail
    refine (specPushed n A 64001 _ HN.out (by omega) _ (arcs_on HV.out (below_box hB))).mono ?_
    rintro e w2 ⟨vf, rfl, hown, hb⟩
    rw [HPV.out] at hown
    replace hB := next_below hB hb
    have hf := ints_of_own hown
    obtain ⟨af, cf, rfl⟩ := own_form hown
    have hS0 := held_boxF hB hf (Below.refl _ _).drew
    clear hb hown hf c0 c1 hB
    go_upto_region 4 with fail
    go_region_held3 (fun w' => w'.cell? ⟨w.heap.size, 0, none⟩ = some (.int .i64 (n : Int)) ∧ w'.cell? ⟨w.heap.size, 1, none⟩ = some v ∧ Below (w.alloc (.cells #[.int .i64 (n : Int), v] 32)).heap.size (w.alloc (.cells #[.int .i64 (n : Int), v] 32)) w' ∧ Ints w' (.slice af (mostF A n).length cf) (mostF A n))
      (first | exact hS | exact hS0 | go_keep)
      (first
        | (go_at_call 84; (try go_split_ands); have hB0 : Below (w.alloc (.cells #[.int .i64 (n : Int), v] 32)).heap.size (w.alloc (.cells #[.int .i64 (n : Int), v] 32)) _ := (by assumption); have hF0 : Ints _ (.slice af (mostF A n).length cf) (mostF A n) := (by assumption); (with_reducible refine (specFlowSize (n : Int) A (mostF A n) _ _ z hA hFl HZ1 _ (arcs_on HV.out (below_box hB0)) (by assumption)).mono ?_); rintro e w3 ⟨rfl, hb⟩; (try go_split_ands); have hS := held_boxF hB0 (by assumption) hb; clear hb)
        | (go_at_call 85; (try go_split_ands); have hB0 : Below (w.alloc (.cells #[.int .i64 (n : Int), v] 32)).heap.size (w.alloc (.cells #[.int .i64 (n : Int), v] 32)) _ := (by assumption); (with_reducible refine (specReached (n : Int) A (mostF A n) _ _ n HM1 _ hA hFl (arcs_on HV.out (below_box hB0)) (by assumption)).mono ?_); rintro e w4 ⟨vr, rfl, hownr, hb⟩; (try go_split_ands); have hS := held_boxF hB0 (by assumption) hb; have hBr := hB0; clear hb))
    have HR := Lib.hid hownr
    have HBr := Lib.hid hBr.size
    have HB4 := Lib.hid hS.2.2.1
    clear hownr hBr hS
    go_wp2_with fail
    go_ret2
    refine ⟨_, rfl, ?_, below_box HB4.out⟩
    have h9 := HBr.out
    rw [World.size_alloc] at h9
    rw [← HO1.out]
    exact own_base HR.out (by omega)

end Go.Proofs.YtlkhecdlmbhiaaaDoor

namespace Go.Proofs.YtlkhecdlmbhiaaaDoor
set_option maxRecDepth 4096
open Go.ChangeShapes Go.WideShapes Go.ChangeAt Go.RowKit

theorem specCan (W H : Int) (C : ByteArray) (S G : List Int) (T : Int) (vs vg : Value) (b : Bool) (hC : C.size ≤ 1048576) (hS : S.length ≤ 2000000) (hG : G.length ≤ 2000000) (HB : Hid (canV W H C S G T = b)) (w : World) (hs : Ints w vs S) (hg : Ints w vg G) :
    Calls Tryd.prog 24 #[.agg #[.int .i64 W, .int .i64 H, .string C], vs, vg, .int .i64 T] w (Made w (.bool b)) := by
  have hB := Below.refl (w.alloc (.cells #[.int .i64 W, .int .i64 H, .string C] 25)).heap.size (w.alloc (.cells #[.int .i64 W, .int .i64 H, .string C] 25))
  obtain ⟨c0, c1, c2⟩ := box_cells hB
  have HSS := Lib.hid hs
  have HGG := Lib.hid hg
  obtain ⟨al, cs, rfl, _⟩ := ints_form hs
  clear hs hg
  obtain ⟨N, HN⟩ : ∃ N, Hid (timeNV W H C S G T false = N) := ⟨_, rfl⟩
  obtain ⟨A, HA⟩ : ∃ A, Hid (timeAV W H C S G T false = A) := ⟨_, rfl⟩
  have hA : A.length ≤ 3200 := by rw [← HA.out]; exact timeAV_len
  cases hk : askV W H C S G T with
  | false =>
    obtain rfl : b = false := HB.out.symm.trans (by unfold canV; rw [hk]; rfl)
    have HK := Lib.hid hk
    clear hk HB
    go_enter Tryd.func24, Tryd.ntmps24
    go_wp2_with fail
    refine (specTimeNet W H C S G T false _ _ N A false hC hS hG HN HA HK _ (ints_on HSS.out (box_below hB)) (ints_on HGG.out (box_below hB))).mono ?_
    rintro e w1 ⟨v, rfl, hown, hb⟩
    obtain ⟨av, cv, rfl⟩ := own_form hown
    replace hB := chain hB hb
    clear hb hown c0 c1 c2
    go_wp2_with fail
    go_ret
    exact ⟨rfl, box_below (hB.alloc hB.size _)⟩
  | true =>
    obtain ⟨z, HZ⟩ : ∃ z, Hid (mostS N A = z) := ⟨_, rfl⟩
    obtain rfl : decide (z = (S.length : Int)) = b := by rw [← HB.out, ← HZ.out, ← HN.out, ← HA.out]; unfold canV; rw [hk]; rfl
    have HK := Lib.hid hk
    clear hk HB
    go_enter Tryd.func24, Tryd.ntmps24
    go_wp2_with fail
    refine (specTimeNet W H C S G T false _ _ N A true hC hS hG HN HA HK _ (ints_on HSS.out (box_below hB)) (ints_on HGG.out (box_below hB))).mono ?_
    rintro e w1 ⟨v, rfl, hown, hb⟩
    obtain ⟨av, cv, rfl⟩ := own_form hown
    replace hB := chain hB hb
    have HAR := Lib.hid (arcs_on (arcs_of_own hown) ((Below.refl w1.heap.size w1).alloc (Nat.le_refl _) (.cells #[.int .i64 N, .slice av A.length cv] 32)))
    have hB2 := hB.alloc hB.size (.cells #[.int .i64 N, .slice av A.length cv] 32)
    clear hb hown c0 c1 c2 hB
    go_wp2_with fail
    refine (specMost N A _ z _ _ (by omega) HZ (Lib.hid rfl) (Lib.hid rfl) _ HAR.out).mono ?_
    rintro e w2 ⟨vo, rfl, _, hb⟩
    replace hB2 := chain hB2 hb
    clear hb HAR
    go_wp2_with fail
    go_ret
    exact ⟨bool_ret rfl (by first | rfl | simp), box_below hB2⟩

end Go.Proofs.YtlkhecdlmbhiaaaDoor

