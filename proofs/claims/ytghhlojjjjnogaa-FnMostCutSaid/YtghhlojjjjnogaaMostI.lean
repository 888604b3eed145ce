/-
  CONTRACT of the program's MostFlow. No law is proved here.
-/
import Derived.Test.YtghhlojjjjnogaaPathI
import Derived.Test.YtghhlojjjjnogaaAugI
import Derived.Test.YtghhlojjjjnogaaMostO
import Derived.Deep.RegionWith
namespace Go.Proofs.Ytghhlojjjjnogaa
set_option maxRecDepth 4096
open Go.ChangeShapes Go.WideShapes Go.ChangeAt Go.RowKit

theorem flow_rooms {n : Nat} {A : List ArcD} {F : List Int} (h : flowOkV n A F = true) : A.length ≤ 3200 ∧ ∀ p ∈ A.zip F, 0 ≤ p.2 ∧ p.2 ≤ 20 := by
  obtain ⟨hn, _, hr, _⟩ := flowOk_out h
  obtain ⟨_, hA, hok⟩ := netOk_out hn
  refine ⟨hA, fun p hp => ?_⟩
  have h1 := hr p hp
  have h2 := (arcOk_out (hok _ (zip_arc hp))).2.2.2.1
  omega
theorem flow_bd {n : Nat} {A : List ArcD} {F : List Int} (h : flowOkV n A F = true) : -64000 ≤ netO (A.zip F) 0 ∧ netO (A.zip F) 0 ≤ 64000 := by
  obtain ⟨hA, hp⟩ := flow_rooms h
  have := netO_bound hp 0
  rw [List.length_zip] at this
  omega
/-- What a search for a way has handed back. -/
def Led (n : Nat) (A : List ArcD) (F : List Int) (X : List (Nat × Nat)) (w : World) (v : Value) : Prop :=
  ∃ L B, w.ownsRow B 83 1 v L.length (L.map ptrV) ∧ ((L = [] ∧ v = .slice none 0 0 ∧ reachedB A F 1 = false) ∨ ∃ ρ, Way A F X 1 ρ L 1 ∧ L.length ≤ n)

set_option maxHeartbeats 2000000 in
theorem implMost (N : Int) (A : List ArcD) (v : Value) (z : Int) (o : Nat → Bool) (m : Nat) (hA : A.length ≤ 2000000) (HZ : Hid (mostS N A = z)) (HO : Hid (mostO N A = o)) (HM : Hid (mostN N A = m)) (w : World) (hv : Arcs w v A) :
    Calls Try.prog 18 #[.agg #[.int .i64 N, v]] w (MostBack w z o m) := by
  have hB := Below.refl (w.alloc (.cells #[.int .i64 N, v] 26)).heap.size (w.alloc (.cells #[.int .i64 N, v] 26))
  obtain ⟨c0, c1⟩ := net_cells hB
  have HV := Lib.hid hv
  clear hv
  cases hn : netOkV N A with
  | false =>
    have HN := Lib.hid hn
    have e1 : z = -1 := by rw [← HZ.out]; unfold mostS; rw [if_neg (by rw [hn]; simp)]
    have e2 : m = 0 := by rw [← HM.out]; unfold mostN; rw [if_neg (by rw [hn]; simp)]
    subst e1 e2
    clear hn
    go_enter Try.func18, Try.ntmps18
    go_wp2_with fail
    refine (implNetOk N A _ false HN _ (by omega) (arcs_on HV.out (below_box hB))).mono ?_
    rintro e w1 ⟨rfl, hb⟩
    replace hB := next_below hB hb
    clear hb c0 c1
    go_wp2_with fail
    go_ret2
    exact ⟨_, rfl, World.ownsRow_nil _ _ _ _, below_box hB⟩
  | true =>
    have HN := Lib.hid hn
    obtain ⟨⟨h2, h15⟩, hA3, hokA⟩ := netOk_out hn
    obtain ⟨n, rfl⟩ : ∃ n : Nat, N = n := ⟨N.toNat, by omega⟩
    have e2 : n = m := by rw [← HM.out]; unfold mostN; rw [if_pos hn, Int.toNat_natCast]
    subst e2
    have HOK := Lib.hid hokA
    have HF0 : Hid (flowOkV n A (List.replicate A.length 0) = true) := Lib.hid (zero_ok hn)
    obtain ⟨i0, hi, hz0, hz1, hz2⟩ := info_parts Try.info3
    obtain ⟨av, cv, rfl, HVV⟩ := arcs_form HV.out
    clear hn hokA HVV
    go_enter Try.func18, Try.ntmps18
    go_wp2_with fail
    refine (implNetOk (n : Int) A _ true HN _ (by omega) (arcs_on HV.out (below_box hB))).mono ?_
    rintro e w1 ⟨rfl, hb⟩
    replace hB := next_below hB hb
    obtain ⟨c0, c1⟩ := net_cells hB
    clear hb
    have hs := hB.size
    rw [World.size_alloc] at hs
    go_upto_region 3 with fail
    obtain ⟨wm, hrun, hrow, hg⟩ := run_make_full (P := Try.prog) w1.drew w1.heap.size 27 3 i0 (.int .i64 0) 1 Try.underlying27 hi hz0 hz1 .i64 .i64 A.length (by rw [hz2]; omega) (by unfold maxLen; omega) (Nat.le_refl _)
    have hBm : Below (w.alloc (.cells #[.int .i64 (n : Int), .slice av A.length cv] 26)).heap.size (w.alloc (.cells #[.int .i64 (n : Int), .slice av A.length cv] 26)) wm := hB.drew.grown hg hB.size (fun j hj => by cases hj)
    obtain ⟨m0, m1⟩ := net_cells hBm
    have hms := hBm.size
    rw [World.size_alloc] at hms
    have hrow0 : wm.ownsRow w1.heap.size 3 1 (.slice (some ⟨w1.heap.size, 0, none⟩) A.length A.length) (List.replicate A.length (0 : Int)).length ((List.replicate A.length 0).map (Value.int .i64)) := by
      have e : (madeCells (Value.int .i64 0).cells (A.length * 1)).toList = (List.replicate A.length 0).map (Value.int .i64) := by
        rw [Nat.mul_one, List.map_replicate]
        exact toList_madeCells_one _ _
      rw [e] at hrow
      rw [List.length_replicate]
      exact hrow
    have HI0 := Lib.hid (ints_of_own hrow0)
    have HBM := Lib.hid hBm
    have HB := Lib.hid hB
    clear hrow hrow0 hg hB hBm
    go_cut [4] from 7 to 15 (fun vr wx => ∃ G S X, vr = .slice (some ⟨G, 0, none⟩) n n ∧ RN (wm.heap.size + 1) wx G n A (List.replicate A.length 0) S X ∧ Below (w.alloc (.cells #[.int .i64 (n : Int), .slice av A.length cv] 26)).heap.size (w.alloc (.cells #[.int .i64 (n : Int), .slice av A.length cv] 26)) wx)
    case first =>
      go_region_with (go_at_call 44; refine (implResidual n A (List.replicate A.length 0) _ _ (by omega) HOK.out hA3 (by simp) (flow_rooms HF0.out).2 _ (arcs_on HV.out (below_box HBM.out)) HI0.out).mono ?_; rintro e w2 ⟨G, S, X, rfl, hR, hb⟩; have HR := Lib.hid hR; have HB2 := Lib.hid hb; clear hR hb)
      all_goals
        go_wp2_with fail
        go_meet
        exact ⟨G, S, X, rfl, HR.out, next_below HBM.out HB2.out⟩
    case rest =>
      clear c0 c1 m0 m1 HB HBM HI0 hrun
      obtain ⟨G, S, X, rfl, hR, hB⟩ := hcut
      have HR := Lib.hid hR
      have HB := Lib.hid hB
      clear hR hB
      go_wp2_with (go_at_call 49; refine (implPath n A _ _ G S X HF0.out _ HR.out).mono ?_; rintro e w5 ⟨L, vp, rfl, hown, hb, hled⟩; have HL := Lib.hid hled; have HOW := Lib.hid hown; have HB5 := Lib.hid hb; clear hled hown hb)
      have hLed : Hid (Led n A (List.replicate A.length 0) X w5 vp) := Lib.hid ⟨L, _, HOW.out, HL.out⟩
      have hR5 := Lib.hid (HR.out.below HB5.out)
      have hBb := Lib.hid (next_below HB.out HB5.out)
      clear HR HB HL HOW HB5
      go_loopw [5, 6] (fun vs vp wr => ∃ F : List Int, vs = .int .i64 (netO (A.zip F) 0) ∧ Hid (flowOkV n A F = true) ∧ Led n A F X wr vp ∧ RN (wm.heap.size + 1) wr G n A F S X ∧ Below (w.alloc (.cells #[.int .i64 (n : Int), .slice av A.length cv] 26)).heap.size (w.alloc (.cells #[.int .i64 (n : Int), .slice av A.length cv] 26)) wr) (fun vs _ _ => (64001 - intOf vs).toNat)
      case atStart => exact ⟨_, by rw [netO_zero], HF0, hLed.out, hR5.out, hBb.out⟩
      case round =>
        clear hLed hR5 hBb
        obtain ⟨F, rfl, HF, ⟨L, Bp, hown, hled⟩, hR, hB⟩ := hrel
        have hfb := flow_bd HF.out
        have HR := Lib.hid hR
        have HB := Lib.hid hB
        have HOW := Lib.hid hown
        rcases hled with ⟨rfl, rfl, hno⟩ | ⟨ρ, hW, hLn⟩
        · have HNO := Lib.hid hno
          have HLF := Lib.hid (flowOk_out HF.out).2.1
          clear hno hR hB hown
          go_wp2_with (go_at_call 45; refine (implFound n A F _ G S _ HN.out hA3 HLF.out _ (HR.out.rg HLF.out HOK.out)).mono ?_; rintro e w9 ⟨vr, rfl, hown, hb⟩; have HOW9 := Lib.hid hown; have HB9 := Lib.hid hb; clear hown hb)
          go_ret2
          obtain ⟨e1, e3⟩ := most_is HF.out HNO.out
          rw [HZ.out] at e1
          rw [HO.out] at e3
          have hwr := HB.out.size
          rw [World.size_alloc] at hwr
          refine ⟨vr, by rw [e1]; rfl, ?_, below_box (next_below HB.out HB9.out)⟩
          rw [← e3]
          exact own_base HOW9.out (by omega)
        · have hL0 : 0 < L.length := by
            cases L with
            | nil => simp [Way] at hW
            | cons b L => simp
          obtain ⟨gp, cp, rfl⟩ := own_at2 hown hL0
          have HW := Lib.hid hW
          have hbs : (w.alloc (.cells #[.int .i64 (n : Int), .slice av A.length cv] 26)).heap.size ≤ wm.heap.size + 1 := by
            rw [World.size_alloc]
            omega
          have HBS := Lib.hid hbs
          clear hW hR hB hown hbs
          go_wp2_with (first
            | (go_at_call 50; refine (implAugment n A F _ G Bp S X ρ L _ HF.out HW.out (by omega) _ HR.out HOW.out).mono ?_; rintro e w6 ⟨U, F', rfl, hU1, hU2, hF', hsz, hR', hb'⟩; have HF' := Lib.hid hF'; have HSZ := Lib.hid hsz; have HR' := Lib.hid hR'; have HB' := Lib.hid hb'; have hw9 : IntKind.i64.wrap (netO (A.zip F) 0 + U) = netO (A.zip F) 0 + U := IntWalk.i64_in _ (by omega); clear hF' hsz hR' hb')
            | (go_at_call 49; refine (implPath n A F' _ G S X HF'.out _ HR'.out).mono ?_; rintro e w5 ⟨L', vp, rfl, hown, hb, hled⟩; have HL := Lib.hid hled; have HOW5 := Lib.hid hown; have HB5 := Lib.hid hb; clear hled hown hb))
          go_roundw
          case rel => exact ⟨F', by rw [HSZ.out], HF', ⟨L', _, HOW5.out, HL.out⟩, HR'.out.below HB5.out, next_below (HB.out.trans (HB'.out.mono HBS.out)) HB5.out⟩
          case measure =>
            have h1 := flow_bd HF'.out
            have h2 := HSZ.out
            simp only [intOf]
            omega

end Go.Proofs.Ytghhlojjjjnogaa
