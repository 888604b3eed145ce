/-
  CONTRACT of the program's Cheapest. No law is proved here.
-/
import Derived.Test.YtobflidianlomaaShortI
import Derived.Test.YtobflidianlomaaBackI
import Derived.Test.YtobflidianlomaaCostI
import Derived.Test.YtobflidianlomaaCheapO
import Derived.Deep.RegionWith
namespace Go.Proofs.Ytobflidianlomaa
set_option maxRecDepth 4096
open Go.ChangeShapes Go.WideShapes Go.ChangeAt Go.RowKit

theorem Feas.congr {P : List (ArcD × Int)} {S : Nat → Prop} {π π' : Nat → Int} (h : Feas P S π) (he : ∀ v, S v → π v = π' v) : Feas P S π' := by
  refine ⟨h.zero, fun u v l hu hs => ?_⟩
  obtain ⟨h1, h2⟩ := h.step u v l hu hs
  exact ⟨h1, by rw [← he u hu, ← he v h1]; exact h2⟩
theorem flow_roomC {n : Nat} {A : List ArcD} {F : List Int} (h : flowOkV n A F = true) : ∀ p ∈ A.zip F, 0 ≤ p.2 ∧ p.2 ≤ 20 := by
  obtain ⟨hn, _, hr, _⟩ := flowOk_out h
  obtain ⟨_, _, hok⟩ := netOk_out hn
  intro p hp
  have h1 := hr p hp
  have h2 := (arcOk_out (hok _ (zip_arc hp))).2.2.2.1
  omega
/-- The numbers that bound the lengths. -/
def Low (P : List (ArcD × Int)) (D : Nat → Int) : Prop := (∃ Sx, Feas P Sx D) ∧ D 0 = 0 ∧ ∀ v, -1500001500 ≤ D v ∧ D v ≤ 1099511627776
section
variable {n : Nat} {A : List ArcD} {F : List Int} {D : Nat → Int}
theorem low_next (hok : flowOkV n A F = true) {S : Nat → Prop} {π : Nat → Int} (hS : Feas (A.zip F) S π) (hD : Labels (A.zip F) D) (h1 : D 1 ≠ 1099511627776) : Low (A.zip (nextF A F n)) D := by
  obtain ⟨hk, _, _, _⟩ := flowOk_out hok
  obtain ⟨⟨h2, h15⟩, _, _⟩ := netOk_out hk
  have hP : Fit (A.zip F) n := fit_of hk
  have hr1 : resB (A.zip F) 1 = true := (isD_res hP hS).2 ⟨_, hD.val h1⟩
  obtain ⟨_, _, h3, _⟩ := next_ok hok hS hr1
  refine ⟨⟨_, h3.congr fun v ⟨d, hd⟩ => ?_⟩, ?_, fun v => ?_⟩
  · rcases hD v with ⟨_, h⟩ | ⟨_, h⟩
    · exact absurd ⟨d, hd⟩ h
    · exact far_is h
  · rcases hD 0 with ⟨_, h⟩ | ⟨_, h⟩
    · exact absurd ⟨_, far_zero hS⟩ h
    · exact h.one (far_zero hS)
  · rcases hD.far hP (by omega) (by omega) v with h | h <;> omega
theorem low_zero (hn : netOkV n A = true) : Low (A.zip (List.replicate A.length 0)) (fun _ => 0) := ⟨⟨_, feas_zero hn⟩, rfl, fun _ => ⟨by show (-1500001500 : Int) ≤ 0; decide, by show (0 : Int) ≤ 1099511627776; decide⟩⟩
theorem label_far (hD : Labels (A.zip F) D) (hn : netOkV n A = true) : D 1 = 1099511627776 ↔ ¬ farV (A.zip F) 1 < 1152921504606846976 := by
  obtain ⟨⟨h2, h15⟩, _, _⟩ := netOk_out hn
  have hP : Fit (A.zip F) n := fit_of hn
  rw [far_lt hP (by omega) (by omega)]
  rcases hD 1 with ⟨h, h'⟩ | ⟨h, h'⟩
  · exact ⟨fun _ => h', fun _ => h⟩
  · exact ⟨fun e => absurd e h, fun e => absurd ⟨_, h'⟩ e⟩
end

/-- One arc of the way takes its unit. -/
theorem unit_step {n m b u : Nat} {A : List ArcD} {F F' : List Int} {X : List (Nat × Nat)} {L : List Nat} {S : Nat → Prop} {π : Nat → Int} (hk : netOkV n A = true) (hS : Feas (A.zip F) S π) (hC : CInv A F u F') (hs : Seg A X (backB (A.zip F)) (b :: L) u 0) (hrk : rkV (A.zip F) u < m + 1) :
    ∃ (i : Nat) (x : ArcD) (y : Int) (c d u1 : Nat), A[i]? = some x ∧ F'[i]? = some y ∧ X[i]? = some (c, d) ∧ 0 ≤ y ∧ y ≤ x.r ∧ rkV (A.zip F) u1 < m ∧ Seg A X (backB (A.zip F)) L u1 0 ∧
      ((b = c ∧ y < x.r ∧ CInv A F u1 (bump F' i 1) ∧ walkB A (backB (A.zip F)) (m + 1) u F' = walkB A (backB (A.zip F)) m u1 (bump F' i 1)) ∨
       (b = d ∧ 0 < y ∧ CInv A F u1 (bump F' i (-1)) ∧ walkB A (backB (A.zip F)) (m + 1) u F' = walkB A (backB (A.zip F)) m u1 (bump F' i (-1)))) := by
  obtain ⟨u', h0, ⟨i, x, c, d, l1, l2, l3⟩, hs'⟩ := hs
  obtain ⟨u1, F1, g1, g2, g3, i2, x2, y, e1, e2, e3, e4, e5⟩ := hC.step hk hS h0 m
  rcases e5 with ⟨f1, f2, f3, f4, rfl⟩ | ⟨f1, f2, f3, f4, rfl⟩
  · rcases l3 with ⟨k1, k2, k3⟩ | ⟨k1, k2, k3⟩
    · obtain rfl : i = i2 := by omega
      rw [l1] at e1
      cases e1
      obtain rfl : u' = u1 := by omega
      exact ⟨i, x, y, c, d, u', l1, e2, l2, e3, e4, by omega, hs', .inl ⟨k2, f4, g2, g3⟩⟩
    · exfalso; omega
  · rcases l3 with ⟨k1, k2, k3⟩ | ⟨k1, k2, k3⟩
    · exfalso; omega
    · obtain rfl : i = i2 := by omega
      rw [l1] at e1
      cases e1
      obtain rfl : u' = u1 := by omega
      exact ⟨i, x, y, c, d, u', l1, e2, l2, e3, e4, by omega, hs', .inr ⟨k2, f4, g2, g3⟩⟩

set_option maxHeartbeats 4000000 in
theorem implCheap (N : Int) (A : List ArcD) (K : Int) (v : Value) (R : List Int) (z : Int) (b : Bool) (hA : A.length ≤ 2000000) (HR : Hid (cheapL N A K = R)) (HZ : Hid (cheapC N A K = z)) (HBB : Hid (cheapB N A K = b)) (w : World) (hv : Arcs w v A) :
    Calls Try.prog 10 #[.agg #[.int .i64 N, v], .int .i64 K] w (CheapBack w R z b) := by
  have hB := Below.refl (w.alloc (.cells #[.int .i64 N, v] 26)).heap.size (w.alloc (.cells #[.int .i64 N, v] 26))
  obtain ⟨c0, c1⟩ := net_cells hB
  have HV := Lib.hid hv
  clear hv
  have hnone : cheapO N A K = none → Hid (R = [] ∧ z = 0 ∧ b = false) := fun h => Lib.hid (by
    obtain ⟨e1, e2, e3⟩ := cheap_no h
    exact ⟨HR.out.symm.trans e1, HZ.out.symm.trans e2, HBB.out.symm.trans e3⟩)
  cases hn : netOkV N A with
  | false =>
    have HN := Lib.hid hn
    obtain ⟨rfl, rfl, rfl⟩ := (hnone (cheapO_net hn)).out
    clear hn hnone
    go_enter Try.func10, Try.ntmps10
    go_wp2_with (go_at_call 32; refine (implNetOk N A _ false HN _ (by omega) (arcs_on HV.out (below_box hB))).mono ?_; rintro e w1 ⟨rfl, hb⟩; have HB1 := Lib.hid (next_below hB hb); clear hb)
    go_ret3
    exact ⟨_, rfl, World.ownsRow_nil _ _ _ _, below_box HB1.out⟩
  | true =>
    have HN := Lib.hid hn
    cases hk : inV K 0 16 with
    | false =>
      have HK := Lib.hid hk
      obtain ⟨rfl, rfl, rfl⟩ := (hnone (cheapO_out fun h => by rw [inV_iff.2 h] at hk; cases hk)).out
      clear hn hnone hk
      go_enter Try.func10, Try.ntmps10
      go_wp2_with (first | (go_at_call 32; refine (implNetOk N A _ true HN _ (by omega) (arcs_on HV.out (below_box hB))).mono ?_; rintro e w1 ⟨rfl, hb⟩; have HB1 := Lib.hid (next_below hB hb); clear hb) | (go_at_call 33; refine (implWithin _ _ _ _ HK _).mono ?_; rintro e w2 ⟨rfl, rfl⟩))
      go_ret3
      exact ⟨_, rfl, World.ownsRow_nil _ _ _ _, below_box HB1.out⟩
    | true =>
      have HK := Lib.hid hk
      obtain ⟨hK0, hK1⟩ := inV_iff.1 hk
      obtain ⟨M, rfl⟩ : ∃ M : Nat, K = M := ⟨K.toNat, by omega⟩
      obtain ⟨⟨h2, h15⟩, hA3, hokA⟩ := netOk_out hn
      obtain ⟨n, rfl⟩ : ∃ n : Nat, N = n := ⟨N.toNat, by omega⟩
      have HOK := Lib.hid hokA
      have HF0 : Hid (flowOkV n A (List.replicate A.length 0) = true) := Lib.hid (zero_ok hn)
      have HOI : Hid (cheapO n A M = cheapF A n M) := Lib.hid (cheapO_is hn (by omega))
      obtain ⟨i0, hi, hz0, hz1, hz2⟩ := info_parts Try.info3
      obtain ⟨av, cv, rfl, HVV⟩ := arcs_form HV.out
      have HNONE := Lib.hid hnone
      clear hn hokA HVV hk hnone
      go_enter Try.func10, Try.ntmps10
      go_wp2_with (first | (go_at_call 32; refine (implNetOk n A _ true HN _ (by omega) (arcs_on HV.out (below_box hB))).mono ?_; rintro e w1 ⟨rfl, hb⟩; have hB1 := next_below hB hb; obtain ⟨m0, m1⟩ := net_cells hB1; clear hb) | (go_at_call 33; refine (implWithin _ _ _ _ HK _).mono ?_; rintro e w2 ⟨rfl, rfl⟩))
      have hs := hB1.size
      rw [World.size_alloc] at hs
      obtain ⟨wm, hrun, hrow, hg⟩ := run_make_full (P := Try.prog) w1.drew w1.heap.size 27 3 i0 (.int .i64 0) 1 Try.underlying27 hi hz0 hz1 .i64 .i64 A.length (by rw [hz2]; omega) (by unfold maxLen; omega) (Nat.le_refl _)
      have hBm : Below (w.alloc (.cells #[.int .i64 (n : Int), .slice av A.length cv] 26)).heap.size (w.alloc (.cells #[.int .i64 (n : Int), .slice av A.length cv] 26)) wm := hB1.drew.grown hg hB1.size (fun j hj => by cases hj)
      obtain ⟨k0, k1⟩ := net_cells hBm
      have hms := hBm.size
      rw [World.size_alloc] at hms
      have hrow0 : wm.ownsRow w1.heap.size 3 1 (.slice (some ⟨w1.heap.size, 0, none⟩) A.length A.length) (List.replicate A.length (0 : Int)).length ((List.replicate A.length 0).map (Value.int .i64)) := by
        have e : (madeCells (Value.int .i64 0).cells (A.length * 1)).toList = (List.replicate A.length 0).map (Value.int .i64) := by
          rw [Nat.mul_one, List.map_replicate]
          exact toList_madeCells_one _ _
        rw [e] at hrow
        rw [List.length_replicate]
        exact hrow
      have HI0 := Lib.hid (ints_of_own hrow0)
      have HBM := Lib.hid hBm
      clear hrow hrow0 hg hBm hB1
      go_cut [7] from 12 to 25 (fun vr wx => ∃ G S X, vr = .slice (some ⟨G, 0, none⟩) n n ∧ RN (wm.heap.size + 1) wx G n A (List.replicate A.length 0) S X ∧ Below (w.alloc (.cells #[.int .i64 (n : Int), .slice av A.length cv] 26)).heap.size (w.alloc (.cells #[.int .i64 (n : Int), .slice av A.length cv] 26)) wx)
      case first =>
        go_region_with (go_at_call 34; refine (implResidual n A (List.replicate A.length 0) _ _ (by omega) HOK.out hA3 (by simp) (flow_roomC HF0.out) _ (arcs_on HV.out (below_box HBM.out)) HI0.out).mono ?_; rintro e w2 ⟨G, S, X, rfl, hR, hb⟩; have HRN := Lib.hid hR; have HB2 := Lib.hid hb; clear hR hb)
        all_goals
          go_wp2_with fail
          go_meet
          exact ⟨G, S, X, rfl, HRN.out, next_below HBM.out HB2.out⟩
      case rest =>
        clear c0 c1 m0 m1 k0 k1 hB HBM HI0 hrun
        obtain ⟨G, S, X, rfl, hR, hB⟩ := hcut
        have hwc := (hR.row.lt _ rfl).2
        have hwm : wm.heap.size + 1 ≤ wc.heap.size := Nat.le_of_lt (Nat.lt_of_le_of_lt (hR.row.lt _ rfl).1 hwc)
        have HRN := Lib.hid hR
        have HB := Lib.hid hB
        have HBS := Lib.hid hB.size
        obtain ⟨c0, c1⟩ := net_cells hB
        clear hR hB hwc
        generalize wm.heap.size = a1 at HRN hwm hms ⊢
        go_wp2_with (at_make; go_loud (refine wpList_make_full _ rfl (.tmp 27) (.tmp 27) 27 rfl wc.heap.size 3 i0 (.int .i64 0) 1 Try.underlying27 hi hz0 hz1 .i64 .i64 n n n rfl rfl rfl rfl (by rw [hz2]; omega) (by unfold maxLen; omega) (Nat.le_refl _) ?_); intro w3 hrow hg3; have HR3 := Lib.hid (made_rowO hrow); have HG3 := Lib.hid hg3; clear hrow hg3)
        have HN3 := Lib.hid (HRN.out.below ⟨HG3.out.os, HG3.out.tape, HG3.out.output, HG3.out.size, fun k hk => HG3.out.block k hk (fun e => by cases e)⟩)
        have HB3 := Lib.hid (HB.out.grown HG3.out HBS.out (fun j hj => by cases hj))
        clear HRN HB HG3 c0 c1
        generalize wc.heap.size = a3 at HR3 hwm HBS ⊢
        have HR3b : Hid (w3.ownsRow (a1 + 1) 3 1 (.slice (some ⟨a3, 0, none⟩) n n) (rowO (fun _ => 0) n).length ((rowO (fun _ => 0) n).map (Value.int .i64))) := Lib.hid (by rw [rowO_len]; exact own_base HR3.out hwm)
        clear HR3
        have hbase : w.heap.size + 1 ≤ a1 + 1 := by omega
        go_loopw [8, 30] (fun vd i wr => ∃ (k : Nat) (F : List Int) (D : Nat → Int), i = .int .i64 k ∧ k ≤ M ∧ Hid (cheapF A n k = some F) ∧ Hid (Low (A.zip F) D) ∧ RN (a1 + 1) wr G n A F S X ∧ wr.ownsRow (a1 + 1) 3 1 vd (rowO D n).length ((rowO D n).map (Value.int .i64)) ∧ Below (w.alloc (.cells #[.int .i64 (n : Int), .slice av A.length cv] 26)).heap.size (w.alloc (.cells #[.int .i64 (n : Int), .slice av A.length cv] 26)) wr) (fun _ i _ => M - (intOf i).toNat)
        case atStart => exact ⟨0, _, _, rfl, Nat.zero_le _, Lib.hid rfl, Lib.hid (low_zero HN.out), HN3.out, HR3b.out, HB3.out⟩
        case round =>
          clear HR3b HN3 HB3 HF0
          obtain ⟨k, F, D, rfl, hk, HCF, HLOW, hR, hown, hB⟩ := hrel
          obtain ⟨hok, hsz, Sπ, π, hfe⟩ := cheap_ok HN.out HCF.out
          have HFL := Lib.hid (flowOk_out hok).2.1
          have HOKF := Lib.hid hok
          have HFE := Lib.hid hfe
          obtain ⟨c0, c1⟩ := net_cells hB
          have HRN := Lib.hid hR
          have HB := Lib.hid hB
          clear hok hfe hsz hR hB
          by_cases hlt : k < M
          · have hlt2 : (k : Int) < (M : Int) := by omega
            obtain ⟨ad, cd, rfl⟩ := own_form hown
            have HIN := Lib.hid (ints_of_own hown)
            have hwr : a1 + 1 ≤ wr.heap.size := Nat.le_of_lt (Nat.lt_of_le_of_lt (HRN.out.row.lt _ rfl).1 (HRN.out.row.lt _ rfl).2)
            clear hown
            obtain ⟨⟨Sx, hSx⟩, hD0, hDb⟩ := HLOW.out
            have HSX := Lib.hid hSx
            have HD0 := Lib.hid hD0
            have HDB := Lib.hid hDb
            clear hSx hD0 hDb
            have hn2 : (1 : Int) < (n : Int) := by omega
            go_wp2_with fail
            refine (implDistances n A F (a1 + 1) G S X Sx D _ HN.out HFL.out HSX.out HD0.out HDB.out _ HRN.out HIN.out).mono ?_
            rintro e w4 ⟨D', g', rfl, hown', hlab, hb⟩
            have d1 := own_num hown' (by omega : 1 < n)
            have hbs := hb.size
            have hown4 := own_base hown' (Nat.le_trans hwr (Nat.le_refl _))
            have HLAB : Hid (Labels (A.zip F) D') := Lib.hid hlab
            have HR4 := Lib.hid (HRN.out.below hb)
            have HB4 := Lib.hid (next_below HB.out hb)
            have hs4 := HB4.out.size
            rw [World.size_alloc] at hs4
            obtain ⟨c0, c1⟩ := net_cells HB4.out
            have hfar := label_far HLAB.out HN.out
            have HFAR := Lib.hid hfar
            have HO4 := Lib.hid hown4
            have HI4 : Hid (Ints w4 (.slice (some ⟨g', 0, none⟩) n n) (rowO D' n)) := Lib.hid (by
              have h := ints_of_own (L := rowO D' n) (by rw [rowO_len]; exact hown4)
              exact h)
            clear hown' hlab hb hfar hown4 HRN HB HIN HSX HD0 HDB
            generalize hd1 : D' 1 = s1 at d1
            have HS1 := Lib.hid hd1
            clear hd1
            cases hq : (s1 == 1099511627776) with
            | true =>
              have HQ := Lib.hid hq
              have hno : cheapF A n M = none := cheapF_stop HCF.out (HFAR.out.1 (by rw [HS1.out]; simpa using HQ.out)) hlt
              obtain ⟨rfl, rfl, rfl⟩ := (HNONE.out (by rw [HOI.out, hno])).out
              clear hno
              go_wp2_with fail
              go_ret3
              exact ⟨_, rfl, World.ownsRow_nil _ _ _ _, below_box HB4.out⟩
            | false =>
              have HQ := Lib.hid hq
              have HD1 : Hid (D' 1 ≠ 1099511627776) := Lib.hid (by rw [HS1.out]; simpa using HQ.out)
              go_wp2_with fail
              refine (implShort n A F (a1 + 1) G S X D' _ HN.out HFL.out HLAB.out HD1.out _ HR4.out HI4.out).mono ?_
              rintro e w5 ⟨L, vp, rfl, hownp, hseg, hll, hb5⟩
              obtain ⟨ap, cp, hvp⟩ := own_form hownp
              subst hvp
              have HSEG := Lib.hid hseg
              have HP5 : Hid (w5.ownsRow (a1 + 1) 62 1 (.slice ap L.length cp) L.length (L.map ptrV)) := Lib.hid (own_base hownp (by omega))
              have HO5 := Lib.hid (HO4.out.kept (below_grownC hb5) (ne_noneC _))
              have HR5 := Lib.hid (HR4.out.below hb5)
              have HB5 := Lib.hid (next_below HB4.out hb5)
              have hr1 : resB (A.zip F) 1 = true := (isD_res (fit_of HN.out) HFE.out).2 ⟨_, HLAB.out.val HD1.out⟩
              have HC1 := Lib.hid (CInv.start HOKF.out hr1)
              have hrk1 := rk_lt (fit_of (F := F) HN.out) (by omega) (by omega) (HLAB.out.val HD1.out)
              clear hownp hseg hb5 hr1 HI4 HO4 HR4 HB4 d1 c0 c1 hq
              go_wp2_with fail
              go_loopw [43] (fun i wq => ∃ (j u : Nat) (F' : List Int), i = .int .i64 j ∧ j ≤ L.length ∧ Hid (Seg A X (backB (A.zip F)) (L.drop j) u 0) ∧ Hid (CInv A F u F') ∧ Hid (walkB A (backB (A.zip F)) (n - j) u F' = nextF A F n) ∧ rkV (A.zip F) u < n - j ∧ RN (a1 + 1) wq G n A F' S X ∧ wq.ownsRow (a1 + 1) 3 1 (.slice (some ⟨g', 0, none⟩) n n) n ((rowO D' n).map (Value.int .i64)) ∧ wq.ownsRow (a1 + 1) 62 1 (.slice ap L.length cp) L.length (L.map ptrV) ∧ Below (w.alloc (.cells #[.int .i64 (n : Int), .slice av A.length cv] 26)).heap.size (w.alloc (.cells #[.int .i64 (n : Int), .slice av A.length cv] 26)) wq) (fun i _ => L.length - (intOf i).toNat)
              case atStart => exact ⟨0, 1, F, rfl, Nat.zero_le _, HSEG, HC1, Lib.hid rfl, by omega, HR5.out, HO5.out, HP5.out, HB5.out⟩
              case round =>
                clear HSEG HC1 HR5 HO5 HP5 HB5
                obtain ⟨j, u, F', rfl, hj, HSG, HCI, HWK, hrk, hR, hO, hP, hB⟩ := hrel
                by_cases hjl : j < L.length
                · obtain ⟨b1, hb1⟩ : ∃ b1, L[j]? = some b1 := ⟨_, List.getElem?_eq_getElem hjl⟩
                  have hdr : L.drop j = b1 :: L.drop (j + 1) := by
                    obtain ⟨hi, hh⟩ := List.getElem?_eq_some_iff.1 hb1
                    rw [← hh]
                    exact List.drop_eq_getElem_cons hi
                  obtain ⟨gp, cp', hap⟩ := own_at2 hP (by omega)
                  injection hap with hap1 _ hap2
                  subst hap1 hap2
                  have d0 := own_ptr hP hb1
                  have hsg := HSG.out
                  rw [hdr] at hsg
                  obtain ⟨m1, hm1⟩ : ∃ m1, n - j = m1 + 1 := ⟨n - j - 1, by omega⟩
                  have hwk := HWK.out
                  rw [hm1] at hrk hwk
                  obtain ⟨i, x, y, c, d, u1, hx, hy, hc, hy0, hyr, hrk1', hsg1, hcase⟩ := unit_step HN.out HFE.out HCI.out hsg hrk
                  have hm2 : n - (j + 1) = m1 := by omega
                  have hxr := (arcOk_out (HOK.out _ (List.mem_of_getElem? hx))).2.2.2.1
                  have hcd := (hR.box.apart i i c d c d hc hc).1
                  obtain ⟨hb1', hb2'⟩ := hR.box.box i x y c d hx hy hc
                  have hjl2 : (j : Int) < (L.length : Int) := by omega
                  have HX := Lib.hid hx
                  have HY := Lib.hid hy
                  have HC := Lib.hid hc
                  have HRq := Lib.hid hR
                  have HOq := Lib.hid hO
                  have HPq := Lib.hid hP
                  have HBq := Lib.hid hB
                  have HB1 := Lib.hid hb1'
                  have HB2 := Lib.hid hb2'
                  have HS1' := Lib.hid hsg1
                  have HWK' := Lib.hid hwk
                  have HM2 := Lib.hid hm2
                  have hsz : (w.alloc (.cells #[.int .i64 (n : Int), .slice av A.length cv] 26)).heap.size ≤ a1 + 1 := by rw [World.size_alloc]; exact hbase
                  have HSZ := Lib.hid hsz
                  clear hx hy hc hR hO hP hB hb1' hb2' hsg1 hb1 hdr hsg hwk hm1 hm2 hsz
                  rcases hcase with ⟨rfl, hroom, hCI, hW⟩ | ⟨rfl, hroom, hCI, hW⟩
                  · have HCI2 := Lib.hid hCI
                    have HW2 := Lib.hid (hW.symm.trans HWK'.out)
                    clear hCI hW
                    go_wp2_with (go_at_call 37; refine (implTake b1 d x.f (x.r - y) x.c x.t y (-x.c) 1 hcd (IntWalk.i64_in _ (by omega)) (IntWalk.i64_in _ (by omega)) _ HB1.out HB2.out).mono ?_; rintro e w' ⟨rfl, hw'⟩; have HW9 := Lib.hid hw'; clear hw')
                    go_roundw
                    case rel =>
                      obtain ⟨r1, r2, r3⟩ := HRq.out.fwd 1 HX.out HY.out HC.out HW9.out
                      exact ⟨j + 1, u1, _, by go_num, by omega, HS1', HCI2, Lib.hid (by rw [HM2.out]; exact HW2.out), by rw [HM2.out]; exact hrk1', r1, r2 HOq.out (by decide), r2 HPq.out (by decide), HBq.out.trans ((r3 _ (Below.refl _ _)).mono HSZ.out)⟩
                    case measure => simp [intOf]; omega
                  · have HCI2 := Lib.hid hCI
                    have HW2 := Lib.hid (hW.symm.trans HWK'.out)
                    clear hCI hW
                    go_wp2_with (go_at_call 37; refine (implTake b1 c x.t y (-x.c) x.f (x.r - y) x.c 1 (fun e => hcd e.symm) (IntWalk.i64_in _ (by omega)) (IntWalk.i64_in _ (by omega)) _ HB2.out HB1.out).mono ?_; rintro e w' ⟨rfl, hw'⟩; have HW9 := Lib.hid hw'; clear hw')
                    go_roundw
                    case rel =>
                      obtain ⟨r1, r2, r3⟩ := HRq.out.bwd 1 HX.out HY.out HC.out HW9.out
                      exact ⟨j + 1, u1, _, by go_num, by omega, HS1', HCI2, Lib.hid (by rw [HM2.out]; exact HW2.out), by rw [HM2.out]; exact hrk1', r1, r2 HOq.out (by decide), r2 HPq.out (by decide), HBq.out.trans ((r3 _ (Below.refl _ _)).mono HSZ.out)⟩
                    case measure => simp [intOf]; omega
                · obtain rfl : j = L.length := by omega
                  have hsg := HSG.out
                  rw [List.drop_length] at hsg
                  have hu : u = 0 := hsg
                  subst hu
                  have hF' := HWK.out
                  rw [walkB_zero] at hF'
                  subst hF'
                  have hnext : cheapF A n (k + 1) = some (nextF A F n) := cheapF_on HCF.out ((far_lt (fit_of HN.out) (by omega) (by omega)).2 ⟨_, HLAB.out.val HD1.out⟩)
                  have HNX := Lib.hid hnext
                  have HLW := Lib.hid (low_next HOKF.out HFE.out HLAB.out HD1.out)
                  have HRq := Lib.hid hR
                  have HOq := Lib.hid hO
                  have HBq := Lib.hid hB
                  clear hsg hnext hR hO hP hB
                  go_wp2_with fail
                  go_roundw
                  case rel => exact ⟨k + 1, _, D', by go_num, by omega, HNX, HLW, HRq.out, by rw [rowO_len]; exact HOq.out, HBq.out⟩
                  case measure => simp [intOf]; omega
          · obtain rfl : k = M := by omega
            have hcy := cheap_yes (HOI.out.trans HCF.out)
            obtain rfl : F = R := hcy.1.symm.trans HR.out
            obtain rfl : z = costO (A.zip F) := HZ.out.symm.trans hcy.2.1
            obtain rfl : b = true := HBB.out.symm.trans hcy.2.2
            have HFC : Hid (flowCostV n A F = costO (A.zip F)) := Lib.hid (if_pos HOKF.out)
            clear hcy hown
            go_wp2_with (first
              | (go_at_call 38; refine (implFlowOf n A F (a1 + 1) G S X _ HN.out HFL.out (flow_roomC HOKF.out) _ HRN.out (arcs_on HV.out (below_box HB.out))).mono ?_; rintro e w6 ⟨vf, rfl, hownf, hb6⟩; have HI6 := Lib.hid (ints_of_own hownf); have HO6 := Lib.hid hownf; have HB6 := Lib.hid (next_below HB.out hb6); obtain ⟨c0, c1⟩ := net_cells HB6.out; clear hownf hb6)
              | (go_at_call 12; refine (implFlowCost n A F _ _ (costO (A.zip F)) (by omega) (by rw [HFL.out]; omega) HFC _ (arcs_on HV.out (below_box HB6.out)) HI6.out).mono ?_; rintro e w7 ⟨rfl, hb7⟩; have HB7 := Lib.hid hb7; clear hb7))
            go_ret3
            have hws := HB.out.size
            rw [World.size_alloc] at hws
            exact ⟨_, rfl, own_base (HO6.out.kept (below_grownC HB7.out) (ne_noneC _)) (by omega), below_box (next_below HB6.out HB7.out)⟩

end Go.Proofs.Ytobflidianlomaa
