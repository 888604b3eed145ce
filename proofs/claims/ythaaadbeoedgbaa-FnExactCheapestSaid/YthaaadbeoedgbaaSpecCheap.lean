/-
  CONTRACTS of spec.Cheapest and spec.LeastCost. No law is proved here.
-/
import Derived.Test.YthaaadbeoedgbaaCheapO
import Derived.Test.YthaaadbeoedgbaaSpecBack
import Derived.Test.YthaaadbeoedgbaaSpecCost
import Derived.OwnWalk
namespace Go.Proofs.Ythaaadbeoedgbaa
set_option maxRecDepth 4096
open Go.ChangeShapes Go.WideShapes Go.ChangeAt Go.RowKit

set_option maxHeartbeats 4000000 in
theorem specCheap (N : Int) (A : List ArcD) (K : Int) (v : Value) (R : List Int) (z : Int) (b : Bool) (hA : A.length ≤ 2000000) (HR : Hid (cheapL N A K = R)) (HZ : Hid (cheapC N A K = z)) (HBB : Hid (cheapB N A K = b)) (w : World) (hv : Arcs w v A) :
    Calls Try.prog 15 #[.agg #[.int .i64 N, v], .int .i64 K] w (CheapBack w R z b) := by
  have hB := Below.refl (w.alloc (.cells #[.int .i64 N, v] 26)).heap.size (w.alloc (.cells #[.int .i64 N, v] 26))
  obtain ⟨c0, c1⟩ := net_cells hB
  have HV := Lib.hid hv
  clear hv
  cases hn : netOkV N A with
  | false =>
    have HN := Lib.hid hn
    obtain ⟨e1, e2, e3⟩ := cheap_no (cheapO_net (K := K) hn)
    rw [HR.out] at e1
    rw [HZ.out] at e2
    rw [HBB.out] at e3
    subst e1 e2 e3
    clear hn
    go_enter Try.func15, Try.ntmps15
    go_wp2_with fail
    refine (specNetOk N A _ false HN _ (by omega) (arcs_on HV.out (below_box hB))).mono ?_
    rintro e w1 ⟨rfl, hb⟩
    replace hB := next_below hB hb
    have hs := hB.size
    rw [World.size_alloc] at hs
    clear hb c0 c1
    go_wp2_with fail
    go_ret3
    exact ⟨_, rfl, World.ownsRow_made (base := w.heap.size) (e := 3) (size := 1) w1 #[] 0 (by omega) (by decide) rfl, below_box (hB.alloc hB.size _)⟩
  | true =>
    have HN := Lib.hid hn
    obtain ⟨⟨h2, h15⟩, hA3, _⟩ := netOk_out hn
    obtain ⟨n, rfl⟩ : ∃ n : Nat, N = n := ⟨N.toNat, by omega⟩
    cases hk : inV K 0 16 with
    | false =>
      have HK := Lib.hid hk
      obtain ⟨e1, e2, e3⟩ := cheap_no (cheapO_out (N := n) (A := A) (K := K) (fun h => by rw [inV_iff.2 h] at hk; cases hk))
      rw [HR.out] at e1
      rw [HZ.out] at e2
      rw [HBB.out] at e3
      subst e1 e2 e3
      clear hn hk
      go_enter Try.func15, Try.ntmps15
      go_wp2_with (first
        | (go_at_call 37; refine (specNetOk n A _ true HN _ (by omega) (arcs_on HV.out (below_box hB))).mono ?_; rintro e w1 ⟨rfl, hb⟩; go_loud (have hB1 := next_below hB hb); clear hb)
        | (go_at_call 38; refine (l01In _ _ _ _ HK _).mono ?_; rintro e w2 ⟨rfl, rfl⟩))
      have hs := hB1.size
      rw [World.size_alloc] at hs
      go_ret3
      exact ⟨_, rfl, World.ownsRow_made (base := w.heap.size) (e := 3) (size := 1) w1 #[] 0 (by omega) (by decide) rfl, below_box (hB1.alloc hB1.size _)⟩
    | true =>
      have HK := Lib.hid hk
      obtain ⟨hK0, hK1⟩ := inV_iff.1 hk
      obtain ⟨M, rfl⟩ : ∃ M : Nat, K = M := ⟨K.toNat, by omega⟩
      obtain ⟨i0, hi, hz0, hz1, hz2⟩ := info_parts Try.info3
      obtain ⟨av, cv, rfl, HVV⟩ := arcs_form HV.out
      have HVh := Lib.hid HVV
      clear HVV
      have HOI : Hid (cheapO n A M = cheapF A n M) := Lib.hid (cheapO_is hn (by omega))
      clear hn hk
      go_enter Try.func15, Try.ntmps15
      go_wp2_with (first
        | (go_at_call 37; refine (specNetOk n A _ true HN _ (by omega) (arcs_on HV.out (below_box hB))).mono ?_; rintro e w1 ⟨rfl, hb⟩; go_loud (have hB1 := next_below hB hb); go_loud (obtain ⟨m0, m1⟩ := net_cells hB1); clear hb)
        | (go_at_call 38; refine (l01In _ _ _ _ HK _).mono ?_; rintro e w2 ⟨rfl, rfl⟩)
        | (at_make; go_loud (refine wpList_make_full _ rfl (.tmp 25) (.tmp 25) 31 rfl (w.heap.size + 1) 3 i0 (.int .i64 0) 1 Try.underlying31 hi hz0 hz1 .i64 .i64 A.length A.length A.length rfl rfl rfl rfl (by rw [hz2]; omega) (by unfold maxLen; omega) (by have := hB1.size; rw [World.size_alloc] at this; exact this) ?_); intro w3 hrow hg3; have HR3 := Lib.hid hrow; have HB3 := Lib.hid (hB1.grown hg3 hB1.size (fun j hj => (by cases hj))); clear hrow hg3))
      have HF0 : Hid (World.ownsRow w3 (w.heap.size + 1) 3 1 (.slice (some ⟨w1.heap.size, 0, none⟩) A.length A.length) A.length ((List.replicate A.length (0 : Int)).map (Value.int .i64))) := Lib.hid (by
        have e : (madeCells (Value.int .i64 0).cells (A.length * 1)).toList = (List.replicate A.length 0).map (Value.int .i64) := by
          rw [Nat.mul_one, List.map_replicate]
          exact toList_madeCells_one _ _
        have h := HR3.out
        rw [e] at h
        exact h)
      clear HR3 hB hB1 c0 c1 m0 m1
      go_loopw [7, 8] (fun va i wr => ∃ (k : Nat) (F : List Int), i = .int .i64 k ∧ k ≤ M ∧ Hid (cheapF A n k = some F) ∧ wr.ownsRow (w.heap.size + 1) 3 1 va F.length (F.map (Value.int .i64)) ∧ Below (w.alloc (.cells #[.int .i64 (n : Int), .slice av A.length cv] 26)).heap.size (w.alloc (.cells #[.int .i64 (n : Int), .slice av A.length cv] 26)) wr) (fun _ i _ => M - (intOf i).toNat)
      case atStart => exact ⟨0, _, rfl, Nat.zero_le _, Lib.hid rfl, by rw [List.length_replicate]; exact HF0.out, HB3.out⟩
      case round =>
        clear HF0 HB3
        obtain ⟨k, F, rfl, hk, HCF, hown, hB⟩ := hrel
        obtain ⟨c0, c1⟩ := net_cells hB
        obtain ⟨hok, hsz, S, π, hfe⟩ := cheap_ok HN.out HCF.out
        have hFl := (flowOk_out hok).2.1
        have HFL := Lib.hid hFl
        have HOKF := Lib.hid hok
        have HFE := Lib.hid hfe
        have HOW := Lib.hid hown
        obtain ⟨af, cf, rfl⟩ := own_form hown
        have HIF := Lib.hid (ints_of_own hown)
        have HB := Lib.hid hB
        have hbs : w.heap.size + 1 ≤ wr.heap.size := by have := hB.size; rw [World.size_alloc] at this; exact this
        clear hok hfe hown hFl hB hsz
        by_cases hlt : k < M
        · have hlt2 : (k : Int) < (M : Int) := by omega
          go_wp2_with fail
          refine (specFar n A F _ _ S π HOKF.out HFE.out _ (arcs_on HV.out (below_box HB.out)) HIF.out).mono ?_
          rintro e w4 ⟨vd, rfl, hownd, hb⟩
          rw [rowO_len] at hownd
          obtain ⟨gd, cd, rfl⟩ := own_atC hownd (by omega)
          have hd1 := own_num hownd (by omega : 1 < n)
          have HOD := Lib.hid hownd
          have HB4 := Lib.hid (next_below HB.out hb)
          have HO4 := Lib.hid (HOW.out.kept (below_grownC hb) (ne_noneC _))
          have h4s := hb.size
          obtain ⟨c0, c1⟩ := net_cells HB4.out
          have hn2 : (1 : Int) < (n : Int) := by omega
          clear hownd hb
          by_cases hfar : farV (A.zip F) 1 < 1152921504606846976
          · generalize hsf : farV (A.zip F) 1 = sf at hd1 hfar
            have HSF := Lib.hid hsf
            clear hsf
            have HRS : Hid (resB (A.zip F) 1 = true) := Lib.hid ((isD_res (fit_of HN.out) HFE.out).2 ((far_lt (fit_of HN.out) (by omega) (by omega)).1 (by rw [HSF.out]; exact hfar)))
            have hA0 : 0 < A.length := arcs_pos HRS.out
            have hFl := HFL.out
            obtain ⟨gf, cf', haf⟩ := own_atC HO4.out (by omega)
            injection haf with haf _ hcf
            subst haf hcf
            have hFb : F.length ≤ 3200 := by omega
            clear hFl
            have HE0 := Lib.hid (World.ownsRow_made (base := w4.heap.size) (e := 3) (size := 1) w4 #[] 0 (Nat.le_refl _) (by decide) rfl)
            have HC4 : Hid (∀ j u, (F.map (Value.int .i64))[j]? = some u → (w4.alloc (.cells #[] 3)).cell? ((⟨gf, 0, none⟩ : Addr).add j) = some u) := Lib.hid (fun j u h => by
              have hadd : (⟨gf, 0, none⟩ : Addr).add j = ⟨gf, j, none⟩ := by unfold Addr.add; split <;> simp_all
              have h1 := HO4.out.cells (g := gf) rfl j u h
              rw [hadd] at h1 ⊢
              exact (((Below.refl w4.heap.size w4).alloc (Nat.le_refl _) _).cell (p := ⟨gf, j, none⟩) (HO4.out.lt gf rfl).2).trans h1)
            go_wp2_with (at_builtin; go_loud (refine wpList_append_own _ rfl _ _ 31 rfl w4.heap.size 3 i0 (.int .i64 0) 1 8 Try.underlying31 hi hz0 hz1 hz2 rfl (by decide) _ _ _ rfl HE0.out ⟨gf, 0, none⟩ F.length _ (F.map (Value.int .i64)) rfl (by simp) HC4.out (ints_one _) (by unfold maxLen; omega) (by omega) (by simp) ?_); intro vn w6 hown6 hgrow6 _; have HN6 := Lib.hid hown6; have HG6 := Lib.hid hgrow6; clear hown6 hgrow6)
            have hgf4 : gf < w4.heap.size := (HO4.out.lt gf rfl).2
            have hgd4 : gd < w4.heap.size := (HOD.out.lt gd rfl).2
            have HCM0 : Hid (CM w n (.slice av A.length cv) w4.heap.size (.slice (some ⟨gf, 0, none⟩) F.length cf) F (.slice (some ⟨gd, 0, none⟩) n cd) (farV (A.zip F)) vn F.length F w6) := Lib.hid (by
              have h4 := HB4.out.size
              rw [World.size_alloc] at h4
              refine ⟨(HO4.out.alloc _).kept HG6.out (.inr (fun e => by have e2 : gf = w4.heap.size := Option.some.inj e; omega)), fun k e => by have e2 : gf = k := Option.some.inj e; omega, ?_, fun k e => by have e2 : gd = k := Option.some.inj e; omega, by simpa using HN6.out, by omega, (HB4.out.alloc HB4.out.size _).grown HG6.out (HB4.out.alloc HB4.out.size _).size (fun j e => by have e2 : j = w4.heap.size := (Option.some.inj e).symm; rw [World.size_alloc]; omega)⟩
              rw [rowO_len]
              exact (own_base (HOD.out.alloc _) (by omega)).kept HG6.out (.inr (fun e => by have e2 : gd = w4.heap.size := Option.some.inj e; omega)))
            obtain ⟨gn, cn, rfl⟩ := own_atC HCM0.out.next (by have := HFL.out; omega)
            have HCI0 : Hid (CInv A F 1 F) := Lib.hid (CInv.start HOKF.out HRS.out)
            have hrk1 := (cinv_lt HN.out HFE.out HCI0.out).2
            generalize w4.heap.size = Bn at HCM0 ⊢
            clear HN6 HG6 HE0 HC4 HOD HO4 HB4 hd1 c0 c1 h4s hgf4 hgd4 HOW HIF HB
            go_loopw [11, 12] (fun vv st wx => ∃ (u s : Nat) (F' : List Int), vv = .int .i64 u ∧ st = .int .i64 s ∧ Hid (CInv A F u F') ∧ rkV (A.zip F) u + s < n ∧ Hid (walkB A (backB (A.zip F)) (n - s) u F' = nextF A F n) ∧ CM w n (.slice av A.length cv) Bn (.slice (some ⟨gf, 0, none⟩) F.length cf) F (.slice (some ⟨gd, 0, none⟩) n cd) (farV (A.zip F)) (.slice (some ⟨gn, 0, none⟩) F.length cn) F.length F' wx) (fun _ st _ => n - (intOf st).toNat)
            case atStart => exact ⟨1, 0, F, rfl, rfl, HCI0, by omega, Lib.hid rfl, HCM0.out⟩
            case round =>
              clear HCM0 HCI0 hrk1
              obtain ⟨u, st, F', rfl, rfl, HCI, hrk, HWK, hCM⟩ := hrel
              obtain ⟨c0, c1⟩ := net_cells hCM.below
              have hst2 : (st : Int) < (n : Int) := by omega
              by_cases h0 : u = 0
              · subst h0
                have HCM := Lib.hid hCM
                have e : F' = nextF A F n := by rw [← HWK.out, walkB_zero]
                have HNX : Hid (cheapF A n (k + 1) = some F') := Lib.hid (by rw [e]; exact cheapF_on HCF.out (by rw [HSF.out]; exact hfar))
                have HL2 : Hid (F'.length = F.length) := Lib.hid (by rw [HCI.out.w.len, HFL.out])
                clear hCM e hrk
                go_wp2_with fail
                go_roundw
                case rel =>
                  refine ⟨k + 1, F', by go_num, by omega, HNX, ?_, HCM.out.below⟩
                  rw [HL2.out]
                  exact own_base HCM.out.next HCM.out.lo
                case measure => simp [intOf]; omega
              · have hu0 : ((u : Int) != 0) = true := by simp; omega
                have hun := (cinv_lt HN.out HFE.out HCI.out).1
                have hrk0 := cinv_rk HN.out HFE.out HCI.out h0
                obtain ⟨u', F'', hrk', hCI', hwk', i, x, y, hx, hy, hy0, hyr, hcase⟩ := HCI.out.step HN.out HFE.out h0 (n - st - 1)
                have HWK2 : Hid (walkB A (backB (A.zip F)) (n - (st + 1)) u' F'' = nextF A F n) := Lib.hid (by
                  rw [show n - st - 1 + 1 = n - st by omega, HWK.out] at hwk'
                  rw [show n - (st + 1) = n - st - 1 by omega]
                  exact hwk'.symm)
                have HCI2 := Lib.hid hCI'
                have HCM := Lib.hid hCM
                have hil : i < F'.length := (List.getElem?_eq_some_iff.1 hy).1
                have hila : i < A.length := (List.getElem?_eq_some_iff.1 hx).1
                have hxr := (arcOk_out ((netOk_out HN.out).2.2 _ (List.mem_of_getElem? hx))).2.2.2.1
                have HX := Lib.hid hx
                have HY := Lib.hid hy
                have hilF : (i : Int) < (F.length : Int) := by have := HFL.out; omega
                have hilA : (i : Int) < (A.length : Int) := by omega
                have hnu : ¬ (u : Int) = 0 := by omega
                clear hCM hwk' hCI' hx hy
                go_wp2_with fail
                rcases hcase with ⟨hbk, hxf, hxt, hroom, hF''⟩ | ⟨hbk, hxt, hxf, hroom, hF''⟩
                · have HBK : Hid (backI (farV (A.zip F)) u (A.zip F) 0 = (i : Int) + 1) := Lib.hid hbk
                  have hsm := far_small (fit_of (F := F) HN.out) (by omega) (by omega)
                  refine (specBack n A F _ u _ _ _ _ HOKF.out hsm hun HBK _ (arcs_on HV.out (below_box HCM.out.below)) (ints_of_own HCM.out.flow) (by have h := HCM.out.dist; exact ints_of_own h)).mono ?_
                  rintro e w7 ⟨rfl, hb⟩
                  have HC7 := Lib.hid (HCM.out.on hb)
                  clear hb hsm HCM c0 c1
                  obtain ⟨c0, c1⟩ := net_cells HC7.out.below
                  rcases HVh.out with h9 | ⟨g, rfl, hgl, hc⟩
                  · omega
                  · obtain ⟨d0, d1, _, _⟩ := hc i x HX.out
                    have dn := own_int HC7.out.next HY.out
                    have f1 := HC7.out.next.frozenAt i
                    have HSN := Lib.hid (HC7.out.set i (y + 1))
                    obtain ⟨k0, k1⟩ := net_cells HSN.out.below
                    have e0 := ((below_box HSN.out.below).cell (p := ⟨g, _, none⟩) hgl).trans d0
                    rw [hxf] at e0
                    have HFB : Hid (F'.set i (y + 1) = F'') := Lib.hid (by rw [hF'', bump_set 1 HY.out])
                    have hz : (0 : Int) < (i : Int) + 1 := by omega
                    have hw1 : IntKind.i64.wrap ((i : Int) + 1 - 1) = (i : Int) := by rw [show (i : Int) + 1 - 1 = i by omega]; exact IntWalk.i64_in _ (by omega)
                    have hw2 : IntKind.i64.wrap (i : Int) = (i : Int) := IntWalk.i64_in _ (by omega)
                    have hw3 : IntKind.i64.wrap (y + 1) = y + 1 := IntWalk.i64_in _ (by omega)
                    have hw4 : IntKind.i64.wrap ((st : Int) + 1) = (st : Int) + 1 := IntWalk.i64_in _ (by omega)
                    clear hc d0 d1 hbk hxf hxt hroom hF''
                    go_wp2_with fail
                    go_roundw
                    case rel =>
                      rw [HFB.out] at HSN
                      exact ⟨u', st + 1, F'', rfl, by go_num, HCI2, by omega, HWK2, HSN.out⟩
                    case measure => simp [intOf]; omega
                · have HBK : Hid (backI (farV (A.zip F)) u (A.zip F) 0 = -(i : Int) - 1) := Lib.hid hbk
                  have hsm := far_small (fit_of (F := F) HN.out) (by omega) (by omega)
                  refine (specBack n A F _ u _ _ _ _ HOKF.out hsm hun HBK _ (arcs_on HV.out (below_box HCM.out.below)) (ints_of_own HCM.out.flow) (by have h := HCM.out.dist; exact ints_of_own h)).mono ?_
                  rintro e w7 ⟨rfl, hb⟩
                  have HC7 := Lib.hid (HCM.out.on hb)
                  clear hb hsm HCM c0 c1
                  obtain ⟨c0, c1⟩ := net_cells HC7.out.below
                  rcases HVh.out with h9 | ⟨g, rfl, hgl, hc⟩
                  · omega
                  · obtain ⟨d0, d1, _, _⟩ := hc i x HX.out
                    have dn := own_int HC7.out.next HY.out
                    have f1 := HC7.out.next.frozenAt i
                    have HSN := Lib.hid (HC7.out.set i (y - 1))
                    obtain ⟨k0, k1⟩ := net_cells HSN.out.below
                    have e1 := ((below_box HSN.out.below).cell (p := ⟨g, _, none⟩) hgl).trans d1
                    rw [hxt] at e1
                    have HFB : Hid (F'.set i (y - 1) = F'') := Lib.hid (by rw [hF'', bump_set (-1) HY.out]; rfl)
                    have hz : ¬ (0 : Int) < -(i : Int) - 1 := by omega
                    have hz2 : -(i : Int) - 1 < 0 := by omega
                    have hw0 : IntKind.i64.wrap (-(-(i : Int) - 1)) = (i : Int) + 1 := by rw [show -(-(i : Int) - 1) = (i : Int) + 1 by omega]; exact IntWalk.i64_in _ (by omega)
                    have hw9 : IntKind.i64.wrap (1 + (i : Int)) = (i : Int) + 1 := by rw [Int.add_comm]; exact IntWalk.i64_in _ (by omega)
                    have hw1 : IntKind.i64.wrap ((i : Int) + 1 - 1) = (i : Int) := by rw [show (i : Int) + 1 - 1 = i by omega]; exact IntWalk.i64_in _ (by omega)
                    have hw2 : IntKind.i64.wrap (i : Int) = (i : Int) := IntWalk.i64_in _ (by omega)
                    have hw3 : IntKind.i64.wrap (y - 1) = y - 1 := IntWalk.i64_in _ (by omega)
                    have hw4 : IntKind.i64.wrap ((st : Int) + 1) = (st : Int) + 1 := IntWalk.i64_in _ (by omega)
                    clear hc d0 d1 hbk hxf hxt hroom hF''
                    go_wp2_with fail
                    go_roundw
                    case rel =>
                      rw [HFB.out] at HSN
                      exact ⟨u', st + 1, F'', rfl, by go_num, HCI2, by omega, HWK2, HSN.out⟩
                    case measure => simp [intOf]; omega
          · have e0 : cheapO n A M = none := by rw [HOI.out]; exact cheapF_stop HCF.out hfar hlt
            obtain ⟨e1, e2, e3⟩ := cheap_no e0
            rw [HR.out] at e1
            rw [HZ.out] at e2
            rw [HBB.out] at e3
            subst e1 e2 e3
            generalize hsf : farV (A.zip F) 1 = sf at hd1 hfar
            clear hsf e0
            have h4 := HB4.out.size
            rw [World.size_alloc] at h4
            go_wp2_with fail
            go_ret3
            exact ⟨_, rfl, World.ownsRow_made (base := w.heap.size) (e := 3) (size := 1) w4 #[] 0 (by omega) (by decide) rfl, below_box (HB4.out.alloc HB4.out.size _)⟩
        · obtain rfl : k = M := by omega
          obtain ⟨e1, e2, e3⟩ := cheap_yes (HOI.out.trans HCF.out)
          rw [HR.out] at e1
          rw [HZ.out] at e2
          rw [HBB.out] at e3
          subst e1 e2 e3
          have HFC : Hid (flowCostV n A R = costO (A.zip R)) := Lib.hid (by unfold flowCostV; rw [if_pos HOKF.out])
          have hRl : R.length ≤ 2000000 := by have := HFL.out; omega
          go_wp2_with fail
          refine (specFlowCost n A R _ _ _ (by omega) hRl HFC _ (arcs_on HV.out (below_box HB.out)) HIF.out).mono ?_
          rintro e w5 ⟨rfl, hb⟩
          have HO5 := Lib.hid (HOW.out.kept (below_grownC hb) (ne_noneC _))
          have HB5 := Lib.hid (next_below HB.out hb)
          clear hb
          go_wp2_with fail
          go_ret3
          exact ⟨_, rfl, own_base HO5.out (by omega), below_box HB5.out⟩

end Go.Proofs.Ythaaadbeoedgbaa
