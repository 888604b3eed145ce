/-
  CONTRACT of spec.Uncrossed. No law is proved here.
-/
import Derived.Test.YtkndlpcpkfgneaaSpecReg
import Derived.Test.YtkndlpcpkfgneaaSpecRing
import Derived.Test.YtkndlpcpkfgneaaSpecCopy
import Derived.Test.YtkndlpcpkfgneaaLastOp
import Derived.Test.YtkndlpcpkfgneaaRowO
import Derived.BigQuiet
import Derived.BigRegion
import Derived.Deep.QuietTactic
import Derived.Deep.DeepCutAuto
import Derived.Deep.CutRange
namespace Go.Proofs.Ytkndlpcpkfgneaa
set_option maxRecDepth 4096
open Go.ChangeShapes Go.WideShapes Go.ChangeAt Go.RowKit

/-- Rows changed below i. -/
def mixR (X Y : List (List Int)) (i : Nat) : List (List Int) := Y.take i ++ X.drop i
section
variable {X Y : List (List Int)} {i : Nat} {x y : List Int}
theorem mix_zero : mixR X Y 0 = X := by unfold mixR; simp
theorem mix_end (h : X.length = Y.length) : mixR X Y Y.length = Y := by unfold mixR; rw [List.take_length, List.drop_of_length_le (by omega), List.append_nil]
theorem mix_len (h : X.length = Y.length) : (mixR X Y i).length = X.length := by unfold mixR; simp; omega
theorem mix_at (h : X.length = Y.length) (hi : i < X.length) : (mixR X Y i)[i]? = X[i]? := by
  unfold mixR
  have hl : (Y.take i).length = i := by rw [List.length_take]; omega
  rw [List.getElem?_append_right (by omega), hl, Nat.sub_self, List.getElem?_drop, Nat.add_zero]
theorem mix_set (h : X.length = Y.length) (hy : Y[i]? = some y) : (mixR X Y i).set i y = mixR X Y (i + 1) := by
  obtain ⟨hi, e⟩ := List.getElem?_eq_some_iff.1 hy
  unfold mixR
  have hl : (Y.take i).length = i := by rw [List.length_take]; omega
  rw [List.set_append, if_neg (by omega), hl, Nat.sub_self, List.drop_eq_getElem_cons (by omega), List.set_cons_zero, List.take_succ_eq_append_getElem hi, e, List.append_assoc]
  rfl
theorem set_self {L : List (List Int)} (h : L[i]? = some x) : L.set i x = L := by
  obtain ⟨hi, rfl⟩ := List.getElem?_eq_some_iff.1 h
  exact List.set_getElem_self hi
theorem mix_same (h : X.length = Y.length) (hi : i < X.length) (he : Y[i]? = X[i]?) : mixR X Y (i + 1) = mixR X Y i := by
  have hy : Y[i]? = some Y[i] := List.getElem?_eq_getElem (by omega)
  rw [← mix_set h hy]
  exact set_self (by rw [mix_at h hi, ← he, hy])
end

/-- A row of ways: its own way, with room. -/
theorem out_row {w : World} {B i : Nat} {v : Value} {vs : List Value} {LL : List (List Int)} {L : List Int} (h : OutW w B v vs LL) (hL : LL[i]? = some L) (h0 : 0 < L.length) :
    ∃ p c, vs[i]? = some (.slice (some ⟨p, 0, none⟩) L.length c) ∧ L.length ≤ c ∧ p < w.heap.size ∧ ArgJ w (.slice (some ⟨p, 0, none⟩) L.length c) L ∧ ∀ (j : Nat) x, L[j]? = some x → w.cell? ⟨p, j, none⟩ = some (.int .i64 x) := by
  obtain ⟨u, hu, ho⟩ := h.rows.at hL
  have hj := argJ_of ho
  obtain ⟨p, c, rfl⟩ : ∃ p c, u = .slice (some ⟨p, 0, none⟩) L.length c := by
    rcases ho.2 with ⟨_, h⟩ | ⟨g, cap, cur, rfl, _⟩
    · omega
    · exact ⟨g, cap, rfl⟩
  refine ⟨p, c, hu, ?_, (ho.lt p rfl).2, hj, fun j x hx => ?_⟩
  · obtain ⟨a, c', e, h1, _⟩ := hj
    injection e with _ _ e3
    omega
  · have hadd : (⟨p, 0, none⟩ : Addr).add j = ⟨p, j, none⟩ := by unfold Addr.add; split <;> simp_all
    rw [← hadd]
    exact ho.cells (g := p) rfl j (.int .i64 x) (by rw [List.getElem?_map, hx]; rfl)
theorem out_cell {w : World} {B i : Nat} {g n c : Nat} {vs : List Value} {LL : List (List Int)} {u : Value} (h : OutW w B (.slice (some ⟨g, 0, none⟩) n c) vs LL) (hu : vs[i]? = some u) : w.cell? ⟨g, i, none⟩ = some u ∧ g < w.heap.size ∧ n = vs.length := by
  have hn : n = vs.length := by
    rcases h.own.2 with ⟨e, _⟩ | ⟨g', cap, cur, e, _⟩
    · cases e
    · injection e
  subst hn
  have hadd : (⟨g, 0, none⟩ : Addr).add i = ⟨g, i, none⟩ := by unfold Addr.add; split <;> simp_all
  rw [← hadd]
  exact ⟨h.own.cells (g := g) rfl i u hu, (h.own.lt g rfl).2, rfl⟩
theorem out_form {w : World} {B : Nat} {v : Value} {vs : List Value} {LL : List (List Int)} (h : OutW w B v vs LL) (h0 : 0 < LL.length) : ∃ g c, v = .slice (some ⟨g, 0, none⟩) LL.length c := by
  have hl := h.rows.len
  rcases h.own.2 with ⟨_, e⟩ | ⟨g, cap, cur, rfl, _⟩
  · omega
  · exact ⟨g, cap, by rw [hl]⟩
theorem OutW.on {w w' : World} {B : Nat} {v : Value} {vs : List Value} {LL : List (List Int)} (h : OutW w B v vs LL) (hb : Below w.heap.size w w') : OutW w' B v vs LL :=
  ⟨h.own.kept (row := none) ⟨hb.os, hb.tape, hb.output, hb.size, fun i hi _ => hb.block i hi⟩ (by cases v.ownBlock <;> simp), h.rows.on hb⟩
theorem OutW.base {w : World} {B B' : Nat} {v : Value} {vs : List Value} {LL : List (List Int)} (h : OutW w B v vs LL) (hB : B' ≤ B) : OutW w B' v vs LL :=
  ⟨own_base h.own hB, h.rows.len, fun i u L hu hL => own_base (h.rows.row i u L hu hL) hB, h.rows.apart⟩
/-- A way of the row turns: it lies in new memory. -/
theorem out_store {w7 w9 : World} {B gn n cn i : Nat} {vs : List Value} {LL : List (List Int)} {u' : Value} {L L' : List Int} (hO : OutW w7 B (.slice (some ⟨gn, 0, none⟩) n cn) vs LL) (hb : Below w7.heap.size w7 w9) (hu : w9.ownsRow w7.heap.size 3 1 u' L'.length (L'.map (Value.int .i64))) (hB : B ≤ w7.heap.size) (h0 : 0 < L'.length) (hL : LL[i]? = some L) :
    (∃ x, w9.cell? ⟨gn, i, none⟩ = some x) ∧ w9.frozen? ⟨gn, i, none⟩ = false ∧ gn < w7.heap.size ∧ B ≤ gn ∧ OutW (w9.setCell ⟨gn, i, none⟩ u') B (.slice (some ⟨gn, 0, none⟩) n cn) (vs.set i u') (LL.set i L') := by
  obtain ⟨u, hu0, ho⟩ := hO.rows.at hL
  obtain ⟨hc, hg, hn⟩ := out_cell hO hu0
  subst hn
  have hO9 := (hO.on hb).own
  obtain ⟨hs1, hs2⟩ := hO9.stored i u'
  have hA9 : AllR w9 B (vs.set i u') (LL.set i L') := by
    refine AllR.swap hO.rows hu0 hL (own_base hu hB) ⟨hb.os, hb.tape, hb.output, hb.size, fun k hk _ => hb.block k hk⟩ (.inr ?_)
    rcases hu.2 with ⟨_, e⟩ | ⟨g, cap, cur, rfl, h1, _⟩
    · omega
    · exact ⟨g, rfl, h1⟩
  have hl : (vs.set i u').length = vs.length := List.length_set
  refine ⟨⟨_, (hb.cell (p := ⟨gn, i, none⟩) hg).trans hc⟩, hO9.frozenAt i, hg, (hO9.lt gn rfl).1, ⟨?_, hA9.kinds hO9 (by decide) hs2⟩⟩
  rw [hl]
  exact hs1
theorem tot_even : ∀ {X : List (List Int)} {c : Nat}, (∀ L ∈ X, L.length = c) → totW X = X.length * c
  | [], c, _ => by simp [totW]
  | a :: X, c, h => by
    have h1 := tot_even (X := X) (c := c) fun L hL => h L (List.mem_cons_of_mem _ hL)
    have h2 := h a (List.mem_cons_self ..)
    unfold totW at h1 ⊢
    rw [List.map_cons, List.sum_cons, h1, h2, List.length_cons, Nat.succ_mul]
    omega
theorem tot_now {Ws : List (List Int)} {t : Nat} (h : evenV Ws = true) : totW (nowV Ws t) = totW Ws := by
  have h3 := (even_iff.1 h).2.2
  rw [tot_even (c := wideV Ws) (X := Ws) fun L hL => by
    obtain ⟨i, hi, rfl⟩ := List.getElem_of_mem hL
    exact h3 i _ (List.getElem?_eq_getElem hi), tot_even (c := wideV Ws) (X := nowV Ws t) fun L hL => by
    unfold nowV at hL
    obtain ⟨i, _, rfl⟩ := List.mem_map.1 hL
    simp, now_len]
/-- Ways came back, to be read. -/
def UncRet (w : World) (Ws : List (List Int)) (b : Bool) (e : Ending) (w' : World) : Prop :=
  ∃ v, e = .returned (.tuple #[v, .bool b]) ∧ WaysAt w' v Ws ∧ Below w.heap.size w w'

set_option maxHeartbeats 8000000 in
theorem specUncrossed (v : Value) (Ws : List (List Int)) (b : Bool) (R : List (List Int)) (hW : Ws.length ≤ 2000000) (hT : totW Ws ≤ 1048576) (HB : Hid (regV Ws = b)) (HR : Hid (resV Ws = R)) (w : World) (hv : WaysAt w v Ws) :
    Calls Try.prog 7 #[v] w (UncRet w R b) := by
  have HC := Lib.hid (specReg v Ws b hW (by omega) HB w hv)
  have HVV := Lib.hid hv
  cases b with
  | false =>
    obtain rfl : R = [] := by rw [← HR.out]; exact if_neg (by rw [HB.out]; decide)
    obtain ⟨av, cv, rfl, _⟩ := hv
    clear hT
    go_enter Try.func7, Try.ntmps7
    go_wp2_with fail
    refine HC.out.mono ?_
    rintro e w1 ⟨rfl, q, rfl⟩
    have HB2 := Lib.hid ((below_drewN (Below.refl w.heap.size w) q).alloc (Nat.le_refl _) (.cells #[] 39))
    go_wp2_with fail
    refine bodyPost_ret (v := .tuple #[.slice (some ⟨(w.drewN q).heap.size, 0, none⟩) 0 0, .bool false]) (by simp [results, Try.results7, go_sem]) rfl ?_
    exact ⟨_, rfl, ⟨_, _, rfl, .inl rfl⟩, HB2.out⟩
  | true =>
    have HR2 : Hid (uncV Ws = R) := Lib.hid (by rw [← HR.out]; exact (if_pos HB.out).symm)
    have HE := Lib.hid (reg_iff.1 HB.out).1
    have HP := Lib.hid (reg_iff.1 HB.out).2.1
    have h1 := (even_iff.1 HE.out).1
    have h10 := (even_iff.1 HE.out).2.1
    obtain ⟨L0, hL0⟩ : ∃ L, Ws[0]? = some L := ⟨_, List.getElem?_eq_getElem (by omega)⟩
    obtain ⟨g, a0, c, e, hg, u, b0, rfl, d0, _⟩ := way_at hv hL0
    subst e
    have HW0 := Lib.hid (wide_at hL0)
    have hwd : wideV Ws ≤ 1048576 := by rw [HW0.out]; have := totW_one hL0; omega
    have h0N : (0 : Int) < (Ws.length : Int) := by omega
    have HD0 := Lib.hid d0
    have HTN : Hid (∀ t : Nat, (nowV Ws t).length ≤ 2000000 ∧ (nowV Ws t).length = Ws.length) := Lib.hid fun t => ⟨by rw [now_len]; omega, now_len⟩
    have HTW : Hid (∀ t : Nat, totW (nowV Ws t) ≤ 2000000) := Lib.hid fun t => by rw [tot_now HE.out]; omega
    have HTS : Hid (totW Ws ≤ 2000000) := Lib.hid (by omega)
    clear hT hv hL0 d0
    go_enter Try.func7, Try.ntmps7
    go_wp2_with fail
    refine HC.out.mono ?_
    rintro e wm ⟨rfl, q, rfl⟩
    have HB1 := Lib.hid (below_drewN (Below.refl w.heap.size w) q)
    go_wp2_with fail
    refine (specCopy _ Ws hW HTS.out _ (waysAt_on HVV.out HB1.out)).mono ?_
    rintro e w1 ⟨x1, vs1, rfl, ho1, hb⟩
    have HB2 := Lib.hid (HB1.out.trans (hb.mono HB1.out.size))
    have HO1 : Hid (OutW w1 w.heap.size x1 vs1 (nowV Ws 0)) := Lib.hid (by rw [now_zero HE.out]; exact ho1.base HB1.out.size)
    obtain ⟨ax, cx, rfl⟩ := own_form ho1.own
    clear hb ho1
    go_wp2_with fail
    go_loopw [4, 5, 6, 7, 8] (fun xn tv _ _ _ wr => ∃ (t : Nat) (vs : List Value), t + 1 ≤ wideV Ws ∧ tv = .int .i64 (t : Int) ∧ OutW wr w.heap.size xn vs (nowV Ws t) ∧ Below w.heap.size w wr) (fun _ tv _ _ _ _ => wideV Ws - (intOf tv).toNat)
    case atStart => exact ⟨0, vs1, HP.out, rfl, HO1.out, HB2.out⟩
    case round =>
      clear HO1 HB2
      obtain ⟨t, vs, ht, rfl, hout, hbe⟩ := hrel
      obtain ⟨wo, hwo⟩ : ∃ wo, wo = wr := ⟨_, rfl⟩
      subst hwo
      have HO := Lib.hid hout
      have HBE := Lib.hid hbe
      have d1 := (hbe.cell (p := ⟨g, 0, none⟩) hg).trans HD0.out
      have hwt : IntKind.i64.wrap ((t : Int) + 1) = ((t + 1 : Nat) : Int) := by rw [IntWalk.i64_in _ (by omega)]; omega
      clear hout hbe
      by_cases hlt : t + 1 < wideV Ws
      · have hltI : ((t + 1 : Nat) : Int) < (L0.length : Int) := by rw [HW0.out] at hlt; omega
        obtain ⟨gx, cx, rfl⟩ := out_form HO.out (by rw [now_len]; omega)
        rw [(HTN.out t).2]
        have HLV := Lib.hid (now_lev HB.out hlt)
        have HNL : Hid (∀ (i : Nat), i < Ws.length → ∃ L, (nowV Ws t)[i]? = some L ∧ L.length = wideV Ws ∧ L[t]? = some (celV Ws t i t) ∧ L[t + 1]? = some (celV Ws t i (t + 1))) := Lib.hid fun i hi => ⟨_, now_at hi, by simp, row_at (by omega), row_at hlt⟩
        have HNX : Hid ((nowV Ws t).length = (nowV Ws (t + 1)).length) := Lib.hid (by rw [now_len, now_len])
        go_wp2_with fail
        refine (specCopy _ (nowV Ws t) (HTN.out t).1 (HTW.out t) wo (by rw [(HTN.out t).2.symm]; exact HO.out.at)).mono ?_
        rintro e w1 ⟨x1, vs1, rfl, ho1, hb⟩
        obtain ⟨gn, cn, rfl⟩ := out_form ho1 (by rw [now_len]; omega)
        rw [(HTN.out t).2] at ho1 ⊢
        have HO1 := Lib.hid ho1
        have HB1 := Lib.hid hb
        clear hb ho1 d1
        go_wp2_with fail
        go_loopw [7, 8] (fun iv _ w2 => ∃ (i : Nat) (vs2 : List Value), i ≤ Ws.length ∧ iv = .int .i64 (i : Int) ∧ OutW w2 wo.heap.size (.slice (some ⟨gn, 0, none⟩) Ws.length cn) vs2 (mixR (nowV Ws t) (nowV Ws (t + 1)) i) ∧ Below wo.heap.size wo w2) (fun iv _ _ => Ws.length - (intOf iv).toNat)
        case atStart => exact ⟨0, vs1, Nat.zero_le _, rfl, by rw [mix_zero]; exact HO1.out, HB1.out⟩
        case round =>
          clear HO1 HB1
          obtain ⟨i, vs2, hi, rfl, hout, hbe⟩ := hrel
          obtain ⟨w2, hwo⟩ : ∃ w2, w2 = wr := ⟨_, rfl⟩
          subst hwo
          have HO2 := Lib.hid hout
          have HB2 := Lib.hid hbe
          clear hout hbe
          by_cases hli : i < Ws.length
          · have hliI : (i : Int) < (Ws.length : Int) := by omega
            obtain ⟨m, HM⟩ : ∃ m, Hid (ringV (colL (nowV Ws t) t) (colL (nowV Ws t) (t + 1)) i = m) := ⟨_, rfl⟩
            have HRG := Lib.hid (specRing (.slice (some ⟨gx, 0, none⟩) Ws.length cx) (nowV Ws t) t i m (HTW.out t) HLV.out.1 HLV.out.2 (by rw [now_len]; exact hli) HM w2 (waysAt_on (by rw [(HTN.out t).2.symm]; exact HO.out.at) HB2.out))
            go_wp2_with fail
            refine HRG.out.mono ?_
            rintro e w3 ⟨rfl, q3, rfl⟩
            by_cases hm : (m : Int) < 2
            · have hk := now_keep HB.out hli hlt (by rw [HM.out]; omega)
              have HMS : Hid (mixR (nowV Ws t) (nowV Ws (t + 1)) (i + 1) = mixR (nowV Ws t) (nowV Ws (t + 1)) i) := Lib.hid (mix_same HNX.out (by rw [now_len]; exact hli) hk)
              clear hk
              go_wp2_with fail
              go_roundw
              case rel => exact ⟨i + 1, vs2, by omega, by go_num, by rw [HMS.out]; exact HO2.out.on (below_drewN (Below.refl _ _) q3), below_drewN HB2.out q3⟩
              case measure => simp [intOf]; omega
            · have hr : 1 < ringV (colL (nowV Ws t) t) (colL (nowV Ws t) (t + 1)) i := by rw [HM.out]; omega
              obtain ⟨jj, hjj, hjc⟩ := now_behind HB.out hli hlt hr
              obtain ⟨N0, hN0, hN0l, hN0t, hN0s⟩ := HNL.out i hli
              obtain ⟨NJ, hNJ, hNJl, hNJt, hNJs⟩ := HNL.out jj hjj
              have HN1 := Lib.hid (now_turn HB.out hli hjj hlt hr hjc hN0 hNJ)
              obtain ⟨N1, hN1e⟩ : ∃ N1, Hid (N0.take (t + 1) ++ NJ.drop (t + 1) = N1) := ⟨_, rfl⟩
              rw [hN1e.out] at HN1
              have HN1L : Hid (0 < N1.length) := Lib.hid (by rw [← hN1e.out, List.length_append, List.length_take]; omega)
              have HUQ : Hid (∀ j, j < Ws.length → celV Ws t j (t + 1) = celV Ws t i t → j = jj) := Lib.hid fun j hj he => by
                have h1 := cel_col (Ws := Ws) (c := t) hj hlt
                have h2 := cel_col (Ws := Ws) (c := t) hjj hlt
                rw [he] at h1
                rw [hjc] at h2
                exact at_inj (free_nodup HLV.out.1 HLV.out.2).2 h1 h2
              have HMA := Lib.hid (mix_at (i := i) HNX.out (by rw [now_len]; exact hli))
              have HMS := Lib.hid (mix_set HNX.out HN1.out)
              have HJC := Lib.hid hjc
              have HN0 := Lib.hid hN0
              have HNJ := Lib.hid hNJ
              have hb3 : Below w2.heap.size w2 (w2.drewN q3) := below_drewN (Below.refl _ _) q3
              have HO3 := Lib.hid (HO2.out.on hb3)
              have HB3 := Lib.hid (HB2.out.trans (hb3.mono HB2.out.size))
              obtain ⟨pi, ci, hvi, hci, hpi, hji, hdi⟩ := out_row HO.out hN0 (by omega)
              have HDI := Lib.hid hdi
              have HJI := Lib.hid hji
              obtain ⟨hxi, hgx, _⟩ := out_cell HO.out hvi
              have HXI := Lib.hid hxi
              clear hr hjc hN0 hNJ hb3 hji hdi hvi hxi hNJt hNJs hNJl
              go_wp2_with fail
              go_loopw [8] (fun jv w4 => ∃ (j : Nat) (vs3 : List Value) (Z : List Int), j ≤ Ws.length ∧ jv = .int .i64 (j : Int) ∧ Hid (Z = if jj < j then N1 else N0) ∧ OutW w4 wo.heap.size (.slice (some ⟨gn, 0, none⟩) Ws.length cn) vs3 ((mixR (nowV Ws t) (nowV Ws (t + 1)) i).set i Z) ∧ Below wo.heap.size wo w4) (fun jv _ => Ws.length - (intOf jv).toNat)
              case atStart => exact ⟨0, vs2, N0, Nat.zero_le _, rfl, Lib.hid (by rw [if_neg (by omega)]), by rw [set_self (by rw [HMA.out]; exact HN0.out)]; exact HO3.out, HB3.out⟩
              case round =>
                clear HO3 HB3 HO2 HB2
                obtain ⟨j, vs3, Z, hj, rfl, HZ, hout, hbe⟩ := hrel
                obtain ⟨w4, hwo⟩ : ∃ w4, w4 = wr := ⟨_, rfl⟩
                subst hwo
                have HO4 := Lib.hid hout
                have HB4 := Lib.hid hbe
                clear hout hbe
                by_cases hlj : j < Ws.length
                · have hljI : (j : Int) < (Ws.length : Int) := by omega
                  obtain ⟨LJ, hLJ, hLJl, hLJt, hLJs⟩ := HNL.out j hlj
                  obtain ⟨pj, cj, hvj, hcj, hpj, hjj2, hdj⟩ := out_row HO.out hLJ (by omega)
                  obtain ⟨hxj, _, _⟩ := out_cell HO.out hvj
                  have dxj := (HB4.out.cell (p := ⟨gx, j, none⟩) hgx).trans hxj
                  have dxi := (HB4.out.cell (p := ⟨gx, i, none⟩) hgx).trans HXI.out
                  obtain ⟨y, HY⟩ : ∃ y, Hid (celV Ws t j (t + 1) = y) := ⟨_, rfl⟩
                  obtain ⟨x, HX⟩ : ∃ x, Hid (celV Ws t i t = x) := ⟨_, rfl⟩
                  have dy := (HB4.out.cell (p := ⟨pj, t + 1, none⟩) hpj).trans (hdj (t + 1) _ hLJs)
                  have dx := (HB4.out.cell (p := ⟨pi, t, none⟩) hpi).trans (HDI.out t _ hN0t)
                  rw [HY.out] at dy
                  rw [HX.out] at dx
                  have hl1 : ((t + 1 : Nat) : Int) < (LJ.length : Int) := by omega
                  have hl2 : (t : Int) < (N0.length : Int) := by omega
                  have HJJ := Lib.hid hjj2
                  have HLJ := Lib.hid hLJ
                  clear hvj hxj hdj hjj2 hLJ hLJt hLJs
                  by_cases hyx : y = x
                  · have hej : j = jj := HUQ.out j hlj (by rw [HY.out, HX.out, hyx])
                    subst hej
                    subst hyx
                    have hbq : (y == y) = true := by simp
                    obtain rfl : LJ = NJ := by have := HLJ.out; rw [HNJ.out] at this; exact (Option.some.inj this).symm
                    go_wp2
                    go_quiet (fail)
                    go_wp2
                    obtain ⟨w5, hw5⟩ : ∃ w5, w5 = w4.drewN nq := ⟨_, rfl⟩
                    have b5 : Below w4.heap.size w4 w5 := by rw [hw5]; exact below_drewN (Below.refl _ _) _
                    rw [← hw5]
                    clear hw5
                    have HO5 := Lib.hid (HO4.out.on b5)
                    have HB5 := Lib.hid (HB4.out.trans (b5.mono HB4.out.size))
                    have b7 : Below w5.heap.size w5 (w5.drew.alloc (.cells #[] 3)) := (below_drewN (Below.refl w5.heap.size w5) 1).alloc (Nat.le_refl _) _
                    have hgx5 : gx < w5.heap.size := Nat.lt_of_lt_of_le hgx HB5.out.size
                    have hS5 : w5.cell? ⟨gx, i, none⟩ = some (.slice (some ⟨pi, 0, none⟩) N0.length ci) ∧ w5.cell? ⟨gx, j, none⟩ = some (.slice (some ⟨pj, 0, none⟩) LJ.length cj) := ⟨(b5.cell (p := ⟨gx, i, none⟩) (Nat.lt_of_lt_of_le hgx HB4.out.size)).trans dxi, (b5.cell (p := ⟨gx, j, none⟩) (Nat.lt_of_lt_of_le hgx HB4.out.size)).trans dxj⟩
                    have HS5 := Lib.hid hS5
                    have hS0 : w5.drew.cell? ⟨gx, i, none⟩ = some (.slice (some ⟨pi, 0, none⟩) N0.length ci) ∧ w5.drew.cell? ⟨gx, j, none⟩ = some (.slice (some ⟨pj, 0, none⟩) LJ.length cj) := hS5
                    have hS7 : (w5.drew.alloc (.cells #[] 3)).cell? ⟨gx, i, none⟩ = some (.slice (some ⟨pi, 0, none⟩) N0.length ci) ∧ (w5.drew.alloc (.cells #[] 3)).cell? ⟨gx, j, none⟩ = some (.slice (some ⟨pj, 0, none⟩) LJ.length cj) := ⟨(b7.cell (p := ⟨gx, i, none⟩) hgx5).trans hS5.1, (b7.cell (p := ⟨gx, j, none⟩) hgx5).trans hS5.2⟩
                    have HS7 := Lib.hid hS7
                    have HJI5 := Lib.hid (HJI.out.on HB5.out)
                    have HJJ5 := Lib.hid (HJJ.out.on HB5.out)
                    have HA7 := Lib.hid (argJ_take (h := t + 1) (HJI5.out.on b7) (by omega)).arg
                    have HBB7 := Lib.hid b7
                    have sl1 := fun w' => slice_to ⟨pi, 0, none⟩ N0.length ci (t + 1) (by omega) hci (by omega) w'
                    have sl2 := fun w' => slice_from ⟨pj, 0, none⟩ LJ.length cj (t + 1) (by omega) hcj w'
                    have hlj1 : t + 1 < LJ.length := by omega
                    have hlj2 : LJ.length ≤ 1048576 := by omega
                    have hn01 : t + 1 < N0.length := by omega
                    have hn02 : N0.length ≤ 1048576 := by omega
                    have HADD : Hid ((⟨pj, 0, none⟩ : Addr).add (t + 1) = ⟨pj, t + 1, none⟩) := Lib.hid (by unfold Addr.add; split <;> simp_all)
                    clear hLJl hN0l
                    have hq5 : ¬ cj = t + 1 := by omega
                    have hq1 : (0 : Int) ≤ (t : Int) + 1 := by omega
                    have hq2 : (t : Int) + 1 ≤ (ci : Int) := by omega
                    have hq3 : (t : Int) + 1 ≤ (LJ.length : Int) := by omega
                    have hq4 : (t : Int) + 1 ≤ (cj : Int) := by omega
                    have hwt2 : IntKind.i64.wrap ((t : Int) + 1) = ((t + 1 : Nat) : Int) := hwt
                    clear b5 b7 hS5 hS7 dxi dxj dx dy HO4 HB4
                    refine wp_region_last 23 (fun w' => w'.cell? ⟨gx, i, none⟩ = some (.slice (some ⟨pi, 0, none⟩) N0.length ci) ∧ w'.cell? ⟨gx, j, none⟩ = some (.slice (some ⟨pj, 0, none⟩) LJ.length cj)) (by as_aux_lemma => kernel_rfl) (by as_aux_lemma => kernel_rfl) (by as_aux_lemma => kernel_rfl) (by decide) hS0 (fun hHeld => ?_)
                    refine anyI_take (i := 0) (oi := _) (v := ?q1v1) rfl (by as_aux_lemma => kernel_rfl) (by as_aux_lemma => kernel_rfl) (by as_aux_lemma => kernel_rfl) rfl (fun _ _ _ h => h) (Or.inl ⟨by rfl, ?q1y1⟩) (by assumption) ?q1r1
                    case q1y1 =>
                      intro w' hSw
                      (try dsimp only at hSw)
                      go_split_ands
                      simp only [List.getElem_toArray, List.getElem_cons_zero]
                      go_simp
                      all_goals (try with_reducible rfl)
                    simp only [List.getElem_toArray, List.getElem_cons_zero, Act.put, List.setIfInBounds_toArray, List.set_cons_zero, List.set_cons_succ]
                    refine anyI_take (i := 1) (oi := _) (v := ?q1v2) rfl (by as_aux_lemma => kernel_rfl) (by as_aux_lemma => kernel_rfl) (by as_aux_lemma => kernel_rfl) rfl (fun _ _ _ h => h) (Or.inl ⟨by rfl, ?q1y2⟩) (by assumption) ?q1r2
                    case q1y2 =>
                      intro w' hSw
                      (try dsimp only at hSw)
                      go_split_ands
                      simp only [List.getElem_toArray, List.getElem_cons_succ, List.getElem_cons_zero]
                      go_simp
                      all_goals (try with_reducible rfl)
                    simp only [List.getElem_toArray, List.getElem_cons_succ, List.getElem_cons_zero, Act.put, List.setIfInBounds_toArray, List.set_cons_zero, List.set_cons_succ]
                    refine anyI_take (i := 3) (oi := _) (v := ?q1v3) rfl (by as_aux_lemma => kernel_rfl) (by as_aux_lemma => kernel_rfl) (by as_aux_lemma => kernel_rfl) rfl (fun _ _ _ h => h) (Or.inl ⟨by rfl, ?q1y3⟩) (by assumption) ?q1r3
                    case q1y3 =>
                      intro w' hSw
                      (try dsimp only at hSw)
                      go_split_ands
                      simp only [List.getElem_toArray, List.getElem_cons_succ, List.getElem_cons_zero]
                      go_simp
                      all_goals (try with_reducible rfl)
                    simp only [List.getElem_toArray, List.getElem_cons_succ, List.getElem_cons_zero, Act.put, List.setIfInBounds_toArray, List.set_cons_zero, List.set_cons_succ]
                    refine anyI_take (i := 4) (oi := _) (v := ?q1v4) rfl (by as_aux_lemma => kernel_rfl) (by as_aux_lemma => kernel_rfl) (by as_aux_lemma => kernel_rfl) rfl (fun _ _ _ h => h) (Or.inl ⟨by rfl, ?q1y4⟩) (by assumption) ?q1r4
                    case q1y4 =>
                      intro w' hSw
                      (try dsimp only at hSw)
                      go_split_ands
                      simp only [List.getElem_toArray, List.getElem_cons_succ, List.getElem_cons_zero]
                      go_simp
                      all_goals (try with_reducible rfl)
                    simp only [List.getElem_toArray, List.getElem_cons_succ, List.getElem_cons_zero, Act.put, List.setIfInBounds_toArray, List.set_cons_zero, List.set_cons_succ]
                    refine anyI_take (i := 5) (oi := _) (v := ?q1v5) rfl (by as_aux_lemma => kernel_rfl) (by as_aux_lemma => kernel_rfl) (by as_aux_lemma => kernel_rfl) rfl (fun _ _ _ h => h) (Or.inl ⟨by rfl, ?q1y5⟩) (by assumption) ?q1r5
                    case q1y5 =>
                      intro w' hSw
                      (try dsimp only at hSw)
                      go_split_ands
                      simp only [List.getElem_toArray, List.getElem_cons_succ, List.getElem_cons_zero]
                      go_simp
                      all_goals (try with_reducible rfl)
                    simp only [List.getElem_toArray, List.getElem_cons_succ, List.getElem_cons_zero, Act.put, List.setIfInBounds_toArray, List.set_cons_zero, List.set_cons_succ]
                    refine anyI_take (i := 6) (oi := _) (v := ?q1v6) rfl (by as_aux_lemma => kernel_rfl) (by as_aux_lemma => kernel_rfl) (by as_aux_lemma => kernel_rfl) rfl (fun _ _ _ h => h) (Or.inl ⟨by rfl, ?q1y6⟩) (by assumption) ?q1r6
                    case q1y6 =>
                      intro w' hSw
                      (try dsimp only at hSw)
                      go_split_ands
                      simp only [List.getElem_toArray, List.getElem_cons_succ, List.getElem_cons_zero]
                      go_simp
                      all_goals (try with_reducible rfl)
                    simp only [List.getElem_toArray, List.getElem_cons_succ, List.getElem_cons_zero, Act.put, List.setIfInBounds_toArray, List.set_cons_zero, List.set_cons_succ]
                    refine anyI_take (i := 7) (oi := _) (v := ?q1v7) rfl (by as_aux_lemma => kernel_rfl) (by as_aux_lemma => kernel_rfl) (by as_aux_lemma => kernel_rfl) rfl (fun _ _ _ h => h) (Or.inl ⟨by rfl, ?q1y7⟩) (by assumption) ?q1r7
                    case q1y7 =>
                      intro w' hSw
                      (try dsimp only at hSw)
                      go_split_ands
                      simp only [List.getElem_toArray, List.getElem_cons_succ, List.getElem_cons_zero]
                      go_simp
                      all_goals (try with_reducible rfl)
                    simp only [List.getElem_toArray, List.getElem_cons_succ, List.getElem_cons_zero, Act.put, List.setIfInBounds_toArray, List.set_cons_zero, List.set_cons_succ]
                    refine anyI_take (i := 8) (oi := _) (v := ?q1v8) rfl (by as_aux_lemma => kernel_rfl) (by as_aux_lemma => kernel_rfl) (by as_aux_lemma => kernel_rfl) rfl (fun _ _ _ h => h) (Or.inl ⟨by rfl, ?q1y8⟩) (by assumption) ?q1r8
                    case q1y8 =>
                      intro w' hSw
                      (try dsimp only at hSw)
                      go_split_ands
                      simp only [List.getElem_toArray, List.getElem_cons_succ, List.getElem_cons_zero]
                      go_simp
                      all_goals (try with_reducible rfl)
                    simp only [List.getElem_toArray, List.getElem_cons_succ, List.getElem_cons_zero, Act.put, List.setIfInBounds_toArray, List.set_cons_zero, List.set_cons_succ]
                    refine anyI_take (i := 9) (oi := _) (v := ?q1v9) rfl (by as_aux_lemma => kernel_rfl) (by as_aux_lemma => kernel_rfl) (by as_aux_lemma => kernel_rfl) rfl (fun _ _ _ h => h) (Or.inl ⟨by rfl, ?q1y9⟩) (by assumption) ?q1r9
                    case q1y9 =>
                      intro w' hSw
                      (try dsimp only at hSw)
                      go_split_ands
                      simp only [List.getElem_toArray, List.getElem_cons_succ, List.getElem_cons_zero]
                      go_simp
                      all_goals (try with_reducible rfl)
                    simp only [List.getElem_toArray, List.getElem_cons_succ, List.getElem_cons_zero, Act.put, List.setIfInBounds_toArray, List.set_cons_zero, List.set_cons_succ]
                    refine anyI_take (i := 10) (oi := _) (v := ?q1v10) rfl (by as_aux_lemma => kernel_rfl) (by as_aux_lemma => kernel_rfl) (by as_aux_lemma => kernel_rfl) rfl (fun _ _ _ h => h) (Or.inl ⟨by rfl, ?q1y10⟩) (by assumption) ?q1r10
                    case q1y10 =>
                      intro w' hSw
                      (try dsimp only at hSw)
                      go_split_ands
                      simp only [List.getElem_toArray, List.getElem_cons_succ, List.getElem_cons_zero]
                      go_simp
                      all_goals (try with_reducible rfl)
                    simp only [List.getElem_toArray, List.getElem_cons_succ, List.getElem_cons_zero, Act.put, List.setIfInBounds_toArray, List.set_cons_zero, List.set_cons_succ]
                    refine anyI_take (i := 12) (oi := _) (v := ?q1v11) rfl (by as_aux_lemma => kernel_rfl) (by as_aux_lemma => kernel_rfl) (by as_aux_lemma => kernel_rfl) rfl (fun _ _ _ h => h) (Or.inl ⟨by rfl, ?q1y11⟩) (by assumption) ?q1r11
                    case q1y11 =>
                      intro w' hSw
                      (try dsimp only at hSw)
                      go_split_ands
                      simp only [List.getElem_toArray, List.getElem_cons_succ, List.getElem_cons_zero]
                      go_simp
                      all_goals (try with_reducible rfl)
                    simp only [List.getElem_toArray, List.getElem_cons_succ, List.getElem_cons_zero, Act.put, List.setIfInBounds_toArray, List.set_cons_zero, List.set_cons_succ]
                    refine anyI_take (i := 13) (oi := _) (v := ?q1v12) rfl (by as_aux_lemma => kernel_rfl) (by as_aux_lemma => kernel_rfl) (by as_aux_lemma => kernel_rfl) rfl (fun _ _ _ h => h) (Or.inl ⟨by rfl, ?q1y12⟩) (by assumption) ?q1r12
                    case q1y12 =>
                      intro w' hSw
                      (try dsimp only at hSw)
                      go_split_ands
                      simp only [List.getElem_toArray, List.getElem_cons_succ, List.getElem_cons_zero]
                      go_simp
                      all_goals (try with_reducible rfl)
                    simp only [List.getElem_toArray, List.getElem_cons_succ, List.getElem_cons_zero, Act.put, List.setIfInBounds_toArray, List.set_cons_zero, List.set_cons_succ]
                    refine anyI_take (i := 14) (oi := _) (v := ?q1v13) rfl (by as_aux_lemma => kernel_rfl) (by as_aux_lemma => kernel_rfl) (by as_aux_lemma => kernel_rfl) rfl (fun _ _ _ h => h) (Or.inl ⟨by rfl, ?q1y13⟩) (by assumption) ?q1r13
                    case q1y13 =>
                      intro w' hSw
                      (try dsimp only at hSw)
                      go_split_ands
                      simp only [List.getElem_toArray, List.getElem_cons_succ, List.getElem_cons_zero]
                      go_simp
                      all_goals (try with_reducible rfl)
                    simp only [List.getElem_toArray, List.getElem_cons_succ, List.getElem_cons_zero, Act.put, List.setIfInBounds_toArray, List.set_cons_zero, List.set_cons_succ]
                    refine anyI_take (i := 15) (oi := _) (v := ?q1v14) rfl (by as_aux_lemma => kernel_rfl) (by as_aux_lemma => kernel_rfl) (by as_aux_lemma => kernel_rfl) rfl (fun _ _ _ h => h) (Or.inl ⟨by rfl, ?q1y14⟩) (by assumption) ?q1r14
                    case q1y14 =>
                      intro w' hSw
                      (try dsimp only at hSw)
                      go_split_ands
                      simp only [List.getElem_toArray, List.getElem_cons_succ, List.getElem_cons_zero]
                      go_simp
                      all_goals (try with_reducible rfl)
                    simp only [List.getElem_toArray, List.getElem_cons_succ, List.getElem_cons_zero, Act.put, List.setIfInBounds_toArray, List.set_cons_zero, List.set_cons_succ]
                    refine anyI_take (i := 16) (oi := _) (v := ?q1v15) rfl (by as_aux_lemma => kernel_rfl) (by as_aux_lemma => kernel_rfl) (by as_aux_lemma => kernel_rfl) rfl (fun _ _ _ h => h) (Or.inl ⟨by rfl, ?q1y15⟩) (by assumption) ?q1r15
                    case q1y15 =>
                      intro w' hSw
                      (try dsimp only at hSw)
                      go_split_ands
                      simp only [List.getElem_toArray, List.getElem_cons_succ, List.getElem_cons_zero]
                      go_simp
                      all_goals (try with_reducible rfl)
                    simp only [List.getElem_toArray, List.getElem_cons_succ, List.getElem_cons_zero, Act.put, List.setIfInBounds_toArray, List.set_cons_zero, List.set_cons_succ]
                    refine anyI_take (i := 17) (oi := _) (v := ?q1v16) rfl (by as_aux_lemma => kernel_rfl) (by as_aux_lemma => kernel_rfl) (by as_aux_lemma => kernel_rfl) rfl (fun _ _ _ h => h) (Or.inl ⟨by rfl, ?q1y16⟩) (by assumption) ?q1r16
                    case q1y16 =>
                      intro w' hSw
                      (try dsimp only at hSw)
                      go_split_ands
                      simp only [List.getElem_toArray, List.getElem_cons_succ, List.getElem_cons_zero]
                      go_simp
                      all_goals (try with_reducible rfl)
                    simp only [List.getElem_toArray, List.getElem_cons_succ, List.getElem_cons_zero, Act.put, List.setIfInBounds_toArray, List.set_cons_zero, List.set_cons_succ]
                    refine anyI_take (i := 18) (oi := _) (v := ?q1v17) rfl (by as_aux_lemma => kernel_rfl) (by as_aux_lemma => kernel_rfl) (by as_aux_lemma => kernel_rfl) rfl (fun _ _ _ h => h) (Or.inl ⟨by rfl, ?q1y17⟩) (by assumption) ?q1r17
                    case q1y17 =>
                      intro w' hSw
                      (try dsimp only at hSw)
                      go_split_ands
                      simp only [List.getElem_toArray, List.getElem_cons_succ, List.getElem_cons_zero]
                      go_simp
                      all_goals (try with_reducible rfl)
                    simp only [List.getElem_toArray, List.getElem_cons_succ, List.getElem_cons_zero, Act.put, List.setIfInBounds_toArray, List.set_cons_zero, List.set_cons_succ]
                    refine anyI_take (i := 19) (oi := _) (v := ?q1v18) rfl (by as_aux_lemma => kernel_rfl) (by as_aux_lemma => kernel_rfl) (by as_aux_lemma => kernel_rfl) rfl (fun _ _ _ h => h) (Or.inl ⟨by rfl, ?q1y18⟩) (by assumption) ?q1r18
                    case q1y18 =>
                      intro w' hSw
                      (try dsimp only at hSw)
                      go_split_ands
                      simp only [List.getElem_toArray, List.getElem_cons_succ, List.getElem_cons_zero]
                      go_simp
                      all_goals (try with_reducible rfl)
                    simp only [List.getElem_toArray, List.getElem_cons_succ, List.getElem_cons_zero, Act.put, List.setIfInBounds_toArray, List.set_cons_zero, List.set_cons_succ]
                    refine anyI_ready (rs := [2]) (by as_aux_lemma => kernel_rfl) (by simp) ?_
                    refine AllI.cons rfl rfl (fun K hK => ?_) AllI.nil
                    simp only [List.getElem_toArray, List.getElem_cons_succ, List.getElem_cons_zero]
                    go_simp
                    have hS7 := HS7.out
                    clear hHeld
                    refine hK.out _ _ hS7 (fun hHeld => ?_)
                    clear hK K
                    (try simp only [Act.put, List.setIfInBounds_toArray, List.set_cons_zero, List.set_cons_succ])
                    refine anyI_ready (rs := [11]) (by as_aux_lemma => kernel_rfl) (by simp) ?_
                    refine AllI.cons rfl rfl (fun K hK => ?_) AllI.nil
                    simp only [List.getElem_toArray, List.getElem_cons_succ, List.getElem_cons_zero]
                    rw [if_pos (by rfl)]
                    refine wp_app (.tmp 64) (.tmp 72) rfl w5.heap.size (.slice (some ⟨w5.heap.size, 0, none⟩) 0 0) _ [] (N0.take (t + 1)) (by simp [Act.eval]) (by simp [Act.eval]) (by exact own_made0 w5.drew 3) HA7.out (by simp; omega) (by exact HBB7.out.size) ?_; intro v9 w9 hown9 hgr9; rw [List.nil_append] at hown9; have hb9 : Below w5.heap.size w5 w9 := HBB7.out.grown hgr9 HBB7.out.size (fun k hk => by cases hk; exact Nat.le_refl _); have hS9 : w9.cell? ⟨gx, i, none⟩ = some (.slice (some ⟨pi, 0, none⟩) N0.length ci) ∧ w9.cell? ⟨gx, j, none⟩ = some (.slice (some ⟨pj, 0, none⟩) LJ.length cj) := ⟨(hb9.cell (p := ⟨gx, i, none⟩) hgx5).trans HS5.out.1, (hb9.cell (p := ⟨gx, j, none⟩) hgx5).trans HS5.out.2⟩; have HO9 := Lib.hid hown9; have HB9 := Lib.hid hb9; have hA9 := (argJ_drop (h := t + 1) (HJJ5.out.on hb9) (by omega)).arg; rw [HADD.out] at hA9; have HA9 := Lib.hid hA9; clear hA9; clear hown9 hgr9 hb9
                    clear hHeld
                    refine hK.out _ _ hS9 (fun hHeld => ?_)
                    clear hK K
                    (try simp only [Act.put, List.setIfInBounds_toArray, List.set_cons_zero, List.set_cons_succ])
                    refine anyI_ready (rs := [20]) (by as_aux_lemma => kernel_rfl) (by simp) ?_
                    refine AllI.cons rfl rfl (fun K hK => ?_) AllI.nil
                    simp only [List.getElem_toArray, List.getElem_cons_succ, List.getElem_cons_zero]
                    rw [if_pos (by rfl)]
                    refine wp_app (.tmp 73) (.tmp 81) rfl w5.heap.size v9 _ (N0.take (t + 1)) (LJ.drop (t + 1)) (by simp [Act.eval]) (by simp [Act.eval]) HO9.out HA9.out (by rw [List.length_take, List.length_drop]; omega) HB9.out.size ?_; intro v10 w10 hown10 hgr10; rw [hN1e.out] at hown10; have hb10 : Below w5.heap.size w5 w10 := HB9.out.grown hgr10 HB9.out.size (fun k hk => (HO9.out.lt k hk).1); have hS10 : w10.cell? ⟨gx, i, none⟩ = some (.slice (some ⟨pi, 0, none⟩) N0.length ci) ∧ w10.cell? ⟨gx, j, none⟩ = some (.slice (some ⟨pj, 0, none⟩) LJ.length cj) := ⟨(hb10.cell (p := ⟨gx, i, none⟩) hgx5).trans HS5.out.1, (hb10.cell (p := ⟨gx, j, none⟩) hgx5).trans HS5.out.2⟩; obtain ⟨a10, c10, rfl⟩ := own_form hown10; obtain ⟨⟨x10, hx10⟩, hf10, hgn, hBg, hOF⟩ := out_store HO5.out hb10 hown10 HB5.out.size HN1L.out (L := Z) (by rw [List.getElem?_set_self (by rw [mix_len HNX.out, now_len]; exact hli)]); have HF := Lib.hid hOF; have HBF := Lib.hid ((HB5.out.trans (hb10.mono HB5.out.size)).setCell (p := ⟨gn, i, none⟩) hBg (.slice a10 N1.length c10)); clear hown10 hgr10 hb10 hOF
                    clear hHeld
                    refine hK.out _ _ hS10 (fun hHeld => ?_)
                    clear hK K
                    (try simp only [Act.put, List.setIfInBounds_toArray, List.set_cons_zero, List.set_cons_succ])
                    refine anyI_take (i := 21) (oi := _) (v := ?q1v22) rfl (by as_aux_lemma => kernel_rfl) (by as_aux_lemma => kernel_rfl) (by as_aux_lemma => kernel_rfl) rfl (fun _ _ _ h => h) (Or.inl ⟨by rfl, ?q1y22⟩) (by assumption) ?q1r22
                    case q1y22 =>
                      intro w' hSw
                      (try dsimp only at hSw)
                      go_split_ands
                      simp only [List.getElem_toArray, List.getElem_cons_succ, List.getElem_cons_zero]
                      go_simp
                      all_goals (try with_reducible rfl)
                    simp only [List.getElem_toArray, List.getElem_cons_succ, List.getElem_cons_zero, Act.put, List.setIfInBounds_toArray, List.set_cons_zero, List.set_cons_succ]
                    refine anyI_take (i := 22) (oi := _) (v := ?q1v23) rfl (by as_aux_lemma => kernel_rfl) (by as_aux_lemma => kernel_rfl) (by as_aux_lemma => kernel_rfl) rfl (fun _ _ _ h => h) (Or.inl ⟨by rfl, ?q1y23⟩) (by assumption) ?q1r23
                    case q1y23 =>
                      intro w' hSw
                      (try dsimp only at hSw)
                      go_split_ands
                      simp only [List.getElem_toArray, List.getElem_cons_succ, List.getElem_cons_zero]
                      go_simp
                      all_goals (try with_reducible rfl)
                    simp only [List.getElem_toArray, List.getElem_cons_succ, List.getElem_cons_zero, Act.put, List.setIfInBounds_toArray, List.set_cons_zero, List.set_cons_succ]
                    refine anyI_last (by as_aux_lemma => kernel_rfl) (by as_aux_lemma => kernel_rfl) rfl (fun K hK => ?_)
                    simp only [List.getElem_toArray, List.getElem_cons_succ, List.getElem_cons_zero]
                    go_simp
                    refine hK.out _ _ ?_
                    clear hK K
                    (try simp only [Act.put, List.setIfInBounds_toArray, List.set_cons_zero, List.set_cons_succ])
                    go_wp2_with fail
                    go_roundw
                    case rel => exact ⟨j + 1, _, N1, by omega, by go_num, Lib.hid (by rw [if_pos (by omega)]), (by have h := HF.out; rw [List.set_set] at h; exact h), HBF.out⟩
                    case measure => simp [intOf]; omega
                  · have hbq : (y == x) = false := by simpa using hyx
                    have HZ2 : Hid (Z = if jj < j + 1 then N1 else N0) := Lib.hid (by
                      rw [HZ.out]
                      have hne : j ≠ jj := fun e => hyx (by rw [← HY.out, e, HJC.out, HX.out])
                      by_cases h : jj < j
                      · rw [if_pos h, if_pos (by omega)]
                      · rw [if_neg h, if_neg (by omega)])
                    clear hyx
                    go_wp2
                    go_quiet (fail)
                    go_wp2
                    go_roundw
                    case rel => exact ⟨j + 1, vs3, Z, by omega, by go_num, HZ2, HO4.out.on (below_drewN (Below.refl _ _) _), below_drewN HB4.out _⟩
                    case measure => simp [intOf]; omega
                · obtain rfl : j = Ws.length := by omega
                  have hnl : ¬ (Ws.length : Int) < (Ws.length : Int) := by omega
                  have hz : Z = N1 := by rw [HZ.out, if_pos hjj]
                  have HO5 : Hid (OutW _ wo.heap.size (.slice (some ⟨gn, 0, none⟩) Ws.length cn) vs3 (mixR (nowV Ws t) (nowV Ws (t + 1)) (i + 1))) := Lib.hid (by rw [← HMS.out, ← hz]; exact HO4.out)
                  clear hz
                  go_wp2
                  go_roundw
                  case rel => exact ⟨i + 1, vs3, by omega, by go_num, HO5.out, HB4.out⟩
                  case measure => simp [intOf]; omega
          · obtain rfl : i = Ws.length := by omega
            have hnl : ¬ (Ws.length : Int) < (Ws.length : Int) := by omega
            have HO5 : Hid (OutW w2 wo.heap.size (.slice (some ⟨gn, 0, none⟩) Ws.length cn) vs2 (nowV Ws (t + 1))) := Lib.hid (by
              have := mix_end (X := nowV Ws t) (Y := nowV Ws (t + 1)) HNX.out
              rw [now_len] at this
              rw [← this]
              exact HO2.out)
            go_wp2
            go_roundw
            case rel => exact ⟨t + 1, vs2, by omega, by go_num, HO5.out.base HBE.out.size, HBE.out.trans (HB2.out.mono HBE.out.size)⟩
            case measure => simp [intOf]; omega
      · have hltI : ¬ ((t + 1 : Nat) : Int) < (L0.length : Int) := by rw [HW0.out] at hlt; omega
        have HO5 : Hid (WaysAt wo _ R) := Lib.hid (by rw [← HR2.out, ← now_last (c := t) (by omega)]; exact HO.out.at)
        obtain ⟨aq, cq, rfl⟩ := own_form HO.out.own
        go_wp2
        refine bodyPost_ret (v := .tuple #[.slice aq vs.length cq, .bool true]) (by simp [results, Try.results7, go_sem]) rfl ?_
        exact ⟨_, rfl, HO5.out, HBE.out⟩

end Go.Proofs.Ytkndlpcpkfgneaa
