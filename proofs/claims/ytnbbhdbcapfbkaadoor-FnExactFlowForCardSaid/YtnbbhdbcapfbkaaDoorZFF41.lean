/-
  CONTRACT of spec.WaysOf. No law is proved here.
-/
import Derived.Test.YtnbbhdbcapfbkaaDoorZFF32
import Derived.Test.YtnbbhdbcapfbkaaDoorZFF40
import Derived.Test.YtnbbhdbcapfbkaaDoorZFF34
import Derived.Test.YtnbbhdbcapfbkaaDoorZFF11
import Derived.Test.YtnbbhdbcapfbkaaDoorZFF01
import Derived.Deep.RegionHeld3
namespace Go.Proofs.YtnbbhdbcapfbkaaDoor
set_option maxRecDepth 4096
open Go.ChangeShapes Go.WideShapes Go.ChangeAt Go.RowKit

/-- What the model's loops read. -/
structure SW (w : World) (W H : Int) (C : ByteArray) (nb : Nat) (N : Int) (va : Value) (A : List ArcD) (wm : World) : Prop where
  grid : Below (w.alloc (.cells #[.int .i64 W, .int .i64 H, .string C] 30)).heap.size (w.alloc (.cells #[.int .i64 W, .int .i64 H, .string C] 30)) wm
  box : wm.heap[nb]? = some (.cells #[.int .i64 N, va] 45 (0, 0))
  arcs : wm.ownsRow w.heap.size 62 4 va A.length (cellsA A)
section
variable {w wm w' : World} {W H : Int} {C : ByteArray} {nb : Nat} {N : Int} {va : Value} {A : List ArcD}
theorem SW.on (h : SW w W H C nb N va A wm) (hb : Below wm.heap.size wm w') : SW w W H C nb N va A w' :=
  ⟨h.grid.trans (hb.mono h.grid.size), (hb.block nb (Array.getElem?_eq_some_iff.1 h.box).1).trans h.box, own_any h.arcs hb⟩
theorem SW.cells (h : SW w W H C nb N va A wm) : wm.cell? ⟨w.heap.size, 0, none⟩ = some (.int .i64 W) ∧ wm.cell? ⟨w.heap.size, 1, none⟩ = some (.int .i64 H) ∧ wm.cell? ⟨w.heap.size, 2, none⟩ = some (.string C) ∧ wm.cell? ⟨nb, 0, none⟩ = some (.int .i64 N) ∧ wm.cell? ⟨nb, 1, none⟩ = some va := by
  have hg := (h.grid.block w.heap.size (by simp)).trans (heap_alloc_new w _)
  refine ⟨?_, ?_, ?_, ?_, ?_⟩
  · rw [cell_of_row _ _ _ _ _ _ hg]; rfl
  · rw [cell_of_row _ _ _ _ _ _ hg]; rfl
  · rw [cell_of_row _ _ _ _ _ _ hg]; rfl
  · rw [cell_of_row _ _ _ _ _ _ h.box]; rfl
  · rw [cell_of_row _ _ _ _ _ _ h.box]; rfl
theorem SW.low (h : SW w W H C nb N va A wm) : Below w.heap.size w wm := box_below h.grid
/-- An append to the list of ways leaves all that as it is. -/
theorem SW.grown (h : SW w W H C nb N va A wm) {o : Value} {k : Nat} {us : List Value} (ho : wm.ownsRow (w.heap.size + 1) 48 1 o k us) (hg : wm.grownBy w' o.ownBlock) : SW w W H C nb N va A w' := by
  refine ⟨h.grid.grown hg h.grid.size (fun j hj => by have := (ho.lt j hj).1; simp; omega), ?_, h.arcs.kept hg (own_kinds h.arcs ho (by decide))⟩
  refine (hg.block nb (Array.getElem?_eq_some_iff.1 h.box).1 fun e => ?_).trans h.box
  rcases ho.2 with ⟨rfl, _⟩ | ⟨g, cap, cur, rfl, _, hg2, _⟩
  · cases e
  · have e2 : nb = g := by simpa [Value.ownBlock] using e
    subst e2
    rw [h.box] at hg2
    injection hg2 with hg2
    injection hg2 with _ h2
    exact absurd h2 (by decide)
end
/-- One way under way: its box, and its cells in memory made since the round's beginning. -/
structure LW (wi : World) (wb : Nat) (u : Value) (M : List Int) (w' : World) : Prop where
  below : Below wi.heap.size wi w'
  box : w'.heap[wb]? = some (.cells #[u] 48 (0, 0))
  lo : wi.heap.size ≤ wb
  own : w'.ownsRow wi.heap.size 3 1 u M.length (M.map (Value.int .i64))
section
variable {wi w' w'' : World} {wb : Nat} {u : Value} {M : List Int}
theorem LW.on (h : LW wi wb u M w') (hb : Below w'.heap.size w' w'') : LW wi wb u M w'' :=
  ⟨h.below.trans (hb.mono h.below.size), (hb.block wb (Array.getElem?_eq_some_iff.1 h.box).1).trans h.box, h.lo, own_any h.own hb⟩
theorem LW.cell (h : LW wi wb u M w') : w'.cell? ⟨wb, 0, none⟩ = some u ∧ w'.frozen? ⟨wb, 0, none⟩ = false := by
  refine ⟨?_, ?_⟩
  · rw [cell_of_row _ _ _ _ _ _ h.box]; rfl
  · simp [World.frozen?, h.box]
theorem LW.box_grown (h : LW wi wb u M w') (hg : w'.grownBy w'' u.ownBlock) : w''.heap[wb]? = some (.cells #[u] 48 (0, 0)) := by
  have hne : some wb ≠ u.ownBlock := fun e => by
    rcases h.own.2 with ⟨rfl, _⟩ | ⟨g, cap, cur, rfl, _, hg, _⟩
    · cases e
    · have e2 : wb = g := by simpa [Value.ownBlock] using e
      subst e2
      rw [h.box] at hg
      injection hg with hg
      injection hg with _ h2
      exact absurd h2 (by decide)
  exact (hg.block wb (Array.getElem?_eq_some_iff.1 h.box).1 hne).trans h.box
theorem old_one2 {w3 : World} {c0 : Value} {t : TypeId} {m : Nat} (h3 : w3.heap[m]? = some (.cells #[c0] t (0, 0))) : w3.cell? ⟨m, 0, none⟩ = some c0 ∧ w3.frozen? ⟨m, 0, none⟩ = false := by
  refine ⟨?_, ?_⟩
  · rw [cell_of_row _ _ _ _ _ _ h3]; rfl
  · simp [World.frozen?, h3]
/-- One cell more: what an append and the store of its slice leave. -/
theorem LW.push (h : LW wi wb u M w') {u' : Value} {M' : List Int} (ho : w''.ownsRow wi.heap.size 3 1 u' M'.length (M'.map (Value.int .i64))) (hg : w'.grownBy w'' u.ownBlock) : LW wi wb u' M' (w''.setCell ⟨wb, 0, none⟩ u') := by
  have hne : some wb ≠ u.ownBlock := fun e => by
    rcases h.own.2 with ⟨rfl, _⟩ | ⟨g, cap, cur, rfl, _, hg, _⟩
    · cases e
    · have e2 : wb = g := by simpa [Value.ownBlock] using e
      subst e2
      rw [h.box] at hg
      injection hg with hg
      injection hg with _ h2
      exact absurd h2 (by decide)
  have hb2 : w''.heap[wb]? = some (.cells #[u] 48 (0, 0)) := (hg.block wb (Array.getElem?_eq_some_iff.1 h.box).1 hne).trans h.box
  have hrow := heap_setCell_same w'' wb 0 _ _ u' hb2
  have k1 : w''.grownBy (w''.setCell ⟨wb, 0, none⟩ u') (some wb) := ⟨rfl, rfl, rfl, by simp [World.setCell], fun i _ hn => heap_setCell_other _ _ _ _ (fun e => hn (by rw [e]))⟩
  refine ⟨(h.below.grown hg h.below.size (fun j hj => (h.own.lt j hj).1)).setCell h.lo _, hrow, h.lo, ho.kept k1 ?_⟩
  rcases ho.2 with ⟨rfl, _⟩ | ⟨g, cap, cur, rfl, _, hg2, _⟩
  · exact .inl rfl
  · refine .inr fun e => ?_
    have e2 : g = wb := by simpa [Value.ownBlock] using e
    subst e2
    rw [hb2] at hg2
    injection hg2 with hg2
    injection hg2 with _ h2
    exact absurd h2 (by decide)
end

theorem own_oneI (w : World) (x : Int) : (w.alloc (.cells #[.int .i64 x] 3)).ownsRow w.heap.size 3 1 (.slice (some ⟨w.heap.size, 0, none⟩) 1 1) [x].length ([x].map (Value.int .i64)) :=
  ⟨rfl, .inr ⟨w.heap.size, 1, _, rfl, Nat.le_refl _, heap_alloc_new w _, Nat.le_refl _, by unfold maxLen; omega, rfl, rfl⟩⟩
theorem lw_start (w : World) (x : Int) : LW w (w.heap.size + 1) (.slice (some ⟨w.heap.size, 0, none⟩) 1 1) [x] ((w.alloc (.cells #[.int .i64 x] 3)).alloc (.cells #[.slice (some ⟨w.heap.size, 0, none⟩) 1 1] 48)) := by
  have hb := (Below.refl w.heap.size w).alloc (Nat.le_refl _) (.cells #[.int .i64 x] 3)
  have hn := heap_alloc_new (w.alloc (.cells #[.int .i64 x] 3)) (.cells #[.slice (some ⟨w.heap.size, 0, none⟩) 1 1] 48)
  rw [World.size_alloc] at hn
  exact ⟨hb.alloc hb.size _, hn, by omega, (own_oneI w x).alloc _⟩
theorem inN_le {F k t : Nat} (hk : k < F) (hF : F ≤ 64) (ht : t ≤ 21) : inN F k t ≤ 3000 := by
  unfold inN
  have := Nat.mul_le_mul ht hF
  omega
theorem inNodeV_bd {W H : Int} {C : ByteArray} {c : Int} {t : Nat} (hc : freeV W H C c = true) (ht : t ≤ 20) : 0 ≤ inNodeV W H C c (t : Int) ∧ inNodeV W H C c (t : Int) ≤ 3000 := by
  have h := inNode_is (numG_lt hc) ht
  rw [cellG_num hc] at h
  rw [h]
  have := inN_le (numG_lt hc) ((show (freeL W H C).length ≤ 64 from Nat.le_trans (picks_len _ _) (Nat.min_le_right _ 64))) (show t ≤ 21 by omega)
  omega
theorem way_new (w : World) (u : Value) (t : TypeId) : ∀ j x, [u][j]? = some x → (w.alloc (.cells #[u] t)).cell? ((⟨w.heap.size, 0, none⟩ : Addr).add j) = some x := by
  intro j x h
  have hadd : (⟨w.heap.size, 0, none⟩ : Addr).add j = ⟨w.heap.size, j, none⟩ := by unfold Addr.add; split <;> simp_all
  rw [hadd, World.cell?_alloc_mark]
  simpa using h

set_option maxHeartbeats 4000000 in
theorem specWays (W H : Int) (C : ByteArray) (S G : List Int) (T : Int) (F : List Int) (vs vg vf : Value) (Ws : List (List Int)) (b : Bool) (hC : C.size ≤ 1048576) (hS : S.length ≤ 2000000) (hG : G.length ≤ 2000000) (hF : F.length ≤ 2000000) (HB : Hid (waysB W H C S G T F = b)) (HW : Hid (waysL W H C S G T F = Ws)) (w : World) (hs : Ints w vs S) (hg : Ints w vg G) (hf : Ints w vf F) :
    Calls Tryd.prog 20 #[.agg #[.int .i64 W, .int .i64 H, .string C], vs, vg, .int .i64 T, vf] w (WaysRet w Ws b) := by
  have hB0 := Below.refl (w.alloc (.cells #[.int .i64 W, .int .i64 H, .string C] 30)).heap.size (w.alloc (.cells #[.int .i64 W, .int .i64 H, .string C] 30))
  have hB := hB0.alloc (Nat.le_refl _) (.cells #[] 48)
  have ho0 := made_box w (.cells #[.int .i64 W, .int .i64 H, .string C] 30) 48
  obtain ⟨c0, c1, c2⟩ := box_cells hB
  have HSS := Lib.hid hs
  have HGG := Lib.hid hg
  have HFF := Lib.hid hf
  obtain ⟨N, HN⟩ : ∃ N, Hid (timeNV W H C S G T false = N) := ⟨_, rfl⟩
  obtain ⟨A, HA⟩ : ∃ A, Hid (timeAV W H C S G T false = A) := ⟨_, rfl⟩
  obtain ⟨a, HK⟩ : ∃ a, Hid (askV W H C S G T = a) := ⟨_, rfl⟩
  have hAl : A.length ≤ 3200 := by rw [← HA.out]; exact timeAV_len
  have HT := Lib.hid (specTimeNet W H C S G T false vs vg N A a hC hS hG HN HA HK _ (ints_on HSS.out (box_below hB)) (ints_on HGG.out (box_below hB)))
  clear hs hg hf hB0
  obtain ⟨ss, cs, rfl, _⟩ := ints_form HSS.out
  obtain ⟨sf, cf, rfl, _⟩ := ints_form HFF.out
  go_enter Tryd.func20, Tryd.ntmps20
  go_wp2_with fail
  refine HT.out.mono ?_
  rintro e w2 ⟨va, rfl, hown, hb⟩
  have ho2 := own_any ho0 hb
  replace hB := chain hB hb
  obtain ⟨aa, ca, rfl⟩ := own_form hown
  have HAr := Lib.hid hown
  obtain ⟨i0, hi, hz0, hz1', hz2⟩ := info_parts Tryd.infoWay
  obtain ⟨j0, hj0, hy0, hy1, hy2⟩ := info_parts Tryd.info3
  have HO2 := Lib.hid ho2
  clear hb hown c0 c1 c2 HT ho0 ho2
  cases a with
  | false =>
    have e1 : b = false := by rw [← HB.out]; unfold waysB; rw [HK.out]; rfl
    have e2 : Ws = [] := by rw [← HW.out]; unfold waysL; rw [HB.out, e1]; rfl
    subst e1 e2
    have hbz := (box_below hB).alloc (box_below hB).size (.cells #[.int .i64 N, .slice aa A.length ca] 45)
    have hoz := own_base (HO2.out.alloc (.cells #[.int .i64 N, .slice aa A.length ca] 45)) (by omega : w.heap.size ≤ w.heap.size + 1)
    go_wp2_with fail
    refine bodyPost_ret (v := .tuple #[.slice (some ⟨w.heap.size + 1, 0, none⟩) 0 0, .bool false]) ?_ rfl ⟨_, rfl, ⟨[], hoz, fun j hj => (hoz.lt j hj).2, RowsI.nil hbz.size (Nat.le_refl _)⟩, hbz⟩
    simp [results, Tryd.results20, go_sem]
  | true =>
    obtain ⟨t, rfl, hd⟩ := ask_out HK.out
    obtain ⟨n, Hn⟩ : ∃ n : Nat, Hid (nodesG W H C t false = n) := ⟨_, rfl⟩
    have e2 : N = (n : Int) := by rw [← HN.out, ← Hn.out]; exact if_pos HK.out
    have HA2 : Hid (netG W H C S G t false = A) := Lib.hid (by rw [← HA.out]; exact (if_pos HK.out).symm)
    subst e2
    obtain ⟨z, HZ⟩ : ∃ z, Hid (flowSizeV (n : Int) A F = z) := ⟨_, rfl⟩
    have HBZ : Hid (decide (z = (S.length : Int)) = b) := Lib.hid (by rw [← HB.out]; exact (waysB_is HK.out Hn.out HA2.out HZ.out).symm)
    have hal := (Below.refl w2.heap.size w2).alloc (Nat.le_refl _) (.cells #[.int .i64 (n : Int), .slice aa A.length ca] 45)
    have HSW : Hid (SW w W H C w2.heap.size (n : Int) (.slice aa A.length ca) A (w2.alloc (.cells #[.int .i64 (n : Int), .slice aa A.length ca] 45))) := Lib.hid
      ⟨hB.trans (hal.mono hB.size), heap_alloc_new w2 _, own_any (own_base HAr.out (by simp; omega)) hal⟩
    have HO3 := Lib.hid (own_any HO2.out hal)
    have HS1 := Lib.hid (specFlowSize (n : Int) A F _ _ z (by omega) hF HZ _ (arcs_of_own HSW.out.arcs) (ints_on HFF.out HSW.out.low))
    have hs10 := hd.s10
    have hs1 := hd.s1
    have HD := Lib.hid hd
    clear hB hal hd
    go_wp2_with fail
    refine HS1.out.mono ?_
    rintro e w3 ⟨rfl, hb⟩
    have HSW3 := Lib.hid (HSW.out.on hb)
    have HO4 := Lib.hid (own_any HO3.out hb)
    clear HSW HO3 HO2
    by_cases hz : z = (S.length : Int)
    · have e1 : b = true := by rw [← HBZ.out]; exact decide_eq_true hz
      subst e1
      have hz3 : (z != (S.length : Int)) = false := by simpa using hz
      obtain ⟨t', ht', hU⟩ := units_of HB.out
      obtain rfl : t = t' := by omega
      have HKN : Hid (∀ c ∈ S, WayK W H C A F t (wayG W H C A F t c) ∧ (wayG W H C A F t c)[0]? = some c) := Lib.hid fun c hc => by
        have h1 := way_know hU hc
        have h2 := way_first hU hc
        rw [HA2.out] at h1 h2
        exact ⟨h1, h2⟩
      have HWS2 : Hid (S.map (wayG W H C A F t) = Ws) := Lib.hid (by
        rw [← HW.out, ← HA2.out]
        exact (if_pos HB.out).symm)
      have HWL : Hid (Ws.length = S.length) := Lib.hid (by rw [← HWS2.out, List.length_map])
      have ht20 := HD.out.t20
      clear hb hz hU HS1
      go_wp2_with fail
      go_loopw [12, 15] (fun o i wr => ∃ (k : Nat) (us : List Value), k ≤ S.length ∧ i = .int .i64 k ∧ us.length = k ∧ wr.ownsRow (w.heap.size + 1) 48 1 o k us ∧ RowsI wr (w.heap.size + 1) us (Ws.take k) wr.heap.size ∧ SW w W H C w2.heap.size (n : Int) (.slice aa A.length ca) A wr) (fun _ i _ => S.length - (intOf i).toNat)
      case atStart => exact ⟨0, [], Nat.zero_le _, rfl, rfl, HO4.out, by rw [List.take_zero]; exact .nil (by have := HSW3.out.grid.size; simp at this; omega) (Nat.le_refl _), HSW3.out⟩
      case round =>
        clear HSW3 HO4
        obtain ⟨k, us, hk, rfl, hul, hown, hrows, hsw⟩ := hrel
        obtain ⟨wi, rfl⟩ : ∃ wi, wi = wr := ⟨_, rfl⟩
        have HO := Lib.hid hown
        have HRW := Lib.hid hrows
        have HSWr := Lib.hid hsw
        have HUL := Lib.hid hul
        obtain ⟨ao, co, rfl⟩ := own_form hown
        by_cases hlt : k < S.length
        · have hlt2 : (k : Int) < (S.length : Int) := by omega
          obtain ⟨c, hx⟩ : ∃ c, S[k]? = some c := ⟨_, List.getElem?_eq_getElem hlt⟩
          obtain ⟨gs, e7, hgs, hcs⟩ : ∃ gs, ss = some ⟨gs, 0, none⟩ ∧ gs < w.heap.size ∧ w.cell? ⟨gs, k, none⟩ = some (.int .i64 c) := by
            obtain ⟨a9, c9, e9, h9⟩ := ints_form HSS.out
            injection e9 with e10 e11 e12
            subst e10
            rcases h9 with h | ⟨g, e, hg, hc⟩
            · omega
            · exact ⟨g, e, hg, hc k c hx⟩
          subst e7
          have dk := (hsw.low.cell (p := ⟨gs, k, none⟩) hgs).trans hcs
          obtain ⟨M, HM⟩ : ∃ M, Hid (wayG W H C A F t c = M) := ⟨_, rfl⟩
          have HKW : Hid (WayK W H C A F t M ∧ M[0]? = some c) := Lib.hid (by
            have h := HKN.out c (List.mem_of_getElem? hx)
            rw [HM.out] at h
            exact h)
          have HTS : Hid (Ws.take (k + 1) = Ws.take k ++ [M]) := Lib.hid (by
            have hk2 : k < Ws.length := by rw [HWL.out]; exact hlt
            have e : Ws[k]? = some M := by
              rw [← HWS2.out, List.getElem?_map, hx]
              exact congrArg some HM.out
            obtain ⟨_, e⟩ := List.getElem?_eq_some_iff.1 e
            rw [List.take_succ_eq_append_getElem hk2, e])
          obtain ⟨c0, c1, c2, d0, d1⟩ := hsw.cells
          have hM1 : M.take (0 + 1) = [c] := by
            have h := HKW.out.2
            obtain ⟨h0, e⟩ := List.getElem?_eq_some_iff.1 h
            cases M with
            | nil => simp at h0
            | cons x M => simpa using e
          have HM1 := Lib.hid hM1
          clear hx hown hrows hul hsw hcs hM1
          go_upto_region 9 with fail
          have hLW := lw_start wi c
          have dk2 := (hLW.below.cell (p := ⟨gs, k, none⟩) (Nat.lt_of_lt_of_le hgs HSWr.out.low.size)).trans dk
          rw [← HM1.out] at hLW
          have HL0 := Lib.hid hLW
          obtain ⟨wA, hwA⟩ : ∃ wA, (wi.alloc (.cells #[.int .i64 c] 3)).alloc (.cells #[.slice (some ⟨wi.heap.size, 0, none⟩) 1 1] 48) = wA := ⟨_, rfl⟩
          rw [hwA] at HL0 dk2 ⊢
          clear hLW dk c0 c1 c2 d0 d1 hwA
          go_wp2_with fail
          go_loopw [17, 18] (fun vc tv wr => ∃ (j : Nat) (c' : Int) (u : Value), j ≤ t ∧ vc = .int .i64 c' ∧ tv = .int .i64 j ∧ Hid (M[j]? = some c') ∧ LW wi (wi.heap.size + 1) u (M.take (j + 1)) wr) (fun _ tv _ => t - (intOf tv).toNat)
          case atStart => exact ⟨0, c, _, Nat.zero_le _, rfl, rfl, HKW.out.2, HL0.out⟩
          case round =>
            clear HL0 dk2
            obtain ⟨j, c', u, hj, rfl, rfl, HMJ, hlw⟩ := hrel
            obtain ⟨wr2, rfl⟩ : ∃ wr2, wr2 = wr := ⟨_, rfl⟩
            have hMl : (M.take (j + 1)).length = j + 1 := by rw [List.length_take, HKW.out.1.len]; omega
            obtain ⟨M1, HM1⟩ : ∃ M1, Hid (M.take (j + 1) = M1) := ⟨_, rfl⟩
            rw [HM1.out] at hMl hlw
            have HLW := Lib.hid hlw
            have HML := Lib.hid hMl
            clear hMl
            by_cases hjt : j < t
            · have hjt2 : (j : Int) < (t : Int) := by omega
              obtain ⟨hfr, ix, d, h1, h2, h3⟩ := HKW.out.1.step j c' HMJ.out hjt
              obtain ⟨L, HL⟩ : ∃ L, Hid (aroundL W H C c' = L) := ⟨_, rfl⟩
              rw [HL.out] at h1 h3
              have hL4 : L.length ≤ 4 := by rw [← HL.out]; exact aroundL_len W H C c'
              have HIX := Lib.hid h1
              have HMD := Lib.hid h2
              have HAR := Lib.hid h3
              obtain ⟨z1, HZ1⟩ : ∃ z1, Hid (inNodeV W H C c' (j : Int) = z1) := ⟨_, rfl⟩
              have hz1b := inNodeV_bd hfr (show j ≤ 20 by omega)
              rw [HZ1.out] at hz1b
              have hwz : IntKind.i64.wrap (z1 + 1) = z1 + 1 := IntWalk.i64_in _ (by omega)
              have hwj : IntKind.i64.wrap ((j : Int) + 1) = (j : Int) + 1 := IntWalk.i64_in _ (by omega)
              have hsw2 := HSWr.out.on hlw.below
              have hal2 := (Below.refl wr2.heap.size wr2).alloc (Nat.le_refl _) (.cells #[.int .i64 c'] 3)
              obtain ⟨c0, c1, c2, _, _⟩ := (hsw2.on hal2).cells
              have HON := Lib.hid (own_oneI wr2 c')
              have HAL := Lib.hid hal2
              clear hfr h1 h2 h3 hsw2 hal2 hlw
              go_wp2_with (first
                | (go_at_call 32; (with_reducible refine (specAround W H C c' L hC HL _).mono ?_); rintro e w6 ⟨v6, rfl, hown6, hb6⟩; have HO6 := Lib.hid hown6; have HB6 := Lib.hid hb6; have HN6 := Lib.hid (own_any HON.out hb6); obtain ⟨a6, c6, rfl⟩ := own_form hown6; clear hown6 hb6)
                | (at_builtin; refine wpList_app rfl _ _ rfl wr2.heap.size _ _ [c'] L rfl rfl HN6.out (argI_of_ints (ints_of_own HO6.out)) (by simp; omega) (Nat.le_trans HAL.out.size HB6.out.size) ?_; intro v7 w7 hown7 hgr7; have HO7 := Lib.hid hown7; have HB7 := Lib.hid ((HAL.out.trans (HB6.out.mono HAL.out.size)).grown hgr7 (Nat.le_trans HAL.out.size HB6.out.size) (fun i hi => (HN6.out.lt i hi).1)); clear hown7 hgr7))
              obtain ⟨KL, HKL⟩ : ∃ KL, Hid (c' :: L = KL) := ⟨_, rfl⟩
              have hKl : KL.length ≤ 5 := by rw [← HKL.out]; simp; omega
              have hKp : 0 < KL.length := by rw [← HKL.out]; simp
              have ho7 : w7.ownsRow wr2.heap.size 3 1 v7 KL.length (KL.map (Value.int .i64)) := by rw [← HKL.out]; exact HO7.out
              rw [HKL.out] at HIX HAR
              obtain ⟨g7, c7, rfl⟩ : ∃ g7 c7, v7 = .slice (some ⟨g7, 0, none⟩) KL.length c7 := by
                rcases ho7.2 with ⟨_, h⟩ | ⟨g, cap, cur, rfl, _⟩
                · omega
                · exact ⟨g, cap, rfl⟩
              have hg7 := (ho7.lt g7 rfl).2
              have HO7K := Lib.hid ho7
              have hixl := (List.getElem?_eq_some_iff.1 HIX.out).1
              clear HO7 HO6 HB6 HN6 HON HAL c0 c1 c2 ho7
              go_wp2_with fail
              go_loopw [17, 20] (fun vc qv wr => ∃ q : Nat, q ≤ ix ∧ vc = .int .i64 c' ∧ qv = .int .i64 q ∧ Below w7.heap.size w7 wr) (fun _ qv _ => 6 - (intOf qv).toNat)
              case atStart => exact ⟨0, Nat.zero_le _, rfl, rfl, Below.refl _ _⟩
              case round =>
                obtain ⟨q, hq, rfl, rfl, hB3⟩ := hrel
                obtain ⟨wr3, rfl⟩ : ∃ wr3, wr3 = wr := ⟨_, rfl⟩
                have hqK : q < KL.length := by omega
                have hqK2 : (q : Int) < (KL.length : Int) := by omega
                obtain ⟨y, hy⟩ : ∃ y, KL[q]? = some y := ⟨_, List.getElem?_eq_getElem hqK⟩
                obtain ⟨ai, qv, har, hfa, hiff⟩ := HAR.out q y hy hq
                obtain ⟨z2, HZ2⟩ : ∃ z2, Hid (inNodeV W H C y ((j : Int) + 1) = z2) := ⟨_, rfl⟩
                have HAP : Hid (arcP A (z1 + 1) z2 = (ai : Int)) := Lib.hid (by
                  rw [HZ1.out, show ((j + 1 : Nat) : Int) = (j : Int) + 1 by omega, HZ2.out] at har
                  exact har)
                have haF := (List.getElem?_eq_some_iff.1 hfa).1
                have haF2 : (ai : Int) < (F.length : Int) := by omega
                have hai0 : 0 ≤ (ai : Int) := by omega
                obtain ⟨gf, e8, hgf, hcf⟩ : ∃ gf, sf = some ⟨gf, 0, none⟩ ∧ gf < w.heap.size ∧ w.cell? ⟨gf, ai, none⟩ = some (.int .i64 qv) := by
                  obtain ⟨a9, c9, e9, h9⟩ := ints_form HFF.out
                  injection e9 with e10 e11 e12
                  subst e10
                  rcases h9 with h | ⟨g, e, hg, hc⟩
                  · omega
                  · exact ⟨g, e, hg, hc ai qv hfa⟩
                subst e8
                have hK7 := own_int HO7K.out hy
                have HRD : Hid (∀ w', Below w7.heap.size w7 w' → w'.cell? ⟨w.heap.size, 0, none⟩ = some (.int .i64 W) ∧ w'.cell? ⟨w.heap.size, 1, none⟩ = some (.int .i64 H) ∧ w'.cell? ⟨w.heap.size, 2, none⟩ = some (.string C) ∧ w'.cell? ⟨w2.heap.size, 0, none⟩ = some (.int .i64 (n : Int)) ∧ w'.cell? ⟨w2.heap.size, 1, none⟩ = some (.slice aa A.length ca) ∧ w'.cell? ⟨g7, q, none⟩ = some (.int .i64 y) ∧ w'.cell? ⟨gf, ai, none⟩ = some (.int .i64 qv) ∧ Below w7.heap.size w7 w') := Lib.hid fun w' hb => by
                  have hsw7 := (HSWr.out.on HLW.out.below).on (HB7.out.trans (hb.mono HB7.out.size))
                  obtain ⟨k0, k1, k2, k3, k4⟩ := hsw7.cells
                  exact ⟨k0, k1, k2, k3, k4, (hb.cell (p := ⟨g7, q, none⟩) hg7).trans hK7, (hsw7.low.cell (p := ⟨gf, ai, none⟩) hgf).trans hcf, hb⟩
                have HARC : Hid (∀ w', Below w7.heap.size w7 w' → Arcs w' (.slice aa A.length ca) A) := Lib.hid fun w' hb => arcs_of_own ((HSWr.out.on HLW.out.below).on (HB7.out.trans (hb.mono HB7.out.size))).arcs
                have hS0 := HRD.out _ hB3.drew
                have HY := Lib.hid hy
                clear hy har hfa hcf hK7
                go_upto_region 17 with fail
                by_cases hqx : q = ix
                · subst hqx
                  have hyd : y = d := by
                    have h := HIX.out
                    rw [HY.out] at h
                    exact Option.some.inj h
                  have hqv : qv = 1 := hiff.2 rfl
                  subst hyd hqv
                  have hq1 : ((1 : Int) == 1) = true := rfl
                  go_region_held3 (fun w' => w'.cell? ⟨w.heap.size, 0, none⟩ = some (.int .i64 W) ∧ w'.cell? ⟨w.heap.size, 1, none⟩ = some (.int .i64 H) ∧ w'.cell? ⟨w.heap.size, 2, none⟩ = some (.string C) ∧ w'.cell? ⟨w2.heap.size, 0, none⟩ = some (.int .i64 (n : Int)) ∧ w'.cell? ⟨w2.heap.size, 1, none⟩ = some (.slice aa A.length ca) ∧ w'.cell? ⟨g7, q, none⟩ = some (.int .i64 y) ∧ w'.cell? ⟨gf, ai, none⟩ = some (.int .i64 1) ∧ Below w7.heap.size w7 w')
                    (first | exact hS | exact hS0 | go_keep)
                    (first
                      | (go_at_call 18; (try go_split_ands); have hW : Below w7.heap.size w7 _ := (by assumption); (with_reducible refine (specInNode W H C c' j z1 hC HZ1 _).mono ?_); rintro e w8 ⟨rfl, hb8⟩; have hS := HRD.out _ (hW.trans (hb8.mono hW.size)); clear hb8)
                      | (go_at_call 18; (try go_split_ands); have hW : Below w7.heap.size w7 _ := (by assumption); (with_reducible refine (specInNode W H C y ((j : Int) + 1) z2 hC HZ2 _).mono ?_); rintro e w8 ⟨rfl, hb8⟩; have hS := HRD.out _ (hW.trans (hb8.mono hW.size)); clear hb8)
                      | (go_at_call 19; (try go_split_ands); have hW : Below w7.heap.size w7 _ := (by assumption); (with_reducible refine (specArc (n : Int) A (.slice aa A.length ca) (z1 + 1) z2 ai (by omega) HAP _ (HARC.out _ hW)).mono ?_); rintro e w8 ⟨rfl, hb8⟩; have hS := HRD.out _ (hW.trans (hb8.mono hW.size)); clear hb8))
                  all_goals
                    have HW9 := Lib.hid hS.2.2.2.2.2.2.2
                    obtain ⟨_, _, _, _, _, dy, _, _⟩ := hS
                    have hlw9 := HLW.out.on (HB7.out.trans (HW9.out.mono HB7.out.size))
                    obtain ⟨u0, _⟩ := hlw9.cell
                    have hlwA := hlw9.on ((Below.refl w8.heap.size w8).alloc (Nat.le_refl _) (.cells #[.int .i64 y] 3))
                    have HLA := Lib.hid hlwA
                    have hMS : M.take (j + 1 + 1) = M1 ++ [y] := by
                      rw [← HM1.out]
                      obtain ⟨h0, e⟩ := List.getElem?_eq_some_iff.1 HMD.out
                      rw [List.take_succ_eq_append_getElem h0, e]
                    have HMS := Lib.hid hMS
                    obtain ⟨au, cu, rfl⟩ := own_form hlw9.own
                    have hwib := HLW.out.below.size
                    clear hlw9 hlwA hMS
                    go_wp2_with (at_builtin; (refine wpList_append_own _ rfl _ _ 24 rfl wi.heap.size 3 j0 (.int .i64 0) 1 8 Tryd.underlying24 hj0 hy0 hy1 hy2 rfl (by decide) _ _ _ rfl HLA.out.own ⟨_, 0, none⟩ 1 1 ([y].map (Value.int .i64)) rfl rfl (int_new _ _ _) (ints_one _) (by have := HML.out; unfold maxLen; omega) (by have := HML.out; omega) HLA.out.below.size ?_; intro vA wA2 hownA hgrA _; have HLP := Lib.hid (HLA.out.push (ints_push hownA HMS.out) hgrA); have hbxA := HLA.out.box_grown hgrA; obtain ⟨xA, fA⟩ := old_one2 hbxA; obtain ⟨aA, cA, rfl⟩ := own_form hownA; clear hownA hgrA hbxA))
                    go_roundw
                    case rel => exact ⟨j + 1, y, _, by omega, rfl, by go_num, HMD.out, HLP.out⟩
                    case measure => simp [intOf]; omega
                · have hq1 : (qv == 1) = false := beq_eq_false_iff_ne.2 (fun e => hqx (hiff.1 e))
                  go_region_held3 (fun w' => w'.cell? ⟨w.heap.size, 0, none⟩ = some (.int .i64 W) ∧ w'.cell? ⟨w.heap.size, 1, none⟩ = some (.int .i64 H) ∧ w'.cell? ⟨w.heap.size, 2, none⟩ = some (.string C) ∧ w'.cell? ⟨w2.heap.size, 0, none⟩ = some (.int .i64 (n : Int)) ∧ w'.cell? ⟨w2.heap.size, 1, none⟩ = some (.slice aa A.length ca) ∧ w'.cell? ⟨g7, q, none⟩ = some (.int .i64 y) ∧ w'.cell? ⟨gf, ai, none⟩ = some (.int .i64 qv) ∧ Below w7.heap.size w7 w')
                    (first | exact hS | exact hS0 | go_keep)
                    (first
                      | (go_at_call 18; (try go_split_ands); have hW : Below w7.heap.size w7 _ := (by assumption); (with_reducible refine (specInNode W H C c' j z1 hC HZ1 _).mono ?_); rintro e w8 ⟨rfl, hb8⟩; have hS := HRD.out _ (hW.trans (hb8.mono hW.size)); clear hb8)
                      | (go_at_call 18; (try go_split_ands); have hW : Below w7.heap.size w7 _ := (by assumption); (with_reducible refine (specInNode W H C y ((j : Int) + 1) z2 hC HZ2 _).mono ?_); rintro e w8 ⟨rfl, hb8⟩; have hS := HRD.out _ (hW.trans (hb8.mono hW.size)); clear hb8)
                      | (go_at_call 19; (try go_split_ands); have hW : Below w7.heap.size w7 _ := (by assumption); (with_reducible refine (specArc (n : Int) A (.slice aa A.length ca) (z1 + 1) z2 ai (by omega) HAP _ (HARC.out _ hW)).mono ?_); rintro e w8 ⟨rfl, hb8⟩; have hS := HRD.out _ (hW.trans (hb8.mono hW.size)); clear hb8))
                  all_goals
                    have HW9 := Lib.hid hS.2.2.2.2.2.2.2
                    clear hS
                    go_wp2_with fail
                    go_roundw
                    case rel => exact ⟨q + 1, by omega, rfl, by go_num, HW9.out⟩
                    case measure => simp [intOf]; omega
            · have hjt2 : j = t := by omega
              have hM1M : M1 = M := by
                rw [← HM1.out]
                exact List.take_of_length_le (by rw [HKW.out.1.len]; omega)
              obtain ⟨u0, _⟩ := HLW.out.cell
              obtain ⟨au, cu, rfl⟩ := own_form HLW.out.own
              have hal := (Below.refl wr2.heap.size wr2).alloc (Nat.le_refl _) (.cells #[.slice au M1.length cu] 48)
              have hbA := HLW.out.below.trans (hal.mono HLW.out.below.size)
              have HOA := Lib.hid (own_any HO.out hbA)
              have HSA := Lib.hid (HSWr.out.on hbA)
              have hlwA := HLW.out.on hal
              have hrowA := (HRW.out.on hbA).snoc (hi := (wr2.alloc (.cells #[.slice au M1.length cu] 48)).heap.size) (v := .slice au M1.length cu) (L := M1) ⟨hlwA.own, fun i hi => (hlwA.own.lt i hi).2, Nat.le_refl _⟩ hlwA.below.size
              rw [hM1M, ← HTS.out] at hrowA
              rw [hM1M] at HOA HSA
              have HRA := Lib.hid hrowA
              have hjn : ¬ (j : Int) < (t : Int) := by omega
              have hsz0 : w.heap.size + 1 ≤ (wr2.alloc (.cells #[.slice au M.length cu] 48)).heap.size := by
                have := HSA.out.grid.size
                rw [World.size_alloc] at this
                exact this
              rw [hM1M] at u0 hlwA
              have h1one : ∀ x ∈ [Value.slice au M.length cu], x.oneCell' = true := fun x hx => by rw [List.mem_singleton.1 hx]; rfl
              have HLA := Lib.hid hlwA
              clear hlw hal hbA hlwA hrowA hM1M HLW
              go_wp2_with (at_builtin; (refine wpList_append_own _ rfl _ _ 33 rfl (w.heap.size + 1) 48 i0 (.agg #[.slice none 0 0]) 1 24 Tryd.underlying33 hi hz0 hz1' hz2 rfl (by decide) _ _ _ rfl HOA.out ⟨_, 0, none⟩ 1 1 [.slice au M.length cu] rfl rfl (way_new _ _ _) h1one (by unfold maxLen; omega) (by omega) hsz0 ?_; intro vA wA2 hownA hgrA _; have HOB := Lib.hid hownA; have HSB := Lib.hid (HSA.out.grown HOA.out hgrA); have HRB := Lib.hid ((HRA.out.grown hgrA (HRA.out.kinds HOA.out (by decide))).more hgrA.size (Nat.le_refl _)); obtain ⟨aA, cA, rfl⟩ := own_form hownA; clear hownA hgrA))
              go_roundw
              case rel => exact ⟨k + 1, _, by omega, by go_num, by rw [List.length_append, HUL.out]; rfl, HOB.out, HRB.out, HSB.out⟩
              case measure => simp [intOf]; omega
        · obtain rfl : k = S.length := by omega
          have e9 : Ws.take S.length = Ws := List.take_of_length_le (by rw [HWL.out]; exact Nat.le_refl _)
          rw [e9] at HRW
          have hwl := HWL.out
          have hro := own_base HO.out (by omega : w.heap.size ≤ w.heap.size + 1)
          have hro2 := hro
          rw [← hwl] at hro2
          have HFIN : Hid (WOwn wi w.heap.size wi.heap.size (.slice ao Ws.length co) Ws) := Lib.hid ⟨us, hro2, fun j hj => (hro2.lt j hj).2, HRW.out.base (by omega)⟩
          rw [hwl] at HFIN
          have HBF := Lib.hid HSWr.out.low
          clear hown hrows hul hro hro2 hsw e9 hwl
          go_wp2_with fail
          refine bodyPost_ret (v := .tuple #[.slice ao S.length co, .bool true]) ?_ rfl ⟨_, rfl, HFIN.out, HBF.out⟩
          simp [results, Tryd.results20, go_sem]
    · have hz2 : (z != (S.length : Int)) = true := by simpa using hz
      have e1 : b = false := by rw [← HBZ.out]; exact decide_eq_false hz
      have e4 : Ws = [] := by rw [← HW.out]; unfold waysL; rw [HB.out, e1]; rfl
      subst e1 e4
      have HB3 := Lib.hid HSW3.out.low
      have hoz := own_base HO4.out (by omega : w.heap.size ≤ w.heap.size + 1)
      clear hb hz
      go_wp2_with fail
      refine bodyPost_ret (v := .tuple #[.slice (some ⟨w.heap.size + 1, 0, none⟩) 0 0, .bool false]) ?_ rfl ⟨_, rfl, ⟨[], hoz, fun j hj => (hoz.lt j hj).2, RowsI.nil HB3.out.size (Nat.le_refl _)⟩, HB3.out⟩
      simp [results, Tryd.results20, go_sem]

end Go.Proofs.YtnbbhdbcapfbkaaDoor

