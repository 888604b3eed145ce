/-
  CONTRACT of spec.FlowFor. No law is proved here.
-/
import Derived.Test.YtnbbhdbcapfbkaaDoorZFF32
import Derived.Test.YtnbbhdbcapfbkaaDoorZFF41
import Derived.Test.YtnbbhdbcapfbkaaDoorZFF42
import Derived.Test.YtnbbhdbcapfbkaaDoorZFF18
import Derived.BigQuiet
import Derived.Deep.QuietTactic
namespace Go.Proofs.YtnbbhdbcapfbkaaDoor
set_option maxRecDepth 4096
open Go.ChangeShapes Go.WideShapes Go.ChangeAt Go.RowKit

/-- No flow: an empty list in memory of the call's own. -/
theorem flux_no {w wr : World} (hB : Below w.heap.size w wr) : FluxRet w [] false (.returned (.tuple #[.slice (some ⟨wr.heap.size, 0, none⟩) 0 0, .bool false])) (wr.alloc (.cells #[] 3)) :=
  ⟨_, rfl, World.ownsRow_lit (base := w.heap.size) (e := 3) (size := 1) wr #[] 0 hB.size (by unfold maxLen; omega) rfl, hB.alloc hB.size _⟩
/-- A row of ints of the call's own is written: what the loops read stays. -/
theorem SW.put {w wm w' : World} {W H : Int} {C : ByteArray} {nb : Nat} {N : Int} {va : Value} {A : List ArcD} (h : SW w W H C nb N va A wm) {o : Value} {k : Nat} {us : List Value} (ho : wm.ownsRow (w.heap.size + 1) 3 1 o k us) (hg : wm.grownBy w' o.ownBlock) : SW w W H C nb N va A w' := by
  refine ⟨h.grid.grown hg h.grid.size (fun j hj => by have := (ho.lt j hj).1; simp; omega), ?_, h.arcs.kept hg (own_kinds h.arcs ho (by decide))⟩
  refine (hg.block nb (Array.getElem?_eq_some_iff.1 h.box).1 fun e => ?_).trans h.box
  rcases ho.2 with ⟨rfl, _⟩ | ⟨g, cap, cur, rfl, _, hg2, _⟩
  · cases e
  · have e2 : nb = g := by simpa [Value.ownBlock] using e
    subst e2
    rw [h.box] at hg2
    injection hg2 with hg2
    injection hg2 with _ h2
    exact absurd h2 (by decide)

theorem totW_bound {k : Nat} : ∀ {Ws : List (List Int)}, (∀ L ∈ Ws, L.length ≤ k) → totW Ws ≤ k * Ws.length
  | [], _ => Nat.le_refl _
  | L :: Ws, h => by
    have h1 := h L (List.mem_cons_self ..)
    have h2 := totW_bound (Ws := Ws) fun M hM => h M (List.mem_cons_of_mem _ hM)
    have e : totW (L :: Ws) = L.length + totW Ws := rfl
    rw [e, List.length_cons, Nat.mul_succ]
    omega
theorem ways_bound {W H : Int} {C : ByteArray} {S G : List Int} {t : Nat} {F : List Int} (hd : AskOkD W H C S G t) : (waysL W H C S G t F).length ≤ 10 ∧ totW (waysL W H C S G t F) ≤ 210 := by
  by_cases hb : waysB W H C S G t F = true
  · obtain ⟨u, e, hU⟩ := units_of hb
    obtain rfl : t = u := by omega
    have e2 : waysL W H C S G t F = S.map (wayG W H C (netG W H C S G t false) F t) := if_pos hb
    have h1 : (waysL W H C S G t F).length ≤ 10 := by rw [e2, List.length_map]; exact hd.s10
    refine ⟨h1, ?_⟩
    have h2 := totW_bound (k := 21) (Ws := waysL W H C S G t F) fun L hL => by
      rw [e2] at hL
      obtain ⟨c, hc, rfl⟩ := List.mem_map.1 hL
      have := (way_know hU hc).len
      have := hd.t20
      omega
    omega
  · have e : waysL W H C S G t F = [] := if_neg hb
    rw [e]
    exact ⟨by simp, by decide⟩
theorem rowO_zero (A : List ArcD) : rowO (netO []) A.length = unitsL A [] := by
  rw [units_nil]
  apply List.ext_getElem?
  intro j
  by_cases hj : j < A.length
  · rw [rowO_at _ hj, List.getElem?_replicate, if_pos hj]
    rfl
  · rw [List.getElem?_eq_none_iff.2 (by rw [rowO_len]; omega), List.getElem?_eq_none_iff.2 (by simp; omega)]

theorem nd_range {W H : Int} {C : ByteArray} {c : Int} {i : Nat} (hi : i ≤ 20) : -1 ≤ ndV W H C c i ∧ ndV W H C c i ≤ 100000 := by
  have hF : (freeL W H C).length ≤ 64 := Nat.le_trans (picks_len _ _) (Nat.min_le_right _ 64)
  have hx : (freeL W H C).idxOf c ≤ (freeL W H C).length := List.idxOf_le_length
  have hm : i * (freeL W H C).length ≤ 20 * 64 := Nat.mul_le_mul hi hF
  have hm2 : (i : Int) * ((freeL W H C).length : Int) = ((i * (freeL W H C).length : Nat) : Int) := by push_cast; rfl
  unfold ndV inNodeV
  split
  · rw [hm2]
    omega
  · omega
theorem from_range {W H : Int} {C : ByteArray} {L : List Int} : ∀ {i : Nat}, i ≤ 21 → 0 ≤ fromO W H C L i ∧ fromO W H C L i ≤ 100001
  | 0, _ => by
    show (0 : Int) ≤ 0 ∧ (0 : Int) ≤ 100001
    omega
  | i + 1, hi => by
    have := nd_range (W := W) (H := H) (C := C) (c := L.getD i 0) (i := i) (by omega)
    show 0 ≤ ndV W H C (L.getD i 0) i + 1 ∧ ndV W H C (L.getD i 0) i + 1 ≤ 100001
    omega
/-- One more unit on an arc. -/
theorem unit_more {w : World} {B gf : Nat} {A : List ArcD} {hs : List (Int × Int)} {k : Nat} {x : ArcD} (hd : Dst A) (hx : A[k]? = some x) (ho : w.ownsRow B 3 1 (.slice (some ⟨gf, 0, none⟩) A.length A.length) A.length ((unitsL A hs).map (Value.int .i64))) :
    w.cell? ⟨gf, k, none⟩ = some (.int .i64 ((hs.count (hopOf x) : Nat) : Int)) ∧ w.frozen? ⟨gf, k, none⟩ = false ∧
    (w.setCell ⟨gf, k, none⟩ (.int .i64 (((hs.count (hopOf x) : Nat) : Int) + 1))).ownsRow B 3 1 (.slice (some ⟨gf, 0, none⟩) A.length A.length) A.length ((unitsL A (hs ++ [hopOf x])).map (Value.int .i64)) ∧
    w.grownBy (w.setCell ⟨gf, k, none⟩ (.int .i64 (((hs.count (hopOf x) : Nat) : Int) + 1))) (some gf) := by
  have hk := (List.getElem?_eq_some_iff.1 hx).1
  have hc := ho.cells (g := gf) rfl k (.int .i64 ((hs.count (hopOf x) : Nat) : Int)) (by rw [List.getElem?_map, unitsL_at hx]; rfl)
  have hadd : (⟨gf, 0, none⟩ : Addr).add k = ⟨gf, k, none⟩ := by unfold Addr.add; split <;> simp_all
  rw [hadd] at hc
  have h2 := (ho.stored k (.int .i64 (((hs.count (hopOf x) : Nat) : Int) + 1))).1
  refine ⟨hc, ho.frozenAt k, ?_, ⟨rfl, rfl, rfl, by simp [World.setCell], fun j _ hj => heap_setCell_other w ⟨gf, k, none⟩ j _ (fun e => hj (by simp [e]))⟩⟩
  rw [← units_put hd hx, List.map_set]
  exact h2

theorem okI_len {S : List Int} {T : Nat} {Ws : List (List Int)} {i : Nat} {L : List Int} (h : okI S T Ws i = true) (hL : Ws[i]? = some L) : L.length = T + 1 := by
  unfold okI at h
  rw [hL] at h
  cases hS : S[i]? with
  | none => rw [hS] at h; cases h
  | some c =>
    rw [hS] at h
    exact of_decide_eq_true ((Bool.and_eq_true _ _).mp h).1
theorem hops_few {W H : Int} {C : ByteArray} {S G : List Int} {T j : Nat} {Ws : List (List Int)} (hT : T ≤ 20) (h : ∀ k, k < j → okI S T Ws k = true) : (hopsAll W H C G (Ws.take j)).length ≤ 44 * j := by
  have h1 := hopsAll_len (W := W) (H := H) (C := C) (G := G) (Ws := Ws.take j) (fun L hL => by
    obtain ⟨k, hk, e⟩ := List.getElem_of_mem hL
    have hk2 : k < j := by rw [List.length_take] at hk; omega
    have hL2 : Ws[k]? = some L := by
      have h3 := List.getElem?_eq_getElem hk
      rw [e, List.getElem?_take, if_pos hk2] at h3
      exact h3
    have := okI_len (h k hk2) hL2
    omega) j
  rw [List.take_take, Nat.min_self] at h1
  exact h1
theorem hops_one {W H : Int} {C : ByteArray} {G L : List Int} {T : Nat} (hT : T ≤ 20) (hl : L.length = T + 1) : (hopsW W H C G L).length ≤ 44 := by
  have h := hopsAll_len (W := W) (H := H) (C := C) (G := G) (Ws := [L]) (fun M hM => by rw [List.mem_singleton.1 hM]; omega) 1
  have e : hopsAll W H C G ([L].take 1) = hopsW W H C G L := by simp [hopsAll]
  rw [e] at h
  omega
theorem ask_sas {W H : Int} {C : ByteArray} {S G : List Int} {T : Int} (h : askV W H C S G T = true) : ascV W H C S = true := by
  unfold askV at h
  simp only [Bool.and_eq_true] at h
  exact h.2.2.2.2.1
/-- Where all steps are arcs, all cells are free. -/
theorem free_all {W H : Int} {C : ByteArray} {S G L : List Int} {T : Nat} (hT : T ≤ 20) (h0 : ∀ c, L[0]? = some c → freeV W H C c = true) (hh : ∀ h ∈ (hopsW W H C G L).take (2 * (T + 1)), isHop (netG W H C S G T false) h = true) : ∀ (i : Nat) c, i ≤ T → L[i]? = some c → freeV W H C c = true
  | 0, c, _, hc => h0 c hc
  | i + 1, c, hi, hc => by
    obtain ⟨d, hd⟩ : ∃ d, L[i]? = some d := ⟨_, List.getElem?_eq_getElem (by have := (List.getElem?_eq_some_iff.1 hc).1; omega)⟩
    have hfd := free_all hT h0 hh i d (by omega) hd
    have ht := hops_two (W := W) (H := H) (C := C) (G := G) hc
    have hm : (fromO W H C L (i + 1), ndV W H C c (i + 1)) ∈ (hopsW W H C G L).take (2 * (i + 1 + 1)) := by
      rw [ht]
      simp
    have hm2 : (fromO W H C L (i + 1), ndV W H C c (i + 1)) ∈ (hopsW W H C G L).take (2 * (T + 1)) := (List.take_subset_take_left (hopsW W H C G L) (by omega)) hm
    have h1 := hh _ hm2
    have e : fromO W H C L (i + 1) = ndV W H C d i + 1 := by
      show ndV W H C (L.getD i 0) i + 1 = _
      rw [List.getD_eq_getElem?_getD, hd]
      rfl
    rw [e] at h1
    exact hop_free hT hfd (by omega) h1

set_option maxHeartbeats 4000000 in
theorem specFlux (W H : Int) (C : ByteArray) (S G : List Int) (T : Int) (Ws : List (List Int)) (vs vg v : Value) (R : List Int) (b : Bool) (hC : C.size ≤ 1048576) (hS : S.length ≤ 2000000) (hG : G.length ≤ 2000000) (hW : totW Ws ≤ 2000000) (_ : Ws.length ≤ 2000000) (HB : Hid (fluxB W H C S G T Ws = b)) (HR : Hid (fluxL W H C S G T Ws = R)) (w : World) (hs : Ints w vs S) (hg : Ints w vg G) (hv : WaysAt w v Ws) :
    Calls Tryd.prog 6 #[.agg #[.int .i64 W, .int .i64 H, .string C], vs, vg, .int .i64 T, v] w (FluxRet w R b) := by
  have hB := Below.refl (w.alloc (.cells #[.int .i64 W, .int .i64 H, .string C] 30)).heap.size (w.alloc (.cells #[.int .i64 W, .int .i64 H, .string C] 30))
  obtain ⟨c0, c1, c2⟩ := box_cells hB
  have HSS := Lib.hid hs
  have HGG := Lib.hid hg
  have HVV := Lib.hid hv
  obtain ⟨N, HN⟩ : ∃ N, Hid (timeNV W H C S G T false = N) := ⟨_, rfl⟩
  obtain ⟨A, HA⟩ : ∃ A, Hid (timeAV W H C S G T false = A) := ⟨_, rfl⟩
  obtain ⟨a, HK⟩ : ∃ a, Hid (askV W H C S G T = a) := ⟨_, rfl⟩
  have hAl : A.length ≤ 3200 := by rw [← HA.out]; exact timeAV_len
  have HT := Lib.hid (specTimeNet W H C S G T false vs vg N A a hC hS hG HN HA HK _ (ints_on HSS.out (box_below hB)) (ints_on HGG.out (box_below hB)))
  clear hs hg hv
  obtain ⟨ss, cs, rfl, _⟩ := ints_form HSS.out
  obtain ⟨av, cv, rfl, _⟩ := HVV.out
  obtain ⟨i0, hi, hz0, hz1, hz2⟩ := info_parts Tryd.info3
  go_enter Tryd.func6, Tryd.ntmps6
  go_wp2_with fail
  refine HT.out.mono ?_
  rintro e w2 ⟨va, rfl, hown, hb⟩
  replace hB := chain hB hb
  obtain ⟨aa, ca, rfl⟩ := own_form hown
  have HAr := Lib.hid hown
  clear hb hown c0 c1 c2 HT
  cases a with
  | false =>
    have e1 : b = false := by rw [← HB.out]; exact flux_ask HK.out
    have e2 : R = [] := by rw [← HR.out]; unfold fluxL; rw [HB.out, e1]; rfl
    subst e1 e2
    have hbz := (box_below hB).alloc (box_below hB).size (.cells #[.int .i64 N, .slice aa A.length ca] 45)
    have hno := flux_no hbz
    rw [World.size_alloc] at hno
    have HNO := Lib.hid hno
    clear hno hbz
    go_wp2_with fail
    refine bodyPost_ret (v := .tuple #[.slice (some ⟨w2.heap.size + 1, 0, none⟩) 0 0, .bool false]) ?_ rfl HNO.out
    simp [results, Tryd.results6, go_sem]
  | true =>
    obtain ⟨t, rfl, hd⟩ := ask_out HK.out
    obtain ⟨n, Hn⟩ : ∃ n : Nat, Hid (nodesG W H C t false = n) := ⟨_, rfl⟩
    have e2 : N = (n : Int) := by rw [← HN.out, ← Hn.out]; exact if_pos HK.out
    have HA2 : Hid (netG W H C S G t false = A) := Lib.hid (by rw [← HA.out]; exact (if_pos HK.out).symm)
    subst e2
    have hal := (Below.refl w2.heap.size w2).alloc (Nat.le_refl _) (.cells #[.int .i64 (n : Int), .slice aa A.length ca] 45)
    have HSW : Hid (SW w W H C w2.heap.size (n : Int) (.slice aa A.length ca) A (w2.alloc (.cells #[.int .i64 (n : Int), .slice aa A.length ca] 45))) := Lib.hid
      ⟨hB.trans (hal.mono hB.size), heap_alloc_new w2 _, own_any (own_base HAr.out (by simp)) hal⟩
    have hs10 := hd.s10
    have ht20 := hd.t20
    have HD := Lib.hid hd
    have HFB : Hid (b = false → R = []) := Lib.hid fun e => by rw [← HR.out]; unfold fluxL; rw [HB.out, e]; rfl
    have HNO : ∀ wr, Below w.heap.size w wr → b = false → FluxRet w R b (.returned (.tuple #[.slice (some ⟨wr.heap.size, 0, none⟩) 0 0, .bool false])) (wr.alloc (.cells #[] 3)) := fun wr h e => by
      rw [e, HFB.out e]
      exact flux_no h
    have HNOh := Lib.hid HNO
    clear hB hal hd HNO
    by_cases hl : Ws.length = S.length
    · have hln : ((Ws.length : Int) != (S.length : Int)) = false := by rw [bne_eq_false_iff_eq]; omega
      have HL := Lib.hid hl
      obtain ⟨c0, c1, c2, d0, d1⟩ := HSW.out.cells
      clear hl
      go_wp2_with (at_make; go_loud (refine wpList_make_full _ rfl (.tmp 46) (.tmp 46) 24 rfl _ 3 i0 (.int .i64 0) 1 Tryd.underlying24 hi hz0 hz1 .i64 .i64 A.length A.length A.length rfl rfl rfl rfl (by rw [hz2]; omega) (by unfold maxLen; omega) (Nat.le_refl _) ?_); intro w3 hrow hg3; go_loud (have hB3 := HSW.out.on ((Below.refl _ _).grown hg3 (Nat.le_refl _) (fun j hj => (by cases hj)))); go_loud (have hrow3 := own_base (made_row0 hrow) (by have := HSW.out.grid.size; simp at this ⊢; omega) (B' := w.heap.size + 1)); have HR3 := Lib.hid hrow3; have HS3 := Lib.hid hB3; clear hrow hrow3 hg3 hB3)
      clear c0 c1 c2 d0 d1
      go_loopw [15] (fun i wr => ∃ j : Nat, j ≤ Ws.length ∧ i = .int .i64 j ∧ Hid (∀ k, k < j → okI S t Ws k = true) ∧ Hid (∀ h ∈ hopsAll W H C G (Ws.take j), isHop A h = true) ∧ wr.ownsRow (w.heap.size + 1) 3 1 (.slice (some ⟨w2.heap.size + 1, 0, none⟩) A.length A.length) A.length ((unitsL A (hopsAll W H C G (Ws.take j))).map (Value.int .i64)) ∧ SW w W H C w2.heap.size (n : Int) (.slice aa A.length ca) A wr) (fun i _ => Ws.length - (intOf i).toNat)
      case atStart => exact ⟨0, Nat.zero_le _, rfl, Lib.hid fun k hk => absurd hk (by omega), Lib.hid fun h hh => (by simp [hopsAll] at hh), by rw [show hopsAll W H C G (Ws.take 0) = [] from rfl, ← rowO_zero]; have h := HR3.out; rw [World.size_alloc] at h; exact h, HS3.out⟩
      case round =>
        clear HR3 HS3
        obtain ⟨j, hj, rfl, HOK, HHA, hown, hsw⟩ := hrel
        have HO := Lib.hid hown
        have HSWr := Lib.hid hsw
        by_cases hlt : j < Ws.length
        · have hlt2 : (j : Int) < (Ws.length : Int) := by omega
          have hltS : (j : Int) < (S.length : Int) := by have := HL.out; omega
          obtain ⟨L, hx⟩ : ∃ L, Ws[j]? = some L := ⟨_, List.getElem?_eq_getElem hlt⟩
          obtain ⟨c, hc0⟩ : ∃ c, S[j]? = some c := ⟨_, List.getElem?_eq_getElem (by have := HL.out; omega)⟩
          obtain ⟨gs, e7, hgs, hcs⟩ : ∃ gs, ss = some ⟨gs, 0, none⟩ ∧ gs < w.heap.size ∧ w.cell? ⟨gs, j, none⟩ = some (.int .i64 c) := by
            obtain ⟨a9, c9, e9, h9⟩ := ints_form HSS.out
            injection e9 with e10 e11 e12
            subst e10
            rcases h9 with h | ⟨g, e, hg, hc⟩
            · omega
            · exact ⟨g, e, hg, hc j c hc0⟩
          subst e7
          obtain ⟨gv, u, e7, hgv, d0, hI⟩ : ∃ gv u, av = some ⟨gv, 0, none⟩ ∧ gv < w.heap.size ∧ w.cell? ⟨gv, j, none⟩ = some u ∧ Ints w u L := by
            obtain ⟨a9, c9, e9, h9⟩ := HVV.out
            injection e9 with e10 e11 e12
            subst e10
            rcases h9 with h | ⟨g, e, hg, hc⟩
            · omega
            · obtain ⟨u, h1, h2⟩ := hc j L hx
              exact ⟨g, u, e, hg, h1, h2⟩
          subst e7
          obtain ⟨au, cu, rfl, HI⟩ := ints_form hI
          have HIh := Lib.hid HI
          have dk := (hsw.low.cell (p := ⟨gs, j, none⟩) hgs).trans hcs
          have d1 := (hsw.low.cell (p := ⟨gv, j, none⟩) hgv).trans d0
          have hLb := totW_one hx
          have hLb2 : L.length ≤ 2000000 := by omega
          have HOJ : Hid (okI S t Ws j = (decide (L.length = t + 1) && decide (L[0]? = some c))) := Lib.hid (okI_at hx hc0)
          have hwr : IntKind.i64.wrap ((t : Int) + 1) = (t : Int) + 1 := IntWalk.i64_in _ (by omega)
          have HX := Lib.hid hx
          have HCJ := Lib.hid hc0
          have HNOr : ∀ m, okI S t Ws j = false → FluxRet w R b (.returned (.tuple #[.slice (some ⟨wr.heap.size, 0, none⟩) 0 0, .bool false])) ((wr.drewN m).alloc (.cells #[] 3)) := fun m h => HNOh.out (wr.drewN m) (below_drewN HSWr.out.low m) (by rw [← HB.out]; exact flux_form (form_no hlt h))
          have HNR := Lib.hid HNOr
          clear hI HI hx hc0 hcs d0 hLb hown hsw HNOr
          by_cases hlen : L.length = t + 1
          · obtain ⟨x, hx⟩ : ∃ x, L[0]? = some x := ⟨_, List.getElem?_eq_getElem (by omega)⟩
            have hln2 : ((L.length : Int) != (t : Int) + 1) = false := by
              rw [bne_eq_false_iff_eq]; omega
            rcases HIh.out with h0 | ⟨q, rfl, hq, hqc⟩
            · omega
            · have dx := (HSWr.out.low.cell (p := ⟨q, 0, none⟩) hq).trans (hqc 0 x hx)
              have h0L : (0 : Int) < (L.length : Int) := by omega
              have HLN := Lib.hid hlen
              have HX0 := Lib.hid hx
              have HQC := Lib.hid hqc
              clear hqc hx hlen
              by_cases e : x = c
              · subst e
                have hxx : (x != x) = false := by simp
                go_wp2
                go_quiet (fail)
                go_wp2
                obtain ⟨Hs, HHs⟩ : ∃ Hs, Hid (hopsAll W H C G (Ws.take j) = Hs) := ⟨_, rfl⟩
                have HO1 := Lib.hid HO.out
                rw [HHs.out] at HO1
                have HDA : Hid (Dst A) := Lib.hid (by rw [← HA2.out]; exact net_dst (netT_of HD.out (ask_asc HK.out)))
                have HHL : Hid (Hs.length ≤ 440 ∧ (hopsW W H C G L).length ≤ 44) := Lib.hid ⟨by
                  have := hops_few (W := W) (H := H) (C := C) (G := G) ht20 HOK.out
                  rw [HHs.out] at this
                  have := HL.out
                  omega, hops_one ht20 HLN.out⟩
                go_loopw [17, 18] (fun f x wx => ∃ i : Nat, i ≤ t + 1 ∧ f = .int .i64 (fromO W H C L i) ∧ x = .int .i64 (i : Int) ∧ Hid (∀ h ∈ (hopsW W H C G L).take (2 * i), isHop A h = true) ∧ wx.ownsRow (w.heap.size + 1) 3 1 (.slice (some ⟨w2.heap.size + 1, 0, none⟩) A.length A.length) A.length ((unitsL A (Hs ++ (hopsW W H C G L).take (2 * i))).map (Value.int .i64)) ∧ SW w W H C w2.heap.size (n : Int) (.slice aa A.length ca) A wx) (fun _ x _ => t + 1 - (intOf x).toNat)
                case atStart => exact ⟨0, Nat.zero_le _, rfl, rfl, Lib.hid fun h hh => (by simp at hh), by rw [Nat.mul_zero, List.take_zero, List.append_nil]; exact HO1.out, HSWr.out.on (below_drewN (Below.refl _ _) _)⟩
                case round =>
                  obtain ⟨i, hi, rfl, rfl, HHI, hown, hsw⟩ := hrel
                  have HSWx := Lib.hid hsw
                  have HOx := Lib.hid hown
                  obtain ⟨c0, c1, c2, d0, d1⟩ := hsw.cells
                  obtain ⟨f, HF⟩ : ∃ f, Hid (fromO W H C L i = f) := ⟨_, rfl⟩
                  have hfr := from_range (W := W) (H := H) (C := C) (L := L) (i := i) (by omega)
                  rw [HF.out] at hfr ⊢
                  by_cases hit : i ≤ t
                  · have hit2 : (i : Int) ≤ (t : Int) := by omega
                    have hiL : (i : Int) < (L.length : Int) := by have := HLN.out; omega
                    obtain ⟨y, hy⟩ : ∃ y, L[i]? = some y := ⟨_, List.getElem?_eq_getElem (by have := HLN.out; omega)⟩
                    have dy := (hsw.low.cell (p := ⟨q, i, none⟩) hq).trans (HQC.out i y hy)
                    obtain ⟨z, HZn⟩ : ∃ z, Hid (ndV W H C y i = z) := ⟨_, rfl⟩
                    have hzr := nd_range (W := W) (H := H) (C := C) (c := y) (i := i) (by omega)
                    rw [HZn.out] at hzr
                    have hzw : IntKind.i64.wrap (z + 1) = z + 1 := IntWalk.i64_in _ (by omega)
                    have HIN : Hid (∀ m, Calls Tryd.prog 18 #[.agg #[.int .i64 W, .int .i64 H, .string C], .int .i64 y, .int .i64 (i : Int)] (wr.drewN m) (Made (wr.drewN m) (.int .i64 z))) := Lib.hid fun m => specInNode W H C y (i : Int) z hC HZn _
                    have HTW := Lib.hid (hops_two (W := W) (H := H) (C := C) (G := G) hy)
                    rw [HF.out, HZn.out] at HTW
                    have HFN : Hid (fromO W H C L (i + 1) = z + 1) := Lib.hid (by
                      show ndV W H C (L.getD i 0) i + 1 = z + 1
                      rw [List.getD_eq_getElem?_getD, hy]
                      show ndV W H C y i + 1 = _
                      rw [HZn.out])
                    clear hown hsw hy
                    go_wp2
                    go_still_tail 6, (by kernel_rfl)
                    change wpList _ _ _ _ _ wr.drew
                    have HIN1 : Hid (Calls Tryd.prog 18 #[.agg #[.int .i64 W, .int .i64 H, .string C], .int .i64 y, .int .i64 (i : Int)] wr.drew (Made wr.drew (.int .i64 z))) := Lib.hid (HIN.out 1)
                    go_wp2_with fail
                    refine HIN1.out.mono ?_
                    rintro e w7 ⟨rfl, hb⟩
                    have hbx : Below wr.heap.size wr w7 := (below_drewN (Below.refl wr.heap.size wr) 1).trans (hb.mono (Nat.le_refl _))
                    have HSW7 := Lib.hid (HSWx.out.on hbx)
                    have HO7 := Lib.hid (own_any HOx.out hbx)
                    clear hb hbx c0 c1 c2 d0 d1 dy HIN HIN1
                    obtain ⟨_, _, _, d0, d1⟩ := HSW7.out.cells
                    obtain ⟨k1, HK1⟩ : ∃ k1, Hid (arcP A f z = k1) := ⟨_, rfl⟩
                    obtain ⟨k2, HK2⟩ : ∃ k2, Hid (arcP A z (z + 1) = k2) := ⟨_, rfl⟩
                    go_wp2_with fail
                    refine (specArc (n : Int) A _ f z k1 (by omega) HK1 w7 (arcs_of_own HSW7.out.arcs)).mono ?_
                    rintro e w8 ⟨rfl, hb⟩
                    have HSW8 := Lib.hid (HSW7.out.on hb)
                    have HO8 := Lib.hid (own_any HO7.out hb)
                    clear hb d0 d1 HSW7 HO7
                    obtain ⟨_, _, _, d0, d1⟩ := HSW8.out.cells
                    go_wp2_with fail
                    refine (specArc (n : Int) A _ z (z + 1) k2 (by omega) HK2 w8 (arcs_of_own HSW8.out.arcs)).mono ?_
                    rintro e w9 ⟨rfl, hb⟩
                    have HSW9 := Lib.hid (HSW8.out.on hb)
                    have HO9 := Lib.hid (own_any HO8.out hb)
                    clear hb d0 d1 HSW8 HO8
                    have HNF : Hid ((isHop A (f, z) = false ∨ isHop A (z, z + 1) = false) → b = false) := Lib.hid fun hor => by
                      cases hbb : b with
                      | false => rfl
                      | true =>
                        exfalso
                        have hall := flux_hops HK.out (HB.out.trans hbb)
                        have h1 : ∀ h ∈ (hopsW W H C G L).take (2 * (i + 1)), isHop A h = true := fun h hh => by
                          rw [← HA2.out]
                          exact hall h (mem_all (List.mem_of_getElem? HX.out) (List.mem_of_mem_take hh))
                        rw [HTW.out] at h1
                        rcases hor with h | h
                        · have := h1 (f, z) (by simp)
                          rw [h] at this
                          cases this
                        · have := h1 (z, z + 1) (by simp)
                          rw [h] at this
                          cases this
                    cases hb1 : isHop A (f, z) with
                    | false =>
                      obtain rfl : k1 = -1 := by rw [← HK1.out]; exact arcP_no hb1
                      have e1 : b = false := HNF.out (.inl hb1)
                      have HRT := HNOh.out w9 HSW9.out.low e1
                      go_wp2_with fail
                      refine bodyPost_ret (v := .tuple #[.slice (some ⟨w9.heap.size, 0, none⟩) 0 0, .bool false]) ?_ rfl HRT
                      simp [results, Tryd.results6, go_sem]
                    | true =>
                      obtain ⟨a1, x1, hx1, ho1, hp1⟩ := arcP_yes hb1
                      obtain rfl : k1 = (a1 : Int) := by rw [← HK1.out]; exact hp1
                      cases hb2 : isHop A (z, z + 1) with
                      | false =>
                        obtain rfl : k2 = -1 := by rw [← HK2.out]; exact arcP_no hb2
                        have e1 : b = false := HNF.out (.inr hb2)
                        have HRT := HNOh.out w9 HSW9.out.low e1
                        have hp0 : ¬ (a1 : Int) < 0 := by omega
                        go_wp2_with fail
                        refine bodyPost_ret (v := .tuple #[.slice (some ⟨w9.heap.size, 0, none⟩) 0 0, .bool false]) ?_ rfl HRT
                        simp [results, Tryd.results6, go_sem]
                      | true =>
                        obtain ⟨a2, x2, hx2, ho2, hp2⟩ := arcP_yes hb2
                        obtain rfl : k2 = (a2 : Int) := by rw [← HK2.out]; exact hp2
                        have hl1 := (List.getElem?_eq_some_iff.1 hx1).1
                        have hl2 := (List.getElem?_eq_some_iff.1 hx2).1
                        obtain ⟨y1, hY1⟩ : ∃ y1 : Nat, (Hs ++ (hopsW W H C G L).take (2 * i)).count (hopOf x1) = y1 := ⟨_, rfl⟩
                        obtain ⟨q1, g1, r1, s1⟩ := unit_more HDA.out hx1 HO9.out
                        rw [hY1] at q1 r1 s1
                        have HS1 := Lib.hid (HSW9.out.put HO9.out s1)
                        have hyb1 : y1 ≤ 2000 := by
                          rw [← hY1]
                          refine Nat.le_trans List.count_le_length ?_
                          rw [List.length_append, List.length_take]
                          have := HHL.out
                          omega
                        obtain ⟨y2, hY2⟩ : ∃ y2 : Nat, (Hs ++ (hopsW W H C G L).take (2 * i) ++ [hopOf x1]).count (hopOf x2) = y2 := ⟨_, rfl⟩
                        obtain ⟨q2, g2, r2, s2⟩ := unit_more HDA.out hx2 r1
                        rw [hY2] at q2 r2 s2
                        have HS2 := Lib.hid (HS1.out.put r1 s2)
                        have hyb2 : y2 ≤ 2000 := by
                          rw [← hY2]
                          refine Nat.le_trans List.count_le_length ?_
                          rw [List.length_append, List.length_append, List.length_take]
                          have := HHL.out
                          simp only [List.length_cons, List.length_nil]
                          omega
                        have HR2 := Lib.hid r2
                        have hp01 : ¬ (a1 : Int) < 0 := by omega
                        have hp02 : ¬ (a2 : Int) < 0 := by omega
                        have hlt1 : (a1 : Int) < (A.length : Int) := by omega
                        have hlt2' : (a2 : Int) < (A.length : Int) := by omega
                        have hw1 : IntKind.i64.wrap ((y1 : Int) + 1) = (y1 : Int) + 1 := IntWalk.i64_in _ (by omega)
                        have hw2 : IntKind.i64.wrap ((y2 : Int) + 1) = (y2 : Int) + 1 := IntWalk.i64_in _ (by omega)
                        have HO1h := Lib.hid ho1
                        have HO2h := Lib.hid ho2
                        have HB1h := Lib.hid hb1
                        have HB2h := Lib.hid hb2
                        clear r1 r2 s1 s2 hY1 hY2 ho1 ho2 hb1 hb2 hp1 hp2 hx1 hx2 HNF HO9 HSW9
                        go_wp2_with fail
                        go_roundw
                        case rel => exact ⟨i + 1, by omega, by rw [HFN.out], by go_num, Lib.hid (by
                          rw [HTW.out]
                          intro h hh
                          rcases List.mem_append.1 hh with hh | hh
                          · exact HHI.out h hh
                          · simp only [List.mem_cons, List.not_mem_nil, or_false] at hh
                            rcases hh with rfl | rfl
                            · exact HB1h.out
                            · exact HB2h.out), by
                          rw [HTW.out, ← HO1h.out, ← HO2h.out, show Hs ++ ((hopsW W H C G L).take (2 * i) ++ [hopOf x1, hopOf x2]) = Hs ++ (hopsW W H C G L).take (2 * i) ++ [hopOf x1] ++ [hopOf x2] by simp]
                          exact HR2.out, HS2.out⟩
                        case measure => simp [intOf]; omega
                  · obtain rfl : i = t + 1 := by omega
                    have hnl : ¬ ((t + 1 : Nat) : Int) ≤ (t : Int) := by omega
                    obtain ⟨cl, hcl⟩ : ∃ cl, L[t]? = some cl := ⟨_, List.getElem?_eq_getElem (by have := HLN.out; omega)⟩
                    have hfl : freeV W H C cl = true := free_all (S := S) (G := G) (T := t) ht20 (fun c0 h0 => by
                      rw [HX0.out] at h0
                      cases h0
                      exact (asc_iff.1 (ask_sas HK.out) j x (by have := HL.out; omega) HCJ.out).1) (by rw [HA2.out]; exact HHI.out) t cl (Nat.le_refl _) hcl
                    have hea := end_arc (S := S) (G := G) ht20 hfl
                    have hef := hop_end (S := S) (G := G) ht20 hfl
                    have hfe : ndV W H C cl t + 1 = f := by
                      rw [← HF.out]
                      show _ = ndV W H C (L.getD t 0) t + 1
                      rw [List.getD_eq_getElem?_getD, hcl]
                      rfl
                    rw [HA2.out, hfe] at hea hef
                    have HEN := Lib.hid (hops_end (W := W) (H := H) (C := C) (G := G) (L := L) (c := cl) (by rw [HLN.out]; exact hcl))
                    rw [HLN.out, HF.out] at HEN
                    have HHS := Lib.hid (hopsAll_succ (W := W) (H := H) (C := C) (G := G) HX.out)
                    rw [HHs.out] at HHS
                    have HOKJ : Hid (∀ k, k < j + 1 → okI S t Ws k = true) := Lib.hid fun k hk => by
                      rcases Nat.lt_succ_iff_lt_or_eq.1 hk with h | h
                      · exact HOK.out k h
                      · rw [h, HOJ.out, HX0.out, HLN.out]; simp
                    have HHA1 := HHA.out
                    rw [HHs.out] at HHA1
                    have HHA2 := Lib.hid HHA1
                    obtain ⟨k1, HK1⟩ : ∃ k1, Hid (arcP A f 1 = k1) := ⟨_, rfl⟩
                    clear hown hsw hcl hfl hfe HHA1
                    go_wp2_with fail
                    refine (specArc (n : Int) A _ f 1 k1 (by omega) HK1 wr (arcs_of_own HSWx.out.arcs)).mono ?_
                    rintro e w7 ⟨rfl, hb⟩
                    have HSW7 := Lib.hid (HSWx.out.on hb)
                    have HO7 := Lib.hid (own_any HOx.out hb)
                    clear hb c0 c1 c2 d0 d1
                    cases hg : G.contains cl with
                    | true =>
                      have hb1 : isHop A (f, 1) = true := by rw [hea, hg]
                      obtain ⟨a1, x1, hx1, ho1, hp1⟩ := arcP_yes hb1
                      obtain rfl : k1 = (a1 : Int) := by rw [← HK1.out]; exact hp1
                      have HEN1 : Hid (hopsW W H C G L = (hopsW W H C G L).take (2 * (t + 1)) ++ [(f, 1)]) := Lib.hid (by
                        have := HEN.out
                        rw [if_pos hg] at this
                        exact this)
                      have hl1 := (List.getElem?_eq_some_iff.1 hx1).1
                      obtain ⟨y1, hY1⟩ : ∃ y1 : Nat, (Hs ++ (hopsW W H C G L).take (2 * (t + 1))).count (hopOf x1) = y1 := ⟨_, rfl⟩
                      obtain ⟨q1, g1, r1, s1⟩ := unit_more HDA.out hx1 HO7.out
                      rw [hY1] at q1 r1 s1
                      have HS1 := Lib.hid (HSW7.out.put HO7.out s1)
                      have hyb1 : y1 ≤ 2000 := by
                        rw [← hY1]
                        refine Nat.le_trans List.count_le_length ?_
                        rw [List.length_append, List.length_take]
                        have := HHL.out
                        omega
                      have HR1 := Lib.hid r1
                      have hp01 : ¬ (a1 : Int) < 0 := by omega
                      have hlt1 : (a1 : Int) < (A.length : Int) := by omega
                      have hw1 : IntKind.i64.wrap ((y1 : Int) + 1) = (y1 : Int) + 1 := IntWalk.i64_in _ (by omega)
                      have HO1h := Lib.hid ho1
                      have HB1h := Lib.hid hb1
                      clear r1 s1 hY1 ho1 hb1 hp1 hx1 HO7 HSW7 hea hef hg HEN
                      go_wp2_with fail
                      go_roundw
                      case rel => exact ⟨j + 1, by omega, by go_num, HOKJ, Lib.hid (by
                        rw [HHS.out, HEN1.out]
                        intro h hh
                        rcases List.mem_append.1 hh with hh | hh
                        · exact HHA2.out h hh
                        · rcases List.mem_append.1 hh with hh | hh
                          · exact HHI.out h hh
                          · rw [List.mem_singleton.1 hh]
                            exact HB1h.out), by
                        rw [HHS.out, HEN1.out, ← HO1h.out, ← List.append_assoc]
                        exact HR1.out, HS1.out⟩
                      case measure => simp [intOf]; omega
                    | false =>
                      have hb1 : isHop A (f, 1) = false := by rw [hea, hg]
                      obtain rfl : k1 = -1 := by rw [← HK1.out]; exact arcP_no hb1
                      have hb2 : isHop A (f, 2) = true := hef.2 hg
                      obtain ⟨a2, x2, hx2, ho2, hp2⟩ := arcP_yes hb2
                      obtain ⟨x3, hx3, ho3⟩ := last_arc (W := W) (H := H) (C := C) (S := S) (G := G) (T := t)
                      rw [HA2.out] at hx3
                      have HK2 : Hid (arcP A f 2 = (a2 : Int)) := Lib.hid hp2
                      have HEN1 : Hid (hopsW W H C G L = (hopsW W H C G L).take (2 * (t + 1)) ++ [(f, 2), (2, 1)]) := Lib.hid (by
                        have := HEN.out
                        rw [if_neg (by rw [hg]; decide)] at this
                        exact this)
                      clear hea hef hg HEN hb1
                      obtain ⟨_, _, _, d0, d1⟩ := HSW7.out.cells
                      go_wp2_with fail
                      refine (specArc (n : Int) A _ f 2 (a2 : Int) (by omega) HK2 w7 (arcs_of_own HSW7.out.arcs)).mono ?_
                      rintro e w8 ⟨rfl, hb⟩
                      have HSW8 := Lib.hid (HSW7.out.on hb)
                      have HO8 := Lib.hid (own_any HO7.out hb)
                      clear hb d0 d1 HSW7 HO7
                      obtain ⟨_, _, _, d0, d1⟩ := HSW8.out.cells
                      have hl2 := (List.getElem?_eq_some_iff.1 hx2).1
                      have hl3 := (List.getElem?_eq_some_iff.1 hx3).1
                      obtain ⟨y3, hY3⟩ : ∃ y3 : Nat, (Hs ++ (hopsW W H C G L).take (2 * (t + 1))).count (hopOf x3) = y3 := ⟨_, rfl⟩
                      obtain ⟨q3, g3, r3, s3⟩ := unit_more HDA.out hx3 HO8.out
                      rw [hY3] at q3 r3 s3
                      have HS3 := Lib.hid (HSW8.out.put HO8.out s3)
                      have hyb3 : y3 ≤ 2000 := by
                        rw [← hY3]
                        refine Nat.le_trans List.count_le_length ?_
                        rw [List.length_append, List.length_take]
                        have := HHL.out
                        omega
                      obtain ⟨y2, hY2⟩ : ∃ y2 : Nat, (Hs ++ (hopsW W H C G L).take (2 * (t + 1)) ++ [hopOf x3]).count (hopOf x2) = y2 := ⟨_, rfl⟩
                      obtain ⟨q2, g2, r2, s2⟩ := unit_more HDA.out hx2 r3
                      rw [hY2] at q2 r2 s2
                      have HS2 := Lib.hid (HS3.out.put r3 s2)
                      have hyb2 : y2 ≤ 2000 := by
                        rw [← hY2]
                        refine Nat.le_trans List.count_le_length ?_
                        rw [List.length_append, List.length_append, List.length_take]
                        have := HHL.out
                        simp only [List.length_cons, List.length_nil]
                        omega
                      have HR2 := Lib.hid r2
                      have hw0 : IntKind.i64.wrap ((A.length : Int) - 1) = ((A.length - 1 : Nat) : Int) := by rw [IntWalk.i64_in _ (by omega)]; omega
                      have hlt2' : (a2 : Int) < (A.length : Int) := by omega
                      have hlt3 : ((A.length - 1 : Nat) : Int) < (A.length : Int) := by omega
                      have hp02 : ¬ ((A.length - 1 : Nat) : Int) < 0 := by omega
                      have hw1 : IntKind.i64.wrap ((y3 : Int) + 1) = (y3 : Int) + 1 := IntWalk.i64_in _ (by omega)
                      have hw2 : IntKind.i64.wrap ((y2 : Int) + 1) = (y2 : Int) + 1 := IntWalk.i64_in _ (by omega)
                      have HO2h := Lib.hid ho2
                      have HO3h := Lib.hid ho3
                      have HB2h := Lib.hid hb2
                      have HB3h : Hid (isHop A (2, 1) = true) := Lib.hid (by rw [← HA2.out]; exact hop_last)
                      clear r2 r3 s2 s3 hY2 hY3 ho2 ho3 hb2 hp2 hx2 hx3 HO8 HSW8
                      go_wp2_with fail
                      go_roundw
                      case rel => exact ⟨j + 1, by omega, by go_num, HOKJ, Lib.hid (by
                        rw [HHS.out, HEN1.out]
                        intro h hh
                        rcases List.mem_append.1 hh with hh | hh
                        · exact HHA2.out h hh
                        · rcases List.mem_append.1 hh with hh | hh
                          · exact HHI.out h hh
                          · simp only [List.mem_cons, List.not_mem_nil, or_false] at hh
                            rcases hh with rfl | rfl
                            · exact HB2h.out
                            · exact HB3h.out), by
                        rw [HHS.out, HEN1.out, units_perm (hs' := Hs ++ (hopsW W H C G L).take (2 * (t + 1)) ++ [hopOf x3] ++ [hopOf x2]) (fun a => by
                          rw [HO2h.out, HO3h.out]
                          simp only [List.count_append, List.count_cons, List.count_nil]
                          omega)]
                        exact HR2.out, HS2.out⟩
                      case measure => simp [intOf]; omega
              · have hxy : (x != c) = true := by simpa using e
                have hko : okI S t Ws j = false := by rw [HOJ.out, HX0.out]; simp [e]
                go_wp2
                go_quiet (fail)
                go_wp2
                refine bodyPost_ret (v := .tuple #[.slice (some ⟨wr.heap.size, 0, none⟩) 0 0, .bool false]) ?_ rfl (HNR.out _ hko)
                simp [results, Tryd.results6, go_sem]
          · have hln2 : ((L.length : Int) != (t : Int) + 1) = true := by
              rw [bne_iff_ne]; omega
            have hko : okI S t Ws j = false := by rw [HOJ.out, decide_eq_false hlen]; rfl
            have HLN := Lib.hid hlen
            clear hlen
            go_wp2
            go_quiet (fail)
            go_wp2
            refine bodyPost_ret (v := .tuple #[.slice (some ⟨wr.heap.size, 0, none⟩) 0 0, .bool false]) ?_ rfl (HNR.out _ hko)
            simp [results, Tryd.results6, go_sem]
        · obtain rfl : j = Ws.length := by omega
          have hnl : ¬ (Ws.length : Int) < (Ws.length : Int) := by omega
          obtain ⟨U, HU⟩ : ∃ U, Hid (unitsL A (hopsAll W H C G Ws) = U) := ⟨_, rfl⟩
          have hUl : U.length = A.length := by rw [← HU.out, unitsL_len]
          have HO2 : Hid (wr.ownsRow (w.heap.size + 1) 3 1 (.slice (some ⟨w2.heap.size + 1, 0, none⟩) A.length A.length) U.length (U.map (Value.int .i64))) := Lib.hid (by
            have h := HO.out
            rw [List.take_length, HU.out, ← hUl] at h
            rw [← hUl]
            exact h)
          obtain ⟨bw, HBW⟩ : ∃ bw, Hid (waysB W H C S G t U = bw) := ⟨_, rfl⟩
          obtain ⟨Wb, HWB⟩ : ∃ Wb, Hid (waysL W H C S G t U = Wb) := ⟨_, rfl⟩
          have hwb := ways_bound (F := U) HD.out
          rw [HWB.out] at hwb
          obtain ⟨hwb1, hwb2⟩ := hwb
          have HBQ : Hid (b = (bw && decide (Wb = Ws))) := Lib.hid (by rw [← HB.out, flux_back HK.out (form_yes HL.out HOK.out), HA2.out, HU.out, HBW.out, HWB.out])
          have HRU : Hid ((if b = true then U else []) = R) := Lib.hid (by rw [← HR.out]; unfold fluxL; rw [HB.out, HA.out, HU.out])
          obtain ⟨c0, c1, c2, _, _⟩ := hsw.cells
          have HWC := Lib.hid (specWays W H C S G t U _ vg _ Wb bw hC hS hG (by omega) HBW HWB wr (ints_on HSS.out HSWr.out.low) (ints_on HGG.out HSWr.out.low) (ints_of_own HO2.out))
          clear hown hsw hUl
          go_wp2_with fail
          refine HWC.out.mono ?_
          rintro e w5 ⟨v5, rfl, hw5, hb5⟩
          obtain ⟨a5, c5, rfl⟩ := hw5.form
          have HB5 := Lib.hid (HSWr.out.low.trans (hb5.mono HSWr.out.low.size))
          have HO5 := Lib.hid (own_any HO2.out hb5)
          have HW5 := Lib.hid hw5.at
          clear hw5 hb5 c0 c1 c2 HWC
          cases bw with
          | false =>
            have HNN := Lib.hid (HNOh.out w5 HB5.out (by rw [HBQ.out]; rfl))
            go_wp2_with fail
            refine bodyPost_ret (v := .tuple #[.slice (some ⟨w5.heap.size, 0, none⟩) 0 0, .bool false]) ?_ rfl HNN.out
            simp [results, Tryd.results6, go_sem]
          | true =>
            obtain ⟨sb, HSB⟩ : ∃ sb, Hid (decide (Wb = Ws) = sb) := ⟨_, rfl⟩
            have HSM := Lib.hid (specSame _ _ Wb Ws sb (by omega) (by omega) HSB w5 HW5.out (waysAt_on HVV.out HB5.out))
            rw [HSB.out, Bool.true_and] at HBQ
            cases sb with
            | false =>
              go_wp2_with (go_at_call 21; refine HSM.out.mono ?_; rintro e w6 ⟨rfl, hb6⟩; have HB6 := Lib.hid (HB5.out.trans (hb6.mono HB5.out.size)); clear hb6 HSM)
              refine bodyPost_ret (v := .tuple #[.slice (some ⟨w6.heap.size, 0, none⟩) 0 0, .bool false]) ?_ rfl (HNOh.out w6 HB6.out HBQ.out)
              simp [results, Tryd.results6, go_sem]
            | true =>
              have e2 : U = R := by rw [← HRU.out, HBQ.out]; rfl
              go_wp2_with (go_at_call 21; refine HSM.out.mono ?_; rintro e w6 ⟨rfl, hb6⟩; have HB6 := Lib.hid (HB5.out.trans (hb6.mono HB5.out.size)); have HO6 := Lib.hid (own_any HO5.out hb6); clear hb6 HSM)
              refine bodyPost_ret (v := .tuple #[.slice (some ⟨w2.heap.size + 1, 0, none⟩) A.length A.length, .bool true]) ?_ rfl ⟨_, by rw [HBQ.out], by rw [← e2]; exact own_base HO6.out (by omega), HB6.out⟩
              simp [results, Tryd.results6, go_sem]
    · have hln : ((Ws.length : Int) != (S.length : Int)) = true := by rw [bne_iff_ne]; omega
      have e1 : b = false := by rw [← HB.out]; exact flux_form (form_len hl)
      have hno := HNOh.out _ HSW.out.low e1
      rw [World.size_alloc] at hno
      have HNN := Lib.hid hno
      clear hno hl
      go_wp2_with fail
      refine bodyPost_ret (v := .tuple #[.slice (some ⟨w2.heap.size + 1, 0, none⟩) 0 0, .bool false]) ?_ rfl HNN.out
      simp [results, Tryd.results6, go_sem]

end Go.Proofs.YtnbbhdbcapfbkaaDoor

