/-
  CONTRACT of the program's WaysOf. No law is proved here.
-/
import Derived.Test.YtcagaolichgogaaDoorZWO25
import Derived.Test.YtcagaolichgogaaDoorZWO36
import Derived.Test.YtcagaolichgogaaDoorZWO38
import Derived.Test.YtcagaolichgogaaDoorZWO01
import Derived.Deep.RegionHeld3
namespace Go.Proofs.YtcagaolichgogaaDoor
set_option maxRecDepth 4096
open Go.ChangeShapes Go.WideShapes Go.ChangeAt Go.RowKit

/-- Ways and a Boolean came back, the ways in memory of the call's own. -/
def WaysRet (w : World) (Ws : List (List Int)) (b : Bool) (e : Ending) (w' : World) : Prop :=
  ∃ v, e = .returned (.tuple #[v, .bool b]) ∧ WOwn w' w.heap.size w'.heap.size v Ws ∧ Below w.heap.size w w'
theorem wown_nil (w : World) (lo : Nat) (h : lo ≤ w.heap.size) : WOwn w lo w.heap.size (.slice none 0 0) [] := ⟨[], World.ownsRow_nil w lo _ 1, fun k hk => (by cases hk), RowsI.nil h (Nat.le_refl _)⟩

theorem waysB_is {W H : Int} {C : ByteArray} {S G F : List Int} {t n : Nat} {A : List ArcD} {z : Int} (hk : askV W H C S G t = true) (hn : nodesG W H C t false = n) (hA : netG W H C S G t false = A) (hz : flowSizeV (n : Int) A F = z) : waysB W H C S G t F = decide (z = (S.length : Int)) := by
  subst hn hA hz
  unfold waysB
  rw [hk]
  rfl
/-- What the loop over the starts reads. -/
structure WS (w : World) (W H : Int) (C : ByteArray) (ub : Nat) (vc vn vs : Value) (L NX S : List Int) (wm : World) : Prop where
  grid : Below (w.alloc (.cells #[.int .i64 W, .int .i64 H, .string C] 29)).heap.size (w.alloc (.cells #[.int .i64 W, .int .i64 H, .string C] 29)) wm
  box : wm.heap[ub]? = some (.cells #[vc, vn] 55 (0, 0))
  room : Room wm vc L
  next : Ints wm vn NX
  start : Ints wm vs S
section
variable {w wm w' w'' : World} {W H : Int} {C : ByteArray} {ub : Nat} {vc vn vs : Value} {L NX S : List Int}
theorem WS.on (h : WS w W H C ub vc vn vs L NX S wm) (hb : Below wm.heap.size wm w') : WS w W H C ub vc vn vs L NX S w' :=
  ⟨h.grid.trans (hb.mono h.grid.size), (hb.block ub (Array.getElem?_eq_some_iff.1 h.box).1).trans h.box, h.room.on hb, ints_on h.next hb, ints_on h.start hb⟩
theorem WS.cells (h : WS w W H C ub vc vn vs L NX S wm) (hb : Below wm.heap.size wm w') : w'.cell? ⟨w.heap.size, 0, none⟩ = some (.int .i64 W) ∧ w'.cell? ⟨w.heap.size, 1, none⟩ = some (.int .i64 H) ∧ w'.cell? ⟨w.heap.size, 2, none⟩ = some (.string C) ∧ w'.cell? ⟨ub, 0, none⟩ = some vc ∧ w'.cell? ⟨ub, 1, none⟩ = some vn ∧ Below wm.heap.size wm w' := by
  have h2 := h.on hb
  have hg := (h2.grid.block w.heap.size (by simp)).trans (heap_alloc_new w _)
  refine ⟨?_, ?_, ?_, ?_, ?_, hb⟩
  · rw [cell_of_row _ _ _ _ _ _ hg]; rfl
  · rw [cell_of_row _ _ _ _ _ _ hg]; rfl
  · rw [cell_of_row _ _ _ _ _ _ hg]; rfl
  · rw [cell_of_row _ _ _ _ _ _ h2.box]; rfl
  · rw [cell_of_row _ _ _ _ _ _ h2.box]; rfl
end

theorem ways_stepI {vs xs : List Value} {k n : Nat} {u : Value} (hk : k < n) (hv : vs.length = k) (hx : xs.length = n) : (vs ++ xs.drop k).set k u = (vs ++ [u]) ++ xs.drop (k + 1) := by
  rw [List.set_append, if_neg (by omega), hv, Nat.sub_self, List.drop_eq_getElem_cons (by omega), List.set_cons_zero, List.append_assoc]
  rfl
theorem _root_.Go.World.ownsRow.drew_later {B s n : Nat} {e : TypeId} {v : Value} {xs : List Value} {wr w6 w7 : World} (h : wr.ownsRow B e s v n xs) (h6 : Below wr.drew.heap.size wr.drew w6) (h7 : Below w6.heap.size w6 w7) : w7.ownsRow B e s v n xs :=
  own_any (own_any (w' := wr.drew) h h6) h7

set_option maxHeartbeats 4000000 in
theorem implWays (W H : Int) (C : ByteArray) (S G : List Int) (T : Int) (F : List Int) (vs vg vf : Value) (Ws : List (List Int)) (b : Bool) (hC : C.size ≤ 1048576) (hS : S.length ≤ 2000000) (hG : G.length ≤ 2000000) (hF : F.length ≤ 2000000) (HB : Hid (waysB W H C S G T F = b)) (HW : Hid (waysL W H C S G T F = Ws)) (w : World) (hs : Ints w vs S) (hg : Ints w vg G) (hf : Ints w vf F) (hSd : SidesAt w) :
    Calls Tryd.prog 9 #[.agg #[.int .i64 W, .int .i64 H, .string C], vs, vg, .int .i64 T, vf] w (WaysRet w Ws b) := by
  have hB := Below.refl (w.alloc (.cells #[.int .i64 W, .int .i64 H, .string C] 29)).heap.size (w.alloc (.cells #[.int .i64 W, .int .i64 H, .string C] 29))
  obtain ⟨c0, c1, c2⟩ := box_cells hB
  have HSS := Lib.hid hs
  have HGG := Lib.hid hg
  have HFF := Lib.hid hf
  have HSD := Lib.hid hSd
  obtain ⟨N, HN⟩ : ∃ N, Hid (timeNV W H C S G T false = N) := ⟨_, rfl⟩
  obtain ⟨A, HA⟩ : ∃ A, Hid (timeAV W H C S G T false = A) := ⟨_, rfl⟩
  obtain ⟨a, HK⟩ : ∃ a, Hid (askV W H C S G T = a) := ⟨_, rfl⟩
  have hAl : A.length ≤ 3200 := by rw [← HA.out]; exact timeAV_len
  have HT := Lib.hid (implTimeNet W H C S G T false vs vg N A a hC hS hG HN HA HK _ (ints_on HSS.out (box_below hB)) (ints_on HGG.out (box_below hB)) (hSd.below (box_below hB)))
  clear hs hg hf hSd
  obtain ⟨ss, cs, rfl, _⟩ := ints_form HSS.out
  go_enter Tryd.func9, Tryd.ntmps9
  go_wp2_with fail
  refine HT.out.mono ?_
  rintro e w2 ⟨va, rfl, hown, hb⟩
  replace hB := chain hB hb
  obtain ⟨aa, ca, rfl⟩ := own_form hown
  have HAr := Lib.hid (arcs_of_own hown)
  clear hb hown c0 c1 c2 HT
  cases a with
  | false =>
    have e1 : b = false := by rw [← HB.out]; unfold waysB; rw [HK.out]; rfl
    have e2 : Ws = [] := by rw [← HW.out]; unfold waysL; rw [HB.out, e1]; rfl
    subst e1 e2
    have hbz := (box_below hB).alloc (box_below hB).size (.cells #[.int .i64 N, .slice aa A.length ca] 45)
    go_wp2_with fail
    refine bodyPost_ret (v := .tuple #[.slice none 0 0, .bool false]) ?_ rfl ⟨_, rfl, wown_nil _ _ hbz.size, hbz⟩
    simp [results, Tryd.results9, go_sem]
  | true =>
    obtain ⟨t, rfl, hd⟩ := ask_out HK.out
    obtain ⟨n, Hn⟩ : ∃ n : Nat, Hid (nodesG W H C t false = n) := ⟨_, rfl⟩
    have e2 : N = (n : Int) := by rw [← HN.out, ← Hn.out]; exact if_pos HK.out
    have HA2 : Hid (netG W H C S G t false = A) := Lib.hid (by rw [← HA.out]; exact (if_pos HK.out).symm)
    subst e2
    obtain ⟨z, HZ⟩ : ∃ z, Hid (flowSizeV (n : Int) A F = z) := ⟨_, rfl⟩
    have HBZ : Hid (decide (z = (S.length : Int)) = b) := Lib.hid (by rw [← HB.out]; exact (waysB_is HK.out Hn.out HA2.out HZ.out).symm)
    have hBn := hB.alloc hB.size (.cells #[.int .i64 (n : Int), .slice aa A.length ca] 45)
    have HAn := Lib.hid (arcs_on HAr.out ((Below.refl w2.heap.size w2).alloc (Nat.le_refl _) (.cells #[.int .i64 (n : Int), .slice aa A.length ca] 45)))
    have hnew := heap_alloc_new w2 (.cells #[.int .i64 (n : Int), .slice aa A.length ca] 45)
    have HS1 := Lib.hid (implFlowSize (n : Int) A F _ vf z (by omega) hF HZ _ HAn.out (ints_on HFF.out (box_below hBn)))
    have HBn := Lib.hid hBn
    have HNEW := Lib.hid hnew
    have hs10 := hd.s10
    have hs1 := hd.s1
    have HD := Lib.hid hd
    clear hB hBn hnew hd
    go_wp2_with fail
    refine HS1.out.mono ?_
    rintro e w3 ⟨rfl, hb⟩
    have hb3 := HBn.out.trans (hb.mono HBn.out.size)
    have hnew3 := (hb.block w2.heap.size (by simp)).trans HNEW.out
    have HA3 := Lib.hid (arcs_on HAn.out hb)
    by_cases hz : z = (S.length : Int)
    · have e1 : b = true := by rw [← HBZ.out]; exact decide_eq_true hz
      subst e1
      have hz3 : (z != (S.length : Int)) = false := by simpa using hz
      obtain ⟨t', ht', hU⟩ := units_of HB.out
      obtain rfl : t = t' := by omega
      have hok : flowOkV (n : Int) A F = true := by
        have h := hU.ok
        rw [Hn.out, HA2.out] at h
        exact h
      obtain ⟨L, HL⟩ : ∃ L, Hid (freeL W H C = L) := ⟨_, rfl⟩
      have hL0 : 0 < L.length := by
        obtain ⟨c, hc⟩ : ∃ c, c ∈ S := ⟨S[0]'(by omega), List.getElem_mem _⟩
        have := numG_lt (HD.out.sf c hc)
        rw [HL.out] at this
        omega
      have hL64 : L.length ≤ 1000000 := by
        have := freeL_len W H C
        rw [HL.out] at this
        omega
      obtain ⟨NX, HNX⟩ : ∃ NX, Hid (goL (A.zip F) n = NX) := ⟨_, rfl⟩
      have hn15 : n ≤ 1500 := by
        have := (netOk_out (flowOk_out hok).1).1
        omega
      have hNXl : NX.length ≤ 1000000 := by
        rw [← HNX.out]
        unfold goL
        rw [rowO_len]
        omega
      have HTK : Hid (∀ c ∈ S, Trk L NX (inNodeV W H C c 0) (wayG W H C A F t c)) := Lib.hid fun c hc => by
        have h := trk_start hU hc
        rw [Hn.out, HA2.out, HL.out, HNX.out] at h
        exact h
      have HWS2 : Hid (S.map (wayG W H C A F t) = Ws) := Lib.hid (by
        rw [← HW.out, ← HA2.out]
        exact (if_pos HB.out).symm)
      have hWl : Ws.length = S.length := by rw [← HWS2.out, List.length_map]
      have HWL := Lib.hid hWl
      have ht20 := HD.out.t20
      obtain ⟨c0, c1, c2⟩ := box_cells hb3
      have d0 : w3.cell? ⟨w2.heap.size, 0, none⟩ = some (.int .i64 (n : Int)) := by rw [cell_of_row _ _ _ _ _ _ hnew3]; rfl
      have d1 : w3.cell? ⟨w2.heap.size, 1, none⟩ = some (.slice aa A.length ca) := by rw [cell_of_row _ _ _ _ _ _ hnew3]; rfl
      have HTR := Lib.hid (implTraffic W H C L n A F (.slice aa A.length ca) vf hC HL hok w3 HA3.out (ints_on HFF.out (box_below hb3)))
      have HB3 := Lib.hid hb3
      rw [HNX.out] at HTR
      obtain ⟨i0, hi, hz0, hz1', hz2⟩ := info_parts Tryd.infoWay
      clear hb hb3 hnew3 hz hok hU hWl HS1
      go_wp2_with fail
      refine HTR.out.mono ?_
      rintro e w4 ⟨vc0, vn0, rfl, hoc, hon, hb4⟩
      obtain ⟨ac, cc, e5⟩ := own_form hoc
      obtain ⟨an, cn, e6⟩ := own_form hon
      obtain ⟨vc, hvc⟩ : ∃ vc, Value.slice ac L.length cc = vc := ⟨_, rfl⟩
      obtain ⟨vn, hvn⟩ : ∃ vn, Value.slice an NX.length cn = vn := ⟨_, rfl⟩
      subst e5 e6
      rw [hvc] at hoc
      rw [hvn] at hon
      have hB4 := HB3.out.trans (hb4.mono HB3.out.size)
      have hBu := (Below.refl w4.heap.size w4).alloc (Nat.le_refl _) (.cells #[vc, vn] 55)
      have HWS : Hid (WS w W H C w4.heap.size vc vn (.slice ss S.length cs) L NX S (w4.alloc (.cells #[vc, vn] 55))) := Lib.hid
        ⟨hB4.trans (hBu.mono hB4.size), heap_alloc_new w4 _, (room_of hoc hL0).on hBu, ints_on (ints_of_own hon) hBu, ints_on HSS.out (box_below (hB4.trans (hBu.mono hB4.size)))⟩
      have HBW : Hid (Below w.heap.size w (w4.alloc (.cells #[vc, vn] 55))) := Lib.hid (box_below (hB4.trans (hBu.mono hB4.size)))
      obtain ⟨wm, hwm⟩ : ∃ wm, w4.alloc (.cells #[vc, vn] 55) = wm := ⟨_, rfl⟩
      have hwms : wm.heap.size = w4.heap.size + 1 := by rw [← hwm]; simp
      rw [hwm] at HWS HBW
      clear hoc hon hb4 hB4 hBu c0 c1 c2 d0 d1
      rw [← hvc, ← hvn] at hwm
      have HVC := Lib.hid hvc
      have HVN := Lib.hid hvn
      clear hvc hvn
      go_upto_region 5 with fail
      have HWMS := Lib.hid hwms
      clear hwm hwms
      go_wp2_with (at_make; refine wpList_make_full wm rfl _ _ 26 rfl wm.heap.size 50 i0 _ 1 Tryd.underlying26 hi hz0 hz1' .i64 .i64 (S.length : Int) (S.length : Int) S.length rfl rfl rfl rfl (by rw [hz2]; omega) (by unfold maxLen; omega) (Nat.le_refl _) ?_; intro w5 hown5 hgrow5)
      generalize (madeCells (Value.agg #[.slice none 0 0]).cells (S.length * 1)).toList = xs at hown5
      have hxl : xs.length = S.length := by have := hown5.1; omega
      have hb5 := (Below.refl wm.heap.size wm).grown hgrow5 (Nat.le_refl _) (by simp)
      have hg5 := (hown5.lt wm.heap.size rfl).2
      clear hgrow5
      go_loopw [45] (fun i wr => ∃ (k : Nat) (us : List Value), k ≤ S.length ∧ i = .int .i64 k ∧ us.length = k ∧ wr.ownsRow wm.heap.size 50 1 (.slice (some ⟨wm.heap.size, 0, none⟩) S.length S.length) S.length (us ++ xs.drop k) ∧ RowsI wr wm.heap.size us (Ws.take k) wr.heap.size ∧ Below wm.heap.size wm wr) (fun i _ => S.length - (intOf i).toNat)
      case atStart => exact ⟨0, [], Nat.zero_le _, rfl, rfl, by simpa using hown5, by rw [List.take_zero]; exact .nil (by omega) (Nat.le_refl _), hb5⟩
      case round =>
        clear hown5 hb5 hg5
        obtain ⟨k, us, hk, rfl, hul, hown, hrows, hbe⟩ := hrel
        have HO := Lib.hid hown
        have HRW := Lib.hid hrows
        have HBE := Lib.hid hbe
        have HUL := Lib.hid hul
        have hwr := HWS.out.on hbe
        by_cases hlt : k < S.length
        · have hlt2 : (k : Int) < (S.length : Int) := by omega
          obtain ⟨c, hx⟩ : ∃ c, S[k]? = some c := ⟨_, List.getElem?_eq_getElem hlt⟩
          obtain ⟨gs, e7, hcs⟩ : ∃ gs, ss = some ⟨gs, 0, none⟩ ∧ wr.cell? ⟨gs, k, none⟩ = some (.int .i64 c) := by
            obtain ⟨a9, c9, e9, h9⟩ := ints_form hwr.start
            injection e9 with e10 e11 e12
            subst e10
            rcases h9 with h | ⟨g, e, _, hc⟩
            · omega
            · exact ⟨g, e, hc k c hx⟩
          subst e7
          obtain ⟨z2, HZ2⟩ : ∃ z2, Hid (inNodeV W H C c 0 = z2) := ⟨_, rfl⟩
          obtain ⟨M, HM⟩ : ∃ M, Hid (wayG W H C A F t c = M) := ⟨_, rfl⟩
          have HT2 : Hid (Trk L NX z2 M) := Lib.hid (by
            have h := HTK.out c (List.mem_of_getElem? hx)
            rw [HZ2.out, HM.out] at h
            exact h)
          have hMl : M.length ≤ 100000 := by
            rw [← HM.out]
            unfold wayG
            rw [List.length_map, wayK_len]
            omega
          have HTS : Hid (Ws.take (k + 1) = Ws.take k ++ [M]) := Lib.hid (by
            have hk2 : k < Ws.length := by rw [HWL.out]; exact hlt
            have e : Ws[k]? = some M := by
              rw [← HWS2.out, List.getElem?_map, hx]
              exact congrArg some HM.out
            obtain ⟨_, e⟩ := List.getElem?_eq_some_iff.1 e
            rw [List.take_succ_eq_append_getElem hk2, e])
          have hS0 := HWS.out.cells hbe.drew
          have hst := fun u => ways_stepI (u := u) hlt HUL.out hxl
          have HST := Lib.hid hst
          clear hx hown hrows hul hwr hbe hst
          go_upto_region 9 with fail
          go_region_held3 (fun w' => w'.cell? ⟨w.heap.size, 0, none⟩ = some (.int .i64 W) ∧ w'.cell? ⟨w.heap.size, 1, none⟩ = some (.int .i64 H) ∧ w'.cell? ⟨w.heap.size, 2, none⟩ = some (.string C) ∧ w'.cell? ⟨w4.heap.size, 0, none⟩ = some vc ∧ w'.cell? ⟨w4.heap.size, 1, none⟩ = some vn ∧ Below wm.heap.size wm w')
            (first | exact hS | exact hS0 | (go_split_ands; have hW9 := HW9.out; exact HWS.out.cells (hW9.setCell (Nat.le_refl _) _)) | go_keep)
            (first
              | (go_at_call 29; (try go_split_ands); have hW : Below wm.heap.size wm _ := (by assumption); (with_reducible refine (implInNode W H C c 0 z2 hC HZ2 wr.drew).mono ?_); rintro e w6 ⟨rfl, hb6⟩; have HB6 := Lib.hid hb6; have hS := HWS.out.cells (hW.trans (hb6.mono hW.size)); clear hb6)
              | (go_at_call 28; (try go_split_ands); have hW : Below wm.heap.size wm _ := (by assumption); (with_reducible refine (implWayFrom L NX vc vn hL64 hNXl HT2.out hMl _ (HWS.out.on hW).room (HWS.out.on hW).next).mono ?_); rintro e w7 ⟨v7, rfl, hown7, hb7⟩; have hS := HWS.out.cells (hW.trans (hb7.mono hW.size)); have HW9 := Lib.hid hS.2.2.2.2.2; have HO7 := Lib.hid hown7; have HB7 := Lib.hid hb7; have HR7 := Lib.hid (HO.out.drew_later HB6.out HB7.out); obtain ⟨x0, f0⟩ := own_cell HR7.out hlt; have z0 := HR7.out.frozenAt k; obtain ⟨a7, c7, rfl⟩ := own_form hown7; clear hown7 hb7))
          have h67 : Below wr.heap.size wr w7 := ((Below.refl wr.heap.size wr).drew.trans HB6.out).trans (HB7.out.mono HB6.out.size)
          have hown8 := HR7.out.stored k (.slice a7 M.length c7)
          rw [HST.out] at hown8
          have h6s : wr.heap.size ≤ w6.heap.size := HB6.out.size
          have hrow7 := (HRW.out.on h67).snoc (hi := w7.heap.size) (v := .slice a7 M.length c7) (L := M) ⟨own_base HO7.out h6s, fun j hj => (HO7.out.lt j hj).2, Nat.le_refl _⟩ h67.size
          rw [← HTS.out] at hrow7
          have hrow8 := hrow7.grown hown8.2 (hrow7.kinds HR7.out (by decide))
          have hsz : (w7.setCell ⟨wm.heap.size, k, none⟩ (.slice a7 M.length c7)).heap.size = w7.heap.size := by simp [World.setCell]
          rw [← hsz] at hrow8
          have HO8 := Lib.hid hown8.1
          have HR8 := Lib.hid hrow8
          have HB8 := Lib.hid (Below.setCell HW9.out (Nat.le_refl _) (.slice a7 M.length c7) (p := ⟨wm.heap.size, k, none⟩))
          clear hown8 hrow7 hrow8 h67 hS
          go_wp2_with fail
          go_roundw
          case rel => exact ⟨k + 1, _, by omega, by go_num, by rw [List.length_append, HUL.out]; rfl, HO8.out, HR8.out, HB8.out⟩
          case measure => simp [intOf]; omega
        · obtain rfl : k = S.length := by omega
          have e9 : Ws.take S.length = Ws := List.take_of_length_le (by rw [HWL.out]; exact Nat.le_refl _)
          rw [List.drop_of_length_le (by omega), List.append_nil] at HO
          rw [e9] at HRW
          have hwl := HWL.out
          have HBF := Lib.hid (HBW.out.trans (HBE.out.mono HBW.out.size))
          have hlo : w.heap.size ≤ wm.heap.size := HBW.out.size
          have hro := own_base HO.out hlo
          rw [← hwl] at hro
          have HFIN : Hid (WOwn wr w.heap.size wr.heap.size (.slice (some ⟨wm.heap.size, 0, none⟩) Ws.length Ws.length) Ws) := Lib.hid ⟨us, hro, fun j hj => by have := (HO.out.lt j hj).2; omega, HRW.out.base hlo⟩
          rw [hwl] at HFIN
          clear hown hrows hbe hul hro hwr e9 hwl
          go_wp2_with fail
          refine bodyPost_ret (v := .tuple #[.slice (some ⟨wm.heap.size, 0, none⟩) S.length S.length, .bool true]) ?_ rfl ⟨_, rfl, HFIN.out, HBF.out⟩
          simp [results, Tryd.results9, go_sem]
    · have hz2 : (z != (S.length : Int)) = true := by simpa using hz
      have e1 : b = false := by rw [← HBZ.out]; exact decide_eq_false hz
      have e4 : Ws = [] := by rw [← HW.out]; unfold waysL; rw [HB.out, e1]; rfl
      subst e1 e4
      have HB3 := Lib.hid (box_below hb3)
      clear hb hb3 hnew3 hz
      go_wp2_with fail
      refine bodyPost_ret (v := .tuple #[.slice none 0 0, .bool false]) ?_ rfl ⟨_, rfl, wown_nil _ _ HB3.out.size, HB3.out⟩
      simp [results, Tryd.results9, go_sem]

end Go.Proofs.YtcagaolichgogaaDoor

