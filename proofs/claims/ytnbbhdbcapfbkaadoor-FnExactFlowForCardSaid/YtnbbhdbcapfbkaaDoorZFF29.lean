/-
  CONTRACT of the program's TimeNet. No law is proved here.
-/
import Derived.Test.YtnbbhdbcapfbkaaDoorZFF20
import Derived.Test.YtnbbhdbcapfbkaaDoorZFF21
import Derived.Test.YtnbbhdbcapfbkaaDoorZFF16
import Derived.Test.YtnbbhdbcapfbkaaDoorZFF26
import Derived.Test.YtnbbhdbcapfbkaaDoorZFF28
import Derived.Laws.ResultCell
import Derived.Deep.RegionHeld3
namespace Go.Proofs.YtnbbhdbcapfbkaaDoor
set_option maxRecDepth 4096
open Go.ChangeShapes Go.WideShapes Go.ChangeAt Go.RowKit

section
variable {m : MapD} {sl : List Nat} {T t : Nat} {strict : Bool} {nx : Nat → List Nat} {P : Nat}
theorem flat_same {f g : Nat → List ArcD} : ∀ {n : Nat}, (∀ i, i < n → f i = g i) → (List.range n).flatMap f = (List.range n).flatMap g
  | 0, _ => rfl
  | n + 1, h => by rw [flatX_snoc, flatX_snoc, flat_same fun i hi => h i (by omega), h n (by omega)]
theorem cellX_is (hn : ∀ v, v < m.F → nx v = if strict = true then [] else m.ar v) {i : Nat} (hi : i < m.F) : cellX m.F nx T t i = cellA m T t strict i := by
  unfold cellX cellA
  rw [hn i hi]
  cases strict <;> simp
theorem lay_next (hn : ∀ v, v < m.F → nx v = if strict = true then [] else m.ar v) {L : List (Nat × Nat)} (hL : L = if strict = true then m.pl else []) (hP : P = L.length) :
    layT m sl T strict t ++ (List.range m.F).flatMap (cellX m.F nx T t) ++ (if t = T then [] else pairA m t (numV 2 m.F P T t 0) L) = layT m sl T strict (t + 1) := by
  rw [layT_succ]
  unfold celT
  rw [flat_same fun i hi => cellX_is hn hi]
  congr 1
  cases strict with
  | false =>
    simp only [Bool.false_eq_true, if_false] at hL
    subst hL
    simp [pairA]
  | true =>
    simp only [if_true] at hL
    subst hL
    have e : numV 2 m.F P T t 0 = pairP m T t := by
      rw [num2, hP]
      unfold pairP baseN
      omega
    rw [e]
    simp
theorem nodes_is {L : List (Nat × Nat)} (hL : L = if strict = true then m.pl else []) (hP : P = L.length) : numV 2 m.F P T T 0 = timeN m T strict := by
  rw [num2, hP, hL]
  unfold timeN baseN
  cases strict with
  | false => simp
  | true =>
    simp only [if_true]
    rw [Nat.mul_right_comm 2 T]
    omega
end

theorem ex_cells {B k F P T : Nat} {vn vp va : Value} {A : List ArcD} {w : World} (h : EX B k F P T vn vp va A w) : w.cell? ⟨k, 0, none⟩ = some (.int .i64 F) ∧ w.cell? ⟨k, 1, none⟩ = some (.int .i64 P) ∧ w.cell? ⟨k, 2, none⟩ = some (.int .i64 T) ∧ w.cell? ⟨k, 5, none⟩ = some va := by
  obtain ⟨c0, c1, c2, _, _, c5⟩ := h.cells
  exact ⟨c0, c1, c2, c5⟩
theorem ex_keep {w : World} {k r : Nat} {x0 x1 x2 x5 : Value} (h : w.cell? ⟨k, 0, none⟩ = some x0 ∧ w.cell? ⟨k, 1, none⟩ = some x1 ∧ w.cell? ⟨k, 2, none⟩ = some x2 ∧ w.cell? ⟨k, 5, none⟩ = some x5) (hne : k ≠ r) (u v : Value) :
    ((w.setCell ⟨r, 0, none⟩ u).setCell ⟨r, 1, none⟩ v).cell? ⟨k, 0, none⟩ = some x0 ∧ ((w.setCell ⟨r, 0, none⟩ u).setCell ⟨r, 1, none⟩ v).cell? ⟨k, 1, none⟩ = some x1 ∧ ((w.setCell ⟨r, 0, none⟩ u).setCell ⟨r, 1, none⟩ v).cell? ⟨k, 2, none⟩ = some x2 ∧ ((w.setCell ⟨r, 0, none⟩ u).setCell ⟨r, 1, none⟩ v).cell? ⟨k, 5, none⟩ = some x5 := by
  have hh : ((w.setCell ⟨r, 0, none⟩ u).setCell ⟨r, 1, none⟩ v).heap[k]? = w.heap[k]? := by rw [heap_setCell_other _ _ _ _ hne, heap_setCell_other _ _ _ _ hne]
  exact ⟨(cell_block hh 0).trans h.1, (cell_block hh 1).trans h.2.1, (cell_block hh 2).trans h.2.2.1, (cell_block hh 5).trans h.2.2.2⟩

set_option maxHeartbeats 8000000 in
theorem implTimeNet (W H : Int) (C : ByteArray) (S G : List Int) (T : Int) (strict : Bool) (vs vg : Value) (N : Int) (A : List ArcD) (b : Bool) (hC : C.size ≤ 1048576) (hS : S.length ≤ 2000000) (hG : G.length ≤ 2000000) (HN : Hid (timeNV W H C S G T strict = N)) (HA : Hid (timeAV W H C S G T strict = A)) (HB : Hid (askV W H C S G T = b)) (w : World) (hs : Ints w vs S) (hg : Ints w vg G) (hSd : SidesAt w) :
    Calls Tryd.prog 23 #[.agg #[.int .i64 W, .int .i64 H, .string C], vs, vg, .int .i64 T, .bool strict] w (TimeBack w N A b) := by
  have hB := Below.refl ((w.alloc (tnObj W H C)).alloc tnRes).heap.size ((w.alloc (tnObj W H C)).alloc tnRes)
  obtain ⟨c0, c1, c2⟩ := tn_cells hB
  have HSS := Lib.hid hs
  have HGG := Lib.hid hg
  have HSD := Lib.hid hSd
  clear hs hg hSd
  cases hask : askV W H C S G T with
  | false =>
    have HK := Lib.hid hask
    have e1 : b = false := by rw [← HB.out]; exact hask
    have e2 : N = 0 := by rw [← HN.out]; exact if_neg (by rw [hask]; simp)
    have e3 : A = [] := by rw [← HA.out]; exact if_neg (by rw [hask]; simp)
    subst e1 e2 e3
    clear hask
    go_enter Tryd.func23, Tryd.ntmps23
    go_wp2_with (go_at_call 38; refine (implAsk W H C S G T vs vg false hC hS hG HK _ (ints_on HSS.out (tn_below hB)) (ints_on HGG.out (tn_below hB))).mono ?_; rintro e w1 ⟨rfl, hb⟩; have hB1 := next_below hB hb; have hr := tn_res hB1; have r0 : w1.cell? ⟨w.heap.size + 1, 0, none⟩ = some (.int .i64 0) := (by rw [cell_of_row _ _ _ _ _ _ hr]; rfl); have r1 : w1.cell? ⟨w.heap.size + 1, 1, none⟩ = some (.slice none 0 0) := (by rw [cell_of_row _ _ _ _ _ _ hr]; rfl); have k0 := frozen_of_row _ _ 0 _ _ hr; have k1 := frozen_of_row _ _ 1 _ _ hr; have HB1 := Lib.hid hB1; clear hb hB1 hr)
    obtain ⟨q0, q1, hown, hbl⟩ := tn_back (N := 0) (va := .slice none 0 0) (A := []) HB1.out (World.ownsRow_nil w1 (w.heap.size + 2) 62 4)
    refine bodyPost_ret (v := .tuple #[.agg #[.int .i64 0, .slice none 0 0], .bool false]) ?_ rfl ⟨_, rfl, hown, hbl⟩
    simp [results, Tryd.results23, go_sem, q0, q1]
  | true =>
    have HK := Lib.hid hask
    have e1 : b = true := by rw [← HB.out]; exact hask
    subst e1
    obtain ⟨t, rfl, hd⟩ := ask_out hask
    have e2 : N = (nodesG W H C t strict : Nat) := by rw [← HN.out]; exact if_pos hask
    have e3 : A = netG W H C S G t strict := by rw [← HA.out]; exact if_pos hask
    clear hask
    obtain ⟨L, HL⟩ : ∃ L, Hid (freeL W H C = L) := ⟨_, rfl⟩
    obtain ⟨m, HM⟩ : ∃ m, Hid (mapG W H C = m) := ⟨_, rfl⟩
    have hmF : m.F = L.length := by rw [← HM.out, ← HL.out]; rfl
    have hF64 : m.F ≤ 64 := by rw [hmF, ← HL.out]; exact freeL_len W H C
    obtain ⟨F, hF⟩ : ∃ F, m.F = F := ⟨_, rfl⟩
    have HIN : Hid (∀ (i : Nat) (x : Int), L[i]? = some x → i < F) := Lib.hid fun i x hx => by have := (List.getElem?_eq_some_iff.1 hx).1; omega
    have HIS : Hid (∀ (x : Int), x ∈ S → inNodeV W H C x 0 = ((inN F (numG W H C x) 0 : Nat) : Int)) := Lib.hid fun x hx => by
      have hf := hd.sf x hx
      have h1 := inNode_is (numG_lt hf) (Nat.zero_le 20)
      rw [cellG_num hf, HL.out, ← hmF, hF] at h1
      exact h1
    have HLC : Hid (∀ (i : Nat) (x : Int), L[i]? = some x → cellG W H C i = x) := Lib.hid fun i x hx => by
      have hi := (List.getElem?_eq_some_iff.1 hx).1
      rw [← HL.out] at hx hi
      rw [cellG_at hi] at hx
      exact Option.some.inj hx
    have ht20 := hd.t20
    have hs10 := hd.s10
    have hgs := hd.le
    have h4 : ∀ i, (m.ar i).length ≤ 4 := by rw [← HM.out]; exact fun i => ar_len i
    have hlt4 : ∀ i, i < m.F → ∀ j ∈ m.ar i, j < m.F := by rw [← HM.out]; exact mapG_ok.lt
    have hpl : m.pl.length ≤ 2 * m.F := pl_len (by rw [← HM.out]; exact mapG_ok) fun i _ => h4 i
    have hplF : ∀ q ∈ m.pl, q.1 < m.F ∧ q.2 < m.F := fun q hq => by
      unfold MapD.pl at hq
      obtain ⟨i, hi, hq⟩ := List.mem_flatMap.1 hq
      obtain ⟨k, hk, rfl⟩ := List.mem_map.1 hq
      exact ⟨List.mem_range.1 hi, List.mem_range.1 (List.mem_filter.1 hk).1⟩
    have HAA := Lib.hid e3
    have HNN := Lib.hid e2
    have HMF := Lib.hid hF
    have HLF : Hid (L.length = F) := Lib.hid (hmF.symm.trans hF)
    have H4 := Lib.hid h4
    have HLT := Lib.hid hlt4
    have HPLF := Lib.hid hplF
    have hw2 : IntKind.i64.wrap ((t : Int) + 1) = (t : Int) + 1 := IntWalk.i64_in _ (by omega)
    have hexp := fun w hS => implExpansion W H C t strict hC w hS
    rw [HM.out, hF] at hexp
    have HXP := Lib.hid hexp
    rw [hF] at hF64 hpl
    have hPQ : m.pl.length ≤ 128 := by omega
    clear hF hmF e2 e3 hd h4 hlt4 hplF hexp HN HA HB hpl
    obtain ⟨ast, cst, rfl, HV⟩ := ints_form HSS.out
    have HSC : Hid (∀ (j : Nat) (y : Int), S[j]? = some y → ∃ g, ast = some ⟨g, 0, none⟩ ∧ g < w.heap.size ∧ w.cell? ⟨g, j, none⟩ = some (.int .i64 y)) := Lib.hid fun j y hj => by
      rcases HV with h0 | ⟨g, rfl, hg, hc⟩
      · have := (List.getElem?_eq_some_iff.1 hj).1
        omega
      · exact ⟨g, rfl, hg, hc j y hj⟩
    obtain ⟨agl, cgl, rfl, _⟩ := ints_form HGG.out
    clear HV
    go_enter Tryd.func23, Tryd.ntmps23
    go_wp2_with fail
    refine (implAsk W H C S G t _ _ true hC hS hG HK _ (ints_on HSS.out (tn_below hB)) (ints_on HGG.out (tn_below hB))).mono ?_
    rintro e w1 ⟨rfl, hb⟩
    have hB1 := next_below hB hb
    clear c0 c1 c2 hb hB
    obtain ⟨c0, c1, c2⟩ := tn_cells hB1
    go_wp2_with fail
    refine (HXP.out _ (HSD.out.below (tn_below hB1))).mono ?_
    rintro e w2 ⟨k, Gn, Sx, vp, rfl, hE, hX, hP, hb⟩
    have hnx : ∀ v, v < m.F → nxK m strict F [] v = if strict = true then [] else m.ar v := fun v hv => by rw [← HMF.out]; exact nxK_all m strict hv
    have hplk : plK m strict F [] = if strict = true then m.pl else [] := by rw [← HMF.out, ← HM.out]; exact plK_all W H C strict
    obtain ⟨nx, hnxe⟩ : ∃ nx, nxK m strict F [] = nx := ⟨_, rfl⟩
    obtain ⟨PL, hPLe⟩ : ∃ PL, plK m strict F [] = PL := ⟨_, rfl⟩
    obtain ⟨P, hPe⟩ : ∃ P, PL.length = P := ⟨_, rfl⟩
    obtain ⟨B, hBe⟩ : ∃ B, w1.heap.size = B := ⟨_, rfl⟩
    rw [hnxe] at hX hnx
    rw [hPLe] at hE hP hplk
    rw [hPe] at hE
    rw [hBe] at hE hX hP
    have hP300 : P ≤ 300 := by
      rw [← hPe, hplk]
      split
      · omega
      · simp
    have hs1 := hB1.size
    rw [World.size_alloc, World.size_alloc, hBe] at hs1
    have hb2 := hb.size
    rw [hBe] at hb2
    have HB2 := Lib.hid (next_below hB1 hb)
    have HNX := Lib.hid hnx
    have HPLK := Lib.hid hplk
    have HPE := Lib.hid hPe
    have HX := Lib.hid hX
    have HP := Lib.hid hP
    have HN4 : Hid (∀ i, (nx i).length ≤ 4) := Lib.hid fun i => by
      rw [← hnxe]
      unfold nxK
      have := H4.out i
      split
      · simp
      · split
        · exact this
        · split <;> simp
    have HNF : Hid (∀ i, i < F → ∀ j ∈ nx i, j < F) := Lib.hid fun i hi j hj => by
      rw [hnx i (by rw [HMF.out]; exact hi)] at hj
      split at hj
      · cases hj
      · have := HLT.out i (by rw [HMF.out]; exact hi) j hj
        rw [HMF.out] at this
        exact this
    have HLF2 : Hid (∀ q ∈ PL, q.1 < m.F ∧ q.2 < m.F) := Lib.hid fun q hq => by
      rw [hplk] at hq
      split at hq
      · exact HPLF.out q hq
      · cases hq
    obtain ⟨avp, cvp, hvp⟩ := own_form hP
    rw [hPe] at hvp
    have HVP : Hid (∃ a c, vp = .slice a P c) := Lib.hid ⟨avp, cvp, hvp⟩
    have HE := Lib.hid hE
    -- the world of each point: what has lain since the start
    have HST : Hid (∀ wr, Below B w2 wr → wr.cell? ⟨w.heap.size, 0, none⟩ = some (.int .i64 W) ∧ wr.cell? ⟨w.heap.size, 1, none⟩ = some (.int .i64 H) ∧ wr.cell? ⟨w.heap.size, 2, none⟩ = some (.string C) ∧ Below w.heap.size w wr ∧ Below ((w.alloc (tnObj W H C)).alloc tnRes).heap.size ((w.alloc (tnObj W H C)).alloc tnRes) wr) := Lib.hid fun wr h => by
      have hh := HB2.out.trans (h.mono (by rw [World.size_alloc, World.size_alloc]; omega))
      obtain ⟨q0, q1, q2⟩ := tn_cells hh
      exact ⟨q0, q1, q2, tn_below hh, hh⟩
    obtain ⟨c0, c1, c2, hbw, _⟩ := HST.out w2 (Below.refl _ _)
    clear hE hX hP hb hB1 hnx hplk hvp hPLe hnxe hBe hPe
    go_wp2_with fail
    go_loopw [32] (fun jv wr => ∃ (i : Nat) (va : Value), jv = .int .i64 i ∧ i ≤ S.length ∧ EX B k F P t (.slice (some ⟨Gn, 0, none⟩) F F) vp va ((S.take i).map fun x => startA m (numG W H C x)) wr ∧ Below B w2 wr ∧ TK w2 wr) (fun jv _ => S.length - (intOf jv).toNat)
    case atStart => exact ⟨0, _, rfl, Nat.zero_le _, by simpa using HE.out, Below.refl _ _, TK.refl _⟩
    case round =>
      clear HE c0 c1 c2 hbw
      obtain ⟨i, va, rfl, hi, hE, hB, hK⟩ := hrel
      obtain ⟨c0, c1, c2, hbw, _⟩ := HST.out wr hB
      by_cases hlt : i < S.length
      · obtain ⟨x, hx⟩ : ∃ x, S[i]? = some x := ⟨_, List.getElem?_eq_getElem hlt⟩
        obtain ⟨gs, rfl, hgs, hcs⟩ := HSC.out i x hx
        have ds := (hbw.cell (p := ⟨gs, i, none⟩) hgs).trans hcs
        have hlt2 : (i : Int) < (S.length : Int) := by omega
        obtain ⟨z, hz⟩ : ∃ z, z = inN F (numG W H C x) 0 := ⟨_, rfl⟩
        have HZ : Hid (inNodeV W H C x 0 = (z : Int)) := Lib.hid (by rw [HIS.out x (List.mem_of_getElem? hx), hz])
        have HR : Hid ((S.take (i + 1)).map (fun x => startA m (numG W H C x)) = (S.take i).map (fun x => startA m (numG W H C x)) ++ [⟨0, (z : Int), 1, 0⟩]) := Lib.hid (by
          obtain ⟨hil, e⟩ := List.getElem?_eq_some_iff.1 hx
          rw [List.take_succ_eq_append_getElem hil, List.map_append, e, hz, ← HMF.out]
          rfl)
        have hl : ((S.take i).map fun x => startA m (numG W H C x)).length ≤ 10 := by rw [List.length_map, List.length_take]; omega
        have HE := Lib.hid hE
        clear hx hz hE hbw
        generalize (S.take i).map (fun x => startA m (numG W H C x)) = Y at HE HR hl
        go_wp2_with fail
        refine (implInNode W H C x 0 z hC HZ _).mono ?_
        rintro e w3 ⟨rfl, hb3⟩
        have hE3 := HE.out.call hb3
        have hK3 := hK.trans (TK.below hb3)
        have hB3 := hB.trans (hb3.mono (B' := B) (by have := HE.out.lo; have := HE.out.lt; omega))
        have HE3 := Lib.hid hE3
        clear hb3 hE3 hK hB HE ds c0 c1 c2
        go_wp2_with fail
        refine (implJoinX _ _ _ (by omega) _ HE3.out).mono ?_
        rintro e w4 ⟨rfl, ⟨va4, hE4⟩, hB4, hK4⟩
        replace hB4 := hB3.trans hB4
        replace hK4 := hK3.trans hK4
        have HE4 := Lib.hid hE4
        clear hE4 HE3 hB3 hK3
        go_wp2_with fail
        go_roundw
        case rel => exact ⟨i + 1, va4, by go_num, by omega, by rw [HR.out]; exact HE4.out, hB4, hK4⟩
        case measure => simp [intOf]; omega
      · obtain rfl : i = S.length := by omega
        rw [List.take_length] at hE
        obtain ⟨sl, HSL⟩ : ∃ sl, Hid (S.map (numG W H C) = sl) := ⟨_, rfl⟩
        have hsl : sl.length ≤ 10 := by rw [← HSL.out, List.length_map]; exact hs10
        have e0 : S.map (fun x => startA m (numG W H C x)) = layT m sl t strict 0 := by rw [layT_zero, ← HSL.out, List.map_map]; rfl
        rw [e0] at hE
        have HLL : Hid (∀ tt, (layT m sl t strict tt).length ≤ 10 + 4000 * tt) := Lib.hid fun tt => Nat.le_trans (layT_len H4.out (by rw [HMF.out]; omega) (by omega) tt) (by omega)
        have HE1 := Lib.hid hE
        clear hE e0 c0 c1 c2 hbw hlt hi
        go_wp2_with fail
        go_loopw [44] (fun jv wr => ∃ (tt : Nat) (va : Value), jv = .int .i64 tt ∧ tt ≤ t + 1 ∧ EX B k F P t (.slice (some ⟨Gn, 0, none⟩) F F) vp va (layT m sl t strict tt) wr ∧ Below B w2 wr ∧ TK w2 wr) (fun jv _ => t + 1 - (intOf jv).toNat)
        case atStart => exact ⟨0, va, rfl, Nat.zero_le _, HE1.out, hB, hK⟩
        case round =>
          clear HE1 hB hK
          obtain ⟨tt, va, rfl, htt, hE, hB, hK⟩ := hrel
          by_cases hlt : tt ≤ t
          · have hlt2 : (tt : Int) < (t : Int) + 1 := by omega
            have hlt3 : (tt : Int) ≤ (t : Int) := by omega
            have hll := HLL.out tt
            have HR : Hid (layT m sl t strict tt ++ (List.range m.F).flatMap (cellX m.F nx t tt) ++ (if tt = t then [] else pairA m tt (numV 2 m.F P t tt 0) PL) = layT m sl t strict (tt + 1)) := Lib.hid (lay_next HNX.out HPLK.out HPE.out.symm)
            rw [← HMF.out] at hE
            have HE := Lib.hid hE
            have hX := HX.out.tk hK
            rw [← HMF.out] at hX
            have hjt := implJoinTime (L := PL) (m := m) (nx := nx) (Sx := Sx) tt (by rw [HMF.out]; exact hF64) hP300 ht20 hlt HPE.out HLF2.out (by omega) HN4.out (by rw [HMF.out]; exact HNF.out) wr vp HVP.out HE.out hX (hK.row HP.out (by decide) (by decide))
            rw [HR.out, HMF.out] at hjt
            have HJT := Lib.hid hjt
            clear hE hX hjt HE HR
            go_wp2_with fail
            refine HJT.out.mono ?_
            rintro e w4 ⟨rfl, ⟨va4, hE4⟩, hB4, hK4⟩
            replace hB4 := hB.trans hB4
            replace hK4 := hK.trans hK4
            have HE4 := Lib.hid hE4
            clear hE4 hB hK HJT
            go_wp2_with fail
            go_roundw
            case rel => exact ⟨tt + 1, va4, by go_num, by omega, HE4.out, hB4, hK4⟩
            case measure => simp [intOf]; omega
          · have htt2 : tt = t + 1 := by omega
            have HTT := Lib.hid htt2
            have hnlt : ¬ (tt : Int) < (t : Int) + 1 := by omega
            obtain ⟨gl, hgl⟩ : ∃ gl : Nat → Bool, gl = fun k => G.contains (cellG W H C k) := ⟨_, rfl⟩
            have HGL := Lib.hid hgl
            have e0 : layT m sl t strict tt = endT m sl gl t strict 0 := by rw [endT_zero, htt2]
            rw [e0] at hE
            have HLE : Hid (∀ i, (endT m sl gl t strict i).length ≤ 10 + 4000 * (t + 1) + i) := Lib.hid fun i => Nat.le_trans (endT_len H4.out (by rw [HMF.out]; omega) (by omega)) (by omega)
            obtain ⟨c0, c1, c2, hbw, _⟩ := HST.out wr hB
            have HE := Lib.hid hE
            clear hE e0 hgl hbw htt2 htt hlt
            go_wp2_with fail
            refine (implFreeCells W H C L hC HL _).mono ?_
            rintro e w3 ⟨vf, rfl, hown, hb3⟩
            obtain ⟨af, cf, rfl⟩ := own_form hown
            have hE3 := HE.out.call hb3
            have hK3 := hK.trans (TK.below hb3)
            have hB3 := hB.trans (hb3.mono (B' := B) (by have := HE.out.lo; have := HE.out.lt; omega))
            rw [HLF.out] at hown ⊢
            have HO := Lib.hid hown
            have HE3 := Lib.hid hE3
            clear hb3 hE3 hK hB HE c0 c1 c2 hown
            go_wp2_with fail
            go_loopw [54] (fun jv wr => ∃ (i : Nat) (va : Value), jv = .int .i64 i ∧ i ≤ F ∧ EX B k F P t (.slice (some ⟨Gn, 0, none⟩) F F) vp va (endT m sl gl t strict i) wr ∧ Below B w2 wr ∧ TK w2 wr ∧ TK w3 wr) (fun jv _ => F - (intOf jv).toNat)
            case atStart => exact ⟨0, va, rfl, Nat.zero_le _, HE3.out, hB3, hK3, TK.refl _⟩
            case round =>
              clear HE3 hB3 hK3
              obtain ⟨i, va, rfl, hi, hE, hB, hK, hK3⟩ := hrel
              obtain ⟨c0, c1, c2, hbw, hbt⟩ := HST.out wr hB
              by_cases hiF : i < F
              · obtain ⟨x, hx⟩ : ∃ x, L[i]? = some x := ⟨_, List.getElem?_eq_getElem (by rw [HLF.out]; exact hiF)⟩
                have hO := hK3.row HO.out (by decide) (by decide)
                obtain ⟨gf, rfl⟩ : ∃ gf, af = some ⟨gf, 0, none⟩ := by
                  obtain ⟨gf, cc, e⟩ := own_ptrT hO (by omega)
                  injection e with e1 _ _
                  exact ⟨gf, e1⟩
                have ds := own_cellT hO hx
                have hiF2 : (i : Int) < (F : Int) := by omega
                have hIG := ints_on HGG.out hbw
                have HIG := Lib.hid hIG
                obtain ⟨e0, e1, e2, e3, e4, e5⟩ := hE.cells
                have hgli : gl i = G.contains x := by
                  rw [HGL.out]
                  show G.contains (cellG W H C i) = _
                  rw [HLC.out i x hx]
                have hle := HLE.out i
                obtain ⟨z, hz⟩ : ∃ z, z = inN F i t := ⟨_, rfl⟩
                have HZ : Hid ((numV 1 F P t t i : Nat) = (z : Int) + 1) := Lib.hid (by rw [num1, hz]; rfl)
                obtain ⟨r, hr⟩ : ∃ r, G.contains x = r := ⟨_, rfl⟩
                have HGR := Lib.hid hr
                have HEN : Hid (endA m gl t i = ⟨(z : Int) + 1, ((if r = true then 1 else 2 : Nat) : Int), 1, 0⟩) := Lib.hid (by unfold endA; rw [hgli, hr, HMF.out, hz]; rfl)
                have HSU : Hid (endT m sl gl t strict (i + 1) = endT m sl gl t strict i ++ [endA m gl t i]) := Lib.hid endT_succ
                have HE := Lib.hid hE
                clear hE hx hz hO hgli hr hbw hIG
                go_wp2_with fail
                refine (containsI G x _ r hG HGR _ HIG.out).mono ?_
                rintro e w4 ⟨rfl, rfl⟩
                cases r with
                | true =>
                  go_wp2_with fail
                  refine (implNode1 t i _ (by omega) (by omega) (by omega) (by omega) (by omega) HZ _ e0 e1 e2).mono ?_
                  rintro e w5 ⟨rfl, hb5⟩
                  have hE5 := HE.out.call hb5
                  have hK5 := hK.trans (TK.below hb5)
                  have hK35 := hK3.trans (TK.below hb5)
                  have hB5 := hB.trans (hb5.mono (B' := B) (by have := HE.out.lo; have := HE.out.lt; omega))
                  have HE5 := Lib.hid hE5
                  clear hb5 hE5 hK hK3 hB HE ds c0 c1 c2 e0 e1 e2 e3 e4 e5
                  go_wp2_with fail
                  refine (implJoinX _ _ _ (by omega) _ HE5.out).mono ?_
                  rintro e w6 ⟨rfl, ⟨va6, hE6⟩, hB6, hK6⟩
                  have hK36 := hK35.trans hK6
                  replace hB6 := hB5.trans hB6
                  replace hK6 := hK5.trans hK6
                  have HE6 := Lib.hid hE6
                  clear hE6 HE5 hB5 hK5 hK35
                  go_wp2_with fail
                  go_roundw
                  case rel => exact ⟨i + 1, va6, by go_num, by omega, by rw [HSU.out, HEN.out]; exact HE6.out, hB6, hK6, hK36⟩
                  case measure => simp [intOf]; omega
                | false =>
                  go_wp2_with fail
                  refine (implNode1 t i _ (by omega) (by omega) (by omega) (by omega) (by omega) HZ _ e0 e1 e2).mono ?_
                  rintro e w5 ⟨rfl, hb5⟩
                  have hE5 := HE.out.call hb5
                  have hK5 := hK.trans (TK.below hb5)
                  have hK35 := hK3.trans (TK.below hb5)
                  have hB5 := hB.trans (hb5.mono (B' := B) (by have := HE.out.lo; have := HE.out.lt; omega))
                  have HE5 := Lib.hid hE5
                  clear hb5 hE5 hK hK3 hB HE ds c0 c1 c2 e0 e1 e2 e3 e4 e5
                  go_wp2_with fail
                  refine (implJoinX _ _ _ (by omega) _ HE5.out).mono ?_
                  rintro e w6 ⟨rfl, ⟨va6, hE6⟩, hB6, hK6⟩
                  have hK36 := hK35.trans hK6
                  replace hB6 := hB5.trans hB6
                  replace hK6 := hK5.trans hK6
                  have HE6 := Lib.hid hE6
                  clear hE6 HE5 hB5 hK5 hK35
                  go_wp2_with fail
                  go_roundw
                  case rel => exact ⟨i + 1, va6, by go_num, by omega, by rw [HSU.out, HEN.out]; exact HE6.out, hB6, hK6, hK36⟩
                  case measure => simp [intOf]; omega
              · obtain rfl : F = i := by omega
                have HAE : Hid (A = endT m sl gl t strict F ++ [⟨2, 1, (S.length : Int) - (G.length : Int), 0⟩]) := Lib.hid (by
                  rw [HAA.out]
                  unfold netG
                  rw [endT_all, HM.out, HSL.out, HMF.out, HGL.out])
                have hl : (endT m sl gl t strict F).length ≤ 200000 := by have := HLE.out F; omega
                have hwsg : IntKind.i64.wrap ((S.length : Int) - (G.length : Int)) = (S.length : Int) - (G.length : Int) := IntWalk.i64_in _ (by omega)
                have HZ : Hid ((numV 2 F P t t 0 : Nat) = N) := Lib.hid (by
                  rw [HNN.out]
                  unfold nodesG
                  rw [HM.out, ← HMF.out, nodes_is HPLK.out HPE.out.symm])
                obtain ⟨i0, hi9, hz90, hz91, hz92⟩ := info_parts Tryd.infoArcT
                have hlo := hE.lo
                have hklt := hE.lt
                obtain ⟨e0, e1, e2, e3, e4, e5⟩ := hE.cells
                have HE5 := Lib.hid hE
                have HB5 := Lib.hid hB
                clear hE hK hK3 hB c0 c1 c2 hbw hbt
                generalize endT m sl gl t strict F = Z at HE5 HAE hl
                go_upto_region 23 with (at_builtin; go_loud (refine wpList_append_lies _ rfl _ _ 43 rfl B 62 i0 (.agg #[.int .i64 0, .int .i64 0, .int .i64 0, .int .i64 0]) 4 32 Tryd.underlying43 hi9 hz90 hz91 hz92 rfl (by decide) _ _ _ rfl (HE5.out.row.alloc _) ⟨wr.heap.size, 0, none⟩ 1 1 (cellsA [⟨2, 1, (S.length : Int) - (G.length : Int), 0⟩]) rfl rfl (arcs_newT _ [⟨2, 1, (S.length : Int) - (G.length : Int), 0⟩] _ rfl _) (arcs_oneT _) (by decide) (by unfold maxLen; omega) (by omega) (by simp; omega) _ rfl ?_; intro g6 c6 w6 hown6 hgrow6 _ _; have hN6 := HE5.out.app (Z := [⟨2, 1, (S.length : Int) - (G.length : Int), 0⟩]) hown6 hgrow6; have f6 := HE5.out.free6 hgrow6; have q6 := HE5.out.cell6 hgrow6; have HN6 := Lib.hid hN6; clear hown6 hgrow6 hN6))
                clear e0 e1 e2 e3 e4 e5 f6 q6
                have hE7 := HN6.out.1
                have hB7 := HB5.out.trans HN6.out.2.1
                rw [← HAE.out] at hE7
                have hkne : k ≠ w.heap.size + 1 := by omega
                clear HN6 HE5 HB5
                generalize w6.setCell ⟨k, 5, none⟩ (.slice (some ⟨g6, 0, none⟩) (Z.length + 1) c6) = w7 at hE7 hB7 ⊢
                obtain ⟨n7, hn7⟩ : ∃ n7, Z.length + 1 = n7 := ⟨_, rfl⟩
                rw [hn7] at hE7
                clear hn7
                obtain ⟨e0, e1, e2, e3, e4, e5⟩ := hE7.drew.cells
                have hS0 := And.intro e0 (And.intro e1 (And.intro e2 e5))
                have HE7 := Lib.hid hE7.drew
                have HB7 := Lib.hid (HST.out _ hB7).2.2.2.2.drew
                clear hE7 hB7 e0 e1 e2 e3 e4 e5
                go_region_held3 (fun w' => w'.cell? ⟨k, 0, none⟩ = some (.int .i64 F) ∧ w'.cell? ⟨k, 1, none⟩ = some (.int .i64 P) ∧ w'.cell? ⟨k, 2, none⟩ = some (.int .i64 t) ∧ w'.cell? ⟨k, 5, none⟩ = some (.slice (some ⟨g6, 0, none⟩) n7 c6))
                  (first | exact hS0 | exact hS | exact hSS)
                  (first
                    | (go_at_call 46; (try go_split_ands); (with_reducible refine (implNodes N (by omega) (by omega) (by omega) HZ _ (by assumption) (by assumption) (by assumption)).mono ?_); rintro e w9 ⟨rfl, hb9⟩; have hE9 := HE7.out.call hb9; have hBt9 := next_below HB7.out hb9; have hr := tn_res hBt9; have r0 : w9.cell? ⟨w.heap.size + 1, 0, none⟩ = some (.int .i64 0) := (by rw [cell_of_row _ _ _ _ _ _ hr]; rfl); have r1 : w9.cell? ⟨w.heap.size + 1, 1, none⟩ = some (.slice none 0 0) := (by rw [cell_of_row _ _ _ _ _ _ hr]; rfl); have k0 := frozen_of_row _ _ 0 _ _ hr; have k1 := frozen_of_row _ _ 1 _ _ hr; have hS := ex_cells hE9; have hSS := ex_keep hS hkne (Value.int .i64 N) (Value.slice (some ⟨g6, 0, none⟩) n7 c6); obtain ⟨q0, q1, hown, hbl⟩ := tn_back (N := N) hBt9 (own_base hE9.row (by omega)); have HOW := Lib.hid hown; have HBL := Lib.hid hbl; clear hb9 hE9 hBt9 hr hown hbl))
                go_wp2_with fail
                refine bodyPost_ret (v := .tuple #[.agg #[.int .i64 N, .slice (some ⟨g6, 0, none⟩) n7 c6], .bool true]) ?_ rfl ⟨_, rfl, HOW.out, HBL.out⟩
                simp [results, Tryd.results23, go_sem, q0, q1]

end Go.Proofs.YtnbbhdbcapfbkaaDoor

