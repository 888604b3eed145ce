/-
  When given ways have a flow: their units are one from which they come back. Plain facts; no statement is proved here.
  CONTRACT of spec.l11Arc: the place of the arc from one node to another one. No law is proved here.
  A way's hops, two for each time and then its end; where an arc is found. Plain facts; no statement is proved here.
  The next cell of a way as the model looks for it. Plain facts; no statement is proved here.
-/
import Derived.Test.YtnbbhdbcapfbkaaDoorZFF31
import Derived.Test.YtnbbhdbcapfbkaaDoorZFF07
import Derived.Test.YtnbbhdbcapfbkaaDoorZFF17
import Derived.BigQuiet
import Derived.Deep.QuietTactic
import Derived.Test.YtnbbhdbcapfbkaaDoorZFF12
namespace Go.Proofs.YtnbbhdbcapfbkaaDoor
set_option maxRecDepth 4096

section
variable {W H : Int} {C : ByteArray} {S G : List Int} {t : Nat} {Ws : List (List Int)}
theorem flux_net (hk : askV W H C S G (t : Int) = true) : timeNV W H C S G (t : Int) false = (nodesG W H C t false : Nat) ∧ timeAV W H C S G (t : Int) false = netG W H C S G t false := ⟨if_pos hk, if_pos hk⟩
theorem flux_is (hk : askV W H C S G (t : Int) = true) (hf : formV S t Ws = true) :
    fluxB W H C S G t Ws = flowOkV (nodesG W H C t false : Nat) (netG W H C S G t false) (unitsL (netG W H C S G t false) (hopsAll W H C G Ws)) := by
  obtain ⟨e1, e2⟩ := flux_net hk
  unfold fluxB
  rw [hk, e1, e2, Int.toNat_natCast, hf, Bool.true_and, Bool.true_and]
theorem flux_form (hf : formV S t Ws = false) : fluxB W H C S G t Ws = false := by
  unfold fluxB
  rw [Int.toNat_natCast, hf, Bool.false_and, Bool.and_false]
theorem flux_ask {T : Int} (hk : askV W H C S G T = false) : fluxB W H C S G T Ws = false := by
  unfold fluxB
  rw [hk, Bool.false_and]
theorem ask_d (hk : askV W H C S G (t : Int) = true) : AskOkD W H C S G t := by
  obtain ⟨u, e, hd⟩ := ask_out hk
  have : u = t := by omega
  subst this
  exact hd
/-- Where there is such a flow, each step is an arc. -/
theorem flux_hops (hk : askV W H C S G (t : Int) = true) (hb : fluxB W H C S G t Ws = true) : ∀ h ∈ hopsAll W H C G Ws, isHop (netG W H C S G t false) h = true := by
  have hf : formV S t Ws = true := by
    cases h : formV S t Ws with
    | true => rfl
    | false =>
      rw [flux_form h] at hb
      cases hb
  rw [flux_is hk hf] at hb
  exact hops_arc (ask_d hk) (netT_of (ask_d hk) (ask_asc hk)) (formV_iff.1 hf) hb
/-- There is such a flow just if the units are one from which the ways come back. -/
theorem flux_back (hk : askV W H C S G (t : Int) = true) (hf : formV S t Ws = true) :
    fluxB W H C S G t Ws = (waysB W H C S G t (unitsL (netG W H C S G t false) (hopsAll W H C G Ws)) && decide (waysL W H C S G t (unitsL (netG W H C S G t false) (hopsAll W H C G Ws)) = Ws)) := by
  have hd := ask_d hk
  have hT := netT_of hd (ask_asc hk)
  have hp := formV_iff.1 hf
  rw [flux_is hk hf]
  cases h : flowOkV (nodesG W H C t false : Nat) (netG W H C S G t false) (unitsL (netG W H C S G t false) (hopsAll W H C G Ws)) with
  | true =>
    have h1 := units_size hd hT hp h
    have h2 := units_back hd hT hp h
    have hw : waysB W H C S G t (unitsL (netG W H C S G t false) (hopsAll W H C G Ws)) = true := by
      unfold waysB flowSizeV
      rw [hk, Int.toNat_natCast, if_pos h, h1]
      simp
    have hl : waysL W H C S G t (unitsL (netG W H C S G t false) (hopsAll W H C G Ws)) = Ws := by
      unfold waysL
      rw [if_pos hw, Int.toNat_natCast]
      exact h2.symm
    rw [hw, decide_eq_true hl]
    rfl
  | false =>
    have hw : waysB W H C S G t (unitsL (netG W H C S G t false) (hopsAll W H C G Ws)) = false := by
      unfold waysB flowSizeV
      rw [hk, Int.toNat_natCast, if_neg (by rw [h]; simp), decide_eq_false (by omega)]
      rfl
    rw [hw]
    rfl
end

end Go.Proofs.YtnbbhdbcapfbkaaDoor

namespace Go.Proofs.YtnbbhdbcapfbkaaDoor
set_option maxRecDepth 4096
open Go.ChangeShapes Go.WideShapes Go.ChangeAt Go.RowKit

def arcP (A : List ArcD) (f t : Int) : Int := if arcIx A f t < A.length then ((arcIx A f t : Nat) : Int) else -1
theorem arcP_found {A : List ArcD} {f t : Int} {k : Nat} {x : ArcD} (hx : A[k]? = some x) (hf : x.f = f) (ht : x.t = t) (hb : ∀ j y, j < k → A[j]? = some y → ¬ (y.f = f ∧ y.t = t)) : arcP A f t = (k : Int) := by
  obtain ⟨hk, e⟩ := List.getElem?_eq_some_iff.1 hx
  have h : arcIx A f t = k := by
    unfold arcIx
    rw [List.findIdx_eq hk]
    refine ⟨ends_iff.2 (by rw [e]; exact ⟨hf, ht⟩), fun j hj => ?_⟩
    cases h : ends f t (A[j]'(by omega)) with
    | false => rfl
    | true => exact absurd (ends_iff.1 h) (hb j _ hj (List.getElem?_eq_getElem _))
  unfold arcP
  rw [h, if_pos hk]
theorem arcP_none {A : List ArcD} {f t : Int} (hb : ∀ j y, j < A.length → A[j]? = some y → ¬ (y.f = f ∧ y.t = t)) : arcP A f t = -1 := by
  unfold arcP
  rw [arcIx_no, if_neg (by omega)]
  intro x hx
  obtain ⟨j, hj, rfl⟩ := List.getElem_of_mem hx
  exact hb j _ hj (List.getElem?_eq_getElem hj)

theorem nos_more {A : List ArcD} {f t : Int} {k : Nat} {x : ArcD} (h : ∀ j y, j < k → A[j]? = some y → ¬ (y.f = f ∧ y.t = t)) (hx : A[k]? = some x) (hn : ¬ (x.f = f ∧ x.t = t)) : ∀ j y, j < k + 1 → A[j]? = some y → ¬ (y.f = f ∧ y.t = t) := fun j y hj hy => by
  by_cases e : j = k
  · subst e
    rw [hx] at hy
    cases hy
    exact hn
  · exact h j y (by omega) hy

set_option maxHeartbeats 1000000 in
theorem specArc (N : Int) (A : List ArcD) (v : Value) (f t z : Int) (hA : A.length ≤ 2000000) (HZ : Hid (arcP A f t = z)) (w : World) (hv : Arcs w v A) :
    Calls Tryd.prog 19 #[.agg #[.int .i64 N, v], .int .i64 f, .int .i64 t] w (Made w (.int .i64 z)) := by
  have hB := Below.refl (w.alloc (.cells #[.int .i64 N, v] 45)).heap.size (w.alloc (.cells #[.int .i64 N, v] 45))
  obtain ⟨c0, c1⟩ := net_cells hB
  obtain ⟨av, cv, rfl, HV⟩ := arcs_form hv
  have HVh := Lib.hid HV
  have HBW := Lib.hid ((Below.refl w.heap.size w).alloc (Nat.le_refl _) (.cells #[.int .i64 N, .slice av A.length cv] 45))
  clear hv HV
  go_enter Tryd.func19, Tryd.ntmps19
  go_wp2
  obtain ⟨wn, hwn⟩ : ∃ wn, w.alloc (.cells #[.int .i64 N, .slice av A.length cv] 45) = wn := ⟨_, rfl⟩
  rw [hwn] at c0 c1 HBW
  clear hB
  go_loopw [7] (fun i wr => ∃ k : Nat, k ≤ A.length ∧ i = .int .i64 k ∧ Hid (∀ j y, j < k → A[j]? = some y → ¬ (y.f = f ∧ y.t = t)) ∧ wr = wn) (fun i _ => A.length - (intOf i).toNat)
  case atStart => exact ⟨0, Nat.zero_le _, rfl, Lib.hid (fun j y h => by omega), by assumption⟩
  case round =>
    obtain ⟨k, hk, rfl, HNO, rfl⟩ := hrel
    by_cases hlt : k < A.length
    · have hlt2 : (k : Int) < (A.length : Int) := by omega
      obtain ⟨x, hx⟩ : ∃ x, A[k]? = some x := ⟨_, List.getElem?_eq_getElem hlt⟩
      rcases HVh.out with h0 | ⟨g, rfl, hg, hc⟩
      · omega
      · obtain ⟨p0, p1, _, _⟩ := hc k x hx
        have e0 := (HBW.out.cell (p := ⟨g, k * 4, none⟩) hg).trans p0
        have e1 := (HBW.out.cell (p := ⟨g, k * 4 + 1, none⟩) hg).trans p1
        have hk4 : (k : Int) * 4 = ((k * 4 : Nat) : Int) := by omega
        by_cases hf : x.f = f
        · by_cases ht : x.t = t
          · have HE := Lib.hid (arcP_found hx hf ht HNO.out)
            rw [HZ.out] at HE
            have hz := HE.out
            subst hz
            obtain ⟨xf, hxf⟩ : ∃ y, x.f = y := ⟨_, rfl⟩
            obtain ⟨xt, hxt⟩ : ∃ y, x.t = y := ⟨_, rfl⟩
            rw [hxf] at e0 hf
            rw [hxt] at e1 ht
            subst hf ht
            clear p0 p1 hc hx hxf hxt
            go_wp2
            go_ret
            exact ⟨rfl, HBW.out⟩
          · have HNX := Lib.hid (nos_more HNO.out hx (fun h => ht h.2))
            obtain ⟨xf, hxf⟩ : ∃ y, x.f = y := ⟨_, rfl⟩
            obtain ⟨xt, hxt⟩ : ∃ y, x.t = y := ⟨_, rfl⟩
            rw [hxf] at e0 hf
            rw [hxt] at e1 ht
            have hb1 : (xt == t) = false := beq_eq_false_iff_ne.2 ht
            subst hf
            clear p0 p1 hc hx hxf hxt
            go_wp2
            go_roundw
            case rel => exact ⟨k + 1, by omega, by go_num, HNX.out, trivial⟩
            case measure => simp [intOf]; omega
        · have HNX := Lib.hid (nos_more HNO.out hx (fun h => hf h.1))
          obtain ⟨xf, hxf⟩ : ∃ y, x.f = y := ⟨_, rfl⟩
          obtain ⟨xt, hxt⟩ : ∃ y, x.t = y := ⟨_, rfl⟩
          rw [hxf] at e0 hf
          rw [hxt] at e1
          have hb1 : (xf == f) = false := beq_eq_false_iff_ne.2 hf
          clear p0 p1 hc hx hxf hxt
          go_wp2
          go_roundw
          case rel => exact ⟨k + 1, by omega, by go_num, HNX.out, trivial⟩
          case measure => simp [intOf]; omega
    · obtain rfl : k = A.length := by omega
      have HE := Lib.hid (arcP_none HNO.out)
      rw [HZ.out] at HE
      have hz := HE.out
      subst hz
      go_wp2
      go_ret
      exact ⟨rfl, HBW.out⟩

end Go.Proofs.YtnbbhdbcapfbkaaDoor

namespace Go.Proofs.YtnbbhdbcapfbkaaDoor
set_option maxRecDepth 4096

section
variable {W H : Int} {C : ByteArray} {G : List Int}
/-- The node from which a way comes to the time i. -/
noncomputable def fromO (W H : Int) (C : ByteArray) (L : List Int) : Nat → Int
  | 0 => 0
  | i + 1 => ndV W H C (L.getD i 0) i + 1
theorem cellNds_at : ∀ {L : List Int} {t i : Nat} {c : Int}, L[i]? = some c → (cellNds W H C t L)[2 * i]? = some (ndV W H C c (t + i)) ∧ (cellNds W H C t L)[2 * i + 1]? = some (ndV W H C c (t + i) + 1)
  | [], _, _, _, h => by simp at h
  | a :: L, t, i, c, h => by
    cases i with
    | zero =>
      have : a = c := by simpa using h
      subst this
      exact ⟨rfl, rfl⟩
    | succ i =>
      have h1 := cellNds_at (L := L) (t := t + 1) (i := i) (c := c) (by simpa using h)
      rw [show t + 1 + i = t + (i + 1) by omega] at h1
      rw [show 2 * (i + 1) = 2 * i + 1 + 1 by omega, cellNds]
      exact h1
theorem nodes_at {L : List Int} {i : Nat} {c : Int} (h : L[i]? = some c) : (nodesL W H C G L)[2 * i + 1]? = some (ndV W H C c i) ∧ (nodesL W H C G L)[2 * i + 2]? = some (ndV W H C c i + 1) := by
  have hi := (List.getElem?_eq_some_iff.1 h).1
  obtain ⟨h1, h2⟩ := cellNds_at (W := W) (H := H) (C := C) (t := 0) h
  rw [Nat.zero_add] at h1 h2
  have hl := cellNds_len (W := W) (H := H) (C := C) L 0
  unfold nodesL nodesK
  rw [List.take_length]
  constructor
  · rw [List.getElem?_append_left (by rw [List.length_cons]; omega), List.getElem?_cons_succ]
    exact h1
  · rw [List.getElem?_append_left (by rw [List.length_cons]; omega), List.getElem?_cons_succ]
    exact h2
theorem nodes_from {L : List Int} : ∀ {i : Nat}, i ≤ L.length → (nodesL W H C G L)[2 * i]? = some (fromO W H C L i)
  | 0, _ => rfl
  | i + 1, hi => by
    have h : L[i]? = some L[i] := List.getElem?_eq_getElem (by omega)
    rw [show 2 * (i + 1) = 2 * i + 2 by omega, (nodes_at h).2, fromO, List.getD_eq_getElem?_getD, h]
    rfl
theorem hops_two {L : List Int} {i : Nat} {c : Int} (h : L[i]? = some c) : (hopsW W H C G L).take (2 * (i + 1)) = (hopsW W H C G L).take (2 * i) ++ [(fromO W H C L i, ndV W H C c i), (ndV W H C c i, ndV W H C c i + 1)] := by
  have hi := (List.getElem?_eq_some_iff.1 h).1
  have hne : L ≠ [] := by
    intro e
    rw [e] at hi
    simp at hi
  obtain ⟨h1, h2⟩ := nodes_at (W := W) (H := H) (C := C) (G := G) h
  have h0 := nodes_from (W := W) (H := H) (C := C) (G := G) (L := L) (i := i) (by omega)
  rw [← pairs_nodes hne, show 2 * (i + 1) = 2 * i + 1 + 1 by omega, pairs_take h1 h2, pairs_take h0 h1, List.append_assoc]
  rfl
theorem hops_end {L : List Int} {c : Int} (hc : L[L.length - 1]? = some c) : hopsW W H C G L = (hopsW W H C G L).take (2 * L.length) ++ (if G.contains c = true then [(fromO W H C L L.length, 1)] else [(fromO W H C L L.length, 2), (2, 1)]) := by
  have hi := (List.getElem?_eq_some_iff.1 hc).1
  have hne : L ≠ [] := by
    intro e
    rw [e] at hi
    simp at hi
  have h0 := nodes_from (W := W) (H := H) (C := C) (G := G) (L := L) (i := L.length) (Nat.le_refl _)
  have hl := cellNds_len (W := W) (H := H) (C := C) L 0
  have hN : nodesL W H C G L = (0 :: cellNds W H C 0 L) ++ (if G.contains c = true then [1] else [2, 1]) := by
    unfold nodesL nodesK
    rw [List.take_length, List.getD_eq_getElem?_getD, hc]
    rfl
  have hK : (0 :: cellNds W H C 0 L).length = 2 * L.length + 1 := by rw [List.length_cons, hl]
  rw [← pairs_nodes hne]
  by_cases hg : G.contains c = true
  · rw [if_pos hg] at hN ⊢
    have h1 : (nodesL W H C G L)[2 * L.length + 1]? = some 1 := by
      rw [hN, List.getElem?_append_right (by omega), hK, Nat.sub_self]
      rfl
    rw [← pairs_take h0 h1, List.take_of_length_le]
    rw [pairs_len, hN, List.length_append, hK]
    simp
  · rw [if_neg hg] at hN ⊢
    have h1 : (nodesL W H C G L)[2 * L.length + 1]? = some 2 := by
      rw [hN, List.getElem?_append_right (by omega), hK, Nat.sub_self]
      rfl
    have h2 : (nodesL W H C G L)[2 * L.length + 1 + 1]? = some 1 := by
      rw [hN, List.getElem?_append_right (by omega), hK, show 2 * L.length + 1 + 1 - (2 * L.length + 1) = 1 by omega]
      rfl
    have e : ∀ X : List (Int × Int), X ++ [(fromO W H C L L.length, 2), (2, 1)] = (X ++ [(fromO W H C L L.length, 2)]) ++ [(2, 1)] := fun X => by simp
    rw [e, ← pairs_take h0 h1, ← pairs_take h1 h2, List.take_of_length_le]
    rw [pairs_len, hN, List.length_append, hK]
    simp
end

/-- An arc is found where there is one. -/
theorem arcP_yes {A : List ArcD} {f t : Int} (h : isHop A (f, t) = true) : ∃ (k : Nat) (x : ArcD), A[k]? = some x ∧ hopOf x = (f, t) ∧ arcP A f t = (k : Int) := by
  have hlt : arcIx A f t < A.length := arcIx_lt.2 h
  have he : ends f t (A[arcIx A f t]) = true := List.findIdx_getElem (w := hlt)
  obtain ⟨h1, h2⟩ := ends_iff.1 he
  exact ⟨arcIx A f t, _, List.getElem?_eq_getElem hlt, Prod.ext h1 h2, by unfold arcP; rw [if_pos hlt]⟩
theorem arcP_no {A : List ArcD} {f t : Int} (h : isHop A (f, t) = false) : arcP A f t = -1 := by
  refine arcP_none fun j y hj hy e => ?_
  have : isHop A (f, t) = true := isHop_iff.2 ⟨y, List.mem_of_getElem? hy, Prod.ext e.1 e.2⟩
  rw [h] at this
  cases this

/-! ### the end of a way -/
section
variable {W H : Int} {C : ByteArray} {S G : List Int} {T : Nat}
/-- The last arc leads from the node of rest to the sink. -/
theorem last_arc : ∃ x, (netG W H C S G T false)[(netG W H C S G T false).length - 1]? = some x ∧ hopOf x = (2, 1) := by
  obtain ⟨M, hM⟩ : ∃ M, netG W H C S G T false = M ++ [⟨2, 1, (S.length : Int) - (G.length : Int), 0⟩] := ⟨_, by
    unfold netG timeA
    rw [← List.append_assoc, ← List.append_assoc]⟩
  refine ⟨⟨2, 1, (S.length : Int) - (G.length : Int), 0⟩, ?_, rfl⟩
  rw [hM, List.length_append, List.length_singleton, Nat.add_sub_cancel, List.getElem?_append_right (Nat.le_refl _), Nat.sub_self]
  rfl
/-- From a free cell's second node at the last time an arc leads to the sink just if the cell is a goal. -/
theorem end_arc {c : Int} (hT : T ≤ 20) (hc : freeV W H C c = true) : isHop (netG W H C S G T false) (ndV W H C c T + 1, 1) = G.contains c := by
  obtain ⟨h1, h2⟩ := hop_end (S := S) (G := G) hT hc
  cases hg : G.contains c with
  | true => exact h1 hg
  | false =>
    cases e : isHop (netG W H C S G T false) (ndV W H C c T + 1, 1) with
    | false => rfl
    | true =>
      exfalso
      obtain ⟨x, hx, e2⟩ := isHop_iff.1 e
      rw [nd_free hc hT] at e2
      have e3 : x.f = (inN (mapG W H C).F (numG W H C c) T + 1 : Nat) := congrArg Prod.fst e2
      have e4 : x.t = 1 := congrArg Prod.snd e2
      rcases from_out (numG_lt hc) hx e3 with ⟨h, _⟩ | ⟨_, h⟩
      · omega
      · rw [cellG_num hc, hg, e4] at h
        simp at h
end

end Go.Proofs.YtnbbhdbcapfbkaaDoor

namespace Go.Proofs.YtnbbhdbcapfbkaaDoor
set_option maxRecDepth 4096

section
variable {W H : Int} {C : ByteArray} {S G : List Int} {T : Nat} {F : List Int}
/-- What the model finds at place k of the list of cells that can be next. -/
structure StepAt (A : List ArcD) (F : List Int) (z1 z2 : Int) (y : Int) : Prop where
  arc : ∃ a : Nat, arcP A (z1 + 1) z2 = (a : Int) ∧ F[a]? = some y
theorem arc_val (hn : NetT (mapG W H C) (S.map (numG W H C))) (hl : F.length = (netG W H C S G T false).length) {k j t : Nat} (hk : k < (mapG W H C).F) (ht : t < T) (hj : j = k ∨ j ∈ (mapG W H C).ar k) :
    ∃ (a : Nat), arcP (netG W H C S G T false) (inN (mapG W H C).F k t + 1 : Nat) (inN (mapG W H C).F j (t + 1) : Nat) = (a : Int) ∧ F[a]? = some (flowAt (netG W H C S G T false) F (inN (mapG W H C).F k t + 1 : Nat) (inN (mapG W H C).F j (t + 1) : Nat)) := by
  obtain ⟨c, hc⟩ := arc_to (sl := S.map (numG W H C)) (gl := fun k => G.contains (cellG W H C k)) (R := (S.length : Int) - (G.length : Int)) hk ht hj
  obtain ⟨i, y, h1, h2, _⟩ := zip_get (F := F) hl hc
  have hd : Dst (netG W H C S G T false) := hn.dst
  have e1 := arcIx_of hd h1
  have e2 := flowAt_of hd h1 h2
  dsimp only at e1 e2
  refine ⟨i, ?_, by rw [e2]; exact h2⟩
  unfold arcP
  rw [e1, if_pos (List.getElem?_eq_some_iff.1 h1).1]
theorem next_runG (h : UnitsD W H C S G T F) {k t : Nat} (hk : k < (mapG W H C).F) (ht : t < T) (hr : Runs ((netG W H C S G T false).zip F) (inN (mapG W H C).F k t : Nat) (inN (mapG W H C).F k t + 1 : Nat)) :
    nextK (mapG W H C) (netG W H C S G T false) F t k < (mapG W H C).F ∧ (nextK (mapG W H C) (netG W H C S G T false) F t k = k ∨ nextK (mapG W H C) (netG W H C S G T false) F t k ∈ (mapG W H C).ar k) ∧ Runs ((netG W H C S G T false).zip F) (inN (mapG W H C).F k t + 1 : Nat) (inN (mapG W H C).F (nextK (mapG W H C) (netG W H C S G T false) F t k) (t + 1) : Nat) :=
  next_run h.net h.ok hk ht hr
theorem nextK_eqG (h : UnitsD W H C S G T F) {k t j : Nat} (hk : k < (mapG W H C).F) (ht : t < T) (hj : j < (mapG W H C).F) (hr : Runs ((netG W H C S G T false).zip F) (inN (mapG W H C).F k t : Nat) (inN (mapG W H C).F k t + 1 : Nat)) (hrj : Runs ((netG W H C S G T false).zip F) (inN (mapG W H C).F k t + 1 : Nat) (inN (mapG W H C).F j (t + 1) : Nat)) :
    nextK (mapG W H C) (netG W H C S G T false) F t k = j := nextK_eq h.net h.ok hk ht hj hr hrj
/-- The cells that can be next: those before the one that is taken have no unit, it has one. -/
theorem next_find (h : UnitsD W H C S G T F) {c : Int} {t : Nat} (hc : freeV W H C c = true) (ht : t < T) (hr : Runs ((netG W H C S G T false).zip F) (inN (mapG W H C).F (numG W H C c) t : Nat) (inN (mapG W H C).F (numG W H C c) t + 1 : Nat)) :
    ∃ (ix : Nat) (d : Int), (c :: aroundL W H C c)[ix]? = some d ∧ d = cellG W H C (nextK (mapG W H C) (netG W H C S G T false) F t (numG W H C c)) ∧
      ∀ (j : Nat) (y : Int), (c :: aroundL W H C c)[j]? = some y → j ≤ ix → ∃ (a : Nat) (q : Int), arcP (netG W H C S G T false) (inNodeV W H C c (t : Int) + 1) (inNodeV W H C y ((t + 1 : Nat) : Int)) = (a : Int) ∧ F[a]? = some q ∧ (q = 1 ↔ j = ix) := by
  have hl : F.length = (netG W H C S G T false).length := (flowOk_out h.ok).2.1
  have h20 := h.ask.t20
  have hk := numG_lt hc
  obtain ⟨h1, h2, h3⟩ := next_runG h hk ht hr
  have hfree : ∀ y ∈ c :: aroundL W H C c, freeV W H C y = true := fun y hy => by
    rcases List.mem_cons.1 hy with rfl | hy
    · exact hc
    · exact (around_free hy).2
  have har : ∀ y ∈ c :: aroundL W H C c, numG W H C y = numG W H C c ∨ numG W H C y ∈ (mapG W H C).ar (numG W H C c) := fun y hy => by
    rcases List.mem_cons.1 hy with rfl | hy
    · exact .inl rfl
    · refine .inr (mem_ar.2 ⟨hk, numG_lt (around_free hy).2, ?_⟩)
      rw [cellG_num hc, cellG_num (around_free hy).2]
      exact hy
  obtain ⟨d, hd⟩ : ∃ d, d = cellG W H C (nextK (mapG W H C) (netG W H C S G T false) F t (numG W H C c)) := ⟨_, rfl⟩
  have hdm : d ∈ c :: aroundL W H C c := by
    rw [hd]
    rcases h2 with e | e
    · rw [e, cellG_num hc]
      exact List.mem_cons_self ..
    · have := (mem_ar.1 e).2.2
      rw [cellG_num hc] at this
      exact List.mem_cons_of_mem _ this
  have hnd : (c :: aroundL W H C c).Nodup := List.nodup_cons.2 ⟨around_irr, around_nodup W H C c⟩
  obtain ⟨ix, hix, e⟩ := List.getElem_of_mem hdm
  have hixs : (c :: aroundL W H C c)[ix]? = some d := by rw [List.getElem?_eq_getElem hix, e]
  refine ⟨ix, d, hixs, hd, fun j y hy _ => ?_⟩
  have hym := List.mem_of_getElem? hy
  have hyf := hfree y hym
  obtain ⟨a, ha1, ha2⟩ := arc_val (F := F) h.net hl hk ht (har y hym)
  have n1 : inNodeV W H C c (t : Int) = (inN (mapG W H C).F (numG W H C c) t : Nat) := by
    have := inNode_is hk (show t ≤ 20 by omega)
    rw [cellG_num hc] at this
    exact this
  have n2 : inNodeV W H C y ((t + 1 : Nat) : Int) = (inN (mapG W H C).F (numG W H C y) (t + 1) : Nat) := by
    have := inNode_is (numG_lt hyf) (show t + 1 ≤ 20 by omega)
    rw [cellG_num hyf] at this
    exact this
  refine ⟨a, _, by rw [n1, n2]; exact ha1, ha2, ?_⟩
  obtain ⟨c2, hc2⟩ := arc_to (sl := S.map (numG W H C)) (gl := fun k => G.contains (cellG W H C k)) (R := (S.length : Int) - (G.length : Int)) hk ht (har y hym)
  rw [show (flowAt (netG W H C S G T false) F (inN (mapG W H C).F (numG W H C c) t + 1 : Nat) (inN (mapG W H C).F (numG W H C y) (t + 1) : Nat) = 1 ↔ _) from flowAt_runs h.ok h.net.dst hc2 rfl]
  have hdn : numG W H C d = nextK (mapG W H C) (netG W H C S G T false) F t (numG W H C c) := by rw [hd]; exact num_cellG h1
  constructor
  · intro hrun
    have e2 := nextK_eqG h hk ht (numG_lt hyf) hr hrun
    have e3 : numG W H C y = numG W H C d := by rw [hdn]; exact e2.symm
    have e4 := numG_inj hyf (hfree d hdm) e3
    obtain ⟨hj, e5⟩ := List.getElem?_eq_some_iff.1 hy
    exact (List.getElem_inj hnd).1 (by rw [e5, e4, e])
  · rintro rfl
    rw [hixs] at hy
    cases hy
    rw [hdn]
    exact h3
end

/-- A way, cell by cell: what is known of its t-th cell. -/
structure WayK (W H : Int) (C : ByteArray) (A : List ArcD) (F : List Int) (T : Nat) (M : List Int) : Prop where
  len : M.length = T + 1
  step : ∀ (t : Nat) (c : Int), M[t]? = some c → t < T → freeV W H C c = true ∧ ∃ (ix : Nat) (d : Int), (c :: aroundL W H C c)[ix]? = some d ∧ M[t + 1]? = some d ∧
    ∀ (j : Nat) (y : Int), (c :: aroundL W H C c)[j]? = some y → j ≤ ix → ∃ (a : Nat) (q : Int), arcP A (inNodeV W H C c (t : Int) + 1) (inNodeV W H C y ((t + 1 : Nat) : Int)) = (a : Int) ∧ F[a]? = some q ∧ (q = 1 ↔ j = ix)
section
variable {W H : Int} {C : ByteArray} {S G : List Int} {T : Nat} {F : List Int}
theorem wayK_step (h : UnitsD W H C S G T F) : ∀ (d t k : Nat), t + d = T → k < (mapG W H C).F → Runs ((netG W H C S G T false).zip F) (inN (mapG W H C).F k t : Nat) (inN (mapG W H C).F k t + 1 : Nat) → ∀ (i : Nat) (c : Int), ((wayK (mapG W H C) (netG W H C S G T false) F T d k).map (cellG W H C))[i]? = some c → i < d → freeV W H C c = true ∧ ∃ (ix : Nat) (d' : Int), (c :: aroundL W H C c)[ix]? = some d' ∧ ((wayK (mapG W H C) (netG W H C S G T false) F T d k).map (cellG W H C))[i + 1]? = some d' ∧
    ∀ (j : Nat) (y : Int), (c :: aroundL W H C c)[j]? = some y → j ≤ ix → ∃ (a : Nat) (q : Int), arcP (netG W H C S G T false) (inNodeV W H C c ((t + i : Nat) : Int) + 1) (inNodeV W H C y ((t + i + 1 : Nat) : Int)) = (a : Int) ∧ F[a]? = some q ∧ (q = 1 ↔ j = ix)
  | 0, _, _, _, _, _, i, c, _, hi => by omega
  | d + 1, t, k, ht, hk, hr, i, c, hc, hi => by
    obtain ⟨h1, _, h2⟩ := next_runG h hk (by omega : t < T) hr
    rw [wayK, List.map_cons, show T - (d + 1) = t by omega] at hc ⊢
    cases i with
    | zero =>
      have e : cellG W H C k = c := by simpa using hc
      have hcf : freeV W H C c = true := by rw [← e]; exact cellG_free hk
      have hnum : numG W H C c = k := by rw [← e]; exact num_cellG hk
      obtain ⟨ix, d', f1, f2, f3⟩ := next_find h hcf (by omega : t < T) (by rw [hnum]; exact hr)
      rw [hnum] at f2
      refine ⟨hcf, ix, d', f1, ?_, f3⟩
      rw [f2]
      cases d with
      | zero => rfl
      | succ d => rfl
    | succ i =>
      have ih := wayK_step h d (t + 1) (nextK (mapG W H C) (netG W H C S G T false) F t k) (by omega) h1 (run_in h.ok h1 h2) i c (by simpa using hc) (by omega)
      rw [show t + (i + 1) = t + 1 + i by omega]
      exact ih
theorem way_know (h : UnitsD W H C S G T F) {c : Int} (hc : c ∈ S) : WayK W H C (netG W H C S G T false) F T (wayG W H C (netG W H C S G T false) F T c) where
  len := by unfold wayG; rw [List.length_map, wayK_len]
  step := fun t c' hc' ht => by
    have := wayK_step h T 0 _ (by omega) (numG_lt (h.ask.sf c hc)) (h.go c hc) t c' hc' ht
    rw [Nat.zero_add] at this
    exact this
theorem way_first (h : UnitsD W H C S G T F) {c : Int} (hc : c ∈ S) : (wayG W H C (netG W H C S G T false) F T c)[0]? = some c := by
  unfold wayG
  have : cellG W H C (numG W H C c) = c := cellG_num (h.ask.sf c hc)
  cases T with
  | zero => simp [wayK, this]
  | succ T => simp [wayK, this]
end

end Go.Proofs.YtnbbhdbcapfbkaaDoor

