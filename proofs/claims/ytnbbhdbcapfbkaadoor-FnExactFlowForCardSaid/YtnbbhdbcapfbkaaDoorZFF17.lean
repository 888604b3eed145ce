/-
  CONTRACT of the program's nodesOf. No law is proved here.
  The pairs of neighbours in a way's nodes are its hops. Plain facts; no statement is proved here.
  CONTRACT of spec.NetOk. No law is proved here.
-/
import Derived.Test.YtnbbhdbcapfbkaaDoorZFF14
import Derived.Test.YtnbbhdbcapfbkaaDoorZFF16
import Derived.Test.YtnbbhdbcapfbkaaDoorZFF00
import Derived.Test.YtnbbhdbcapfbkaaDoorZFF13
import Derived.Test.YtnbbhdbcapfbkaaDoorZFF03
namespace Go.Proofs.YtnbbhdbcapfbkaaDoor
set_option maxRecDepth 4096
open Go.ChangeShapes Go.WideShapes Go.ChangeAt Go.RowKit

section
variable (W H : Int) (C : ByteArray) (G : List Int)
noncomputable def cellNds : Nat → List Int → List Int
  | _, [] => []
  | t, c :: L => ndV W H C c t :: (ndV W H C c t + 1) :: cellNds (t + 1) L
noncomputable def nodesK (L : List Int) (k : Nat) : List Int := 0 :: cellNds W H C 0 (L.take k)
noncomputable def nodesL (L : List Int) : List Int := nodesK W H C L L.length ++ (if G.contains (L.getD (L.length - 1) 0) = true then [1] else [2, 1])
end
section
variable {W H : Int} {C : ByteArray} {G : List Int}
theorem cellNds_app : ∀ (L : List Int) (t : Nat) (c : Int), cellNds W H C t (L ++ [c]) = cellNds W H C t L ++ [ndV W H C c (t + L.length), ndV W H C c (t + L.length) + 1]
  | [], t, c => rfl
  | a :: L, t, c => by
    rw [List.cons_append, cellNds, cellNds_app L (t + 1) c, cellNds, List.length_cons, show t + 1 + L.length = t + (L.length + 1) by omega]
    rfl
theorem nodesK_succ {L : List Int} {k : Nat} {c : Int} (h : L[k]? = some c) : nodesK W H C L (k + 1) = nodesK W H C L k ++ [ndV W H C c k, ndV W H C c k + 1] := by
  obtain ⟨hi, rfl⟩ := List.getElem?_eq_some_iff.1 h
  unfold nodesK
  rw [List.take_succ_eq_append_getElem hi, cellNds_app, List.length_take, Nat.min_eq_left (by omega), Nat.zero_add]
  rfl
theorem cellNds_len : ∀ (L : List Int) (t : Nat), (cellNds W H C t L).length = 2 * L.length
  | [], _ => rfl
  | a :: L, t => by
    rw [cellNds, List.length_cons, List.length_cons, cellNds_len L (t + 1), List.length_cons]
    omega
theorem nodesK_len (L : List Int) (k : Nat) : (nodesK W H C L k).length ≤ 2 * L.length + 1 := by
  unfold nodesK
  rw [List.length_cons, cellNds_len, List.length_take]
  omega
theorem nd_bound (c : Int) {t : Nat} (ht : t ≤ 20) : -1 ≤ ndV W H C c t ∧ ndV W H C c t ≤ 100000 := by
  cases h : freeV W H C c with
  | false =>
    rw [nd_no h]
    omega
  | true =>
    rw [nd_free h ht]
    have h1 := numG_lt h
    have h2 := freeL_len W H C
    have h3 : (mapG W H C).F = (freeL W H C).length := rfl
    unfold inN
    have : t * (mapG W H C).F ≤ 20 * 64 := Nat.mul_le_mul ht (by omega)
    omega
theorem int_new2 (w : World) (x y : Int) (t : TypeId) : ∀ j u, ([x, y].map (Value.int .i64))[j]? = some u → (w.alloc (.cells #[.int .i64 x, .int .i64 y] t)).cell? ((⟨w.heap.size, 0, none⟩ : Addr).add j) = some u := by
  intro j u h
  have hadd : (⟨w.heap.size, 0, none⟩ : Addr).add j = ⟨w.heap.size, j, none⟩ := by unfold Addr.add; split <;> simp_all
  rw [hadd, World.cell?_alloc_mark]
  simpa using h
theorem ints_pushs {w1 : World} {base n : Nat} {e : TypeId} {v : Value} {L M K : List Int} (h : w1.ownsRow base e 1 v (L.length + n) (L.map (Value.int .i64) ++ K.map (Value.int .i64))) (hn : n = K.length) (hM : M = L ++ K) :
    w1.ownsRow base e 1 v M.length (M.map (Value.int .i64)) := by
  subst hM hn
  simpa using h
end

theorem nodes_box {W H : Int} {C : ByteArray} {y : Value} {w wr : World} (h : Below ((w.alloc (.cells #[.int .i64 W, .int .i64 H, .string C] 30)).alloc (.cells #[y] 48)).heap.size ((w.alloc (.cells #[.int .i64 W, .int .i64 H, .string C] 30)).alloc (.cells #[y] 48)) wr) :
    wr.cell? ⟨w.heap.size, 0, none⟩ = some (.int .i64 W) ∧ wr.cell? ⟨w.heap.size, 1, none⟩ = some (.int .i64 H) ∧ wr.cell? ⟨w.heap.size, 2, none⟩ = some (.string C) ∧ wr.cell? ⟨w.heap.size + 1, 0, none⟩ = some y := by
  have h1 : wr.heap[w.heap.size]? = some (.cells #[.int .i64 W, .int .i64 H, .string C] 30 (0, 0)) := (h.block _ (by simp; omega)).trans ((@Go.heap_alloc_old _ _ _ (by simp)).trans (heap_alloc_new w _))
  have h2 : wr.heap[w.heap.size + 1]? = some (.cells #[y] 48 (0, 0)) := (h.block _ (by simp)).trans (by
    have := heap_alloc_new (w.alloc (.cells #[.int .i64 W, .int .i64 H, .string C] 30)) (.cells #[y] 48)
    rwa [World.size_alloc] at this)
  refine ⟨?_, ?_, ?_, ?_⟩ <;> first | (rw [cell_of_row _ _ _ _ _ _ h1]; rfl) | (rw [cell_of_row _ _ _ _ _ _ h2]; rfl)

set_option maxHeartbeats 2000000 in
theorem implNodesOf (W H : Int) (C : ByteArray) (G L : List Int) (R : List Int) (u vg : Value) (hC : C.size ≤ 1048576) (hG : G.length ≤ 2000000) (hL0 : 0 < L.length) (hL : L.length ≤ 21) (HR : Hid (nodesL W H C G L = R)) (w : World) (hg : Ints w vg G) (hI : Ints w u L) :
    Calls Tryd.prog 47 #[.agg #[.int .i64 W, .int .i64 H, .string C], vg, .agg #[u]] w (IntsBack w R) := by
  obtain ⟨i0, hi, hz0, hz1, hz2⟩ := info_parts Tryd.info3
  obtain ⟨au, cu, rfl, HI⟩ := ints_form hI
  rcases HI with h0 | ⟨q, rfl, hq, hqc⟩
  · omega
  obtain ⟨last, hlast⟩ : ∃ x, L[L.length - 1]? = some x := ⟨_, List.getElem?_eq_getElem (by omega)⟩
  have HLS : Hid (nodesL W H C G L = nodesK W H C L L.length ++ (if G.contains last = true then [1] else [2, 1])) := Lib.hid (by
    unfold nodesL
    rw [List.getD_eq_getElem?_getD, hlast]
    rfl)
  have HQ := Lib.hid hqc
  have HG := Lib.hid hg
  clear hg hI
  have HBX := Lib.hid (((Below.refl w.heap.size w).alloc (Nat.le_refl _) (.cells #[.int .i64 W, .int .i64 H, .string C] 30)).alloc (by simp) (.cells #[.slice (some ⟨q, 0, none⟩) L.length cu] 48))
  have hR2 := Below.refl ((w.alloc (.cells #[.int .i64 W, .int .i64 H, .string C] 30)).alloc (.cells #[.slice (some ⟨q, 0, none⟩) L.length cu] 48)).heap.size ((w.alloc (.cells #[.int .i64 W, .int .i64 H, .string C] 30)).alloc (.cells #[.slice (some ⟨q, 0, none⟩) L.length cu] 48))
  have hown0 : (((w.alloc (.cells #[.int .i64 W, .int .i64 H, .string C] 30)).alloc (.cells #[.slice (some ⟨q, 0, none⟩) L.length cu] 48)).alloc (.cells #[.int .i64 0] 3)).ownsRow (w.heap.size + 1 + 1) 3 1 (.slice (some ⟨w.heap.size + 1 + 1, 0, none⟩) 1 1) (nodesK W H C L 0).length ((nodesK W H C L 0).map (Value.int .i64)) := by
    have := World.ownsRow_lit (base := w.heap.size + 1 + 1) (e := 3) (size := 1) ((w.alloc (.cells #[.int .i64 W, .int .i64 H, .string C] 30)).alloc (.cells #[.slice (some ⟨q, 0, none⟩) L.length cu] 48)) #[.int .i64 0] 1 (by simp) (by unfold maxLen; omega) rfl
    rwa [World.size_alloc, World.size_alloc] at this
  have HO0 := Lib.hid hown0
  have HR3 := Lib.hid (hR2.alloc (Nat.le_refl _) (.cells #[.int .i64 0] 3))
  obtain ⟨b0, b1, b2, b3⟩ := nodes_box HR3.out
  clear hown0 hR2
  have hLle : L.length ≤ 21 := hL
  go_enter Tryd.func47, Tryd.ntmps47
  go_wp2
  clear b0 b1 b2 b3
  go_loopw [7, 15] (fun o i wr => ∃ k : Nat, k ≤ L.length ∧ i = .int .i64 k ∧ wr.ownsRow (w.heap.size + 1 + 1) 3 1 o (nodesK W H C L k).length ((nodesK W H C L k).map (Value.int .i64)) ∧ Below ((w.alloc (.cells #[.int .i64 W, .int .i64 H, .string C] 30)).alloc (.cells #[.slice (some ⟨q, 0, none⟩) L.length cu] 48)).heap.size ((w.alloc (.cells #[.int .i64 W, .int .i64 H, .string C] 30)).alloc (.cells #[.slice (some ⟨q, 0, none⟩) L.length cu] 48)) wr) (fun _ i _ => L.length - (intOf i).toNat)
  case atStart => exact ⟨0, Nat.zero_le _, rfl, HO0.out, HR3.out⟩
  case round =>
    obtain ⟨k, hk, rfl, hown, hB⟩ := hrel
    have hlen : (nodesK W H C L k).length ≤ 43 := by
      have := nodesK_len (W := W) (H := H) (C := C) L k
      omega
    have HO := Lib.hid hown
    have HBB := Lib.hid hB
    obtain ⟨b0, b1, b2, b3⟩ := nodes_box hB
    obtain ⟨ao, co, rfl⟩ := own_form hown
    by_cases hlt : k < L.length
    · have hlt2 : (k : Int) < (L.length : Int) := by omega
      obtain ⟨c, hc⟩ : ∃ c, L[k]? = some c := ⟨_, List.getElem?_eq_getElem hlt⟩
      have d0 := (hB.cell (p := ⟨q, k, none⟩) (by simp; omega)).trans ((HBX.out.cell (p := ⟨q, k, none⟩) hq).trans (HQ.out k c hc))
      obtain ⟨z, HZ⟩ : ∃ z, Hid (inNodeV W H C c (k : Int) = z) := ⟨_, rfl⟩
      have hzb := nd_bound (W := W) (H := H) (C := C) c (t := k) (by omega)
      have HZ1 : Hid (ndV W H C c k = z) := HZ
      rw [HZ1.out] at hzb
      have HS := Lib.hid (nodesK_succ (W := W) (H := H) (C := C) hc)
      rw [HZ1.out] at HS
      have hwz : IntKind.i64.wrap (z + 1) = z + 1 := IntWalk.i64_in _ (by omega)
      clear hc hown hB
      go_wp2_with fail
      refine (implInNode W H C c k z hC HZ _).mono ?_
      rintro e w5 ⟨rfl, hb5⟩
      have HB5 := Lib.hid (HBB.out.trans (hb5.mono HBB.out.size))
      have HO5 := Lib.hid (own_below HO.out hb5 (by have := HBB.out.size; simpa using this))
      have h5s : w.heap.size + 1 + 1 ≤ w5.heap.size := by have := HB5.out.size; simpa using this
      clear hb5
      go_wp2_with (at_builtin; refine wpList_append_own _ rfl _ _ 24 rfl (w.heap.size + 1 + 1) 3 i0 (.int .i64 0) 1 8 Tryd.underlying24 hi hz0 hz1 hz2 rfl (by decide) _ _ _ rfl (HO5.out.alloc _) ⟨w5.heap.size, 0, none⟩ 2 2 ([z, z + 1].map (Value.int .i64)) rfl rfl (int_new2 _ _ _ _) (ints_one _) (by unfold maxLen; omega) (by omega) (by simp; omega) ?_; intro v' w6 hown6 hgr6 _; have hbe6 := (HB5.out.alloc HB5.out.size _).grown hgr6 (by have := HB5.out.size; simp; omega) (fun k hk => by have := (HO5.out.lt k hk).1; simp; omega); clear hgr6)
      have HO6 := Lib.hid (ints_pushs (K := [z, z + 1]) hown6 rfl HS.out)
      clear hown6
      go_roundw
      case rel => exact ⟨k + 1, by omega, by go_num, HO6.out, hbe6⟩
      case measure => simp [intOf]; omega
    · obtain rfl : k = L.length := by omega
      have hnl : ¬ (L.length : Int) < (L.length : Int) := by omega
      have d0 := (hB.cell (p := ⟨q, L.length - 1, none⟩) (by simp; omega)).trans ((HBX.out.cell (p := ⟨q, L.length - 1, none⟩) hq).trans (HQ.out _ last hlast))
      have hwk : IntKind.i64.wrap ((L.length : Int) - 1) = ((L.length - 1 : Nat) : Int) := by rw [IntWalk.i64_in _ (by omega)]; omega
      have hp3 : ((L.length - 1 : Nat) : Int) < (L.length : Int) := by omega
      have hp2 : L.length - 1 < L.length := by omega
      have hgw : Hid (Ints wr vg G) := Lib.hid (ints_on HG.out (HBX.out.trans (hB.mono HBX.out.size)))
      have HB1 : Hid (Below w.heap.size w wr) := Lib.hid (HBX.out.trans (hB.mono HBX.out.size))
      have hws : w.heap.size + 1 + 1 ≤ wr.heap.size := by have := hB.size; simpa using this
      clear hown hB hlast
      obtain ⟨bg, HBG⟩ : ∃ b, Hid (G.contains last = b) := ⟨_, rfl⟩
      rw [HLS.out, HBG.out] at HR
      cases bg with
      | true =>
        have HR2 : Hid (R = nodesK W H C L L.length ++ [1]) := Lib.hid HR.out.symm
        clear HR
        go_wp2_with fail
        refine (containsI G last vg true hG HBG _ hgw.out).mono ?_
        rintro e w5 ⟨rfl, rfl⟩
        go_wp2_with (at_builtin; refine wpList_append_own _ rfl _ _ 24 rfl (w.heap.size + 1 + 1) 3 i0 (.int .i64 0) 1 8 Tryd.underlying24 hi hz0 hz1 hz2 rfl (by decide) _ _ _ rfl (HO.out.alloc _) ⟨wr.heap.size, 0, none⟩ 1 1 ([1].map (Value.int .i64)) rfl rfl (int_new _ _ _) (ints_one _) (by unfold maxLen; omega) (by omega) (by simp; omega) ?_; intro v' w6 hown6 hgr6 _; have hbe6 := (HB1.out.alloc HB1.out.size _).grown hgr6 (by simp; omega) (fun k hk => by have := (HO.out.lt k hk).1; omega); clear hgr6)
        have HO6 := Lib.hid (ints_push hown6 HR2.out)
        clear hown6
        go_ret
        exact ⟨_, rfl, own_base HO6.out (by omega), hbe6⟩
      | false =>
        have hlen2 : (nodesK W H C L L.length ++ [2]).length ≤ 44 := by rw [List.length_append, List.length_singleton]; omega
        have HR2 : Hid (R = (nodesK W H C L L.length ++ [2]) ++ [1]) := Lib.hid (by rw [← HR.out]; simp)
        clear HR
        go_wp2_with fail
        refine (containsI G last vg false hG HBG _ hgw.out).mono ?_
        rintro e w5 ⟨rfl, rfl⟩
        go_wp2_with (at_builtin; (first | (have hx := HO6.out; clear hx; go_loud (refine wpList_append_own _ rfl _ _ 24 rfl (w.heap.size + 1 + 1) 3 i0 (.int .i64 0) 1 8 Tryd.underlying24 hi hz0 hz1 hz2 rfl (by decide) _ _ _ rfl (HO6.out.alloc _) ⟨w6.heap.size, 0, none⟩ 1 1 ([1].map (Value.int .i64)) rfl rfl (int_new _ _ _) (ints_one _) (by unfold maxLen; omega) (by omega) (by simp; omega) ?_; intro v7 w7 hown7 hgr6 _; have HB7 := Lib.hid ((HB6.out.alloc HB6.out.size _).grown hgr6 (by simp; omega) (fun k hk => by have := (HO6.out.lt k hk).1; omega)); have HO7 := Lib.hid (ints_push hown7 HR2.out); clear hgr6 hown7)) | (go_loud (refine wpList_append_own _ rfl _ _ 24 rfl (w.heap.size + 1 + 1) 3 i0 (.int .i64 0) 1 8 Tryd.underlying24 hi hz0 hz1 hz2 rfl (by decide) _ _ _ rfl (HO.out.alloc _) ⟨wr.heap.size, 0, none⟩ 1 1 ([2].map (Value.int .i64)) rfl rfl (int_new _ _ _) (ints_one _) (by unfold maxLen; omega) (by omega) (by simp; omega) ?_; intro v5 w6 hown6 hgr6 _; have HB6 := Lib.hid ((HB1.out.alloc HB1.out.size _).grown hgr6 (by simp; omega) (fun k hk => by have := (HO.out.lt k hk).1; omega)); have HO6 := Lib.hid (ints_push (M := nodesK W H C L L.length ++ [2]) hown6 rfl); have hs6 : w.heap.size + 1 + 1 ≤ w6.heap.size := (by have := hgr6.size; have h7 := World.size_alloc wr (.cells #[.int .i64 2] 3); omega); clear hgr6 hown6))))
        go_ret
        exact ⟨_, rfl, own_base HO7.out (by omega), HB7.out⟩

end Go.Proofs.YtnbbhdbcapfbkaaDoor

namespace Go.Proofs.YtnbbhdbcapfbkaaDoor
set_option maxRecDepth 4096
open Go.ChangeShapes Go.WideShapes Go.ChangeAt Go.RowKit

def pairsO (L : List Int) : List (Int × Int) := L.zip L.tail
section
variable {W H : Int} {C : ByteArray} {G : List Int}
theorem pairs_cons (a b : Int) (L : List Int) : pairsO (a :: b :: L) = (a, b) :: pairsO (b :: L) := rfl
theorem pairs_T : ∀ (L : List Int) (t : Nat) (p : Int), L ≠ [] → pairsO (p :: (cellNds W H C t L ++ (if G.contains (L.getD (L.length - 1) 0) = true then [1] else [2, 1]))) = (p, ndV W H C (L.getD 0 0) t) :: hopsT W H C G t L
  | [], _, _, h => absurd rfl h
  | [c], t, p, _ => by
    simp only [cellNds, hopsT, List.cons_append, List.nil_append, List.getD_cons_zero, List.length_singleton, Nat.sub_self]
    by_cases e : G.contains c = true
    · rw [if_pos e, if_pos e]
      rfl
    · rw [if_neg e, if_neg e]
      rfl
  | c :: d :: L, t, p, _ => by
    have ih := pairs_T (d :: L) (t + 1) (ndV W H C c t + 1) (by simp)
    have e1 : (c :: d :: L).getD ((c :: d :: L).length - 1) 0 = (d :: L).getD ((d :: L).length - 1) 0 := by
      simp [List.getD_eq_getElem?_getD]
    rw [e1, cellNds, List.cons_append, List.cons_append, pairs_cons, pairs_cons, ih, hopsT]
    rfl
theorem pairs_nodes {L : List Int} (h : L ≠ []) : pairsO (nodesL W H C G L) = hopsW W H C G L := by
  unfold nodesL nodesK
  rw [List.take_length, List.cons_append, pairs_T L 0 0 h]
  cases L with
  | nil => exact absurd rfl h
  | cons c L => rfl
theorem pairs_len (L : List Int) : (pairsO L).length = L.length - 1 := by
  unfold pairsO
  rw [List.length_zip, List.length_tail]
  omega
theorem pairs_at {L : List Int} {k : Nat} {x y : Int} (hx : L[k]? = some x) (hy : L[k + 1]? = some y) : (pairsO L)[k]? = some (x, y) := by
  unfold pairsO
  rw [List.getElem?_zip_eq_some]
  refine ⟨hx, ?_⟩
  rw [List.getElem?_tail]
  exact hy
theorem pairs_take {L : List Int} {k : Nat} {x y : Int} (hx : L[k]? = some x) (hy : L[k + 1]? = some y) : (pairsO L).take (k + 1) = (pairsO L).take k ++ [(x, y)] := by
  rw [List.take_add_one, pairs_at hx hy]
  rfl
theorem nodes_bound {L : List Int} (hL : L.length ≤ 21) : ∀ x ∈ nodesL W H C G L, -1 ≤ x ∧ x ≤ 100001 := by
  have key : ∀ (L : List Int) (t : Nat), t + L.length ≤ 21 → ∀ x ∈ cellNds W H C t L, -1 ≤ x ∧ x ≤ 100001 := by
    intro L
    induction L with
    | nil =>
      intro t _ x hx
      cases hx
    | cons c L ih =>
      intro t ht x hx
      rw [List.length_cons] at ht
      have hb := nd_bound (W := W) (H := H) (C := C) c (t := t) (by omega)
      rw [cellNds] at hx
      rcases List.mem_cons.1 hx with rfl | hx
      · omega
      · rcases List.mem_cons.1 hx with rfl | hx
        · omega
        · exact ih (t + 1) (by omega) x hx
  intro x hx
  unfold nodesL nodesK at hx
  rw [List.take_length] at hx
  rcases List.mem_append.1 hx with hx | hx
  · rcases List.mem_cons.1 hx with rfl | hx
    · omega
    · exact key L 0 (by omega) x hx
  · split at hx
    · have : x = 1 := by simpa using hx
      omega
    · have : x = 2 ∨ x = 1 := by simpa using hx
      omega
theorem nodes_len (L : List Int) : (nodesL W H C G L).length ≤ 2 * L.length + 3 := by
  have := nodesK_len (W := W) (H := H) (C := C) L L.length
  unfold nodesL
  rw [List.length_append]
  split <;> (simp; omega)
theorem hopsAll_succ {Ws : List (List Int)} {j : Nat} {L : List Int} (h : Ws[j]? = some L) : hopsAll W H C G (Ws.take (j + 1)) = hopsAll W H C G (Ws.take j) ++ hopsW W H C G L := by
  obtain ⟨hi, rfl⟩ := List.getElem?_eq_some_iff.1 h
  unfold hopsAll
  rw [List.take_succ_eq_append_getElem hi, List.flatMap_append]
  simp
theorem hopsAll_len {Ws : List (List Int)} (hW : ∀ L ∈ Ws, 0 < L.length ∧ L.length ≤ 21) (j : Nat) : (hopsAll W H C G (Ws.take j)).length ≤ 44 * j := by
  induction j with
  | zero => simp [hopsAll]
  | succ j ih =>
    by_cases hj : j < Ws.length
    · have hx : Ws[j]? = some Ws[j] := List.getElem?_eq_getElem hj
      have hb := hW _ (List.mem_of_getElem? hx)
      rw [hopsAll_succ hx, List.length_append, ← pairs_nodes (by intro e; rw [e] at hb; simp at hb), pairs_len]
      have := nodes_len (W := W) (H := H) (C := C) (G := G) Ws[j]
      omega
    · rw [List.take_of_length_le (by omega)] at ih ⊢
      omega
end

end Go.Proofs.YtnbbhdbcapfbkaaDoor

namespace Go.Proofs.YtnbbhdbcapfbkaaDoor
set_option maxRecDepth 4096
open Go.ChangeShapes Go.WideShapes Go.ChangeAt Go.RowKit

theorem arc_all {p : ArcD → Bool} {A : List ArcD} {k : Nat} {x : ArcD} (h : (A.take k).all p = true) (hx : A[k]? = some x) (hp : p x = true) : (A.take (k + 1)).all p = true := by
  obtain ⟨hi, rfl⟩ := List.getElem?_eq_some_iff.1 hx
  rw [List.take_succ_eq_append_getElem hi, List.all_append, h]
  simp [hp]
theorem arc_not {p : ArcD → Bool} {A : List ArcD} {k : Nat} {x : ArcD} (hx : A[k]? = some x) (hp : p x = false) : A.all p = false := by
  rw [List.all_eq_false]
  exact ⟨x, List.mem_of_getElem? hx, by simp [hp]⟩

set_option maxHeartbeats 1000000 in
theorem specNet_in (N : Int) (A : List ArcD) (v : Value) (b : Bool) (hN : 2 ≤ N ∧ N ≤ 1500) (hA : A.length ≤ 3200) (HB : Hid (A.all (arcOk N) = b)) (w : World) (hv : Arcs w v A) :
    Calls Tryd.prog 70 #[.agg #[.int .i64 N, v]] w (Made w (.bool b)) := by
  have hB := Below.refl (w.alloc (.cells #[.int .i64 N, v] 45)).heap.size (w.alloc (.cells #[.int .i64 N, v] 45))
  obtain ⟨c0, c1⟩ := net_cells hB
  obtain ⟨av, cv, rfl, HV⟩ := arcs_form hv
  have HVh := Lib.hid HV
  have HN1 : Hid (inV N 2 1500 = true) := Lib.hid (inV_iff.2 hN)
  have hwN : IntKind.i64.wrap (N - 1) = N - 1 := IntWalk.i64_in _ (by omega)
  have hA1 : ¬ (3200 : Int) < (A.length : Int) := by omega
  clear HV hv
  go_enter Tryd.func70, Tryd.ntmps70
  go_wp2_with (go_at_call 36; refine (l01In _ _ _ _ HN1 _).mono ?_; rintro e w' ⟨rfl, rfl⟩)
  go_loopw [3] (fun i wr => ∃ k : Nat, k ≤ A.length ∧ i = .int .i64 k ∧ Hid ((A.take k).all (arcOk N) = true) ∧ Below (w.alloc (.cells #[.int .i64 N, .slice av A.length cv] 45)).heap.size (w.alloc (.cells #[.int .i64 N, .slice av A.length cv] 45)) wr) (fun i _ => A.length - (intOf i).toNat)
  case atStart => exact ⟨0, Nat.zero_le _, rfl, Lib.hid rfl, hB⟩
  case round =>
    clear hB c0 c1
    obtain ⟨k, hk, rfl, HK, hB⟩ := hrel
    obtain ⟨c0, c1⟩ := net_cells hB
    by_cases hlt : k < A.length
    · obtain ⟨x, hx⟩ : ∃ x, A[k]? = some x := ⟨_, List.getElem?_eq_getElem hlt⟩
      rcases HVh.out with h0 | ⟨g, rfl, hgl, hc⟩
      · omega
      · obtain ⟨d0, d1, d2, d3⟩ := (hc k x hx)
        have e0 := ((below_box hB).cell (p := ⟨g, _, none⟩) hgl).trans d0
        have e1 := ((below_box hB).cell (p := ⟨g, _, none⟩) hgl).trans d1
        have e2 := ((below_box hB).cell (p := ⟨g, _, none⟩) hgl).trans d2
        have e3 := ((below_box hB).cell (p := ⟨g, _, none⟩) hgl).trans d3
        have hlt2 : (k : Int) < (A.length : Int) := by omega
        have hB2 := hB.alloc hB.size (.cells #[.int .i64 x.f, .int .i64 x.t, .int .i64 x.r, .int .i64 x.c] 62)
        have HB2 := Lib.hid hB2
        have HX := Lib.hid hx
        have b0 := (net_cells hB2).1
        clear d0 d1 d2 d3 hc hx hB2
        rcases arcOk_cases N x with ⟨hok, h1, h2, h3, h4, h5⟩ | ⟨hok, h1 | ⟨h1, h2⟩ | ⟨h1, h2, h3⟩ | ⟨h1, h2, h3, h4⟩ | ⟨h1, h2, h3, h4, h5⟩⟩
        · have H1 := Lib.hid h1
          have H2 := Lib.hid h2
          have H4 := Lib.hid h4
          have H5 := Lib.hid h5
          have HOK := Lib.hid hok
          have h3' : (x.f == x.t) = false := by simpa using h3
          clear h1 h2 h4 h5 hok h3
          go_wp2_with (go_at_call 36; refine (l01In _ _ _ _ (by assumption) _).mono ?_; rintro e w' ⟨rfl, rfl⟩)
          go_roundw
          case rel => exact ⟨k + 1, by omega, by go_num, Lib.hid (arc_all HK.out HX.out HOK.out), HB2.out⟩
          case measure => simp [intOf]; omega
        · have H1 := Lib.hid h1
          have e : b = false := by rw [← HB.out]; exact arc_not HX.out hok
          subst e
          clear h1 hok
          go_wp2_with (go_at_call 36; refine (l01In _ _ _ _ (by assumption) _).mono ?_; rintro e w' ⟨rfl, rfl⟩)
          go_ret
          exact ⟨rfl, below_box HB2.out⟩
        · have H1 := Lib.hid h1
          have H2 := Lib.hid h2
          have e : b = false := by rw [← HB.out]; exact arc_not HX.out hok
          subst e
          clear h1 h2 hok
          go_wp2_with (go_at_call 36; refine (l01In _ _ _ _ (by assumption) _).mono ?_; rintro e w' ⟨rfl, rfl⟩)
          go_ret
          exact ⟨rfl, below_box HB2.out⟩
        · have H1 := Lib.hid h1
          have H2 := Lib.hid h2
          have h3' : (x.f == x.t) = true := by simpa using h3
          have e : b = false := by rw [← HB.out]; exact arc_not HX.out hok
          subst e
          clear h1 h2 hok h3
          go_wp2_with (go_at_call 36; refine (l01In _ _ _ _ (by assumption) _).mono ?_; rintro e w' ⟨rfl, rfl⟩)
          go_ret
          exact ⟨rfl, below_box HB2.out⟩
        · have H1 := Lib.hid h1
          have H2 := Lib.hid h2
          have H4 := Lib.hid h4
          have h3' : (x.f == x.t) = false := by simpa using h3
          have e : b = false := by rw [← HB.out]; exact arc_not HX.out hok
          subst e
          clear h1 h2 hok h3 h4
          go_wp2_with (go_at_call 36; refine (l01In _ _ _ _ (by assumption) _).mono ?_; rintro e w' ⟨rfl, rfl⟩)
          go_ret
          exact ⟨rfl, below_box HB2.out⟩
        · have H1 := Lib.hid h1
          have H2 := Lib.hid h2
          have H4 := Lib.hid h4
          have H5 := Lib.hid h5
          have h3' : (x.f == x.t) = false := by simpa using h3
          have e : b = false := by rw [← HB.out]; exact arc_not HX.out hok
          subst e
          clear h1 h2 hok h3 h4 h5
          go_wp2_with (go_at_call 36; refine (l01In _ _ _ _ (by assumption) _).mono ?_; rintro e w' ⟨rfl, rfl⟩)
          go_ret
          exact ⟨rfl, below_box HB2.out⟩
    · obtain rfl : k = A.length := by omega
      have e : b = true := by rw [← HB.out, ← HK.out, List.take_length]
      subst e
      go_wp2_with fail
      go_ret
      exact ⟨rfl, below_box hB⟩

theorem specNetOk (N : Int) (A : List ArcD) (v : Value) (b : Bool) (HB : Hid (netOkV N A = b)) (w : World) (hl : A.length ≤ 9223372036854775807) (hv : Arcs w v A) :
    Calls Tryd.prog 70 #[.agg #[.int .i64 N, v]] w (Made w (.bool b)) := by
  by_cases hN : inV N 2 1500 = true
  · by_cases hA : A.length ≤ 3200
    · refine specNet_in N A v b (inV_iff.1 hN) hA (Lib.hid ?_) w hv
      rw [← HB.out]
      unfold netOkV
      rw [hN, decide_eq_true hA]
      rfl
    · have e : b = false := by
        rw [← HB.out]
        unfold netOkV
        rw [decide_eq_false hA]
        simp
      subst e
      have hB := Below.refl (w.alloc (.cells #[.int .i64 N, v] 45)).heap.size (w.alloc (.cells #[.int .i64 N, v] 45))
      obtain ⟨c0, c1⟩ := net_cells hB
      obtain ⟨av, cv, rfl, _⟩ := arcs_form hv
      have HN := Lib.hid hN
      have hA2 : (3200 : Int) < (A.length : Int) := by omega
      clear hN hv
      go_enter Tryd.func70, Tryd.ntmps70
      go_wp2_with (go_at_call 36; refine (l01In _ _ _ _ (by assumption) _).mono ?_; rintro e w' ⟨rfl, rfl⟩)
      go_ret
      exact ⟨rfl, below_box hB⟩
  · have e : b = false := by
      rw [← HB.out]
      unfold netOkV
      rw [(by simpa using hN : inV N 2 1500 = false)]
      rfl
    subst e
    have HN : Hid (inV N 2 1500 = false) := Lib.hid (by simpa using hN)
    have hB := Below.refl (w.alloc (.cells #[.int .i64 N, v] 45)).heap.size (w.alloc (.cells #[.int .i64 N, v] 45))
    obtain ⟨c0, c1⟩ := net_cells hB
    obtain ⟨av, cv, rfl, _⟩ := arcs_form hv
    clear hN hv
    go_enter Tryd.func70, Tryd.ntmps70
    go_wp2_with (go_at_call 36; refine (l01In _ _ _ _ (by assumption) _).mono ?_; rintro e w' ⟨rfl, rfl⟩)
    go_ret
    exact ⟨rfl, below_box hB⟩

end Go.Proofs.YtnbbhdbcapfbkaaDoor

