/-
  CONTRACT of the program's InNode. No law is proved here.
  The arcs of the network in time, as far as they are listed at each point of TimeNet's loops. Plain facts; no statement is proved here.
  How the program reads a grid's map in time: the number of a free cell is how many free cells lie below it; what lies beside a cell ascends; the pairs as the program lists them. Plain facts; no statement is proved here.
-/
import Derived.Test.YtlkhecdlmbhiaaaDoorZTN15
import Derived.Test.YtlkhecdlmbhiaaaDoorZTN18
import Derived.Test.YtlkhecdlmbhiaaaDoorZTN16
import Derived.Test.YtlkhecdlmbhiaaaDoorZTN13
import Derived.Test.YtlkhecdlmbhiaaaDoorZTN14
namespace Go.Proofs.YtlkhecdlmbhiaaaDoor
set_option maxRecDepth 4096
open Go.ChangeShapes Go.WideShapes Go.ChangeAt Go.RowKit

theorem freeL_len (W H : Int) (C : ByteArray) : (freeL W H C).length ≤ 64 := Nat.le_trans (picks_len _ _) (Nat.min_le_right _ 64)
theorem numIn (F t i : Nat) (z : Int) (hF : F ≤ 1000) (ht : t ≤ 1000) (hi : i ≤ 1000) (HZ : Hid ((numV 0 F 0 0 t i : Nat) = z)) (w : World) :
    Calls Tryd.prog 63 #[.int .i64 0, .agg #[.int .i64 F, .int .i64 0, .int .i64 0], .int .i64 t, .int .i64 i] w (Made w (.int .i64 z)) :=
  numCell 0 F 0 0 t i z (by omega) hF ht hi HZ w

set_option maxHeartbeats 1000000 in
theorem implInNode (W H : Int) (C : ByteArray) (c T z : Int) (hC : C.size ≤ 1048576) (HZ : Hid (inNodeV W H C c T = z)) (w : World) :
    Calls Tryd.prog 32 #[.agg #[.int .i64 W, .int .i64 H, .string C], .int .i64 c, .int .i64 T] w (Made w (.int .i64 z)) := by
  have hB := Below.refl (w.alloc (.cells #[.int .i64 W, .int .i64 H, .string C] 25)).heap.size (w.alloc (.cells #[.int .i64 W, .int .i64 H, .string C] 25))
  obtain ⟨L, HL⟩ : ∃ L, Hid (freeL W H C = L) := ⟨_, rfl⟩
  have hlen : L.length ≤ 64 := by rw [← HL.out]; exact freeL_len W H C
  have hup : L.Pairwise (· ≤ ·) := by rw [← HL.out]; exact free_le
  obtain ⟨n, HN⟩ : ∃ n, Hid (L.countP (fun y => decide (y < c)) = n) := ⟨_, rfl⟩
  have hnl : n ≤ 64 := by rw [← HN.out]; exact Nat.le_trans List.countP_le_length hlen
  have hw2 : L.length ≤ 2000000 := by omega
  by_cases hf : freeV W H C c = true
  · have HB : Hid (L.contains c = true) := Lib.hid (by rw [← HL.out, free_has]; exact hf)
    have hn : (freeL W H C).idxOf c = n := by rw [← HN.out, ← HL.out]; exact (asc_count freeU_up (freeU_mem hf)).symm
    by_cases hT : rgB T 0 20 = true
    · have HR : Hid ((decide (0 ≤ T) && decide (T ≤ 20)) = true) := Lib.hid hT
      obtain ⟨h0, h1⟩ := rgB_iff.1 hT
      obtain ⟨t, rfl⟩ : ∃ t : Nat, T = t := ⟨T.toNat, by omega⟩
      have ht : t ≤ 1000 := by omega
      have HZ2 : Hid ((numV 0 L.length 0 0 t n : Nat) = z) := Lib.hid (by
        have e1 : inNodeV W H C c (t : Int) = 3 + 2 * ((t : Int) * ((freeL W H C).length : Int) + (((freeL W H C).idxOf c : Nat) : Int)) := if_pos ⟨hf, hT⟩
        have e2 : numV 0 L.length 0 0 t n = 3 + 2 * (t * L.length + n) + 0 % 2 := if_pos (by decide)
        rw [← HZ.out, e1, e2, hn, HL.out]
        simp)
      clear hf hT HZ hn h0 h1
      go_enter Tryd.func32, Tryd.ntmps32
      go_wp2_with fail
      refine (implFreeCells W H C L hC HL _).mono ?_
      rintro e w1 ⟨v, rfl, hown, hb⟩
      replace hB := chain hB hb
      obtain ⟨av, cv, rfl⟩ := own_form hown
      have HI := Lib.hid (ints_of_own hown)
      clear hb hown
      go_wp2_with fail
      refine (implFind L c _ n true hw2 hup HN HB _ HI.out).mono ?_
      rintro e w2 ⟨rfl, q, rfl⟩
      replace hB := below_drewN hB q
      clear hup HI
      go_wp2_with (first
        | (go_at_call 43; refine (implRange _ _ _ true HR _).mono ?_; rintro e w' ⟨rfl, rfl⟩)
        | (go_at_call 63; (with_reducible refine (numIn L.length t n z (by omega) ht (by omega) HZ2 _).mono ?_); rintro e w3 ⟨rfl, hb⟩; replace hB := box_below (chain hB hb); clear hb))
      go_ret
      exact ⟨rfl, hB⟩
    · have hz : z = -1 := by
        rw [← HZ.out]
        unfold inNodeV
        rw [if_neg (fun h => hT h.2)]
      subst hz
      have HR : Hid ((decide (0 ≤ T) && decide (T ≤ 20)) = false) := Lib.hid (by simpa [rgB] using hT)
      clear hf hT HZ hn
      go_enter Tryd.func32, Tryd.ntmps32
      go_wp2_with fail
      refine (implFreeCells W H C L hC HL _).mono ?_
      rintro e w1 ⟨v, rfl, hown, hb⟩
      replace hB := chain hB hb
      have HI := Lib.hid (ints_of_own hown)
      clear hb hown
      go_wp2_with fail
      refine (implFind L c _ n true hw2 hup HN HB _ HI.out).mono ?_
      rintro e w2 ⟨rfl, q, rfl⟩
      replace hB := box_below (below_drewN hB q)
      clear hup HI
      go_wp2_with (go_at_call 43; refine (implRange _ _ _ false HR _).mono ?_; rintro e w' ⟨rfl, rfl⟩)
      go_ret
      exact ⟨rfl, hB⟩
  · have hz : z = -1 := by
      rw [← HZ.out]
      unfold inNodeV
      rw [if_neg (fun h => hf h.1)]
    subst hz
    have HB : Hid (L.contains c = false) := Lib.hid (by rw [← HL.out, free_has]; simpa using hf)
    clear hf HZ
    go_enter Tryd.func32, Tryd.ntmps32
    go_wp2_with fail
    refine (implFreeCells W H C L hC HL _).mono ?_
    rintro e w1 ⟨v, rfl, hown, hb⟩
    replace hB := chain hB hb
    have HI := Lib.hid (ints_of_own hown)
    clear hb hown
    go_wp2_with fail
    refine (implFind L c _ n false hw2 hup HN HB _ HI.out).mono ?_
    rintro e w2 ⟨rfl, q, rfl⟩
    replace hB := box_below (below_drewN hB q)
    clear hup HI
    go_wp2
    go_ret
    exact ⟨rfl, hB⟩

end Go.Proofs.YtlkhecdlmbhiaaaDoor

namespace Go.Proofs.YtlkhecdlmbhiaaaDoor
set_option maxRecDepth 4096

section
variable (m : MapD) (sl : List Nat) (gl : Nat → Bool) (T : Nat) (strict : Bool)
def startA (k : Nat) : ArcD := ⟨0, (inN m.F k 0 : Nat), 1, 0⟩
def endA (k : Nat) : ArcD := ⟨(inN m.F k T + 1 : Nat), (if gl k = true then 1 else 2 : Nat), 1, 0⟩
/-- All that is listed before time t. -/
def layT (t : Nat) : List ArcD := sl.map (startA m) ++ (List.range t).flatMap (layA m T strict)
def celT (t i : Nat) : List ArcD := layT m sl T strict t ++ (List.range i).flatMap (cellA m T t strict)
/-- A cell's arc to itself, a cell's arc into the next time. -/
def arcI (t k : Nat) : ArcD := ⟨(inN m.F k t : Nat), (inN m.F k t + 1 : Nat), 1, 0⟩
def arcW (t k j : Nat) (c : Int) : ArcD := ⟨(inN m.F k t + 1 : Nat), (inN m.F j (t + 1) : Nat), 1, c⟩
/-- The pairs before the one of cells i and k. -/
def pairsTo (i k : Nat) : List (Nat × Nat) :=
  ((List.range i).flatMap fun i => ((List.range m.F).filter fun k => decide (i < k) && adjB m i k).map fun k => (i, k)) ++ ((List.range k).filter fun k => decide (i < k) && adjB m i k).map fun k => (i, k)
def fiveA (t p a b : Nat) : List ArcD := [⟨(inN m.F a t + 1 : Nat), (p : Nat), 1, 0⟩, ⟨(inN m.F b t + 1 : Nat), (p : Nat), 1, 0⟩, ⟨(p : Nat), (p + 1 : Nat), 1, 1⟩, ⟨(p + 1 : Nat), (inN m.F a (t + 1) : Nat), 1, 0⟩, ⟨(p + 1 : Nat), (inN m.F b (t + 1) : Nat), 1, 0⟩]
def pairP (t : Nat) : Nat := baseN m T + 2 * t * m.pl.length
def parT (t i k : Nat) : List ArcD := celT m sl T strict t m.F ++ pairA m t (pairP m T t) (pairsTo m i k)
def endT (i : Nat) : List ArcD := layT m sl T strict (T + 1) ++ (List.range i).map (endA m gl T)
end
section
variable {m : MapD} {sl : List Nat} {gl : Nat → Bool} {T t i k : Nat} {strict : Bool} {R : Int}
theorem layT_zero : layT m sl T strict 0 = sl.map (startA m) := by simp [layT]
theorem layT_succ : layT m sl T strict (t + 1) = celT m sl T strict t m.F ++ (if t = T ∨ strict = false then [] else pairA m t (pairP m T t) m.pl) := by
  unfold layT celT
  rw [List.range_succ, List.flatMap_append]
  simp only [List.flatMap_cons, List.flatMap_nil, List.append_nil]
  rw [layA, ← List.append_assoc, ← List.append_assoc]
  rfl
theorem celT_zero : celT m sl T strict t 0 = layT m sl T strict t := by simp [celT]
theorem celT_succ : celT m sl T strict t (i + 1) = celT m sl T strict t i ++ cellA m T t strict i := by
  unfold celT
  rw [List.range_succ, List.flatMap_append, List.append_assoc]
  simp
theorem cellA_last : cellA m T T strict i = [arcI m T i] := by
  unfold cellA
  rw [if_pos rfl]
  rfl
theorem cellA_strict (ht : t ≠ T) : cellA m T t true i = [arcI m t i, arcW m t i i 0] := by
  unfold cellA
  rw [if_neg ht, if_pos rfl]
  rfl
theorem cellA_plain (ht : t ≠ T) : cellA m T t false i = arcI m t i :: arcW m t i i 0 :: (m.ar i).map fun j => arcW m t i j 1 := by
  unfold cellA
  rw [if_neg ht, if_neg (by decide)]
  rfl
theorem pairsTo_start : pairsTo m 0 0 = [] := by simp [pairsTo]
theorem pairsTo_pl : pairsTo m m.F 0 = m.pl := by simp [pairsTo, MapD.pl]
theorem pairsTo_row : pairsTo m i m.F = pairsTo m (i + 1) 0 := by
  unfold pairsTo
  rw [List.range_succ, List.flatMap_append]
  simp
theorem pairsTo_low : pairsTo m i (i + 1) = pairsTo m i 0 := by
  unfold pairsTo
  have e : ((List.range (i + 1)).filter fun k => decide (i < k) && adjB m i k) = [] := by
    rw [List.filter_eq_nil_iff]
    intro k hk
    have := List.mem_range.1 hk
    rw [decide_eq_false (by omega)]
    simp
  rw [e]
  simp
theorem pairsTo_yes (h : i < k) (ha : adjB m i k = true) : pairsTo m i (k + 1) = pairsTo m i k ++ [(i, k)] := by
  unfold pairsTo
  rw [List.range_succ, List.filter_append, List.map_append, List.append_assoc]
  simp [h, ha]
theorem pairsTo_no (ha : adjB m i k = false) : pairsTo m i (k + 1) = pairsTo m i k := by
  unfold pairsTo
  rw [List.range_succ, List.filter_append, List.map_append]
  simp [ha]
theorem pairA_snoc : ∀ (L : List (Nat × Nat)) (p a b : Nat), pairA m t p (L ++ [(a, b)]) = pairA m t p L ++ fiveA m t (p + 2 * L.length) a b
  | [], p, a, b => rfl
  | (c, d) :: L, p, a, b => by
    simp only [List.cons_append, pairA, pairA_snoc L, List.length_cons]
    rw [show p + 2 + 2 * L.length = p + 2 * (L.length + 1) by omega]
theorem parT_start : parT m sl T strict t 0 0 = celT m sl T strict t m.F := by
  unfold parT
  rw [pairsTo_start]
  simp [pairA]
theorem parT_end (ht : t ≠ T) : parT m sl T true t m.F 0 = layT m sl T true (t + 1) := by
  unfold parT
  rw [pairsTo_pl, layT_succ, if_neg (by simp [ht])]
theorem parT_row : parT m sl T strict t i m.F = parT m sl T strict t (i + 1) 0 := by unfold parT; rw [pairsTo_row]
theorem parT_low : parT m sl T strict t i (i + 1) = parT m sl T strict t i 0 := by unfold parT; rw [pairsTo_low]
theorem parT_no (ha : adjB m i k = false) : parT m sl T strict t i (k + 1) = parT m sl T strict t i k := by unfold parT; rw [pairsTo_no ha]
theorem parT_yes (h : i < k) (ha : adjB m i k = true) : parT m sl T strict t i (k + 1) = parT m sl T strict t i k ++ fiveA m t (pairP m T t + 2 * (pairsTo m i k).length) i k := by
  unfold parT
  rw [pairsTo_yes h ha, pairA_snoc, List.append_assoc]
theorem layT_skip (h : t = T ∨ strict = false) : layT m sl T strict (t + 1) = celT m sl T strict t m.F := by
  rw [layT_succ, if_pos h, List.append_nil]
theorem endT_zero : endT m sl gl T strict 0 = layT m sl T strict (T + 1) := by simp [endT]
theorem endT_succ : endT m sl gl T strict (i + 1) = endT m sl gl T strict i ++ [endA m gl T i] := by
  unfold endT
  rw [List.range_succ, List.map_append, List.append_assoc]
  rfl
theorem endT_all : timeA m sl gl R T strict = endT m sl gl T strict m.F ++ [⟨2, 1, R, 0⟩] := by
  unfold timeA endT layT
  rw [List.append_assoc, List.append_assoc]
  rfl
/-- The pairs are a beginning of all of them. -/
theorem pairsTo_len (hi : i ≤ m.F) (hk : k ≤ m.F) (h0 : i = m.F → k = 0) : (pairsTo m i k).length ≤ m.pl.length := by
  have h1 : ∀ j, j ≤ m.F → (pairsTo m j 0).length ≤ (pairsTo m m.F 0).length := by
    intro j hj
    obtain ⟨d, hd⟩ : ∃ d, m.F = j + d := ⟨m.F - j, by omega⟩
    unfold pairsTo
    simp only [List.range_zero, List.filter_nil, List.map_nil, List.append_nil]
    generalize (fun i => ((List.range m.F).filter fun k => decide (i < k) && adjB m i k).map fun k => (i, k)) = f
    rw [hd, List.range_add, List.flatMap_append, List.length_append]
    omega
  rw [← pairsTo_pl]
  rcases Nat.lt_or_ge i m.F with hlt | hge
  · have h2 := h1 (i + 1) hlt
    refine Nat.le_trans ?_ h2
    rw [← pairsTo_row]
    obtain ⟨d, hd⟩ : ∃ d, m.F = k + d := ⟨m.F - k, by omega⟩
    unfold pairsTo
    generalize ((List.range i).flatMap fun i => ((List.range m.F).filter fun k => decide (i < k) && adjB m i k).map fun k => (i, k)) = f
    rw [hd, List.range_add, List.filter_append, List.map_append, List.length_append, List.length_append, List.length_append]
    omega
  · have e : i = m.F := by omega
    have e2 := h0 e
    subst e e2
    exact Nat.le_refl _
theorem pairA_len : ∀ (L : List (Nat × Nat)) (p : Nat), (pairA m t p L).length = 5 * L.length
  | [], _ => rfl
  | (a, b) :: L, p => by
    simp only [pairA, List.length_cons, pairA_len L]
    omega
theorem cellA_len (h4 : ∀ i, (m.ar i).length ≤ 4) : (cellA m T t strict i).length ≤ 6 := by
  have := h4 i
  unfold cellA
  split
  · simp
  · split <;> simp <;> omega
theorem celT_len (h4 : ∀ i, (m.ar i).length ≤ 4) : ∀ i, (celT m sl T strict t i).length ≤ (layT m sl T strict t).length + 6 * i
  | 0 => by rw [celT_zero]; omega
  | i + 1 => by
    have h1 := celT_len h4 i
    have h2 := cellA_len (T := T) (t := t) (i := i) (strict := strict) h4
    rw [celT_succ, List.length_append]
    omega
theorem layT_len (h4 : ∀ i, (m.ar i).length ≤ 4) (hF : m.F ≤ 240) (hp : m.pl.length ≤ 480) : ∀ t, (layT m sl T strict t).length ≤ sl.length + 4000 * t
  | 0 => by rw [layT_zero, List.length_map]; omega
  | t + 1 => by
    have h1 := layT_len h4 hF hp t
    have h2 := celT_len (sl := sl) (T := T) (t := t) (strict := strict) h4 m.F
    rw [layT_succ, List.length_append]
    split
    · simp only [List.length_nil]; omega
    · rw [pairA_len]; omega
theorem parT_len (h4 : ∀ i, (m.ar i).length ≤ 4) (hF : m.F ≤ 240) (hp : m.pl.length ≤ 480) : (parT m sl T strict t i k).length ≤ sl.length + 4000 * t + 1440 + 5 * (pairsTo m i k).length := by
  have h1 := layT_len (sl := sl) (T := T) (strict := strict) h4 hF hp t
  have h2 := celT_len (sl := sl) (T := T) (t := t) (strict := strict) h4 m.F
  unfold parT
  rw [List.length_append, pairA_len]
  omega
theorem endT_len (h4 : ∀ i, (m.ar i).length ≤ 4) (hF : m.F ≤ 240) (hp : m.pl.length ≤ 480) : (endT m sl gl T strict i).length ≤ sl.length + 4000 * (T + 1) + i := by
  have h1 := layT_len (sl := sl) (T := T) (strict := strict) h4 hF hp (T + 1)
  unfold endT
  rw [List.length_append, List.length_map, List.length_range]
  omega
end

end Go.Proofs.YtlkhecdlmbhiaaaDoor

namespace Go.Proofs.YtlkhecdlmbhiaaaDoor
set_option maxRecDepth 4096

section
variable {W H : Int} {C : ByteArray}
theorem num_count {c : Int} (h : freeV W H C c = true) : (freeL W H C).countP (fun x => decide (x < c)) = numG W H C c := asc_count free_up (free_mem h)
theorem cell_in {x y : Int} (h : freeV W H C (cellAtV W H C x y) = true) : cellAtV W H C x y = y * W + x ∧ 0 ≤ x ∧ x < W := by
  by_cases hr : gok W H C = true ∧ (0 ≤ x ∧ x < W) ∧ (0 ≤ y ∧ y < H)
  · exact ⟨cellAtV_yes hr, hr.2.1⟩
  · rw [cellAtV_no hr] at h
    unfold freeV cellOk at h
    simp at h
theorem around_up (W H : Int) (C : ByteArray) (c : Int) : (aroundL W H C c).Pairwise (· < ·) := by
  unfold aroundL nbrs
  split
  · rw [List.pairwise_filter]
    have k1 : ∀ x x' y : Int, x < x' → freeV W H C (cellAtV W H C x y) = true → freeV W H C (cellAtV W H C x' y) = true → cellAtV W H C x y < cellAtV W H C x' y := by
      intro x x' y hlt h1 h2
      rw [(cell_in h1).1, (cell_in h2).1]
      omega
    have k2 : ∀ x x' y y' : Int, y < y' → freeV W H C (cellAtV W H C x y) = true → freeV W H C (cellAtV W H C x' y') = true → cellAtV W H C x y < cellAtV W H C x' y' := by
      intro x x' y y' hlt h1 h2
      obtain ⟨e1, a1, a2⟩ := cell_in h1
      obtain ⟨e2, b1, b2⟩ := cell_in h2
      rw [e1, e2]
      have h3 : (y + 1) * W ≤ y' * W := Int.mul_le_mul_of_nonneg_right (by omega) (by omega)
      rw [Int.add_mul] at h3
      omega
    refine List.pairwise_cons.2 ⟨fun d hd => ?_, List.pairwise_cons.2 ⟨fun d hd => ?_, List.pairwise_cons.2 ⟨fun d hd => ?_, List.pairwise_cons.2 ⟨(fun d hd => by cases hd), List.Pairwise.nil⟩⟩⟩⟩
    · simp only [List.mem_cons, List.not_mem_nil, or_false] at hd
      rcases hd with rfl | rfl | rfl
      · exact k2 _ _ _ _ (by omega)
      · exact k2 _ _ _ _ (by omega)
      · exact k2 _ _ _ _ (by omega)
    · simp only [List.mem_cons, List.not_mem_nil, or_false] at hd
      rcases hd with rfl | rfl
      · exact k1 _ _ _ (by omega)
      · exact k2 _ _ _ _ (by omega)
    · simp only [List.mem_cons, List.not_mem_nil, or_false] at hd
      subst hd
      exact k2 _ _ _ _ (by omega)
  · exact List.Pairwise.nil
theorem num_up {c d : Int} (hc : freeV W H C c = true) (hd : freeV W H C d = true) : numG W H C c < numG W H C d ↔ c < d := by
  have := cellG_lt (numG_lt hc) (numG_lt hd)
  rw [cellG_num hc, cellG_num hd] at this
  exact this.symm
theorem ar_up (i : Nat) : ((mapG W H C).ar i).Pairwise (· < ·) := by
  unfold mapG
  rw [List.pairwise_map]
  refine List.Pairwise.imp_of_mem (fun {a b} ha hb h => ?_) (around_up W H C _)
  exact (num_up (around_free ha).2 (around_free hb).2).2 h
/-- The greater ones beside a cell, as the program lists them. -/
theorem ar_pairs (i : Nat) : ((List.range (mapG W H C).F).filter fun k => decide (i < k) && adjB (mapG W H C) i k) = ((mapG W H C).ar i).filter fun k => decide (i < k) := by
  refine asc_same (List.Pairwise.filter _ List.pairwise_lt_range) (List.Pairwise.filter _ (ar_up i)) fun k => ?_
  simp only [List.mem_filter, List.mem_range, Bool.and_eq_true, decide_eq_true_eq]
  unfold adjB
  rw [decide_eq_true_eq]
  exact ⟨fun h => ⟨h.2.2, h.2.1⟩, fun h => ⟨(mem_ar.1 h.1).2.1, h.2, h.1⟩⟩
end
/-- The pairs of the first i cells. -/
def plTo (m : MapD) (i : Nat) : List (Nat × Nat) := (List.range i).flatMap fun i => ((m.ar i).filter fun k => decide (i < k)).map fun k => (i, k)
theorem plTo_succ (m : MapD) (i : Nat) : plTo m (i + 1) = plTo m i ++ ((m.ar i).filter fun k => decide (i < k)).map fun k => (i, k) := by
  unfold plTo
  rw [List.range_succ, List.flatMap_append]
  simp
theorem plTo_all (W H : Int) (C : ByteArray) : plTo (mapG W H C) (mapG W H C).F = (mapG W H C).pl := by
  unfold plTo MapD.pl
  congr 1
  funext i
  rw [ar_pairs]

end Go.Proofs.YtlkhecdlmbhiaaaDoor

