/-
  CONTRACT of spec.PairsOf. No law is proved here.
  What lies beside what: symmetric, never a cell itself, each once. No law is proved here.
  The pairs counted from their smaller cell are half of all neighbours. No law is proved here.
  What can be asked for: cells that are free and in ascending order; the number of a cell's node. Plain facts; no statement is proved here.
-/
import Derived.Test.YtlkhecdlmbhiaaaDoorZTN12
namespace Go.Proofs.YtlkhecdlmbhiaaaDoor
set_option maxRecDepth 4096
open Go.ChangeShapes Go.WideShapes Go.ChangeAt Go.RowKit

/-- How many neighbours the first k cells of F have. -/
noncomputable def degs (W H : Int) (C : ByteArray) (F : List Int) (k : Nat) : Nat := ((F.take k).map fun c => (aroundL W H C c).length).sum
theorem degs_succ {W H : Int} {C : ByteArray} {F : List Int} {k : Nat} {x : Int} (h : F[k]? = some x) : degs W H C F (k + 1) = degs W H C F k + (aroundL W H C x).length := by
  obtain ⟨hk, rfl⟩ := List.getElem?_eq_some_iff.1 h
  unfold degs
  rw [List.take_succ_eq_append_getElem hk, List.map_append, List.sum_append]
  simp
theorem degs_le (W H : Int) (C : ByteArray) (F : List Int) (k : Nat) : degs W H C F k ≤ 4 * k := by
  induction k with
  | zero => simp [degs]
  | succ k ih =>
    rcases h : F[k]? with _ | x
    · have hl : F.length ≤ k := List.getElem?_eq_none_iff.1 h
      have e : F.take (k + 1) = F.take k := by rw [List.take_of_length_le (by omega), List.take_of_length_le hl]
      unfold degs at ih ⊢
      rw [e]
      omega
    · rw [degs_succ h]
      have := aroundL_len W H C x
      omega
noncomputable def pairsV (W H : Int) (C : ByteArray) : Int := ((degs W H C (freeL W H C) (freeL W H C).length / 2 : Nat) : Int)

set_option maxHeartbeats 1000000 in
theorem specPairs (W H : Int) (C : ByteArray) (z : Int) (hC : C.size ≤ 1048576) (HZ : Hid (pairsV W H C = z)) (w : World) :
    Calls Tryd.prog 48 #[.agg #[.int .i64 W, .int .i64 H, .string C]] w (Made w (.int .i64 z)) := by
  obtain ⟨F, HF⟩ : ∃ F, Hid (freeL W H C = F) := ⟨_, rfl⟩
  have HZ2 : Hid (((degs W H C F F.length / 2 : Nat) : Int) = z) := Lib.hid (by rw [← HF.out]; exact HZ.out)
  have hlen : F.length ≤ 64 := by rw [← HF.out]; exact Nat.le_trans (picks_len _ _) (Nat.min_le_right _ 64)
  clear HZ
  have hB := Below.refl (w.alloc (.cells #[.int .i64 W, .int .i64 H, .string C] 25)).heap.size (w.alloc (.cells #[.int .i64 W, .int .i64 H, .string C] 25))
  go_enter Tryd.func48, Tryd.ntmps48
  go_wp2_with fail
  refine (specFreeCells W H C F hC HF _).mono ?_
  rintro e w1 ⟨v, rfl, hown, hb⟩
  replace hB := chain hB hb
  obtain ⟨av, cv, rfl, HV⟩ := ints_form (ints_of_own hown)
  have HVh := Lib.hid HV
  clear HV hown hb
  go_wp2_with fail
  go_loopw [3, 5] (fun s i wr => ∃ k : Nat, k ≤ F.length ∧ i = .int .i64 k ∧ s = .int .i64 ((degs W H C F k : Nat) : Int) ∧ Below w1.heap.size w1 wr) (fun _ i _ => F.length - (intOf i).toNat)
  case atStart => exact ⟨0, Nat.zero_le _, rfl, rfl, Below.refl _ _⟩
  case round =>
    obtain ⟨k, hk, rfl, rfl, hbe⟩ := hrel
    by_cases hlt : k < F.length
    · obtain ⟨x, hx⟩ : ∃ x, F[k]? = some x := ⟨_, List.getElem?_eq_getElem hlt⟩
      rcases HVh.out with h0 | ⟨g, rfl, hg, hc⟩
      · omega
      · have d0 : wr.cell? ⟨g, k, none⟩ = some (.int .i64 x) := (hbe.cell (p := ⟨g, k, none⟩) hg).trans (hc k x hx)
        obtain ⟨c0, c1, c2⟩ := box_cells (chain hB hbe)
        obtain ⟨L, HL⟩ : ∃ L, Hid (aroundL W H C x = L) := ⟨_, rfl⟩
        have hl4 : L.length ≤ 4 := by rw [← HL.out]; exact aroundL_len W H C x
        have HS : Hid (degs W H C F (k + 1) = degs W H C F k + L.length) := Lib.hid (by rw [degs_succ hx, HL.out])
        have hdk := degs_le W H C F k
        have hlt2 : (k : Int) < (F.length : Int) := by omega
        have e1 : IntKind.i64.wrap ((degs W H C F k : Int) + (L.length : Int)) = (degs W H C F k : Int) + (L.length : Int) := IntWalk.i64_in _ (by omega)
        have HE1 := Lib.hid e1
        clear hx hc e1
        go_wp2_with fail
        have e1 := HE1.out
        go_region_with (go_at_call 50; (with_reducible refine (specAround W H C x L hC HL _).mono ?_); rintro e w5 ⟨v5, rfl, hown5, hb5⟩; obtain ⟨a5, c5, rfl⟩ := own_form hown5; have hbe5 : Below w1.heap.size w1 w5 := chain hbe.drew hb5; clear hown5 hb5)
        all_goals
          clear e1 d0 c0 c1 c2
          go_wp2_with fail
          go_roundw
          case rel => exact ⟨k + 1, by omega, by go_num, by rw [HS.out]; exact congrArg (Value.int .i64) (Int.natCast_add _ _).symm, hbe5⟩
          case measure => simp [intOf]; omega
    · obtain rfl : k = F.length := by omega
      have hdk := degs_le W H C F F.length
      have e2 : ((degs W H C F F.length : Nat) : Int).tdiv 2 = z := by rw [Int.tdiv_eq_ediv_of_nonneg (by omega)]; exact HZ2.out
      have hzb : 0 ≤ z ∧ z ≤ 128 := by rw [← HZ2.out]; omega
      go_wp2_with fail
      go_ret
      exact ⟨rfl, box_below (chain hB hbe)⟩

end Go.Proofs.YtlkhecdlmbhiaaaDoor

namespace Go.Proofs.YtlkhecdlmbhiaaaDoor
set_option maxRecDepth 4096
open Go.ChangeShapes Go.WideShapes Go.ChangeAt Go.RowKit

theorem free_cell {W H : Int} {C : ByteArray} {c : Int} (h : freeV W H C c = true) : gok W H C = true ∧ ∃ n : Nat, c = n ∧ n < C.size := by
  unfold freeV at h
  simp only [Bool.and_eq_true] at h
  exact cellOk_out h.1

/-- A free cell lies where its column and row say. -/
theorem free_at {W H : Int} {C : ByteArray} {c : Int} (h : freeV W H C c = true) : cellAtV W H C (c.tmod W) (c.tdiv W) = c := by
  obtain ⟨hg, n, rfl, hn⟩ := free_cell h
  obtain ⟨a, b, q, m, rfl, rfl, ha1, _, _, hq, hm, hd, he, hnn⟩ := spot_of hg hn
  rw [hd, he, cellAtV_yes ⟨hg, ⟨by omega, by omega⟩, by omega, by omega⟩, ← Int.natCast_mul, ← Int.natCast_add, hnn]

/-- The column and the row of the cell in column x and row y. -/
theorem cell_spot {W H : Int} {C : ByteArray} {x y : Int} (h : freeV W H C (cellAtV W H C x y) = true) : (cellAtV W H C x y).tmod W = x ∧ (cellAtV W H C x y).tdiv W = y := by
  by_cases hr : gok W H C = true ∧ (0 ≤ x ∧ x < W) ∧ (0 ≤ y ∧ y < H)
  · rw [cellAtV_yes hr]
    obtain ⟨_, ⟨hx0, hx1⟩, hy0, hy1⟩ := hr
    have h0 : 0 ≤ y * W + x := Int.add_nonneg (Int.mul_nonneg hy0 (by omega)) hx0
    rw [Int.tmod_eq_emod_of_nonneg h0, Int.tdiv_eq_ediv_of_nonneg h0]
    refine ⟨?_, ?_⟩
    · rw [Int.add_comm, Int.add_mul_emod_self_right, Int.emod_eq_of_lt hx0 hx1]
    · rw [Int.add_comm, Int.add_mul_ediv_right _ _ (by omega), Int.ediv_eq_zero_of_lt hx0 hx1, Int.zero_add]
  · rw [cellAtV_no hr] at h
    unfold freeV cellOk at h
    simp at h

theorem mem_around {W H : Int} {C : ByteArray} {c d : Int} : d ∈ aroundL W H C c ↔ freeV W H C c = true ∧ freeV W H C d = true ∧
    (d = cellAtV W H C (c.tmod W) (c.tdiv W - 1) ∨ d = cellAtV W H C (c.tmod W - 1) (c.tdiv W) ∨ d = cellAtV W H C (c.tmod W + 1) (c.tdiv W) ∨ d = cellAtV W H C (c.tmod W) (c.tdiv W + 1)) := by
  unfold aroundL nbrs
  by_cases h : freeV W H C c = true
  · rw [if_pos h]
    simp only [List.mem_filter, List.mem_cons, List.not_mem_nil, or_false, h, true_and]
    exact And.comm
  · rw [if_neg h]
    simp [h]

theorem around_sym {W H : Int} {C : ByteArray} {c d : Int} (h : d ∈ aroundL W H C c) : c ∈ aroundL W H C d := by
  obtain ⟨hc, hd, hn⟩ := mem_around.1 h
  refine mem_around.2 ⟨hd, hc, ?_⟩
  have e := (free_at hc).symm
  rcases hn with rfl | rfl | rfl | rfl
  · obtain ⟨h1, h2⟩ := cell_spot hd
    exact .inr (.inr (.inr (by rw [h1, h2, Int.sub_add_cancel]; exact e)))
  · obtain ⟨h1, h2⟩ := cell_spot hd
    exact .inr (.inr (.inl (by rw [h1, h2, Int.sub_add_cancel]; exact e)))
  · obtain ⟨h1, h2⟩ := cell_spot hd
    exact .inr (.inl (by rw [h1, h2, Int.add_sub_cancel]; exact e))
  · obtain ⟨h1, h2⟩ := cell_spot hd
    exact .inl (by rw [h1, h2, Int.add_sub_cancel]; exact e)

theorem around_irr {W H : Int} {C : ByteArray} {c : Int} : c ∉ aroundL W H C c := by
  intro h
  obtain ⟨hc, _, hn⟩ := mem_around.1 h
  rcases hn with e | e | e | e
  all_goals
    have hf := hc
    rw [e] at hf
    obtain ⟨h1, h2⟩ := cell_spot hf
    rw [← e] at h1 h2
    omega

theorem around_nodup (W H : Int) (C : ByteArray) (c : Int) : (aroundL W H C c).Nodup := by
  unfold aroundL nbrs
  split
  · rw [List.Nodup, List.pairwise_filter]
    have key : ∀ x y x' y' : Int, (x ≠ x' ∨ y ≠ y') → freeV W H C (cellAtV W H C x y) = true → freeV W H C (cellAtV W H C x' y') = true → cellAtV W H C x y ≠ cellAtV W H C x' y' := by
      intro x y x' y' hne h1 h2 e
      obtain ⟨a1, a2⟩ := cell_spot h1
      obtain ⟨b1, b2⟩ := cell_spot h2
      rw [e] at a1 a2
      omega
    simp only [List.pairwise_cons, List.mem_cons, List.not_mem_nil, or_false, forall_eq_or_imp, forall_eq, List.Pairwise.nil, and_true, false_implies, implies_true]
    refine ⟨⟨key _ _ _ _ (by omega), key _ _ _ _ (by omega), key _ _ _ _ (by omega)⟩, ⟨key _ _ _ _ (by omega), key _ _ _ _ (by omega)⟩, key _ _ _ _ (by omega)⟩
  · exact List.Pairwise.nil

end Go.Proofs.YtlkhecdlmbhiaaaDoor

namespace Go.Proofs.YtlkhecdlmbhiaaaDoor
set_option maxRecDepth 4096
open Go.ChangeShapes Go.WideShapes Go.ChangeAt Go.RowKit

/-! ### Counting -/
theorem len_count {X F : List Int} (hX : X.Nodup) (hF : F.Nodup) (hs : ∀ d ∈ X, d ∈ F) : X.length = F.countP (fun d => decide (d ∈ X)) := by
  rw [List.countP_eq_length_filter]
  refine List.Perm.length_eq ((List.perm_ext_iff_of_nodup hX (List.Pairwise.filter _ hF)).2 fun d => ?_)
  simp only [List.mem_filter, decide_eq_true_eq]
  exact ⟨fun h => ⟨hs d h, h⟩, fun h => h.2⟩

theorem sum_congr {α : Type} {F : List α} {f g : α → Nat} (h : ∀ c ∈ F, f c = g c) : (F.map f).sum = (F.map g).sum := by
  rw [List.map_congr_left h]
theorem sum_add {α : Type} (F : List α) (f g : α → Nat) : (F.map fun c => f c + g c).sum = (F.map f).sum + (F.map g).sum := by
  induction F with
  | nil => rfl
  | cons c F ih => simp only [List.map_cons, List.sum_cons, ih]; omega
theorem sum_zero {α : Type} (F : List α) : (F.map fun _ => 0).sum = 0 := by
  induction F with
  | nil => rfl
  | cons c F ih => simp only [List.map_cons, List.sum_cons, ih]
theorem count_sum {α : Type} (F : List α) (p : α → Bool) : F.countP p = (F.map fun c => if p c = true then 1 else 0).sum := by
  induction F with
  | nil => rfl
  | cons c F ih => simp only [List.countP_cons, List.map_cons, List.sum_cons, ih]; omega
theorem sum_swap {α : Type} (G : List α) (R : α → α → Bool) : ∀ F : List α, (F.map fun c => G.countP (R c)).sum = (G.map fun d => F.countP fun c => R c d).sum := by
  intro F
  induction F with
  | nil => simp only [List.map_nil, List.sum_nil, List.countP_nil]; exact (sum_zero G).symm
  | cons c F ih =>
    rw [List.map_cons, List.sum_cons, ih, count_sum, ← sum_add]
    refine sum_congr fun d _ => ?_
    rw [List.countP_cons]
    omega

theorem count_pairs {F : List Int} {A : Int → List Int} (hF : F.Nodup) (hA : ∀ c, (A c).Nodup) (hsub : ∀ c, ∀ d ∈ A c, d ∈ F) (hsym : ∀ c d, d ∈ A c → c ∈ A d) (hirr : ∀ c, c ∉ A c) :
    (F.map fun c => (A c).length).sum = 2 * (F.map fun c => ((A c).filter fun d => decide (c < d)).length).sum := by
  have h1 : ∀ c, (A c).length = ((A c).filter fun d => decide (c < d)).length + ((A c).filter fun d => decide (d < c)).length := by
    intro c
    rw [← List.countP_eq_length_filter, ← List.countP_eq_length_filter, List.length_eq_countP_add_countP (fun d => decide (c < d))]
    congr 1
    refine List.countP_congr fun d hd => ?_
    have hne : d ≠ c := fun e => hirr c (e ▸ hd)
    simp only [decide_eq_true_eq]
    omega
  have h2 : ∀ (p : Int → Int → Bool) c, ((A c).filter (p c)).length = F.countP fun d => decide (d ∈ (A c).filter (p c)) := fun p c =>
    len_count (List.Pairwise.filter _ (hA c)) hF (fun d hd => hsub c d (List.mem_filter.1 hd).1)
  have h3 : (F.map fun c => ((A c).filter fun d => decide (d < c)).length).sum = (F.map fun c => ((A c).filter fun d => decide (c < d)).length).sum := by
    rw [sum_congr fun c _ => h2 (fun c d => decide (d < c)) c, sum_swap F fun c d => decide (d ∈ (A c).filter fun d => decide (d < c)), sum_congr fun c _ => h2 (fun c d => decide (c < d)) c]
    refine sum_congr fun c _ => List.countP_congr fun d _ => ?_
    simp only [List.mem_filter, decide_eq_true_eq]
    exact ⟨fun h => ⟨hsym _ _ h.1, h.2⟩, fun h => ⟨hsym _ _ h.1, h.2⟩⟩
  rw [sum_congr fun c _ => h1 c, sum_add, h3]
  omega

theorem freeL_nodup (W H : Int) (C : ByteArray) : (freeL W H C).Nodup := by
  unfold freeL picks
  refine List.Pairwise.map _ (fun a b h => ?_) (List.Pairwise.filter _ List.nodup_range)
  omega
theorem free_mem {W H : Int} {C : ByteArray} {c : Int} (h : freeV W H C c = true) : c ∈ freeL W H C := by
  obtain ⟨hg, n, rfl, hn⟩ := free_cell h
  have h64 : C.size ≤ 64 := by
    obtain ⟨⟨⟨h1, h2⟩, ⟨h3, h4⟩, hs⟩, _⟩ := gok_out hg
    have := mul_bd h1 h2 h3 h4
    omega
  unfold freeL picks
  refine List.mem_map.2 ⟨n, List.mem_filter.2 ⟨List.mem_range.2 (by omega), h⟩, rfl⟩

/-- How many pairs the first k cells of F count. -/
noncomputable def upV (W H : Int) (C : ByteArray) (c : Int) : Nat := ((aroundL W H C c).filter fun d => decide (c < d)).length
noncomputable def ups (W H : Int) (C : ByteArray) (F : List Int) (k : Nat) : Nat := ((F.take k).map (upV W H C)).sum
theorem ups_succ {W H : Int} {C : ByteArray} {F : List Int} {k : Nat} {x : Int} (h : F[k]? = some x) : ups W H C F (k + 1) = ups W H C F k + upV W H C x := by
  obtain ⟨hk, rfl⟩ := List.getElem?_eq_some_iff.1 h
  unfold ups
  rw [List.take_succ_eq_append_getElem hk, List.map_append, List.sum_append]
  simp
theorem upV_le (W H : Int) (C : ByteArray) (c : Int) : upV W H C c ≤ 4 := Nat.le_trans (List.length_filter_le _ _) (aroundL_len W H C c)
theorem ups_le (W H : Int) (C : ByteArray) (F : List Int) (k : Nat) : ups W H C F k ≤ 4 * k := by
  induction k with
  | zero => simp [ups]
  | succ k ih =>
    rcases h : F[k]? with _ | x
    · have hl : F.length ≤ k := List.getElem?_eq_none_iff.1 h
      have e : F.take (k + 1) = F.take k := by rw [List.take_of_length_le (by omega), List.take_of_length_le hl]
      unfold ups at ih ⊢
      rw [e]
      omega
    · rw [ups_succ h]
      have := upV_le W H C x
      omega
theorem pairs_up (W H : Int) (C : ByteArray) : pairsV W H C = ((ups W H C (freeL W H C) (freeL W H C).length : Nat) : Int) := by
  have h := count_pairs (freeL_nodup W H C) (around_nodup W H C) (fun c d hd => free_mem (mem_around.1 hd).2.1) (fun c d h => around_sym h) (fun c => around_irr)
  unfold pairsV degs ups upV
  rw [List.take_length]
  congr 1
  rw [h]
  omega

end Go.Proofs.YtlkhecdlmbhiaaaDoor

namespace Go.Proofs.YtlkhecdlmbhiaaaDoor
set_option maxRecDepth 4096

def rgB (x lo hi : Int) : Bool := decide (lo ≤ x) && decide (x ≤ hi)
theorem rgB_iff {x lo hi : Int} : rgB x lo hi = true ↔ lo ≤ x ∧ x ≤ hi := by unfold rgB; simp
section
variable {W H : Int} {C : ByteArray} {L : List Int}
/-- The first k are free and in ascending order. -/
def ascTo (W H : Int) (C : ByteArray) (L : List Int) (k : Nat) : Prop := ∀ (i : Nat) (x : Int), i < k → L[i]? = some x → freeV W H C x = true ∧ ∀ y, 0 < i → L[i - 1]? = some y → y < x
noncomputable def ascV (W H : Int) (C : ByteArray) (L : List Int) : Bool := @decide (ascTo W H C L L.length) (Classical.propDecidable _)
theorem asc_yes (h : ascTo W H C L L.length) : ascV W H C L = true := by unfold ascV; exact (@decide_eq_true_iff _ (Classical.propDecidable _)).2 h
theorem asc_iff : ascV W H C L = true ↔ ascTo W H C L L.length := by unfold ascV; exact @decide_eq_true_iff _ (Classical.propDecidable _)
theorem asc_no (h : ¬ ascTo W H C L L.length) : ascV W H C L = false := by
  cases e : ascV W H C L with
  | false => rfl
  | true => exact absurd (asc_iff.1 e) h
theorem asc_zero : ascTo W H C L 0 := fun i x h => by omega
theorem asc_bad {k : Nat} {x : Int} (hx : L[k]? = some x) (h : freeV W H C x = false ∨ ∃ y, 0 < k ∧ L[k - 1]? = some y ∧ x ≤ y) : ascV W H C L = false := by
  refine asc_no fun ha => ?_
  obtain ⟨h1, h2⟩ := ha k x (List.getElem?_eq_some_iff.1 hx).1 hx
  rcases h with h | ⟨y, h0, hy, hle⟩
  · rw [h1] at h
    cases h
  · have := h2 y h0 hy
    omega
theorem asc_more {k : Nat} {x : Int} (h : ascTo W H C L k) (hx : L[k]? = some x) (h1 : freeV W H C x = true) (h2 : ∀ y, 0 < k → L[k - 1]? = some y → y < x) : ascTo W H C L (k + 1) := fun i z hi hz => by
  by_cases e : i = k
  · subst e
    rw [hx] at hz
    cases hz
    exact ⟨h1, h2⟩
  · exact h i z (by omega) hz
/-- May it be asked? -/
noncomputable def askV (W H : Int) (C : ByteArray) (S G : List Int) (T : Int) : Bool :=
  gok W H C && (rgB S.length 1 10 && (decide (G.length ≤ S.length) && (rgB T 0 20 && (ascV W H C S && (ascV W H C G && decide (((freeL W H C).length : Int) * (T + 1) ≤ 240))))))
noncomputable def inNodeV (W H : Int) (C : ByteArray) (c t : Int) : Int := if freeV W H C c = true ∧ rgB t 0 20 = true then 3 + 2 * (t * ((freeL W H C).length : Int) + (((freeL W H C).idxOf c : Nat) : Int)) else -1
end

end Go.Proofs.YtlkhecdlmbhiaaaDoor

