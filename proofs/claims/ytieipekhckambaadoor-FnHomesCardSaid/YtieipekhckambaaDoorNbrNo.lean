/-
  The iterator of the neighbours where there are none: it never calls yield. No law is proved here.
-/
import Derived.Test.YtieipekhckambaaDoorStepFree
import Derived.Test.YtieipekhckambaaDoorSpotI
namespace Go.Proofs.YtieipekhckambaaDoor
set_option maxRecDepth 4096
open Go.ChangeShapes Go.WideShapes Go.ChangeAt Go.RowKit

theorem rowsR_no {W H : Int} {C : ByteArray} (h : gok W H C = false) : rowsR W H C = noRows := by
  unfold rowsR
  rw [if_neg (by simp [h])]
theorem rowsR_yes {a b : Nat} {C : ByteArray} (h : gok a b C = true) : rowsR a b C = rowsV C a b := by
  unfold rowsR
  rw [if_pos h]
  rfl

/-- The iterator's two captured variables. -/
def Caps (w : World) (G K : Nat) (W H : Int) (C : ByteArray) (c : Int) : Prop :=
  w.cell? ⟨G, 0, none⟩ = some (.int .i64 W) ∧ w.cell? ⟨G, 1, none⟩ = some (.int .i64 H) ∧ w.cell? ⟨G, 2, none⟩ = some (.string C) ∧ w.cell? ⟨K, 0, none⟩ = some (.int .i64 c) ∧ G < w.heap.size ∧ K < w.heap.size
theorem Caps.below {w w' : World} {G K n₀ : Nat} {W H : Int} {C : ByteArray} {c : Int} (h : Caps w G K W H C c) (hb : Below n₀ w w') (hG : G < n₀) (hK : K < n₀) : Caps w' G K W H C c :=
  ⟨(hb.cell (p := ⟨G, 0, none⟩) hG).trans h.1, (hb.cell (p := ⟨G, 1, none⟩) hG).trans h.2.1, (hb.cell (p := ⟨G, 2, none⟩) hG).trans h.2.2.1, (hb.cell (p := ⟨K, 0, none⟩) hK).trans h.2.2.2.1,
    Nat.lt_of_lt_of_le h.2.2.2.2.1 hb.size, Nat.lt_of_lt_of_le h.2.2.2.2.2 hb.size⟩
theorem Caps.later {w w' : World} {G K : Nat} {W H : Int} {C : ByteArray} {c : Int} (h : Caps w G K W H C c) (hb : Below w.heap.size w w') : Caps w' G K W H C c := h.below hb h.2.2.2.2.1 h.2.2.2.2.2

def Gone (w : World) (e : Ending) (w' : World) : Prop := (∃ v, e = .returned v) ∧ Below w.heap.size w w'

set_option maxHeartbeats 1000000 in
theorem nbr_bad (W H : Int) (C : ByteArray) (c : Int) (hC : C.size ≤ 1048576) (hg : gok W H C = false) (l G K : Nat) (w : World) (hcap : Caps w G K W H C c) :
    Calls Tryd.prog 66 #[.func (.yield l) #[] #[], .pointer (some ⟨G, 0, none⟩), .pointer (some ⟨K, 0, none⟩)] w (Gone w) := by
  have hB := Below.refl w.heap.size w
  have HC := Lib.hid hcap
  obtain ⟨c0, c1, c2, k0, _, _⟩ := hcap
  go_enter Tryd.func66, Tryd.ntmps66
  go_wp2_with (first
    | (go_at_call 54; (with_reducible refine (rowsOf W H C hC _).mono ?_); rintro e w1 ⟨rfl, hb⟩; replace hB := chain hB hb; clear hb)
    | (refine wpStoreRows W H C _ _ rfl rfl rfl rfl ?_; replace hB := chain hB (rows_in w1 (rowsR W H C)).1; obtain ⟨c0, c1, c2, k0, _, _⟩ := HC.out.later hB)
    | (go_at_call 67; (with_reducible refine (implSpotOf W H C c hC _).mono ?_); rintro e w1 ⟨rfl, hb⟩; replace hB := chain hB hb; clear hb))
  refine bodyPost_ret (results_none rfl _ _ _) rfl ?_
  exact ⟨⟨_, rfl⟩, hB⟩

/-- freeAt at the rows that rowsOf gave. -/
theorem stepFreeR (a b : Nat) (C : ByteArray) (x y : Int) (f : Bool) (hg : gok a b C = true) (HF : Hid (freeV a b C (cellAtV a b C x y) = f)) (w : World) :
    Calls Tryd.prog 68 #[.agg (rowsR a b C), .int .i64 x, .int .i64 y] w (Made w (.bool f)) := by
  rw [rowsR_yes hg]
  exact stepFree a b C x y f hg HF w

/-- A guarded load of the rows. -/
theorem wpLoadRowsG {ops : Array Oper} {rest : List Oper} {o : Oper} {a : Act} {w : World} {Q : Exit → Act → World → Prop} (W H : Int) (C : ByteArray) (x : Operand) (g : Nat) (hw : Region.wanted o (yielded ops a.tmps) = true) (ho : o.op = .load 74 x)
    (hx : a.eval x = .pointer (some ⟨g, 0, none⟩)) (hg : w.heap[g]? = some (.cells (rowsR W H C) 74 (0, 0)))
    (h : wpList Tryd.prog ops Q rest (a.put o.dst (.agg (rowsR W H C))) w) : wpList Tryd.prog ops Q (o :: rest) a w := by
  unfold wpList
  rw [if_pos hw]
  exact .inl (wp_load_row 74 x ho g hx 74 (rowsR W H C) (0, 0) _ hg Tryd.underlying74 rfl (by rw [rowsR_size]; exact rows_info) h)

theorem freeV_spot {a b : Nat} {C : ByteArray} {c : Int} (hg : gok a b C = true) (h : freeV a b C c = false) : freeV a b C (cellAtV a b C (spotX a b C c) (spotY a b C c)) = false := by
  by_cases hk : cellOk a b C c = true
  · obtain ⟨_, n, rfl, hn⟩ := cellOk_out hk
    obtain ⟨a', b', q, m, ha, hb, ha1, _, _, hq, hm, hd, he, hnn⟩ := spot_of hg hn
    obtain rfl : a = a' := by omega
    obtain rfl : b = b' := by omega
    have e : cellAtV a b C (spotX a b C n) (spotY a b C n) = (n : Int) := by
      unfold spotX spotY
      rw [if_pos hk, if_pos hk, hd, he, cellAtV_yes ⟨hg, ⟨by omega, by omega⟩, by omega, by omega⟩, ← Int.natCast_mul, ← Int.natCast_add, hnn]
    rw [e]
    exact h
  · unfold spotX spotY
    rw [if_neg hk, if_neg hk, cellAtV_no (fun h => by omega)]
    unfold freeV cellOk
    simp

set_option maxHeartbeats 1000000 in
theorem nbr_none (a b : Nat) (C : ByteArray) (c : Int) (hC : C.size ≤ 1048576) (hg : gok a b C = true) (hf : freeV a b C c = false) (l G K : Nat) (w : World) (hcap : Caps w G K a b C c) :
    Calls Tryd.prog 66 #[.func (.yield l) #[] #[], .pointer (some ⟨G, 0, none⟩), .pointer (some ⟨K, 0, none⟩)] w (Gone w) := by
  have hB := Below.refl w.heap.size w
  have HG := Lib.hid hg
  have HF := Lib.hid (freeV_spot hg hf)
  have HC := Lib.hid hcap
  obtain ⟨c0, c1, c2, k0, _, _⟩ := hcap
  clear hf
  go_enter Tryd.func66, Tryd.ntmps66
  go_wp2_with (first
    | (go_at_call 54; (with_reducible refine (rowsOf a b C hC _).mono ?_); rintro e w1 ⟨rfl, hb⟩; replace hB := chain hB hb; clear hb)
    | (refine wpStoreRows a b C _ _ rfl rfl rfl rfl ?_; have hR := (rows_in w1 (rowsR a b C)).2; replace hB := chain hB (rows_in w1 (rowsR a b C)).1; obtain ⟨c0, c1, c2, k0, _, _⟩ := HC.out.later hB)
    | (go_at_call 67; (with_reducible refine (implSpotOf a b C c hC _).mono ?_); rintro e w2 ⟨rfl, hb⟩; have hR2 := (hb.block _ (Array.getElem?_eq_some_iff.1 hR).1).trans hR; replace hB := chain hB hb; clear hb hR)
    | (refine wpLoadRowsG a b C _ w1.heap.size rfl rfl rfl hR2 ?_)
    | (go_at_call 68; (with_reducible refine (stepFreeR a b C _ _ false HG.out HF _).mono ?_); rintro e w3 ⟨rfl, hb⟩; replace hB := chain hB hb; clear hb))
  refine bodyPost_ret (results_none rfl _ _ _) rfl ?_
  exact ⟨⟨_, rfl⟩, hB⟩

end Go.Proofs.YtieipekhckambaaDoor
