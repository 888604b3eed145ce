/-
  What Cheapest hands back; the memory in which a unit goes back along its way. No statement is proved here.
-/
import Derived.Test.YtobflidianlomaaCheapM
import Derived.Test.YtobflidianlomaaRowO
namespace Go.Proofs.Ytobflidianlomaa
set_option maxRecDepth 4096
open Go.ChangeShapes Go.WideShapes Go.ChangeAt Go.RowKit

/-- A list of numbers in memory of the call's own, a number and a Boolean came back. -/
def CheapBack (w : World) (R : List Int) (z : Int) (b : Bool) (e : Ending) (w' : World) : Prop :=
  ∃ v, e = .returned (.tuple #[v, .int .i64 z, .bool b]) ∧ w'.ownsRow w.heap.size 3 1 v R.length (R.map (Value.int .i64)) ∧ Below w.heap.size w w'
section
variable {N K : Int} {A : List ArcD} {n : Nat}
theorem cheap_no (h : cheapO N A K = none) : cheapL N A K = [] ∧ cheapC N A K = 0 ∧ cheapB N A K = false := by
  unfold cheapL cheapC cheapB
  rw [h]
  exact ⟨rfl, rfl, rfl⟩
theorem cheap_yes {F : List Int} (h : cheapO N A K = some F) : cheapL N A K = F ∧ cheapC N A K = costO (A.zip F) ∧ cheapB N A K = true := by
  unfold cheapL cheapC cheapB
  rw [h]
  exact ⟨rfl, rfl, rfl⟩
theorem cheapO_net (h : netOkV N A = false) : cheapO N A K = none := by
  unfold cheapO
  rw [if_neg (fun k => by rw [h] at k; cases k.1)]
theorem cheapO_out (h : ¬ (0 ≤ K ∧ K ≤ 16)) : cheapO N A K = none := by
  unfold cheapO
  rw [if_neg (fun k => h k.2)]
theorem cheapF_stop {k m : Nat} {F : List Int} (h : cheapF A n k = some F) (hf : ¬ farV (A.zip F) 1 < 1152921504606846976) (hm : k < m) : cheapF A n m = none := by
  cases hx : cheapF A n m with
  | none => rfl
  | some F' =>
    obtain ⟨F1, h1⟩ := cheap_down hx (show k + 1 ≤ m by omega)
    obtain ⟨F2, h2, h3, _⟩ := cheapF_succ h1
    rw [h] at h2
    cases h2
    exact absurd h3 hf
theorem cheapF_on {k : Nat} {F : List Int} (h : cheapF A n k = some F) (hf : farV (A.zip F) 1 < 1152921504606846976) : cheapF A n (k + 1) = some (nextF A F n) := by
  unfold cheapF
  rw [h]
  exact if_pos hf
end
theorem res_nil {v : Int} (h : Res [] v) : v = 0 := by
  induction h with
  | src => rfl
  | fwd hp _ _ _ => cases hp
  | bwd hp _ _ _ => cases hp
theorem arcs_pos {A : List ArcD} {F : List Int} (h : resB (A.zip F) 1 = true) : 0 < A.length := by
  cases A with
  | nil =>
    rw [List.zip_nil_left] at h
    have := res_nil (resB_iff.1 h)
    exact absurd this (by decide)
  | cons _ _ => simp
theorem own_atC {w : World} {B s n : Nat} {e : TypeId} {v : Value} {xs : List Value} (h : w.ownsRow B e s v n xs) (hn : 0 < n) : ∃ g c, v = .slice (some ⟨g, 0, none⟩) n c := by
  rcases h.2 with ⟨rfl, h0⟩ | ⟨g, cap, cur, rfl, _⟩
  · omega
  · exact ⟨_, _, rfl⟩
/-- The flow, the lengths, the next flow. -/
structure CM (w : World) (n : Nat) (v : Value) (B : Nat) (va : Value) (F : List Int) (vd : Value) (D : Nat → Int) (vn : Value) (L : Nat) (F' : List Int) (wr : World) : Prop where
  flow : wr.ownsRow (w.heap.size + 1) 3 1 va F.length (F.map (Value.int .i64))
  fl : ∀ k, va.ownBlock = some k → k < B
  dist : wr.ownsRow (w.heap.size + 1) 3 1 vd (rowO D n).length ((rowO D n).map (Value.int .i64))
  dl : ∀ k, vd.ownBlock = some k → k < B
  next : wr.ownsRow B 3 1 vn L (F'.map (Value.int .i64))
  lo : w.heap.size + 1 ≤ B
  below : Below (w.alloc (.cells #[.int .i64 (n : Int), v] 26)).heap.size (w.alloc (.cells #[.int .i64 (n : Int), v] 26)) wr
section
variable {w wr w' : World} {n B L : Nat} {v va vd vn : Value} {F F' : List Int} {D : Nat → Int}
theorem below_grownC {w w' : World} (h : Below w.heap.size w w') : w.grownBy w' none := ⟨h.os, h.tape, h.output, h.size, fun i hi _ => h.block i hi⟩
theorem ne_noneC (v : Value) : v.ownBlock = none ∨ v.ownBlock ≠ none := by cases h : v.ownBlock <;> simp
theorem CM.on (h : CM w n v B va F vd D vn L F' wr) (g : Below wr.heap.size wr w') : CM w n v B va F vd D vn L F' w' :=
  ⟨h.flow.kept (below_grownC g) (ne_noneC _), h.fl, h.dist.kept (below_grownC g) (ne_noneC _), h.dl, h.next.kept (below_grownC g) (ne_noneC _), h.lo, next_below h.below g⟩
theorem CM.set {g c : Nat} (h : CM w n v B va F vd D (.slice (some ⟨g, 0, none⟩) L c) L F' wr) (i : Nat) (y : Int) :
    CM w n v B va F vd D (.slice (some ⟨g, 0, none⟩) L c) L (F'.set i y) (wr.setCell ⟨g, i, none⟩ (.int .i64 y)) := by
  obtain ⟨h1, h2⟩ := h.next.stored i (.int .i64 y)
  rw [← List.map_set] at h1
  have hg := (h.next.lt g rfl).1
  exact ⟨h.flow.kept h2 (.inr (fun e => by have := h.fl g e; omega)), h.fl, h.dist.kept h2 (.inr (fun e => by have := h.dl g e; omega)), h.dl, h1, h.lo, h.below.grown h2 h.below.size (fun j e => by cases e; have := h.lo; rw [World.size_alloc]; omega)⟩
theorem cinv_lt {A : List ArcD} {F F' : List Int} {S : Nat → Prop} {π : Nat → Int} {u : Nat} (hk : netOkV n A = true) (hS : Feas (A.zip F) S π) (h : CInv A F u F') : u < n ∧ rkV (A.zip F) u < n := by
  obtain ⟨⟨h2, h15⟩, _, _⟩ := netOk_out hk
  obtain ⟨d, hd⟩ := (isD_res (fit_of hk) hS).1 h.w.met
  obtain ⟨k, hw⟩ := hd.1
  exact ⟨hw.lt (fit_of hk) (by omega), rk_lt (fit_of hk) (by omega) (by omega) hd⟩
theorem cinv_rk {A : List ArcD} {F F' : List Int} {S : Nat → Prop} {π : Nat → Int} {u : Nat} (hk : netOkV n A = true) (hS : Feas (A.zip F) S π) (h : CInv A F u F') (h0 : u ≠ 0) : 0 < rkV (A.zip F) u := by
  obtain ⟨⟨h2, h15⟩, _, _⟩ := netOk_out hk
  obtain ⟨d, hd⟩ := (isD_res (fit_of hk) hS).1 h.w.met
  exact Nat.pos_of_ne_zero fun e => h0 (rk_zero (fit_of hk) (by omega) (by omega) hd e)
theorem bump_set {F : List Int} {i : Nat} {y : Int} (d : Int) (h : F[i]? = some y) : bump F i d = F.set i (y + d) := by
  unfold bump
  rw [List.getD_eq_getElem?_getD, h]
  rfl
end

end Go.Proofs.Ytobflidianlomaa
