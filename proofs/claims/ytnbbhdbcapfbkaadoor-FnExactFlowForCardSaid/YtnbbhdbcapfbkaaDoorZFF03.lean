/-
  Plain lemmas: an argument that is a slice of ints, opened, and read again after the call. No law is proved here.
  Plain lemmas: an argument that is a slice of ways, opened. No law is proved here.
  Nets: their arcs as a list, in memory; which nets are right. Plain facts; no statement is proved here.
  Flows of a net: what goes out of each node less what comes in, size, cost, what can be reached; sums of flows. Plain facts; no statement is proved here.
-/
import Derived.Test.YtnbbhdbcapfbkaaDoorZFF02
import Derived.Test.YtnbbhdbcapfbkaaDoorZFF01
import Derived.Test.YtnbbhdbcapfbkaaDoorZFF00
import Derived.Deep.QuietTactic
namespace Go.Proofs.YtnbbhdbcapfbkaaDoor
set_option maxRecDepth 4096
open Go.ChangeShapes Go.WideShapes Go.ChangeAt Go.RowKit

section
variable {H : Type} {enc : TypeId × Value → H}

/-- The argument is read again as it was, whatever a call made behind it. -/
def AgainI (enc : TypeId × Value → H) (w : World) (v : Value) (d : DataW H) (ps : List MemPlace) : Prop :=
  ∀ (w1 : World), Below w.heap.size w w1 → ∀ sp : Nat → Bool, (∀ p ∈ ps, sp p.block = true) → DataW.Trod enc Tryd.prog w1 0 sp true 24 v d ps

theorem open_arg_ints {w : World} {r : Reach} {b0 : Nat} {v : Value} {d : DataW H} {ps : List MemPlace} (hv : Value.okWide Tryd.prog w r b0 24 v) (h : DataW.Trod enc Tryd.prog w 0 (fun _ => true) true 24 v d ps) :
    ∃ L, ArgI w v L ∧ L.length ≤ maxLen ∧ AgainI enc w v d ps := by
  obtain ⟨a0, len0, cap0, rfl⟩ := okWide_slice Tryd.underlying24 hv
  obtain ⟨fuel, hf⟩ := h
  rcases open_ints Tryd.underlying24 Tryd.underlying3 (by kernel_rfl) hf with ⟨hcs, hx⟩ | ⟨a, len, cap, zs, hcs, _, hl, hm, hz, hx, hcell, hwz⟩
  · simp [Value.cells] at hcs
    obtain ⟨rfl, rfl, rfl⟩ := hcs
    obtain ⟨rfl, rfl⟩ := Prod.mk.inj hx
    exact ⟨[], ⟨none, 0, rfl, .inl rfl⟩, Nat.zero_le _, fun w1 _ sp _ => shut_slice_nil Tryd.underlying24⟩
  · simp [Value.cells] at hcs
    obtain ⟨rfl, rfl, rfl⟩ := hcs
    obtain ⟨rfl, rfl⟩ := Prod.mk.inj hx
    simp only [if_true] at hz
    have hbl : ∀ i, (a.add i).block = a.block := fun i => by unfold Addr.add; split <;> rfl
    have hlt : ∀ i, i < zs.length → a.block < w.heap.size := fun i hi => by have := block_lt_of_cell (hcell i hi); rwa [hbl] at this
    refine ⟨zs.take len0, ⟨some a, cap0, by rw [List.length_take, Nat.min_eq_left (by omega)], ?_⟩, by rw [List.length_take]; omega, fun w1 hb sp hsp => ?_⟩
    · by_cases h0 : len0 = 0
      · left; rw [List.length_take]; omega
      · refine .inr ⟨a, rfl, hlt 0 (by omega), fun j x hx => ?_⟩
        rw [List.getElem?_take] at hx
        split at hx
        · rw [hcell j (by omega)]
          simp [List.getD, hx]
        · cases hx
    · by_cases hc0 : cap0 = 0
      · exact ⟨2, shut_ints 0 Tryd.underlying24 Tryd.underlying3 (by kernel_rfl) (Nat.zero_le _) hl hm (by split <;> omega) (fun i hi => by omega) hwz⟩
      · have hs : sp a.block = true := by
          have hin : MemPlace.cell a.block a.off ∈ MemPlace.row a zs.length := MemPlace.mem_row.2 ⟨0, by omega, rfl⟩
          exact hsp _ hin
        exact ⟨2, shut_ints 0 Tryd.underlying24 Tryd.underlying3 (by kernel_rfl) (Nat.zero_le _) hl hm (by rw [if_pos hs]; exact hz) (fun i hi => (hb.cell (p := a.add i) (by rw [hbl]; exact hlt i hi)).trans (hcell i hi)) hwz⟩
end

end Go.Proofs.YtnbbhdbcapfbkaaDoor

namespace Go.Proofs.YtnbbhdbcapfbkaaDoor
set_option maxRecDepth 4096
open Go.ChangeShapes Go.WideShapes Go.ChangeAt Go.RowKit Go.Deep Go.Joins

section
variable {H : Type} {enc : TypeId × Value → H}
theorem open_ints_cell {w : World} {n : Nat} {v : Value} {y : DataW H × List MemPlace} (h : DataW.trod enc Tryd.prog w 0 (fun _ => true) true n 24 [v] = some y) : ∃ L : List Int, ArgI w v L ∧ L.length ≤ maxLen := by
  rcases open_ints Tryd.underlying24 Tryd.underlying3 (by kernel_rfl) h with ⟨hcs, _⟩ | ⟨a, len, cap, zs, hcs, _, hl, hm, hz, _, hcell, _⟩
  · simp only [List.cons.injEq, and_true] at hcs
    subst hcs
    exact ⟨[], ⟨none, 0, rfl, .inl rfl⟩, Nat.zero_le _⟩
  · simp only [List.cons.injEq, and_true] at hcs
    subst hcs
    simp only [if_true] at hz
    have hbl : ∀ i, (a.add i).block = a.block := fun i => by unfold Addr.add; split <;> rfl
    refine ⟨zs.take len, ⟨some a, cap, by rw [List.length_take, Nat.min_eq_left (by omega)], ?_⟩, by rw [List.length_take]; omega⟩
    by_cases h0 : len = 0
    · left; rw [List.length_take]; omega
    · refine .inr ⟨a, rfl, ?_, fun j x hx => ?_⟩
      · have := block_lt_of_cell (hcell 0 (by omega))
        rwa [hbl] at this
      · rw [List.getElem?_take] at hx
        split at hx
        · rw [hcell j (by omega)]
          simp [List.getD, hx]
        · cases hx
theorem open_arg_ways {w : World} {r : Reach} {b0 : Nat} {v : Value} {d : DataW H} {ps : List MemPlace} (hv : Value.okWide Tryd.prog w r b0 25 v) (h : DataW.Trod enc Tryd.prog w 0 (fun _ => true) true 25 v d ps) :
    ∃ Ws, ArgW w v Ws ∧ (Ws.length ≤ maxLen ∧ ∀ L ∈ Ws, L.length ≤ maxLen) := by
  obtain ⟨a0, len0, cap0, rfl⟩ := okWide_slice Tryd.underlying25 hv
  obtain ⟨fuel, hf⟩ := h
  rcases open_slice_fields Tryd.underlying25 Tryd.underlying42 (by kernel_rfl) (by kernel_rfl) hf with hcs | ⟨a, len, cap, hcs, hl, hm, hfl⟩
  · simp [Value.cells] at hcs
    obtain ⟨rfl, rfl, rfl⟩ := hcs
    exact ⟨[], ⟨none, 0, rfl, .inl rfl⟩, Nat.zero_le _, fun L hL => by cases hL⟩
  · simp [Value.cells] at hcs
    obtain ⟨rfl, rfl, rfl⟩ := hcs
    obtain ⟨Ws, hA, hAt⟩ := list_of (Q := fun j (L : List Int) => (∃ u, w.cell? (a.add j) = some u ∧ ArgI w u L) ∧ L.length ≤ maxLen) len0 (fun i hi => by
      obtain ⟨v0, n0, y0, c0, t0⟩ := hfl i hi 0 _ rfl
      obtain ⟨L, h1, h2⟩ := open_ints_cell t0
      exact ⟨L, ⟨v0, by simpa using c0, h1⟩, h2⟩)
    refine ⟨Ws, ⟨some a, cap0, by rw [hA], ?_⟩, by omega, fun L hL => ?_⟩
    · by_cases h0 : Ws.length = 0
      · exact .inl h0
      · obtain ⟨x, hx⟩ : ∃ x, Ws[0]? = some x := ⟨_, List.getElem?_eq_getElem (by omega)⟩
        obtain ⟨⟨u, hu, _⟩, _⟩ := hAt 0 x hx
        have hb := block_lt_of_cell hu
        rw [blk_add] at hb
        exact .inr ⟨a, rfl, hb, fun i L hL => (hAt i L hL).1⟩
    · obtain ⟨i, hi, rfl⟩ := List.getElem_of_mem hL
      exact (hAt i _ (List.getElem?_eq_getElem hi)).2
end

end Go.Proofs.YtnbbhdbcapfbkaaDoor

namespace Go.Proofs.YtnbbhdbcapfbkaaDoor
set_option maxRecDepth 4096
open Go.ChangeShapes Go.WideShapes Go.ChangeAt Go.RowKit

/-- An arc. -/
structure ArcD where
  f : Int
  t : Int
  r : Int
  c : Int
def arcC (x : ArcD) : List Value := [.int .i64 x.f, .int .i64 x.t, .int .i64 x.r, .int .i64 x.c]
def arcV (x : ArcD) : Value := .agg #[.int .i64 x.f, .int .i64 x.t, .int .i64 x.r, .int .i64 x.c]
def netV (N : Int) (v : Value) : Value := .agg #[.int .i64 N, v]

/-- A list of arcs that lies in memory: nil or empty, or at the head of a block. -/
def Arcs (w : World) (v : Value) (A : List ArcD) : Prop :=
  (A = [] ∧ ∃ a c, v = .slice a 0 c) ∨ ∃ g c, v = .slice (some ⟨g, 0, none⟩) A.length c ∧ g < w.heap.size ∧ ∀ (j : Nat) x, A[j]? = some x →
    w.cell? ⟨g, j * 4, none⟩ = some (.int .i64 x.f) ∧ w.cell? ⟨g, j * 4 + 1, none⟩ = some (.int .i64 x.t) ∧ w.cell? ⟨g, j * 4 + 2, none⟩ = some (.int .i64 x.r) ∧ w.cell? ⟨g, j * 4 + 3, none⟩ = some (.int .i64 x.c)
theorem arcs_form {w : World} {v : Value} {A : List ArcD} (h : Arcs w v A) : ∃ a c, v = .slice a A.length c ∧ (A.length = 0 ∨ ∃ g, a = some ⟨g, 0, none⟩ ∧ g < w.heap.size ∧ ∀ (j : Nat) x, A[j]? = some x →
    w.cell? ⟨g, j * 4, none⟩ = some (.int .i64 x.f) ∧ w.cell? ⟨g, j * 4 + 1, none⟩ = some (.int .i64 x.t) ∧ w.cell? ⟨g, j * 4 + 2, none⟩ = some (.int .i64 x.r) ∧ w.cell? ⟨g, j * 4 + 3, none⟩ = some (.int .i64 x.c)) := by
  rcases h with ⟨rfl, a, c, rfl⟩ | ⟨g, c, rfl, hg, hc⟩
  · exact ⟨a, c, rfl, .inl rfl⟩
  · exact ⟨_, c, rfl, .inr ⟨g, rfl, hg, hc⟩⟩
theorem arcs_on {w w1 : World} {v : Value} {A : List ArcD} (h : Arcs w v A) (hb : Below w.heap.size w w1) : Arcs w1 v A := by
  rcases h with h | ⟨g, c, rfl, hg, hc⟩
  · exact .inl h
  · refine .inr ⟨g, c, rfl, Nat.lt_of_lt_of_le hg hb.size, fun j x hx => ?_⟩
    obtain ⟨h1, h2, h3, h4⟩ := hc j x hx
    exact ⟨(hb.cell (p := ⟨g, _, none⟩) hg).trans h1, (hb.cell (p := ⟨g, _, none⟩) hg).trans h2, (hb.cell (p := ⟨g, _, none⟩) hg).trans h3, (hb.cell (p := ⟨g, _, none⟩) hg).trans h4⟩

def inV (x lo hi : Int) : Bool := decide (lo ≤ x) && decide (x ≤ hi)
def arcOk (N : Int) (x : ArcD) : Bool := inV x.f 0 (N - 1) && (inV x.t 0 (N - 1) && (!decide (x.f = x.t) && (inV x.r 0 20 && inV x.c 0 100)))
def netOkV (N : Int) (A : List ArcD) : Bool := inV N 2 1500 && (decide (A.length ≤ 3200) && A.all (arcOk N))
theorem inV_iff {x lo hi : Int} : inV x lo hi = true ↔ lo ≤ x ∧ x ≤ hi := by
  unfold inV
  rw [Bool.and_eq_true, decide_eq_true_eq, decide_eq_true_eq]
theorem inV_no {x lo hi : Int} (h : inV x lo hi = false) : ¬ (lo ≤ x ∧ x ≤ hi) := fun k => by rw [inV_iff.2 k] at h; cases h

section
variable {N : Int} {A : List ArcD}
theorem netOk_out (h : netOkV N A = true) : (2 ≤ N ∧ N ≤ 1500) ∧ A.length ≤ 3200 ∧ ∀ x ∈ A, arcOk N x = true := by
  unfold netOkV at h
  simp only [Bool.and_eq_true, decide_eq_true_eq, List.all_eq_true] at h
  exact ⟨inV_iff.1 h.1, h.2.1, h.2.2⟩
theorem arcOk_out {x : ArcD} (h : arcOk N x = true) : (0 ≤ x.f ∧ x.f < N) ∧ (0 ≤ x.t ∧ x.t < N) ∧ x.f ≠ x.t ∧ (0 ≤ x.r ∧ x.r ≤ 20) ∧ (0 ≤ x.c ∧ x.c ≤ 100) := by
  unfold arcOk at h
  simp only [Bool.and_eq_true, Bool.not_eq_true', decide_eq_false_iff_not, inV_iff] at h
  exact ⟨⟨h.1.1, by omega⟩, ⟨h.2.1.1, by omega⟩, h.2.2.1, h.2.2.2.1, h.2.2.2.2⟩
/-- An arc is wrong at its first fault. -/
theorem arcOk_cases (N : Int) (x : ArcD) : arcOk N x = true ∧ (inV x.f 0 (N - 1) = true ∧ inV x.t 0 (N - 1) = true ∧ x.f ≠ x.t ∧ inV x.r 0 20 = true ∧ inV x.c 0 100 = true) ∨ arcOk N x = false ∧
    (inV x.f 0 (N - 1) = false ∨ (inV x.f 0 (N - 1) = true ∧ inV x.t 0 (N - 1) = false) ∨ (inV x.f 0 (N - 1) = true ∧ inV x.t 0 (N - 1) = true ∧ x.f = x.t) ∨
      (inV x.f 0 (N - 1) = true ∧ inV x.t 0 (N - 1) = true ∧ x.f ≠ x.t ∧ inV x.r 0 20 = false) ∨ (inV x.f 0 (N - 1) = true ∧ inV x.t 0 (N - 1) = true ∧ x.f ≠ x.t ∧ inV x.r 0 20 = true ∧ inV x.c 0 100 = false)) := by
  unfold arcOk
  cases inV x.f 0 (N - 1) <;> cases inV x.t 0 (N - 1) <;> cases inV x.r 0 20 <;> cases inV x.c 0 100 <;> by_cases e : x.f = x.t <;> simp [e]
end

/-- The net in its box. -/
theorem net_cells {w w1 : World} {N : Int} {v : Value} {t : TypeId} (h : Below (w.alloc (.cells #[.int .i64 N, v] t)).heap.size (w.alloc (.cells #[.int .i64 N, v] t)) w1) :
    w1.cell? ⟨w.heap.size, 0, none⟩ = some (.int .i64 N) ∧ w1.cell? ⟨w.heap.size, 1, none⟩ = some v := by
  refine ⟨?_, ?_⟩ <;> refine (h.cell (by simp)).trans ?_ <;> rw [cell_of_row _ _ _ _ _ _ (heap_alloc_new w _)] <;> rfl
theorem below_box {w w1 : World} {o : Obj} (h : Below (w.alloc o).heap.size (w.alloc o) w1) : Below w.heap.size w w1 := ((Below.refl _ _).alloc (Nat.le_refl _) _).trans (h.mono (by simp))
theorem next_below {a b c : World} (h : Below a.heap.size a b) (k : Below b.heap.size b c) : Below a.heap.size a c := h.trans (k.mono h.size)

theorem l01In (x lo hi : Int) (b : Bool) (HB : Hid (inV x lo hi = b)) (w : World) :
    Calls Tryd.prog 36 #[.int .i64 x, .int .i64 lo, .int .i64 hi] w fun e w' => e = .returned (.bool b) ∧ w = w' := by
  by_cases h1 : lo ≤ x
  · have h1' : ¬ x < lo := by omega
    by_cases h2 : x ≤ hi
    · have e : b = true := by rw [← HB.out]; exact inV_iff.2 ⟨h1, h2⟩
      subst e
      have h2' : ¬ hi < x := by omega
      go_enter Tryd.func36, Tryd.ntmps36
      go_wp2
      go_ret
      exact ⟨rfl, rfl⟩
    · have e : b = false := by
        rw [← HB.out]
        cases h : inV x lo hi with
        | false => rfl
        | true => exact absurd (inV_iff.1 h).2 h2
      subst e
      have h2' : hi < x := by omega
      go_enter Tryd.func36, Tryd.ntmps36
      go_wp2
      go_ret
      exact ⟨rfl, rfl⟩
  · have e : b = false := by
      rw [← HB.out]
      cases h : inV x lo hi with
      | false => rfl
      | true => exact absurd (inV_iff.1 h).1 h1
    subst e
    have h1' : x < lo := by omega
    go_enter Tryd.func36, Tryd.ntmps36
    go_wp2
    go_ret
    exact ⟨rfl, rfl⟩

end Go.Proofs.YtnbbhdbcapfbkaaDoor

namespace Go.Proofs.YtnbbhdbcapfbkaaDoor
set_option maxRecDepth 4096

/-- What an arc with y units brings to the excess of node v. -/
def outAt (x : ArcD) (y : Int) (v : Nat) : Int := (if x.f = (v : Int) then y else 0) - (if x.t = (v : Int) then y else 0)
def netO : List (ArcD × Int) → Nat → Int
  | [], _ => 0
  | p :: P, v => outAt p.1 p.2 v + netO P v
def costO : List (ArcD × Int) → Int
  | [] => 0
  | p :: P => p.2 * p.1.c + costO P
def inRoom (p : ArcD × Int) : Bool := inV p.2 0 p.1.r
def stillO (P : List (ArcD × Int)) (n : Nat) : Bool := (List.range n).all fun v => decide (v < 2) || decide (netO P v = 0)
/-- A flow. -/
def flowOkV (N : Int) (A : List ArcD) (F : List Int) : Bool := netOkV N A && (decide (F.length = A.length) && ((A.zip F).all inRoom && stillO (A.zip F) N.toNat))
def flowSizeV (N : Int) (A : List ArcD) (F : List Int) : Int := if flowOkV N A F = true then netO (A.zip F) 0 else -1
def flowCostV (N : Int) (A : List ArcD) (F : List Int) : Int := if flowOkV N A F = true then costO (A.zip F) else -1
def addL (F G : List Int) : List Int := List.zipWith (· + ·) F G
def flowMoreL (N : Int) (A : List ArcD) (F G : List Int) : List Int := if flowOkV N A F = true ∧ flowOkV N A G = true ∧ flowOkV N A (addL F G) = true then addL F G else []

/-- What can be reached from node 0 over arcs with room left, and back over arcs with flow. -/
inductive Res (P : List (ArcD × Int)) : Int → Prop
  | src : Res P 0
  | fwd {p : ArcD × Int} : p ∈ P → Res P p.1.f → p.2 < p.1.r → Res P p.1.t
  | bwd {p : ArcD × Int} : p ∈ P → Res P p.1.t → 0 < p.2 → Res P p.1.f
noncomputable def resB (P : List (ArcD × Int)) (v : Nat) : Bool := @decide (Res P v) (Classical.propDecidable _)
theorem resB_iff {P : List (ArcD × Int)} {v : Nat} : resB P v = true ↔ Res P v := @decide_eq_true_iff _ (Classical.propDecidable _)
/-- The Booleans that ReachedBy hands back. -/
noncomputable def reachedB (A : List ArcD) (F : List Int) : Nat → Bool := resB (A.zip F)
noncomputable def reachedN (N : Int) (A : List ArcD) (F : List Int) : Nat := if flowOkV N A F = true then N.toNat else 0

section
variable {N : Int} {A : List ArcD} {F G : List Int}
theorem flowOk_out (h : flowOkV N A F = true) : netOkV N A = true ∧ F.length = A.length ∧ (∀ p ∈ A.zip F, 0 ≤ p.2 ∧ p.2 ≤ p.1.r) ∧ ∀ v : Nat, 2 ≤ v → (v : Int) < N → netO (A.zip F) v = 0 := by
  unfold flowOkV at h
  simp only [Bool.and_eq_true, decide_eq_true_eq, List.all_eq_true] at h
  obtain ⟨h1, h2, h3, h4⟩ := h
  refine ⟨h1, h2, fun p hp => inV_iff.1 (h3 p hp), fun v hv hn => ?_⟩
  unfold stillO at h4
  rw [List.all_eq_true] at h4
  have := h4 v (List.mem_range.2 (by omega))
  simp only [Bool.or_eq_true, decide_eq_true_eq] at this
  omega
theorem flowOk_mk (h1 : netOkV N A = true) (h2 : F.length = A.length) (h3 : ∀ p ∈ A.zip F, 0 ≤ p.2 ∧ p.2 ≤ p.1.r) (h4 : ∀ v : Nat, 2 ≤ v → (v : Int) < N → netO (A.zip F) v = 0) : flowOkV N A F = true := by
  unfold flowOkV stillO
  simp only [Bool.and_eq_true, decide_eq_true_eq, List.all_eq_true]
  refine ⟨h1, h2, fun p hp => inV_iff.2 (h3 p hp), fun v hv => ?_⟩
  have := List.mem_range.1 hv
  by_cases e : v < 2
  · simp [e]
  · simp [h4 v (by omega) (by omega)]

theorem netO_append (P Q : List (ArcD × Int)) (v : Nat) : netO (P ++ Q) v = netO P v + netO Q v := by
  induction P with
  | nil => simp [netO]
  | cons p P ih => simp only [List.cons_append, netO, ih]; omega
theorem costO_append (P Q : List (ArcD × Int)) : costO (P ++ Q) = costO P + costO Q := by
  induction P with
  | nil => simp [costO]
  | cons p P ih => simp only [List.cons_append, costO, ih]; omega
theorem netO_snoc {P : List (ArcD × Int)} {k : Nat} {p : ArcD × Int} (h : P[k]? = some p) (v : Nat) : netO (P.take (k + 1)) v = netO (P.take k) v + outAt p.1 p.2 v := by
  obtain ⟨hi, rfl⟩ := List.getElem?_eq_some_iff.1 h
  rw [List.take_succ_eq_append_getElem hi, netO_append]
  simp [netO]
theorem costO_snoc {P : List (ArcD × Int)} {k : Nat} {p : ArcD × Int} (h : P[k]? = some p) : costO (P.take (k + 1)) = costO (P.take k) + p.2 * p.1.c := by
  obtain ⟨hi, rfl⟩ := List.getElem?_eq_some_iff.1 h
  rw [List.take_succ_eq_append_getElem hi, costO_append]
  simp [costO]
theorem outAt_bound {x : ArcD} {y : Int} (h : 0 ≤ y ∧ y ≤ 20) (v : Nat) : -20 ≤ outAt x y v ∧ outAt x y v ≤ 20 := by
  unfold outAt
  split <;> split <;> omega
theorem netO_bound {P : List (ArcD × Int)} (h : ∀ p ∈ P, 0 ≤ p.2 ∧ p.2 ≤ 20) (v : Nat) : -20 * (P.length : Int) ≤ netO P v ∧ netO P v ≤ 20 * (P.length : Int) := by
  induction P with
  | nil => simp [netO]
  | cons p P ih =>
    have h1 := outAt_bound (x := p.1) (h p (List.mem_cons_self ..)) v
    have h2 := ih fun q hq => h q (List.mem_cons_of_mem _ hq)
    simp only [netO, List.length_cons]
    omega
theorem zip_at {k : Nat} {x : ArcD} {y : Int} (hx : A[k]? = some x) (hy : F[k]? = some y) : (A.zip F)[k]? = some (x, y) := by
  rw [List.getElem?_zip_eq_some]
  exact ⟨hx, hy⟩
theorem zip_in {p : ArcD × Int} (h : p ∈ A.zip F) : ∃ k : Nat, A[k]? = some p.1 ∧ F[k]? = some p.2 := by
  obtain ⟨k, hk, rfl⟩ := List.getElem_of_mem h
  refine ⟨k, ?_⟩
  have : (A.zip F)[k]? = some (A.zip F)[k] := List.getElem?_eq_getElem hk
  rw [List.getElem?_zip_eq_some] at this
  exact this
theorem zip_arc {p : ArcD × Int} (h : p ∈ A.zip F) : p.1 ∈ A := by
  obtain ⟨k, h1, _⟩ := zip_in h
  exact List.mem_of_getElem? h1

/-! ### sums of flows -/
theorem addL_at {k : Nat} {x y : Int} (hx : F[k]? = some x) (hy : G[k]? = some y) : (addL F G)[k]? = some (x + y) := by
  unfold addL
  rw [List.getElem?_zipWith, hx, hy]
theorem addL_len (h1 : F.length = A.length) (h2 : G.length = A.length) : (addL F G).length = A.length := by
  unfold addL
  rw [List.length_zipWith]
  omega
theorem netO_add : ∀ {A : List ArcD} {F G : List Int}, F.length = A.length → G.length = A.length → ∀ v, netO (A.zip (addL F G)) v = netO (A.zip F) v + netO (A.zip G) v
  | [], _, _, _, _, _ => by simp [netO]
  | x :: A, a :: F, b :: G, h1, h2, v => by
    have ih := netO_add (A := A) (F := F) (G := G) (by simpa using h1) (by simpa using h2) v
    unfold addL at ih ⊢
    simp only [List.zipWith_cons_cons, List.zip_cons_cons, netO, ih, outAt]
    split <;> split <;> omega
  | _ :: _, [], _, h1, _, _ => by simp at h1
  | _ :: _, _ :: _, [], _, h2, _ => by simp at h2
theorem costO_add : ∀ {A : List ArcD} {F G : List Int}, F.length = A.length → G.length = A.length → costO (A.zip (addL F G)) = costO (A.zip F) + costO (A.zip G)
  | [], _, _, _, _ => by simp [costO]
  | x :: A, a :: F, b :: G, h1, h2 => by
    have ih := costO_add (A := A) (F := F) (G := G) (by simpa using h1) (by simpa using h2)
    unfold addL at ih ⊢
    simp only [List.zipWith_cons_cons, List.zip_cons_cons, costO, ih, Int.add_mul]
    omega
  | _ :: _, [], _, h1, _ => by simp at h1
  | _ :: _, _ :: _, [], _, h2 => by simp at h2

/-! ### what can be reached -/
theorem res_in (hn : netOkV N A = true) {v : Int} (h : Res (A.zip F) v) : 0 ≤ v ∧ v < N := by
  obtain ⟨hN, _, hA⟩ := netOk_out hn
  induction h with
  | src => omega
  | fwd hp _ _ _ => exact (arcOk_out (hA _ (zip_arc hp))).2.1
  | bwd hp _ _ _ => exact (arcOk_out (hA _ (zip_arc hp))).1
/-- A set that holds node 0, holds only what can be reached, and is closed, is what can be reached. -/
theorem res_is {P : List (ArcD × Int)} {S : Int → Prop} (h0 : S 0) (hS : ∀ v, S v → Res P v) (h1 : ∀ p ∈ P, S p.1.f → p.2 < p.1.r → S p.1.t) (h2 : ∀ p ∈ P, S p.1.t → 0 < p.2 → S p.1.f) (v : Int) : S v ↔ Res P v := by
  refine ⟨hS v, fun h => ?_⟩
  induction h with
  | src => exact h0
  | fwd hp _ hr ih => exact h1 _ hp ih hr
  | bwd hp _ hr ih => exact h2 _ hp ih hr
end

end Go.Proofs.YtnbbhdbcapfbkaaDoor

