/-
  Nets: their arcs as a list, in memory; which nets are right. Plain facts; no statement is proved here.
-/
import Derived.Test.YtobflidianlomaaInts
import Derived.Deep.QuietTactic
namespace Go.Proofs.Ytobflidianlomaa
set_option maxRecDepth 4096
open Go.ChangeShapes Go.WideShapes Go.ChangeAt Go.RowKit

/-- An arc. -/
structure ArcD where
  f : Int
  t : Int
  r : Int
  c : Int
def arcC (x : ArcD) : List Value := [.int .i64 x.f, .int .i64 x.t, .int .i64 x.r, .int .i64 x.c]
def arcV (x : ArcD) : Value := .agg #[.int .i64 x.f, .int .i64 x.t, .int .i64 x.r, .int .i64 x.c]
def netV (N : Int) (v : Value) : Value := .agg #[.int .i64 N, v]

/-- A list of arcs that lies in memory: nil or empty, or at the head of a block. -/
def Arcs (w : World) (v : Value) (A : List ArcD) : Prop :=
  (A = [] ∧ ∃ a c, v = .slice a 0 c) ∨ ∃ g c, v = .slice (some ⟨g, 0, none⟩) A.length c ∧ g < w.heap.size ∧ ∀ (j : Nat) x, A[j]? = some x →
    w.cell? ⟨g, j * 4, none⟩ = some (.int .i64 x.f) ∧ w.cell? ⟨g, j * 4 + 1, none⟩ = some (.int .i64 x.t) ∧ w.cell? ⟨g, j * 4 + 2, none⟩ = some (.int .i64 x.r) ∧ w.cell? ⟨g, j * 4 + 3, none⟩ = some (.int .i64 x.c)
theorem arcs_form {w : World} {v : Value} {A : List ArcD} (h : Arcs w v A) : ∃ a c, v = .slice a A.length c ∧ (A.length = 0 ∨ ∃ g, a = some ⟨g, 0, none⟩ ∧ g < w.heap.size ∧ ∀ (j : Nat) x, A[j]? = some x →
    w.cell? ⟨g, j * 4, none⟩ = some (.int .i64 x.f) ∧ w.cell? ⟨g, j * 4 + 1, none⟩ = some (.int .i64 x.t) ∧ w.cell? ⟨g, j * 4 + 2, none⟩ = some (.int .i64 x.r) ∧ w.cell? ⟨g, j * 4 + 3, none⟩ = some (.int .i64 x.c)) := by
  rcases h with ⟨rfl, a, c, rfl⟩ | ⟨g, c, rfl, hg, hc⟩
  · exact ⟨a, c, rfl, .inl rfl⟩
  · exact ⟨_, c, rfl, .inr ⟨g, rfl, hg, hc⟩⟩
theorem arcs_on {w w1 : World} {v : Value} {A : List ArcD} (h : Arcs w v A) (hb : Below w.heap.size w w1) : Arcs w1 v A := by
  rcases h with h | ⟨g, c, rfl, hg, hc⟩
  · exact .inl h
  · refine .inr ⟨g, c, rfl, Nat.lt_of_lt_of_le hg hb.size, fun j x hx => ?_⟩
    obtain ⟨h1, h2, h3, h4⟩ := hc j x hx
    exact ⟨(hb.cell (p := ⟨g, _, none⟩) hg).trans h1, (hb.cell (p := ⟨g, _, none⟩) hg).trans h2, (hb.cell (p := ⟨g, _, none⟩) hg).trans h3, (hb.cell (p := ⟨g, _, none⟩) hg).trans h4⟩

def inV (x lo hi : Int) : Bool := decide (lo ≤ x) && decide (x ≤ hi)
def arcOk (N : Int) (x : ArcD) : Bool := inV x.f 0 (N - 1) && (inV x.t 0 (N - 1) && (!decide (x.f = x.t) && (inV x.r 0 20 && inV x.c 0 100)))
def netOkV (N : Int) (A : List ArcD) : Bool := inV N 2 1500 && (decide (A.length ≤ 3200) && A.all (arcOk N))
theorem inV_iff {x lo hi : Int} : inV x lo hi = true ↔ lo ≤ x ∧ x ≤ hi := by
  unfold inV
  rw [Bool.and_eq_true, decide_eq_true_eq, decide_eq_true_eq]
theorem inV_no {x lo hi : Int} (h : inV x lo hi = false) : ¬ (lo ≤ x ∧ x ≤ hi) := fun k => by rw [inV_iff.2 k] at h; cases h

section
variable {N : Int} {A : List ArcD}
theorem netOk_out (h : netOkV N A = true) : (2 ≤ N ∧ N ≤ 1500) ∧ A.length ≤ 3200 ∧ ∀ x ∈ A, arcOk N x = true := by
  unfold netOkV at h
  simp only [Bool.and_eq_true, decide_eq_true_eq, List.all_eq_true] at h
  exact ⟨inV_iff.1 h.1, h.2.1, h.2.2⟩
theorem arcOk_out {x : ArcD} (h : arcOk N x = true) : (0 ≤ x.f ∧ x.f < N) ∧ (0 ≤ x.t ∧ x.t < N) ∧ x.f ≠ x.t ∧ (0 ≤ x.r ∧ x.r ≤ 20) ∧ (0 ≤ x.c ∧ x.c ≤ 100) := by
  unfold arcOk at h
  simp only [Bool.and_eq_true, Bool.not_eq_true', decide_eq_false_iff_not, inV_iff] at h
  exact ⟨⟨h.1.1, by omega⟩, ⟨h.2.1.1, by omega⟩, h.2.2.1, h.2.2.2.1, h.2.2.2.2⟩
/-- An arc is wrong at its first fault. -/
theorem arcOk_cases (N : Int) (x : ArcD) : arcOk N x = true ∧ (inV x.f 0 (N - 1) = true ∧ inV x.t 0 (N - 1) = true ∧ x.f ≠ x.t ∧ inV x.r 0 20 = true ∧ inV x.c 0 100 = true) ∨ arcOk N x = false ∧
    (inV x.f 0 (N - 1) = false ∨ (inV x.f 0 (N - 1) = true ∧ inV x.t 0 (N - 1) = false) ∨ (inV x.f 0 (N - 1) = true ∧ inV x.t 0 (N - 1) = true ∧ x.f = x.t) ∨
      (inV x.f 0 (N - 1) = true ∧ inV x.t 0 (N - 1) = true ∧ x.f ≠ x.t ∧ inV x.r 0 20 = false) ∨ (inV x.f 0 (N - 1) = true ∧ inV x.t 0 (N - 1) = true ∧ x.f ≠ x.t ∧ inV x.r 0 20 = true ∧ inV x.c 0 100 = false)) := by
  unfold arcOk
  cases inV x.f 0 (N - 1) <;> cases inV x.t 0 (N - 1) <;> cases inV x.r 0 20 <;> cases inV x.c 0 100 <;> by_cases e : x.f = x.t <;> simp [e]
end

/-- The net in its box. -/
theorem net_cells {w w1 : World} {N : Int} {v : Value} {t : TypeId} (h : Below (w.alloc (.cells #[.int .i64 N, v] t)).heap.size (w.alloc (.cells #[.int .i64 N, v] t)) w1) :
    w1.cell? ⟨w.heap.size, 0, none⟩ = some (.int .i64 N) ∧ w1.cell? ⟨w.heap.size, 1, none⟩ = some v := by
  refine ⟨?_, ?_⟩ <;> refine (h.cell (by simp)).trans ?_ <;> rw [cell_of_row _ _ _ _ _ _ (heap_alloc_new w _)] <;> rfl
theorem below_box {w w1 : World} {o : Obj} (h : Below (w.alloc o).heap.size (w.alloc o) w1) : Below w.heap.size w w1 := ((Below.refl _ _).alloc (Nat.le_refl _) _).trans (h.mono (by simp))
theorem next_below {a b c : World} (h : Below a.heap.size a b) (k : Below b.heap.size b c) : Below a.heap.size a c := h.trans (k.mono h.size)

theorem l01In (x lo hi : Int) (b : Bool) (HB : Hid (inV x lo hi = b)) (w : World) :
    Calls Try.prog 47 #[.int .i64 x, .int .i64 lo, .int .i64 hi] w fun e w' => e = .returned (.bool b) ∧ w = w' := by
  by_cases h1 : lo ≤ x
  · have h1' : ¬ x < lo := by omega
    by_cases h2 : x ≤ hi
    · have e : b = true := by rw [← HB.out]; exact inV_iff.2 ⟨h1, h2⟩
      subst e
      have h2' : ¬ hi < x := by omega
      go_enter Try.func47, Try.ntmps47
      go_wp2
      go_ret
      exact ⟨rfl, rfl⟩
    · have e : b = false := by
        rw [← HB.out]
        cases h : inV x lo hi with
        | false => rfl
        | true => exact absurd (inV_iff.1 h).2 h2
      subst e
      have h2' : hi < x := by omega
      go_enter Try.func47, Try.ntmps47
      go_wp2
      go_ret
      exact ⟨rfl, rfl⟩
  · have e : b = false := by
      rw [← HB.out]
      cases h : inV x lo hi with
      | false => rfl
      | true => exact absurd (inV_iff.1 h).1 h1
    subst e
    have h1' : x < lo := by omega
    go_enter Try.func47, Try.ntmps47
    go_wp2
    go_ret
    exact ⟨rfl, rfl⟩

end Go.Proofs.Ytobflidianlomaa
