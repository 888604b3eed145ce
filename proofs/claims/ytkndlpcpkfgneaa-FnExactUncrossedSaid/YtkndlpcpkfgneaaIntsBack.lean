/-
  Plain lemmas on slices of ints that a call made itself and hands back. No law is proved here.
-/
import Derived.Test.YtkndlpcpkfgneaaInts
namespace Go.Proofs.Ytkndlpcpkfgneaa
set_option maxRecDepth 4096
open Go.ChangeShapes Go.WideShapes Go.ChangeAt Go.RowKit

theorem Try.info3 : (Try.prog.info? 3).map (fun i => (i.zero, i.size, i.bytes)) = some (some (.int .i64 0), 1, 8) := by kernel_rfl

/-- The numbers below k that are picked. -/
def picks (p : Nat → Bool) (k : Nat) : List Int := ((List.range k).filter p).map fun (n : Nat) => (n : Int)
theorem picks_yes {p : Nat → Bool} {k : Nat} (h : p k = true) : picks p (k + 1) = picks p k ++ [(k : Int)] := by simp [picks, List.range_succ, h]
theorem picks_no {p : Nat → Bool} {k : Nat} (h : p k = false) : picks p (k + 1) = picks p k := by simp [picks, List.range_succ, h]
theorem picks_len (p : Nat → Bool) (k : Nat) : (picks p k).length ≤ k := by
  unfold picks
  rw [List.length_map]
  exact Nat.le_trans (List.length_filter_le _ _) (by simp)

/-- The list L came back in memory of the call's own. -/
def IntsBack (w : World) (L : List Int) (e : Ending) (w' : World) : Prop :=
  ∃ v, e = .returned v ∧ w'.ownsRow w.heap.size 3 1 v L.length (L.map (Value.int .i64)) ∧ Below w.heap.size w w'

theorem ints_one (L : List Int) : ∀ u ∈ L.map (Value.int .i64), u.oneCell' = true := by
  intro u hu
  obtain ⟨b, _, rfl⟩ := List.mem_map.1 hu
  rfl
theorem int_new (w : World) (x : Int) (t : TypeId) : ∀ j u, ([x].map (Value.int .i64))[j]? = some u → (w.alloc (.cells #[.int .i64 x] t)).cell? ((⟨w.heap.size, 0, none⟩ : Addr).add j) = some u := by
  intro j u h
  have hadd : (⟨w.heap.size, 0, none⟩ : Addr).add j = ⟨w.heap.size, j, none⟩ := by unfold Addr.add; split <;> simp_all
  rw [hadd, World.cell?_alloc_mark]
  simpa using h
theorem ints_push {w1 : World} {base : Nat} {e : TypeId} {v : Value} {L M : List Int} {x : Int} (h : w1.ownsRow base e 1 v (L.length + 1) (L.map (Value.int .i64) ++ [x].map (Value.int .i64))) (hM : M = L ++ [x]) :
    w1.ownsRow base e 1 v M.length (M.map (Value.int .i64)) := by
  subst hM
  simpa using h

theorem own_base {w : World} {B B' : Nat} {e : TypeId} {size : Nat} {v : Value} {n : Nat} {xs : List Value} (h : w.ownsRow B e size v n xs) (hB : B' ≤ B) : w.ownsRow B' e size v n xs := by
  refine ⟨h.1, ?_⟩
  rcases h.2 with h2 | ⟨g, cap, cur, hv, hg, r⟩
  · exact .inl h2
  · exact .inr ⟨g, cap, cur, hv, Nat.le_trans hB hg, r⟩

theorem made_box (w : World) (o : Obj) (e : TypeId) : ((w.alloc o).alloc (.cells #[] e)).ownsRow (w.heap.size + 1) e 1 (.slice (some ⟨w.heap.size + 1, 0, none⟩) 0 0) 0 [] := by
  have := World.ownsRow_made (base := w.heap.size + 1) (e := e) (size := 1) (w.alloc o) #[] 0 (Nat.le_of_eq (World.size_alloc _ _).symm) (by decide) rfl
  simpa using this

end Go.Proofs.Ytkndlpcpkfgneaa
