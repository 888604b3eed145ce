/-
  CONTRACTS of laws.sameArcs and laws.sameNet at two equal networks. No law is proved here.
-/
import Derived.Test.YtghhlojjjjnogaaNet
import Derived.Test.YtghhlojjjjnogaaRowO
import Derived.BigQuiet
import Derived.Deep.QuietTactic
import Derived.Laws.StructEq
namespace Go.Proofs.Ytghhlojjjjnogaa
set_option maxRecDepth 4096
open Go.ChangeShapes Go.WideShapes Go.ChangeAt Go.RowKit

theorem sameArcsT (A : List ArcD) (va vb : Value) (w : World) (hl : A.length ≤ 2000000) (ha : Arcs w va A) (hb : Arcs w vb A) :
    Calls Try.prog 43 #[va, vb] w (Made w (.bool true)) := by
  obtain ⟨aa, ca, rfl, HA⟩ := arcs_form ha
  obtain ⟨ab, cb, rfl, HB⟩ := arcs_form hb
  have HAh := Lib.hid HA
  have HBh := Lib.hid HB
  have hne : ((A.length : Int) != (A.length : Int)) = false := by simp
  clear HA HB ha hb
  go_enter Try.func43, Try.ntmps43
  go_wp2_with fail
  go_loopw [5] (fun i wr => ∃ (k m : Nat), k ≤ A.length ∧ i = .int .i64 k ∧ wr = w.drewN m) (fun i _ => A.length - (intOf i).toNat)
  case atStart => exact ⟨0, 0, Nat.zero_le _, rfl, rfl⟩
  case round =>
    obtain ⟨k, m, hk, rfl, rfl⟩ := hrel
    by_cases hlt : k < A.length
    · obtain ⟨x, hx⟩ : ∃ x, A[k]? = some x := ⟨_, List.getElem?_eq_getElem hlt⟩
      rcases HAh.out with h0 | ⟨g, rfl, hgl, hc⟩
      · omega
      · rcases HBh.out with h0 | ⟨g', rfl, hgl', hc'⟩
        · omega
        · obtain ⟨d0, d1, d2, d3⟩ := hc k _ hx
          obtain ⟨e0, e1, e2, e3⟩ := hc' k _ hx
          have hlt2 : (k : Int) < (A.length : Int) := by omega
          clear hc hc' hx
          go_wp2_with fail
          go_quiet (fail)
          go_wp2_with fail
          refine ⟨⟨k + 1, m + nq, by omega, by go_num, rfl⟩, ?_⟩
          simp [intOf]
          omega
    · obtain rfl : k = A.length := by omega
      go_wp2_with fail
      go_ret
      exact ⟨rfl, below_drewN (Below.refl _ _) m⟩

theorem arcs_box {w : World} {v : Value} {A : List ArcD} (h : Arcs w v A) (o p : Obj) : Arcs ((w.alloc o).alloc p) v A :=
  arcs_on h (((Below.refl w.heap.size w).alloc (Nat.le_refl _) o).alloc (by simp) p)
theorem sameNetT (N : Int) (A : List ArcD) (va vb : Value) (w : World) (hl : A.length ≤ 2000000) (ha : Arcs w va A) (hb : Arcs w vb A) :
    Calls Try.prog 10 #[.agg #[.int .i64 N, va], .agg #[.int .i64 N, vb]] w (Made w (.bool true)) := by
  have hb0 : Below w.heap.size w ((w.alloc (.cells #[.int .i64 N, va] 26)).alloc (.cells #[.int .i64 N, vb] 26)) := ((Below.refl w.heap.size w).alloc (Nat.le_refl _) _).alloc (by simp) _
  have hA2 := arcs_box ha (.cells #[.int .i64 N, va] 26) (.cells #[.int .i64 N, vb] 26)
  have hB2 := arcs_box hb (.cells #[.int .i64 N, va] 26) (.cells #[.int .i64 N, vb] 26)
  have g0 : ((w.alloc (.cells #[.int .i64 N, va] 26)).alloc (.cells #[.int .i64 N, vb] 26)).heap[w.heap.size]? = some (.cells #[.int .i64 N, va] 26) :=
    (((Below.refl _ _).alloc (Nat.le_refl _) _).block w.heap.size (by simp)).trans (heap_alloc_new w _)
  have g1 : ((w.alloc (.cells #[.int .i64 N, va] 26)).alloc (.cells #[.int .i64 N, vb] 26)).heap[w.heap.size + 1]? = some (.cells #[.int .i64 N, vb] 26) := by
    have := heap_alloc_new (w.alloc (.cells #[.int .i64 N, va] 26)) (.cells #[.int .i64 N, vb] 26)
    rwa [World.size_alloc] at this
  have c0 : ((w.alloc (.cells #[.int .i64 N, va] 26)).alloc (.cells #[.int .i64 N, vb] 26)).cell? ⟨w.heap.size, 0, none⟩ = some (.int .i64 N) := by rw [cell_of_row _ _ _ _ _ _ g0]; rfl
  have c1 : ((w.alloc (.cells #[.int .i64 N, va] 26)).alloc (.cells #[.int .i64 N, vb] 26)).cell? ⟨w.heap.size, 1, none⟩ = some va := by rw [cell_of_row _ _ _ _ _ _ g0]; rfl
  have c2 : ((w.alloc (.cells #[.int .i64 N, va] 26)).alloc (.cells #[.int .i64 N, vb] 26)).cell? ⟨w.heap.size + 1, 0, none⟩ = some (.int .i64 N) := by rw [cell_of_row _ _ _ _ _ _ g1]; rfl
  have c3 : ((w.alloc (.cells #[.int .i64 N, va] 26)).alloc (.cells #[.int .i64 N, vb] 26)).cell? ⟨w.heap.size + 1, 1, none⟩ = some vb := by rw [cell_of_row _ _ _ _ _ _ g1]; rfl
  have HB0 := Lib.hid hb0
  have HA2 := Lib.hid hA2
  have HB2 := Lib.hid hB2
  have hNN : (N == N) = true := by simp
  clear ha hb hb0 hA2 hB2 g0 g1
  go_enter Try.func10, Try.ntmps10
  go_wp2_with (go_at_call 43; refine (sameArcsT A va vb _ hl HA2.out HB2.out).mono ?_; rintro e w3 ⟨rfl, hb⟩; have HB3 := Lib.hid (HB0.out.trans (hb.mono HB0.out.size)); clear hb)
  go_ret
  exact ⟨rfl, HB3.out⟩

end Go.Proofs.Ytghhlojjjjnogaa
