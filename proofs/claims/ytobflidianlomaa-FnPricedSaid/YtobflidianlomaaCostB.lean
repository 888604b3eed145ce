/-
  How much a flow can cost. Plain facts; no statement is proved here.
-/
import Derived.Test.YtobflidianlomaaNetM
namespace Go.Proofs.Ytobflidianlomaa
set_option maxRecDepth 4096

theorem costO_bound {P : List (ArcD × Int)} (h : ∀ p ∈ P, (0 ≤ p.2 ∧ p.2 ≤ 20) ∧ 0 ≤ p.1.c ∧ p.1.c ≤ 100) : 0 ≤ costO P ∧ costO P ≤ 2000 * (P.length : Int) := by
  induction P with
  | nil => simp [costO]
  | cons p P ih =>
    have h1 := h p (List.mem_cons_self ..)
    have h2 := ih fun q hq => h q (List.mem_cons_of_mem _ hq)
    have h3 : 0 ≤ p.2 * p.1.c := Int.mul_nonneg h1.1.1 h1.2.1
    have h4 : p.2 * p.1.c ≤ 20 * 100 := Int.mul_le_mul h1.1.2 h1.2.2 h1.2.1 (by omega)
    simp only [costO, List.length_cons]
    omega

end Go.Proofs.Ytobflidianlomaa
