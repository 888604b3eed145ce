/-
  A row that is written, a range of blocks that is written: what a law keeps. Plain facts; no statement is proved here.
-/
import Derived.Test.YtkndlpcpkfgneaaWayRow
import Derived.Test.YtkndlpcpkfgneaaLawSt
namespace Go.Proofs.Ytkndlpcpkfgneaa
set_option maxRecDepth 4096
open Go.ChangeShapes Go.WideShapes Go.ChangeAt Go.RowKit

/-- A row that is written anew turns its own blocks alone. -/
theorem within_mark {w w' : World} {r : RowD} (hr : r.At w) (g : w.grownBy w' r.v.ownBlock) : Within r.lo r.hi w w' :=
  (Within.refl _ _ _).grown g fun k hk => ⟨(hr.own.lt k hk).1, hr.lt k hk⟩
theorem LSt.within {w w' w'' : World} {o : Obj} {K : List (Nat × Obj)} {L : List RowD} {lo hi : Nat} (h : LSt w o K L w') (g : Within lo hi w' w'') (hlo : (w.alloc o).heap.size ≤ lo) (hl : lo ≤ w'.heap.size) (hL : ∀ q ∈ L, q.hi ≤ lo ∨ hi ≤ q.lo) (hK : ∀ p ∈ K, p.1 < lo ∨ hi ≤ p.1) : LSt w o K L w'' :=
  ⟨h.below.trans (g.below hlo hl), fun p hp => (g.block p.1 (Array.getElem?_eq_some_iff.1 (h.keep p hp)).1 (hK p hp)).trans (h.keep p hp), fun q hq => g.row (h.rows q hq) (hL q hq)⟩

end Go.Proofs.Ytkndlpcpkfgneaa
