/-
  CONTRACT of spec.DrawMost: a greatest flow of the drawn network. No law is proved here.
-/
import Derived.Test.YtghhlojjjjnogaaDrawN
import Derived.Test.YtghhlojjjjnogaaSpecPush
import Derived.Test.YtghhlojjjjnogaaCutP
namespace Go.Proofs.Ytghhlojjjjnogaa
set_option maxRecDepth 4096
open Go.ChangeShapes Go.WideShapes Go.ChangeAt Go.RowKit

/-- A flow of the drawn network from which node 1 cannot be reached. -/
def dpG (N : Nat) (B : Nat → Int) : List Int := pushedV (dpA N B) (dpM N B) 1000
theorem dpG_ok (N : Nat) (B : Nat → Int) : flowOkV (dpM N B) (dpA N B) (dpG N B) = true ∧ reachedB (dpA N B) (dpG N B) 1 = false := by
  obtain ⟨hn, hA⟩ := dp_ok N B
  refine ⟨(pushed_ok hn 1000).1, push_most 1000 _ (zero_ok hn) ?_⟩
  rw [netO_zero]
  omega
set_option maxHeartbeats 4000000 in
theorem drawMost (N : Nat) (B : Nat → Int) (v : Value) (w : World) (hN : N ≤ 9000000000000000) (hc : CodeF w v N B w.heap.size) :
    Calls Try.prog 19 #[v] w fun e w' => ∃ vf, e = .returned vf ∧ Ints w' vf (dpG N B) ∧ Below w.heap.size w w' := by
  have HC := Lib.hid hc
  go_enter Try.func19, Try.ntmps19
  go_wp2_with fail
  refine (newF N B v w hN hc).mono ?_
  rintro e w1 ⟨rfl, hcur1, hb1⟩
  have hwg : w.heap.size < w1.heap.size := (Array.getElem?_eq_some_iff.1 hcur1).1
  have HB1 := Lib.hid hb1
  have HC1 := Lib.hid hcur1
  have HK1 := Lib.hid (hc.below hb1)
  have hst : (startD N B).i ≤ N := Nat.zero_le _
  clear hcur1 hb1 hc HC
  go_wp2_with fail
  refine (rightF w.heap.size N B v (startD N B) w1 hN hst HK1.out HC1.out).mono ?_
  rintro e w2 ⟨va, rfl, hown, hcur2, hg2⟩
  obtain ⟨av, cv, rfl⟩ := own_slice hown
  rw [show (rightP N B (startD N B)).1 = dpA N B from rfl] at hown ⊢
  rw [dpM_is]
  have HB2 := Lib.hid (HB1.out.grown hg2 HB1.out.size (fun j e => Nat.le_of_eq (Option.some.inj e)))
  have HA2 := Lib.hid (arcs_of_own hown)
  have hw2 := hg2.size
  clear hown hcur2 hg2 HC1 HK1 HB1
  go_wp2_with fail
  refine (specPushed (dpM N B) (dpA N B) 1000 _ (dp_ok N B).1 (by omega) _ HA2.out).mono ?_
  rintro e w3 ⟨vf, rfl, hownF, hb3⟩
  have HF3 := Lib.hid (ints_of_own hownF)
  have HB3 := Lib.hid (HB2.out.trans (hb3.mono HB2.out.size))
  clear hownF hb3 HB2 HA2
  go_wp2_with fail
  go_ret
  exact ⟨_, rfl, HF3.out, HB3.out⟩

end Go.Proofs.Ytghhlojjjjnogaa
