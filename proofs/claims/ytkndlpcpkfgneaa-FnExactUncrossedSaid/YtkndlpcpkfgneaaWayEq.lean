/-
  CONTRACTS of the laws' own helpers eqWay, eqWayS. No law is proved here.
-/
import Derived.Test.YtkndlpcpkfgneaaWayRow
import Derived.Test.YtkndlpcpkfgneaaIntsEq
import Derived.BigQuiet
import Derived.Deep.QuietTactic
import Derived.StillTailTactics
namespace Go.Proofs.Ytkndlpcpkfgneaa
set_option maxRecDepth 4096
open Go.ChangeShapes Go.WideShapes Go.ChangeAt Go.RowKit

theorem eqWay (v1 v2 : Value) (L : List Int) (w : World) (h1 : Ints w v1 L) (h2 : Ints w v2 L) (hL : L.length ≤ 2000000) :
    Calls Try.prog 24 #[.agg #[v1], .agg #[v2]] w (Made w (.bool true)) := by
  have hB := ((Below.refl w.heap.size w).alloc (Nat.le_refl _) (.cells #[v1] 39)).alloc (by simp) (.cells #[v2] 39)
  have H1 := Lib.hid (ints_on h1 hB)
  have H2 := Lib.hid (ints_on h2 hB)
  clear h1 h2
  go_enter Try.func24, Try.ntmps24
  go_wp2_with fail
  refine (eqInts v1 v2 L _ H1.out H2.out hL).mono ?_
  rintro e w3 ⟨rfl, m, rfl⟩
  go_wp2_with fail
  go_ret
  exact ⟨rfl, below_drewN hB m⟩

set_option maxHeartbeats 1000000 in
theorem eqWays (v1 v2 : Value) (Ws : List (List Int)) (w : World) (h1 : WaysAt w v1 Ws) (h2 : WaysAt w v2 Ws) (hW : Ws.length ≤ 2000000) (hL : ∀ L ∈ Ws, L.length ≤ 2000000) :
    Calls Try.prog 10 #[v1, v2] w (Made w (.bool true)) := by
  obtain ⟨a1, c1, rfl, H1⟩ := h1
  obtain ⟨a2, c2, rfl, H2⟩ := h2
  have HH1 := Lib.hid H1
  have HH2 := Lib.hid H2
  have HLh := Lib.hid hL
  clear H1 H2 hL
  go_enter Try.func10, Try.ntmps10
  go_wp2
  go_loopw [5] (fun i wr => ∃ k : Nat, k ≤ Ws.length ∧ i = .int .i64 k ∧ Below w.heap.size w wr) (fun i _ => Ws.length - (intOf i).toNat)
  case atStart => exact ⟨0, Nat.zero_le _, rfl, Below.refl _ _⟩
  case round =>
    obtain ⟨k, hk, rfl, hB⟩ := hrel
    by_cases hlt : k < Ws.length
    · obtain ⟨L, hx⟩ : ∃ L, Ws[k]? = some L := ⟨_, List.getElem?_eq_getElem hlt⟩
      rcases HH1.out with h0 | ⟨g1, rfl, hg1, hc1⟩
      · omega
      · rcases HH2.out with h0 | ⟨g2, rfl, hg2, hc2⟩
        · omega
        · obtain ⟨u1, p1, i1⟩ := hc1 k L hx
          obtain ⟨u2, p2, i2⟩ := hc2 k L hx
          have d0 := (hB.cell (p := ⟨g1, _, none⟩) hg1).trans p1
          have e0 := (hB.cell (p := ⟨g2, _, none⟩) hg2).trans p2
          have hlt2 : (k : Int) < (Ws.length : Int) := by omega
          have HB2 := Lib.hid hB.drew
          have I1 := Lib.hid (ints_on i1 hB.drew)
          have I2 := Lib.hid (ints_on i2 hB.drew)
          have hLk := HLh.out L (List.mem_of_getElem? hx)
          obtain ⟨b1, n1, rfl, _⟩ := ints_form i1
          obtain ⟨b2, n2, rfl, _⟩ := ints_form i2
          clear p1 p2 i1 i2 hc1 hc2 hx hB
          go_wp2_with fail
          go_still_tail 8, (by kernel_rfl)
          change wpList _ _ _ _ _ wr.drew
          go_wp2_with (go_at_call 24; (with_reducible refine (eqWay _ _ L _ I1.out I2.out hLk).mono ?_); rintro e w' ⟨rfl, hb⟩; have HB3 := Lib.hid (HB2.out.trans (hb.mono HB2.out.size)); clear hb)
          go_roundw
          case rel => exact ⟨k + 1, by omega, by go_num, HB3.out⟩
          case measure => simp [intOf]; omega
    · obtain rfl : k = Ws.length := by omega
      go_wp2_with fail
      go_ret
      exact ⟨rfl, hB⟩

end Go.Proofs.Ytkndlpcpkfgneaa
