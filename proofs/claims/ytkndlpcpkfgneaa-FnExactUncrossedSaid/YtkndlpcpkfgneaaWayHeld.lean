/-
  CONTRACT of laws.heldWayS; what a law keeps while it marks ways. No law is proved here.
-/
import Derived.Test.YtkndlpcpkfgneaaWayMark
import Derived.Test.YtkndlpcpkfgneaaIntsHeld
import Derived.Test.YtkndlpcpkfgneaaWayIn
namespace Go.Proofs.Ytkndlpcpkfgneaa
set_option maxRecDepth 4096
open Go.ChangeShapes Go.WideShapes Go.ChangeAt Go.RowKit

set_option maxHeartbeats 1000000 in
theorem heldWays (v : Value) (k : Nat) (Ws : List (List Int)) (w : World) (h : WaysAt w v (numsW k Ws)) (hW : Ws.length ≤ 2000000) (hn : k + totW Ws ≤ 50000000) :
    Calls Try.prog 12 #[v, .int .i64 k] w (Made w (.int .i64 ((k + totW Ws : Nat) : Int))) := by
  obtain ⟨av, cv, rfl, HV⟩ := h
  have HVh := Lib.hid HV
  clear HV
  rw [numsW_len] at HVh ⊢
  go_enter Try.func12, Try.ntmps12
  go_wp2
  go_loopw [1, 5] (fun a i wr => ∃ j : Nat, j ≤ Ws.length ∧ a = .int .i64 ((k + totW (Ws.take j) : Nat) : Int) ∧ i = .int .i64 j ∧ Below w.heap.size w wr) (fun _ i _ => Ws.length - (intOf i).toNat)
  case atStart => exact ⟨0, Nat.zero_le _, rfl, rfl, Below.refl _ _⟩
  case round =>
    obtain ⟨j, hj, rfl, rfl, hB⟩ := hrel
    by_cases hlt : j < Ws.length
    · have hlt2 : (j : Int) < (Ws.length : Int) := by omega
      obtain ⟨L, hx⟩ : ∃ L, Ws[j]? = some L := ⟨_, List.getElem?_eq_getElem hlt⟩
      rcases HVh.out with h0 | ⟨g, rfl, hg, hc⟩
      · omega
      · obtain ⟨u, p0, hI⟩ := hc j _ (numsW_at hx)
        have d0 := (hB.cell (p := ⟨g, j, none⟩) hg).trans p0
        have ht1 := totW_succ hx
        have ht2 := totW_le Ws (j + 1)
        have hIw := ints_on hI hB
        have HH := Lib.hid (heldInts u (k + totW (Ws.take j)) L.length wr hIw (by omega))
        have hneg : ¬ (((k + totW (Ws.take j) + L.length : Nat) : Int)) < 0 := by omega
        have hnxt : k + totW (Ws.take j) + L.length = k + totW (Ws.take (j + 1)) := by omega
        obtain ⟨au, cu, hu, _⟩ := ints_form hIw
        rw [length_nums] at hu
        subst hu
        have HBB := Lib.hid hB
        obtain ⟨q, hq⟩ : ∃ q : Nat, k + totW (Ws.take j) + L.length = q := ⟨_, rfl⟩
        rw [hq] at HH hneg hnxt
        have HNX := Lib.hid hnxt
        clear p0 hc hI hIw hx ht1 ht2 hB hq hnxt
        go_wp2_with fail
        refine HH.out.mono ?_
        rintro e w3 ⟨rfl, hb⟩
        have HB3 := Lib.hid (HBB.out.trans (hb.mono HBB.out.size))
        clear hb
        go_wp2_with fail
        go_roundw
        case rel => exact ⟨j + 1, by omega, by rw [HNX.out], by go_num, HB3.out⟩
        case measure => simp [intOf]; omega
    · obtain rfl : j = Ws.length := by omega
      rw [List.take_length]
      go_wp2
      go_ret
      exact ⟨rfl, hB⟩

end Go.Proofs.Ytkndlpcpkfgneaa
