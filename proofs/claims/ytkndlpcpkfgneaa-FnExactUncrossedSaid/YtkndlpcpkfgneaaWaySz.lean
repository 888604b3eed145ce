/-
  CONTRACTS of the laws' own helpers szIntS, szWay, szWayS. No law is proved here.
-/
import Derived.Test.YtkndlpcpkfgneaaWayRow
namespace Go.Proofs.Ytkndlpcpkfgneaa
set_option maxRecDepth 4096
open Go.ChangeShapes Go.WideShapes Go.ChangeAt Go.RowKit

/-- What is left of a measure. -/
def leftV (left n : Int) : Int := if left - n < 0 then -1 else left - n
theorem szInts (a : Option Addr) (n c : Nat) (left : Int) (hn : n ≤ 9223372036854775807) (h0 : 0 ≤ left) (h1 : left ≤ 1048576) (w : World) :
    Calls Try.prog 35 #[.slice a n c, .int .i64 left] w (Quiet w (.int .i64 (leftV left n))) := by
  have hw : IntKind.i64.wrap (left - (n : Int)) = left - (n : Int) := IntWalk.i64_in _ (by omega)
  unfold leftV
  by_cases h : left - (n : Int) < 0
  · rw [if_pos h]
    go_enter Try.func35, Try.ntmps35
    go_wp2
    go_ret
    exact ⟨rfl, 0, rfl⟩
  · rw [if_neg h]
    go_enter Try.func35, Try.ntmps35
    go_wp2
    go_ret
    exact ⟨rfl, 0, rfl⟩
theorem szWay (a : Option Addr) (n c : Nat) (left : Int) (hn : n ≤ 9223372036854775807) (h0 : 0 ≤ left) (h1 : left ≤ 1048576) (w : World) :
    Calls Try.prog 17 #[.agg #[.slice a n c], .int .i64 left] w (Made w (.int .i64 (leftV left n))) := by
  have hB := (Below.refl w.heap.size w).alloc (Nat.le_refl _) (.cells #[.slice a n c] 36)
  have HH := Lib.hid (szInts a n c left hn h0 h1)
  obtain ⟨x, HX⟩ : ∃ x, Hid (leftV left n = x) := ⟨_, rfl⟩
  rw [HX.out] at HH ⊢
  by_cases h : x < 0
  · have e : x = -1 := by
      have h2 := HX.out
      unfold leftV at h2
      split at h2 <;> omega
    subst e
    go_enter Try.func17, Try.ntmps17
    go_wp2_with fail
    refine (HH.out _).mono ?_
    rintro e w3 ⟨rfl, m, rfl⟩
    go_wp2_with fail
    go_ret
    exact ⟨rfl, below_drewN hB m⟩
  · go_enter Try.func17, Try.ntmps17
    go_wp2_with fail
    refine (HH.out _).mono ?_
    rintro e w3 ⟨rfl, m, rfl⟩
    go_wp2_with fail
    go_ret
    exact ⟨rfl, below_drewN hB m⟩

/-- The measure of ways: -1 where they are too many. -/
def szV (Ws : List (List Int)) (left : Int) : Int := if Ws.length + totW Ws ≤ left then left - (Ws.length + totW Ws : Nat) else -1
set_option maxHeartbeats 1000000 in
theorem szWays (v : Value) (Ws : List (List Int)) (left : Int) (h0 : 0 ≤ left) (h1 : left ≤ 1048576) (hW : Ws.length ≤ 9223372036854775807) (hL : ∀ L ∈ Ws, L.length ≤ 9223372036854775807) (w : World) (hv : ArgW w v Ws) :
    Calls Try.prog 6 #[v, .int .i64 left] w (Made w (.int .i64 (szV Ws left))) := by
  obtain ⟨av, cv, rfl, HV⟩ := hv
  have HVh := Lib.hid HV
  have HLh := Lib.hid hL
  clear HV hL
  have hw : IntKind.i64.wrap (left - (Ws.length : Int)) = left - (Ws.length : Int) := IntWalk.i64_in _ (by omega)
  by_cases h : left - (Ws.length : Int) < 0
  · have e : szV Ws left = -1 := by
      unfold szV
      rw [if_neg (by omega)]
    rw [e]
    go_enter Try.func6, Try.ntmps6
    go_wp2_with fail
    go_ret
    exact ⟨rfl, Below.refl _ _⟩
  · obtain ⟨z, HZ⟩ : ∃ z, Hid (szV Ws left = z) := ⟨_, rfl⟩
    rw [HZ.out]
    obtain ⟨l0, hl0⟩ : ∃ l0, left - (Ws.length : Int) = l0 := ⟨_, rfl⟩
    rw [hl0] at hw h
    go_enter Try.func6, Try.ntmps6
    go_wp2_with fail
    go_loopw [1, 5] (fun l i wr => ∃ k : Nat, k ≤ Ws.length ∧ l = .int .i64 (l0 - (totW (Ws.take k) : Int)) ∧ (totW (Ws.take k) : Int) ≤ l0 ∧ i = .int .i64 k ∧ Below w.heap.size w wr) (fun _ i _ => Ws.length - (intOf i).toNat)
    case atStart => exact ⟨0, Nat.zero_le _, by rw [show totW (Ws.take 0) = 0 from rfl]; congr 1; omega, by rw [show totW (Ws.take 0) = 0 from rfl]; omega, rfl, Below.refl _ _⟩
    case round =>
      obtain ⟨k, hk, rfl, hle, rfl, hB⟩ := hrel
      by_cases hlt : k < Ws.length
      · obtain ⟨L, hx⟩ : ∃ L, Ws[k]? = some L := ⟨_, List.getElem?_eq_getElem hlt⟩
        rcases HVh.out with h2 | ⟨b, rfl, hg, hc⟩
        · omega
        · obtain ⟨u, hu, a, c, rfl, _⟩ := hc k L hx
          have d0 := (hB.cell (p := b.add k) (by rw [blk_add]; exact hg)).trans hu
          have hlt2 : (k : Int) < (Ws.length : Int) := by omega
          have hs := totW_succ hx
          have hLb := HLh.out L (List.mem_of_getElem? hx)
          obtain ⟨q, HQ⟩ : ∃ q, Hid (l0 - (totW (Ws.take k) : Int) = q) := ⟨_, rfl⟩
          rw [HQ.out]
          have hq0 : 0 ≤ q := by have := HQ.out; omega
          have hq1 : q ≤ 1048576 := by have := HQ.out; omega
          have hcase : (leftV q L.length < 0 ∧ leftV q L.length = -1 ∧ z = -1) ∨ (¬ leftV q L.length < 0 ∧ leftV q L.length = l0 - (totW (Ws.take (k + 1)) : Int) ∧ (totW (Ws.take (k + 1)) : Int) ≤ l0) := by
            have h3 := HQ.out
            have h4 := HZ.out
            unfold leftV
            by_cases e : q - (L.length : Int) < 0
            · rw [if_pos e]
              refine .inl ⟨by omega, rfl, ?_⟩
              rw [← h4]
              unfold szV
              have := totW_le Ws (k + 1)
              rw [if_neg (by omega)]
            · rw [if_neg e]
              exact .inr ⟨e, by omega, by omega⟩
          obtain ⟨y, HY⟩ : ∃ y, Hid (leftV q L.length = y) := ⟨_, rfl⟩
          have HH := Lib.hid (szWay a L.length c q hLb hq0 hq1)
          rw [HY.out] at hcase HH
          have HB := Lib.hid hB
          have HS := Lib.hid hs
          clear hu hc hx hB hs hle hl0
          rcases hcase with ⟨hy, hy2, hz⟩ | ⟨hy, hy2, hy3⟩
          · subst hz
            subst hy2
            go_wp2_with fail
            refine (HH.out _).mono ?_
            rintro e w3 ⟨rfl, hb⟩
            have HB3 := Lib.hid (HB.out.trans (hb.mono HB.out.size))
            clear hb
            go_wp2_with fail
            go_ret
            exact ⟨rfl, HB3.out⟩
          · have HY2 := Lib.hid hy2
            clear hy2
            go_wp2_with fail
            refine (HH.out _).mono ?_
            rintro e w3 ⟨rfl, hb⟩
            have HB3 := Lib.hid (HB.out.trans (hb.mono HB.out.size))
            clear hb
            go_wp2_with fail
            go_roundw
            case rel => exact ⟨k + 1, by omega, by rw [HY2.out], hy3, by go_num, HB3.out⟩
            case measure => simp [intOf]; omega
      · obtain rfl : k = Ws.length := by omega
        rw [List.take_length] at hle ⊢
        have hz : z = l0 - (totW Ws : Int) := by
          rw [← HZ.out]
          unfold szV
          rw [if_pos (by omega)]
          omega
        subst hz
        clear hle hl0
        go_wp2_with fail
        go_ret
        exact ⟨rfl, hB⟩

end Go.Proofs.Ytkndlpcpkfgneaa
