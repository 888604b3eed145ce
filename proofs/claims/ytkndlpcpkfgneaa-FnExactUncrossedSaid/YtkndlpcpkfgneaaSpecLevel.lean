/-
  CONTRACT of spec.LevelWays. No law is proved here.
-/
import Derived.Test.YtkndlpcpkfgneaaLevelI
namespace Go.Proofs.Ytkndlpcpkfgneaa
set_option maxRecDepth 4096
open Go.ChangeShapes Go.WideShapes Go.ChangeAt Go.RowKit

theorem specRange (x lo hi : Int) (b : Bool) (HB : Hid ((decide (lo ≤ x) && decide (x ≤ hi)) = b)) (w : World) :
    Calls Try.prog 36 #[.int .i64 x, .int .i64 lo, .int .i64 hi] w fun e w' => e = .returned (.bool b) ∧ w = w' := by
  by_cases h1 : lo ≤ x
  · by_cases h2 : x ≤ hi
    · have e : b = true := by rw [← HB.out]; simp [h1, h2]
      subst e
      clear HB
      go_enter Try.func36, Try.ntmps36
      go_wp2
      go_ret
      exact ⟨rfl, rfl⟩
    · have e : b = false := by rw [← HB.out]; simp [h2]
      subst e
      clear HB
      go_enter Try.func36, Try.ntmps36
      go_wp2
      go_ret
      exact ⟨rfl, rfl⟩
  · have e : b = false := by rw [← HB.out]; simp [h1]
    subst e
    clear HB
    go_enter Try.func36, Try.ntmps36
    go_wp2
    go_ret
    exact ⟨rfl, rfl⟩

set_option maxHeartbeats 2000000 in
theorem specLevel (v : Value) (Ws : List (List Int)) (t : Int) (b : Bool) (hW : Ws.length ≤ 2000000) (hT : totW Ws ≤ 2000000) (HB : Hid (levV Ws t = b)) (w : World) (hv : WaysAt w v Ws) (_ : (Lit.int .i64 t).wf = true) :
    Calls Try.prog 59 #[v, .int .i64 t] w (Made w (.bool b)) := by
  obtain ⟨r, HR⟩ : ∃ r, Hid ((decide ((1 : Int) ≤ (Ws.length : Int)) && decide ((Ws.length : Int) ≤ 10)) = r) := ⟨_, rfl⟩
  have HC := Lib.hid (specRange (Ws.length : Int) 1 10 r HR)
  have HVV := Lib.hid hv
  have HTh := Lib.hid hT
  obtain ⟨av, cv, rfl, _⟩ := hv
  clear hT
  cases r with
  | false =>
    have e : b = false := by
      rw [← HB.out]
      refine lev_even (even_few fun h => ?_)
      have := HR.out
      rw [decide_eq_true (by omega), decide_eq_true (by omega)] at this
      cases this
    subst e
    go_enter Try.func59, Try.ntmps59
    go_wp2_with fail
    refine (HC.out _).mono ?_
    rintro e w1 ⟨rfl, rfl⟩
    go_wp2_with fail
    go_ret
    exact ⟨rfl, Below.refl _ _⟩
  | true =>
    have hN : 1 ≤ Ws.length ∧ Ws.length ≤ 10 := by
      have := HR.out
      rw [Bool.and_eq_true, decide_eq_true_eq, decide_eq_true_eq] at this
      omega
    obtain ⟨L0, hx0⟩ : ∃ L0, Ws[0]? = some L0 := ⟨_, List.getElem?_eq_getElem (by omega)⟩
    obtain ⟨g, a0, c, e, hg, u0, b0, rfl, d0, _⟩ := way_at HVV.out hx0
    injection e with e1 e2 e3
    subst e1 e3
    have HW0 := Lib.hid (wide_at hx0)
    have hL0 := totW_one hx0
    have hL02 : L0.length ≤ 2000000 := by have := HTh.out; omega
    have HN := Lib.hid hN
    have h0N : (0 : Int) < (Ws.length : Int) := by omega
    have hwr : IntKind.i64.wrap ((L0.length : Int) - 1) = (L0.length : Int) - 1 := IntWalk.i64_in _ (by omega)
    have HX0 := Lib.hid hx0
    clear hx0 hL0 hN
    by_cases ht0 : t < 0
    · have e : b = false := by rw [← HB.out]; exact lev_no (fun h => by omega)
      subst e
      clear HB
      go_enter Try.func59, Try.ntmps59
      go_wp2_with fail
      refine (HC.out _).mono ?_
      rintro e w1 ⟨rfl, rfl⟩
      go_wp2_with fail
      go_ret
      exact ⟨rfl, Below.refl _ _⟩
    · by_cases ht1 : (L0.length : Int) - 1 ≤ t
      · have e : b = false := by rw [← HB.out]; exact lev_no (fun h => by rw [HW0.out] at h; omega)
        subst e
        clear HB
        go_enter Try.func59, Try.ntmps59
        go_wp2_with fail
        refine (HC.out _).mono ?_
        rintro e w1 ⟨rfl, rfl⟩
        go_wp2_with fail
        go_ret
        exact ⟨rfl, Below.refl _ _⟩
      · go_enter Try.func59, Try.ntmps59
        go_wp2_with fail
        refine (HC.out _).mono ?_
        rintro e w1 ⟨rfl, rfl⟩
        go_wp2_with fail
        go_loopw [5] (fun i wr => ∃ j q : Nat, j ≤ Ws.length ∧ i = .int .i64 j ∧ Hid (∀ (k : Nat) L, k < j → Ws[k]? = some L → L.length = L0.length) ∧ wr = w.drewN q) (fun i _ => Ws.length - (intOf i).toNat)
        case atStart => exact ⟨0, 0, Nat.zero_le _, rfl, Lib.hid fun k L hk => absurd hk (by omega), rfl⟩
        case round =>
          obtain ⟨j, q, hj, rfl, HK, rfl⟩ := hrel
          by_cases hlt : j < Ws.length
          · have hlt2 : (j : Int) < (Ws.length : Int) := by omega
            obtain ⟨L, hx⟩ : ∃ L, Ws[j]? = some L := ⟨_, List.getElem?_eq_getElem hlt⟩
            obtain ⟨_, au, _, e, _, u, bu, rfl, d1, _⟩ := way_at HVV.out hx
            injection e with e1 e2 e3
            injection e1 with e1
            injection e1 with e1
            subst e1
            have hLb := totW_one hx
            have hLb2 : L.length ≤ 2000000 := by have := HTh.out; omega
            have HX := Lib.hid hx
            clear hx hLb e2 e3
            by_cases hlen : L.length = L0.length
            · have hln : ((L.length : Int) != (L0.length : Int)) = false := by rw [bne_eq_false_iff_eq]; omega
              have HLN := Lib.hid hlen
              clear hlen
              go_wp2
              go_quiet (fail)
              go_wp2
              go_roundw
              case rel => exact ⟨j + 1, _, by omega, by go_num, Lib.hid fun k M hk hM => (by
                rcases Nat.lt_succ_iff_lt_or_eq.1 hk with h | h
                · exact HK.out k M h hM
                · rw [h, HX.out] at hM
                  cases hM
                  exact HLN.out), rfl⟩
              case measure => simp [intOf]; omega
            · have hln : ((L.length : Int) != (L0.length : Int)) = true := by rw [bne_iff_ne]; omega
              have e : b = false := by
                rw [← HB.out]
                exact lev_even (even_no HX.out (by rw [HW0.out]; exact hlen))
              subst e
              clear hlen
              go_wp2
              go_quiet (fail)
              go_wp2
              go_ret
              exact ⟨rfl, below_drewN (below_drewN (Below.refl _ _) _) _⟩
          · obtain rfl : j = Ws.length := by omega
            have hnl : ¬ (Ws.length : Int) < (Ws.length : Int) := by omega
            have e : b = true := by
              rw [← HB.out]
              exact lev_yes (even_iff.2 ⟨HN.out.1, HN.out.2, fun i L hL => by rw [HW0.out]; exact HK.out i L (List.getElem?_eq_some_iff.1 hL).1 hL⟩) (by omega) (by rw [HW0.out]; omega)
            subst e
            go_wp2
            go_ret
            exact ⟨rfl, below_drewN (Below.refl _ _) _⟩

end Go.Proofs.Ytkndlpcpkfgneaa
