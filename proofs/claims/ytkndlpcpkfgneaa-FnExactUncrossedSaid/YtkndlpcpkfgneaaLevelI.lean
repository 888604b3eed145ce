/-
  CONTRACTS of the program's evenWays and LevelWays. No law is proved here.
-/
import Derived.Test.YtkndlpcpkfgneaaPlanM
import Derived.Test.YtkndlpcpkfgneaaWithinI
import Derived.BigQuiet
import Derived.Deep.QuietTactic
namespace Go.Proofs.Ytkndlpcpkfgneaa
set_option maxRecDepth 4096
open Go.ChangeShapes Go.WideShapes Go.ChangeAt Go.RowKit

/-- A way's two values. -/
theorem way_at {w : World} {v : Value} {Ws : List (List Int)} (h : WaysAt w v Ws) {i : Nat} {L : List Int} (hL : Ws[i]? = some L) : ∃ g a c, v = .slice (some ⟨g, 0, none⟩) Ws.length c ∧ g < w.heap.size ∧ ∃ u b, u = .slice a L.length b ∧ w.cell? ⟨g, i, none⟩ = some u ∧ Ints w u L := by
  obtain ⟨a, c, rfl, h⟩ := h
  have hi := (List.getElem?_eq_some_iff.1 hL).1
  rcases h with h | ⟨g, rfl, hg, hc⟩
  · omega
  · obtain ⟨u, h1, h2⟩ := hc i L hL
    obtain ⟨a2, c2, rfl, h3⟩ := ints_form h2
    exact ⟨g, a2, c, rfl, hg, _, c2, rfl, h1, h2⟩

set_option maxHeartbeats 2000000 in
theorem implEven (v : Value) (Ws : List (List Int)) (b : Bool) (hW : Ws.length ≤ 2000000) (hT : totW Ws ≤ 2000000) (HB : Hid (evenV Ws = b)) (w : World) (hv : WaysAt w v Ws) :
    Calls Try.prog 47 #[v] w (Made w (.bool b)) := by
  obtain ⟨r, HR⟩ : ∃ r, Hid ((decide ((1 : Int) ≤ (Ws.length : Int)) && decide ((Ws.length : Int) ≤ 10)) = r) := ⟨_, rfl⟩
  have HC := Lib.hid (implRange (Ws.length : Int) 1 10 r HR)
  have HVV := Lib.hid hv
  have HTh := Lib.hid hT
  obtain ⟨av, cv, rfl, _⟩ := hv
  clear hT
  cases r with
  | false =>
    have e : b = false := by
      rw [← HB.out]
      refine even_few fun h => ?_
      have := HR.out
      rw [decide_eq_true (by omega), decide_eq_true (by omega)] at this
      cases this
    subst e
    go_enter Try.func47, Try.ntmps47
    go_wp2_with fail
    refine (HC.out _).mono ?_
    rintro e w1 ⟨rfl, rfl⟩
    go_wp2_with fail
    go_ret
    exact ⟨rfl, Below.refl _ _⟩
  | true =>
    have hN : 1 ≤ Ws.length ∧ Ws.length ≤ 10 := by
      have := HR.out
      rw [Bool.and_eq_true, decide_eq_true_eq, decide_eq_true_eq] at this
      omega
    obtain ⟨L0, hx0⟩ : ∃ L0, Ws[0]? = some L0 := ⟨_, List.getElem?_eq_getElem (by omega)⟩
    obtain ⟨g, a0, c, e, hg, u0, b0, rfl, d0, _⟩ := way_at HVV.out hx0
    injection e with e1 e2 e3
    subst e1 e3
    have HW0 := Lib.hid (wide_at hx0)
    have hL0 := totW_one hx0
    have hL02 : L0.length ≤ 2000000 := by have := HTh.out; omega
    have HN := Lib.hid hN
    have h0N : (0 : Int) < (Ws.length : Int) := by omega
    have HD0 := Lib.hid d0
    clear hx0 hL0 hN d0
    go_enter Try.func47, Try.ntmps47
    go_wp2_with fail
    refine (HC.out _).mono ?_
    rintro e w1 ⟨rfl, rfl⟩
    go_wp2_with fail
    go_loopw [11] (fun i wr => ∃ j : Nat, j ≤ Ws.length ∧ i = .int .i64 j ∧ Hid (∀ (k : Nat) L, k < j → Ws[k]? = some L → L.length = L0.length) ∧ Below w.heap.size w wr) (fun i _ => Ws.length - (intOf i).toNat)
    case atStart => exact ⟨0, Nat.zero_le _, rfl, Lib.hid fun k L hk => absurd hk (by omega), Below.refl _ _⟩
    case round =>
      obtain ⟨j, hj, rfl, HK, hB⟩ := hrel
      by_cases hlt : j < Ws.length
      · have hlt2 : (j : Int) < (Ws.length : Int) := by omega
        obtain ⟨L, hx⟩ : ∃ L, Ws[j]? = some L := ⟨_, List.getElem?_eq_getElem hlt⟩
        obtain ⟨_, au, _, e, _, u, bu, rfl, d1, _⟩ := way_at HVV.out hx
        injection e with e1 e2 e3
        injection e1 with e1
        injection e1 with e1
        subst e1
        replace d1 := (hB.cell (p := ⟨g, j, none⟩) hg).trans d1
        have d0 := (hB.cell (p := ⟨g, 0, none⟩) hg).trans HD0.out
        have hLb := totW_one hx
        have hLb2 : L.length ≤ 2000000 := by have := HTh.out; omega
        have HX := Lib.hid hx
        have hb1 := (Below.refl wr.heap.size wr).alloc (Nat.le_refl _) (.cells #[.slice au L.length bu] 39)
        have HBW := Lib.hid (hB.trans (hb1.mono hB.size))
        have d2 : (wr.alloc (.cells #[.slice au L.length bu] 39)).cell? ⟨wr.heap.size, 0, none⟩ = some (.slice au L.length bu) := by
          rw [cell_of_row _ _ _ _ _ _ (heap_alloc_new wr _)]; rfl
        have d3 : (wr.alloc (.cells #[.slice au L.length bu] 39)).cell? ⟨g, 0, none⟩ = some (.slice a0 L0.length b0) := (HBW.out.cell (p := ⟨g, 0, none⟩) hg).trans HD0.out
        clear hx hLb e2 e3 hB hb1 d0
        by_cases hlen : L.length = L0.length
        · have hln : ((L.length : Int) != (L0.length : Int)) = false := by rw [bne_eq_false_iff_eq]; omega
          have HLN := Lib.hid hlen
          clear hlen
          go_wp2
          go_quiet (fail)
          go_wp2
          go_roundw
          case rel => exact ⟨j + 1, by omega, by go_num, Lib.hid fun k M hk hM => (by
            rcases Nat.lt_succ_iff_lt_or_eq.1 hk with h | h
            · exact HK.out k M h hM
            · rw [h, HX.out] at hM
              cases hM
              exact HLN.out), (by first | exact HBW.out | exact below_drewN HBW.out _)⟩
          case measure => simp [intOf]; omega
        · have hln : ((L.length : Int) != (L0.length : Int)) = true := by rw [bne_iff_ne]; omega
          have e : b = false := by
            rw [← HB.out]
            exact even_no HX.out (by rw [HW0.out]; exact hlen)
          subst e
          clear hlen
          go_wp2
          go_quiet (fail)
          go_wp2
          go_ret
          exact ⟨rfl, (by first | exact HBW.out | exact below_drewN HBW.out _)⟩
      · obtain rfl : j = Ws.length := by omega
        have hnl : ¬ (Ws.length : Int) < (Ws.length : Int) := by omega
        have e : b = true := by
          rw [← HB.out]
          exact even_iff.2 ⟨HN.out.1, HN.out.2, fun i L hL => by rw [HW0.out]; exact HK.out i L (List.getElem?_eq_some_iff.1 hL).1 hL⟩
        subst e
        go_wp2
        go_ret
        exact ⟨rfl, hB⟩

set_option maxHeartbeats 2000000 in
theorem implLevel (v : Value) (Ws : List (List Int)) (t : Int) (b : Bool) (hW : Ws.length ≤ 2000000) (hT : totW Ws ≤ 2000000) (HB : Hid (levV Ws t = b)) (w : World) (hv : WaysAt w v Ws) (_ : (Lit.int .i64 t).wf = true) :
    Calls Try.prog 29 #[v, .int .i64 t] w (Made w (.bool b)) := by
  obtain ⟨r, HR⟩ : ∃ r, Hid (evenV Ws = r) := ⟨_, rfl⟩
  have HC := Lib.hid (implEven v Ws r hW hT HR w hv)
  have HVV := Lib.hid hv
  have HTh := Lib.hid hT
  obtain ⟨av, cv, rfl, _⟩ := hv
  clear hT
  cases r with
  | false =>
    have e : b = false := by rw [← HB.out]; exact lev_even HR.out
    subst e
    go_enter Try.func29, Try.ntmps29
    go_wp2_with fail
    refine HC.out.mono ?_
    rintro e w1 ⟨rfl, hB⟩
    go_wp2_with fail
    go_ret
    exact ⟨rfl, hB⟩
  | true =>
    obtain ⟨L0, hx0⟩ : ∃ L0, Ws[0]? = some L0 := ⟨_, List.getElem?_eq_getElem (even_iff.1 HR.out).1⟩
    obtain ⟨g, a0, c, e, hg, u0, b0, rfl, d0, _⟩ := way_at HVV.out hx0
    injection e with e1 e2 e3
    subst e1 e3
    have HW0 := Lib.hid (wide_at hx0)
    have hL0 := totW_one hx0
    have hL02 : L0.length ≤ 2000000 := by have := HTh.out; omega
    have h0N : (0 : Int) < (Ws.length : Int) := by have := (even_iff.1 HR.out).1; omega
    have hwr : IntKind.i64.wrap ((L0.length : Int) - 2) = (L0.length : Int) - 2 := IntWalk.i64_in _ (by omega)
    have HP := Lib.hid (implRange t 0 ((L0.length : Int) - 2) b (Lib.hid (by
      rw [← HB.out]
      unfold levV
      rw [HR.out, HW0.out, Bool.true_and]
      congr 1
      exact decide_eq_decide.2 (by omega))))
    have HD0 := Lib.hid d0
    clear hx0 hL0 d0
    go_enter Try.func29, Try.ntmps29
    go_wp2_with fail
    refine HC.out.mono ?_
    rintro e w1 ⟨rfl, hB⟩
    have d0 := (hB.cell (p := ⟨g, 0, none⟩) hg).trans HD0.out
    go_wp2_with fail
    refine (HP.out _).mono ?_
    rintro e w2 ⟨rfl, rfl⟩
    go_wp2_with fail
    go_ret
    exact ⟨rfl, hB⟩

end Go.Proofs.Ytkndlpcpkfgneaa
