/-
  CONTRACTS of the program's evenWays and LevelWays. No law is proved here.
  CONTRACT of spec.LevelWays. No law is proved here.
  CONTRACT of spec.MeetAt. No law is proved here.
-/
import Derived.Test.YtkbfbifepaoojaaGreatDoorZPU03
import Derived.Test.YtkbfbifepaoojaaGreatDoorZPU13
import Derived.BigQuiet
import Derived.Deep.QuietTactic
namespace Go.Proofs.YtkbfbifepaoojaaGreatDoor
set_option maxRecDepth 4096
open Go.ChangeShapes Go.WideShapes Go.ChangeAt Go.RowKit

/-- A way's two values. -/
theorem way_at {w : World} {v : Value} {Ws : List (List Int)} (h : WaysAt w v Ws) {i : Nat} {L : List Int} (hL : Ws[i]? = some L) : ∃ g a c, v = .slice (some ⟨g, 0, none⟩) Ws.length c ∧ g < w.heap.size ∧ ∃ u b, u = .slice a L.length b ∧ w.cell? ⟨g, i, none⟩ = some u ∧ Ints w u L := by
  obtain ⟨a, c, rfl, h⟩ := h
  have hi := (List.getElem?_eq_some_iff.1 hL).1
  rcases h with h | ⟨g, rfl, hg, hc⟩
  · omega
  · obtain ⟨u, h1, h2⟩ := hc i L hL
    obtain ⟨a2, c2, rfl, h3⟩ := ints_form h2
    exact ⟨g, a2, c, rfl, hg, _, c2, rfl, h1, h2⟩

set_option maxHeartbeats 2000000 in
theorem implEven (v : Value) (Ws : List (List Int)) (b : Bool) (hW : Ws.length ≤ 2000000) (hT : totW Ws ≤ 2000000) (HB : Hid (evenV Ws = b)) (w : World) (hv : WaysAt w v Ws) :
    Calls Tryz.prog 40 #[v] w (Made w (.bool b)) := by
  obtain ⟨r, HR⟩ : ∃ r, Hid ((decide ((1 : Int) ≤ (Ws.length : Int)) && decide ((Ws.length : Int) ≤ 10)) = r) := ⟨_, rfl⟩
  have HC := Lib.hid (implRange (Ws.length : Int) 1 10 r HR)
  have HVV := Lib.hid hv
  have HTh := Lib.hid hT
  obtain ⟨av, cv, rfl, _⟩ := hv
  clear hT
  cases r with
  | false =>
    have e : b = false := by
      rw [← HB.out]
      refine even_few fun h => ?_
      have := HR.out
      rw [decide_eq_true (by omega), decide_eq_true (by omega)] at this
      cases this
    subst e
    go_enter Tryz.func40, Tryz.ntmps40
    go_wp2_with fail
    refine (HC.out _).mono ?_
    rintro e w1 ⟨rfl, rfl⟩
    go_wp2_with fail
    go_ret
    exact ⟨rfl, Below.refl _ _⟩
  | true =>
    have hN : 1 ≤ Ws.length ∧ Ws.length ≤ 10 := by
      have := HR.out
      rw [Bool.and_eq_true, decide_eq_true_eq, decide_eq_true_eq] at this
      omega
    obtain ⟨L0, hx0⟩ : ∃ L0, Ws[0]? = some L0 := ⟨_, List.getElem?_eq_getElem (by omega)⟩
    obtain ⟨g, a0, c, e, hg, u0, b0, rfl, d0, _⟩ := way_at HVV.out hx0
    injection e with e1 e2 e3
    subst e1 e3
    have HW0 := Lib.hid (wide_at hx0)
    have hL0 := totW_one hx0
    have hL02 : L0.length ≤ 2000000 := by have := HTh.out; omega
    have HN := Lib.hid hN
    have h0N : (0 : Int) < (Ws.length : Int) := by omega
    have HD0 := Lib.hid d0
    clear hx0 hL0 hN d0
    go_enter Tryz.func40, Tryz.ntmps40
    go_wp2_with fail
    refine (HC.out _).mono ?_
    rintro e w1 ⟨rfl, rfl⟩
    go_wp2_with fail
    go_loopw [11] (fun i wr => ∃ j : Nat, j ≤ Ws.length ∧ i = .int .i64 j ∧ Hid (∀ (k : Nat) L, k < j → Ws[k]? = some L → L.length = L0.length) ∧ Below w.heap.size w wr) (fun i _ => Ws.length - (intOf i).toNat)
    case atStart => exact ⟨0, Nat.zero_le _, rfl, Lib.hid fun k L hk => absurd hk (by omega), Below.refl _ _⟩
    case round =>
      obtain ⟨j, hj, rfl, HK, hB⟩ := hrel
      by_cases hlt : j < Ws.length
      · have hlt2 : (j : Int) < (Ws.length : Int) := by omega
        obtain ⟨L, hx⟩ : ∃ L, Ws[j]? = some L := ⟨_, List.getElem?_eq_getElem hlt⟩
        obtain ⟨_, au, _, e, _, u, bu, rfl, d1, _⟩ := way_at HVV.out hx
        injection e with e1 e2 e3
        injection e1 with e1
        injection e1 with e1
        subst e1
        replace d1 := (hB.cell (p := ⟨g, j, none⟩) hg).trans d1
        have d0 := (hB.cell (p := ⟨g, 0, none⟩) hg).trans HD0.out
        have hLb := totW_one hx
        have hLb2 : L.length ≤ 2000000 := by have := HTh.out; omega
        have HX := Lib.hid hx
        have hb1 := (Below.refl wr.heap.size wr).alloc (Nat.le_refl _) (.cells #[.slice au L.length bu] 51)
        have HBW := Lib.hid (hB.trans (hb1.mono hB.size))
        have d2 : (wr.alloc (.cells #[.slice au L.length bu] 51)).cell? ⟨wr.heap.size, 0, none⟩ = some (.slice au L.length bu) := by
          rw [cell_of_row _ _ _ _ _ _ (heap_alloc_new wr _)]; rfl
        have d3 : (wr.alloc (.cells #[.slice au L.length bu] 51)).cell? ⟨g, 0, none⟩ = some (.slice a0 L0.length b0) := (HBW.out.cell (p := ⟨g, 0, none⟩) hg).trans HD0.out
        clear hx hLb e2 e3 hB hb1 d0
        by_cases hlen : L.length = L0.length
        · have hln : ((L.length : Int) != (L0.length : Int)) = false := by rw [bne_eq_false_iff_eq]; omega
          have HLN := Lib.hid hlen
          clear hlen
          go_wp2
          go_quiet (fail)
          go_wp2
          go_roundw
          case rel => exact ⟨j + 1, by omega, by go_num, Lib.hid fun k M hk hM => (by
            rcases Nat.lt_succ_iff_lt_or_eq.1 hk with h | h
            · exact HK.out k M h hM
            · rw [h, HX.out] at hM
              cases hM
              exact HLN.out), (by first | exact HBW.out | exact below_drewN HBW.out _)⟩
          case measure => simp [intOf]; omega
        · have hln : ((L.length : Int) != (L0.length : Int)) = true := by rw [bne_iff_ne]; omega
          have e : b = false := by
            rw [← HB.out]
            exact even_no HX.out (by rw [HW0.out]; exact hlen)
          subst e
          clear hlen
          go_wp2
          go_quiet (fail)
          go_wp2
          go_ret
          exact ⟨rfl, (by first | exact HBW.out | exact below_drewN HBW.out _)⟩
      · obtain rfl : j = Ws.length := by omega
        have hnl : ¬ (Ws.length : Int) < (Ws.length : Int) := by omega
        have e : b = true := by
          rw [← HB.out]
          exact even_iff.2 ⟨HN.out.1, HN.out.2, fun i L hL => by rw [HW0.out]; exact HK.out i L (List.getElem?_eq_some_iff.1 hL).1 hL⟩
        subst e
        go_wp2
        go_ret
        exact ⟨rfl, hB⟩

set_option maxHeartbeats 2000000 in
theorem implLevel (v : Value) (Ws : List (List Int)) (t : Int) (b : Bool) (hW : Ws.length ≤ 2000000) (hT : totW Ws ≤ 2000000) (HB : Hid (levV Ws t = b)) (w : World) (hv : WaysAt w v Ws) (_ : (Lit.int .i64 t).wf = true) :
    Calls Tryz.prog 17 #[v, .int .i64 t] w (Made w (.bool b)) := by
  obtain ⟨r, HR⟩ : ∃ r, Hid (evenV Ws = r) := ⟨_, rfl⟩
  have HC := Lib.hid (implEven v Ws r hW hT HR w hv)
  have HVV := Lib.hid hv
  have HTh := Lib.hid hT
  obtain ⟨av, cv, rfl, _⟩ := hv
  clear hT
  cases r with
  | false =>
    have e : b = false := by rw [← HB.out]; exact lev_even HR.out
    subst e
    go_enter Tryz.func17, Tryz.ntmps17
    go_wp2_with fail
    refine HC.out.mono ?_
    rintro e w1 ⟨rfl, hB⟩
    go_wp2_with fail
    go_ret
    exact ⟨rfl, hB⟩
  | true =>
    obtain ⟨L0, hx0⟩ : ∃ L0, Ws[0]? = some L0 := ⟨_, List.getElem?_eq_getElem (even_iff.1 HR.out).1⟩
    obtain ⟨g, a0, c, e, hg, u0, b0, rfl, d0, _⟩ := way_at HVV.out hx0
    injection e with e1 e2 e3
    subst e1 e3
    have HW0 := Lib.hid (wide_at hx0)
    have hL0 := totW_one hx0
    have hL02 : L0.length ≤ 2000000 := by have := HTh.out; omega
    have h0N : (0 : Int) < (Ws.length : Int) := by have := (even_iff.1 HR.out).1; omega
    have hwr : IntKind.i64.wrap ((L0.length : Int) - 2) = (L0.length : Int) - 2 := IntWalk.i64_in _ (by omega)
    have HP := Lib.hid (implRange t 0 ((L0.length : Int) - 2) b (Lib.hid (by
      rw [← HB.out]
      unfold levV
      rw [HR.out, HW0.out, Bool.true_and]
      congr 1
      exact decide_eq_decide.2 (by omega))))
    have HD0 := Lib.hid d0
    clear hx0 hL0 d0
    go_enter Tryz.func17, Tryz.ntmps17
    go_wp2_with fail
    refine HC.out.mono ?_
    rintro e w1 ⟨rfl, hB⟩
    have d0 := (hB.cell (p := ⟨g, 0, none⟩) hg).trans HD0.out
    go_wp2_with fail
    refine (HP.out _).mono ?_
    rintro e w2 ⟨rfl, rfl⟩
    go_wp2_with fail
    go_ret
    exact ⟨rfl, hB⟩

end Go.Proofs.YtkbfbifepaoojaaGreatDoor

namespace Go.Proofs.YtkbfbifepaoojaaGreatDoor
set_option maxRecDepth 4096
open Go.ChangeShapes Go.WideShapes Go.ChangeAt Go.RowKit

theorem specRange (x lo hi : Int) (b : Bool) (HB : Hid ((decide (lo ≤ x) && decide (x ≤ hi)) = b)) (w : World) :
    Calls Tryz.prog 72 #[.int .i64 x, .int .i64 lo, .int .i64 hi] w fun e w' => e = .returned (.bool b) ∧ w = w' := by
  by_cases h1 : lo ≤ x
  · by_cases h2 : x ≤ hi
    · have e : b = true := by rw [← HB.out]; simp [h1, h2]
      subst e
      clear HB
      go_enter Tryz.func72, Tryz.ntmps72
      go_wp2
      go_ret
      exact ⟨rfl, rfl⟩
    · have e : b = false := by rw [← HB.out]; simp [h2]
      subst e
      clear HB
      go_enter Tryz.func72, Tryz.ntmps72
      go_wp2
      go_ret
      exact ⟨rfl, rfl⟩
  · have e : b = false := by rw [← HB.out]; simp [h1]
    subst e
    clear HB
    go_enter Tryz.func72, Tryz.ntmps72
    go_wp2
    go_ret
    exact ⟨rfl, rfl⟩

set_option maxHeartbeats 2000000 in
theorem specLevel (v : Value) (Ws : List (List Int)) (t : Int) (b : Bool) (hW : Ws.length ≤ 2000000) (hT : totW Ws ≤ 2000000) (HB : Hid (levV Ws t = b)) (w : World) (hv : WaysAt w v Ws) (_ : (Lit.int .i64 t).wf = true) :
    Calls Tryz.prog 110 #[v, .int .i64 t] w (Made w (.bool b)) := by
  obtain ⟨r, HR⟩ : ∃ r, Hid ((decide ((1 : Int) ≤ (Ws.length : Int)) && decide ((Ws.length : Int) ≤ 10)) = r) := ⟨_, rfl⟩
  have HC := Lib.hid (specRange (Ws.length : Int) 1 10 r HR)
  have HVV := Lib.hid hv
  have HTh := Lib.hid hT
  obtain ⟨av, cv, rfl, _⟩ := hv
  clear hT
  cases r with
  | false =>
    have e : b = false := by
      rw [← HB.out]
      refine lev_even (even_few fun h => ?_)
      have := HR.out
      rw [decide_eq_true (by omega), decide_eq_true (by omega)] at this
      cases this
    subst e
    go_enter Tryz.func110, Tryz.ntmps110
    go_wp2_with fail
    refine (HC.out _).mono ?_
    rintro e w1 ⟨rfl, rfl⟩
    go_wp2_with fail
    go_ret
    exact ⟨rfl, Below.refl _ _⟩
  | true =>
    have hN : 1 ≤ Ws.length ∧ Ws.length ≤ 10 := by
      have := HR.out
      rw [Bool.and_eq_true, decide_eq_true_eq, decide_eq_true_eq] at this
      omega
    obtain ⟨L0, hx0⟩ : ∃ L0, Ws[0]? = some L0 := ⟨_, List.getElem?_eq_getElem (by omega)⟩
    obtain ⟨g, a0, c, e, hg, u0, b0, rfl, d0, _⟩ := way_at HVV.out hx0
    injection e with e1 e2 e3
    subst e1 e3
    have HW0 := Lib.hid (wide_at hx0)
    have hL0 := totW_one hx0
    have hL02 : L0.length ≤ 2000000 := by have := HTh.out; omega
    have HN := Lib.hid hN
    have h0N : (0 : Int) < (Ws.length : Int) := by omega
    have hwr : IntKind.i64.wrap ((L0.length : Int) - 1) = (L0.length : Int) - 1 := IntWalk.i64_in _ (by omega)
    have HX0 := Lib.hid hx0
    clear hx0 hL0 hN
    by_cases ht0 : t < 0
    · have e : b = false := by rw [← HB.out]; exact lev_no (fun h => by omega)
      subst e
      clear HB
      go_enter Tryz.func110, Tryz.ntmps110
      go_wp2_with fail
      refine (HC.out _).mono ?_
      rintro e w1 ⟨rfl, rfl⟩
      go_wp2_with fail
      go_ret
      exact ⟨rfl, Below.refl _ _⟩
    · by_cases ht1 : (L0.length : Int) - 1 ≤ t
      · have e : b = false := by rw [← HB.out]; exact lev_no (fun h => by rw [HW0.out] at h; omega)
        subst e
        clear HB
        go_enter Tryz.func110, Tryz.ntmps110
        go_wp2_with fail
        refine (HC.out _).mono ?_
        rintro e w1 ⟨rfl, rfl⟩
        go_wp2_with fail
        go_ret
        exact ⟨rfl, Below.refl _ _⟩
      · go_enter Tryz.func110, Tryz.ntmps110
        go_wp2_with fail
        refine (HC.out _).mono ?_
        rintro e w1 ⟨rfl, rfl⟩
        go_wp2_with fail
        go_loopw [5] (fun i wr => ∃ j q : Nat, j ≤ Ws.length ∧ i = .int .i64 j ∧ Hid (∀ (k : Nat) L, k < j → Ws[k]? = some L → L.length = L0.length) ∧ wr = w.drewN q) (fun i _ => Ws.length - (intOf i).toNat)
        case atStart => exact ⟨0, 0, Nat.zero_le _, rfl, Lib.hid fun k L hk => absurd hk (by omega), rfl⟩
        case round =>
          obtain ⟨j, q, hj, rfl, HK, rfl⟩ := hrel
          by_cases hlt : j < Ws.length
          · have hlt2 : (j : Int) < (Ws.length : Int) := by omega
            obtain ⟨L, hx⟩ : ∃ L, Ws[j]? = some L := ⟨_, List.getElem?_eq_getElem hlt⟩
            obtain ⟨_, au, _, e, _, u, bu, rfl, d1, _⟩ := way_at HVV.out hx
            injection e with e1 e2 e3
            injection e1 with e1
            injection e1 with e1
            subst e1
            have hLb := totW_one hx
            have hLb2 : L.length ≤ 2000000 := by have := HTh.out; omega
            have HX := Lib.hid hx
            clear hx hLb e2 e3
            by_cases hlen : L.length = L0.length
            · have hln : ((L.length : Int) != (L0.length : Int)) = false := by rw [bne_eq_false_iff_eq]; omega
              have HLN := Lib.hid hlen
              clear hlen
              go_wp2
              go_quiet (fail)
              go_wp2
              go_roundw
              case rel => exact ⟨j + 1, _, by omega, by go_num, Lib.hid fun k M hk hM => (by
                rcases Nat.lt_succ_iff_lt_or_eq.1 hk with h | h
                · exact HK.out k M h hM
                · rw [h, HX.out] at hM
                  cases hM
                  exact HLN.out), rfl⟩
              case measure => simp [intOf]; omega
            · have hln : ((L.length : Int) != (L0.length : Int)) = true := by rw [bne_iff_ne]; omega
              have e : b = false := by
                rw [← HB.out]
                exact lev_even (even_no HX.out (by rw [HW0.out]; exact hlen))
              subst e
              clear hlen
              go_wp2
              go_quiet (fail)
              go_wp2
              go_ret
              exact ⟨rfl, below_drewN (below_drewN (Below.refl _ _) _) _⟩
          · obtain rfl : j = Ws.length := by omega
            have hnl : ¬ (Ws.length : Int) < (Ws.length : Int) := by omega
            have e : b = true := by
              rw [← HB.out]
              exact lev_yes (even_iff.2 ⟨HN.out.1, HN.out.2, fun i L hL => by rw [HW0.out]; exact HK.out i L (List.getElem?_eq_some_iff.1 hL).1 hL⟩) (by omega) (by rw [HW0.out]; omega)
            subst e
            go_wp2
            go_ret
            exact ⟨rfl, below_drewN (Below.refl _ _) _⟩

end Go.Proofs.YtkbfbifepaoojaaGreatDoor

namespace Go.Proofs.YtkbfbifepaoojaaGreatDoor
set_option maxRecDepth 4096
open Go.ChangeShapes Go.WideShapes Go.ChangeAt Go.RowKit

theorem levS_out {Ws : List (List Int)} {t : Int} (h : levV Ws t = true) : ∃ n : Nat, t = (n : Int) := ⟨t.toNat, by have := (lev_iff.1 h).2.1; omega⟩
/-- Different so far: no two of the first j are equal. -/
def DiffTo (A : List Int) (j : Nat) : Prop := ∀ (a b : Nat) x y, a < b → b < j → A[a]? = some x → A[b]? = some y → x ≠ y
theorem diff_nodup {A : List Int} (h : DiffTo A A.length) : A.Nodup := by
  refine List.pairwise_iff_getElem.2 fun a b ha hb hab => ?_
  exact h a b _ _ hab hb (List.getElem?_eq_getElem ha) (List.getElem?_eq_getElem hb)
theorem same_not {A : List Int} {a b : Nat} {x : Int} (hab : a < b) (ha : A[a]? = some x) (hb : A[b]? = some x) : ¬ A.Nodup := fun h => by
  obtain ⟨h1, e1⟩ := List.getElem?_eq_some_iff.1 ha
  obtain ⟨h2, e2⟩ := List.getElem?_eq_some_iff.1 hb
  exact List.pairwise_iff_getElem.1 h a b h1 h2 hab (e1.trans e2.symm)

set_option maxHeartbeats 4000000 in
theorem specMeet (v : Value) (Ws : List (List Int)) (t : Int) (b : Bool) (hW : Ws.length ≤ 2000000) (hT : totW Ws ≤ 2000000) (HB : Hid (meetV Ws t = b)) (w : World) (hv : WaysAt w v Ws) (hwf : (Lit.int .i64 t).wf = true) :
    Calls Tryz.prog 111 #[v, .int .i64 t] w (Made w (.bool b)) := by
  obtain ⟨r, HR⟩ : ∃ r, Hid (levV Ws t = r) := ⟨_, rfl⟩
  have HC := Lib.hid (specLevel v Ws t r hW hT HR w hv hwf)
  have HVV := Lib.hid hv
  have HTh := Lib.hid hT
  obtain ⟨av, cv, rfl, _⟩ := hv
  clear hT hwf
  cases r with
  | false =>
    have e : b = false := by rw [← HB.out]; exact meet_lev HR.out
    subst e
    go_enter Tryz.func111, Tryz.ntmps111
    go_wp2_with fail
    refine HC.out.mono ?_
    rintro e w1 ⟨rfl, hB⟩
    go_wp2_with fail
    go_ret
    exact ⟨rfl, hB⟩
  | true =>
    obtain ⟨n, rfl⟩ := levS_out HR.out
    obtain ⟨A, HA⟩ : ∃ A, Hid (colL Ws n = A) := ⟨_, rfl⟩
    obtain ⟨A2, HA2⟩ : ∃ A2, Hid (colL Ws (n + 1) = A2) := ⟨_, rfl⟩
    have hAl : A.length = Ws.length := by rw [← HA.out]; exact col_len
    have hA2l : A2.length = Ws.length := by rw [← HA2.out]; exact col_len
    have HM : Hid ((!decide A.Nodup || !decide A2.Nodup) = b) := Lib.hid (by rw [← HB.out, meet_of HR.out, HA.out, HA2.out])
    have HAL := Lib.hid hAl
    have HAL2 := Lib.hid hA2l
    clear hAl hA2l
    go_enter Tryz.func111, Tryz.ntmps111
    go_wp2_with fail
    refine HC.out.mono ?_
    rintro e w1 ⟨rfl, hB1⟩
    have HB1 := Lib.hid hB1
    clear hB1
    go_wp2_with fail
    go_loopw [5, 6] (fun i _ wr => ∃ j q : Nat, j ≤ Ws.length ∧ i = .int .i64 j ∧ Hid (DiffTo A j) ∧ Hid (DiffTo A2 j) ∧ wr = w1.drewN q) (fun i _ _ => Ws.length - (intOf i).toNat)
    case atStart => exact ⟨0, 0, Nat.zero_le _, rfl, Lib.hid fun a b x y _ h => absurd h (by omega), Lib.hid fun a b x y _ h => absurd h (by omega), rfl⟩
    case round =>
      obtain ⟨j, q, hj, rfl, HK, HK2, rfl⟩ := hrel
      by_cases hlt : j < Ws.length
      · have hlt2 : (j : Int) < (Ws.length : Int) := by omega
        obtain ⟨L, hx⟩ : ∃ L, Ws[j]? = some L := ⟨_, List.getElem?_eq_getElem hlt⟩
        obtain ⟨x, y, hxt, hyt, hxc, hyc⟩ := lev_cells HR.out hx
        rw [HA.out] at hxc
        rw [HA2.out] at hyc
        obtain ⟨g, au, _, e, hg, u, bu, rfl, d1, hI⟩ := way_at (waysAt_on HVV.out HB1.out) hx
        injection e with e1 e2 e3
        subst e1
        clear e3
        have hLb := totW_one hx
        have hLb2 : L.length ≤ 2000000 := by have := HTh.out; omega
        have hn1 : n + 1 < L.length := (List.getElem?_eq_some_iff.1 hyt).1
        rcases ints_form hI with ⟨_, _, e, HI⟩
        injection e with e1 _ e3
        subst e1 e3
        rcases HI with h0 | ⟨p, rfl, hp, hpc⟩
        · omega
        · have dx := hpc n x hxt
          have dy := hpc (n + 1) y hyt
          have HXC := Lib.hid hxc
          have HYC := Lib.hid hyc
          have hwr : IntKind.i64.wrap ((n : Int) + 1) = ((n + 1 : Nat) : Int) := by rw [IntWalk.i64_in _ (by omega)]; omega
          have hnI : (n : Int) < (L.length : Int) := by omega
          have hnI2 : ((n + 1 : Nat) : Int) < (L.length : Int) := by omega
          clear hx hxt hyt hxc hyc hLb hpc hI e2
          go_wp2
          go_loopw [6] (fun i wr => ∃ k q : Nat, k ≤ j ∧ i = .int .i64 k ∧ Hid (∀ (a : Nat) z, a < k → A[a]? = some z → z ≠ x) ∧ Hid (∀ (a : Nat) z, a < k → A2[a]? = some z → z ≠ y) ∧ wr = w1.drewN q) (fun i _ => j - (intOf i).toNat)
          case atStart => exact ⟨0, q, Nat.zero_le _, rfl, Lib.hid fun a z h => absurd h (by omega), Lib.hid fun a z h => absurd h (by omega), rfl⟩
          case round =>
            obtain ⟨k, q, hk, rfl, HN, HN2, rfl⟩ := hrel
            by_cases hlk : k < j
            · have hlk2 : (k : Int) < (j : Int) := by omega
              have hlk3 : (k : Int) < (Ws.length : Int) := by omega
              obtain ⟨K, hx⟩ : ∃ K, Ws[k]? = some K := ⟨_, List.getElem?_eq_getElem (by omega)⟩
              obtain ⟨x2, y2, hxt, hyt, hxc, hyc⟩ := lev_cells HR.out hx
              rw [HA.out] at hxc
              rw [HA2.out] at hyc
              obtain ⟨_, au2, _, e, _, u2, bu2, rfl, d2, hI⟩ := way_at (waysAt_on HVV.out HB1.out) hx
              injection e with e1 e2 e3
              injection e1 with e1
              injection e1 with e1
              subst e1
              clear e3
              have hLb := totW_one hx
              have hKb2 : K.length ≤ 2000000 := by have := HTh.out; omega
              have hn2 : n + 1 < K.length := (List.getElem?_eq_some_iff.1 hyt).1
              rcases ints_form hI with ⟨_, _, e, HI⟩
              injection e with e1 _ e3
              subst e1 e3
              rcases HI with h0 | ⟨p2, rfl, hp2, hpc⟩
              · omega
              · have dx2 := hpc n x2 hxt
                have dy2 := hpc (n + 1) y2 hyt
                have HXC2 := Lib.hid hxc
                have HYC2 := Lib.hid hyc
                have hnK : (n : Int) < (K.length : Int) := by omega
                have hnK2 : ((n + 1 : Nat) : Int) < (K.length : Int) := by omega
                clear hx hxt hyt hxc hyc hLb hpc hI e2
                by_cases hxx : x = x2
                · subst hxx
                  have hb : (x == x) = true := by simp
                  have e : b = true := by rw [← HM.out, decide_eq_false (same_not hlk HXC2.out HXC.out)]; rfl
                  subst e
                  go_wp2
                  go_quiet (fail)
                  go_wp2
                  go_ret
                  exact ⟨rfl, below_drewN (below_drewN HB1.out _) _⟩
                · have hb : (x == x2) = false := by simpa using hxx
                  have HNX := Lib.hid hxx
                  by_cases hyy : y = y2
                  · subst hyy
                    have hb2 : (y == y) = true := by simp
                    have e : b = true := by rw [← HM.out, decide_eq_false (same_not hlk HYC2.out HYC.out)]; simp
                    subst e
                    clear hxx
                    go_wp2
                    go_quiet (fail)
                    go_wp2
                    go_ret
                    exact ⟨rfl, below_drewN (below_drewN HB1.out _) _⟩
                  · have hb2 : (y == y2) = false := by simpa using hyy
                    have HNY := Lib.hid hyy
                    clear hxx hyy
                    go_wp2
                    go_quiet (fail)
                    go_wp2
                    go_roundw
                    case rel => exact ⟨k + 1, _, by omega, by go_num, Lib.hid fun a z ha hz => (by
                      rcases Nat.lt_succ_iff_lt_or_eq.1 ha with h | h
                      · exact HN.out a z h hz
                      · rw [h, HXC2.out] at hz
                        cases hz
                        exact fun e => HNX.out e.symm), Lib.hid fun a z ha hz => (by
                      rcases Nat.lt_succ_iff_lt_or_eq.1 ha with h | h
                      · exact HN2.out a z h hz
                      · rw [h, HYC2.out] at hz
                        cases hz
                        exact fun e => HNY.out e.symm), rfl⟩
                    case measure => simp [intOf]; omega
            · obtain rfl : k = j := by omega
              have hnl : ¬ (k : Int) < (k : Int) := by omega
              go_wp2
              go_roundw
              case rel => exact ⟨k + 1, q, by omega, by go_num, Lib.hid fun a b z z2 hab hb ha hbz => (by
                rcases Nat.lt_succ_iff_lt_or_eq.1 hb with h | h
                · exact HK.out a b z z2 hab h ha hbz
                · subst h
                  rw [HXC.out] at hbz
                  cases hbz
                  exact HN.out a z hab ha), Lib.hid fun a b z z2 hab hb ha hbz => (by
                rcases Nat.lt_succ_iff_lt_or_eq.1 hb with h | h
                · exact HK2.out a b z z2 hab h ha hbz
                · subst h
                  rw [HYC.out] at hbz
                  cases hbz
                  exact HN2.out a z hab ha), rfl⟩
              case measure => simp [intOf]; omega
      · obtain rfl : j = Ws.length := by omega
        have hnl : ¬ (Ws.length : Int) < (Ws.length : Int) := by omega
        have e : b = false := by
          rw [← HM.out, decide_eq_true (diff_nodup (by rw [HAL.out]; exact HK.out)), decide_eq_true (diff_nodup (by rw [HAL2.out]; exact HK2.out))]
          rfl
        subst e
        go_wp2
        go_ret
        exact ⟨rfl, below_drewN HB1.out _⟩

end Go.Proofs.YtkbfbifepaoojaaGreatDoor

