/-
  CONTRACT of the program's regular: a table of faults. No law is proved here.
-/
import Derived.Test.YtkndlpcpkfgneaaUncM
import Derived.Test.YtkndlpcpkfgneaaMeetI
import Derived.Shelf.Abstract
namespace Go.Proofs.Ytkndlpcpkfgneaa
set_option maxRecDepth 4096
open Go.ChangeShapes Go.WideShapes Go.ChangeAt Go.RowKit

theorem wf_few {n : Nat} (h : n ≤ 2000000) : (Lit.int .i64 (n : Int)).wf = true := WalkArith.wf_i64 (by omega)
def bareV (Ws : List (List Int)) : Bool := Ws.any fun L => decide (L.length = 0)
def meetsV (Ws : List (List Int)) : Bool := (List.range (wideV Ws - 1)).any fun t => meetV Ws (t : Int)
theorem bare_wide {Ws : List (List Int)} (h : evenV Ws = true) : bareV Ws = decide (wideV Ws = 0) := by
  obtain ⟨h1, _, h3⟩ := even_iff.1 h
  have h0 : Ws[0]? = some Ws[0] := List.getElem?_eq_getElem (by omega)
  unfold bareV
  by_cases e : wideV Ws = 0
  · rw [decide_eq_true e, List.any_eq_true]
    exact ⟨_, List.mem_of_getElem? h0, decide_eq_true (by rw [h3 0 _ h0, e])⟩
  · rw [decide_eq_false e, List.any_eq_false]
    intro L hL
    obtain ⟨i, hi, rfl⟩ := List.getElem_of_mem hL
    exact fun k => e (by rw [← h3 i _ (List.getElem?_eq_getElem hi)]; exact of_decide_eq_true k)
theorem meets_no {Ws : List (List Int)} (h : ∀ t : Nat, t + 1 < wideV Ws → meetV Ws (t : Int) = false) : meetsV Ws = false := by
  unfold meetsV
  rw [List.any_eq_false]
  intro t ht
  have := List.mem_range.1 ht
  rw [h t (by omega)]
  decide
theorem meets_yes {Ws : List (List Int)} {t : Nat} (h : meetV Ws (t : Int) = true) : meetsV Ws = true := by
  have hl : levV Ws (t : Int) = true := by
    cases e2 : levV Ws (t : Int) with
    | true => rfl
    | false => rw [meet_lev e2] at h; exact absurd h (by decide)
  have := (lev_iff.1 hl).2.2
  unfold meetsV
  rw [List.any_eq_true]
  exact ⟨t, List.mem_range.2 (by omega), h⟩
theorem reg_is {Ws : List (List Int)} : regV Ws = !(!evenV Ws || bareV Ws || meetsV Ws) := by
  cases e : evenV Ws with
  | false => rw [reg_even e]; rfl
  | true =>
    rw [bare_wide e]
    by_cases h0 : wideV Ws = 0
    · rw [reg_bare h0, decide_eq_true h0]; rfl
    · rw [decide_eq_false h0]
      cases em : meetsV Ws with
      | false =>
        refine reg_iff.2 ⟨e, by omega, fun t ht => ?_⟩
        cases e2 : meetV Ws (t : Int) with
        | false => rfl
        | true => rw [meets_yes e2] at em; cases em
      | true =>
        cases e2 : regV Ws with
        | false => rfl
        | true => rw [meets_no (reg_iff.1 e2).2.2] at em; cases em

theorem implUneven (v : Value) (Ws : List (List Int)) (b : Bool) (hW : Ws.length ≤ 2000000) (hT : totW Ws ≤ 2000000) (HB : Hid ((!evenV Ws) = b)) (w : World) (hv : WaysAt w v Ws) :
    Calls Try.prog 38 #[v] w (Made w (.bool b)) := by
  obtain ⟨q, HQ⟩ : ∃ q, Hid (evenV Ws = q) := ⟨_, rfl⟩
  have HC := Lib.hid (implEven v Ws q hW hT HQ w hv)
  have e : b = !q := by rw [← HB.out, HQ.out]
  subst e
  obtain ⟨av, cv, rfl, _⟩ := hv
  clear hT
  go_enter Try.func38, Try.ntmps38
  go_wp2_with fail
  refine HC.out.mono ?_
  rintro e w1 ⟨rfl, hB⟩
  go_wp2_with fail
  go_ret
  exact ⟨by cases q <;> rfl, hB⟩

/-- The closure: has a way no cells? -/
theorem bareOne (u : Value) (L : List Int) (r : Bool) (_ : L.length ≤ 2000000) (HR : Hid (decide (L.length = 0) = r)) (W : World) (hu : Ints W u L) :
    Calls Try.prog 53 #[.agg #[u]] W (Made W (.bool r)) := by
  obtain ⟨au, cu, rfl, _⟩ := ints_form hu
  have hba := (Below.refl W.heap.size W).alloc (Nat.le_refl _) (.cells #[.slice au L.length cu] 39)
  have HBA := Lib.hid hba
  have d6 : (W.alloc (.cells #[.slice au L.length cu] 39)).cell? ⟨W.heap.size, 0, none⟩ = some (.slice au L.length cu) := by
    rw [cell_of_row _ _ _ _ _ _ (heap_alloc_new W _)]; rfl
  clear hba hu
  by_cases e : L.length = 0
  · obtain rfl : r = true := by rw [← HR.out]; exact decide_eq_true e
    have hb : ((L.length : Int) == 0) = true := by rw [beq_iff_eq]; omega
    clear e
    go_enter Try.func53, Try.ntmps53
    go_wp2
    go_ret
    exact ⟨rfl, (by first | exact HBA.out | exact below_drewN HBA.out _)⟩
  · obtain rfl : r = false := by rw [← HR.out]; exact decide_eq_false e
    have hb : ((L.length : Int) == 0) = false := by rw [beq_eq_false_iff_ne]; omega
    clear e
    go_enter Try.func53, Try.ntmps53
    go_wp2
    go_ret
    exact ⟨rfl, (by first | exact HBA.out | exact below_drewN HBA.out _)⟩
theorem Try.entersBare : ∀ args w, (callFunc 53 args).run Try.prog w = .ok (.enter 53 args) w := enters_of Try.func53 (by kernel_rfl) rfl

set_option maxHeartbeats 2000000 in
theorem implIndexP (v : Value) (Ws : List (List Int)) (hW : Ws.length ≤ 2000000) (hT : totW Ws ≤ 2000000) (w : World) (hv : WaysAt w v Ws) :
    Calls Try.prog 63 #[v, .func (.func 53) #[] #[]] w fun e w' => ∃ z : Int, Hid (decide (z ≥ 0) = bareV Ws ∧ -1 ≤ z ∧ z ≤ 2000000) ∧ e = .returned (.int .i64 z) ∧ Below w.heap.size w w' := by
  have HVV := Lib.hid hv
  have HTh := Lib.hid hT
  have eg := Try.entersBare
  obtain ⟨av, cv, rfl, _⟩ := hv
  clear hT
  go_enter Try.func63, Try.ntmps63
  go_wp2
  go_loopw [5, 8] (fun _ i wr => ∃ j : Nat, j ≤ Ws.length ∧ i = .int .i64 j ∧ Hid (∀ (a : Nat) L, a < j → Ws[a]? = some L → L.length ≠ 0) ∧ Below w.heap.size w wr) (fun _ i _ => Ws.length - (intOf i).toNat)
  case atStart => exact ⟨0, Nat.zero_le _, rfl, Lib.hid fun a x h => absurd h (by omega), Below.refl _ _⟩
  case round =>
    obtain ⟨j, hj, rfl, HK2, hB⟩ := hrel
    by_cases hlt : j < Ws.length
    · have hlt2 : (j : Int) < (Ws.length : Int) := by omega
      obtain ⟨L, hx⟩ : ∃ L, Ws[j]? = some L := ⟨_, List.getElem?_eq_getElem hlt⟩
      have hvr := waysAt_on HVV.out hB
      obtain ⟨g, au, _, e, hg, u, bu, rfl, d1, hI⟩ := way_at hvr hx
      injection e with e1 e2 e3
      subst e1
      have hLl : L.length ≤ 2000000 := by have := totW_one hx; have := HTh.out; omega
      obtain ⟨r, HR⟩ : ∃ r, Hid (decide (L.length = 0) = r) := ⟨_, rfl⟩
      have HC := Lib.hid (bareOne _ L r hLl HR wr hI)
      have HX := Lib.hid hx
      have HBR := Lib.hid hB
      clear hx hvr hI e2 e3 hB hLl
      cases r with
      | true =>
        go_wp2_with (go_at_fn 53; refine HC.out.mono ?_; rintro e w' ⟨rfl, hb'⟩; have HB2 := Lib.hid (HBR.out.trans (hb'.mono HBR.out.size)); clear hb')
        go_ret
        refine ⟨(j : Int), Lib.hid ⟨?_, by omega, by omega⟩, rfl, HB2.out⟩
        rw [decide_eq_true (by omega)]
        unfold bareV
        exact (List.any_eq_true.2 ⟨L, List.mem_of_getElem? HX.out, HR.out⟩).symm
      | false =>
        go_wp2_with (go_at_fn 53; refine HC.out.mono ?_; rintro e w' ⟨rfl, hb'⟩; have HB2 := Lib.hid (HBR.out.trans (hb'.mono HBR.out.size)); clear hb')
        go_roundw
        case rel => exact ⟨j + 1, by omega, by go_num, Lib.hid fun a M ha hz => (by
          rcases Nat.lt_succ_iff_lt_or_eq.1 ha with h | h
          · exact HK2.out a M h hz
          · rw [h, HX.out] at hz
            cases hz
            exact of_decide_eq_false HR.out), HB2.out⟩
        case measure => simp [intOf]; omega
    · obtain rfl : j = Ws.length := by omega
      have hnl : ¬ (Ws.length : Int) < (Ws.length : Int) := by omega
      go_wp2
      go_ret
      refine ⟨-1, Lib.hid ⟨?_, by omega, by omega⟩, rfl, hB⟩
      rw [decide_eq_false (by omega)]
      unfold bareV
      refine (List.any_eq_false.2 fun L hL => ?_).symm
      obtain ⟨i, hi, rfl⟩ := List.getElem_of_mem hL
      have := HK2.out i _ hi (List.getElem?_eq_getElem hi)
      simpa using this

theorem implBare (v : Value) (Ws : List (List Int)) (b : Bool) (hW : Ws.length ≤ 2000000) (hT : totW Ws ≤ 2000000) (HB : Hid (bareV Ws = b)) (w : World) (hv : WaysAt w v Ws) :
    Calls Try.prog 39 #[v] w (Made w (.bool b)) := by
  have HI := Lib.hid (implIndexP v Ws hW hT w hv)
  have HC : Hid (Calls Try.prog 52 #[v, .func (.func 53) #[] #[]] w (Made w (.bool b))) := by
    obtain ⟨av, cv, rfl, _⟩ := hv
    clear hT
    refine Lib.hid ?_
    go_enter Try.func52, Try.ntmps52
    go_wp2_with fail
    refine HI.out.mono ?_
    rintro e w1 ⟨z, HZ, rfl, hB⟩
    have HBB := Lib.hid hB
    have HE : Hid (decide (0 ≤ z) = b) := Lib.hid (HZ.out.1.trans HB.out)
    clear hB
    go_wp2_with fail
    go_ret
    refine ⟨?_, HBB.out⟩
    show Ending.returned (.bool (decide (0 ≤ z))) = _
    rw [HE.out]
  obtain ⟨av, cv, rfl, _⟩ := hv
  clear hT
  go_enter Try.func39, Try.ntmps39
  go_wp2_with fail
  refine HC.out.mono ?_
  rintro e w1 ⟨rfl, hB⟩
  go_wp2_with fail
  go_ret
  exact ⟨rfl, hB⟩

set_option maxHeartbeats 2000000 in
theorem implMeeting (v : Value) (Ws : List (List Int)) (b : Bool) (hW : Ws.length ≤ 2000000) (hT : totW Ws ≤ 2000000) (HB : Hid (meetsV Ws = b)) (w : World) (hv : WaysAt w v Ws) :
    Calls Try.prog 40 #[v] w (Made w (.bool b)) := by
  have HL : Hid (∀ (t : Nat) r (wr : World), t ≤ 2000000 → Hid (levV Ws (t : Int) = r) → Below w.heap.size w wr → Calls Try.prog 29 #[v, .int .i64 (t : Int)] wr (Made wr (.bool r))) := Lib.hid fun t r wr ht HR hB => implLevel v Ws t r hW hT HR wr (waysAt_on hv hB) (wf_few ht)
  have HM : Hid (∀ (t : Nat) r (wr : World), t ≤ 2000000 → Hid (meetV Ws (t : Int) = r) → Below w.heap.size w wr → Calls Try.prog 54 #[v, .int .i64 (t : Int)] wr (Made wr (.bool r))) := Lib.hid fun t r wr ht HR hB => implMeet v Ws t r hW hT HR wr (waysAt_on hv hB) (wf_few ht)
  have hwd : wideV Ws ≤ 2000000 := by
    unfold wideV
    cases Ws with
    | nil => simp
    | cons a Ws => have := totW_one (Ws := a :: Ws) (k := 0) rfl; simpa using (by omega : a.length ≤ 2000000)
  obtain ⟨av, cv, rfl, _⟩ := hv
  clear hT
  go_enter Try.func40, Try.ntmps40
  go_wp2
  go_loopw [3] (fun i wr => ∃ j : Nat, j ≤ wideV Ws ∧ i = .int .i64 j ∧ Hid (∀ t : Nat, t < j → meetV Ws (t : Int) = false) ∧ Below w.heap.size w wr) (fun i _ => wideV Ws + 1 - (intOf i).toNat)
  case atStart => exact ⟨0, Nat.zero_le _, rfl, Lib.hid fun a h => absurd h (by omega), Below.refl _ _⟩
  case round =>
    obtain ⟨j, hj, rfl, HK, hB⟩ := hrel
    obtain ⟨r, HR⟩ : ∃ r, Hid (levV Ws (j : Int) = r) := ⟨_, rfl⟩
    obtain ⟨q, HQ⟩ : ∃ q, Hid (meetV Ws (j : Int) = q) := ⟨_, rfl⟩
    have H1 := Lib.hid (HL.out j r wr (by omega) HR hB)
    have HBR := Lib.hid hB
    clear hB
    cases r with
    | false =>
      obtain rfl : b = false := by
        rw [← HB.out]
        refine meets_no fun t ht => ?_
        by_cases h : t < j
        · exact HK.out t h
        · refine meet_lev ?_
          cases e : levV Ws (t : Int) with
          | false => rfl
          | true =>
            have h2 := lev_iff.1 e
            have := lev_yes h2.1 (t := (j : Int)) (by omega) (by omega)
            rw [HR.out] at this
            cases this
      go_wp2_with fail
      refine H1.out.mono ?_
      rintro e w1 ⟨rfl, hb⟩
      have HB2 := Lib.hid (HBR.out.trans (hb.mono HBR.out.size))
      clear hb
      go_wp2_with fail
      go_ret
      exact ⟨rfl, HB2.out⟩
    | true =>
      have hjw := (lev_iff.1 HR.out).2.2
      go_wp2_with fail
      refine H1.out.mono ?_
      rintro e w1 ⟨rfl, hb⟩
      have HB2 := Lib.hid (HBR.out.trans (hb.mono HBR.out.size))
      clear hb
      go_wp2_with fail
      refine (HM.out j q w1 (by omega) HQ HB2.out).mono ?_
      rintro e w2 ⟨rfl, hb⟩
      have HB3 := Lib.hid (HB2.out.trans (hb.mono HB2.out.size))
      clear hb
      cases q with
      | true =>
        obtain rfl : b = true := by rw [← HB.out]; exact meets_yes HQ.out
        go_wp2_with fail
        go_ret
        exact ⟨rfl, HB3.out⟩
      | false =>
        go_wp2_with fail
        go_roundw
        case rel => exact ⟨j + 1, by omega, by go_num, Lib.hid fun t ht => (by
          rcases Nat.lt_succ_iff_lt_or_eq.1 ht with h | h
          · exact HK.out t h
          · rw [h]; exact HQ.out), HB3.out⟩
        case measure => simp [intOf]; omega

end Go.Proofs.Ytkndlpcpkfgneaa
