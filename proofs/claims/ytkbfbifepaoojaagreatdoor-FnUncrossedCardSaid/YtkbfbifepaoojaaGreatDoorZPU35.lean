/-
  CONTRACT of the program's regular: a table of faults. No law is proved here.
  CONTRACT of the program's regular: the table of faults is gone through. No law is proved here.
-/
import Derived.Test.YtkbfbifepaoojaaGreatDoorZPU33
import Derived.Test.YtkbfbifepaoojaaGreatDoorZPU22
import Derived.Shelf.Abstract
namespace Go.Proofs.YtkbfbifepaoojaaGreatDoor
set_option maxRecDepth 4096
open Go.ChangeShapes Go.WideShapes Go.ChangeAt Go.RowKit

theorem wf_few {n : Nat} (h : n ≤ 2000000) : (Lit.int .i64 (n : Int)).wf = true := WalkArith.wf_i64 (by omega)
def bareV (Ws : List (List Int)) : Bool := Ws.any fun L => decide (L.length = 0)
def meetsV (Ws : List (List Int)) : Bool := (List.range (wideV Ws - 1)).any fun t => meetV Ws (t : Int)
theorem bare_wide {Ws : List (List Int)} (h : evenV Ws = true) : bareV Ws = decide (wideV Ws = 0) := by
  obtain ⟨h1, _, h3⟩ := even_iff.1 h
  have h0 : Ws[0]? = some Ws[0] := List.getElem?_eq_getElem (by omega)
  unfold bareV
  by_cases e : wideV Ws = 0
  · rw [decide_eq_true e, List.any_eq_true]
    exact ⟨_, List.mem_of_getElem? h0, decide_eq_true (by rw [h3 0 _ h0, e])⟩
  · rw [decide_eq_false e, List.any_eq_false]
    intro L hL
    obtain ⟨i, hi, rfl⟩ := List.getElem_of_mem hL
    exact fun k => e (by rw [← h3 i _ (List.getElem?_eq_getElem hi)]; exact of_decide_eq_true k)
theorem meets_no {Ws : List (List Int)} (h : ∀ t : Nat, t + 1 < wideV Ws → meetV Ws (t : Int) = false) : meetsV Ws = false := by
  unfold meetsV
  rw [List.any_eq_false]
  intro t ht
  have := List.mem_range.1 ht
  rw [h t (by omega)]
  decide
theorem meets_yes {Ws : List (List Int)} {t : Nat} (h : meetV Ws (t : Int) = true) : meetsV Ws = true := by
  have hl : levV Ws (t : Int) = true := by
    cases e2 : levV Ws (t : Int) with
    | true => rfl
    | false => rw [meet_lev e2] at h; exact absurd h (by decide)
  have := (lev_iff.1 hl).2.2
  unfold meetsV
  rw [List.any_eq_true]
  exact ⟨t, List.mem_range.2 (by omega), h⟩
theorem reg_is {Ws : List (List Int)} : regV Ws = !(!evenV Ws || bareV Ws || meetsV Ws) := by
  cases e : evenV Ws with
  | false => rw [reg_even e]; rfl
  | true =>
    rw [bare_wide e]
    by_cases h0 : wideV Ws = 0
    · rw [reg_bare h0, decide_eq_true h0]; rfl
    · rw [decide_eq_false h0]
      cases em : meetsV Ws with
      | false =>
        refine reg_iff.2 ⟨e, by omega, fun t ht => ?_⟩
        cases e2 : meetV Ws (t : Int) with
        | false => rfl
        | true => rw [meets_yes e2] at em; cases em
      | true =>
        cases e2 : regV Ws with
        | false => rfl
        | true => rw [meets_no (reg_iff.1 e2).2.2] at em; cases em

theorem implUneven (v : Value) (Ws : List (List Int)) (b : Bool) (hW : Ws.length ≤ 2000000) (hT : totW Ws ≤ 2000000) (HB : Hid ((!evenV Ws) = b)) (w : World) (hv : WaysAt w v Ws) :
    Calls Tryz.prog 65 #[v] w (Made w (.bool b)) := by
  obtain ⟨q, HQ⟩ : ∃ q, Hid (evenV Ws = q) := ⟨_, rfl⟩
  have HC := Lib.hid (implEven v Ws q hW hT HQ w hv)
  have e : b = !q := by rw [← HB.out, HQ.out]
  subst e
  obtain ⟨av, cv, rfl, _⟩ := hv
  clear hT
  go_enter Tryz.func65, Tryz.ntmps65
  go_wp2_with fail
  refine HC.out.mono ?_
  rintro e w1 ⟨rfl, hB⟩
  go_wp2_with fail
  go_ret
  exact ⟨by cases q <;> rfl, hB⟩

/-- The closure: has a way no cells? -/
theorem bareOne (u : Value) (L : List Int) (r : Bool) (_ : L.length ≤ 2000000) (HR : Hid (decide (L.length = 0) = r)) (W : World) (hu : Ints W u L) :
    Calls Tryz.prog 105 #[.agg #[u]] W (Made W (.bool r)) := by
  obtain ⟨au, cu, rfl, _⟩ := ints_form hu
  have hba := (Below.refl W.heap.size W).alloc (Nat.le_refl _) (.cells #[.slice au L.length cu] 51)
  have HBA := Lib.hid hba
  have d6 : (W.alloc (.cells #[.slice au L.length cu] 51)).cell? ⟨W.heap.size, 0, none⟩ = some (.slice au L.length cu) := by
    rw [cell_of_row _ _ _ _ _ _ (heap_alloc_new W _)]; rfl
  clear hba hu
  by_cases e : L.length = 0
  · obtain rfl : r = true := by rw [← HR.out]; exact decide_eq_true e
    have hb : ((L.length : Int) == 0) = true := by rw [beq_iff_eq]; omega
    clear e
    go_enter Tryz.func105, Tryz.ntmps105
    go_wp2
    go_ret
    exact ⟨rfl, (by first | exact HBA.out | exact below_drewN HBA.out _)⟩
  · obtain rfl : r = false := by rw [← HR.out]; exact decide_eq_false e
    have hb : ((L.length : Int) == 0) = false := by rw [beq_eq_false_iff_ne]; omega
    clear e
    go_enter Tryz.func105, Tryz.ntmps105
    go_wp2
    go_ret
    exact ⟨rfl, (by first | exact HBA.out | exact below_drewN HBA.out _)⟩
theorem Tryz.entersBare : ∀ args w, (callFunc 105 args).run Tryz.prog w = .ok (.enter 105 args) w := enters_of Tryz.func105 (by kernel_rfl) rfl

set_option maxHeartbeats 2000000 in
theorem implIndexP (v : Value) (Ws : List (List Int)) (hW : Ws.length ≤ 2000000) (hT : totW Ws ≤ 2000000) (w : World) (hv : WaysAt w v Ws) :
    Calls Tryz.prog 134 #[v, .func (.func 105) #[] #[]] w fun e w' => ∃ z : Int, Hid (decide (z ≥ 0) = bareV Ws ∧ -1 ≤ z ∧ z ≤ 2000000) ∧ e = .returned (.int .i64 z) ∧ Below w.heap.size w w' := by
  have HVV := Lib.hid hv
  have HTh := Lib.hid hT
  have eg := Tryz.entersBare
  obtain ⟨av, cv, rfl, _⟩ := hv
  clear hT
  go_enter Tryz.func134, Tryz.ntmps134
  go_wp2
  go_loopw [5, 8] (fun _ i wr => ∃ j : Nat, j ≤ Ws.length ∧ i = .int .i64 j ∧ Hid (∀ (a : Nat) L, a < j → Ws[a]? = some L → L.length ≠ 0) ∧ Below w.heap.size w wr) (fun _ i _ => Ws.length - (intOf i).toNat)
  case atStart => exact ⟨0, Nat.zero_le _, rfl, Lib.hid fun a x h => absurd h (by omega), Below.refl _ _⟩
  case round =>
    obtain ⟨j, hj, rfl, HK2, hB⟩ := hrel
    by_cases hlt : j < Ws.length
    · have hlt2 : (j : Int) < (Ws.length : Int) := by omega
      obtain ⟨L, hx⟩ : ∃ L, Ws[j]? = some L := ⟨_, List.getElem?_eq_getElem hlt⟩
      have hvr := waysAt_on HVV.out hB
      obtain ⟨g, au, _, e, hg, u, bu, rfl, d1, hI⟩ := way_at hvr hx
      injection e with e1 e2 e3
      subst e1
      have hLl : L.length ≤ 2000000 := by have := totW_one hx; have := HTh.out; omega
      obtain ⟨r, HR⟩ : ∃ r, Hid (decide (L.length = 0) = r) := ⟨_, rfl⟩
      have HC := Lib.hid (bareOne _ L r hLl HR wr hI)
      have HX := Lib.hid hx
      have HBR := Lib.hid hB
      clear hx hvr hI e2 e3 hB hLl
      cases r with
      | true =>
        go_wp2_with (go_at_fn 105; refine HC.out.mono ?_; rintro e w' ⟨rfl, hb'⟩; have HB2 := Lib.hid (HBR.out.trans (hb'.mono HBR.out.size)); clear hb')
        go_ret
        refine ⟨(j : Int), Lib.hid ⟨?_, by omega, by omega⟩, rfl, HB2.out⟩
        rw [decide_eq_true (by omega)]
        unfold bareV
        exact (List.any_eq_true.2 ⟨L, List.mem_of_getElem? HX.out, HR.out⟩).symm
      | false =>
        go_wp2_with (go_at_fn 105; refine HC.out.mono ?_; rintro e w' ⟨rfl, hb'⟩; have HB2 := Lib.hid (HBR.out.trans (hb'.mono HBR.out.size)); clear hb')
        go_roundw
        case rel => exact ⟨j + 1, by omega, by go_num, Lib.hid fun a M ha hz => (by
          rcases Nat.lt_succ_iff_lt_or_eq.1 ha with h | h
          · exact HK2.out a M h hz
          · rw [h, HX.out] at hz
            cases hz
            exact of_decide_eq_false HR.out), HB2.out⟩
        case measure => simp [intOf]; omega
    · obtain rfl : j = Ws.length := by omega
      have hnl : ¬ (Ws.length : Int) < (Ws.length : Int) := by omega
      go_wp2
      go_ret
      refine ⟨-1, Lib.hid ⟨?_, by omega, by omega⟩, rfl, hB⟩
      rw [decide_eq_false (by omega)]
      unfold bareV
      refine (List.any_eq_false.2 fun L hL => ?_).symm
      obtain ⟨i, hi, rfl⟩ := List.getElem_of_mem hL
      have := HK2.out i _ hi (List.getElem?_eq_getElem hi)
      simpa using this

theorem implBare (v : Value) (Ws : List (List Int)) (b : Bool) (hW : Ws.length ≤ 2000000) (hT : totW Ws ≤ 2000000) (HB : Hid (bareV Ws = b)) (w : World) (hv : WaysAt w v Ws) :
    Calls Tryz.prog 66 #[v] w (Made w (.bool b)) := by
  have HI := Lib.hid (implIndexP v Ws hW hT w hv)
  have HC : Hid (Calls Tryz.prog 104 #[v, .func (.func 105) #[] #[]] w (Made w (.bool b))) := by
    obtain ⟨av, cv, rfl, _⟩ := hv
    clear hT
    refine Lib.hid ?_
    go_enter Tryz.func104, Tryz.ntmps104
    go_wp2_with fail
    refine HI.out.mono ?_
    rintro e w1 ⟨z, HZ, rfl, hB⟩
    have HBB := Lib.hid hB
    have HE : Hid (decide (0 ≤ z) = b) := Lib.hid (HZ.out.1.trans HB.out)
    clear hB
    go_wp2_with fail
    go_ret
    refine ⟨?_, HBB.out⟩
    show Ending.returned (.bool (decide (0 ≤ z))) = _
    rw [HE.out]
  obtain ⟨av, cv, rfl, _⟩ := hv
  clear hT
  go_enter Tryz.func66, Tryz.ntmps66
  go_wp2_with fail
  refine HC.out.mono ?_
  rintro e w1 ⟨rfl, hB⟩
  go_wp2_with fail
  go_ret
  exact ⟨rfl, hB⟩

set_option maxHeartbeats 2000000 in
theorem implMeeting (v : Value) (Ws : List (List Int)) (b : Bool) (hW : Ws.length ≤ 2000000) (hT : totW Ws ≤ 2000000) (HB : Hid (meetsV Ws = b)) (w : World) (hv : WaysAt w v Ws) :
    Calls Tryz.prog 67 #[v] w (Made w (.bool b)) := by
  have HL : Hid (∀ (t : Nat) r (wr : World), t ≤ 2000000 → Hid (levV Ws (t : Int) = r) → Below w.heap.size w wr → Calls Tryz.prog 17 #[v, .int .i64 (t : Int)] wr (Made wr (.bool r))) := Lib.hid fun t r wr ht HR hB => implLevel v Ws t r hW hT HR wr (waysAt_on hv hB) (wf_few ht)
  have HM : Hid (∀ (t : Nat) r (wr : World), t ≤ 2000000 → Hid (meetV Ws (t : Int) = r) → Below w.heap.size w wr → Calls Tryz.prog 16 #[v, .int .i64 (t : Int)] wr (Made wr (.bool r))) := Lib.hid fun t r wr ht HR hB => implMeet v Ws t r hW hT HR wr (waysAt_on hv hB) (wf_few ht)
  have hwd : wideV Ws ≤ 2000000 := by
    unfold wideV
    cases Ws with
    | nil => simp
    | cons a Ws => have := totW_one (Ws := a :: Ws) (k := 0) rfl; simpa using (by omega : a.length ≤ 2000000)
  obtain ⟨av, cv, rfl, _⟩ := hv
  clear hT
  go_enter Tryz.func67, Tryz.ntmps67
  go_wp2
  go_loopw [3] (fun i wr => ∃ j : Nat, j ≤ wideV Ws ∧ i = .int .i64 j ∧ Hid (∀ t : Nat, t < j → meetV Ws (t : Int) = false) ∧ Below w.heap.size w wr) (fun i _ => wideV Ws + 1 - (intOf i).toNat)
  case atStart => exact ⟨0, Nat.zero_le _, rfl, Lib.hid fun a h => absurd h (by omega), Below.refl _ _⟩
  case round =>
    obtain ⟨j, hj, rfl, HK, hB⟩ := hrel
    obtain ⟨r, HR⟩ : ∃ r, Hid (levV Ws (j : Int) = r) := ⟨_, rfl⟩
    obtain ⟨q, HQ⟩ : ∃ q, Hid (meetV Ws (j : Int) = q) := ⟨_, rfl⟩
    have H1 := Lib.hid (HL.out j r wr (by omega) HR hB)
    have HBR := Lib.hid hB
    clear hB
    cases r with
    | false =>
      obtain rfl : b = false := by
        rw [← HB.out]
        refine meets_no fun t ht => ?_
        by_cases h : t < j
        · exact HK.out t h
        · refine meet_lev ?_
          cases e : levV Ws (t : Int) with
          | false => rfl
          | true =>
            have h2 := lev_iff.1 e
            have := lev_yes h2.1 (t := (j : Int)) (by omega) (by omega)
            rw [HR.out] at this
            cases this
      go_wp2_with fail
      refine H1.out.mono ?_
      rintro e w1 ⟨rfl, hb⟩
      have HB2 := Lib.hid (HBR.out.trans (hb.mono HBR.out.size))
      clear hb
      go_wp2_with fail
      go_ret
      exact ⟨rfl, HB2.out⟩
    | true =>
      have hjw := (lev_iff.1 HR.out).2.2
      go_wp2_with fail
      refine H1.out.mono ?_
      rintro e w1 ⟨rfl, hb⟩
      have HB2 := Lib.hid (HBR.out.trans (hb.mono HBR.out.size))
      clear hb
      go_wp2_with fail
      refine (HM.out j q w1 (by omega) HQ HB2.out).mono ?_
      rintro e w2 ⟨rfl, hb⟩
      have HB3 := Lib.hid (HB2.out.trans (hb.mono HB2.out.size))
      clear hb
      cases q with
      | true =>
        obtain rfl : b = true := by rw [← HB.out]; exact meets_yes HQ.out
        go_wp2_with fail
        go_ret
        exact ⟨rfl, HB3.out⟩
      | false =>
        go_wp2_with fail
        go_roundw
        case rel => exact ⟨j + 1, by omega, by go_num, Lib.hid fun t ht => (by
          rcases Nat.lt_succ_iff_lt_or_eq.1 ht with h | h
          · exact HK.out t h
          · rw [h]; exact HQ.out), HB3.out⟩
        case measure => simp [intOf]; omega

end Go.Proofs.YtkbfbifepaoojaaGreatDoor

namespace Go.Proofs.YtkbfbifepaoojaaGreatDoor
set_option maxRecDepth 4096
open Go.ChangeShapes Go.WideShapes Go.ChangeAt Go.RowKit

theorem Tryz.entersUneven : ∀ args w, (callFunc 65 args).run Tryz.prog w = .ok (.enter 65 args) w := enters_of Tryz.func65 (by kernel_rfl) rfl
theorem Tryz.entersBareM : ∀ args w, (callFunc 66 args).run Tryz.prog w = .ok (.enter 66 args) w := enters_of Tryz.func66 (by kernel_rfl) rfl
theorem Tryz.entersMeeting : ∀ args w, (callFunc 67 args).run Tryz.prog w = .ok (.enter 67 args) w := enters_of Tryz.func67 (by kernel_rfl) rfl
theorem Tryz.entersReg : ∀ args w, (callFunc 69 args).run Tryz.prog w = .ok (.enter 69 args) w := enters_of Tryz.func69 (by kernel_rfl) rfl

/-- The closure: has a fault these ways? -/
theorem regOne (f : FuncId) (b : Nat) (v : Value) (r : Bool) (W : World) (eg : ∀ args w, (callFunc f args).run Tryz.prog w = .ok (.enter f args) w) (hc : W.cell? ⟨b, 0, none⟩ = some v) (HC : Hid (Calls Tryz.prog f #[v] W (Made W (.bool r)))) :
    Calls Tryz.prog 69 #[.func (.func f) #[] #[], .pointer (some ⟨b, 0, none⟩)] W (Made W (.bool r)) := by
  go_enter Tryz.func69, Tryz.ntmps69
  go_wp2_with (go_at_fn f; refine HC.out.mono ?_; rintro e w' ⟨rfl, hb'⟩; have HB2 := Lib.hid hb'; clear hb')
  go_ret
  exact ⟨rfl, HB2.out⟩

/-- The table. -/
def faultsL : List Value := [.func (.func 65) #[] #[], .func (.func 66) #[] #[], .func (.func 67) #[] #[]]
/-- Which of the faults the ways have. -/
def faultV (Ws : List (List Int)) : Nat → Bool
  | 0 => !evenV Ws
  | 1 => bareV Ws
  | _ => meetsV Ws
theorem faultOne (r : Bool) (j b : Nat) (u v : Value) (Ws : List (List Int)) (hj : faultsL[j]? = some u) (hW : Ws.length ≤ 2000000) (hT : totW Ws ≤ 2000000) (W : World) (hv : WaysAt W v Ws) (hc : W.cell? ⟨b, 0, none⟩ = some v) (HR : Hid (faultV Ws j = r)) :
    Calls Tryz.prog 69 #[u, .pointer (some ⟨b, 0, none⟩)] W (Made W (.bool r)) := by
  match j, hj with
  | 0, hj => cases hj; exact regOne _ b v r W Tryz.entersUneven hc (Lib.hid (implUneven v Ws r hW hT HR W hv))
  | 1, hj => cases hj; exact regOne _ b v r W Tryz.entersBareM hc (Lib.hid (implBare v Ws r hW hT HR W hv))
  | 2, hj => cases hj; exact regOne _ b v r W Tryz.entersMeeting hc (Lib.hid (implMeeting v Ws r hW hT HR W hv))

set_option maxHeartbeats 2000000 in
theorem implIndexR (g b : Nat) (v : Value) (Ws : List (List Int)) (hW : Ws.length ≤ 2000000) (hT : totW Ws ≤ 2000000) (w : World) (hv : WaysAt w v Ws) (hc : w.cell? ⟨b, 0, none⟩ = some v) (hb : b < w.heap.size) (hg : g < w.heap.size) (hf : ∀ (j : Nat) u, faultsL[j]? = some u → w.cell? ⟨g, j, none⟩ = some u) :
    Calls Tryz.prog 106 #[.slice (some ⟨g, 0, none⟩) 3 3, .func (.func 69) #[] #[.pointer (some ⟨b, 0, none⟩)]] w fun e w' => ∃ z : Int, Hid (decide (z ≥ 0) = (faultV Ws 0 || faultV Ws 1 || faultV Ws 2) ∧ -1 ≤ z ∧ z ≤ 2000000) ∧ e = .returned (.int .i64 z) ∧ Below w.heap.size w w' := by
  have HVV := Lib.hid hv
  have HTh := Lib.hid hT
  have HF := Lib.hid hf
  have HC := Lib.hid hc
  have eg := Tryz.entersReg
  clear hT hv hf hc
  go_enter Tryz.func106, Tryz.ntmps106
  go_wp2
  go_loopw [5, 8] (fun _ i wr => ∃ j : Nat, j ≤ 3 ∧ i = .int .i64 j ∧ Hid (∀ a : Nat, a < j → faultV Ws a = false) ∧ Below w.heap.size w wr) (fun _ i _ => 3 - (intOf i).toNat)
  case atStart => exact ⟨0, Nat.zero_le _, rfl, Lib.hid fun a h => absurd h (by omega), Below.refl _ _⟩
  case round =>
    obtain ⟨j, hj, rfl, HK2, hB⟩ := hrel
    by_cases hlt : j < 3
    · have hlt2 : (j : Int) < 3 := by omega
      obtain ⟨u, hu⟩ : ∃ u, faultsL[j]? = some u := ⟨_, List.getElem?_eq_getElem (by simpa [faultsL] using hlt)⟩
      obtain ⟨r, HR⟩ : ∃ r, Hid (faultV Ws j = r) := ⟨_, rfl⟩
      have d1 := (hB.cell (p := ⟨g, j, none⟩) hg).trans (HF.out j u hu)
      have HO := Lib.hid (faultOne r j b u v Ws hu hW HTh.out wr (waysAt_on HVV.out hB) ((hB.cell (p := ⟨b, 0, none⟩) hb).trans HC.out) HR)
      have HBR := Lib.hid hB
      clear hB hu
      cases r with
      | true =>
        go_wp2_with (go_at_fn 69; refine HO.out.mono ?_; rintro e w' ⟨rfl, hb'⟩; have HB2 := Lib.hid (HBR.out.trans (hb'.mono HBR.out.size)); clear hb')
        go_ret
        refine ⟨(j : Int), Lib.hid ⟨?_, by omega, by omega⟩, rfl, HB2.out⟩
        rw [decide_eq_true (by omega)]
        have := HR.out
        match j, hlt with
        | 0, _ => rw [this]; rfl
        | 1, _ => rw [this]; simp
        | 2, _ => rw [this]; simp
      | false =>
        go_wp2_with (go_at_fn 69; refine HO.out.mono ?_; rintro e w' ⟨rfl, hb'⟩; have HB2 := Lib.hid (HBR.out.trans (hb'.mono HBR.out.size)); clear hb')
        go_roundw
        case rel => exact ⟨j + 1, by omega, by go_num, Lib.hid fun a ha => (by
          rcases Nat.lt_succ_iff_lt_or_eq.1 ha with h | h
          · exact HK2.out a h
          · rw [h]; exact HR.out), HB2.out⟩
        case measure => simp [intOf]; omega
    · obtain rfl : j = 3 := by omega
      go_wp2
      go_ret
      refine ⟨-1, Lib.hid ⟨?_, by omega, by omega⟩, rfl, hB⟩
      rw [decide_eq_false (by omega), HK2.out 0 (by omega), HK2.out 1 (by omega), HK2.out 2 (by omega)]
      rfl

set_option maxHeartbeats 2000000 in
theorem implContainsR (g b : Nat) (v : Value) (Ws : List (List Int)) (q : Bool) (hW : Ws.length ≤ 2000000) (hT : totW Ws ≤ 2000000) (HQ : Hid ((faultV Ws 0 || faultV Ws 1 || faultV Ws 2) = q)) (w : World) (hv : WaysAt w v Ws) (hc : w.cell? ⟨b, 0, none⟩ = some v) (hb : b < w.heap.size) (hg : g < w.heap.size) (hf : ∀ (j : Nat) u, faultsL[j]? = some u → w.cell? ⟨g, j, none⟩ = some u) :
    Calls Tryz.prog 68 #[.slice (some ⟨g, 0, none⟩) 3 3, .func (.func 69) #[] #[.pointer (some ⟨b, 0, none⟩)]] w (Made w (.bool q)) := by
  have HI := Lib.hid (implIndexR g b v Ws hW hT w hv hc hb hg hf)
  clear hv hT hc hf hb hg
  go_enter Tryz.func68, Tryz.ntmps68
  go_wp2_with fail
  refine HI.out.mono ?_
  rintro e w1 ⟨z, HZ, rfl, hB⟩
  have HBB := Lib.hid hB
  have HE : Hid (decide (0 ≤ z) = q) := Lib.hid (HZ.out.1.trans HQ.out)
  clear hB
  go_wp2_with fail
  go_ret
  refine ⟨?_, HBB.out⟩
  show Ending.returned (.bool (decide (0 ≤ z))) = _
  rw [HE.out]

set_option maxHeartbeats 2000000 in
theorem implRegular (v : Value) (Ws : List (List Int)) (b : Bool) (hW : Ws.length ≤ 2000000) (hT : totW Ws ≤ 2000000) (HB : Hid (regV Ws = b)) (w : World) (hv : WaysAt w v Ws) :
    Calls Tryz.prog 30 #[v] w (Made w (.bool b)) := by
  obtain ⟨q, HQ⟩ : ∃ q, Hid ((faultV Ws 0 || faultV Ws 1 || faultV Ws 2) = q) := ⟨_, rfl⟩
  have e : b = !q := by rw [← HB.out, reg_is, ← HQ.out]; rfl
  subst e
  have hb0 := (Below.refl w.heap.size w).alloc (Nat.le_refl _) (.cells #[v] 27)
  have hb1 := (Below.refl (w.alloc (.cells #[v] 27)).heap.size (w.alloc (.cells #[v] 27))).alloc (Nat.le_refl _) (.cells #[.func (.func 65) #[] #[], .func (.func 66) #[] #[], .func (.func 67) #[] #[]] 104)
  have hB := hb0.trans (hb1.mono hb0.size)
  have h0 : ((w.alloc (.cells #[v] 27)).alloc (.cells #[.func (.func 65) #[] #[], .func (.func 66) #[] #[], .func (.func 67) #[] #[]] 104)).heap[w.heap.size]? = some (.cells #[v] 27 (0, 0)) := (hb1.block w.heap.size (by simp)).trans (heap_alloc_new w _)
  have h1 := heap_alloc_new (w.alloc (.cells #[v] 27)) (.cells #[.func (.func 65) #[] #[], .func (.func 66) #[] #[], .func (.func 67) #[] #[]] 104)
  rw [World.size_alloc] at h1
  have HC := Lib.hid (implContainsR (w.heap.size + 1) w.heap.size v Ws q hW hT HQ _ (waysAt_on hv hB) (by rw [cell_of_row _ _ _ _ _ _ h0]; rfl) (by simp; omega) (by simp) (fun j u hj => by
    rw [cell_of_row _ _ _ _ _ _ h1]
    match j, hj with
    | 0, hj => cases hj; rfl
    | 1, hj => cases hj; rfl
    | 2, hj => cases hj; rfl))
  have HBB := Lib.hid hB
  obtain ⟨av, cv, rfl, _⟩ := hv
  clear hT hb0 hb1 hB h0 h1
  go_enter Tryz.func30, Tryz.ntmps30
  go_wp2_with fail
  refine HC.out.mono ?_
  rintro e w1 ⟨rfl, hb⟩
  have HB2 := Lib.hid (HBB.out.trans (hb.mono HBB.out.size))
  clear hb
  go_wp2_with fail
  go_ret
  exact ⟨rfl, HB2.out⟩

end Go.Proofs.YtkbfbifepaoojaaGreatDoor

