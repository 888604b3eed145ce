/-
  CONTRACT of the program's regular: the table of faults is gone through. No law is proved here.
-/
import Derived.Test.YtkndlpcpkfgneaaRegI
namespace Go.Proofs.Ytkndlpcpkfgneaa
set_option maxRecDepth 4096
open Go.ChangeShapes Go.WideShapes Go.ChangeAt Go.RowKit

theorem Try.entersUneven : ∀ args w, (callFunc 38 args).run Try.prog w = .ok (.enter 38 args) w := enters_of Try.func38 (by kernel_rfl) rfl
theorem Try.entersBareM : ∀ args w, (callFunc 39 args).run Try.prog w = .ok (.enter 39 args) w := enters_of Try.func39 (by kernel_rfl) rfl
theorem Try.entersMeeting : ∀ args w, (callFunc 40 args).run Try.prog w = .ok (.enter 40 args) w := enters_of Try.func40 (by kernel_rfl) rfl
theorem Try.entersReg : ∀ args w, (callFunc 42 args).run Try.prog w = .ok (.enter 42 args) w := enters_of Try.func42 (by kernel_rfl) rfl

/-- The closure: has a fault these ways? -/
theorem regOne (f : FuncId) (b : Nat) (v : Value) (r : Bool) (W : World) (eg : ∀ args w, (callFunc f args).run Try.prog w = .ok (.enter f args) w) (hc : W.cell? ⟨b, 0, none⟩ = some v) (HC : Hid (Calls Try.prog f #[v] W (Made W (.bool r)))) :
    Calls Try.prog 42 #[.func (.func f) #[] #[], .pointer (some ⟨b, 0, none⟩)] W (Made W (.bool r)) := by
  go_enter Try.func42, Try.ntmps42
  go_wp2_with (go_at_fn f; refine HC.out.mono ?_; rintro e w' ⟨rfl, hb'⟩; have HB2 := Lib.hid hb'; clear hb')
  go_ret
  exact ⟨rfl, HB2.out⟩

/-- The table. -/
def faultsL : List Value := [.func (.func 38) #[] #[], .func (.func 39) #[] #[], .func (.func 40) #[] #[]]
/-- Which of the faults the ways have. -/
def faultV (Ws : List (List Int)) : Nat → Bool
  | 0 => !evenV Ws
  | 1 => bareV Ws
  | _ => meetsV Ws
theorem faultOne (r : Bool) (j b : Nat) (u v : Value) (Ws : List (List Int)) (hj : faultsL[j]? = some u) (hW : Ws.length ≤ 2000000) (hT : totW Ws ≤ 2000000) (W : World) (hv : WaysAt W v Ws) (hc : W.cell? ⟨b, 0, none⟩ = some v) (HR : Hid (faultV Ws j = r)) :
    Calls Try.prog 42 #[u, .pointer (some ⟨b, 0, none⟩)] W (Made W (.bool r)) := by
  match j, hj with
  | 0, hj => cases hj; exact regOne _ b v r W Try.entersUneven hc (Lib.hid (implUneven v Ws r hW hT HR W hv))
  | 1, hj => cases hj; exact regOne _ b v r W Try.entersBareM hc (Lib.hid (implBare v Ws r hW hT HR W hv))
  | 2, hj => cases hj; exact regOne _ b v r W Try.entersMeeting hc (Lib.hid (implMeeting v Ws r hW hT HR W hv))

set_option maxHeartbeats 2000000 in
theorem implIndexR (g b : Nat) (v : Value) (Ws : List (List Int)) (hW : Ws.length ≤ 2000000) (hT : totW Ws ≤ 2000000) (w : World) (hv : WaysAt w v Ws) (hc : w.cell? ⟨b, 0, none⟩ = some v) (hb : b < w.heap.size) (hg : g < w.heap.size) (hf : ∀ (j : Nat) u, faultsL[j]? = some u → w.cell? ⟨g, j, none⟩ = some u) :
    Calls Try.prog 55 #[.slice (some ⟨g, 0, none⟩) 3 3, .func (.func 42) #[] #[.pointer (some ⟨b, 0, none⟩)]] w fun e w' => ∃ z : Int, Hid (decide (z ≥ 0) = (faultV Ws 0 || faultV Ws 1 || faultV Ws 2) ∧ -1 ≤ z ∧ z ≤ 2000000) ∧ e = .returned (.int .i64 z) ∧ Below w.heap.size w w' := by
  have HVV := Lib.hid hv
  have HTh := Lib.hid hT
  have HF := Lib.hid hf
  have HC := Lib.hid hc
  have eg := Try.entersReg
  clear hT hv hf hc
  go_enter Try.func55, Try.ntmps55
  go_wp2
  go_loopw [5, 8] (fun _ i wr => ∃ j : Nat, j ≤ 3 ∧ i = .int .i64 j ∧ Hid (∀ a : Nat, a < j → faultV Ws a = false) ∧ Below w.heap.size w wr) (fun _ i _ => 3 - (intOf i).toNat)
  case atStart => exact ⟨0, Nat.zero_le _, rfl, Lib.hid fun a h => absurd h (by omega), Below.refl _ _⟩
  case round =>
    obtain ⟨j, hj, rfl, HK2, hB⟩ := hrel
    by_cases hlt : j < 3
    · have hlt2 : (j : Int) < 3 := by omega
      obtain ⟨u, hu⟩ : ∃ u, faultsL[j]? = some u := ⟨_, List.getElem?_eq_getElem (by simpa [faultsL] using hlt)⟩
      obtain ⟨r, HR⟩ : ∃ r, Hid (faultV Ws j = r) := ⟨_, rfl⟩
      have d1 := (hB.cell (p := ⟨g, j, none⟩) hg).trans (HF.out j u hu)
      have HO := Lib.hid (faultOne r j b u v Ws hu hW HTh.out wr (waysAt_on HVV.out hB) ((hB.cell (p := ⟨b, 0, none⟩) hb).trans HC.out) HR)
      have HBR := Lib.hid hB
      clear hB hu
      cases r with
      | true =>
        go_wp2_with (go_at_fn 42; refine HO.out.mono ?_; rintro e w' ⟨rfl, hb'⟩; have HB2 := Lib.hid (HBR.out.trans (hb'.mono HBR.out.size)); clear hb')
        go_ret
        refine ⟨(j : Int), Lib.hid ⟨?_, by omega, by omega⟩, rfl, HB2.out⟩
        rw [decide_eq_true (by omega)]
        have := HR.out
        match j, hlt with
        | 0, _ => rw [this]; rfl
        | 1, _ => rw [this]; simp
        | 2, _ => rw [this]; simp
      | false =>
        go_wp2_with (go_at_fn 42; refine HO.out.mono ?_; rintro e w' ⟨rfl, hb'⟩; have HB2 := Lib.hid (HBR.out.trans (hb'.mono HBR.out.size)); clear hb')
        go_roundw
        case rel => exact ⟨j + 1, by omega, by go_num, Lib.hid fun a ha => (by
          rcases Nat.lt_succ_iff_lt_or_eq.1 ha with h | h
          · exact HK2.out a h
          · rw [h]; exact HR.out), HB2.out⟩
        case measure => simp [intOf]; omega
    · obtain rfl : j = 3 := by omega
      go_wp2
      go_ret
      refine ⟨-1, Lib.hid ⟨?_, by omega, by omega⟩, rfl, hB⟩
      rw [decide_eq_false (by omega), HK2.out 0 (by omega), HK2.out 1 (by omega), HK2.out 2 (by omega)]
      rfl

set_option maxHeartbeats 2000000 in
theorem implContainsR (g b : Nat) (v : Value) (Ws : List (List Int)) (q : Bool) (hW : Ws.length ≤ 2000000) (hT : totW Ws ≤ 2000000) (HQ : Hid ((faultV Ws 0 || faultV Ws 1 || faultV Ws 2) = q)) (w : World) (hv : WaysAt w v Ws) (hc : w.cell? ⟨b, 0, none⟩ = some v) (hb : b < w.heap.size) (hg : g < w.heap.size) (hf : ∀ (j : Nat) u, faultsL[j]? = some u → w.cell? ⟨g, j, none⟩ = some u) :
    Calls Try.prog 41 #[.slice (some ⟨g, 0, none⟩) 3 3, .func (.func 42) #[] #[.pointer (some ⟨b, 0, none⟩)]] w (Made w (.bool q)) := by
  have HI := Lib.hid (implIndexR g b v Ws hW hT w hv hc hb hg hf)
  clear hv hT hc hf hb hg
  go_enter Try.func41, Try.ntmps41
  go_wp2_with fail
  refine HI.out.mono ?_
  rintro e w1 ⟨z, HZ, rfl, hB⟩
  have HBB := Lib.hid hB
  have HE : Hid (decide (0 ≤ z) = q) := Lib.hid (HZ.out.1.trans HQ.out)
  clear hB
  go_wp2_with fail
  go_ret
  refine ⟨?_, HBB.out⟩
  show Ending.returned (.bool (decide (0 ≤ z))) = _
  rw [HE.out]

set_option maxHeartbeats 2000000 in
theorem implRegular (v : Value) (Ws : List (List Int)) (b : Bool) (hW : Ws.length ≤ 2000000) (hT : totW Ws ≤ 2000000) (HB : Hid (regV Ws = b)) (w : World) (hv : WaysAt w v Ws) :
    Calls Try.prog 22 #[v] w (Made w (.bool b)) := by
  obtain ⟨q, HQ⟩ : ∃ q, Hid ((faultV Ws 0 || faultV Ws 1 || faultV Ws 2) = q) := ⟨_, rfl⟩
  have e : b = !q := by rw [← HB.out, reg_is, ← HQ.out]; rfl
  subst e
  have hb0 := (Below.refl w.heap.size w).alloc (Nat.le_refl _) (.cells #[v] 24)
  have hb1 := (Below.refl (w.alloc (.cells #[v] 24)).heap.size (w.alloc (.cells #[v] 24))).alloc (Nat.le_refl _) (.cells #[.func (.func 38) #[] #[], .func (.func 39) #[] #[], .func (.func 40) #[] #[]] 50)
  have hB := hb0.trans (hb1.mono hb0.size)
  have h0 : ((w.alloc (.cells #[v] 24)).alloc (.cells #[.func (.func 38) #[] #[], .func (.func 39) #[] #[], .func (.func 40) #[] #[]] 50)).heap[w.heap.size]? = some (.cells #[v] 24 (0, 0)) := (hb1.block w.heap.size (by simp)).trans (heap_alloc_new w _)
  have h1 := heap_alloc_new (w.alloc (.cells #[v] 24)) (.cells #[.func (.func 38) #[] #[], .func (.func 39) #[] #[], .func (.func 40) #[] #[]] 50)
  rw [World.size_alloc] at h1
  have HC := Lib.hid (implContainsR (w.heap.size + 1) w.heap.size v Ws q hW hT HQ _ (waysAt_on hv hB) (by rw [cell_of_row _ _ _ _ _ _ h0]; rfl) (by simp; omega) (by simp) (fun j u hj => by
    rw [cell_of_row _ _ _ _ _ _ h1]
    match j, hj with
    | 0, hj => cases hj; rfl
    | 1, hj => cases hj; rfl
    | 2, hj => cases hj; rfl))
  have HBB := Lib.hid hB
  obtain ⟨av, cv, rfl, _⟩ := hv
  clear hT hb0 hb1 hB h0 h1
  go_enter Try.func22, Try.ntmps22
  go_wp2_with fail
  refine HC.out.mono ?_
  rintro e w1 ⟨rfl, hb⟩
  have HB2 := Lib.hid (HBB.out.trans (hb.mono HBB.out.size))
  clear hb
  go_wp2_with fail
  go_ret
  exact ⟨rfl, HB2.out⟩

end Go.Proofs.Ytkndlpcpkfgneaa
