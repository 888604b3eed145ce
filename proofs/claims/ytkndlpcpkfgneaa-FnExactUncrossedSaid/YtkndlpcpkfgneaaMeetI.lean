/-
  CONTRACT of the program's MeetAt. No law is proved here.
-/
import Derived.Test.YtkndlpcpkfgneaaColI
namespace Go.Proofs.Ytkndlpcpkfgneaa
set_option maxRecDepth 4096
open Go.ChangeShapes Go.WideShapes Go.ChangeAt Go.RowKit

theorem lev_out {Ws : List (List Int)} {t : Int} (h : levV Ws t = true) : ∃ n : Nat, t = (n : Int) := ⟨t.toNat, by have := (lev_iff.1 h).2.1; omega⟩
theorem lev_lens {Ws : List (List Int)} {t : Nat} (h : levV Ws (t : Int) = true) (hT : totW Ws ≤ 2000000) : ∀ (i : Nat) L, Ws[i]? = some L → t < L.length ∧ t + 1 < L.length ∧ L.length ≤ 2000000 := fun i L hL => by
  have h1 := lev_iff.1 h
  have h2 := (even_iff.1 h1.1).2.2 i L hL
  have h3 := totW_one hL
  omega

set_option maxHeartbeats 2000000 in
theorem implMeet (v : Value) (Ws : List (List Int)) (t : Int) (b : Bool) (hW : Ws.length ≤ 2000000) (hT : totW Ws ≤ 2000000) (HB : Hid (meetV Ws t = b)) (w : World) (hv : WaysAt w v Ws) (hwf : (Lit.int .i64 t).wf = true) :
    Calls Try.prog 54 #[v, .int .i64 t] w (Made w (.bool b)) := by
  obtain ⟨r, HR⟩ : ∃ r, Hid (levV Ws t = r) := ⟨_, rfl⟩
  have HC := Lib.hid (implLevel v Ws t r hW hT HR w hv hwf)
  have HVV := Lib.hid hv
  have HTh := Lib.hid hT
  obtain ⟨av, cv, rfl, _⟩ := hv
  clear hT hwf
  cases r with
  | false =>
    have e : b = false := by rw [← HB.out]; exact meet_lev HR.out
    subst e
    go_enter Try.func54, Try.ntmps54
    go_wp2_with fail
    refine HC.out.mono ?_
    rintro e w1 ⟨rfl, hB⟩
    go_wp2_with fail
    go_ret
    exact ⟨rfl, hB⟩
  | true =>
    obtain ⟨n, rfl⟩ := lev_out HR.out
    have hlens := lev_lens HR.out HTh.out
    obtain ⟨A, HA⟩ : ∃ A, Hid (colL Ws n = A) := ⟨_, rfl⟩
    obtain ⟨A2, HA2⟩ : ∃ A2, Hid (colL Ws (n + 1) = A2) := ⟨_, rfl⟩
    have hAl : A.length = Ws.length := by rw [← HA.out]; exact col_len
    have hA2l : A2.length = Ws.length := by rw [← HA2.out]; exact col_len
    have hm : (!decide A.Nodup || !decide A2.Nodup) = b := by rw [← HB.out, meet_of HR.out, HA.out, HA2.out]
    have hne : 1 ≤ Ws.length := (even_iff.1 (lev_iff.1 HR.out).1).1
    obtain ⟨L0, hx0⟩ : ∃ L0, Ws[0]? = some L0 := ⟨_, List.getElem?_eq_getElem (by omega)⟩
    have hb0 := hlens 0 L0 hx0
    have HL1 := Lib.hid (fun (i : Nat) L (h : Ws[i]? = some L) => And.intro (hlens i L h).1 (hlens i L h).2.2)
    have HL2 := Lib.hid (fun (i : Nat) L (h : Ws[i]? = some L) => And.intro (hlens i L h).2.1 (hlens i L h).2.2)
    have hwr : IntKind.i64.wrap ((n : Int) + 1) = ((n + 1 : Nat) : Int) := by rw [IntWalk.i64_in _ (by omega)]; omega
    have HM := Lib.hid hm
    have HF1 := Lib.hid (once_full (L := A))
    have HF2 := Lib.hid (once_full (L := A2))
    rw [hAl] at HF1
    rw [hA2l] at HF2
    clear hlens hx0 hb0 hm hAl hA2l
    by_cases h1 : (onceL A).length < Ws.length
    · have e : b = true := by rw [← HM.out, decide_eq_false (HF1.out.1 h1)]; rfl
      subst e
      have h1i : ((onceL A).length : Int) < (Ws.length : Int) := by omega
      go_enter Try.func54, Try.ntmps54
      go_wp2_with fail
      refine HC.out.mono ?_
      rintro e w1 ⟨rfl, hB⟩
      go_wp2_with fail
      refine (implCol _ Ws n A hW HL1.out HA _ (waysAt_on HVV.out hB)).mono ?_
      rintro e w2 ⟨a2, c2, rfl, hb⟩
      replace hB := hB.trans (hb.mono hB.size)
      clear hb
      go_wp2_with fail
      go_ret
      exact ⟨rfl, hB⟩
    · have h1i : ¬ ((onceL A).length : Int) < (Ws.length : Int) := by omega
      have hn1 : A.Nodup := Decidable.byContradiction fun h => h1 (HF1.out.2 h)
      have HN1 := Lib.hid hn1
      clear hn1
      by_cases h2 : (onceL A2).length < Ws.length
      · have e : b = true := by rw [← HM.out, decide_eq_false (HF2.out.1 h2)]; simp
        subst e
        have h2i : ((onceL A2).length : Int) < (Ws.length : Int) := by omega
        go_enter Try.func54, Try.ntmps54
        go_wp2_with fail
        refine HC.out.mono ?_
        rintro e w1 ⟨rfl, hB⟩
        go_wp2_with fail
        refine (implCol _ Ws n A hW HL1.out HA _ (waysAt_on HVV.out hB)).mono ?_
        rintro e w2 ⟨a2, c2, rfl, hb⟩
        replace hB := hB.trans (hb.mono hB.size)
        clear hb
        go_wp2_with fail
        refine (implCol _ Ws (n + 1) A2 hW HL2.out HA2 _ (waysAt_on HVV.out hB)).mono ?_
        rintro e w3 ⟨a3, c3, rfl, hb⟩
        replace hB := hB.trans (hb.mono hB.size)
        clear hb
        go_wp2_with fail
        go_ret
        exact ⟨rfl, hB⟩
      · have h2i : ¬ ((onceL A2).length : Int) < (Ws.length : Int) := by omega
        have hn2 : A2.Nodup := Decidable.byContradiction fun h => h2 (HF2.out.2 h)
        have e : b = false := by rw [← HM.out, decide_eq_true HN1.out, decide_eq_true hn2]; rfl
        subst e
        clear hn2
        go_enter Try.func54, Try.ntmps54
        go_wp2_with fail
        refine HC.out.mono ?_
        rintro e w1 ⟨rfl, hB⟩
        go_wp2_with fail
        refine (implCol _ Ws n A hW HL1.out HA _ (waysAt_on HVV.out hB)).mono ?_
        rintro e w2 ⟨a2, c2, rfl, hb⟩
        replace hB := hB.trans (hb.mono hB.size)
        clear hb
        go_wp2_with fail
        refine (implCol _ Ws (n + 1) A2 hW HL2.out HA2 _ (waysAt_on HVV.out hB)).mono ?_
        rintro e w3 ⟨a3, c3, rfl, hb⟩
        replace hB := hB.trans (hb.mono hB.size)
        clear hb
        go_wp2_with fail
        go_ret
        exact ⟨rfl, hB⟩

end Go.Proofs.Ytkndlpcpkfgneaa
