/-
  CONTRACTS of spec.l12Ring, l12Count, SwapsAt and RingsAt. No law is proved here.
-/
import Derived.Test.YtkbfbifepaoojaaGreatDoorZPU14
namespace Go.Proofs.YtkbfbifepaoojaaGreatDoor
set_option maxRecDepth 4096
open Go.ChangeShapes Go.WideShapes Go.ChangeAt Go.RowKit

/-- What is found among the first j: the last one; there is at most one. -/
def Seen (A : List Int) (y : Int) (j : Nat) (z : Int) : Prop := (z = -1 ∧ ∀ (a : Nat) x, a < j → A[a]? = some x → x ≠ y) ∨ (∃ a : Nat, a < A.length ∧ z = (a : Int) ∧ A[a]? = some y)
theorem ringG_at (A B : List Int) (i f k n : Nat) : ringG A B i (f + 1) k n = (match nxtV A B k with | none => 0 | some x => if x = i then n else ringG A B i f x (n + 1)) := rfl

set_option maxHeartbeats 4000000 in
theorem specRing (v : Value) (Ws : List (List Int)) (n i : Nat) (m : Nat) (hT : totW Ws ≤ 2000000) (hlev : levV Ws (n : Int) = true) (hfree : meetV Ws (n : Int) = false) (hi : i < Ws.length) (HZ : Hid (ringV (colL Ws n) (colL Ws (n + 1)) i = m)) (w : World) (hv : WaysAt w v Ws) :
    Calls Tryz.prog 112 #[v, .int .i64 (n : Int), .int .i64 (i : Int)] w fun e w' => e = .returned (.int .i64 (m : Int)) ∧ ∃ q, w' = w.drewN q := by
  have hW10 := (even_iff.1 (lev_iff.1 hlev).1).2.1
  have hnd := (free_nodup hlev hfree).1
  have hAl : (colL Ws n).length = Ws.length := col_len
  have HT := Lib.hid hT
  have HLEV := Lib.hid hlev
  have HVV := Lib.hid hv
  obtain ⟨A, HA⟩ : ∃ A, Hid (colL Ws n = A) := ⟨_, rfl⟩
  obtain ⟨B, HBB⟩ : ∃ B, Hid (colL Ws (n + 1) = B) := ⟨_, rfl⟩
  rw [HA.out, HBB.out] at HZ
  rw [HA.out] at hAl hnd
  have HND := Lib.hid hnd
  have HALW := Lib.hid hAl
  have hwr : IntKind.i64.wrap ((n : Int) + 1) = ((n + 1 : Nat) : Int) := by
    have := lev_cells hlev (List.getElem?_eq_getElem hi)
    obtain ⟨_, _, _, h2, _⟩ := this
    have h3 := (List.getElem?_eq_some_iff.1 h2).1
    have h4 := totW_one (List.getElem?_eq_getElem hi)
    rw [IntWalk.i64_in _ (by omega)]; omega
  have HWR := Lib.hid hwr
  obtain ⟨g, _, c, e, _⟩ := way_at hv (List.getElem?_eq_getElem hi)
  subst e
  have HZ0 : Hid (ringG A B i (Ws.length + 1 - 1) i 1 = m) := Lib.hid (by rw [← HZ.out]; unfold ringV; rw [HALW.out]; rfl)
  clear hnd hAl hv hlev hfree hT hwr
  go_enter Tryz.func112, Tryz.ntmps112
  go_wp2_with fail
  go_loopw [7, 8, 9, 10] (fun x s _ _ wr => ∃ k r q : Nat, x = .int .i64 k ∧ s = .int .i64 r ∧ k < Ws.length ∧ 1 ≤ r ∧ r ≤ Ws.length + 1 ∧ Hid (ringG A B i (Ws.length + 1 - r) k r = m) ∧ wr = w.drewN q) (fun _ s _ _ _ => Ws.length + 1 - (intOf s).toNat)
  case atStart => exact ⟨i, 1, 0, rfl, rfl, hi, Nat.le_refl _, by omega, HZ0, rfl⟩
  case round =>
    clear HZ0
    obtain ⟨k, r, q, rfl, rfl, hk, hr1, hr2, HG, rfl⟩ := hrel
    by_cases hlt : r ≤ Ws.length
    · have hlt2 : (r : Int) ≤ (Ws.length : Int) := by omega
      obtain ⟨K, hx⟩ : ∃ K, Ws[k]? = some K := ⟨_, List.getElem?_eq_getElem hk⟩
      obtain ⟨_, y, _, hyt, _, hyc⟩ := lev_cells HLEV.out hx
      rw [HBB.out] at hyc
      obtain ⟨_, ak, _, e, hg, u, bk, rfl, dk, hI⟩ := way_at HVV.out hx
      injection e with e1 e2 e3
      injection e1 with e1
      injection e1 with e1
      subst e1
      have hKb : K.length ≤ 2000000 := by have := totW_one hx; have := HT.out; omega
      have hn1 : n + 1 < K.length := (List.getElem?_eq_some_iff.1 hyt).1
      rcases ints_form hI with ⟨_, _, e, HI⟩
      injection e with e1 _ e4
      subst e1 e4
      rcases HI with h0 | ⟨p, rfl, hp, hpc⟩
      · omega
      · have dy := hpc (n + 1) y hyt
        have HYB : Hid (B.getD k 0 = y) := Lib.hid (by rw [List.getD_eq_getElem?_getD, hyc]; rfl)
        have hnK : ((n + 1 : Nat) : Int) < (K.length : Int) := by omega
        have hkW : (k : Int) < (Ws.length : Int) := by omega
        clear hx hyt hyc hpc hI e2 e3
        go_wp2
        go_loopw [9, 10] (fun z s wr => ∃ (j q : Nat) (zz : Int), z = .int .i64 zz ∧ s = .int .i64 j ∧ j ≤ Ws.length ∧ Hid (Seen A y j zz) ∧ wr = w.drewN q) (fun _ s _ => Ws.length - (intOf s).toNat)
        case atStart => exact ⟨0, q, -1, rfl, rfl, Nat.zero_le _, Lib.hid (.inl ⟨rfl, fun a x h => absurd h (by omega)⟩), rfl⟩
        case round =>
          obtain ⟨j, q2, zz, rfl, rfl, hj, HSN, rfl⟩ := hrel
          by_cases hlj : j < Ws.length
          · have hlj2 : (j : Int) < (Ws.length : Int) := by omega
            obtain ⟨L, hx⟩ : ∃ L, Ws[j]? = some L := ⟨_, List.getElem?_eq_getElem hlj⟩
            obtain ⟨x, _, hxt, _, hxc, _⟩ := lev_cells HLEV.out hx
            rw [HA.out] at hxc
            obtain ⟨_, al, _, e, _, u, bl, rfl, dl, hI⟩ := way_at HVV.out hx
            injection e with e1 e2 e3
            injection e1 with e1
            injection e1 with e1
            subst e1
            have hLb : L.length ≤ 2000000 := by have := totW_one hx; have := HT.out; omega
            have hn2 : n < L.length := (List.getElem?_eq_some_iff.1 hxt).1
            rcases ints_form hI with ⟨_, _, e, HI⟩
            injection e with e1 _ e4
            subst e1 e4
            rcases HI with h0 | ⟨p2, rfl, hp2, hpc⟩
            · omega
            · have dx := hpc n x hxt
              have HXC := Lib.hid hxc
              have hnL : (n : Int) < (L.length : Int) := by omega
              have hwr := HWR.out
              clear hx hxt hxc hpc hI e2 e3
              by_cases hxy : x = y
              · subst hxy
                have hb : (x == x) = true := by simp
                go_wp2
                go_quiet (fail)
                go_wp2
                go_roundw
                case rel => exact ⟨j + 1, _, (j : Int), rfl, by go_num, by omega, Lib.hid (.inr ⟨j, by rw [HALW.out]; exact hlj, rfl, HXC.out⟩), rfl⟩
                case measure => simp [intOf]; omega
              · have hb : (x == y) = false := by simpa using hxy
                have HNE := Lib.hid hxy
                clear hxy
                go_wp2
                go_quiet (fail)
                go_wp2
                go_roundw
                case rel => exact ⟨j + 1, _, zz, rfl, by go_num, by omega, Lib.hid (by
                  rcases HSN.out with ⟨h1, h2⟩ | h
                  · refine .inl ⟨h1, fun a x2 ha hz => ?_⟩
                    rcases Nat.lt_succ_iff_lt_or_eq.1 ha with h | h
                    · exact h2 a x2 h hz
                    · rw [h, HXC.out] at hz
                      cases hz
                      exact HNE.out
                  · exact .inr h), rfl⟩
                case measure => simp [intOf]; omega
          · obtain rfl : j = Ws.length := by omega
            have hnl : ¬ (Ws.length : Int) < (Ws.length : Int) := by omega
            have hf : Ws.length + 1 - r = (Ws.length - r) + 1 := by omega
            have hg2 := HG.out
            rw [hf, ringG_at] at hg2
            rcases HSN.out with ⟨rfl, h2⟩ | ⟨a, ha, rfl, haA⟩
            · have e : nxtV A B k = none := nxt_none fun a x hx => by
                rw [HYB.out]
                exact h2 a x (by rw [← HALW.out]; exact (List.getElem?_eq_some_iff.1 hx).1) hx
              rw [e] at hg2
              obtain rfl : m = 0 := hg2.symm
              have hneg : ((-1 : Int) < 0) = True := by simp
              clear hg2 h2
              go_wp2
              go_ret
              exact ⟨rfl, _, rfl⟩
            · have e : nxtV A B k = some a := nxt_is HND.out (by rw [HYB.out]; exact haA)
              rw [e] at hg2
              have haW : a < Ws.length := by rw [← HALW.out]; exact ha
              have h0 : ¬ (a : Int) < 0 := by omega
              clear haA e
              by_cases hai : a = i
              · subst hai
                have hb : ((a : Int) == (a : Int)) = true := by simp
                obtain rfl : m = r := by rw [← hg2]; simp
                clear hg2
                go_wp2
                go_ret
                exact ⟨rfl, _, rfl⟩
              · have hb : ((a : Int) == (i : Int)) = false := by rw [beq_eq_false_iff_ne]; omega
                have HG3 : Hid (ringG A B i (Ws.length - r) a (r + 1) = m) := Lib.hid (by rw [← hg2]; exact (if_neg hai).symm)
                clear hg2 hai
                go_wp2
                go_roundw
                case rel => exact ⟨a, r + 1, q2, rfl, by go_num, haW, by omega, by omega, Lib.hid (by rw [show Ws.length + 1 - (r + 1) = Ws.length - r by omega]; exact HG3.out), rfl⟩
                case measure => simp [intOf]; omega
    · obtain rfl : r = Ws.length + 1 := by omega
      have hnl : ¬ ((Ws.length + 1 : Nat) : Int) ≤ (Ws.length : Int) := by omega
      obtain rfl : m = 0 := by rw [← HG.out, Nat.sub_self]; rfl
      go_wp2
      go_ret
      exact ⟨rfl, _, rfl⟩

end Go.Proofs.YtkbfbifepaoojaaGreatDoor

