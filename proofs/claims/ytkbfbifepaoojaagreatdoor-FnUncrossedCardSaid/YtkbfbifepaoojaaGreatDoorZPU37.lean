/-
  CONTRACT of the program's Uncrossed. No law is proved here.
  CONTRACT of the program's Crossings. No law is proved here.
-/
import Derived.Test.YtkbfbifepaoojaaGreatDoorZPU35
import Derived.Test.YtkbfbifepaoojaaGreatDoorZPU36
import Derived.Test.YtkbfbifepaoojaaGreatDoorZPU02
import Derived.Test.YtkbfbifepaoojaaGreatDoorZPU22
namespace Go.Proofs.YtkbfbifepaoojaaGreatDoor
set_option maxRecDepth 4096
open Go.ChangeShapes Go.WideShapes Go.ChangeAt Go.RowKit

/-- Ways and whether they are right came back. -/
def UncBack (w : World) (Ws : List (List Int)) (b : Bool) (e : Ending) (w' : World) : Prop :=
  ∃ v, e = .returned (.tuple #[v, .bool b]) ∧ WOwn w' w.heap.size w'.heap.size v Ws ∧ Below w.heap.size w w'
theorem unc_step {vs xs : List Value} {k n : Nat} {u : Value} (hk : k < n) (hv : vs.length = k) (hx : xs.length = n) : (vs ++ xs.drop k).set k u = (vs ++ [u]) ++ xs.drop (k + 1) := by
  rw [List.set_append, if_neg (by omega), hv, Nat.sub_self, List.drop_eq_getElem_cons (by omega), List.set_cons_zero, List.append_assoc]
  rfl

set_option maxHeartbeats 2000000 in
theorem implUncrossed (v : Value) (Ws : List (List Int)) (b : Bool) (R : List (List Int)) (hW : Ws.length ≤ 2000000) (hT : totW Ws ≤ 2000000) (HB : Hid (regV Ws = b)) (HR : Hid (resV Ws = R)) (w : World) (hv : WaysAt w v Ws) :
    Calls Tryz.prog 8 #[v] w (UncBack w R b) := by
  obtain ⟨i0, hi, hz0, hz1, hz2⟩ := info_parts Tryz.infoWay
  have HC := Lib.hid (implRegular v Ws b hW hT HB w hv)
  have HST : Hid (∀ (i : Nat) (wr : World), regV Ws = true → i < Ws.length → Below w.heap.size w wr → Calls Tryz.prog 31 #[v, .int .i64 (i : Int)] wr (StayBack wr (stayV Ws i))) := Lib.hid fun i wr h hi hB => implStay v Ws i hT h hi wr (waysAt_on hv hB)
  obtain ⟨av, cv, rfl, _⟩ := hv
  clear hT
  cases b with
  | false =>
    obtain rfl : R = [] := by rw [← HR.out]; exact if_neg (by rw [HB.out]; decide)
    go_enter Tryz.func8, Tryz.ntmps8
    go_wp2_with fail
    refine HC.out.mono ?_
    rintro e w1 ⟨rfl, hB⟩
    have HBB := Lib.hid hB
    clear hB
    go_wp2_with fail
    refine bodyPost_ret (v := .tuple #[.slice none 0 0, .bool false]) (by simp [results, Tryz.results8, go_sem]) rfl ?_
    exact ⟨_, rfl, ⟨[], World.ownsRow_nil _ _ _ _, (fun k h => by cases h), RowsI.nil HBB.out.size (Nat.le_refl _)⟩, HBB.out⟩
  | true =>
    have hRl : R.length = Ws.length := by rw [← HR.out]; unfold resV; rw [if_pos HB.out, unc_len]
    have HRA : Hid (∀ k, k < Ws.length → R[k]? = some (stayV Ws k)) := Lib.hid fun k hk => by rw [← HR.out]; unfold resV; rw [if_pos HB.out]; exact unc_at hk
    have HRL := Lib.hid hRl
    clear hRl
    go_enter Tryz.func8, Tryz.ntmps8
    go_wp2_with fail
    refine HC.out.mono ?_
    rintro e wm ⟨rfl, hB⟩
    have HB1 := Lib.hid hB
    clear hB
    go_wp2_with (at_make; refine wpList_make_full wm rfl _ _ 27 rfl wm.heap.size 51 i0 _ 1 Tryz.underlying27 hi hz0 hz1 .i64 .i64 (Ws.length : Int) (Ws.length : Int) Ws.length rfl rfl rfl rfl (by rw [hz2]; omega) (by unfold maxLen; omega) (Nat.le_refl _) ?_; intro w1 hown0 hgrow0)
    generalize (madeCells (Value.agg #[.slice none 0 0]).cells (Ws.length * 1)).toList = xs at hown0
    have hxl : xs.length = Ws.length := by have := hown0.1; omega
    have hb0 := (Below.refl wm.heap.size wm).grown hgrow0 (Nat.le_refl _) (by simp)
    clear hgrow0
    go_loopw [5, 14] (fun _ i wr => ∃ (k : Nat) (vs : List Value), k ≤ Ws.length ∧ i = .int .i64 k ∧ vs.length = k ∧ wr.ownsRow wm.heap.size 51 1 (.slice (some ⟨wm.heap.size, 0, none⟩) Ws.length Ws.length) Ws.length (vs ++ xs.drop k) ∧ RowsI wr wm.heap.size vs (R.take k) wr.heap.size ∧ Below wm.heap.size wm wr) (fun _ i _ => Ws.length - (intOf i).toNat)
    case atStart => exact ⟨0, [], Nat.zero_le _, rfl, rfl, by simpa using hown0, by rw [List.take_zero]; exact .nil hb0.size (Nat.le_refl _), hb0⟩
    case round =>
      clear hown0 hb0
      obtain ⟨k, vs, hk, rfl, hvl, hown, hrows, hbe⟩ := hrel
      by_cases hlt : k < Ws.length
      · have hk2 : (k : Int) < (Ws.length : Int) := by omega
        have HT := Lib.hid (HST.out k wr HB.out hlt (HB1.out.trans (hbe.mono HB1.out.size)))
        have hx := HRA.out k hlt
        have hts : R.take (k + 1) = R.take k ++ [stayV Ws k] := by
          obtain ⟨hl, e⟩ := List.getElem?_eq_some_iff.1 hx
          rw [List.take_succ_eq_append_getElem hl, e]
        have HTS := Lib.hid hts
        have HVL := Lib.hid hvl
        have HOW := Lib.hid hown
        have HRO := Lib.hid hrows
        have HBE := Lib.hid hbe
        clear hx hts hvl hown hrows hbe
        go_wp2_with fail
        refine HT.out.mono ?_
        rintro e w3 ⟨u, rfl, hu, hb⟩
        have hbs := HBE.out.size
        have hown3 := own_below HOW.out hb hbs
        have hbe3 := HBE.out.trans (hb.mono hbs)
        obtain ⟨x0, f0⟩ := own_cell hown3 (j := k) (by omega)
        have z0 := hown3.frozenAt k
        have hst := unc_step (u := u) hlt HVL.out hxl
        have hown4 := hown3.stored k u
        rw [hst] at hown4
        have hrow3 := (HRO.out.on hb).snoc (hi := w3.heap.size) (v := u) (L := stayV Ws k) ⟨hu, fun j hj => (hu.lt j hj).2, Nat.le_refl _⟩ hb.size
        rw [← HTS.out] at hrow3
        have hrow4 := hrow3.grown hown4.2 (hrow3.kinds hown3 (by decide))
        have hsz : (w3.setCell ⟨wm.heap.size, k, none⟩ u).heap.size = w3.heap.size := by simp [World.setCell]
        rw [← hsz] at hrow4
        have HO4 := Lib.hid hown4.1
        have HR4 := Lib.hid hrow4
        have HB4 := Lib.hid (hbe3.setCell (Nat.le_refl _) u (p := ⟨wm.heap.size, k, none⟩))
        obtain ⟨au, cu, rfl⟩ := own_form hu
        clear hb hown3 hbe3 hrow3 hrow4 hown4 hu hst
        go_wp2_with fail
        go_roundw
        case rel => exact ⟨k + 1, _, by omega, by go_num, by rw [List.length_append, HVL.out]; rfl, HO4.out, HR4.out, HB4.out⟩
        case measure => simp [intOf]; omega
      · obtain rfl : k = Ws.length := by omega
        have hnl : ¬ (Ws.length : Int) < (Ws.length : Int) := by omega
        rw [List.take_of_length_le (by rw [HRL.out]; exact Nat.le_refl _)] at hrows
        rw [List.drop_of_length_le (by omega), List.append_nil] at hown
        have HO := Lib.hid hown
        have HRW := Lib.hid hrows
        have HBX := Lib.hid (HB1.out.trans (hbe.mono HB1.out.size))
        clear hown hrows hbe
        go_wp2_with fail
        refine bodyPost_ret (v := .tuple #[.slice (some ⟨wm.heap.size, 0, none⟩) Ws.length Ws.length, .bool true]) (by simp [results, Tryz.results8, go_sem]) rfl ?_
        exact ⟨_, rfl, ⟨vs, by rw [HRL.out]; exact own_base HO.out HB1.out.size, fun j hj => by have := (HO.out.lt j hj).2; omega, HRW.out.base HB1.out.size⟩, HBX.out⟩

end Go.Proofs.YtkbfbifepaoojaaGreatDoor

namespace Go.Proofs.YtkbfbifepaoojaaGreatDoor
set_option maxRecDepth 4096
open Go.ChangeShapes Go.WideShapes Go.ChangeAt Go.RowKit

theorem wide_le {Ws : List (List Int)} (hT : totW Ws ≤ 2000000) : wideV Ws ≤ 2000000 := by
  unfold wideV
  cases Ws with
  | nil => simp
  | cons a Ws => have := totW_one (Ws := a :: Ws) (k := 0) rfl; simpa using (by omega : a.length ≤ 2000000)
theorem lev_out_of {Ws : List (List Int)} {k : Nat} (h : evenV Ws = true) (hl : levV Ws (k : Int) = false) : wideV Ws ≤ k + 1 := by
  refine Nat.le_of_not_lt fun h2 => ?_
  rw [lev_yes h (by omega) (by omega)] at hl
  cases hl

set_option maxHeartbeats 2000000 in
theorem implCrossings (v : Value) (Ws : List (List Int)) (z : Int) (hW : Ws.length ≤ 2000000) (hT : totW Ws ≤ 2000000) (HZ : Hid (crossV13 Ws = z)) (w : World) (hv : WaysAt w v Ws) :
    Calls Tryz.prog 10 #[v] w (Made w (.int .i64 z)) := by
  obtain ⟨b, HB⟩ : ∃ b, Hid (regV Ws = b) := ⟨_, rfl⟩
  have HC := Lib.hid (implRegular v Ws b hW hT HB w hv)
  have HL : Hid (∀ (t : Nat) r (wr : World), t ≤ 2000000 → Hid (levV Ws (t : Int) = r) → Below w.heap.size w wr → Calls Tryz.prog 17 #[v, .int .i64 (t : Int)] wr (Made wr (.bool r))) := Lib.hid fun t r wr ht HR hB => implLevel v Ws t r hW hT HR wr (waysAt_on hv hB) (wf_few ht)
  have HS : Hid (∀ (t m : Nat) (wr : World), t ≤ 2000000 → Hid (swapsV Ws (t : Int) = m) → Below w.heap.size w wr → Calls Tryz.prog 19 #[v, .int .i64 (t : Int)] wr (Made wr (.int .i64 (m : Int)))) := Lib.hid fun t m wr ht HR hB => implSwaps v Ws t m hW hT HR wr (waysAt_on hv hB) (wf_few ht)
  have HG : Hid (∀ (t m : Nat) (wr : World), t ≤ 2000000 → Hid (ringsV Ws (t : Int) = m) → Below w.heap.size w wr → Calls Tryz.prog 18 #[v, .int .i64 (t : Int)] wr (Made wr (.int .i64 (m : Int)))) := Lib.hid fun t m wr ht HR hB => implRings v Ws t m hW hT HR wr (waysAt_on hv hB) (wf_few ht)
  have hwd := wide_le hT
  obtain ⟨av, cv, rfl, _⟩ := hv
  clear hT
  cases b with
  | false =>
    obtain rfl : z = -1 := by rw [← HZ.out]; exact if_neg (by rw [HB.out]; decide)
    go_enter Tryz.func10, Tryz.ntmps10
    go_wp2_with fail
    refine HC.out.mono ?_
    rintro e w1 ⟨rfl, hB⟩
    go_wp2_with fail
    go_ret
    exact ⟨rfl, hB⟩
  | true =>
    have HZ2 : Hid (((crossN Ws (wideV Ws - 1) : Nat) : Int) = z) := Lib.hid (by rw [← HZ.out]; exact (if_pos HB.out).symm)
    have HE := Lib.hid (reg_iff.1 HB.out).1
    have HP := Lib.hid (reg_iff.1 HB.out).2.1
    go_enter Tryz.func10, Tryz.ntmps10
    go_wp2_with fail
    refine HC.out.mono ?_
    rintro e wm ⟨rfl, hB⟩
    have HB1 := Lib.hid hB
    clear hB
    go_wp2_with fail
    go_loopw [3, 4] (fun s i wr => ∃ k : Nat, k + 1 ≤ wideV Ws ∧ s = .int .i64 ((crossN Ws k : Nat) : Int) ∧ i = .int .i64 k ∧ Below w.heap.size w wr) (fun _ i _ => wideV Ws - (intOf i).toNat)
    case atStart => exact ⟨0, HP.out, rfl, rfl, HB1.out⟩
    case round =>
      obtain ⟨k, hk, rfl, rfl, hbe⟩ := hrel
      obtain ⟨r, HR⟩ : ∃ r, Hid (levV Ws (k : Int) = r) := ⟨_, rfl⟩
      have H1 := Lib.hid (HL.out k r wr (by omega) HR hbe)
      have hle := crossN_le (Ws := Ws) (k := k)
      have HSU := Lib.hid (crossN_succ (Ws := Ws) (k := k))
      obtain ⟨n, HN⟩ : ∃ n, Hid (crossN Ws k = n) := ⟨_, rfl⟩
      have HBR := Lib.hid hbe
      clear hbe
      cases r with
      | false =>
        have he : k = wideV Ws - 1 := by have := lev_out_of HE.out HR.out; omega
        have e : ((n : Nat) : Int) = z := by rw [← HZ2.out, ← he, HN.out]
        rw [HN.out] at hle ⊢
        subst e
        clear he HSU
        go_wp2_with fail
        refine H1.out.mono ?_
        rintro e w1 ⟨rfl, hb⟩
        have HB2 := Lib.hid (HBR.out.trans (hb.mono HBR.out.size))
        clear hb
        go_wp2_with fail
        go_ret
        exact ⟨rfl, HB2.out⟩
      | true =>
        have hkw : k + 1 < wideV Ws := by have := (lev_iff.1 HR.out).2.2; omega
        rw [HN.out] at hle HSU ⊢
        obtain ⟨a, HA⟩ : ∃ a, Hid (swapsV Ws (k : Int) = a) := ⟨_, rfl⟩
        obtain ⟨c, HCC⟩ : ∃ c, Hid (ringsV Ws (k : Int) = c) := ⟨_, rfl⟩
        have hc1 := cross1_le (Ws := Ws) (t := k)
        have HC1 : Hid (cross1 Ws k = 2 * a + c) := Lib.hid (by unfold cross1; rw [HA.out, HCC.out])
        rw [HC1.out] at hc1 HSU
        go_wp2_with fail
        refine H1.out.mono ?_
        rintro e w1 ⟨rfl, hb⟩
        have HB2 := Lib.hid (HBR.out.trans (hb.mono HBR.out.size))
        clear hb
        go_wp2_with fail
        refine (HS.out k a w1 (by omega) HA HB2.out).mono ?_
        rintro e w2 ⟨rfl, hb⟩
        have HB3 := Lib.hid (HB2.out.trans (hb.mono HB2.out.size))
        clear hb
        go_wp2_with fail
        refine (HG.out k c w2 (by omega) HCC HB3.out).mono ?_
        rintro e w3 ⟨rfl, hb⟩
        have HB4 := Lib.hid (HB3.out.trans (hb.mono HB3.out.size))
        clear hb
        have e1 : IntKind.i64.wrap (2 * (a : Int)) = ((2 * a : Nat) : Int) := by rw [IntWalk.i64_in _ (by omega)]; omega
        have e2 : IntKind.i64.wrap (((2 * a : Nat) : Int) + (c : Int)) = ((2 * a + c : Nat) : Int) := by rw [IntWalk.i64_in _ (by omega)]; omega
        have e3 : IntKind.i64.wrap ((n : Int) + ((2 * a + c : Nat) : Int)) = ((n + (2 * a + c) : Nat) : Int) := by rw [IntWalk.i64_in _ (by omega)]; omega
        go_wp2_with fail
        go_roundw
        case rel => exact ⟨k + 1, by omega, by rw [HSU.out]; exact congrArg (Value.int IntKind.i64) (by omega), by go_num, HB4.out⟩
        case measure => simp [intOf]; omega

end Go.Proofs.YtkbfbifepaoojaaGreatDoor

