/-
  CONTRACTS of the program's ascending and AskOk. No law is proved here.
-/
import Derived.Test.YtkbfbifepaoojaaGreatDoorZPU13
import Derived.Test.YtkbfbifepaoojaaGreatDoorZPU27
import Derived.Test.YtkbfbifepaoojaaGreatDoorZPU00
import Derived.Test.YtkbfbifepaoojaaGreatDoorZPU23
import Derived.Test.YtkbfbifepaoojaaGreatDoorZPU07
import Derived.Test.YtkbfbifepaoojaaGreatDoorZPU01
import Derived.IntWalk
import Derived.Deep.QuietTactic
import Derived.BigQuiet
import Derived.Deep.DeepCutAuto
import Derived.Deep.CutRange
namespace Go.Proofs.YtkbfbifepaoojaaGreatDoor
set_option maxRecDepth 4096
open Go.ChangeShapes Go.WideShapes Go.ChangeAt Go.RowKit

/-- The first k ascend strictly. -/
def ascUp (L : List Int) (k : Nat) : Prop := ∀ (i : Nat) (x y : Int), 0 < i → i < k → L[i]? = some x → L[i - 1]? = some y → y < x
noncomputable def upB (L : List Int) : Bool := @decide (ascUp L L.length) (Classical.propDecidable _)
theorem upB_iff {L : List Int} : upB L = true ↔ ascUp L L.length := by unfold upB; exact @decide_eq_true_iff _ (Classical.propDecidable _)
theorem upB_no {L : List Int} (h : ¬ ascUp L L.length) : upB L = false := by
  cases e : upB L with
  | false => rfl
  | true => exact absurd (upB_iff.1 e) h
theorem asc_parts (W H : Int) (C : ByteArray) (L : List Int) : ascV W H C L = (L.all (freeV W H C) && upB L) := by
  rw [Bool.eq_iff_iff, Bool.and_eq_true, asc_iff, upB_iff, List.all_eq_true]
  constructor
  · intro h
    refine ⟨fun x hx => ?_, fun i x y h0 hi hx hy => ?_⟩
    · obtain ⟨i, hi, rfl⟩ := List.getElem_of_mem hx
      exact (h i _ hi (List.getElem?_eq_getElem hi)).1
    · exact (h i x hi hx).2 y h0 hy
  · rintro ⟨h1, h2⟩ i x hi hx
    exact ⟨h1 x (List.mem_of_getElem? hx), fun y h0 hy => h2 i x y h0 hi hx hy⟩

set_option maxHeartbeats 1000000 in
theorem implAsc (L : List Int) (b : Bool) (v : Value) (hL : L.length ≤ 2000000) (HB : Hid (upB L = b)) (w : World) (hv : Ints w v L) :
    Calls Tryz.prog 86 #[v] w fun e w' => e = .returned (.bool b) ∧ ∃ q, w' = w.drewN q := by
  obtain ⟨av, cv, rfl, HV⟩ := ints_form hv
  have HVh := Lib.hid HV
  clear HV hv
  go_enter Tryz.func86, Tryz.ntmps86
  go_wp2
  go_loopw [3] (fun i wr => ∃ k q : Nat, 1 ≤ k ∧ (k ≤ L.length ∨ k = 1) ∧ i = .int .i64 k ∧ wr = w.drewN q ∧ Hid (ascUp L k)) (fun i _ => L.length + 1 - (intOf i).toNat)
  case atStart => exact ⟨1, 0, Nat.le_refl _, .inr rfl, rfl, rfl, Lib.hid fun i x y h0 h1 => by omega⟩
  case round =>
    obtain ⟨k, q, hk1, hk, rfl, rfl, HU⟩ := hrel
    by_cases hlt : k < L.length
    · obtain ⟨j, hj⟩ : ∃ j, k = j + 1 := ⟨k - 1, by omega⟩
      obtain ⟨x, hx⟩ : ∃ x, L[k]? = some x := ⟨_, List.getElem?_eq_getElem hlt⟩
      obtain ⟨y, hy⟩ : ∃ y, L[j]? = some y := ⟨_, List.getElem?_eq_getElem (by omega)⟩
      rcases HVh.out with h0 | ⟨g, rfl, hgl, hc⟩
      · omega
      · have d0 := hc k x hx
        have d1 := hc j y hy
        have hw1 : IntKind.i64.wrap ((k : Int) - 1) = (j : Int) := by
          have : (k : Int) - 1 = (j : Int) := by omega
          rw [this]
          exact IntWalk.i64_in _ (by omega)
        have hlt2 : (k : Int) < (L.length : Int) := by omega
        have hj2 : (j : Int) < (L.length : Int) := by omega
        have HX := Lib.hid hx
        have HY : Hid (L[k - 1]? = some y) := Lib.hid (by rw [hj]; exact hy)
        clear hx hy hc hj
        by_cases hyx : y < x
        · have hge : ¬ x ≤ y := by omega
          go_upto_region 4 with fail
          go_quiet (fail)
          go_wp2_with fail
          go_roundw
          case rel =>
            refine ⟨k + 1, _, by omega, by omega, by go_num, rfl, Lib.hid fun i a c h0 h1 ha hc => ?_⟩
            by_cases e : i = k
            · subst e
              rw [HX.out] at ha
              rw [HY.out] at hc
              cases ha
              cases hc
              exact hyx
            · exact HU.out i a c h0 (by omega) ha hc
          case measure => simp [intOf]; omega
        · have hge : x ≤ y := by omega
          have e : b = false := by
            rw [← HB.out]
            refine upB_no fun h => ?_
            have := h k x y (by omega) hlt HX.out HY.out
            omega
          subst e
          go_upto_region 4 with fail
          go_quiet (fail)
          go_wp2_with fail
          go_ret
          exact ⟨rfl, _, rfl⟩
    · have e : b = true := by
        rw [← HB.out]
        exact upB_iff.2 fun i x y h0 h1 hx hy => HU.out i x y h0 (by omega) hx hy
      subst e
      go_wp2_with fail
      go_ret
      exact ⟨rfl, _, rfl⟩

section
variable {W H T : Int} {C : ByteArray} {S G : List Int}
theorem ask_eq : askV W H C S G T = (gok W H C && (rgB S.length 1 10 && (decide (G.length ≤ S.length) && (S.all (freeV W H C) && (upB S && (G.all (freeV W H C) && (upB G && (rgB T 0 20 && decide (((freeL W H C).length : Int) * (T + 1) ≤ 240))))))))) := by
  unfold askV
  rw [asc_parts, asc_parts]
  cases gok W H C <;> cases rgB S.length 1 10 <;> cases decide (G.length ≤ S.length) <;> cases rgB T 0 20 <;> cases S.all (freeV W H C) <;> cases upB S <;> cases G.all (freeV W H C) <;> cases upB G <;> rfl
end

set_option maxHeartbeats 4000000 in
theorem implAsk (W H : Int) (C : ByteArray) (S G : List Int) (T : Int) (vs vg : Value) (b : Bool) (hC : C.size ≤ 1048576) (hS : S.length ≤ 2000000) (hG : G.length ≤ 2000000) (HB : Hid (askV W H C S G T = b)) (w : World) (hs : Ints w vs S) (hg : Ints w vg G) :
    Calls Tryz.prog 46 #[.agg #[.int .i64 W, .int .i64 H, .string C], vs, vg, .int .i64 T] w (Made w (.bool b)) := by
  have hB := Below.refl (w.alloc (.cells #[.int .i64 W, .int .i64 H, .string C] 25)).heap.size (w.alloc (.cells #[.int .i64 W, .int .i64 H, .string C] 25))
  obtain ⟨a1, cs, rfl, _⟩ := ints_form hs
  obtain ⟨a2, cg, rfl, _⟩ := ints_form hg
  have HS := Lib.hid hs
  have HG := Lib.hid hg
  clear hs hg
  cases h0 : gok W H C with
  | false =>
    have e : b = false := by
      rw [← HB.out, ask_eq, h0]
      rfl
    subst e
    have H0 : Hid (gok W H C = false) := Lib.hid h0
    clear HB h0
    go_enter Tryz.func46, Tryz.ntmps46
    go_wp2_with (first
      | (go_at_call 84; refine (implGridOk W H C hC _).mono ?_; rintro e w1 ⟨rfl, hb⟩; rw [H0.out]; replace hB := chain hB hb; obtain ⟨c0, c1, c2⟩ := box_cells hB; clear hb))
    go_ret
    exact ⟨rfl, box_below hB⟩
  | true =>
    cases h1 : rgB S.length 1 10 with
    | false =>
      have e : b = false := by
        rw [← HB.out, ask_eq, h0, h1]
        rfl
      subst e
      have H0 : Hid (gok W H C = true) := Lib.hid h0
      have H1 : Hid ((decide (1 ≤ (S.length : Int)) && decide ((S.length : Int) ≤ 10)) = false) := Lib.hid h1
      clear HB h0 h1
      go_enter Tryz.func46, Tryz.ntmps46
      go_wp2_with (first
        | (go_at_call 84; refine (implGridOk W H C hC _).mono ?_; rintro e w1 ⟨rfl, hb⟩; rw [H0.out]; replace hB := chain hB hb; obtain ⟨c0, c1, c2⟩ := box_cells hB; clear hb)
        | (go_at_call 41; (with_reducible refine (implRange (S.length : Int) 1 10 _ H1 _).mono ?_); rintro e w' ⟨rfl, rfl⟩))
      go_ret
      exact ⟨rfl, box_below hB⟩
    | true =>
      cases h2 : decide (G.length ≤ S.length) with
      | false =>
        have e : b = false := by
          rw [← HB.out, ask_eq, h0, h1, h2]
          rfl
        subst e
        have H0 : Hid (gok W H C = true) := Lib.hid h0
        have H1 : Hid ((decide (1 ≤ (S.length : Int)) && decide ((S.length : Int) ≤ 10)) = true) := Lib.hid h1
        have hGS2 : ¬ (G.length : Int) ≤ (S.length : Int) := by have := of_decide_eq_false h2; omega
        clear HB h0 h1 h2
        go_enter Tryz.func46, Tryz.ntmps46
        go_wp2_with (first
          | (go_at_call 84; refine (implGridOk W H C hC _).mono ?_; rintro e w1 ⟨rfl, hb⟩; rw [H0.out]; replace hB := chain hB hb; obtain ⟨c0, c1, c2⟩ := box_cells hB; clear hb)
          | (go_at_call 41; (with_reducible refine (implRange (S.length : Int) 1 10 _ H1 _).mono ?_); rintro e w' ⟨rfl, rfl⟩))
        go_ret
        exact ⟨rfl, box_below hB⟩
      | true =>
        cases h3 : S.all (freeV W H C) with
        | false =>
          have e : b = false := by
            rw [← HB.out, ask_eq, h0, h1, h2, h3]
            rfl
          subst e
          have H0 : Hid (gok W H C = true) := Lib.hid h0
          have H1 : Hid ((decide (1 ≤ (S.length : Int)) && decide ((S.length : Int) ≤ 10)) = true) := Lib.hid h1
          have H3 : Hid (S.all (freeV W H C) = false) := Lib.hid h3
          have hGS2 : (G.length : Int) ≤ (S.length : Int) := by have := of_decide_eq_true h2; omega
          clear HB h0 h1 h2 h3
          go_enter Tryz.func46, Tryz.ntmps46
          go_wp2_with (first
            | (go_at_call 84; refine (implGridOk W H C hC _).mono ?_; rintro e w1 ⟨rfl, hb⟩; rw [H0.out]; replace hB := chain hB hb; obtain ⟨c0, c1, c2⟩ := box_cells hB; clear hb)
            | (go_at_call 41; (with_reducible refine (implRange (S.length : Int) 1 10 _ H1 _).mono ?_); rintro e w' ⟨rfl, rfl⟩)
            | (go_at_call 85; (with_reducible refine (allFreeI W H C S _ _ hC hS H3 _ (ints_on HS.out (box_below hB))).mono ?_); rintro e w2 ⟨rfl, hb⟩; replace hB := chain hB hb; obtain ⟨c0, c1, c2⟩ := box_cells hB; clear hb))
          go_ret
          exact ⟨rfl, box_below hB⟩
        | true =>
          cases h4 : upB S with
          | false =>
            have e : b = false := by
              rw [← HB.out, ask_eq, h0, h1, h2, h3, h4]
              rfl
            subst e
            have H0 : Hid (gok W H C = true) := Lib.hid h0
            have H1 : Hid ((decide (1 ≤ (S.length : Int)) && decide ((S.length : Int) ≤ 10)) = true) := Lib.hid h1
            have H3 : Hid (S.all (freeV W H C) = true) := Lib.hid h3
            have H4 : Hid (upB S = false) := Lib.hid h4
            have hGS2 : (G.length : Int) ≤ (S.length : Int) := by have := of_decide_eq_true h2; omega
            clear HB h0 h1 h2 h3 h4
            go_enter Tryz.func46, Tryz.ntmps46
            go_wp2_with (first
              | (go_at_call 84; refine (implGridOk W H C hC _).mono ?_; rintro e w1 ⟨rfl, hb⟩; rw [H0.out]; replace hB := chain hB hb; obtain ⟨c0, c1, c2⟩ := box_cells hB; clear hb)
              | (go_at_call 41; (with_reducible refine (implRange (S.length : Int) 1 10 _ H1 _).mono ?_); rintro e w' ⟨rfl, rfl⟩)
              | (go_at_call 85; (with_reducible refine (allFreeI W H C S _ _ hC hS H3 _ (ints_on HS.out (box_below hB))).mono ?_); rintro e w2 ⟨rfl, hb⟩; replace hB := chain hB hb; obtain ⟨c0, c1, c2⟩ := box_cells hB; clear hb)
              | (go_at_call 86; (with_reducible refine (implAsc S _ _ hS H4 _ (ints_on HS.out (box_below hB))).mono ?_); rintro e w3 ⟨rfl, q1, rfl⟩; replace hB := below_drewN hB q1))
            go_ret
            exact ⟨rfl, box_below hB⟩
          | true =>
            cases h5 : G.all (freeV W H C) with
            | false =>
              have e : b = false := by
                rw [← HB.out, ask_eq, h0, h1, h2, h3, h4, h5]
                rfl
              subst e
              have H0 : Hid (gok W H C = true) := Lib.hid h0
              have H1 : Hid ((decide (1 ≤ (S.length : Int)) && decide ((S.length : Int) ≤ 10)) = true) := Lib.hid h1
              have H3 : Hid (S.all (freeV W H C) = true) := Lib.hid h3
              have H4 : Hid (upB S = true) := Lib.hid h4
              have H5 : Hid (G.all (freeV W H C) = false) := Lib.hid h5
              have hGS2 : (G.length : Int) ≤ (S.length : Int) := by have := of_decide_eq_true h2; omega
              clear HB h0 h1 h2 h3 h4 h5
              go_enter Tryz.func46, Tryz.ntmps46
              go_wp2_with (first
                | (go_at_call 84; refine (implGridOk W H C hC _).mono ?_; rintro e w1 ⟨rfl, hb⟩; rw [H0.out]; replace hB := chain hB hb; obtain ⟨c0, c1, c2⟩ := box_cells hB; clear hb)
                | (go_at_call 41; (with_reducible refine (implRange (S.length : Int) 1 10 _ H1 _).mono ?_); rintro e w' ⟨rfl, rfl⟩)
                | (go_at_call 85; (with_reducible refine (allFreeI W H C S _ _ hC hS H3 _ (ints_on HS.out (box_below hB))).mono ?_); rintro e w2 ⟨rfl, hb⟩; replace hB := chain hB hb; obtain ⟨c0, c1, c2⟩ := box_cells hB; clear hb)
                | (go_at_call 86; (with_reducible refine (implAsc S _ _ hS H4 _ (ints_on HS.out (box_below hB))).mono ?_); rintro e w3 ⟨rfl, q1, rfl⟩; replace hB := below_drewN hB q1)
                | (go_at_call 85; (with_reducible refine (allFreeI W H C G _ _ hC hG H5 _ (ints_on HG.out (box_below hB))).mono ?_); rintro e w4 ⟨rfl, hb⟩; replace hB := chain hB hb; obtain ⟨c0, c1, c2⟩ := box_cells hB; clear hb))
              go_ret
              exact ⟨rfl, box_below hB⟩
            | true =>
              cases h6 : upB G with
              | false =>
                have e : b = false := by
                  rw [← HB.out, ask_eq, h0, h1, h2, h3, h4, h5, h6]
                  rfl
                subst e
                have H0 : Hid (gok W H C = true) := Lib.hid h0
                have H1 : Hid ((decide (1 ≤ (S.length : Int)) && decide ((S.length : Int) ≤ 10)) = true) := Lib.hid h1
                have H3 : Hid (S.all (freeV W H C) = true) := Lib.hid h3
                have H4 : Hid (upB S = true) := Lib.hid h4
                have H5 : Hid (G.all (freeV W H C) = true) := Lib.hid h5
                have H6 : Hid (upB G = false) := Lib.hid h6
                have hGS2 : (G.length : Int) ≤ (S.length : Int) := by have := of_decide_eq_true h2; omega
                clear HB h0 h1 h2 h3 h4 h5 h6
                go_enter Tryz.func46, Tryz.ntmps46
                go_wp2_with (first
                  | (go_at_call 84; refine (implGridOk W H C hC _).mono ?_; rintro e w1 ⟨rfl, hb⟩; rw [H0.out]; replace hB := chain hB hb; obtain ⟨c0, c1, c2⟩ := box_cells hB; clear hb)
                  | (go_at_call 41; (with_reducible refine (implRange (S.length : Int) 1 10 _ H1 _).mono ?_); rintro e w' ⟨rfl, rfl⟩)
                  | (go_at_call 85; (with_reducible refine (allFreeI W H C S _ _ hC hS H3 _ (ints_on HS.out (box_below hB))).mono ?_); rintro e w2 ⟨rfl, hb⟩; replace hB := chain hB hb; obtain ⟨c0, c1, c2⟩ := box_cells hB; clear hb)
                  | (go_at_call 86; (with_reducible refine (implAsc S _ _ hS H4 _ (ints_on HS.out (box_below hB))).mono ?_); rintro e w3 ⟨rfl, q1, rfl⟩; replace hB := below_drewN hB q1)
                  | (go_at_call 85; (with_reducible refine (allFreeI W H C G _ _ hC hG H5 _ (ints_on HG.out (box_below hB))).mono ?_); rintro e w4 ⟨rfl, hb⟩; replace hB := chain hB hb; obtain ⟨c0, c1, c2⟩ := box_cells hB; clear hb)
                  | (go_at_call 86; (with_reducible refine (implAsc G _ _ hG H6 _ (ints_on HG.out (box_below hB))).mono ?_); rintro e w5 ⟨rfl, q2, rfl⟩; replace hB := below_drewN hB q2))
                go_ret
                exact ⟨rfl, box_below hB⟩
              | true =>
                cases h7 : rgB T 0 20 with
                | false =>
                  have e : b = false := by
                    rw [← HB.out, ask_eq, h0, h1, h2, h3, h4, h5, h6, h7]
                    rfl
                  subst e
                  have H0 : Hid (gok W H C = true) := Lib.hid h0
                  have H1 : Hid ((decide (1 ≤ (S.length : Int)) && decide ((S.length : Int) ≤ 10)) = true) := Lib.hid h1
                  have H3 : Hid (S.all (freeV W H C) = true) := Lib.hid h3
                  have H4 : Hid (upB S = true) := Lib.hid h4
                  have H5 : Hid (G.all (freeV W H C) = true) := Lib.hid h5
                  have H6 : Hid (upB G = true) := Lib.hid h6
                  have H7 : Hid ((decide (0 ≤ T) && decide (T ≤ 20)) = false) := Lib.hid h7
                  have hGS2 : (G.length : Int) ≤ (S.length : Int) := by have := of_decide_eq_true h2; omega
                  clear HB h0 h1 h2 h3 h4 h5 h6 h7
                  go_enter Tryz.func46, Tryz.ntmps46
                  go_wp2_with (first
                    | (go_at_call 84; refine (implGridOk W H C hC _).mono ?_; rintro e w1 ⟨rfl, hb⟩; rw [H0.out]; replace hB := chain hB hb; obtain ⟨c0, c1, c2⟩ := box_cells hB; clear hb)
                    | (go_at_call 41; (with_reducible refine (implRange (S.length : Int) 1 10 _ H1 _).mono ?_); rintro e w' ⟨rfl, rfl⟩)
                    | (go_at_call 85; (with_reducible refine (allFreeI W H C S _ _ hC hS H3 _ (ints_on HS.out (box_below hB))).mono ?_); rintro e w2 ⟨rfl, hb⟩; replace hB := chain hB hb; obtain ⟨c0, c1, c2⟩ := box_cells hB; clear hb)
                    | (go_at_call 86; (with_reducible refine (implAsc S _ _ hS H4 _ (ints_on HS.out (box_below hB))).mono ?_); rintro e w3 ⟨rfl, q1, rfl⟩; replace hB := below_drewN hB q1)
                    | (go_at_call 85; (with_reducible refine (allFreeI W H C G _ _ hC hG H5 _ (ints_on HG.out (box_below hB))).mono ?_); rintro e w4 ⟨rfl, hb⟩; replace hB := chain hB hb; obtain ⟨c0, c1, c2⟩ := box_cells hB; clear hb)
                    | (go_at_call 86; (with_reducible refine (implAsc G _ _ hG H6 _ (ints_on HG.out (box_below hB))).mono ?_); rintro e w5 ⟨rfl, q2, rfl⟩; replace hB := below_drewN hB q2)
                    | (go_at_call 41; (with_reducible refine (implRange T 0 20 _ H7 _).mono ?_); rintro e w' ⟨rfl, rfl⟩))
                  go_ret
                  exact ⟨rfl, box_below hB⟩
                | true =>
                  obtain ⟨L, HL⟩ : ∃ L, Hid (freeL W H C = L) := ⟨_, rfl⟩
                  have hlen : L.length ≤ 64 := by rw [← HL.out]; exact Nat.le_trans (picks_len _ _) (Nat.min_le_right _ 64)
                  obtain ⟨t0, t1⟩ := rgB_iff.1 h7
                  obtain ⟨t, rfl⟩ : ∃ t : Nat, T = t := ⟨T.toNat, by omega⟩
                  obtain ⟨p, hp⟩ : ∃ p : Nat, L.length * (t + 1) = p := ⟨_, rfl⟩
                  have hpb : p ≤ 64 * 21 := by rw [← hp]; exact Nat.mul_le_mul hlen (by omega)
                  have hpi : (L.length : Int) * ((t : Int) + 1) = (p : Int) := by rw [← hp, Int.natCast_mul]; rfl
                  have hw1 : IntKind.i64.wrap ((t : Int) + 1) = (t : Int) + 1 := IntWalk.i64_in _ (by omega)
                  have hw2 : IntKind.i64.wrap ((L.length : Int) * ((t : Int) + 1)) = (p : Int) := by rw [hpi]; exact IntWalk.i64_in _ (by omega)
                  have hb8 : b = decide ((p : Int) ≤ 240) := by
                    rw [← HB.out, ask_eq, h0, h1, h2, h3, h4, h5, h6, h7, HL.out, hpi]
                    rfl
                  subst hb8
                  have hGS2 : (G.length : Int) ≤ (S.length : Int) := by have := of_decide_eq_true h2; omega
                  have H0 : Hid (gok W H C = true) := Lib.hid h0
                  have H1 : Hid ((decide (1 ≤ (S.length : Int)) && decide ((S.length : Int) ≤ 10)) = true) := Lib.hid h1
                  have H3 : Hid (S.all (freeV W H C) = true) := Lib.hid h3
                  have H4 : Hid (upB S = true) := Lib.hid h4
                  have H5 : Hid (G.all (freeV W H C) = true) := Lib.hid h5
                  have H6 : Hid (upB G = true) := Lib.hid h6
                  have H7 : Hid ((decide (0 ≤ (t : Int)) && decide ((t : Int) ≤ 20)) = true) := Lib.hid h7
                  clear HB h0 h1 h2 h3 h4 h5 h6 h7 hp hpi t0 t1
                  go_enter Tryz.func46, Tryz.ntmps46
                  go_wp2_with (first
                    | (go_at_call 84; refine (implGridOk W H C hC _).mono ?_; rintro e w1 ⟨rfl, hb⟩; rw [H0.out]; replace hB := chain hB hb; obtain ⟨c0, c1, c2⟩ := box_cells hB; clear hb)
                    | (go_at_call 41; (with_reducible refine (implRange (S.length : Int) 1 10 _ H1 _).mono ?_); rintro e w' ⟨rfl, rfl⟩)
                    | (go_at_call 85; (with_reducible refine (allFreeI W H C S _ _ hC hS H3 _ (ints_on HS.out (box_below hB))).mono ?_); rintro e w2 ⟨rfl, hb⟩; replace hB := chain hB hb; obtain ⟨c0, c1, c2⟩ := box_cells hB; clear hb)
                    | (go_at_call 86; (with_reducible refine (implAsc S _ _ hS H4 _ (ints_on HS.out (box_below hB))).mono ?_); rintro e w3 ⟨rfl, q1, rfl⟩; replace hB := below_drewN hB q1)
                    | (go_at_call 85; (with_reducible refine (allFreeI W H C G _ _ hC hG H5 _ (ints_on HG.out (box_below hB))).mono ?_); rintro e w4 ⟨rfl, hb⟩; replace hB := chain hB hb; obtain ⟨c0, c1, c2⟩ := box_cells hB; clear hb)
                    | (go_at_call 86; (with_reducible refine (implAsc G _ _ hG H6 _ (ints_on HG.out (box_below hB))).mono ?_); rintro e w5 ⟨rfl, q2, rfl⟩; replace hB := below_drewN hB q2)
                    | (go_at_call 41; (with_reducible refine (implRange (t : Int) 0 20 _ H7 _).mono ?_); rintro e w' ⟨rfl, rfl⟩)
                    | (go_at_call 51; (with_reducible refine (implFreeCells W H C L hC HL _).mono ?_); rintro e w6 ⟨v, rfl, hown, hb⟩; obtain ⟨av, cv, rfl⟩ := own_form hown; replace hB := chain hB hb; clear hb hown))
                  go_ret
                  exact ⟨rfl, box_below hB⟩

end Go.Proofs.YtkbfbifepaoojaaGreatDoor

