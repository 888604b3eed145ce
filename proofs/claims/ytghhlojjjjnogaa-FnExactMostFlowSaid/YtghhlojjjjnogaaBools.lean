/-
  CONTRACTS of the laws' own helpers on slices of Booleans: eqBoolS, markBoolS, heldBoolS. No law is proved here.
-/
import Derived.Test.YtghhlojjjjnogaaBoolsO
import Derived.Test.YtghhlojjjjnogaaRowO
import Derived.Deep.QuietTactic
import Derived.BigQuiet
import Derived.Deep.RegionWith
import Derived.Laws.OwnMore
namespace Go.Proofs.Ytghhlojjjjnogaa
set_option maxRecDepth 4096
open Go.ChangeShapes Go.WideShapes Go.ChangeAt Go.RowKit

set_option maxHeartbeats 400000 in
theorem eqBools (v1 v2 : Value) (o : Nat → Bool) (n : Nat) (w : World) (h1 : Bools w v1 o n) (h2 : Bools w v2 o n) (hn : n ≤ 2000000) :
    Calls Try.prog 28 #[v1, v2] w (Quiet w (.bool true)) := by
  obtain ⟨a1, c1, rfl, H1⟩ := h1
  obtain ⟨a2, c2, rfl, H2⟩ := h2
  have HH1 := Lib.hid H1
  have HH2 := Lib.hid H2
  clear H1 H2
  go_enter Try.func28, Try.ntmps28
  go_wp2
  go_loopw [5] (fun i wr => ∃ k m : Nat, k ≤ n ∧ i = .int .i64 k ∧ wr = w.drewN m) (fun i _ => n - (intOf i).toNat)
  case atStart => exact ⟨0, 0, Nat.zero_le _, rfl, rfl⟩
  case round =>
    obtain ⟨k, m, hk, rfl, rfl⟩ := hrel
    by_cases hlt : k < n
    · rcases HH1.out with h0 | ⟨g1, rfl, hg1, hc1⟩
      · omega
      · rcases HH2.out with h0 | ⟨g2, rfl, hg2, hc2⟩
        · omega
        · have d1 := hc1 k hlt
          have d2 := hc2 k hlt
          have hlt2 : (k : Int) < (n : Int) := by omega
          clear hc1 hc2
          cases hb : o k with
          | true =>
            rw [hb] at d1 d2
            go_wp2
            go_quiet (fail)
            go_wp2
            go_roundw
            case rel => exact ⟨k + 1, _, by omega, by go_num, rfl⟩
            case measure => simp [intOf]; omega
          | false =>
            rw [hb] at d1 d2
            go_wp2
            go_quiet (fail)
            go_wp2
            go_roundw
            case rel => exact ⟨k + 1, _, by omega, by go_num, rfl⟩
            case measure => simp [intOf]; omega
    · go_wp2
      go_ret
      exact ⟨rfl, m, rfl⟩

/-- The Booleans that the marks from k on are. -/
def third (k : Nat) (j : Nat) : Bool := decide ((k + j) % 3 = 0)
theorem third_tm (k j : Nat) : ((k : Int) + (j : Int)).tmod 3 = (((k + j) % 3 : Nat) : Int) := by
  rw [Int.tmod_eq_emod_of_nonneg (by omega)]
  omega

set_option maxHeartbeats 400000 in
theorem heldBools (v : Value) (k n : Nat) (w : World) (h : Bools w v (third k) n) (hn : k + n ≤ 2000000) :
    Calls Try.prog 34 #[v, .int .i64 k] w (Made w (.int .i64 ((k + n : Nat) : Int))) := by
  obtain ⟨a, c, rfl, H⟩ := h
  have HH := Lib.hid H
  clear H
  go_enter Try.func34, Try.ntmps34
  go_wp2
  go_loop [1, 5] (fun a i => ∃ j : Nat, j ≤ n ∧ a = .int .i64 ((k + j : Nat) : Int) ∧ i = .int .i64 j) (fun _ i => n - (intOf i).toNat)
  case atStart => exact ⟨0, Nat.zero_le _, rfl, rfl⟩
  case round =>
    obtain ⟨j, hj, rfl, rfl⟩ := hrel
    by_cases hlt : j < n
    · rcases HH.out with h0 | ⟨g, rfl, hg, hc⟩
      · omega
      · have d1 := hc j hlt
        have hlt2 : (j : Int) < (n : Int) := by omega
        have ht := third_tm k j
        have hw : IntKind.i64.wrap (((k + j) % 3 : Nat) : Int) = (((k + j) % 3 : Nat) : Int) := IntWalk.i64_in _ (by omega)
        have hb : ((((k + j) % 3 : Nat) : Int) == 0) = third k j := by
          unfold third
          rw [Bool.eq_iff_iff, beq_iff_eq, decide_eq_true_eq]
          omega
        obtain ⟨m, hm⟩ : ∃ m : Nat, m = (k + j) % 3 := ⟨_, rfl⟩
        rw [← hm] at ht hw hb
        clear hc hm
        cases h3 : third k j with
        | true =>
          rw [h3] at d1 hb
          clear h3
          go_wp2
          go_round
          case rel => exact ⟨j + 1, by omega, by go_num, by go_num⟩
          case measure => simp [intOf]; omega
        | false =>
          rw [h3] at d1 hb
          clear h3
          go_wp2
          go_round
          case rel => exact ⟨j + 1, by omega, by go_num, by go_num⟩
          case measure => simp [intOf]; omega
    · obtain rfl : j = n := by omega
      go_wp2
      go_ret
      exact ⟨ret_int (by omega), Below.refl _ _⟩

/-- markBoolS has written its marks, and nothing else that was there. -/
def MarkedB (w : World) (B : Nat) (v : Value) (k n : Nat) (e : Ending) (w' : World) : Prop :=
  e = .returned (.int .i64 ((k + n : Nat) : Int)) ∧ w'.ownsRow B 4 1 v n (rowB (third k) n) ∧ w.grownBy w' v.ownBlock
/-- The row while the marks are written. -/
def markO (o : Nat → Bool) (k j : Nat) (i : Nat) : Bool := if i < j then third k i else o i
theorem markO_set (o : Nat → Bool) (k j n : Nat) : (rowB (markO o k j) n).set j (.bool (third k j)) = rowB (markO o k (j + 1)) n := by
  apply List.ext_getElem?
  intro i
  rw [List.getElem?_set]
  by_cases hi : i < n
  · rw [rowB_at _ hi, rowB_at _ hi]
    by_cases e : j = i
    · subst e
      rw [if_pos rfl, if_pos (by rw [rowB_len]; exact hi)]
      simp [markO]
    · rw [if_neg e]
      unfold markO
      by_cases h : i < j
      · rw [if_pos h, if_pos (by omega)]
      · rw [if_neg h, if_neg (by omega)]
  · have h1 : ∀ o : Nat → Bool, (rowB o n)[i]? = none := fun o => List.getElem?_eq_none_iff.2 (by rw [rowB_len]; omega)
    rw [h1, h1]
    split
    · rw [if_neg (by rw [rowB_len]; omega)]
    · rfl
theorem rowB_upto {o o' : Nat → Bool} {n : Nat} (h : ∀ j, j < n → o j = o' j) : rowB o n = rowB o' n := by
  unfold rowB
  exact List.map_congr_left fun j hj => by rw [h j (List.mem_range.1 hj)]
theorem grown_setB {w wr : World} {g j : Nat} {u : Value} (h : w.grownBy wr (some g)) : w.grownBy (wr.setCell ⟨g, j, none⟩ u) (some g) :=
  ⟨h.os, h.tape, h.output, by simpa [World.setCell] using h.size, fun i hi hne => (heap_setCell_other wr ⟨g, j, none⟩ i u (fun e => hne (by simp [e]))).trans (h.block i hi hne)⟩

set_option maxHeartbeats 400000 in
theorem markBools (v : Value) (B k n : Nat) (o : Nat → Bool) (w : World) (hown : w.ownsRow B 4 1 v n (rowB o n)) (hn : k + n ≤ 2000000) :
    Calls Try.prog 33 #[v, .int .i64 k] w (MarkedB w B v k n) := by
  by_cases h0 : n = 0
  · subst h0
    obtain ⟨a, c, rfl⟩ := own_form hown
    go_enter Try.func33, Try.ntmps33
    go_wp2
    refine wp_loop_rounds 1 ?_
    rw [rounds_succ]
    go_wp2
    go_ret
    exact ⟨ret_int (by omega), hown, World.grownBy.refl _ _⟩
  · obtain ⟨g, c, rfl⟩ : ∃ g c, v = .slice (some ⟨g, 0, none⟩) n c := by
      rcases hown.2 with ⟨_, h⟩ | ⟨g, cap, cur, rfl, _⟩
      · exact absurd h h0
      · exact ⟨g, cap, rfl⟩
    have HO0 := Lib.hid hown
    clear h0 hown
    go_enter Try.func33, Try.ntmps33
    go_wp2
    go_loopw [1, 5] (fun a i wr => ∃ j : Nat, j ≤ n ∧ a = .int .i64 ((k + j : Nat) : Int) ∧ i = .int .i64 j ∧ wr.ownsRow B 4 1 (.slice (some ⟨g, 0, none⟩) n c) n (rowB (markO o k j) n) ∧ w.grownBy wr (some g)) (fun _ i _ => n - (intOf i).toNat)
    case atStart => exact ⟨0, Nat.zero_le _, rfl, rfl, by rw [show markO o k 0 = o from funext fun i => if_neg (by omega)]; exact HO0.out, World.grownBy.refl _ _⟩
    case round =>
      clear HO0
      obtain ⟨j, hj, rfl, rfl, hown, hgr⟩ := hrel
      by_cases hlt : j < n
      · have hlt2 : (j : Int) < (n : Int) := by omega
        have ht := third_tm k j
        have hw : IntKind.i64.wrap (((k + j) % 3 : Nat) : Int) = (((k + j) % 3 : Nat) : Int) := IntWalk.i64_in _ (by omega)
        have hb : ((((k + j) % 3 : Nat) : Int) == 0) = third k j := by
          unfold third
          rw [Bool.eq_iff_iff, beq_iff_eq, decide_eq_true_eq]
          omega
        obtain ⟨m, hm⟩ : ∃ m : Nat, m = (k + j) % 3 := ⟨_, rfl⟩
        rw [← hm] at ht hw hb
        have d1 := own_bool hown hlt
        have d2 := hown.frozenAt j
        have hst := (hown.stored j (.bool (third k j))).1
        rw [markO_set] at hst
        have HS := Lib.hid hst
        have HG := Lib.hid hgr
        clear hm hst hown hgr
        go_wp2
        go_roundw
        case rel => exact ⟨j + 1, by omega, by go_num, by go_num, HS.out, grown_setB HG.out⟩
        case measure => simp [intOf]; omega
      · obtain rfl : j = n := by omega
        have e : rowB (markO o k j) j = rowB (third k) j := rowB_upto fun i hi => if_pos hi
        rw [e] at hown
        have HO := Lib.hid hown
        clear hown e
        go_wp2
        go_ret
        exact ⟨ret_int (by omega), HO.out, hgr⟩

end Go.Proofs.Ytghhlojjjjnogaa
