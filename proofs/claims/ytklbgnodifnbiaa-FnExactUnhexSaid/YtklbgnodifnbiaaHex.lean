/-
  CONTRACTS for the law FnExactHex: what Hex and its model return and leave of memory.
-/
import Derived.Test.YtklbgnodifnbiaaFig
import Derived.StillTailTactics
import Derived.RegionTactic
import Derived.Deep.RegionLaw
import Derived.Deep.AppendLies
import Derived.BigRegion
namespace Go.Proofs.Ytklbgnodifnbiaa
open Go.ChangeShapes Go.WideShapes Go.ChangeAt Go.RowKit

def hexOf (l : List UInt8) : List UInt8 := l.flatMap fun b => [fig (b.toNat / 16), fig (b.toNat % 16)]

theorem hexOf_snoc (l : List UInt8) (b : UInt8) : hexOf (l ++ [b]) = hexOf l ++ [fig (b.toNat / 16), fig (b.toNat % 16)] := by simp [hexOf]
theorem length_hexOf (l : List UInt8) : (hexOf l).length = 2 * l.length := by
  induction l with
  | nil => rfl
  | cons b l ih => simp [hexOf] at ih ⊢; omega
theorem take_snoc (s : ByteArray) (k : Nat) (h : k < s.size) : s.data.toList.take (k + 1) = s.data.toList.take k ++ [s[k]] := by
  rw [List.take_succ_eq_append_getElem (by simpa using h)]; rfl

theorem hex_step {s : ByteArray} {k : Nat} {w wr w1 : World} {v v1 : Value} {e : TypeId} {o : Obj} (h : k < s.size) (hbe : Below w.heap.size w wr) (hown : wr.ownsRow w.heap.size e 1 v (2 * k) (cellsOf (hexOf (s.data.toList.take k))))
    (h1 : w1.ownsRow w.heap.size e 1 v1 (2 * k + 2) (cellsOf (hexOf (s.data.toList.take k)) ++ cellsOf [fig (((s[k].toNat : Nat) : Int) / 16).toNat, fig (((s[k].toNat : Nat) : Int) % 16).toNat]))
    (hg : ((wr.alloc o).drew).grownBy w1 v.ownBlock) : w1.ownsRow w.heap.size e 1 v1 (2 * (k + 1)) (cellsOf (hexOf (s.data.toList.take (k + 1)))) ∧ Below w.heap.size w w1 := by
  refine ⟨?_, ((hbe.alloc hbe.size o).drew).grown hg (by have := hbe.size; simp; omega) (fun j hj => (hown.lt j hj).1)⟩
  rw [take_snoc s k h, hexOf_snoc, cellsOf_append, Nat.mul_add]
  exact h1


set_option maxHeartbeats 400000 in
theorem specHex_yes (s : ByteArray) (w : World) (hs : s.size ≤ 20000) :
    Calls Try.prog 7 #[.string s] w fun e w' => e = .returned (.tuple #[.string ⟨(hexOf s.data.toList).toArray⟩, .bool true]) ∧ Below w.heap.size w w' := by
  obtain ⟨i0, hi, hz0, hz1, hz2⟩ := info_parts Try.info5
  go_enter Try.func7, Try.ntmps7
  go_wp2
  go_loopw [4, 5] (fun v i wr => ∃ k : Nat, k ≤ s.size ∧ i = .int .i64 k ∧ wr.ownsRow w.heap.size 5 1 v (2 * k) (cellsOf (hexOf (s.data.toList.take k))) ∧ Below w.heap.size w wr)
    (fun _ i _ => s.size - (intOf i).toNat)
  case atStart =>
    exact ⟨0, Nat.zero_le _, rfl, World.ownsRow_made _ _ _ (Nat.le_refl _) (by decide) rfl, (Below.refl _ _).alloc (Nat.le_refl _) _⟩
  case round =>
    obtain ⟨k, hk, rfl, hown, hbe⟩ := hrel
    by_cases hlt : k < s.size
    · have hb1 : ((s[k].toNat : Nat) : Int) < 256 := by have := s[k].toNat_lt; omega
      have e1 : IntKind.i64.wrap ((s[k].toNat : Nat) : Int) = ((s[k].toNat : Nat) : Int) := IntWalk.i64_in _ (by omega)
      have e2 : ((s[k].toNat : Nat) : Int).tdiv 16 = ((s[k].toNat : Nat) : Int) / 16 := by rw [Int.tdiv_eq_ediv_of_nonneg (by omega)]
      have e3 : ((s[k].toNat : Nat) : Int).tmod 16 = ((s[k].toNat : Nat) : Int) % 16 := by rw [Int.tmod_eq_emod_of_nonneg (by omega)]
      have e4 : IntKind.i64.wrap (((s[k].toNat : Nat) : Int) / 16) = ((s[k].toNat : Nat) : Int) / 16 := IntWalk.i64_in _ (by omega)
      have hbs := hbe.size
      go_wp2
      go_region_law (first
        | (go_simp; go_at_call 18; (with_reducible refine (l01FigureI _ (by omega) (by omega) _).mono ?_); rintro e w' ⟨rfl, rfl⟩)
        | (refine step_append_lies _ rfl (.tmp 16) (.tmp 29) 32 rfl w.heap.size 5 i0 _ 1 1 Try.underlying32 hi hz0 hz1 hz2 rfl (by decide) _ _ _ (by simp [Act.eval]) (hown.drew.alloc _) ⟨wr.heap.size, 0, none⟩ 2 2 (cellsOf [fig (((s[k].toNat : Nat) : Int) / 16).toNat, fig (((s[k].toNat : Nat) : Int) % 16).toNat]) (by simp [Act.eval]) rfl (cells_new _ _ _) (cellsOf_one _) (by decide) (by unfold maxLen; omega) (by omega) (by simp; omega) _ rfl ?_; intro g cap w1 hown1 hgrow _ _; have R := hex_step hlt hbe hown hown1 hgrow; clear hown1 hgrow))
      all_goals
        clear e1 e2 e3 e4
        go_wp2
        go_roundw
        case rel => exact ⟨k + 1, hlt, by go_num, R.1, R.2⟩
        case measure => simp [intOf]; omega
    · obtain rfl : k = s.size := by omega
      have hconv := run_text_own (P := Try.prog) wr 32 9 5 Try.underlying32 Try.underlying5 Try.underlying9 hown
      rw [List.take_of_length_le (by simp)] at hconv
      go_wp2
      go_ret2
      exact ⟨rfl, hbe⟩

theorem run_digit (x : Int) (h0 : 0 ≤ x) (h : x < 16) (w : World) :
    (Instr.index 9 (.string ⟨#[48, 49, 50, 51, 52, 53, 54, 55, 56, 57, 97, 98, 99, 100, 101, 102]⟩) (.int .u8 x)).run Try.prog w = .ok (.int .u8 (fig x.toNat).toNat) w := by
  obtain ⟨n, rfl⟩ : ∃ n : Nat, x = n := ⟨x.toNat, by omega⟩
  have hn : n < 16 := by omega
  match n, hn with
  | 0, _ => rfl
  | 1, _ => rfl
  | 2, _ => rfl
  | 3, _ => rfl
  | 4, _ => rfl
  | 5, _ => rfl
  | 6, _ => rfl
  | 7, _ => rfl
  | 8, _ => rfl
  | 9, _ => rfl
  | 10, _ => rfl
  | 11, _ => rfl
  | 12, _ => rfl
  | 13, _ => rfl
  | 14, _ => rfl
  | 15, _ => rfl

theorem and15 (a : Nat) (h : a < 256) : bits .and .u8 (a : Int) 15 = (a : Int) % 16 := by
  have H : ∀ a : Fin 256, bits .and .u8 (a.val : Int) 15 = (a.val : Int) % 16 := by decide +kernel
  exact H ⟨a, h⟩

theorem specHex_no (s : ByteArray) (w : World) (hs : ¬ s.size ≤ 20000) :
    Calls Try.prog 7 #[.string s] w fun e w' => e = .returned (.tuple #[.string ⟨#[]⟩, .bool false]) ∧ w = w' := by
  have hs1 : (20000 : Int) < s.size := by omega
  go_enter Try.func7, Try.ntmps7
  go_wp2
  go_ret2
  exact ⟨rfl, rfl⟩

theorem implHex_no (s : ByteArray) (w : World) (hs : ¬ s.size ≤ 20000) :
    Calls Try.prog 8 #[.string s] w fun e w' => e = .returned (.tuple #[.string ⟨#[]⟩, .bool false]) ∧ w = w' := by
  have hs1 : (20000 : Int) < s.size := by omega
  go_enter Try.func8, Try.ntmps8
  go_wp2
  go_ret2
  exact ⟨rfl, rfl⟩

set_option maxHeartbeats 400000 in
theorem implHex_yes (s : ByteArray) (w : World) (hs : s.size ≤ 20000) :
    Calls Try.prog 8 #[.string s] w fun e w' => e = .returned (.tuple #[.string ⟨(hexOf s.data.toList).toArray⟩, .bool true]) ∧ Below w.heap.size w w' := by
  obtain ⟨i0, hi, hz0, hz1, hz2⟩ := info_parts Try.info5
  have hs1 : ¬ (20000 : Int) < s.size := by omega
  have hs2 : (0 : Int) ≤ s.size := by omega
  go_enter Try.func8, Try.ntmps8
  go_wp2_with (at_make; refine wpList_make_own _ rfl _ _ 32 rfl w.heap.size 5 i0 (.int .u8 0) 1 Try.underlying32 hi hz0 hz1 _ _ _ (2 * s.size) rfl rfl (by omega) (by rw [hz2]; omega) (by unfold maxLen; omega) (Nat.le_refl _) ?_; intro w0 hown0 hgrow0)
  go_loopw [4, 15] (fun v i wr => ∃ k : Nat, k ≤ s.size ∧ i = .int .i64 k ∧ wr.ownsRow w.heap.size 5 1 v (2 * k) (cellsOf (hexOf (s.data.toList.take k))) ∧ Below w.heap.size w wr)
    (fun _ i _ => s.size - (intOf i).toNat)
  case atStart =>
    exact ⟨0, Nat.zero_le _, rfl, hown0, (Below.refl _ _).grown hgrow0 (Nat.le_refl _) (by simp)⟩
  case round =>
    clear hown0 hgrow0
    obtain ⟨k, hk, rfl, hown, hbe⟩ := hrel
    by_cases hlt : k < s.size
    · have hb1 : ((s[k].toNat : Nat) : Int) < 256 := by have := s[k].toNat_lt; omega
      have hbs := hbe.size
      have d1 := run_digit (((s[k].toNat : Nat) : Int) / 16) (by omega) (by omega)
      have d2 := run_digit (((s[k].toNat : Nat) : Int) % 16) (by omega) (by omega)
      have d3 := and15 s[k].toNat (by omega)
      go_wp2
      go_region_law (first
        | (refine step_append_lies _ rfl (.tmp 18) (.tmp 29) 32 rfl w.heap.size 5 i0 _ 1 1 Try.underlying32 hi hz0 hz1 hz2 rfl (by decide) _ _ _ (by simp [Act.eval]) (hown.drew.alloc _) ⟨wr.heap.size, 0, none⟩ 2 2 (cellsOf [fig (((s[k].toNat : Nat) : Int) / 16).toNat, fig (((s[k].toNat : Nat) : Int) % 16).toNat]) (by simp [Act.eval]) rfl (cells_new _ _ _) (cellsOf_one _) (by decide) (by unfold maxLen; omega) (by omega) (by simp; omega) _ rfl ?_; intro g cap w1 hown1 hgrow _ _; have R := hex_step hlt hbe hown hown1 hgrow; clear hown1 hgrow))
      all_goals
        clear d1 d2 d3
        go_wp2
        go_roundw
        case rel => exact ⟨k + 1, hlt, by go_num, R.1, R.2⟩
        case measure => simp [intOf]; omega
    · obtain rfl : k = s.size := by omega
      have hconv := run_text_own (P := Try.prog) wr 32 9 5 Try.underlying32 Try.underlying5 Try.underlying9 hown
      rw [List.take_of_length_le (by simp)] at hconv
      go_wp2
      go_ret2
      exact ⟨rfl, hbe⟩

end Go.Proofs.Ytklbgnodifnbiaa
