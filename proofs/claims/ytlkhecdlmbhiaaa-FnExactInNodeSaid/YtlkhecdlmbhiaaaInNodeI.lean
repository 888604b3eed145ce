/-
  CONTRACT of the program's InNode. No law is proved here.
-/
import Derived.Test.YtlkhecdlmbhiaaaWithinI
import Derived.Test.YtlkhecdlmbhiaaaNumI
import Derived.Test.YtlkhecdlmbhiaaaFindI
import Derived.Test.YtlkhecdlmbhiaaaFreeUp
import Derived.Test.YtlkhecdlmbhiaaaWithF
import Derived.Test.YtlkhecdlmbhiaaaAskV
namespace Go.Proofs.Ytlkhecdlmbhiaaa
set_option maxRecDepth 4096
open Go.ChangeShapes Go.WideShapes Go.ChangeAt Go.RowKit

theorem freeL_len (W H : Int) (C : ByteArray) : (freeL W H C).length ≤ 64 := Nat.le_trans (picks_len _ _) (Nat.min_le_right _ 64)
theorem numIn (F t i : Nat) (z : Int) (hF : F ≤ 1000) (ht : t ≤ 1000) (hi : i ≤ 1000) (HZ : Hid ((numV 0 F 0 0 t i : Nat) = z)) (w : World) :
    Calls Try.prog 24 #[.int .i64 0, .agg #[.int .i64 F, .int .i64 0, .int .i64 0], .int .i64 t, .int .i64 i] w (Made w (.int .i64 z)) :=
  numCell 0 F 0 0 t i z (by omega) hF ht hi HZ w

set_option maxHeartbeats 1000000 in
theorem implInNode (W H : Int) (C : ByteArray) (c T z : Int) (hC : C.size ≤ 1048576) (HZ : Hid (inNodeV W H C c T = z)) (w : World) :
    Calls Try.prog 12 #[.agg #[.int .i64 W, .int .i64 H, .string C], .int .i64 c, .int .i64 T] w (Made w (.int .i64 z)) := by
  have hB := Below.refl (w.alloc (.cells #[.int .i64 W, .int .i64 H, .string C] 27)).heap.size (w.alloc (.cells #[.int .i64 W, .int .i64 H, .string C] 27))
  obtain ⟨L, HL⟩ : ∃ L, Hid (freeL W H C = L) := ⟨_, rfl⟩
  have hlen : L.length ≤ 64 := by rw [← HL.out]; exact freeL_len W H C
  have hup : L.Pairwise (· ≤ ·) := by rw [← HL.out]; exact free_le
  obtain ⟨n, HN⟩ : ∃ n, Hid (L.countP (fun y => decide (y < c)) = n) := ⟨_, rfl⟩
  have hnl : n ≤ 64 := by rw [← HN.out]; exact Nat.le_trans List.countP_le_length hlen
  have hw2 : L.length ≤ 2000000 := by omega
  by_cases hf : freeV W H C c = true
  · have HB : Hid (L.contains c = true) := Lib.hid (by rw [← HL.out, free_has]; exact hf)
    have hn : (freeL W H C).idxOf c = n := by rw [← HN.out, ← HL.out]; exact (asc_count freeU_up (freeU_mem hf)).symm
    by_cases hT : rgB T 0 20 = true
    · have HR : Hid ((decide (0 ≤ T) && decide (T ≤ 20)) = true) := Lib.hid hT
      obtain ⟨h0, h1⟩ := rgB_iff.1 hT
      obtain ⟨t, rfl⟩ : ∃ t : Nat, T = t := ⟨T.toNat, by omega⟩
      have ht : t ≤ 1000 := by omega
      have HZ2 : Hid ((numV 0 L.length 0 0 t n : Nat) = z) := Lib.hid (by
        have e1 : inNodeV W H C c (t : Int) = 3 + 2 * ((t : Int) * ((freeL W H C).length : Int) + (((freeL W H C).idxOf c : Nat) : Int)) := if_pos ⟨hf, hT⟩
        have e2 : numV 0 L.length 0 0 t n = 3 + 2 * (t * L.length + n) + 0 % 2 := if_pos (by decide)
        rw [← HZ.out, e1, e2, hn, HL.out]
        simp)
      clear hf hT HZ hn h0 h1
      go_enter Try.func12, Try.ntmps12
      go_wp2_with fail
      refine (implFreeCells W H C L hC HL _).mono ?_
      rintro e w1 ⟨v, rfl, hown, hb⟩
      replace hB := chain hB hb
      obtain ⟨av, cv, rfl⟩ := own_form hown
      have HI := Lib.hid (ints_of_own hown)
      clear hb hown
      go_wp2_with fail
      refine (implFind L c _ n true hw2 hup HN HB _ HI.out).mono ?_
      rintro e w2 ⟨rfl, q, rfl⟩
      replace hB := below_drewN hB q
      clear hup HI
      go_wp2_with (first
        | (go_at_call 18; refine (implRange _ _ _ true HR _).mono ?_; rintro e w' ⟨rfl, rfl⟩)
        | (go_at_call 24; (with_reducible refine (numIn L.length t n z (by omega) ht (by omega) HZ2 _).mono ?_); rintro e w3 ⟨rfl, hb⟩; replace hB := box_below (chain hB hb); clear hb))
      go_ret
      exact ⟨rfl, hB⟩
    · have hz : z = -1 := by
        rw [← HZ.out]
        unfold inNodeV
        rw [if_neg (fun h => hT h.2)]
      subst hz
      have HR : Hid ((decide (0 ≤ T) && decide (T ≤ 20)) = false) := Lib.hid (by simpa [rgB] using hT)
      clear hf hT HZ hn
      go_enter Try.func12, Try.ntmps12
      go_wp2_with fail
      refine (implFreeCells W H C L hC HL _).mono ?_
      rintro e w1 ⟨v, rfl, hown, hb⟩
      replace hB := chain hB hb
      have HI := Lib.hid (ints_of_own hown)
      clear hb hown
      go_wp2_with fail
      refine (implFind L c _ n true hw2 hup HN HB _ HI.out).mono ?_
      rintro e w2 ⟨rfl, q, rfl⟩
      replace hB := box_below (below_drewN hB q)
      clear hup HI
      go_wp2_with (go_at_call 18; refine (implRange _ _ _ false HR _).mono ?_; rintro e w' ⟨rfl, rfl⟩)
      go_ret
      exact ⟨rfl, hB⟩
  · have hz : z = -1 := by
      rw [← HZ.out]
      unfold inNodeV
      rw [if_neg (fun h => hf h.1)]
    subst hz
    have HB : Hid (L.contains c = false) := Lib.hid (by rw [← HL.out, free_has]; simpa using hf)
    clear hf HZ
    go_enter Try.func12, Try.ntmps12
    go_wp2_with fail
    refine (implFreeCells W H C L hC HL _).mono ?_
    rintro e w1 ⟨v, rfl, hown, hb⟩
    replace hB := chain hB hb
    have HI := Lib.hid (ints_of_own hown)
    clear hb hown
    go_wp2_with fail
    refine (implFind L c _ n false hw2 hup HN HB _ HI.out).mono ?_
    rintro e w2 ⟨rfl, q, rfl⟩
    replace hB := box_below (below_drewN hB q)
    clear hup HI
    go_wp2
    go_ret
    exact ⟨rfl, hB⟩

end Go.Proofs.Ytlkhecdlmbhiaaa
