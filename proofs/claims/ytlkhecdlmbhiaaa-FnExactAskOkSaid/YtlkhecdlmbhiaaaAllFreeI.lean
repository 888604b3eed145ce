/-
  CONTRACT of the program's allFree. No law is proved here.
-/
import Derived.Test.YtlkhecdlmbhiaaaFreeAtI
import Derived.Test.YtlkhecdlmbhiaaaInts
namespace Go.Proofs.Ytlkhecdlmbhiaaa
set_option maxRecDepth 4096
open Go.ChangeShapes Go.WideShapes Go.ChangeAt Go.RowKit

theorem all_take {p : Int → Bool} {L : List Int} {k : Nat} {x : Int} (h : (L.take k).all p = true) (hx : L[k]? = some x) (hp : p x = true) : (L.take (k + 1)).all p = true := by
  obtain ⟨hi, rfl⟩ := List.getElem?_eq_some_iff.1 hx
  rw [List.take_succ_eq_append_getElem hi, List.all_append, h]
  simp [hp]
theorem all_not {p : Int → Bool} {L : List Int} {k : Nat} {x : Int} (hx : L[k]? = some x) (hp : p x = false) : L.all p = false := by
  rw [List.all_eq_false]
  exact ⟨x, List.mem_of_getElem? hx, by simp [hp]⟩

set_option maxHeartbeats 1000000 in
theorem allFreeI (W H : Int) (C : ByteArray) (L : List Int) (b : Bool) (v : Value) (hC : C.size ≤ 1048576) (hL : L.length ≤ 2000000) (HB : Hid (L.all (freeV W H C) = b)) (w : World) (hv : Ints w v L) :
    Calls Try.prog 19 #[.agg #[.int .i64 W, .int .i64 H, .string C], v] w (Made w (.bool b)) := by
  have hB := Below.refl (w.alloc (.cells #[.int .i64 W, .int .i64 H, .string C] 27)).heap.size (w.alloc (.cells #[.int .i64 W, .int .i64 H, .string C] 27))
  obtain ⟨av, cv, rfl, HV⟩ := ints_form hv
  have HVh := Lib.hid HV
  clear HV hv
  go_enter Try.func19, Try.ntmps19
  go_wp2_with fail
  go_loopw [9] (fun i wr => ∃ k : Nat, k ≤ L.length ∧ i = .int .i64 k ∧ Hid ((L.take k).all (freeV W H C) = true) ∧ Below (w.alloc (.cells #[.int .i64 W, .int .i64 H, .string C] 27)).heap.size (w.alloc (.cells #[.int .i64 W, .int .i64 H, .string C] 27)) wr) (fun i _ => L.length - (intOf i).toNat)
  case atStart => exact ⟨0, Nat.zero_le _, rfl, Lib.hid rfl, hB⟩
  case round =>
    clear hB
    obtain ⟨k, hk, rfl, HK, hB⟩ := hrel
    obtain ⟨c0, c1, c2⟩ := box_cells hB
    by_cases hlt : k < L.length
    · obtain ⟨x, hx⟩ : ∃ x, L[k]? = some x := ⟨_, List.getElem?_eq_getElem hlt⟩
      rcases HVh.out with h0 | ⟨g, rfl, hgl, hc⟩
      · omega
      · have d0 : wr.cell? ⟨g, k, none⟩ = some (.int .i64 x) := ((box_below hB).cell (p := ⟨g, k, none⟩) hgl).trans (hc k x hx)
        have HX := Lib.hid hx
        have hlt2 : (k : Int) < (L.length : Int) := by omega
        clear hx hc
        cases hf : freeV W H C x with
        | true =>
          have HF := Lib.hid hf
          clear hf
          go_wp2_with fail
          refine (implFreeAt W H C x hC _).mono ?_
          rintro e w5 ⟨rfl, hb⟩
          rw [HF.out]
          replace hB := chain hB hb
          clear d0 hb c0 c1 c2
          go_wp2_with fail
          go_roundw
          case rel => exact ⟨k + 1, by omega, by go_num, Lib.hid (all_take HK.out HX.out HF.out), hB⟩
          case measure => simp [intOf]; omega
        | false =>
          have HF := Lib.hid hf
          have e : b = false := by rw [← HB.out]; exact all_not HX.out hf
          subst e
          clear hf
          go_wp2_with fail
          refine (implFreeAt W H C x hC _).mono ?_
          rintro e w5 ⟨rfl, hb⟩
          rw [HF.out]
          replace hB := chain hB hb
          clear d0 hb c0 c1 c2
          go_wp2_with fail
          go_ret
          exact ⟨rfl, box_below hB⟩
    · obtain rfl : k = L.length := by omega
      have e : b = true := by rw [← HB.out, ← HK.out, List.take_length]
      subst e
      go_wp2_with fail
      go_ret
      exact ⟨rfl, box_below hB⟩

end Go.Proofs.Ytlkhecdlmbhiaaa
