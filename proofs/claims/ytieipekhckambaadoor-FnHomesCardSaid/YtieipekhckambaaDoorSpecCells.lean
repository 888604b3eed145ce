/-
  CONTRACT of spec.l03Has. No law is proved here.
-/
import Derived.Test.YtieipekhckambaaDoorSpecCell
import Derived.Test.YtieipekhckambaaDoorFreeS
import Derived.Test.YtieipekhckambaaDoorInts
namespace Go.Proofs.YtieipekhckambaaDoor
set_option maxRecDepth 4096
open Go.ChangeShapes Go.WideShapes Go.ChangeAt Go.RowKit

set_option maxHeartbeats 400000 in
theorem specHas (v : Value) (L : List Int) (x : Int) (b : Bool) (w : World) (h : Ints w v L) (HB : Hid (L.contains x = b)) (hL : L.length ≤ 2000000) :
    Calls Tryd.prog 44 #[v, .int .i64 x] w fun e w' => e = .returned (.bool b) ∧ w = w' := by
  obtain ⟨av, cv, rfl, HV⟩ : ∃ a c, v = .slice a L.length c ∧ (L.length = 0 ∨ ∃ g, a = some ⟨g, 0, none⟩ ∧ g < w.heap.size ∧ ∀ (j : Nat) x, L[j]? = some x → w.cell? ⟨g, j, none⟩ = some (.int .i64 x)) := by
    rcases h with ⟨rfl, a, c, rfl⟩ | ⟨g, c, rfl, hg, hc⟩
    · exact ⟨a, c, rfl, .inl rfl⟩
    · exact ⟨_, c, rfl, .inr ⟨g, rfl, hg, hc⟩⟩
  have HVh := Lib.hid HV
  clear HV h
  go_enter Tryd.func44, Tryd.ntmps44
  go_wp2
  go_loop [5] (fun i => ∃ k : Nat, k ≤ L.length ∧ i = .int .i64 k ∧ Hid ((L.take k).contains x = false)) (fun i => L.length - (intOf i).toNat)
  case atStart => exact ⟨0, Nat.zero_le _, rfl, Lib.hid (by simp)⟩
  case round =>
    obtain ⟨k, hk, rfl, HK⟩ := hrel
    by_cases hlt : k < L.length
    · obtain ⟨y, hy⟩ : ∃ y, L[k]? = some y := ⟨_, List.getElem?_eq_getElem hlt⟩
      rcases HVh.out with h0 | ⟨g, rfl, _, hc⟩
      · omega
      · have d0 := hc k y hy
        have HY := Lib.hid hy
        have hlt2 : (k : Int) < (L.length : Int) := by omega
        clear hc hy
        by_cases hxy : y = x
        · have HT : Hid (true = b) := Lib.hid (by rw [← HB.out]; subst hxy; exact (List.contains_iff_mem.2 (List.mem_of_getElem? HY.out)).symm)
          have hyx : (y == x) = true := by simpa using hxy
          clear hxy
          go_wp2
          go_ret
          exact ⟨bool_ret HT.out rfl, rfl⟩
        · have hyx : (y == x) = false := by simpa using hxy
          have HK2 : Hid ((L.take (k + 1)).contains x = false) := Lib.hid (by
            have h1 := HK.out
            obtain ⟨hl, hy⟩ := List.getElem?_eq_some_iff.1 HY.out
            rw [List.take_succ_eq_append_getElem hl, hy]
            simp at h1 ⊢
            exact ⟨h1, fun e => hxy e.symm⟩)
          clear hxy
          go_wp2
          go_round
          case rel => exact ⟨k + 1, by omega, by go_num, HK2⟩
          case measure => simp [intOf]; omega
    · obtain rfl : k = L.length := by omega
      have HT : Hid (false = b) := Lib.hid (by rw [← HB.out, ← HK.out, List.take_length])
      go_wp2
      go_ret
      exact ⟨bool_ret HT.out rfl, rfl⟩

end Go.Proofs.YtieipekhckambaaDoor
