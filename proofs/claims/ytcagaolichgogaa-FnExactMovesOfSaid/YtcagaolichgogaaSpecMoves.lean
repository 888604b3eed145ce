/-
  CONTRACT of spec.MovesOf. No law is proved here.
-/
import Derived.Test.YtcagaolichgogaaMovesV
import Derived.BigQuiet
import Derived.Deep.QuietTactic
namespace Go.Proofs.Ytcagaolichgogaa
set_option maxRecDepth 4096
open Go.ChangeShapes Go.WideShapes Go.ChangeAt Go.RowKit

set_option maxHeartbeats 2000000 in
theorem specMoves (v : Value) (Ws : List (List Int)) (n : Nat) (hW : Ws.length ≤ 2000000) (hT : totW Ws ≤ 2000000) (HN : Hid (movesW Ws = n)) (w : World) (hv : WaysAt w v Ws) :
    Calls Try.prog 7 #[v] w (Quiet w (.int .i64 n)) := by
  obtain ⟨av, cv, rfl, HV⟩ := hv
  have HVh := Lib.hid HV
  have HTh := Lib.hid hT
  clear HV hT
  go_enter Try.func7, Try.ntmps7
  go_wp2
  go_loopw [3, 4] (fun a i wr => ∃ j m : Nat, j ≤ Ws.length ∧ a = .int .i64 ((movesW (Ws.take j) : Nat) : Int) ∧ i = .int .i64 j ∧ wr = w.drewN m) (fun _ i _ => Ws.length - (intOf i).toNat)
  case atStart => exact ⟨0, 0, Nat.zero_le _, rfl, rfl, rfl⟩
  case round =>
    obtain ⟨j, m, hj, rfl, rfl, rfl⟩ := hrel
    by_cases hlt : j < Ws.length
    · have hlt2 : (j : Int) < (Ws.length : Int) := by omega
      obtain ⟨L, hx⟩ : ∃ L, Ws[j]? = some L := ⟨_, List.getElem?_eq_getElem hlt⟩
      rcases HVh.out with h0 | ⟨g, rfl, hg, hc⟩
      · omega
      · obtain ⟨u, d0, hI⟩ := hc j L hx
        obtain ⟨au, cu, rfl, HI⟩ := ints_form hI
        have HIh := Lib.hid HI
        have hLb := totW_one hx
        have hmb : movesW (Ws.take j) ≤ 2000000 := by
          have h1 := movesW_le (Ws.take j)
          have h2 := totW_le Ws j
          have := HTh.out
          omega
        have hLb2 : L.length ≤ 2000000 := by have := HTh.out; omega
        have HMS := Lib.hid (movesW_succ hx)
        obtain ⟨M, HM⟩ : ∃ M, Hid (movesW (Ws.take j) = M) := ⟨_, rfl⟩
        rw [HM.out] at hmb HMS ⊢
        clear hI HI hc hx hLb
        go_wp2
        go_loopw [3, 5] (fun a t wr => ∃ k p : Nat, 1 ≤ k ∧ k ≤ L.length + 1 ∧ a = .int .i64 ((M + moveN L k : Nat) : Int) ∧ t = .int .i64 k ∧ (k ≤ L.length ∨ moveN L k = moveN L L.length) ∧ wr = w.drewN p) (fun _ t _ => L.length + 1 - (intOf t).toNat)
        case atStart => exact ⟨1, m, Nat.le_refl _, by omega, by rw [moveN_one]; rfl, rfl, by
          by_cases h : L.length = 0
          · right; rw [h]; rfl
          · left; omega, rfl⟩
        case round =>
          obtain ⟨k, p, hk1, hk, rfl, rfl, hor, rfl⟩ := hrel
          by_cases hl2 : k < L.length
          · have hl3 : (k : Int) < (L.length : Int) := by omega
            obtain ⟨x, hx⟩ : ∃ x, L[k]? = some x := ⟨_, List.getElem?_eq_getElem hl2⟩
            obtain ⟨y, hy⟩ : ∃ y, L[k - 1]? = some y := ⟨_, List.getElem?_eq_getElem (by omega)⟩
            rcases HIh.out with h0 | ⟨q, rfl, hq, hqc⟩
            · omega
            · have dx := hqc k x hx
              have dy := hqc (k - 1) y hy
              have hsc := moveN_succ (by omega) hx hy
              have hwk : IntKind.i64.wrap ((k : Int) - 1) = ((k - 1 : Nat) : Int) := by rw [IntWalk.i64_in _ (by omega)]; omega
              have hml := moveN_le L k
              have HSC := Lib.hid hsc
              clear hx hy hqc hsc hor
              by_cases e : x = y
              · subst e
                have hxx : (x != x) = false := by simp
                go_wp2
                go_quiet (fail)
                go_wp2
                go_roundw
                case rel => exact ⟨k + 1, _, by omega, by omega, by congr 2; have := HSC.out; simp at this; omega, by go_num, .inl (by omega), rfl⟩
                case measure => simp [intOf]; omega
              · have hxy : (x != y) = true := by simpa using e
                go_wp2
                go_quiet (fail)
                go_wp2
                go_roundw
                case rel => exact ⟨k + 1, _, by omega, by omega, by have := HSC.out; rw [if_pos e] at this; go_num, by go_num, .inl (by omega), rfl⟩
                case measure => simp [intOf]; omega
          · have hkm : moveN L k = moveN L L.length := by
              rcases hor with h | h
              · have : k = L.length := by omega
                rw [this]
              · exact h
            rw [hkm]
            have HMS2 := HMS.out
            have hnl : ¬ (k : Int) < (L.length : Int) := by omega
            clear hor hkm
            go_wp2
            go_roundw
            case rel => exact ⟨j + 1, _, by omega, by congr 1; omega, by go_num, rfl⟩
            case measure => simp [intOf]; omega
    · obtain rfl : j = Ws.length := by omega
      rw [List.take_length, HN.out]
      go_wp2
      go_ret
      exact ⟨rfl, m, rfl⟩

end Go.Proofs.Ytcagaolichgogaa
