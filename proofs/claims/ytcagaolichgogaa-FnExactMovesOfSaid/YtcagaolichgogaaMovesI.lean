/-
  CONTRACT of the program's MovesOf. No law is proved here.
-/
import Derived.Test.YtcagaolichgogaaMovesV
import Derived.BigQuiet
import Derived.Deep.QuietTactic
namespace Go.Proofs.Ytcagaolichgogaa
set_option maxRecDepth 4096
open Go.ChangeShapes Go.WideShapes Go.ChangeAt Go.RowKit

set_option maxHeartbeats 2000000 in
theorem implMoves (v : Value) (Ws : List (List Int)) (n : Nat) (hW : Ws.length ≤ 2000000) (hT : totW Ws ≤ 2000000) (HN : Hid (movesW Ws = n)) (w : World) (hv : WaysAt w v Ws) :
    Calls Try.prog 9 #[v] w (Made w (.int .i64 n)) := by
  obtain ⟨av, cv, rfl, HV⟩ := hv
  have HVh := Lib.hid HV
  have HTh := Lib.hid hT
  clear HV hT
  go_enter Try.func9, Try.ntmps9
  go_wp2
  go_loopw [3, 9] (fun a i wr => ∃ j : Nat, j ≤ Ws.length ∧ a = .int .i64 ((movesW (Ws.take j) : Nat) : Int) ∧ i = .int .i64 j ∧ Below w.heap.size w wr) (fun _ i _ => Ws.length - (intOf i).toNat)
  case atStart => exact ⟨0, Nat.zero_le _, rfl, rfl, Below.refl _ _⟩
  case round =>
    obtain ⟨j, hj, rfl, rfl, hB⟩ := hrel
    by_cases hlt : j < Ws.length
    · have hlt2 : (j : Int) < (Ws.length : Int) := by omega
      obtain ⟨L, hx⟩ : ∃ L, Ws[j]? = some L := ⟨_, List.getElem?_eq_getElem hlt⟩
      rcases HVh.out with h0 | ⟨g, rfl, hg, hc⟩
      · omega
      · obtain ⟨u, d0, hI⟩ := hc j L hx
        have d1 := (hB.cell (p := ⟨g, j, none⟩) hg).trans d0
        obtain ⟨au, cu, rfl, HI⟩ := ints_form hI
        have HIh := Lib.hid HI
        have hLb := totW_one hx
        have hmb : movesW (Ws.take j) ≤ 2000000 := by
          have h1 := movesW_le (Ws.take j)
          have h2 := totW_le Ws j
          have := HTh.out
          omega
        have hLb2 : L.length ≤ 2000000 := by have := HTh.out; omega
        have HMS := Lib.hid (movesW_succ hx)
        obtain ⟨M, HM⟩ : ∃ M, Hid (movesW (Ws.take j) = M) := ⟨_, rfl⟩
        rw [HM.out] at hmb HMS ⊢
        have HBB := Lib.hid hB
        clear hI HI hc hx hLb d0 hB
        go_wp2
        have hb1 := (Below.refl wr.heap.size wr).alloc (Nat.le_refl _) (.cells #[.slice au L.length cu] 37)
        have d2 : (wr.alloc (.cells #[.slice au L.length cu] 37)).cell? ⟨wr.heap.size, 0, none⟩ = some (.slice au L.length cu) := by
          rw [cell_of_row _ _ _ _ _ _ (heap_alloc_new wr _)]; rfl
        have HBW := Lib.hid (HBB.out.trans (hb1.mono HBB.out.size))
        generalize wr.alloc (.cells #[.slice au L.length cu] 37) = w5 at *
        clear hb1
        go_loopw [3, 6] (fun a t w6 => ∃ k p : Nat, 1 ≤ k ∧ k ≤ L.length + 1 ∧ a = .int .i64 ((M + moveN L k : Nat) : Int) ∧ t = .int .i64 k ∧ (k ≤ L.length ∨ moveN L k = moveN L L.length) ∧ w6 = w5.drewN p) (fun _ t _ => L.length + 1 - (intOf t).toNat)
        case atStart => exact ⟨1, 0, Nat.le_refl _, by omega, by rw [moveN_one]; rfl, rfl, by
          by_cases h : L.length = 0
          · right; rw [h]; rfl
          · left; omega, rfl⟩
        case round =>
          obtain ⟨k, p, hk1, hk, rfl, rfl, hor, rfl⟩ := hrel
          by_cases hl2 : k < L.length
          · have hl3 : (k : Int) < (L.length : Int) := by omega
            obtain ⟨x, hx⟩ : ∃ x, L[k]? = some x := ⟨_, List.getElem?_eq_getElem hl2⟩
            obtain ⟨y, hy⟩ : ∃ y, L[k - 1]? = some y := ⟨_, List.getElem?_eq_getElem (by omega)⟩
            rcases HIh.out with h0 | ⟨q, rfl, hq, hqc⟩
            · omega
            · have dx := (HBW.out.cell (p := ⟨q, k, none⟩) hq).trans (hqc k x hx)
              have dy := (HBW.out.cell (p := ⟨q, k - 1, none⟩) hq).trans (hqc (k - 1) y hy)
              have hsc := moveN_succ (by omega) hx hy
              have hwk : IntKind.i64.wrap ((k : Int) - 1) = ((k - 1 : Nat) : Int) := by rw [IntWalk.i64_in _ (by omega)]; omega
              have hml := moveN_le L k
              have HSC := Lib.hid hsc
              clear hx hy hqc hsc hor
              by_cases e : x = y
              · subst e
                have hxx : (x != x) = false := by simp
                go_wp2
                go_quiet (fail)
                go_wp2
                go_roundw
                case rel => exact ⟨k + 1, _, by omega, by omega, by congr 2; have := HSC.out; simp at this; omega, by go_num, .inl (by omega), rfl⟩
                case measure => simp [intOf]; omega
              · have hxy : (x != y) = true := by simpa using e
                go_wp2
                go_quiet (fail)
                go_wp2
                go_roundw
                case rel => exact ⟨k + 1, _, by omega, by omega, by have := HSC.out; rw [if_pos e] at this; go_num, by go_num, .inl (by omega), rfl⟩
                case measure => simp [intOf]; omega
          · have hkm : moveN L k = moveN L L.length := by
              rcases hor with h | h
              · have : k = L.length := by omega
                rw [this]
              · exact h
            rw [hkm]
            have HMS2 := HMS.out
            have hnl : ¬ (k : Int) < (L.length : Int) := by omega
            clear hor hkm
            go_wp2
            go_roundw
            case rel => exact ⟨j + 1, by omega, by congr 1; omega, by go_num, below_drewN HBW.out p⟩
            case measure => simp [intOf]; omega
    · obtain rfl : j = Ws.length := by omega
      rw [List.take_length, HN.out]
      go_wp2
      go_ret
      exact ⟨rfl, hB⟩

end Go.Proofs.Ytcagaolichgogaa
