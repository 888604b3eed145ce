/-
  CONTRACT of the model's l11Same. No law is proved here.
-/
import Derived.Test.YtnbbhdbcapfbkaaDoorZFF01
import Derived.BigQuiet
import Derived.Deep.QuietTactic
namespace Go.Proofs.YtnbbhdbcapfbkaaDoor
set_option maxRecDepth 4096
open Go.ChangeShapes Go.WideShapes Go.ChangeAt Go.RowKit

theorem lists_eq {α : Type} {L M : List α} (hl : L.length = M.length) (h : ∀ q, q < L.length → L[q]? = M[q]?) : L = M := by
  apply List.ext_getElem?
  intro q
  by_cases hq : q < L.length
  · exact h q hq
  · rw [List.getElem?_eq_none (by omega), List.getElem?_eq_none (by omega)]

set_option maxHeartbeats 2000000 in
theorem specSame (va vb : Value) (As Bs : List (List Int)) (b : Bool) (hA : As.length ≤ 2000000) (hTA : totW As ≤ 2000000) (HB : Hid (decide (As = Bs) = b)) (w : World) (ha : WaysAt w va As) (hb : WaysAt w vb Bs) :
    Calls Tryd.prog 21 #[va, vb] w (Made w (.bool b)) := by
  obtain ⟨a1, c1, rfl, HA⟩ := ha
  obtain ⟨a2, c2, rfl, HA2⟩ := hb
  have HAh := Lib.hid HA
  have HBh := Lib.hid HA2
  have HTh := Lib.hid hTA
  clear HA HA2 hTA
  by_cases hl : As.length = Bs.length
  · have hle : ((As.length : Int) != (Bs.length : Int)) = false := by rw [bne_eq_false_iff_eq]; omega
    have HL := Lib.hid hl
    clear hl
    go_enter Tryd.func21, Tryd.ntmps21
    go_wp2
    go_loopw [5] (fun i wr => ∃ j : Nat, j ≤ As.length ∧ i = .int .i64 j ∧ Hid (∀ q, q < j → As[q]? = Bs[q]?) ∧ Below w.heap.size w wr) (fun i _ => As.length - (intOf i).toNat)
    case atStart => exact ⟨0, Nat.zero_le _, rfl, Lib.hid fun q hq => absurd hq (by omega), Below.refl _ _⟩
    case round =>
      obtain ⟨j, hj, rfl, HK, hB⟩ := hrel
      by_cases hlt : j < As.length
      · have hlt2 : (j : Int) < (As.length : Int) := by omega
        have hltB : (j : Int) < (Bs.length : Int) := by have := HL.out; omega
        obtain ⟨L, hx⟩ : ∃ L, As[j]? = some L := ⟨_, List.getElem?_eq_getElem hlt⟩
        obtain ⟨M, hy⟩ : ∃ M, Bs[j]? = some M := ⟨_, List.getElem?_eq_getElem (by have := HL.out; omega)⟩
        rcases HAh.out with h0 | ⟨g, rfl, hg, hc⟩
        · omega
        · rcases HBh.out with h0 | ⟨g', rfl, hg', hc'⟩
          · omega
          · obtain ⟨u, d0, hI⟩ := hc j L hx
            obtain ⟨u', d0', hI'⟩ := hc' j M hy
            have d1 := (hB.cell (p := ⟨g, j, none⟩) hg).trans d0
            have d2 := (hB.cell (p := ⟨g', j, none⟩) hg').trans d0'
            obtain ⟨au, cu, rfl, HI⟩ := ints_form hI
            obtain ⟨au', cu', rfl, HI'⟩ := ints_form hI'
            have HIh := Lib.hid HI
            have HIh' := Lib.hid HI'
            have hLb := totW_one hx
            have hLb2 : L.length ≤ 2000000 := by have := HTh.out; omega
            have HX := Lib.hid hx
            have HY := Lib.hid hy
            have HBB := Lib.hid hB
            have HD0 := Lib.hid d0
            have HD0' := Lib.hid d0'
            clear hI hI' HI HI' hc hc' hx hy hLb hB d0 d0'
            by_cases hlen : L.length = M.length
            · have hln : ((L.length : Int) != (M.length : Int)) = false := by rw [bne_eq_false_iff_eq]; omega
              have HLN := Lib.hid hlen
              clear hlen
              go_wp2
              go_quiet (fail)
              go_wp2
              obtain ⟨wi, rfl⟩ : ∃ wi, wi = wr := ⟨_, rfl⟩
              go_loopw [6] (fun i wr => ∃ k : Nat, k ≤ L.length ∧ i = .int .i64 k ∧ Hid (∀ q, q < k → L[q]? = M[q]?) ∧ Below w.heap.size w wr) (fun i _ => L.length - (intOf i).toNat)
              case atStart => exact ⟨0, Nat.zero_le _, rfl, Lib.hid fun q hq => absurd hq (by omega), (by first | exact HBB.out | exact below_drewN HBB.out _)⟩
              case round =>
                clear d1 d2
                obtain ⟨k, hk, rfl, HQ, hB⟩ := hrel
                have d1 := (hB.cell (p := ⟨g, j, none⟩) hg).trans HD0.out
                have d2 := (hB.cell (p := ⟨g', j, none⟩) hg').trans HD0'.out
                by_cases hlk : k < L.length
                · have hlk2 : (k : Int) < (L.length : Int) := by omega
                  have hlk3 : (k : Int) < (M.length : Int) := by have := HLN.out; omega
                  obtain ⟨x, hx⟩ : ∃ x, L[k]? = some x := ⟨_, List.getElem?_eq_getElem hlk⟩
                  obtain ⟨y, hy⟩ : ∃ y, M[k]? = some y := ⟨_, List.getElem?_eq_getElem (by have := HLN.out; omega)⟩
                  rcases HIh.out with h0 | ⟨q1, rfl, hq1, hc1⟩
                  · omega
                  · rcases HIh'.out with h0 | ⟨q2, rfl, hq2, hc2⟩
                    · have := HLN.out; omega
                    · have dx := (hB.cell (p := ⟨q1, k, none⟩) hq1).trans (hc1 k x hx)
                      have dy := (hB.cell (p := ⟨q2, k, none⟩) hq2).trans (hc2 k y hy)
                      have HX2 := Lib.hid hx
                      have HY2 := Lib.hid hy
                      have HBQ := Lib.hid hB
                      clear hc1 hc2 hx hy hB
                      by_cases e : x = y
                      · subst e
                        have hxx : (x != x) = false := by simp
                        go_wp2
                        go_quiet (fail)
                        go_wp2
                        go_roundw
                        case rel => exact ⟨k + 1, by omega, by go_num, Lib.hid fun q hq => (by
                          rcases Nat.lt_succ_iff_lt_or_eq.1 hq with h | h
                          · exact HQ.out q h
                          · rw [h, HX2.out, HY2.out]), (by first | exact HBQ.out | exact below_drewN HBQ.out _)⟩
                        case measure => simp [intOf]; omega
                      · have hxy : (x != y) = true := by simpa using e
                        go_wp2
                        go_quiet (fail)
                        go_wp2
                        have e2 : b = false := by
                          rw [← HB.out]
                          apply decide_eq_false
                          intro h
                          have h1 := HX.out
                          rw [h, HY.out] at h1
                          have h3 : M = L := Option.some.inj h1
                          have h4 := HX2.out
                          rw [← h3, HY2.out] at h4
                          exact e (Option.some.inj h4).symm
                        subst e2
                        go_ret
                        exact ⟨rfl, (by first | exact HBQ.out | exact below_drewN HBQ.out _)⟩
                · obtain rfl : k = L.length := by omega
                  have hnl : ¬ (L.length : Int) < (L.length : Int) := by omega
                  have HE : Hid (L = M) := Lib.hid (lists_eq HLN.out HQ.out)
                  have HBQ := Lib.hid hB
                  clear hB
                  go_wp2
                  go_roundw
                  case rel => exact ⟨j + 1, by omega, by go_num, Lib.hid fun q hq => (by
                    rcases Nat.lt_succ_iff_lt_or_eq.1 hq with h | h
                    · exact HK.out q h
                    · rw [h, HX.out, HY.out, HE.out]), (by first | exact HBQ.out | exact below_drewN HBQ.out _)⟩
                  case measure => simp [intOf]; omega
            · have hln : ((L.length : Int) != (M.length : Int)) = true := by rw [bne_iff_ne]; omega
              have HLN := Lib.hid hlen
              clear hlen
              go_wp2
              go_quiet (fail)
              go_wp2
              have e2 : b = false := by
                rw [← HB.out]
                apply decide_eq_false
                intro h
                have h1 := HX.out
                rw [h, HY.out] at h1
                exact HLN.out (by rw [Option.some.inj h1])
              subst e2
              go_ret
              exact ⟨rfl, (by first | exact HBB.out | exact below_drewN HBB.out _)⟩
      · obtain rfl : j = As.length := by omega
        have hnl : ¬ (As.length : Int) < (As.length : Int) := by omega
        have e : b = true := by rw [← HB.out]; exact decide_eq_true (lists_eq HL.out HK.out)
        subst e
        go_wp2
        go_ret
        exact ⟨rfl, hB⟩
  · have hle : ((As.length : Int) != (Bs.length : Int)) = true := by rw [bne_iff_ne]; omega
    have e : b = false := by rw [← HB.out]; exact decide_eq_false fun h => hl (by rw [h])
    subst e
    go_enter Tryd.func21, Tryd.ntmps21
    go_wp2
    go_ret
    exact ⟨rfl, Below.refl _ _⟩

end Go.Proofs.YtnbbhdbcapfbkaaDoor

