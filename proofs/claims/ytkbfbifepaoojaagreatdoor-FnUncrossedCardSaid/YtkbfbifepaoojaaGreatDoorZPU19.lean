/-
  CONTRACTS of spec.EndsOf, CellsUsed. No law is proved here.
  CONTRACT of spec.MovesOf. No law is proved here.
-/
import Derived.Test.YtkbfbifepaoojaaGreatDoorZPU03
import Derived.Test.YtkbfbifepaoojaaGreatDoorZPU18
import Derived.RegionTactic
import Derived.Deep.RegionLaw
import Derived.Deep.AppendLies
import Derived.BigRegion
import Derived.BigQuiet
import Derived.Deep.QuietTactic
namespace Go.Proofs.YtkbfbifepaoojaaGreatDoor
set_option maxRecDepth 4096
open Go.ChangeShapes Go.WideShapes Go.ChangeAt Go.RowKit

theorem int_newe (w : World) (x : Int) (t : TypeId) : ∀ j u, ([x].map (Value.int .i64))[j]? = some u → (w.drew.alloc (.cells #[.int .i64 x] t)).cell? ((⟨w.heap.size, 0, none⟩ : Addr).add j) = some u := int_new w.drew x t

set_option maxHeartbeats 4000000 in
theorem specEnds (v : Value) (Ws : List (List Int)) (R : List Int) (hW : Ws.length ≤ 2000000) (hT : totW Ws ≤ 2000000) (HR : Hid (onceL (lastsL Ws) = R)) (w : World) (hv : WaysAt w v Ws) :
    Calls Tryz.prog 63 #[v] w (IntsBack w R) := by
  obtain ⟨i0, hi, hz0, hz1, hz2⟩ := info_parts Tryz.info3
  obtain ⟨av, cv, rfl, HV⟩ := hv
  have HVh := Lib.hid HV
  have HTh := Lib.hid hT
  have hm0 := own_made0 w 3
  clear HV hT
  go_enter Tryz.func63, Tryz.ntmps63
  go_wp2
  go_loopw [3, 4] (fun o i wr => ∃ j : Nat, j ≤ Ws.length ∧ i = .int .i64 j ∧ wr.ownsRow w.heap.size 3 1 o (lastsL (Ws.take j)).length ((lastsL (Ws.take j)).map (Value.int .i64)) ∧ Below w.heap.size w wr) (fun _ i _ => Ws.length - (intOf i).toNat)
  case atStart => exact ⟨0, Nat.zero_le _, rfl, hm0, (Below.refl _ _).alloc (Nat.le_refl _) _⟩
  case round =>
    clear hm0
    obtain ⟨j, hj, rfl, hown, hB⟩ := hrel
    have hlen : (lastsL (Ws.take j)).length ≤ 2000000 := by
      have := lasts_len (Ws.take j)
      have := totW_le Ws j
      have := HTh.out
      omega
    have HO := Lib.hid hown
    have HBB := Lib.hid hB
    by_cases hlt : j < Ws.length
    · have hlt2 : (j : Int) < (Ws.length : Int) := by omega
      obtain ⟨L, hx⟩ : ∃ L, Ws[j]? = some L := ⟨_, List.getElem?_eq_getElem hlt⟩
      rcases HVh.out with h0 | ⟨g, rfl, hg, hc⟩
      · omega
      · obtain ⟨u, d0, hI⟩ := hc j L hx
        have d1 := (hB.cell (p := ⟨g, j, none⟩) hg).trans d0
        have hLb := totW_one hx
        have hLb2 : L.length ≤ 2000000 := by have := HTh.out; omega
        have HS := Lib.hid (lasts_succ hx)
        obtain ⟨au, cu, rfl, hI2⟩ := ints_form (ints_on hI hB)
        by_cases h0 : L.length = 0
        · have hn : ¬ (0 : Int) < (L.length : Int) := by omega
          have hn2 : ¬ 0 < L.length := by omega
          have HS2 : Hid (lastsL (Ws.take (j + 1)) = lastsL (Ws.take j)) := Lib.hid (by rw [HS.out, lastOf_nil h0, List.append_nil])
          obtain ⟨ao, co, rfl⟩ := own_form hown
          clear hI hc hx hLb d0 hB hown h0 hI2
          go_wp2_with fail
          go_roundw
          case rel => exact ⟨j + 1, by omega, by go_num, by rw [HS2.out]; exact HO.out, HBB.out⟩
          case measure => simp [intOf]; omega
        · obtain ⟨x, hx2⟩ : ∃ x, L[L.length - 1]? = some x := ⟨_, List.getElem?_eq_getElem (by omega)⟩
          rcases hI2 with h | ⟨q, rfl, hq, hqc⟩
          · exact absurd h h0
          · have d2 := hqc _ x hx2
            have hp : (0 : Int) < (L.length : Int) := by omega
            have hp2 : L.length - 1 < L.length := by omega
            have hwk : IntKind.i64.wrap ((L.length : Int) - 1) = ((L.length - 1 : Nat) : Int) := by rw [IntWalk.i64_in _ (by omega)]; omega
            have hp3 : ((L.length - 1 : Nat) : Int) < (L.length : Int) := by omega
            have HS2 : Hid (lastsL (Ws.take (j + 1)) = lastsL (Ws.take j) ++ [x]) := Lib.hid (by rw [HS.out, lastOf_one hx2])
            clear hI hc hx hLb d0 h0 hqc hx2
            go_wp2_with fail
            go_region_law (refine step_append_lies _ rfl (.tmp 19) (.tmp 34) 26 rfl w.heap.size 3 i0 (.int .i64 0) 1 8 Tryz.underlying26 hi hz0 hz1 hz2 rfl (by decide) _ _ _ (by simp [Act.eval]) (hown.drew.alloc _) ⟨wr.heap.size, 0, none⟩ 1 1 ([x].map (Value.int .i64)) (by simp [Act.eval]) rfl (int_newe _ _ _) (ints_one _) (by decide) (by unfold maxLen; omega) (by omega) (by have := HBB.out.size; simp; omega) _ rfl ?_; intro g5 cap5 w5 hown5 hgr5 _ _; have HO5 := Lib.hid (ints_push hown5 HS2.out); have HB5 := Lib.hid ((hB.drew.alloc hB.size _).grown hgr5 (by have := HBB.out.size; simp; omega) (fun k hk => (HO.out.lt k (by simpa using hk)).1)); clear hown5 hgr5)
            all_goals
              clear hown hB
              go_wp2_with fail
              go_roundw
              case rel => exact ⟨j + 1, by omega, by go_num, HO5.out, HB5.out⟩
              case measure => simp [intOf]; omega
    · obtain rfl : j = Ws.length := by omega
      have ht : lastsL (Ws.take Ws.length) = lastsL Ws := by rw [List.take_length]
      obtain ⟨ao, co, rfl⟩ := own_form hown
      have HJ := Lib.hid (argJ_of HO.out)
      rw [ht] at hlen HJ
      have HC := Lib.hid (specSorted _ (lastsL Ws) (Nat.le_refl _) (by omega) _ wr HJ.out)
      clear hB hown
      rw [ht] at HO ⊢
      rw [HR.out] at HC
      go_wp2_with fail
      refine HC.out.mono ?_
      rintro e w6 ⟨v6, rfl, hown6, hb6⟩
      have HE6 := Lib.hid (own_base hown6 HBB.out.size)
      have HB6 := Lib.hid (HBB.out.trans (hb6.mono HBB.out.size))
      clear hown6 hb6
      go_wp2_with fail
      go_ret
      exact ⟨_, rfl, HE6.out, HB6.out⟩

end Go.Proofs.YtkbfbifepaoojaaGreatDoor

namespace Go.Proofs.YtkbfbifepaoojaaGreatDoor
set_option maxRecDepth 4096
open Go.ChangeShapes Go.WideShapes Go.ChangeAt Go.RowKit

set_option maxHeartbeats 2000000 in
theorem specMoves (v : Value) (Ws : List (List Int)) (n : Nat) (hW : Ws.length ≤ 2000000) (hT : totW Ws ≤ 2000000) (HN : Hid (movesW Ws = n)) (w : World) (hv : WaysAt w v Ws) :
    Calls Tryz.prog 62 #[v] w (Quiet w (.int .i64 n)) := by
  obtain ⟨av, cv, rfl, HV⟩ := hv
  have HVh := Lib.hid HV
  have HTh := Lib.hid hT
  clear HV hT
  go_enter Tryz.func62, Tryz.ntmps62
  go_wp2
  go_loopw [3, 4] (fun a i wr => ∃ j m : Nat, j ≤ Ws.length ∧ a = .int .i64 ((movesW (Ws.take j) : Nat) : Int) ∧ i = .int .i64 j ∧ wr = w.drewN m) (fun _ i _ => Ws.length - (intOf i).toNat)
  case atStart => exact ⟨0, 0, Nat.zero_le _, rfl, rfl, rfl⟩
  case round =>
    obtain ⟨j, m, hj, rfl, rfl, rfl⟩ := hrel
    by_cases hlt : j < Ws.length
    · have hlt2 : (j : Int) < (Ws.length : Int) := by omega
      obtain ⟨L, hx⟩ : ∃ L, Ws[j]? = some L := ⟨_, List.getElem?_eq_getElem hlt⟩
      rcases HVh.out with h0 | ⟨g, rfl, hg, hc⟩
      · omega
      · obtain ⟨u, d0, hI⟩ := hc j L hx
        obtain ⟨au, cu, rfl, HI⟩ := ints_form hI
        have HIh := Lib.hid HI
        have hLb := totW_one hx
        have hmb : movesW (Ws.take j) ≤ 2000000 := by
          have h1 := movesW_le (Ws.take j)
          have h2 := totW_le Ws j
          have := HTh.out
          omega
        have hLb2 : L.length ≤ 2000000 := by have := HTh.out; omega
        have HMS := Lib.hid (movesW_succ hx)
        obtain ⟨M, HM⟩ : ∃ M, Hid (movesW (Ws.take j) = M) := ⟨_, rfl⟩
        rw [HM.out] at hmb HMS ⊢
        clear hI HI hc hx hLb
        go_wp2
        go_loopw [3, 5] (fun a t wr => ∃ k p : Nat, 1 ≤ k ∧ k ≤ L.length + 1 ∧ a = .int .i64 ((M + moveN L k : Nat) : Int) ∧ t = .int .i64 k ∧ (k ≤ L.length ∨ moveN L k = moveN L L.length) ∧ wr = w.drewN p) (fun _ t _ => L.length + 1 - (intOf t).toNat)
        case atStart => exact ⟨1, m, Nat.le_refl _, by omega, by rw [moveN_one]; rfl, rfl, by
          by_cases h : L.length = 0
          · right; rw [h]; rfl
          · left; omega, rfl⟩
        case round =>
          obtain ⟨k, p, hk1, hk, rfl, rfl, hor, rfl⟩ := hrel
          by_cases hl2 : k < L.length
          · have hl3 : (k : Int) < (L.length : Int) := by omega
            obtain ⟨x, hx⟩ : ∃ x, L[k]? = some x := ⟨_, List.getElem?_eq_getElem hl2⟩
            obtain ⟨y, hy⟩ : ∃ y, L[k - 1]? = some y := ⟨_, List.getElem?_eq_getElem (by omega)⟩
            rcases HIh.out with h0 | ⟨q, rfl, hq, hqc⟩
            · omega
            · have dx := hqc k x hx
              have dy := hqc (k - 1) y hy
              have hsc := moveN_succ (by omega) hx hy
              have hwk : IntKind.i64.wrap ((k : Int) - 1) = ((k - 1 : Nat) : Int) := by rw [IntWalk.i64_in _ (by omega)]; omega
              have hml := moveN_le L k
              have HSC := Lib.hid hsc
              clear hx hy hqc hsc hor
              by_cases e : x = y
              · subst e
                have hxx : (x != x) = false := by simp
                go_wp2
                go_quiet (fail)
                go_wp2
                go_roundw
                case rel => exact ⟨k + 1, _, by omega, by omega, by congr 2; have := HSC.out; simp at this; omega, by go_num, .inl (by omega), rfl⟩
                case measure => simp [intOf]; omega
              · have hxy : (x != y) = true := by simpa using e
                go_wp2
                go_quiet (fail)
                go_wp2
                go_roundw
                case rel => exact ⟨k + 1, _, by omega, by omega, by have := HSC.out; rw [if_pos e] at this; go_num, by go_num, .inl (by omega), rfl⟩
                case measure => simp [intOf]; omega
          · have hkm : moveN L k = moveN L L.length := by
              rcases hor with h | h
              · have : k = L.length := by omega
                rw [this]
              · exact h
            rw [hkm]
            have HMS2 := HMS.out
            have hnl : ¬ (k : Int) < (L.length : Int) := by omega
            clear hor hkm
            go_wp2
            go_roundw
            case rel => exact ⟨j + 1, _, by omega, by congr 1; omega, by go_num, rfl⟩
            case measure => simp [intOf]; omega
    · obtain rfl : j = Ws.length := by omega
      rw [List.take_length, HN.out]
      go_wp2
      go_ret
      exact ⟨rfl, m, rfl⟩

end Go.Proofs.YtkbfbifepaoojaaGreatDoor

