/-
  CONTRACTS of spec.EndsOf, CellsUsed. No law is proved here.
-/
import Derived.Test.YtcagaolichgogaaEndsM
import Derived.Test.YtcagaolichgogaaSpecOnce
import Derived.RegionTactic
import Derived.Deep.RegionLaw
import Derived.Deep.AppendLies
import Derived.BigRegion
namespace Go.Proofs.Ytcagaolichgogaa
set_option maxRecDepth 4096
open Go.ChangeShapes Go.WideShapes Go.ChangeAt Go.RowKit

theorem int_newe (w : World) (x : Int) (t : TypeId) : ∀ j u, ([x].map (Value.int .i64))[j]? = some u → (w.drew.alloc (.cells #[.int .i64 x] t)).cell? ((⟨w.heap.size, 0, none⟩ : Addr).add j) = some u := int_new w.drew x t

set_option maxHeartbeats 2000000 in
theorem specUsed (v : Value) (Ws : List (List Int)) (R : List Int) (hW : Ws.length ≤ 2000000) (hT : totW Ws ≤ 2000000) (HR : Hid (onceL (flatL Ws) = R)) (w : World) (hv : WaysAt w v Ws) :
    Calls Try.prog 17 #[v] w (IntsBack w R) := by
  obtain ⟨av, cv, rfl, HV⟩ := hv
  have HVh := Lib.hid HV
  have HTh := Lib.hid hT
  have hm0 := own_made0 w 3
  clear HV hT
  go_enter Try.func17, Try.ntmps17
  go_wp2
  go_loopw [3, 4] (fun o i wr => ∃ j : Nat, j ≤ Ws.length ∧ i = .int .i64 j ∧ wr.ownsRow w.heap.size 3 1 o (flatL (Ws.take j)).length ((flatL (Ws.take j)).map (Value.int .i64)) ∧ Below w.heap.size w wr) (fun _ i _ => Ws.length - (intOf i).toNat)
  case atStart => exact ⟨0, Nat.zero_le _, rfl, hm0, (Below.refl _ _).alloc (Nat.le_refl _) _⟩
  case round =>
    clear hm0
    obtain ⟨j, hj, rfl, hown, hB⟩ := hrel
    have hlen : (flatL (Ws.take j)).length ≤ 2000000 := by
      rw [flat_lenW]
      have := totW_le Ws j
      have := HTh.out
      omega
    have HO := Lib.hid hown
    have HBB := Lib.hid hB
    obtain ⟨ao, co, rfl⟩ := own_form hown
    by_cases hlt : j < Ws.length
    · have hlt2 : (j : Int) < (Ws.length : Int) := by omega
      obtain ⟨L, hx⟩ : ∃ L, Ws[j]? = some L := ⟨_, List.getElem?_eq_getElem hlt⟩
      rcases HVh.out with h0 | ⟨g, rfl, hg, hc⟩
      · omega
      · obtain ⟨u, d0, hI⟩ := hc j L hx
        have d1 := (hB.cell (p := ⟨g, j, none⟩) hg).trans d0
        have HI := Lib.hid (argI_of_ints (ints_on hI hB))
        have HS := Lib.hid (flat_succ hx)
        have hLb := totW_one hx
        have hLb2 : L.length ≤ 2000000 := by have := HTh.out; omega
        clear hI hc hx hLb d0 hB hown
        go_wp2_with (at_builtin; refine wpList_app rfl _ _ rfl w.heap.size _ _ (flatL (Ws.take j)) L rfl rfl HO.out HI.out (by omega) HBB.out.size ?_; intro v' w5 hown5 hgr5; have hb5 := HBB.out.grown hgr5 HBB.out.size (fun k hk => (HO.out.lt k hk).1); clear hgr5)
        rw [← HS.out] at hown5
        have HO5 := Lib.hid hown5
        clear hown5
        go_roundw
        case rel => exact ⟨j + 1, by omega, by go_num, HO5.out, hb5⟩
        case measure => simp [intOf]; omega
    · obtain rfl : j = Ws.length := by omega
      have ht : flatL (Ws.take Ws.length) = flatL Ws := by rw [List.take_length]
      have HJ := Lib.hid (argJ_of HO.out)
      rw [ht] at hlen HJ
      have HC := Lib.hid (specSorted _ (flatL Ws) (Nat.le_refl _) (by omega) _ wr HJ.out)
      clear hB hown
      rw [ht] at HO ⊢
      rw [HR.out] at HC
      go_wp2_with fail
      refine HC.out.mono ?_
      rintro e w6 ⟨v6, rfl, hown6, hb6⟩
      have HE6 := Lib.hid (own_base hown6 HBB.out.size)
      have HB6 := Lib.hid (HBB.out.trans (hb6.mono HBB.out.size))
      clear hown6 hb6
      go_wp2_with fail
      go_ret
      exact ⟨_, rfl, HE6.out, HB6.out⟩

set_option maxHeartbeats 4000000 in
theorem specEnds (v : Value) (Ws : List (List Int)) (R : List Int) (hW : Ws.length ≤ 2000000) (hT : totW Ws ≤ 2000000) (HR : Hid (onceL (lastsL Ws) = R)) (w : World) (hv : WaysAt w v Ws) :
    Calls Try.prog 11 #[v] w (IntsBack w R) := by
  obtain ⟨i0, hi, hz0, hz1, hz2⟩ := info_parts Try.info3
  obtain ⟨av, cv, rfl, HV⟩ := hv
  have HVh := Lib.hid HV
  have HTh := Lib.hid hT
  have hm0 := own_made0 w 3
  clear HV hT
  go_enter Try.func11, Try.ntmps11
  go_wp2
  go_loopw [3, 4] (fun o i wr => ∃ j : Nat, j ≤ Ws.length ∧ i = .int .i64 j ∧ wr.ownsRow w.heap.size 3 1 o (lastsL (Ws.take j)).length ((lastsL (Ws.take j)).map (Value.int .i64)) ∧ Below w.heap.size w wr) (fun _ i _ => Ws.length - (intOf i).toNat)
  case atStart => exact ⟨0, Nat.zero_le _, rfl, hm0, (Below.refl _ _).alloc (Nat.le_refl _) _⟩
  case round =>
    clear hm0
    obtain ⟨j, hj, rfl, hown, hB⟩ := hrel
    have hlen : (lastsL (Ws.take j)).length ≤ 2000000 := by
      have := lasts_len (Ws.take j)
      have := totW_le Ws j
      have := HTh.out
      omega
    have HO := Lib.hid hown
    have HBB := Lib.hid hB
    by_cases hlt : j < Ws.length
    · have hlt2 : (j : Int) < (Ws.length : Int) := by omega
      obtain ⟨L, hx⟩ : ∃ L, Ws[j]? = some L := ⟨_, List.getElem?_eq_getElem hlt⟩
      rcases HVh.out with h0 | ⟨g, rfl, hg, hc⟩
      · omega
      · obtain ⟨u, d0, hI⟩ := hc j L hx
        have d1 := (hB.cell (p := ⟨g, j, none⟩) hg).trans d0
        have hLb := totW_one hx
        have hLb2 : L.length ≤ 2000000 := by have := HTh.out; omega
        have HS := Lib.hid (lasts_succ hx)
        obtain ⟨au, cu, rfl, hI2⟩ := ints_form (ints_on hI hB)
        by_cases h0 : L.length = 0
        · have hn : ¬ (0 : Int) < (L.length : Int) := by omega
          have hn2 : ¬ 0 < L.length := by omega
          have HS2 : Hid (lastsL (Ws.take (j + 1)) = lastsL (Ws.take j)) := Lib.hid (by rw [HS.out, lastOf_nil h0, List.append_nil])
          obtain ⟨ao, co, rfl⟩ := own_form hown
          clear hI hc hx hLb d0 hB hown h0 hI2
          go_wp2_with fail
          go_roundw
          case rel => exact ⟨j + 1, by omega, by go_num, by rw [HS2.out]; exact HO.out, HBB.out⟩
          case measure => simp [intOf]; omega
        · obtain ⟨x, hx2⟩ : ∃ x, L[L.length - 1]? = some x := ⟨_, List.getElem?_eq_getElem (by omega)⟩
          rcases hI2 with h | ⟨q, rfl, hq, hqc⟩
          · exact absurd h h0
          · have d2 := hqc _ x hx2
            have hp : (0 : Int) < (L.length : Int) := by omega
            have hp2 : L.length - 1 < L.length := by omega
            have hwk : IntKind.i64.wrap ((L.length : Int) - 1) = ((L.length - 1 : Nat) : Int) := by rw [IntWalk.i64_in _ (by omega)]; omega
            have hp3 : ((L.length - 1 : Nat) : Int) < (L.length : Int) := by omega
            have HS2 : Hid (lastsL (Ws.take (j + 1)) = lastsL (Ws.take j) ++ [x]) := Lib.hid (by rw [HS.out, lastOf_one hx2])
            clear hI hc hx hLb d0 h0 hqc hx2
            go_wp2_with fail
            go_region_law (refine step_append_lies _ rfl (.tmp 19) (.tmp 34) 29 rfl w.heap.size 3 i0 (.int .i64 0) 1 8 Try.underlying29 hi hz0 hz1 hz2 rfl (by decide) _ _ _ (by simp [Act.eval]) (hown.drew.alloc _) ⟨wr.heap.size, 0, none⟩ 1 1 ([x].map (Value.int .i64)) (by simp [Act.eval]) rfl (int_newe _ _ _) (ints_one _) (by decide) (by unfold maxLen; omega) (by omega) (by have := HBB.out.size; simp; omega) _ rfl ?_; intro g5 cap5 w5 hown5 hgr5 _ _; have HO5 := Lib.hid (ints_push hown5 HS2.out); have HB5 := Lib.hid ((hB.drew.alloc hB.size _).grown hgr5 (by have := HBB.out.size; simp; omega) (fun k hk => (HO.out.lt k (by simpa using hk)).1)); clear hown5 hgr5)
            all_goals
              clear hown hB
              go_wp2_with fail
              go_roundw
              case rel => exact ⟨j + 1, by omega, by go_num, HO5.out, HB5.out⟩
              case measure => simp [intOf]; omega
    · obtain rfl : j = Ws.length := by omega
      have ht : lastsL (Ws.take Ws.length) = lastsL Ws := by rw [List.take_length]
      obtain ⟨ao, co, rfl⟩ := own_form hown
      have HJ := Lib.hid (argJ_of HO.out)
      rw [ht] at hlen HJ
      have HC := Lib.hid (specSorted _ (lastsL Ws) (Nat.le_refl _) (by omega) _ wr HJ.out)
      clear hB hown
      rw [ht] at HO ⊢
      rw [HR.out] at HC
      go_wp2_with fail
      refine HC.out.mono ?_
      rintro e w6 ⟨v6, rfl, hown6, hb6⟩
      have HE6 := Lib.hid (own_base hown6 HBB.out.size)
      have HB6 := Lib.hid (HBB.out.trans (hb6.mono HBB.out.size))
      clear hown6 hb6
      go_wp2_with fail
      go_ret
      exact ⟨_, rfl, HE6.out, HB6.out⟩

end Go.Proofs.Ytcagaolichgogaa
