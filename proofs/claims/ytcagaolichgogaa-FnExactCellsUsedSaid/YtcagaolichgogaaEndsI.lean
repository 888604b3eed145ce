/-
  CONTRACTS of the program's EndsOf, CellsUsed. No law is proved here.
-/
import Derived.Test.YtcagaolichgogaaEndsM
import Derived.Test.YtcagaolichgogaaOnceI
import Derived.Test.YtcagaolichgogaaAppRow
namespace Go.Proofs.Ytcagaolichgogaa
set_option maxRecDepth 4096
open Go.ChangeShapes Go.WideShapes Go.ChangeAt Go.RowKit

theorem int_new1 (w : World) (o : Obj) (x : Int) (t : TypeId) : ∀ j u, ([x].map (Value.int .i64))[j]? = some u → ((w.alloc o).alloc (.cells #[.int .i64 x] t)).cell? ((⟨w.heap.size + 1, 0, none⟩ : Addr).add j) = some u := by
  have h := int_new (w.alloc o) x t
  rwa [World.size_alloc] at h

set_option maxHeartbeats 2000000 in
theorem implUsed (v : Value) (Ws : List (List Int)) (R : List Int) (hW : Ws.length ≤ 2000000) (hT : totW Ws ≤ 2000000) (HR : Hid (onceL (flatL Ws) = R)) (w : World) (hv : WaysAt w v Ws) :
    Calls Try.prog 18 #[v] w (IntsBack w R) := by
  obtain ⟨av, cv, rfl, HV⟩ := hv
  have HVh := Lib.hid HV
  have HTh := Lib.hid hT
  clear HV hT
  go_enter Try.func18, Try.ntmps18
  go_wp2
  go_loopw [3, 8] (fun o i wr => ∃ j : Nat, j ≤ Ws.length ∧ i = .int .i64 j ∧ wr.ownsRow w.heap.size 3 1 o (flatL (Ws.take j)).length ((flatL (Ws.take j)).map (Value.int .i64)) ∧ Below w.heap.size w wr) (fun _ i _ => Ws.length - (intOf i).toNat)
  case atStart => exact ⟨0, Nat.zero_le _, rfl, World.ownsRow_nil w _ _ 1, Below.refl _ _⟩
  case round =>
    obtain ⟨j, hj, rfl, hown, hB⟩ := hrel
    have hlen : (flatL (Ws.take j)).length ≤ 2000000 := by
      rw [flat_lenW]
      have := totW_le Ws j
      have := HTh.out
      omega
    have HO := Lib.hid hown
    have HBB := Lib.hid hB
    obtain ⟨ao, co, rfl⟩ := own_form hown
    by_cases hlt : j < Ws.length
    · have hlt2 : (j : Int) < (Ws.length : Int) := by omega
      obtain ⟨L, hx⟩ : ∃ L, Ws[j]? = some L := ⟨_, List.getElem?_eq_getElem hlt⟩
      rcases HVh.out with h0 | ⟨g, rfl, hg, hc⟩
      · omega
      · obtain ⟨u, d0, hI⟩ := hc j L hx
        have d1 := (hB.cell (p := ⟨g, j, none⟩) hg).trans d0
        have HI := Lib.hid hI
        have HS := Lib.hid (flat_succ hx)
        have hLb := totW_one hx
        have hLb2 : L.length ≤ 2000000 := by have := HTh.out; omega
        obtain ⟨au, cu, rfl, _⟩ := ints_form hI
        have HB7 := Lib.hid (hB.alloc hB.size (.cells #[.slice au L.length cu] 37))
        have HO7 := Lib.hid (hown.alloc (.cells #[.slice au L.length cu] 37))
        clear hI hc hx hLb d0 hB hown
        go_wp2_with (at_builtin; refine wpList_app rfl _ _ rfl w.heap.size _ _ (flatL (Ws.take j)) L rfl rfl HO7.out (argI_of_ints (ints_on HI.out HB7.out)) (by omega) HB7.out.size ?_; intro v' w5 hown5 hgr5; have hb5 := HB7.out.grown hgr5 HB7.out.size (fun k hk => (HO7.out.lt k hk).1); clear hgr5)
        rw [← HS.out] at hown5
        have HO5 := Lib.hid hown5
        clear hown5
        go_roundw
        case rel => exact ⟨j + 1, by omega, by go_num, HO5.out, hb5⟩
        case measure => simp [intOf]; omega
    · obtain rfl : j = Ws.length := by omega
      have ht : flatL (Ws.take Ws.length) = flatL Ws := by rw [List.take_length]
      rw [ht] at hlen HO ⊢
      have HC := Lib.hid (implOnce _ w.heap.size (flatL Ws) (by omega) wr HO.out)
      rw [HR.out] at HC
      clear hB hown
      go_wp2_with fail
      refine HC.out.mono ?_
      rintro e w6 ⟨v6, rfl, hown6, hg6⟩
      have HE6 := Lib.hid hown6
      have HB6 := Lib.hid (HBB.out.grown hg6 HBB.out.size (fun k hk => (HO.out.lt k hk).1))
      clear hown6 hg6
      go_wp2_with fail
      go_ret
      exact ⟨_, rfl, HE6.out, HB6.out⟩

set_option maxHeartbeats 2000000 in
theorem implEnds (v : Value) (Ws : List (List Int)) (R : List Int) (hW : Ws.length ≤ 2000000) (hT : totW Ws ≤ 2000000) (HR : Hid (onceL (lastsL Ws) = R)) (w : World) (hv : WaysAt w v Ws) :
    Calls Try.prog 12 #[v] w (IntsBack w R) := by
  obtain ⟨i0, hi, hz0, hz1, hz2⟩ := info_parts Try.info3
  obtain ⟨av, cv, rfl, HV⟩ := hv
  have HVh := Lib.hid HV
  have HTh := Lib.hid hT
  clear HV hT
  go_enter Try.func12, Try.ntmps12
  go_wp2
  go_loopw [3, 8] (fun o i wr => ∃ j : Nat, j ≤ Ws.length ∧ i = .int .i64 j ∧ wr.ownsRow w.heap.size 3 1 o (lastsL (Ws.take j)).length ((lastsL (Ws.take j)).map (Value.int .i64)) ∧ Below w.heap.size w wr) (fun _ i _ => Ws.length - (intOf i).toNat)
  case atStart => exact ⟨0, Nat.zero_le _, rfl, World.ownsRow_nil w _ _ 1, Below.refl _ _⟩
  case round =>
    obtain ⟨j, hj, rfl, hown, hB⟩ := hrel
    have hlen : (lastsL (Ws.take j)).length ≤ 2000000 := by
      have := lasts_len (Ws.take j)
      have := totW_le Ws j
      have := HTh.out
      omega
    have HO := Lib.hid hown
    have HBB := Lib.hid hB
    obtain ⟨ao, co, rfl⟩ := own_form hown
    by_cases hlt : j < Ws.length
    · have hlt2 : (j : Int) < (Ws.length : Int) := by omega
      obtain ⟨L, hx⟩ : ∃ L, Ws[j]? = some L := ⟨_, List.getElem?_eq_getElem hlt⟩
      rcases HVh.out with h0 | ⟨g, rfl, hg, hc⟩
      · omega
      · obtain ⟨u, d0, hI⟩ := hc j L hx
        have d1 := (hB.cell (p := ⟨g, j, none⟩) hg).trans d0
        have hLb := totW_one hx
        have hLb2 : L.length ≤ 2000000 := by have := HTh.out; omega
        have HS := Lib.hid (lasts_succ hx)
        obtain ⟨au, cu, rfl, hI2⟩ := ints_form hI
        have HB7 := Lib.hid (hB.alloc hB.size (.cells #[.slice au L.length cu] 37))
        have HO7 := Lib.hid (hown.alloc (.cells #[.slice au L.length cu] 37))
        by_cases h0 : L.length = 0
        · have hn : ¬ (0 : Int) < (L.length : Int) := by omega
          have hn2 : ¬ 0 < L.length := by omega
          have HS2 : Hid (lastsL (Ws.take (j + 1)) = lastsL (Ws.take j)) := Lib.hid (by rw [HS.out, lastOf_nil h0, List.append_nil])
          clear hI hc hx hLb d0 hB hown h0 hI2
          go_wp2_with fail
          go_roundw
          case rel => exact ⟨j + 1, by omega, by go_num, by rw [HS2.out]; exact HO7.out, HB7.out⟩
          case measure => simp [intOf]; omega
        · obtain ⟨x, hx2⟩ : ∃ x, L[L.length - 1]? = some x := ⟨_, List.getElem?_eq_getElem (by omega)⟩
          rcases hI2 with h | ⟨q, rfl, hq, hqc⟩
          · exact absurd h h0
          · have d2 := (HB7.out.cell (p := ⟨q, L.length - 1, none⟩) hq).trans (hqc _ x hx2)
            have hp : (0 : Int) < (L.length : Int) := by omega
            have hp2 : L.length - 1 < L.length := by omega
            have hwk : IntKind.i64.wrap ((L.length : Int) - 1) = ((L.length - 1 : Nat) : Int) := by rw [IntWalk.i64_in _ (by omega)]; omega
            have hp3 : ((L.length - 1 : Nat) : Int) < (L.length : Int) := by omega
            have HS2 : Hid (lastsL (Ws.take (j + 1)) = lastsL (Ws.take j) ++ [x]) := Lib.hid (by rw [HS.out, lastOf_one hx2])
            clear hI hc hx hLb d0 h0 hqc hx2 hB hown
            go_wp2_with (at_builtin; refine wpList_append_own _ rfl _ _ 29 rfl w.heap.size 3 i0 (.int .i64 0) 1 8 Try.underlying29 hi hz0 hz1 hz2 rfl (by decide) _ _ _ rfl (HO7.out.alloc _) ⟨wr.heap.size + 1, 0, none⟩ 1 1 ([x].map (Value.int .i64)) rfl rfl (int_new1 _ _ _ _) (ints_one _) (by unfold maxLen; omega) (by omega) (by have := HBB.out.size; simp; omega) ?_; intro v' w5 hown5 hgr5 _; have hbe5 := (HB7.out.alloc HB7.out.size _).grown hgr5 (by have := HBB.out.size; simp; omega) (fun k hk => (HO.out.lt k hk).1); clear hgr5)
            have HO5 := Lib.hid (ints_push hown5 HS2.out)
            clear hown5
            go_roundw
            case rel => exact ⟨j + 1, by omega, by go_num, HO5.out, hbe5⟩
            case measure => simp [intOf]; omega
    · obtain rfl : j = Ws.length := by omega
      have ht : lastsL (Ws.take Ws.length) = lastsL Ws := by rw [List.take_length]
      rw [ht] at hlen HO ⊢
      have HC := Lib.hid (implOnce _ w.heap.size (lastsL Ws) (by omega) wr HO.out)
      rw [HR.out] at HC
      clear hB hown
      go_wp2_with fail
      refine HC.out.mono ?_
      rintro e w6 ⟨v6, rfl, hown6, hg6⟩
      have HE6 := Lib.hid hown6
      have HB6 := Lib.hid (HBB.out.grown hg6 HBB.out.size (fun k hk => (HO.out.lt k hk).1))
      clear hown6 hg6
      go_wp2_with fail
      go_ret
      exact ⟨_, rfl, HE6.out, HB6.out⟩

end Go.Proofs.Ytcagaolichgogaa
