/-
  CONTRACT of laws.markWayS. No law is proved here.
-/
import Derived.Test.YtkndlpcpkfgneaaWayRow
import Derived.Test.YtkndlpcpkfgneaaIntsMark
namespace Go.Proofs.Ytkndlpcpkfgneaa
set_option maxRecDepth 4096
open Go.ChangeShapes Go.WideShapes Go.ChangeAt Go.RowKit

/-- The marks from k on, a list for each way. -/
def numsW : Nat → List (List Int) → List (List Int)
  | _, [] => []
  | k, L :: Ws => nums k L.length :: numsW (k + L.length) Ws
theorem numsW_len : ∀ (k : Nat) (Ws : List (List Int)), (numsW k Ws).length = Ws.length
  | _, [] => rfl
  | k, L :: Ws => by simp [numsW, numsW_len (k + L.length) Ws]
theorem numsW_at : ∀ {k : Nat} {Ws : List (List Int)} {i : Nat} {L : List Int}, Ws[i]? = some L → (numsW k Ws)[i]? = some (nums (k + totW (Ws.take i)) L.length)
  | _, [], _, _, h => by simp at h
  | k, M :: Ws, i, L, h => by
    cases i with
    | zero =>
      cases h
      rfl
    | succ i =>
      have := numsW_at (k := k + M.length) (Ws := Ws) (i := i) (L := L) (by simpa using h)
      rw [numsW, List.getElem?_cons_succ, this, List.take_succ_cons]
      unfold totW
      rw [List.map_cons, List.sum_cons, Nat.add_assoc]
theorem numsW_put {k i : Nat} {Ws : List (List Int)} {L : List Int} (h : Ws[i]? = some L) : ((numsW k Ws).take i ++ Ws.drop i).set i (nums (k + totW (Ws.take i)) L.length) = (numsW k Ws).take (i + 1) ++ Ws.drop (i + 1) := by
  obtain ⟨hi, e⟩ := List.getElem?_eq_some_iff.1 h
  have hl : ((numsW k Ws).take i).length = i := by rw [List.length_take, numsW_len]; omega
  have hi2 : i < (numsW k Ws).length := by rw [numsW_len]; exact hi
  have e2 : (numsW k Ws)[i] = nums (k + totW (Ws.take i)) L.length := by
    have := numsW_at (k := k) h
    rw [List.getElem?_eq_getElem hi2] at this
    exact Option.some.inj this
  rw [List.set_append, if_neg (by omega), hl, Nat.sub_self, List.drop_eq_getElem_cons hi, List.set_cons_zero, List.take_succ_eq_append_getElem hi2, List.append_assoc, e2]
  rfl

/-- markWayS has written its marks into the rows of the ways, and nothing else. -/
def MarkedW (w : World) (lo hi : Nat) (v : Value) (Ws : List (List Int)) (k : Nat) (e : Ending) (w' : World) : Prop :=
  e = .returned (.int .i64 ((k + totW Ws : Nat) : Int)) ∧ WOwn w' lo hi v (numsW k Ws) ∧ Within lo hi w w'

set_option maxHeartbeats 1000000 in
theorem markWays (v : Value) (lo hi k : Nat) (Ws : List (List Int)) (w : World) (h : WOwn w lo hi v Ws) (hW : Ws.length ≤ 2000000) (hn : k + totW Ws ≤ 50000000) :
    Calls Try.prog 11 #[v, .int .i64 k] w (MarkedW w lo hi v Ws k) := by
  obtain ⟨vs, hown, hvb, hrows⟩ := h
  by_cases h0 : Ws.length = 0
  · obtain rfl := List.eq_nil_of_length_eq_zero h0
    obtain ⟨a, c, rfl⟩ := own_form hown
    go_enter Try.func11, Try.ntmps11
    go_wp2
    refine wp_loop_rounds 1 ?_
    rw [rounds_succ]
    go_wp2
    go_ret
    exact ⟨ret_int (by show (k : Int) = ((k + 0 : Nat) : Int); omega), ⟨vs, hown, hvb, hrows⟩, Within.refl _ _ _⟩
  · obtain ⟨g, c, rfl⟩ : ∃ g c, v = .slice (some ⟨g, 0, none⟩) Ws.length c := by
      rcases hown.2 with ⟨_, h⟩ | ⟨g, cap, cur, rfl, _⟩
      · exact absurd h h0
      · exact ⟨g, cap, rfl⟩
    clear h0
    have hvl := hrows.len
    have hgl := (hown.lt g rfl).1
    have hgh := hvb g rfl
    go_enter Try.func11, Try.ntmps11
    go_wp2
    go_loopw [1, 5] (fun a i wr => ∃ j : Nat, j ≤ Ws.length ∧ a = .int .i64 ((k + totW (Ws.take j) : Nat) : Int) ∧ i = .int .i64 j ∧ wr.ownsRow lo 39 1 (.slice (some ⟨g, 0, none⟩) Ws.length c) Ws.length vs ∧ RowsI wr lo vs ((numsW k Ws).take j ++ Ws.drop j) hi ∧ Within lo hi w wr) (fun _ i _ => Ws.length - (intOf i).toNat)
    case atStart => exact ⟨0, Nat.zero_le _, rfl, rfl, hown, by simpa using hrows, Within.refl _ _ _⟩
    case round =>
      clear hown hrows hvb
      obtain ⟨j, hj, rfl, rfl, hown, hrows, hgr⟩ := hrel
      by_cases hlt : j < Ws.length
      · have hlt2 : (j : Int) < (Ws.length : Int) := by omega
        obtain ⟨L, hx⟩ : ∃ L, Ws[j]? = some L := ⟨_, List.getElem?_eq_getElem hlt⟩
        obtain ⟨u, hu⟩ : ∃ u, vs[j]? = some u := ⟨_, List.getElem?_eq_getElem (by omega)⟩
        have d0 := hown.cells (g := g) rfl j u hu
        have hadd : (⟨g, 0, none⟩ : Addr).add j = ⟨g, j, none⟩ := by unfold Addr.add; split <;> simp_all
        rw [hadd] at d0
        have hmid : ((numsW k Ws).take j ++ Ws.drop j)[j]? = some L := by
          rw [List.getElem?_append_right (by rw [List.length_take]; omega), List.length_take, numsW_len, Nat.min_eq_left (by omega), Nat.sub_self, List.getElem?_drop]
          exact hx
        obtain ⟨l, q, hl, hq, hr⟩ := hrows.at hu hmid
        have ht1 := totW_succ hx
        have ht2 := totW_le Ws (j + 1)
        have HM := Lib.hid (markInts u l (k + totW (Ws.take j)) L.length _ wr hr.own (by omega))
        have HP := Lib.hid (numsW_put (k := k) hx)
        have HT1 := Lib.hid ht1
        have HR := Lib.hid hrows
        have HO := Lib.hid hown
        have HG := Lib.hid hgr
        have HRR := Lib.hid hr
        have HMD := Lib.hid hmid
        have HU := Lib.hid hu
        obtain ⟨au, cu, rfl⟩ := rowJ_form hr
        clear hadd hx ht1 ht2 hrows hown hgr hr hmid hu
        go_wp2_with fail
        refine HM.out.mono ?_
        rintro e w3 ⟨rfl, hown3, hgr3⟩
        have hrows3 := HR.out.put (L' := nums (k + totW (Ws.take j)) L.length) HU.out HMD.out (length_nums _ _) (fun B hB => by
          refine ⟨hown3.1, ?_⟩
          rcases hown3.2 with h | ⟨g', cap', cur', e1, e2, e3⟩
          · exact .inl h
          · refine .inr ⟨g', cap', cur', e1, ?_, e3⟩
            exact (hB.lt g' (by rw [e1]; rfl)).1) hgr3
        rw [HP.out] at hrows3
        have hown4 := HO.out.kept hgr3 (own_kinds HO.out HRR.out.own (by dsimp only [rowJ]; decide))
        have HR3 := Lib.hid hrows3
        have HO3 := Lib.hid hown4
        have HG3 := Lib.hid (HG.out.grown hgr3 fun m hm => ⟨Nat.le_trans hl (HRR.out.own.lt m hm).1, Nat.lt_of_lt_of_le (HRR.out.lt m hm) hq⟩)
        clear hown3 hgr3 hrows3 hown4 HR HO HG HRR
        go_wp2_with fail
        go_roundw
        case rel => exact ⟨j + 1, by omega, by congr 1; have := HT1.out; omega, by go_num, HO3.out, HR3.out, HG3.out⟩
        case measure => simp [intOf]; omega
      · obtain rfl : j = Ws.length := by omega
        rw [List.drop_of_length_le (Nat.le_refl _), List.append_nil, List.take_of_length_le (by rw [numsW_len]; exact Nat.le_refl _)] at hrows
        rw [List.take_length]
        have HO := Lib.hid hown
        have HR := Lib.hid hrows
        have HG := Lib.hid hgr
        clear hown hrows hgr
        go_wp2
        go_ret
        exact ⟨rfl, ⟨vs, by rw [numsW_len]; exact HO.out, fun m hm => by cases hm; exact hgh, HR.out⟩, HG.out⟩

end Go.Proofs.Ytkndlpcpkfgneaa
