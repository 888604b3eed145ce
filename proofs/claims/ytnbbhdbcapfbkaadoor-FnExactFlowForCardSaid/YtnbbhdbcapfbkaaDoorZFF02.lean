/-
  CONTRACT of laws.markWayS. No law is proved here.
  A row that is written, a range of blocks that is written: what a law keeps. Plain facts; no statement is proved here.
  CONTRACTS of the laws' own helpers szIntS, szWay, szWayS. No law is proved here.
  CONTRACTS of the laws' own helpers toIntS, and of arguments that are slices of ints. No law is proved here.
  CONTRACTS of the laws' own helpers toWay, toWayS. No law is proved here.
  Plain lemmas: an argument of whatever type, read again behind the call; an argument that is a slice of structs, opened. No law is proved here.
-/
import Derived.Test.YtnbbhdbcapfbkaaDoorZFF01
import Derived.Test.YtnbbhdbcapfbkaaDoorZFF00
import Derived.Deep.Slices
import Derived.Deep.Fields
import Derived.ChangeSame
import Derived.Lib.SmallJoins
namespace Go.Proofs.YtnbbhdbcapfbkaaDoor
set_option maxRecDepth 4096
open Go.ChangeShapes Go.WideShapes Go.ChangeAt Go.RowKit

/-- The marks from k on, a list for each way. -/
def numsW : Nat → List (List Int) → List (List Int)
  | _, [] => []
  | k, L :: Ws => nums k L.length :: numsW (k + L.length) Ws
theorem numsW_len : ∀ (k : Nat) (Ws : List (List Int)), (numsW k Ws).length = Ws.length
  | _, [] => rfl
  | k, L :: Ws => by simp [numsW, numsW_len (k + L.length) Ws]
theorem numsW_at : ∀ {k : Nat} {Ws : List (List Int)} {i : Nat} {L : List Int}, Ws[i]? = some L → (numsW k Ws)[i]? = some (nums (k + totW (Ws.take i)) L.length)
  | _, [], _, _, h => by simp at h
  | k, M :: Ws, i, L, h => by
    cases i with
    | zero =>
      cases h
      rfl
    | succ i =>
      have := numsW_at (k := k + M.length) (Ws := Ws) (i := i) (L := L) (by simpa using h)
      rw [numsW, List.getElem?_cons_succ, this, List.take_succ_cons]
      unfold totW
      rw [List.map_cons, List.sum_cons, Nat.add_assoc]
theorem numsW_put {k i : Nat} {Ws : List (List Int)} {L : List Int} (h : Ws[i]? = some L) : ((numsW k Ws).take i ++ Ws.drop i).set i (nums (k + totW (Ws.take i)) L.length) = (numsW k Ws).take (i + 1) ++ Ws.drop (i + 1) := by
  obtain ⟨hi, e⟩ := List.getElem?_eq_some_iff.1 h
  have hl : ((numsW k Ws).take i).length = i := by rw [List.length_take, numsW_len]; omega
  have hi2 : i < (numsW k Ws).length := by rw [numsW_len]; exact hi
  have e2 : (numsW k Ws)[i] = nums (k + totW (Ws.take i)) L.length := by
    have := numsW_at (k := k) h
    rw [List.getElem?_eq_getElem hi2] at this
    exact Option.some.inj this
  rw [List.set_append, if_neg (by omega), hl, Nat.sub_self, List.drop_eq_getElem_cons hi, List.set_cons_zero, List.take_succ_eq_append_getElem hi2, List.append_assoc, e2]
  rfl

/-- markWayS has written its marks into the rows of the ways, and nothing else. -/
def MarkedW (w : World) (lo hi : Nat) (v : Value) (Ws : List (List Int)) (k : Nat) (e : Ending) (w' : World) : Prop :=
  e = .returned (.int .i64 ((k + totW Ws : Nat) : Int)) ∧ WOwn w' lo hi v (numsW k Ws) ∧ Within lo hi w w'

set_option maxHeartbeats 1000000 in
theorem markWays (v : Value) (lo hi k : Nat) (Ws : List (List Int)) (w : World) (h : WOwn w lo hi v Ws) (hW : Ws.length ≤ 2000000) (hn : k + totW Ws ≤ 50000000) :
    Calls Tryd.prog 14 #[v, .int .i64 k] w (MarkedW w lo hi v Ws k) := by
  obtain ⟨vs, hown, hvb, hrows⟩ := h
  by_cases h0 : Ws.length = 0
  · obtain rfl := List.eq_nil_of_length_eq_zero h0
    obtain ⟨a, c, rfl⟩ := own_form hown
    go_enter Tryd.func14, Tryd.ntmps14
    go_wp2
    refine wp_loop_rounds 1 ?_
    rw [rounds_succ]
    go_wp2
    go_ret
    exact ⟨ret_int (by show (k : Int) = ((k + 0 : Nat) : Int); omega), ⟨vs, hown, hvb, hrows⟩, Within.refl _ _ _⟩
  · obtain ⟨g, c, rfl⟩ : ∃ g c, v = .slice (some ⟨g, 0, none⟩) Ws.length c := by
      rcases hown.2 with ⟨_, h⟩ | ⟨g, cap, cur, rfl, _⟩
      · exact absurd h h0
      · exact ⟨g, cap, rfl⟩
    clear h0
    have hvl := hrows.len
    have hgl := (hown.lt g rfl).1
    have hgh := hvb g rfl
    go_enter Tryd.func14, Tryd.ntmps14
    go_wp2
    go_loopw [1, 5] (fun a i wr => ∃ j : Nat, j ≤ Ws.length ∧ a = .int .i64 ((k + totW (Ws.take j) : Nat) : Int) ∧ i = .int .i64 j ∧ wr.ownsRow lo 48 1 (.slice (some ⟨g, 0, none⟩) Ws.length c) Ws.length vs ∧ RowsI wr lo vs ((numsW k Ws).take j ++ Ws.drop j) hi ∧ Within lo hi w wr) (fun _ i _ => Ws.length - (intOf i).toNat)
    case atStart => exact ⟨0, Nat.zero_le _, rfl, rfl, hown, by simpa using hrows, Within.refl _ _ _⟩
    case round =>
      clear hown hrows hvb
      obtain ⟨j, hj, rfl, rfl, hown, hrows, hgr⟩ := hrel
      by_cases hlt : j < Ws.length
      · have hlt2 : (j : Int) < (Ws.length : Int) := by omega
        obtain ⟨L, hx⟩ : ∃ L, Ws[j]? = some L := ⟨_, List.getElem?_eq_getElem hlt⟩
        obtain ⟨u, hu⟩ : ∃ u, vs[j]? = some u := ⟨_, List.getElem?_eq_getElem (by omega)⟩
        have d0 := hown.cells (g := g) rfl j u hu
        have hadd : (⟨g, 0, none⟩ : Addr).add j = ⟨g, j, none⟩ := by unfold Addr.add; split <;> simp_all
        rw [hadd] at d0
        have hmid : ((numsW k Ws).take j ++ Ws.drop j)[j]? = some L := by
          rw [List.getElem?_append_right (by rw [List.length_take]; omega), List.length_take, numsW_len, Nat.min_eq_left (by omega), Nat.sub_self, List.getElem?_drop]
          exact hx
        obtain ⟨l, q, hl, hq, hr⟩ := hrows.at hu hmid
        have ht1 := totW_succ hx
        have ht2 := totW_le Ws (j + 1)
        have HM := Lib.hid (markInts u l (k + totW (Ws.take j)) L.length _ wr hr.own (by omega))
        have HP := Lib.hid (numsW_put (k := k) hx)
        have HT1 := Lib.hid ht1
        have HR := Lib.hid hrows
        have HO := Lib.hid hown
        have HG := Lib.hid hgr
        have HRR := Lib.hid hr
        have HMD := Lib.hid hmid
        have HU := Lib.hid hu
        obtain ⟨au, cu, rfl⟩ := rowJ_form hr
        clear hadd hx ht1 ht2 hrows hown hgr hr hmid hu
        go_wp2_with fail
        refine HM.out.mono ?_
        rintro e w3 ⟨rfl, hown3, hgr3⟩
        have hrows3 := HR.out.put (L' := nums (k + totW (Ws.take j)) L.length) HU.out HMD.out (length_nums _ _) (fun B hB => by
          refine ⟨hown3.1, ?_⟩
          rcases hown3.2 with h | ⟨g', cap', cur', e1, e2, e3⟩
          · exact .inl h
          · refine .inr ⟨g', cap', cur', e1, ?_, e3⟩
            exact (hB.lt g' (by rw [e1]; rfl)).1) hgr3
        rw [HP.out] at hrows3
        have hown4 := HO.out.kept hgr3 (own_kinds HO.out HRR.out.own (by dsimp only [rowJ]; decide))
        have HR3 := Lib.hid hrows3
        have HO3 := Lib.hid hown4
        have HG3 := Lib.hid (HG.out.grown hgr3 fun m hm => ⟨Nat.le_trans hl (HRR.out.own.lt m hm).1, Nat.lt_of_lt_of_le (HRR.out.lt m hm) hq⟩)
        clear hown3 hgr3 hrows3 hown4 HR HO HG HRR
        go_wp2_with fail
        go_roundw
        case rel => exact ⟨j + 1, by omega, by congr 1; have := HT1.out; omega, by go_num, HO3.out, HR3.out, HG3.out⟩
        case measure => simp [intOf]; omega
      · obtain rfl : j = Ws.length := by omega
        rw [List.drop_of_length_le (Nat.le_refl _), List.append_nil, List.take_of_length_le (by rw [numsW_len]; exact Nat.le_refl _)] at hrows
        rw [List.take_length]
        have HO := Lib.hid hown
        have HR := Lib.hid hrows
        have HG := Lib.hid hgr
        clear hown hrows hgr
        go_wp2
        go_ret
        exact ⟨rfl, ⟨vs, by rw [numsW_len]; exact HO.out, fun m hm => by cases hm; exact hgh, HR.out⟩, HG.out⟩

end Go.Proofs.YtnbbhdbcapfbkaaDoor

namespace Go.Proofs.YtnbbhdbcapfbkaaDoor
set_option maxRecDepth 4096
open Go.ChangeShapes Go.WideShapes Go.ChangeAt Go.RowKit

/-- A row that is written anew turns its own blocks alone. -/
theorem within_mark {w w' : World} {r : RowD} (hr : r.At w) (g : w.grownBy w' r.v.ownBlock) : Within r.lo r.hi w w' :=
  (Within.refl _ _ _).grown g fun k hk => ⟨(hr.own.lt k hk).1, hr.lt k hk⟩
theorem LSt.within {w w' w'' : World} {o : Obj} {K : List (Nat × Obj)} {L : List RowD} {lo hi : Nat} (h : LSt w o K L w') (g : Within lo hi w' w'') (hlo : (w.alloc o).heap.size ≤ lo) (hl : lo ≤ w'.heap.size) (hL : ∀ q ∈ L, q.hi ≤ lo ∨ hi ≤ q.lo) (hK : ∀ p ∈ K, p.1 < lo ∨ hi ≤ p.1) : LSt w o K L w'' :=
  ⟨h.below.trans (g.below hlo hl), fun p hp => (g.block p.1 (Array.getElem?_eq_some_iff.1 (h.keep p hp)).1 (hK p hp)).trans (h.keep p hp), fun q hq => g.row (h.rows q hq) (hL q hq)⟩

end Go.Proofs.YtnbbhdbcapfbkaaDoor

namespace Go.Proofs.YtnbbhdbcapfbkaaDoor
set_option maxRecDepth 4096
open Go.ChangeShapes Go.WideShapes Go.ChangeAt Go.RowKit

/-- What is left of a measure. -/
def leftV (left n : Int) : Int := if left - n < 0 then -1 else left - n
theorem szInts (a : Option Addr) (n c : Nat) (left : Int) (hn : n ≤ 9223372036854775807) (h0 : 0 ≤ left) (h1 : left ≤ 1048576) (w : World) :
    Calls Tryd.prog 28 #[.slice a n c, .int .i64 left] w (Quiet w (.int .i64 (leftV left n))) := by
  have hw : IntKind.i64.wrap (left - (n : Int)) = left - (n : Int) := IntWalk.i64_in _ (by omega)
  unfold leftV
  by_cases h : left - (n : Int) < 0
  · rw [if_pos h]
    go_enter Tryd.func28, Tryd.ntmps28
    go_wp2
    go_ret
    exact ⟨rfl, 0, rfl⟩
  · rw [if_neg h]
    go_enter Tryd.func28, Tryd.ntmps28
    go_wp2
    go_ret
    exact ⟨rfl, 0, rfl⟩
theorem szWay (a : Option Addr) (n c : Nat) (left : Int) (hn : n ≤ 9223372036854775807) (h0 : 0 ≤ left) (h1 : left ≤ 1048576) (w : World) :
    Calls Tryd.prog 16 #[.agg #[.slice a n c], .int .i64 left] w (Made w (.int .i64 (leftV left n))) := by
  have hB := (Below.refl w.heap.size w).alloc (Nat.le_refl _) (.cells #[.slice a n c] 42)
  have HH := Lib.hid (szInts a n c left hn h0 h1)
  obtain ⟨x, HX⟩ : ∃ x, Hid (leftV left n = x) := ⟨_, rfl⟩
  rw [HX.out] at HH ⊢
  by_cases h : x < 0
  · have e : x = -1 := by
      have h2 := HX.out
      unfold leftV at h2
      split at h2 <;> omega
    subst e
    go_enter Tryd.func16, Tryd.ntmps16
    go_wp2_with fail
    refine (HH.out _).mono ?_
    rintro e w3 ⟨rfl, m, rfl⟩
    go_wp2_with fail
    go_ret
    exact ⟨rfl, below_drewN hB m⟩
  · go_enter Tryd.func16, Tryd.ntmps16
    go_wp2_with fail
    refine (HH.out _).mono ?_
    rintro e w3 ⟨rfl, m, rfl⟩
    go_wp2_with fail
    go_ret
    exact ⟨rfl, below_drewN hB m⟩

/-- The measure of ways: -1 where they are too many. -/
def szV (Ws : List (List Int)) (left : Int) : Int := if Ws.length + totW Ws ≤ left then left - (Ws.length + totW Ws : Nat) else -1
set_option maxHeartbeats 1000000 in
theorem szWays (v : Value) (Ws : List (List Int)) (left : Int) (h0 : 0 ≤ left) (h1 : left ≤ 1048576) (hW : Ws.length ≤ 9223372036854775807) (hL : ∀ L ∈ Ws, L.length ≤ 9223372036854775807) (w : World) (hv : ArgW w v Ws) :
    Calls Tryd.prog 5 #[v, .int .i64 left] w (Made w (.int .i64 (szV Ws left))) := by
  obtain ⟨av, cv, rfl, HV⟩ := hv
  have HVh := Lib.hid HV
  have HLh := Lib.hid hL
  clear HV hL
  have hw : IntKind.i64.wrap (left - (Ws.length : Int)) = left - (Ws.length : Int) := IntWalk.i64_in _ (by omega)
  by_cases h : left - (Ws.length : Int) < 0
  · have e : szV Ws left = -1 := by
      unfold szV
      rw [if_neg (by omega)]
    rw [e]
    go_enter Tryd.func5, Tryd.ntmps5
    go_wp2_with fail
    go_ret
    exact ⟨rfl, Below.refl _ _⟩
  · obtain ⟨z, HZ⟩ : ∃ z, Hid (szV Ws left = z) := ⟨_, rfl⟩
    rw [HZ.out]
    obtain ⟨l0, hl0⟩ : ∃ l0, left - (Ws.length : Int) = l0 := ⟨_, rfl⟩
    rw [hl0] at hw h
    go_enter Tryd.func5, Tryd.ntmps5
    go_wp2_with fail
    go_loopw [1, 5] (fun l i wr => ∃ k : Nat, k ≤ Ws.length ∧ l = .int .i64 (l0 - (totW (Ws.take k) : Int)) ∧ (totW (Ws.take k) : Int) ≤ l0 ∧ i = .int .i64 k ∧ Below w.heap.size w wr) (fun _ i _ => Ws.length - (intOf i).toNat)
    case atStart => exact ⟨0, Nat.zero_le _, by rw [show totW (Ws.take 0) = 0 from rfl]; congr 1; omega, by rw [show totW (Ws.take 0) = 0 from rfl]; omega, rfl, Below.refl _ _⟩
    case round =>
      obtain ⟨k, hk, rfl, hle, rfl, hB⟩ := hrel
      by_cases hlt : k < Ws.length
      · obtain ⟨L, hx⟩ : ∃ L, Ws[k]? = some L := ⟨_, List.getElem?_eq_getElem hlt⟩
        rcases HVh.out with h2 | ⟨b, rfl, hg, hc⟩
        · omega
        · obtain ⟨u, hu, a, c, rfl, _⟩ := hc k L hx
          have d0 := (hB.cell (p := b.add k) (by rw [blk_add]; exact hg)).trans hu
          have hlt2 : (k : Int) < (Ws.length : Int) := by omega
          have hs := totW_succ hx
          have hLb := HLh.out L (List.mem_of_getElem? hx)
          obtain ⟨q, HQ⟩ : ∃ q, Hid (l0 - (totW (Ws.take k) : Int) = q) := ⟨_, rfl⟩
          rw [HQ.out]
          have hq0 : 0 ≤ q := by have := HQ.out; omega
          have hq1 : q ≤ 1048576 := by have := HQ.out; omega
          have hcase : (leftV q L.length < 0 ∧ leftV q L.length = -1 ∧ z = -1) ∨ (¬ leftV q L.length < 0 ∧ leftV q L.length = l0 - (totW (Ws.take (k + 1)) : Int) ∧ (totW (Ws.take (k + 1)) : Int) ≤ l0) := by
            have h3 := HQ.out
            have h4 := HZ.out
            unfold leftV
            by_cases e : q - (L.length : Int) < 0
            · rw [if_pos e]
              refine .inl ⟨by omega, rfl, ?_⟩
              rw [← h4]
              unfold szV
              have := totW_le Ws (k + 1)
              rw [if_neg (by omega)]
            · rw [if_neg e]
              exact .inr ⟨e, by omega, by omega⟩
          obtain ⟨y, HY⟩ : ∃ y, Hid (leftV q L.length = y) := ⟨_, rfl⟩
          have HH := Lib.hid (szWay a L.length c q hLb hq0 hq1)
          rw [HY.out] at hcase HH
          have HB := Lib.hid hB
          have HS := Lib.hid hs
          clear hu hc hx hB hs hle hl0
          rcases hcase with ⟨hy, hy2, hz⟩ | ⟨hy, hy2, hy3⟩
          · subst hz
            subst hy2
            go_wp2_with fail
            refine (HH.out _).mono ?_
            rintro e w3 ⟨rfl, hb⟩
            have HB3 := Lib.hid (HB.out.trans (hb.mono HB.out.size))
            clear hb
            go_wp2_with fail
            go_ret
            exact ⟨rfl, HB3.out⟩
          · have HY2 := Lib.hid hy2
            clear hy2
            go_wp2_with fail
            refine (HH.out _).mono ?_
            rintro e w3 ⟨rfl, hb⟩
            have HB3 := Lib.hid (HB.out.trans (hb.mono HB.out.size))
            clear hb
            go_wp2_with fail
            go_roundw
            case rel => exact ⟨k + 1, by omega, by rw [HY2.out], hy3, by go_num, HB3.out⟩
            case measure => simp [intOf]; omega
      · obtain rfl : k = Ws.length := by omega
        rw [List.take_length] at hle ⊢
        have hz : z = l0 - (totW Ws : Int) := by
          rw [← HZ.out]
          unfold szV
          rw [if_pos (by omega)]
          omega
        subst hz
        clear hle hl0
        go_wp2_with fail
        go_ret
        exact ⟨rfl, hB⟩

end Go.Proofs.YtnbbhdbcapfbkaaDoor

namespace Go.Proofs.YtnbbhdbcapfbkaaDoor
set_option maxRecDepth 4096
open Go.ChangeShapes Go.WideShapes Go.ChangeAt Go.RowKit

set_option maxHeartbeats 400000 in
theorem toInts (v : Value) (L : List Int) (w : World) (hv : ArgI w v L) (hL : L.length ≤ 2000000) :
    Calls Tryd.prog 8 #[v] w (IntsBack w L) := by
  obtain ⟨i0, hi, hz0, hz1, hz2⟩ := info_parts Tryd.info3
  obtain ⟨av, cv, rfl, HV⟩ := hv
  have HVh := Lib.hid HV
  clear HV
  go_enter Tryd.func8, Tryd.ntmps8
  go_wp2_with (at_make; refine wpList_make_full w rfl _ _ 24 rfl w.heap.size 3 i0 (.int .i64 0) 1 Tryd.underlying24 hi hz0 hz1 .i64 .i64 (L.length : Int) (L.length : Int) L.length rfl rfl rfl rfl (by rw [hz2]; omega) (by unfold maxLen; omega) (Nat.le_refl _) ?_; intro w1 hown0 hgrow0)
  generalize (madeCells (Value.int .i64 0).cells (L.length * 1)).toList = xs at hown0
  have hxl : xs.length = L.length := by have := hown0.1; omega
  have hb0 := (Below.refl w.heap.size w).grown hgrow0 (Nat.le_refl _) (by simp)
  have hgl := (hown0.lt w.heap.size rfl).2
  clear hgrow0
  go_loopw [4] (fun i wr => ∃ k : Nat, k ≤ L.length ∧ i = .int .i64 k ∧ wr.ownsRow w.heap.size 3 1 (.slice (some ⟨w.heap.size, 0, none⟩) L.length L.length) L.length ((L.take k).map (Value.int .i64) ++ xs.drop k) ∧ Below w.heap.size w wr) (fun i _ => L.length - (intOf i).toNat)
  case atStart => exact ⟨0, Nat.zero_le _, rfl, by simpa using hown0, hb0⟩
  case round =>
    clear hown0
    obtain ⟨k, hk, rfl, hown, hbe⟩ := hrel
    by_cases hlt : k < L.length
    · obtain ⟨x, hx⟩ : ∃ x, L[k]? = some x := ⟨_, List.getElem?_eq_getElem hlt⟩
      rcases HVh.out with h0 | ⟨b, rfl, hg, hc⟩
      · omega
      · have hbl : (b.add k).block = b.block := by unfold Addr.add; split <;> rfl
        have d0 : wr.cell? (b.add k) = some (.int .i64 x) := (hbe.cell (p := b.add k) (by rw [hbl]; exact hg)).trans (hc k x hx)
        have HST := Lib.hid (ints_set_at L k x xs hx (by omega))
        have hk2 : (k : Int) < (L.length : Int) := by omega
        obtain ⟨u, d1⟩ := own_cell hown hlt
        have d2 := hown.frozenAt k
        clear hx hc hbl
        go_wp2
        go_roundw
        case rel => exact ⟨k + 1, by omega, by go_num, by rw [← HST.out]; exact (hown.stored k _).1, hbe.setCell (Nat.le_refl _) _⟩
        case measure => simp [intOf]; omega
    · obtain rfl : k = L.length := by omega
      go_wp2
      go_ret
      exact ⟨_, rfl, by rw [List.take_length, List.drop_of_length_le (by omega), List.append_nil] at hown; exact hown, hbe⟩

end Go.Proofs.YtnbbhdbcapfbkaaDoor

namespace Go.Proofs.YtnbbhdbcapfbkaaDoor
set_option maxRecDepth 4096
open Go.ChangeShapes Go.WideShapes Go.ChangeAt Go.RowKit

/-- A way came back, its cells in memory of the call's own. -/
def WayBack (w : World) (L : List Int) (e : Ending) (w' : World) : Prop :=
  ∃ u, e = .returned (.agg #[u]) ∧ w'.ownsRow w.heap.size 3 1 u L.length (L.map (Value.int .i64)) ∧ Below w.heap.size w w'

theorem toWay (v : Value) (L : List Int) (w : World) (hv : ArgI w v L) (hL : L.length ≤ 2000000) :
    Calls Tryd.prog 22 #[.agg #[v]] w (WayBack w L) := by
  have hB := ((((Below.refl w.heap.size w).alloc (Nat.le_refl _) (.cells #[v] 42)).alloc (by simp) (.cells #[.slice none 0 0] 48)).alloc (by simp; omega) (.cells #[.slice none 0 0] 48))
  have HV := Lib.hid (argI_below hv hB)
  clear hv
  go_enter Tryd.func22, Tryd.ntmps22
  go_wp2_with fail
  refine (toInts v L _ HV.out hL).mono ?_
  rintro e w3 ⟨u, rfl, hown, hb⟩
  obtain ⟨_, z0⟩ := old_one (m := w.heap.size + 1 + 1) hb (by
    have := heap_alloc_new ((w.alloc (.cells #[v] 42)).alloc (.cells #[.slice none 0 0] 48)) (.cells #[.slice none 0 0] 48)
    simpa using this)
  obtain ⟨r0, y0⟩ := old_one (m := w.heap.size + 1) (c0 := .slice none 0 0) (t := 48) hb (by
    rw [Below.heap_alloc _ _ _ (by simp)]
    have := heap_alloc_new (w.alloc (.cells #[v] 42)) (.cells #[.slice none 0 0] 48)
    simpa using this)
  obtain ⟨au, cu, rfl⟩ := own_form hown
  have HO := Lib.hid hown
  have HB3 := Lib.hid (hB.trans (hb.mono hB.size))
  clear hown hb hB
  go_wp2_with fail
  refine bodyPost_ret (v := .agg #[.slice au L.length cu]) (by simp [results, Tryd.results22, go_sem, r0]) rfl ⟨_, rfl, ?_, ?_⟩
  · have h1 := own_put1 (own_put1 HO.out (r := w.heap.size + 1 + 1) (i := 0) (u := .slice au L.length cu) (by simp)) (r := w.heap.size + 1) (i := 0) (u := .slice au L.length cu) (by simp)
    exact own_base h1 (by simp; omega)
  · exact (HB3.out.setCell (by simp; omega) _).setCell (by simp) _

theorem ways_step {vs xs : List Value} {k n : Nat} {u : Value} (hk : k < n) (hv : vs.length = k) (hx : xs.length = n) : (vs ++ xs.drop k).set k u = (vs ++ [u]) ++ xs.drop (k + 1) := by
  rw [List.set_append, if_neg (by omega), hv, Nat.sub_self, List.drop_eq_getElem_cons (by omega), List.set_cons_zero, List.append_assoc]
  rfl
set_option maxHeartbeats 1000000 in
theorem toWays (v : Value) (Ws : List (List Int)) (w : World) (hv : ArgW w v Ws) (hW : Ws.length ≤ 2000000) (hL : ∀ L ∈ Ws, L.length ≤ 2000000) :
    Calls Tryd.prog 9 #[v] w (WaysBack w Ws) := by
  obtain ⟨i0, hi, hz0, hz1, hz2⟩ := info_parts Tryd.infoWay
  obtain ⟨av, cv, rfl, HV⟩ := hv
  have HVh := Lib.hid HV
  have HLh := Lib.hid hL
  clear HV hL
  go_enter Tryd.func9, Tryd.ntmps9
  go_wp2_with (at_make; refine wpList_make_full w rfl _ _ 33 rfl w.heap.size 48 i0 _ 1 Tryd.underlying33 hi hz0 hz1 .i64 .i64 (Ws.length : Int) (Ws.length : Int) Ws.length rfl rfl rfl rfl (by rw [hz2]; omega) (by unfold maxLen; omega) (Nat.le_refl _) ?_; intro w1 hown0 hgrow0)
  generalize (madeCells (Value.agg #[.slice none 0 0]).cells (Ws.length * 1)).toList = xs at hown0
  have hxl : xs.length = Ws.length := by have := hown0.1; omega
  have hb0 := (Below.refl w.heap.size w).grown hgrow0 (Nat.le_refl _) (by simp)
  have hg0 := (hown0.lt w.heap.size rfl).2
  clear hgrow0
  go_loopw [4] (fun i wr => ∃ (k : Nat) (vs : List Value), k ≤ Ws.length ∧ i = .int .i64 k ∧ vs.length = k ∧ wr.ownsRow w.heap.size 48 1 (.slice (some ⟨w.heap.size, 0, none⟩) Ws.length Ws.length) Ws.length (vs ++ xs.drop k) ∧ RowsI wr w.heap.size vs (Ws.take k) wr.heap.size ∧ Below w.heap.size w wr) (fun i _ => Ws.length - (intOf i).toNat)
  case atStart => exact ⟨0, [], Nat.zero_le _, rfl, rfl, by simpa using hown0, by rw [List.take_zero]; exact .nil (by omega) (Nat.le_refl _), hb0⟩
  case round =>
    clear hown0
    obtain ⟨k, vs, hk, rfl, hvl, hown, hrows, hbe⟩ := hrel
    by_cases hlt : k < Ws.length
    · obtain ⟨L, hx⟩ : ∃ L, Ws[k]? = some L := ⟨_, List.getElem?_eq_getElem hlt⟩
      rcases HVh.out with h0 | ⟨b, rfl, hg, hc⟩
      · omega
      · have hk2 : (k : Int) < (Ws.length : Int) := by omega
        obtain ⟨u0, hu0, hI⟩ := hc k L hx
        have d0 := (hbe.cell (p := b.add k) (by rw [blk_add]; exact hg)).trans hu0
        have HI := Lib.hid (argI_below hI hbe)
        obtain ⟨a0, c0, rfl, _⟩ := hI
        have HT := Lib.hid (toWay (.slice a0 L.length c0) L wr HI.out (HLh.out L (List.mem_of_getElem? hx)))
        have hts : Ws.take (k + 1) = Ws.take k ++ [L] := by
          obtain ⟨_, e⟩ := List.getElem?_eq_some_iff.1 hx
          rw [List.take_succ_eq_append_getElem hlt, e]
        have HTS := Lib.hid hts
        have HVL := Lib.hid hvl
        clear hu0 hc hx hts hvl
        go_wp2_with fail
        refine HT.out.mono ?_
        rintro e w3 ⟨u, rfl, hu, hb⟩
        have hbs := hbe.size
        have hown3 := own_below hown hb hbs
        have hbe3 := hbe.trans (hb.mono hbs)
        obtain ⟨x0, f0⟩ := own_cell hown3 (j := k) (by omega)
        have z0 := hown3.frozenAt k
        have hst := ways_step (u := u) hlt HVL.out hxl
        have hown4 := hown3.stored k u
        rw [hst] at hown4
        have hrow3 := (hrows.on hb).snoc (hi := w3.heap.size) (v := u) (L := L) ⟨hu, fun j hj => (hu.lt j hj).2, Nat.le_refl _⟩ hb.size
        rw [← HTS.out] at hrow3
        have hrow4 := hrow3.grown hown4.2 (hrow3.kinds hown3 (by decide))
        have hsz : (w3.setCell ⟨w.heap.size, k, none⟩ u).heap.size = w3.heap.size := by simp [World.setCell]
        rw [← hsz] at hrow4
        have HO4 := Lib.hid hown4.1
        have HR4 := Lib.hid hrow4
        have HB4 := Lib.hid (hbe3.setCell (Nat.le_refl _) u (p := ⟨w.heap.size, k, none⟩))
        obtain ⟨au, cu, rfl⟩ := own_form hu
        clear hown hbe hb hown3 hbe3 d0 hrows hrow3 hrow4 hown4 hu hst
        go_wp2_with fail
        go_roundw
        case rel => exact ⟨k + 1, _, by omega, by go_num, by rw [List.length_append, HVL.out]; rfl, HO4.out, HR4.out, HB4.out⟩
        case measure => simp [intOf]; omega
    · obtain rfl : k = Ws.length := by omega
      rw [List.take_length] at hrows
      rw [List.drop_of_length_le (by omega), List.append_nil] at hown
      have HO := Lib.hid hown
      have HR := Lib.hid hrows
      have HB := Lib.hid hbe
      clear hown hrows hbe
      go_wp2_with fail
      go_ret
      exact ⟨_, rfl, ⟨vs, HO.out, fun j hj => by have := (HO.out.lt j hj).2; omega, HR.out⟩, HB.out⟩

end Go.Proofs.YtnbbhdbcapfbkaaDoor

namespace Go.Proofs.YtnbbhdbcapfbkaaDoor
set_option maxRecDepth 4096
open Go.ChangeShapes Go.WideShapes Go.ChangeAt Go.RowKit Go.Deep Go.Joins

section
variable {H : Type} {enc : TypeId × Value → H}

/-- Whatever a call made behind it, the argument reads as it did. -/
theorem again_of {t : TypeId} (hr : Tryd.prog.readableRec t = true) (hrow : t < Tryd.prog.types.size) {w w1 : World} {v : Value} {d : DataW H} {ps : List MemPlace} (h : DataW.Trod enc Tryd.prog w 0 (fun _ => true) true t v d ps)
    (hlt : ∀ x ∈ ps, x.block < w.heap.size) (hb : Below w.heap.size w w1) (sp : Nat → Bool) (hsp : ∀ p ∈ ps, sp p.block = true) : DataW.Trod enc Tryd.prog w1 0 sp true t v d ps :=
  WideElems.Trod_stays (by kernel_rfl) hr hrow h (fun x hx => hb.same (hlt x hx)) hsp

theorem list_of {α : Type} {Q : Nat → α → Prop} : ∀ (n : Nat), (∀ i, i < n → ∃ x, Q i x) → ∃ L : List α, L.length = n ∧ ∀ (j : Nat) x, L[j]? = some x → Q j x
  | 0, _ => ⟨[], rfl, fun j x h => by simp at h⟩
  | n + 1, h => by
    obtain ⟨L, hl, hL⟩ := list_of n fun i hi => h i (by omega)
    obtain ⟨x, hx⟩ := h n (by omega)
    refine ⟨L ++ [x], by simp [hl], fun j y hy => ?_⟩
    by_cases hj : j < n
    · rw [List.getElem?_append_left (by omega)] at hy
      exact hL j y hy
    · rw [List.getElem?_append_right (by omega)] at hy
      have : j = n := by
        have := (List.getElem?_eq_some_iff.1 hy).1
        simp at this
        omega
      subst this
      rw [hl, Nat.sub_self] at hy
      cases hy
      exact hx

theorem open_slice_fields {P : Program} {w : World} {base : Nat} {spare : Nat → Bool} {held : Bool} {t e : TypeId} {fs : Array Field} {fuel : Nat} {cs : List Value} {x : DataW H × List MemPlace} (ht : P.underlying t = some (.slice e)) (he : P.underlying e = some (.struct fs))
    (hone : oneCellFields P fs = true) (hC : P.cellsOf e = fs.size) (h : DataW.trod enc P w base spare held fuel t cs = some x) :
    (cs = [.slice none 0 0]) ∨
    ∃ (a : Addr) (len cap : Nat), cs = [.slice (some a) len cap] ∧ len ≤ cap ∧ cap ≤ maxLen ∧
      ∀ i, i < len → ∀ (j : Nat) (f : Field), fs[j]? = some f → ∃ (v : Value) (n : Nat) (y : DataW H × List MemPlace), w.cell? (a.add (i * fs.size + j)) = some v ∧ DataW.trod enc P w base spare held n f.type [v] = some y := by
  rcases open_slice ht h with h0 | ⟨a, len, cap, m, n, D, Pl, hcs, hb, hl, hm, hmm, hx, hi⟩
  · exact .inl h0.1
  · refine .inr ⟨a, len, cap, hcs, hl, hm, fun i hil j f hj => ?_⟩
    have him : i < m := by rw [hmm]; split <;> omega
    obtain ⟨cs', hc, ht'⟩ := hi i him
    rw [hC] at hc
    obtain ⟨ys, n', _, _, hlen, hyl, hf⟩ := DataW.trod_struct he ht'
    obtain ⟨_, hcl, hat⟩ := World.cells?_some hc
    obtain ⟨ho, hk⟩ := hone_of hone j f hj
    have hjl : j < fs.size := (Array.getElem?_eq_some_iff.1 hj).1
    have hcell := hat j hjl
    have hv : cs'[j]? = some (cs'[j]'(by omega)) := List.getElem?_eq_getElem (by omega)
    have h1 := hf j f hj
    rw [ho, hk] at h1
    have hone' : (cs'.drop j).take 1 = [cs'[j]'(by omega)] := by
      rw [List.drop_eq_getElem_cons (by omega)]
      rfl
    rw [hone'] at h1
    have hys : ys[j]? = some (ys[j]'(by omega)) := List.getElem?_eq_getElem (by omega)
    refine ⟨_, n', _, ?_, h1.trans hys⟩
    rw [← Go.Deep.add_add, hcell, hv]

theorem cell_int {w : World} {a : Addr} {v : Value} {n : Nat} {t : TypeId} {y : DataW H × List MemPlace} (ht : Tryd.prog.underlying t = some (.int .i64)) (hc : w.cell? a = some v) (h : DataW.trod enc Tryd.prog w 0 (fun _ => true) true n t [v] = some y) : ∃ z : Int, w.cell? a = some (.int .i64 z) := by
  obtain ⟨z, e, _, _⟩ := DataW.trod_int ht h
  simp only [List.cons.injEq, and_true] at e
  subst e
  exact ⟨z, hc⟩
end

end Go.Proofs.YtnbbhdbcapfbkaaDoor

