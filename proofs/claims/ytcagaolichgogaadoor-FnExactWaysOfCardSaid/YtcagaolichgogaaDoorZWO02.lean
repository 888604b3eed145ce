/-
  CONTRACT of laws.markWayS. No law is proved here.
  CONTRACT of laws.heldIntS. No law is proved here.
  CONTRACT of laws.heldWayS; what a law keeps while it marks ways. No law is proved here.
  Nets: their arcs as a list, in memory; which nets are right. Plain facts; no statement is proved here.
  Flows of a net: what goes out of each node less what comes in, size, cost, what can be reached; sums of flows. Plain facts; no statement is proved here.
-/
import Derived.Test.YtcagaolichgogaaDoorZWO01
import Derived.Test.YtcagaolichgogaaDoorZWO00
import Derived.Deep.QuietTactic
namespace Go.Proofs.YtcagaolichgogaaDoor
set_option maxRecDepth 4096
open Go.ChangeShapes Go.WideShapes Go.ChangeAt Go.RowKit

/-- The marks from k on, a list for each way. -/
def numsW : Nat → List (List Int) → List (List Int)
  | _, [] => []
  | k, L :: Ws => nums k L.length :: numsW (k + L.length) Ws
theorem numsW_len : ∀ (k : Nat) (Ws : List (List Int)), (numsW k Ws).length = Ws.length
  | _, [] => rfl
  | k, L :: Ws => by simp [numsW, numsW_len (k + L.length) Ws]
theorem numsW_at : ∀ {k : Nat} {Ws : List (List Int)} {i : Nat} {L : List Int}, Ws[i]? = some L → (numsW k Ws)[i]? = some (nums (k + totW (Ws.take i)) L.length)
  | _, [], _, _, h => by simp at h
  | k, M :: Ws, i, L, h => by
    cases i with
    | zero =>
      cases h
      rfl
    | succ i =>
      have := numsW_at (k := k + M.length) (Ws := Ws) (i := i) (L := L) (by simpa using h)
      rw [numsW, List.getElem?_cons_succ, this, List.take_succ_cons]
      unfold totW
      rw [List.map_cons, List.sum_cons, Nat.add_assoc]
theorem numsW_put {k i : Nat} {Ws : List (List Int)} {L : List Int} (h : Ws[i]? = some L) : ((numsW k Ws).take i ++ Ws.drop i).set i (nums (k + totW (Ws.take i)) L.length) = (numsW k Ws).take (i + 1) ++ Ws.drop (i + 1) := by
  obtain ⟨hi, e⟩ := List.getElem?_eq_some_iff.1 h
  have hl : ((numsW k Ws).take i).length = i := by rw [List.length_take, numsW_len]; omega
  have hi2 : i < (numsW k Ws).length := by rw [numsW_len]; exact hi
  have e2 : (numsW k Ws)[i] = nums (k + totW (Ws.take i)) L.length := by
    have := numsW_at (k := k) h
    rw [List.getElem?_eq_getElem hi2] at this
    exact Option.some.inj this
  rw [List.set_append, if_neg (by omega), hl, Nat.sub_self, List.drop_eq_getElem_cons hi, List.set_cons_zero, List.take_succ_eq_append_getElem hi2, List.append_assoc, e2]
  rfl

/-- markWayS has written its marks into the rows of the ways, and nothing else. -/
def MarkedW (w : World) (lo hi : Nat) (v : Value) (Ws : List (List Int)) (k : Nat) (e : Ending) (w' : World) : Prop :=
  e = .returned (.int .i64 ((k + totW Ws : Nat) : Int)) ∧ WOwn w' lo hi v (numsW k Ws) ∧ Within lo hi w w'

set_option maxHeartbeats 1000000 in
theorem markWays (v : Value) (lo hi k : Nat) (Ws : List (List Int)) (w : World) (h : WOwn w lo hi v Ws) (hW : Ws.length ≤ 2000000) (hn : k + totW Ws ≤ 50000000) :
    Calls Tryd.prog 13 #[v, .int .i64 k] w (MarkedW w lo hi v Ws k) := by
  obtain ⟨vs, hown, hvb, hrows⟩ := h
  by_cases h0 : Ws.length = 0
  · obtain rfl := List.eq_nil_of_length_eq_zero h0
    obtain ⟨a, c, rfl⟩ := own_form hown
    go_enter Tryd.func13, Tryd.ntmps13
    go_wp2
    refine wp_loop_rounds 1 ?_
    rw [rounds_succ]
    go_wp2
    go_ret
    exact ⟨ret_int (by show (k : Int) = ((k + 0 : Nat) : Int); omega), ⟨vs, hown, hvb, hrows⟩, Within.refl _ _ _⟩
  · obtain ⟨g, c, rfl⟩ : ∃ g c, v = .slice (some ⟨g, 0, none⟩) Ws.length c := by
      rcases hown.2 with ⟨_, h⟩ | ⟨g, cap, cur, rfl, _⟩
      · exact absurd h h0
      · exact ⟨g, cap, rfl⟩
    clear h0
    have hvl := hrows.len
    have hgl := (hown.lt g rfl).1
    have hgh := hvb g rfl
    go_enter Tryd.func13, Tryd.ntmps13
    go_wp2
    go_loopw [1, 5] (fun a i wr => ∃ j : Nat, j ≤ Ws.length ∧ a = .int .i64 ((k + totW (Ws.take j) : Nat) : Int) ∧ i = .int .i64 j ∧ wr.ownsRow lo 50 1 (.slice (some ⟨g, 0, none⟩) Ws.length c) Ws.length vs ∧ RowsI wr lo vs ((numsW k Ws).take j ++ Ws.drop j) hi ∧ Within lo hi w wr) (fun _ i _ => Ws.length - (intOf i).toNat)
    case atStart => exact ⟨0, Nat.zero_le _, rfl, rfl, hown, by simpa using hrows, Within.refl _ _ _⟩
    case round =>
      clear hown hrows hvb
      obtain ⟨j, hj, rfl, rfl, hown, hrows, hgr⟩ := hrel
      by_cases hlt : j < Ws.length
      · have hlt2 : (j : Int) < (Ws.length : Int) := by omega
        obtain ⟨L, hx⟩ : ∃ L, Ws[j]? = some L := ⟨_, List.getElem?_eq_getElem hlt⟩
        obtain ⟨u, hu⟩ : ∃ u, vs[j]? = some u := ⟨_, List.getElem?_eq_getElem (by omega)⟩
        have d0 := hown.cells (g := g) rfl j u hu
        have hadd : (⟨g, 0, none⟩ : Addr).add j = ⟨g, j, none⟩ := by unfold Addr.add; split <;> simp_all
        rw [hadd] at d0
        have hmid : ((numsW k Ws).take j ++ Ws.drop j)[j]? = some L := by
          rw [List.getElem?_append_right (by rw [List.length_take]; omega), List.length_take, numsW_len, Nat.min_eq_left (by omega), Nat.sub_self, List.getElem?_drop]
          exact hx
        obtain ⟨l, q, hl, hq, hr⟩ := hrows.at hu hmid
        have ht1 := totW_succ hx
        have ht2 := totW_le Ws (j + 1)
        have HM := Lib.hid (markInts u l (k + totW (Ws.take j)) L.length _ wr hr.own (by omega))
        have HP := Lib.hid (numsW_put (k := k) hx)
        have HT1 := Lib.hid ht1
        have HR := Lib.hid hrows
        have HO := Lib.hid hown
        have HG := Lib.hid hgr
        have HRR := Lib.hid hr
        have HMD := Lib.hid hmid
        have HU := Lib.hid hu
        obtain ⟨au, cu, rfl⟩ := rowJ_form hr
        clear hadd hx ht1 ht2 hrows hown hgr hr hmid hu
        go_wp2_with fail
        refine HM.out.mono ?_
        rintro e w3 ⟨rfl, hown3, hgr3⟩
        have hrows3 := HR.out.put (L' := nums (k + totW (Ws.take j)) L.length) HU.out HMD.out (length_nums _ _) (fun B hB => by
          refine ⟨hown3.1, ?_⟩
          rcases hown3.2 with h | ⟨g', cap', cur', e1, e2, e3⟩
          · exact .inl h
          · refine .inr ⟨g', cap', cur', e1, ?_, e3⟩
            exact (hB.lt g' (by rw [e1]; rfl)).1) hgr3
        rw [HP.out] at hrows3
        have hown4 := HO.out.kept hgr3 (own_kinds HO.out HRR.out.own (by dsimp only [rowJ]; decide))
        have HR3 := Lib.hid hrows3
        have HO3 := Lib.hid hown4
        have HG3 := Lib.hid (HG.out.grown hgr3 fun m hm => ⟨Nat.le_trans hl (HRR.out.own.lt m hm).1, Nat.lt_of_lt_of_le (HRR.out.lt m hm) hq⟩)
        clear hown3 hgr3 hrows3 hown4 HR HO HG HRR
        go_wp2_with fail
        go_roundw
        case rel => exact ⟨j + 1, by omega, by congr 1; have := HT1.out; omega, by go_num, HO3.out, HR3.out, HG3.out⟩
        case measure => simp [intOf]; omega
      · obtain rfl : j = Ws.length := by omega
        rw [List.drop_of_length_le (Nat.le_refl _), List.append_nil, List.take_of_length_le (by rw [numsW_len]; exact Nat.le_refl _)] at hrows
        rw [List.take_length]
        have HO := Lib.hid hown
        have HR := Lib.hid hrows
        have HG := Lib.hid hgr
        clear hown hrows hgr
        go_wp2
        go_ret
        exact ⟨rfl, ⟨vs, by rw [numsW_len]; exact HO.out, fun m hm => by cases hm; exact hgh, HR.out⟩, HG.out⟩

end Go.Proofs.YtcagaolichgogaaDoor

namespace Go.Proofs.YtcagaolichgogaaDoor
set_option maxRecDepth 4096
open Go.ChangeShapes Go.WideShapes Go.ChangeAt Go.RowKit

set_option maxHeartbeats 400000 in
theorem heldInts (v : Value) (k n : Nat) (w : World) (h : Ints w v (nums k n)) (hn : k + n ≤ 100000000) :
    Calls Tryd.prog 19 #[v, .int .i64 k] w (Made w (.int .i64 ((k + n : Nat) : Int))) := by
  by_cases h0 : n = 0
  · subst h0
    obtain ⟨a1, c1, rfl⟩ : ∃ a c, v = .slice a 0 c := by
      rcases h with ⟨_, h⟩ | ⟨g, c, rfl, _⟩
      · exact h
      · exact ⟨_, c, by rw [length_nums]⟩
    clear h
    go_enter Tryd.func19, Tryd.ntmps19
    go_wp2
    refine wp_loop_rounds 1 ?_
    rw [rounds_succ]
    go_wp2
    go_ret
    exact ⟨ret_int (by omega), Below.refl _ _⟩
  · obtain ⟨g, c, rfl, hg, hc⟩ : ∃ g c, v = .slice (some ⟨g, 0, none⟩) (nums k n).length c ∧ g < w.heap.size ∧ ∀ (j : Nat) x, (nums k n)[j]? = some x → w.cell? ⟨g, j, none⟩ = some (.int .i64 x) := by
      rcases h with ⟨h, _⟩ | h
      · have := congrArg List.length h
        rw [length_nums] at this
        exact absurd this h0
      · exact h
    have HC := Lib.hid hc
    clear hc h h0
    rw [length_nums]
    go_enter Tryd.func19, Tryd.ntmps19
    go_wp2
    go_loop [1, 5] (fun a i => ∃ j : Nat, j ≤ n ∧ a = .int .i64 ((k + j : Nat) : Int) ∧ i = .int .i64 j) (fun _ i => n - (intOf i).toNat)
    case atStart => exact ⟨0, Nat.zero_le _, rfl, rfl⟩
    case round =>
      obtain ⟨j, hj, rfl, rfl⟩ := hrel
      by_cases hlt : j < n
      · have d1 : w.cell? ⟨g, j, none⟩ = some (.int .i64 ((k + j : Nat) : Int)) := HC.out j _ (nums_at hlt)
        have hlt2 : (j : Int) < (n : Int) := by omega
        go_wp2
        go_round
        case rel => exact ⟨j + 1, by omega, by go_num, by go_num⟩
        case measure => simp [intOf]; omega
      · obtain rfl : j = n := by omega
        go_wp2
        go_ret
        exact ⟨ret_int (by omega), Below.refl _ _⟩

end Go.Proofs.YtcagaolichgogaaDoor

namespace Go.Proofs.YtcagaolichgogaaDoor
set_option maxRecDepth 4096
open Go.ChangeShapes Go.WideShapes Go.ChangeAt Go.RowKit

set_option maxHeartbeats 1000000 in
theorem heldWays (v : Value) (k : Nat) (Ws : List (List Int)) (w : World) (h : WaysAt w v (numsW k Ws)) (hW : Ws.length ≤ 2000000) (hn : k + totW Ws ≤ 50000000) :
    Calls Tryd.prog 14 #[v, .int .i64 k] w (Made w (.int .i64 ((k + totW Ws : Nat) : Int))) := by
  obtain ⟨av, cv, rfl, HV⟩ := h
  have HVh := Lib.hid HV
  clear HV
  rw [numsW_len] at HVh ⊢
  go_enter Tryd.func14, Tryd.ntmps14
  go_wp2
  go_loopw [1, 5] (fun a i wr => ∃ j : Nat, j ≤ Ws.length ∧ a = .int .i64 ((k + totW (Ws.take j) : Nat) : Int) ∧ i = .int .i64 j ∧ Below w.heap.size w wr) (fun _ i _ => Ws.length - (intOf i).toNat)
  case atStart => exact ⟨0, Nat.zero_le _, rfl, rfl, Below.refl _ _⟩
  case round =>
    obtain ⟨j, hj, rfl, rfl, hB⟩ := hrel
    by_cases hlt : j < Ws.length
    · have hlt2 : (j : Int) < (Ws.length : Int) := by omega
      obtain ⟨L, hx⟩ : ∃ L, Ws[j]? = some L := ⟨_, List.getElem?_eq_getElem hlt⟩
      rcases HVh.out with h0 | ⟨g, rfl, hg, hc⟩
      · omega
      · obtain ⟨u, p0, hI⟩ := hc j _ (numsW_at hx)
        have d0 := (hB.cell (p := ⟨g, j, none⟩) hg).trans p0
        have ht1 := totW_succ hx
        have ht2 := totW_le Ws (j + 1)
        have hIw := ints_on hI hB
        have HH := Lib.hid (heldInts u (k + totW (Ws.take j)) L.length wr hIw (by omega))
        have hneg : ¬ (((k + totW (Ws.take j) + L.length : Nat) : Int)) < 0 := by omega
        have hnxt : k + totW (Ws.take j) + L.length = k + totW (Ws.take (j + 1)) := by omega
        obtain ⟨au, cu, hu, _⟩ := ints_form hIw
        rw [length_nums] at hu
        subst hu
        have HBB := Lib.hid hB
        obtain ⟨q, hq⟩ : ∃ q : Nat, k + totW (Ws.take j) + L.length = q := ⟨_, rfl⟩
        rw [hq] at HH hneg hnxt
        have HNX := Lib.hid hnxt
        clear p0 hc hI hIw hx ht1 ht2 hB hq hnxt
        go_wp2_with fail
        refine HH.out.mono ?_
        rintro e w3 ⟨rfl, hb⟩
        have HB3 := Lib.hid (HBB.out.trans (hb.mono HBB.out.size))
        clear hb
        go_wp2_with fail
        go_roundw
        case rel => exact ⟨j + 1, by omega, by rw [HNX.out], by go_num, HB3.out⟩
        case measure => simp [intOf]; omega
    · obtain rfl : j = Ws.length := by omega
      rw [List.take_length]
      go_wp2
      go_ret
      exact ⟨rfl, hB⟩

/-- A row that is written anew turns its own blocks alone. -/
theorem within_mark {w w' : World} {r : RowD} (hr : r.At w) (g : w.grownBy w' r.v.ownBlock) : Within r.lo r.hi w w' :=
  (Within.refl _ _ _).grown g fun k hk => ⟨(hr.own.lt k hk).1, hr.lt k hk⟩
theorem LSt.within {w w' w'' : World} {o : Obj} {K : List (Nat × Obj)} {L : List RowD} {lo hi : Nat} (h : LSt w o K L w') (g : Within lo hi w' w'') (hlo : (w.alloc o).heap.size ≤ lo) (hl : lo ≤ w'.heap.size) (hL : ∀ q ∈ L, q.hi ≤ lo ∨ hi ≤ q.lo) (hK : ∀ p ∈ K, p.1 < lo ∨ hi ≤ p.1) : LSt w o K L w'' :=
  ⟨h.below.trans (g.below hlo hl), fun p hp => (g.block p.1 (Array.getElem?_eq_some_iff.1 (h.keep p hp)).1 (hK p hp)).trans (h.keep p hp), fun q hq => g.row (h.rows q hq) (hL q hq)⟩

end Go.Proofs.YtcagaolichgogaaDoor

namespace Go.Proofs.YtcagaolichgogaaDoor
set_option maxRecDepth 4096
open Go.ChangeShapes Go.WideShapes Go.ChangeAt Go.RowKit

/-- An arc. -/
structure ArcD where
  f : Int
  t : Int
  r : Int
  c : Int
def arcC (x : ArcD) : List Value := [.int .i64 x.f, .int .i64 x.t, .int .i64 x.r, .int .i64 x.c]
def arcV (x : ArcD) : Value := .agg #[.int .i64 x.f, .int .i64 x.t, .int .i64 x.r, .int .i64 x.c]
def netV (N : Int) (v : Value) : Value := .agg #[.int .i64 N, v]

/-- A list of arcs that lies in memory: nil or empty, or at the head of a block. -/
def Arcs (w : World) (v : Value) (A : List ArcD) : Prop :=
  (A = [] ∧ ∃ a c, v = .slice a 0 c) ∨ ∃ g c, v = .slice (some ⟨g, 0, none⟩) A.length c ∧ g < w.heap.size ∧ ∀ (j : Nat) x, A[j]? = some x →
    w.cell? ⟨g, j * 4, none⟩ = some (.int .i64 x.f) ∧ w.cell? ⟨g, j * 4 + 1, none⟩ = some (.int .i64 x.t) ∧ w.cell? ⟨g, j * 4 + 2, none⟩ = some (.int .i64 x.r) ∧ w.cell? ⟨g, j * 4 + 3, none⟩ = some (.int .i64 x.c)
theorem arcs_form {w : World} {v : Value} {A : List ArcD} (h : Arcs w v A) : ∃ a c, v = .slice a A.length c ∧ (A.length = 0 ∨ ∃ g, a = some ⟨g, 0, none⟩ ∧ g < w.heap.size ∧ ∀ (j : Nat) x, A[j]? = some x →
    w.cell? ⟨g, j * 4, none⟩ = some (.int .i64 x.f) ∧ w.cell? ⟨g, j * 4 + 1, none⟩ = some (.int .i64 x.t) ∧ w.cell? ⟨g, j * 4 + 2, none⟩ = some (.int .i64 x.r) ∧ w.cell? ⟨g, j * 4 + 3, none⟩ = some (.int .i64 x.c)) := by
  rcases h with ⟨rfl, a, c, rfl⟩ | ⟨g, c, rfl, hg, hc⟩
  · exact ⟨a, c, rfl, .inl rfl⟩
  · exact ⟨_, c, rfl, .inr ⟨g, rfl, hg, hc⟩⟩
theorem arcs_on {w w1 : World} {v : Value} {A : List ArcD} (h : Arcs w v A) (hb : Below w.heap.size w w1) : Arcs w1 v A := by
  rcases h with h | ⟨g, c, rfl, hg, hc⟩
  · exact .inl h
  · refine .inr ⟨g, c, rfl, Nat.lt_of_lt_of_le hg hb.size, fun j x hx => ?_⟩
    obtain ⟨h1, h2, h3, h4⟩ := hc j x hx
    exact ⟨(hb.cell (p := ⟨g, _, none⟩) hg).trans h1, (hb.cell (p := ⟨g, _, none⟩) hg).trans h2, (hb.cell (p := ⟨g, _, none⟩) hg).trans h3, (hb.cell (p := ⟨g, _, none⟩) hg).trans h4⟩

def inV (x lo hi : Int) : Bool := decide (lo ≤ x) && decide (x ≤ hi)
def arcOk (N : Int) (x : ArcD) : Bool := inV x.f 0 (N - 1) && (inV x.t 0 (N - 1) && (!decide (x.f = x.t) && (inV x.r 0 20 && inV x.c 0 100)))
def netOkV (N : Int) (A : List ArcD) : Bool := inV N 2 1500 && (decide (A.length ≤ 3200) && A.all (arcOk N))
theorem inV_iff {x lo hi : Int} : inV x lo hi = true ↔ lo ≤ x ∧ x ≤ hi := by
  unfold inV
  rw [Bool.and_eq_true, decide_eq_true_eq, decide_eq_true_eq]
theorem inV_no {x lo hi : Int} (h : inV x lo hi = false) : ¬ (lo ≤ x ∧ x ≤ hi) := fun k => by rw [inV_iff.2 k] at h; cases h

section
variable {N : Int} {A : List ArcD}
theorem netOk_out (h : netOkV N A = true) : (2 ≤ N ∧ N ≤ 1500) ∧ A.length ≤ 3200 ∧ ∀ x ∈ A, arcOk N x = true := by
  unfold netOkV at h
  simp only [Bool.and_eq_true, decide_eq_true_eq, List.all_eq_true] at h
  exact ⟨inV_iff.1 h.1, h.2.1, h.2.2⟩
theorem arcOk_out {x : ArcD} (h : arcOk N x = true) : (0 ≤ x.f ∧ x.f < N) ∧ (0 ≤ x.t ∧ x.t < N) ∧ x.f ≠ x.t ∧ (0 ≤ x.r ∧ x.r ≤ 20) ∧ (0 ≤ x.c ∧ x.c ≤ 100) := by
  unfold arcOk at h
  simp only [Bool.and_eq_true, Bool.not_eq_true', decide_eq_false_iff_not, inV_iff] at h
  exact ⟨⟨h.1.1, by omega⟩, ⟨h.2.1.1, by omega⟩, h.2.2.1, h.2.2.2.1, h.2.2.2.2⟩
/-- An arc is wrong at its first fault. -/
theorem arcOk_cases (N : Int) (x : ArcD) : arcOk N x = true ∧ (inV x.f 0 (N - 1) = true ∧ inV x.t 0 (N - 1) = true ∧ x.f ≠ x.t ∧ inV x.r 0 20 = true ∧ inV x.c 0 100 = true) ∨ arcOk N x = false ∧
    (inV x.f 0 (N - 1) = false ∨ (inV x.f 0 (N - 1) = true ∧ inV x.t 0 (N - 1) = false) ∨ (inV x.f 0 (N - 1) = true ∧ inV x.t 0 (N - 1) = true ∧ x.f = x.t) ∨
      (inV x.f 0 (N - 1) = true ∧ inV x.t 0 (N - 1) = true ∧ x.f ≠ x.t ∧ inV x.r 0 20 = false) ∨ (inV x.f 0 (N - 1) = true ∧ inV x.t 0 (N - 1) = true ∧ x.f ≠ x.t ∧ inV x.r 0 20 = true ∧ inV x.c 0 100 = false)) := by
  unfold arcOk
  cases inV x.f 0 (N - 1) <;> cases inV x.t 0 (N - 1) <;> cases inV x.r 0 20 <;> cases inV x.c 0 100 <;> by_cases e : x.f = x.t <;> simp [e]
end

/-- The net in its box. -/
theorem net_cells {w w1 : World} {N : Int} {v : Value} {t : TypeId} (h : Below (w.alloc (.cells #[.int .i64 N, v] t)).heap.size (w.alloc (.cells #[.int .i64 N, v] t)) w1) :
    w1.cell? ⟨w.heap.size, 0, none⟩ = some (.int .i64 N) ∧ w1.cell? ⟨w.heap.size, 1, none⟩ = some v := by
  refine ⟨?_, ?_⟩ <;> refine (h.cell (by simp)).trans ?_ <;> rw [cell_of_row _ _ _ _ _ _ (heap_alloc_new w _)] <;> rfl
theorem below_box {w w1 : World} {o : Obj} (h : Below (w.alloc o).heap.size (w.alloc o) w1) : Below w.heap.size w w1 := ((Below.refl _ _).alloc (Nat.le_refl _) _).trans (h.mono (by simp))
theorem next_below {a b c : World} (h : Below a.heap.size a b) (k : Below b.heap.size b c) : Below a.heap.size a c := h.trans (k.mono h.size)

theorem l01In (x lo hi : Int) (b : Bool) (HB : Hid (inV x lo hi = b)) (w : World) :
    Calls Tryd.prog 47 #[.int .i64 x, .int .i64 lo, .int .i64 hi] w fun e w' => e = .returned (.bool b) ∧ w = w' := by
  by_cases h1 : lo ≤ x
  · have h1' : ¬ x < lo := by omega
    by_cases h2 : x ≤ hi
    · have e : b = true := by rw [← HB.out]; exact inV_iff.2 ⟨h1, h2⟩
      subst e
      have h2' : ¬ hi < x := by omega
      go_enter Tryd.func47, Tryd.ntmps47
      go_wp2
      go_ret
      exact ⟨rfl, rfl⟩
    · have e : b = false := by
        rw [← HB.out]
        cases h : inV x lo hi with
        | false => rfl
        | true => exact absurd (inV_iff.1 h).2 h2
      subst e
      have h2' : hi < x := by omega
      go_enter Tryd.func47, Tryd.ntmps47
      go_wp2
      go_ret
      exact ⟨rfl, rfl⟩
  · have e : b = false := by
      rw [← HB.out]
      cases h : inV x lo hi with
      | false => rfl
      | true => exact absurd (inV_iff.1 h).1 h1
    subst e
    have h1' : x < lo := by omega
    go_enter Tryd.func47, Tryd.ntmps47
    go_wp2
    go_ret
    exact ⟨rfl, rfl⟩

end Go.Proofs.YtcagaolichgogaaDoor

namespace Go.Proofs.YtcagaolichgogaaDoor
set_option maxRecDepth 4096

/-- What an arc with y units brings to the excess of node v. -/
def outAt (x : ArcD) (y : Int) (v : Nat) : Int := (if x.f = (v : Int) then y else 0) - (if x.t = (v : Int) then y else 0)
def netO : List (ArcD × Int) → Nat → Int
  | [], _ => 0
  | p :: P, v => outAt p.1 p.2 v + netO P v
def costO : List (ArcD × Int) → Int
  | [] => 0
  | p :: P => p.2 * p.1.c + costO P
def inRoom (p : ArcD × Int) : Bool := inV p.2 0 p.1.r
def stillO (P : List (ArcD × Int)) (n : Nat) : Bool := (List.range n).all fun v => decide (v < 2) || decide (netO P v = 0)
/-- A flow. -/
def flowOkV (N : Int) (A : List ArcD) (F : List Int) : Bool := netOkV N A && (decide (F.length = A.length) && ((A.zip F).all inRoom && stillO (A.zip F) N.toNat))
def flowSizeV (N : Int) (A : List ArcD) (F : List Int) : Int := if flowOkV N A F = true then netO (A.zip F) 0 else -1
def flowCostV (N : Int) (A : List ArcD) (F : List Int) : Int := if flowOkV N A F = true then costO (A.zip F) else -1
def addL (F G : List Int) : List Int := List.zipWith (· + ·) F G
def flowMoreL (N : Int) (A : List ArcD) (F G : List Int) : List Int := if flowOkV N A F = true ∧ flowOkV N A G = true ∧ flowOkV N A (addL F G) = true then addL F G else []

/-- What can be reached from node 0 over arcs with room left, and back over arcs with flow. -/
inductive Res (P : List (ArcD × Int)) : Int → Prop
  | src : Res P 0
  | fwd {p : ArcD × Int} : p ∈ P → Res P p.1.f → p.2 < p.1.r → Res P p.1.t
  | bwd {p : ArcD × Int} : p ∈ P → Res P p.1.t → 0 < p.2 → Res P p.1.f
noncomputable def resB (P : List (ArcD × Int)) (v : Nat) : Bool := @decide (Res P v) (Classical.propDecidable _)
theorem resB_iff {P : List (ArcD × Int)} {v : Nat} : resB P v = true ↔ Res P v := @decide_eq_true_iff _ (Classical.propDecidable _)
/-- The Booleans that ReachedBy hands back. -/
noncomputable def reachedB (A : List ArcD) (F : List Int) : Nat → Bool := resB (A.zip F)
noncomputable def reachedN (N : Int) (A : List ArcD) (F : List Int) : Nat := if flowOkV N A F = true then N.toNat else 0

section
variable {N : Int} {A : List ArcD} {F G : List Int}
theorem flowOk_out (h : flowOkV N A F = true) : netOkV N A = true ∧ F.length = A.length ∧ (∀ p ∈ A.zip F, 0 ≤ p.2 ∧ p.2 ≤ p.1.r) ∧ ∀ v : Nat, 2 ≤ v → (v : Int) < N → netO (A.zip F) v = 0 := by
  unfold flowOkV at h
  simp only [Bool.and_eq_true, decide_eq_true_eq, List.all_eq_true] at h
  obtain ⟨h1, h2, h3, h4⟩ := h
  refine ⟨h1, h2, fun p hp => inV_iff.1 (h3 p hp), fun v hv hn => ?_⟩
  unfold stillO at h4
  rw [List.all_eq_true] at h4
  have := h4 v (List.mem_range.2 (by omega))
  simp only [Bool.or_eq_true, decide_eq_true_eq] at this
  omega
theorem flowOk_mk (h1 : netOkV N A = true) (h2 : F.length = A.length) (h3 : ∀ p ∈ A.zip F, 0 ≤ p.2 ∧ p.2 ≤ p.1.r) (h4 : ∀ v : Nat, 2 ≤ v → (v : Int) < N → netO (A.zip F) v = 0) : flowOkV N A F = true := by
  unfold flowOkV stillO
  simp only [Bool.and_eq_true, decide_eq_true_eq, List.all_eq_true]
  refine ⟨h1, h2, fun p hp => inV_iff.2 (h3 p hp), fun v hv => ?_⟩
  have := List.mem_range.1 hv
  by_cases e : v < 2
  · simp [e]
  · simp [h4 v (by omega) (by omega)]

theorem netO_append (P Q : List (ArcD × Int)) (v : Nat) : netO (P ++ Q) v = netO P v + netO Q v := by
  induction P with
  | nil => simp [netO]
  | cons p P ih => simp only [List.cons_append, netO, ih]; omega
theorem costO_append (P Q : List (ArcD × Int)) : costO (P ++ Q) = costO P + costO Q := by
  induction P with
  | nil => simp [costO]
  | cons p P ih => simp only [List.cons_append, costO, ih]; omega
theorem netO_snoc {P : List (ArcD × Int)} {k : Nat} {p : ArcD × Int} (h : P[k]? = some p) (v : Nat) : netO (P.take (k + 1)) v = netO (P.take k) v + outAt p.1 p.2 v := by
  obtain ⟨hi, rfl⟩ := List.getElem?_eq_some_iff.1 h
  rw [List.take_succ_eq_append_getElem hi, netO_append]
  simp [netO]
theorem costO_snoc {P : List (ArcD × Int)} {k : Nat} {p : ArcD × Int} (h : P[k]? = some p) : costO (P.take (k + 1)) = costO (P.take k) + p.2 * p.1.c := by
  obtain ⟨hi, rfl⟩ := List.getElem?_eq_some_iff.1 h
  rw [List.take_succ_eq_append_getElem hi, costO_append]
  simp [costO]
theorem outAt_bound {x : ArcD} {y : Int} (h : 0 ≤ y ∧ y ≤ 20) (v : Nat) : -20 ≤ outAt x y v ∧ outAt x y v ≤ 20 := by
  unfold outAt
  split <;> split <;> omega
theorem netO_bound {P : List (ArcD × Int)} (h : ∀ p ∈ P, 0 ≤ p.2 ∧ p.2 ≤ 20) (v : Nat) : -20 * (P.length : Int) ≤ netO P v ∧ netO P v ≤ 20 * (P.length : Int) := by
  induction P with
  | nil => simp [netO]
  | cons p P ih =>
    have h1 := outAt_bound (x := p.1) (h p (List.mem_cons_self ..)) v
    have h2 := ih fun q hq => h q (List.mem_cons_of_mem _ hq)
    simp only [netO, List.length_cons]
    omega
theorem zip_at {k : Nat} {x : ArcD} {y : Int} (hx : A[k]? = some x) (hy : F[k]? = some y) : (A.zip F)[k]? = some (x, y) := by
  rw [List.getElem?_zip_eq_some]
  exact ⟨hx, hy⟩
theorem zip_in {p : ArcD × Int} (h : p ∈ A.zip F) : ∃ k : Nat, A[k]? = some p.1 ∧ F[k]? = some p.2 := by
  obtain ⟨k, hk, rfl⟩ := List.getElem_of_mem h
  refine ⟨k, ?_⟩
  have : (A.zip F)[k]? = some (A.zip F)[k] := List.getElem?_eq_getElem hk
  rw [List.getElem?_zip_eq_some] at this
  exact this
theorem zip_arc {p : ArcD × Int} (h : p ∈ A.zip F) : p.1 ∈ A := by
  obtain ⟨k, h1, _⟩ := zip_in h
  exact List.mem_of_getElem? h1

/-! ### sums of flows -/
theorem addL_at {k : Nat} {x y : Int} (hx : F[k]? = some x) (hy : G[k]? = some y) : (addL F G)[k]? = some (x + y) := by
  unfold addL
  rw [List.getElem?_zipWith, hx, hy]
theorem addL_len (h1 : F.length = A.length) (h2 : G.length = A.length) : (addL F G).length = A.length := by
  unfold addL
  rw [List.length_zipWith]
  omega
theorem netO_add : ∀ {A : List ArcD} {F G : List Int}, F.length = A.length → G.length = A.length → ∀ v, netO (A.zip (addL F G)) v = netO (A.zip F) v + netO (A.zip G) v
  | [], _, _, _, _, _ => by simp [netO]
  | x :: A, a :: F, b :: G, h1, h2, v => by
    have ih := netO_add (A := A) (F := F) (G := G) (by simpa using h1) (by simpa using h2) v
    unfold addL at ih ⊢
    simp only [List.zipWith_cons_cons, List.zip_cons_cons, netO, ih, outAt]
    split <;> split <;> omega
  | _ :: _, [], _, h1, _, _ => by simp at h1
  | _ :: _, _ :: _, [], _, h2, _ => by simp at h2
theorem costO_add : ∀ {A : List ArcD} {F G : List Int}, F.length = A.length → G.length = A.length → costO (A.zip (addL F G)) = costO (A.zip F) + costO (A.zip G)
  | [], _, _, _, _ => by simp [costO]
  | x :: A, a :: F, b :: G, h1, h2 => by
    have ih := costO_add (A := A) (F := F) (G := G) (by simpa using h1) (by simpa using h2)
    unfold addL at ih ⊢
    simp only [List.zipWith_cons_cons, List.zip_cons_cons, costO, ih, Int.add_mul]
    omega
  | _ :: _, [], _, h1, _ => by simp at h1
  | _ :: _, _ :: _, [], _, h2 => by simp at h2

/-! ### what can be reached -/
theorem res_in (hn : netOkV N A = true) {v : Int} (h : Res (A.zip F) v) : 0 ≤ v ∧ v < N := by
  obtain ⟨hN, _, hA⟩ := netOk_out hn
  induction h with
  | src => omega
  | fwd hp _ _ _ => exact (arcOk_out (hA _ (zip_arc hp))).2.1
  | bwd hp _ _ _ => exact (arcOk_out (hA _ (zip_arc hp))).1
/-- A set that holds node 0, holds only what can be reached, and is closed, is what can be reached. -/
theorem res_is {P : List (ArcD × Int)} {S : Int → Prop} (h0 : S 0) (hS : ∀ v, S v → Res P v) (h1 : ∀ p ∈ P, S p.1.f → p.2 < p.1.r → S p.1.t) (h2 : ∀ p ∈ P, S p.1.t → 0 < p.2 → S p.1.f) (v : Int) : S v ↔ Res P v := by
  refine ⟨hS v, fun h => ?_⟩
  induction h with
  | src => exact h0
  | fwd hp _ hr ih => exact h1 _ hp ih hr
  | bwd hp _ hr ih => exact h2 _ hp ih hr
end

end Go.Proofs.YtcagaolichgogaaDoor

