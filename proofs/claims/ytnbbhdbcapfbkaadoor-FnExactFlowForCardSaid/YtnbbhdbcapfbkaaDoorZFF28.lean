/-
  CONTRACT of the program's joinPair. No law is proved here.
  CONTRACT of the program's joinTime. No law is proved here.
-/
import Derived.Test.YtnbbhdbcapfbkaaDoorZFF27
import Derived.Deep.RegionWith
import Derived.Deep.RegionHeld3
import Derived.Deep.RegionLaw
import Derived.Deep.DeepCutAuto
import Derived.Deep.CutRange
namespace Go.Proofs.YtnbbhdbcapfbkaaDoor
set_option maxRecDepth 4096
open Go.ChangeShapes Go.WideShapes Go.ChangeAt Go.RowKit

/-- A pair's arcs at time t, p its first node. -/
def fiveX (F t p a b : Nat) : List ArcD := [⟨(inN F a t + 1 : Nat), (p : Nat), 1, 0⟩, ⟨(inN F b t + 1 : Nat), (p : Nat), 1, 0⟩, ⟨(p : Nat), (p + 1 : Nat), 1, 1⟩, ⟨(p + 1 : Nat), (inN F a (t + 1) : Nat), 1, 0⟩, ⟨(p + 1 : Nat), (inN F b (t + 1) : Nat), 1, 0⟩]
theorem num3 (F P T t i : Nat) : numV 3 F P T t i = numV 2 F P T t i + 1 := by unfold numV; rw [if_neg (by omega), if_neg (by omega)]
theorem num2 (F P T t i : Nat) : numV 2 F P T t i = 3 + 2 * F * (T + 1) + 2 * t * P + 2 * i := by
  unfold numV
  rw [if_neg (by omega), Nat.mul_add, Nat.mul_assoc, Nat.mul_assoc, Nat.mul_comm (T + 1) F]
  omega

theorem pair_held {w : World} {B k F P T : Nat} {vn vp va : Value} {A : List ArcD} {g c i a b : Nat} {L : List (Nat × Nat)} (h : EX B k F P T vn vp va A w) (hp : PairsAt B w (.slice (some ⟨g, 0, none⟩) L.length c) L) (hi : L[i]? = some (a, b)) :
    ∀ w', Below w.heap.size w w' → w'.cell? ⟨k, 0, none⟩ = some (.int .i64 F) ∧ w'.cell? ⟨k, 1, none⟩ = some (.int .i64 P) ∧ w'.cell? ⟨k, 2, none⟩ = some (.int .i64 T) ∧ w'.cell? ⟨k, 4, none⟩ = some vp ∧ w'.cell? ⟨g, i * 2, none⟩ = some (.int .i64 a) ∧ w'.cell? ⟨g, i * 2 + 1, none⟩ = some (.int .i64 b) := by
  intro w' hb
  obtain ⟨c0, c1, c2, c3, c4, c5⟩ := (h.call hb).cells
  obtain ⟨d0, d1⟩ := hp.cells hi
  have hg : g < w.heap.size := (World.ownsRow.lt hp g rfl).2
  exact ⟨c0, c1, c2, c4, (hb.cell (p := ⟨g, i * 2, none⟩) hg).trans d0, (hb.cell (p := ⟨g, i * 2 + 1, none⟩) hg).trans d1⟩

theorem two_row {w : World} {g : Nat} {x y : Value} {t : TypeId} (h : w.heap[g]? = some (.cells #[x, y] t (0, 0))) : w.cell? ⟨g, 0, none⟩ = some x ∧ w.cell? ⟨g, 1, none⟩ = some y ∧ w.frozen? ⟨g, 0, none⟩ = false ∧ w.frozen? ⟨g, 1, none⟩ = false :=
  ⟨by rw [cell_of_row _ _ _ _ _ _ h]; rfl, by rw [cell_of_row _ _ _ _ _ _ h]; rfl, frozen_of_row _ _ 0 _ _ h, frozen_of_row _ _ 1 _ _ h⟩

section
variable {w w1 w2 : World} {k g i : Nat} {x0 x1 x2 x4 y0 y1 : Value}
def PairCells (w : World) (k g i : Nat) (x0 x1 x2 x4 y0 y1 : Value) : Prop := ∀ w', Below w.heap.size w w' → w'.cell? ⟨k, 0, none⟩ = some x0 ∧ w'.cell? ⟨k, 1, none⟩ = some x1 ∧ w'.cell? ⟨k, 2, none⟩ = some x2 ∧ w'.cell? ⟨k, 4, none⟩ = some x4 ∧ w'.cell? ⟨g, i * 2, none⟩ = some y0 ∧ w'.cell? ⟨g, i * 2 + 1, none⟩ = some y1
theorem ph_of (HC : Hid (PairCells w k g i x0 x1 x2 x4 y0 y1)) (hb : Below w.heap.size w w1) :
    w1.cell? ⟨k, 0, none⟩ = some x0 ∧ w1.cell? ⟨k, 1, none⟩ = some x1 ∧ w1.cell? ⟨k, 2, none⟩ = some x2 ∧ w1.cell? ⟨k, 4, none⟩ = some x4 ∧ w1.cell? ⟨g, i * 2, none⟩ = some y0 ∧ w1.cell? ⟨g, i * 2 + 1, none⟩ = some y1 ∧ Below w.heap.size w w1 := by
  obtain ⟨h0, h1, h2, h3, h4, h5⟩ := HC.out _ hb
  exact ⟨h0, h1, h2, h3, h4, h5, hb⟩
theorem ph_alloc (HC : Hid (PairCells w k g i x0 x1 x2 x4 y0 y1)) (hb : Below w.heap.size w w1) (o : Obj) :
    (w1.alloc o).cell? ⟨k, 0, none⟩ = some x0 ∧ (w1.alloc o).cell? ⟨k, 1, none⟩ = some x1 ∧ (w1.alloc o).cell? ⟨k, 2, none⟩ = some x2 ∧ (w1.alloc o).cell? ⟨k, 4, none⟩ = some x4 ∧ (w1.alloc o).cell? ⟨g, i * 2, none⟩ = some y0 ∧ (w1.alloc o).cell? ⟨g, i * 2 + 1, none⟩ = some y1 ∧ Below w.heap.size w (w1.alloc o) := ph_of HC (hb.alloc hb.size o)
theorem ph_store (HC : Hid (PairCells w k g i x0 x1 x2 x4 y0 y1)) (hb : Below w.heap.size w w1) {g8 : Nat} (h8 : w.heap.size ≤ g8) (u v : Value) :
    ((w1.setCell ⟨g8, 0, none⟩ u).setCell ⟨g8, 1, none⟩ v).cell? ⟨k, 0, none⟩ = some x0 ∧ ((w1.setCell ⟨g8, 0, none⟩ u).setCell ⟨g8, 1, none⟩ v).cell? ⟨k, 1, none⟩ = some x1 ∧ ((w1.setCell ⟨g8, 0, none⟩ u).setCell ⟨g8, 1, none⟩ v).cell? ⟨k, 2, none⟩ = some x2 ∧ ((w1.setCell ⟨g8, 0, none⟩ u).setCell ⟨g8, 1, none⟩ v).cell? ⟨k, 4, none⟩ = some x4 ∧ ((w1.setCell ⟨g8, 0, none⟩ u).setCell ⟨g8, 1, none⟩ v).cell? ⟨g, i * 2, none⟩ = some y0 ∧ ((w1.setCell ⟨g8, 0, none⟩ u).setCell ⟨g8, 1, none⟩ v).cell? ⟨g, i * 2 + 1, none⟩ = some y1 ∧ Below w.heap.size w ((w1.setCell ⟨g8, 0, none⟩ u).setCell ⟨g8, 1, none⟩ v) := ph_of HC ((hb.setCell h8 _).setCell h8 _)
theorem ph_chain (hb : Below w.heap.size w w1) (h : Below w1.heap.size w1 w2) : Below w.heap.size w w2 := hb.trans (h.mono hb.size)
theorem q_alloc (h : Below (w.alloc (.cells #[.int .i64 0, .int .i64 0] 84)).drew.heap.size (w.alloc (.cells #[.int .i64 0, .int .i64 0] 84)).drew w1) : ∀ w6, Below w1.heap.size w1 w6 → w6.heap[w.heap.size]? = some (.cells #[.int .i64 0, .int .i64 0] 84 (0, 0)) := fun w6 h6 => by
  have h1 : w1.heap[w.heap.size]? = some (.cells #[.int .i64 0, .int .i64 0] 84) := (h.block _ (by simp)).trans (heap_alloc_new w _)
  exact (h6.block _ (Array.getElem?_eq_some_iff.1 h1).1).trans h1
theorem q_none (w1 : World) : ∀ w6, Below w1.heap.size w1 w6 → (w6.alloc (.cells #[.int .i64 0, .int .i64 0] 84)).heap[w6.heap.size]? = some (.cells #[.int .i64 0, .int .i64 0] 84 (0, 0)) := fun w6 _ => heap_alloc_new w6 _
theorem two_set {g8 : Nat} {x y x' y' : Value} {t : TypeId} (h : w.heap[g8]? = some (.cells #[x, y] t (0, 0))) : ((w.setCell ⟨g8, 0, none⟩ x').setCell ⟨g8, 1, none⟩ y').heap[g8]? = some (.cells #[x', y'] t (0, 0)) :=
  heap_setCell_same _ _ 1 _ _ y' (heap_setCell_same w _ 0 _ _ x' h)
theorem newAt {o : Obj} (h : Below (w.alloc o).heap.size (w.alloc o) w1) : w1.heap[w.heap.size]? = some o := (h.block _ (by simp)).trans (heap_alloc_new w o)
end

set_option maxHeartbeats 4000000 in
theorem implJoinPair {B k F P T : Nat} {g cp : Nat} {vn va : Value} {A : List ArcD} {L : List (Nat × Nat)} (t i a b : Nat) (hF : F ≤ 1000) (hP : P ≤ 1000) (hT : T ≤ 500) (ht : t < T) (hi : L[i]? = some (a, b)) (hLP : L.length = P) (ha : a < F) (hbF : b < F) (hA : A.length ≤ 1000000) (w : World)
    (h : EX B k F P T vn (.slice (some ⟨g, 0, none⟩) P cp) va A w) (hp : PairsAt B w (.slice (some ⟨g, 0, none⟩) P cp) L) :
    Calls Tryd.prog 64 #[.pointer (some ⟨k, 0, none⟩), .int .i64 t, .int .i64 i] w (JoinedX B k F P T vn (.slice (some ⟨g, 0, none⟩) P cp) (A ++ fiveX F t (numV 2 F P T t i) a b) w) := by
  have hiP : i < P := by rw [← hLP]; exact (List.getElem?_eq_some_iff.1 hi).1
  obtain ⟨p, hpp⟩ : ∃ p, numV 2 F P T t i = p := ⟨_, rfl⟩
  have HP2 : Hid ((numV 2 F P T t i : Nat) = (p : Int)) := Lib.hid (by rw [hpp])
  have HP3 : Hid ((numV 3 F P T t i : Nat) = (p : Int) + 1) := Lib.hid (by rw [num3, hpp]; rfl)
  rw [hpp]
  have HC : Hid (PairCells w k g i (.int .i64 F) (.int .i64 P) (.int .i64 T) (.slice (some ⟨g, 0, none⟩) P cp) (.int .i64 a) (.int .i64 b)) := Lib.hid (pair_held h (by rw [hLP]; exact hp) hi)
  have hS0 := ph_of HC (Below.refl w.heap.size w).drew
  have hi2 : (i : Int) < (P : Int) := by omega
  have ht5 : t ≤ 1000 := by omega
  have hi5 : i ≤ 1000 := by omega
  have HE := Lib.hid h
  clear h hpp
  go_enter Tryd.func64, Tryd.ntmps64
  go_upto_region 0 with fail
  go_cut [6, 7, 8] from 13 to 27 (fun x6 x7 x8 wx => ∃ g8, x6 = .int .i64 p ∧ x7 = .int .i64 ((p : Int) + 1) ∧ x8 = .pointer (some ⟨g8, 0, none⟩) ∧ wx.heap[g8]? = some (.cells #[.int .i64 a, .int .i64 b] 84 (0, 0)) ∧ Below w.heap.size w wx)
  case first =>
    go_region_held3 (fun w' => w'.cell? ⟨k, 0, none⟩ = some (.int .i64 F) ∧ w'.cell? ⟨k, 1, none⟩ = some (.int .i64 P) ∧ w'.cell? ⟨k, 2, none⟩ = some (.int .i64 T) ∧ w'.cell? ⟨k, 4, none⟩ = some (.slice (some ⟨g, 0, none⟩) P cp) ∧ w'.cell? ⟨g, i * 2, none⟩ = some (.int .i64 a) ∧ w'.cell? ⟨g, i * 2 + 1, none⟩ = some (.int .i64 b) ∧ Below w.heap.size w w')
      (first | exact hS0 | exact hS | (go_split_ands; exact ph_alloc HC (by assumption) _) | (go_split_ands; exact ph_store HC (by assumption) (by first | omega | (have := Below.size hB5; omega) | (have := Below.size hB6; omega)) _ _) | go_keep)
      (first
        | (go_at_call 45; (try go_split_ands); (with_reducible refine (implNode2 t i _ hF hP hT ht5 hi5 HP2 (w.alloc (.cells #[.int .i64 0, .int .i64 0] 84)).drew (by assumption) (by assumption) (by assumption)).mono ?_); rintro e w5 ⟨rfl, hb5⟩; have hB5 := ph_chain (by assumption) hb5; have HQ := Lib.hid (q_alloc hb5); have hS := ph_of HC hB5; clear hb5)
        | (go_at_call 45; (try go_split_ands); (with_reducible refine (implNode2 t i _ hF hP hT ht5 hi5 HP2 w.drew (by assumption) (by assumption) (by assumption)).mono ?_); rintro e w5 ⟨rfl, hb5⟩; have hB5 := ph_chain (by assumption) hb5; have HQ := Lib.hid (q_none w5); have hS := ph_of HC hB5; clear hb5)
        | (go_at_call 45; (try go_split_ands); (with_reducible refine (implNode3 t i _ hF hP hT ht5 hi5 HP3 (w5.alloc (.cells #[.int .i64 0, .int .i64 0] 84)) (by assumption) (by assumption) (by assumption)).mono ?_); rintro e w6 ⟨rfl, hb6⟩; have hB6 := ph_chain (by assumption) hb6; have hS := ph_of HC hB6; have h8 := newAt hb6; obtain ⟨e0, e1, f0, f1⟩ := two_row h8; clear hb6)
        | (go_at_call 45; (try go_split_ands); (with_reducible refine (implNode3 t i _ hF hP hT ht5 hi5 HP3 w5 (by assumption) (by assumption) (by assumption)).mono ?_); rintro e w6 ⟨rfl, hb6⟩; have hB6 := ph_chain (by assumption) hb6; have hS := ph_of HC hB6; have h8 := HQ.out _ hb6; obtain ⟨e0, e1, f0, f1⟩ := two_row h8; clear hb6))
    all_goals
      have H8 := Lib.hid h8
      clear h8
      go_wp2_with fail
      go_meet
      first
        | exact ⟨_, rfl, rfl, rfl, heap_alloc_new w6 _, hB6.alloc hB6.size _⟩
        | exact ⟨_, rfl, rfl, rfl, two_set H8.out, (hB6.setCell hB5.size _).setCell hB5.size _⟩
        | exact ⟨_, rfl, rfl, rfl, two_set H8.out, (hB6.setCell (Nat.le_refl _) _).setCell (Nat.le_refl _) _⟩
  case rest =>
    clear hS0
    obtain ⟨g8, rfl, rfl, rfl, h8, hB0⟩ := hcut
    have hE0 := HE.out.call hB0
    have hK0 := TK.below hB0
    have hBB := hB0.mono (B' := B) (by have := HE.out.lo; have := HE.out.lt; omega)
    obtain ⟨z1, hz1⟩ : ∃ z1, z1 = inN F a t := ⟨_, rfl⟩
    obtain ⟨z2, hz2⟩ : ∃ z2, z2 = inN F b t := ⟨_, rfl⟩
    obtain ⟨y1, hy1⟩ : ∃ y1, y1 = inN F a (t + 1) := ⟨_, rfl⟩
    obtain ⟨y2, hy2⟩ : ∃ y2, y2 = inN F b (t + 1) := ⟨_, rfl⟩
    have HZ1 : Hid ((numV 1 F P T t a : Nat) = (z1 : Int) + 1) := Lib.hid (by rw [num1, hz1]; rfl)
    have HZ2 : Hid ((numV 1 F P T t b : Nat) = (z2 : Int) + 1) := Lib.hid (by rw [num1, hz2]; rfl)
    have HY1 : Hid ((numV 0 F P T (t + 1) a : Nat) = (y1 : Int)) := Lib.hid (by rw [num0, hy1])
    have HY2 : Hid ((numV 0 F P T (t + 1) b : Nat) = (y2 : Int)) := Lib.hid (by rw [num0, hy2])
    have HFV : Hid (fiveX F t p a b = [⟨(z1 : Int) + 1, (p : Int), 1, 0⟩, ⟨(z2 : Int) + 1, (p : Int), 1, 0⟩, ⟨(p : Int), (p : Int) + 1, 1, 1⟩, ⟨(p : Int) + 1, (y1 : Int), 1, 0⟩, ⟨(p : Int) + 1, (y2 : Int), 1, 0⟩]) := Lib.hid (by rw [hz1, hz2, hy1, hy2]; rfl)
    have hw1 : IntKind.i64.wrap ((t : Int) + 1) = (t : Int) + 1 := IntWalk.i64_in _ (by omega)
    have ht6 : t + 1 ≤ 1000 := by omega
    have hx0 : ∀ w, (Instr.index 84 (.agg #[.int .i64 (a : Int), .int .i64 (b : Int)]) (.int .i64 0)).run Tryd.prog w = .ok (.int .i64 (a : Int)) w := fun w => by kernel_rfl
    have hx1 : ∀ w, (Instr.index 84 (.agg #[.int .i64 (a : Int), .int .i64 (b : Int)]) (.int .i64 1)).run Tryd.prog w = .ok (.int .i64 (b : Int)) w := fun w => by kernel_rfl
    have ha5 : a ≤ 1000 := by omega
    have hb5 : b ≤ 1000 := by omega
    obtain ⟨e0, e1, _, _⟩ := two_row h8
    have HE0 := Lib.hid hE0
    have H8 := Lib.hid h8
    have HK0 := Lib.hid hK0
    have HBB := Lib.hid hBB
    clear hz1 hz2 hy1 hy2 hE0 h8 hK0 hBB hB0 HC
    go_wp2_with fail
    go_loopw [29] (fun jv wr => ∃ (j : Nat) (va : Value), jv = .int .i64 j ∧ j ≤ 2 ∧ EX B k F P T vn (.slice (some ⟨g, 0, none⟩) P cp) va (A ++ ([⟨(z1 : Int) + 1, (p : Int), 1, 0⟩, ⟨(z2 : Int) + 1, (p : Int), 1, 0⟩] : List ArcD).take j) wr ∧ wr.heap[g8]? = some (.cells #[.int .i64 a, .int .i64 b] 84 (0, 0)) ∧ Below B w wr ∧ TK w wr) (fun jv _ => 2 - (intOf jv).toNat)
    case atStart => exact ⟨0, va, rfl, by omega, by simpa using HE0.out, H8.out, HBB.out, HK0.out⟩
    case round =>
      clear HE0 H8 HK0 HBB e0 e1
      obtain ⟨j, va1, rfl, hj, hE, h8, hBB, hK⟩ := hrel
      have hs := hE.lt
      have HE := Lib.hid hE
      have H8 := Lib.hid h8
      obtain ⟨c0, c1, c2, c3, c4, c5⟩ := hE.cells
      obtain ⟨e0, e1, _, _⟩ := two_row h8
      clear hE h8
      rcases (by omega : j = 0 ∨ j = 1 ∨ j = 2) with rfl | rfl | rfl
      · go_wp2_with fail
        refine (implNode1 t a _ hF hP hT ht5 ha5 HZ1 _ c0 c1 c2).mono ?_
        rintro e w6 ⟨rfl, hb6⟩
        have hE6 := HE.out.call hb6
        have h86 := (hb6.block _ (Array.getElem?_eq_some_iff.1 H8.out).1).trans H8.out
        have hk6 := hK.trans (TK.below hb6)
        have hB6 := hBB.trans (hb6.mono (B' := B) (by have := HE.out.lo; have := HE.out.lt; omega))
        have HE6 := Lib.hid hE6
        clear hb6 c0 c1 c2 c3 c4 c5 HE hE6 hK hBB e0 e1 H8
        go_wp2_with fail
        refine (implJoinX _ _ _ (by simp; omega) _ HE6.out).mono ?_
        rintro e w7 ⟨rfl, ⟨va7, hE7⟩, hb7, hk7⟩
        have h87 := hk7.block _ _ _ _ h86 (by decide) (by decide)
        replace hk7 := hk6.trans hk7
        replace hb7 := hB6.trans hb7
        have HE7 := Lib.hid hE7
        clear hE7 HE6 hk6 hB6 h86
        go_wp2_with fail
        go_roundw
        case rel => exact ⟨1, va7, rfl, by omega, by simpa using HE7.out, h87, hb7, hk7⟩
        case measure => simp [intOf]
      · go_wp2_with fail
        refine (implNode1 t b _ hF hP hT ht5 hb5 HZ2 _ c0 c1 c2).mono ?_
        rintro e w6 ⟨rfl, hb6⟩
        have hE6 := HE.out.call hb6
        have h86 := (hb6.block _ (Array.getElem?_eq_some_iff.1 H8.out).1).trans H8.out
        have hk6 := hK.trans (TK.below hb6)
        have hB6 := hBB.trans (hb6.mono (B' := B) (by have := HE.out.lo; have := HE.out.lt; omega))
        have HE6 := Lib.hid hE6
        clear hb6 c0 c1 c2 c3 c4 c5 HE hE6 hK hBB e0 e1 H8
        go_wp2_with fail
        refine (implJoinX _ _ _ (by simp; omega) _ HE6.out).mono ?_
        rintro e w7 ⟨rfl, ⟨va7, hE7⟩, hb7, hk7⟩
        have h87 := hk7.block _ _ _ _ h86 (by decide) (by decide)
        replace hk7 := hk6.trans hk7
        replace hb7 := hB6.trans hb7
        have HE7 := Lib.hid hE7
        clear hE7 HE6 hk6 hB6 h86
        go_wp2_with fail
        go_roundw
        case rel => exact ⟨2, va7, rfl, by omega, by simpa using HE7.out, h87, hb7, hk7⟩
        case measure => simp [intOf]
      · clear c0 c1 c2 c3 c4 c5
        go_wp2_with fail
        refine (implJoinX _ _ _ (by simp; omega) _ HE.out).mono ?_
        rintro e w7 ⟨rfl, ⟨va7, hE7⟩, hb7, hk7⟩
        have h87 := hk7.block _ _ _ _ H8.out (by decide) (by decide)
        replace hk7 := hK.trans hk7
        replace hb7 := hBB.trans hb7
        obtain ⟨e0, e1, _, _⟩ := two_row h87
        have HE7 := Lib.hid hE7
        have H87 := Lib.hid h87
        have HK7 := Lib.hid hk7
        have HB7 := Lib.hid hb7
        clear hE7 HE hK hBB H8 h87 hk7 hb7
        go_wp2_with fail
        go_loopw [45] (fun jv wr => ∃ (j : Nat) (va : Value), jv = .int .i64 j ∧ j ≤ 2 ∧ EX B k F P T vn (.slice (some ⟨g, 0, none⟩) P cp) va (A ++ ([⟨(z1 : Int) + 1, (p : Int), 1, 0⟩, ⟨(z2 : Int) + 1, (p : Int), 1, 0⟩, ⟨(p : Int), (p : Int) + 1, 1, 1⟩] : List ArcD) ++ ([⟨(p : Int) + 1, (y1 : Int), 1, 0⟩, ⟨(p : Int) + 1, (y2 : Int), 1, 0⟩] : List ArcD).take j) wr ∧ Below B w wr ∧ TK w wr) (fun jv _ => 2 - (intOf jv).toNat)
        case atStart => exact ⟨0, va7, rfl, by omega, by simpa using HE7.out, HB7.out, HK7.out⟩
        case round =>
          clear HE7 H87 HK7 HB7 e0 e1
          obtain ⟨j, va1, rfl, hj, hE, hBB, hK⟩ := hrel
          have HE := Lib.hid hE
          obtain ⟨c0, c1, c2, c3, c4, c5⟩ := hE.cells
          clear hE
          rcases (by omega : j = 0 ∨ j = 1 ∨ j = 2) with rfl | rfl | rfl
          · go_wp2_with fail
            refine (implNode0s t a _ hF hP hT ht6 ha5 HY1 _ c0 c1 c2).mono ?_
            rintro e w8 ⟨rfl, hb8⟩
            have hE8 := HE.out.call hb8
            have hk8 := hK.trans (TK.below hb8)
            have hB8 := hBB.trans (hb8.mono (B' := B) (by have := HE.out.lo; have := HE.out.lt; omega))
            have HE8 := Lib.hid hE8
            clear hb8 c0 c1 c2 c3 c4 c5 HE hE8 hK hBB
            go_wp2_with fail
            refine (implJoinX _ _ _ (by simp; omega) _ HE8.out).mono ?_
            rintro e w9 ⟨rfl, ⟨va9, hE9⟩, hb9, hk9⟩
            replace hk9 := hk8.trans hk9
            replace hb9 := hB8.trans hb9
            have HE9 := Lib.hid hE9
            clear hE9 HE8 hk8 hB8
            go_wp2_with fail
            go_roundw
            case rel => exact ⟨1, va9, rfl, by omega, by simpa using HE9.out, hb9, hk9⟩
            case measure => simp [intOf]
          · go_wp2_with fail
            refine (implNode0s t b _ hF hP hT ht6 hb5 HY2 _ c0 c1 c2).mono ?_
            rintro e w8 ⟨rfl, hb8⟩
            have hE8 := HE.out.call hb8
            have hk8 := hK.trans (TK.below hb8)
            have hB8 := hBB.trans (hb8.mono (B' := B) (by have := HE.out.lo; have := HE.out.lt; omega))
            have HE8 := Lib.hid hE8
            clear hb8 c0 c1 c2 c3 c4 c5 HE hE8 hK hBB
            go_wp2_with fail
            refine (implJoinX _ _ _ (by simp; omega) _ HE8.out).mono ?_
            rintro e w9 ⟨rfl, ⟨va9, hE9⟩, hb9, hk9⟩
            replace hk9 := hk8.trans hk9
            replace hb9 := hB8.trans hb9
            have HE9 := Lib.hid hE9
            clear hE9 HE8 hk8 hB8
            go_wp2_with fail
            go_roundw
            case rel => exact ⟨2, va9, rfl, by omega, by simpa using HE9.out, hb9, hk9⟩
            case measure => simp [intOf]
          · clear c0 c1 c2 c3 c4 c5
            go_wp2_with fail
            refine bodyPost_end (v := .tuple #[]) (by simp [results]) rfl ?_
            refine ⟨rfl, ⟨va1, ?_⟩, hBB, hK⟩
            rw [HFV.out]
            simpa using HE.out

end Go.Proofs.YtnbbhdbcapfbkaaDoor

namespace Go.Proofs.YtnbbhdbcapfbkaaDoor
set_option maxRecDepth 4096
open Go.ChangeShapes Go.WideShapes Go.ChangeAt Go.RowKit

theorem flatX_len {f : Nat → List ArcD} {c : Nat} (h : ∀ i, (f i).length ≤ c) : ∀ n, ((List.range n).flatMap f).length ≤ c * n
  | 0 => by simp
  | n + 1 => by
    have := flatX_len h n
    have := h n
    rw [List.range_succ, List.flatMap_append, List.length_append]
    simp only [List.flatMap_cons, List.flatMap_nil, List.append_nil, Nat.mul_add]
    omega
theorem flatX_snoc (f : Nat → List ArcD) (n : Nat) : (List.range (n + 1)).flatMap f = (List.range n).flatMap f ++ f n := by
  rw [List.range_succ, List.flatMap_append]
  simp
theorem cellX_len {F T t i : Nat} {nx : Nat → List Nat} (h : (nx i).length ≤ 4) : (cellX F nx T t i).length ≤ 6 := by
  unfold cellX
  split <;> simp <;> omega
theorem five_is (m : MapD) (t p a b : Nat) : fiveX m.F t p a b = fiveA m t p a b := rfl

set_option maxHeartbeats 2000000 in
theorem implJoinTime {B k P T : Nat} {G : Nat} {va : Value} {A : List ArcD} {m : MapD} {nx : Nat → List Nat} {Sx : Nat → Value} {L : List (Nat × Nat)} (t : Nat) (hF : m.F ≤ 64) (hP : P ≤ 300) (hT : T ≤ 20) (ht : t ≤ T) (hLP : L.length = P) (hLF : ∀ q ∈ L, q.1 < m.F ∧ q.2 < m.F) (hA : A.length ≤ 500000) (hN : ∀ i, (nx i).length ≤ 4) (hNF : ∀ i, i < m.F → ∀ j ∈ nx i, j < m.F) (w : World) (vp : Value) (hvp : ∃ a c, vp = .slice a P c)
    (h : EX B k m.F P T (.slice (some ⟨G, 0, none⟩) m.F m.F) vp va A w) (hx : NX B w G m.F nx Sx) (hp : PairsAt B w vp L) :
    Calls Tryd.prog 42 #[.pointer (some ⟨k, 0, none⟩), .int .i64 t] w (JoinedX B k m.F P T (.slice (some ⟨G, 0, none⟩) m.F m.F) vp (A ++ (List.range m.F).flatMap (cellX m.F nx T t) ++ (if t = T then [] else pairA m t (numV 2 m.F P T t 0) L)) w) := by
  obtain ⟨F, hFF⟩ : ∃ F, m.F = F := ⟨_, rfl⟩
  obtain ⟨Q, HQ⟩ : ∃ Q : List ArcD, Hid ((if t = T then [] else pairA m t (numV 2 m.F P T t 0) L) = Q) := ⟨_, rfl⟩
  rw [HQ.out]
  have HFM := Lib.hid hFF
  rw [hFF] at hF hLF hNF h hx ⊢
  have hcl := fun i => cellX_len (F := F) (T := T) (t := t) (hN i)
  have HCL := Lib.hid hcl
  have HNF := Lib.hid hNF
  have HN := Lib.hid hN
  have HLF := Lib.hid hLF
  have HVP := Lib.hid hvp
  have HX := Lib.hid hx
  have HP := Lib.hid hp
  have HE := Lib.hid h
  obtain ⟨c0, c1, c2, c3, c4, c5⟩ := h.cells
  clear h hx hp hNF hN hcl hLF hvp hFF
  go_enter Tryd.func42, Tryd.ntmps42
  go_wp2_with fail
  go_loopw [11] (fun jv wr => ∃ (i : Nat) (va : Value), jv = .int .i64 i ∧ i ≤ F ∧ EX B k F P T (.slice (some ⟨G, 0, none⟩) F F) vp va (A ++ (List.range i).flatMap (cellX F nx T t)) wr ∧ Below B w wr ∧ TK w wr) (fun jv _ => F - (intOf jv).toNat)
  case atStart => exact ⟨0, va, rfl, Nat.zero_le _, by simpa using HE.out, Below.refl _ _, TK.refl _⟩
  case round =>
    clear c0 c1 c2 c3 c4 c5 HE
    obtain ⟨i, va1, rfl, hi, hE, hB, hK⟩ := hrel
    by_cases hlt : i < F
    · have hi2 : (i : Int) < (F : Int) := by omega
      have hl := flatX_len HCL.out i
      have HS : Hid ((List.range (i + 1)).flatMap (cellX F nx T t) = (List.range i).flatMap (cellX F nx T t) ++ cellX F nx T t i) := Lib.hid (flatX_snoc _ _)
      have HE := Lib.hid hE
      clear hE
      generalize (List.range i).flatMap (cellX F nx T t) = Y at HE hl HS
      go_wp2_with fail
      refine (implJoinCell t i (by omega) (by omega) (by omega) ht hlt (by rw [List.length_append]; omega) (by have := HN.out i; omega) (HNF.out i hlt) _ HE.out (HX.out.tk hK)).mono ?_
      rintro e w2 ⟨rfl, ⟨va2, hE2⟩, hB2, hK2⟩
      replace hB2 := hB.trans hB2
      replace hK2 := hK.trans hK2
      have HE2 := Lib.hid hE2
      clear HE hE2 hB hK
      go_wp2_with fail
      go_roundw
      case rel => exact ⟨i + 1, va2, by go_num, by omega, by rw [HS.out, ← List.append_assoc]; exact HE2.out, hB2, hK2⟩
      case measure => simp [intOf]; omega
    · obtain rfl : i = F := by omega
      have hl := flatX_len HCL.out i
      obtain ⟨c0, c1, c2, c3, c4, c5⟩ := hE.cells
      obtain ⟨A1, HA1⟩ : ∃ A1 : List ArcD, Hid (A ++ (List.range i).flatMap (cellX i nx T t) = A1) := ⟨_, rfl⟩
      have hl1 : A1.length ≤ 500400 := by rw [← HA1.out, List.length_append]; omega
      rw [HA1.out] at hE
      have HE := Lib.hid hE
      clear hE
      by_cases htT : t = T
      · have htT2 : ((t : Int) == (T : Int)) = true := by simp [htT]
        have HQ0 : Hid (Q = []) := Lib.hid (by rw [← HQ.out, if_pos htT])
        clear htT
        go_wp2_with fail
        refine bodyPost_end (v := .tuple #[]) (by simp [results]) rfl ?_
        rw [HQ0.out, List.append_nil]
        exact ⟨rfl, ⟨va1, by rw [HA1.out]; exact HE.out⟩, hB, hK⟩
      · have htT2 : ((t : Int) == (T : Int)) = false := by simpa using fun e => htT (by omega)
        have htT3 : t < T := by omega
        have HQ1 : Hid (Q = pairA m t (numV 2 i P T t 0) L) := Lib.hid (by rw [← HQ.out, if_neg htT, HFM.out])
        clear htT
        have hpL : ∀ (n : Nat), n ≤ P → (pairA m t (numV 2 i P T t 0) (L.take n)).length ≤ 5 * n := fun n hn => by rw [pairA_len, List.length_take]; omega
        have HPL := Lib.hid hpL
        clear hpL
        obtain ⟨ap, cpp, hvp2⟩ := HVP.out
        subst hvp2
        go_wp2_with fail
        go_loopw [31] (fun jv wr => ∃ (j : Nat) (va : Value), jv = .int .i64 j ∧ j ≤ P ∧ EX B k i P T (.slice (some ⟨G, 0, none⟩) i i) (.slice ap P cpp) va (A1 ++ pairA m t (numV 2 i P T t 0) (L.take j)) wr ∧ Below B w wr ∧ TK w wr) (fun jv _ => P - (intOf jv).toNat)
        case atStart => exact ⟨0, va1, rfl, Nat.zero_le _, by simpa [pairA] using HE.out, hB, hK⟩
        case round =>
          clear c0 c1 c2 c3 c4 c5 HE hB hK
          obtain ⟨j, va3, rfl, hj, hE, hB, hK⟩ := hrel
          by_cases hjP : j < P
          · have hj2 : (j : Int) < (P : Int) := by omega
            have hll := HPL.out j hj
            obtain ⟨⟨a, b⟩, hab⟩ : ∃ q, L[j]? = some q := ⟨_, List.getElem?_eq_getElem (by omega)⟩
            obtain ⟨haF, hbF⟩ := HLF.out _ (List.mem_of_getElem? hab)
            have HS : Hid (pairA m t (numV 2 i P T t 0) (L.take (j + 1)) = pairA m t (numV 2 i P T t 0) (L.take j) ++ fiveX i t (numV 2 i P T t j) a b) := Lib.hid (by
              obtain ⟨hjl, e⟩ := List.getElem?_eq_some_iff.1 hab
              rw [List.take_succ_eq_append_getElem hjl, e, pairA_snoc, ← five_is, HFM.out, num2, num2, List.length_take]
              congr 2
              omega)
            obtain ⟨gp, hgp⟩ : ∃ gp, ap = some ⟨gp, 0, none⟩ := by
              obtain ⟨gp, cc, e⟩ := own_ptrT HP.out (by omega)
              injection e with e1 _ _
              exact ⟨gp, e1⟩
            subst hgp
            have hpp : PairsAt B wr (.slice (some ⟨gp, 0, none⟩) P cpp) L := hK.row HP.out (by decide) (by decide)
            have HPP := Lib.hid hpp
            have HAB := Lib.hid hab
            have HE := Lib.hid hE
            clear hE hpp hab
            generalize pairA m t (numV 2 i P T t 0) (L.take j) = Y at HE hll HS
            go_wp2_with fail
            refine (implJoinPair t j a b (by omega) (by omega) (by omega) htT3 HAB.out hLP haF hbF (by rw [List.length_append]; omega) _ HE.out HPP.out).mono ?_
            rintro e w4 ⟨rfl, ⟨va4, hE4⟩, hB4, hK4⟩
            replace hB4 := hB.trans hB4
            replace hK4 := hK.trans hK4
            have HE4 := Lib.hid hE4
            clear HE hE4 hB hK HPP
            go_wp2_with fail
            go_roundw
            case rel => exact ⟨j + 1, va4, by go_num, by omega, by rw [HS.out, ← List.append_assoc]; exact HE4.out, hB4, hK4⟩
            case measure => simp [intOf]; omega
          · obtain rfl : j = P := by omega
            have HE := Lib.hid hE
            clear hE
            go_wp2_with fail
            refine bodyPost_end (v := .tuple #[]) (by simp [results]) rfl ?_
            refine ⟨rfl, ⟨va3, ?_⟩, hB, hK⟩
            have e := HE.out
            rw [← hLP, List.take_length, hLP] at e
            rw [HQ1.out, HA1.out]
            exact e

end Go.Proofs.YtnbbhdbcapfbkaaDoor

