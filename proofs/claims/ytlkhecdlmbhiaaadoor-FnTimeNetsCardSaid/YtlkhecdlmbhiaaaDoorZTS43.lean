/-
  THE LAW FnTimeNets, its walk without two regions: the net of a drawn map in time is right, has its nodes, and lets no more through than there are starts; what can be at one span can be at the next. A tied card: where the listed variable holds what its initialiser laid.
-/
import Derived.Test.YtlkhecdlmbhiaaaDoorZTS06
import Derived.Test.YtlkhecdlmbhiaaaDoorZTS07
import Derived.Test.YtlkhecdlmbhiaaaDoorZTS41
import Derived.Test.YtlkhecdlmbhiaaaDoorZTS42
import Derived.Deep.CutRange
import Derived.Deep.DeepCutAuto
import Derived.Deep.RegionHeld3
import Derived.IntWalk
import Derived.Lib.SmallJoins
import Derived.Test.YtlkhecdlmbhiaaaDoorCards
import Derived.Test.YtlkhecdlmbhiaaaDoorTie
import Derived.SevenTiedAt
namespace Go.Proofs.YtlkhecdlmbhiaaaDoor.fnTimeNets
set_option maxRecDepth 4096
open Go.ChangeShapes Go.WideShapes Go.ChangeAt Go.RowKit Go.Joins
open Go.ChangeMaps (open_string shut_string)

theorem bigYes (N g : Nat) (v : Value) (w : World) (hN : N ≤ maxLen) (hc : CodeB w v N g) (h : 1048576 < N) : Calls Tryd.prog 6 #[v] w fun e w' => e = .returned (.bool true) ∧ w = w' := by
  obtain ⟨a, c, rfl, _⟩ := hc
  have hN2 : N ≤ 9223372036854775807 := by unfold maxLen at hN; omega
  have hd : (1048576 : Int) < (N : Int) := by omega
  go_enter Tryd.func6, Tryd.ntmps6
  go_wp2
  go_ret
  exact ⟨rfl, rfl⟩
theorem bigNo (N g : Nat) (v : Value) (w : World) (hc : CodeB w v N g) (h : N ≤ 1048576) : Calls Tryd.prog 6 #[v] w fun e w' => e = .returned (.bool false) ∧ w = w' := by
  obtain ⟨a, c, rfl, _⟩ := hc
  have hd : ¬ (1048576 : Int) < (N : Int) := by omega
  go_enter Tryd.func6, Tryd.ntmps6
  go_wp2
  go_ret
  exact ⟨rfl, rfl⟩

/-- What lies in the law's own memory: the map's box, starts and goals. -/
structure Ts (w : World) (a b : Int) (C : ByteArray) (X : Nat) (vs : Value) (S : List Int) (vd : Value) (G : List Int) (wx : World) : Prop where
  below : Below w.heap.size w wx
  grid : wx.heap[X]? = some (.cells #[.int .i64 a, .int .i64 b, .string C] 25 (0, 0))
  s : Ints wx vs S
  d : Ints wx vd G
section
variable {w wx wy w1 w2 : World} {a b : Int} {C : ByteArray} {X : Nat} {vs vd : Value} {S G : List Int}
theorem Ts.on (h : Ts w a b C X vs S vd G wx) (hb : Below wx.heap.size wx wy) : Ts w a b C X vs S vd G wy :=
  ⟨h.below.trans (hb.mono h.below.size), (hb.block _ (Array.getElem?_eq_some_iff.1 h.grid).1).trans h.grid, ints_on h.s hb, ints_on h.d hb⟩
theorem Ts.cells (h : Ts w a b C X vs S vd G wx) : wx.cell? ⟨X, 0, none⟩ = some (.int .i64 a) ∧ wx.cell? ⟨X, 1, none⟩ = some (.int .i64 b) ∧ wx.cell? ⟨X, 2, none⟩ = some (.string C) := by
  refine ⟨?_, ?_, ?_⟩ <;> rw [cell_of_row _ _ _ _ _ _ h.grid] <;> rfl
/-- A network in its box. -/
structure Bx (g N : Nat) (va : Value) (A : List ArcD) (wx : World) : Prop where
  box : wx.heap[g]? = some (.cells #[.int .i64 N, va] 32 (0, 0))
  arcs : Arcs wx va A
theorem Bx.on {g N : Nat} {va : Value} {A : List ArcD} (h : Bx g N va A wx) (hb : Below wx.heap.size wx wy) : Bx g N va A wy := ⟨(hb.block _ (Array.getElem?_eq_some_iff.1 h.box).1).trans h.box, arcs_on h.arcs hb⟩
theorem Bx.cells {g N : Nat} {va : Value} {A : List ArcD} (h : Bx g N va A wx) : wx.cell? ⟨g, 0, none⟩ = some (.int .i64 N) ∧ wx.cell? ⟨g, 1, none⟩ = some va :=
  ⟨(cell_of_row _ _ _ _ _ _ h.box).trans rfl, (cell_of_row _ _ _ _ _ _ h.box).trans rfl⟩
/-- What the regions hold. -/
def GH (a b : Int) (C : ByteArray) (X : Nat) (w w' : World) : Prop := w'.cell? ⟨X, 0, none⟩ = some (.int .i64 a) ∧ w'.cell? ⟨X, 1, none⟩ = some (.int .i64 b) ∧ w'.cell? ⟨X, 2, none⟩ = some (.string C) ∧ Below w.heap.size w w'
def GridCells (a b : Int) (C : ByteArray) (X : Nat) (w : World) : Prop := ∀ w', Below w.heap.size w w' → w'.cell? ⟨X, 0, none⟩ = some (.int .i64 a) ∧ w'.cell? ⟨X, 1, none⟩ = some (.int .i64 b) ∧ w'.cell? ⟨X, 2, none⟩ = some (.string C)
theorem gh_of (HC : Hid (GridCells a b C X w)) (hb : Below w.heap.size w w1) : w1.cell? ⟨X, 0, none⟩ = some (.int .i64 a) ∧ w1.cell? ⟨X, 1, none⟩ = some (.int .i64 b) ∧ w1.cell? ⟨X, 2, none⟩ = some (.string C) ∧ Below w.heap.size w w1 :=
  ⟨(HC.out _ hb).1, (HC.out _ hb).2.1, (HC.out _ hb).2.2, hb⟩
theorem gh_alloc (HC : Hid (GridCells a b C X w)) (hb : Below w.heap.size w w1) (o : Obj) : (w1.alloc o).cell? ⟨X, 0, none⟩ = some (.int .i64 a) ∧ (w1.alloc o).cell? ⟨X, 1, none⟩ = some (.int .i64 b) ∧ (w1.alloc o).cell? ⟨X, 2, none⟩ = some (.string C) ∧ Below w.heap.size w (w1.alloc o) := gh_of HC (hb.alloc hb.size o)
theorem gh_adrew (HC : Hid (GridCells a b C X w)) (hb : Below w.heap.size w w1.drew) (o : Obj) : (w1.alloc o).drew.cell? ⟨X, 0, none⟩ = some (.int .i64 a) ∧ (w1.alloc o).drew.cell? ⟨X, 1, none⟩ = some (.int .i64 b) ∧ (w1.alloc o).drew.cell? ⟨X, 2, none⟩ = some (.string C) ∧ Below w.heap.size w (w1.alloc o).drew := gh_of HC (hb.alloc hb.size o)
theorem gh_store (HC : Hid (GridCells a b C X w)) (hb : Below w.heap.size w w1) {g8 : Nat} (h8 : w.heap.size ≤ g8) (u v : Value) :
    ((w1.setCell ⟨g8, 0, none⟩ u).setCell ⟨g8, 1, none⟩ v).cell? ⟨X, 0, none⟩ = some (.int .i64 a) ∧ ((w1.setCell ⟨g8, 0, none⟩ u).setCell ⟨g8, 1, none⟩ v).cell? ⟨X, 1, none⟩ = some (.int .i64 b) ∧ ((w1.setCell ⟨g8, 0, none⟩ u).setCell ⟨g8, 1, none⟩ v).cell? ⟨X, 2, none⟩ = some (.string C) ∧ Below w.heap.size w ((w1.setCell ⟨g8, 0, none⟩ u).setCell ⟨g8, 1, none⟩ v) := gh_of HC ((hb.setCell h8 _).setCell h8 _)
theorem gh_chain (hb : Below w.heap.size w w1) (h : Below w1.heap.size w1 w2) : Below w.heap.size w w2 := hb.trans (h.mono hb.size)
/-- What the last test reads. -/
def C7 (a b : Int) (C : ByteArray) (X g h N M : Nat) (va vb : Value) (w w' : World) : Prop := w'.cell? ⟨X, 0, none⟩ = some (.int .i64 a) ∧ w'.cell? ⟨X, 1, none⟩ = some (.int .i64 b) ∧ w'.cell? ⟨X, 2, none⟩ = some (.string C) ∧ w'.cell? ⟨g, 0, none⟩ = some (.int .i64 N) ∧ w'.cell? ⟨g, 1, none⟩ = some va ∧ w'.cell? ⟨h, 0, none⟩ = some (.int .i64 M) ∧ w'.cell? ⟨h, 1, none⟩ = some vb ∧ Below w.heap.size w w'
theorem c7_of {g h N M : Nat} {va vb : Value} {A B : List ArcD} (HT : Hid (Ts wx a b C X vs S vd G w)) (HG : Hid (Bx g N va A w)) (HH : Hid (Bx h M vb B w)) (hb : Below w.heap.size w w1) : C7 a b C X g h N M va vb w w1 :=
  have h1 := (HT.out.on hb).cells
  have h2 := (HG.out.on hb).cells
  have h3 := (HH.out.on hb).cells
  ⟨h1.1, h1.2.1, h1.2.2, h2.1, h2.2, h3.1, h3.2, hb⟩
theorem carry {v : Value} {L : List Int} {Q : Prop} (h : Ints w v L) (hb : Below w.heap.size w w1) (k : Ints w1 v L → Q) : Q := k (ints_on h hb)
theorem ints_drew {v : Value} {L : List Int} (h : Ints w v L) : Ints w.drew v L := ints_on h (Below.refl w.heap.size w).drew
theorem ints_alloc {v : Value} {L : List Int} (o : Obj) (h : Ints w v L) : Ints (w.alloc o) v L := ints_on h ((Below.refl w.heap.size w).alloc (Nat.le_refl _) o)
theorem row_on {o : Obj} {k : Nat} (hb : Below w.heap.size w w1) (h : w.heap[k]? = some o) : w1.heap[k]? = some o := (hb.block _ (Array.getElem?_eq_some_iff.1 h).1).trans h
theorem row_drew {o : Obj} {k : Nat} (h : w.heap[k]? = some o) : w.drew.heap[k]? = some o := h
theorem box_call {k : Nat} {v : Value} {A : List ArcD} (hb : Below w.heap.size w w1) (hown : w1.ownsRow w.heap.size 72 4 v A.length (cellsA A)) (h : w.heap[k]? = some (.cells #[.int .i64 0, .slice none 0 0] 32 (0, 0))) :
    w1.heap[k]? = some (.cells #[.int .i64 0, .slice none 0 0] 32 (0, 0)) ∧ ∀ x y, ((w1.setCell ⟨k, 0, none⟩ x).setCell ⟨k, 1, none⟩ y).heap[k]? = some (.cells #[x, y] 32 (0, 0)) ∧ Arcs ((w1.setCell ⟨k, 0, none⟩ x).setCell ⟨k, 1, none⟩ y) v A := by
  have hk := (Array.getElem?_eq_some_iff.1 h).1
  have h1 := row_on hb h
  have hv : ∀ j, v.ownBlock = some j → j ≠ k := fun j e => by have := (hown.lt j e).1; omega
  exact ⟨h1, fun x y => ⟨two_set h1, arcs_of_own (own_setD (own_setD hown hv 0 x) hv 1 y)⟩⟩
theorem row_alloc {o o' : Obj} {k : Nat} (h : w.heap[k]? = some o) : (w.alloc o').heap[k]? = some o := row_on ((Below.refl w.heap.size w).alloc (Nat.le_refl _) o') h
end

section
variable {a b : Nat} {C : ByteArray} {S G : List Int}
theorem few_free (h : C.size ≤ 12) : (freeL a b C).length ≤ 12 := Nat.le_trans (picks_len _ _) (Nat.le_trans (Nat.min_le_left _ _) h)
theorem ask_yes (h : AskD a b C S G) (T : Nat) (hT : T ≤ 5) : askV a b C S G T = true := by
  have hf : (freeL a b C).length * (T + 1) ≤ 12 * 6 := Nat.mul_le_mul (few_free h.few) (by omega)
  have hf2 : ((freeL a b C).length : Int) * ((T : Int) + 1) ≤ 240 := by
    have : (((freeL a b C).length * (T + 1) : Nat) : Int) ≤ 240 := by omega
    simpa using this
  have h1 := h.s1
  have h5 := h.s5
  have hl := h.le
  unfold askV rgB
  rw [h.ok, h.sa, h.ga]
  simp only [Bool.true_and, Bool.and_eq_true, decide_eq_true_eq]
  exact ⟨by omega, by omega, by omega, hf2⟩
theorem ask_d (h : AskD a b C S G) (T : Nat) (hT : T ≤ 5) : AskOkD a b C S G T := by
  obtain ⟨t, e, hd⟩ := ask_out (ask_yes h T hT)
  have : T = t := by omega
  subst this
  exact hd
theorem nodes_no (T : Nat) : nodesG a b C T false = 3 + 2 * (freeL a b C).length * (T + 1) := by
  unfold nodesG timeN baseN
  rw [if_neg (by simp)]
  rfl
theorem nodes_yes (T : Nat) : nodesG a b C T true = nodesG a b C T false + 2 * (mapG a b C).pl.length * T := by
  unfold nodesG timeN
  rw [if_pos rfl, if_neg (by simp)]
theorem timeN_is (h : AskD a b C S G) (T : Nat) (hT : T ≤ 5) (st : Bool) : timeNV a b C S G T st = (nodesG a b C T st : Nat) := if_pos (ask_yes h T hT)
theorem timeA_is (h : AskD a b C S G) (T : Nat) (hT : T ≤ 5) (st : Bool) : timeAV a b C S G T st = netG a b C S G T st := if_pos (ask_yes h T hT)
theorem can_is (h : AskD a b C S G) (T : Nat) (hT : T ≤ 5) : canV a b C S G T = decide (mostS (nodesG a b C T false : Nat) (netG a b C S G T false) = (S.length : Int)) := by
  unfold canV
  rw [ask_yes h T hT, timeN_is h T hT, timeA_is h T hT]
  rfl
/-- What can be at one span can be at the next. -/
theorem can_next (h : AskD a b C S G) (T : Nat) (hT : T ≤ 4) (hc : canV a b C S G T = true) : canV a b C S G ((T : Int) + 1) = true := by
  have e := can_is h (T + 1) (by omega)
  rw [can_is h T (by omega)] at hc
  have h1 := of_decide_eq_true hc
  have h2 := netG_next (ask_d h T (by omega)) (ask_d h (T + 1) (by omega))
  have h3 := netG_most (strict := false) (ask_d h (T + 1) (by omega))
  have : (((T + 1 : Nat) : Int)) = (T : Int) + 1 := by omega
  rw [← this, e]
  exact decide_eq_true (by omega)
end

/-- What the parked regions must show, and what follows. -/
structure NetsParts (M : Prop) where
  a : Prop
  b : Prop
  all : a → b → M

set_option maxRecDepth 100000 in
set_option maxHeartbeats 60000000 in
def netsParts : NetsParts (∀ (N : Nat) (v : Value) (_ : N ≤ 1048576) (w : World) (_ : CodeB w v N w.heap.size) (_ : SidesAt w),
    Calls Tryd.prog 3 #[v] w fun e w' => e = .returned (.bool true) ∧ Below w.heap.size w w') := by
  apply NetsParts.mk
  case all =>
    intro partA partB N v hN w hc hs
    have HSd := Lib.hid hs
    clear hs
    go_enter Tryd.func3, Tryd.ntmps3
    go_wp2_with fail
    refine (bigNo N _ v w hc hN).mono ?_
    rintro e w' ⟨rfl, rfl⟩
    go_wp2_with fail
    refine (drawAsk N v (by omega) w hc).mono ?_
    rintro e w1 ⟨a, b, C, S, G, x, y, rfl, hD, hs, hd, hB⟩
    obtain ⟨s5, k5, rfl⟩ := own_form hs
    obtain ⟨s6, k6, rfl⟩ := own_form hd
    have hT1 : Ts w a b C w1.heap.size (.slice s5 S.length k5) S (.slice s6 G.length k6) G (w1.alloc (.cells #[.int .i64 a, .int .i64 b, .string C] 25)) :=
      ⟨hB.alloc hB.size _, heap_alloc_new w1 _, ints_alloc _ (ints_of_own hs), ints_alloc _ (ints_of_own hd)⟩
    have hc1 := (hc.below hT1.below).up hT1.below.size
    clear hs hd hB hc
    go_wp2_with fail
    generalize w1.alloc (.cells #[.int .i64 a, .int .i64 b, .string C] 25) = w2 at hT1 hc1 ⊢
    generalize w1.heap.size = X at hT1 ⊢
    refine (drawPlaces N v (by omega) w2 hc1).mono ?_
    rintro e w3 ⟨P, hP12, hPl, vp, rfl, hown, hb⟩
    obtain ⟨gp, kp, rfl⟩ : ∃ gp kp, vp = .slice (some ⟨gp, 0, none⟩) P.length kp := by
      rcases hown.2 with ⟨_, h0⟩ | ⟨gl, cap', cur, h, _⟩
      · omega
      · exact ⟨gl, _, h⟩
    obtain ⟨x, hx⟩ : ∃ x, P[0]? = some x := ⟨_, List.getElem?_eq_getElem (by omega)⟩
    have d0 := own_int hown hx
    have hPx := hPl x (List.mem_of_getElem? hx)
    have HT := Lib.hid (hT1.on hb)
    have hp0 : (0 : Int) < (P.length : Int) := by omega
    obtain ⟨t, ht⟩ : ∃ t : Nat, Int.tmod x 5 = t := ⟨(Int.tmod x 5).toNat, by rw [Int.tmod_eq_emod_of_nonneg hPx.1]; omega⟩
    have ht4 : t ≤ 4 := by rw [Int.tmod_eq_emod_of_nonneg hPx.1] at ht; omega
    have htw : IntKind.i64.wrap (t : Int) = (t : Int) := IntWalk.i64_in _ (by omega)
    clear hown hb hT1 hc1 hx hPl
    go_wp2_with fail
    have hC : C.size ≤ 1048576 := by have := hD.few; omega
    have hS5 := hD.s5
    have hG5 : G.length ≤ 5 := Nat.le_trans hD.le hD.s5
    have HS3 := Lib.hid (HSd.out.below HT.out.below)
    have HC : Hid (GridCells a b C X w3) := Lib.hid (fun w' hb => (HT.out.on hb).cells)
    obtain ⟨N0, hN0⟩ : ∃ n, nodesG a b C t false = n := ⟨_, rfl⟩
    obtain ⟨A0, hA0⟩ : ∃ A, netG a b C S G t false = A := ⟨_, rfl⟩
    have HN0 : Hid (timeNV a b C S G t false = (N0 : Int)) := Lib.hid (by rw [timeN_is hD t (by omega), hN0])
    have HA0 : Hid (timeAV a b C S G t false = A0) := Lib.hid (by rw [timeA_is hD t (by omega), hA0])
    have HB0 : Hid (askV a b C S G t = true) := Lib.hid (ask_yes hD t (by omega))
    have HN0' := Lib.hid hN0
    have HA0' := Lib.hid hA0
    have hS0 := gh_of HC (Below.refl w3.heap.size w3).drew
    obtain ⟨N1, hN1⟩ : ∃ n, nodesG a b C t true = n := ⟨_, rfl⟩
    obtain ⟨A1, hA1⟩ : ∃ A, netG a b C S G t true = A := ⟨_, rfl⟩
    have HN1 : Hid (timeNV a b C S G t true = (N1 : Int)) := Lib.hid (by rw [timeN_is hD t (by omega), hN1])
    have HA1 : Hid (timeAV a b C S G t true = A1) := Lib.hid (by rw [timeA_is hD t (by omega), hA1])
    have HN1' := Lib.hid hN1
    have HA1' := Lib.hid hA1
    have hl0 : A0.length ≤ 3200 := by rw [← HA0.out]; exact timeAV_len
    have hl1 : A1.length ≤ 3200 := by rw [← HA1.out]; exact timeAV_len
    obtain ⟨z, HZ0⟩ : ∃ z, Hid (mostS N0 A0 = z) := ⟨_, rfl⟩
    have HZ1 : Hid (mostS N1 A1 = z) := Lib.hid (by rw [← HZ0.out, ← hN1, ← hA1, ← hN0, ← hA0]; exact netG_same (ask_d hD t (by omega)))
    have hz0 : 0 ≤ z := by rw [← HZ0.out, ← hN0, ← hA0]; exact most_nn (netG_ok (ask_d hD t (by omega)))
    have hz1 : z ≤ (S.length : Int) := by rw [← HZ0.out, ← hN0, ← hA0]; exact netG_most (ask_d hD t (by omega))
    clear hN0 hA0 hN1 hA1 d0 htw hp0 ht
    go_cut [8, 9] from 33 to 45 (fun x8 x9 wx => ∃ g8 an cn, x8 = .pointer (some ⟨g8, 0, none⟩) ∧ x9 = .bool true ∧ Bx g8 N0 (.slice an A0.length cn) A0 wx ∧ Below w3.heap.size w3 wx)
    case first =>
      rename_i zz1 zz2 zz3 zz4 zz5 zz6 zz7
      revert N v hN w HSd zz1 w1 a b C S G hD s5 k5 s6 k6 w2 X w3 P hP12 gp kp x hPx HT t ht4 zz2 zz3 hC hS5 hG5 HS3 HC N0 A0 HN0 HA0 HB0 HN0' HA0' hS0 N1 A1 HN1 HA1 HN1' HA1' hl0 hl1 z HZ0 HZ1 hz0 hz1 zz4 zz5 zz6 zz7
      exact partA
    case rest =>
      obtain ⟨g8, an, cn, rfl, rfl, hx8, hb8⟩ := hcut
      clear hS0
      go_upto_region 7 with fail
      generalize wc = w4 at hx8 hb8 ⊢
      have HT4 := Lib.hid (HT.out.on hb8)
      have HS4 := Lib.hid (HSd.out.below HT4.out.below)
      have HC4 : Hid (GridCells a b C X w4) := Lib.hid (fun w' hb => (HT4.out.on hb).cells)
      have hS0 := gh_of HC4 (Below.refl w4.heap.size w4).drew
      have HX8 := Lib.hid hx8
      clear HC HS3 HT hb8 hx8
      go_cut [10, 11] from 45 to 57 (fun x8 x9 wx => ∃ g8 an cn, x8 = .pointer (some ⟨g8, 0, none⟩) ∧ x9 = .bool true ∧ Bx g8 N1 (.slice an A1.length cn) A1 wx ∧ Below w4.heap.size w4 wx)
      case first =>
        rename_i zz1 zz2 zz3 zz4 zz5 zz6 zz7
        revert N v hN w HSd zz1 w1 a b C S G hD s5 k5 s6 k6 w2 X w3 P hP12 gp kp x hPx t ht4 hC hS5 hG5 N0 A0 HN0 HA0 HB0 HN0' HA0' N1 A1 HN1 HA1 HN1' HA1' hl0 hl1 z HZ0 HZ1 hz0 hz1 wc u33 u34 u35 u36 u37 u38 u39 u40 u41 u42 u43 u44 u45 g8 an cn zz2 zz3 w4 HT4 HS4 HC4 hS0 HX8 zz4 zz5 zz6 zz7
        exact partB
      case rest =>
        obtain ⟨g10, am, cm, rfl, rfl, hx10, hb10⟩ := hcut
        clear hS0
        go_upto_region 8 with fail
        generalize wc = w5 at hx10 hb10 ⊢
        replace HT4 := Lib.hid (HT4.out.on hb10)
        replace HX8 := Lib.hid (HX8.out.on hb10)
        have HX10 := Lib.hid hx10
        clear HC4 HS4 hb10 hx10
        obtain ⟨n0, n1⟩ := HX8.out.cells
        go_wp2_with fail
        refine (implMost N0 A0 _ z _ _ (by omega) HZ0 (Lib.hid rfl) (Lib.hid rfl) _ HX8.out.arcs).mono ?_
        rintro e w6 ⟨vo, rfl, _, hb⟩
        replace HT4 := Lib.hid (HT4.out.on hb)
        replace HX8 := Lib.hid (HX8.out.on hb)
        replace HX10 := Lib.hid (HX10.out.on hb)
        clear hb n0 n1
        obtain ⟨n0, n1⟩ := HX10.out.cells
        go_wp2_with fail
        refine (implMost N1 A1 _ z _ _ (by omega) HZ1 (Lib.hid rfl) (Lib.hid rfl) _ HX10.out.arcs).mono ?_
        rintro e w7 ⟨vo2, rfl, _, hb⟩
        replace HT4 := Lib.hid (HT4.out.on hb)
        replace HX8 := Lib.hid (HX8.out.on hb)
        replace HX10 := Lib.hid (HX10.out.on hb)
        clear hb n0 n1
        obtain ⟨n0, n1, n2⟩ := HT4.out.cells
        obtain ⟨F, HF⟩ : ∃ F, Hid (freeL a b C = F) := ⟨_, rfl⟩
        go_wp2_with fail
        refine (implFreeCells a b C F hC HF _).mono ?_
        rintro e w8 ⟨vf, rfl, hown, hb⟩
        obtain ⟨af, cf, rfl⟩ := own_form hown
        replace HT4 := Lib.hid (HT4.out.on hb)
        replace HX8 := Lib.hid (HX8.out.on hb)
        replace HX10 := Lib.hid (HX10.out.on hb)
        clear hb hown n0 n1 n2
        go_upto_region 11 with fail
        have HS8 := Lib.hid (HSd.out.below HT4.out.below)
        have HC8 : Hid (GridCells a b C X w8) := Lib.hid (fun w' hb => (HT4.out.on hb).cells)
        have hS0 := gh_of HC8 (Below.refl w8.heap.size w8).drew
        obtain ⟨bc, HBC⟩ : ∃ bc, Hid (canV a b C S G t = bc) := ⟨_, rfl⟩
        go_cut [17] from 70 to 79 (fun x17 wx => x17 = .bool bc ∧ Below w8.heap.size w8 wx)
        case first =>
          go_region_held3 (fun w' => w'.cell? ⟨X, 0, none⟩ = some (.int .i64 a) ∧ w'.cell? ⟨X, 1, none⟩ = some (.int .i64 b) ∧ w'.cell? ⟨X, 2, none⟩ = some (.string C) ∧ Below w8.heap.size w8 w')
            (first | exact hS | exact hS0 | (go_split_ands; exact gh_alloc HC8 (by assumption) _) | go_keep)
            (first
              | ((try go_split_ands); rw [if_pos (by rfl)]; refine wp_copy _ _ rfl _ rfl _ G rfl (ints_on HT4.out.d (by with_reducible assumption)) (by omega) ?_; intro v31 w31 hv31 hb; refine carry (v := v30) (L := S) ?_ hb ?_; (focus ((repeat (with_reducible (first | assumption | refine ints_drew ?_ | refine ints_alloc _ ?_))); done)); intro hv30b; have hB0 := gh_chain (w := w8) (by with_reducible assumption) hb; have hz31 := hB0.size; have hS := gh_of HC8 hB0; clear hb hB0)
              | ((try go_split_ands); rw [if_pos (by rfl)]; refine wp_copy _ _ rfl _ rfl _ S rfl (ints_on HT4.out.s (by with_reducible assumption)) (by omega) ?_; intro v30 w30 hv30 hb; have hB0 := gh_chain (w := w8) (by with_reducible assumption) hb; have hz30 := hB0.size; have hS := gh_of HC8 hB0; clear hb hB0)
              | (go_at_call 12; (try go_split_ands); (with_reducible refine (implCan a b C S G t v30 v31 bc hC (by omega) (by omega) HBC _ (by repeat (with_reducible (first | assumption | refine ints_drew ?_ | refine ints_alloc _ ?_))) (by repeat (with_reducible (first | assumption | refine ints_drew ?_ | refine ints_alloc _ ?_))) (HS8.out.below (by with_reducible assumption))).mono ?_); rintro e w32 ⟨rfl, hb⟩; have hBB := gh_chain (w := w8) (by with_reducible assumption) hb; have hS := gh_of HC8 hBB; clear hb))
          all_goals
            go_wp2_with fail
            go_meet
            exact ⟨rfl, hBB⟩
        case rest =>
          obtain ⟨rfl, hb⟩ := hcut
          clear hS0
          go_upto_region 12 with fail
          generalize wc = w9 at hb ⊢
          replace HT4 := Lib.hid (HT4.out.on hb)
          replace HX8 := Lib.hid (HX8.out.on hb)
          replace HX10 := Lib.hid (HX10.out.on hb)
          clear HC8 HS8 hb
          have HS9 := Lib.hid (HSd.out.below HT4.out.below)
          have HC9 : Hid (GridCells a b C X w9) := Lib.hid (fun w' hb => (HT4.out.on hb).cells)
          have hS0 := gh_of HC9 (Below.refl w9.heap.size w9).drew
          obtain ⟨bd, HBD⟩ : ∃ bd, Hid (canV a b C S G ((t : Int) + 1) = bd) := ⟨_, rfl⟩
          have htw : IntKind.i64.wrap ((t : Int) + 1) = (t : Int) + 1 := IntWalk.i64_in _ (by omega)
          go_cut [18] from 79 to 89 (fun x18 wx => x18 = .bool bd ∧ Below w9.heap.size w9 wx)
          case first =>
            go_region_held3 (fun w' => w'.cell? ⟨X, 0, none⟩ = some (.int .i64 a) ∧ w'.cell? ⟨X, 1, none⟩ = some (.int .i64 b) ∧ w'.cell? ⟨X, 2, none⟩ = some (.string C) ∧ Below w9.heap.size w9 w')
              (first | exact hS | exact hS0 | (go_split_ands; exact gh_alloc HC9 (by assumption) _) | go_keep)
              (first
                | ((try go_split_ands); rw [if_pos (by rfl)]; refine wp_copy _ _ rfl _ rfl _ G rfl (ints_on HT4.out.d (by with_reducible assumption)) (by omega) ?_; intro v41 w41 hv41 hb; refine carry (v := v40) (L := S) ?_ hb ?_; (focus ((repeat (with_reducible (first | assumption | refine ints_drew ?_ | refine ints_alloc _ ?_))); done)); intro hv40b; have hB0 := gh_chain (w := w9) (by with_reducible assumption) hb; have hz41 := hB0.size; have hS := gh_of HC9 hB0; clear hb hB0)
                | ((try go_split_ands); rw [if_pos (by rfl)]; refine wp_copy _ _ rfl _ rfl _ S rfl (ints_on HT4.out.s (by with_reducible assumption)) (by omega) ?_; intro v40 w40 hv40 hb; have hB0 := gh_chain (w := w9) (by with_reducible assumption) hb; have hz40 := hB0.size; have hS := gh_of HC9 hB0; clear hb hB0)
                | (go_at_call 12; (try go_split_ands); (with_reducible refine (implCan a b C S G ((t : Int) + 1) v40 v41 bd hC (by omega) (by omega) HBD _ (by repeat (with_reducible (first | assumption | refine ints_drew ?_ | refine ints_alloc _ ?_))) (by repeat (with_reducible (first | assumption | refine ints_drew ?_ | refine ints_alloc _ ?_))) (HS9.out.below (by with_reducible assumption))).mono ?_); rintro e w42 ⟨rfl, hb⟩; have hBB := gh_chain (w := w9) (by with_reducible assumption) hb; have hS := gh_of HC9 hBB; clear hb))
            all_goals
              go_wp2_with fail
              go_meet
              exact ⟨rfl, hBB⟩
          case rest =>
            obtain ⟨rfl, hb⟩ := hcut
            clear hS0
            go_upto_region 13 with fail
            generalize wc = wa at hb ⊢
            replace HT4 := Lib.hid (HT4.out.on hb)
            replace HX8 := Lib.hid (HX8.out.on hb)
            replace HX10 := Lib.hid (HX10.out.on hb)
            clear HC9 HS9 hb
            have HSa := Lib.hid (HSd.out.below HT4.out.below)
            have hd0 := ask_d hD t (by omega)
            obtain ⟨p, hp⟩ : ∃ p, (mapG a b C).pl.length = p := ⟨_, rfl⟩
            have HPV : Hid (pairsV a b C = (p : Int)) := Lib.hid (by rw [pairs_pl, hp])
            have hFl : F.length ≤ 12 := by rw [← HF.out]; exact few_free hD.few
            have hpl : p ≤ 2 * F.length := by
              rw [← hp, ← HF.out]
              exact pl_len (m := mapG a b C) mapG_ok (fun i _ => ar_len i)
            have q0 : N0 = 3 + 2 * F.length * (t + 1) := by rw [← HN0'.out, nodes_no, HF.out]
            have q1 : N1 = N0 + 2 * p * t := by rw [← HN1'.out, nodes_yes, HN0'.out, hp]
            have HO0 : Hid (netOkV N0 A0 = true) := Lib.hid (by rw [← HN0'.out, ← HA0'.out]; exact netG_ok hd0)
            have HO1 : Hid (netOkV N1 A1 = true) := Lib.hid (by rw [← HN1'.out, ← HA1'.out]; exact netG_ok hd0)
            obtain ⟨f2, hf2⟩ : ∃ f2, 2 * F.length = f2 := ⟨_, rfl⟩
            obtain ⟨f3, hf3⟩ : ∃ f3, f2 * (t + 1) = f3 := ⟨_, rfl⟩
            obtain ⟨p2, hp2⟩ : ∃ p2, 2 * p = p2 := ⟨_, rfl⟩
            obtain ⟨p3, hp3⟩ : ∃ p3, p2 * t = p3 := ⟨_, rfl⟩
            rw [hf2, hf3] at q0
            rw [hp2, hp3] at q1
            have hb3 : f3 ≤ 24 * 5 := by rw [← hf3]; exact Nat.mul_le_mul (by omega) (by omega)
            have hb4 : p3 ≤ 48 * 4 := by rw [← hp3]; exact Nat.mul_le_mul (by omega) ht4
            have hm1 : IntKind.i64.wrap (2 * (F.length : Int)) = (f2 : Int) := (IntWalk.i64_in _ (by omega)).trans (by omega)
            have hm2 : IntKind.i64.wrap ((f2 : Int) * ((t : Int) + 1)) = (f3 : Int) := by
              have e : (f2 : Int) * ((t : Int) + 1) = (f3 : Int) := by rw [← hf3]; simp
              rw [e]
              exact IntWalk.i64_in _ (by omega)
            have hm3 : IntKind.i64.wrap (3 + (f3 : Int)) = (N0 : Int) := (IntWalk.i64_in _ (by omega)).trans (by omega)
            have hm4 : IntKind.i64.wrap (2 * (p : Int)) = (p2 : Int) := (IntWalk.i64_in _ (by omega)).trans (by omega)
            have hm5 : IntKind.i64.wrap ((p2 : Int) * (t : Int)) = (p3 : Int) := by
              have e : (p2 : Int) * (t : Int) = (p3 : Int) := by rw [← hp3]; simp
              rw [e]
              exact IntWalk.i64_in _ (by omega)
            have hm6 : IntKind.i64.wrap ((N0 : Int) + (p3 : Int)) = (N1 : Int) := (IntWalk.i64_in _ (by omega)).trans (by omega)
            have hbc : decide (z = (S.length : Int)) = bc := by
              rw [← HBC.out, can_is hD t (by omega), HN0'.out, HA0'.out, HZ0.out]
            have hbd : bc = true → bd = true := fun h => by
              rw [← HBD.out]
              exact can_next hD t ht4 (HBC.out.trans h)
            have hS0 : C7 a b C X g8 g10 N0 N1 (.slice an A0.length cn) (.slice am A1.length cm) wa wa.drew := c7_of HT4 HX8 HX10 (Below.refl wa.heap.size wa).drew
            unfold C7 at hS0
            simp only [List.append_eq, List.cons_append, List.nil_append]
            clear hp hf2 hf3 hp2 hp3 q0 q1 hd0 hpl
            have hzz : ∃ y : Bool, (z == (S.length : Int)) = y ∧ y = bc := ⟨_, rfl, by rw [← hbc]; rfl⟩
            obtain ⟨y, hy, rfl⟩ := hzz
            clear hbc
            cases y with
            | false =>
              refine wp_region_held_drew (S := (fun w' => w'.cell? ⟨X, 0, none⟩ = some (.int .i64 a) ∧ w'.cell? ⟨X, 1, none⟩ = some (.int .i64 b) ∧ w'.cell? ⟨X, 2, none⟩ = some (.string C) ∧ w'.cell? ⟨g8, 0, none⟩ = some (.int .i64 N0) ∧ w'.cell? ⟨g8, 1, none⟩ = some (.slice an A0.length cn) ∧ w'.cell? ⟨g10, 0, none⟩ = some (.int .i64 N1) ∧ w'.cell? ⟨g10, 1, none⟩ = some (.slice am A1.length cm) ∧ Below wa.heap.size wa w')) (by as_aux_lemma => kernel_rfl) hS0 (fun hHeld => ?_)
              refine wpAnyH_take (i := 0) (oi := _) (v := (.bool true)) rfl (by as_aux_lemma => kernel_rfl) (by as_aux_lemma => kernel_rfl) (by as_aux_lemma => kernel_rfl) (fun _ _ _ h => h) (Or.inl ⟨by rfl, ?_⟩) hHeld ?_
              focus (intro w' hSw; (try dsimp only at hSw); go_split_ands; simp only [List.getElem_toArray, List.getElem_cons_zero]; go_simp; done)
              simp only [List.getElem_toArray, List.getElem_cons_zero, Act.put, List.setIfInBounds_toArray, List.set_cons_zero, List.set_cons_succ]
              refine wpAnyH_take (i := 1) (oi := _) (v := (.bool true)) rfl (by as_aux_lemma => kernel_rfl) (by as_aux_lemma => kernel_rfl) (by as_aux_lemma => kernel_rfl) (fun _ _ _ h => h) (Or.inl ⟨by rfl, ?_⟩) hHeld ?_
              focus (intro w' hSw; (try dsimp only at hSw); go_split_ands; simp only [List.getElem_toArray, List.getElem_cons_succ, List.getElem_cons_zero]; go_simp; done)
              simp only [List.getElem_toArray, List.getElem_cons_succ, List.getElem_cons_zero, Act.put, List.setIfInBounds_toArray, List.set_cons_zero, List.set_cons_succ]
              refine wpAnyH_take (i := 2) (oi := _) (v := (.bool true)) rfl (by as_aux_lemma => kernel_rfl) (by as_aux_lemma => kernel_rfl) (by as_aux_lemma => kernel_rfl) (fun _ _ _ h => h) (Or.inl ⟨by rfl, ?_⟩) hHeld ?_
              focus (intro w' hSw; (try dsimp only at hSw); go_split_ands; simp only [List.getElem_toArray, List.getElem_cons_succ, List.getElem_cons_zero]; go_simp; done)
              simp only [List.getElem_toArray, List.getElem_cons_succ, List.getElem_cons_zero, Act.put, List.setIfInBounds_toArray, List.set_cons_zero, List.set_cons_succ]
              refine wpAnyH_take (i := 3) (oi := _) (v := (.bool true)) rfl (by as_aux_lemma => kernel_rfl) (by as_aux_lemma => kernel_rfl) (by as_aux_lemma => kernel_rfl) (fun _ _ _ h => h) (Or.inl ⟨by rfl, ?_⟩) hHeld ?_
              focus (intro w' hSw; (try dsimp only at hSw); go_split_ands; simp only [List.getElem_toArray, List.getElem_cons_succ, List.getElem_cons_zero]; go_simp; done)
              simp only [List.getElem_toArray, List.getElem_cons_succ, List.getElem_cons_zero, Act.put, List.setIfInBounds_toArray, List.set_cons_zero, List.set_cons_succ]
              refine wpAnyH_take (i := 4) (oi := _) (v := (.bool true)) rfl (by as_aux_lemma => kernel_rfl) (by as_aux_lemma => kernel_rfl) (by as_aux_lemma => kernel_rfl) (fun _ _ _ h => h) (Or.inl ⟨by rfl, ?_⟩) hHeld ?_
              focus (intro w' hSw; (try dsimp only at hSw); go_split_ands; simp only [List.getElem_toArray, List.getElem_cons_succ, List.getElem_cons_zero]; go_simp; done)
              simp only [List.getElem_toArray, List.getElem_cons_succ, List.getElem_cons_zero, Act.put, List.setIfInBounds_toArray, List.set_cons_zero, List.set_cons_succ]
              refine wpAnyH_take (i := 5) (oi := _) (v := (.agg #[.int .i64 N0, .slice an A0.length cn])) rfl (by as_aux_lemma => kernel_rfl) (by as_aux_lemma => kernel_rfl) (by as_aux_lemma => kernel_rfl) (fun _ _ _ h => h) (Or.inl ⟨by rfl, ?_⟩) hHeld ?_
              focus (intro w' hSw; (try dsimp only at hSw); go_split_ands; simp only [List.getElem_toArray, List.getElem_cons_succ, List.getElem_cons_zero]; go_simp; done)
              simp only [List.getElem_toArray, List.getElem_cons_succ, List.getElem_cons_zero, Act.put, List.setIfInBounds_toArray, List.set_cons_zero, List.set_cons_succ]
              refine wpAnyH_ready (rs := [6]) (by as_aux_lemma => kernel_rfl) (by simp) ?_
              refine AllReadyH.cons rfl (fun K hK => ?_) AllReadyH.nil
              simp only [List.getElem_toArray, List.getElem_cons_succ, List.getElem_cons_zero]
              go_simp
              go_at_call 13
              have hB6 : Below wa.heap.size wa _ := hHeld.2.2.2.2.2.2.2
              refine (implNetOk N0 A0 _ true HO0 _ (by omega) (arcs_on HX8.out.arcs hB6)).mono ?_
              rintro e x1 ⟨rfl, hb⟩
              have hBB := gh_chain hB6 hb
              have hS6 := c7_of HT4 HX8 HX10 hBB
              unfold C7 at hS6
              clear hb hB6 hHeld
              refine hK.out _ _ hS6 (fun hHeld => ?_)
              clear hK K hS6
              (try simp only [Act.put, List.setIfInBounds_toArray, List.set_cons_zero, List.set_cons_succ])
              refine wpAnyH_take (i := 7) (oi := _) (v := (.bool true)) rfl (by as_aux_lemma => kernel_rfl) (by as_aux_lemma => kernel_rfl) (by as_aux_lemma => kernel_rfl) (fun _ _ _ h => h) (Or.inl ⟨by rfl, ?_⟩) hHeld ?_
              focus (intro w' hSw; (try dsimp only at hSw); go_split_ands; simp only [List.getElem_toArray, List.getElem_cons_succ, List.getElem_cons_zero]; go_simp; done)
              simp only [List.getElem_toArray, List.getElem_cons_succ, List.getElem_cons_zero, Act.put, List.setIfInBounds_toArray, List.set_cons_zero, List.set_cons_succ]
              refine wpAnyH_take (i := 8) (oi := _) (v := (.bool true)) rfl (by as_aux_lemma => kernel_rfl) (by as_aux_lemma => kernel_rfl) (by as_aux_lemma => kernel_rfl) (fun _ _ _ h => h) (Or.inl ⟨by rfl, ?_⟩) hHeld ?_
              focus (intro w' hSw; (try dsimp only at hSw); go_split_ands; simp only [List.getElem_toArray, List.getElem_cons_succ, List.getElem_cons_zero]; go_simp; done)
              simp only [List.getElem_toArray, List.getElem_cons_succ, List.getElem_cons_zero, Act.put, List.setIfInBounds_toArray, List.set_cons_zero, List.set_cons_succ]
              refine wpAnyH_take (i := 9) (oi := _) (v := (.agg #[.int .i64 N1, .slice am A1.length cm])) rfl (by as_aux_lemma => kernel_rfl) (by as_aux_lemma => kernel_rfl) (by as_aux_lemma => kernel_rfl) (fun _ _ _ h => h) (Or.inl ⟨by rfl, ?_⟩) hHeld ?_
              focus (intro w' hSw; (try dsimp only at hSw); go_split_ands; simp only [List.getElem_toArray, List.getElem_cons_succ, List.getElem_cons_zero]; go_simp; done)
              simp only [List.getElem_toArray, List.getElem_cons_succ, List.getElem_cons_zero, Act.put, List.setIfInBounds_toArray, List.set_cons_zero, List.set_cons_succ]
              refine wpAnyH_ready (rs := [10]) (by as_aux_lemma => kernel_rfl) (by simp) ?_
              refine AllReadyH.cons rfl (fun K hK => ?_) AllReadyH.nil
              simp only [List.getElem_toArray, List.getElem_cons_succ, List.getElem_cons_zero]
              go_simp
              go_at_call 13
              have hB10 : Below wa.heap.size wa _ := hHeld.2.2.2.2.2.2.2
              refine (implNetOk N1 A1 _ true HO1 _ (by omega) (arcs_on HX10.out.arcs hB10)).mono ?_
              rintro e x2 ⟨rfl, hb⟩
              have hBB := gh_chain hB10 hb
              have hS10 := c7_of HT4 HX8 HX10 hBB
              unfold C7 at hS10
              clear hb hB10 hHeld
              refine hK.out _ _ hS10 (fun hHeld => ?_)
              clear hK K hS10
              (try simp only [Act.put, List.setIfInBounds_toArray, List.set_cons_zero, List.set_cons_succ])
              refine wpAnyH_take (i := 11) (oi := _) (v := (.bool true)) rfl (by as_aux_lemma => kernel_rfl) (by as_aux_lemma => kernel_rfl) (by as_aux_lemma => kernel_rfl) (fun _ _ _ h => h) (Or.inl ⟨by rfl, ?_⟩) hHeld ?_
              focus (intro w' hSw; (try dsimp only at hSw); go_split_ands; simp only [List.getElem_toArray, List.getElem_cons_succ, List.getElem_cons_zero]; go_simp; done)
              simp only [List.getElem_toArray, List.getElem_cons_succ, List.getElem_cons_zero, Act.put, List.setIfInBounds_toArray, List.set_cons_zero, List.set_cons_succ]
              refine wpAnyH_take (i := 12) (oi := _) (v := (.bool true)) rfl (by as_aux_lemma => kernel_rfl) (by as_aux_lemma => kernel_rfl) (by as_aux_lemma => kernel_rfl) (fun _ _ _ h => h) (Or.inl ⟨by rfl, ?_⟩) hHeld ?_
              focus (intro w' hSw; (try dsimp only at hSw); go_split_ands; simp only [List.getElem_toArray, List.getElem_cons_succ, List.getElem_cons_zero]; go_simp; done)
              simp only [List.getElem_toArray, List.getElem_cons_succ, List.getElem_cons_zero, Act.put, List.setIfInBounds_toArray, List.set_cons_zero, List.set_cons_succ]
              refine wpAnyH_take (i := 13) (oi := _) (v := (.pointer (some ⟨g8, 0, none⟩))) rfl (by as_aux_lemma => kernel_rfl) (by as_aux_lemma => kernel_rfl) (by as_aux_lemma => kernel_rfl) (fun _ _ _ h => h) (Or.inl ⟨by rfl, ?_⟩) hHeld ?_
              focus (intro w' hSw; (try dsimp only at hSw); go_split_ands; simp only [List.getElem_toArray, List.getElem_cons_succ, List.getElem_cons_zero]; go_simp; done)
              simp only [List.getElem_toArray, List.getElem_cons_succ, List.getElem_cons_zero, Act.put, List.setIfInBounds_toArray, List.set_cons_zero, List.set_cons_succ]
              refine wpAnyH_take (i := 14) (oi := _) (v := (.int .i64 N0)) rfl (by as_aux_lemma => kernel_rfl) (by as_aux_lemma => kernel_rfl) (by as_aux_lemma => kernel_rfl) (fun _ _ _ h => h) (Or.inl ⟨by rfl, ?_⟩) hHeld ?_
              focus (intro w' hSw; (try dsimp only at hSw); go_split_ands; simp only [List.getElem_toArray, List.getElem_cons_succ, List.getElem_cons_zero]; go_simp; done)
              simp only [List.getElem_toArray, List.getElem_cons_succ, List.getElem_cons_zero, Act.put, List.setIfInBounds_toArray, List.set_cons_zero, List.set_cons_succ]
              refine wpAnyH_take (i := 15) (oi := _) (v := (.int .i64 F.length)) rfl (by as_aux_lemma => kernel_rfl) (by as_aux_lemma => kernel_rfl) (by as_aux_lemma => kernel_rfl) (fun _ _ _ h => h) (Or.inl ⟨by rfl, ?_⟩) hHeld ?_
              focus (intro w' hSw; (try dsimp only at hSw); go_split_ands; simp only [List.getElem_toArray, List.getElem_cons_succ, List.getElem_cons_zero]; go_simp; done)
              simp only [List.getElem_toArray, List.getElem_cons_succ, List.getElem_cons_zero, Act.put, List.setIfInBounds_toArray, List.set_cons_zero, List.set_cons_succ]
              refine wpAnyH_take (i := 16) (oi := _) (v := (.int .i64 f2)) rfl (by as_aux_lemma => kernel_rfl) (by as_aux_lemma => kernel_rfl) (by as_aux_lemma => kernel_rfl) (fun _ _ _ h => h) (Or.inl ⟨by rfl, ?_⟩) hHeld ?_
              focus (intro w' hSw; (try dsimp only at hSw); go_split_ands; simp only [List.getElem_toArray, List.getElem_cons_succ, List.getElem_cons_zero]; go_simp; done)
              simp only [List.getElem_toArray, List.getElem_cons_succ, List.getElem_cons_zero, Act.put, List.setIfInBounds_toArray, List.set_cons_zero, List.set_cons_succ]
              refine wpAnyH_take (i := 17) (oi := _) (v := (.int .i64 t)) rfl (by as_aux_lemma => kernel_rfl) (by as_aux_lemma => kernel_rfl) (by as_aux_lemma => kernel_rfl) (fun _ _ _ h => h) (Or.inl ⟨by rfl, ?_⟩) hHeld ?_
              focus (intro w' hSw; (try dsimp only at hSw); go_split_ands; simp only [List.getElem_toArray, List.getElem_cons_succ, List.getElem_cons_zero]; go_simp; done)
              simp only [List.getElem_toArray, List.getElem_cons_succ, List.getElem_cons_zero, Act.put, List.setIfInBounds_toArray, List.set_cons_zero, List.set_cons_succ]
              refine wpAnyH_take (i := 18) (oi := _) (v := (.int .i64 ((t : Int) + 1))) rfl (by as_aux_lemma => kernel_rfl) (by as_aux_lemma => kernel_rfl) (by as_aux_lemma => kernel_rfl) (fun _ _ _ h => h) (Or.inl ⟨by rfl, ?_⟩) hHeld ?_
              focus (intro w' hSw; (try dsimp only at hSw); go_split_ands; simp only [List.getElem_toArray, List.getElem_cons_succ, List.getElem_cons_zero]; go_simp; done)
              simp only [List.getElem_toArray, List.getElem_cons_succ, List.getElem_cons_zero, Act.put, List.setIfInBounds_toArray, List.set_cons_zero, List.set_cons_succ]
              refine wpAnyH_take (i := 19) (oi := _) (v := (.int .i64 f3)) rfl (by as_aux_lemma => kernel_rfl) (by as_aux_lemma => kernel_rfl) (by as_aux_lemma => kernel_rfl) (fun _ _ _ h => h) (Or.inl ⟨by rfl, ?_⟩) hHeld ?_
              focus (intro w' hSw; (try dsimp only at hSw); go_split_ands; simp only [List.getElem_toArray, List.getElem_cons_succ, List.getElem_cons_zero]; go_simp; done)
              simp only [List.getElem_toArray, List.getElem_cons_succ, List.getElem_cons_zero, Act.put, List.setIfInBounds_toArray, List.set_cons_zero, List.set_cons_succ]
              refine wpAnyH_take (i := 20) (oi := _) (v := (.int .i64 N0)) rfl (by as_aux_lemma => kernel_rfl) (by as_aux_lemma => kernel_rfl) (by as_aux_lemma => kernel_rfl) (fun _ _ _ h => h) (Or.inl ⟨by rfl, ?_⟩) hHeld ?_
              focus (intro w' hSw; (try dsimp only at hSw); go_split_ands; simp only [List.getElem_toArray, List.getElem_cons_succ, List.getElem_cons_zero]; go_simp; done)
              simp only [List.getElem_toArray, List.getElem_cons_succ, List.getElem_cons_zero, Act.put, List.setIfInBounds_toArray, List.set_cons_zero, List.set_cons_succ]
              refine wpAnyH_take (i := 21) (oi := _) (v := (.bool true)) rfl (by as_aux_lemma => kernel_rfl) (by as_aux_lemma => kernel_rfl) (by as_aux_lemma => kernel_rfl) (fun _ _ _ h => h) (Or.inl ⟨by rfl, ?_⟩) hHeld ?_
              focus (intro w' hSw; (try dsimp only at hSw); go_split_ands; simp only [List.getElem_toArray, List.getElem_cons_succ, List.getElem_cons_zero]; go_simp; done)
              simp only [List.getElem_toArray, List.getElem_cons_succ, List.getElem_cons_zero, Act.put, List.setIfInBounds_toArray, List.set_cons_zero, List.set_cons_succ]
              refine wpAnyH_take (i := 22) (oi := _) (v := (.bool true)) rfl (by as_aux_lemma => kernel_rfl) (by as_aux_lemma => kernel_rfl) (by as_aux_lemma => kernel_rfl) (fun _ _ _ h => h) (Or.inl ⟨by rfl, ?_⟩) hHeld ?_
              focus (intro w' hSw; (try dsimp only at hSw); go_split_ands; simp only [List.getElem_toArray, List.getElem_cons_succ, List.getElem_cons_zero]; go_simp; done)
              simp only [List.getElem_toArray, List.getElem_cons_succ, List.getElem_cons_zero, Act.put, List.setIfInBounds_toArray, List.set_cons_zero, List.set_cons_succ]
              refine wpAnyH_take (i := 23) (oi := _) (v := (.bool true)) rfl (by as_aux_lemma => kernel_rfl) (by as_aux_lemma => kernel_rfl) (by as_aux_lemma => kernel_rfl) (fun _ _ _ h => h) (Or.inl ⟨by rfl, ?_⟩) hHeld ?_
              focus (intro w' hSw; (try dsimp only at hSw); go_split_ands; simp only [List.getElem_toArray, List.getElem_cons_succ, List.getElem_cons_zero]; go_simp; done)
              simp only [List.getElem_toArray, List.getElem_cons_succ, List.getElem_cons_zero, Act.put, List.setIfInBounds_toArray, List.set_cons_zero, List.set_cons_succ]
              refine wpAnyH_take (i := 24) (oi := _) (v := (.pointer (some ⟨g10, 0, none⟩))) rfl (by as_aux_lemma => kernel_rfl) (by as_aux_lemma => kernel_rfl) (by as_aux_lemma => kernel_rfl) (fun _ _ _ h => h) (Or.inl ⟨by rfl, ?_⟩) hHeld ?_
              focus (intro w' hSw; (try dsimp only at hSw); go_split_ands; simp only [List.getElem_toArray, List.getElem_cons_succ, List.getElem_cons_zero]; go_simp; done)
              simp only [List.getElem_toArray, List.getElem_cons_succ, List.getElem_cons_zero, Act.put, List.setIfInBounds_toArray, List.set_cons_zero, List.set_cons_succ]
              refine wpAnyH_take (i := 25) (oi := _) (v := (.int .i64 N1)) rfl (by as_aux_lemma => kernel_rfl) (by as_aux_lemma => kernel_rfl) (by as_aux_lemma => kernel_rfl) (fun _ _ _ h => h) (Or.inl ⟨by rfl, ?_⟩) hHeld ?_
              focus (intro w' hSw; (try dsimp only at hSw); go_split_ands; simp only [List.getElem_toArray, List.getElem_cons_succ, List.getElem_cons_zero]; go_simp; done)
              simp only [List.getElem_toArray, List.getElem_cons_succ, List.getElem_cons_zero, Act.put, List.setIfInBounds_toArray, List.set_cons_zero, List.set_cons_succ]
              refine wpAnyH_take (i := 26) (oi := _) (v := (.pointer (some ⟨g8, 0, none⟩))) rfl (by as_aux_lemma => kernel_rfl) (by as_aux_lemma => kernel_rfl) (by as_aux_lemma => kernel_rfl) (fun _ _ _ h => h) (Or.inl ⟨by rfl, ?_⟩) hHeld ?_
              focus (intro w' hSw; (try dsimp only at hSw); go_split_ands; simp only [List.getElem_toArray, List.getElem_cons_succ, List.getElem_cons_zero]; go_simp; done)
              simp only [List.getElem_toArray, List.getElem_cons_succ, List.getElem_cons_zero, Act.put, List.setIfInBounds_toArray, List.set_cons_zero, List.set_cons_succ]
              refine wpAnyH_take (i := 27) (oi := _) (v := (.int .i64 N0)) rfl (by as_aux_lemma => kernel_rfl) (by as_aux_lemma => kernel_rfl) (by as_aux_lemma => kernel_rfl) (fun _ _ _ h => h) (Or.inl ⟨by rfl, ?_⟩) hHeld ?_
              focus (intro w' hSw; (try dsimp only at hSw); go_split_ands; simp only [List.getElem_toArray, List.getElem_cons_succ, List.getElem_cons_zero]; go_simp; done)
              simp only [List.getElem_toArray, List.getElem_cons_succ, List.getElem_cons_zero, Act.put, List.setIfInBounds_toArray, List.set_cons_zero, List.set_cons_succ]
              refine wpAnyH_take (i := 28) (oi := _) (v := (.agg #[.int .i64 a, .int .i64 b, .string C])) rfl (by as_aux_lemma => kernel_rfl) (by as_aux_lemma => kernel_rfl) (by as_aux_lemma => kernel_rfl) (fun _ _ _ h => h) (Or.inl ⟨by rfl, ?_⟩) hHeld ?_
              focus (intro w' hSw; (try dsimp only at hSw); go_split_ands; simp only [List.getElem_toArray, List.getElem_cons_succ, List.getElem_cons_zero]; go_simp; done)
              simp only [List.getElem_toArray, List.getElem_cons_succ, List.getElem_cons_zero, Act.put, List.setIfInBounds_toArray, List.set_cons_zero, List.set_cons_succ]
              refine wpAnyH_take (i := 31) (oi := _) (v := (.int .i64 t)) rfl (by as_aux_lemma => kernel_rfl) (by as_aux_lemma => kernel_rfl) (by as_aux_lemma => kernel_rfl) (fun _ _ _ h => h) (Or.inl ⟨by rfl, ?_⟩) hHeld ?_
              focus (intro w' hSw; (try dsimp only at hSw); go_split_ands; simp only [List.getElem_toArray, List.getElem_cons_succ, List.getElem_cons_zero]; go_simp; done)
              simp only [List.getElem_toArray, List.getElem_cons_succ, List.getElem_cons_zero, Act.put, List.setIfInBounds_toArray, List.set_cons_zero, List.set_cons_succ]
              refine wpAnyH_ready (rs := [29]) (by as_aux_lemma => kernel_rfl) (by simp) ?_
              refine AllReadyH.cons rfl (fun K hK => ?_) AllReadyH.nil
              simp only [List.getElem_toArray, List.getElem_cons_succ, List.getElem_cons_zero]
              go_simp
              go_at_call 14
              have hB29 : Below wa.heap.size wa _ := hHeld.2.2.2.2.2.2.2
              refine (implPairs a b C p hC HPV _ (HSa.out.below hB29)).mono ?_
              rintro e x3 ⟨rfl, hb⟩
              have hBB := gh_chain hB29 hb
              have hS29 := c7_of HT4 HX8 HX10 hBB
              unfold C7 at hS29
              clear hb hB29 hHeld
              refine hK.out _ _ hS29 (fun hHeld => ?_)
              clear hK K hS29
              (try simp only [Act.put, List.setIfInBounds_toArray, List.set_cons_zero, List.set_cons_succ])
              refine wpAnyH_take (i := 30) (oi := _) (v := (.int .i64 p2)) rfl (by as_aux_lemma => kernel_rfl) (by as_aux_lemma => kernel_rfl) (by as_aux_lemma => kernel_rfl) (fun _ _ _ h => h) (Or.inl ⟨by rfl, ?_⟩) hHeld ?_
              focus (intro w' hSw; (try dsimp only at hSw); go_split_ands; simp only [List.getElem_toArray, List.getElem_cons_succ, List.getElem_cons_zero]; go_simp; done)
              simp only [List.getElem_toArray, List.getElem_cons_succ, List.getElem_cons_zero, Act.put, List.setIfInBounds_toArray, List.set_cons_zero, List.set_cons_succ]
              refine wpAnyH_take (i := 32) (oi := _) (v := (.int .i64 p3)) rfl (by as_aux_lemma => kernel_rfl) (by as_aux_lemma => kernel_rfl) (by as_aux_lemma => kernel_rfl) (fun _ _ _ h => h) (Or.inl ⟨by rfl, ?_⟩) hHeld ?_
              focus (intro w' hSw; (try dsimp only at hSw); go_split_ands; simp only [List.getElem_toArray, List.getElem_cons_succ, List.getElem_cons_zero]; go_simp; done)
              simp only [List.getElem_toArray, List.getElem_cons_succ, List.getElem_cons_zero, Act.put, List.setIfInBounds_toArray, List.set_cons_zero, List.set_cons_succ]
              refine wpAnyH_take (i := 33) (oi := _) (v := (.int .i64 N1)) rfl (by as_aux_lemma => kernel_rfl) (by as_aux_lemma => kernel_rfl) (by as_aux_lemma => kernel_rfl) (fun _ _ _ h => h) (Or.inl ⟨by rfl, ?_⟩) hHeld ?_
              focus (intro w' hSw; (try dsimp only at hSw); go_split_ands; simp only [List.getElem_toArray, List.getElem_cons_succ, List.getElem_cons_zero]; go_simp; done)
              simp only [List.getElem_toArray, List.getElem_cons_succ, List.getElem_cons_zero, Act.put, List.setIfInBounds_toArray, List.set_cons_zero, List.set_cons_succ]
              refine wpAnyH_take (i := 34) (oi := _) (v := (.bool true)) rfl (by as_aux_lemma => kernel_rfl) (by as_aux_lemma => kernel_rfl) (by as_aux_lemma => kernel_rfl) (fun _ _ _ h => h) (Or.inl ⟨by rfl, ?_⟩) hHeld ?_
              focus (intro w' hSw; (try dsimp only at hSw); go_split_ands; simp only [List.getElem_toArray, List.getElem_cons_succ, List.getElem_cons_zero]; go_simp; done)
              simp only [List.getElem_toArray, List.getElem_cons_succ, List.getElem_cons_zero, Act.put, List.setIfInBounds_toArray, List.set_cons_zero, List.set_cons_succ]
              refine wpAnyH_take (i := 35) (oi := _) (v := (.bool true)) rfl (by as_aux_lemma => kernel_rfl) (by as_aux_lemma => kernel_rfl) (by as_aux_lemma => kernel_rfl) (fun _ _ _ h => h) (Or.inl ⟨by rfl, ?_⟩) hHeld ?_
              focus (intro w' hSw; (try dsimp only at hSw); go_split_ands; simp only [List.getElem_toArray, List.getElem_cons_succ, List.getElem_cons_zero]; go_simp; done)
              simp only [List.getElem_toArray, List.getElem_cons_succ, List.getElem_cons_zero, Act.put, List.setIfInBounds_toArray, List.set_cons_zero, List.set_cons_succ]
              refine wpAnyH_take (i := 36) (oi := _) (v := (.bool true)) rfl (by as_aux_lemma => kernel_rfl) (by as_aux_lemma => kernel_rfl) (by as_aux_lemma => kernel_rfl) (fun _ _ _ h => h) (Or.inl ⟨by rfl, ?_⟩) hHeld ?_
              focus (intro w' hSw; (try dsimp only at hSw); go_split_ands; simp only [List.getElem_toArray, List.getElem_cons_succ, List.getElem_cons_zero]; go_simp; done)
              simp only [List.getElem_toArray, List.getElem_cons_succ, List.getElem_cons_zero, Act.put, List.setIfInBounds_toArray, List.set_cons_zero, List.set_cons_succ]
              refine wpAnyH_take (i := 37) (oi := _) (v := (.int .i64 z)) rfl (by as_aux_lemma => kernel_rfl) (by as_aux_lemma => kernel_rfl) (by as_aux_lemma => kernel_rfl) (fun _ _ _ h => h) (Or.inl ⟨by rfl, ?_⟩) hHeld ?_
              focus (intro w' hSw; (try dsimp only at hSw); go_split_ands; simp only [List.getElem_toArray, List.getElem_cons_succ, List.getElem_cons_zero]; go_simp; done)
              simp only [List.getElem_toArray, List.getElem_cons_succ, List.getElem_cons_zero, Act.put, List.setIfInBounds_toArray, List.set_cons_zero, List.set_cons_succ]
              refine wpAnyH_take (i := 38) (oi := _) (v := (.bool true)) rfl (by as_aux_lemma => kernel_rfl) (by as_aux_lemma => kernel_rfl) (by as_aux_lemma => kernel_rfl) (fun _ _ _ h => h) (Or.inl ⟨by rfl, ?_⟩) hHeld ?_
              focus (intro w' hSw; (try dsimp only at hSw); go_split_ands; simp only [List.getElem_toArray, List.getElem_cons_succ, List.getElem_cons_zero]; go_simp; done)
              simp only [List.getElem_toArray, List.getElem_cons_succ, List.getElem_cons_zero, Act.put, List.setIfInBounds_toArray, List.set_cons_zero, List.set_cons_succ]
              refine wpAnyH_take (i := 39) (oi := _) (v := (.bool true)) rfl (by as_aux_lemma => kernel_rfl) (by as_aux_lemma => kernel_rfl) (by as_aux_lemma => kernel_rfl) (fun _ _ _ h => h) (Or.inl ⟨by rfl, ?_⟩) hHeld ?_
              focus (intro w' hSw; (try dsimp only at hSw); go_split_ands; simp only [List.getElem_toArray, List.getElem_cons_succ, List.getElem_cons_zero]; go_simp; done)
              simp only [List.getElem_toArray, List.getElem_cons_succ, List.getElem_cons_zero, Act.put, List.setIfInBounds_toArray, List.set_cons_zero, List.set_cons_succ]
              refine wpAnyH_take (i := 40) (oi := _) (v := (.bool true)) rfl (by as_aux_lemma => kernel_rfl) (by as_aux_lemma => kernel_rfl) (by as_aux_lemma => kernel_rfl) (fun _ _ _ h => h) (Or.inl ⟨by rfl, ?_⟩) hHeld ?_
              focus (intro w' hSw; (try dsimp only at hSw); go_split_ands; simp only [List.getElem_toArray, List.getElem_cons_succ, List.getElem_cons_zero]; go_simp; done)
              simp only [List.getElem_toArray, List.getElem_cons_succ, List.getElem_cons_zero, Act.put, List.setIfInBounds_toArray, List.set_cons_zero, List.set_cons_succ]
              refine wpAnyH_take (i := 41) (oi := _) (v := (.int .i64 z)) rfl (by as_aux_lemma => kernel_rfl) (by as_aux_lemma => kernel_rfl) (by as_aux_lemma => kernel_rfl) (fun _ _ _ h => h) (Or.inl ⟨by rfl, ?_⟩) hHeld ?_
              focus (intro w' hSw; (try dsimp only at hSw); go_split_ands; simp only [List.getElem_toArray, List.getElem_cons_succ, List.getElem_cons_zero]; go_simp; done)
              simp only [List.getElem_toArray, List.getElem_cons_succ, List.getElem_cons_zero, Act.put, List.setIfInBounds_toArray, List.set_cons_zero, List.set_cons_succ]
              refine wpAnyH_take (i := 42) (oi := _) (v := (.slice s5 S.length k5)) rfl (by as_aux_lemma => kernel_rfl) (by as_aux_lemma => kernel_rfl) (by as_aux_lemma => kernel_rfl) (fun _ _ _ h => h) (Or.inl ⟨by rfl, ?_⟩) hHeld ?_
              focus (intro w' hSw; (try dsimp only at hSw); go_split_ands; simp only [List.getElem_toArray, List.getElem_cons_succ, List.getElem_cons_zero]; go_simp; done)
              simp only [List.getElem_toArray, List.getElem_cons_succ, List.getElem_cons_zero, Act.put, List.setIfInBounds_toArray, List.set_cons_zero, List.set_cons_succ]
              refine wpAnyH_take (i := 43) (oi := _) (v := (.int .i64 S.length)) rfl (by as_aux_lemma => kernel_rfl) (by as_aux_lemma => kernel_rfl) (by as_aux_lemma => kernel_rfl) (fun _ _ _ h => h) (Or.inl ⟨by rfl, ?_⟩) hHeld ?_
              focus (intro w' hSw; (try dsimp only at hSw); go_split_ands; simp only [List.getElem_toArray, List.getElem_cons_succ, List.getElem_cons_zero]; go_simp; done)
              simp only [List.getElem_toArray, List.getElem_cons_succ, List.getElem_cons_zero, Act.put, List.setIfInBounds_toArray, List.set_cons_zero, List.set_cons_succ]
              refine wpAnyH_take (i := 44) (oi := _) (v := (.bool true)) rfl (by as_aux_lemma => kernel_rfl) (by as_aux_lemma => kernel_rfl) (by as_aux_lemma => kernel_rfl) (fun _ _ _ h => h) (Or.inl ⟨by rfl, ?_⟩) hHeld ?_
              focus (intro w' hSw; (try dsimp only at hSw); go_split_ands; simp only [List.getElem_toArray, List.getElem_cons_succ, List.getElem_cons_zero]; go_simp; done)
              simp only [List.getElem_toArray, List.getElem_cons_succ, List.getElem_cons_zero, Act.put, List.setIfInBounds_toArray, List.set_cons_zero, List.set_cons_succ]
              refine wpAnyH_take (i := 45) (oi := _) (v := (.bool true)) rfl (by as_aux_lemma => kernel_rfl) (by as_aux_lemma => kernel_rfl) (by as_aux_lemma => kernel_rfl) (fun _ _ _ h => h) (Or.inl ⟨by rfl, ?_⟩) hHeld ?_
              focus (intro w' hSw; (try dsimp only at hSw); go_split_ands; simp only [List.getElem_toArray, List.getElem_cons_succ, List.getElem_cons_zero]; go_simp; done)
              simp only [List.getElem_toArray, List.getElem_cons_succ, List.getElem_cons_zero, Act.put, List.setIfInBounds_toArray, List.set_cons_zero, List.set_cons_succ]
              refine wpAnyH_take (i := 46) (oi := _) (v := (.bool true)) rfl (by as_aux_lemma => kernel_rfl) (by as_aux_lemma => kernel_rfl) (by as_aux_lemma => kernel_rfl) (fun _ _ _ h => h) (Or.inl ⟨by rfl, ?_⟩) hHeld ?_
              focus (intro w' hSw; (try dsimp only at hSw); go_split_ands; simp only [List.getElem_toArray, List.getElem_cons_succ, List.getElem_cons_zero]; go_simp; done)
              simp only [List.getElem_toArray, List.getElem_cons_succ, List.getElem_cons_zero, Act.put, List.setIfInBounds_toArray, List.set_cons_zero, List.set_cons_succ]
              refine wpAnyH_take (i := 47) (oi := _) (v := (.int .i64 z)) rfl (by as_aux_lemma => kernel_rfl) (by as_aux_lemma => kernel_rfl) (by as_aux_lemma => kernel_rfl) (fun _ _ _ h => h) (Or.inl ⟨by rfl, ?_⟩) hHeld ?_
              focus (intro w' hSw; (try dsimp only at hSw); go_split_ands; simp only [List.getElem_toArray, List.getElem_cons_succ, List.getElem_cons_zero]; go_simp; done)
              simp only [List.getElem_toArray, List.getElem_cons_succ, List.getElem_cons_zero, Act.put, List.setIfInBounds_toArray, List.set_cons_zero, List.set_cons_succ]
              refine wpAnyH_take (i := 48) (oi := _) (v := (.int .i64 z)) rfl (by as_aux_lemma => kernel_rfl) (by as_aux_lemma => kernel_rfl) (by as_aux_lemma => kernel_rfl) (fun _ _ _ h => h) (Or.inl ⟨by rfl, ?_⟩) hHeld ?_
              focus (intro w' hSw; (try dsimp only at hSw); go_split_ands; simp only [List.getElem_toArray, List.getElem_cons_succ, List.getElem_cons_zero]; go_simp; done)
              simp only [List.getElem_toArray, List.getElem_cons_succ, List.getElem_cons_zero, Act.put, List.setIfInBounds_toArray, List.set_cons_zero, List.set_cons_succ]
              refine wpAnyH_take (i := 49) (oi := _) (v := (.bool true)) rfl (by as_aux_lemma => kernel_rfl) (by as_aux_lemma => kernel_rfl) (by as_aux_lemma => kernel_rfl) (fun _ _ _ h => h) (Or.inl ⟨by rfl, ?_⟩) hHeld ?_
              focus (intro w' hSw; (try dsimp only at hSw); go_split_ands; simp only [List.getElem_toArray, List.getElem_cons_succ, List.getElem_cons_zero]; go_simp; done)
              simp only [List.getElem_toArray, List.getElem_cons_succ, List.getElem_cons_zero, Act.put, List.setIfInBounds_toArray, List.set_cons_zero, List.set_cons_succ]
              refine wpAnyH_take (i := 50) (oi := _) (v := (.bool true)) rfl (by as_aux_lemma => kernel_rfl) (by as_aux_lemma => kernel_rfl) (by as_aux_lemma => kernel_rfl) (fun _ _ _ h => h) (Or.inl ⟨by rfl, ?_⟩) hHeld ?_
              focus (intro w' hSw; (try dsimp only at hSw); go_split_ands; simp only [List.getElem_toArray, List.getElem_cons_succ, List.getElem_cons_zero]; go_simp; done)
              simp only [List.getElem_toArray, List.getElem_cons_succ, List.getElem_cons_zero, Act.put, List.setIfInBounds_toArray, List.set_cons_zero, List.set_cons_succ]
              refine wpAnyH_take (i := 51) (oi := _) (v := (.bool true)) rfl (by as_aux_lemma => kernel_rfl) (by as_aux_lemma => kernel_rfl) (by as_aux_lemma => kernel_rfl) (fun _ _ _ h => h) (Or.inl ⟨by rfl, ?_⟩) hHeld ?_
              focus (intro w' hSw; (try dsimp only at hSw); go_split_ands; simp only [List.getElem_toArray, List.getElem_cons_succ, List.getElem_cons_zero]; go_simp; done)
              simp only [List.getElem_toArray, List.getElem_cons_succ, List.getElem_cons_zero, Act.put, List.setIfInBounds_toArray, List.set_cons_zero, List.set_cons_succ]
              refine wpAnyH_take (i := 52) (oi := _) (v := (.bool false)) rfl (by as_aux_lemma => kernel_rfl) (by as_aux_lemma => kernel_rfl) (by as_aux_lemma => kernel_rfl) (fun _ _ _ h => h) (Or.inl ⟨by rfl, ?_⟩) hHeld ?_
              focus (intro w' hSw; (try dsimp only at hSw); go_split_ands; simp only [List.getElem_toArray, List.getElem_cons_succ, List.getElem_cons_zero]; go_simp; done)
              simp only [List.getElem_toArray, List.getElem_cons_succ, List.getElem_cons_zero, Act.put, List.setIfInBounds_toArray, List.set_cons_zero, List.set_cons_succ]
              refine wpAnyH_take (i := 53) (oi := _) (v := (.int .i64 z)) rfl (by as_aux_lemma => kernel_rfl) (by as_aux_lemma => kernel_rfl) (by as_aux_lemma => kernel_rfl) (fun _ _ _ h => h) (Or.inl ⟨by rfl, ?_⟩) hHeld ?_
              focus (intro w' hSw; (try dsimp only at hSw); go_split_ands; simp only [List.getElem_toArray, List.getElem_cons_succ, List.getElem_cons_zero]; go_simp; done)
              simp only [List.getElem_toArray, List.getElem_cons_succ, List.getElem_cons_zero, Act.put, List.setIfInBounds_toArray, List.set_cons_zero, List.set_cons_succ]
              refine wpAnyH_take (i := 54) (oi := _) (v := (.slice s5 S.length k5)) rfl (by as_aux_lemma => kernel_rfl) (by as_aux_lemma => kernel_rfl) (by as_aux_lemma => kernel_rfl) (fun _ _ _ h => h) (Or.inl ⟨by rfl, ?_⟩) hHeld ?_
              focus (intro w' hSw; (try dsimp only at hSw); go_split_ands; simp only [List.getElem_toArray, List.getElem_cons_succ, List.getElem_cons_zero]; go_simp; done)
              simp only [List.getElem_toArray, List.getElem_cons_succ, List.getElem_cons_zero, Act.put, List.setIfInBounds_toArray, List.set_cons_zero, List.set_cons_succ]
              refine wpAnyH_take (i := 55) (oi := _) (v := (.int .i64 S.length)) rfl (by as_aux_lemma => kernel_rfl) (by as_aux_lemma => kernel_rfl) (by as_aux_lemma => kernel_rfl) (fun _ _ _ h => h) (Or.inl ⟨by rfl, ?_⟩) hHeld ?_
              focus (intro w' hSw; (try dsimp only at hSw); go_split_ands; simp only [List.getElem_toArray, List.getElem_cons_succ, List.getElem_cons_zero]; go_simp; done)
              simp only [List.getElem_toArray, List.getElem_cons_succ, List.getElem_cons_zero, Act.put, List.setIfInBounds_toArray, List.set_cons_zero, List.set_cons_succ]
              refine wpAnyH_take (i := 56) (oi := _) (v := (.bool false)) rfl (by as_aux_lemma => kernel_rfl) (by as_aux_lemma => kernel_rfl) (by as_aux_lemma => kernel_rfl) (fun _ _ _ h => h) (Or.inl ⟨by rfl, ?_⟩) hHeld ?_
              focus (intro w' hSw; (try dsimp only at hSw); go_split_ands; simp only [List.getElem_toArray, List.getElem_cons_succ, List.getElem_cons_zero]; go_simp; done)
              simp only [List.getElem_toArray, List.getElem_cons_succ, List.getElem_cons_zero, Act.put, List.setIfInBounds_toArray, List.set_cons_zero, List.set_cons_succ]
              refine wpAnyH_take (i := 57) (oi := _) (v := (.bool true)) rfl (by as_aux_lemma => kernel_rfl) (by as_aux_lemma => kernel_rfl) (by as_aux_lemma => kernel_rfl) (fun _ _ _ h => h) (Or.inl ⟨by rfl, ?_⟩) hHeld ?_
              focus (intro w' hSw; (try dsimp only at hSw); go_split_ands; simp only [List.getElem_toArray, List.getElem_cons_succ, List.getElem_cons_zero]; go_simp; done)
              simp only [List.getElem_toArray, List.getElem_cons_succ, List.getElem_cons_zero, Act.put, List.setIfInBounds_toArray, List.set_cons_zero, List.set_cons_succ]
              refine wpAnyH_take (i := 58) (oi := _) (v := (.bool true)) rfl (by as_aux_lemma => kernel_rfl) (by as_aux_lemma => kernel_rfl) (by as_aux_lemma => kernel_rfl) (fun _ _ _ h => h) (Or.inl ⟨by rfl, ?_⟩) hHeld ?_
              focus (intro w' hSw; (try dsimp only at hSw); go_split_ands; simp only [List.getElem_toArray, List.getElem_cons_succ, List.getElem_cons_zero]; go_simp; done)
              simp only [List.getElem_toArray, List.getElem_cons_succ, List.getElem_cons_zero, Act.put, List.setIfInBounds_toArray, List.set_cons_zero, List.set_cons_succ]
              refine wpAnyH_take (i := 59) (oi := _) (v := (.bool true)) rfl (by as_aux_lemma => kernel_rfl) (by as_aux_lemma => kernel_rfl) (by as_aux_lemma => kernel_rfl) (fun _ _ _ h => h) (Or.inl ⟨by rfl, ?_⟩) hHeld ?_
              focus (intro w' hSw; (try dsimp only at hSw); go_split_ands; simp only [List.getElem_toArray, List.getElem_cons_succ, List.getElem_cons_zero]; go_simp; done)
              simp only [List.getElem_toArray, List.getElem_cons_succ, List.getElem_cons_zero, Act.put, List.setIfInBounds_toArray, List.set_cons_zero, List.set_cons_succ]
              refine wpAnyH_take (i := 60) (oi := _) (v := (.bool false)) rfl (by as_aux_lemma => kernel_rfl) (by as_aux_lemma => kernel_rfl) (by as_aux_lemma => kernel_rfl) (fun _ _ _ h => h) (Or.inl ⟨by rfl, ?_⟩) hHeld ?_
              focus (intro w' hSw; (try dsimp only at hSw); go_split_ands; simp only [List.getElem_toArray, List.getElem_cons_succ, List.getElem_cons_zero]; go_simp; done)
              simp only [List.getElem_toArray, List.getElem_cons_succ, List.getElem_cons_zero, Act.put, List.setIfInBounds_toArray, List.set_cons_zero, List.set_cons_succ]
              refine wpAnyH_take (i := 61) (oi := _) (v := (.bool true)) rfl (by as_aux_lemma => kernel_rfl) (by as_aux_lemma => kernel_rfl) (by as_aux_lemma => kernel_rfl) (fun _ _ _ h => h) (Or.inl ⟨by rfl, ?_⟩) hHeld ?_
              focus (intro w' hSw; (try dsimp only at hSw); go_split_ands; simp only [List.getElem_toArray, List.getElem_cons_succ, List.getElem_cons_zero]; go_simp; done)
              simp only [List.getElem_toArray, List.getElem_cons_succ, List.getElem_cons_zero, Act.put, List.setIfInBounds_toArray, List.set_cons_zero, List.set_cons_succ]
              refine wpAnyH_take (i := 62) (oi := _) (v := (.bool true)) rfl (by as_aux_lemma => kernel_rfl) (by as_aux_lemma => kernel_rfl) (by as_aux_lemma => kernel_rfl) (fun _ _ _ h => h) (Or.inl ⟨by rfl, ?_⟩) hHeld ?_
              focus (intro w' hSw; (try dsimp only at hSw); go_split_ands; simp only [List.getElem_toArray, List.getElem_cons_succ, List.getElem_cons_zero]; go_simp; done)
              simp only [List.getElem_toArray, List.getElem_cons_succ, List.getElem_cons_zero, Act.put, List.setIfInBounds_toArray, List.set_cons_zero, List.set_cons_succ]
              refine wpAnyH_take (i := 63) (oi := _) (v := undef) rfl (by as_aux_lemma => kernel_rfl) (by as_aux_lemma => kernel_rfl) (by as_aux_lemma => kernel_rfl) (fun _ _ _ h => h) (Or.inr ⟨by rfl, rfl⟩) hHeld ?_
              simp only [List.getElem_toArray, List.getElem_cons_succ, List.getElem_cons_zero, Act.put, List.setIfInBounds_toArray, List.set_cons_zero, List.set_cons_succ]
              refine wpAnyH_take (i := 64) (oi := _) (v := (.bool true)) rfl (by as_aux_lemma => kernel_rfl) (by as_aux_lemma => kernel_rfl) (by as_aux_lemma => kernel_rfl) (fun _ _ _ h => h) (Or.inl ⟨by rfl, ?_⟩) hHeld ?_
              focus (intro w' hSw; (try dsimp only at hSw); go_split_ands; simp only [List.getElem_toArray, List.getElem_cons_succ, List.getElem_cons_zero]; go_simp; done)
              simp only [List.getElem_toArray, List.getElem_cons_succ, List.getElem_cons_zero, Act.put, List.setIfInBounds_toArray, List.set_cons_zero, List.set_cons_succ]
              refine wpAnyH_take (i := 65) (oi := _) (v := (.bool true)) rfl (by as_aux_lemma => kernel_rfl) (by as_aux_lemma => kernel_rfl) (by as_aux_lemma => kernel_rfl) (fun _ _ _ h => h) (Or.inl ⟨by rfl, ?_⟩) hHeld ?_
              focus (intro w' hSw; (try dsimp only at hSw); go_split_ands; simp only [List.getElem_toArray, List.getElem_cons_succ, List.getElem_cons_zero]; go_simp; done)
              simp only [List.getElem_toArray, List.getElem_cons_succ, List.getElem_cons_zero, Act.put, List.setIfInBounds_toArray, List.set_cons_zero, List.set_cons_succ]
              refine wpAnyH_take (i := 66) (oi := _) (v := (.bool true)) rfl (by as_aux_lemma => kernel_rfl) (by as_aux_lemma => kernel_rfl) (by as_aux_lemma => kernel_rfl) (fun _ _ _ h => h) (Or.inl ⟨by rfl, ?_⟩) hHeld ?_
              focus (intro w' hSw; (try dsimp only at hSw); go_split_ands; simp only [List.getElem_toArray, List.getElem_cons_succ, List.getElem_cons_zero]; go_simp; done)
              simp only [List.getElem_toArray, List.getElem_cons_succ, List.getElem_cons_zero, Act.put, List.setIfInBounds_toArray, List.set_cons_zero, List.set_cons_succ]
              refine wpAnyH_done (by as_aux_lemma => kernel_rfl) ?_ _
              have hE := HT4.out.below.trans (Below.mono hBB HT4.out.below.size)
              go_wp2_with fail
              go_ret
              exact ⟨rfl, hE⟩
            | true =>
              obtain rfl : bd = true := hbd rfl
              refine wp_region_held_drew (S := (fun w' => w'.cell? ⟨X, 0, none⟩ = some (.int .i64 a) ∧ w'.cell? ⟨X, 1, none⟩ = some (.int .i64 b) ∧ w'.cell? ⟨X, 2, none⟩ = some (.string C) ∧ w'.cell? ⟨g8, 0, none⟩ = some (.int .i64 N0) ∧ w'.cell? ⟨g8, 1, none⟩ = some (.slice an A0.length cn) ∧ w'.cell? ⟨g10, 0, none⟩ = some (.int .i64 N1) ∧ w'.cell? ⟨g10, 1, none⟩ = some (.slice am A1.length cm) ∧ Below wa.heap.size wa w')) (by as_aux_lemma => kernel_rfl) hS0 (fun hHeld => ?_)
              refine wpAnyH_take (i := 0) (oi := _) (v := (.bool true)) rfl (by as_aux_lemma => kernel_rfl) (by as_aux_lemma => kernel_rfl) (by as_aux_lemma => kernel_rfl) (fun _ _ _ h => h) (Or.inl ⟨by rfl, ?_⟩) hHeld ?_
              focus (intro w' hSw; (try dsimp only at hSw); go_split_ands; simp only [List.getElem_toArray, List.getElem_cons_zero]; go_simp; done)
              simp only [List.getElem_toArray, List.getElem_cons_zero, Act.put, List.setIfInBounds_toArray, List.set_cons_zero, List.set_cons_succ]
              refine wpAnyH_take (i := 1) (oi := _) (v := (.bool true)) rfl (by as_aux_lemma => kernel_rfl) (by as_aux_lemma => kernel_rfl) (by as_aux_lemma => kernel_rfl) (fun _ _ _ h => h) (Or.inl ⟨by rfl, ?_⟩) hHeld ?_
              focus (intro w' hSw; (try dsimp only at hSw); go_split_ands; simp only [List.getElem_toArray, List.getElem_cons_succ, List.getElem_cons_zero]; go_simp; done)
              simp only [List.getElem_toArray, List.getElem_cons_succ, List.getElem_cons_zero, Act.put, List.setIfInBounds_toArray, List.set_cons_zero, List.set_cons_succ]
              refine wpAnyH_take (i := 2) (oi := _) (v := (.bool true)) rfl (by as_aux_lemma => kernel_rfl) (by as_aux_lemma => kernel_rfl) (by as_aux_lemma => kernel_rfl) (fun _ _ _ h => h) (Or.inl ⟨by rfl, ?_⟩) hHeld ?_
              focus (intro w' hSw; (try dsimp only at hSw); go_split_ands; simp only [List.getElem_toArray, List.getElem_cons_succ, List.getElem_cons_zero]; go_simp; done)
              simp only [List.getElem_toArray, List.getElem_cons_succ, List.getElem_cons_zero, Act.put, List.setIfInBounds_toArray, List.set_cons_zero, List.set_cons_succ]
              refine wpAnyH_take (i := 3) (oi := _) (v := (.bool true)) rfl (by as_aux_lemma => kernel_rfl) (by as_aux_lemma => kernel_rfl) (by as_aux_lemma => kernel_rfl) (fun _ _ _ h => h) (Or.inl ⟨by rfl, ?_⟩) hHeld ?_
              focus (intro w' hSw; (try dsimp only at hSw); go_split_ands; simp only [List.getElem_toArray, List.getElem_cons_succ, List.getElem_cons_zero]; go_simp; done)
              simp only [List.getElem_toArray, List.getElem_cons_succ, List.getElem_cons_zero, Act.put, List.setIfInBounds_toArray, List.set_cons_zero, List.set_cons_succ]
              refine wpAnyH_take (i := 4) (oi := _) (v := (.bool true)) rfl (by as_aux_lemma => kernel_rfl) (by as_aux_lemma => kernel_rfl) (by as_aux_lemma => kernel_rfl) (fun _ _ _ h => h) (Or.inl ⟨by rfl, ?_⟩) hHeld ?_
              focus (intro w' hSw; (try dsimp only at hSw); go_split_ands; simp only [List.getElem_toArray, List.getElem_cons_succ, List.getElem_cons_zero]; go_simp; done)
              simp only [List.getElem_toArray, List.getElem_cons_succ, List.getElem_cons_zero, Act.put, List.setIfInBounds_toArray, List.set_cons_zero, List.set_cons_succ]
              refine wpAnyH_take (i := 5) (oi := _) (v := (.agg #[.int .i64 N0, .slice an A0.length cn])) rfl (by as_aux_lemma => kernel_rfl) (by as_aux_lemma => kernel_rfl) (by as_aux_lemma => kernel_rfl) (fun _ _ _ h => h) (Or.inl ⟨by rfl, ?_⟩) hHeld ?_
              focus (intro w' hSw; (try dsimp only at hSw); go_split_ands; simp only [List.getElem_toArray, List.getElem_cons_succ, List.getElem_cons_zero]; go_simp; done)
              simp only [List.getElem_toArray, List.getElem_cons_succ, List.getElem_cons_zero, Act.put, List.setIfInBounds_toArray, List.set_cons_zero, List.set_cons_succ]
              refine wpAnyH_ready (rs := [6]) (by as_aux_lemma => kernel_rfl) (by simp) ?_
              refine AllReadyH.cons rfl (fun K hK => ?_) AllReadyH.nil
              simp only [List.getElem_toArray, List.getElem_cons_succ, List.getElem_cons_zero]
              go_simp
              go_at_call 13
              have hB6 : Below wa.heap.size wa _ := hHeld.2.2.2.2.2.2.2
              refine (implNetOk N0 A0 _ true HO0 _ (by omega) (arcs_on HX8.out.arcs hB6)).mono ?_
              rintro e x1 ⟨rfl, hb⟩
              have hBB := gh_chain hB6 hb
              have hS6 := c7_of HT4 HX8 HX10 hBB
              unfold C7 at hS6
              clear hb hB6 hHeld
              refine hK.out _ _ hS6 (fun hHeld => ?_)
              clear hK K hS6
              (try simp only [Act.put, List.setIfInBounds_toArray, List.set_cons_zero, List.set_cons_succ])
              refine wpAnyH_take (i := 7) (oi := _) (v := (.bool true)) rfl (by as_aux_lemma => kernel_rfl) (by as_aux_lemma => kernel_rfl) (by as_aux_lemma => kernel_rfl) (fun _ _ _ h => h) (Or.inl ⟨by rfl, ?_⟩) hHeld ?_
              focus (intro w' hSw; (try dsimp only at hSw); go_split_ands; simp only [List.getElem_toArray, List.getElem_cons_succ, List.getElem_cons_zero]; go_simp; done)
              simp only [List.getElem_toArray, List.getElem_cons_succ, List.getElem_cons_zero, Act.put, List.setIfInBounds_toArray, List.set_cons_zero, List.set_cons_succ]
              refine wpAnyH_take (i := 8) (oi := _) (v := (.bool true)) rfl (by as_aux_lemma => kernel_rfl) (by as_aux_lemma => kernel_rfl) (by as_aux_lemma => kernel_rfl) (fun _ _ _ h => h) (Or.inl ⟨by rfl, ?_⟩) hHeld ?_
              focus (intro w' hSw; (try dsimp only at hSw); go_split_ands; simp only [List.getElem_toArray, List.getElem_cons_succ, List.getElem_cons_zero]; go_simp; done)
              simp only [List.getElem_toArray, List.getElem_cons_succ, List.getElem_cons_zero, Act.put, List.setIfInBounds_toArray, List.set_cons_zero, List.set_cons_succ]
              refine wpAnyH_take (i := 9) (oi := _) (v := (.agg #[.int .i64 N1, .slice am A1.length cm])) rfl (by as_aux_lemma => kernel_rfl) (by as_aux_lemma => kernel_rfl) (by as_aux_lemma => kernel_rfl) (fun _ _ _ h => h) (Or.inl ⟨by rfl, ?_⟩) hHeld ?_
              focus (intro w' hSw; (try dsimp only at hSw); go_split_ands; simp only [List.getElem_toArray, List.getElem_cons_succ, List.getElem_cons_zero]; go_simp; done)
              simp only [List.getElem_toArray, List.getElem_cons_succ, List.getElem_cons_zero, Act.put, List.setIfInBounds_toArray, List.set_cons_zero, List.set_cons_succ]
              refine wpAnyH_ready (rs := [10]) (by as_aux_lemma => kernel_rfl) (by simp) ?_
              refine AllReadyH.cons rfl (fun K hK => ?_) AllReadyH.nil
              simp only [List.getElem_toArray, List.getElem_cons_succ, List.getElem_cons_zero]
              go_simp
              go_at_call 13
              have hB10 : Below wa.heap.size wa _ := hHeld.2.2.2.2.2.2.2
              refine (implNetOk N1 A1 _ true HO1 _ (by omega) (arcs_on HX10.out.arcs hB10)).mono ?_
              rintro e x2 ⟨rfl, hb⟩
              have hBB := gh_chain hB10 hb
              have hS10 := c7_of HT4 HX8 HX10 hBB
              unfold C7 at hS10
              clear hb hB10 hHeld
              refine hK.out _ _ hS10 (fun hHeld => ?_)
              clear hK K hS10
              (try simp only [Act.put, List.setIfInBounds_toArray, List.set_cons_zero, List.set_cons_succ])
              refine wpAnyH_take (i := 11) (oi := _) (v := (.bool true)) rfl (by as_aux_lemma => kernel_rfl) (by as_aux_lemma => kernel_rfl) (by as_aux_lemma => kernel_rfl) (fun _ _ _ h => h) (Or.inl ⟨by rfl, ?_⟩) hHeld ?_
              focus (intro w' hSw; (try dsimp only at hSw); go_split_ands; simp only [List.getElem_toArray, List.getElem_cons_succ, List.getElem_cons_zero]; go_simp; done)
              simp only [List.getElem_toArray, List.getElem_cons_succ, List.getElem_cons_zero, Act.put, List.setIfInBounds_toArray, List.set_cons_zero, List.set_cons_succ]
              refine wpAnyH_take (i := 12) (oi := _) (v := (.bool true)) rfl (by as_aux_lemma => kernel_rfl) (by as_aux_lemma => kernel_rfl) (by as_aux_lemma => kernel_rfl) (fun _ _ _ h => h) (Or.inl ⟨by rfl, ?_⟩) hHeld ?_
              focus (intro w' hSw; (try dsimp only at hSw); go_split_ands; simp only [List.getElem_toArray, List.getElem_cons_succ, List.getElem_cons_zero]; go_simp; done)
              simp only [List.getElem_toArray, List.getElem_cons_succ, List.getElem_cons_zero, Act.put, List.setIfInBounds_toArray, List.set_cons_zero, List.set_cons_succ]
              refine wpAnyH_take (i := 13) (oi := _) (v := (.pointer (some ⟨g8, 0, none⟩))) rfl (by as_aux_lemma => kernel_rfl) (by as_aux_lemma => kernel_rfl) (by as_aux_lemma => kernel_rfl) (fun _ _ _ h => h) (Or.inl ⟨by rfl, ?_⟩) hHeld ?_
              focus (intro w' hSw; (try dsimp only at hSw); go_split_ands; simp only [List.getElem_toArray, List.getElem_cons_succ, List.getElem_cons_zero]; go_simp; done)
              simp only [List.getElem_toArray, List.getElem_cons_succ, List.getElem_cons_zero, Act.put, List.setIfInBounds_toArray, List.set_cons_zero, List.set_cons_succ]
              refine wpAnyH_take (i := 14) (oi := _) (v := (.int .i64 N0)) rfl (by as_aux_lemma => kernel_rfl) (by as_aux_lemma => kernel_rfl) (by as_aux_lemma => kernel_rfl) (fun _ _ _ h => h) (Or.inl ⟨by rfl, ?_⟩) hHeld ?_
              focus (intro w' hSw; (try dsimp only at hSw); go_split_ands; simp only [List.getElem_toArray, List.getElem_cons_succ, List.getElem_cons_zero]; go_simp; done)
              simp only [List.getElem_toArray, List.getElem_cons_succ, List.getElem_cons_zero, Act.put, List.setIfInBounds_toArray, List.set_cons_zero, List.set_cons_succ]
              refine wpAnyH_take (i := 15) (oi := _) (v := (.int .i64 F.length)) rfl (by as_aux_lemma => kernel_rfl) (by as_aux_lemma => kernel_rfl) (by as_aux_lemma => kernel_rfl) (fun _ _ _ h => h) (Or.inl ⟨by rfl, ?_⟩) hHeld ?_
              focus (intro w' hSw; (try dsimp only at hSw); go_split_ands; simp only [List.getElem_toArray, List.getElem_cons_succ, List.getElem_cons_zero]; go_simp; done)
              simp only [List.getElem_toArray, List.getElem_cons_succ, List.getElem_cons_zero, Act.put, List.setIfInBounds_toArray, List.set_cons_zero, List.set_cons_succ]
              refine wpAnyH_take (i := 16) (oi := _) (v := (.int .i64 f2)) rfl (by as_aux_lemma => kernel_rfl) (by as_aux_lemma => kernel_rfl) (by as_aux_lemma => kernel_rfl) (fun _ _ _ h => h) (Or.inl ⟨by rfl, ?_⟩) hHeld ?_
              focus (intro w' hSw; (try dsimp only at hSw); go_split_ands; simp only [List.getElem_toArray, List.getElem_cons_succ, List.getElem_cons_zero]; go_simp; done)
              simp only [List.getElem_toArray, List.getElem_cons_succ, List.getElem_cons_zero, Act.put, List.setIfInBounds_toArray, List.set_cons_zero, List.set_cons_succ]
              refine wpAnyH_take (i := 17) (oi := _) (v := (.int .i64 t)) rfl (by as_aux_lemma => kernel_rfl) (by as_aux_lemma => kernel_rfl) (by as_aux_lemma => kernel_rfl) (fun _ _ _ h => h) (Or.inl ⟨by rfl, ?_⟩) hHeld ?_
              focus (intro w' hSw; (try dsimp only at hSw); go_split_ands; simp only [List.getElem_toArray, List.getElem_cons_succ, List.getElem_cons_zero]; go_simp; done)
              simp only [List.getElem_toArray, List.getElem_cons_succ, List.getElem_cons_zero, Act.put, List.setIfInBounds_toArray, List.set_cons_zero, List.set_cons_succ]
              refine wpAnyH_take (i := 18) (oi := _) (v := (.int .i64 ((t : Int) + 1))) rfl (by as_aux_lemma => kernel_rfl) (by as_aux_lemma => kernel_rfl) (by as_aux_lemma => kernel_rfl) (fun _ _ _ h => h) (Or.inl ⟨by rfl, ?_⟩) hHeld ?_
              focus (intro w' hSw; (try dsimp only at hSw); go_split_ands; simp only [List.getElem_toArray, List.getElem_cons_succ, List.getElem_cons_zero]; go_simp; done)
              simp only [List.getElem_toArray, List.getElem_cons_succ, List.getElem_cons_zero, Act.put, List.setIfInBounds_toArray, List.set_cons_zero, List.set_cons_succ]
              refine wpAnyH_take (i := 19) (oi := _) (v := (.int .i64 f3)) rfl (by as_aux_lemma => kernel_rfl) (by as_aux_lemma => kernel_rfl) (by as_aux_lemma => kernel_rfl) (fun _ _ _ h => h) (Or.inl ⟨by rfl, ?_⟩) hHeld ?_
              focus (intro w' hSw; (try dsimp only at hSw); go_split_ands; simp only [List.getElem_toArray, List.getElem_cons_succ, List.getElem_cons_zero]; go_simp; done)
              simp only [List.getElem_toArray, List.getElem_cons_succ, List.getElem_cons_zero, Act.put, List.setIfInBounds_toArray, List.set_cons_zero, List.set_cons_succ]
              refine wpAnyH_take (i := 20) (oi := _) (v := (.int .i64 N0)) rfl (by as_aux_lemma => kernel_rfl) (by as_aux_lemma => kernel_rfl) (by as_aux_lemma => kernel_rfl) (fun _ _ _ h => h) (Or.inl ⟨by rfl, ?_⟩) hHeld ?_
              focus (intro w' hSw; (try dsimp only at hSw); go_split_ands; simp only [List.getElem_toArray, List.getElem_cons_succ, List.getElem_cons_zero]; go_simp; done)
              simp only [List.getElem_toArray, List.getElem_cons_succ, List.getElem_cons_zero, Act.put, List.setIfInBounds_toArray, List.set_cons_zero, List.set_cons_succ]
              refine wpAnyH_take (i := 21) (oi := _) (v := (.bool true)) rfl (by as_aux_lemma => kernel_rfl) (by as_aux_lemma => kernel_rfl) (by as_aux_lemma => kernel_rfl) (fun _ _ _ h => h) (Or.inl ⟨by rfl, ?_⟩) hHeld ?_
              focus (intro w' hSw; (try dsimp only at hSw); go_split_ands; simp only [List.getElem_toArray, List.getElem_cons_succ, List.getElem_cons_zero]; go_simp; done)
              simp only [List.getElem_toArray, List.getElem_cons_succ, List.getElem_cons_zero, Act.put, List.setIfInBounds_toArray, List.set_cons_zero, List.set_cons_succ]
              refine wpAnyH_take (i := 22) (oi := _) (v := (.bool true)) rfl (by as_aux_lemma => kernel_rfl) (by as_aux_lemma => kernel_rfl) (by as_aux_lemma => kernel_rfl) (fun _ _ _ h => h) (Or.inl ⟨by rfl, ?_⟩) hHeld ?_
              focus (intro w' hSw; (try dsimp only at hSw); go_split_ands; simp only [List.getElem_toArray, List.getElem_cons_succ, List.getElem_cons_zero]; go_simp; done)
              simp only [List.getElem_toArray, List.getElem_cons_succ, List.getElem_cons_zero, Act.put, List.setIfInBounds_toArray, List.set_cons_zero, List.set_cons_succ]
              refine wpAnyH_take (i := 23) (oi := _) (v := (.bool true)) rfl (by as_aux_lemma => kernel_rfl) (by as_aux_lemma => kernel_rfl) (by as_aux_lemma => kernel_rfl) (fun _ _ _ h => h) (Or.inl ⟨by rfl, ?_⟩) hHeld ?_
              focus (intro w' hSw; (try dsimp only at hSw); go_split_ands; simp only [List.getElem_toArray, List.getElem_cons_succ, List.getElem_cons_zero]; go_simp; done)
              simp only [List.getElem_toArray, List.getElem_cons_succ, List.getElem_cons_zero, Act.put, List.setIfInBounds_toArray, List.set_cons_zero, List.set_cons_succ]
              refine wpAnyH_take (i := 24) (oi := _) (v := (.pointer (some ⟨g10, 0, none⟩))) rfl (by as_aux_lemma => kernel_rfl) (by as_aux_lemma => kernel_rfl) (by as_aux_lemma => kernel_rfl) (fun _ _ _ h => h) (Or.inl ⟨by rfl, ?_⟩) hHeld ?_
              focus (intro w' hSw; (try dsimp only at hSw); go_split_ands; simp only [List.getElem_toArray, List.getElem_cons_succ, List.getElem_cons_zero]; go_simp; done)
              simp only [List.getElem_toArray, List.getElem_cons_succ, List.getElem_cons_zero, Act.put, List.setIfInBounds_toArray, List.set_cons_zero, List.set_cons_succ]
              refine wpAnyH_take (i := 25) (oi := _) (v := (.int .i64 N1)) rfl (by as_aux_lemma => kernel_rfl) (by as_aux_lemma => kernel_rfl) (by as_aux_lemma => kernel_rfl) (fun _ _ _ h => h) (Or.inl ⟨by rfl, ?_⟩) hHeld ?_
              focus (intro w' hSw; (try dsimp only at hSw); go_split_ands; simp only [List.getElem_toArray, List.getElem_cons_succ, List.getElem_cons_zero]; go_simp; done)
              simp only [List.getElem_toArray, List.getElem_cons_succ, List.getElem_cons_zero, Act.put, List.setIfInBounds_toArray, List.set_cons_zero, List.set_cons_succ]
              refine wpAnyH_take (i := 26) (oi := _) (v := (.pointer (some ⟨g8, 0, none⟩))) rfl (by as_aux_lemma => kernel_rfl) (by as_aux_lemma => kernel_rfl) (by as_aux_lemma => kernel_rfl) (fun _ _ _ h => h) (Or.inl ⟨by rfl, ?_⟩) hHeld ?_
              focus (intro w' hSw; (try dsimp only at hSw); go_split_ands; simp only [List.getElem_toArray, List.getElem_cons_succ, List.getElem_cons_zero]; go_simp; done)
              simp only [List.getElem_toArray, List.getElem_cons_succ, List.getElem_cons_zero, Act.put, List.setIfInBounds_toArray, List.set_cons_zero, List.set_cons_succ]
              refine wpAnyH_take (i := 27) (oi := _) (v := (.int .i64 N0)) rfl (by as_aux_lemma => kernel_rfl) (by as_aux_lemma => kernel_rfl) (by as_aux_lemma => kernel_rfl) (fun _ _ _ h => h) (Or.inl ⟨by rfl, ?_⟩) hHeld ?_
              focus (intro w' hSw; (try dsimp only at hSw); go_split_ands; simp only [List.getElem_toArray, List.getElem_cons_succ, List.getElem_cons_zero]; go_simp; done)
              simp only [List.getElem_toArray, List.getElem_cons_succ, List.getElem_cons_zero, Act.put, List.setIfInBounds_toArray, List.set_cons_zero, List.set_cons_succ]
              refine wpAnyH_take (i := 28) (oi := _) (v := (.agg #[.int .i64 a, .int .i64 b, .string C])) rfl (by as_aux_lemma => kernel_rfl) (by as_aux_lemma => kernel_rfl) (by as_aux_lemma => kernel_rfl) (fun _ _ _ h => h) (Or.inl ⟨by rfl, ?_⟩) hHeld ?_
              focus (intro w' hSw; (try dsimp only at hSw); go_split_ands; simp only [List.getElem_toArray, List.getElem_cons_succ, List.getElem_cons_zero]; go_simp; done)
              simp only [List.getElem_toArray, List.getElem_cons_succ, List.getElem_cons_zero, Act.put, List.setIfInBounds_toArray, List.set_cons_zero, List.set_cons_succ]
              refine wpAnyH_take (i := 31) (oi := _) (v := (.int .i64 t)) rfl (by as_aux_lemma => kernel_rfl) (by as_aux_lemma => kernel_rfl) (by as_aux_lemma => kernel_rfl) (fun _ _ _ h => h) (Or.inl ⟨by rfl, ?_⟩) hHeld ?_
              focus (intro w' hSw; (try dsimp only at hSw); go_split_ands; simp only [List.getElem_toArray, List.getElem_cons_succ, List.getElem_cons_zero]; go_simp; done)
              simp only [List.getElem_toArray, List.getElem_cons_succ, List.getElem_cons_zero, Act.put, List.setIfInBounds_toArray, List.set_cons_zero, List.set_cons_succ]
              refine wpAnyH_ready (rs := [29]) (by as_aux_lemma => kernel_rfl) (by simp) ?_
              refine AllReadyH.cons rfl (fun K hK => ?_) AllReadyH.nil
              simp only [List.getElem_toArray, List.getElem_cons_succ, List.getElem_cons_zero]
              go_simp
              go_at_call 14
              have hB29 : Below wa.heap.size wa _ := hHeld.2.2.2.2.2.2.2
              refine (implPairs a b C p hC HPV _ (HSa.out.below hB29)).mono ?_
              rintro e x3 ⟨rfl, hb⟩
              have hBB := gh_chain hB29 hb
              have hS29 := c7_of HT4 HX8 HX10 hBB
              unfold C7 at hS29
              clear hb hB29 hHeld
              refine hK.out _ _ hS29 (fun hHeld => ?_)
              clear hK K hS29
              (try simp only [Act.put, List.setIfInBounds_toArray, List.set_cons_zero, List.set_cons_succ])
              refine wpAnyH_take (i := 30) (oi := _) (v := (.int .i64 p2)) rfl (by as_aux_lemma => kernel_rfl) (by as_aux_lemma => kernel_rfl) (by as_aux_lemma => kernel_rfl) (fun _ _ _ h => h) (Or.inl ⟨by rfl, ?_⟩) hHeld ?_
              focus (intro w' hSw; (try dsimp only at hSw); go_split_ands; simp only [List.getElem_toArray, List.getElem_cons_succ, List.getElem_cons_zero]; go_simp; done)
              simp only [List.getElem_toArray, List.getElem_cons_succ, List.getElem_cons_zero, Act.put, List.setIfInBounds_toArray, List.set_cons_zero, List.set_cons_succ]
              refine wpAnyH_take (i := 32) (oi := _) (v := (.int .i64 p3)) rfl (by as_aux_lemma => kernel_rfl) (by as_aux_lemma => kernel_rfl) (by as_aux_lemma => kernel_rfl) (fun _ _ _ h => h) (Or.inl ⟨by rfl, ?_⟩) hHeld ?_
              focus (intro w' hSw; (try dsimp only at hSw); go_split_ands; simp only [List.getElem_toArray, List.getElem_cons_succ, List.getElem_cons_zero]; go_simp; done)
              simp only [List.getElem_toArray, List.getElem_cons_succ, List.getElem_cons_zero, Act.put, List.setIfInBounds_toArray, List.set_cons_zero, List.set_cons_succ]
              refine wpAnyH_take (i := 33) (oi := _) (v := (.int .i64 N1)) rfl (by as_aux_lemma => kernel_rfl) (by as_aux_lemma => kernel_rfl) (by as_aux_lemma => kernel_rfl) (fun _ _ _ h => h) (Or.inl ⟨by rfl, ?_⟩) hHeld ?_
              focus (intro w' hSw; (try dsimp only at hSw); go_split_ands; simp only [List.getElem_toArray, List.getElem_cons_succ, List.getElem_cons_zero]; go_simp; done)
              simp only [List.getElem_toArray, List.getElem_cons_succ, List.getElem_cons_zero, Act.put, List.setIfInBounds_toArray, List.set_cons_zero, List.set_cons_succ]
              refine wpAnyH_take (i := 34) (oi := _) (v := (.bool true)) rfl (by as_aux_lemma => kernel_rfl) (by as_aux_lemma => kernel_rfl) (by as_aux_lemma => kernel_rfl) (fun _ _ _ h => h) (Or.inl ⟨by rfl, ?_⟩) hHeld ?_
              focus (intro w' hSw; (try dsimp only at hSw); go_split_ands; simp only [List.getElem_toArray, List.getElem_cons_succ, List.getElem_cons_zero]; go_simp; done)
              simp only [List.getElem_toArray, List.getElem_cons_succ, List.getElem_cons_zero, Act.put, List.setIfInBounds_toArray, List.set_cons_zero, List.set_cons_succ]
              refine wpAnyH_take (i := 35) (oi := _) (v := (.bool true)) rfl (by as_aux_lemma => kernel_rfl) (by as_aux_lemma => kernel_rfl) (by as_aux_lemma => kernel_rfl) (fun _ _ _ h => h) (Or.inl ⟨by rfl, ?_⟩) hHeld ?_
              focus (intro w' hSw; (try dsimp only at hSw); go_split_ands; simp only [List.getElem_toArray, List.getElem_cons_succ, List.getElem_cons_zero]; go_simp; done)
              simp only [List.getElem_toArray, List.getElem_cons_succ, List.getElem_cons_zero, Act.put, List.setIfInBounds_toArray, List.set_cons_zero, List.set_cons_succ]
              refine wpAnyH_take (i := 36) (oi := _) (v := (.bool true)) rfl (by as_aux_lemma => kernel_rfl) (by as_aux_lemma => kernel_rfl) (by as_aux_lemma => kernel_rfl) (fun _ _ _ h => h) (Or.inl ⟨by rfl, ?_⟩) hHeld ?_
              focus (intro w' hSw; (try dsimp only at hSw); go_split_ands; simp only [List.getElem_toArray, List.getElem_cons_succ, List.getElem_cons_zero]; go_simp; done)
              simp only [List.getElem_toArray, List.getElem_cons_succ, List.getElem_cons_zero, Act.put, List.setIfInBounds_toArray, List.set_cons_zero, List.set_cons_succ]
              refine wpAnyH_take (i := 37) (oi := _) (v := (.int .i64 z)) rfl (by as_aux_lemma => kernel_rfl) (by as_aux_lemma => kernel_rfl) (by as_aux_lemma => kernel_rfl) (fun _ _ _ h => h) (Or.inl ⟨by rfl, ?_⟩) hHeld ?_
              focus (intro w' hSw; (try dsimp only at hSw); go_split_ands; simp only [List.getElem_toArray, List.getElem_cons_succ, List.getElem_cons_zero]; go_simp; done)
              simp only [List.getElem_toArray, List.getElem_cons_succ, List.getElem_cons_zero, Act.put, List.setIfInBounds_toArray, List.set_cons_zero, List.set_cons_succ]
              refine wpAnyH_take (i := 38) (oi := _) (v := (.bool true)) rfl (by as_aux_lemma => kernel_rfl) (by as_aux_lemma => kernel_rfl) (by as_aux_lemma => kernel_rfl) (fun _ _ _ h => h) (Or.inl ⟨by rfl, ?_⟩) hHeld ?_
              focus (intro w' hSw; (try dsimp only at hSw); go_split_ands; simp only [List.getElem_toArray, List.getElem_cons_succ, List.getElem_cons_zero]; go_simp; done)
              simp only [List.getElem_toArray, List.getElem_cons_succ, List.getElem_cons_zero, Act.put, List.setIfInBounds_toArray, List.set_cons_zero, List.set_cons_succ]
              refine wpAnyH_take (i := 39) (oi := _) (v := (.bool true)) rfl (by as_aux_lemma => kernel_rfl) (by as_aux_lemma => kernel_rfl) (by as_aux_lemma => kernel_rfl) (fun _ _ _ h => h) (Or.inl ⟨by rfl, ?_⟩) hHeld ?_
              focus (intro w' hSw; (try dsimp only at hSw); go_split_ands; simp only [List.getElem_toArray, List.getElem_cons_succ, List.getElem_cons_zero]; go_simp; done)
              simp only [List.getElem_toArray, List.getElem_cons_succ, List.getElem_cons_zero, Act.put, List.setIfInBounds_toArray, List.set_cons_zero, List.set_cons_succ]
              refine wpAnyH_take (i := 40) (oi := _) (v := (.bool true)) rfl (by as_aux_lemma => kernel_rfl) (by as_aux_lemma => kernel_rfl) (by as_aux_lemma => kernel_rfl) (fun _ _ _ h => h) (Or.inl ⟨by rfl, ?_⟩) hHeld ?_
              focus (intro w' hSw; (try dsimp only at hSw); go_split_ands; simp only [List.getElem_toArray, List.getElem_cons_succ, List.getElem_cons_zero]; go_simp; done)
              simp only [List.getElem_toArray, List.getElem_cons_succ, List.getElem_cons_zero, Act.put, List.setIfInBounds_toArray, List.set_cons_zero, List.set_cons_succ]
              refine wpAnyH_take (i := 41) (oi := _) (v := (.int .i64 z)) rfl (by as_aux_lemma => kernel_rfl) (by as_aux_lemma => kernel_rfl) (by as_aux_lemma => kernel_rfl) (fun _ _ _ h => h) (Or.inl ⟨by rfl, ?_⟩) hHeld ?_
              focus (intro w' hSw; (try dsimp only at hSw); go_split_ands; simp only [List.getElem_toArray, List.getElem_cons_succ, List.getElem_cons_zero]; go_simp; done)
              simp only [List.getElem_toArray, List.getElem_cons_succ, List.getElem_cons_zero, Act.put, List.setIfInBounds_toArray, List.set_cons_zero, List.set_cons_succ]
              refine wpAnyH_take (i := 42) (oi := _) (v := (.slice s5 S.length k5)) rfl (by as_aux_lemma => kernel_rfl) (by as_aux_lemma => kernel_rfl) (by as_aux_lemma => kernel_rfl) (fun _ _ _ h => h) (Or.inl ⟨by rfl, ?_⟩) hHeld ?_
              focus (intro w' hSw; (try dsimp only at hSw); go_split_ands; simp only [List.getElem_toArray, List.getElem_cons_succ, List.getElem_cons_zero]; go_simp; done)
              simp only [List.getElem_toArray, List.getElem_cons_succ, List.getElem_cons_zero, Act.put, List.setIfInBounds_toArray, List.set_cons_zero, List.set_cons_succ]
              refine wpAnyH_take (i := 43) (oi := _) (v := (.int .i64 S.length)) rfl (by as_aux_lemma => kernel_rfl) (by as_aux_lemma => kernel_rfl) (by as_aux_lemma => kernel_rfl) (fun _ _ _ h => h) (Or.inl ⟨by rfl, ?_⟩) hHeld ?_
              focus (intro w' hSw; (try dsimp only at hSw); go_split_ands; simp only [List.getElem_toArray, List.getElem_cons_succ, List.getElem_cons_zero]; go_simp; done)
              simp only [List.getElem_toArray, List.getElem_cons_succ, List.getElem_cons_zero, Act.put, List.setIfInBounds_toArray, List.set_cons_zero, List.set_cons_succ]
              refine wpAnyH_take (i := 44) (oi := _) (v := (.bool true)) rfl (by as_aux_lemma => kernel_rfl) (by as_aux_lemma => kernel_rfl) (by as_aux_lemma => kernel_rfl) (fun _ _ _ h => h) (Or.inl ⟨by rfl, ?_⟩) hHeld ?_
              focus (intro w' hSw; (try dsimp only at hSw); go_split_ands; simp only [List.getElem_toArray, List.getElem_cons_succ, List.getElem_cons_zero]; go_simp; done)
              simp only [List.getElem_toArray, List.getElem_cons_succ, List.getElem_cons_zero, Act.put, List.setIfInBounds_toArray, List.set_cons_zero, List.set_cons_succ]
              refine wpAnyH_take (i := 45) (oi := _) (v := (.bool true)) rfl (by as_aux_lemma => kernel_rfl) (by as_aux_lemma => kernel_rfl) (by as_aux_lemma => kernel_rfl) (fun _ _ _ h => h) (Or.inl ⟨by rfl, ?_⟩) hHeld ?_
              focus (intro w' hSw; (try dsimp only at hSw); go_split_ands; simp only [List.getElem_toArray, List.getElem_cons_succ, List.getElem_cons_zero]; go_simp; done)
              simp only [List.getElem_toArray, List.getElem_cons_succ, List.getElem_cons_zero, Act.put, List.setIfInBounds_toArray, List.set_cons_zero, List.set_cons_succ]
              refine wpAnyH_take (i := 46) (oi := _) (v := (.bool true)) rfl (by as_aux_lemma => kernel_rfl) (by as_aux_lemma => kernel_rfl) (by as_aux_lemma => kernel_rfl) (fun _ _ _ h => h) (Or.inl ⟨by rfl, ?_⟩) hHeld ?_
              focus (intro w' hSw; (try dsimp only at hSw); go_split_ands; simp only [List.getElem_toArray, List.getElem_cons_succ, List.getElem_cons_zero]; go_simp; done)
              simp only [List.getElem_toArray, List.getElem_cons_succ, List.getElem_cons_zero, Act.put, List.setIfInBounds_toArray, List.set_cons_zero, List.set_cons_succ]
              refine wpAnyH_take (i := 47) (oi := _) (v := (.int .i64 z)) rfl (by as_aux_lemma => kernel_rfl) (by as_aux_lemma => kernel_rfl) (by as_aux_lemma => kernel_rfl) (fun _ _ _ h => h) (Or.inl ⟨by rfl, ?_⟩) hHeld ?_
              focus (intro w' hSw; (try dsimp only at hSw); go_split_ands; simp only [List.getElem_toArray, List.getElem_cons_succ, List.getElem_cons_zero]; go_simp; done)
              simp only [List.getElem_toArray, List.getElem_cons_succ, List.getElem_cons_zero, Act.put, List.setIfInBounds_toArray, List.set_cons_zero, List.set_cons_succ]
              refine wpAnyH_take (i := 48) (oi := _) (v := (.int .i64 z)) rfl (by as_aux_lemma => kernel_rfl) (by as_aux_lemma => kernel_rfl) (by as_aux_lemma => kernel_rfl) (fun _ _ _ h => h) (Or.inl ⟨by rfl, ?_⟩) hHeld ?_
              focus (intro w' hSw; (try dsimp only at hSw); go_split_ands; simp only [List.getElem_toArray, List.getElem_cons_succ, List.getElem_cons_zero]; go_simp; done)
              simp only [List.getElem_toArray, List.getElem_cons_succ, List.getElem_cons_zero, Act.put, List.setIfInBounds_toArray, List.set_cons_zero, List.set_cons_succ]
              refine wpAnyH_take (i := 49) (oi := _) (v := (.bool true)) rfl (by as_aux_lemma => kernel_rfl) (by as_aux_lemma => kernel_rfl) (by as_aux_lemma => kernel_rfl) (fun _ _ _ h => h) (Or.inl ⟨by rfl, ?_⟩) hHeld ?_
              focus (intro w' hSw; (try dsimp only at hSw); go_split_ands; simp only [List.getElem_toArray, List.getElem_cons_succ, List.getElem_cons_zero]; go_simp; done)
              simp only [List.getElem_toArray, List.getElem_cons_succ, List.getElem_cons_zero, Act.put, List.setIfInBounds_toArray, List.set_cons_zero, List.set_cons_succ]
              refine wpAnyH_take (i := 50) (oi := _) (v := (.bool true)) rfl (by as_aux_lemma => kernel_rfl) (by as_aux_lemma => kernel_rfl) (by as_aux_lemma => kernel_rfl) (fun _ _ _ h => h) (Or.inl ⟨by rfl, ?_⟩) hHeld ?_
              focus (intro w' hSw; (try dsimp only at hSw); go_split_ands; simp only [List.getElem_toArray, List.getElem_cons_succ, List.getElem_cons_zero]; go_simp; done)
              simp only [List.getElem_toArray, List.getElem_cons_succ, List.getElem_cons_zero, Act.put, List.setIfInBounds_toArray, List.set_cons_zero, List.set_cons_succ]
              refine wpAnyH_take (i := 51) (oi := _) (v := (.bool true)) rfl (by as_aux_lemma => kernel_rfl) (by as_aux_lemma => kernel_rfl) (by as_aux_lemma => kernel_rfl) (fun _ _ _ h => h) (Or.inl ⟨by rfl, ?_⟩) hHeld ?_
              focus (intro w' hSw; (try dsimp only at hSw); go_split_ands; simp only [List.getElem_toArray, List.getElem_cons_succ, List.getElem_cons_zero]; go_simp; done)
              simp only [List.getElem_toArray, List.getElem_cons_succ, List.getElem_cons_zero, Act.put, List.setIfInBounds_toArray, List.set_cons_zero, List.set_cons_succ]
              refine wpAnyH_take (i := 52) (oi := _) (v := (.bool true)) rfl (by as_aux_lemma => kernel_rfl) (by as_aux_lemma => kernel_rfl) (by as_aux_lemma => kernel_rfl) (fun _ _ _ h => h) (Or.inl ⟨by rfl, ?_⟩) hHeld ?_
              focus (intro w' hSw; (try dsimp only at hSw); go_split_ands; simp only [List.getElem_toArray, List.getElem_cons_succ, List.getElem_cons_zero]; go_simp; done)
              simp only [List.getElem_toArray, List.getElem_cons_succ, List.getElem_cons_zero, Act.put, List.setIfInBounds_toArray, List.set_cons_zero, List.set_cons_succ]
              refine wpAnyH_take (i := 53) (oi := _) (v := (.int .i64 z)) rfl (by as_aux_lemma => kernel_rfl) (by as_aux_lemma => kernel_rfl) (by as_aux_lemma => kernel_rfl) (fun _ _ _ h => h) (Or.inl ⟨by rfl, ?_⟩) hHeld ?_
              focus (intro w' hSw; (try dsimp only at hSw); go_split_ands; simp only [List.getElem_toArray, List.getElem_cons_succ, List.getElem_cons_zero]; go_simp; done)
              simp only [List.getElem_toArray, List.getElem_cons_succ, List.getElem_cons_zero, Act.put, List.setIfInBounds_toArray, List.set_cons_zero, List.set_cons_succ]
              refine wpAnyH_take (i := 54) (oi := _) (v := (.slice s5 S.length k5)) rfl (by as_aux_lemma => kernel_rfl) (by as_aux_lemma => kernel_rfl) (by as_aux_lemma => kernel_rfl) (fun _ _ _ h => h) (Or.inl ⟨by rfl, ?_⟩) hHeld ?_
              focus (intro w' hSw; (try dsimp only at hSw); go_split_ands; simp only [List.getElem_toArray, List.getElem_cons_succ, List.getElem_cons_zero]; go_simp; done)
              simp only [List.getElem_toArray, List.getElem_cons_succ, List.getElem_cons_zero, Act.put, List.setIfInBounds_toArray, List.set_cons_zero, List.set_cons_succ]
              refine wpAnyH_take (i := 55) (oi := _) (v := (.int .i64 S.length)) rfl (by as_aux_lemma => kernel_rfl) (by as_aux_lemma => kernel_rfl) (by as_aux_lemma => kernel_rfl) (fun _ _ _ h => h) (Or.inl ⟨by rfl, ?_⟩) hHeld ?_
              focus (intro w' hSw; (try dsimp only at hSw); go_split_ands; simp only [List.getElem_toArray, List.getElem_cons_succ, List.getElem_cons_zero]; go_simp; done)
              simp only [List.getElem_toArray, List.getElem_cons_succ, List.getElem_cons_zero, Act.put, List.setIfInBounds_toArray, List.set_cons_zero, List.set_cons_succ]
              refine wpAnyH_take (i := 56) (oi := _) (v := (.bool true)) rfl (by as_aux_lemma => kernel_rfl) (by as_aux_lemma => kernel_rfl) (by as_aux_lemma => kernel_rfl) (fun _ _ _ h => h) (Or.inl ⟨by rfl, ?_⟩) hHeld ?_
              focus (intro w' hSw; (try dsimp only at hSw); go_split_ands; simp only [List.getElem_toArray, List.getElem_cons_succ, List.getElem_cons_zero]; go_simp; done)
              simp only [List.getElem_toArray, List.getElem_cons_succ, List.getElem_cons_zero, Act.put, List.setIfInBounds_toArray, List.set_cons_zero, List.set_cons_succ]
              refine wpAnyH_take (i := 57) (oi := _) (v := (.bool true)) rfl (by as_aux_lemma => kernel_rfl) (by as_aux_lemma => kernel_rfl) (by as_aux_lemma => kernel_rfl) (fun _ _ _ h => h) (Or.inl ⟨by rfl, ?_⟩) hHeld ?_
              focus (intro w' hSw; (try dsimp only at hSw); go_split_ands; simp only [List.getElem_toArray, List.getElem_cons_succ, List.getElem_cons_zero]; go_simp; done)
              simp only [List.getElem_toArray, List.getElem_cons_succ, List.getElem_cons_zero, Act.put, List.setIfInBounds_toArray, List.set_cons_zero, List.set_cons_succ]
              refine wpAnyH_take (i := 58) (oi := _) (v := (.bool true)) rfl (by as_aux_lemma => kernel_rfl) (by as_aux_lemma => kernel_rfl) (by as_aux_lemma => kernel_rfl) (fun _ _ _ h => h) (Or.inl ⟨by rfl, ?_⟩) hHeld ?_
              focus (intro w' hSw; (try dsimp only at hSw); go_split_ands; simp only [List.getElem_toArray, List.getElem_cons_succ, List.getElem_cons_zero]; go_simp; done)
              simp only [List.getElem_toArray, List.getElem_cons_succ, List.getElem_cons_zero, Act.put, List.setIfInBounds_toArray, List.set_cons_zero, List.set_cons_succ]
              refine wpAnyH_take (i := 59) (oi := _) (v := (.bool true)) rfl (by as_aux_lemma => kernel_rfl) (by as_aux_lemma => kernel_rfl) (by as_aux_lemma => kernel_rfl) (fun _ _ _ h => h) (Or.inl ⟨by rfl, ?_⟩) hHeld ?_
              focus (intro w' hSw; (try dsimp only at hSw); go_split_ands; simp only [List.getElem_toArray, List.getElem_cons_succ, List.getElem_cons_zero]; go_simp; done)
              simp only [List.getElem_toArray, List.getElem_cons_succ, List.getElem_cons_zero, Act.put, List.setIfInBounds_toArray, List.set_cons_zero, List.set_cons_succ]
              refine wpAnyH_take (i := 60) (oi := _) (v := (.bool true)) rfl (by as_aux_lemma => kernel_rfl) (by as_aux_lemma => kernel_rfl) (by as_aux_lemma => kernel_rfl) (fun _ _ _ h => h) (Or.inl ⟨by rfl, ?_⟩) hHeld ?_
              focus (intro w' hSw; (try dsimp only at hSw); go_split_ands; simp only [List.getElem_toArray, List.getElem_cons_succ, List.getElem_cons_zero]; go_simp; done)
              simp only [List.getElem_toArray, List.getElem_cons_succ, List.getElem_cons_zero, Act.put, List.setIfInBounds_toArray, List.set_cons_zero, List.set_cons_succ]
              refine wpAnyH_take (i := 61) (oi := _) (v := (.bool false)) rfl (by as_aux_lemma => kernel_rfl) (by as_aux_lemma => kernel_rfl) (by as_aux_lemma => kernel_rfl) (fun _ _ _ h => h) (Or.inl ⟨by rfl, ?_⟩) hHeld ?_
              focus (intro w' hSw; (try dsimp only at hSw); go_split_ands; simp only [List.getElem_toArray, List.getElem_cons_succ, List.getElem_cons_zero]; go_simp; done)
              simp only [List.getElem_toArray, List.getElem_cons_succ, List.getElem_cons_zero, Act.put, List.setIfInBounds_toArray, List.set_cons_zero, List.set_cons_succ]
              refine wpAnyH_take (i := 62) (oi := _) (v := (.bool false)) rfl (by as_aux_lemma => kernel_rfl) (by as_aux_lemma => kernel_rfl) (by as_aux_lemma => kernel_rfl) (fun _ _ _ h => h) (Or.inl ⟨by rfl, ?_⟩) hHeld ?_
              focus (intro w' hSw; (try dsimp only at hSw); go_split_ands; simp only [List.getElem_toArray, List.getElem_cons_succ, List.getElem_cons_zero]; go_simp; done)
              simp only [List.getElem_toArray, List.getElem_cons_succ, List.getElem_cons_zero, Act.put, List.setIfInBounds_toArray, List.set_cons_zero, List.set_cons_succ]
              refine wpAnyH_take (i := 63) (oi := _) (v := (.bool true)) rfl (by as_aux_lemma => kernel_rfl) (by as_aux_lemma => kernel_rfl) (by as_aux_lemma => kernel_rfl) (fun _ _ _ h => h) (Or.inl ⟨by rfl, ?_⟩) hHeld ?_
              focus (intro w' hSw; (try dsimp only at hSw); go_split_ands; simp only [List.getElem_toArray, List.getElem_cons_succ, List.getElem_cons_zero]; go_simp; done)
              simp only [List.getElem_toArray, List.getElem_cons_succ, List.getElem_cons_zero, Act.put, List.setIfInBounds_toArray, List.set_cons_zero, List.set_cons_succ]
              refine wpAnyH_take (i := 64) (oi := _) (v := (.bool true)) rfl (by as_aux_lemma => kernel_rfl) (by as_aux_lemma => kernel_rfl) (by as_aux_lemma => kernel_rfl) (fun _ _ _ h => h) (Or.inl ⟨by rfl, ?_⟩) hHeld ?_
              focus (intro w' hSw; (try dsimp only at hSw); go_split_ands; simp only [List.getElem_toArray, List.getElem_cons_succ, List.getElem_cons_zero]; go_simp; done)
              simp only [List.getElem_toArray, List.getElem_cons_succ, List.getElem_cons_zero, Act.put, List.setIfInBounds_toArray, List.set_cons_zero, List.set_cons_succ]
              refine wpAnyH_take (i := 65) (oi := _) (v := (.bool true)) rfl (by as_aux_lemma => kernel_rfl) (by as_aux_lemma => kernel_rfl) (by as_aux_lemma => kernel_rfl) (fun _ _ _ h => h) (Or.inl ⟨by rfl, ?_⟩) hHeld ?_
              focus (intro w' hSw; (try dsimp only at hSw); go_split_ands; simp only [List.getElem_toArray, List.getElem_cons_succ, List.getElem_cons_zero]; go_simp; done)
              simp only [List.getElem_toArray, List.getElem_cons_succ, List.getElem_cons_zero, Act.put, List.setIfInBounds_toArray, List.set_cons_zero, List.set_cons_succ]
              refine wpAnyH_take (i := 66) (oi := _) (v := (.bool true)) rfl (by as_aux_lemma => kernel_rfl) (by as_aux_lemma => kernel_rfl) (by as_aux_lemma => kernel_rfl) (fun _ _ _ h => h) (Or.inl ⟨by rfl, ?_⟩) hHeld ?_
              focus (intro w' hSw; (try dsimp only at hSw); go_split_ands; simp only [List.getElem_toArray, List.getElem_cons_succ, List.getElem_cons_zero]; go_simp; done)
              simp only [List.getElem_toArray, List.getElem_cons_succ, List.getElem_cons_zero, Act.put, List.setIfInBounds_toArray, List.set_cons_zero, List.set_cons_succ]
              refine wpAnyH_done (by as_aux_lemma => kernel_rfl) ?_ _
              have hE := HT4.out.below.trans (Below.mono hBB HT4.out.below.size)
              go_wp2_with fail
              go_ret
              exact ⟨rfl, hE⟩

end Go.Proofs.YtlkhecdlmbhiaaaDoor.fnTimeNets

