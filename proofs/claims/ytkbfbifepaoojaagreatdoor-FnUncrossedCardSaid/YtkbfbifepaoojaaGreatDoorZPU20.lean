/-
  The model's drawn plan without meetings: spec.l12Right, spec.DrawWalk. No law is proved here.
-/
import Derived.Test.YtkbfbifepaoojaaGreatDoorZPU16
import Derived.Test.YtkbfbifepaoojaaGreatDoorZPU19
import Derived.Test.YtkbfbifepaoojaaGreatDoorZPU08
import Derived.Deep.AppendLies
import Derived.Test.YtkbfbifepaoojaaGreatDoorZPU09
namespace Go.Proofs.YtkbfbifepaoojaaGreatDoor
set_option maxRecDepth 4096
open Go.ChangeShapes Go.WideShapes Go.ChangeAt Go.RowKit

theorem asc_ltD {W H : Int} {C : ByteArray} {L : List Int} (h : ascV W H C L = true) : L.Pairwise (· < ·) := by
  have h2 := asc_iff.1 h
  have key : ∀ d i x y, L[i]? = some x → L[i + d + 1]? = some y → x < y := by
    intro d
    induction d with
    | zero =>
      intro i x y hx hy
      exact (h2 (i + 0 + 1) y (List.getElem?_eq_some_iff.1 hy).1 hy).2 x (by omega) (by simpa using hx)
    | succ d ih =>
      intro i x y hx hy
      have hl := (List.getElem?_eq_some_iff.1 hy).1
      have hz : L[i + d + 1]? = some (L[i + d + 1]'(by omega)) := List.getElem?_eq_getElem _
      have h3 := ih i x _ hx hz
      have h4 := (h2 (i + (d + 1) + 1) y hl hy).2 _ (by omega) (by rw [show i + (d + 1) + 1 - 1 = i + d + 1 by omega]; exact hz)
      omega
  rw [List.pairwise_iff_getElem]
  intro i j hi hj hij
  exact key (j - i - 1) i _ _ (List.getElem?_eq_getElem hi) (by rw [show i + (j - i - 1) + 1 = j by omega]; exact List.getElem?_eq_getElem hj)

/-- The boxes of the results, the cursor, and what has been drawn so far. -/
structure RB (w : World) (g N : Nat) (v : Value) (w' : World) : Prop where
  r0 : w'.heap[w.heap.size]? = some (.cells #[.int .i64 0, .int .i64 0, .string ⟨#[]⟩] 25 (0, 0))
  r1 : w'.heap[w.heap.size + 1]? = some (.cells #[.int .i64 0, .int .i64 0, .slice none 0 0] 29 (0, 0))
  cur : Cur w' g v N
  code : CodeB w' v N g
  gr : w.grownBy w' (some g)
section
variable {w w1 w2 : World} {g N : Nat} {v : Value}
theorem RB.lt (h : RB w g N v w1) : w.heap.size + 2 ≤ w1.heap.size := by
  have := (Array.getElem?_eq_some_iff.1 h.r1).1
  omega
theorem RB.turn (h : RB w g N v w1) (hgl : g < w.heap.size) (hg : w1.grownBy w2 (some g)) (hc : Cur w2 g v N) : RB w g N v w2 := by
  have hl := h.lt
  exact ⟨(hg.block _ (by omega) (fun e => by have := Option.some.inj e; omega)).trans h.r0, (hg.block _ (by omega) (fun e => by have := Option.some.inj e; omega)).trans h.r1, hc, h.code.turn hg, drawn_on h.gr hg⟩
theorem RB.step {row : Option Nat} (h : RB w g N v w1) (hgl : g < w.heap.size) (hg : w1.grownBy w2 row) (hr : ∀ r, row = some r → w.heap.size + 2 ≤ r) : RB w g N v w2 := by
  have hl := h.lt
  have keep : ∀ k, k < w.heap.size + 2 → w2.heap[k]? = w1.heap[k]? := fun k hk => hg.block k (by omega) (fun e => by have := hr k e.symm; omega)
  exact ⟨(keep _ (by omega)).trans h.r0, (keep _ (by omega)).trans h.r1, h.cur.keep (keep g (by omega)), h.code.keep (fun k hk _ => keep k (by omega)) hg.size, turn_trans h.gr hg fun r e => by have := hr r e; exact .inl (by omega)⟩
theorem below_grown {r : Option Nat} (hb : Below w1.heap.size w1 w2) : w1.grownBy w2 r := ⟨hb.os, hb.tape, hb.output, hb.size, fun k hk _ => hb.block k hk⟩
theorem RB.on (h : RB w g N v w1) (hgl : g < w.heap.size) (hb : Below w1.heap.size w1 w2) : RB w g N v w2 := h.step (row := none) hgl (below_grown hb) fun r e => by cases e
theorem set_grown (w : World) (B j : Nat) (u : Value) : w.grownBy (w.setCell ⟨B, j, none⟩ u) (some B) := ⟨rfl, rfl, rfl, by simp [World.setCell], fun k _ hk => heap_setCell_other w ⟨B, j, none⟩ k u (fun e => hk (by simp [e]))⟩
theorem OutW.turn {B : Nat} {x : Value} {vs : List Value} {LL : List (List Int)} (h : OutW w1 B x vs LL) (hg : w1.grownBy w2 (some g)) (hgB : g < B) : OutW w2 B x vs LL :=
  ⟨own_turn h.own hg hgB, h.rows.turn hg hgB⟩
theorem OutW.baseD {B B' : Nat} {x : Value} {vs : List Value} {LL : List (List Int)} (h : OutW w1 B x vs LL) (hB : B' ≤ B) : OutW w1 B' x vs LL :=
  ⟨own_base h.own hB, h.rows.len, fun i u L hu hL => own_base (h.rows.row i u L hu hL) hB, h.rows.apart⟩
theorem OutW.onD {B : Nat} {x : Value} {vs : List Value} {LL : List (List Int)} (h : OutW w1 B x vs LL) (hb : Below w1.heap.size w1 w2) : OutW w2 B x vs LL :=
  ⟨own_any3 h.own hb, h.rows.on hb⟩
theorem waysAt_turn {x : Value} {LL : List (List Int)} {B : Nat} {vs : List Value} (h : OutW w1 B x vs LL) (hg : w1.grownBy w2 (some g)) (hgB : g < B) : WaysAt w2 x LL := (h.turn hg hgB).at
end

theorem walk_tot {ar : Int → List Int} {S : List Int} {T : Nat} {Ws : List (List Int)} (h : WalkD ar S T Ws) (h5 : S.length ≤ 5) (hT : T ≤ 5) : totW Ws ≤ 30 := by
  have key : ∀ X : List (List Int), (∀ L ∈ X, L.length ≤ 6) → totW X ≤ X.length * 6 := fun X => by
    induction X with
    | nil => exact fun _ => Nat.le_refl _
    | cons a X ih =>
      intro hX
      have h1 := ih fun L hL => hX L (List.mem_cons_of_mem _ hL)
      have h2 := hX a (List.mem_cons_self ..)
      unfold totW at h1 ⊢
      simp only [List.map_cons, List.sum_cons, List.length_cons]
      omega
  have := key Ws fun L hL => by
    obtain ⟨i, hi, rfl⟩ := List.getElem_of_mem hL
    have := h.cells i _ (List.getElem?_eq_getElem hi)
    omega
  have := h.len
  omega
theorem mem_take_more {E : List Int} {k : Nat} {d : Int} (h : d ∈ E.take k) : d ∈ E.take (k + 1) := by
  obtain ⟨i, hi, rfl⟩ := List.getElem_of_mem h
  rw [List.length_take] at hi
  rw [List.getElem_take]
  exact List.mem_of_getElem? (i := i) (by rw [List.getElem?_take_of_lt (by omega), List.getElem?_eq_getElem (by omega)])
theorem goal_more {E G : List Int} {k : Nat} {z : Int} (h1 : G.Pairwise (· < ·)) (h2 : ∀ d ∈ G, d ∈ E.take k) (hz : E[k]? = some z) (hE : E.Pairwise (· < ·)) : (G ++ [z]).Pairwise (· < ·) ∧ ∀ d ∈ G ++ [z], d ∈ E.take (k + 1) := by
  obtain ⟨hk, hze⟩ := List.getElem?_eq_some_iff.1 hz
  refine ⟨List.pairwise_append.2 ⟨h1, List.pairwise_singleton _ _, fun d hd y hy => ?_⟩, fun d hd => ?_⟩
  · obtain rfl := List.mem_singleton.1 hy
    obtain ⟨i, hi, rfl⟩ := List.getElem_of_mem (h2 d hd)
    rw [List.length_take] at hi
    rw [List.getElem_take, ← hze]
    exact List.pairwise_iff_getElem.1 hE i k (by omega) hk (by omega)
  · rcases List.mem_append.1 hd with h | h
    · exact mem_take_more (h2 d h)
    · obtain rfl := List.mem_singleton.1 h
      exact List.mem_of_getElem? (i := k) (by rw [List.getElem?_take_of_lt (by omega)]; exact hz)
theorem ends_apart {vE dv : Value} {A B : Nat} (h1 : ∀ k, vE.ownBlock = some k → A < k ∧ k < B) (h2 : ∀ m, dv.ownBlock = some m → m = A ∨ B ≤ m) : vE.ownBlock = none ∨ vE.ownBlock ≠ dv.ownBlock := by
  cases h : vE.ownBlock with
  | none => exact .inl rfl
  | some k => exact .inr fun e => by have := h1 k h; have := h2 k e.symm; omega
theorem lies_next {dv : Value} {A B H g n c : Nat} (h2 : ∀ m, dv.ownBlock = some m → m = A ∨ B ≤ m) (hat : dv.ownBlock = some g ∨ g = H) (hH : B ≤ H) : ∀ m, (Value.slice (some ⟨g, 0, none⟩) n c).ownBlock = some m → m = A ∨ B ≤ m := fun m h => by
  have e : (Value.slice (some ⟨g, 0, none⟩) n c).ownBlock = some g := rfl
  rw [e] at h
  obtain rfl := Option.some.inj h
  rcases hat with h | h
  · exact h2 _ h
  · exact .inr (by omega)
/-- A box of three cells is written. -/
abbrev set3 (w : World) (B : Nat) (u0 u1 u2 : Value) : World := ((w.setCell ⟨B, 0, none⟩ u0).setCell ⟨B, 1, none⟩ u1).setCell ⟨B, 2, none⟩ u2
theorem set3_other {w : World} {B k : Nat} {u0 u1 u2 : Value} (hk : k ≠ B) : (set3 w B u0 u1 u2).heap[k]? = w.heap[k]? :=
  (heap_setCell_other _ _ _ _ hk).trans ((heap_setCell_other _ _ _ _ hk).trans (heap_setCell_other _ _ _ _ hk))
theorem set3_row {w : World} {B : Nat} {u0 u1 u2 c0 c1 c2 : Value} {t : TypeId} (h : w.heap[B]? = some (.cells #[c0, c1, c2] t (0, 0))) : (set3 w B u0 u1 u2).heap[B]? = some (.cells #[u0, u1, u2] t (0, 0)) := by
  have h1 := heap_setCell_same _ _ 0 _ _ u0 h
  have h2 := heap_setCell_same _ _ 1 _ _ u1 h1
  have h3 := heap_setCell_same _ _ 2 _ _ u2 h2
  exact h3
theorem row3 {w : World} {B : Nat} {c0 c1 c2 : Value} {t : TypeId} (h : w.heap[B]? = some (.cells #[c0, c1, c2] t (0, 0))) : (w.cell? ⟨B, 0, none⟩ = some c0 ∧ w.cell? ⟨B, 1, none⟩ = some c1 ∧ w.cell? ⟨B, 2, none⟩ = some c2) ∧ w.frozen? ⟨B, 0, none⟩ = false ∧ w.frozen? ⟨B, 1, none⟩ = false ∧ w.frozen? ⟨B, 2, none⟩ = false :=
  ⟨⟨by rw [cell_of_row _ _ _ _ _ _ h]; rfl, by rw [cell_of_row _ _ _ _ _ _ h]; rfl, by rw [cell_of_row _ _ _ _ _ _ h]; rfl⟩, frozen_of_row w B 0 _ _ h, frozen_of_row w B 1 _ _ h, frozen_of_row w B 2 _ _ h⟩
theorem set3_own {w : World} {B R s n : Nat} {e : TypeId} {v : Value} {xs : List Value} {u0 u1 u2 : Value} (h : w.ownsRow B e s v n xs) (hR : R < B) : (set3 w R u0 u1 u2).ownsRow B e s v n xs := own_put1 (own_put1 (own_put1 h hR) hR) hR
theorem set3_out {w : World} {B R : Nat} {x : Value} {vs : List Value} {LL : List (List Int)} {u0 u1 u2 : Value} (h : OutW w B x vs LL) (hR : R < B) : OutW (set3 w R u0 u1 u2) B x vs LL :=
  ((h.turn (set_grown w R 0 u0) hR).turn (set_grown _ R 1 u1) hR).turn (set_grown _ R 2 u2) hR
theorem set3_turn {w w1 : World} {g R : Nat} {u0 u1 u2 : Value} (h : w.grownBy w1 (some g)) (hR : w.heap.size ≤ R) : w.grownBy (set3 w1 R u0 u1 u2) (some g) := turn_set (turn_set (turn_set h hR 0 u0) hR 1 u1) hR 2 u2
theorem own_drewW {w : World} {B s n : Nat} {e : TypeId} {v : Value} {xs : List Value} (h : w.ownsRow B e s v n xs) : w.drew.ownsRow B e s v n xs := h
theorem out_drewW {w : World} {B : Nat} {x : Value} {vs : List Value} {LL : List (List Int)} (h : OutW w B x vs LL) : OutW w.drew B x vs LL := ⟨h.own, h.rows.drewN 1⟩
theorem turn_drewW {w w1 : World} {r : Option Nat} (h : w.grownBy w1 r) : w.grownBy w1.drew r := grown_draw h 1
/-- The drawn plan: starts, goals, ways without meetings. -/
structure PlanD (a b : Nat) (C : ByteArray) (S G : List Int) (T : Nat) (Ws : List (List Int)) : Prop where
  ok : gok a b C = true
  few : C.size ≤ 12
  s1 : 1 ≤ S.length
  s5 : S.length ≤ 5
  sa : ascV a b C S = true
  t5 : T ≤ 5
  walk : WalkD (aroundL a b C) S T Ws
  gu : G.Pairwise (· < ·)
  gm : ∀ d ∈ G, d ∈ onceL (lastsL Ws)

def PlanR (w : World) (g : Nat) (e : Ending) (w' : World) : Prop :=
  ∃ (a b : Nat) (C : ByteArray) (S G : List Int) (T : Nat) (Ws : List (List Int)) (x y vW : Value) (vs : List Value), e = .returned (.tuple #[.agg #[.int .i64 a, .int .i64 b, .string C], x, y, .agg #[.int .i64 (T : Int), .int .i64 (movesW Ws : Int), vW]]) ∧ PlanD a b C S G T Ws ∧
    w'.ownsRow w.heap.size 3 1 x S.length (S.map (Value.int .i64)) ∧ w'.ownsRow w.heap.size 3 1 y G.length (G.map (Value.int .i64)) ∧ OutW w' w.heap.size vW vs Ws ∧ w.grownBy w' (some g)

set_option maxHeartbeats 4000000 in
theorem l12Right (g N : Nat) (v : Value) (w : World) (hN : N ≤ 9000000000000000) (hc : CodeB w v N g) (hk : Cur w g v N) :
    Calls Tryz.prog 28 #[.pointer (some ⟨g, 0, none⟩)] w (PlanR w g) := by
  obtain ⟨i0, hi, hz0, hz1, hz2⟩ := info_parts Tryz.info3
  have hgl := hk.lt
  have bA := (Below.refl _ w).alloc (Nat.le_refl _) (.cells #[.int .i64 0, .int .i64 0, .string ⟨#[]⟩] 25)
  have bB := (Below.refl _ (w.alloc (.cells #[.int .i64 0, .int .i64 0, .string ⟨#[]⟩] 25))).alloc (Nat.le_refl _) (.cells #[.int .i64 0, .int .i64 0, .slice none 0 0] 29)
  have hsA : ((w.alloc (.cells #[.int .i64 0, .int .i64 0, .string ⟨#[]⟩] 25)).alloc (.cells #[.int .i64 0, .int .i64 0, .slice none 0 0] 29)).heap.size = w.heap.size + 2 := by rw [World.size_alloc, World.size_alloc]
  have hRB : RB w g N v ((w.alloc (.cells #[.int .i64 0, .int .i64 0, .string ⟨#[]⟩] 25)).alloc (.cells #[.int .i64 0, .int .i64 0, .slice none 0 0] 29)) := by
    refine ⟨(bB.block w.heap.size (by simp)).trans (heap_alloc_new w _), ?_, hk.below (bA.trans (bB.mono bA.size)), hc.below (bA.trans (bB.mono bA.size)), below_grown (bA.trans (bB.mono bA.size))⟩
    have := heap_alloc_new (w.alloc (.cells #[.int .i64 0, .int .i64 0, .string ⟨#[]⟩] 25)) (.cells #[.int .i64 0, .int .i64 0, .slice none 0 0] 29)
    rw [World.size_alloc] at this
    exact this
  have HSA := Lib.hid hsA
  have HR0 := Lib.hid hRB
  clear hc hk bA bB hsA hRB
  go_enter Tryz.func28, Tryz.ntmps28
  go_wp2_with fail
  refine (l10Right g N v _ hN HR0.out.code HR0.out.cur).mono ?_
  rintro e w1 ⟨a, b, C, S, G0, x, y0, rfl, hD, hx, hy, hg1, hk1⟩
  rw [HSA.out] at hx
  have HD := Lib.hid hD
  have HR1 := Lib.hid (HR0.out.turn hgl hg1 hk1)
  have HX1 := Lib.hid hx
  have HXB := Lib.hid (fun k h => (hx.lt k h).2)
  clear hx hy hg1 hk1 hD HR0 HSA
  have b2 : Below w1.heap.size w1 (w1.alloc (.cells #[.int .i64 a, .int .i64 b, .string C] 25)) := (Below.refl _ w1).alloc (Nat.le_refl _) _
  have HBX := Lib.hid (heap_alloc_new w1 (.cells #[.int .i64 a, .int .i64 b, .string C] 25))
  have HR2 := Lib.hid (HR1.out.on hgl b2)
  have HX2 := Lib.hid (own_any3 HX1.out b2)
  have HL2 : Hid ((w1.alloc (.cells #[.int .i64 a, .int .i64 b, .string C] 25)).heap.size = w1.heap.size + 1) := Lib.hid (World.size_alloc _ _)
  have HL1 := Lib.hid HR1.out.lt
  obtain ⟨w2, hw2⟩ : ∃ w2, w2 = w1.alloc (.cells #[.int .i64 a, .int .i64 b, .string C] 25) := ⟨_, rfl⟩
  rw [← hw2] at HBX HR2 HX2 HL2
  have HW2 := Lib.hid hw2
  clear b2 hw2 HX1 HR1
  go_wp2_with fail
  rw [← HW2.out]
  refine (l01Below g N v 6 _ hN HR2.out.code HR2.out.cur (by decide)).mono ?_
  rintro e w3 ⟨p, rfl, ⟨hp0, hp1⟩, hk3, hg3⟩
  obtain ⟨T, rfl⟩ : ∃ T : Nat, p = (T : Int) := ⟨p.toNat, by omega⟩
  have hT5 : T ≤ 5 := by omega
  have hgX : g ≠ w1.heap.size := by have := HL1.out; omega
  have hbx3 : w3.heap[w1.heap.size]? = some (.cells #[.int .i64 a, .int .i64 b, .string C] 25 (0, 0)) := (hg3.block _ (by rw [HL2.out]; omega) (fun e => hgX (Option.some.inj e).symm)).trans HBX.out
  have b4 : Below w3.heap.size w3 (w3.alloc (.cells #[.int .i64 (T : Int), .int .i64 0, .slice none 0 0] 29)) := (Below.refl _ w3).alloc (Nat.le_refl _) _
  have hl3 : w1.heap.size < w3.heap.size := (Array.getElem?_eq_some_iff.1 hbx3).1
  have HR4 := Lib.hid ((HR2.out.turn hgl hg3 hk3).on hgl b4)
  have HX4 := Lib.hid (own_any3 (own_turn HX2.out hg3 (by omega)) b4)
  have hbx4 := (b4.block _ hl3).trans hbx3
  have hpb4 := heap_alloc_new w3 (.cells #[.int .i64 (T : Int), .int .i64 0, .slice none 0 0] 29)
  have HL4 : Hid ((w3.alloc (.cells #[.int .i64 (T : Int), .int .i64 0, .slice none 0 0] 29)).heap.size = w3.heap.size + 1) := Lib.hid (World.size_alloc _ _)
  have c0 : (w3.alloc (.cells #[.int .i64 (T : Int), .int .i64 0, .slice none 0 0] 29)).cell? ⟨w1.heap.size, 0, none⟩ = some (.int .i64 a) := by rw [cell_of_row _ _ _ _ _ _ hbx4]; rfl
  have c1 : (w3.alloc (.cells #[.int .i64 (T : Int), .int .i64 0, .slice none 0 0] 29)).cell? ⟨w1.heap.size, 1, none⟩ = some (.int .i64 b) := by rw [cell_of_row _ _ _ _ _ _ hbx4]; rfl
  have c2 : (w3.alloc (.cells #[.int .i64 (T : Int), .int .i64 0, .slice none 0 0] 29)).cell? ⟨w1.heap.size, 2, none⟩ = some (.string C) := by rw [cell_of_row _ _ _ _ _ _ hbx4]; rfl
  have HBX4 := Lib.hid hbx4
  have HPB4 := Lib.hid hpb4
  clear hbx3 hbx4 hpb4 b4 hk3 hg3 HR2 HX2 HBX
  have HSN : Hid S.Nodup := Lib.hid ((asc_ltD HD.out.sa).imp fun h => by omega)
  go_wp2_with fail
  refine (l11Walk g N v (a : Int) (b : Int) C S T x _ hN (by have := HD.out.few; omega) HSN.out HD.out.s1 (by have := HD.out.s5; omega) (by omega) _ (by omega : g < w.heap.size + 2) HR4.out.code HR4.out.cur HX4.out).mono ?_
  rintro e w5 ⟨Ws, vW, vs, rfl, hwd, hout, hk5, hg5⟩
  rw [HL4.out] at hout
  have hgp : g ≠ w3.heap.size := by have := HL1.out; omega
  have hbx5 := (hg5.block w1.heap.size (by rw [HL4.out]; omega) (fun e => hgX (Option.some.inj e).symm)).trans HBX4.out
  have hpb5 := (hg5.block w3.heap.size (by rw [HL4.out]; omega) (fun e => hgp (Option.some.inj e).symm)).trans HPB4.out
  have HR5 := Lib.hid (HR4.out.turn hgl hg5 hk5)
  have HX5 := Lib.hid (own_turn HX4.out hg5 (by omega))
  have HL5 : Hid (w3.heap.size < w5.heap.size) := Lib.hid (Array.getElem?_eq_some_iff.1 hpb5).1
  have p2 : w5.cell? ⟨w3.heap.size, 2, none⟩ = some (.slice none 0 0) := by rw [cell_of_row _ _ _ _ _ _ hpb5]; rfl
  have pf : w5.frozen? ⟨w3.heap.size, 2, none⟩ = false := frozen_of_row w5 w3.heap.size 2 _ _ hpb5
  obtain ⟨aW, cW, rfl⟩ := own_form hout.own
  -- the ways are stored
  have s6 := set_grown w5 w3.heap.size 2 (.slice aW vs.length cW)
  have hpb6 := heap_setCell_same _ _ 2 _ _ (.slice aW vs.length cW) hpb5
  have hbx6 : (w5.setCell ⟨w3.heap.size, 2, none⟩ (.slice aW vs.length cW)).heap[w1.heap.size]? = _ := (heap_setCell_other _ _ _ _ (by show w1.heap.size ≠ w3.heap.size; omega)).trans hbx5
  have HR6 := Lib.hid (HR5.out.step hgl s6 (fun r e => by cases e; have := HL1.out; omega))
  have HX6 := Lib.hid (HX5.out.kept s6 (by
    cases hv : x.ownBlock with
    | none => exact .inl rfl
    | some k => exact .inr fun e => by have := HXB.out k hv; have := Option.some.inj e; omega))
  have HO6 : Hid (OutW (w5.setCell ⟨w3.heap.size, 2, none⟩ (.slice aW vs.length cW)) (w3.heap.size + 2) (.slice aW vs.length cW) vs Ws) := Lib.hid (hout.turn s6 (by omega))
  have HWD := Lib.hid hwd
  have HL6 : Hid (w3.heap.size < (w5.setCell ⟨w3.heap.size, 2, none⟩ (.slice aW vs.length cW)).heap.size) := Lib.hid (by have := s6.size; have := HL5.out; omega)
  have p6 : (w5.setCell ⟨w3.heap.size, 2, none⟩ (.slice aW vs.length cW)).cell? ⟨w3.heap.size, 2, none⟩ = some (.slice aW vs.length cW) := by rw [cell_of_row _ _ _ _ _ _ hpb6]; rfl
  obtain ⟨w6, hw6⟩ : ∃ w6, w6 = w5.setCell ⟨w3.heap.size, 2, none⟩ (.slice aW vs.length cW) := ⟨_, rfl⟩
  rw [← hw6] at hpb6 hbx6 HR6 HX6 HO6 HL6
  change w6.heap[w3.heap.size]? = some (.cells #[.int .i64 (T : Int), .int .i64 0, .slice aW vs.length cW] 29 (0, 0)) at hpb6
  have HW6 := Lib.hid hw6
  have HPB6 := Lib.hid hpb6
  have HBX6 := Lib.hid hbx6
  obtain ⟨n, HN⟩ : ∃ n, Hid (movesW Ws = n) := ⟨_, rfl⟩
  have HTW : Hid (totW Ws ≤ 30) := Lib.hid (walk_tot HWD.out HD.out.s5 hT5)
  have hWl : Ws.length ≤ 5 := by rw [HWD.out.len]; exact HD.out.s5
  clear hwd hout hk5 hg5 hpb5 hbx5 c0 c1 c2 HR5 HX5 HBX4 HPB4 HR4 HX4 hpb6 hbx6 s6 hw6
  go_wp2_with fail
  rw [← HW6.out]
  refine (specMoves _ Ws n (by omega) (by have := HTW.out; omega) HN _ HO6.out.at).mono ?_
  rintro e w6' ⟨rfl, q, rfl⟩
  have d6 : Below w6.heap.size w6 (w6.drewN q) := below_drewN (Below.refl _ _) q
  obtain ⟨wq, hwq⟩ : ∃ wq, wq = w6.drewN q := ⟨_, rfl⟩
  rw [← hwq] at d6 ⊢
  have HRq := Lib.hid (HR6.out.on hgl d6)
  have HXq := Lib.hid (own_any3 HX6.out d6)
  have HOq := Lib.hid (HO6.out.onD d6)
  have hlq : w3.heap.size < wq.heap.size := Nat.lt_of_lt_of_le HL6.out d6.size
  have hpbq := (d6.block _ HL6.out).trans HPB6.out
  have hbxq := (d6.block w1.heap.size (by have := HL6.out; omega)).trans HBX6.out
  have q1 : wq.cell? ⟨w3.heap.size, 1, none⟩ = some (.int .i64 0) := by rw [cell_of_row _ _ _ _ _ _ hpbq]; rfl
  have qf : wq.frozen? ⟨w3.heap.size, 1, none⟩ = false := frozen_of_row wq w3.heap.size 1 _ _ hpbq
  have s7 := set_grown wq w3.heap.size 1 (.int .i64 (n : Int))
  have hpb7 := heap_setCell_same _ _ 1 _ _ (.int .i64 (n : Int)) hpbq
  change (wq.setCell ⟨w3.heap.size, 1, none⟩ (.int .i64 (n : Int))).heap[w3.heap.size]? = some (.cells #[.int .i64 (T : Int), .int .i64 (n : Int), .slice aW vs.length cW] 29 (0, 0)) at hpb7
  have hbx7 : (wq.setCell ⟨w3.heap.size, 1, none⟩ (.int .i64 (n : Int))).heap[w1.heap.size]? = _ := (heap_setCell_other _ _ _ _ (by show w1.heap.size ≠ w3.heap.size; omega)).trans hbxq
  have HR7 := Lib.hid (HRq.out.step hgl s7 (fun r e => by cases e; have := HL1.out; omega))
  have HX7 := Lib.hid (HXq.out.kept s7 (by
    cases hv : x.ownBlock with
    | none => exact .inl rfl
    | some k => exact .inr fun e => by have := HXB.out k hv; have := Option.some.inj e; omega))
  have HO7 := Lib.hid (HOq.out.turn s7 (by omega))
  have hl7 : w3.heap.size < (wq.setCell ⟨w3.heap.size, 1, none⟩ (.int .i64 (n : Int))).heap.size := Nat.lt_of_lt_of_le hlq s7.size
  have b8 := (Below.refl _ (wq.setCell ⟨w3.heap.size, 1, none⟩ (.int .i64 (n : Int)))).alloc (Nat.le_refl _) (.cells #[] 3)
  have p8 : ((wq.setCell ⟨w3.heap.size, 1, none⟩ (.int .i64 (n : Int))).alloc (.cells #[] 3)).cell? ⟨w3.heap.size, 2, none⟩ = some (.slice aW vs.length cW) := by rw [cell_of_row _ _ _ _ _ _ ((b8.block _ hl7).trans hpb7)]; rfl
  obtain ⟨w7, hw7⟩ : ∃ w7, w7 = wq.setCell ⟨w3.heap.size, 1, none⟩ (.int .i64 (n : Int)) := ⟨_, rfl⟩
  rw [← hw7] at hpb7 hbx7 HR7 HX7 HO7 b8 hl7
  have HE7 : Hid (w7.heap.size = wq.heap.size) := Lib.hid (by rw [hw7]; simp [World.setCell])
  have HW7 := Lib.hid hw7
  have HPB7 := Lib.hid hpb7
  have HBX7 := Lib.hid hbx7
  have HL7 := Lib.hid hl7
  have HB8 := Lib.hid b8
  clear hwq d6 hpbq hbxq s7 hpb7 hbx7 hw7 b8 hl7 HRq HXq HOq HR6 HX6 HO6 HPB6 HBX6 HL6 HW6 p6
  go_wp2_with fail
  rw [← HW7.out]
  obtain ⟨E, HE⟩ : ∃ E, Hid (onceL (lastsL Ws) = E) := ⟨_, rfl⟩
  refine (specEnds _ Ws E (by omega) (by have := HTW.out; omega) HE _ (HO7.out.onD HB8.out).at).mono ?_
  rintro e w9 ⟨vE, rfl, hE, hb⟩
  have HEL : Hid (E.length ≤ 30) := Lib.hid (by rw [← HE.out]; have := once_len (lastsL Ws); have := lasts_len Ws; have := HTW.out; omega)
  have HG9 := Lib.hid (turn_below (p := g) (turn_below (turn_refl w7 (some g)) HB8.out) hb)
  have HK9 := Lib.hid ((HR7.out.on hgl HB8.out).on hgl hb)
  have HD9 := Lib.hid (own_any3 (own_made0 w7 3) hb)
  have HE9 := Lib.hid hE
  have HLE : Hid (∀ k, vE.ownBlock = some k → w7.heap.size < k ∧ k < w9.heap.size) := Lib.hid fun k hk => ⟨by have := (hE.lt k hk).1; rw [World.size_alloc] at this; omega, (hE.lt k hk).2⟩
  have HL9 : Hid (w7.heap.size + 1 ≤ w9.heap.size) := Lib.hid (by have := hb.size; rw [World.size_alloc] at this; omega)
  obtain ⟨aE, cE, rfl⟩ := own_form hE
  have hgl7 : g < w7.heap.size := by have := HR7.out.lt; omega
  clear hE hb HB8 p8 HW7
  go_wp2_with fail
  go_loopw [10, 12] (fun dv iv wr => ∃ (k : Nat) (G : List Int), k ≤ E.length ∧ iv = .int .i64 (k : Int) ∧ Hid (G.Pairwise (· < ·) ∧ (∀ d ∈ G, d ∈ E.take k)) ∧ G.length ≤ k ∧ wr.ownsRow w7.heap.size 3 1 dv G.length (G.map (Value.int .i64)) ∧ (∀ m, dv.ownBlock = some m → m = w7.heap.size ∨ w9.heap.size ≤ m) ∧ wr.ownsRow (w7.heap.size + 1) 3 1 (.slice aE E.length cE) E.length (E.map (Value.int .i64)) ∧ w7.grownBy wr (some g) ∧ Cur wr g v N ∧ w9.heap.size ≤ wr.heap.size) (fun _ iv _ => E.length - (intOf iv).toNat)
  case atStart => exact ⟨0, [], Nat.zero_le _, rfl, Lib.hid ⟨.nil, fun d h => by cases h⟩, Nat.zero_le _, (by rw [← HE7.out]; exact HD9.out), (fun m h => .inl (by rw [HE7.out]; exact (Option.some.inj h).symm)), by have := HE9.out; rw [World.size_alloc] at this; exact this, HG9.out, HK9.out.cur, Nat.le_refl _⟩
  case round =>
    clear HG9 HK9 HD9 HE9
    obtain ⟨k, G, hk, rfl, HGG, hGk, hd, hdl, he, hgr, hcu, hsz⟩ := hrel
    have HD0 := Lib.hid hd
    have HDL := Lib.hid hdl
    have HEE := Lib.hid he
    have HGR := Lib.hid hgr
    have HCU := Lib.hid hcu
    have HSZ := Lib.hid hsz
    clear hd hdl he hgr hcu hsz
    by_cases hlt : k < E.length
    · have hltI : (k : Int) < (E.length : Int) := by omega
      have hel := HEL.out
      go_wp2_with fail
      refine (onceB g N v 2 wr hN (HR7.out.code.turn HGR.out) HCU.out (by decide)).mono ?_
      rintro e w10 ⟨b2, rfl, hk10, hg10⟩
      have HD1 := Lib.hid (own_turn HD0.out hg10 (by omega))
      have HE1 := Lib.hid (own_turn HEE.out hg10 (by omega))
      have HG1 := Lib.hid (drawn_on HGR.out hg10)
      have HK1 := Lib.hid hk10
      have HS1 := Lib.hid (Nat.le_trans HSZ.out hg10.size)
      clear hk10 hg10
      cases b2 with
      | false =>
        go_wp2_with fail
        go_roundw
        case rel => exact ⟨k + 1, G, by omega, by go_num, Lib.hid ⟨HGG.out.1, fun d h => mem_take_more (HGG.out.2 d h)⟩, by omega, HD1.out, HDL.out, HE1.out, HG1.out, HK1.out, HS1.out⟩
        case measure => simp [intOf]; omega
      | true =>
        obtain ⟨z, hz⟩ : ∃ z, E[k]? = some z := ⟨_, List.getElem?_eq_getElem hlt⟩
        obtain ⟨gE, rfl⟩ := own_at HE1.out (by omega)
        have dz : w10.cell? ⟨gE, k, none⟩ = some (.int .i64 z) := own_cell_at HE1.out (by rw [List.getElem?_map, hz]; rfl)
        have HZ := Lib.hid hz
        clear hz
        go_wp2_with (at_builtin; (refine wpList_append_lies _ rfl _ _ 26 rfl w7.heap.size 3 i0 (.int .i64 0) 1 8 Tryz.underlying26 hi hz0 hz1 hz2 rfl (by decide) _ _ _ rfl (HD1.out.alloc _) ⟨w10.heap.size, 0, none⟩ 1 1 ([z].map (Value.int .i64)) rfl rfl (int_new _ _ _) (ints_one _) (by decide) (by unfold maxLen; omega) (by omega) (by rw [World.size_alloc]; have := HS1.out; have := HL9.out; omega) _ rfl ?_; intro g6 cap6 w11 hown6 hgr6 hat6 _; have HA1 := Lib.hid hown6; have HA2 := Lib.hid hgr6; have HA3 := Lib.hid hat6; clear hown6 hgr6 hat6))
        have hgr6 : (w10.alloc (.cells #[.int .i64 z] 3)).grownBy w11 u10.ownBlock := HA2.out
        have hat6 : u10.ownBlock = some g6 ∨ g6 = (w10.alloc (.cells #[.int .i64 z] 3)).heap.size := HA3.out
        have hl10 : w7.heap.size + 1 ≤ w10.heap.size := Nat.le_trans HL9.out HS1.out
        have bz : Below w10.heap.size w10 (w10.alloc (.cells #[.int .i64 z] 3)) := (Below.refl _ _).alloc (Nat.le_refl _) _
        have hsz : (w10.alloc (.cells #[.int .i64 z] 3)).heap.size = w10.heap.size + 1 := World.size_alloc _ _
        have HG11 := Lib.hid (turn_trans (turn_alloc HG1.out (.cells #[.int .i64 z] 3)) hgr6 (fun r e => .inl (HD1.out.lt r e).1))
        have HK11 := Lib.hid ((HK1.out.below bz).keep (hgr6.block g (by omega) (fun e => by have := (HD1.out.lt g e.symm).1; omega)))
        have HE11 := Lib.hid ((own_any3 HE1.out bz).kept hgr6 (ends_apart HLE.out HDL.out))
        have HS11 := Lib.hid (Nat.le_trans HS1.out (Nat.le_trans bz.size hgr6.size))
        have HDL11 := Lib.hid (lies_next (n := G.length + 1) (c := cap6) HDL.out hat6 (by have := HS1.out; omega))
        have HO11 := HA1
        clear hgr6 hat6 hl10 bz hsz HA1 HA2 HA3
        go_roundw
        case rel => exact ⟨k + 1, G ++ [z], by omega, by go_num, Lib.hid (goal_more HGG.out.1 HGG.out.2 HZ.out (by rw [← HE.out]; exact once_up _)), by simp; omega, (by rw [List.length_append, List.map_append]; exact HO11.out), HDL11.out, HE11.out, HG11.out, HK11.out, HS11.out⟩
        case measure => simp [intOf]; omega
    · obtain rfl : k = E.length := by omega
      have hnl : ¬ (E.length : Int) < (E.length : Int) := by omega
      have hRr := HR7.out.turn hgl HGR.out HCU.out
      have hpbr := (HGR.out.block w3.heap.size HL7.out (fun e => hgp (Option.some.inj e).symm)).trans HPB7.out
      have hbxr := (HGR.out.block w1.heap.size (by have := HL7.out; omega) (fun e => hgX (Option.some.inj e).symm)).trans HBX7.out
      obtain ⟨wd, hwd⟩ : ∃ wd, wd = wr.drew := ⟨_, rfl⟩
      have hR0d : wd.heap[w.heap.size]? = some (.cells #[.int .i64 0, .int .i64 0, .string ⟨#[]⟩] 25 (0, 0)) := by rw [hwd]; exact hRr.r0
      have hR1d : wd.heap[w.heap.size + 1]? = some (.cells #[.int .i64 0, .int .i64 0, .slice none 0 0] 29 (0, 0)) := by rw [hwd]; exact hRr.r1
      have hbxd : wd.heap[w1.heap.size]? = some (.cells #[.int .i64 a, .int .i64 b, .string C] 25 (0, 0)) := by rw [hwd]; exact hbxr
      have hpbd : wd.heap[w3.heap.size]? = some (.cells #[.int .i64 (T : Int), .int .i64 (n : Int), .slice aW vs.length cW] 29 (0, 0)) := by rw [hwd]; exact hpbr
      have hX0 : w1.heap.size ≠ w.heap.size := by have := HL1.out; omega
      have hP0 : w3.heap.size ≠ w.heap.size := by have := HL1.out; omega
      have hbxe : (set3 wd w.heap.size (.int .i64 a) (.int .i64 b) (.string C)).heap[w1.heap.size]? = _ := (set3_other hX0).trans hbxd
      have hpbe : (set3 wd w.heap.size (.int .i64 a) (.int .i64 b) (.string C)).heap[w3.heap.size]? = _ := (set3_other hP0).trans hpbd
      have hR1e : (set3 wd w.heap.size (.int .i64 a) (.int .i64 b) (.string C)).heap[w.heap.size + 1]? = _ := (set3_other (by omega)).trans hR1d
      have hR0e := set3_row (u0 := .int .i64 a) (u1 := .int .i64 b) (u2 := .string C) hR0d
      have hR1f := set3_row (u0 := .int .i64 (T : Int)) (u1 := .int .i64 (n : Int)) (u2 := .slice aW vs.length cW) hR1e
      have hR0f : (set3 (set3 wd w.heap.size (.int .i64 a) (.int .i64 b) (.string C)) (w.heap.size + 1) (.int .i64 (T : Int)) (.int .i64 (n : Int)) (.slice aW vs.length cW)).heap[w.heap.size]? = _ := (set3_other (by omega)).trans hR0e
      have hS0 : (wd.cell? ⟨w1.heap.size, 0, none⟩ = some (.int .i64 a) ∧ wd.cell? ⟨w1.heap.size, 1, none⟩ = some (.int .i64 b) ∧ wd.cell? ⟨w1.heap.size, 2, none⟩ = some (.string C)) ∧ (wd.cell? ⟨w3.heap.size, 0, none⟩ = some (.int .i64 (T : Int)) ∧ wd.cell? ⟨w3.heap.size, 1, none⟩ = some (.int .i64 (n : Int)) ∧ wd.cell? ⟨w3.heap.size, 2, none⟩ = some (.slice aW vs.length cW)) := ⟨(row3 hbxd).1, (row3 hpbd).1⟩
      have HS4 := Lib.hid (And.intro (row3 hbxe).1 (row3 hpbe).1)
      obtain ⟨⟨g0, g1, g2⟩, z0, z1, z2⟩ := row3 hRr.r0
      obtain ⟨⟨k0, k1, k2⟩, y0, y1, y2⟩ := row3 hRr.r1
      obtain ⟨⟨m0, m1, m2⟩, _⟩ := row3 hR0f
      obtain ⟨⟨n0, n1, n2⟩, _⟩ := row3 hR1f
      have HRES := Lib.hid (And.intro (And.intro m0 (And.intro m1 m2)) (And.intro n0 (And.intro n1 n2)))
      have hGd : w.grownBy wr (some g) := hRr.gr
      have HX8 := Lib.hid (set3_own (R := w.heap.size + 1) (u0 := .int .i64 (T : Int)) (u1 := .int .i64 (n : Int)) (u2 := .slice aW vs.length cW) (set3_own (R := w.heap.size) (u0 := .int .i64 a) (u1 := .int .i64 b) (u2 := .string C) (own_turn HX7.out HGR.out (by omega)) (by omega)) (by omega))
      have HD8 := Lib.hid (set3_own (R := w.heap.size + 1) (u0 := .int .i64 (T : Int)) (u1 := .int .i64 (n : Int)) (u2 := .slice aW vs.length cW) (set3_own (R := w.heap.size) (u0 := .int .i64 a) (u1 := .int .i64 b) (u2 := .string C) HD0.out (by have := HR7.out.lt; omega)) (by have := HR7.out.lt; omega))
      have HO8 := Lib.hid (set3_out (R := w.heap.size + 1) (u0 := .int .i64 (T : Int)) (u1 := .int .i64 (n : Int)) (u2 := .slice aW vs.length cW) (set3_out (R := w.heap.size) (u0 := .int .i64 a) (u1 := .int .i64 b) (u2 := .string C) (HO7.out.turn HGR.out (by have := HL1.out; omega)) (by have := HL1.out; omega)) (by have := HL1.out; omega))
      have HPD : Hid (PlanD a b C S G T Ws) := Lib.hid ⟨HD.out.ok, HD.out.few, HD.out.s1, HD.out.s5, HD.out.sa, hT5, HWD.out, HGG.out.1, fun d hd => by rw [HE.out]; have := HGG.out.2 d hd; rw [List.take_length] at this; exact this⟩
      have HXF := Lib.hid (own_base (B' := w.heap.size) HX8.out (by omega))
      have HDF := Lib.hid (own_base (B' := w.heap.size) HD8.out (by have := HR7.out.lt; omega))
      have HOF := Lib.hid (HO8.out.baseD (B' := w.heap.size) (by have := HL1.out; omega))
      have HG8 := Lib.hid (set3_turn (R := w.heap.size + 1) (u0 := .int .i64 (T : Int)) (u1 := .int .i64 (n : Int)) (u2 := .slice aW vs.length cW) (set3_turn (R := w.heap.size) (u0 := .int .i64 a) (u1 := .int .i64 b) (u2 := .string C) hGd (Nat.le_refl _)) (by omega))
      have HRR := Lib.hid hRr
      obtain ⟨ax, cx, rfl⟩ := own_form HX7.out
      obtain ⟨ad, cd, rfl⟩ := own_form HD0.out
      subst hwd
      clear hRr hpbr hbxr hR0d hR1d hbxd hpbd hbxe hpbe hR1e hR0e hR1f hR0f m0 m1 m2 n0 n1 n2 hGd hX0 hP0
      go_upto_region 12 with fail
      refine wp_region_last 7 (fun w' => (w'.cell? ⟨w1.heap.size, 0, none⟩ = some (.int .i64 a) ∧ w'.cell? ⟨w1.heap.size, 1, none⟩ = some (.int .i64 b) ∧ w'.cell? ⟨w1.heap.size, 2, none⟩ = some (.string C)) ∧ (w'.cell? ⟨w3.heap.size, 0, none⟩ = some (.int .i64 (T : Int)) ∧ w'.cell? ⟨w3.heap.size, 1, none⟩ = some (.int .i64 (n : Int)) ∧ w'.cell? ⟨w3.heap.size, 2, none⟩ = some (.slice aW vs.length cW))) (by as_aux_lemma => kernel_rfl) (by as_aux_lemma => kernel_rfl) (by as_aux_lemma => kernel_rfl) (by decide) hS0 (fun hHeld => ?_)
      refine anyI_take (i := 0) (oi := _) (v := ?q1v1) rfl (by as_aux_lemma => kernel_rfl) (by as_aux_lemma => kernel_rfl) (by as_aux_lemma => kernel_rfl) rfl (fun _ _ _ h => h) (Or.inl ⟨by rfl, ?q1y1⟩) (by assumption) ?q1r1
      case q1y1 =>
        intro w' hSw
        (try dsimp only at hSw)
        go_split_ands
        simp only [List.getElem_toArray, List.getElem_cons_zero]
        go_simp
        all_goals (try with_reducible rfl)
      simp only [List.getElem_toArray, List.getElem_cons_zero, Act.put, List.setIfInBounds_toArray, List.set_cons_zero, List.set_cons_succ]
      refine anyI_take (i := 1) (oi := _) (v := ?q1v2) rfl (by as_aux_lemma => kernel_rfl) (by as_aux_lemma => kernel_rfl) (by as_aux_lemma => kernel_rfl) rfl (fun _ _ _ h => h) (Or.inl ⟨by rfl, ?q1y2⟩) (by assumption) ?q1r2
      case q1y2 =>
        intro w' hSw
        (try dsimp only at hSw)
        go_split_ands
        simp only [List.getElem_toArray, List.getElem_cons_succ, List.getElem_cons_zero]
        go_simp
        all_goals (try with_reducible rfl)
      simp only [List.getElem_toArray, List.getElem_cons_succ, List.getElem_cons_zero, Act.put, List.setIfInBounds_toArray, List.set_cons_zero, List.set_cons_succ]
      refine anyI_take (i := 2) (oi := _) (v := ?q1v3) rfl (by as_aux_lemma => kernel_rfl) (by as_aux_lemma => kernel_rfl) (by as_aux_lemma => kernel_rfl) rfl (fun _ _ _ h => h) (Or.inl ⟨by rfl, ?q1y3⟩) (by assumption) ?q1r3
      case q1y3 =>
        intro w' hSw
        (try dsimp only at hSw)
        go_split_ands
        simp only [List.getElem_toArray, List.getElem_cons_succ, List.getElem_cons_zero]
        go_simp
        all_goals (try with_reducible rfl)
      simp only [List.getElem_toArray, List.getElem_cons_succ, List.getElem_cons_zero, Act.put, List.setIfInBounds_toArray, List.set_cons_zero, List.set_cons_succ]
      refine anyI_take (i := 3) (oi := _) (v := ?q1v4) rfl (by as_aux_lemma => kernel_rfl) (by as_aux_lemma => kernel_rfl) (by as_aux_lemma => kernel_rfl) rfl (fun _ _ _ h => h) (Or.inl ⟨by rfl, ?q1y4⟩) (by assumption) ?q1r4
      case q1y4 =>
        intro w' hSw
        (try dsimp only at hSw)
        go_split_ands
        simp only [List.getElem_toArray, List.getElem_cons_succ, List.getElem_cons_zero]
        go_simp
        all_goals (try with_reducible rfl)
      simp only [List.getElem_toArray, List.getElem_cons_succ, List.getElem_cons_zero, Act.put, List.setIfInBounds_toArray, List.set_cons_zero, List.set_cons_succ]
      refine anyI_ready (rs := [4]) (by as_aux_lemma => kernel_rfl) (by simp) ?_
      refine AllI.cons rfl rfl (fun K hK => ?_) AllI.nil
      simp only [List.getElem_toArray, List.getElem_cons_succ, List.getElem_cons_zero]
      go_simp
      have hS4 := HS4.out
      clear hHeld
      refine hK.out _ _ hS4 (fun hHeld => ?_)
      clear hK K
      (try simp only [Act.put, List.setIfInBounds_toArray, List.set_cons_zero, List.set_cons_succ])
      refine anyI_take (i := 5) (oi := _) (v := ?q1v6) rfl (by as_aux_lemma => kernel_rfl) (by as_aux_lemma => kernel_rfl) (by as_aux_lemma => kernel_rfl) rfl (fun _ _ _ h => h) (Or.inl ⟨by rfl, ?q1y6⟩) (by assumption) ?q1r6
      case q1y6 =>
        intro w' hSw
        (try dsimp only at hSw)
        go_split_ands
        simp only [List.getElem_toArray, List.getElem_cons_succ, List.getElem_cons_zero]
        go_simp
        all_goals (try with_reducible rfl)
      simp only [List.getElem_toArray, List.getElem_cons_succ, List.getElem_cons_zero, Act.put, List.setIfInBounds_toArray, List.set_cons_zero, List.set_cons_succ]
      refine anyI_take (i := 6) (oi := _) (v := ?q1v7) rfl (by as_aux_lemma => kernel_rfl) (by as_aux_lemma => kernel_rfl) (by as_aux_lemma => kernel_rfl) rfl (fun _ _ _ h => h) (Or.inl ⟨by rfl, ?q1y7⟩) (by assumption) ?q1r7
      case q1y7 =>
        intro w' hSw
        (try dsimp only at hSw)
        go_split_ands
        simp only [List.getElem_toArray, List.getElem_cons_succ, List.getElem_cons_zero]
        go_simp
        all_goals (try with_reducible rfl)
      simp only [List.getElem_toArray, List.getElem_cons_succ, List.getElem_cons_zero, Act.put, List.setIfInBounds_toArray, List.set_cons_zero, List.set_cons_succ]
      refine anyI_last (by as_aux_lemma => kernel_rfl) (by as_aux_lemma => kernel_rfl) rfl (fun K hK => ?_)
      simp only [List.getElem_toArray, List.getElem_cons_succ, List.getElem_cons_zero]
      go_simp
      refine hK.out _ _ ?_
      clear hK K
      (try simp only [Act.put, List.setIfInBounds_toArray, List.set_cons_zero, List.set_cons_succ])
      go_wp2_with fail
      refine bodyPost_ret (v := .tuple #[.agg #[.int .i64 a, .int .i64 b, .string C], .slice ax S.length cx, .slice ad G.length cd, .agg #[.int .i64 (T : Int), .int .i64 (n : Int), .slice aW vs.length cW]]) (by simp [results, Tryz.results28, go_sem, g0, g1, g2, k0, k1, k2]) rfl ?_
      exact ⟨a, b, C, S, G, T, Ws, _, _, _, vs, by rw [HN.out], HPD.out, own_drewW HXF.out, own_drewW HDF.out, out_drewW HOF.out, turn_drewW HG8.out⟩

/-- A drawn plan came back. -/
def DrawnP (w : World) (e : Ending) (w' : World) : Prop :=
  ∃ (a b : Nat) (C : ByteArray) (S G : List Int) (T : Nat) (Ws : List (List Int)) (x y vW : Value) (vs : List Value), e = .returned (.tuple #[.agg #[.int .i64 a, .int .i64 b, .string C], x, y, .agg #[.int .i64 (T : Int), .int .i64 (movesW Ws : Int), vW]]) ∧ PlanD a b C S G T Ws ∧
    w'.ownsRow w.heap.size 3 1 x S.length (S.map (Value.int .i64)) ∧ w'.ownsRow w.heap.size 3 1 y G.length (G.map (Value.int .i64)) ∧ OutW w' w.heap.size vW vs Ws ∧ Below w.heap.size w w'
set_option maxHeartbeats 2000000 in
theorem drawWalk (N : Nat) (v : Value) (w : World) (hN : N ≤ 9000000000000000) (hc : CodeB w v N w.heap.size) :
    Calls Tryz.prog 7 #[v] w (DrawnP w) := by
  have bA := (Below.refl _ w).alloc (Nat.le_refl _) (.cells #[.int .i64 0, .int .i64 0, .string ⟨#[]⟩] 25)
  have bB := (Below.refl _ (w.alloc (.cells #[.int .i64 0, .int .i64 0, .string ⟨#[]⟩] 25))).alloc (Nat.le_refl _) (.cells #[.int .i64 0, .int .i64 0, .slice none 0 0] 29)
  have hsA : ((w.alloc (.cells #[.int .i64 0, .int .i64 0, .string ⟨#[]⟩] 25)).alloc (.cells #[.int .i64 0, .int .i64 0, .slice none 0 0] 29)).heap.size = w.heap.size + 2 := by rw [World.size_alloc, World.size_alloc]
  have hr0 := (bB.block w.heap.size (by simp)).trans (heap_alloc_new w (.cells #[.int .i64 0, .int .i64 0, .string ⟨#[]⟩] 25))
  have hr1 := heap_alloc_new (w.alloc (.cells #[.int .i64 0, .int .i64 0, .string ⟨#[]⟩] 25)) (.cells #[.int .i64 0, .int .i64 0, .slice none 0 0] 29)
  rw [World.size_alloc] at hr1
  have hB0 := bA.trans (bB.mono bA.size)
  have hc0 := (hc.below hB0).up (g' := w.heap.size + 2) (by omega)
  have HR0 := Lib.hid hr0
  have HR1 := Lib.hid hr1
  have HB0 := Lib.hid hB0
  have HC0 := Lib.hid hc0
  have HSA := Lib.hid hsA
  clear hc bA bB hr0 hr1 hB0 hc0 hsA
  go_enter Tryz.func7, Tryz.ntmps7
  go_wp2_with fail
  refine (l01New N v _ hN (by rw [HSA.out]; exact HC0.out)).mono ?_
  rintro e w1 ⟨rfl, hk1, hb1⟩
  rw [HSA.out] at hk1
  have hc1 := HC0.out.below hb1
  have h0 := (hb1.block w.heap.size (by rw [HSA.out]; omega)).trans HR0.out
  have h1 := (hb1.block (w.heap.size + 1) (by rw [HSA.out]; omega)).trans HR1.out
  have hB1 := HB0.out.trans (hb1.mono HB0.out.size)
  have hl1 : w.heap.size + 2 ≤ w1.heap.size := by have := hb1.size; rw [HSA.out] at this; exact this
  have H0 := Lib.hid h0
  have H1 := Lib.hid h1
  have HB1 := Lib.hid hB1
  have HP := Lib.hid (l12Right (w.heap.size + 2) N v w1 hN hc1 hk1)
  have HLG : Hid (w.heap.size + 2 < w1.heap.size) := Lib.hid hk1.lt
  clear hk1 hc1 h0 h1 hb1 HR0 HR1 HB0 HC0 hB1
  go_wp2_with fail
  refine HP.out.mono ?_
  rintro e w2 ⟨a, b, C, S, G, T, Ws, x, y, vW, vs, rfl, hD, hx, hy, hO, hg⟩
  obtain ⟨ax, cx, rfl⟩ := own_form hx
  obtain ⟨ad, cd, rfl⟩ := own_form hy
  obtain ⟨aW, cW, rfl⟩ := own_form hO.own
  have r0 := (hg.block w.heap.size (by omega) (fun e => by have := Option.some.inj e; omega)).trans H0.out
  have r1 := (hg.block (w.heap.size + 1) (by omega) (fun e => by have := Option.some.inj e; omega)).trans H1.out
  obtain ⟨⟨g0, g1, g2⟩, z0, z1, z2⟩ := row3 r0
  obtain ⟨⟨k0, k1, k2⟩, y0, y1, y2⟩ := row3 r1
  obtain ⟨n, HN⟩ : ∃ n, Hid (movesW Ws = n) := ⟨_, rfl⟩
  rw [HN.out]
  have HD := Lib.hid hD
  have HXF := Lib.hid (own_base (B' := w.heap.size) (set3_own (R := w.heap.size + 1) (u0 := .int .i64 (T : Int)) (u1 := .int .i64 (n : Int)) (u2 := .slice aW vs.length cW) (set3_own (R := w.heap.size) (u0 := .int .i64 a) (u1 := .int .i64 b) (u2 := .string C) hx (by omega)) (by omega)) (by omega))
  have HDF := Lib.hid (own_base (B' := w.heap.size) (set3_own (R := w.heap.size + 1) (u0 := .int .i64 (T : Int)) (u1 := .int .i64 (n : Int)) (u2 := .slice aW vs.length cW) (set3_own (R := w.heap.size) (u0 := .int .i64 a) (u1 := .int .i64 b) (u2 := .string C) hy (by omega)) (by omega)) (by omega))
  have HOF := Lib.hid ((set3_out (R := w.heap.size + 1) (u0 := .int .i64 (T : Int)) (u1 := .int .i64 (n : Int)) (u2 := .slice aW vs.length cW) (set3_out (R := w.heap.size) (u0 := .int .i64 a) (u1 := .int .i64 b) (u2 := .string C) hO (by omega)) (by omega)).baseD (B' := w.heap.size) (by omega))
  have hB2 : Below w.heap.size w w2 := HB1.out.grown hg HB1.out.size (fun k e => by have := Option.some.inj e; omega)
  have HBF := Lib.hid ((((((hB2.setCell (p := ⟨w.heap.size, 0, none⟩) (Nat.le_refl _) (.int .i64 a)).setCell (p := ⟨w.heap.size, 1, none⟩) (Nat.le_refl _) (.int .i64 b)).setCell (p := ⟨w.heap.size, 2, none⟩) (Nat.le_refl _) (.string C)).setCell (p := ⟨w.heap.size + 1, 0, none⟩) (by simp) (.int .i64 (T : Int))).setCell (p := ⟨w.heap.size + 1, 1, none⟩) (by simp) (.int .i64 (n : Int))).setCell (p := ⟨w.heap.size + 1, 2, none⟩) (by simp) (.slice aW vs.length cW))
  clear hD hx hy hO hg r0 r1 hB2 H0 H1 HB1 HP
  go_wp2_with fail
  refine bodyPost_ret (v := .tuple #[.agg #[.int .i64 a, .int .i64 b, .string C], .slice ax S.length cx, .slice ad G.length cd, .agg #[.int .i64 (T : Int), .int .i64 (n : Int), .slice aW vs.length cW]]) (by simp [results, Tryz.results7, go_sem, g0, g1, g2, k0, k1, k2]) rfl ?_
  exact ⟨a, b, C, S, G, T, Ws, _, _, _, vs, by rw [HN.out], HD.out, HXF.out, HDF.out, HOF.out, HBF.out⟩

end Go.Proofs.YtkbfbifepaoojaaGreatDoor

