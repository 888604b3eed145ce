/-
  CONTRACTS of the model's l04Some: some of the free cells of a map, ascending. No law is proved here.
  The free cells of a grid: which they are, and that they ascend; lists in strictly ascending order. Plain facts; no statement is proved here.
  Bytes of a text in memory, one of them turned to a free cell's. Plain facts; no law is proved here.
-/
import Derived.Test.YtkbfbifepaoojaaGreatDoorZPU11
import Derived.Test.YtkbfbifepaoojaaGreatDoorZPU06
import Derived.Test.YtkbfbifepaoojaaGreatDoorZPU07
import Derived.Test.YtkbfbifepaoojaaGreatDoorZPU05
namespace Go.Proofs.YtkbfbifepaoojaaGreatDoor
set_option maxRecDepth 4096
open Go.ChangeShapes Go.WideShapes Go.ChangeAt Go.RowKit

/-- What a draw's loop holds: the cursor, the code, a list F in block gf. -/
def Held (w wr : World) (g N gf : Nat) (v : Value) (F : List Int) : Prop :=
  w.grownBy wr (some g) ∧ Cur wr g v N ∧ CodeB wr v N g ∧ gf < wr.heap.size ∧ gf ≠ g ∧ ∀ (j : Nat) x, F[j]? = some x → wr.cell? ⟨gf, j, none⟩ = some (.int .i64 x)
theorem cell_as {w w' : World} {g : Nat} (h : w'.heap[g]? = w.heap[g]?) (j : Nat) : w'.cell? ⟨g, j, none⟩ = w.cell? ⟨g, j, none⟩ := by simp [World.cell?, h]
theorem Held.turn {w wr w' : World} {g N gf : Nat} {v : Value} {F : List Int} (h : Held w wr g N gf v F) (k : wr.grownBy w' (some g)) (hc : Cur w' g v N) : Held w w' g N gf v F := by
  obtain ⟨h1, h2, h3, h4, h5, h6⟩ := h
  exact ⟨drawn_on h1 k, hc, h3.turn k, Nat.lt_of_lt_of_le h4 k.size, h5, fun j x hx => (cell_as (k.block gf h4 (fun e => h5 (by cases e; rfl))) j).trans (h6 j x hx)⟩
theorem Held.below {w wr w' : World} {g N gf : Nat} {v : Value} {F : List Int} (h : Held w wr g N gf v F) (k : Below wr.heap.size wr w') : Held w w' g N gf v F := by
  obtain ⟨h1, h2, h3, h4, h5, h6⟩ := h
  exact ⟨turn_below h1 k, h2.below k, h3.below k, Nat.lt_of_lt_of_le h4 k.size, h5, fun j x hx => (cell_as (k.block gf h4) j).trans (h6 j x hx)⟩
theorem Held.app {w wr w' : World} {g N gf : Nat} {v : Value} {F : List Int} {o : Obj} {r : Option Nat} (h : Held w wr g N gf v F) (k : (wr.alloc o).grownBy w' r) (hr : ∀ j, r = some j → w.heap.size ≤ j ∧ g < j ∧ gf < j) : Held w w' g N gf v F := by
  obtain ⟨h1, h2, h3, h4, h5, h6⟩ := h
  exact ⟨turn_trans (turn_alloc h1 o) k (fun j e => .inl (hr j e).1), h2.keep (heap_on k h2.lt (fun e => by have := (hr _ e).2.1; omega)), code_on h3 k (fun j e => (hr j e).2.1),
    Nat.lt_of_lt_of_le h4 (Nat.le_trans (by simp) k.size), h5, fun j x hx => (cell_as (heap_on k h4 (fun e => by have := (hr _ e).2.2; omega)) j).trans (h6 j x hx)⟩

/-- Some of a list, in its order. -/
def someOf (F P : List Int) : List Int := F.filter fun x => P.contains x
/-- A list came back in memory of the call's own. -/
def SomeV (w : World) (g N : Nat) (v : Value) (F : List Int) (e : Ending) (w' : World) : Prop :=
  ∃ x P, e = .returned x ∧ w'.ownsRow w.heap.size 3 1 x (someOf F P).length ((someOf F P).map (Value.int .i64)) ∧ Cur w' g v N ∧ CodeB w' v N g ∧ w.grownBy w' (some g)

/-- The same, with as many drawn as are asked for, each of them of the list. -/
def SomeN (w : World) (g N : Nat) (v : Value) (F : List Int) (n : Nat) (e : Ending) (w' : World) : Prop :=
  ∃ x P, (P.length = n ∧ ∀ y ∈ P, y ∈ F) ∧ e = .returned x ∧ w'.ownsRow w.heap.size 3 1 x (someOf F P).length ((someOf F P).map (Value.int .i64)) ∧ Cur w' g v N ∧ CodeB w' v N g ∧ w.grownBy w' (some g)
theorem SomeN.weak {w w' : World} {g N n : Nat} {v : Value} {F : List Int} {e : Ending} (h : SomeN w g N v F n e w') : SomeV w g N v F e w' := by
  obtain ⟨x, P, _, h⟩ := h
  exact ⟨x, P, h⟩

theorem someOf_yes {F P : List Int} {k : Nat} {x : Int} (h : F[k]? = some x) (hp : P.contains x = true) : someOf (F.take (k + 1)) P = someOf (F.take k) P ++ [x] := by
  obtain ⟨hk, rfl⟩ := List.getElem?_eq_some_iff.1 h
  unfold someOf
  rw [List.take_succ_eq_append_getElem hk, List.filter_append, List.filter_cons_of_pos hp]
  rfl
theorem someOf_no {F P : List Int} {k : Nat} {x : Int} (h : F[k]? = some x) (hp : P.contains x = false) : someOf (F.take (k + 1)) P = someOf (F.take k) P := by
  obtain ⟨hk, rfl⟩ := List.getElem?_eq_some_iff.1 h
  unfold someOf
  rw [List.take_succ_eq_append_getElem hk, List.filter_append, List.filter_cons_of_neg (by rw [hp]; decide)]
  simp
theorem someOf_len (F P : List Int) (k : Nat) : (someOf (F.take k) P).length ≤ k := Nat.le_trans (List.length_filter_le _ _) (by rw [List.length_take]; exact Nat.min_le_left _ _)

theorem own_two {v v' : Value} {B : Nat} (h : ∀ j, v.ownBlock = some j → j < B) (h' : ∀ j, v'.ownBlock = some j → B ≤ j) : v.ownBlock = none ∨ v.ownBlock ≠ v'.ownBlock := by
  cases hv : v.ownBlock with
  | none => exact .inl rfl
  | some j =>
    refine .inr (fun e => ?_)
    have h1 := h j hv
    have h2 := h' j e.symm
    omega

set_option maxHeartbeats 4000000 in
theorem l04Some_none (g N : Nat) (v : Value) (W H : Int) (C : ByteArray) (n : Int) (hC : C.size ≤ 1048576) (HF : Hid (freeL W H C = [])) (w : World) (hc : CodeB w v N g) (hk : Cur w g v N) :
    Calls Tryz.prog 99 #[.pointer (some ⟨g, 0, none⟩), .agg #[.int .i64 W, .int .i64 H, .string C], .int .i64 n] w (SomeV w g N v []) := by
  have hB := (Below.refl _ w).alloc (Nat.le_refl _) (.cells #[.int .i64 W, .int .i64 H, .string C] 25)
  go_enter Tryz.func99, Tryz.ntmps99
  go_wp2_with fail
  refine (specFreeCells W H C [] hC HF _).mono ?_
  rintro e w1 ⟨v0, rfl, hown, hb⟩
  obtain ⟨av, cv, rfl⟩ := own_form hown
  have hB1 := hB.trans (hb.mono (by simp))
  have hB2 := (hB1.alloc hB1.size (.cells #[] 3))
  have hB3 := (hB2.alloc hB2.size (.cells #[] 3))
  have hO := World.ownsRow_made (base := w.heap.size) (e := 3) (size := 1) (w1.alloc (.cells #[] 3)) #[] 0 (by have := hB1.size; simp; omega) (by decide) rfl
  rw [World.size_alloc] at hO
  clear hown
  go_wp2_with fail
  go_loop [9] (fun i => i = .int .i64 0) (fun _ => 0)
  case atStart => rfl
  case round =>
    obtain rfl := hrel
    by_cases h : 0 < n
    · go_wp2_with fail
      go_loop [10, 11] (fun o i => o = .slice (some ⟨w1.heap.size + 1, 0, none⟩) 0 0 ∧ i = .int .i64 0) (fun _ _ => 0)
      case atStart => exact ⟨rfl, rfl⟩
      case round =>
        obtain ⟨rfl, rfl⟩ := hrel
        go_wp2_with fail
        go_ret
        exact ⟨_, [], rfl, hO, hk.below hB3, hc.below hB3, turn_below (turn_refl _ _) hB3⟩
    · go_wp2_with fail
      go_loop [10, 11] (fun o i => o = .slice (some ⟨w1.heap.size + 1, 0, none⟩) 0 0 ∧ i = .int .i64 0) (fun _ _ => 0)
      case atStart => exact ⟨rfl, rfl⟩
      case round =>
        obtain ⟨rfl, rfl⟩ := hrel
        go_wp2_with fail
        go_ret
        exact ⟨_, [], rfl, hO, hk.below hB3, hc.below hB3, turn_below (turn_refl _ _) hB3⟩

set_option maxHeartbeats 4000000 in
theorem l04Some_yes (g N : Nat) (v : Value) (W H : Int) (C : ByteArray) (n : Nat) (F : List Int) (hN : N ≤ 9000000000000000) (hn : n ≤ 1000) (hC : C.size ≤ 1048576) (HF : Hid (freeL W H C = F)) (hF : 1 ≤ F.length) (w : World) (hc : CodeB w v N g) (hk : Cur w g v N) :
    Calls Tryz.prog 99 #[.pointer (some ⟨g, 0, none⟩), .agg #[.int .i64 W, .int .i64 H, .string C], .int .i64 n] w (SomeN w g N v F n) := by
  obtain ⟨i0, hi, hz0, hz1, hz2⟩ := info_parts Tryz.info3
  have hF64 : F.length ≤ 64 := by rw [← HF.out]; exact Nat.le_trans (picks_len _ _) (Nat.min_le_right _ 64)
  have hgl := hk.lt
  have hB := (Below.refl _ w).alloc (Nat.le_refl _) (.cells #[.int .i64 W, .int .i64 H, .string C] 25)
  go_enter Tryz.func99, Tryz.ntmps99
  go_wp2_with fail
  refine (specFreeCells W H C F hC HF _).mono ?_
  rintro e w1 ⟨v0, rfl, hown, hb⟩
  obtain ⟨gf, c0, rfl⟩ : ∃ gf c, v0 = .slice (some ⟨gf, 0, none⟩) F.length c := by
    rcases hown.2 with ⟨_, h⟩ | ⟨gf, cap, cur, h, _⟩
    · omega
    · exact ⟨gf, cap, h⟩
  have hgf := hown.lt gf rfl
  rw [World.size_alloc] at hgf
  have hB1 := hB.trans (hb.mono (by simp))
  have hH1 : Held w w1 g N gf v F := ⟨turn_below (turn_refl _ _) hB1, hk.below hB1, hc.below hB1, hgf.2, by omega, fun j x hx => by
    have h2 := hown.cells (g := gf) rfl j (.int .i64 x) (by simp [hx])
    have hadd : (⟨gf, 0, none⟩ : Addr).add j = ⟨gf, j, none⟩ := by unfold Addr.add; split <;> simp_all
    rwa [hadd] at h2⟩
  have hs1 : w.heap.size + 1 ≤ w1.heap.size := by have := hb.size; simpa using this
  have hH2 := hH1.below ((Below.refl _ w1).alloc (Nat.le_refl _) (.cells #[] 3))
  have hO := World.ownsRow_made (base := w1.heap.size) (e := 3) (size := 1) w1 #[] 0 (Nat.le_refl _) (by decide) rfl
  clear hown hb hB hB1 hc hk hH1
  go_wp2_with fail
  go_loopw [8, 9] (fun p i wr => ∃ (k : Nat) (P : List Int), k ≤ n ∧ i = .int .i64 k ∧ (P.length = k ∧ ∀ y ∈ P, y ∈ F) ∧ wr.ownsRow w1.heap.size 3 1 p P.length (P.map (Value.int .i64)) ∧ Held w wr g N gf v F ∧ w1.heap.size ≤ wr.heap.size) (fun _ i _ => n - (intOf i).toNat)
  case atStart => exact ⟨0, [], Nat.zero_le _, rfl, ⟨rfl, fun _ h => by cases h⟩, hO, hH2, by simp⟩
  case round =>
    clear hO hH2
    obtain ⟨k, P, hkn, rfl, ⟨hP, hPF⟩, hown, hH, hsw⟩ := hrel
    have HPF := Lib.hid hPF
    clear hPF
    by_cases hlt : k < n
    · have hF0 : (0 : Int) < (F.length : Int) := by omega
      have hlt2 : (k : Int) < (n : Int) := by omega
      go_wp2_with fail
      refine (l01Below g N v (F.length : Int) wr hN hH.2.2.1 hH.2.1 (by omega)).mono ?_
      rintro e w2 ⟨y, rfl, ⟨hy0, hy1⟩, hcur, hg2⟩
      obtain ⟨y, rfl⟩ : ∃ n : Nat, y = n := ⟨y.toNat, by omega⟩
      have hH2 := hH.turn hg2 hcur
      have hown2 := hown.kept hg2 (own_ne hown (by omega))
      have hsw2 := Nat.le_trans hsw hg2.size
      obtain ⟨x, hx⟩ : ∃ x, F[y]? = some x := ⟨_, List.getElem?_eq_getElem (by omega)⟩
      have d0 := hH2.2.2.2.2.2 y x hx
      have HPG : Hid (∀ z ∈ P ++ [x], z ∈ F) := Lib.hid fun z hz => by
        rcases List.mem_append.1 hz with h | h
        · exact HPF.out z h
        · rw [List.mem_singleton.1 h]
          exact List.mem_of_getElem? hx
      clear hown hH hg2 hcur hx
      go_wp2_with (at_builtin; refine wpList_append_own _ rfl _ _ 26 rfl w1.heap.size 3 i0 (.int .i64 0) 1 8 Tryz.underlying26 hi hz0 hz1 hz2 rfl (by decide) _ _ _ rfl (hown2.alloc _) ⟨w2.heap.size, 0, none⟩ 1 1 ([(x : Int)].map (Value.int .i64)) rfl rfl (int_new _ _ _) (ints_one _) (by unfold maxLen; omega) (by omega) (by simp; omega) ?_; intro v' w6 hown6 hgrow _; have hH6 := hH2.app hgrow (fun j e => by have := (hown2.lt j e).1; omega); have hs6 : w2.heap.size ≤ w6.heap.size := Nat.le_trans (by simp) hgrow.size; clear hgrow)
      go_roundw
      case rel => exact ⟨k + 1, P ++ [x], by omega, by go_num, ⟨by simp [hP], HPG.out⟩, ints_push hown6 rfl, hH6, by omega⟩
      case measure => simp [intOf]; omega
    · obtain rfl : k = n := by omega
      have hF0 : (0 : Int) < (F.length : Int) := by omega
      have hO := World.ownsRow_made (base := wr.heap.size) (e := 3) (size := 1) wr #[] 0 (Nat.le_refl _) (by decide) rfl
      have hHo := hH.below ((Below.refl _ wr).alloc (Nat.le_refl _) (.cells #[] 3))
      have hPo := hown.alloc (.cells #[] 3)
      have hPl : ∀ j, u8.ownBlock = some j → j < wr.heap.size := fun j e => (hown.lt j e).2
      clear hown hH
      go_wp2_with fail
      go_loopw [10, 11] (fun o i wx => ∃ j : Nat, j ≤ F.length ∧ i = .int .i64 j ∧ wx.ownsRow wr.heap.size 3 1 o (someOf (F.take j) P).length ((someOf (F.take j) P).map (Value.int .i64)) ∧ Held w wx g N gf v F ∧ wx.ownsRow w1.heap.size 3 1 u8 P.length (P.map (Value.int .i64)) ∧ wr.heap.size ≤ wx.heap.size) (fun _ i _ => F.length - (intOf i).toNat)
      case atStart => exact ⟨0, Nat.zero_le _, rfl, by simpa [someOf] using hO, hHo, hPo, by simp⟩
      case round =>
        clear hO hHo hPo
        obtain ⟨j, hj, rfl, hown, hH, hPw, hsx⟩ := hrel
        by_cases hjl : j < F.length
        · obtain ⟨x, hx⟩ : ∃ x, F[j]? = some x := ⟨_, List.getElem?_eq_getElem hjl⟩
          have d0 := hH.2.2.2.2.2 j x hx
          have hjl2 : (j : Int) < (F.length : Int) := by omega
          have hlen := someOf_len F P j
          cases hp : P.contains x with
          | true =>
            have HP := Lib.hid hp
            have HS : Hid (someOf (F.take (j + 1)) P = someOf (F.take j) P ++ [x]) := Lib.hid (someOf_yes hx hp)
            clear hx hp
            go_wp2_with fail
            refine (specHas u8 P x true _ (ints_of_own hPw) HP (by omega)).mono ?_
            rintro e w' ⟨rfl, rfl⟩
            go_wp2_with (at_builtin; refine wpList_append_own _ rfl _ _ 26 rfl _ 3 i0 (.int .i64 0) 1 8 Tryz.underlying26 hi hz0 hz1 hz2 rfl (by decide) _ _ _ rfl (hown.alloc _) ⟨wr.heap.size, 0, none⟩ 1 1 ([(x : Int)].map (Value.int .i64)) rfl rfl (int_new _ _ _) (ints_one _) (by unfold maxLen; omega) (by omega) (by simp; omega) ?_; intro v' w6 hown6 hgrow _; have hH6 := hH.app hgrow (fun j e => by have := (hown.lt j e).1; omega); have hs6 : wr.heap.size ≤ w6.heap.size := Nat.le_trans (by simp) hgrow.size; have hP6 := (hPw.alloc _).kept hgrow (own_two hPl (fun j e => (hown.lt j e).1)); clear hgrow)
            go_roundw
            case rel => exact ⟨j + 1, by omega, by go_num, ints_push hown6 HS.out, hH6, hP6, by omega⟩
            case measure => simp [intOf]; omega
          | false =>
            have HP := Lib.hid hp
            have HS : Hid (someOf (F.take (j + 1)) P = someOf (F.take j) P) := Lib.hid (someOf_no hx hp)
            clear hx hp
            go_wp2_with fail
            refine (specHas u8 P x false _ (ints_of_own hPw) HP (by omega)).mono ?_
            rintro e w' ⟨rfl, rfl⟩
            go_wp2_with fail
            go_roundw
            case rel => exact ⟨j + 1, by omega, by go_num, by rw [HS.out]; exact hown, hH, hPw, by omega⟩
            case measure => simp [intOf]; omega
        · obtain rfl : j = F.length := by omega
          rw [List.take_length] at hown
          go_wp2_with fail
          go_ret
          exact ⟨_, P, ⟨hP, HPF.out⟩, rfl, own_base hown (by omega), hH.2.1, hH.2.2.1, hH.1⟩

theorem l04Some (g N : Nat) (v : Value) (W H : Int) (C : ByteArray) (n : Int) (hN : N ≤ 9000000000000000) (hn0 : 0 ≤ n) (hn : n ≤ 1000) (hC : C.size ≤ 1048576) (w : World) (hc : CodeB w v N g) (hk : Cur w g v N) :
    Calls Tryz.prog 99 #[.pointer (some ⟨g, 0, none⟩), .agg #[.int .i64 W, .int .i64 H, .string C], .int .i64 n] w (SomeV w g N v (freeL W H C)) := by
  cases hF : freeL W H C with
  | nil => exact l04Some_none g N v W H C n hC (Lib.hid hF) w hc hk
  | cons x F =>
    obtain ⟨k, rfl⟩ : ∃ k : Nat, n = k := ⟨n.toNat, by omega⟩
    exact (l04Some_yes g N v W H C k (x :: F) hN (by omega) hC (Lib.hid hF) (by simp) w hc hk).mono fun e w' h => h.weak

theorem own_setD {w : World} {B : Nat} {e : TypeId} {sz n : Nat} {v : Value} {xs : List Value} {G : Nat} (h : w.ownsRow B e sz v n xs) (hv : ∀ j, v.ownBlock = some j → j ≠ G) (j : Nat) (u : Value) : (w.setCell ⟨G, j, none⟩ u).ownsRow B e sz v n xs :=
  h.kept (grown_set (turn_refl w (some G)) j u) (by
    cases hb : v.ownBlock with
    | none => exact .inl rfl
    | some k => exact .inr (fun e => hv k hb (Option.some.inj e)))
theorem grown_undrew {w w' : World} {r : Option Nat} (h : w.drew.grownBy w' r) : w.grownBy w' r := ⟨h.os, h.tape, h.output, h.size, h.block⟩
theorem CodeB.drew {w : World} {v : Value} {N g : Nat} (h : CodeB w v N g) : CodeB w.drew v N g := h
theorem Cur.drew {w : World} {v : Value} {N g : Nat} (h : Cur w g v N) : Cur w.drew g v N := h
theorem CodeB.up {w : World} {v : Value} {N g g' : Nat} (h : CodeB w v N g) (hg : g ≤ g') : CodeB w v N g' := by
  obtain ⟨a, c, hv, hh⟩ := h
  refine ⟨a, c, hv, ?_⟩
  rcases hh with h0 | ⟨b, ha, hb, hlt, hc⟩
  · exact .inl h0
  · exact .inr ⟨b, ha, by omega, hlt, hc⟩

/-- What a draw leaves of a drawn map's box and of the result's. -/
theorem after_turn {W w3 w4 : World} {a b : Int} {C : ByteArray} {G : Nat} (hB : Below W.heap.size W w3) (hG : w3.heap[G]? = some (.cells #[.int .i64 a, .int .i64 b, .string C] 25 (0, 0)))
    (hR : w3.heap[W.heap.size]? = some (.cells #[.int .i64 0, .int .i64 0, .string ⟨#[]⟩] 25 (0, 0))) (_h : W.heap.size ≤ W.heap.size) (hne : W.heap.size + 1 < G) (hg : w3.grownBy w4 (some (W.heap.size + 1))) :
    Below W.heap.size W w4 ∧ w4.heap[G]? = some (.cells #[.int .i64 a, .int .i64 b, .string C] 25 (0, 0)) ∧ w4.heap[W.heap.size]? = some (.cells #[.int .i64 0, .int .i64 0, .string ⟨#[]⟩] 25 (0, 0)) ∧
      w4.cell? ⟨G, 0, none⟩ = some (.int .i64 a) ∧ w4.cell? ⟨G, 1, none⟩ = some (.int .i64 b) ∧ w4.cell? ⟨G, 2, none⟩ = some (.string C) := by
  have h1 := (hg.block G (Array.getElem?_eq_some_iff.1 hG).1 (fun e => by have := Option.some.inj e; omega)).trans hG
  have h2 := (hg.block W.heap.size (Array.getElem?_eq_some_iff.1 hR).1 (fun e => by have := Option.some.inj e; omega)).trans hR
  refine ⟨hB.grown hg hB.size (fun k e => by have := Option.some.inj e; omega), h1, h2, ?_, ?_, ?_⟩ <;> rw [cell_of_row _ _ _ _ _ _ h1] <;> rfl

end Go.Proofs.YtkbfbifepaoojaaGreatDoor

namespace Go.Proofs.YtkbfbifepaoojaaGreatDoor
set_option maxRecDepth 4096

/-- Two lists in strictly ascending order with the same members are equal. -/
theorem asc_same : ∀ {L M : List Nat}, L.Pairwise (· < ·) → M.Pairwise (· < ·) → (∀ x, x ∈ L ↔ x ∈ M) → L = M
  | [], [], _, _, _ => rfl
  | [], y :: M, _, _, h => absurd ((h y).2 (List.mem_cons_self ..)) (by simp)
  | x :: L, [], _, _, h => absurd ((h x).1 (List.mem_cons_self ..)) (by simp)
  | x :: L, y :: M, hL, hM, h => by
    obtain ⟨a1, a2⟩ := List.pairwise_cons.1 hL
    obtain ⟨b1, b2⟩ := List.pairwise_cons.1 hM
    have e : x = y := by
      rcases List.mem_cons.1 ((h x).1 (List.mem_cons_self ..)) with e | hx
      · exact e
      · rcases List.mem_cons.1 ((h y).2 (List.mem_cons_self ..)) with e | hy
        · exact e.symm
        · have := a1 y hy
          have := b1 x hx
          omega
    subst e
    rw [asc_same a2 b2 fun z => ?_]
    constructor
    · intro hz
      rcases List.mem_cons.1 ((h z).1 (List.mem_cons_of_mem _ hz)) with e | hz2
      · have := a1 z hz
        omega
      · exact hz2
    · intro hz
      rcases List.mem_cons.1 ((h z).2 (List.mem_cons_of_mem _ hz)) with e | hz2
      · have := b1 z hz
        omega
      · exact hz2
/-- In an ascending list as many lie below an element as its place says. -/
theorem asc_count {c : Int} : ∀ {L : List Int}, L.Pairwise (· < ·) → c ∈ L → L.countP (fun x => decide (x < c)) = L.idxOf c
  | [], _, h => by cases h
  | x :: L, hL, h => by
    obtain ⟨a1, a2⟩ := List.pairwise_cons.1 hL
    rw [List.countP_cons, List.idxOf_cons]
    by_cases e : x = c
    · subst e
      have h0 : L.countP (fun y => decide (y < x)) = 0 := by
        rw [List.countP_eq_zero]
        intro y hy
        have := a1 y hy
        simp only [decide_eq_true_eq]
        omega
      rw [h0]
      simp
    · have hc : c ∈ L := by
        rcases List.mem_cons.1 h with h | h
        · exact absurd h.symm e
        · exact h
      have hlt := a1 c hc
      rw [asc_count a2 hc]
      have e2 : (x == c) = false := by simp [e]
      simp [e2, hlt]

section
variable {W H : Int} {C : ByteArray}
theorem freeU_cell {c : Int} (h : freeV W H C c = true) : gok W H C = true ∧ ∃ n : Nat, c = n ∧ n < C.size := by
  unfold freeV at h
  simp only [Bool.and_eq_true] at h
  exact cellOk_out h.1
theorem freeU_mem {c : Int} (h : freeV W H C c = true) : c ∈ freeL W H C := by
  obtain ⟨hg, n, rfl, hn⟩ := freeU_cell h
  have h64 : C.size ≤ 64 := by
    obtain ⟨⟨⟨h1, h2⟩, ⟨h3, h4⟩, hs⟩, _⟩ := gok_out hg
    have := mul_bd h1 h2 h3 h4
    omega
  unfold freeL picks
  refine List.mem_map.2 ⟨n, List.mem_filter.2 ⟨List.mem_range.2 (by omega), h⟩, rfl⟩

theorem memU_free {c : Int} (h : c ∈ freeL W H C) : freeV W H C c = true := by
  obtain ⟨n, hn, rfl⟩ := List.mem_map.1 h
  exact (List.mem_filter.1 hn).2
/-- The free cells ascend. -/
theorem freeU_up : (freeL W H C).Pairwise (· < ·) := by
  unfold freeL picks
  rw [List.pairwise_map]
  exact (List.Pairwise.filter _ List.pairwise_lt_range).imp fun h => by omega
theorem free_has (c : Int) : (freeL W H C).contains c = freeV W H C c := by
  rw [Bool.eq_iff_iff, List.contains_iff_mem]
  exact ⟨memU_free, freeU_mem⟩
theorem free_le : (freeL W H C).Pairwise (· ≤ ·) := freeU_up.imp fun h => Int.le_of_lt h
end

end Go.Proofs.YtkbfbifepaoojaaGreatDoor

namespace Go.Proofs.YtkbfbifepaoojaaGreatDoor
set_option maxRecDepth 4096
open Go.ChangeShapes Go.WideShapes Go.ChangeAt Go.RowKit

def BytesM (w : World) (g : Nat) (l : List UInt8) : Prop :=
  (∀ (j : Nat) b, l[j]? = some b → w.cell? ⟨g, j, none⟩ = some (.int .u8 b.toNat)) ∧ ∀ j, j < l.length → w.frozen? ⟨g, j, none⟩ = false
theorem bytesM_new (w : World) (s : ByteArray) (cap : Nat) (e : TypeId) : BytesM (w.drew.alloc (.cells (bytesRow s cap) e ((bytesRow s cap).size, (bytesRow s cap).size + 1))) w.heap.size s.data.toList := by
  have hc := World.cell?_alloc_mark w.drew (bytesRow s cap) e ((bytesRow s cap).size, (bytesRow s cap).size + 1)
  have hf := World.frozen?_alloc_mark w.drew (bytesRow s cap) e (bytesRow s cap).size ((bytesRow s cap).size + 1)
  refine ⟨fun j b hb => ?_, fun j hj => ?_⟩
  · obtain ⟨hj, rfl⟩ := List.getElem?_eq_some_iff.1 hb
    have hj2 : j < s.data.size := by simpa using hj
    refine (hc j).trans ((bytesRow_at s cap j hj2).trans ?_)
    simp
  · refine (hf j).trans ?_
    have h1 : s.data.size ≤ (bytesRow s cap).size := by unfold bytesRow; simp
    have h2 : j < s.data.size := by simpa using hj
    simp
    omega
theorem bytesM_on {w w' : World} {g : Nat} {l : List UInt8} (h : BytesM w g l) (hh : w'.heap[g]? = w.heap[g]?) : BytesM w' g l :=
  ⟨fun j b hb => by have := h.1 j b hb; simp only [World.cell?] at this ⊢; rw [hh]; exact this, fun j hj => by have := h.2 j hj; simp only [World.frozen?] at this ⊢; rw [hh]; exact this⟩
theorem bytesM_set {w : World} {g m : Nat} {l : List UInt8} (h : BytesM w g l) (hm : m < l.length) : BytesM (w.setCell ⟨g, m, none⟩ (.int .u8 46)) g (l.set m 46) := by
  refine ⟨fun j b hb => ?_, fun j hj => ?_⟩
  · rw [List.getElem?_set] at hb
    by_cases hj : m = j
    · subst hj
      rw [if_pos rfl, if_pos hm] at hb
      obtain rfl := Option.some.inj hb
      exact World.cell?_setCell_same' w _ _ (by rw [h.1 m _ (List.getElem?_eq_getElem hm)]; rfl)
    · rw [if_neg hj] at hb
      rw [World.cell?_setCell_other w _ _ _ (by intro e; injection e with _ e2; exact hj e2)]
      exact h.1 j b hb
  · rw [World.frozen?_setCell]
    exact h.2 j (by simpa using hj)
theorem run_text_m {P : Program} (w : World) (src dst e : TypeId) (hs : P.underlying src = some (.slice e)) (he : P.underlying e = some (.int .u8)) (hd : P.underlying dst = some .string)
    {g cap : Nat} {l : List UInt8} (h : BytesM w g l) (n : Nat) (hn : l.length = n) : (convert src dst (.slice (some ⟨g, 0, none⟩) n cap)).run P w = .ok (.string ⟨l.toArray⟩) w := by
  subst hn
  exact run_convert_bytes_back w src dst e ⟨g, 0, none⟩ cap l hs he hd (fun j hj => by
    have hadd : (⟨g, 0, none⟩ : Addr).add j = ⟨g, j, none⟩ := by unfold Addr.add; split <;> simp_all
    rw [hadd]
    exact h.1 j _ (List.getElem?_eq_getElem hj))

theorem byte_list (l : List UInt8) (j : Nat) (h : j < l.length) : byteAt ⟨l.toArray⟩ j = (l[j].toNat : Int) := by
  unfold byteAt
  have e : (⟨l.toArray⟩ : ByteArray).data.toList.getD j 0 = l[j] := by
    simp [List.getD, h]
  rw [e]
/-- One byte turned to a free cell's: the map is valid still, and the cell is free. -/
theorem gok_46 {a b m : Nat} {C : ByteArray} (h : gok a b C = true) (hm : m < C.size) : gok a b ⟨(C.data.toList.set m 46).toArray⟩ = true ∧ (⟨(C.data.toList.set m 46).toArray⟩ : ByteArray).size = C.size ∧ freeV a b ⟨(C.data.toList.set m 46).toArray⟩ (m : Int) = true := by
  have hl : C.data.toList.length = C.size := by simp
  have hsz : (⟨(C.data.toList.set m 46).toArray⟩ : ByteArray).size = C.size := by
    show (C.data.toList.set m 46).toArray.size = _
    simp
  obtain ⟨⟨⟨h1, h2⟩, ⟨h3, h4⟩, hs⟩, hk⟩ := gok_out h
  have hok : gok a b ⟨(C.data.toList.set m 46).toArray⟩ = true := by
    refine gok_yes ⟨⟨h1, h2⟩, ⟨h3, h4⟩, by rw [hsz]; exact hs⟩ fun j hj => ?_
    have hj2 : j < C.size := by omega
    rw [byte_list _ j (by simpa using hj2), List.getElem_set]
    split
    · rfl
    · have := hk j hj2
      unfold byteAt at this
      simpa [List.getD, hj2] using this
  refine ⟨hok, hsz, ?_⟩
  unfold freeV
  rw [cellOk_yes hok (by rw [hsz]; exact hm), Bool.true_and]
  show freeB (byteAt _ ((m : Int).toNat)) = true
  rw [show ((m : Int)).toNat = m by simp, byte_list _ m (by simpa using hm), List.getElem_set_self]
  rfl

end Go.Proofs.YtkbfbifepaoojaaGreatDoor

