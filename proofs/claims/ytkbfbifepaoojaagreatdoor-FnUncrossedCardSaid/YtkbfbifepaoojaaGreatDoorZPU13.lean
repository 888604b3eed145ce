/-
  CONTRACTS of the model's l10Right and DrawAsk: a valid map with a free cell, starts, and goals that are not more. No law is proved here.
  CONTRACT of spec.Beside. No law is proved here.
  What lies beside what: symmetric, never a cell itself, each once. No law is proved here.
  CONTRACT of the program's within, as it is. No law is proved here.
-/
import Derived.Test.YtkbfbifepaoojaaGreatDoorZPU12
import Derived.Test.YtkbfbifepaoojaaGreatDoorZPU07
import Derived.Test.YtkbfbifepaoojaaGreatDoorZPU00
namespace Go.Proofs.YtkbfbifepaoojaaGreatDoor
set_option maxRecDepth 4096
open Go.ChangeShapes Go.WideShapes Go.ChangeAt Go.RowKit

/-- What is drawn. -/
structure AskD (a b : Nat) (C : ByteArray) (S G : List Int) : Prop where
  ok : gok a b C = true
  few : C.size ≤ 12
  s1 : 1 ≤ S.length
  s5 : S.length ≤ 5
  le : G.length ≤ S.length
  sa : ascV a b C S = true
  ga : ascV a b C G = true
theorem nodup_sub : ∀ {X P : List Int}, X.Nodup → (∀ x ∈ X, x ∈ P) → X.length ≤ P.length
  | [], P, _, _ => Nat.zero_le _
  | x :: X, P, hn, hs => by
    obtain ⟨h1, h2⟩ := List.nodup_cons.1 hn
    have hx := hs x (List.mem_cons_self ..)
    have := nodup_sub (X := X) (P := P.erase x) h2 fun y hy => (List.mem_erase_of_ne (fun e => h1 (by rw [← e]; exact hy))).2 (hs y (List.mem_cons_of_mem _ hy))
    rw [List.length_erase_of_mem hx] at this
    have hp := List.length_pos_of_mem hx
    simp only [List.length_cons]
    omega
section
variable {W H : Int} {C : ByteArray} {P : List Int}
theorem some_up : (someOf (freeL W H C) P).Pairwise (· < ·) := List.Pairwise.filter _ freeU_up
theorem some_asc : ascV W H C (someOf (freeL W H C) P) = true := by
  refine asc_yes fun i x _ hx => ⟨memU_free (List.mem_filter.1 (List.mem_of_getElem? hx)).1, fun y h0 hy => ?_⟩
  obtain ⟨hi, e1⟩ := List.getElem?_eq_some_iff.1 hx
  obtain ⟨hj, e2⟩ := List.getElem?_eq_some_iff.1 hy
  rw [← e1, ← e2]
  exact List.pairwise_iff_getElem.1 some_up (i - 1) i hj hi (by omega)
theorem some_le : (someOf (freeL W H C) P).length ≤ P.length := by
  refine nodup_sub (some_up.imp fun h => by omega) fun x hx => ?_
  have := (List.mem_filter.1 hx).2
  simpa using this
theorem some_pos (hP : 1 ≤ P.length) (hs : ∀ y ∈ P, y ∈ freeL W H C) : 1 ≤ (someOf (freeL W H C) P).length := by
  cases P with
  | nil => simp at hP
  | cons y P =>
    have hy : y ∈ someOf (freeL W H C) (y :: P) := List.mem_filter.2 ⟨hs y (List.mem_cons_self ..), by simp⟩
    exact List.length_pos_of_mem hy
end

theorem cur_set {w : World} {g N X : Nat} {v : Value} (h : Cur w g v N) (hne : g ≠ X) (j : Nat) (u : Value) : Cur (w.setCell ⟨X, j, none⟩ u) g v N :=
  h.keep (heap_setCell_other w ⟨X, j, none⟩ g u hne)
/-- A map, starts and goals came back, the cursor further on. -/
def AskV (w : World) (g N : Nat) (v : Value) (e : Ending) (w' : World) : Prop :=
  ∃ (a b : Nat) (C : ByteArray) (S G : List Int) (x y : Value), e = .returned (.tuple #[.agg #[.int .i64 a, .int .i64 b, .string C], x, y]) ∧ AskD a b C S G ∧ w'.ownsRow w.heap.size 3 1 x S.length (S.map (Value.int .i64)) ∧ w'.ownsRow w.heap.size 3 1 y G.length (G.map (Value.int .i64)) ∧ w.grownBy w' (some g) ∧ Cur w' g v N

theorem ask_turn {w wr w' : World} {g X : Nat} {a b : Int} {D : ByteArray} (hT : w.grownBy wr (some g)) (hX : wr.heap[X]? = some (.cells #[.int .i64 a, .int .i64 b, .string D] 25 (0, 0))) (hR : wr.heap[w.heap.size]? = some (.cells #[.int .i64 0, .int .i64 0, .string ⟨#[]⟩] 25 (0, 0))) (hgl : g < w.heap.size) (hw : w.heap.size < X) (hg : wr.grownBy w' (some g)) :
    w.grownBy w' (some g) ∧ w'.heap[X]? = some (.cells #[.int .i64 a, .int .i64 b, .string D] 25 (0, 0)) ∧ w'.heap[w.heap.size]? = some (.cells #[.int .i64 0, .int .i64 0, .string ⟨#[]⟩] 25 (0, 0)) ∧
      w'.cell? ⟨X, 0, none⟩ = some (.int .i64 a) ∧ w'.cell? ⟨X, 1, none⟩ = some (.int .i64 b) ∧ w'.cell? ⟨X, 2, none⟩ = some (.string D) := by
  have h1 := (hg.block X (Array.getElem?_eq_some_iff.1 hX).1 (fun e => by have := Option.some.inj e; omega)).trans hX
  have h2 := (hg.block w.heap.size (Array.getElem?_eq_some_iff.1 hR).1 (fun e => by have := Option.some.inj e; omega)).trans hR
  refine ⟨drawn_on hT hg, h1, h2, ?_, ?_, ?_⟩ <;> rw [cell_of_row _ _ _ _ _ _ h1] <;> rfl
theorem own_turn {w w' : World} {B : Nat} {e : TypeId} {sz n g : Nat} {v : Value} {xs : List Value} (h : w.ownsRow B e sz v n xs) (hg : w.grownBy w' (some g)) (hB : g < B) : w'.ownsRow B e sz v n xs :=
  h.kept hg (by
    cases hb : v.ownBlock with
    | none => exact .inl rfl
    | some k => exact .inr (fun e => by have := (h.lt k hb).1; have := Option.some.inj e; omega))

set_option maxHeartbeats 4000000 in
theorem l10Right (g N : Nat) (v : Value) (w : World) (hN : N ≤ 9000000000000000) (hc : CodeB w v N g) (hk : Cur w g v N) :
    Calls Tryz.prog 59 #[.pointer (some ⟨g, 0, none⟩)] w (AskV w g N v) := by
  have hgl := hk.lt
  have hc0 := hc.below ((Below.refl _ w).alloc (Nat.le_refl _) (.cells #[.int .i64 0, .int .i64 0, .string ⟨#[]⟩] 25))
  have hk0 := hk.below ((Below.refl _ w).alloc (Nat.le_refl _) (.cells #[.int .i64 0, .int .i64 0, .string ⟨#[]⟩] 25))
  have hR0 : (w.alloc (.cells #[.int .i64 0, .int .i64 0, .string ⟨#[]⟩] 25)).heap[w.heap.size]? = some (.cells #[.int .i64 0, .int .i64 0, .string ⟨#[]⟩] 25 (0, 0)) := heap_alloc_new w _
  have hg0 := turn_alloc (turn_refl w (some g)) (.cells #[.int .i64 0, .int .i64 0, .string ⟨#[]⟩] 25)
  clear hc hk
  go_enter Tryz.func59, Tryz.ntmps59
  go_wp2_with fail
  refine (l01Below g N v 3 _ hN hc0 hk0 (by decide)).mono ?_
  rintro e w1 ⟨x, rfl, ⟨hx0, hx1⟩, hk1, hg1⟩
  have hc1 := hc0.turn hg1
  have hR1 := (hg1.block w.heap.size (by simp) (fun e => by cases e; omega)).trans hR0
  have hgr1 := drawn_on hg0 hg1
  clear hR0 hg0 hc0 hk0 hg1
  go_wp2_with fail
  refine (l01Below g N v 3 w1 hN hc1 hk1 (by decide)).mono ?_
  rintro e w2 ⟨y, rfl, ⟨hy0, hy1⟩, hk2, hg2⟩
  have hc2 := hc1.turn hg2
  have hR2 := (hg2.block w.heap.size (Array.getElem?_eq_some_iff.1 hR1).1 (fun e => by cases e; omega)).trans hR1
  have hgr2 := drawn_on hgr1 hg2
  obtain ⟨a, ha⟩ : ∃ a : Nat, 2 + x = a := ⟨(2 + x).toNat, by omega⟩
  obtain ⟨b, hb⟩ : ∃ b : Nat, 1 + y = b := ⟨(1 + y).toNat, by omega⟩
  have ha2 : 2 ≤ a ∧ a ≤ 4 := by omega
  have hb2 : 1 ≤ b ∧ b ≤ 3 := by omega
  clear hR1 hgr1 hc1 hk1 hg2
  go_wp2_with fail
  refine (l02Sized g N v a b w2 hN hc2 hk2 (by omega) (by omega) (by omega) (by omega)).mono ?_
  rintro e w3 ⟨z, rfl, ⟨C, rfl, hG⟩, hk3, hg3⟩
  have hR3 := (hg3.block w.heap.size (Array.getElem?_eq_some_iff.1 hR2).1 (fun e => by cases e; omega)).trans hR2
  have hgr3 := drawn_on hgr2 hg3
  have hc3 := hc2.turn hg3
  have hCs : C.size = a * b := by
    obtain ⟨⟨_, _, hs⟩, _⟩ := gok_out hG
    rw [← Int.natCast_mul] at hs
    omega
  have hC12 : C.size ≤ 12 := by rw [hCs]; exact Nat.mul_le_mul (show a ≤ 4 by omega) (show b ≤ 3 by omega)
  have hC1 : 1 ≤ C.size := by rw [hCs]; exact Nat.mul_le_mul (show 1 ≤ a by omega) (show 1 ≤ b by omega)
  have hbx := turn_alloc hgr3 (.cells #[.int .i64 a, .int .i64 b, .string C] 25)
  have hcv := fun (w : World) => run_bytes_of_string (P := Tryz.prog) w 9 22 5 C Tryz.underlying9 Tryz.underlying22 Tryz.underlying5
  have hB4 : Below w3.heap.size w3 (w3.alloc (.cells #[.int .i64 a, .int .i64 b, .string C] 25)) := (Below.refl _ w3).alloc (Nat.le_refl _) _
  have hX4 : (w3.alloc (.cells #[.int .i64 a, .int .i64 b, .string C] 25)).heap[w3.heap.size]? = some (.cells #[.int .i64 a, .int .i64 b, .string C] 25 (0, 0)) := heap_alloc_new w3 _
  have hR4 := (hB4.block w.heap.size (Array.getElem?_eq_some_iff.1 hR3).1).trans hR3
  have hc4 := hc3.below hB4
  have hk4 := hk3.below hB4
  have hw3 : w.heap.size < w3.heap.size := (Array.getElem?_eq_some_iff.1 hR3).1
  have hlen4 : (w3.alloc (.cells #[.int .i64 a, .int .i64 b, .string C] 25)).heap.size = w3.heap.size + 1 := World.size_alloc _ _
  clear ha hb hx0 hx1 hy0 hy1 hR2 hgr2 hc2 hk2 hg3 hCs hgr3 hB4 hR3 hc3 hk3
  go_wp2_with fail
  generalize w3.alloc (.cells #[.int .i64 a, .int .i64 b, .string C] 25) = w4 at hbx hX4 hR4 hc4 hk4 hlen4 ⊢
  rw [← hlen4]
  generalize w3.heap.size = X at hX4 hlen4 hw3 ⊢
  have hb0 : BytesM (w4.alloc (.cells (bytesRow C (grownCap w4 C.size 0 5)) 5 ((bytesRow C (grownCap w4 C.size 0 5)).size, (bytesRow C (grownCap w4 C.size 0 5)).size + 1))).drew w4.heap.size C.data.toList := bytesM_new w4 C (grownCap w4 C.size 0 5) 5
  have hB5 : Below w4.heap.size w4 (w4.alloc (.cells (bytesRow C (grownCap w4 C.size 0 5)) 5 ((bytesRow C (grownCap w4 C.size 0 5)).size, (bytesRow C (grownCap w4 C.size 0 5)).size + 1))).drew := ((Below.refl _ w4).alloc (Nat.le_refl _) _).drew
  have hw45 : w4.heap.size < (w4.alloc (.cells (bytesRow C (grownCap w4 C.size 0 5)) 5 ((bytesRow C (grownCap w4 C.size 0 5)).size, (bytesRow C (grownCap w4 C.size 0 5)).size + 1))).drew.heap.size := by simp
  generalize grownCap w4 C.size 0 5 = cp at *
  generalize (w4.alloc (.cells (bytesRow C cp) 5 ((bytesRow C cp).size, (bytesRow C cp).size + 1))).drew = w5 at *
  have hX5 := (hB5.block X (by omega)).trans hX4
  have hR5 := (hB5.block w.heap.size (by omega)).trans hR4
  have hc5 := hc4.below hB5
  have hk5 := hk4.below hB5
  have hT5 := turn_below hbx hB5
  have hgX : g < X := by omega
  clear hB5 hX4 hR4 hc4 hk4 hbx hcv
  generalize w4.heap.size = Gb at *
  have hXG : X < Gb := by omega
  clear hlen4
  refine (l01Below g N v (C.size : Int) w5 hN hc5 hk5 (by omega)).mono ?_
  rintro e w6 ⟨q, rfl, ⟨hq0, hq1⟩, hk6, hg6⟩
  obtain ⟨m, rfl⟩ : ∃ m : Nat, q = m := ⟨q.toNat, by omega⟩
  have hm : m < C.size := by omega
  have hml : m < C.data.toList.length := by simpa using hm
  have hX6 := (hg6.block X (by omega) (fun e => by cases e; omega)).trans hX5
  have hR6 := (hg6.block w.heap.size (by omega) (fun e => by cases e; omega)).trans hR5
  have hb6 : BytesM w6 Gb C.data.toList := bytesM_on hb0 (hg6.block Gb hw45 (fun e => by cases e; omega))
  have hc6 := hc5.turn hg6
  have hT6 := drawn_on hT5 hg6
  obtain ⟨hok, hsz, hfr⟩ := gok_46 hG hm
  have e1 := hb6.1 m _ (List.getElem?_eq_getElem hml)
  have e2 := hb6.2 m hml
  generalize (C.data.toList[m]'hml).toNat = by0 at e1
  have hb7 := bytesM_set hb6 hml
  have hcb := run_text_m (P := Tryz.prog) (w6.setCell ⟨Gb, m, none⟩ (.int .u8 46)) 22 9 5 Tryz.underlying22 Tryz.underlying5 Tryz.underlying9 (cap := cp) hb7 C.size (by simp)
  obtain ⟨D, hD⟩ : ∃ D : ByteArray, (⟨(C.data.toList.set m 46).toArray⟩ : ByteArray) = D := ⟨_, rfl⟩
  rw [hD] at hcb hok hsz hfr
  have hk7 : Cur (w6.setCell ⟨Gb, m, none⟩ (.int .u8 46)) g v N := hk6.keep (heap_setCell_other _ _ _ _ (by show g ≠ Gb; omega))
  have hc7 : CodeB (w6.setCell ⟨Gb, m, none⟩ (.int .u8 46)) v N g := hc6.keep (fun k hk hlt => heap_setCell_other _ _ _ _ (by show k ≠ Gb; omega)) (by simp [World.setCell])
  have hT7 := turn_set (B := Gb) hT6 (by omega) m (.int .u8 46)
  have hX7 : (w6.setCell ⟨Gb, m, none⟩ (.int .u8 46)).heap[X]? = _ := (heap_setCell_other _ _ _ _ (by show X ≠ Gb; omega)).trans hX6
  have hR7 : (w6.setCell ⟨Gb, m, none⟩ (.int .u8 46)).heap[w.heap.size]? = _ := (heap_setCell_other _ _ _ _ (by show w.heap.size ≠ Gb; omega)).trans hR6
  have x2 : (w6.setCell ⟨Gb, m, none⟩ (.int .u8 46)).cell? ⟨X, 2, none⟩ = some (.string C) := (cell_of_row _ _ _ _ _ _ hX7).trans rfl
  have f2 := frozen_of_row _ X 2 _ _ hX7
  clear hX6 hR6 hT6 hk6 hc6 hb6 hb0 hg6 hX5 hR5 hT5 hk5 hc5
  go_wp2_with fail
  generalize w6.setCell ⟨Gb, m, none⟩ (.int .u8 46) = w7 at *
  have hT8 := turn_set (B := X) hT7 (by omega) 2 (.string D)
  have hX8 := heap_setCell_same _ _ 2 _ _ (.string D) hX7
  have hR8 := (heap_setCell_other w7 ⟨X, 2, none⟩ w.heap.size (.string D) (by show w.heap.size ≠ X; omega)).trans hR7
  have hc8 : CodeB (w7.setCell ⟨X, 2, none⟩ (.string D)) v N g := hc7.keep (fun k hk hlt => heap_setCell_other _ _ _ _ (by show k ≠ X; omega)) (by simp [World.setCell])
  have hk8 : Cur (w7.setCell ⟨X, 2, none⟩ (.string D)) g v N := hk7.keep (heap_setCell_other _ _ _ _ (by show g ≠ X; omega))
  generalize w7.setCell ⟨X, 2, none⟩ (.string D) = w8 at *
  change w8.heap[X]? = some (.cells #[.int .i64 a, .int .i64 b, .string D] 25 (0, 0)) at hX8
  obtain ⟨F, HF⟩ : ∃ F, Hid (freeL a b D = F) := ⟨_, rfl⟩
  have hF : 1 ≤ F.length := by rw [← HF.out]; exact List.length_pos_of_mem (freeU_mem hfr)
  have hDc : D.size ≤ 1048576 := by omega
  have hD12 : D.size ≤ 12 := by omega
  obtain ⟨_, _, _, c0, c1, c2⟩ := ask_turn hT8 hX8 hR8 hgl hw3 (turn_refl w8 (some g))
  clear x2 f2 hcb hc7 hk7 hR7 hX7 hT7 hb7 e1 e2 hD hsz hml hm hq0 hq1
  go_region_with (first
    | (go_at_call 60; go_loud ((with_reducible refine (l01Below g N v 5 _ hN hc8.drew hk8.drew (by decide)).mono ?_); rintro e w9 ⟨y9, rfl, ⟨hy0, hy1⟩, hk9, hg9⟩; replace hg9 := grown_undrew hg9; have hA := ask_turn hT8 hX8 hR8 hgl hw3 hg9; obtain ⟨hT9, hX9, hR9, c0, c1, c2⟩ := hA; have hc9 : CodeB w9 v N g := CodeB.turn (w := w8) hc8 hg9; obtain ⟨n1, hn1⟩ : ∃ n1 : Nat, 1 + y9 = n1 := ⟨(1 + y9).toNat, by omega⟩; have hn2 : 1 ≤ n1 ∧ n1 ≤ 5 := (by omega); have hnw : IntKind.i64.wrap (n1 : Int) = (n1 : Int) := IntWalk.i64_in _ (by omega); clear hg9))
    | (go_at_call 99; (with_reducible refine (l04Some_yes g N v a b D n1 F hN (by omega) hDc HF hF _ hc9 hk9).mono ?_); rintro e wa ⟨x, P, ⟨hP1, hP2⟩, rfl, hown, hka, hca, hga⟩; have hA := ask_turn hT9 hX9 hR9 hgl hw3 hga; obtain ⟨hTa, hXa, hRa, c0, c1, c2⟩ := hA; have hOa := own_base (B' := w.heap.size + 1) hown (by have := (Array.getElem?_eq_some_iff.1 hX9).1; omega); clear hown hga))
  all_goals
    obtain ⟨s5, k5, rfl⟩ := own_form hOa
    obtain ⟨LS, HLS⟩ : ∃ LS, Hid (someOf F P = LS) := ⟨_, rfl⟩
    have hl1 : 1 ≤ LS.length := by rw [← HLS.out, ← HF.out]; exact some_pos (by omega) (by rw [HF.out]; exact hP2)
    have hl2 : LS.length ≤ 5 := by rw [← HLS.out, ← HF.out]; exact Nat.le_trans some_le (by omega)
    have HSA : Hid (ascV a b D LS = true) := Lib.hid (by rw [← HLS.out, ← HF.out]; exact some_asc)
    rw [HLS.out] at hOa
    clear hP1 hP2 hn1 hn2 hnw hy0 hy1 hT8 hX8 hR8 hc8 hk8 hT9 hX9 hR9 hc9 hk9
    (try rw [HLS.out])
    go_wp2_with fail
    go_region_with (first
      | (go_at_call 60; (with_reducible refine (l01Below g N v (LS.length : Int) _ hN hca.drew hka.drew (by omega)).mono ?_); rintro e wb ⟨yb, rfl, ⟨hz0, hz1⟩, hkb, hgb⟩; replace hgb := grown_undrew hgb; have hA := ask_turn hTa hXa hRa hgl hw3 hgb; obtain ⟨hTb, hXb, hRb, c0, c1, c2⟩ := hA; have hcb : CodeB wb v N g := CodeB.turn (w := wa) hca hgb; have hOb := own_turn hOa hgb (by omega); obtain ⟨n3, hn3⟩ : ∃ n3 : Nat, 1 + yb = n3 := ⟨(1 + yb).toNat, by omega⟩; have hn4 : 1 ≤ n3 ∧ n3 ≤ LS.length := (by omega); have hn3w : IntKind.i64.wrap (n3 : Int) = (n3 : Int) := IntWalk.i64_in _ (by omega); clear hgb)
      | (go_at_call 99; (with_reducible refine (l04Some_yes g N v a b D n3 F hN (by omega) hDc HF hF _ hcb hkb).mono ?_); rintro e wc ⟨x2, P2, ⟨hQ1, hQ2⟩, rfl, hown, hkc, hcc, hgc⟩; have hA := ask_turn hTb hXb hRb hgl hw3 hgc; obtain ⟨hTc, hXc, hRc, c0, c1, c2⟩ := hA; have hOc := own_turn hOb hgc (by omega); have hGc := own_base (B' := w.heap.size + 1) hown (by have := (Array.getElem?_eq_some_iff.1 hXb).1; omega); clear hown hgc; have f0 := frozen_of_row wc w.heap.size 0 _ _ hRc; have f1 := frozen_of_row wc w.heap.size 1 _ _ hRc; have f2 := frozen_of_row wc w.heap.size 2 _ _ hRc; have d0 : wc.cell? ⟨w.heap.size, 0, none⟩ = some (.int .i64 0) := (cell_of_row _ _ _ _ _ _ hRc).trans rfl; have d1 : wc.cell? ⟨w.heap.size, 1, none⟩ = some (.int .i64 0) := (cell_of_row _ _ _ _ _ _ hRc).trans rfl; have d2 : wc.cell? ⟨w.heap.size, 2, none⟩ = some (.string ⟨#[]⟩) := (cell_of_row _ _ _ _ _ _ hRc).trans rfl))
    all_goals
      obtain ⟨s6, k6, rfl⟩ := own_form hGc
      go_wp2_with fail
      have hs : ∀ j, (Value.slice s5 LS.length k5).ownBlock = some j → j ≠ w.heap.size := fun j e => by have := (hOc.lt j e).1; omega
      have hd : ∀ j, (Value.slice s6 (someOf F P2).length k6).ownBlock = some j → j ≠ w.heap.size := fun j e => by have := (hGc.lt j e).1; omega
      have hgd : (someOf F P2).length ≤ LS.length := by rw [← HF.out]; exact Nat.le_trans some_le (by omega)
      exact bodyPost_ret (v := .tuple #[.agg #[.int .i64 a, .int .i64 b, .string D], .slice s5 LS.length k5, .slice s6 (someOf F P2).length k6]) (by simp [results, Tryz.results59, go_sem, d0, d1, d2]) rfl
        ⟨a, b, D, LS, someOf F P2, _, _, rfl, ⟨hok, hD12, hl1, hl2, hgd, HSA.out, by rw [← HF.out]; exact some_asc⟩,
          own_base (own_setD (own_setD (own_setD hOc hs 0 _) hs 1 _) hs 2 _) (by omega), own_base (own_setD (own_setD (own_setD hGc hd 0 _) hd 1 _) hd 2 _) (by omega),
          turn_set (turn_set (turn_set hTc (Nat.le_refl _) 0 _) (Nat.le_refl _) 1 _) (Nat.le_refl _) 2 _,
          cur_set (cur_set (cur_set hkc (by omega) 0 _) (by omega) 1 _) (by omega) 2 _⟩

end Go.Proofs.YtkbfbifepaoojaaGreatDoor

namespace Go.Proofs.YtkbfbifepaoojaaGreatDoor
set_option maxRecDepth 4096
open Go.ChangeShapes Go.WideShapes Go.ChangeAt Go.RowKit

theorem specBeside (W H : Int) (C : ByteArray) (a b : Int) (r : Bool) (hC : C.size ≤ 1048576) (HR : Hid ((aroundL W H C a).contains b = r)) (w : World) :
    Calls Tryz.prog 102 #[.agg #[.int .i64 W, .int .i64 H, .string C], .int .i64 a, .int .i64 b] w (Made w (.bool r)) := by
  obtain ⟨L, HL⟩ : ∃ L, Hid (aroundL W H C a = L) := ⟨_, rfl⟩
  have HR2 : Hid (L.contains b = r) := Lib.hid (by rw [← HL.out]; exact HR.out)
  have hlen : L.length ≤ 2000000 := by rw [← HL.out]; exact Nat.le_trans (aroundL_len W H C a) (by decide)
  clear HR
  have hB := Below.refl (w.alloc (.cells #[.int .i64 W, .int .i64 H, .string C] 25)).heap.size (w.alloc (.cells #[.int .i64 W, .int .i64 H, .string C] 25))
  go_enter Tryz.func102, Tryz.ntmps102
  go_wp2_with fail
  refine (specAround W H C a L hC HL _).mono ?_
  rintro e w1 ⟨v, rfl, hown, hb⟩
  replace hB := chain hB hb
  go_wp2_with fail
  refine (specHas v L b r _ (ints_of_own hown) HR2 hlen).mono ?_
  rintro e w' ⟨rfl, rfl⟩
  go_wp2_with fail
  go_ret
  exact ⟨rfl, box_below hB⟩

end Go.Proofs.YtkbfbifepaoojaaGreatDoor

namespace Go.Proofs.YtkbfbifepaoojaaGreatDoor
set_option maxRecDepth 4096
open Go.ChangeShapes Go.WideShapes Go.ChangeAt Go.RowKit

theorem free_cell {W H : Int} {C : ByteArray} {c : Int} (h : freeV W H C c = true) : gok W H C = true ∧ ∃ n : Nat, c = n ∧ n < C.size := by
  unfold freeV at h
  simp only [Bool.and_eq_true] at h
  exact cellOk_out h.1

/-- A free cell lies where its column and row say. -/
theorem free_at {W H : Int} {C : ByteArray} {c : Int} (h : freeV W H C c = true) : cellAtV W H C (c.tmod W) (c.tdiv W) = c := by
  obtain ⟨hg, n, rfl, hn⟩ := free_cell h
  obtain ⟨a, b, q, m, rfl, rfl, ha1, _, _, hq, hm, hd, he, hnn⟩ := spot_of hg hn
  rw [hd, he, cellAtV_yes ⟨hg, ⟨by omega, by omega⟩, by omega, by omega⟩, ← Int.natCast_mul, ← Int.natCast_add, hnn]

/-- The column and the row of the cell in column x and row y. -/
theorem cell_spot {W H : Int} {C : ByteArray} {x y : Int} (h : freeV W H C (cellAtV W H C x y) = true) : (cellAtV W H C x y).tmod W = x ∧ (cellAtV W H C x y).tdiv W = y := by
  by_cases hr : gok W H C = true ∧ (0 ≤ x ∧ x < W) ∧ (0 ≤ y ∧ y < H)
  · rw [cellAtV_yes hr]
    obtain ⟨_, ⟨hx0, hx1⟩, hy0, hy1⟩ := hr
    have h0 : 0 ≤ y * W + x := Int.add_nonneg (Int.mul_nonneg hy0 (by omega)) hx0
    rw [Int.tmod_eq_emod_of_nonneg h0, Int.tdiv_eq_ediv_of_nonneg h0]
    refine ⟨?_, ?_⟩
    · rw [Int.add_comm, Int.add_mul_emod_self_right, Int.emod_eq_of_lt hx0 hx1]
    · rw [Int.add_comm, Int.add_mul_ediv_right _ _ (by omega), Int.ediv_eq_zero_of_lt hx0 hx1, Int.zero_add]
  · rw [cellAtV_no hr] at h
    unfold freeV cellOk at h
    simp at h

theorem mem_around {W H : Int} {C : ByteArray} {c d : Int} : d ∈ aroundL W H C c ↔ freeV W H C c = true ∧ freeV W H C d = true ∧
    (d = cellAtV W H C (c.tmod W) (c.tdiv W - 1) ∨ d = cellAtV W H C (c.tmod W - 1) (c.tdiv W) ∨ d = cellAtV W H C (c.tmod W + 1) (c.tdiv W) ∨ d = cellAtV W H C (c.tmod W) (c.tdiv W + 1)) := by
  unfold aroundL nbrs
  by_cases h : freeV W H C c = true
  · rw [if_pos h]
    simp only [List.mem_filter, List.mem_cons, List.not_mem_nil, or_false, h, true_and]
    exact And.comm
  · rw [if_neg h]
    simp [h]

theorem around_sym {W H : Int} {C : ByteArray} {c d : Int} (h : d ∈ aroundL W H C c) : c ∈ aroundL W H C d := by
  obtain ⟨hc, hd, hn⟩ := mem_around.1 h
  refine mem_around.2 ⟨hd, hc, ?_⟩
  have e := (free_at hc).symm
  rcases hn with rfl | rfl | rfl | rfl
  · obtain ⟨h1, h2⟩ := cell_spot hd
    exact .inr (.inr (.inr (by rw [h1, h2, Int.sub_add_cancel]; exact e)))
  · obtain ⟨h1, h2⟩ := cell_spot hd
    exact .inr (.inr (.inl (by rw [h1, h2, Int.sub_add_cancel]; exact e)))
  · obtain ⟨h1, h2⟩ := cell_spot hd
    exact .inr (.inl (by rw [h1, h2, Int.add_sub_cancel]; exact e))
  · obtain ⟨h1, h2⟩ := cell_spot hd
    exact .inl (by rw [h1, h2, Int.add_sub_cancel]; exact e)

theorem around_irr {W H : Int} {C : ByteArray} {c : Int} : c ∉ aroundL W H C c := by
  intro h
  obtain ⟨hc, _, hn⟩ := mem_around.1 h
  rcases hn with e | e | e | e
  all_goals
    have hf := hc
    rw [e] at hf
    obtain ⟨h1, h2⟩ := cell_spot hf
    rw [← e] at h1 h2
    omega

theorem around_nodup (W H : Int) (C : ByteArray) (c : Int) : (aroundL W H C c).Nodup := by
  unfold aroundL nbrs
  split
  · rw [List.Nodup, List.pairwise_filter]
    have key : ∀ x y x' y' : Int, (x ≠ x' ∨ y ≠ y') → freeV W H C (cellAtV W H C x y) = true → freeV W H C (cellAtV W H C x' y') = true → cellAtV W H C x y ≠ cellAtV W H C x' y' := by
      intro x y x' y' hne h1 h2 e
      obtain ⟨a1, a2⟩ := cell_spot h1
      obtain ⟨b1, b2⟩ := cell_spot h2
      rw [e] at a1 a2
      omega
    simp only [List.pairwise_cons, List.mem_cons, List.not_mem_nil, or_false, forall_eq_or_imp, forall_eq, List.Pairwise.nil, and_true, false_implies, implies_true]
    refine ⟨⟨key _ _ _ _ (by omega), key _ _ _ _ (by omega), key _ _ _ _ (by omega)⟩, ⟨key _ _ _ _ (by omega), key _ _ _ _ (by omega)⟩, key _ _ _ _ (by omega)⟩
  · exact List.Pairwise.nil

end Go.Proofs.YtkbfbifepaoojaaGreatDoor

namespace Go.Proofs.YtkbfbifepaoojaaGreatDoor
set_option maxRecDepth 4096
open Go.ChangeShapes Go.WideShapes Go.ChangeAt Go.RowKit

theorem implRange (x lo hi : Int) (b : Bool) (HB : Hid ((decide (lo ≤ x) && decide (x ≤ hi)) = b)) (w : World) :
    Calls Tryz.prog 41 #[.int .i64 x, .int .i64 lo, .int .i64 hi] w fun e w' => e = .returned (.bool b) ∧ w = w' := by
  by_cases h1 : lo ≤ x
  · by_cases h2 : x ≤ hi
    · have e : b = true := by rw [← HB.out]; simp [h1, h2]
      subst e
      clear HB
      go_enter Tryz.func41, Tryz.ntmps41
      go_wp2
      go_ret
      exact ⟨rfl, rfl⟩
    · have e : b = false := by rw [← HB.out]; simp [h2]
      subst e
      clear HB
      go_enter Tryz.func41, Tryz.ntmps41
      go_wp2
      go_ret
      exact ⟨rfl, rfl⟩
  · have e : b = false := by rw [← HB.out]; simp [h1]
    subst e
    clear HB
    go_enter Tryz.func41, Tryz.ntmps41
    go_wp2
    go_ret
    exact ⟨rfl, rfl⟩

end Go.Proofs.YtkbfbifepaoojaaGreatDoor

