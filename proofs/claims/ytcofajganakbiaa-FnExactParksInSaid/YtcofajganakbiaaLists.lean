/-
  CONTRACTS of spec.FreeCells and spec.ParksIn: the cells of a kind, in ascending order. No law is proved here.
-/
import Derived.Test.YtcofajganakbiaaCells
import Derived.Test.YtcofajganakbiaaInts
namespace Go.Proofs.Ytcofajganakbiaa
open Go.ChangeShapes Go.WideShapes Go.ChangeAt Go.RowKit

theorem Try.info3 : (Try.prog.info? 3).map (fun i => (i.zero, i.size, i.bytes)) = some (some (.int .i64 0), 1, 8) := by kernel_rfl

/-- The numbers below k that are picked. -/
def picks (p : Nat → Bool) (k : Nat) : List Int := ((List.range k).filter p).map fun (n : Nat) => (n : Int)
theorem picks_yes {p : Nat → Bool} {k : Nat} (h : p k = true) : picks p (k + 1) = picks p k ++ [(k : Int)] := by simp [picks, List.range_succ, h]
theorem picks_no {p : Nat → Bool} {k : Nat} (h : p k = false) : picks p (k + 1) = picks p k := by simp [picks, List.range_succ, h]
theorem picks_len (p : Nat → Bool) (k : Nat) : (picks p k).length ≤ k := by
  unfold picks
  rw [List.length_map]
  exact Nat.le_trans (List.length_filter_le _ _) (by simp)

/-- The list L came back in memory of the call's own. -/
def IntsBack (w : World) (L : List Int) (e : Ending) (w' : World) : Prop :=
  ∃ v, e = .returned v ∧ w'.ownsRow w.heap.size 3 1 v L.length (L.map (Value.int .i64)) ∧ Below w.heap.size w w'

theorem ints_one (L : List Int) : ∀ u ∈ L.map (Value.int .i64), u.oneCell' = true := by
  intro u hu
  obtain ⟨b, _, rfl⟩ := List.mem_map.1 hu
  rfl
theorem int_new (w : World) (x : Int) (t : TypeId) : ∀ j u, ([x].map (Value.int .i64))[j]? = some u → (w.alloc (.cells #[.int .i64 x] t)).cell? ((⟨w.heap.size, 0, none⟩ : Addr).add j) = some u := by
  intro j u h
  have hadd : (⟨w.heap.size, 0, none⟩ : Addr).add j = ⟨w.heap.size, j, none⟩ := by unfold Addr.add; split <;> simp_all
  rw [hadd, World.cell?_alloc_mark]
  simpa using h
theorem ints_push {w1 : World} {base : Nat} {e : TypeId} {v : Value} {L M : List Int} {x : Int} (h : w1.ownsRow base e 1 v (L.length + 1) (L.map (Value.int .i64) ++ [x].map (Value.int .i64))) (hM : M = L ++ [x]) :
    w1.ownsRow base e 1 v M.length (M.map (Value.int .i64)) := by
  subst hM
  simpa using h

theorem own_base {w : World} {B B' : Nat} {e : TypeId} {size : Nat} {v : Value} {n : Nat} {xs : List Value} (h : w.ownsRow B e size v n xs) (hB : B' ≤ B) : w.ownsRow B' e size v n xs := by
  refine ⟨h.1, ?_⟩
  rcases h.2 with h2 | ⟨g, cap, cur, hv, hg, r⟩
  · exact .inl h2
  · exact .inr ⟨g, cap, cur, hv, Nat.le_trans hB hg, r⟩

theorem box_size {w w1 : World} {o : Obj} (h : Below (w.alloc o).heap.size (w.alloc o) w1) : w.heap.size + 1 ≤ w1.heap.size := by
  have := h.size
  simpa using this

theorem made_box (w : World) (o : Obj) (e : TypeId) : ((w.alloc o).alloc (.cells #[] e)).ownsRow (w.heap.size + 1) e 1 (.slice (some ⟨w.heap.size + 1, 0, none⟩) 0 0) 0 [] := by
  have := World.ownsRow_made (base := w.heap.size + 1) (e := e) (size := 1) (w.alloc o) #[] 0 (Nat.le_of_eq (World.size_alloc _ _).symm) (by decide) rfl
  simpa using this

/-- The cells that are free. -/
noncomputable def freeP (W H : Int) (C : ByteArray) (n : Nat) : Bool := freeV W H C n
noncomputable def parkP (W H : Int) (C : ByteArray) (z : Int) (n : Nat) : Bool := parkV W H C n && (zoneV W H C n == z)
noncomputable def freeL (W H : Int) (C : ByteArray) : List Int := picks (freeP W H C) (min C.size 64)
noncomputable def parkL (W H : Int) (C : ByteArray) (z : Int) : List Int := picks (parkP W H C z) (min C.size 64)

set_option maxHeartbeats 1000000 in
theorem specFreeCells (W H : Int) (C : ByteArray) (L : List Int) (hC : C.size ≤ 1048576) (HL : Hid (freeL W H C = L)) (w : World) :
    Calls Try.prog 20 #[.agg #[.int .i64 W, .int .i64 H, .string C]] w (IntsBack w L) := by
  obtain ⟨i0, hi, hz0, hz1, hz2⟩ := info_parts Try.info3
  have hB := Below.refl (w.alloc (.cells #[.int .i64 W, .int .i64 H, .string C] 26)).heap.size (w.alloc (.cells #[.int .i64 W, .int .i64 H, .string C] 26))
  go_enter Try.func20, Try.ntmps20
  go_wp2
  go_loopw [3, 4] (fun v i wr => ∃ k : Nat, k ≤ C.size ∧ k ≤ 64 ∧ i = .int .i64 k ∧ wr.ownsRow (w.heap.size + 1) 3 1 v (picks (freeP W H C) k).length ((picks (freeP W H C) k).map (Value.int .i64)) ∧
    Below (w.alloc (.cells #[.int .i64 W, .int .i64 H, .string C] 26)).heap.size (w.alloc (.cells #[.int .i64 W, .int .i64 H, .string C] 26)) wr) (fun _ i _ => C.size - (intOf i).toNat)
  case atStart =>
    exact ⟨0, Nat.zero_le _, Nat.zero_le _, rfl, made_box _ _ _, hB.alloc (Nat.le_refl _) _⟩
  case round =>
    clear hB
    obtain ⟨k, hk, hk2, rfl, hown, hB⟩ := hrel
    obtain ⟨c0, c1, c2⟩ := box_cells hB
    by_cases hlt : k < C.size ∧ k < 64
    · obtain ⟨hlt1, hlt2⟩ := hlt
      have hl := picks_len (freeP W H C) k
      by_cases hf : freeV W H C k = true
      · have HP : Hid (picks (freeP W H C) (k + 1) = picks (freeP W H C) k ++ [(k : Int)]) := Lib.hid (picks_yes hf)
        go_wp2_with (first
          | (go_at_call 14; (with_reducible refine (specFreeAt W H C k hC _).mono ?_); rintro e w1 ⟨rfl, hb⟩; have hown1 := own_below hown hb (box_size hB); replace hB := chain hB hb; have hs1 := box_size hB; clear hb)
          | (at_builtin; refine wpList_append_own _ rfl _ _ 32 rfl (w.heap.size + 1) 3 i0 (.int .i64 0) 1 8 Try.underlying32 hi hz0 hz1 hz2 rfl (by decide) _ _ _ rfl (hown1.alloc _) ⟨w1.heap.size, 0, none⟩ 1 1 ([(k : Int)].map (Value.int .i64)) rfl rfl (int_new _ _ _) (ints_one _) (by unfold maxLen; omega) (by omega) (by simp; omega) ?_; intro v' w2 hown2 hgrow _; have hB2 := (hB.alloc hB.size _).grown hgrow (by simp; omega) (fun j hj => by simpa using (hown1.lt j hj).1); clear hgrow))
        go_roundw
        case rel => exact ⟨k + 1, by omega, by omega, by go_num, ints_push hown2 HP.out, hB2⟩
        case measure => simp [intOf]; omega
      · have hf2 : freeV W H C k = false := by simpa using hf
        have HP : Hid (picks (freeP W H C) (k + 1) = picks (freeP W H C) k) := Lib.hid (picks_no hf2)
        go_wp2_with (go_at_call 14; (with_reducible refine (specFreeAt W H C k hC _).mono ?_); rintro e w1 ⟨rfl, hb⟩; have hown1 := own_below hown hb (box_size hB); replace hB := chain hB hb; have hs1 := box_size hB; clear hb)
        go_roundw
        case rel => exact ⟨k + 1, by omega, by omega, by go_num, by rw [HP.out]; exact hown1, hB⟩
        case measure => simp [intOf]; omega
    · have HE : Hid (picks (freeP W H C) k = L) := Lib.hid (by rw [← HL.out]; unfold freeL; congr 1; omega)
      by_cases h1 : k < C.size
      · obtain rfl : k = 64 := by omega
        go_wp2
        go_ret
        exact ⟨_, rfl, by rw [← HE.out]; exact own_base hown (by omega), box_below hB⟩
      · obtain rfl : k = C.size := by omega
        go_wp2
        go_ret
        exact ⟨_, rfl, by rw [← HE.out]; exact own_base hown (by omega), box_below hB⟩

set_option maxHeartbeats 1000000 in
theorem specParksIn (W H : Int) (C : ByteArray) (z : Int) (L : List Int) (hC : C.size ≤ 1048576) (HL : Hid (parkL W H C z = L)) (w : World) :
    Calls Try.prog 25 #[.agg #[.int .i64 W, .int .i64 H, .string C], .int .i64 z] w (IntsBack w L) := by
  obtain ⟨i0, hi, hz0, hz1, hz2⟩ := info_parts Try.info3
  have hB := Below.refl (w.alloc (.cells #[.int .i64 W, .int .i64 H, .string C] 26)).heap.size (w.alloc (.cells #[.int .i64 W, .int .i64 H, .string C] 26))
  go_enter Try.func25, Try.ntmps25
  go_wp2
  go_loopw [5, 6] (fun v i wr => ∃ k : Nat, k ≤ C.size ∧ k ≤ 64 ∧ i = .int .i64 k ∧ wr.ownsRow (w.heap.size + 1) 3 1 v (picks (parkP W H C z) k).length ((picks (parkP W H C z) k).map (Value.int .i64)) ∧
    Below (w.alloc (.cells #[.int .i64 W, .int .i64 H, .string C] 26)).heap.size (w.alloc (.cells #[.int .i64 W, .int .i64 H, .string C] 26)) wr) (fun _ i _ => C.size - (intOf i).toNat)
  case atStart =>
    exact ⟨0, Nat.zero_le _, Nat.zero_le _, rfl, made_box _ _ _, hB.alloc (Nat.le_refl _) _⟩
  case round =>
    clear hB
    obtain ⟨k, hk, hk2, rfl, hown, hB⟩ := hrel
    obtain ⟨c0, c1, c2⟩ := box_cells hB
    by_cases hlt : k < C.size ∧ k < 64
    · obtain ⟨hlt1, hlt2⟩ := hlt
      have hl := picks_len (parkP W H C z) k
      by_cases hp : parkV W H C k = true
      · by_cases hz : zoneV W H C k = z
        · have hzz : (zoneV W H C k == z) = true := by simpa using hz
          have HP : Hid (picks (parkP W H C z) (k + 1) = picks (parkP W H C z) k ++ [(k : Int)]) := Lib.hid (picks_yes (by unfold parkP; rw [hp, hzz]; rfl))
          clear hz
          go_wp2_with (first
            | (go_at_call 18; (with_reducible refine (specParkAt W H C k hC _).mono ?_); rintro e w0 ⟨rfl, hb⟩; have hown0 := own_below hown hb (box_size hB); replace hB := chain hB hb; obtain ⟨c0, c1, c2⟩ := box_cells hB; have hs0 := box_size hB; clear hb)
            | (go_at_call 16; (with_reducible refine (specZoneOf W H C k hC _).mono ?_); rintro e w1 ⟨rfl, hb⟩; have hown1 := own_below hown0 hb (box_size hB); replace hB := chain hB hb; have hs1 := box_size hB; clear hb)
            | (at_builtin; refine wpList_append_own _ rfl _ _ 32 rfl (w.heap.size + 1) 3 i0 (.int .i64 0) 1 8 Try.underlying32 hi hz0 hz1 hz2 rfl (by decide) _ _ _ rfl (hown1.alloc _) ⟨w1.heap.size, 0, none⟩ 1 1 ([(k : Int)].map (Value.int .i64)) rfl rfl (int_new _ _ _) (ints_one _) (by unfold maxLen; omega) (by omega) (by simp; omega) ?_; intro v' w2 hown2 hgrow _; have hB2 := (hB.alloc hB.size _).grown hgrow (by simp; omega) (fun j hj => by simpa using (hown1.lt j hj).1); clear hgrow))
          go_roundw
          case rel => exact ⟨k + 1, by omega, by omega, by go_num, ints_push hown2 HP.out, hB2⟩
          case measure => simp [intOf]; omega
        · have hzz : (zoneV W H C k == z) = false := by simpa using hz
          have HP : Hid (picks (parkP W H C z) (k + 1) = picks (parkP W H C z) k) := Lib.hid (picks_no (by unfold parkP; rw [hp, hzz]; rfl))
          go_wp2_with (first
            | (go_at_call 18; (with_reducible refine (specParkAt W H C k hC _).mono ?_); rintro e w0 ⟨rfl, hb⟩; have hown0 := own_below hown hb (box_size hB); replace hB := chain hB hb; obtain ⟨c0, c1, c2⟩ := box_cells hB; have hs0 := box_size hB; clear hb)
            | (go_at_call 16; (with_reducible refine (specZoneOf W H C k hC _).mono ?_); rintro e w1 ⟨rfl, hb⟩; have hown1 := own_below hown0 hb (box_size hB); replace hB := chain hB hb; have hs1 := box_size hB; clear hb))
          go_roundw
          case rel => exact ⟨k + 1, by omega, by omega, by go_num, by rw [HP.out]; exact hown1, hB⟩
          case measure => simp [intOf]; omega
      · have hp2 : parkV W H C k = false := by simpa using hp
        have HP : Hid (picks (parkP W H C z) (k + 1) = picks (parkP W H C z) k) := Lib.hid (picks_no (by unfold parkP; rw [hp2]; rfl))
        go_wp2_with (go_at_call 18; (with_reducible refine (specParkAt W H C k hC _).mono ?_); rintro e w0 ⟨rfl, hb⟩; have hown0 := own_below hown hb (box_size hB); replace hB := chain hB hb; obtain ⟨c0, c1, c2⟩ := box_cells hB; have hs0 := box_size hB; clear hb)
        go_roundw
        case rel => exact ⟨k + 1, by omega, by omega, by go_num, by rw [HP.out]; exact hown0, hB⟩
        case measure => simp [intOf]; omega
    · have HE : Hid (picks (parkP W H C z) k = L) := Lib.hid (by rw [← HL.out]; unfold parkL; congr 1; omega)
      by_cases h1 : k < C.size
      · obtain rfl : k = 64 := by omega
        go_wp2
        go_ret
        exact ⟨_, rfl, by rw [← HE.out]; exact own_base hown (by omega), box_below hB⟩
      · obtain rfl : k = C.size := by omega
        go_wp2
        go_ret
        exact ⟨_, rfl, by rw [← HE.out]; exact own_base hown (by omega), box_below hB⟩

end Go.Proofs.Ytcofajganakbiaa
