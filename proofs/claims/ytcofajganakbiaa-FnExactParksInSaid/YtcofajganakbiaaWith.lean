/-
  CONTRACTS of the program's cellsWith at gridRow.free and at the closure of ParksIn, and of FreeCells and ParksIn. No law is proved here.
-/
import Derived.Test.YtcofajganakbiaaCellsI
import Derived.Test.YtcofajganakbiaaLists
import Derived.Deep.QuietTactic
import Derived.BigQuiet
namespace Go.Proofs.Ytcofajganakbiaa
open Go.ChangeShapes Go.WideShapes Go.ChangeAt Go.RowKit

theorem left_quiet {P : Program} {f : FuncId} {args : Array Value} {w : World} {n : Nat} {v : Value} (h : Calls P f args (w.drewN n) fun e w' => e = .returned v ∧ w.drewN n = w') :
    Calls P f args (w.drewN n) fun e w'' => e = .returned v ∧ ∃ m, w'' = w.drewN m :=
  h.mono fun _ _ ⟨he, hm⟩ => ⟨he, n, hm.symm⟩
theorem own_drewN {w : World} {B : Nat} {e : TypeId} {s n : Nat} {v : Value} {xs : List Value} (h : w.ownsRow B e s v n xs) (m : Nat) : (w.drewN m).ownsRow B e s v n xs := h
theorem ints_nil (w : World) : IntsBack w [] (.returned (.slice none 0 0)) w := ⟨_, rfl, ⟨rfl, .inl ⟨rfl, rfl⟩⟩, Below.refl _ _⟩
theorem picks_none {p : Nat → Bool} {k : Nat} (h : ∀ n, p n = false) : picks p k = [] := by
  simp [picks, h]
theorem freeL_no {W H : Int} {C : ByteArray} (hg : ¬ gok W H C = true) : freeL W H C = [] :=
  picks_none fun n => by unfold freeP freeV cellOk; simp [hg]
theorem parkL_no {W H : Int} {C : ByteArray} {z : Int} (hg : ¬ gok W H C = true) : parkL W H C z = [] :=
  picks_none fun n => by unfold parkP parkV cellOk; simp [hg]
theorem gok_few {W H : Int} {C : ByteArray} (hg : gok W H C = true) : C.size ≤ 64 := by
  obtain ⟨⟨⟨h1, h2⟩, ⟨h3, h4⟩, hs⟩, _⟩ := gok_out hg
  have := mul_bd h1 h2 h3 h4
  omega

theorem freeP_at {W H : Int} {C : ByteArray} {n : Nat} {b : Bool} (hg : gok W H C = true) (hn : n < C.size) (h : freeP W H C n = b) : freeB (byteAt C n) = b := by
  rw [← h]
  unfold freeP
  exact (freeV_at hg hn).symm
theorem freeTo (r : ByteArray) (x : Int) (n : Nat) (b : Bool) (hb : Hid (freeB (byteAt r n) = b)) (e : x = n) (h : n < r.size) (w : World) :
    Calls Try.prog 35 #[.string r, .int .i64 x] w fun e w' => e = .returned (.bool b) ∧ w = w' := by
  rw [← hb.out]
  exact freeI r x n e h w

set_option maxHeartbeats 1000000 in
theorem withFree (W H : Int) (C : ByteArray) (p : Nat → Bool) (L : List Int) (hC : C.size ≤ 1048576) (hg : gok W H C = true) (HPB : Hid (∀ n b, n < C.size → p n = b → freeB (byteAt C n) = b)) (HL : Hid (picks p (min C.size 64) = L)) (w : World) :
    Calls Try.prog 38 #[.agg #[.int .i64 W, .int .i64 H, .string C], .func (.func 35) #[] #[]] w (IntsBack w L) := by
  obtain ⟨i0, hi, hz0, hz1, hz2⟩ := info_parts Try.info3
  have hfew := gok_few hg
  have hB := Below.refl (w.alloc (.cells #[.int .i64 W, .int .i64 H, .string C] 26)).heap.size (w.alloc (.cells #[.int .i64 W, .int .i64 H, .string C] 26))
  go_enter Try.func38, Try.ntmps38
  go_wp2_with (first
    | (go_at_call 33; (with_reducible refine (rowsOf W H C hC _).mono ?_); rintro e w1 ⟨rfl, hb⟩; replace hB := chain hB hb; have hs1 := box_size hB; clear hb)
    | (refine wpStoreRows W H C _ _ rfl rfl rfl rfl ?_; have hR := (rows_in w1 (rowsR W H C)).2; replace hB := chain hB (rows_in w1 (rowsR W H C)).1; have hs2 := rowsW2_size w1 (rowsR W H C); obtain ⟨c0, c1, c2⟩ := box_cells hB))
  clear c0 c1 c2
  generalize rowsW2 w1 (rowsR W H C) = wS at hR hB hs2 ⊢
  generalize w1.heap.size = G at hR hs1 hs2 ⊢
  have HR := Lib.hid hR
  have HG := Lib.hid hg
  have hs3 : w.heap.size + 1 ≤ wS.heap.size := by omega
  have hs4 : G < wS.heap.size := by omega
  clear hR hg hs2
  go_loopw [7, 19] (fun v i wr => ∃ k : Nat, k ≤ C.size ∧ i = .int .i64 k ∧ wr.ownsRow wS.heap.size 3 1 v (picks p k).length ((picks p k).map (Value.int .i64)) ∧ Below wS.heap.size wS wr) (fun _ i _ => C.size - (intOf i).toNat)
  case atStart => exact ⟨0, Nat.zero_le _, rfl, ⟨rfl, .inl ⟨rfl, rfl⟩⟩, Below.refl _ _⟩
  case round =>
    obtain ⟨k, hk, rfl, hown, hbe⟩ := hrel
    have hbs := hbe.size
    by_cases hlt : k < C.size
    · obtain ⟨c0, c1, c2⟩ := box_cells (chain hB hbe)
      obtain ⟨a, b, q, m, rfl, rfl, ha1, ha2, hb8, hq, hm, hd, he, hms, hby, hr⟩ := place HG.out hlt
      have d1 : wr.cell? ⟨G, q, none⟩ = some (.string (rowT C a q)) := (hbe.cell (p := ⟨G, q, none⟩) hs4).trans (cell_rows HR.out (Lib.hid rfl) (Lib.hid hr))
      have e3 : IntKind.i64.wrap (q : Int) = (q : Int) := IntWalk.i64_in _ (by omega)
      have hl := picks_len p k
      have HB := Lib.hid hby
      clear hby hr
      by_cases hp : p k = true
      · have HP : Hid (picks p (k + 1) = picks p k ++ [(k : Int)]) := Lib.hid (picks_yes hp)
        have HPT : Hid (freeB (byteAt (rowT C a q) m) = true) := Lib.hid (by rw [HB.out]; exact HPB.out _ _ hlt hp)
        clear hp
        go_wp2
        go_quiet ((go_at_call 35; exact left_quiet (freeTo _ _ m _ HPT rfl hms _)))
        clear d1 e3 hd he
        go_wp2_with (at_builtin; go_loud (refine wpList_append_own _ rfl _ _ 32 rfl wS.heap.size 3 i0 (.int .i64 0) 1 8 Try.underlying32 hi hz0 hz1 hz2 rfl (by decide) _ _ _ rfl ((own_drewN hown _).alloc _) ⟨wr.heap.size, 0, none⟩ 1 1 ([(k : Int)].map (Value.int .i64)) rfl rfl (int_new _ _ _) (ints_one _) (by unfold maxLen; omega) (by omega) (by simp; omega) ?_); intro v' w2 hown2 hgrow _; have hbe2 := ((below_drewN hbe _).alloc (by simpa using hbs) _).grown hgrow (by simp; omega) (fun j hj => (hown.lt j hj).1); clear hgrow)
        go_roundw
        case rel => exact ⟨k + 1, by omega, by go_num, ints_push hown2 HP.out, hbe2⟩
        case measure => simp [intOf]; omega
      · have hp2 : p k = false := by simpa using hp
        have HP : Hid (picks p (k + 1) = picks p k) := Lib.hid (picks_no hp2)
        have HPT : Hid (freeB (byteAt (rowT C a q) m) = false) := Lib.hid (by rw [HB.out]; exact HPB.out _ _ hlt hp2)
        clear hp hp2
        go_wp2
        go_quiet ((go_at_call 35; exact left_quiet (freeTo _ _ m _ HPT rfl hms _)))
        clear d1 e3 hd he
        go_wp2
        go_roundw
        case rel => exact ⟨k + 1, by omega, by go_num, by rw [HP.out]; exact own_drewN hown _, below_drewN hbe _⟩
        case measure => simp [intOf]; omega
    · obtain rfl : k = C.size := by omega
      have HE : Hid (picks p C.size = L) := Lib.hid (by rw [← HL.out]; congr 1; omega)
      go_wp2
      go_ret
      exact ⟨_, rfl, by rw [← HE.out]; exact own_base hown (by omega), box_below (chain hB hbe)⟩

theorem parkTo (r : ByteArray) (x : Int) (n : Nat) (b : Bool) (hb : Hid (parkB (byteAt r n) = b)) (e : x = n) (h : n < r.size) (w : World) :
    Calls Try.prog 37 #[.string r, .int .i64 x] w fun e w' => e = .returned (.bool b) ∧ w = w' := by
  rw [← hb.out]
  exact parkI r x n e h w
theorem zoneTo (r : ByteArray) (x : Int) (n : Nat) (z : Int) (hz : Hid (zoneI (byteAt r n) = z)) (e : x = n) (h : n < r.size) (w : World) :
    Calls Try.prog 36 #[.string r, .int .i64 x] w fun e w' => e = .returned (.int .i64 z) ∧ w = w' := by
  rw [← hz.out]
  exact zoneIt r x n e h w
def parkB2 (z x : Int) : Bool := parkB x && (zoneI x == z)

theorem closI (r : ByteArray) (x : Int) (n Z : Nat) (z : Int) (b : Bool) (HB : Hid (parkB2 z (byteAt r n) = b)) (e : x = n) (h : n < r.size) (w : World) (hc : w.cell? ⟨Z, 0, none⟩ = some (.int .i64 z)) :
    Calls Try.prog 39 #[.string r, .int .i64 x, .pointer (some ⟨Z, 0, none⟩)] w fun e w' => e = .returned (.bool b) ∧ ∃ m, w' = w.drewN m := by
  subst e
  cases hp : parkB (byteAt r n) with
  | false =>
    have HP := Lib.hid hp
    clear hp
    go_enter Try.func39, Try.ntmps39
    go_wp2
    go_quiet ((go_at_call 37; exact left_quiet (parkTo _ _ n _ HP rfl h _)))
    go_wp2
    go_ret
    exact ⟨bool_ret HB.out (by unfold parkB2; rw [HP.out]; rfl), _, rfl⟩
  | true =>
    have HP := Lib.hid hp
    obtain ⟨y, HZ⟩ : ∃ y, Hid (zoneI (byteAt r n) = y) := ⟨_, rfl⟩
    clear hp
    go_enter Try.func39, Try.ntmps39
    go_wp2
    go_quiet ((first | (go_at_call 37; exact left_quiet (parkTo _ _ n _ HP rfl h _)) | (go_at_call 36; exact left_quiet (zoneTo _ _ n _ HZ rfl h _))))
    go_wp2
    go_ret
    exact ⟨bool_ret HB.out (by unfold parkB2; rw [HP.out, HZ.out]; rfl), _, rfl⟩

theorem closTo (r : ByteArray) (x : Int) (n Z : Nat) (z : Int) (b : Bool) (HB : Hid (parkB2 z (byteAt r n) = b)) (e : x = n) (h : n < r.size) (w : World) (hc : w.cell? ⟨Z, 0, none⟩ = some (.int .i64 z)) (m : Nat) :
    Calls Try.prog 39 #[.string r, .int .i64 x, .pointer (some ⟨Z, 0, none⟩)] (w.drewN m) fun e w' => e = .returned (.bool b) ∧ ∃ m, w' = w.drewN m :=
  (closI r x n Z z b HB e h (w.drewN m) hc).mono fun _ _ ⟨he, k, hk⟩ => ⟨he, m + k, by rw [hk, World.drewN_drewN]⟩

set_option maxHeartbeats 1000000 in
theorem withPark (W H : Int) (C : ByteArray) (Z : Nat) (z : Int) (p : Nat → Bool) (L : List Int) (hC : C.size ≤ 1048576) (hg : gok W H C = true) (HPB : Hid (∀ n b, n < C.size → p n = b → parkB2 z (byteAt C n) = b)) (HL : Hid (picks p (min C.size 64) = L)) (w : World) (hZ : Z < w.heap.size) (hc : w.cell? ⟨Z, 0, none⟩ = some (.int .i64 z)) :
    Calls Try.prog 38 #[.agg #[.int .i64 W, .int .i64 H, .string C], .func (.func 39) #[] #[.pointer (some ⟨Z, 0, none⟩)]] w (IntsBack w L) := by
  obtain ⟨i0, hi, hz0, hz1, hz2⟩ := info_parts Try.info3
  have hfew := gok_few hg
  have hB := Below.refl (w.alloc (.cells #[.int .i64 W, .int .i64 H, .string C] 26)).heap.size (w.alloc (.cells #[.int .i64 W, .int .i64 H, .string C] 26))
  go_enter Try.func38, Try.ntmps38
  go_wp2_with (first
    | (go_at_call 33; (with_reducible refine (rowsOf W H C hC _).mono ?_); rintro e w1 ⟨rfl, hb⟩; replace hB := chain hB hb; have hs1 := box_size hB; clear hb)
    | (refine wpStoreRows W H C _ _ rfl rfl rfl rfl ?_; have hR := (rows_in w1 (rowsR W H C)).2; replace hB := chain hB (rows_in w1 (rowsR W H C)).1; have hs2 := rowsW2_size w1 (rowsR W H C); obtain ⟨c0, c1, c2⟩ := box_cells hB))
  clear c0 c1 c2
  generalize rowsW2 w1 (rowsR W H C) = wS at hR hB hs2 ⊢
  generalize w1.heap.size = G at hR hs1 hs2 ⊢
  have HR := Lib.hid hR
  have HG := Lib.hid hg
  have hs3 : w.heap.size + 1 ≤ wS.heap.size := by omega
  have hs4 : G < wS.heap.size := by omega
  have hcS : wS.cell? ⟨Z, 0, none⟩ = some (.int .i64 z) := ((box_below hB).cell (p := ⟨Z, 0, none⟩) hZ).trans hc
  clear hR hg hs2
  go_loopw [7, 19] (fun v i wr => ∃ k : Nat, k ≤ C.size ∧ i = .int .i64 k ∧ wr.ownsRow wS.heap.size 3 1 v (picks p k).length ((picks p k).map (Value.int .i64)) ∧ Below wS.heap.size wS wr) (fun _ i _ => C.size - (intOf i).toNat)
  case atStart => exact ⟨0, Nat.zero_le _, rfl, ⟨rfl, .inl ⟨rfl, rfl⟩⟩, Below.refl _ _⟩
  case round =>
    obtain ⟨k, hk, rfl, hown, hbe⟩ := hrel
    have hbs := hbe.size
    by_cases hlt : k < C.size
    · obtain ⟨c0, c1, c2⟩ := box_cells (chain hB hbe)
      obtain ⟨a, b, q, m, rfl, rfl, ha1, ha2, hb8, hq, hm, hd, he, hms, hby, hr⟩ := place HG.out hlt
      have d1 : wr.cell? ⟨G, q, none⟩ = some (.string (rowT C a q)) := (hbe.cell (p := ⟨G, q, none⟩) hs4).trans (cell_rows HR.out (Lib.hid rfl) (Lib.hid hr))
      have e3 : IntKind.i64.wrap (q : Int) = (q : Int) := IntWalk.i64_in _ (by omega)
      have hcc : wr.cell? ⟨Z, 0, none⟩ = some (.int .i64 z) := (hbe.cell (p := ⟨Z, 0, none⟩) (Nat.lt_of_lt_of_le hZ (by omega))).trans hcS
      have hl := picks_len p k
      have HB := Lib.hid hby
      clear hby hr
      by_cases hp : p k = true
      · have HP : Hid (picks p (k + 1) = picks p k ++ [(k : Int)]) := Lib.hid (picks_yes hp)
        have HPT : Hid (parkB2 z (byteAt (rowT C a q) m) = true) := Lib.hid (by rw [HB.out]; exact HPB.out _ _ hlt hp)
        clear hp
        go_wp2
        go_quiet ((go_at_call 39; exact closTo _ _ m Z z _ HPT rfl hms _ hcc _))
        clear d1 e3 hd he
        go_wp2_with (at_builtin; go_loud (refine wpList_append_own _ rfl _ _ 32 rfl wS.heap.size 3 i0 (.int .i64 0) 1 8 Try.underlying32 hi hz0 hz1 hz2 rfl (by decide) _ _ _ rfl ((own_drewN hown _).alloc _) ⟨wr.heap.size, 0, none⟩ 1 1 ([(k : Int)].map (Value.int .i64)) rfl rfl (int_new _ _ _) (ints_one _) (by unfold maxLen; omega) (by omega) (by simp; omega) ?_); intro v' w2 hown2 hgrow _; have hbe2 := ((below_drewN hbe _).alloc (by simpa using hbs) _).grown hgrow (by simp; omega) (fun j hj => (hown.lt j hj).1); clear hgrow)
        go_roundw
        case rel => exact ⟨k + 1, by omega, by go_num, ints_push hown2 HP.out, hbe2⟩
        case measure => simp [intOf]; omega
      · have hp2 : p k = false := by simpa using hp
        have HP : Hid (picks p (k + 1) = picks p k) := Lib.hid (picks_no hp2)
        have HPT : Hid (parkB2 z (byteAt (rowT C a q) m) = false) := Lib.hid (by rw [HB.out]; exact HPB.out _ _ hlt hp2)
        clear hp hp2
        go_wp2
        go_quiet ((go_at_call 39; exact closTo _ _ m Z z _ HPT rfl hms _ hcc _))
        clear d1 e3 hd he
        go_wp2
        go_roundw
        case rel => exact ⟨k + 1, by omega, by go_num, by rw [HP.out]; exact own_drewN hown _, below_drewN hbe _⟩
        case measure => simp [intOf]; omega
    · obtain rfl : k = C.size := by omega
      have HE : Hid (picks p C.size = L) := Lib.hid (by rw [← HL.out]; congr 1; omega)
      go_wp2
      go_ret
      exact ⟨_, rfl, by rw [← HE.out]; exact own_base hown (by omega), box_below (chain hB hbe)⟩

theorem with_no (W H : Int) (C : ByteArray) (f : Value) (hC : C.size ≤ 1048576) (hg : gok W H C = false) (w : World) :
    Calls Try.prog 38 #[.agg #[.int .i64 W, .int .i64 H, .string C], f] w (IntsBack w []) := by
  have hB := Below.refl (w.alloc (.cells #[.int .i64 W, .int .i64 H, .string C] 26)).heap.size (w.alloc (.cells #[.int .i64 W, .int .i64 H, .string C] 26))
  go_enter Try.func38, Try.ntmps38
  go_wp2_with (first
    | (go_at_call 33; (with_reducible refine (rowsOf W H C hC _).mono ?_); rintro e w1 ⟨rfl, hb⟩; replace hB := chain hB hb; clear hb)
    | (refine wpStoreRows W H C _ _ rfl rfl rfl rfl ?_; replace hB := chain hB (rows_in w1 (rowsR W H C)).1))
  go_ret
  exact ⟨_, rfl, ⟨rfl, .inl ⟨rfl, rfl⟩⟩, box_below hB⟩

theorem ints_under {w w0 w' : World} {L : List Int} {e : Ending} (h : IntsBack w0 L e w') (hb : Below w.heap.size w w0) : IntsBack w L e w' := by
  obtain ⟨v, he, ho, h2⟩ := h
  exact ⟨v, he, own_base ho hb.size, hb.trans (h2.mono hb.size)⟩
theorem ints_out {w w' : World} {L : List Int} {e : Ending} (h : IntsBack w L e w') : ∃ v, e = .returned v ∧ IntsBack w L (.returned v) w' := by
  obtain ⟨v, rfl, h⟩ := h
  exact ⟨v, rfl, v, rfl, h⟩

theorem withFreeAny (W H : Int) (C : ByteArray) (L : List Int) (hC : C.size ≤ 1048576) (HL : Hid (freeL W H C = L)) (w : World) :
    Calls Try.prog 38 #[.agg #[.int .i64 W, .int .i64 H, .string C], .func (.func 35) #[] #[]] w (IntsBack w L) := by
  by_cases hg : gok W H C = true
  · exact withFree W H C (freeP W H C) L hC hg (Lib.hid fun n b hn h => freeP_at hg hn h) HL w
  · have : L = [] := HL.out.symm.trans (freeL_no hg)
    subst this
    exact with_no W H C _ hC (by simpa using hg) w

theorem parkP_at {W H : Int} {C : ByteArray} {z : Int} {n : Nat} {b : Bool} (hg : gok W H C = true) (hn : n < C.size) (h : parkP W H C z n = b) : parkB2 z (byteAt C n) = b := by
  rw [← h]
  unfold parkP parkB2 parkV zoneV
  rw [if_pos (cellOk_yes hg hn), cellOk_yes hg hn]
  rfl

theorem withParkAny (W H : Int) (C : ByteArray) (Z : Nat) (z : Int) (L : List Int) (hC : C.size ≤ 1048576) (HL : Hid (parkL W H C z = L)) (w : World) (hZ : Z < w.heap.size) (hc : w.cell? ⟨Z, 0, none⟩ = some (.int .i64 z)) :
    Calls Try.prog 38 #[.agg #[.int .i64 W, .int .i64 H, .string C], .func (.func 39) #[] #[.pointer (some ⟨Z, 0, none⟩)]] w (IntsBack w L) := by
  by_cases hg : gok W H C = true
  · exact withPark W H C Z z (parkP W H C z) L hC hg (Lib.hid fun n b hn h => parkP_at hg hn h) HL w hZ hc
  · have : L = [] := HL.out.symm.trans (parkL_no hg)
    subst this
    exact with_no W H C _ hC (by simpa using hg) w

theorem implFreeCells (W H : Int) (C : ByteArray) (L : List Int) (hC : C.size ≤ 1048576) (HL : Hid (freeL W H C = L)) (w : World) :
    Calls Try.prog 21 #[.agg #[.int .i64 W, .int .i64 H, .string C]] w (IntsBack w L) := by
  go_enter Try.func21, Try.ntmps21
  go_wp2_with (go_at_call 38; (with_reducible refine (withFreeAny W H C L hC HL _).mono ?_); intro e w1 h1; obtain ⟨v, rfl, h2⟩ := ints_out h1)
  go_ret
  exact ints_under h2 ((Below.refl _ _).alloc (Nat.le_refl _) _)

theorem implParksIn (W H : Int) (C : ByteArray) (z : Int) (L : List Int) (hC : C.size ≤ 1048576) (HL : Hid (parkL W H C z = L)) (w : World) :
    Calls Try.prog 26 #[.agg #[.int .i64 W, .int .i64 H, .string C], .int .i64 z] w (IntsBack w L) := by
  have hcz : ((w.alloc (.cells #[.int .i64 W, .int .i64 H, .string C] 26)).alloc (.cells #[.int .i64 z] 3)).cell? ⟨w.heap.size + 1, 0, none⟩ = some (.int .i64 z) := by
    simp
  have HCZ := Lib.hid hcz
  clear hcz
  go_enter Try.func26, Try.ntmps26
  go_wp2_with (go_at_call 38; (with_reducible refine (withParkAny W H C (w.heap.size + 1) z L hC HL _ (by simp) HCZ.out).mono ?_); intro e w1 h1; obtain ⟨v, rfl, h2⟩ := ints_out h1)
  go_ret
  exact ints_under h2 (((Below.refl _ _).alloc (Nat.le_refl _) _).alloc (by simp) _)

end Go.Proofs.Ytcofajganakbiaa
