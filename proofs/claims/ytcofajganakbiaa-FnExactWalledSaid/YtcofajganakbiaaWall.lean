/-
  CONTRACTS of spec.Walled and the program's Walled: the map with the given cells blocked. No law is proved here.
-/
import Derived.Test.YtcofajganakbiaaGridLaw
import Derived.Test.YtcofajganakbiaaInts
namespace Go.Proofs.Ytcofajganakbiaa
open Go.ChangeShapes Go.WideShapes Go.ChangeAt Go.RowKit

/-- One cell blocked. -/
def wall1 (l : List UInt8) (c : Int) : List UInt8 := if 0 ≤ c ∧ c < (l.length : Int) then l.set c.toNat 35 else l
/-- The cells of L blocked. -/
def wall (l : List UInt8) (L : List Int) : List UInt8 := L.foldl wall1 l
theorem wall1_len (l : List UInt8) (c : Int) : (wall1 l c).length = l.length := by unfold wall1; split <;> simp
theorem wall_len (l : List UInt8) (L : List Int) : (wall l L).length = l.length := by
  induction L generalizing l with
  | nil => rfl
  | cons c L ih => exact (ih (wall1 l c)).trans (wall1_len l c)
theorem wall_snoc (l : List UInt8) (L : List Int) (k : Nat) (c : Int) (h : L[k]? = some c) : wall l (L.take (k + 1)) = wall1 (wall l (L.take k)) c := by
  obtain ⟨hk, rfl⟩ := List.getElem?_eq_some_iff.1 h
  unfold wall
  rw [List.take_succ_eq_append_getElem hk, List.foldl_append]
  rfl
theorem wall1_in {l : List UInt8} {m : Nat} (h : m < l.length) : wall1 l m = l.set m 35 := by
  unfold wall1
  rw [if_pos ⟨by omega, by omega⟩]
  rfl
theorem wall1_out {l : List UInt8} {c : Int} (h : ¬ (0 ≤ c ∧ c < (l.length : Int))) : wall1 l c = l := by
  unfold wall1
  rw [if_neg h]

/-- The map's bytes behind the call. -/
noncomputable def wallT (W H : Int) (C : ByteArray) (L : List Int) : ByteArray := if gok W H C = true then ⟨(wall C.data.toList L).toArray⟩ else C

/-- A row of bytes that can be written. -/
def BytesAt (w : World) (g : Nat) (l : List UInt8) : Prop :=
  (∀ (j : Nat) b, l[j]? = some b → w.cell? ⟨g, j, none⟩ = some (.int .u8 b.toNat)) ∧ ∀ j, j < l.length → w.frozen? ⟨g, j, none⟩ = false
theorem bytesAt_new (w : World) (s : ByteArray) (cap : Nat) (e : TypeId) : BytesAt (w.drew.alloc (.cells (bytesRow s cap) e ((bytesRow s cap).size, (bytesRow s cap).size + 1))) w.heap.size s.data.toList := by
  have hc := World.cell?_alloc_mark w.drew (bytesRow s cap) e ((bytesRow s cap).size, (bytesRow s cap).size + 1)
  have hf := World.frozen?_alloc_mark w.drew (bytesRow s cap) e (bytesRow s cap).size ((bytesRow s cap).size + 1)
  refine ⟨fun j b hb => ?_, fun j hj => ?_⟩
  · obtain ⟨hj, rfl⟩ := List.getElem?_eq_some_iff.1 hb
    have hj2 : j < s.data.size := by simpa using hj
    refine (hc j).trans ((bytesRow_at s cap j hj2).trans ?_)
    simp
  · refine (hf j).trans ?_
    have h1 : s.data.size ≤ (bytesRow s cap).size := by unfold bytesRow; simp
    have h2 : j < s.data.size := by simpa using hj
    simp
    omega
theorem bytesAt_set {w : World} {g m : Nat} {l : List UInt8} (h : BytesAt w g l) (hm : m < l.length) : BytesAt (w.setCell ⟨g, m, none⟩ (.int .u8 35)) g (l.set m 35) := by
  refine ⟨fun j b hb => ?_, fun j hj => ?_⟩
  · rw [List.getElem?_set] at hb
    by_cases hj : m = j
    · subst hj
      rw [if_pos rfl, if_pos hm] at hb
      obtain rfl := Option.some.inj hb
      exact World.cell?_setCell_same' w _ _ (by rw [h.1 m _ (List.getElem?_eq_getElem hm)]; rfl)
    · rw [if_neg hj] at hb
      rw [World.cell?_setCell_other w _ _ _ (by intro e; injection e with _ e2; exact hj e2)]
      exact h.1 j b hb
  · rw [World.frozen?_setCell]
    exact h.2 j (by simpa using hj)
theorem run_text_at {P : Program} (w : World) (src dst e : TypeId) (hs : P.underlying src = some (.slice e)) (he : P.underlying e = some (.int .u8)) (hd : P.underlying dst = some .string)
    {g cap : Nat} {l : List UInt8} (h : BytesAt w g l) (n : Nat) (hn : l.length = n) : (convert src dst (.slice (some ⟨g, 0, none⟩) n cap)).run P w = .ok (.string ⟨l.toArray⟩) w := by
  subst hn
  exact run_convert_bytes_back w src dst e ⟨g, 0, none⟩ cap l hs he hd (fun j hj => by
    have hadd : (⟨g, 0, none⟩ : Addr).add j = ⟨g, j, none⟩ := by unfold Addr.add; split <;> simp_all
    rw [hadd]
    exact h.1 j _ (List.getElem?_eq_getElem hj))

/-- What lies in the call's own memory: the argument's box and the result's block. -/
def WallW (W H : Int) (C : ByteArray) (w wr : World) : Prop :=
  Below w.heap.size w wr ∧ wr.heap[w.heap.size]? = some (.cells #[.int .i64 W, .int .i64 H, .string C] 26 (0, 0)) ∧ wr.heap[w.heap.size + 1]? = some (.cells #[.int .i64 0, .int .i64 0, .string ⟨#[]⟩] 26 (0, 0)) ∧ w.heap.size + 2 ≤ wr.heap.size
theorem wallW_start (W H : Int) (C : ByteArray) (w : World) : WallW W H C w ((w.alloc (.cells #[.int .i64 W, .int .i64 H, .string C] 26)).alloc (.cells #[.int .i64 0, .int .i64 0, .string ⟨#[]⟩] 26)) := by
  refine ⟨((Below.refl _ _).alloc (Nat.le_refl _) _).alloc (by simp) _, ?_, ?_, by simp⟩
  · rw [heap_alloc_old _ _ (by simp), heap_alloc_new]
  · have := heap_alloc_new (w.alloc (.cells #[.int .i64 W, .int .i64 H, .string C] 26)) (.cells #[.int .i64 0, .int .i64 0, .string ⟨#[]⟩] 26)
    simpa using this
theorem wallW_on {W H : Int} {C : ByteArray} {w w1 w2 : World} (h : WallW W H C w w1) (hb : Below w1.heap.size w1 w2) : WallW W H C w w2 :=
  ⟨h.1.trans (hb.mono h.1.size), (hb.block _ (by have := h.2.2.2; omega)).trans h.2.1, (hb.block _ (by have := h.2.2.2; omega)).trans h.2.2.1, Nat.le_trans h.2.2.2 hb.size⟩
theorem wallW_set {W H : Int} {C : ByteArray} {w w1 : World} (h : WallW W H C w w1) {g : Nat} (hg : w.heap.size + 2 ≤ g) (m : Nat) (u : Value) : WallW W H C w (w1.setCell ⟨g, m, none⟩ u) :=
  ⟨h.1.setCell (by simp; omega) u, (heap_setCell_other _ _ _ _ (by simp; omega)).trans h.2.1, (heap_setCell_other _ _ _ _ (by simp; omega)).trans h.2.2.1, by have := h.2.2.2; simpa using this⟩
theorem wallW_cells {W H : Int} {C : ByteArray} {w wr : World} (h : WallW W H C w wr) : wr.cell? ⟨w.heap.size, 0, none⟩ = some (.int .i64 W) ∧ wr.cell? ⟨w.heap.size, 1, none⟩ = some (.int .i64 H) ∧ wr.cell? ⟨w.heap.size, 2, none⟩ = some (.string C) := by
  refine ⟨?_, ?_, ?_⟩ <;> rw [cell_of_row _ _ _ _ _ _ h.2.1] <;> rfl
theorem wallW_res {W H : Int} {C : ByteArray} {w wr : World} (h : WallW W H C w wr) : (wr.cell? ⟨w.heap.size + 1, 0, none⟩ = some (.int .i64 0) ∧ wr.cell? ⟨w.heap.size + 1, 1, none⟩ = some (.int .i64 0) ∧ wr.cell? ⟨w.heap.size + 1, 2, none⟩ = some (.string ⟨#[]⟩)) ∧
    wr.frozen? ⟨w.heap.size + 1, 0, none⟩ = false ∧ wr.frozen? ⟨w.heap.size + 1, 1, none⟩ = false ∧ wr.frozen? ⟨w.heap.size + 1, 2, none⟩ = false := by
  refine ⟨⟨?_, ?_, ?_⟩, frozen_of_row _ _ _ _ _ h.2.2.1, frozen_of_row _ _ _ _ _ h.2.2.1, frozen_of_row _ _ _ _ _ h.2.2.1⟩ <;> rw [cell_of_row _ _ _ _ _ _ h.2.2.1] <;> rfl

theorem grid_info : (Try.prog.info? 26).map (·.size) = some 3 := by kernel_rfl
theorem load_grid (w : World) (g : Nat) (cs : Array Value) (hz : cs.size = 3) (hg : w.heap[g]? = some (.cells cs 26 (0, 0))) : (loadVar 26 ⟨g, 0, none⟩).run Try.prog w = .ok (.agg cs) w :=
  run_loadVar_row w g _ _ cs (0, 0) _ hg Try.underlying26 rfl (by rw [hz]; exact grid_info)
theorem results_cell1 {P : Program} {fn : Func} {p : Tmp} {ty : TypeId} (h : fn.results = #[.cell p ty]) (tmps : Array Value) (w : World) (g : Nat) (cs : Array Value)
    (hp : tmps.getD p undef = .pointer (some ⟨g, 0, none⟩)) (hl : (loadVar ty ⟨g, 0, none⟩).run P w = .ok (.agg cs) w) : (results fn tmps).run P w = .ok (.agg cs) w := by
  have hp' : tmps[p]?.getD undef = .pointer (some ⟨g, 0, none⟩) := by simpa using hp
  simp [results, h, hp', asAddr, hl]
theorem grid_ret {W H : Int} {s t : ByteArray} (h : s = t) : Ending.returned (.agg #[.int .i64 W, .int .i64 H, .string s]) = .returned (.agg #[.int .i64 W, .int .i64 H, .string t]) := by rw [h]

/-- The grid came back. -/
def GridBack (W H : Int) (C : ByteArray) (w : World) (e : Ending) (w' : World) : Prop := e = .returned (.agg #[.int .i64 W, .int .i64 H, .string C]) ∧ Below w.heap.size w w'

/-- Three cells stored are a row stored. -/
theorem three_stores {W H : Int} {C : ByteArray} {w wr : World} (h : WallW W H C w wr) (a b c : Value) :
    Below w.heap.size w (((wr.setCell ⟨w.heap.size + 1, 0, none⟩ a).setCell ⟨w.heap.size + 1, 1, none⟩ b).setCell ⟨w.heap.size + 1, 2, none⟩ c) ∧
    (((wr.setCell ⟨w.heap.size + 1, 0, none⟩ a).setCell ⟨w.heap.size + 1, 1, none⟩ b).setCell ⟨w.heap.size + 1, 2, none⟩ c).heap[w.heap.size + 1]? = some (.cells #[a, b, c] 26 (0, 0)) :=
  ⟨((h.1.setCell (by simp) _).setCell (by simp) _).setCell (by simp) _, heap_setCell_same _ _ _ _ _ _ (heap_setCell_same _ _ _ _ _ _ (heap_setCell_same _ _ _ _ _ _ h.2.2.1))⟩

theorem ints_form {w : World} {v : Value} {L : List Int} (h : Ints w v L) : ∃ a c, v = .slice a L.length c ∧ (L.length = 0 ∨ ∃ g, a = some ⟨g, 0, none⟩ ∧ g < w.heap.size ∧ ∀ (j : Nat) x, L[j]? = some x → w.cell? ⟨g, j, none⟩ = some (.int .i64 x)) := by
  rcases h with ⟨rfl, a, c, rfl⟩ | ⟨g, c, rfl, hg, hc⟩
  · exact ⟨a, c, rfl, .inl rfl⟩
  · exact ⟨_, c, rfl, .inr ⟨g, rfl, hg, hc⟩⟩
theorem bytesAt_eq {w : World} {g : Nat} {l m : List UInt8} (h : BytesAt w g l) (e : m = l) : BytesAt w g m := by rw [e]; exact h

theorem specWalled_no (W H : Int) (C : ByteArray) (v : Value) (hC : C.size ≤ 1048576) (hg : gok W H C = false) (w : World) :
    Calls Try.prog 27 #[.agg #[.int .i64 W, .int .i64 H, .string C], v] w (GridBack W H C w) := by
  have hB := wallW_start W H C w
  go_enter Try.func27, Try.ntmps27
  go_wp2_with (go_at_call 11; (with_reducible refine (specGridOk W H C hC _).mono ?_); rintro e w1 ⟨rfl, hb⟩; replace hB := wallW_on hB hb; obtain ⟨c0, c1, c2⟩ := wallW_cells hB; obtain ⟨⟨d0, d1, d2⟩, f0, f1, f2⟩ := wallW_res hB; clear hb)
  obtain ⟨hb, hh⟩ := three_stores hB (.int .i64 W) (.int .i64 H) (.string C)
  exact bodyPost_ret (v := .agg #[.int .i64 W, .int .i64 H, .string C]) (results_cell1 Try.results27 _ _ _ _ rfl (load_grid _ _ _ rfl hh)) rfl ⟨rfl, hb⟩

set_option maxHeartbeats 1000000 in
theorem specWalled_yes (W H : Int) (C T : ByteArray) (v : Value) (L : List Int) (hC : C.size ≤ 1048576) (hg : gok W H C = true) (HT : Hid (⟨(wall C.data.toList L).toArray⟩ = T)) (hL : L.length ≤ 2000000) (w : World) (hv : Ints w v L) :
    Calls Try.prog 27 #[.agg #[.int .i64 W, .int .i64 H, .string C], v] w (GridBack W H T w) := by
  obtain ⟨av, cv, rfl, HV⟩ := ints_form hv
  have HVh := Lib.hid HV
  clear HV hv
  have hcv := fun (w : World) => run_bytes_of_string (P := Try.prog) w 9 54 5 C Try.underlying9 Try.underlying54 Try.underlying5
  have hB := wallW_start W H C w
  go_enter Try.func27, Try.ntmps27
  go_wp2_with (go_at_call 11; (with_reducible refine (specGridOk W H C hC _).mono ?_); rintro e w1 ⟨rfl, hb⟩; replace hB := wallW_on hB hb; obtain ⟨c0, c1, c2⟩ := wallW_cells hB; clear hb)
  have hb0 : BytesAt (w1.alloc (.cells (bytesRow C (grownCap w1 C.size 0 5)) 5 ((bytesRow C (grownCap w1 C.size 0 5)).size, (bytesRow C (grownCap w1 C.size 0 5)).size + 1))).drew w1.heap.size C.data.toList := bytesAt_new w1 C (grownCap w1 C.size 0 5) 5
  have hB0 : WallW W H C w (w1.alloc (.cells (bytesRow C (grownCap w1 C.size 0 5)) 5 ((bytesRow C (grownCap w1 C.size 0 5)).size, (bytesRow C (grownCap w1 C.size 0 5)).size + 1))).drew := wallW_on hB (((Below.refl w1.heap.size w1).alloc (Nat.le_refl _) _).drew)
  have hs1 := hB.2.2.2
  clear hcv c0 c1 c2 hB hg
  generalize grownCap w1 C.size 0 5 = cp at *
  generalize (w1.alloc (.cells (bytesRow C cp) 5 ((bytesRow C cp).size, (bytesRow C cp).size + 1))).drew = wS at *
  generalize w1.heap.size = G at *
  have hlen : C.data.toList.length = C.size := by simp
  have HLEN := Lib.hid hlen
  clear hlen
  go_loopw [6] (fun i wr => ∃ k : Nat, k ≤ L.length ∧ i = .int .i64 k ∧ BytesAt wr G (wall C.data.toList (L.take k)) ∧ WallW W H C w wr) (fun i _ => L.length - (intOf i).toNat)
  case atStart => exact ⟨0, Nat.zero_le _, rfl, hb0, hB0⟩
  case round =>
    obtain ⟨k, hk, rfl, hby, hB⟩ := hrel
    by_cases hlt : k < L.length
    · obtain ⟨x, hx⟩ : ∃ x, L[k]? = some x := ⟨_, List.getElem?_eq_getElem hlt⟩
      rcases HVh.out with h0 | ⟨g, rfl, hg, hc⟩
      · omega
      · have d0 : wr.cell? ⟨g, k, none⟩ = some (.int .i64 x) := (hB.1.cell (p := ⟨g, k, none⟩) hg).trans (hc k x hx)
        have hwl : (wall C.data.toList (L.take k)).length = C.size := (wall_len _ _).trans HLEN.out
        have HS : Hid (wall C.data.toList (L.take (k + 1)) = wall1 (wall C.data.toList (L.take k)) x) := Lib.hid (wall_snoc _ L k x hx)
        have hk2 : (k : Int) < (L.length : Int) := by omega
        have HWL := Lib.hid hwl
        clear hx hc hwl
        by_cases hin : 0 ≤ x ∧ x < (C.size : Int)
        · obtain ⟨m, rfl⟩ : ∃ m : Nat, x = m := ⟨x.toNat, by omega⟩
          have hm : m < C.size := by omega
          have hm2 : (m : Int) < (C.size : Int) := by omega
          have e1 := hby.1 m _ (List.getElem?_eq_getElem (show m < (wall C.data.toList (L.take k)).length by rw [HWL.out]; exact hm))
          have e2 := hby.2 m (by rw [HWL.out]; exact hm)
          generalize ((wall C.data.toList (L.take k))[m]'(by rw [HWL.out]; exact hm)).toNat = by0 at e1
          have HBY := Lib.hid hby
          clear hin hby
          go_wp2
          go_roundw
          case rel => exact ⟨k + 1, by omega, by go_num, bytesAt_eq (bytesAt_set HBY.out (by rw [HWL.out]; exact hm)) (HS.out.trans (wall1_in (by rw [HWL.out]; exact hm))), wallW_set hB (by omega) _ _⟩
          case measure => simp [intOf]; omega
        · have HBY := Lib.hid hby
          have HS2 : Hid (wall C.data.toList (L.take (k + 1)) = wall C.data.toList (L.take k)) := Lib.hid (HS.out.trans (wall1_out (by rw [HWL.out]; exact hin)))
          clear hby
          by_cases h0 : x < 0
          · clear hin
            go_wp2
            go_roundw
            case rel => exact ⟨k + 1, by omega, by go_num, bytesAt_eq HBY.out HS2.out, hB⟩
            case measure => simp [intOf]; omega
          · have h1 : (C.size : Int) ≤ x := by omega
            have h2 : 0 ≤ x := by omega
            clear hin
            go_wp2
            go_roundw
            case rel => exact ⟨k + 1, by omega, by go_num, bytesAt_eq HBY.out HS2.out, hB⟩
            case measure => simp [intOf]; omega
    · obtain rfl : k = L.length := by omega
      have htx := run_text_at (P := Try.prog) wr 54 9 5 Try.underlying54 Try.underlying5 Try.underlying9 (cap := cp) hby C.size ((wall_len _ _).trans HLEN.out)
      rw [List.take_length, HT.out] at htx
      obtain ⟨c0, c1, c2⟩ := wallW_cells hB
      obtain ⟨⟨d0, d1, d2⟩, f0, f1, f2⟩ := wallW_res hB
      clear hby
      go_wp2
      obtain ⟨hb, hh⟩ := three_stores hB (.int .i64 W) (.int .i64 H) (.string T)
      exact bodyPost_ret (v := .agg #[.int .i64 W, .int .i64 H, .string T]) (results_cell1 Try.results27 _ _ _ _ rfl (load_grid _ _ _ rfl hh)) rfl ⟨rfl, hb⟩

theorem implWalled_no (W H : Int) (C : ByteArray) (v : Value) (hC : C.size ≤ 1048576) (hg : gok W H C = false) (w : World) :
    Calls Try.prog 29 #[.agg #[.int .i64 W, .int .i64 H, .string C], v] w (GridBack W H C w) := by
  have hB := wallW_start W H C w
  go_enter Try.func29, Try.ntmps29
  go_wp2_with (go_at_call 13; (with_reducible refine (implGridOk W H C hC _).mono ?_); rintro e w1 ⟨rfl, hb⟩; replace hB := wallW_on hB hb; obtain ⟨c0, c1, c2⟩ := wallW_cells hB; obtain ⟨⟨d0, d1, d2⟩, f0, f1, f2⟩ := wallW_res hB; clear hb)
  obtain ⟨hb, hh⟩ := three_stores hB (.int .i64 W) (.int .i64 H) (.string C)
  exact bodyPost_ret (v := .agg #[.int .i64 W, .int .i64 H, .string C]) (results_cell1 Try.results29 _ _ _ _ rfl (load_grid _ _ _ rfl hh)) rfl ⟨rfl, hb⟩

set_option maxHeartbeats 1000000 in
theorem implWalled_yes (W H : Int) (C T : ByteArray) (v : Value) (L : List Int) (hC : C.size ≤ 1048576) (hg : gok W H C = true) (HT : Hid (⟨(wall C.data.toList L).toArray⟩ = T)) (hL : L.length ≤ 2000000) (w : World) (hv : Ints w v L) :
    Calls Try.prog 29 #[.agg #[.int .i64 W, .int .i64 H, .string C], v] w (GridBack W H T w) := by
  obtain ⟨av, cv, rfl, HV⟩ := ints_form hv
  have HVh := Lib.hid HV
  clear HV hv
  have hcv := fun (w : World) => run_bytes_of_string (P := Try.prog) w 9 54 5 C Try.underlying9 Try.underlying54 Try.underlying5
  have hB := wallW_start W H C w
  go_enter Try.func29, Try.ntmps29
  go_wp2_with (go_at_call 13; (with_reducible refine (implGridOk W H C hC _).mono ?_); rintro e w1 ⟨rfl, hb⟩; replace hB := wallW_on hB hb; obtain ⟨c0, c1, c2⟩ := wallW_cells hB; clear hb)
  have hb0 : BytesAt (w1.alloc (.cells (bytesRow C (grownCap w1 C.size 0 5)) 5 ((bytesRow C (grownCap w1 C.size 0 5)).size, (bytesRow C (grownCap w1 C.size 0 5)).size + 1))).drew w1.heap.size C.data.toList := bytesAt_new w1 C (grownCap w1 C.size 0 5) 5
  have hB0 : WallW W H C w (w1.alloc (.cells (bytesRow C (grownCap w1 C.size 0 5)) 5 ((bytesRow C (grownCap w1 C.size 0 5)).size, (bytesRow C (grownCap w1 C.size 0 5)).size + 1))).drew := wallW_on hB (((Below.refl w1.heap.size w1).alloc (Nat.le_refl _) _).drew)
  have hs1 := hB.2.2.2
  clear hcv c0 c1 c2 hB hg
  generalize grownCap w1 C.size 0 5 = cp at *
  generalize (w1.alloc (.cells (bytesRow C cp) 5 ((bytesRow C cp).size, (bytesRow C cp).size + 1))).drew = wS at *
  generalize w1.heap.size = G at *
  have hlen : C.data.toList.length = C.size := by simp
  have HLEN := Lib.hid hlen
  clear hlen
  go_loopw [17] (fun i wr => ∃ k : Nat, k ≤ L.length ∧ i = .int .i64 k ∧ BytesAt wr G (wall C.data.toList (L.take k)) ∧ WallW W H C w wr) (fun i _ => L.length - (intOf i).toNat)
  case atStart => exact ⟨0, Nat.zero_le _, rfl, hb0, hB0⟩
  case round =>
    obtain ⟨k, hk, rfl, hby, hB⟩ := hrel
    by_cases hlt : k < L.length
    · obtain ⟨x, hx⟩ : ∃ x, L[k]? = some x := ⟨_, List.getElem?_eq_getElem hlt⟩
      rcases HVh.out with h0 | ⟨g, rfl, hg, hc⟩
      · omega
      · have d0 : wr.cell? ⟨g, k, none⟩ = some (.int .i64 x) := (hB.1.cell (p := ⟨g, k, none⟩) hg).trans (hc k x hx)
        have hwl : (wall C.data.toList (L.take k)).length = C.size := (wall_len _ _).trans HLEN.out
        have HS : Hid (wall C.data.toList (L.take (k + 1)) = wall1 (wall C.data.toList (L.take k)) x) := Lib.hid (wall_snoc _ L k x hx)
        have hk2 : (k : Int) < (L.length : Int) := by omega
        have HWL := Lib.hid hwl
        clear hx hc hwl
        by_cases hin : 0 ≤ x ∧ x < (C.size : Int)
        · obtain ⟨m, rfl⟩ : ∃ m : Nat, x = m := ⟨x.toNat, by omega⟩
          have hm : m < C.size := by omega
          have hm2 : (m : Int) < (C.size : Int) := by omega
          have e1 := hby.1 m _ (List.getElem?_eq_getElem (show m < (wall C.data.toList (L.take k)).length by rw [HWL.out]; exact hm))
          have e2 := hby.2 m (by rw [HWL.out]; exact hm)
          generalize ((wall C.data.toList (L.take k))[m]'(by rw [HWL.out]; exact hm)).toNat = by0 at e1
          have HBY := Lib.hid hby
          clear hin hby
          go_wp2
          go_roundw
          case rel => exact ⟨k + 1, by omega, by go_num, bytesAt_eq (bytesAt_set HBY.out (by rw [HWL.out]; exact hm)) (HS.out.trans (wall1_in (by rw [HWL.out]; exact hm))), wallW_set hB (by omega) _ _⟩
          case measure => simp [intOf]; omega
        · have HBY := Lib.hid hby
          have HS2 : Hid (wall C.data.toList (L.take (k + 1)) = wall C.data.toList (L.take k)) := Lib.hid (HS.out.trans (wall1_out (by rw [HWL.out]; exact hin)))
          clear hby
          by_cases h0 : x < 0
          · clear hin
            go_wp2
            go_roundw
            case rel => exact ⟨k + 1, by omega, by go_num, bytesAt_eq HBY.out HS2.out, hB⟩
            case measure => simp [intOf]; omega
          · have h1 : (C.size : Int) ≤ x := by omega
            have h2 : 0 ≤ x := by omega
            clear hin
            go_wp2
            go_roundw
            case rel => exact ⟨k + 1, by omega, by go_num, bytesAt_eq HBY.out HS2.out, hB⟩
            case measure => simp [intOf]; omega
    · obtain rfl : k = L.length := by omega
      have htx := run_text_at (P := Try.prog) wr 54 9 5 Try.underlying54 Try.underlying5 Try.underlying9 (cap := cp) hby C.size ((wall_len _ _).trans HLEN.out)
      rw [List.take_length, HT.out] at htx
      obtain ⟨c0, c1, c2⟩ := wallW_cells hB
      obtain ⟨⟨d0, d1, d2⟩, f0, f1, f2⟩ := wallW_res hB
      clear hby
      go_wp2
      obtain ⟨hb, hh⟩ := three_stores hB (.int .i64 W) (.int .i64 H) (.string T)
      exact bodyPost_ret (v := .agg #[.int .i64 W, .int .i64 H, .string T]) (results_cell1 Try.results29 _ _ _ _ rfl (load_grid _ _ _ rfl hh)) rfl ⟨rfl, hb⟩

end Go.Proofs.Ytcofajganakbiaa
