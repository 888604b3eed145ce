/-
  CONTRACTS of the program's cellsWith at gridRow.free and of its FreeCells. No law is proved here.
  Rows of numbers and of Booleans, in memory. Plain facts; no statement is proved here.
-/
import Derived.Test.YtlkhecdlmbhiaaaDoorZTS17
import Derived.Test.YtlkhecdlmbhiaaaDoorZTS04
namespace Go.Proofs.YtlkhecdlmbhiaaaDoor
set_option maxRecDepth 4096
open Go.ChangeShapes Go.WideShapes Go.ChangeAt Go.RowKit

theorem freeL_no {W H : Int} {C : ByteArray} (hg : ¬ gok W H C = true) : freeL W H C = [] :=
  picks_none fun n => by unfold freeP freeV cellOk; simp [hg]
theorem freeP_at {W H : Int} {C : ByteArray} {n : Nat} {b : Bool} (hg : gok W H C = true) (hn : n < C.size) (h : freeP W H C n = b) : freeB (byteAt C n) = b := by
  rw [← h]
  unfold freeP
  exact (freeV_at hg hn).symm

set_option maxHeartbeats 1000000 in
theorem withFree (W H : Int) (C : ByteArray) (p : Nat → Bool) (L : List Int) (hC : C.size ≤ 1048576) (hg : gok W H C = true) (HPB : Hid (∀ n b, n < C.size → p n = b → freeB (byteAt C n) = b)) (HL : Hid (picks p (min C.size 64) = L)) (w : World) :
    Calls Tryd.prog 41 #[.agg #[.int .i64 W, .int .i64 H, .string C], .func (.func 42) #[] #[]] w (IntsBack w L) := by
  obtain ⟨i0, hi, hz0, hz1, hz2⟩ := info_parts Tryd.info3
  have hfew := gok_few hg
  have hB := Below.refl (w.alloc (.cells #[.int .i64 W, .int .i64 H, .string C] 25)).heap.size (w.alloc (.cells #[.int .i64 W, .int .i64 H, .string C] 25))
  go_enter Tryd.func41, Tryd.ntmps41
  go_wp2_with (first
    | (go_at_call 71; (with_reducible refine (rowsOf W H C hC _).mono ?_); rintro e w1 ⟨rfl, hb⟩; replace hB := chain hB hb; have hs1 := box_size hB; clear hb)
    | (refine wpStoreRows W H C _ _ rfl rfl rfl rfl ?_; have hR := (rows_in w1 (rowsR W H C)).2; replace hB := chain hB (rows_in w1 (rowsR W H C)).1; have hs2 := rowsW2_size w1 (rowsR W H C); obtain ⟨c0, c1, c2⟩ := box_cells hB))
  clear c0 c1 c2
  generalize rowsW2 w1 (rowsR W H C) = wS at hR hB hs2 ⊢
  generalize w1.heap.size = G at hR hs1 hs2 ⊢
  have HR := Lib.hid hR
  have HG := Lib.hid hg
  have hs3 : w.heap.size + 1 ≤ wS.heap.size := by omega
  have hs4 : G < wS.heap.size := by omega
  clear hR hg hs2
  go_loopw [7, 19] (fun v i wr => ∃ k : Nat, k ≤ C.size ∧ i = .int .i64 k ∧ wr.ownsRow wS.heap.size 3 1 v (picks p k).length ((picks p k).map (Value.int .i64)) ∧ Below wS.heap.size wS wr) (fun _ i _ => C.size - (intOf i).toNat)
  case atStart => exact ⟨0, Nat.zero_le _, rfl, ⟨rfl, .inl ⟨rfl, rfl⟩⟩, Below.refl _ _⟩
  case round =>
    obtain ⟨k, hk, rfl, hown, hbe⟩ := hrel
    have hbs := hbe.size
    by_cases hlt : k < C.size
    · obtain ⟨c0, c1, c2⟩ := box_cells (chain hB hbe)
      obtain ⟨a, b, q, m, rfl, rfl, ha1, ha2, hb8, hq, hm, hd, he, hms, hby, hr⟩ := place HG.out hlt
      have d1 : wr.cell? ⟨G, q, none⟩ = some (.string (rowT C a q)) := (hbe.cell (p := ⟨G, q, none⟩) hs4).trans (cell_rows HR.out (Lib.hid rfl) (Lib.hid hr))
      have e3 : IntKind.i64.wrap (q : Int) = (q : Int) := IntWalk.i64_in _ (by omega)
      have hl := picks_len p k
      have HB := Lib.hid hby
      clear hby hr
      by_cases hp : p k = true
      · have HP : Hid (picks p (k + 1) = picks p k ++ [(k : Int)]) := Lib.hid (picks_yes hp)
        have HPT : Hid (freeB (byteAt (rowT C a q) m) = true) := Lib.hid (by rw [HB.out]; exact HPB.out _ _ hlt hp)
        clear hp
        go_wp2
        go_quiet ((go_at_call 42; exact left_quiet (freeTo _ _ m _ HPT rfl hms _)))
        clear d1 e3 hd he
        go_wp2_with (at_builtin; go_loud (refine wpList_append_own _ rfl _ _ 26 rfl wS.heap.size 3 i0 (.int .i64 0) 1 8 Tryd.underlying26 hi hz0 hz1 hz2 rfl (by decide) _ _ _ rfl ((own_drewN hown _).alloc _) ⟨wr.heap.size, 0, none⟩ 1 1 ([(k : Int)].map (Value.int .i64)) rfl rfl (int_new _ _ _) (ints_one _) (by unfold maxLen; omega) (by omega) (by simp; omega) ?_); intro v' w2 hown2 hgrow _; have hbe2 := ((below_drewN hbe _).alloc (by simpa using hbs) _).grown hgrow (by simp; omega) (fun j hj => (hown.lt j hj).1); clear hgrow)
        go_roundw
        case rel => exact ⟨k + 1, by omega, by go_num, ints_push hown2 HP.out, hbe2⟩
        case measure => simp [intOf]; omega
      · have hp2 : p k = false := by simpa using hp
        have HP : Hid (picks p (k + 1) = picks p k) := Lib.hid (picks_no hp2)
        have HPT : Hid (freeB (byteAt (rowT C a q) m) = false) := Lib.hid (by rw [HB.out]; exact HPB.out _ _ hlt hp2)
        clear hp hp2
        go_wp2
        go_quiet ((go_at_call 42; exact left_quiet (freeTo _ _ m _ HPT rfl hms _)))
        clear d1 e3 hd he
        go_wp2
        go_roundw
        case rel => exact ⟨k + 1, by omega, by go_num, by rw [HP.out]; exact own_drewN hown _, below_drewN hbe _⟩
        case measure => simp [intOf]; omega
    · obtain rfl : k = C.size := by omega
      have HE : Hid (picks p C.size = L) := Lib.hid (by rw [← HL.out]; congr 1; omega)
      go_wp2
      go_ret
      exact ⟨_, rfl, by rw [← HE.out]; exact own_base hown (by omega), box_below (chain hB hbe)⟩

theorem withFreeAny (W H : Int) (C : ByteArray) (L : List Int) (hC : C.size ≤ 1048576) (HL : Hid (freeL W H C = L)) (w : World) :
    Calls Tryd.prog 41 #[.agg #[.int .i64 W, .int .i64 H, .string C], .func (.func 42) #[] #[]] w (IntsBack w L) := by
  by_cases hg : gok W H C = true
  · exact withFree W H C (freeP W H C) L hC hg (Lib.hid fun n b hn h => freeP_at hg hn h) HL w
  · have : L = [] := HL.out.symm.trans (freeL_no hg)
    subst this
    exact with_no W H C _ hC (by simpa using hg) w

theorem implFreeCells (W H : Int) (C : ByteArray) (L : List Int) (hC : C.size ≤ 1048576) (HL : Hid (freeL W H C = L)) (w : World) :
    Calls Tryd.prog 11 #[.agg #[.int .i64 W, .int .i64 H, .string C]] w (IntsBack w L) := by
  go_enter Tryd.func11, Tryd.ntmps11
  go_wp2_with (go_at_call 41; (with_reducible refine (withFreeAny W H C L hC HL _).mono ?_); intro e w1 h1; obtain ⟨v, rfl, h2⟩ := ints_out h1)
  go_ret
  exact ints_under h2 ((Below.refl _ _).alloc (Nat.le_refl _) _)

end Go.Proofs.YtlkhecdlmbhiaaaDoor

namespace Go.Proofs.YtlkhecdlmbhiaaaDoor
set_option maxRecDepth 4096
open Go.ChangeShapes Go.WideShapes Go.ChangeAt Go.RowKit

/-- A row of numbers. -/
def rowO (o : Nat → Int) (n : Nat) : List Int := (List.range n).map o
theorem rowO_len (o : Nat → Int) (n : Nat) : (rowO o n).length = n := by simp [rowO]
theorem rowO_succ (o : Nat → Int) (n : Nat) : rowO o (n + 1) = rowO o n ++ [o n] := by simp [rowO, List.range_succ]
theorem rowO_at (o : Nat → Int) {n c : Nat} (h : c < n) : (rowO o n)[c]? = some (o c) := by simp [rowO, h]

theorem ints_on {w w1 : World} {v : Value} {L : List Int} (h : Ints w v L) (hb : Below w.heap.size w w1) : Ints w1 v L := by
  rcases h with h | ⟨g, c, rfl, hg, hc⟩
  · exact .inl h
  · exact .inr ⟨g, c, rfl, Nat.lt_of_lt_of_le hg hb.size, fun j x hx => (hb.cell (p := ⟨g, j, none⟩) hg).trans (hc j x hx)⟩
theorem own_num {w : World} {B : Nat} {e : TypeId} {g n cap c : Nat} {o : Nat → Int} (h : w.ownsRow B e 1 (.slice (some ⟨g, 0, none⟩) n cap) n ((rowO o n).map (Value.int .i64))) (hc : c < n) : w.cell? ⟨g, c, none⟩ = some (.int .i64 (o c)) := by
  have := h.cells (g := g) rfl c (.int .i64 (o c)) (by rw [List.getElem?_map, rowO_at o hc]; rfl)
  have hadd : (⟨g, 0, none⟩ : Addr).add c = ⟨g, c, none⟩ := by unfold Addr.add; split <;> simp_all
  rwa [hadd] at this
theorem own_int {w : World} {B : Nat} {e : TypeId} {g n cap j : Nat} {L : List Int} {x : Int} (h : w.ownsRow B e 1 (.slice (some ⟨g, 0, none⟩) n cap) n (L.map (Value.int .i64))) (hx : L[j]? = some x) : w.cell? ⟨g, j, none⟩ = some (.int .i64 x) := by
  have := h.cells (g := g) rfl j (.int .i64 x) (by rw [List.getElem?_map, hx]; rfl)
  have hadd : (⟨g, 0, none⟩ : Addr).add j = ⟨g, j, none⟩ := by unfold Addr.add; split <;> simp_all
  rwa [hadd] at this
/-- A row of Booleans. -/
def rowB (o : Nat → Bool) (n : Nat) : List Value := (List.range n).map fun j => .bool (o j)
theorem rowB_len (o : Nat → Bool) (n : Nat) : (rowB o n).length = n := by simp [rowB]
theorem rowB_at (o : Nat → Bool) {n c : Nat} (h : c < n) : (rowB o n)[c]? = some (.bool (o c)) := by simp [rowB, h]
theorem rowB_eq {o o' : Nat → Bool} {n : Nat} (h : ∀ j, o j = o' j) : rowB o n = rowB o' n := by
  have : o = o' := funext h
  rw [this]
theorem rowB_none (n : Nat) : List.replicate n (Value.bool false) = rowB (fun _ => false) n := by
  unfold rowB
  rw [List.map_const', List.length_range]
theorem rowB_set {o o' : Nat → Bool} {n c : Nat} (h : ∀ j, o' j = (o j || decide (j = c))) : (rowB o n).set c (.bool true) = rowB o' n := by
  apply List.ext_getElem?
  intro j
  rw [List.getElem?_set]
  by_cases hj : j < n
  · rw [rowB_at _ hj, rowB_at _ hj, h]
    by_cases e : c = j
    · subst e
      rw [if_pos rfl, if_pos (by rw [rowB_len]; exact hj)]
      simp
    · rw [if_neg e]
      have : ¬ j = c := fun k => e k.symm
      simp [this]
  · have h1 : ∀ o : Nat → Bool, (rowB o n)[j]? = none := fun o => List.getElem?_eq_none_iff.2 (by rw [rowB_len]; omega)
    rw [h1, h1]
    split
    · rw [if_neg (by rw [rowB_len]; omega)]
    · rfl

theorem rowO_put {o o' : Nat → Int} {n c : Nat} {x : Int} (hx : o' c = x) (h : ∀ j, j ≠ c → o' j = o j) : ((rowO o n).map (Value.int .i64)).set c (.int .i64 x) = (rowO o' n).map (Value.int .i64) := by
  apply List.ext_getElem?
  intro j
  rw [List.getElem?_set, List.getElem?_map, List.getElem?_map]
  by_cases hj : j < n
  · rw [rowO_at _ hj, rowO_at _ hj]
    by_cases e : c = j
    · subst e
      rw [if_pos rfl, if_pos (by simpa [rowO_len] using hj), hx]
      rfl
    · rw [if_neg e, h j (fun k => e k.symm)]
  · have h1 : ∀ o : Nat → Int, (rowO o n)[j]? = none := fun o => List.getElem?_eq_none_iff.2 (by rw [rowO_len]; omega)
    rw [h1, h1]
    split
    · rw [if_neg (by simp [rowO_len]; omega)]; rfl
    · rfl
theorem rowO_const0 (x : Int) (n : Nat) : List.replicate n (Value.int .i64 x) = (rowO (fun _ => x) n).map (Value.int .i64) := by
  unfold rowO
  rw [List.map_const', List.length_range, List.map_replicate]
theorem rowO_same {o o' : Nat → Int} {n : Nat} (h : ∀ c, c < n → o c = o' c) : rowO o n = rowO o' n := List.map_congr_left fun c hc => h c (List.mem_range.1 hc)
theorem own_bool {w : World} {B : Nat} {e : TypeId} {g n cap c : Nat} {o : Nat → Bool} (h : w.ownsRow B e 1 (.slice (some ⟨g, 0, none⟩) n cap) n (rowB o n)) (hc : c < n) : w.cell? ⟨g, c, none⟩ = some (.bool (o c)) := by
  have := h.cells (g := g) rfl c (.bool (o c)) (rowB_at o hc)
  have hadd : (⟨g, 0, none⟩ : Addr).add c = ⟨g, c, none⟩ := by unfold Addr.add; split <;> simp_all
  rwa [hadd] at this

end Go.Proofs.YtlkhecdlmbhiaaaDoor

