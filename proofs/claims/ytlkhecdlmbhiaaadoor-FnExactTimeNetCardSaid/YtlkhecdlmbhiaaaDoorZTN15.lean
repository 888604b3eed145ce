/-
  The two blocks that TimeNet begins with: the map's box and the result's. No statement is proved here.
  CONTRACT of the program's within, as it is. No law is proved here.
  Where a cell lies among the rows. No law is proved here.
  CONTRACT of the program's rowWith. No law is proved here.
  CONTRACT of the program's gridRow.free. No law is proved here.
  CONTRACT of the program's FreeAt. No law is proved here.
  CONTRACT of the program's allFree. No law is proved here.
  CONTRACTS of the laws' own helpers toIntS, and of arguments that are slices of ints. No law is proved here.
-/
import Derived.Test.YtlkhecdlmbhiaaaDoorZTN14
import Derived.Test.YtlkhecdlmbhiaaaDoorZTN00
import Derived.Test.YtlkhecdlmbhiaaaDoorZTN11
import Derived.Deep.QuietTactic
import Derived.BigQuiet
import Derived.Test.YtlkhecdlmbhiaaaDoorZTN09
import Derived.Test.YtlkhecdlmbhiaaaDoorZTN01
namespace Go.Proofs.YtlkhecdlmbhiaaaDoor
set_option maxRecDepth 4096
open Go.ChangeShapes Go.WideShapes Go.ChangeAt Go.RowKit

/-- The two blocks that TimeNet begins with. -/
def tnObj (W H : Int) (C : ByteArray) : Obj := .cells #[.int .i64 W, .int .i64 H, .string C] 25
def tnRes : Obj := .cells #[.int .i64 0, .slice none 0 0] 32
theorem tn_cells {w wr : World} {W H : Int} {C : ByteArray} (h : Below ((w.alloc (tnObj W H C)).alloc tnRes).heap.size ((w.alloc (tnObj W H C)).alloc tnRes) wr) :
    wr.cell? ⟨w.heap.size, 0, none⟩ = some (.int .i64 W) ∧ wr.cell? ⟨w.heap.size, 1, none⟩ = some (.int .i64 H) ∧ wr.cell? ⟨w.heap.size, 2, none⟩ = some (.string C) := by
  have h1 : wr.heap[w.heap.size]? = some (.cells #[.int .i64 W, .int .i64 H, .string C] 25 (0, 0)) :=
    (h.block _ (by simp; omega)).trans (((World.grownBy_alloc (w.alloc (tnObj W H C)) tnRes none).block _ (by simp) (by simp)).trans (heap_alloc_new w _))
  refine ⟨?_, ?_, ?_⟩ <;> rw [cell_of_row _ _ _ _ _ _ h1] <;> rfl
theorem tn_res {w wr : World} {W H : Int} {C : ByteArray} (h : Below ((w.alloc (tnObj W H C)).alloc tnRes).heap.size ((w.alloc (tnObj W H C)).alloc tnRes) wr) : wr.heap[w.heap.size + 1]? = some (.cells #[.int .i64 0, .slice none 0 0] 32 (0, 0)) := by
  have h2 := heap_alloc_new (w.alloc (tnObj W H C)) tnRes
  rw [World.size_alloc] at h2
  exact (h.block _ (by simp)).trans h2
theorem tn_below {w wr : World} {W H : Int} {C : ByteArray} (h : Below ((w.alloc (tnObj W H C)).alloc tnRes).heap.size ((w.alloc (tnObj W H C)).alloc tnRes) wr) : Below w.heap.size w wr :=
  (((Below.refl w.heap.size w).alloc (Nat.le_refl _) (tnObj W H C)).alloc (by simp) tnRes).trans (h.mono (by simp; omega))

/-- What is handed back. -/
theorem tn_back {w wr : World} {W H : Int} {C : ByteArray} {N : Int} {va : Value} {A : List ArcD} (h : Below ((w.alloc (tnObj W H C)).alloc tnRes).heap.size ((w.alloc (tnObj W H C)).alloc tnRes) wr) (hown : wr.ownsRow (w.heap.size + 2) 72 4 va A.length (cellsA A)) :
    ((wr.setCell ⟨w.heap.size + 1, 0, none⟩ (.int .i64 N)).setCell ⟨w.heap.size + 1, 1, none⟩ va).cell? ⟨w.heap.size + 1, 0, none⟩ = some (.int .i64 N) ∧ ((wr.setCell ⟨w.heap.size + 1, 0, none⟩ (.int .i64 N)).setCell ⟨w.heap.size + 1, 1, none⟩ va).cell? ⟨w.heap.size + 1, 1, none⟩ = some va ∧
    ((wr.setCell ⟨w.heap.size + 1, 0, none⟩ (.int .i64 N)).setCell ⟨w.heap.size + 1, 1, none⟩ va).ownsRow w.heap.size 72 4 va A.length (cellsA A) ∧ Below w.heap.size w ((wr.setCell ⟨w.heap.size + 1, 0, none⟩ (.int .i64 N)).setCell ⟨w.heap.size + 1, 1, none⟩ va) := by
  have hrow := heap_setCell_same _ (w.heap.size + 1) 1 _ _ va (heap_setCell_same wr (w.heap.size + 1) 0 _ _ (.int .i64 N) (tn_res h))
  have k1 : wr.grownBy (wr.setCell ⟨w.heap.size + 1, 0, none⟩ (.int .i64 N)) (some (w.heap.size + 1)) := ⟨rfl, rfl, rfl, by simp [World.setCell], fun i _ hne => heap_setCell_other _ _ _ _ (fun e => hne (by rw [e]))⟩
  have k2 : (wr.setCell ⟨w.heap.size + 1, 0, none⟩ (.int .i64 N)).grownBy ((wr.setCell ⟨w.heap.size + 1, 0, none⟩ (.int .i64 N)).setCell ⟨w.heap.size + 1, 1, none⟩ va) (some (w.heap.size + 1)) := ⟨rfl, rfl, rfl, by simp [World.setCell], fun i _ hne => heap_setCell_other _ _ _ _ (fun e => hne (by rw [e]))⟩
  have hne : va.ownBlock = none ∨ va.ownBlock ≠ some (w.heap.size + 1) := .inr fun e => by have := (hown.lt _ e).1; omega
  refine ⟨by rw [cell_of_row _ _ _ _ _ _ hrow]; rfl, by rw [cell_of_row _ _ _ _ _ _ hrow]; rfl, own_base ((hown.kept k1 hne).kept k2 hne) (by omega), ?_⟩
  have hb := tn_below h
  have hs := h.size
  rw [World.size_alloc, World.size_alloc] at hs
  exact (hb.grown k1 hb.size (fun j e => by have := Option.some.inj e; omega)).grown k2 (by have := k1.size; omega) (fun j e => by have := Option.some.inj e; omega)

end Go.Proofs.YtlkhecdlmbhiaaaDoor

namespace Go.Proofs.YtlkhecdlmbhiaaaDoor
set_option maxRecDepth 4096
open Go.ChangeShapes Go.WideShapes Go.ChangeAt Go.RowKit

theorem implRange (x lo hi : Int) (b : Bool) (HB : Hid ((decide (lo ≤ x) && decide (x ≤ hi)) = b)) (w : World) :
    Calls Tryd.prog 43 #[.int .i64 x, .int .i64 lo, .int .i64 hi] w fun e w' => e = .returned (.bool b) ∧ w = w' := by
  by_cases h1 : lo ≤ x
  · by_cases h2 : x ≤ hi
    · have e : b = true := by rw [← HB.out]; simp [h1, h2]
      subst e
      clear HB
      go_enter Tryd.func43, Tryd.ntmps43
      go_wp2
      go_ret
      exact ⟨rfl, rfl⟩
    · have e : b = false := by rw [← HB.out]; simp [h2]
      subst e
      clear HB
      go_enter Tryd.func43, Tryd.ntmps43
      go_wp2
      go_ret
      exact ⟨rfl, rfl⟩
  · have e : b = false := by rw [← HB.out]; simp [h1]
    subst e
    clear HB
    go_enter Tryd.func43, Tryd.ntmps43
    go_wp2
    go_ret
    exact ⟨rfl, rfl⟩

end Go.Proofs.YtlkhecdlmbhiaaaDoor

namespace Go.Proofs.YtlkhecdlmbhiaaaDoor
set_option maxRecDepth 4096
open Go.ChangeShapes Go.WideShapes Go.ChangeAt Go.RowKit

theorem rowsR_at {a b : Nat} {C : ByteArray} {y : Nat} (hg : gok a b C = true) (hy : y < b) (hb : b ≤ 8) : (rowsR a b C)[y]? = some (.string (rowT C a y)) := by
  unfold rowsR
  rw [if_pos hg]
  exact rowsV_at C a b y hy hb

theorem cell_rows {w : World} {g q : Nat} {R S : Array Value} {t : TypeId} {v : Value} (hR : w.heap[g]? = some (.cells S t (0, 0))) (HR : Hid (S = R)) (hr : Hid (R[q]? = some v)) : w.cell? ⟨g, q, none⟩ = some v := by
  rw [cell_of_row _ _ _ _ _ _ hR, HR.out]
  exact hr.out

/-- Where the cell n of a valid map lies among the rows. -/
theorem place {W H : Int} {C : ByteArray} {n : Nat} (hg : gok W H C = true) (hn : n < C.size) : ∃ a b q m : Nat, W = a ∧ H = b ∧ 1 ≤ a ∧ a ≤ 8 ∧ b ≤ 8 ∧ q < b ∧ m < a ∧ (n : Int).tdiv (a : Int) = (q : Int) ∧ (n : Int).tmod (a : Int) = (m : Int) ∧
    m < (rowT C a q).size ∧ byteAt (rowT C a q) m = byteAt C n ∧ (rowsR W H C)[q]? = some (.string (rowT C a q)) := by
  obtain ⟨⟨⟨h1, h2⟩, ⟨h3, h4⟩, hs⟩, _⟩ := gok_out hg
  obtain ⟨a, rfl⟩ : ∃ a : Nat, W = a := ⟨W.toNat, by omega⟩
  obtain ⟨b, rfl⟩ : ∃ b : Nat, H = b := ⟨H.toNat, by omega⟩
  have hs2 : C.size = a * b := by have : ((a * b : Nat) : Int) = (a : Int) * (b : Int) := Int.natCast_mul a b; omega
  have ha : 0 < a := by omega
  have hq : n / a < b := Nat.div_lt_of_lt_mul (by omega)
  have hm : n % a < a := Nat.mod_lt _ ha
  have hle : (n / a + 1) * a ≤ C.size := by rw [hs2, Nat.mul_comm a b]; exact Nat.mul_le_mul_right a (by omega)
  have hnn : n / a * a + n % a = n := by rw [Nat.mul_comm]; exact Nat.div_add_mod n a
  refine ⟨a, b, n / a, n % a, rfl, rfl, by omega, by omega, by omega, hq, hm, ?_, ?_, by rw [row_size C a _ hle]; exact hm, ?_, rowsR_at hg hq (by omega)⟩
  · rw [Int.tdiv_eq_ediv_of_nonneg (by omega)]; rfl
  · rw [Int.tmod_eq_emod_of_nonneg (by omega)]; rfl
  · rw [row_byte C a _ _ hle hm, hnn]

end Go.Proofs.YtlkhecdlmbhiaaaDoor

namespace Go.Proofs.YtlkhecdlmbhiaaaDoor
set_option maxRecDepth 4096
open Go.ChangeShapes Go.WideShapes Go.ChangeAt Go.RowKit

def RowNone (w : World) (e : Ending) (w' : World) : Prop := e = .returned (.tuple #[.string ⟨#[]⟩, .int .i64 0, .bool false]) ∧ Below w.heap.size w w'
def RowSome (r : ByteArray) (m : Nat) (w : World) (e : Ending) (w' : World) : Prop := e = .returned (.tuple #[.string r, .int .i64 m, .bool true]) ∧ Below w.heap.size w w'

set_option maxHeartbeats 1000000 in
theorem rowWith_no (W H : Int) (C : ByteArray) (c : Int) (hC : C.size ≤ 1048576) (h : ¬ cellOk W H C c = true) (w : World) :
    Calls Tryd.prog 96 #[.agg #[.int .i64 W, .int .i64 H, .string C], .int .i64 c] w (RowNone w) := by
  rcases cellOk_no h with hg | ⟨hg, h1⟩ | ⟨hg, h1, h2⟩
  all_goals
    clear h
    have hB := Below.refl (w.alloc (.cells #[.int .i64 W, .int .i64 H, .string C] 25)).heap.size (w.alloc (.cells #[.int .i64 W, .int .i64 H, .string C] 25))
    go_enter Tryd.func96, Tryd.ntmps96
    go_wp2_with (first
      | (go_at_call 71; (with_reducible refine (rowsOf W H C hC _).mono ?_); rintro e w1 ⟨rfl, hb⟩; replace hB := chain hB hb; clear hb)
      | (refine wpStoreRows W H C _ _ rfl rfl rfl rfl ?_; replace hB := chain hB (rows_in w1 (rowsR W H C)).1; obtain ⟨c0, c1, c2⟩ := box_cells hB))
    go_ret3
    exact ⟨rfl, box_below hB⟩

set_option maxHeartbeats 400000 in
theorem rowWith_yes (a b : Nat) (C : ByteArray) (n q m : Nat) (R : Array Value) (hC : C.size ≤ 1048576) (ha : 1 ≤ a) (_hm : m < a) (hq : q < 8) (hn : n < C.size) (hd : (n : Int).tdiv (a : Int) = (q : Int)) (he : (n : Int).tmod (a : Int) = (m : Int)) (hg : gok a b C = true)
    (HR : Hid (rowsR a b C = R)) (hr : R[q]? = some (.string (rowT C a q))) (w : World) :
    Calls Tryd.prog 96 #[.agg #[.int .i64 a, .int .i64 b, .string C], .int .i64 n] w (RowSome (rowT C a q) m w) := by
  have hB := Below.refl (w.alloc (.cells #[.int .i64 a, .int .i64 b, .string C] 25)).heap.size (w.alloc (.cells #[.int .i64 a, .int .i64 b, .string C] 25))
  have HRq : Hid (R[q]? = some (.string (rowT C a q))) := Lib.hid hr
  have hn2 : (n : Int) < (C.size : Int) := by omega
  have hn3 : ¬ (C.size : Int) ≤ (n : Int) := by omega
  have HE := Lib.hid hd
  have HE2 := Lib.hid he
  clear hr hd he
  go_enter Tryd.func96, Tryd.ntmps96
  go_wp2_with (first
    | (go_at_call 71; (with_reducible refine (rowsOf a b C hC _).mono ?_); rintro e w1 ⟨rfl, hb⟩; replace hB := chain hB hb; clear hb)
    | (refine wpStoreRows a b C _ _ rfl rfl rfl rfl ?_; have hR := (rows_in w1 (rowsR a b C)).2; replace hB := chain hB (rows_in w1 (rowsR a b C)).1; obtain ⟨c0, c1, c2⟩ := box_cells hB; have d1 := cell_rows hR HR HRq; clear hR))
  have e1 := HE.out
  have e2 := HE2.out
  have e3 : IntKind.i64.wrap (q : Int) = (q : Int) := IntWalk.i64_in _ (by omega)
  go_quiet (fail)
  go_wp2
  go_ret3
  exact ⟨rfl, box_below (below_drewN hB nq)⟩

/-- The row and the place in it of a cell. -/
theorem rowWith_at {W H : Int} {C : ByteArray} {n : Nat} (hC : C.size ≤ 1048576) (hg : gok W H C = true) (hn : n < C.size) : ∃ (r : ByteArray) (m : Nat), m < r.size ∧ byteAt r m = byteAt C n ∧
    ∀ w, Calls Tryd.prog 96 #[.agg #[.int .i64 W, .int .i64 H, .string C], .int .i64 n] w (RowSome r m w) := by
  obtain ⟨a, b, q, m, rfl, rfl, ha1, ha2, hb, hq, hm, hd, he, hms, hby, hr⟩ := place hg hn
  exact ⟨rowT C a q, m, hms, hby, fun w => rowWith_yes a b C n q m _ hC ha1 hm (by omega) hn hd he hg (Lib.hid rfl) hr w⟩

end Go.Proofs.YtlkhecdlmbhiaaaDoor

namespace Go.Proofs.YtlkhecdlmbhiaaaDoor
set_option maxRecDepth 4096
open Go.ChangeShapes Go.WideShapes Go.ChangeAt Go.RowKit

theorem freeI (r : ByteArray) (x : Int) (n : Nat) (e : x = n) (h : n < r.size) (w : World) :
    Calls Tryd.prog 42 #[.string r, .int .i64 x] w fun e w' => e = .returned (.bool (freeB (byteAt r n))) ∧ w = w' := by
  subst e
  have hat := run_at (P := Tryd.prog) 84 r .i64 n n rfl h Tryd.underlying84
  go_enter Tryd.func42, Tryd.ntmps42
  go_wp2
  go_ret
  exact ⟨bool_ret (c := freeB (byteAt r n)) rfl (by unfold freeB; simp [bne, Bool.beq_eq_decide_eq]), rfl⟩

theorem freeTo (r : ByteArray) (x : Int) (n : Nat) (b : Bool) (hb : Hid (freeB (byteAt r n) = b)) (e : x = n) (h : n < r.size) (w : World) :
    Calls Tryd.prog 42 #[.string r, .int .i64 x] w fun e w' => e = .returned (.bool b) ∧ w = w' := by
  rw [← hb.out]
  exact freeI r x n e h w

end Go.Proofs.YtlkhecdlmbhiaaaDoor

namespace Go.Proofs.YtlkhecdlmbhiaaaDoor
set_option maxRecDepth 4096
open Go.ChangeShapes Go.WideShapes Go.ChangeAt Go.RowKit

set_option maxHeartbeats 400000 in
theorem implFreeAt (W H : Int) (C : ByteArray) (c : Int) (hC : C.size ≤ 1048576) (w : World) :
    Calls Tryd.prog 86 #[.agg #[.int .i64 W, .int .i64 H, .string C], .int .i64 c] w (Made w (.bool (freeV W H C c))) := by
  have hB := Below.refl (w.alloc (.cells #[.int .i64 W, .int .i64 H, .string C] 25)).heap.size (w.alloc (.cells #[.int .i64 W, .int .i64 H, .string C] 25))
  by_cases h : cellOk W H C c = true
  · obtain ⟨hg, n, rfl, hn⟩ := cellOk_out h
    obtain ⟨r, m, hm, hby, HW⟩ := rowWith_at hC hg hn
    have HF : Hid (freeB (byteAt r m) = freeV W H C n) := Lib.hid (by rw [hby, freeV_at hg hn])
    have HWW := Lib.hid HW
    clear h hg hby HW
    go_enter Tryd.func86, Tryd.ntmps86
    go_wp2_with (first
      | (go_at_call 96; (with_reducible refine (HWW.out _).mono ?_); rintro e w1 ⟨rfl, hb⟩; replace hB := chain hB hb; clear hb)
      | (go_at_call 42; (with_reducible refine (freeI _ _ m rfl hm _).mono ?_); rintro e w2 ⟨rfl, rfl⟩))
    go_ret
    exact ⟨bool_ret HF.out rfl, box_below hB⟩
  · have HF : Hid (false = freeV W H C c) := Lib.hid (by unfold freeV; simp [h])
    go_enter Tryd.func86, Tryd.ntmps86
    go_wp2_with (go_at_call 96; (with_reducible refine (rowWith_no W H C c hC h _).mono ?_); rintro e w1 ⟨rfl, hb⟩; replace hB := chain hB hb; clear hb)
    go_ret
    exact ⟨bool_ret HF.out rfl, box_below hB⟩

end Go.Proofs.YtlkhecdlmbhiaaaDoor

namespace Go.Proofs.YtlkhecdlmbhiaaaDoor
set_option maxRecDepth 4096
open Go.ChangeShapes Go.WideShapes Go.ChangeAt Go.RowKit

theorem all_take {p : Int → Bool} {L : List Int} {k : Nat} {x : Int} (h : (L.take k).all p = true) (hx : L[k]? = some x) (hp : p x = true) : (L.take (k + 1)).all p = true := by
  obtain ⟨hi, rfl⟩ := List.getElem?_eq_some_iff.1 hx
  rw [List.take_succ_eq_append_getElem hi, List.all_append, h]
  simp [hp]
theorem all_not {p : Int → Bool} {L : List Int} {k : Nat} {x : Int} (hx : L[k]? = some x) (hp : p x = false) : L.all p = false := by
  rw [List.all_eq_false]
  exact ⟨x, List.mem_of_getElem? hx, by simp [hp]⟩

set_option maxHeartbeats 1000000 in
theorem allFreeI (W H : Int) (C : ByteArray) (L : List Int) (b : Bool) (v : Value) (hC : C.size ≤ 1048576) (hL : L.length ≤ 2000000) (HB : Hid (L.all (freeV W H C) = b)) (w : World) (hv : Ints w v L) :
    Calls Tryd.prog 60 #[.agg #[.int .i64 W, .int .i64 H, .string C], v] w (Made w (.bool b)) := by
  have hB := Below.refl (w.alloc (.cells #[.int .i64 W, .int .i64 H, .string C] 25)).heap.size (w.alloc (.cells #[.int .i64 W, .int .i64 H, .string C] 25))
  obtain ⟨av, cv, rfl, HV⟩ := ints_form hv
  have HVh := Lib.hid HV
  clear HV hv
  go_enter Tryd.func60, Tryd.ntmps60
  go_wp2_with fail
  go_loopw [9] (fun i wr => ∃ k : Nat, k ≤ L.length ∧ i = .int .i64 k ∧ Hid ((L.take k).all (freeV W H C) = true) ∧ Below (w.alloc (.cells #[.int .i64 W, .int .i64 H, .string C] 25)).heap.size (w.alloc (.cells #[.int .i64 W, .int .i64 H, .string C] 25)) wr) (fun i _ => L.length - (intOf i).toNat)
  case atStart => exact ⟨0, Nat.zero_le _, rfl, Lib.hid rfl, hB⟩
  case round =>
    clear hB
    obtain ⟨k, hk, rfl, HK, hB⟩ := hrel
    obtain ⟨c0, c1, c2⟩ := box_cells hB
    by_cases hlt : k < L.length
    · obtain ⟨x, hx⟩ : ∃ x, L[k]? = some x := ⟨_, List.getElem?_eq_getElem hlt⟩
      rcases HVh.out with h0 | ⟨g, rfl, hgl, hc⟩
      · omega
      · have d0 : wr.cell? ⟨g, k, none⟩ = some (.int .i64 x) := ((box_below hB).cell (p := ⟨g, k, none⟩) hgl).trans (hc k x hx)
        have HX := Lib.hid hx
        have hlt2 : (k : Int) < (L.length : Int) := by omega
        clear hx hc
        cases hf : freeV W H C x with
        | true =>
          have HF := Lib.hid hf
          clear hf
          go_wp2_with fail
          refine (implFreeAt W H C x hC _).mono ?_
          rintro e w5 ⟨rfl, hb⟩
          rw [HF.out]
          replace hB := chain hB hb
          clear d0 hb c0 c1 c2
          go_wp2_with fail
          go_roundw
          case rel => exact ⟨k + 1, by omega, by go_num, Lib.hid (all_take HK.out HX.out HF.out), hB⟩
          case measure => simp [intOf]; omega
        | false =>
          have HF := Lib.hid hf
          have e : b = false := by rw [← HB.out]; exact all_not HX.out hf
          subst e
          clear hf
          go_wp2_with fail
          refine (implFreeAt W H C x hC _).mono ?_
          rintro e w5 ⟨rfl, hb⟩
          rw [HF.out]
          replace hB := chain hB hb
          clear d0 hb c0 c1 c2
          go_wp2_with fail
          go_ret
          exact ⟨rfl, box_below hB⟩
    · obtain rfl : k = L.length := by omega
      have e : b = true := by rw [← HB.out, ← HK.out, List.take_length]
      subst e
      go_wp2_with fail
      go_ret
      exact ⟨rfl, box_below hB⟩

end Go.Proofs.YtlkhecdlmbhiaaaDoor

namespace Go.Proofs.YtlkhecdlmbhiaaaDoor
set_option maxRecDepth 4096
open Go.ChangeShapes Go.WideShapes Go.ChangeAt Go.RowKit

set_option maxHeartbeats 400000 in
theorem toInts (v : Value) (L : List Int) (w : World) (hv : ArgI w v L) (hL : L.length ≤ 2000000) :
    Calls Tryd.prog 18 #[v] w (IntsBack w L) := by
  obtain ⟨i0, hi, hz0, hz1, hz2⟩ := info_parts Tryd.info3
  obtain ⟨av, cv, rfl, HV⟩ := hv
  have HVh := Lib.hid HV
  clear HV
  go_enter Tryd.func18, Tryd.ntmps18
  go_wp2_with (at_make; refine wpList_make_full w rfl _ _ 26 rfl w.heap.size 3 i0 (.int .i64 0) 1 Tryd.underlying26 hi hz0 hz1 .i64 .i64 (L.length : Int) (L.length : Int) L.length rfl rfl rfl rfl (by rw [hz2]; omega) (by unfold maxLen; omega) (Nat.le_refl _) ?_; intro w1 hown0 hgrow0)
  generalize (madeCells (Value.int .i64 0).cells (L.length * 1)).toList = xs at hown0
  have hxl : xs.length = L.length := by have := hown0.1; omega
  have hb0 := (Below.refl w.heap.size w).grown hgrow0 (Nat.le_refl _) (by simp)
  have hgl := (hown0.lt w.heap.size rfl).2
  clear hgrow0
  go_loopw [4] (fun i wr => ∃ k : Nat, k ≤ L.length ∧ i = .int .i64 k ∧ wr.ownsRow w.heap.size 3 1 (.slice (some ⟨w.heap.size, 0, none⟩) L.length L.length) L.length ((L.take k).map (Value.int .i64) ++ xs.drop k) ∧ Below w.heap.size w wr) (fun i _ => L.length - (intOf i).toNat)
  case atStart => exact ⟨0, Nat.zero_le _, rfl, by simpa using hown0, hb0⟩
  case round =>
    clear hown0
    obtain ⟨k, hk, rfl, hown, hbe⟩ := hrel
    by_cases hlt : k < L.length
    · obtain ⟨x, hx⟩ : ∃ x, L[k]? = some x := ⟨_, List.getElem?_eq_getElem hlt⟩
      rcases HVh.out with h0 | ⟨b, rfl, hg, hc⟩
      · omega
      · have hbl : (b.add k).block = b.block := by unfold Addr.add; split <;> rfl
        have d0 : wr.cell? (b.add k) = some (.int .i64 x) := (hbe.cell (p := b.add k) (by rw [hbl]; exact hg)).trans (hc k x hx)
        have HST := Lib.hid (ints_set_at L k x xs hx (by omega))
        have hk2 : (k : Int) < (L.length : Int) := by omega
        obtain ⟨u, d1⟩ := own_cell hown hlt
        have d2 := hown.frozenAt k
        clear hx hc hbl
        go_wp2
        go_roundw
        case rel => exact ⟨k + 1, by omega, by go_num, by rw [← HST.out]; exact (hown.stored k _).1, hbe.setCell (Nat.le_refl _) _⟩
        case measure => simp [intOf]; omega
    · obtain rfl : k = L.length := by omega
      go_wp2
      go_ret
      exact ⟨_, rfl, by rw [List.take_length, List.drop_of_length_le (by omega), List.append_nil] at hown; exact hown, hbe⟩

end Go.Proofs.YtlkhecdlmbhiaaaDoor

