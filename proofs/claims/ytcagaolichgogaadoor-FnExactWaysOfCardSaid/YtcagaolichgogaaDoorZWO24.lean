/-
  CONTRACT of the program's trafficOf: where the units of a flow go from each node. No law is proved here.
-/
import Derived.Test.YtcagaolichgogaaDoorZWO07
import Derived.Test.YtcagaolichgogaaDoorZWO23
import Derived.Test.YtcagaolichgogaaDoorZWO13
import Derived.BigRegion
import Derived.Deep.DeepCutAuto
import Derived.Deep.CutRange
namespace Go.Proofs.YtcagaolichgogaaDoor
set_option maxRecDepth 4096
open Go.ChangeShapes Go.WideShapes Go.ChangeAt Go.RowKit

theorem goV_snoc {P : Fl} {k : Nat} {p : ArcD × Int} (h : P[k]? = some p) (v : Int) : goV (P.take (k + 1)) v = if p.1.f = v ∧ 0 < p.2 then p.1.t else goV (P.take k) v := by
  obtain ⟨hi, rfl⟩ := List.getElem?_eq_some_iff.1 h
  unfold goV
  rw [List.take_succ_eq_append_getElem hi, List.foldl_append]
  rfl
/-- Where the units go, for each node. -/
def goL (P : Fl) (n : Nat) : List Int := rowO (fun v => goV P (v : Int)) n
theorem goL_put {P : Fl} {k n : Nat} {x : ArcD} {y : Int} {a : Nat} (h : P[k]? = some (x, y)) (ha : x.f = (a : Int)) (h0 : 0 < y) : ((goL (P.take k) n).map (Value.int .i64)).set a (.int .i64 x.t) = (goL (P.take (k + 1)) n).map (Value.int .i64) := by
  unfold goL
  refine rowO_put ?_ fun j hj => ?_
  · show goV (P.take (k + 1)) (a : Int) = x.t
    rw [goV_snoc h, if_pos ⟨ha, h0⟩]
  · show goV (P.take (k + 1)) (j : Int) = goV (P.take k) (j : Int)
    rw [goV_snoc h, if_neg]
    rintro ⟨e, _⟩
    exact hj (by have : (x.f : Int) = (j : Int) := e; omega)
theorem goL_skip {P : Fl} {k n : Nat} {x : ArcD} {y : Int} (h : P[k]? = some (x, y)) (h0 : ¬ 0 < y) : goL (P.take (k + 1)) n = goL (P.take k) n := by
  unfold goL
  refine rowO_same fun j _ => ?_
  show goV (P.take (k + 1)) (j : Int) = goV (P.take k) (j : Int)
  rw [goV_snoc h, if_neg fun h2 => h0 h2.2]

/-- The units came back: the free cells, and where each unit goes, in memory of the call's own. -/
def UnitsBack (w : World) (L NX : List Int) (e : Ending) (w' : World) : Prop :=
  ∃ vc vn, e = .returned (.agg #[vc, vn]) ∧ w'.ownsRow w.heap.size 3 1 vc L.length (L.map (Value.int .i64)) ∧ w'.ownsRow w.heap.size 3 1 vn NX.length (NX.map (Value.int .i64)) ∧ Below w.heap.size w w'

/-- The three blocks that trafficOf begins with. -/
abbrev tW (w : World) (W H : Int) (C : ByteArray) (n : Nat) (va : Value) : World := ((w.alloc (.cells #[.int .i64 W, .int .i64 H, .string C] 29)).alloc (.cells #[.int .i64 (n : Int), va] 45)).alloc (.cells #[.slice none 0 0, .slice none 0 0] 55)
def TB (w : World) (W H : Int) (C : ByteArray) (n : Nat) (va : Value) (w' : World) : Prop := Below (tW w W H C n va).heap.size (tW w W H C n va) w'
section
variable {w w' w'' : World} {W H : Int} {C : ByteArray} {n : Nat} {va : Value}
theorem tW_size : (tW w W H C n va).heap.size = w.heap.size + 3 := by unfold tW; simp
theorem tb_blocks (h : TB w W H C n va w') : w'.heap[w.heap.size]? = some (.cells #[.int .i64 W, .int .i64 H, .string C] 29 (0, 0)) ∧ w'.heap[w.heap.size + 1]? = some (.cells #[.int .i64 (n : Int), va] 45 (0, 0)) ∧ w'.heap[w.heap.size + 2]? = some (.cells #[.slice none 0 0, .slice none 0 0] 55 (0, 0)) := by
  have hs : (tW w W H C n va).heap.size = w.heap.size + 3 := tW_size
  have e1 : ∀ i, i < w.heap.size + 2 → (tW w W H C n va).heap[i]? = ((w.alloc (.cells #[.int .i64 W, .int .i64 H, .string C] 29)).alloc (.cells #[.int .i64 (n : Int), va] 45)).heap[i]? := fun i hi => (World.grownBy_alloc _ _ none).block i (by simp; omega) (by simp)
  have e2 : ∀ i, i < w.heap.size + 1 → ((w.alloc (.cells #[.int .i64 W, .int .i64 H, .string C] 29)).alloc (.cells #[.int .i64 (n : Int), va] 45)).heap[i]? = (w.alloc (.cells #[.int .i64 W, .int .i64 H, .string C] 29)).heap[i]? := fun i hi => (World.grownBy_alloc _ _ none).block i (by simp; omega) (by simp)
  have n1 := heap_alloc_new w (.cells #[.int .i64 W, .int .i64 H, .string C] 29)
  have n2 := heap_alloc_new (w.alloc (.cells #[.int .i64 W, .int .i64 H, .string C] 29)) (.cells #[.int .i64 (n : Int), va] 45)
  have n3 := heap_alloc_new ((w.alloc (.cells #[.int .i64 W, .int .i64 H, .string C] 29)).alloc (.cells #[.int .i64 (n : Int), va] 45)) (.cells #[.slice none 0 0, .slice none 0 0] 55)
  rw [World.size_alloc] at n2
  rw [World.size_alloc, World.size_alloc] at n3
  exact ⟨(h.block _ (by omega)).trans ((e1 _ (by omega)).trans ((e2 _ (by omega)).trans n1)), (h.block _ (by omega)).trans ((e1 _ (by omega)).trans n2), (h.block _ (by omega)).trans n3⟩
theorem tb_below (h : TB w W H C n va w') : Below w.heap.size w w' := by
  have h1 : Below w.heap.size w (tW w W H C n va) := (((Below.refl _ _).alloc (Nat.le_refl _) _).alloc (by simp) _).alloc (by simp; omega) _
  exact h1.trans (h.mono (by rw [tW_size]; omega))
/-- What the region reads. -/
theorem tb_of (h : TB w W H C n va w') : w'.cell? ⟨w.heap.size, 0, none⟩ = some (.int .i64 W) ∧ w'.cell? ⟨w.heap.size, 1, none⟩ = some (.int .i64 H) ∧ w'.cell? ⟨w.heap.size, 2, none⟩ = some (.string C) ∧ w'.cell? ⟨w.heap.size + 1, 0, none⟩ = some (.int .i64 (n : Int)) ∧ TB w W H C n va w' := by
  obtain ⟨b1, b2, _⟩ := tb_blocks h
  refine ⟨?_, ?_, ?_, ?_, h⟩
  · rw [cell_of_row _ _ _ _ _ _ b1]; rfl
  · rw [cell_of_row _ _ _ _ _ _ b1]; rfl
  · rw [cell_of_row _ _ _ _ _ _ b1]; rfl
  · rw [cell_of_row _ _ _ _ _ _ b2]; rfl
theorem tb_call (h : TB w W H C n va w') (hb : Below w'.heap.size w' w'') : TB w W H C n va w'' := h.trans (hb.mono h.size)
theorem tb_alloc (h : TB w W H C n va w') (o : Obj) : TB w W H C n va (w'.alloc o) := tb_call h ((Below.refl _ _).alloc (Nat.le_refl _) o)
theorem tb_grown (h : TB w W H C n va w') (hg : w'.grownBy w'' none) : TB w W H C n va w'' := tb_call h ((Below.refl _ _).grown hg (Nat.le_refl _) (fun j e => by cases e))
theorem tb_drew (h : TB w W H C n va w') : TB w W H C n va w'.drew := Below.drew h
theorem tb_size (h : TB w W H C n va w') : w.heap.size + 3 ≤ w'.heap.size := by
  have := Below.size h
  rw [tW_size] at this
  exact this
theorem tb_set (h : TB w W H C n va w') {b i : Nat} {u : Value} (hb : w.heap.size + 3 ≤ b) : TB w W H C n va (w'.setCell ⟨b, i, none⟩ u) := Below.setCell h (by rw [tW_size]; exact hb) u
end
abbrev oTf : Obj := .cells #[.slice none 0 0, .slice none 0 0] 55
theorem rowTf {w' : World} {b : Nat} (h : w'.heap[b]? = some (.cells #[.slice none 0 0, .slice none 0 0] 55 (0, 0))) : w'.cell? ⟨b, 0, none⟩ = some (.slice none 0 0) ∧ w'.cell? ⟨b, 1, none⟩ = some (.slice none 0 0) ∧ w'.frozen? ⟨b, 0, none⟩ = false ∧ w'.frozen? ⟨b, 1, none⟩ = false := by
  refine ⟨?_, ?_, ?_, ?_⟩
  · rw [cell_of_row _ _ _ _ _ _ h]; rfl
  · rw [cell_of_row _ _ _ _ _ _ h]; rfl
  · simp [World.frozen?, h]
  · simp [World.frozen?, h]
theorem newTf (w' : World) : (w'.alloc oTf).heap[w'.heap.size]? = some (.cells #[.slice none 0 0, .slice none 0 0] 55 (0, 0)) := heap_alloc_new w' oTf
theorem keepTf {w' w'' : World} {b : Nat} (h : w'.heap[b]? = some (.cells #[.slice none 0 0, .slice none 0 0] 55 (0, 0))) (hb : Below w'.heap.size w' w'') : w''.heap[b]? = some (.cells #[.slice none 0 0, .slice none 0 0] 55 (0, 0)) := (hb.block b (Array.getElem?_eq_some_iff.1 h).1).trans h
theorem below_noneT {w' w'' : World} (h : Below w'.heap.size w' w'') : w'.grownBy w'' none := ⟨h.os, h.tape, h.output, h.size, fun i hi _ => h.block i hi⟩
theorem grownB {w' w'' : World} (h : w'.grownBy w'' none) : Below w'.heap.size w' w'' := (Below.refl _ _).grown h (Nat.le_refl _) (fun j e => by cases e)
theorem newWf (w : World) (W H : Int) (C : ByteArray) (n : Nat) (va : Value) : ((tW w W H C n va).alloc oTf).drew.heap[w.heap.size + 1 + 1 + 1]? = some (.cells #[.slice none 0 0, .slice none 0 0] 55 (0, 0)) := by
  have h := heap_alloc_new (tW w W H C n va) oTf
  rw [tW_size] at h
  exact h
/-- What lies in the units' box, while they are listed. -/
structure TR (w : World) (W H : Int) (C : ByteArray) (n : Nat) (va : Value) (L : List Int) (b h : Nat) (vc : Value) (NX : List Int) (w' : World) : Prop where
  tb : TB w W H C n va w'
  box : w'.heap[b]? = some (.cells #[vc, .slice (some ⟨h, 0, none⟩) n n] 55 (0, 0))
  lo : w.heap.size + 3 ≤ b
  oc : w'.ownsRow (w.heap.size + 3) 3 1 vc L.length (L.map (Value.int .i64))
  on : w'.ownsRow (w.heap.size + 3) 3 1 (.slice (some ⟨h, 0, none⟩) n n) n (NX.map (Value.int .i64))
  ap : ∀ j, vc.ownBlock = some j → j ≠ h
section
variable {w w' w'' : World} {W H : Int} {C : ByteArray} {n : Nat} {va : Value} {L : List Int} {b h : Nat} {vc : Value} {NX : List Int}
theorem mk_row {B h' : Nat} {wx : World} (ho : wx.ownsRow B 3 1 (.slice (some ⟨h', 0, none⟩) n n) n (madeCells (Value.int .i64 0).cells (n * 1)).toList) (hB : w.heap.size + 3 ≤ B) (hh : h' = h) : wx.ownsRow (w.heap.size + 3) 3 1 (.slice (some ⟨h, 0, none⟩) n n) n ((rowO (fun _ => 0) n).map (Value.int .i64)) := by
  have e : (madeCells (Value.int .i64 0).cells (n * 1)).toList = (rowO (fun _ => (0 : Int)) n).map (Value.int .i64) := by
    rw [Nat.mul_one, ← rowO_const0]
    exact toList_madeCells_one _ _
  rw [e, hh] at ho
  exact own_base ho hB
theorem own_any {B s k : Nat} {e : TypeId} {v : Value} {xs : List Value} (ho : w'.ownsRow B e s v k xs) (hb : Below w'.heap.size w' w'') : w''.ownsRow B e s v k xs := ho.kept (below_noneT hb) (by cases v.ownBlock <;> simp)
theorem trA (ht : TB w W H C n va w') (hc : w'.ownsRow (w.heap.size + 3) 3 1 vc L.length (L.map (Value.int .i64))) (hn : w'.ownsRow (w.heap.size + 3) 3 1 (.slice (some ⟨h, 0, none⟩) n n) n (NX.map (Value.int .i64))) (ap : ∀ j, vc.ownBlock = some j → j ≠ h) :
    TR w W H C n va L w'.heap.size h vc NX (w'.alloc (.cells #[vc, .slice (some ⟨h, 0, none⟩) n n] 55)) :=
  ⟨tb_alloc ht _, heap_alloc_new w' _, tb_size ht, hc.alloc _, hn.alloc _, ap⟩
theorem trS (ht : TB w W H C n va w') (hz : w'.heap[b]? = some (.cells #[.slice none 0 0, .slice none 0 0] 55 (0, 0))) (hb : w.heap.size + 3 ≤ b) (hc : w'.ownsRow (w.heap.size + 3) 3 1 vc L.length (L.map (Value.int .i64))) (hn : w'.ownsRow (w.heap.size + 3) 3 1 (.slice (some ⟨h, 0, none⟩) n n) n (NX.map (Value.int .i64))) (hap : ∀ j, vc.ownBlock = some j → j ≠ h) :
    TR w W H C n va L b h vc NX ((w'.setCell ⟨b, 0, none⟩ vc).setCell ⟨b, 1, none⟩ (.slice (some ⟨h, 0, none⟩) n n)) := by
  have hrow := heap_setCell_same _ b 1 _ _ (.slice (some ⟨h, 0, none⟩) n n) (heap_setCell_same w' b 0 _ _ vc hz)
  have k1 : w'.grownBy (w'.setCell ⟨b, 0, none⟩ vc) (some b) := ⟨rfl, rfl, rfl, by simp [World.setCell], fun i _ hne => heap_setCell_other _ _ _ _ (fun e => hne (by rw [e]))⟩
  have k2 : (w'.setCell ⟨b, 0, none⟩ vc).grownBy ((w'.setCell ⟨b, 0, none⟩ vc).setCell ⟨b, 1, none⟩ (.slice (some ⟨h, 0, none⟩) n n)) (some b) := ⟨rfl, rfl, rfl, by simp [World.setCell], fun i _ hne => heap_setCell_other _ _ _ _ (fun e => hne (by rw [e]))⟩
  have ap : ∀ {v : Value} {m : Nat} {xs : List Value}, w'.ownsRow (w.heap.size + 3) 3 1 v m xs → v.ownBlock = none ∨ v.ownBlock ≠ some b := fun {v m xs} ho => by
    rcases ho.2 with ⟨rfl, _⟩ | ⟨g, cap, cur, rfl, _, hg, _⟩
    · exact .inl rfl
    · refine .inr fun e => ?_
      have e2 : g = b := by simpa [Value.ownBlock] using e
      subst e2
      rw [hz] at hg
      injection hg with hg
      injection hg with _ h2
      exact absurd h2 (by decide)
  exact ⟨tb_set (tb_set ht hb) hb, hrow, hb, (hc.kept k1 (ap hc)).kept k2 (ap hc), (hn.kept k1 (ap hn)).kept k2 (ap hn), hap⟩
theorem TR.later (h2 : TR w W H C n va L b h vc NX w') (hb : Below w'.heap.size w' w'') : TR w W H C n va L b h vc NX w'' :=
  ⟨tb_call h2.tb hb, (hb.block b (Array.getElem?_eq_some_iff.1 h2.box).1).trans h2.box, h2.lo, own_any h2.oc hb, own_any h2.on hb, h2.ap⟩
theorem TR.cells (h2 : TR w W H C n va L b h vc NX w') : w'.cell? ⟨b, 0, none⟩ = some vc ∧ w'.cell? ⟨b, 1, none⟩ = some (.slice (some ⟨h, 0, none⟩) n n) := by
  refine ⟨?_, ?_⟩ <;> rw [cell_of_row _ _ _ _ _ _ h2.box] <;> rfl
theorem TR.back (h2 : TR w W H C n va L b h vc NX w') (u v : Value) : ((w'.setCell ⟨w.heap.size + 1 + 1, 0, none⟩ u).setCell ⟨w.heap.size + 1 + 1, 1, none⟩ v).ownsRow w.heap.size 3 1 vc L.length (L.map (Value.int .i64)) ∧ ((w'.setCell ⟨w.heap.size + 1 + 1, 0, none⟩ u).setCell ⟨w.heap.size + 1 + 1, 1, none⟩ v).ownsRow w.heap.size 3 1 (.slice (some ⟨h, 0, none⟩) n n) n (NX.map (Value.int .i64)) ∧
    Below w.heap.size w ((w'.setCell ⟨w.heap.size + 1 + 1, 0, none⟩ u).setCell ⟨w.heap.size + 1 + 1, 1, none⟩ v) := by
  have st : ∀ {v2 : Value} {k2 : Nat} {xs : List Value} {w3 : World} {i : Nat} {u : Value}, w3.ownsRow (w.heap.size + 3) 3 1 v2 k2 xs → (w3.setCell ⟨w.heap.size + 1 + 1, i, none⟩ u).ownsRow (w.heap.size + 3) 3 1 v2 k2 xs := fun {v2 k2 xs w3 i u} ho => by
    have hg : w3.grownBy (w3.setCell ⟨w.heap.size + 1 + 1, i, none⟩ u) (some (w.heap.size + 1 + 1)) := ⟨rfl, rfl, rfl, by simp [World.setCell], fun k _ hk => heap_setCell_other w3 ⟨_, i, none⟩ k u (fun e => hk (by simp [e]))⟩
    refine ho.kept hg ?_
    cases hv : v2.ownBlock with
    | none => exact .inl rfl
    | some j => exact .inr (fun e => by have := (ho.lt j hv).1; have := Option.some.inj e; omega)
  exact ⟨own_base (st (st h2.oc)) (by omega), own_base (st (st h2.on)) (by omega), ((tb_below h2.tb).setCell (by simp; omega) _).setCell (by simp; omega) _⟩
theorem TR.put (h2 : TR w W H C n va L b h vc NX w') (a : Nat) (z : Int) {NY : List Int} (hy : (NX.map (Value.int .i64)).set a (.int .i64 z) = NY.map (Value.int .i64)) : TR w W H C n va L b h vc NY (w'.setCell ⟨h, a, none⟩ (.int .i64 z)) := by
  obtain ⟨k1, k2⟩ := h2.on.stored a (.int .i64 z)
  rw [hy] at k1
  have hbh : b ≠ h := fun e => by
    subst e
    rcases h2.on.2 with ⟨e, _⟩ | ⟨g, cap, cur, e, _, hg, _⟩
    · cases e
    · injection e with e1 e2 e3
      injection e1 with e1
      injection e1 with e1
      subst e1
      rw [h2.box] at hg
      injection hg with hg
      injection hg with _ h3
      exact absurd h3 (by decide)
  refine ⟨tb_set h2.tb (h2.on.lt h rfl).1, (heap_setCell_other _ _ _ _ hbh).trans h2.box, h2.lo, h2.oc.kept k2 ?_, k1, h2.ap⟩
  cases hv : vc.ownBlock with
  | none => exact .inl rfl
  | some j => exact .inr fun e => h2.ap j hv (Option.some.inj e)
end

set_option maxHeartbeats 4000000 in
theorem implTraffic (W H : Int) (C : ByteArray) (L : List Int) (n : Nat) (A : List ArcD) (F : List Int) (va vf : Value) (hC : C.size ≤ 1048576) (HL : Hid (freeL W H C = L)) (hok : flowOkV (n : Int) A F = true) (w : World) (ha : Arcs w va A) (hf : Ints w vf F) :
    Calls Tryd.prog 27 #[.agg #[.int .i64 W, .int .i64 H, .string C], .agg #[.int .i64 (n : Int), va], vf] w (UnitsBack w L (goL (A.zip F) n)) := by
  obtain ⟨i0, hi, hz0, hz1, hz2⟩ := info_parts Tryd.info3
  have HAA := Lib.hid ha
  have HFF := Lib.hid hf
  obtain ⟨hn, hlen, hR, _⟩ := flowOk_out hok
  obtain ⟨hN, hA, hok2⟩ := netOk_out hn
  obtain ⟨av, cv, rfl, HA0⟩ := arcs_form ha
  obtain ⟨af, cf, rfl, HF0⟩ := ints_form hf
  have HA := Lib.hid HA0
  have HF := Lib.hid HF0
  have HOK := Lib.hid hok2
  have HLEN := Lib.hid hlen
  clear HA0 HF0 ha hf hok hR hn hok2 hlen
  have hmk0 : ∀ w' : World, ∃ w'' : World, (Instr.makeSlice 24 (.int .i64 (n : Int)) (.int .i64 (n : Int))).run Tryd.prog w' = .ok (.slice (some ⟨w'.heap.size, 0, none⟩) n n) w'' ∧ w''.ownsRow w'.heap.size 3 1 (.slice (some ⟨w'.heap.size, 0, none⟩) n n) n (madeCells (Value.int .i64 0).cells (n * 1)).toList ∧ w'.grownBy w'' none := fun w' =>
    run_make_full (P := Tryd.prog) w' w'.heap.size 24 3 i0 (.int .i64 0) 1 Tryd.underlying24 hi hz0 hz1 .i64 .i64 n (by rw [hz2]; omega) (by unfold maxLen; omega) (Nat.le_refl _)
  obtain ⟨mk, hmk⟩ := Classical.axiomOfChoice hmk0
  have hrun := fun w' => (hmk w').1
  have HMK := Lib.hid fun w' => (hmk w').2
  clear hmk hmk0
  go_enter Tryd.func27, Tryd.ntmps27
  go_upto_region 1 with fail
  have hT0 : TB w W H C n (.slice av A.length cv) (tW w W H C n (.slice av A.length cv)).drew := (Below.refl _ _).drew
  have hT1 : TB w W H C n (.slice av A.length cv) (tW w W H C n (.slice av A.length cv)) := Below.refl _ _
  have hTA : TB w W H C n (.slice av A.length cv) ((tW w W H C n (.slice av A.length cv)).alloc oTf).drew := tb_drew (tb_alloc hT1 oTf)
  go_cut [7] from 10 to 15 (fun x7 wx => ∃ b h vc, x7 = .pointer (some ⟨b, 0, none⟩) ∧ TR w W H C n (.slice av A.length cv) L b h vc (rowO (fun _ => 0) n) wx)
  case first =>
    go_region_held3 (fun w' => w'.cell? ⟨w.heap.size, 0, none⟩ = some (.int .i64 W) ∧ w'.cell? ⟨w.heap.size, 1, none⟩ = some (.int .i64 H) ∧ w'.cell? ⟨w.heap.size, 2, none⟩ = some (.string C) ∧ w'.cell? ⟨w.heap.size + 1, 0, none⟩ = some (.int .i64 (n : Int)) ∧ TB w W H C n (.slice av A.length cv) w')
      (first | exact hS | exact tb_of hT0 | (go_split_ands; refine tb_of ?_; (repeat (first | assumption | exact hT1 | with_reducible refine tb_drew ?_ | with_reducible refine tb_alloc ?_ _ | refine tb_grown ?_ (HMK.out _).2 | with_reducible refine tb_set ?_ ?_ | omega | exact tb_size (by assumption) | exact tb_size (tb_grown (by assumption) (HMK.out _).2) | exact tb_size (tb_grown hT0 (HMK.out _).2))); done) | go_keep)
      (first
        | (go_at_call 52; (try go_split_ands); have hT : TB w W H C n (.slice av A.length cv) _ := (by assumption); (with_reducible refine (implFreeCells W H C L hC HL (mk ((tW w W H C n (.slice av A.length cv)).alloc oTf).drew)).mono ?_); rintro e w5 ⟨vc, rfl, hown5, hb5⟩; have hS := tb_of (tb_call hT hb5); have HO5 := Lib.hid hown5; have HB5 := Lib.hid hb5; obtain ⟨z0, z1, f0, f1⟩ := rowTf (keepTf (keepTf (newWf w W H C n (.slice av A.length cv)) (grownB (HMK.out _).2)) hb5); obtain ⟨ac, ccc, rfl⟩ := own_form hown5; clear hown5 hb5)
        | (go_at_call 52; (try go_split_ands); have hT : TB w W H C n (.slice av A.length cv) _ := (by assumption); (with_reducible refine (implFreeCells W H C L hC HL ((mk (tW w W H C n (.slice av A.length cv)).drew).alloc oTf)).mono ?_); rintro e w5 ⟨vc, rfl, hown5, hb5⟩; have hS := tb_of (tb_call hT hb5); have HO5 := Lib.hid hown5; have HB5 := Lib.hid hb5; obtain ⟨z0, z1, f0, f1⟩ := rowTf (keepTf (newTf (mk (tW w W H C n (.slice av A.length cv)).drew)) hb5); obtain ⟨ac, ccc, rfl⟩ := own_form hown5; clear hown5 hb5)
        | (go_at_call 52; (try go_split_ands); have hT : TB w W H C n (.slice av A.length cv) _ := (by assumption); (with_reducible refine (implFreeCells W H C L hC HL ((tW w W H C n (.slice av A.length cv)).alloc oTf).drew).mono ?_); rintro e w5 ⟨vc, rfl, hown5, hb5⟩; have hS := tb_of (tb_call hT hb5); have HO5 := Lib.hid hown5; have HB5 := Lib.hid hb5; obtain ⟨z0, z1, f0, f1⟩ := rowTf (keepTf (keepTf (newWf w W H C n (.slice av A.length cv)) hb5) (grownB (HMK.out w5).2)); obtain ⟨ac, ccc, rfl⟩ := own_form hown5; clear hown5 hb5)
        | (go_at_call 52; (try go_split_ands); have hT : TB w W H C n (.slice av A.length cv) _ := (by assumption); (with_reducible refine (implFreeCells W H C L hC HL (mk (tW w W H C n (.slice av A.length cv)).drew)).mono ?_); rintro e w5 ⟨vc, rfl, hown5, hb5⟩; have hS := tb_of (tb_call hT hb5); have HO5 := Lib.hid hown5; have HB5 := Lib.hid hb5;  obtain ⟨ac, ccc, rfl⟩ := own_form hown5; clear hown5 hb5)
        | (go_at_call 52; (try go_split_ands); have hT : TB w W H C n (.slice av A.length cv) _ := (by assumption); (with_reducible refine (implFreeCells W H C L hC HL (tW w W H C n (.slice av A.length cv)).drew).mono ?_); rintro e w5 ⟨vc, rfl, hown5, hb5⟩; have hS := tb_of (tb_call hT hb5); have HO5 := Lib.hid hown5; have HB5 := Lib.hid hb5; obtain ⟨z0, z1, f0, f1⟩ := rowTf (keepTf (newTf w5) (grownB (HMK.out (w5.alloc oTf)).2)); obtain ⟨ac, ccc, rfl⟩ := own_form hown5; clear hown5 hb5))
    all_goals
      go_wp2_with fail
      go_meet
      first
        | exact ⟨_, _, _, rfl, trA (tb_grown (tb_call hT0 HB5.out) (HMK.out w5).2) (own_any (own_base HO5.out (tb_size hT0)) (grownB (HMK.out w5).2)) (mk_row (HMK.out w5).1 (tb_size (tb_call hT0 HB5.out)) (by first | rfl | simp)) (fun j hj => by have q := (HO5.out.lt j hj).2; omega)⟩
        | exact ⟨_, _, _, rfl, trA (tb_call (tb_grown hT0 (HMK.out _).2) HB5.out) (own_base HO5.out (tb_size (tb_grown hT0 (HMK.out _).2))) (own_any (mk_row (HMK.out _).1 (tb_size hT0) (by first | rfl | simp)) HB5.out) (fun j hj => by have q := (HO5.out.lt j hj).1; have r : (tW w W H C n (.slice av A.length cv)).drew.heap.size < (mk (tW w W H C n (.slice av A.length cv)).drew).heap.size := ((HMK.out (tW w W H C n (.slice av A.length cv)).drew).1.lt _ rfl).2; have s : (tW w W H C n (.slice av A.length cv)).drew.heap.size = w.heap.size + 3 := tW_size; omega)⟩
        | exact ⟨_, _, _, rfl, trS (tb_grown (tb_alloc (tb_call hT0 HB5.out) oTf) (HMK.out (w5.alloc oTf)).2) (keepTf (newTf w5) (grownB (HMK.out (w5.alloc oTf)).2)) (tb_size (tb_call hT0 HB5.out)) (own_any (own_any (own_base HO5.out (tb_size hT0)) ((Below.refl _ _).alloc (Nat.le_refl _) oTf)) (grownB (HMK.out (w5.alloc oTf)).2)) (mk_row (HMK.out (w5.alloc oTf)).1 (tb_size (tb_alloc (tb_call hT0 HB5.out) oTf)) (by first | rfl | simp)) (fun j hj => by have q := (HO5.out.lt j hj).2; omega)⟩
        | exact ⟨_, _, _, rfl, trS (tb_call (tb_alloc (tb_grown hT0 (HMK.out _).2) oTf) HB5.out) (keepTf (newTf _) HB5.out) (tb_size (tb_grown hT0 (HMK.out _).2)) (own_base HO5.out (tb_size (tb_alloc (tb_grown hT0 (HMK.out _).2) oTf))) (own_any (own_any (mk_row (HMK.out _).1 (tb_size hT0) (by first | rfl | simp)) ((Below.refl _ _).alloc (Nat.le_refl _) oTf)) HB5.out) (fun j hj => by have q := (HO5.out.lt j hj).1; have r : (tW w W H C n (.slice av A.length cv)).drew.heap.size < (mk (tW w W H C n (.slice av A.length cv)).drew).heap.size := ((HMK.out (tW w W H C n (.slice av A.length cv)).drew).1.lt _ rfl).2; have s : (tW w W H C n (.slice av A.length cv)).drew.heap.size = w.heap.size + 3 := tW_size; rw [World.size_alloc] at q; omega)⟩
        | exact ⟨_, _, _, rfl, trS (tb_grown (tb_call hTA HB5.out) (HMK.out w5).2) (keepTf (keepTf (newWf w W H C n _) HB5.out) (grownB (HMK.out w5).2)) (Nat.le_refl _) (own_any (own_base HO5.out (tb_size hTA)) (grownB (HMK.out w5).2)) (mk_row (HMK.out w5).1 (tb_size (tb_call hTA HB5.out)) (by first | rfl | simp)) (fun j hj => by have q := (HO5.out.lt j hj).2; omega)⟩
        | exact ⟨_, _, _, rfl, trS (tb_call (tb_grown hTA (HMK.out _).2) HB5.out) (keepTf (keepTf (newWf w W H C n _) (grownB (HMK.out _).2)) HB5.out) (Nat.le_refl _) (own_base HO5.out (tb_size (tb_grown hTA (HMK.out _).2))) (own_any (mk_row (HMK.out _).1 (tb_size hTA) (by first | rfl | simp)) HB5.out) (fun j hj => by have q := (HO5.out.lt j hj).1; have r : ((tW w W H C n (.slice av A.length cv)).alloc oTf).drew.heap.size < (mk ((tW w W H C n (.slice av A.length cv)).alloc oTf).drew).heap.size := ((HMK.out ((tW w W H C n (.slice av A.length cv)).alloc oTf).drew).1.lt _ rfl).2; have s : ((tW w W H C n (.slice av A.length cv)).alloc oTf).drew.heap.size = w.heap.size + 3 + 1 := (World.size_alloc _ _).trans (by rw [tW_size]); omega)⟩
  case rest =>
    clear hT0 hT1 hTA hrun HMK
    obtain ⟨b, h, vc, rfl, hTR⟩ := hcut
    have hg0 : goL ((A.zip F).take 0) n = rowO (fun _ => 0) n := rfl
    rw [← hg0] at hTR
    have HT := Lib.hid hTR
    obtain ⟨_, tb1, _⟩ := tb_blocks hTR.tb
    have d0 : wc.cell? ⟨w.heap.size + 1, 1, none⟩ = some (.slice av A.length cv) := by rw [cell_of_row _ _ _ _ _ _ tb1]; rfl
    clear hg0 hTR tb1
    go_wp2_with fail
    go_loopw [19] (fun i wr => ∃ k : Nat, k ≤ A.length ∧ i = .int .i64 k ∧ TR w W H C n (.slice av A.length cv) L b h vc (goL ((A.zip F).take k) n) wr) (fun i _ => A.length - (intOf i).toNat)
    case atStart => exact ⟨0, Nat.zero_le _, rfl, HT.out⟩
    case round =>
      clear HT
      obtain ⟨k, hk, rfl, hTR⟩ := hrel
      have HT := Lib.hid hTR
      by_cases hlt : k < A.length
      · have hlt2 : (k : Int) < (A.length : Int) := by omega
        obtain ⟨x, hx⟩ : ∃ x, A[k]? = some x := ⟨_, List.getElem?_eq_getElem hlt⟩
        have hltF : k < F.length := by have := HLEN.out; omega
        have hltF2 : (k : Int) < (F.length : Int) := by omega
        obtain ⟨y, hy⟩ : ∃ y, F[k]? = some y := ⟨_, List.getElem?_eq_getElem hltF⟩
        have hxo := arcOk_out (HOK.out x (List.mem_of_getElem? hx))
        obtain ⟨a, haf⟩ : ∃ a : Nat, x.f = (a : Int) := ⟨x.f.toNat, by omega⟩
        have han : a < n := by omega
        have han2 : (a : Int) < (n : Int) := by omega
        rcases HA.out with h0 | ⟨ga, rfl, hga, hca⟩
        · omega
        · rcases HF.out with h0 | ⟨gf, rfl, hgf, hcf⟩
          · omega
          · have hbw := tb_below hTR.tb
            obtain ⟨p0, p1, p2, p3⟩ := hca k x hx
            rw [haf] at p0
            have HAF := Lib.hid haf
            have e0 := (hbw.cell (p := ⟨ga, _, none⟩) hga).trans p0
            have e1 := (hbw.cell (p := ⟨ga, _, none⟩) hga).trans p1
            have e2 := (hbw.cell (p := ⟨ga, _, none⟩) hga).trans p2
            have e3 := (hbw.cell (p := ⟨ga, _, none⟩) hga).trans p3
            have ef := (hbw.cell (p := ⟨gf, _, none⟩) hgf).trans (hcf k y hy)
            have hP := zip_at hx hy
            have hk4 : (k : Int) * 4 = ((k * 4 : Nat) : Int) := by omega
            have hb6 := (Below.refl wr.heap.size wr).alloc (Nat.le_refl _) (.cells #[.int .i64 (a : Int), .int .i64 x.t, .int .i64 x.r, .int .i64 x.c] 69)
            have HT6 := Lib.hid (hTR.later hb6)
            have hn6 := heap_alloc_new wr (.cells #[.int .i64 (a : Int), .int .i64 x.t, .int .i64 x.r, .int .i64 x.c] 69)
            have n0 : (wr.alloc (.cells #[.int .i64 (a : Int), .int .i64 x.t, .int .i64 x.r, .int .i64 x.c] 69)).cell? ⟨wr.heap.size, 0, none⟩ = some (.int .i64 (a : Int)) := by rw [cell_of_row _ _ _ _ _ _ hn6]; rfl
            have n1 : (wr.alloc (.cells #[.int .i64 (a : Int), .int .i64 x.t, .int .i64 x.r, .int .i64 x.c] 69)).cell? ⟨wr.heap.size, 1, none⟩ = some (.int .i64 x.t) := by rw [cell_of_row _ _ _ _ _ _ hn6]; rfl
            have ef6 := (hb6.cell (p := ⟨gf, k, none⟩) (Nat.lt_of_lt_of_le hgf hbw.size)).trans ef
            have HN0 := Lib.hid n0
            have HN1 := Lib.hid n1
            have HEF := Lib.hid ef6
            by_cases h0 : 0 < y
            · have HPUT := Lib.hid (goL_put (n := n) hP HAF.out h0)
              clear haf hxo p0 p1 p2 p3 hca hcf hx hy hP hbw hTR hb6 hn6 n0 n1 ef6 ef
              go_upto_region 5 with fail
              generalize wr.alloc (.cells #[.int .i64 (a : Int), .int .i64 x.t, .int .i64 x.r, .int .i64 x.c] 69) = w6 at HT6 HN0 HN1 HEF ⊢
              obtain ⟨t0, t1⟩ := HT6.out.cells
              have q0 := HN0.out
              have q1 := HN1.out
              have qf := HEF.out
              obtain ⟨u0, f0⟩ := own_cell HT6.out.on han
              have z0 := HT6.out.on.frozenAt a
              have HT7 := Lib.hid (HT6.out.put a x.t HPUT.out)
              go_wp2_with fail
              go_roundw
              case rel => exact ⟨k + 1, by omega, by go_num, HT7.out⟩
              case measure => simp [intOf]; omega
            · have HSK := Lib.hid (goL_skip (n := n) hP h0)
              clear haf hxo p0 p1 p2 p3 hca hcf hx hy hP hbw hTR hb6 hn6 n0 n1 ef6 ef
              go_upto_region 5 with fail
              generalize wr.alloc (.cells #[.int .i64 (a : Int), .int .i64 x.t, .int .i64 x.r, .int .i64 x.c] 69) = w6 at HT6 HN0 HN1 HEF ⊢
              have qf := HEF.out
              go_wp2_with fail
              go_roundw
              case rel => exact ⟨k + 1, by omega, by go_num, by rw [HSK.out]; exact HT6.out⟩
              case measure => simp [intOf]; omega
      · obtain rfl : k = A.length := by omega
        have ht : (A.zip F).take A.length = A.zip F := List.take_of_length_le (by have := HLEN.out; simp; omega)
        rw [ht] at HT
        obtain ⟨t0, t1⟩ := hTR.cells
        obtain ⟨_, _, tb2⟩ := tb_blocks hTR.tb
        obtain ⟨r0, r1, r2, r3⟩ := rowTf tb2
        obtain ⟨av', cv', rfl⟩ := own_form HT.out.oc
        clear hTR tb2 ht
        go_wp2_with fail
        obtain ⟨o1, o2, hbz⟩ := HT.out.back (.slice av' L.length cv') (.slice (some ⟨h, 0, none⟩) n n)
        have hgl : (goL (A.zip F) n).length = n := rowO_len _ _
        refine bodyPost_ret (v := .agg #[.slice av' L.length cv', .slice (some ⟨h, 0, none⟩) n n]) (by simp [results, Tryd.results27, go_sem, r0, r1]) rfl ⟨_, _, rfl, o1, by rw [hgl]; exact o2, hbz⟩

end Go.Proofs.YtcagaolichgogaaDoor

