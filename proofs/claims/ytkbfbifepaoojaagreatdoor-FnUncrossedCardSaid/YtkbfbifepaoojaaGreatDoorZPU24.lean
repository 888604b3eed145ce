/-
  The iterator of the neighbours where there are none: it never calls yield. No law is proved here.
  What the package-level variable of the four steps holds, in whatever world in which it was laid as the program's text lays it. No law is proved here.
-/
import Derived.Test.YtkbfbifepaoojaaGreatDoorZPU23
import Derived.Test.YtkbfbifepaoojaaGreatDoorZPU00
import Derived.LaidMore
import Derived.Stop.Joined
import Derived.Carry
import Derived.ChangeVars
namespace Go.Proofs.YtkbfbifepaoojaaGreatDoor
set_option maxRecDepth 4096
open Go.ChangeShapes Go.WideShapes Go.ChangeAt Go.RowKit

theorem rowsR_no {W H : Int} {C : ByteArray} (h : gok W H C = false) : rowsR W H C = noRows := by
  unfold rowsR
  rw [if_neg (by simp [h])]
theorem rowsR_yes {a b : Nat} {C : ByteArray} (h : gok a b C = true) : rowsR a b C = rowsV C a b := by
  unfold rowsR
  rw [if_pos h]
  rfl

/-- The iterator's two captured variables. -/
def Caps (w : World) (G K : Nat) (W H : Int) (C : ByteArray) (c : Int) : Prop :=
  w.cell? ⟨G, 0, none⟩ = some (.int .i64 W) ∧ w.cell? ⟨G, 1, none⟩ = some (.int .i64 H) ∧ w.cell? ⟨G, 2, none⟩ = some (.string C) ∧ w.cell? ⟨K, 0, none⟩ = some (.int .i64 c) ∧ G < w.heap.size ∧ K < w.heap.size
theorem Caps.below {w w' : World} {G K n₀ : Nat} {W H : Int} {C : ByteArray} {c : Int} (h : Caps w G K W H C c) (hb : Below n₀ w w') (hG : G < n₀) (hK : K < n₀) : Caps w' G K W H C c :=
  ⟨(hb.cell (p := ⟨G, 0, none⟩) hG).trans h.1, (hb.cell (p := ⟨G, 1, none⟩) hG).trans h.2.1, (hb.cell (p := ⟨G, 2, none⟩) hG).trans h.2.2.1, (hb.cell (p := ⟨K, 0, none⟩) hK).trans h.2.2.2.1,
    Nat.lt_of_lt_of_le h.2.2.2.2.1 hb.size, Nat.lt_of_lt_of_le h.2.2.2.2.2 hb.size⟩
theorem Caps.later {w w' : World} {G K : Nat} {W H : Int} {C : ByteArray} {c : Int} (h : Caps w G K W H C c) (hb : Below w.heap.size w w') : Caps w' G K W H C c := h.below hb h.2.2.2.2.1 h.2.2.2.2.2

def Gone (w : World) (e : Ending) (w' : World) : Prop := (∃ v, e = .returned v) ∧ Below w.heap.size w w'

set_option maxHeartbeats 1000000 in
theorem nbr_bad (W H : Int) (C : ByteArray) (c : Int) (hC : C.size ≤ 1048576) (hg : gok W H C = false) (l G K : Nat) (w : World) (hcap : Caps w G K W H C c) :
    Calls Tryz.prog 120 #[.func (.yield l) #[] #[], .pointer (some ⟨G, 0, none⟩), .pointer (some ⟨K, 0, none⟩)] w (Gone w) := by
  have hB := Below.refl w.heap.size w
  have HC := Lib.hid hcap
  obtain ⟨c0, c1, c2, k0, _, _⟩ := hcap
  go_enter Tryz.func120, Tryz.ntmps120
  go_wp2_with (first
    | (go_at_call 118; (with_reducible refine (rowsOf W H C hC _).mono ?_); rintro e w1 ⟨rfl, hb⟩; replace hB := chain hB hb; clear hb)
    | (refine wpStoreRows W H C _ _ rfl rfl rfl rfl ?_; replace hB := chain hB (rows_in w1 (rowsR W H C)).1; obtain ⟨c0, c1, c2, k0, _, _⟩ := HC.out.later hB)
    | (go_at_call 121; (with_reducible refine (implSpotOf W H C c hC _).mono ?_); rintro e w1 ⟨rfl, hb⟩; replace hB := chain hB hb; clear hb))
  refine bodyPost_ret (results_none rfl _ _ _) rfl ?_
  exact ⟨⟨_, rfl⟩, hB⟩

/-- freeAt at the rows that rowsOf gave. -/
theorem stepFreeR (a b : Nat) (C : ByteArray) (x y : Int) (f : Bool) (hg : gok a b C = true) (HF : Hid (freeV a b C (cellAtV a b C x y) = f)) (w : World) :
    Calls Tryz.prog 122 #[.agg (rowsR a b C), .int .i64 x, .int .i64 y] w (Made w (.bool f)) := by
  rw [rowsR_yes hg]
  exact stepFree a b C x y f hg HF w

/-- A guarded load of the rows. -/
theorem wpLoadRowsG {ops : Array Oper} {rest : List Oper} {o : Oper} {a : Act} {w : World} {Q : Exit → Act → World → Prop} (W H : Int) (C : ByteArray) (x : Operand) (g : Nat) (hw : Region.wanted o (yielded ops a.tmps) = true) (ho : o.op = .load 172 x)
    (hx : a.eval x = .pointer (some ⟨g, 0, none⟩)) (hg : w.heap[g]? = some (.cells (rowsR W H C) 172 (0, 0)))
    (h : wpList Tryz.prog ops Q rest (a.put o.dst (.agg (rowsR W H C))) w) : wpList Tryz.prog ops Q (o :: rest) a w := by
  unfold wpList
  rw [if_pos hw]
  exact .inl (wp_load_row 172 x ho g hx 172 (rowsR W H C) (0, 0) _ hg Tryz.underlying172 rfl (by rw [rowsR_size]; exact rows_info) h)

theorem freeV_spot {a b : Nat} {C : ByteArray} {c : Int} (hg : gok a b C = true) (h : freeV a b C c = false) : freeV a b C (cellAtV a b C (spotX a b C c) (spotY a b C c)) = false := by
  by_cases hk : cellOk a b C c = true
  · obtain ⟨_, n, rfl, hn⟩ := cellOk_out hk
    obtain ⟨a', b', q, m, ha, hb, ha1, _, _, hq, hm, hd, he, hnn⟩ := spot_of hg hn
    obtain rfl : a = a' := by omega
    obtain rfl : b = b' := by omega
    have e : cellAtV a b C (spotX a b C n) (spotY a b C n) = (n : Int) := by
      unfold spotX spotY
      rw [if_pos hk, if_pos hk, hd, he, cellAtV_yes ⟨hg, ⟨by omega, by omega⟩, by omega, by omega⟩, ← Int.natCast_mul, ← Int.natCast_add, hnn]
    rw [e]
    exact h
  · unfold spotX spotY
    rw [if_neg hk, if_neg hk, cellAtV_no (fun h => by omega)]
    unfold freeV cellOk
    simp

set_option maxHeartbeats 1000000 in
theorem nbr_none (a b : Nat) (C : ByteArray) (c : Int) (hC : C.size ≤ 1048576) (hg : gok a b C = true) (hf : freeV a b C c = false) (l G K : Nat) (w : World) (hcap : Caps w G K a b C c) :
    Calls Tryz.prog 120 #[.func (.yield l) #[] #[], .pointer (some ⟨G, 0, none⟩), .pointer (some ⟨K, 0, none⟩)] w (Gone w) := by
  have hB := Below.refl w.heap.size w
  have HG := Lib.hid hg
  have HF := Lib.hid (freeV_spot hg hf)
  have HC := Lib.hid hcap
  obtain ⟨c0, c1, c2, k0, _, _⟩ := hcap
  clear hf
  go_enter Tryz.func120, Tryz.ntmps120
  go_wp2_with (first
    | (go_at_call 118; (with_reducible refine (rowsOf a b C hC _).mono ?_); rintro e w1 ⟨rfl, hb⟩; replace hB := chain hB hb; clear hb)
    | (refine wpStoreRows a b C _ _ rfl rfl rfl rfl ?_; have hR := (rows_in w1 (rowsR a b C)).2; replace hB := chain hB (rows_in w1 (rowsR a b C)).1; obtain ⟨c0, c1, c2, k0, _, _⟩ := HC.out.later hB)
    | (go_at_call 121; (with_reducible refine (implSpotOf a b C c hC _).mono ?_); rintro e w2 ⟨rfl, hb⟩; have hR2 := (hb.block _ (Array.getElem?_eq_some_iff.1 hR).1).trans hR; replace hB := chain hB hb; clear hb hR)
    | (refine wpLoadRowsG a b C _ w1.heap.size rfl rfl rfl hR2 ?_)
    | (go_at_call 122; (with_reducible refine (stepFreeR a b C _ _ false HG.out HF _).mono ?_); rintro e w3 ⟨rfl, hb⟩; replace hB := chain hB hb; clear hb))
  refine bodyPost_ret (results_none rfl _ _ _) rfl ?_
  exact ⟨⟨_, rfl⟩, hB⟩

end Go.Proofs.YtkbfbifepaoojaaGreatDoor

namespace Go.Proofs.YtkbfbifepaoojaaGreatDoor
set_option maxRecDepth 4096
open Go.ChangeShapes Go.WideShapes Go.ChangeAt Go.RowKit

abbrev sidesName : String := "loop.example/g00961/impl.sideSteps"
/-- Its cells: right and down, four times. -/
def sideCells : Array Value := #[.int .i64 0, .int .i64 (-1), .int .i64 (-1), .int .i64 0, .int .i64 1, .int .i64 0, .int .i64 0, .int .i64 1]
def SidesAt (w : World) : Prop := w.var? Tryz.prog sidesName = some sideCells

theorem gSides : Tryz.prog.globalNamed sidesName = some 1 := by kernel_rfl
theorem tSides : (Tryz.prog.globals[1]?).map (·.type) = some 181 := by kernel_rfl

theorem sides_heap {w : World} (h : SidesAt w) : ∃ t fr, w.heap[1]? = some (.cells sideCells t fr) := by
  unfold SidesAt at h
  simp only [World.var?, gSides, Option.bind_some] at h
  split at h
  · rename_i cs t fr hh
    exact ⟨t, fr, by rw [hh, Option.some.inj h]⟩
  · cases h
theorem SidesAt.below {w w' : World} (h : SidesAt w) (hb : Below w.heap.size w w') : SidesAt w' := by
  obtain ⟨t, fr, hh⟩ := sides_heap h
  have h2 := (hb.block _ (Array.getElem?_eq_some_iff.1 hh).1).trans hh
  unfold SidesAt
  simp only [World.var?, gSides, Option.bind_some, h2]
theorem sides_in {w : World} (h : SidesAt w) : 1 < w.heap.size := by
  obtain ⟨t, fr, hh⟩ := sides_heap h
  exact (Array.getElem?_eq_some_iff.1 hh).1

theorem sides_cells {w : World} (h : SidesAt w) : w.cell? ⟨1, 0, none⟩ = some (.int .i64 0) ∧ w.cell? ⟨1, 1, none⟩ = some (.int .i64 (-1)) ∧ w.cell? ⟨1, 2, none⟩ = some (.int .i64 (-1)) ∧ w.cell? ⟨1, 3, none⟩ = some (.int .i64 0) ∧ w.cell? ⟨1, 4, none⟩ = some (.int .i64 1) ∧ w.cell? ⟨1, 5, none⟩ = some (.int .i64 0) ∧ w.cell? ⟨1, 6, none⟩ = some (.int .i64 0) ∧ w.cell? ⟨1, 7, none⟩ = some (.int .i64 1) := by
  obtain ⟨t, fr, hh⟩ := sides_heap h
  refine ⟨?_, ?_, ?_, ?_, ?_, ?_, ?_, ?_⟩ <;> rw [cell_of_row _ _ _ _ _ _ hh] <;> rfl

section
variable {H : Type} {enc : TypeId × Value → H}
def sidesD : DataW H := .agg [.agg [.lit (.int .i64 0), .lit (.int .i64 (-1))], .agg [.lit (.int .i64 (-1)), .lit (.int .i64 0)], .agg [.lit (.int .i64 1), .lit (.int .i64 0)], .agg [.lit (.int .i64 0), .lit (.int .i64 1)]]

theorem step_trod (w : World) (sp : Nat → Bool) (held : Bool) (m : Nat) (x y : Int) (hx : (Lit.int .i64 x).wf = true) (hy : (Lit.int .i64 y).wf = true) :
    DataW.trod enc Tryz.prog w 0 sp held (m + 2) 180 [.int .i64 x, .int .i64 y] = some (.agg [.lit (.int .i64 x), .lit (.int .i64 y)], []) :=
  trod_struct2_mk (y0 := (.lit (.int .i64 x), [])) (y1 := (.lit (.int .i64 y), [])) Tryz.underlying180 (by kernel_rfl) (trod_int_mk m Tryz.underlying3 hx) (trod_int_mk m Tryz.underlying3 hy)

theorem sides_trod (w : World) (sp : Nat → Bool) (held : Bool) (m : Nat) :
    DataW.trod enc Tryz.prog w 0 sp held (m + 3) 181 sideCells.toList = some (sidesD, []) := by
  have c2 : Tryz.prog.cellsOf 180 = 2 := by kernel_rfl
  have c8 : Tryz.prog.cellsOf 181 = 8 := by kernel_rfl
  have s0 := step_trod (enc := enc) w sp held m 0 (-1) rfl rfl
  have s1 := step_trod (enc := enc) w sp held m (-1) 0 rfl rfl
  have s2 := step_trod (enc := enc) w sp held m 1 0 rfl rfl
  have s3 := step_trod (enc := enc) w sp held m 0 1 rfl rfl
  unfold DataW.trod
  rw [Tryz.underlying181]
  simp only [c2, c8]
  simp [sideCells, List.range_succ, s0, s1, s2, s3, sidesD]

theorem sides_trod_any {w : World} {sp : Nat → Bool} {held : Bool} {fuel : Nat} {x : DataW H × List MemPlace} (h : DataW.trod enc Tryz.prog w 0 sp held fuel 181 sideCells.toList = some x) : x = (sidesD, []) := by
  have c2 : Tryz.prog.cellsOf 180 = 2 := by kernel_rfl
  obtain ⟨xs, m, rfl, rfl, _, hlen, hel⟩ := DataW.trod_array Tryz.underlying181 h
  have h0 := hel 0 (by decide)
  match xs, hlen, h0 with
  | [x0, x1, x2, x3], _, h0 =>
    obtain ⟨y0, y1, n, _, _, hy, _⟩ := trod_struct2 Tryz.underlying180 h0
    cases m with
    | zero => rw [DataW.trod] at h0; cases h0
    | succ m =>
      cases m with
      | zero =>
        exfalso
        obtain ⟨ys, n2, hn2, _, _, hys, hf⟩ := DataW.trod_struct Tryz.underlying180 h0
        obtain rfl : n2 = 0 := by omega
        have hy0 := hf 0 _ rfl
        simp [DataW.trod] at hy0
        rw [hy0] at hys
        cases hys
      | succ m =>
        rw [sides_trod] at h
        exact (Option.some.inj h).symm

/-- The variable reads, in whatever world in which it holds its cells, as it read. -/
theorem sides_vars {w w' : World} {gs : List (DataW H)} {q : List MemPlace} (hs : SidesAt w) (hs' : SidesAt w') (hV : DataW.TrodVars enc Tryz.prog w (fun _ => true) [sidesName] gs q) :
    gs = [sidesD] ∧ ∀ sp, DataW.TrodVars enc Tryz.prog w' sp [sidesName] [sidesD] q := by
  obtain ⟨g, t, cs, fuel, d, p, rfl, h1, h2, h3, h4, rfl⟩ := trodVars_one hV
  obtain rfl := Option.some.inj (gSides.symm.trans h1)
  obtain rfl := Option.some.inj (tSides.symm.trans h2)
  obtain rfl := Option.some.inj (hs.symm.trans h3)
  have e := sides_trod_any h4
  obtain ⟨rfl, rfl⟩ := Prod.mk.inj e
  exact ⟨rfl, fun sp => trodVars_mk1 h1 h2 hs' (sides_trod w' sp true 0)⟩
end

theorem sides_of_laid {w : World} (h : laidMetH Tryz.prog [(sidesName, Rows.laid_loop_example_g00961_impl_sideSteps)] w) : SidesAt w := by
  rw [MakeChecks.laidMetH_plain _ _ _ (by kernel_rfl)] at h
  obtain ⟨ps, ⟨g0, t0, cs, f0, p0, q0, hg0, ht0, hv0, hd0, _, _⟩, _, _⟩ := h
  obtain rfl := Option.some.inj (gSides.symm.trans hg0)
  obtain rfl := Option.some.inj (tSides.symm.trans ht0)
  have c1 : Tryz.prog.cellsOf 3 = 1 := by kernel_rfl
  have c2 : Tryz.prog.cellsOf 180 = 2 := by kernel_rfl
  have c8 : Tryz.prog.cellsOf 181 = 8 := by kernel_rfl
  obtain ⟨xs, m, _, hx, hl, hlen, hel⟩ := DataW.trod_array Tryz.underlying181 hd0
  unfold SidesAt
  rw [hv0]
  obtain ⟨l⟩ := cs
  rw [c8] at hl
  rw [c2] at hel
  have one : ∀ (i : Nat) (p q : Int) (x : DataW Unit × List MemPlace), i < 4 → xs[i]? = some x → x.1 = .agg [.lit (.int .i64 p), .lit (.int .i64 q)] → l[i * 2]? = some (.int .i64 p) ∧ l[i * 2 + 1]? = some (.int .i64 q) := by
    intro i p q x hi hxi hxe
    have h1 := hel i hi
    rw [hxi] at h1
    obtain ⟨y0, y1, n, hxy, _, ha, hb⟩ := trod_struct2 Tryz.underlying180 h1
    obtain ⟨k0, e0, e1, _⟩ := DataW.trod_int Tryz.underlying3 ha
    obtain ⟨k1, e2, e3, _⟩ := DataW.trod_int Tryz.underlying3 hb
    rw [hxy, e1, e3] at hxe
    simp only [DataW.agg.injEq, List.cons.injEq, DataW.lit.injEq, Lit.int.injEq, true_and, and_true] at hxe
    obtain ⟨rfl, rfl⟩ := hxe
    have f0 := congrArg (·[0]?) e0
    have f1 := congrArg (·[0]?) e2
    rw [c1] at f0 f1
    simp [List.getElem?_drop] at f0 f1
    exact ⟨f0, f1⟩
  have hx1 := (congrArg Prod.fst hx).symm
  simp only at hx1
  match xs, hlen with
  | [x0, x1, x2, x3], _ =>
    simp only [Rows.laid_loop_example_g00961_impl_sideSteps, List.map_cons, List.map_nil, DataW.agg.injEq, List.cons.injEq, and_true] at hx1
    obtain ⟨h0, h1, h2, h3⟩ := hx1
    obtain ⟨a0, a1⟩ := one 0 _ _ x0 (by decide) rfl h0
    obtain ⟨a2, a3⟩ := one 1 _ _ x1 (by decide) rfl h1
    obtain ⟨a4, a5⟩ := one 2 _ _ x2 (by decide) rfl h2
    obtain ⟨a6, a7⟩ := one 3 _ _ x3 (by decide) rfl h3
    match l, hl with
    | [b0, b1, b2, b3, b4, b5, b6, b7], _ =>
      simp at a0 a1 a2 a3 a4 a5 a6 a7
      subst a0 a1 a2 a3 a4 a5 a6 a7
      rfl

theorem sides_met (os : Os) (args : Array Value) : laidMetH Tryz.prog [(sidesName, Rows.laid_loop_example_g00961_impl_sideSteps)] ((World.doorLaid Tryz.prog 400 os).forCall (fun _ _ => 0) ⟨#[], args, []⟩).memory :=
  laidMetH_of_parts3 (fuel := 8) (laidMet_of_run' 8 (by kernel_rfl) (by kernel_rfl)) (by kernel_rfl) (by kernel_rfl)

end Go.Proofs.YtkbfbifepaoojaaGreatDoor

