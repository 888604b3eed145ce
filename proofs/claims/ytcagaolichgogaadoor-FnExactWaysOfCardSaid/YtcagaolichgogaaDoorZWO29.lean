/-
  What the package-level variable of the four steps holds, in whatever world in which it was laid as the program's text lays it. No law is proved here.
-/
import Derived.Test.YtcagaolichgogaaDoorZWO00
import Derived.LaidMore
import Derived.Stop.Joined
import Derived.Carry
import Derived.ChangeVars
namespace Go.Proofs.YtcagaolichgogaaDoor
set_option maxRecDepth 4096
open Go.ChangeShapes Go.WideShapes Go.ChangeAt Go.RowKit

abbrev sidesName : String := "loop.example/g00961/impl.sideSteps"
/-- Its cells: right and down, four times. -/
def sideCells : Array Value := #[.int .i64 0, .int .i64 (-1), .int .i64 (-1), .int .i64 0, .int .i64 1, .int .i64 0, .int .i64 0, .int .i64 1]
def SidesAt (w : World) : Prop := w.var? Tryd.prog sidesName = some sideCells

theorem gSides : Tryd.prog.globalNamed sidesName = some 0 := by kernel_rfl
theorem tSides : (Tryd.prog.globals[0]?).map (·.type) = some 120 := by kernel_rfl

theorem sides_heap {w : World} (h : SidesAt w) : ∃ t fr, w.heap[0]? = some (.cells sideCells t fr) := by
  unfold SidesAt at h
  simp only [World.var?, gSides, Option.bind_some] at h
  split at h
  · rename_i cs t fr hh
    exact ⟨t, fr, by rw [hh, Option.some.inj h]⟩
  · cases h
theorem SidesAt.below {w w' : World} (h : SidesAt w) (hb : Below w.heap.size w w') : SidesAt w' := by
  obtain ⟨t, fr, hh⟩ := sides_heap h
  have h2 := (hb.block _ (Array.getElem?_eq_some_iff.1 hh).1).trans hh
  unfold SidesAt
  simp only [World.var?, gSides, Option.bind_some, h2]
theorem sides_in {w : World} (h : SidesAt w) : 0 < w.heap.size := by
  obtain ⟨t, fr, hh⟩ := sides_heap h
  exact (Array.getElem?_eq_some_iff.1 hh).1

theorem sides_cells {w : World} (h : SidesAt w) : w.cell? ⟨0, 0, none⟩ = some (.int .i64 0) ∧ w.cell? ⟨0, 1, none⟩ = some (.int .i64 (-1)) ∧ w.cell? ⟨0, 2, none⟩ = some (.int .i64 (-1)) ∧ w.cell? ⟨0, 3, none⟩ = some (.int .i64 0) ∧ w.cell? ⟨0, 4, none⟩ = some (.int .i64 1) ∧ w.cell? ⟨0, 5, none⟩ = some (.int .i64 0) ∧ w.cell? ⟨0, 6, none⟩ = some (.int .i64 0) ∧ w.cell? ⟨0, 7, none⟩ = some (.int .i64 1) := by
  obtain ⟨t, fr, hh⟩ := sides_heap h
  refine ⟨?_, ?_, ?_, ?_, ?_, ?_, ?_, ?_⟩ <;> rw [cell_of_row _ _ _ _ _ _ hh] <;> rfl

section
variable {H : Type} {enc : TypeId × Value → H}
def sidesD : DataW H := .agg [.agg [.lit (.int .i64 0), .lit (.int .i64 (-1))], .agg [.lit (.int .i64 (-1)), .lit (.int .i64 0)], .agg [.lit (.int .i64 1), .lit (.int .i64 0)], .agg [.lit (.int .i64 0), .lit (.int .i64 1)]]

theorem step_trod (w : World) (sp : Nat → Bool) (held : Bool) (m : Nat) (x y : Int) (hx : (Lit.int .i64 x).wf = true) (hy : (Lit.int .i64 y).wf = true) :
    DataW.trod enc Tryd.prog w 0 sp held (m + 2) 119 [.int .i64 x, .int .i64 y] = some (.agg [.lit (.int .i64 x), .lit (.int .i64 y)], []) :=
  trod_struct2_mk (y0 := (.lit (.int .i64 x), [])) (y1 := (.lit (.int .i64 y), [])) Tryd.underlying119 (by kernel_rfl) (trod_int_mk m Tryd.underlying3 hx) (trod_int_mk m Tryd.underlying3 hy)

theorem sides_trod (w : World) (sp : Nat → Bool) (held : Bool) (m : Nat) :
    DataW.trod enc Tryd.prog w 0 sp held (m + 3) 120 sideCells.toList = some (sidesD, []) := by
  have c2 : Tryd.prog.cellsOf 119 = 2 := by kernel_rfl
  have c8 : Tryd.prog.cellsOf 120 = 8 := by kernel_rfl
  have s0 := step_trod (enc := enc) w sp held m 0 (-1) rfl rfl
  have s1 := step_trod (enc := enc) w sp held m (-1) 0 rfl rfl
  have s2 := step_trod (enc := enc) w sp held m 1 0 rfl rfl
  have s3 := step_trod (enc := enc) w sp held m 0 1 rfl rfl
  unfold DataW.trod
  rw [Tryd.underlying120]
  simp only [c2, c8]
  simp [sideCells, List.range_succ, s0, s1, s2, s3, sidesD]

theorem sides_trod_any {w : World} {sp : Nat → Bool} {held : Bool} {fuel : Nat} {x : DataW H × List MemPlace} (h : DataW.trod enc Tryd.prog w 0 sp held fuel 120 sideCells.toList = some x) : x = (sidesD, []) := by
  have c2 : Tryd.prog.cellsOf 119 = 2 := by kernel_rfl
  obtain ⟨xs, m, rfl, rfl, _, hlen, hel⟩ := DataW.trod_array Tryd.underlying120 h
  have h0 := hel 0 (by decide)
  match xs, hlen, h0 with
  | [x0, x1, x2, x3], _, h0 =>
    obtain ⟨y0, y1, n, _, _, hy, _⟩ := trod_struct2 Tryd.underlying119 h0
    cases m with
    | zero => rw [DataW.trod] at h0; cases h0
    | succ m =>
      cases m with
      | zero =>
        exfalso
        obtain ⟨ys, n2, hn2, _, _, hys, hf⟩ := DataW.trod_struct Tryd.underlying119 h0
        obtain rfl : n2 = 0 := by omega
        have hy0 := hf 0 _ rfl
        simp [DataW.trod] at hy0
        rw [hy0] at hys
        cases hys
      | succ m =>
        rw [sides_trod] at h
        exact (Option.some.inj h).symm

/-- The variable reads, in whatever world in which it holds its cells, as it read. -/
theorem sides_vars {w w' : World} {gs : List (DataW H)} {q : List MemPlace} (hs : SidesAt w) (hs' : SidesAt w') (hV : DataW.TrodVars enc Tryd.prog w (fun _ => true) [sidesName] gs q) :
    gs = [sidesD] ∧ ∀ sp, DataW.TrodVars enc Tryd.prog w' sp [sidesName] [sidesD] q := by
  obtain ⟨g, t, cs, fuel, d, p, rfl, h1, h2, h3, h4, rfl⟩ := trodVars_one hV
  obtain rfl := Option.some.inj (gSides.symm.trans h1)
  obtain rfl := Option.some.inj (tSides.symm.trans h2)
  obtain rfl := Option.some.inj (hs.symm.trans h3)
  have e := sides_trod_any h4
  obtain ⟨rfl, rfl⟩ := Prod.mk.inj e
  exact ⟨rfl, fun sp => trodVars_mk1 h1 h2 hs' (sides_trod w' sp true 0)⟩
end

theorem sides_of_laid {w : World} (h : laidMetH Tryd.prog [(sidesName, Rows.laid_loop_example_g00961_impl_sideSteps)] w) : SidesAt w := by
  rw [MakeChecks.laidMetH_plain _ _ _ (by kernel_rfl)] at h
  obtain ⟨ps, ⟨g0, t0, cs, f0, p0, q0, hg0, ht0, hv0, hd0, _, _⟩, _, _⟩ := h
  obtain rfl := Option.some.inj (gSides.symm.trans hg0)
  obtain rfl := Option.some.inj (tSides.symm.trans ht0)
  have c1 : Tryd.prog.cellsOf 3 = 1 := by kernel_rfl
  have c2 : Tryd.prog.cellsOf 119 = 2 := by kernel_rfl
  have c8 : Tryd.prog.cellsOf 120 = 8 := by kernel_rfl
  obtain ⟨xs, m, _, hx, hl, hlen, hel⟩ := DataW.trod_array Tryd.underlying120 hd0
  unfold SidesAt
  rw [hv0]
  obtain ⟨l⟩ := cs
  rw [c8] at hl
  rw [c2] at hel
  have one : ∀ (i : Nat) (p q : Int) (x : DataW Unit × List MemPlace), i < 4 → xs[i]? = some x → x.1 = .agg [.lit (.int .i64 p), .lit (.int .i64 q)] → l[i * 2]? = some (.int .i64 p) ∧ l[i * 2 + 1]? = some (.int .i64 q) := by
    intro i p q x hi hxi hxe
    have h1 := hel i hi
    rw [hxi] at h1
    obtain ⟨y0, y1, n, hxy, _, ha, hb⟩ := trod_struct2 Tryd.underlying119 h1
    obtain ⟨k0, e0, e1, _⟩ := DataW.trod_int Tryd.underlying3 ha
    obtain ⟨k1, e2, e3, _⟩ := DataW.trod_int Tryd.underlying3 hb
    rw [hxy, e1, e3] at hxe
    simp only [DataW.agg.injEq, List.cons.injEq, DataW.lit.injEq, Lit.int.injEq, true_and, and_true] at hxe
    obtain ⟨rfl, rfl⟩ := hxe
    have f0 := congrArg (·[0]?) e0
    have f1 := congrArg (·[0]?) e2
    rw [c1] at f0 f1
    simp [List.getElem?_drop] at f0 f1
    exact ⟨f0, f1⟩
  have hx1 := (congrArg Prod.fst hx).symm
  simp only at hx1
  match xs, hlen with
  | [x0, x1, x2, x3], _ =>
    simp only [Rows.laid_loop_example_g00961_impl_sideSteps, List.map_cons, List.map_nil, DataW.agg.injEq, List.cons.injEq, and_true] at hx1
    obtain ⟨h0, h1, h2, h3⟩ := hx1
    obtain ⟨a0, a1⟩ := one 0 _ _ x0 (by decide) rfl h0
    obtain ⟨a2, a3⟩ := one 1 _ _ x1 (by decide) rfl h1
    obtain ⟨a4, a5⟩ := one 2 _ _ x2 (by decide) rfl h2
    obtain ⟨a6, a7⟩ := one 3 _ _ x3 (by decide) rfl h3
    match l, hl with
    | [b0, b1, b2, b3, b4, b5, b6, b7], _ =>
      simp at a0 a1 a2 a3 a4 a5 a6 a7
      subst a0 a1 a2 a3 a4 a5 a6 a7
      rfl

theorem sides_met (os : Os) (args : Array Value) : laidMetH Tryd.prog [(sidesName, Rows.laid_loop_example_g00961_impl_sideSteps)] ((World.doorLaid Tryd.prog 400 os).forCall (fun _ _ => 0) ⟨#[], args, []⟩).memory :=
  laidMetH_of_parts3 (fuel := 8) (laidMet_of_run' 8 (by kernel_rfl) (by kernel_rfl)) (by kernel_rfl) (by kernel_rfl)

end Go.Proofs.YtcagaolichgogaaDoor

