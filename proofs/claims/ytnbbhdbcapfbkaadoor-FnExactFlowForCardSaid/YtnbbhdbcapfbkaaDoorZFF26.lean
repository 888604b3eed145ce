/-
  CONTRACT of the program's expansionOf. No law is proved here.
-/
import Derived.Test.YtnbbhdbcapfbkaaDoorZFF25
import Derived.Test.YtnbbhdbcapfbkaaDoorZFF16
import Derived.Test.YtnbbhdbcapfbkaaDoorZFF15
import Derived.Test.YtnbbhdbcapfbkaaDoorZFF01
import Derived.StillTailTactics
namespace Go.Proofs.YtnbbhdbcapfbkaaDoor
set_option maxRecDepth 4096
open Go.ChangeShapes Go.WideShapes Go.ChangeAt Go.RowKit Go.Shelf

attribute [local go_sem] Oper.semAt_some

/-- What expansionOf leaves. -/
def ExpBack (w : World) (F P T : Nat) (nx : Nat → List Nat) (L : List (Nat × Nat)) (e : Ending) (w' : World) : Prop :=
  ∃ (k G : Nat) (Sx : Nat → Value) (vp : Value), e = .returned (.pointer (some ⟨k, 0, none⟩)) ∧ EX w.heap.size k F P T (.slice (some ⟨G, 0, none⟩) F F) vp (.slice none 0 0) [] w' ∧ NX w.heap.size w' G F nx Sx ∧ PairsAt w.heap.size w' vp L ∧ Below w.heap.size w w'
/-- What lies beside each cell, as far as it is listed; the pairs, as far as they are listed. -/
def nxK (m : MapD) (strict : Bool) (k : Nat) (pre : List Nat) (v : Nat) : List Nat := if strict = true then [] else if v < k then m.ar v else if v = k then pre else []
def plK (m : MapD) (strict : Bool) (k : Nat) (pre : List Nat) : List (Nat × Nat) := if strict = true then plTo m k ++ (pre.filter fun j => decide (k < j)).map (fun j => (k, j)) else []

theorem Tryd.infoRowE : (Tryd.prog.info? 24).map (fun i => (i.zero, i.size, i.bytes)) = some (some (.slice none 0 0), 1, 24) := by kernel_rfl
theorem Tryd.infoTwo : (Tryd.prog.info? 84).map (fun i => (i.zero, i.size, i.bytes)) = some (some (.agg #[.int .i64 0, .int .i64 0]), 2, 16) := by kernel_rfl

/-- What the loop begins with. -/
structure ES (w w3 : World) (W H : Int) (C : ByteArray) (strict : Bool) (L : List Int) (bC GN E Be F : Nat) (av : Option Addr) (cv : Nat) : Prop where
  below : Below w.heap.size w w3
  grid : w3.heap[w.heap.size]? = some (.cells #[.int .i64 W, .int .i64 H, .string C] 30 (0, 0))
  str : Boxed w3 (w.heap.size + 1) 4 (.bool strict)
  cel : Boxed w3 bC 24 (.slice av F cv)
  ev : Boxed w3 Be 69 (.pointer (some ⟨E, 0, none⟩))
  lst : F = 0 ∨ ∃ g, av = some ⟨g, 0, none⟩ ∧ g < bC ∧ ∀ (j : Nat) x, L[j]? = some x → w3.cell? ⟨g, j, none⟩ = some (.int .i64 x)
  len : L.length = F
  xs : XS w.heap.size w3 GN E F (fun _ => []) (fun _ => .slice none 0 0) [] (.slice none 0 0) w3
  lt : w.heap.size + 1 < bC ∧ bC < GN ∧ GN < E ∧ E < Be ∧ Be < w3.heap.size
theorem exp_start {w w1 wm : World} {W H : Int} {C : ByteArray} {strict : Bool} {L : List Int} {F : Nat} {av : Option Addr} {cv : Nat} (hF : L.length = F)
    (hb : Below ((w.alloc (.cells #[.int .i64 W, .int .i64 H, .string C] 30)).alloc (.cells #[.bool strict] 4)).heap.size ((w.alloc (.cells #[.int .i64 W, .int .i64 H, .string C] 30)).alloc (.cells #[.bool strict] 4)) w1)
    (hI : Ints w1 (.slice av F cv) L) (hrow : wm.ownsRow w.heap.size 24 1 (.slice (some ⟨(w1.alloc (.cells #[.slice av F cv] 24)).heap.size, 0, none⟩) F F) F (madeCells (Value.slice none 0 0).cells (F * 1)).toList) (hg : (w1.alloc (.cells #[.slice av F cv] 24)).grownBy wm none) :
    ES w ((wm.alloc (.cells #[.int .i64 0, .int .i64 0, .int .i64 0, .slice (some ⟨w1.heap.size + 1, 0, none⟩) F F, .slice none 0 0, .slice none 0 0] 80)).alloc (.cells #[.pointer (some ⟨wm.heap.size, 0, none⟩)] 69)) W H C strict L w1.heap.size (w1.heap.size + 1) wm.heap.size (wm.heap.size + 1) F av cv := by
  have hs1 := hb.size
  have hsm := hg.size
  rw [World.size_alloc] at hsm hrow
  simp only [World.size_alloc] at hs1
  have hgm : w1.heap.size + 1 < wm.heap.size := (hrow.lt _ rfl).2
  have b1 : Below w.heap.size w w1 := (((Below.refl _ w).alloc (Nat.le_refl _) _).alloc (by simp) _).trans (hb.mono (by simp; omega))
  have b2 : Below w1.heap.size w1 wm := ((Below.refl _ w1).alloc (Nat.le_refl _) _).grown hg (by simp) (fun j e => by cases e)
  have b3 : Below wm.heap.size wm ((wm.alloc (.cells #[.int .i64 0, .int .i64 0, .int .i64 0, .slice (some ⟨w1.heap.size + 1, 0, none⟩) F F, .slice none 0 0, .slice none 0 0] 80)).alloc (.cells #[.pointer (some ⟨wm.heap.size, 0, none⟩)] 69)) := ((Below.refl _ wm).alloc (Nat.le_refl _) _).alloc (by simp) _
  have b13 := b2.trans (b3.mono b2.size)
  have hE : ((wm.alloc (.cells #[.int .i64 0, .int .i64 0, .int .i64 0, .slice (some ⟨w1.heap.size + 1, 0, none⟩) F F, .slice none 0 0, .slice none 0 0] 80)).alloc (.cells #[.pointer (some ⟨wm.heap.size, 0, none⟩)] 69)).heap[wm.heap.size]? = some (.cells #[.int .i64 0, .int .i64 0, .int .i64 0, .slice (some ⟨w1.heap.size + 1, 0, none⟩) F F, .slice none 0 0, .slice none 0 0] 80 (0, 0)) :=
    ((World.grownBy_alloc _ _ none).block _ (by simp) (by simp)).trans (heap_alloc_new wm _)
  have hEv := heap_alloc_new (wm.alloc (.cells #[.int .i64 0, .int .i64 0, .int .i64 0, .slice (some ⟨w1.heap.size + 1, 0, none⟩) F F, .slice none 0 0, .slice none 0 0] 80)) (.cells #[.pointer (some ⟨wm.heap.size, 0, none⟩)] 69)
  rw [World.size_alloc] at hEv
  have g0 : w1.heap[w.heap.size]? = some (.cells #[.int .i64 W, .int .i64 H, .string C] 30 (0, 0)) := (hb.block _ (by simp; omega)).trans (((World.grownBy_alloc _ _ none).block _ (by simp) (by simp)).trans (heap_alloc_new w _))
  have s0 : w1.heap[w.heap.size + 1]? = some (.cells #[.bool strict] 4 (0, 0)) := (hb.block _ (by simp)).trans (by
    have := heap_alloc_new (w.alloc (.cells #[.int .i64 W, .int .i64 H, .string C] 30)) (.cells #[.bool strict] 4)
    rw [World.size_alloc] at this
    exact this)
  have c0 : wm.heap[w1.heap.size]? = some (.cells #[.slice av F cv] 24 (0, 0)) := (hg.block _ (by simp) (by simp)).trans (heap_alloc_new w1 _)
  have hr2 := hrow.kept (grown_of_below b3) (by simp [Value.ownBlock])
  have hm : (madeCells (Value.slice none 0 0).cells (F * 1)).toList = rowN (fun _ => .slice none 0 0) F := by
    rw [Nat.mul_one]
    have : (Value.slice none 0 0).cells = #[.slice none 0 0] := rfl
    rw [this, toList_madeCells_one]
    apply List.ext_getElem?
    intro j
    unfold rowN
    by_cases hj : j < F <;> simp [hj]
  rw [hm] at hr2
  have hlst : F = 0 ∨ ∃ g, av = some ⟨g, 0, none⟩ ∧ g < w1.heap.size ∧ ∀ (j : Nat) x, L[j]? = some x → ((wm.alloc (.cells #[.int .i64 0, .int .i64 0, .int .i64 0, .slice (some ⟨w1.heap.size + 1, 0, none⟩) F F, .slice none 0 0, .slice none 0 0] 80)).alloc (.cells #[.pointer (some ⟨wm.heap.size, 0, none⟩)] 69)).cell? ⟨g, j, none⟩ = some (.int .i64 x) := by
    obtain ⟨a9, c9, e9, h9⟩ := ints_form hI
    injection e9 with e10 e11 e12
    subst e10
    rcases h9 with h0 | ⟨g, rfl, hg9, hc9⟩
    · exact .inl (by omega)
    · exact .inr ⟨g, rfl, hg9, fun j x hj => (b13.cell (p := ⟨g, j, none⟩) hg9).trans (hc9 j x hj)⟩
  exact ⟨b1.trans (b13.mono (by omega)), (b13.block _ (by omega)).trans g0, (b13.block _ (by omega)).trans s0, (b3.block _ (by omega)).trans c0, hEv, hlst, hF,
    ⟨rfl, rfl, rfl, Nat.le_refl _, fun _ _ _ _ => rfl, hE, hr2, fun v _ => World.ownsRow_nil _ _ _ _, fun _ _ _ _ _ => .inl rfl, World.ownsRow_nil _ _ _ _⟩, by omega, by omega, by omega, by omega, by simp⟩

section
variable {m : MapD} {k j : Nat} {pre : List Nat}
theorem nxK_strict : nxK m true k pre = fun _ => [] := by funext v; unfold nxK; rw [if_pos rfl]
theorem nxK_next (strict : Bool) (h : pre = m.ar k) : nxK m strict k pre = nxK m strict (k + 1) [] := by
  funext v
  unfold nxK
  split
  · rfl
  · by_cases h1 : v < k
    · rw [if_pos h1, if_pos (by omega)]
    · by_cases h2 : v = k
      · rw [if_neg h1, if_pos h2, if_pos (by omega), h, h2]
      · rw [if_neg h1, if_neg h2, if_neg (by omega)]
        split <;> rfl
theorem nxK_at : nxK m false k pre k = pre := by unfold nxK; simp
theorem nxK_snoc : nxK m false k (pre ++ [j]) = fun v => if v = k then nxK m false k pre k ++ [j] else nxK m false k pre v := by
  funext v
  unfold nxK
  by_cases h2 : v = k
  · simp [h2]
  · simp [h2]
theorem plK_plain : plK m false k pre = [] := by unfold plK; simp
theorem plK_next (strict : Bool) (h : pre = m.ar k) : plK m strict k pre = plK m strict (k + 1) [] := by
  unfold plK
  split
  · rw [plTo_succ, h]
    simp
  · rfl
theorem plK_yes (h : k < j) : plK m true k (pre ++ [j]) = plK m true k pre ++ [(k, j)] := by
  unfold plK
  simp [List.filter_append, h]
theorem plK_no (h : ¬ k < j) : plK m true k (pre ++ [j]) = plK m true k pre := by
  unfold plK
  simp [List.filter_append, h]
theorem plTo_len (h4 : ∀ i, (m.ar i).length ≤ 4) : ∀ k, (plTo m k).length ≤ 4 * k
  | 0 => by simp [plTo]
  | k + 1 => by
    have h1 := plTo_len h4 k
    have h2 := h4 k
    have h3 := List.length_filter_le (fun j => decide (k < j)) (m.ar k)
    rw [plTo_succ, List.length_append, List.length_map]
    omega
theorem nxK_zero (strict : Bool) : nxK m strict 0 [] = fun _ => [] := by
  funext v
  unfold nxK
  split
  · rfl
  · simp
theorem plK_zero (strict : Bool) : plK m strict 0 [] = [] := by unfold plK plTo; simp
end

theorem plK_len {W H : Int} {C : ByteArray} (strict : Bool) (k : Nat) (pre : List Nat) : (plK (mapG W H C) strict k pre).length ≤ 4 * k + pre.length := by
  unfold plK
  split
  · have h1 := plTo_len (m := mapG W H C) (fun i => ar_len i) k
    have h3 := List.length_filter_le (fun j => decide (k < j)) pre
    rw [List.length_append, List.length_map]
    omega
  · simp

/-- What a round of the range over the neighbours holds. -/
structure RI (w w3 ws : World) (W H : Int) (C : ByteArray) (strict : Bool) (GN E bI G K F k : Nat) (x : Int) (pre : List Nat) (W' : World) : Prop where
  ex : ∃ Sx vp, XS w.heap.size w3 GN E F (nxK (mapG W H C) strict k pre) Sx (plK (mapG W H C) strict k pre) vp W' ∧ (∀ v, k < v → v < F → Sx v = .slice none 0 0) ∧ ∀ j, (Sx k).ownBlock = some j → ws.heap.size ≤ j
  size : ws.heap.size ≤ W'.heap.size
  idx : Boxed W' bI 3 (.int .i64 k)
  gr : W'.heap[G]? = some (.cells #[.int .i64 W, .int .i64 H, .string C] 30 (0, 0))
  cl : Boxed W' K 3 (.int .i64 x)
  old : ∀ i o, i < ws.heap.size → ws.heap[i]? = some o → o.isCells = false → W'.heap[i]? = some o

section
variable {w w3 ws W W2 w9 : World} {Wd Ht : Int} {C : ByteArray} {strict : Bool} {L : List Int} {bC GN E Be bI G K F k : Nat} {av : Option Addr} {cv : Nat} {N : Nat → List Nat} {Sx : Nat → Value} {PL : List (Nat × Nat)} {vp v' : Value} {x : Int} {pre : List Nat}
theorem XS.toBelow (h : XS w.heap.size w3 GN E F N Sx PL vp W) (hb : Below w.heap.size w w3) (h1 : w.heap.size ≤ GN) (h2 : w.heap.size ≤ E) : Below w.heap.size w W :=
  ⟨h.os.trans hb.os, h.tape.trans hb.tape, h.output.trans hb.output, Nat.le_trans hb.size h.size, fun i hi => (h.keep i (Nat.lt_of_lt_of_le hi hb.size) (by omega) (by omega)).trans (hb.block i hi)⟩
theorem ES.at (h : ES w w3 Wd Ht C strict L bC GN E Be F av cv) (hX : XS w.heap.size w3 GN E F N Sx PL vp W) :
    W.heap[w.heap.size]? = some (.cells #[.int .i64 Wd, .int .i64 Ht, .string C] 30 (0, 0)) ∧ Boxed W (w.heap.size + 1) 4 (.bool strict) ∧ Boxed W bC 24 (.slice av F cv) ∧ Boxed W Be 69 (.pointer (some ⟨E, 0, none⟩)) ∧ Ints W (.slice av F cv) L ∧ Below w.heap.size w W := by
  obtain ⟨l1, l2, l3, l4, l5⟩ := h.lt
  refine ⟨(hX.keep _ (by omega) (by omega) (by omega)).trans h.grid, (hX.keep _ (by omega) (by omega) (by omega)).trans h.str, (hX.keep _ (by omega) (by omega) (by omega)).trans h.cel, (hX.keep _ (by omega) (by omega) (by omega)).trans h.ev, ?_, hX.toBelow h.below (by omega) (by omega)⟩
  have hl := h.len
  rcases h.lst with h0 | ⟨g, rfl, hg, hc⟩
  · exact .inl ⟨List.eq_nil_of_length_eq_zero (by omega), av, cv, by rw [h0]⟩
  · refine .inr ⟨g, cv, by rw [hl], by have := hX.size; omega, fun j y hj => ?_⟩
    exact (cell_block (hX.keep g (by omega) (by omega) (by omega)) j).trans (hc j y hj)
theorem ES.num (h : ES w w3 Wd Ht C strict L bC GN E Be F av cv) (hX : XS w.heap.size w3 GN E F N Sx PL vp W) {j : Nat} {y : Int} (hj : L[j]? = some y) : ∃ g, av = some ⟨g, 0, none⟩ ∧ W.cell? ⟨g, j, none⟩ = some (.int .i64 y) := by
  obtain ⟨l1, l2, l3, l4, l5⟩ := h.lt
  have hl := h.len
  rcases h.lst with h0 | ⟨g, rfl, hg, hc⟩
  · have := (List.getElem?_eq_some_iff.1 hj).1
    omega
  · exact ⟨g, rfl, (cell_block (hX.keep g (by omega) (by omega) (by omega)) j).trans (hc j y hj)⟩
theorem at_own {v : Value} {g H L c : Nat} (h : v.ownBlock = some g ∨ g = H) : v.ownBlock = (Value.slice (some ⟨g, 0, none⟩) L c).ownBlock ∨ (Value.slice (some ⟨g, 0, none⟩) L c).ownBlock = some H := by
  rcases h with h | h
  · exact .inl h
  · exact .inr (by rw [h]; rfl)
theorem nat_one (L : List Nat) : ∀ u ∈ natC L, u.oneCell' = true := by
  intro u hu
  obtain ⟨y, _, rfl⟩ := List.mem_map.1 hu
  rfl
theorem pair_one (L : List (Nat × Nat)) : ∀ u ∈ pairC L, u.oneCell' = true := by
  intro u hu
  obtain ⟨y, _, hy⟩ := List.mem_flatMap.1 hu
  simp at hy
  rcases hy with rfl | rfl <;> rfl
theorem nat_new (w : World) (j : Nat) (t : TypeId) : ∀ i u, (natC [j])[i]? = some u → (w.alloc (.cells #[.int .i64 (j : Int)] t)).cell? ((⟨w.heap.size, 0, none⟩ : Addr).add i) = some u := by
  intro i u h
  rw [addr_at, World.cell?_alloc_mark]
  simpa [natC] using h
theorem pair_new (w : World) (a b : Nat) (t : TypeId) : ∀ i u, (pairC [(a, b)])[i]? = some u → (w.alloc (.cells #[.int .i64 (a : Int), .int .i64 (b : Int)] t)).cell? ((⟨w.heap.size, 0, none⟩ : Addr).add i) = some u := by
  intro i u h
  rw [addr_at, World.cell?_alloc_mark]
  simpa [pairC] using h
/-- What the reads of an append to a row find behind it. -/
theorem XS.after (h : XS w.heap.size w3 GN E F N Sx PL vp W) {o : Obj} (hk : k < F) {n : Nat} {xs : List Value} (hown : w9.ownsRow w3.heap.size 3 1 v' n xs) (hg : (W.alloc o).grownBy w9 (Sx k).ownBlock) (hat : (Sx k).ownBlock = v'.ownBlock ∨ v'.ownBlock = some (W.alloc o).heap.size)
    (hBe : Boxed W Be 69 (.pointer (some ⟨E, 0, none⟩))) (hBi : Boxed W bI 3 (.int .i64 k)) (hf : ∀ j, (Sx k).ownBlock = some j → ws.heap.size ≤ j) (hbI : bI < ws.heap.size) :
    w9.cell? ⟨Be, 0, none⟩ = some (.pointer (some ⟨E, 0, none⟩)) ∧ w9.cell? ⟨E, 3, none⟩ = some (.slice (some ⟨GN, 0, none⟩) F F) ∧ w9.cell? ⟨bI, 0, none⟩ = some (.int .i64 k) ∧ w9.cell? ⟨GN, k, none⟩ = some (Sx k) := by
  obtain ⟨hbox, hrow, _⟩ := (h.alloc o).grownRow hk hown hg hat
  have hBe2 : w9.heap[Be]? = some (.cells #[.pointer (some ⟨E, 0, none⟩)] 69 (0, 0)) := (hg.block Be (by have := (Array.getElem?_eq_some_iff.1 hBe).1; simp; omega) (fun e => by
    rcases own_neT (h.own k hk) hBe (by decide) with e2 | e2
    · rw [e2] at e
      cases e
    · exact e2 e.symm)).trans (((World.grownBy_alloc W o none).block _ (Array.getElem?_eq_some_iff.1 hBe).1 (by simp)).trans hBe)
  have hBi2 : w9.heap[bI]? = some (.cells #[.int .i64 k] 3 (0, 0)) := (hg.block bI (by have := (Array.getElem?_eq_some_iff.1 hBi).1; simp; omega) (fun e => by have := hf _ e.symm; omega)).trans (((World.grownBy_alloc W o none).block _ (Array.getElem?_eq_some_iff.1 hBi).1 (by simp)).trans hBi)
  refine ⟨by rw [cell_of_row _ _ _ _ _ _ hBe2]; rfl, by rw [cell_of_row _ _ _ _ _ _ hbox]; rfl, by rw [cell_of_row _ _ _ _ _ _ hBi2]; rfl, ?_⟩
  have := hrow.cells (g := GN) rfl k (Sx k) (rowN_at Sx hk)
  rwa [addr_at] at this
theorem XS.fz9 (h : XS w.heap.size w3 GN E F N Sx PL vp W) {o : Obj} (hk : k < F) (hg : (W.alloc o).grownBy w9 (Sx k).ownBlock) : w9.frozen? ⟨GN, k, none⟩ = false := by
  obtain ⟨cur, hr⟩ := (h.alloc o).rowAt
  refine frozen_of_row _ _ k _ _ ((hg.block GN (Array.getElem?_eq_some_iff.1 hr).1 (fun e => ?_)).trans hr)
  rcases own_neT ((h.alloc o).own k hk) hr (by decide) with e2 | e2
  · rw [e2] at e
    cases e
  · exact e2 e.symm
/-- The same of an append to the pairs. -/
theorem XS.afterP (h : XS w.heap.size w3 GN E F N Sx PL vp W) {o : Obj} (hg : (W.alloc o).grownBy w9 vp.ownBlock)
    (hBe : Boxed W Be 69 (.pointer (some ⟨E, 0, none⟩))) (hBi : Boxed W bI 3 (.int .i64 k)) :
    (w9.cell? ⟨Be, 0, none⟩ = some (.pointer (some ⟨E, 0, none⟩)) ∧ w9.cell? ⟨E, 4, none⟩ = some vp ∧ w9.cell? ⟨bI, 0, none⟩ = some (.int .i64 k)) ∧ w9.frozen? ⟨E, 4, none⟩ = false := by
  have key : ∀ (b : Nat) (cs : Array Value) (t : TypeId) (fr : Nat × Nat), W.heap[b]? = some (Obj.cells cs t fr) → t ≠ 84 → w9.heap[b]? = some (Obj.cells cs t fr) := fun b cs t fr hb ht => (hg.block b (by have := (Array.getElem?_eq_some_iff.1 hb).1; simp; omega) (fun e => by
    rcases own_neT h.ps hb (fun e => ht e.symm) with e2 | e2
    · rw [e2] at e
      cases e
    · exact e2 e.symm)).trans (((World.grownBy_alloc W o none).block _ (Array.getElem?_eq_some_iff.1 hb).1 (by simp)).trans hb)
  have k1 := key _ _ _ _ hBe (by decide)
  have k2 := key _ _ _ _ h.box (by decide)
  have k3 := key _ _ _ _ hBi (by decide)
  exact ⟨⟨by rw [cell_of_row _ _ _ _ _ _ k1]; rfl, by rw [cell_of_row _ _ _ _ _ _ k2]; rfl, by rw [cell_of_row _ _ _ _ _ _ k3]; rfl⟩, frozen_of_row _ _ 4 _ _ k2⟩
/-- What stands at the end, whatever marks are taken away. -/
def FBE (B0 E F P T GN : Nat) (N : Nat → List Nat) (Sx : Nat → Value) (PL : List (Nat × Nat)) (vp : Value) (W : World) : Prop :=
  W.heap[E]? = some (.cells #[.int .i64 F, .int .i64 P, .int .i64 T, .slice (some ⟨GN, 0, none⟩) F F, vp, .slice none 0 0] 80 (0, 0)) ∧ NX B0 W GN F N Sx ∧ PairsAt B0 W vp PL
theorem fb_turn {B0 P T : Nat} (h : FBE B0 E F P T GN N Sx PL vp W) {r : Option Nat} (hg : W.grownBy W2 r) (hr : ∀ j, r = some j → ∀ cs t fr, W.heap[j]? ≠ some (.cells cs t fr)) : FBE B0 E F P T GN N Sx PL vp W2 :=
  ⟨(hg.block E (Array.getElem?_eq_some_iff.1 h.1).1 (fun e => hr E e.symm _ _ _ h.1)).trans h.1, h.2.1.kept hg (fun g e => ⟨fun cs => hr g e cs _ _, fun cs => hr g e cs _ _⟩), h.2.2.kept hg (own_nc h.2.2 hr)⟩
theorem fb_put {B0 P T : Nat} (W : World) (l : Nat) (o o' : Obj) (h : FBE B0 E F P T GN N Sx PL vp W) (hl : W.heap[l]? = some o) (ho : o.isCells = false) : FBE B0 E F P T GN N Sx PL vp (W.putObj l o') :=
  fb_turn h (grownBy_putObj' W l o') (fun j e cs t fr hc => by
    cases e
    rw [hl] at hc
    cases hc
    cases ho)
theorem fb_drew {B0 P T : Nat} (h : FBE B0 E F P T GN N Sx PL vp W) : FBE B0 E F P T GN N Sx PL vp W.drew := ⟨h.1, ⟨h.2.1.row, h.2.1.own, h.2.1.apart⟩, h.2.2⟩
theorem fb_end {P T : Nat} (h : XS w.heap.size w3 GN E F N Sx PL vp W) (hb : Below w.heap.size w W) (hw : w.heap.size ≤ w3.heap.size) (hE : w.heap.size ≤ E) :
    FBE w.heap.size E F P T GN N Sx PL vp (((W.setCell ⟨E, 0, none⟩ (.int .i64 F)).setCell ⟨E, 1, none⟩ (.int .i64 P)).setCell ⟨E, 2, none⟩ (.int .i64 T)) ∧ Below w.heap.size w (((W.setCell ⟨E, 0, none⟩ (.int .i64 F)).setCell ⟨E, 1, none⟩ (.int .i64 P)).setCell ⟨E, 2, none⟩ (.int .i64 T)) ∧ W.grownBy (((W.setCell ⟨E, 0, none⟩ (.int .i64 F)).setCell ⟨E, 1, none⟩ (.int .i64 P)).setCell ⟨E, 2, none⟩ (.int .i64 T)) (some E) := by
  have b1 := heap_setCell_same W _ 0 _ _ (.int .i64 F) h.box
  have b2 := heap_setCell_same _ _ 1 _ _ (.int .i64 P) b1
  have b3 := heap_setCell_same _ _ 2 _ _ (.int .i64 T) b2
  have hg : W.grownBy (((W.setCell ⟨E, 0, none⟩ (.int .i64 F)).setCell ⟨E, 1, none⟩ (.int .i64 P)).setCell ⟨E, 2, none⟩ (.int .i64 T)) (some E) := ⟨rfl, rfl, rfl, by simp [World.setCell], fun i _ hne => by
    have e : i ≠ E := fun e => hne (by rw [e])
    rw [heap_setCell_other _ _ _ _ e, heap_setCell_other _ _ _ _ e, heap_setCell_other _ _ _ _ e]⟩
  have hk : ∀ {B : Nat} {e : TypeId} {s n : Nat} {v : Value} {xs : List Value}, W.ownsRow B e s v n xs → e ≠ 80 → (((W.setCell ⟨E, 0, none⟩ (.int .i64 F)).setCell ⟨E, 1, none⟩ (.int .i64 P)).setCell ⟨E, 2, none⟩ (.int .i64 T)).ownsRow B e s v n xs := fun ho he => ho.kept hg (own_neT ho h.box he)
  exact ⟨⟨b3, ⟨hk h.row (by decide), fun v hv => own_base (hk (h.own v hv) (by decide)) hw, h.apart⟩, own_base (hk h.ps (by decide)) hw⟩, ((hb.setCell hE _).setCell hE _).setCell hE _, hg⟩
theorem keeps_of {a B : Nat} {r : Option Nat} (hU : Upd a r W W2) (ha : ∃ cs t fr, W.heap[a]? = some (.cells cs t fr)) (hr : ∀ j, r = some j → ∃ cs t fr, W.heap[j]? = some (.cells cs t fr)) : KeepsFrom B W W2 :=
  ⟨hU.size, fun i o _ hi ho => (hU.same i (Array.getElem?_eq_some_iff.1 hi).1 (fun e => by
    subst e
    obtain ⟨cs, t, fr, h⟩ := ha
    rw [h] at hi
    cases hi
    cases ho) (fun e => by
    obtain ⟨cs, t, fr, h⟩ := hr i e.symm
    rw [h] at hi
    cases hi
    cases ho)).trans hi⟩
theorem nbr_of {a : Nat} {r : Option Nat} (hU : Upd a r W W2) (hG : G < W.heap.size) (hK : K < W.heap.size) (g1 : G ≠ a) (g2 : some G ≠ r) (k1 : K ≠ a) (k2 : some K ≠ r) (ha : ∀ cs, W.heap[a]? ≠ some (.cells cs 106 (0, 0))) (hr : ∀ j, r = some j → ∀ cs, W.heap[j]? ≠ some (.cells cs 106 (0, 0))) : NbrK G K W W2 :=
  ⟨⟨hU.size, hU.same G hG g1 g2, hU.same K hK k1 k2⟩, fun i cs hi => (hU.same i (Array.getElem?_eq_some_iff.1 hi).1 (fun e => by subst e; exact ha cs hi) (fun e => hr i e.symm cs hi)).trans hi⟩
theorem own_cl {B s n : Nat} {e : TypeId} {v : Value} {xs : List Value} (h : W.ownsRow B e s v n xs) : ∀ j, v.ownBlock = some j → ∃ cs, W.heap[j]? = some (.cells cs e (0, 0)) := by
  intro j hj
  rcases h.2 with ⟨rfl, _⟩ | ⟨g, cap, cur, rfl, _, hg, _⟩
  · cases hj
  · cases hj
    exact ⟨cur, hg⟩
/-- A round is done: what a turn of one block and of a row's own leaves. -/
theorem ri_end {a : Nat} {r : Option Nat} {t1 t2 : TypeId} {fr : Nat × Nat} {cs0 : Array Value} {pre' : List Nat} (h : RI w w3 ws Wd Ht C strict GN E bI G K F k x pre W) (hU : Upd a r W W2) (hb : bI < ws.heap.size ∧ G < ws.heap.size ∧ K < ws.heap.size ∧ bI ≠ a ∧ G ≠ a ∧ K ≠ a)
    (ha : W.heap[a]? = some (.cells cs0 t1 fr)) (hr : ∀ j, r = some j → ∃ cs, W.heap[j]? = some (.cells cs t2 (0, 0))) (ht1 : t1 ≠ 106) (ht2 : t2 ≠ 106) (hn : some bI ≠ r ∧ some G ≠ r ∧ some K ≠ r)
    (hex : ∃ Sx vp, XS w.heap.size w3 GN E F (nxK (mapG Wd Ht C) strict k pre') Sx (plK (mapG Wd Ht C) strict k pre') vp W2 ∧ (∀ v, k < v → v < F → Sx v = .slice none 0 0) ∧ ∀ j, (Sx k).ownBlock = some j → ws.heap.size ≤ j) :
    KeepsFrom ws.heap.size W W2 ∧ NbrK G K W W2 ∧ RI w w3 ws Wd Ht C strict GN E bI G K F k x pre' W2 := by
  have hs := h.size
  have hkf : KeepsFrom 0 W W2 := keeps_of hU ⟨_, _, _, ha⟩ (fun j e => by obtain ⟨cs, hc⟩ := hr j e; exact ⟨_, _, _, hc⟩)
  have hne : ∀ i cs t fr, W.heap[i]? = some (.cells cs t fr) → i ≠ a → some i ≠ r → W2.heap[i]? = some (.cells cs t fr) := fun i cs t fr hi h1 h2 => (hU.same i (Array.getElem?_eq_some_iff.1 hi).1 h1 h2).trans hi
  refine ⟨⟨hU.size, fun i o _ hi ho => hkf.same i o (Nat.zero_le _) hi ho⟩, nbr_of hU (by omega) (by omega) hb.2.2.2.2.1 hn.2.1 hb.2.2.2.2.2 hn.2.2 (fun cs hc => ?_) (fun j e cs hc => ?_), hex, Nat.le_trans hs hU.size, hne _ _ _ _ h.idx hb.2.2.2.1 hn.1, hne _ _ _ _ h.gr hb.2.2.2.2.1 hn.2.1, hne _ _ _ _ h.cl hb.2.2.2.2.2 hn.2.2, fun i o hi h0 ho => hkf.same i o (Nat.zero_le _) (h.old i o hi h0 ho) ho⟩
  · rw [ha] at hc
    injection hc with hc
    injection hc with _ e2
    exact ht1 e2
  · obtain ⟨cs', hc'⟩ := hr j e
    rw [hc'] at hc
    injection hc with hc
    injection hc with _ e2
    exact ht2 e2
theorem RI.own (hw : w3.heap.size ≤ ws.heap.size) : OwnFrom ws.heap.size (fun (pre : List Nat) W => RI w w3 ws Wd Ht C strict GN E bI G K F k x pre W) := by
  intro pre A B row h hg hr
  have hnc : ∀ j, row = some j → ∀ cs t fr, A.heap[j]? ≠ some (.cells cs t fr) := fun j e cs t fr hc => by
    obtain ⟨_, o, ho, hn⟩ := hr j e
    rw [hc] at ho
    cases ho
    cases hn
  have hk : ∀ (i : Nat) (cs : Array Value) (t : TypeId) (fr : Nat × Nat), A.heap[i]? = some (Obj.cells cs t fr) → B.heap[i]? = some (Obj.cells cs t fr) := fun i cs t fr hi => (hg.block i (Array.getElem?_eq_some_iff.1 hi).1 (fun e => hnc i e.symm _ _ _ hi)).trans hi
  obtain ⟨⟨Sx, vp, hX, h1, h2⟩, hs, hi, hgr, hc, hold⟩ := h
  refine ⟨⟨Sx, vp, ?_, h1, h2⟩, Nat.le_trans hs hg.size, hk _ _ _ _ hi, hk _ _ _ _ hgr, hk _ _ _ _ hc, fun i o hio h0 ho => ?_⟩
  · exact hX.turn hg (fun j e => ⟨Nat.le_trans hw (hr j e).1, hnc j e⟩)
  · exact (hg.block i (Array.getElem?_eq_some_iff.1 (hold i o hio h0 ho)).1 (fun e => by have := (hr i e.symm).1; omega)).trans (hold i o hio h0 ho)
end

theorem ri_start {w w3 wr : World} {W H : Int} {C : ByteArray} {strict : Bool} {GN E F k : Nat} {Sx : Nat → Value} {vp : Value} {x : Int} (hX : XS w.heap.size w3 GN E F (nxK (mapG W H C) strict k []) Sx (plK (mapG W H C) strict k []) vp wr) (hnil : ∀ v, k ≤ v → v < F → Sx v = .slice none 0 0) (hk : k < F) :
    RI w w3 (((wr.alloc (.cells #[.int .i64 k] 3)).alloc (.cells #[.int .i64 W, .int .i64 H, .string C] 30)).alloc (.cells #[.int .i64 x] 3)) W H C strict GN E wr.heap.size (wr.heap.size + 1) (wr.heap.size + 1 + 1) F k x [] (((wr.alloc (.cells #[.int .i64 k] 3)).alloc (.cells #[.int .i64 W, .int .i64 H, .string C] 30)).alloc (.cells #[.int .i64 x] 3)) := by
  have h1 := heap_alloc_new (wr.alloc (.cells #[.int .i64 k] 3)) (.cells #[.int .i64 W, .int .i64 H, .string C] 30)
  have h2 := heap_alloc_new ((wr.alloc (.cells #[.int .i64 k] 3)).alloc (.cells #[.int .i64 W, .int .i64 H, .string C] 30)) (.cells #[.int .i64 x] 3)
  rw [World.size_alloc] at h1 h2
  rw [World.size_alloc] at h2
  exact ⟨⟨Sx, vp, ((hX.alloc _).alloc _).alloc _, fun v h3 h4 => hnil v (by omega) h4, fun j e => by rw [hnil k (Nat.le_refl _) hk] at e; cases e⟩, Nat.le_refl _,
    ((World.grownBy_alloc _ _ none).block _ (by simp; omega) (by simp)).trans (((World.grownBy_alloc _ _ none).block _ (by simp) (by simp)).trans (heap_alloc_new wr _)), ((World.grownBy_alloc _ _ none).block _ (by simp) (by simp)).trans h1, h2, fun i o _ h _ => h⟩

set_option maxRecDepth 100000 in
set_option maxHeartbeats 4000000 in
theorem exp_in (W H : Int) (C : ByteArray) (T : Nat) (strict : Bool) (L : List Int) (F : Nat) (hC : C.size ≤ 1048576) (HL : Hid (freeL W H C = L)) (hF : L.length = F) (hF64 : F ≤ 64) (w : World) (hS : SidesAt w) :
    CallsIn Fence.wide 6 Tryd.prog 39 #[.agg #[.int .i64 W, .int .i64 H, .string C], .int .i64 T, .bool strict] w (ExpBack w F (plK (mapG W H C) strict F []).length T (nxK (mapG W H C) strict F []) (plK (mapG W H C) strict F [])) := by
  refine callsIn_of_wp_marks Tryd.func39 rfl trivial ?_ rfl
  simp only [Tryd.ntmps39, List.size_toArray, List.length_cons, List.length_nil, Nat.reduceAdd, Nat.reduceSub, Array.replicate_succ, Array.replicate_zero, List.push_toArray, List.append_toArray, List.nil_append, List.cons_append]
  obtain ⟨i0, hi, hz0, hz1, hz2⟩ := info_parts Tryd.infoRowE
  gi_wp2_with (refine ⟨trivial, ?_⟩; gi_at_call 43; refine (callsIn_wide.2 (implFreeCells W H C L hC HL _)).mono ?_; rintro e w1 ⟨v, rfl, hown, hb⟩; obtain ⟨av, cv, rfl⟩ := own_form hown; have hI := ints_of_own hown; rw [hF] at hI ⊢; have HI := Lib.hid hI; have HB1 := Lib.hid hb; have hs1 := (by have := hb.size; simpa using this : w.heap.size + 1 + 1 ≤ w1.heap.size); obtain ⟨wm, hrun, hrow, hgm⟩ := run_make_full (P := Tryd.prog) (w1.alloc (.cells #[.slice av F cv] 24)) w.heap.size 77 24 i0 (.slice none 0 0) 1 Tryd.underlying77 hi hz0 hz1 .i64 .i64 F (by rw [hz2]; omega) (by unfold maxLen; omega) (by simp; omega); have HES := Lib.hid (exp_start hF HB1.out HI.out hrow hgm); have dcel := HES.out.cel.cell; clear hown hI hb)
  have HS := Lib.hid hS
  clear hS dcel
  generalize (wm.alloc (.cells #[.int .i64 0, .int .i64 0, .int .i64 0, .slice (some ⟨w1.heap.size + 1, 0, none⟩) F F, .slice none 0 0, .slice none 0 0] 80)).alloc (.cells #[.pointer (some ⟨wm.heap.size, 0, none⟩)] 69) = w3 at HES ⊢
  generalize wm.heap.size + 1 = Be at HES ⊢
  generalize wm.heap.size = E at HES ⊢
  generalize w1.heap.size + 1 = GN at HES ⊢
  generalize w1.heap.size = bC at HES ⊢
  clear hrun hrow hgm HI HB1 hs1
  refine wpIn_loop (fun a' wr => ∃ (k : Nat) (ms : List Nat) (Sx : Nat → Value) (vp u9 u10 u24 u25 u26 u27 u28 u29 u30 u73 : Value), a' = { tmps := #[.agg #[.int .i64 W, .int .i64 H, .string C], .int .i64 T, .bool strict, .pointer (some ⟨w.heap.size, 0, none⟩), undef, .pointer (some ⟨w.heap.size + 1, 0, none⟩), .pointer none, .pointer (some ⟨bC, 0, none⟩), .pointer (some ⟨Be, 0, none⟩), u9, u10, undef, undef, undef, .agg #[.int .i64 W, .int .i64 H, .string C], .slice av F cv, .slice av F cv, .int .i64 F, .slice (some ⟨GN, 0, none⟩) F F, .agg #[.int .i64 0, .int .i64 0, .int .i64 0, .slice (some ⟨GN, 0, none⟩) F F, .slice none 0 0, .slice none 0 0], .pointer (some ⟨E, 0, none⟩), .slice av F cv, .int .i64 F, .int .i64 k, u24, u25, u26, u27, u28, u29, u30, undef, undef, undef, undef, undef, undef, undef, undef, undef, undef, undef, undef, undef, undef, undef, undef, undef, undef, undef, undef, undef, undef, undef, undef, undef, undef, undef, undef, undef, undef, undef, undef, undef, undef, undef, undef, undef, undef, undef, undef, undef, undef, u73, undef, undef, undef, undef, undef, undef, undef, undef, undef, undef, undef, undef, undef], defers := ms.map markD } ∧ k ≤ F ∧ ms.Nodup ∧ (∀ r ∈ ms, w.heap.size ≤ r ∧ wr.heap[r]? = some (.deferred (some []))) ∧
      XS w.heap.size w3 GN E F (nxK (mapG W H C) strict k []) Sx (plK (mapG W H C) strict k []) vp wr ∧ (∀ v, k ≤ v → v < F → Sx v = .slice none 0 0))
    (fun a' _ => F - (intOf (a'.tmps.getD 23 undef)).toNat) ?start ?round
  case start => exact ⟨0, [], _, _, _, _, _, _, _, _, _, _, _, _, rfl, Nat.zero_le _, List.Pairwise.nil, (fun _ h => by cases h), by rw [nxK_zero, plK_zero]; exact HES.out.xs, fun _ _ _ => rfl⟩
  case round =>
    rintro a' wr ⟨k, ms, Sx, vp, u9, u10, u24, u25, u26, u27, u28, u29, u30, u73, rfl, hk, hnd, hms, hX, hnil⟩
    have hrs := hX.size
    obtain ⟨hgr, hst, hce, hev, hin, hbw⟩ := HES.out.at hX
    obtain ⟨l1, l2, l3, l4, l5⟩ := HES.out.lt
    by_cases hlt : k < F
    · obtain ⟨x, hx⟩ : ∃ x, L[k]? = some x := ⟨_, List.getElem?_eq_getElem (by omega)⟩
      obtain ⟨g, rfl, d0⟩ := HES.out.num hX hx
      have c0 : wr.cell? ⟨w.heap.size, 0, none⟩ = some (.int .i64 W) := by rw [cell_of_row _ _ _ _ _ _ hgr]; rfl
      have c1 : wr.cell? ⟨w.heap.size, 1, none⟩ = some (.int .i64 H) := by rw [cell_of_row _ _ _ _ _ _ hgr]; rfl
      have c2 : wr.cell? ⟨w.heap.size, 2, none⟩ = some (.string C) := by rw [cell_of_row _ _ _ _ _ _ hgr]; rfl
      have hwr : w.heap.size < wr.heap.size := by omega
      have hkF : (k : Int) < (F : Int) := by omega
      have HXX := Lib.hid hx
      have HX := Lib.hid hX
      have HNIL := Lib.hid hnil
      clear hx hX hnil
      gi_wp2_with (refine ⟨trivial, ?_⟩; gi_at_call 60; refine (callsIn_wide.2 (implNeighbors W H C x _)).mono ?_; rintro e w2 ⟨rfl, rfl⟩)
      obtain ⟨Lx, HLx⟩ : ∃ Lx, Hid (aroundL W H C x = Lx) := ⟨_, rfl⟩
      have hbs := ((hbw.alloc hbw.size (.cells #[.int .i64 k] 3)).alloc (by simp; omega) (.cells #[.int .i64 W, .int .i64 H, .string C] 30)).alloc (by simp; omega) (.cells #[.int .i64 x] 3)
      have hcap := caps_new W H C x (wr.alloc (.cells #[.int .i64 k] 3)) 30 3
      simp only [World.size_alloc] at hcap
      have hRI := Lib.hid (ri_start (W := W) (H := H) (C := C) (strict := strict) (x := x) HX.out HNIL.out hlt)
      have hms2 : ∀ r ∈ ms, (((wr.alloc (.cells #[.int .i64 k] 3)).alloc (.cells #[.int .i64 W, .int .i64 H, .string C] 30)).alloc (.cells #[.int .i64 x] 3)).heap[r]? = some (.deferred (some [])) ∧ r < wr.heap.size := fun r hr => by
        have hl := (Array.getElem?_eq_some_iff.1 (hms r hr).2).1
        exact ⟨((World.grownBy_alloc _ _ none).block _ (by simp; omega) (by simp)).trans (((World.grownBy_alloc _ _ none).block _ (by simp; omega) (by simp)).trans (((World.grownBy_alloc _ _ none).block _ hl (by simp)).trans (hms r hr).2)), hl⟩
      have hst := nbr_stopsIn W H C x Lx hC HLx 5 _ _ _ hcap (HS.out.below hbs)
      have hss : (((wr.alloc (.cells #[.int .i64 k] 3)).alloc (.cells #[.int .i64 W, .int .i64 H, .string C] 30)).alloc (.cells #[.int .i64 x] 3)).heap.size = wr.heap.size + 3 := by simp
      have hG2 := hcap.2.2.2.2.1
      have hK2 := hcap.2.2.2.2.2
      clear hcap
      generalize ((wr.alloc (.cells #[.int .i64 k] 3)).alloc (.cells #[.int .i64 W, .int .i64 H, .string C] 30)).alloc (.cells #[.int .i64 x] 3) = ws at *
      have hwss : w3.heap.size ≤ ws.heap.size := by omega
      refine wpIn_rangeFunc_ownG rfl (by decide) (gf := 73) (lb := #[.pointer (some ⟨wr.heap.size + 1, 0, none⟩), .pointer (some ⟨wr.heap.size + 1 + 1, 0, none⟩)]) rfl trivial (enters_of Tryd.func73 (by kernel_rfl) rfl)
        hst nbrK_t (nbrK_b hG2 hK2) (Below.refl _ _) (fun _ => rfl)
        (fun pre W' => RI w w3 ws W H C strict GN E wr.heap.size (wr.heap.size + 1) (wr.heap.size + 1 + 1) F k x ((valsL pre).map (numG W H C)) W')
        (fun _ _ _ => False)
        (fun s A B row hs hg hr => RI.own hwss _ A B row hs hg hr)
        (fun _ _ _ _ _ hs _ _ => hs)
        hRI.out
        (fun y => { tmps := #[.agg #[.int .i64 W, .int .i64 H, .string C], .int .i64 T, .bool strict, .pointer (some ⟨w.heap.size, 0, none⟩), undef, .pointer (some ⟨w.heap.size + 1, 0, none⟩), .pointer none, .pointer (some ⟨bC, 0, none⟩), .pointer (some ⟨Be, 0, none⟩), .pointer (some ⟨wr.heap.size, 0, none⟩), .int .i64 x, .int .i64 y.1, undef, undef, .agg #[.int .i64 W, .int .i64 H, .string C], .slice (some ⟨g, 0, none⟩) F cv, .slice (some ⟨g, 0, none⟩) F cv, .int .i64 F, .slice (some ⟨GN, 0, none⟩) F F, .agg #[.int .i64 0, .int .i64 0, .int .i64 0, .slice (some ⟨GN, 0, none⟩) F F, .slice none 0 0, .slice none 0 0], .pointer (some ⟨E, 0, none⟩), .slice (some ⟨g, 0, none⟩) F cv, .int .i64 F, .int .i64 k, .bool true, .int .i64 k, .pointer (some ⟨g, k, none⟩), .int .i64 x, .agg #[.int .i64 W, .int .i64 H, .string C], .int .i64 x, .func (.func 73) #[] #[.pointer (some ⟨wr.heap.size + 1, 0, none⟩), .pointer (some ⟨wr.heap.size + 1 + 1, 0, none⟩)], .int .i64 y.1, undef, undef, undef, undef, undef, undef, undef, undef, undef, undef, undef, undef, undef, undef, undef, undef, undef, undef, undef, undef, undef, undef, undef, undef, undef, undef, undef, undef, undef, undef, undef, undef, undef, undef, undef, undef, undef, undef, undef, undef, undef, u73, undef, undef, undef, undef, undef, undef, undef, undef, undef, undef, undef, undef, undef], defers := [] }) ?assign ?body ?done ?stop
      case assign =>
        intro l y W' K hK
        gi_wp2
        exact hK
      case body =>
        rintro l pre0 y W' hI hlen4
        obtain ⟨yv, hy⟩ := y
        obtain ⟨pre, hpre⟩ : ∃ pre, (valsL pre0).map (numG W H C) = pre := ⟨_, rfl⟩
        rw [hpre] at hI
        have HRI := Lib.hid hI
        obtain ⟨⟨Sx, vp, hX, hnil, hfr⟩, hsz, hidx, hgr', hcl, hold⟩ := hI
        obtain ⟨_, hst', hce', hev', hin', hbw'⟩ := HES.out.at hX
        have hfy : freeV W H C yv = true := (around_free (by rw [HLx.out]; exact hy)).2
        obtain ⟨j, hj⟩ : ∃ j, numG W H C yv = j := ⟨_, rfl⟩
        have HCN : Hid (L.countP (fun z => decide (z < yv)) = j) := Lib.hid (by rw [← HL.out, num_count hfy, hj])
        have HCB : Hid (L.contains yv = true) := Lib.hid (by rw [← HL.out, free_has]; exact hfy)
        have hjF : j < F := by rw [← hj, ← hF, ← HL.out]; exact numG_lt hfy
        have hfin := implFind L yv (.slice (some ⟨g, 0, none⟩) F cv) j true (by omega) (by rw [← HL.out]; exact free_le) HCN HCB W' hin'
        have hpl : pre.length < 4 := by rw [← hpre, List.length_map]; simpa [valsL] using hlen4
        have HVS : Hid ((valsL (pre0 ++ [(⟨yv, hy⟩ : InL Lx)])).map (numG W H C) = pre ++ [j]) := Lib.hid (by rw [valsL_snoc, List.map_append, hpre, ← hj]; rfl)
        have hbIs : wr.heap.size < ws.heap.size := by omega
        have hGE : GN ≠ E := by omega
        have dce := hce'.cell
        have dst := hst'.cell
        have dev := hev'.cell
        have didx := hidx.cell
        have HX1 := Lib.hid hX
        have HFR := Lib.hid hfr
        have HNL := Lib.hid hnil
        have HEV := Lib.hid hev'
        have HID := Lib.hid hidx
        clear hX hfr hnil hev' hidx hce' hst' hin' hpre hj hfy hold hcl hgr' hin hbw'
        gi_wp2
        refine ⟨trivial, ?_⟩
        refine (CallsIn.inRound l (callsIn_wide.2 hfin)).mono ?_
        rintro e w5 ⟨rfl, q, rfl⟩
        cases strict with
        | false =>
          gi_wp2
          have hXd := (HX1.out.drewN q).drew
          have hnl : (nxK (mapG W H C) false k pre k).length ≤ 4 := by rw [nxK_at]; omega
          have hS0 := And.intro dev (And.intro hXd.cell.1 (And.intro didx (hXd.at_row hlt)))
          have HBe := Lib.hid (show Boxed (W'.drewN q).drew Be 69 (.pointer (some ⟨E, 0, none⟩)) from HEV.out)
          have HBi := Lib.hid (show Boxed (W'.drewN q).drew wr.heap.size 3 (.int .i64 k) from HID.out)
          have HSal := Lib.hid fun o => And.intro (HBe.out.alloc o).cell (And.intro (hXd.alloc o).cell.1 (And.intro (HBi.out.alloc o).cell ((hXd.alloc o).at_row hlt)))
          have HOWN := Lib.hid (hXd.own k hlt)
          have HXq := Lib.hid hXd
          obtain ⟨j0, ji, jz0, jz1, jz2⟩ := info_parts Tryd.info3
          clear hXd dce dst dev didx hfin HX1
          refine wpIn_round_last 16 (fun w' => w'.cell? ⟨Be, 0, none⟩ = some (.pointer (some ⟨E, 0, none⟩)) ∧ w'.cell? ⟨E, 3, none⟩ = some (.slice (some ⟨GN, 0, none⟩) F F) ∧ w'.cell? ⟨wr.heap.size, 0, none⟩ = some (.int .i64 k) ∧ w'.cell? ⟨GN, k, none⟩ = some (Sx k)) (by as_aux_lemma => kernel_rfl) (by as_aux_lemma => kernel_rfl) (by as_aux_lemma => kernel_rfl) (by as_aux_lemma => kernel_rfl) (by decide) hS0 (fun hHeld => ?_)
          refine anyI_take (i := 0) (oi := _) (v := ?q1v1) rfl (by as_aux_lemma => kernel_rfl) (by as_aux_lemma => kernel_rfl) (by as_aux_lemma => kernel_rfl) rfl (fun _ _ _ h => h) (Or.inl ⟨by rfl, ?q1y1⟩) (by assumption) ?q1r1
          case q1y1 =>
            intro w' hSw
            (try dsimp only at hSw)
            go_split_ands
            simp only [List.getElem_toArray, List.getElem_cons_zero]
            go_simp
            all_goals (try with_reducible rfl)
          simp only [List.getElem_toArray, List.getElem_cons_zero, Act.put, List.setIfInBounds_toArray, List.set_cons_zero, List.set_cons_succ]
          refine anyI_take (i := 1) (oi := _) (v := ?q1v2) rfl (by as_aux_lemma => kernel_rfl) (by as_aux_lemma => kernel_rfl) (by as_aux_lemma => kernel_rfl) rfl (fun _ _ _ h => h) (Or.inl ⟨by rfl, ?q1y2⟩) (by assumption) ?q1r2
          case q1y2 =>
            intro w' hSw
            (try dsimp only at hSw)
            go_split_ands
            simp only [List.getElem_toArray, List.getElem_cons_succ, List.getElem_cons_zero]
            go_simp
            all_goals (try with_reducible rfl)
          simp only [List.getElem_toArray, List.getElem_cons_succ, List.getElem_cons_zero, Act.put, List.setIfInBounds_toArray, List.set_cons_zero, List.set_cons_succ]
          refine anyI_take (i := 2) (oi := _) (v := ?q1v3) rfl (by as_aux_lemma => kernel_rfl) (by as_aux_lemma => kernel_rfl) (by as_aux_lemma => kernel_rfl) rfl (fun _ _ _ h => h) (Or.inl ⟨by rfl, ?q1y3⟩) (by assumption) ?q1r3
          case q1y3 =>
            intro w' hSw
            (try dsimp only at hSw)
            go_split_ands
            simp only [List.getElem_toArray, List.getElem_cons_succ, List.getElem_cons_zero]
            go_simp
            all_goals (try with_reducible rfl)
          simp only [List.getElem_toArray, List.getElem_cons_succ, List.getElem_cons_zero, Act.put, List.setIfInBounds_toArray, List.set_cons_zero, List.set_cons_succ]
          refine anyI_take (i := 3) (oi := _) (v := ?q1v4) rfl (by as_aux_lemma => kernel_rfl) (by as_aux_lemma => kernel_rfl) (by as_aux_lemma => kernel_rfl) rfl (fun _ _ _ h => h) (Or.inl ⟨by rfl, ?q1y4⟩) (by assumption) ?q1r4
          case q1y4 =>
            intro w' hSw
            (try dsimp only at hSw)
            go_split_ands
            simp only [List.getElem_toArray, List.getElem_cons_succ, List.getElem_cons_zero]
            go_simp
            all_goals (try with_reducible rfl)
          simp only [List.getElem_toArray, List.getElem_cons_succ, List.getElem_cons_zero, Act.put, List.setIfInBounds_toArray, List.set_cons_zero, List.set_cons_succ]
          refine anyI_take (i := 4) (oi := _) (v := ?q1v5) rfl (by as_aux_lemma => kernel_rfl) (by as_aux_lemma => kernel_rfl) (by as_aux_lemma => kernel_rfl) rfl (fun _ _ _ h => h) (Or.inl ⟨by rfl, ?q1y5⟩) (by assumption) ?q1r5
          case q1y5 =>
            intro w' hSw
            (try dsimp only at hSw)
            go_split_ands
            simp only [List.getElem_toArray, List.getElem_cons_succ, List.getElem_cons_zero]
            go_simp
            all_goals (try with_reducible rfl)
          simp only [List.getElem_toArray, List.getElem_cons_succ, List.getElem_cons_zero, Act.put, List.setIfInBounds_toArray, List.set_cons_zero, List.set_cons_succ]
          refine anyI_take (i := 5) (oi := _) (v := ?q1v6) rfl (by as_aux_lemma => kernel_rfl) (by as_aux_lemma => kernel_rfl) (by as_aux_lemma => kernel_rfl) rfl (fun _ _ _ h => h) (Or.inl ⟨by rfl, ?q1y6⟩) (by assumption) ?q1r6
          case q1y6 =>
            intro w' hSw
            (try dsimp only at hSw)
            go_split_ands
            simp only [List.getElem_toArray, List.getElem_cons_succ, List.getElem_cons_zero]
            go_simp
            all_goals (try with_reducible rfl)
          simp only [List.getElem_toArray, List.getElem_cons_succ, List.getElem_cons_zero, Act.put, List.setIfInBounds_toArray, List.set_cons_zero, List.set_cons_succ]
          refine anyI_take (i := 6) (oi := _) (v := ?q1v7) rfl (by as_aux_lemma => kernel_rfl) (by as_aux_lemma => kernel_rfl) (by as_aux_lemma => kernel_rfl) rfl (fun _ _ _ h => h) (Or.inl ⟨by rfl, ?q1y7⟩) (by assumption) ?q1r7
          case q1y7 =>
            intro w' hSw
            (try dsimp only at hSw)
            go_split_ands
            simp only [List.getElem_toArray, List.getElem_cons_succ, List.getElem_cons_zero]
            go_simp
            all_goals (try with_reducible rfl)
          simp only [List.getElem_toArray, List.getElem_cons_succ, List.getElem_cons_zero, Act.put, List.setIfInBounds_toArray, List.set_cons_zero, List.set_cons_succ]
          refine anyI_take (i := 7) (oi := _) (v := ?q1v8) rfl (by as_aux_lemma => kernel_rfl) (by as_aux_lemma => kernel_rfl) (by as_aux_lemma => kernel_rfl) rfl (fun _ _ _ h => h) (Or.inl ⟨by rfl, ?q1y8⟩) (by assumption) ?q1r8
          case q1y8 =>
            intro w' hSw
            (try dsimp only at hSw)
            go_split_ands
            simp only [List.getElem_toArray, List.getElem_cons_succ, List.getElem_cons_zero]
            go_simp
            all_goals (try with_reducible rfl)
          simp only [List.getElem_toArray, List.getElem_cons_succ, List.getElem_cons_zero, Act.put, List.setIfInBounds_toArray, List.set_cons_zero, List.set_cons_succ]
          refine anyI_take (i := 8) (oi := _) (v := ?q1v9) rfl (by as_aux_lemma => kernel_rfl) (by as_aux_lemma => kernel_rfl) (by as_aux_lemma => kernel_rfl) rfl (fun _ _ _ h => h) (Or.inl ⟨by rfl, ?q1y9⟩) (by assumption) ?q1r9
          case q1y9 =>
            intro w' hSw
            (try dsimp only at hSw)
            go_split_ands
            simp only [List.getElem_toArray, List.getElem_cons_succ, List.getElem_cons_zero]
            go_simp
            all_goals (try with_reducible rfl)
          simp only [List.getElem_toArray, List.getElem_cons_succ, List.getElem_cons_zero, Act.put, List.setIfInBounds_toArray, List.set_cons_zero, List.set_cons_succ]
          refine anyI_take (i := 9) (oi := _) (v := ?q1v10) rfl (by as_aux_lemma => kernel_rfl) (by as_aux_lemma => kernel_rfl) (by as_aux_lemma => kernel_rfl) rfl (fun _ _ _ h => h) (Or.inl ⟨by rfl, ?q1y10⟩) (by assumption) ?q1r10
          case q1y10 =>
            intro w' hSw
            (try dsimp only at hSw)
            go_split_ands
            simp only [List.getElem_toArray, List.getElem_cons_succ, List.getElem_cons_zero]
            go_simp
            all_goals (try with_reducible rfl)
          simp only [List.getElem_toArray, List.getElem_cons_succ, List.getElem_cons_zero, Act.put, List.setIfInBounds_toArray, List.set_cons_zero, List.set_cons_succ]
          refine anyI_take (i := 10) (oi := _) (v := ?q1v11) rfl (by as_aux_lemma => kernel_rfl) (by as_aux_lemma => kernel_rfl) (by as_aux_lemma => kernel_rfl) rfl (fun _ _ _ h => h) (Or.inl ⟨by rfl, ?q1y11⟩) (by assumption) ?q1r11
          case q1y11 =>
            intro w' hSw
            (try dsimp only at hSw)
            go_split_ands
            simp only [List.getElem_toArray, List.getElem_cons_succ, List.getElem_cons_zero]
            go_simp
            all_goals (try with_reducible rfl)
          simp only [List.getElem_toArray, List.getElem_cons_succ, List.getElem_cons_zero, Act.put, List.setIfInBounds_toArray, List.set_cons_zero, List.set_cons_succ]
          refine anyI_take (i := 11) (oi := _) (v := ?q1v12) rfl (by as_aux_lemma => kernel_rfl) (by as_aux_lemma => kernel_rfl) (by as_aux_lemma => kernel_rfl) rfl (fun _ _ _ h => h) (Or.inl ⟨by rfl, ?q1y12⟩) (by assumption) ?q1r12
          case q1y12 =>
            intro w' hSw
            (try dsimp only at hSw)
            go_split_ands
            simp only [List.getElem_toArray, List.getElem_cons_succ, List.getElem_cons_zero]
            go_simp
            all_goals (try with_reducible rfl)
          simp only [List.getElem_toArray, List.getElem_cons_succ, List.getElem_cons_zero, Act.put, List.setIfInBounds_toArray, List.set_cons_zero, List.set_cons_succ]
          refine anyI_take (i := 12) (oi := _) (v := ?q1v13) rfl (by as_aux_lemma => kernel_rfl) (by as_aux_lemma => kernel_rfl) (by as_aux_lemma => kernel_rfl) rfl (fun _ _ _ h => h) (Or.inl ⟨by rfl, ?q1y13⟩) (by assumption) ?q1r13
          case q1y13 =>
            intro w' hSw
            (try dsimp only at hSw)
            go_split_ands
            simp only [List.getElem_toArray, List.getElem_cons_succ, List.getElem_cons_zero]
            go_simp
            all_goals (try with_reducible rfl)
          simp only [List.getElem_toArray, List.getElem_cons_succ, List.getElem_cons_zero, Act.put, List.setIfInBounds_toArray, List.set_cons_zero, List.set_cons_succ]
          refine anyI_ready (rs := [13]) (by as_aux_lemma => kernel_rfl) (by simp) ?_
          refine AllI.cons rfl rfl (fun K hK => ?_) AllI.nil
          simp only [List.getElem_toArray, List.getElem_cons_succ, List.getElem_cons_zero]
          go_simp
          have hS7 := HSal.out (.cells #[.int .i64 j] 3)
          clear hHeld
          refine hK.out _ _ hS7 (fun hHeld => ?_)
          clear hK K
          (try simp only [Act.put, List.setIfInBounds_toArray, List.set_cons_zero, List.set_cons_succ])
          refine anyI_ready (rs := [14]) (by as_aux_lemma => kernel_rfl) (by simp) ?_
          refine AllI.cons rfl rfl (fun K hK => ?_) AllI.nil
          simp only [List.getElem_toArray, List.getElem_cons_succ, List.getElem_cons_zero]
          rw [if_pos (by rfl)]
          refine wp_append_lies _ (.tmp 52) (.tmp 54) 24 rfl w3.heap.size 3 j0 (.int .i64 0) 1 8 Tryd.underlying24 ji jz0 jz1 jz2 rfl (by decide) _ _ _ (by simp [Act.eval]) (HOWN.out.alloc _) ⟨W'.heap.size, 0, none⟩ 1 1 (natC [j]) (by simp [Act.eval]) rfl (int_new _ _ _) (nat_one _) (by decide) (by unfold maxLen; omega) (by omega) (by simp; omega) _ rfl ?_; intro g9 c9 w9 hown9 hgrow9 hat9 _; replace hat9 := at_own (L := (nxK (mapG W H C) false k pre k).length + 1) (c := c9) hat9; have hS9 := XS.after (ws := ws) HXq.out hlt hown9 hgrow9 hat9 HBe.out HBi.out HFR.out hbIs; have hf9 := HXq.out.fz9 hlt hgrow9; have hN9 := Lib.hid ((HXq.out.alloc _).push hGE hlt hown9 hgrow9 hat9); have hU9 := Lib.hid (upd_of (a := GN) (j := k) (u := .slice (some ⟨g9, 0, none⟩) ((nxK (mapG W H C) false k pre k).length + 1) c9) hgrow9); have hT9 := Lib.hid hat9; clear hown9 hgrow9 hat9
          clear hHeld
          refine hK.out _ _ hS9 (fun hHeld => ?_)
          clear hK K
          (try simp only [Act.put, List.setIfInBounds_toArray, List.set_cons_zero, List.set_cons_succ])
          refine anyI_take (i := 15) (oi := _) (v := ?q1v16) rfl (by as_aux_lemma => kernel_rfl) (by as_aux_lemma => kernel_rfl) (by as_aux_lemma => kernel_rfl) rfl (fun _ _ _ h => h) (Or.inl ⟨by rfl, ?q1y16⟩) (by assumption) ?q1r16
          case q1y16 =>
            intro w' hSw
            (try dsimp only at hSw)
            go_split_ands
            simp only [List.getElem_toArray, List.getElem_cons_succ, List.getElem_cons_zero]
            go_simp
            all_goals (try with_reducible rfl)
          simp only [List.getElem_toArray, List.getElem_cons_succ, List.getElem_cons_zero, Act.put, List.setIfInBounds_toArray, List.set_cons_zero, List.set_cons_succ]
          refine anyI_last (by as_aux_lemma => kernel_rfl) (by as_aux_lemma => kernel_rfl) rfl (fun K hK => ?_)
          simp only [List.getElem_toArray, List.getElem_cons_succ, List.getElem_cons_zero]
          go_simp
          refine hK.out _ _ ?_
          clear hK K
          (try simp only [Act.put, List.setIfInBounds_toArray, List.set_cons_zero, List.set_cons_succ])
          show _ ∧ _ ∧ _
          obtain ⟨cur, hcur⟩ := HXq.out.rowAt
          have hend := ri_end (pre' := pre ++ [j]) HRI.out (⟨hU9.out.size, hU9.out.same⟩ : Upd GN (Sx k).ownBlock W' _) ⟨hbIs, by omega, by omega, by omega, by omega, by omega⟩ hcur (own_cl HOWN.out) (by decide) (by decide)
            ⟨fun e => by have := HFR.out _ e.symm; omega, fun e => by have := HFR.out _ e.symm; omega, fun e => by have := HFR.out _ e.symm; omega⟩
            ⟨_, vp, by rw [nxK_snoc, plK_plain]; have h9 := hN9.out; rw [plK_plain] at h9; exact h9, fun v h1 h2 => by have := HNL.out v h1 h2; simpa [show v ≠ k by omega] using this, fun i hi => by
              simp only [if_true] at hi
              rcases hT9.out with e | e
              · exact HFR.out i (e.trans hi)
              · rw [e] at hi
                have e2 := Option.some.inj hi
                rw [World.size_alloc] at e2
                show ws.heap.size ≤ i
                have e3 : W'.heap.size ≤ i := by rw [← e2]; exact Nat.le_succ _
                omega⟩
          rw [← HVS.out] at hend
          exact hend
        | true =>
          have hpl2 : (plK (mapG W H C) true k pre).length ≤ 300 := by have := plK_len (W := W) (H := H) (C := C) true k pre; omega
          gi_wp2
          · have hXd := (HX1.out.drewN q).drew
            have hkj : k < j := by omega
            have hS0 := And.intro dev (And.intro hXd.cell.2 didx)
            have HBe := Lib.hid (show Boxed (W'.drewN q).drew Be 69 (.pointer (some ⟨E, 0, none⟩)) from HEV.out)
            have HBi := Lib.hid (show Boxed (W'.drewN q).drew wr.heap.size 3 (.int .i64 k) from HID.out)
            have HSal := Lib.hid fun o => And.intro (HBe.out.alloc o).cell (And.intro (hXd.alloc o).cell.2 (HBi.out.alloc o).cell)
            have HOWN := Lib.hid hXd.ps
            have HXq := Lib.hid hXd
            have hw3E : E < w3.heap.size := by omega
            obtain ⟨j0, ji, jz0, jz1, jz2⟩ := info_parts Tryd.infoTwo
            clear hXd dce dst dev didx hfin HX1
            refine wpIn_round_last 12 (fun w' => w'.cell? ⟨Be, 0, none⟩ = some (.pointer (some ⟨E, 0, none⟩)) ∧ w'.cell? ⟨E, 4, none⟩ = some vp ∧ w'.cell? ⟨wr.heap.size, 0, none⟩ = some (.int .i64 k)) (by as_aux_lemma => kernel_rfl) (by as_aux_lemma => kernel_rfl) (by as_aux_lemma => kernel_rfl) (by as_aux_lemma => kernel_rfl) (by decide) hS0 (fun hHeld => ?_)
            refine anyI_take (i := 0) (oi := _) (v := ?q2v1) rfl (by as_aux_lemma => kernel_rfl) (by as_aux_lemma => kernel_rfl) (by as_aux_lemma => kernel_rfl) rfl (fun _ _ _ h => h) (Or.inl ⟨by rfl, ?q2y1⟩) (by assumption) ?q2r1
            case q2y1 =>
              intro w' hSw
              (try dsimp only at hSw)
              go_split_ands
              simp only [List.getElem_toArray, List.getElem_cons_zero]
              go_simp
              all_goals (try with_reducible rfl)
            simp only [List.getElem_toArray, List.getElem_cons_zero, Act.put, List.setIfInBounds_toArray, List.set_cons_zero, List.set_cons_succ]
            refine anyI_take (i := 1) (oi := _) (v := ?q2v2) rfl (by as_aux_lemma => kernel_rfl) (by as_aux_lemma => kernel_rfl) (by as_aux_lemma => kernel_rfl) rfl (fun _ _ _ h => h) (Or.inl ⟨by rfl, ?q2y2⟩) (by assumption) ?q2r2
            case q2y2 =>
              intro w' hSw
              (try dsimp only at hSw)
              go_split_ands
              simp only [List.getElem_toArray, List.getElem_cons_succ, List.getElem_cons_zero]
              go_simp
              all_goals (try with_reducible rfl)
            simp only [List.getElem_toArray, List.getElem_cons_succ, List.getElem_cons_zero, Act.put, List.setIfInBounds_toArray, List.set_cons_zero, List.set_cons_succ]
            refine anyI_take (i := 2) (oi := _) (v := ?q2v3) rfl (by as_aux_lemma => kernel_rfl) (by as_aux_lemma => kernel_rfl) (by as_aux_lemma => kernel_rfl) rfl (fun _ _ _ h => h) (Or.inl ⟨by rfl, ?q2y3⟩) (by assumption) ?q2r3
            case q2y3 =>
              intro w' hSw
              (try dsimp only at hSw)
              go_split_ands
              simp only [List.getElem_toArray, List.getElem_cons_succ, List.getElem_cons_zero]
              go_simp
              all_goals (try with_reducible rfl)
            simp only [List.getElem_toArray, List.getElem_cons_succ, List.getElem_cons_zero, Act.put, List.setIfInBounds_toArray, List.set_cons_zero, List.set_cons_succ]
            refine anyI_take (i := 3) (oi := _) (v := ?q2v4) rfl (by as_aux_lemma => kernel_rfl) (by as_aux_lemma => kernel_rfl) (by as_aux_lemma => kernel_rfl) rfl (fun _ _ _ h => h) (Or.inl ⟨by rfl, ?q2y4⟩) (by assumption) ?q2r4
            case q2y4 =>
              intro w' hSw
              (try dsimp only at hSw)
              go_split_ands
              simp only [List.getElem_toArray, List.getElem_cons_succ, List.getElem_cons_zero]
              go_simp
              all_goals (try with_reducible rfl)
            simp only [List.getElem_toArray, List.getElem_cons_succ, List.getElem_cons_zero, Act.put, List.setIfInBounds_toArray, List.set_cons_zero, List.set_cons_succ]
            refine anyI_take (i := 4) (oi := _) (v := ?q2v5) rfl (by as_aux_lemma => kernel_rfl) (by as_aux_lemma => kernel_rfl) (by as_aux_lemma => kernel_rfl) rfl (fun _ _ _ h => h) (Or.inl ⟨by rfl, ?q2y5⟩) (by assumption) ?q2r5
            case q2y5 =>
              intro w' hSw
              (try dsimp only at hSw)
              go_split_ands
              simp only [List.getElem_toArray, List.getElem_cons_succ, List.getElem_cons_zero]
              go_simp
              all_goals (try with_reducible rfl)
            simp only [List.getElem_toArray, List.getElem_cons_succ, List.getElem_cons_zero, Act.put, List.setIfInBounds_toArray, List.set_cons_zero, List.set_cons_succ]
            refine anyI_take (i := 5) (oi := _) (v := ?q2v6) rfl (by as_aux_lemma => kernel_rfl) (by as_aux_lemma => kernel_rfl) (by as_aux_lemma => kernel_rfl) rfl (fun _ _ _ h => h) (Or.inl ⟨by rfl, ?q2y6⟩) (by assumption) ?q2r6
            case q2y6 =>
              intro w' hSw
              (try dsimp only at hSw)
              go_split_ands
              simp only [List.getElem_toArray, List.getElem_cons_succ, List.getElem_cons_zero]
              go_simp
              all_goals (try with_reducible rfl)
            simp only [List.getElem_toArray, List.getElem_cons_succ, List.getElem_cons_zero, Act.put, List.setIfInBounds_toArray, List.set_cons_zero, List.set_cons_succ]
            refine anyI_take (i := 6) (oi := _) (v := ?q2v7) rfl (by as_aux_lemma => kernel_rfl) (by as_aux_lemma => kernel_rfl) (by as_aux_lemma => kernel_rfl) rfl (fun _ _ _ h => h) (Or.inl ⟨by rfl, ?q2y7⟩) (by assumption) ?q2r7
            case q2y7 =>
              intro w' hSw
              (try dsimp only at hSw)
              go_split_ands
              simp only [List.getElem_toArray, List.getElem_cons_succ, List.getElem_cons_zero]
              go_simp
              all_goals (try with_reducible rfl)
            simp only [List.getElem_toArray, List.getElem_cons_succ, List.getElem_cons_zero, Act.put, List.setIfInBounds_toArray, List.set_cons_zero, List.set_cons_succ]
            refine anyI_take (i := 7) (oi := _) (v := ?q2v8) rfl (by as_aux_lemma => kernel_rfl) (by as_aux_lemma => kernel_rfl) (by as_aux_lemma => kernel_rfl) rfl (fun _ _ _ h => h) (Or.inl ⟨by rfl, ?q2y8⟩) (by assumption) ?q2r8
            case q2y8 =>
              intro w' hSw
              (try dsimp only at hSw)
              go_split_ands
              simp only [List.getElem_toArray, List.getElem_cons_succ, List.getElem_cons_zero]
              go_simp
              all_goals (try with_reducible rfl)
            simp only [List.getElem_toArray, List.getElem_cons_succ, List.getElem_cons_zero, Act.put, List.setIfInBounds_toArray, List.set_cons_zero, List.set_cons_succ]
            refine anyI_ready (rs := [8]) (by as_aux_lemma => kernel_rfl) (by simp) ?_
            refine AllI.cons rfl rfl (fun K hK => ?_) AllI.nil
            simp only [List.getElem_toArray, List.getElem_cons_succ, List.getElem_cons_zero]
            go_simp
            have hS7 := HSal.out (.cells #[.int .i64 k, .int .i64 j] 84)
            clear hHeld
            refine hK.out _ _ hS7 (fun hHeld => ?_)
            clear hK K
            (try simp only [Act.put, List.setIfInBounds_toArray, List.set_cons_zero, List.set_cons_succ])
            refine anyI_ready (rs := [9]) (by as_aux_lemma => kernel_rfl) (by simp) ?_
            refine AllI.cons rfl rfl (fun K hK => ?_) AllI.nil
            simp only [List.getElem_toArray, List.getElem_cons_succ, List.getElem_cons_zero]
            rw [if_pos (by rfl)]
            refine wp_append_lies _ (.tmp 65) (.tmp 69) 78 rfl w3.heap.size 84 j0 (.agg #[.int .i64 0, .int .i64 0]) 2 16 Tryd.underlying78 ji jz0 jz1 jz2 rfl (by decide) _ _ _ (by simp [Act.eval]) (HOWN.out.alloc _) ⟨W'.heap.size, 0, none⟩ 1 1 (pairC [(k, j)]) (by simp [Act.eval]) rfl (pair_new _ _ _ _) (pair_one _) (by decide) (by unfold maxLen; omega) (by omega) (by simp; omega) _ rfl ?_; intro g9 c9 w9 hown9 hgrow9 _ _; have hS9f := XS.afterP HXq.out hgrow9 HBe.out HBi.out; have hf9 := hS9f.2; have hS9 := hS9f.1; have hN9 := Lib.hid ((HXq.out.alloc _).pair hw3E hown9 hgrow9); have hU9 := Lib.hid (upd_of (a := E) (j := 4) (u := .slice (some ⟨g9, 0, none⟩) ((plK (mapG W H C) true k pre).length + 1) c9) hgrow9); clear hown9 hgrow9 hS9f
            clear hHeld
            refine hK.out _ _ hS9 (fun hHeld => ?_)
            clear hK K
            (try simp only [Act.put, List.setIfInBounds_toArray, List.set_cons_zero, List.set_cons_succ])
            refine anyI_take (i := 10) (oi := _) (v := ?q2v11) rfl (by as_aux_lemma => kernel_rfl) (by as_aux_lemma => kernel_rfl) (by as_aux_lemma => kernel_rfl) rfl (fun _ _ _ h => h) (Or.inl ⟨by rfl, ?q2y11⟩) (by assumption) ?q2r11
            case q2y11 =>
              intro w' hSw
              (try dsimp only at hSw)
              go_split_ands
              simp only [List.getElem_toArray, List.getElem_cons_succ, List.getElem_cons_zero]
              go_simp
              all_goals (try with_reducible rfl)
            simp only [List.getElem_toArray, List.getElem_cons_succ, List.getElem_cons_zero, Act.put, List.setIfInBounds_toArray, List.set_cons_zero, List.set_cons_succ]
            refine anyI_take (i := 11) (oi := _) (v := ?q2v12) rfl (by as_aux_lemma => kernel_rfl) (by as_aux_lemma => kernel_rfl) (by as_aux_lemma => kernel_rfl) rfl (fun _ _ _ h => h) (Or.inl ⟨by rfl, ?q2y12⟩) (by assumption) ?q2r12
            case q2y12 =>
              intro w' hSw
              (try dsimp only at hSw)
              go_split_ands
              simp only [List.getElem_toArray, List.getElem_cons_succ, List.getElem_cons_zero]
              go_simp
              all_goals (try with_reducible rfl)
            simp only [List.getElem_toArray, List.getElem_cons_succ, List.getElem_cons_zero, Act.put, List.setIfInBounds_toArray, List.set_cons_zero, List.set_cons_succ]
            refine anyI_last (by as_aux_lemma => kernel_rfl) (by as_aux_lemma => kernel_rfl) rfl (fun K hK => ?_)
            simp only [List.getElem_toArray, List.getElem_cons_succ, List.getElem_cons_zero]
            go_simp
            refine hK.out _ _ ?_
            clear hK K
            (try simp only [Act.put, List.setIfInBounds_toArray, List.set_cons_zero, List.set_cons_succ])
            show _ ∧ _ ∧ _
            have hend := ri_end (pre' := pre ++ [j]) HRI.out (⟨hU9.out.size, hU9.out.same⟩ : Upd E vp.ownBlock W' _) ⟨hbIs, by omega, by omega, by omega, by omega, by omega⟩ HXq.out.box (own_cl HOWN.out) (by decide) (by decide)
              ⟨fun e => by obtain ⟨cs, hc⟩ := own_cl HOWN.out _ e.symm; have := hc.symm.trans HID.out; simp at this, fun e => by obtain ⟨cs, hc⟩ := own_cl HOWN.out _ e.symm; have := hc.symm.trans HRI.out.gr; simp at this, fun e => by obtain ⟨cs, hc⟩ := own_cl HOWN.out _ e.symm; have := hc.symm.trans HRI.out.cl; simp at this⟩
              ⟨Sx, _, by rw [plK_yes hkj, nxK_strict]; have h9 := hN9.out; rw [nxK_strict] at h9; exact h9, HNL.out, HFR.out⟩
            rw [← HVS.out] at hend
            exact hend
          · have hkj : ¬ k < j := by omega
            show _ ∧ _ ∧ _
            have hend : RI w w3 ws W H C true GN E wr.heap.size (wr.heap.size + 1) (wr.heap.size + 1 + 1) F k x (pre ++ [j]) (W'.drewN q) :=
              ⟨⟨Sx, vp, by rw [plK_no hkj, nxK_strict]; have h9 := HX1.out.drewN q; rw [nxK_strict] at h9; exact h9, HNL.out, HFR.out⟩, HRI.out.size, HRI.out.idx, HRI.out.gr, HRI.out.cl, HRI.out.old⟩
            rw [← HVS.out] at hend
            exact ⟨⟨Nat.le_refl _, fun _ _ _ h _ => h⟩, nbrK_refl _ _ _, hend⟩
      case done =>
        rintro D ys W' hD hys hI hK
        obtain ⟨⟨Sy, vy, hX, hnil, _⟩, hsz, hidx, hgr', hcl, hold⟩ := hI
        have har : (valsL ys).map (numG W H C) = (mapG W H C).ar k := by
          rw [hys, ← HLx.out]
          unfold mapG cellG
          simp only
          rw [HL.out, List.getD_eq_getElem?_getD, HXX.out]
          rfl
        rw [nxK_next strict har, plK_next strict har] at hX
        have HX2 := Lib.hid hX
        have HN2 := Lib.hid hnil
        clear hX hnil
        gi_wp2
        have hDn : D ∉ ms := fun h => by have := (hms2 D h).2; omega
        refine ⟨⟨k + 1, D :: ms, Sy, vy, _, _, _, _, _, _, _, _, _, _, rfl, by omega, List.nodup_cons.2 ⟨hDn, hnd⟩, fun r hr => ?_, HX2.out, fun v h1 h2 => HN2.out v (by omega) h2⟩, ?_⟩
        · rcases List.mem_cons.1 hr with rfl | hr
          · exact ⟨by omega, hK⟩
          · obtain ⟨h1, h2⟩ := hms2 r hr
            exact ⟨(hms r hr).1, hold r _ (by omega) h1 rfl⟩
        · simp [intOf]; omega
      case stop =>
        rintro D c pre W' _ _ h _
        exact h.elim
    · obtain rfl : k = F := by omega
      obtain ⟨avp, cvp, hvp⟩ := own_form hX.ps
      have dcel := hce.cell
      have dev := hev.cell
      have hXh := Lib.hid hX
      have e0 : wr.cell? ⟨E, 0, none⟩ = some (.int .i64 0) := by rw [cell_of_row _ _ _ _ _ _ hX.box]; rfl
      have e1 : wr.cell? ⟨E, 1, none⟩ = some (.int .i64 0) := by rw [cell_of_row _ _ _ _ _ _ hX.box]; rfl
      have e2 : wr.cell? ⟨E, 2, none⟩ = some (.int .i64 0) := by rw [cell_of_row _ _ _ _ _ _ hX.box]; rfl
      have e4 := hX.cell.2
      rw [hvp] at e4
      have f0 := hX.fe 0
      have f1 := hX.fe 1
      have f2 := hX.fe 2
      have HMS := Lib.hid hms
      have HVP := Lib.hid hvp
      clear hX hms hvp hnil hgr hst hce hev hin
      have hEB : E ≠ Be := by omega
      have hBE : Be ≠ E := by omega
      gi_wp2
      refine wpIn_wide.2 ?_
      go_still_tail 12, (by kernel_rfl)
      change wpList _ _ _ _ _ wr.drew
      go_wp2_with fail
      gi_wp2
      obtain ⟨hFB, hBf, hGf⟩ := fb_end (P := (plK (mapG W H C) strict k []).length) (T := T) hXh.out hbw (by omega) (by omega)
      show LeavesInM Fence.wide 6 Tryd.prog Tryd.f39 _ (ExpBack w k (plK (mapG W H C) strict k []).length T (nxK (mapG W H C) strict k []) (plK (mapG W H C) strict k [])) (ms.map markD) .returning _
      refine leavesMarksJ (v := .pointer (some ⟨E, 0, none⟩)) (fun w' => ?_) w (FBE w.heap.size E k (plK (mapG W H C) strict k []).length T GN (nxK (mapG W H C) strict k []) Sx (plK (mapG W H C) strict k []) vp) (fun W l o o' h hl ho => fb_put W l o o' h hl ho)
        (fun w' hj hb => ⟨E, GN, Sx, vp, rfl, ⟨hj.1, World.ownsRow_nil _ _ _ _, by omega⟩, hj.2.1, hj.2.2, hb⟩) ms _ hnd (fun r hr => ⟨(HMS.out r hr).1, (hGf.block r (Array.getElem?_eq_some_iff.1 (HMS.out r hr).2).1 (fun e => ?_)).trans (HMS.out r hr).2⟩) hBf.drew (fb_drew hFB)
      · exact results_tmp Tryd.results39 _ _ _
      · have h1 := (HMS.out r hr).2
        rw [Option.some.inj e, hXh.out.box] at h1
        cases h1

theorem implExpansion (W H : Int) (C : ByteArray) (T : Nat) (strict : Bool) (hC : C.size ≤ 1048576) (w : World) (hS : SidesAt w) :
    Calls Tryd.prog 39 #[.agg #[.int .i64 W, .int .i64 H, .string C], .int .i64 T, .bool strict] w (ExpBack w (mapG W H C).F (plK (mapG W H C) strict (mapG W H C).F []).length T (nxK (mapG W H C) strict (mapG W H C).F []) (plK (mapG W H C) strict (mapG W H C).F [])) :=
  callsIn_wide.1 (exp_in W H C T strict _ _ hC (Lib.hid rfl) rfl (Nat.le_trans (picks_len _ _) (Nat.min_le_right _ 64)) w hS)
/-- What the program has listed at the end. -/
theorem nxK_all (m : MapD) (strict : Bool) {v : Nat} (hv : v < m.F) : nxK m strict m.F [] v = if strict = true then [] else m.ar v := by
  unfold nxK
  rw [if_pos hv]
theorem plK_all (W H : Int) (C : ByteArray) (strict : Bool) : plK (mapG W H C) strict (mapG W H C).F [] = if strict = true then (mapG W H C).pl else [] := by
  unfold plK
  rw [plTo_all]
  simp

end Go.Proofs.YtnbbhdbcapfbkaaDoor

