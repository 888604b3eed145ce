/-
  The memory of the program's map of components: a map of slices that the call made. No law is proved here.
-/
import Derived.Maps.RangeWalk
import Derived.Maps.OwnSet
import Derived.Test.YtieipekhckambaaDoorMarks
import Derived.Test.YtieipekhckambaaDoorReachI
namespace Go.Proofs.YtieipekhckambaaDoor
set_option maxRecDepth 4096
open Go.ChangeShapes Go.WideShapes Go.ChangeAt Go.RowKit Go.Maps

theorem lawK : Keyed Tryd.prog 3 := int_keyed Tryd.underlying3
/-- An element of the map is read as the value that it is. -/
def Rv (v : Value) : Option (DataW Value × List MemPlace) := some (.held v, [])
theorem keyI {x : Int} (h : (Lit.int .i64 x).wf = true) : keyOf Tryd.prog 3 (.int .i64 x) = some (.int .i64 x) := keyOf_int_mk Tryd.underlying3 h
theorem zeroS (w : World) : (zeroValue 26).run Tryd.prog w = .ok (.slice none 0 0) w := by kernel_rfl
theorem infoB : (Tryd.prog.info? 4).map (fun i => (i.zero, i.size, i.bytes)) = some (some (.bool false), 1, 1) := by kernel_rfl

/-- A row of Booleans. -/
def rowB (o : Nat → Bool) (n : Nat) : List Value := (List.range n).map fun j => .bool (o j)
theorem rowB_len (o : Nat → Bool) (n : Nat) : (rowB o n).length = n := by simp [rowB]
theorem rowB_at (o : Nat → Bool) {n c : Nat} (h : c < n) : (rowB o n)[c]? = some (.bool (o c)) := by simp [rowB, h]
theorem rowB_eq {o o' : Nat → Bool} {n : Nat} (h : ∀ j, o j = o' j) : rowB o n = rowB o' n := by
  have : o = o' := funext h
  rw [this]
theorem rowB_none (n : Nat) : List.replicate n (Value.bool false) = rowB (fun _ => false) n := by
  unfold rowB
  rw [List.map_const', List.length_range]
theorem rowB_set {o o' : Nat → Bool} {n c : Nat} (h : ∀ j, o' j = (o j || decide (j = c))) : (rowB o n).set c (.bool true) = rowB o' n := by
  apply List.ext_getElem?
  intro j
  rw [List.getElem?_set]
  by_cases hj : j < n
  · rw [rowB_at _ hj, rowB_at _ hj, h]
    by_cases e : c = j
    · subst e
      rw [if_pos rfl, if_pos (by rw [rowB_len]; exact hj)]
      simp
    · rw [if_neg e]
      have : ¬ j = c := fun k => e k.symm
      simp [this]
  · have h1 : ∀ o : Nat → Bool, (rowB o n)[j]? = none := fun o => List.getElem?_eq_none_iff.2 (by rw [rowB_len]; omega)
    rw [h1, h1]
    split
    · rw [if_neg (by rw [rowB_len]; omega)]
    · rfl

/-- The map under way: the components of the cells S; which cells have been met (row G); the list that is visited. -/
structure CSt (W H : Int) (C : ByteArray) (B G base n : Nat) (S : List Int) (m : Nat) (o : Nat → Bool) (D : DataW Value) (va : Value) (L : List Int) (w : World) : Prop where
  map : w.ownsMap Tryd.prog 3 Rv B m D
  keys : ∀ x : Int, has D (.int .i64 x) = true ↔ x ∈ S ∧ homeV W H C x = x
  els : ∀ x : Int, x ∈ S → homeV W H C x = x → ∃ v, (∀ z, D.atKey (.int .i64 x) z = .held v) ∧ w.ownsRow base 3 1 v (reachL W H C x).length ((reachL W H C x).map (Value.int .i64))
  row : w.ownsRow G 4 1 (.slice (some ⟨G, 0, none⟩) n n) n (rowB o n)
  lst : w.ownsRow base 3 1 va L.length (L.map (Value.int .i64))
  lo : B < G ∧ G < base ∧ base ≤ w.heap.size

section
variable {W H : Int} {C : ByteArray} {B G base n m : Nat} {S : List Int} {o : Nat → Bool} {D : DataW Value} {va : Value} {L : List Int} {w w' : World}
theorem own_far {base r : Nat} {e : TypeId} {k : Nat} {v : Value} {xs : List Value} {w w' : World} (h : w.ownsRow base e 1 v k xs) (g : w.grownBy w' (some r)) (hr : r < base) : w'.ownsRow base e 1 v k xs :=
  h.kept g (by
    cases hv : v.ownBlock with
    | none => exact .inl rfl
    | some j => exact .inr (fun e => by have := (h.lt j hv).1; have := Option.some.inj e; omega))
theorem CSt.grown (h : CSt W H C B G base n S m o D va L w) (g : w.grownBy w' none) : CSt W H C B G base n S m o D va L w' :=
  ⟨h.map.kept g (by simp), h.keys, fun x hx he => by
      obtain ⟨v, h1, h2⟩ := h.els x hx he
      exact ⟨v, h1, h2.kept g (by cases hv : v.ownBlock with | none => exact .inl rfl | some j => exact .inr (by simp))⟩,
    h.row.kept g (.inr (by simp [Value.ownBlock])), h.lst.kept g (by cases hv : va.ownBlock with | none => exact .inl rfl | some j => exact .inr (by simp)),
    h.lo.1, h.lo.2.1, Nat.le_trans h.lo.2.2 g.size⟩
theorem below_grown (h : Below w.heap.size w w') : w.grownBy w' none := ⟨h.os, h.tape, h.output, h.size, fun i hi _ => h.block i hi⟩
theorem CSt.below (h : CSt W H C B G base n S m o D va L w) (g : Below w.heap.size w w') : CSt W H C B G base n S m o D va L w' := h.grown (below_grown g)
/-- A cell is met. -/
theorem CSt.stored (h : CSt W H C B G base n S m o D va L w) (c : Nat) {o' : Nat → Bool} (ho : ∀ j, o' j = (o j || decide (j = c))) : CSt W H C B G base n S m o' D va L (w.setCell ⟨G, c, none⟩ (.bool true)) ∧ w.grownBy (w.setCell ⟨G, c, none⟩ (.bool true)) (some G) := by
  obtain ⟨h1, h2⟩ := h.row.stored c (.bool true)
  rw [rowB_set ho] at h1
  have hne : B ≠ G := by have := h.lo.1; omega
  refine ⟨⟨h.map.kept h2 (fun e => hne (Option.some.inj e)), h.keys, fun x hx he => ?_, h1, own_far h.lst h2 h.lo.2.1, h.lo.1, h.lo.2.1, Nat.le_trans h.lo.2.2 h2.size⟩, h2⟩
  obtain ⟨v, e1, e2⟩ := h.els x hx he
  exact ⟨v, e1, own_far e2 h2 h.lo.2.1⟩
/-- A cell that is not its own home adds nothing. -/
theorem CSt.skip (h : CSt W H C B G base n S m o D va L w) {c : Int} (hc : ¬ homeV W H C c = c) (ho : o = metP W H C S) : CSt W H C B G base n (S ++ [c]) (m + 1) (metP W H C (S ++ [c])) D va L w := by
  subst ho
  rw [met_old hc]
  refine ⟨h.map.mono (Nat.le_succ m), fun x => ?_, fun x hx he => ?_, h.row, h.lst, h.lo⟩
  · rw [h.keys x, List.mem_append, List.mem_singleton]
    constructor
    · rintro ⟨h1, h2⟩; exact ⟨.inl h1, h2⟩
    · rintro ⟨h1 | rfl, h2⟩
      · exact ⟨h1, h2⟩
      · exact absurd h2 hc
  · rcases List.mem_append.1 hx with h1 | h1
    · exact h.els x h1 he
    · rw [List.mem_singleton] at h1
      subst h1
      exact absurd he hc
/-- A component is stored at its home. -/
theorem CSt.put (h : CSt W H C B G base n S m o D va L w) {c : Int} (hc : homeV W H C c = c) {v : Value} (hv : w.ownsRow base 3 1 v (reachL W H C c).length ((reachL W H C c).map (Value.int .i64)))
    (hm : w'.ownsMap Tryd.prog 3 Rv B (m + 1) (D.put (.int .i64 c) (.held v))) (g : w.grownBy w' (some B)) :
    CSt W H C B G base n (S ++ [c]) (m + 1) o (D.put (.int .i64 c) (.held v)) va L w' ∧ w'.ownsRow base 3 1 v (reachL W H C c).length ((reachL W H C c).map (Value.int .i64)) := by
  have hB : B < base := by have := h.lo; omega
  have hk : WideAt.IsKeyLit (.int .i64 c) := trivial
  have hv2 := own_far hv g hB
  refine ⟨⟨hm, fun x => ?_, fun x hx he => ?_, h.row.kept g (.inr (fun e => ?_)), own_far h.lst g hB, h.lo.1, h.lo.2.1, Nat.le_trans h.lo.2.2 g.size⟩, hv2⟩
  · rw [List.mem_append, List.mem_singleton]
    by_cases e : x = c
    · subst e
      rw [has_put_same h.map.isMap hk]
      exact ⟨fun _ => ⟨.inr rfl, hc⟩, fun _ => rfl⟩
    · rw [has_put_other (fun k => e (by injection k)), h.keys x]
      constructor
      · rintro ⟨h1, h2⟩; exact ⟨.inl h1, h2⟩
      · rintro ⟨h1 | h1, h2⟩
        · exact ⟨h1, h2⟩
        · exact absurd h1 e
  · by_cases e : x = c
    · subst e
      exact ⟨v, fun z => atKey_put_same h.map.isMap hk _ z, hv2⟩
    · rcases List.mem_append.1 hx with h1 | h1
      · obtain ⟨u, e1, e2⟩ := h.els x h1 he
        exact ⟨u, fun z => (atKey_put_other (fun k => e (by injection k)) _ z).trans (e1 z), own_far e2 g hB⟩
      · rw [List.mem_singleton] at h1
        exact absurd h1 e
  · have h1 : G = B := by simpa [Value.ownBlock] using e
    have := h.lo.1
    omega
theorem CSt.met (h : CSt W H C B G base n S m o D va L w) {j : Nat} (hj : j < n) : w.cell? ⟨G, j, none⟩ = some (.bool (o j)) := by
  have := h.row.cells (g := G) rfl j (.bool (o j)) (rowB_at o hj)
  have hadd : (⟨G, 0, none⟩ : Addr).add j = ⟨G, j, none⟩ := by unfold Addr.add; split <;> simp_all
  rwa [hadd] at this
end

/-- The map of the components, read. -/
structure Comp (W H : Int) (C : ByteArray) (B : Nat) (D : DataW Value) (w : World) : Prop where
  map : w.ownsMap Tryd.prog 3 Rv B 64 D
  keys : ∀ x : Int, has D (.int .i64 x) = true ↔ x ∈ homesL W H C
  els : ∀ x : Int, x ∈ homesL W H C → ∃ v, (∀ z, D.atKey (.int .i64 x) z = .held v) ∧ Ints w v (reachL W H C x)
theorem Comp.below {W H : Int} {C : ByteArray} {B : Nat} {D : DataW Value} {w w' : World} (h : Comp W H C B D w) (g : Below w.heap.size w w') : Comp W H C B D w' :=
  ⟨h.map.kept (below_grown g) (by simp), h.keys, fun x hx => by
    obtain ⟨v, h1, h2⟩ := h.els x hx
    exact ⟨v, h1, ints_on h2 g⟩⟩
theorem CSt.comp {W H : Int} {C : ByteArray} {B G base n m : Nat} {S : List Int} {o : Nat → Bool} {D : DataW Value} {va : Value} {L : List Int} {w : World} (h : CSt W H C B G base n S m o D va L w) (hS : S = freeL W H C) (hm : m ≤ 64) : Comp W H C B D w := by
  subst hS
  exact ⟨h.map.mono hm, fun x => (h.keys x).trans homesL_iff.symm, fun x hx => by
    obtain ⟨h1, h2⟩ := homesL_iff.1 hx
    obtain ⟨v, e1, e2⟩ := h.els x h1 h2
    exact ⟨v, e1, ints_of_own e2⟩⟩

end Go.Proofs.YtieipekhckambaaDoor
