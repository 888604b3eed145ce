/-
  The memory of the program's map of components: a map of slices that the call made. No law is proved here.
  CONTRACT of the program's componentsOf. No law is proved here.
-/
import Derived.Maps.RangeWalk
import Derived.Maps.OwnSet
import Derived.Test.YtieipekhckambaaDoorMarks
import Derived.Test.YtieipekhckambaaDoorReachI
import Derived.Test.YtieipekhckambaaDoorWithF
namespace Go.Proofs.YtieipekhckambaaDoor
set_option maxRecDepth 4096
open Go.ChangeShapes Go.WideShapes Go.ChangeAt Go.RowKit Go.Maps

theorem lawK : Keyed Tryd.prog 3 := int_keyed Tryd.underlying3
/-- An element of the map is read as the value that it is. -/
def Rv (v : Value) : Option (DataW Value × List MemPlace) := some (.held v, [])
theorem keyI {x : Int} (h : (Lit.int .i64 x).wf = true) : keyOf Tryd.prog 3 (.int .i64 x) = some (.int .i64 x) := keyOf_int_mk Tryd.underlying3 h
theorem zeroS (w : World) : (zeroValue 26).run Tryd.prog w = .ok (.slice none 0 0) w := by kernel_rfl
theorem infoB : (Tryd.prog.info? 4).map (fun i => (i.zero, i.size, i.bytes)) = some (some (.bool false), 1, 1) := by kernel_rfl

/-- A row of Booleans. -/
def rowB (o : Nat → Bool) (n : Nat) : List Value := (List.range n).map fun j => .bool (o j)
theorem rowB_len (o : Nat → Bool) (n : Nat) : (rowB o n).length = n := by simp [rowB]
theorem rowB_at (o : Nat → Bool) {n c : Nat} (h : c < n) : (rowB o n)[c]? = some (.bool (o c)) := by simp [rowB, h]
theorem rowB_eq {o o' : Nat → Bool} {n : Nat} (h : ∀ j, o j = o' j) : rowB o n = rowB o' n := by
  have : o = o' := funext h
  rw [this]
theorem rowB_none (n : Nat) : List.replicate n (Value.bool false) = rowB (fun _ => false) n := by
  unfold rowB
  rw [List.map_const', List.length_range]
theorem rowB_set {o o' : Nat → Bool} {n c : Nat} (h : ∀ j, o' j = (o j || decide (j = c))) : (rowB o n).set c (.bool true) = rowB o' n := by
  apply List.ext_getElem?
  intro j
  rw [List.getElem?_set]
  by_cases hj : j < n
  · rw [rowB_at _ hj, rowB_at _ hj, h]
    by_cases e : c = j
    · subst e
      rw [if_pos rfl, if_pos (by rw [rowB_len]; exact hj)]
      simp
    · rw [if_neg e]
      have : ¬ j = c := fun k => e k.symm
      simp [this]
  · have h1 : ∀ o : Nat → Bool, (rowB o n)[j]? = none := fun o => List.getElem?_eq_none_iff.2 (by rw [rowB_len]; omega)
    rw [h1, h1]
    split
    · rw [if_neg (by rw [rowB_len]; omega)]
    · rfl

/-- The map under way: the components of the cells S; which cells have been met (row G); the list that is visited. -/
structure CSt (W H : Int) (C : ByteArray) (B G base n : Nat) (S : List Int) (m : Nat) (o : Nat → Bool) (D : DataW Value) (va : Value) (L : List Int) (w : World) : Prop where
  map : w.ownsMap Tryd.prog 3 Rv B m D
  keys : ∀ x : Int, has D (.int .i64 x) = true ↔ x ∈ S ∧ homeV W H C x = x
  els : ∀ x : Int, x ∈ S → homeV W H C x = x → ∃ v, (∀ z, D.atKey (.int .i64 x) z = .held v) ∧ w.ownsRow base 3 1 v (reachL W H C x).length ((reachL W H C x).map (Value.int .i64))
  row : w.ownsRow G 4 1 (.slice (some ⟨G, 0, none⟩) n n) n (rowB o n)
  lst : w.ownsRow base 3 1 va L.length (L.map (Value.int .i64))
  lo : B < G ∧ G < base ∧ base ≤ w.heap.size

section
variable {W H : Int} {C : ByteArray} {B G base n m : Nat} {S : List Int} {o : Nat → Bool} {D : DataW Value} {va : Value} {L : List Int} {w w' : World}
theorem own_far {base r : Nat} {e : TypeId} {k : Nat} {v : Value} {xs : List Value} {w w' : World} (h : w.ownsRow base e 1 v k xs) (g : w.grownBy w' (some r)) (hr : r < base) : w'.ownsRow base e 1 v k xs :=
  h.kept g (by
    cases hv : v.ownBlock with
    | none => exact .inl rfl
    | some j => exact .inr (fun e => by have := (h.lt j hv).1; have := Option.some.inj e; omega))
theorem CSt.grown (h : CSt W H C B G base n S m o D va L w) (g : w.grownBy w' none) : CSt W H C B G base n S m o D va L w' :=
  ⟨h.map.kept g (by simp), h.keys, fun x hx he => by
      obtain ⟨v, h1, h2⟩ := h.els x hx he
      exact ⟨v, h1, h2.kept g (by cases hv : v.ownBlock with | none => exact .inl rfl | some j => exact .inr (by simp))⟩,
    h.row.kept g (.inr (by simp [Value.ownBlock])), h.lst.kept g (by cases hv : va.ownBlock with | none => exact .inl rfl | some j => exact .inr (by simp)),
    h.lo.1, h.lo.2.1, Nat.le_trans h.lo.2.2 g.size⟩
theorem below_grown (h : Below w.heap.size w w') : w.grownBy w' none := ⟨h.os, h.tape, h.output, h.size, fun i hi _ => h.block i hi⟩
theorem CSt.below (h : CSt W H C B G base n S m o D va L w) (g : Below w.heap.size w w') : CSt W H C B G base n S m o D va L w' := h.grown (below_grown g)
/-- A cell is met. -/
theorem CSt.stored (h : CSt W H C B G base n S m o D va L w) (c : Nat) {o' : Nat → Bool} (ho : ∀ j, o' j = (o j || decide (j = c))) : CSt W H C B G base n S m o' D va L (w.setCell ⟨G, c, none⟩ (.bool true)) ∧ w.grownBy (w.setCell ⟨G, c, none⟩ (.bool true)) (some G) := by
  obtain ⟨h1, h2⟩ := h.row.stored c (.bool true)
  rw [rowB_set ho] at h1
  have hne : B ≠ G := by have := h.lo.1; omega
  refine ⟨⟨h.map.kept h2 (fun e => hne (Option.some.inj e)), h.keys, fun x hx he => ?_, h1, own_far h.lst h2 h.lo.2.1, h.lo.1, h.lo.2.1, Nat.le_trans h.lo.2.2 h2.size⟩, h2⟩
  obtain ⟨v, e1, e2⟩ := h.els x hx he
  exact ⟨v, e1, own_far e2 h2 h.lo.2.1⟩
/-- A cell that is not its own home adds nothing. -/
theorem CSt.skip (h : CSt W H C B G base n S m o D va L w) {c : Int} (hc : ¬ homeV W H C c = c) (ho : o = metP W H C S) : CSt W H C B G base n (S ++ [c]) (m + 1) (metP W H C (S ++ [c])) D va L w := by
  subst ho
  rw [met_old hc]
  refine ⟨h.map.mono (Nat.le_succ m), fun x => ?_, fun x hx he => ?_, h.row, h.lst, h.lo⟩
  · rw [h.keys x, List.mem_append, List.mem_singleton]
    constructor
    · rintro ⟨h1, h2⟩; exact ⟨.inl h1, h2⟩
    · rintro ⟨h1 | rfl, h2⟩
      · exact ⟨h1, h2⟩
      · exact absurd h2 hc
  · rcases List.mem_append.1 hx with h1 | h1
    · exact h.els x h1 he
    · rw [List.mem_singleton] at h1
      subst h1
      exact absurd he hc
/-- A component is stored at its home. -/
theorem CSt.put (h : CSt W H C B G base n S m o D va L w) {c : Int} (hc : homeV W H C c = c) {v : Value} (hv : w.ownsRow base 3 1 v (reachL W H C c).length ((reachL W H C c).map (Value.int .i64)))
    (hm : w'.ownsMap Tryd.prog 3 Rv B (m + 1) (D.put (.int .i64 c) (.held v))) (g : w.grownBy w' (some B)) :
    CSt W H C B G base n (S ++ [c]) (m + 1) o (D.put (.int .i64 c) (.held v)) va L w' ∧ w'.ownsRow base 3 1 v (reachL W H C c).length ((reachL W H C c).map (Value.int .i64)) := by
  have hB : B < base := by have := h.lo; omega
  have hk : WideAt.IsKeyLit (.int .i64 c) := trivial
  have hv2 := own_far hv g hB
  refine ⟨⟨hm, fun x => ?_, fun x hx he => ?_, h.row.kept g (.inr (fun e => ?_)), own_far h.lst g hB, h.lo.1, h.lo.2.1, Nat.le_trans h.lo.2.2 g.size⟩, hv2⟩
  · rw [List.mem_append, List.mem_singleton]
    by_cases e : x = c
    · subst e
      rw [has_put_same h.map.isMap hk]
      exact ⟨fun _ => ⟨.inr rfl, hc⟩, fun _ => rfl⟩
    · rw [has_put_other (fun k => e (by injection k)), h.keys x]
      constructor
      · rintro ⟨h1, h2⟩; exact ⟨.inl h1, h2⟩
      · rintro ⟨h1 | h1, h2⟩
        · exact ⟨h1, h2⟩
        · exact absurd h1 e
  · by_cases e : x = c
    · subst e
      exact ⟨v, fun z => atKey_put_same h.map.isMap hk _ z, hv2⟩
    · rcases List.mem_append.1 hx with h1 | h1
      · obtain ⟨u, e1, e2⟩ := h.els x h1 he
        exact ⟨u, fun z => (atKey_put_other (fun k => e (by injection k)) _ z).trans (e1 z), own_far e2 g hB⟩
      · rw [List.mem_singleton] at h1
        exact absurd h1 e
  · have h1 : G = B := by simpa [Value.ownBlock] using e
    have := h.lo.1
    omega
theorem CSt.met (h : CSt W H C B G base n S m o D va L w) {j : Nat} (hj : j < n) : w.cell? ⟨G, j, none⟩ = some (.bool (o j)) := by
  have := h.row.cells (g := G) rfl j (.bool (o j)) (rowB_at o hj)
  have hadd : (⟨G, 0, none⟩ : Addr).add j = ⟨G, j, none⟩ := by unfold Addr.add; split <;> simp_all
  rwa [hadd] at this
end

/-- The map of the components, read. -/
structure Comp (W H : Int) (C : ByteArray) (B : Nat) (D : DataW Value) (w : World) : Prop where
  map : w.ownsMap Tryd.prog 3 Rv B 64 D
  keys : ∀ x : Int, has D (.int .i64 x) = true ↔ x ∈ homesL W H C
  els : ∀ x : Int, x ∈ homesL W H C → ∃ v, (∀ z, D.atKey (.int .i64 x) z = .held v) ∧ Ints w v (reachL W H C x)
theorem Comp.below {W H : Int} {C : ByteArray} {B : Nat} {D : DataW Value} {w w' : World} (h : Comp W H C B D w) (g : Below w.heap.size w w') : Comp W H C B D w' :=
  ⟨h.map.kept (below_grown g) (by simp), h.keys, fun x hx => by
    obtain ⟨v, h1, h2⟩ := h.els x hx
    exact ⟨v, h1, ints_on h2 g⟩⟩
theorem CSt.comp {W H : Int} {C : ByteArray} {B G base n m : Nat} {S : List Int} {o : Nat → Bool} {D : DataW Value} {va : Value} {L : List Int} {w : World} (h : CSt W H C B G base n S m o D va L w) (hS : S = freeL W H C) (hm : m ≤ 64) : Comp W H C B D w := by
  subst hS
  exact ⟨h.map.mono hm, fun x => (h.keys x).trans homesL_iff.symm, fun x hx => by
    obtain ⟨h1, h2⟩ := homesL_iff.1 hx
    obtain ⟨v, e1, e2⟩ := h.els x h1 h2
    exact ⟨v, e1, ints_of_own e2⟩⟩

end Go.Proofs.YtieipekhckambaaDoor

namespace Go.Proofs.YtieipekhckambaaDoor
set_option maxRecDepth 4096
open Go.ChangeShapes Go.WideShapes Go.ChangeAt Go.RowKit Go.Maps

/-- What componentsOf hands back. -/
def CompOut (W H : Int) (C : ByteArray) (w : World) (e : Ending) (w' : World) : Prop :=
  ∃ B D, e = .returned (.map (some B)) ∧ w.heap.size ≤ B ∧ Comp W H C B D w' ∧ Below w.heap.size w w'

theorem freeL_few64 (W H : Int) (C : ByteArray) : (freeL W H C).length ≤ 64 := Nat.le_trans (picks_len _ _) (Nat.min_le_right _ _)
theorem comp_start {W H : Int} {C : ByteArray} {B : Nat} {w w1 w2 : World} {va : Value} {L : List Int} {n : Nat} {o : Nat → Bool} (ho : ∀ j, o j = false)
    (hm : w.ownsMap Tryd.prog 3 Rv B 0 (.map [])) (hB : B < w.heap.size) (hrow : w1.ownsRow w.heap.size 4 1 (.slice (some ⟨w.heap.size, 0, none⟩) n n) n (madeCells (Value.bool false).cells (n * 1)).toList) (hg : w.grownBy w1 none)
    (hL : w2.ownsRow w1.heap.size 3 1 va L.length (L.map (Value.int .i64))) (hb : Below w1.heap.size w1 w2) :
    CSt W H C B w.heap.size w1.heap.size n [] 0 o (.map []) va L w2 := by
  have h1 := hrow.lt w.heap.size rfl
  refine ⟨(hm.kept hg (by simp)).kept (below_grown hb) (by simp), fun x => ⟨fun h => (by cases h), fun h => (by cases h.1)⟩, fun x hx => (by cases hx), ?_, hL, hB, h1.2, hb.size⟩
  have e : rowB o n = (madeCells (Value.bool false).cells (n * 1)).toList := by
    rw [Nat.mul_one]
    exact ((rowB_eq ho).trans (rowB_none n).symm).trans (toList_madeCells_one _ _).symm
  rw [e]
  exact hrow.kept (below_grown hb) (.inr (by simp [Value.ownBlock]))

theorem keyLit (x : Int) : WideAt.IsKeyLit (.int .i64 x) := trivial
theorem comp_look {B m : Nat} {D : DataW Value} {w : World} {x : Int} {v : Value} (h : w.ownsMap Tryd.prog 3 Rv B m D) (hx : (Lit.int .i64 x).wf = true) (hat : ∀ z, D.atKey (.int .i64 x) z = .held v) :
    (Instr.lookup 53 (.map (some B)) (.int .i64 x) false).run Tryd.prog w = .ok v w := by
  obtain ⟨u, ps, hrun, hu⟩ := h.lookup lawK Tryd.underlying53 (zeroS w) (zd := .held (.slice none 0 0)) (zp := []) rfl (keyI hx)
  rw [hat] at hu
  cases hu
  exact hrun
theorem comp_look_no {B m : Nat} {D : DataW Value} {w : World} {x : Int} (h : w.ownsMap Tryd.prog 3 Rv B m D) (hx : (Lit.int .i64 x).wf = true) (hno : has D (.int .i64 x) = false) :
    (Instr.lookup 53 (.map (some B)) (.int .i64 x) false).run Tryd.prog w = .ok (.slice none 0 0) w := by
  obtain ⟨u, ps, hrun, hu⟩ := h.lookup lawK Tryd.underlying53 (zeroS w) (zd := .held (.slice none 0 0)) (zp := []) rfl (keyI hx)
  rw [atKey_of_not_has hno] at hu
  cases hu
  exact hrun
theorem CSt.same {W H : Int} {C : ByteArray} {B G base n m : Nat} {S : List Int} {o o' : Nat → Bool} {D : DataW Value} {va : Value} {L : List Int} {w : World} (h : CSt W H C B G base n S m o D va L w) (ho : ∀ j, o' j = o j) : CSt W H C B G base n S m o' D va L w := by
  have : o' = o := funext ho
  rw [this]
  exact h
/-- What has been met when q cells of a component have been marked. -/
def upTo (o : Nat → Bool) (R : List Int) (q : Nat) (j : Nat) : Bool := o j || (R.take q).contains (j : Int)
theorem upTo_start (o : Nat → Bool) (R : List Int) (j : Nat) : upTo o R 0 j = o j := by simp [upTo]
theorem upTo_next {o : Nat → Bool} {R : List Int} {q d : Nat} (h : R[q]? = some (d : Int)) (j : Nat) : upTo o R (q + 1) j = (upTo o R q j || decide (j = d)) := by
  unfold upTo
  rw [take_snoc h, Bool.or_assoc, Bool.eq_iff_iff]
  simp only [Bool.or_eq_true, List.contains_iff_mem, List.mem_append, List.mem_singleton, decide_eq_true_eq]
  rw [show ((j : Int) = (d : Int)) ↔ j = d from by omega]
theorem upTo_end (o : Nat → Bool) (R : List Int) (j : Nat) : upTo o R R.length j = (o j || R.contains (j : Int)) := by simp [upTo]

set_option maxHeartbeats 2000000 in
theorem componentsI (W H : Int) (C : ByteArray) (hC : C.size ≤ 1048576) (w : World) (hS : SidesAt w) :
    Calls Tryd.prog 31 #[.agg #[.int .i64 W, .int .i64 H, .string C]] w (CompOut W H C w) := by
  obtain ⟨i0, hi, hz0, hz1, hz2⟩ := info_parts infoB
  have hmm := @run_makeMap Tryd.prog
  obtain ⟨L, HL⟩ : ∃ L, Hid (freeL W H C = L) := ⟨_, rfl⟩
  have hLl : L.length ≤ 64 := by rw [← HL.out]; exact freeL_few64 W H C
  have hB := Below.refl (w.alloc (.cells #[.int .i64 W, .int .i64 H, .string C] 25)).heap.size (w.alloc (.cells #[.int .i64 W, .int .i64 H, .string C] 25))
  have hM := World.ownsMap_made (w.alloc (.cells #[.int .i64 W, .int .i64 H, .string C] 25)) Tryd.prog 3 Rv
  have hB1 := hB.alloc (Nat.le_refl _) (.map #[] 0)
  have HS := Lib.hid hS
  clear hS hB
  obtain ⟨cb0, cb1, cb2⟩ := box_cells hB1
  go_enter Tryd.func31, Tryd.ntmps31
  go_wp2_with (at_make; refine wpList_make_full _ rfl (.tmp 12) (.tmp 12) 68 rfl _ 4 i0 (.bool false) 1 Tryd.underlying68 hi hz0 hz1 .i64 .i64 C.size C.size C.size rfl rfl rfl rfl (by rw [hz2]; omega) (by unfold maxLen; omega) (Nat.le_refl _) ?_; intro w1 hrow hg1; have hB2 := hB1.grown hg1 hB1.size (fun j hj => (by cases hj)); obtain ⟨c0, c1, c2⟩ := box_cells hB2; clear cb0 cb1 cb2 hmm)
  refine (implFreeCells W H C L hC HL _).mono ?_
  rintro e w2 ⟨va, rfl, hlst, hb⟩
  replace hB2 := chain hB2 hb
  have hc := comp_start (W := W) (H := H) (C := C) (o := metP W H C []) (fun j => congrFun met_none j) hM (by simp) hrow hg1 hlst hb
  simp only [World.size_alloc] at hc
  have HC := Lib.hid hc
  clear hM hrow hg1 hlst hb c0 c1 c2 hB1 hc
  obtain ⟨aa, ca, rfl⟩ := own_form HC.out.lst
  have HBH := Lib.hid hB2
  generalize w1.heap.size = base at HC
  clear hB2
  go_wp2_with fail
  go_loopw [17] (fun i wr => ∃ k : Nat, k ≤ L.length ∧ i = .int .i64 k ∧ (∃ D, CSt W H C (w.heap.size + 1) (w.heap.size + 1 + 1) base C.size (L.take k) k (metP W H C (L.take k)) D (.slice aa L.length ca) L wr) ∧ Below (w.alloc (.cells #[.int .i64 W, .int .i64 H, .string C] 25)).heap.size (w.alloc (.cells #[.int .i64 W, .int .i64 H, .string C] 25)) wr) (fun i _ => L.length - (intOf i).toNat)
  case atStart => exact ⟨0, Nat.zero_le _, rfl, ⟨_, HC.out⟩, HBH.out⟩
  case round =>
    clear HC HBH
    obtain ⟨k, hk, rfl, ⟨D, hst⟩, hB⟩ := hrel
    by_cases hlt : k < L.length
    · obtain ⟨x, hx⟩ : ∃ x, L[k]? = some x := ⟨_, List.getElem?_eq_getElem hlt⟩
      have hx' : (freeL W H C)[k]? = some x := by rw [HL.out]; exact hx
      have hf : freeV W H C x = true := freeL_mem.1 (List.mem_of_getElem? hx')
      obtain ⟨hg, c, rfl, hcn⟩ := free_in hf
      have hmet := met_here hx'
      rw [HL.out] at hmet
      obtain ⟨a', c', e0, HV⟩ := ints_form (ints_of_own hst.lst)
      cases e0
      rcases HV with h0 | ⟨g, rfl, hgl, hc⟩
      · omega
      · have d0 := hc k _ hx
        have d1 := hst.met hcn
        rw [hmet] at d1
        have hlt2 : (k : Int) < (L.length : Int) := by omega
        have hcn2 : (c : Int) < (C.size : Int) := by omega
        have HX := Lib.hid hx
        have HF := Lib.hid hf
        have HST := Lib.hid hst
        clear hc hx hx' hf hmet hst
        by_cases hh : homeV W H C c = c
        · have d2 : wr.cell? ⟨w.heap.size + 1 + 1, c, none⟩ = some (.bool false) := by rw [d1]; simp [hh]
          have HH := Lib.hid hh
          clear d1 hh
          obtain ⟨c0, c1, c2⟩ := box_cells hB
          obtain ⟨R, HR⟩ : ∃ R, Hid (reachL W H C c = R) := ⟨_, rfl⟩
          go_wp2_with fail
          refine (reachedI W H C c R hC HR _ (HS.out.below (box_below hB))).mono ?_
          rintro e w4 ⟨v, rfl, hown, hb⟩
          have hv4 : w4.ownsRow base 3 1 v (reachL W H C c).length ((reachL W H C c).map (Value.int .i64)) := by
            rw [HR.out]
            exact own_base hown HST.out.lo.2.2
          have hst4 := HST.out.below hb
          replace hB := chain hB hb
          obtain ⟨av, cv, rfl⟩ := own_form hown
          have HV4 := Lib.hid hv4
          have HST4 := Lib.hid hst4
          have hRl : R.length ≤ 64 := by rw [← HR.out]; exact reach_len W H C c
          have hwf : (Lit.int .i64 (c : Int)).wf = true := WalkArith.wf_i64 (by omega)
          clear hown hb c0 c1 c2 d0 d2 hv4 hst4 HST
          go_wp2_with (at_mapUpdate; refine wpList_mapUpdate_own _ rfl _ _ _ 53 rfl 3 26 lawK Tryd.underlying53 Rv (w.heap.size + 1) k D rfl HST4.out.map (by unfold maxLen; omega) _ _ _ rfl rfl (keyI hwf) (.held (.slice av R.length cv)) [] rfl ?_; intro w5 hm5 hg5; have hrun := comp_look hm5 hwf (fun z => atKey_put_same HST4.out.map.isMap (keyLit (c : Int)) _ z); have HS5 := Lib.hid (HST4.out.put HH.out HV4.out hm5 hg5); have hB5 := hB.grown hg5 hB.size (fun j hj => by cases hj; simp); clear hm5 hg5)
          clear hrun HV4 HST4 hB
          obtain ⟨hS5, hV5⟩ := HS5.out
          rw [HR.out] at hV5
          have HS6 := Lib.hid (hS5.same (o' := upTo (metP W H C (L.take k)) R 0) (upTo_start _ R))
          have HV6 := Lib.hid hV5
          have HB6 := Lib.hid hB5
          clear hS5 hV5 hB5 HS5
          obtain ⟨D', HD⟩ : ∃ D', Hid (D.put (.int .i64 (c : Int)) (.held (.slice av R.length cv)) = D') := ⟨_, rfl⟩
          rw [HD.out] at HS6
          clear HD
          go_loopw [34] (fun i wq => ∃ q : Nat, q ≤ R.length ∧ i = .int .i64 q ∧ CSt W H C (w.heap.size + 1) (w.heap.size + 1 + 1) base C.size (L.take k ++ [(c : Int)]) (k + 1) (upTo (metP W H C (L.take k)) R q) D' (.slice (some ⟨g, 0, none⟩) L.length ca) L wq ∧
            wq.ownsRow base 3 1 (.slice av R.length cv) R.length (R.map (Value.int .i64)) ∧ Below (w.alloc (.cells #[.int .i64 W, .int .i64 H, .string C] 25)).heap.size (w.alloc (.cells #[.int .i64 W, .int .i64 H, .string C] 25)) wq) (fun i _ => R.length - (intOf i).toNat)
          case atStart => exact ⟨0, Nat.zero_le _, rfl, HS6.out, HV6.out, HB6.out⟩
          case round =>
            clear HS6 HV6 HB6
            obtain ⟨q, hq, rfl, hst, hV, hB⟩ := hrel
            by_cases hqt : q < R.length
            · obtain ⟨y, hy⟩ : ∃ y, R[q]? = some y := ⟨_, List.getElem?_eq_getElem hqt⟩
              obtain ⟨d, rfl, hdn⟩ := reach_in (W := W) (H := H) (C := C) (a := (c : Int)) (x := y) (by rw [HR.out]; exact List.mem_of_getElem? hy)
              obtain ⟨a'', c'', e0, HV'⟩ := ints_form (ints_of_own hV)
              cases e0
              rcases HV' with h0 | ⟨gv, rfl, hgv, hcv⟩
              · omega
              · have d3 := hcv q _ hy
                have d4 := hst.met hdn
                have f4 := hst.row.frozenAt d
                have hqt2 : (q : Int) < (R.length : Int) := by omega
                have hdn2 : (d : Int) < (C.size : Int) := by omega
                obtain ⟨hst7, hg7⟩ := hst.stored d (upTo_next hy)
                have HS7 := Lib.hid hst7
                have HV7 := Lib.hid (own_far hV hg7 hst.lo.2.1)
                have HB7 := Lib.hid (hB.grown hg7 hB.size (fun j hj => by cases hj; simp))
                clear hst hV hB hcv hy hst7 hg7
                go_wp2_with fail
                go_roundw
                case rel => exact ⟨q + 1, by omega, by go_num, HS7.out, HV7.out, HB7.out⟩
                case measure => simp [intOf]; omega
            · obtain rfl : q = R.length := by omega
              have hS8 := hst.same (o' := metP W H C (L.take k ++ [(c : Int)])) (fun j => by rw [upTo_end, met_new HF.out HH.out, HR.out])
              have HS8 := Lib.hid hS8
              have HB8 := Lib.hid hB
              clear hst hV hB hS8
              go_wp2_with fail
              go_roundw
              case rel => exact ⟨k + 1, by omega, by go_num, ⟨D', by rw [take_snoc HX.out]; exact HS8.out⟩, HB8.out⟩
              case measure => simp [intOf]; omega
        · have d2 : wr.cell? ⟨w.heap.size + 1 + 1, c, none⟩ = some (.bool true) := by rw [d1]; simp [hh]
          have HN := Lib.hid hh
          clear d1 hh
          go_wp2_with fail
          go_roundw
          case rel => exact ⟨k + 1, by omega, by go_num, ⟨D, by rw [take_snoc HX.out]; exact HST.out.skip HN.out rfl⟩, hB⟩
          case measure => simp [intOf]; omega
    · obtain rfl : k = L.length := by omega
      go_wp2_with fail
      go_ret
      exact ⟨_, D, rfl, by omega, hst.comp (by rw [List.take_length, HL.out]) hLl, box_below hB⟩

end Go.Proofs.YtieipekhckambaaDoor

