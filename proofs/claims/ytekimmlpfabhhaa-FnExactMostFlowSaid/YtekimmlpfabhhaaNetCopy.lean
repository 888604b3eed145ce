/-
  CONTRACTS of the laws' own helpers toArc, toArcS, toNet, and of arguments that are slices of arcs. No law is proved here.
-/
import Derived.Test.YtekimmlpfabhhaaNet
import Derived.Test.YtekimmlpfabhhaaCopyInts
import Derived.Laws.OwnMore
namespace Go.Proofs.Ytekimmlpfabhhaa
set_option maxRecDepth 4096
open Go.ChangeShapes Go.WideShapes Go.ChangeAt Go.RowKit

theorem Try.infoArc : (Try.prog.info? 63).map (fun i => (i.zero, i.size, i.bytes)) = some (some (.agg #[.int .i64 0, .int .i64 0, .int .i64 0, .int .i64 0]), 4, 32) := by kernel_rfl

/-- An argument that is a slice of arcs: nil or empty, or somewhere in a block. -/
def ArgA (w : World) (v : Value) (A : List ArcD) : Prop :=
  ∃ a c, v = .slice a A.length c ∧ (A.length = 0 ∨ ∃ b, a = some b ∧ b.block < w.heap.size ∧ ∀ (j : Nat) x, A[j]? = some x →
    w.cell? (b.add (j * 4)) = some (.int .i64 x.f) ∧ w.cell? (b.add (j * 4 + 1)) = some (.int .i64 x.t) ∧ w.cell? (b.add (j * 4 + 2)) = some (.int .i64 x.r) ∧ w.cell? (b.add (j * 4 + 3)) = some (.int .i64 x.c))
theorem add_block (b : Addr) (j : Nat) : (b.add j).block = b.block := by unfold Addr.add; split <;> rfl
theorem add_next (b : Addr) (m j : Nat) : (⟨(b.add m).block, (b.add m).off + (j + 1), none⟩ : Addr) = b.add (m + (j + 1)) := by
  unfold Addr.add
  split
  · rename_i h; subst h; simp
  · simp [Nat.add_assoc]
theorem argA_below {w w1 : World} {v : Value} {A : List ArcD} (h : ArgA w v A) (hb : Below w.heap.size w w1) : ArgA w1 v A := by
  obtain ⟨a, c, hv, hh⟩ := h
  refine ⟨a, c, hv, ?_⟩
  rcases hh with h0 | ⟨b, ha, hlt, hc⟩
  · exact .inl h0
  · refine .inr ⟨b, ha, Nat.lt_of_lt_of_le hlt hb.size, fun j x hx => ?_⟩
    obtain ⟨h1, h2, h3, h4⟩ := hc j x hx
    exact ⟨(hb.cell (p := b.add _) (by rw [add_block]; exact hlt)).trans h1, (hb.cell (p := b.add _) (by rw [add_block]; exact hlt)).trans h2, (hb.cell (p := b.add _) (by rw [add_block]; exact hlt)).trans h3, (hb.cell (p := b.add _) (by rw [add_block]; exact hlt)).trans h4⟩

theorem toArc (x : ArcD) (w : World) : Calls Try.prog 43 #[.agg #[.int .i64 x.f, .int .i64 x.t, .int .i64 x.r, .int .i64 x.c]] w (Made w (.agg #[.int .i64 x.f, .int .i64 x.t, .int .i64 x.r, .int .i64 x.c])) := by
  go_enter Try.func43, Try.ntmps43
  go_wp2
  exact bodyPost_ret (v := .agg #[.int .i64 x.f, .int .i64 x.t, .int .i64 x.r, .int .i64 x.c]) (by simp [results, Try.results43, go_sem]) rfl ⟨rfl, (((Below.refl _ _).alloc (Nat.le_refl _) _).alloc (by simp) _).alloc (by simp; omega) _⟩

/-- The cells of arcs. -/
def cellsA (A : List ArcD) : List Value := A.flatMap arcC
theorem cellsA_len : ∀ A : List ArcD, (cellsA A).length = A.length * 4
  | [] => rfl
  | x :: A => by
    have := cellsA_len A
    unfold cellsA at this ⊢
    rw [List.flatMap_cons, List.length_append, this, List.length_cons]
    show 4 + _ = _
    omega
theorem cellsA_snoc {A : List ArcD} {k : Nat} {x : ArcD} (h : A[k]? = some x) : cellsA (A.take (k + 1)) = cellsA (A.take k) ++ arcC x := by
  obtain ⟨hi, rfl⟩ := List.getElem?_eq_some_iff.1 h
  rw [List.take_succ_eq_append_getElem hi]
  unfold cellsA
  rw [List.flatMap_append, List.flatMap_cons, List.flatMap_nil, List.append_nil]
theorem cellsA_at {A : List ArcD} {k i : Nat} {x : ArcD} (h : A[k]? = some x) (hi : i < 4) : (cellsA A)[k * 4 + i]? = (arcC x)[i]? := by
  obtain ⟨hk, rfl⟩ := List.getElem?_eq_some_iff.1 h
  have e : cellsA A = cellsA (A.take k) ++ (arcC A[k] ++ cellsA (A.drop (k + 1))) := by
    unfold cellsA
    rw [← List.flatMap_cons, ← List.drop_eq_getElem_cons hk, ← List.flatMap_append, List.take_append_drop]
  have hl : (cellsA (A.take k)).length = k * 4 := by rw [cellsA_len, List.length_take]; omega
  rw [e, List.getElem?_append_right (by omega), hl, Nat.add_sub_cancel_left, List.getElem?_append_left (by show i < 4; exact hi)]
/-- Four cells are written anew. -/
theorem set_four {pre post : List Value} {u0 u1 u2 u3 a b c d : Value} {m : Nat} (hm : pre.length = m) :
    ((((pre ++ u0 :: u1 :: u2 :: u3 :: post).set m a).set (m + 1) b).set (m + 2) c).set (m + 3) d = pre ++ [a, b, c, d] ++ post := by
  subst hm
  simp
theorem drop_four {xs : List Value} {m : Nat} (h : m + 4 ≤ xs.length) : ∃ u0 u1 u2 u3, xs.drop m = u0 :: u1 :: u2 :: u3 :: xs.drop (m + 4) := by
  refine ⟨xs[m], xs[m + 1], xs[m + 2], xs[m + 3], ?_⟩
  rw [List.drop_eq_getElem_cons (by omega), List.drop_eq_getElem_cons (by omega), List.drop_eq_getElem_cons (by omega), List.drop_eq_getElem_cons (by omega)]
theorem arcs_step {A : List ArcD} {k : Nat} {x : ArcD} {xs : List Value} (hx : A[k]? = some x) (h : xs.length = A.length * 4) :
    ((((cellsA (A.take k) ++ xs.drop (k * 4)).set (k * 4) (.int .i64 x.f)).set (k * 4 + 1) (.int .i64 x.t)).set (k * 4 + 2) (.int .i64 x.r)).set (k * 4 + 3) (.int .i64 x.c) = cellsA (A.take (k + 1)) ++ xs.drop ((k + 1) * 4) := by
  have hk := (List.getElem?_eq_some_iff.1 hx).1
  obtain ⟨u0, u1, u2, u3, e⟩ := drop_four (xs := xs) (m := k * 4) (by omega)
  rw [e, set_four (by rw [cellsA_len, List.length_take]; omega), cellsA_snoc hx]
  have e2 : (k + 1) * 4 = k * 4 + 4 := by omega
  rw [e2]
  rfl

/-- The list of arcs came back in memory of the call's own. -/
def ArcsBack (w : World) (A : List ArcD) (e : Ending) (w' : World) : Prop :=
  ∃ v, e = .returned v ∧ w'.ownsRow w.heap.size 63 4 v A.length (cellsA A) ∧ Below w.heap.size w w'
theorem arcs_of_own {w : World} {B : Nat} {e : TypeId} {v : Value} {A : List ArcD} (h : w.ownsRow B e 4 v A.length (cellsA A)) : Arcs w v A := by
  rcases h.2 with ⟨rfl, h0⟩ | ⟨g, cap, cur, rfl, _, hh, _⟩
  · exact .inl ⟨List.eq_nil_of_length_eq_zero h0, _, _, rfl⟩
  · refine .inr ⟨g, cap, rfl, (Array.getElem?_eq_some_iff.1 hh).1, fun j x hx => ?_⟩
    have key : ∀ i u, i < 4 → (arcC x)[i]? = some u → w.cell? ⟨g, j * 4 + i, none⟩ = some u := fun i u hi hu => by
      have := h.cells (g := g) rfl (j * 4 + i) u (by rw [cellsA_at hx hi]; exact hu)
      have hadd : (⟨g, 0, none⟩ : Addr).add (j * 4 + i) = ⟨g, j * 4 + i, none⟩ := by unfold Addr.add; split <;> simp_all
      rwa [hadd] at this
    exact ⟨key 0 _ (by decide) rfl, key 1 _ (by decide) rfl, key 2 _ (by decide) rfl, key 3 _ (by decide) rfl⟩
theorem own_cell4 {w : World} {B : Nat} {e : TypeId} {g n c j : Nat} {xs : List Value} (h : w.ownsRow B e 4 (.slice (some ⟨g, 0, none⟩) n c) n xs) (hj : j < n * 4) : ∃ u, w.cell? ⟨g, j, none⟩ = some u := by
  have hl : j < xs.length := by have := h.1; omega
  have := h.cells (g := g) rfl j xs[j] (List.getElem?_eq_getElem hl)
  have hadd : (⟨g, 0, none⟩ : Addr).add j = ⟨g, j, none⟩ := by unfold Addr.add; split <;> simp_all
  rw [hadd] at this
  exact ⟨_, this⟩

set_option maxHeartbeats 1000000 in
theorem toArcs (v : Value) (A : List ArcD) (w : World) (hv : ArgA w v A) (hA : A.length ≤ 2000000) :
    Calls Try.prog 30 #[v] w (ArcsBack w A) := by
  obtain ⟨i0, hi, hz0, hz1, hz2⟩ := info_parts Try.infoArc
  obtain ⟨av, cv, rfl, HV⟩ := hv
  have HVh := Lib.hid HV
  clear HV
  go_enter Try.func30, Try.ntmps30
  go_wp2_with (at_make; refine wpList_make_full w rfl _ _ 29 rfl w.heap.size 63 i0 _ 4 Try.underlying29 hi hz0 hz1 .i64 .i64 (A.length : Int) (A.length : Int) A.length rfl rfl rfl rfl (by rw [hz2]; omega) (by unfold maxLen; omega) (Nat.le_refl _) ?_; intro w1 hown0 hgrow0)
  generalize (madeCells (Value.agg #[.int .i64 0, .int .i64 0, .int .i64 0, .int .i64 0]).cells (A.length * 4)).toList = xs at hown0
  have hxl : xs.length = A.length * 4 := by have := hown0.1; omega
  have hb0 := (Below.refl w.heap.size w).grown hgrow0 (Nat.le_refl _) (by simp)
  clear hgrow0
  go_loopw [4] (fun i wr => ∃ k : Nat, k ≤ A.length ∧ i = .int .i64 k ∧ wr.ownsRow w.heap.size 63 4 (.slice (some ⟨w.heap.size, 0, none⟩) A.length A.length) A.length (cellsA (A.take k) ++ xs.drop (k * 4)) ∧ Below w.heap.size w wr) (fun i _ => A.length - (intOf i).toNat)
  case atStart => exact ⟨0, Nat.zero_le _, rfl, by simpa [cellsA] using hown0, hb0⟩
  case round =>
    clear hown0
    obtain ⟨k, hk, rfl, hown, hbe⟩ := hrel
    by_cases hlt : k < A.length
    · obtain ⟨x, hx⟩ : ∃ x, A[k]? = some x := ⟨_, List.getElem?_eq_getElem hlt⟩
      rcases HVh.out with h0 | ⟨b, rfl, hg, hc⟩
      · omega
      · have hk2 : (k : Int) < (A.length : Int) := by omega
        obtain ⟨h0, h1, h2, h3⟩ := hc k x hx
        have d0 := (hbe.cell (p := b.add (k * 4)) (by rw [add_block]; exact hg)).trans h0
        have d1 := (hbe.cell (p := b.add (k * 4 + 1)) (by rw [add_block]; exact hg)).trans h1
        have d2 := (hbe.cell (p := b.add (k * 4 + 2)) (by rw [add_block]; exact hg)).trans h2
        have d3 := (hbe.cell (p := b.add (k * 4 + 3)) (by rw [add_block]; exact hg)).trans h3
        rw [← add_next b (k * 4) 0] at d1
        rw [← add_next b (k * 4) 1] at d2
        rw [← add_next b (k * 4) 2] at d3
        have hst := arcs_step hx hxl
        have HX := Lib.hid hst
        have hk4 : (k : Int) * 4 = ((k * 4 : Nat) : Int) := by omega
        clear h0 h1 h2 h3 hc hst
        go_wp2_with fail
        refine (toArc x _).mono ?_
        rintro e w3 ⟨rfl, hb⟩
        have hbs := hbe.size
        have hown3 := own_below hown hb hbs
        have hbe3 := hbe.trans (hb.mono hbs)
        obtain ⟨u0, f0⟩ := own_cell4 hown3 (j := k * 4) (by omega)
        obtain ⟨u1, f1⟩ := own_cell4 hown3 (j := k * 4 + 1) (by omega)
        obtain ⟨u2, f2⟩ := own_cell4 hown3 (j := k * 4 + 2) (by omega)
        obtain ⟨u3, f3⟩ := own_cell4 hown3 (j := k * 4 + 3) (by omega)
        have z0 := hown3.frozenAt (k * 4)
        have z1 := hown3.frozenAt (k * 4 + 1)
        have z2 := hown3.frozenAt (k * 4 + 2)
        have z3 := hown3.frozenAt (k * 4 + 3)
        have HO3 := Lib.hid hown3
        have HB3 := Lib.hid hbe3
        clear hown hbe hb hown3 hbe3 d0 d1 d2 d3
        go_wp2_with fail
        go_roundw
        case rel => exact ⟨k + 1, by omega, by go_num, by rw [← HX.out]; exact ((((HO3.out.stored _ _).1.stored _ _).1.stored _ _).1.stored _ _).1, (((HB3.out.setCell (Nat.le_refl _) _).setCell (Nat.le_refl _) _).setCell (Nat.le_refl _) _).setCell (Nat.le_refl _) _⟩
        case measure => simp [intOf]; omega
    · obtain rfl : k = A.length := by omega
      rw [List.take_length, List.drop_of_length_le (by omega), List.append_nil] at hown
      have HO := Lib.hid hown
      clear hown
      go_wp2_with fail
      go_ret
      exact ⟨_, rfl, HO.out, hbe⟩

/-- The net came back, its arcs in memory of the call's own. -/
def NetBack (w : World) (N : Int) (A : List ArcD) (e : Ending) (w' : World) : Prop :=
  ∃ v, e = .returned (.agg #[.int .i64 N, v]) ∧ w'.ownsRow w.heap.size 63 4 v A.length (cellsA A) ∧ Below w.heap.size w w'

theorem own_set {w : World} {B r i s : Nat} {e : TypeId} {n : Nat} {v u : Value} {xs : List Value} (h : w.ownsRow B e s v n xs) (hr : r < B) : (w.setCell ⟨r, i, none⟩ u).ownsRow B e s v n xs := by
  have hg : w.grownBy (w.setCell ⟨r, i, none⟩ u) (some r) := ⟨rfl, rfl, rfl, by simp [World.setCell], fun k _ hk => heap_setCell_other w ⟨r, i, none⟩ k u (fun e => hk (by simp [e]))⟩
  refine h.kept hg ?_
  cases hv : v.ownBlock with
  | none => exact .inl rfl
  | some j => exact .inr (fun e => by have := (h.lt j hv).1; have := Option.some.inj e; omega)
/-- A block that a call has left as it was. -/
theorem old_block {wa w3 : World} {c0 c1 : Value} {t : TypeId} {m : Nat} (hb : Below wa.heap.size wa w3) (h : wa.heap[m]? = some (.cells #[c0, c1] t (0, 0))) :
    w3.cell? ⟨m, 0, none⟩ = some c0 ∧ w3.cell? ⟨m, 1, none⟩ = some c1 ∧ w3.frozen? ⟨m, 0, none⟩ = false ∧ w3.frozen? ⟨m, 1, none⟩ = false := by
  have h3 : w3.heap[m]? = some (.cells #[c0, c1] t (0, 0)) := (hb.block m (Array.getElem?_eq_some_iff.1 h).1).trans h
  refine ⟨?_, ?_, ?_, ?_⟩
  · rw [cell_of_row _ _ _ _ _ _ h3]; rfl
  · rw [cell_of_row _ _ _ _ _ _ h3]; rfl
  · simp [World.frozen?, h3]
  · simp [World.frozen?, h3]

theorem toNet (N : Int) (v : Value) (A : List ArcD) (w : World) (hv : ArgA w v A) (hA : A.length ≤ 2000000) :
    Calls Try.prog 9 #[.agg #[.int .i64 N, v]] w (NetBack w N A) := by
  have hB := ((((Below.refl w.heap.size w).alloc (Nat.le_refl _) (.cells #[.int .i64 N, v] 24)).alloc (by simp) (.cells #[.int .i64 0, .slice none 0 0] 31)).alloc (by simp; omega) (.cells #[.int .i64 N, .slice none 0 0] 31))
  have HV := Lib.hid (argA_below hv hB)
  clear hv
  go_enter Try.func9, Try.ntmps9
  go_wp2_with fail
  refine (toArcs v A _ HV.out hA).mono ?_
  rintro e w3 ⟨u, rfl, hown, hb⟩
  obtain ⟨q0, q1, z0, z1⟩ := old_block (m := w.heap.size + 1 + 1) hb (by
    have := heap_alloc_new ((w.alloc (.cells #[.int .i64 N, v] 24)).alloc (.cells #[.int .i64 0, .slice none 0 0] 31)) (.cells #[.int .i64 N, .slice none 0 0] 31)
    simpa using this)
  obtain ⟨r0, r1, y0, y1⟩ := old_block (m := w.heap.size + 1) (c0 := .int .i64 0) (c1 := .slice none 0 0) (t := 31) hb (by
    rw [Below.heap_alloc _ _ _ (by simp)]
    have := heap_alloc_new (w.alloc (.cells #[.int .i64 N, v] 24)) (.cells #[.int .i64 0, .slice none 0 0] 31)
    simpa using this)
  obtain ⟨au, cu, rfl⟩ := own_form hown
  have HO := Lib.hid hown
  have HB3 := Lib.hid (hB.trans (hb.mono hB.size))
  clear hown hb hB
  go_wp2_with fail
  refine bodyPost_ret (v := .agg #[.int .i64 N, .slice au A.length cu]) (by simp [results, Try.results9, go_sem, r0, r1]) rfl ⟨_, rfl, ?_, ?_⟩
  · have h1 := own_set (own_set (own_set HO.out (r := w.heap.size + 1 + 1) (i := 1) (u := .slice au A.length cu) (by simp)) (r := w.heap.size + 1) (i := 0) (u := .int .i64 N) (by simp)) (r := w.heap.size + 1) (i := 1) (u := .slice au A.length cu) (by simp)
    exact own_base h1 (by simp; omega)
  · exact ((HB3.out.setCell (by simp; omega) _).setCell (by simp) _).setCell (by simp) _

end Go.Proofs.Ytekimmlpfabhhaa
