/-
  Slices of ways in memory: read, owned, marked. Plain facts; no statement is proved here.
-/
import Derived.Test.YtkbfbifepaoojaaGreatDoorZPU00
import Derived.Test.YtkbfbifepaoojaaGreatDoorZPU01
namespace Go.Proofs.YtkbfbifepaoojaaGreatDoor
set_option maxRecDepth 4096
open Go.ChangeShapes Go.WideShapes Go.ChangeAt Go.RowKit

theorem Tryz.infoWay : (Tryz.prog.info? 51).map (fun i => (i.zero, i.size, i.bytes)) = some (some (.agg #[.slice none 0 0]), 1, 24) := by kernel_rfl

/-- Ways that lie in memory. -/
def WaysAt (w : World) (v : Value) (Ws : List (List Int)) : Prop :=
  ∃ a c, v = .slice a Ws.length c ∧ (Ws.length = 0 ∨ ∃ g, a = some ⟨g, 0, none⟩ ∧ g < w.heap.size ∧ ∀ (i : Nat) L, Ws[i]? = some L → ∃ u, w.cell? ⟨g, i, none⟩ = some u ∧ Ints w u L)
theorem waysAt_on {w w' : World} {v : Value} {Ws : List (List Int)} (h : WaysAt w v Ws) (hb : Below w.heap.size w w') : WaysAt w' v Ws := by
  obtain ⟨a, c, rfl, h⟩ := h
  refine ⟨a, c, rfl, ?_⟩
  rcases h with h | ⟨g, rfl, hg, hc⟩
  · exact .inl h
  · refine .inr ⟨g, rfl, Nat.lt_of_lt_of_le hg hb.size, fun i L hL => ?_⟩
    obtain ⟨u, h1, h2⟩ := hc i L hL
    exact ⟨u, (hb.cell (p := ⟨g, i, none⟩) hg).trans h1, ints_on h2 hb⟩
/-- An argument that is a slice of ways. -/
def ArgW (w : World) (v : Value) (Ws : List (List Int)) : Prop :=
  ∃ a c, v = .slice a Ws.length c ∧ (Ws.length = 0 ∨ ∃ b, a = some b ∧ b.block < w.heap.size ∧ ∀ (i : Nat) L, Ws[i]? = some L → ∃ u, w.cell? (b.add i) = some u ∧ ArgI w u L)
theorem blk_add (b : Addr) (j : Nat) : (b.add j).block = b.block := by unfold Addr.add; split <;> rfl
theorem argW_below {w w' : World} {v : Value} {Ws : List (List Int)} (h : ArgW w v Ws) (hb : Below w.heap.size w w') : ArgW w' v Ws := by
  obtain ⟨a, c, rfl, h⟩ := h
  refine ⟨a, c, rfl, ?_⟩
  rcases h with h | ⟨b, rfl, hg, hc⟩
  · exact .inl h
  · refine .inr ⟨b, rfl, Nat.lt_of_lt_of_le hg hb.size, fun i L hL => ?_⟩
    obtain ⟨u, h1, h2⟩ := hc i L hL
    exact ⟨u, (hb.cell (p := b.add i) (by rw [blk_add]; exact hg)).trans h1, argI_below h2 hb⟩

/-- A row of ints that a call made. -/
def rowJ (lo hi : Nat) (v : Value) (L : List Int) : RowD := ⟨lo, hi, 3, 1, v, L.length, L.map (Value.int .i64)⟩
/-- Rows of ints, each in memory of its own, in the order in which they were made. -/
inductive RowsI (w : World) : Nat → List Value → List (List Int) → Nat → Prop
  | nil {lo hi : Nat} : lo ≤ hi → hi ≤ w.heap.size → RowsI w lo [] [] hi
  | cons {lo mid hi : Nat} {v : Value} {L : List Int} {vs : List Value} {LL : List (List Int)} : (rowJ lo mid v L).At w → lo ≤ mid → RowsI w mid vs LL hi → RowsI w lo (v :: vs) (L :: LL) hi

section
variable {w w' : World} {lo mid hi : Nat} {vs : List Value} {LL : List (List Int)}
theorem own_kinds {B B' : Nat} {e e' : TypeId} {s s' n n' : Nat} {v v' : Value} {xs xs' : List Value} (h : w.ownsRow B e s v n xs) (h' : w.ownsRow B' e' s' v' n' xs') (he : e ≠ e') : v.ownBlock = none ∨ v.ownBlock ≠ v'.ownBlock := by
  rcases h.2 with ⟨rfl, _⟩ | ⟨g, cap, cur, rfl, _, hg, _⟩
  · exact .inl rfl
  · refine .inr (fun k => ?_)
    rcases h'.2 with ⟨rfl, _⟩ | ⟨g', cap', cur', rfl, _, hg', _⟩
    · cases k
    · have k2 : g = g' := by simpa [Value.ownBlock] using k
      subst k2
      rw [hg] at hg'
      injection hg' with hg'
      injection hg' with _ h2
      exact he h2
theorem RowsI.le (h : RowsI w lo vs LL hi) : lo ≤ hi ∧ hi ≤ w.heap.size := by
  induction h with
  | nil h1 h2 => exact ⟨h1, h2⟩
  | cons _ h1 _ ih => exact ⟨Nat.le_trans h1 ih.1, ih.2⟩
theorem RowsI.len (h : RowsI w lo vs LL hi) : vs.length = LL.length := by
  induction h with
  | nil _ _ => rfl
  | cons _ _ _ ih => simp [ih]
theorem RowsI.on (h : RowsI w lo vs LL hi) (hb : Below w.heap.size w w') : RowsI w' lo vs LL hi := by
  induction h with
  | nil h1 h2 => exact .nil h1 (Nat.le_trans h2 hb.size)
  | cons h1 h2 _ ih => exact .cons (h1.on hb) h2 ih
theorem RowsI.drewN (h : RowsI w lo vs LL hi) (n : Nat) : RowsI (w.drewN n) lo vs LL hi := by
  induction h with
  | nil h1 h2 => exact .nil h1 h2
  | cons h1 h2 _ ih => exact .cons (h1.drewN n) h2 ih
theorem RowsI.more (h : RowsI w lo vs LL mid) (h2 : mid ≤ hi) (h3 : hi ≤ w.heap.size) : RowsI w lo vs LL hi := by
  induction h with
  | nil h1 _ => exact .nil (Nat.le_trans h1 h2) h3
  | cons h1 k _ ih => exact .cons h1 k (ih h2)
theorem RowsI.base {lo' : Nat} (h : RowsI w lo vs LL hi) (h2 : lo' ≤ lo) : RowsI w lo' vs LL hi := by
  cases h with
  | nil h1 h3 => exact .nil (Nat.le_trans h2 h1) h3
  | cons h1 k h3 => exact .cons ⟨own_base h1.own h2, h1.lt, h1.le⟩ (Nat.le_trans h2 k) h3
theorem RowsI.snoc {v : Value} {L : List Int} (h : RowsI w lo vs LL mid) (hr : (rowJ mid hi v L).At w) (hm : mid ≤ hi) : RowsI w lo (vs ++ [v]) (LL ++ [L]) hi := by
  induction h with
  | nil h1 h2 => exact .cons ⟨own_base hr.own h1, hr.lt, hr.le⟩ (Nat.le_trans h1 hm) (.nil (Nat.le_refl _) hr.le)
  | cons h1 h2 _ ih => exact .cons h1 h2 (ih hr hm)
theorem RowsI.at (h : RowsI w lo vs LL hi) : ∀ {i : Nat} {v : Value} {L : List Int}, vs[i]? = some v → LL[i]? = some L → ∃ l k, lo ≤ l ∧ k ≤ hi ∧ (rowJ l k v L).At w := by
  induction h with
  | nil _ _ =>
    intro i v L h
    simp at h
  | cons h1 h2 h3 ih =>
    intro i v L hv hL
    cases i with
    | zero =>
      cases hv
      cases hL
      exact ⟨_, _, Nat.le_refl _, h3.le.1, h1⟩
    | succ i =>
      obtain ⟨l, k, a, b, c⟩ := ih (by simpa using hv) (by simpa using hL)
      exact ⟨l, k, Nat.le_trans h2 a, b, c⟩
/-- What writes into no row of ints. -/
theorem RowsI.grown {g : Option Nat} (h : RowsI w lo vs LL hi) (hg : w.grownBy w' g) (hne : ∀ v ∈ vs, v.ownBlock = none ∨ v.ownBlock ≠ g) : RowsI w' lo vs LL hi := by
  induction h with
  | nil h1 h2 => exact .nil h1 (Nat.le_trans h2 hg.size)
  | cons h1 h2 _ ih =>
    exact .cons ⟨h1.own.kept hg (hne _ (List.mem_cons_self ..)), h1.lt, Nat.le_trans h1.le hg.size⟩ h2 (ih fun v hv => hne v (List.mem_cons_of_mem _ hv))
theorem RowsI.kinds (h : RowsI w lo vs LL hi) {B s n : Nat} {e : TypeId} {u : Value} {xs : List Value} (hu : w.ownsRow B e s u n xs) (he : 3 ≠ e) : ∀ v ∈ vs, v.ownBlock = none ∨ v.ownBlock ≠ u.ownBlock := by
  induction h with
  | nil _ _ =>
    intro v hv
    cases hv
  | cons h1 _ _ ih =>
    intro v hv
    rcases List.mem_cons.1 hv with rfl | hv
    · exact own_kinds h1.own hu he
    · exact ih v hv
/-- One row is written anew. -/
theorem RowsI.put (h : RowsI w lo vs LL hi) : ∀ {i : Nat} {v : Value} {L L' : List Int}, vs[i]? = some v → LL[i]? = some L → L'.length = L.length → (∀ B, w.ownsRow B 3 1 v L.length (L.map (Value.int .i64)) → w'.ownsRow B 3 1 v L.length (L'.map (Value.int .i64))) → w.grownBy w' v.ownBlock → RowsI w' lo vs (LL.set i L') hi := by
  induction h with
  | nil _ _ =>
    intro i v L L' h
    simp at h
  | cons h1 h2 h3 ih =>
    intro i v L L' hv hL hl hw hg
    cases i with
    | zero =>
      cases hv
      cases hL
      refine .cons ⟨?_, h1.lt, Nat.le_trans h1.le hg.size⟩ h2 (h3.grown hg fun u hu => ?_)
      · have := hw _ h1.own
        show World.ownsRow _ _ _ _ _ L'.length _
        rw [hl]
        exact this
      · obtain ⟨j, hj, e⟩ := List.getElem_of_mem hu
        have hj2 : j < _ := h3.len ▸ hj
        obtain ⟨l, k, a, b, c⟩ := h3.at (i := j) (by rw [List.getElem?_eq_getElem hj, e]) (List.getElem?_eq_getElem hj2)
        cases hu : u.ownBlock with
        | none => exact .inl rfl
        | some m =>
          refine .inr fun e => ?_
          have h4 := (c.own.lt m hu).1
          have h5 := h1.lt m e.symm
          dsimp only [rowJ] at h4 h5
          omega
    | succ i =>
      have hv2 := by simpa using hv
      have hL2 := by simpa using hL
      obtain ⟨l, k, a, b, c⟩ := h3.at hv2 hL2
      refine .cons ⟨h1.own.kept hg ?_, h1.lt, Nat.le_trans h1.le hg.size⟩ h2 (ih hv2 hL2 hl hw hg)
      dsimp only [rowJ]
      rename_i u _ _ _
      cases hu : u.ownBlock with
      | none => exact .inl rfl
      | some m =>
        refine .inr fun e => ?_
        have h4 := h1.lt m hu
        have h5 := (c.own.lt m e.symm).1
        dsimp only [rowJ] at h4 h5
        omega
end

/-- Ways in memory that a call made, all of it among the blocks from lo on, below hi. -/
def WOwn (w : World) (lo hi : Nat) (v : Value) (Ws : List (List Int)) : Prop :=
  ∃ vs, w.ownsRow lo 51 1 v Ws.length vs ∧ (∀ k, v.ownBlock = some k → k < hi) ∧ RowsI w lo vs Ws hi
section
variable {w w' : World} {lo hi : Nat} {v : Value} {Ws : List (List Int)}
theorem WOwn.on (h : WOwn w lo hi v Ws) (hb : Below w.heap.size w w') : WOwn w' lo hi v Ws := by
  obtain ⟨vs, h1, h2, h3⟩ := h
  exact ⟨vs, own_below h1 hb (Nat.le_trans h3.le.1 h3.le.2), h2, h3.on hb⟩
theorem WOwn.drewN (h : WOwn w lo hi v Ws) (n : Nat) : WOwn (w.drewN n) lo hi v Ws := by
  obtain ⟨vs, h1, h2, h3⟩ := h
  exact ⟨vs, h1, h2, h3.drewN n⟩
theorem WOwn.le (h : WOwn w lo hi v Ws) : lo ≤ hi ∧ hi ≤ w.heap.size := by
  obtain ⟨vs, h1, h2, h3⟩ := h
  exact h3.le
theorem WOwn.form (h : WOwn w lo hi v Ws) : ∃ a c, v = .slice a Ws.length c := by
  obtain ⟨vs, h1, h2, h3⟩ := h
  exact own_form h1
theorem WOwn.at (h : WOwn w lo hi v Ws) : WaysAt w v Ws := by
  obtain ⟨vs, h1, h2, h3⟩ := h
  by_cases h0 : Ws.length = 0
  · obtain ⟨a, c, rfl⟩ := own_form h1
    exact ⟨a, c, rfl, .inl h0⟩
  · obtain ⟨g, c, rfl⟩ : ∃ g c, v = .slice (some ⟨g, 0, none⟩) Ws.length c := by
      rcases h1.2 with ⟨_, h⟩ | ⟨g, cap, cur, rfl, _⟩
      · exact absurd h h0
      · exact ⟨g, cap, rfl⟩
    refine ⟨_, c, rfl, .inr ⟨g, rfl, (h1.lt g rfl).2, fun i L hL => ?_⟩⟩
    have hi : i < vs.length := by
      rw [h3.len]
      exact (List.getElem?_eq_some_iff.1 hL).1
    have hu : vs[i]? = some vs[i] := List.getElem?_eq_getElem hi
    have hc := h1.cells (g := g) rfl i _ hu
    have hadd : (⟨g, 0, none⟩ : Addr).add i = ⟨g, i, none⟩ := by unfold Addr.add; split <;> simp_all
    rw [hadd] at hc
    obtain ⟨l, k, _, _, hr⟩ := h3.at hu hL
    exact ⟨_, hc, ints_of_own hr.own⟩
end
theorem rowJ_form {w : World} {l q : Nat} {u : Value} {L : List Int} (h : (rowJ l q u L).At w) : ∃ a c, u = .slice a L.length c := own_form h.own
/-- Ways came back in memory of the call's own. -/
def WaysBack (w : World) (Ws : List (List Int)) (e : Ending) (w' : World) : Prop :=
  ∃ v, e = .returned v ∧ WOwn w' w.heap.size w'.heap.size v Ws ∧ Below w.heap.size w w'
theorem own_put1 {w : World} {B r i s : Nat} {e : TypeId} {n : Nat} {v u : Value} {xs : List Value} (h : w.ownsRow B e s v n xs) (hr : r < B) : (w.setCell ⟨r, i, none⟩ u).ownsRow B e s v n xs := by
  have hg : w.grownBy (w.setCell ⟨r, i, none⟩ u) (some r) := ⟨rfl, rfl, rfl, by simp [World.setCell], fun k _ hk => heap_setCell_other w ⟨r, i, none⟩ k u (fun e => hk (by simp [e]))⟩
  refine h.kept hg ?_
  cases hv : v.ownBlock with
  | none => exact .inl rfl
  | some j => exact .inr (fun e => by have := (h.lt j hv).1; have := Option.some.inj e; omega)
/-- A block of one cell that a call has left as it was. -/
theorem old_one {wa w3 : World} {c0 : Value} {t : TypeId} {m : Nat} (hb : Below wa.heap.size wa w3) (h : wa.heap[m]? = some (.cells #[c0] t (0, 0))) : w3.cell? ⟨m, 0, none⟩ = some c0 ∧ w3.frozen? ⟨m, 0, none⟩ = false := by
  have h3 : w3.heap[m]? = some (.cells #[c0] t (0, 0)) := (hb.block m (Array.getElem?_eq_some_iff.1 h).1).trans h
  refine ⟨?_, ?_⟩
  · rw [cell_of_row _ _ _ _ _ _ h3]; rfl
  · simp [World.frozen?, h3]
/-- All in all. -/
def totW (Ws : List (List Int)) : Nat := (Ws.map List.length).sum
theorem totW_succ {Ws : List (List Int)} {k : Nat} {L : List Int} (h : Ws[k]? = some L) : totW (Ws.take (k + 1)) = totW (Ws.take k) + L.length := by
  obtain ⟨hi, rfl⟩ := List.getElem?_eq_some_iff.1 h
  unfold totW
  rw [List.take_succ_eq_append_getElem hi, List.map_append, List.sum_append]
  simp
theorem totW_le (Ws : List (List Int)) (k : Nat) : totW (Ws.take k) ≤ totW Ws := by
  have h : totW Ws = totW (Ws.take k) + totW (Ws.drop k) := by
    unfold totW
    rw [← List.sum_append, ← List.map_append, List.take_append_drop]
  omega
theorem totW_one {Ws : List (List Int)} {k : Nat} {L : List Int} (h : Ws[k]? = some L) : L.length ≤ totW Ws := by
  have h1 := totW_succ h
  have h2 := totW_le Ws (k + 1)
  omega

/-- Only the blocks from lo on, below hi, have turned. -/
structure Within (lo hi : Nat) (w w' : World) : Prop where
  os : w'.os = w.os
  tape : w'.tape = w.tape
  output : w'.output = w.output
  size : w.heap.size ≤ w'.heap.size
  block : ∀ i, i < w.heap.size → (i < lo ∨ hi ≤ i) → w'.heap[i]? = w.heap[i]?
section
variable {lo hi : Nat} {w w' w'' : World}
theorem Within.refl (lo hi : Nat) (w : World) : Within lo hi w w := ⟨rfl, rfl, rfl, Nat.le_refl _, fun _ _ _ => rfl⟩
theorem Within.grown (h : Within lo hi w w') {g : Option Nat} (hg : w'.grownBy w'' g) (hr : ∀ k, g = some k → lo ≤ k ∧ k < hi) : Within lo hi w w'' :=
  ⟨hg.os.trans h.os, hg.tape.trans h.tape, hg.output.trans h.output, Nat.le_trans h.size hg.size, fun i hi2 hh => (hg.block i (Nat.lt_of_lt_of_le hi2 h.size) (fun e => by have := hr i e.symm; omega)).trans (h.block i hi2 hh)⟩
theorem Within.below (h : Within lo hi w w') {B : Nat} (hB : B ≤ lo) (hl : lo ≤ w.heap.size) : Below B w w' := ⟨h.os, h.tape, h.output, h.size, fun i hi2 => h.block i (by omega) (.inl (by omega))⟩
theorem Within.own (h : Within lo hi w w') {B s n : Nat} {e : TypeId} {v : Value} {xs : List Value} (ho : w.ownsRow B e s v n xs) (ha : ∀ k, v.ownBlock = some k → k < lo ∨ hi ≤ k) : w'.ownsRow B e s v n xs := by
  refine ⟨ho.1, ?_⟩
  rcases ho.2 with h2 | ⟨g, cap, cur, rfl, hg, hh, r⟩
  · exact .inl h2
  · exact .inr ⟨g, cap, cur, rfl, hg, (h.block g (Array.getElem?_eq_some_iff.1 hh).1 (ha g rfl)).trans hh, r⟩
theorem Within.row (h : Within lo hi w w') {q : RowD} (hq : q.At w) (ha : q.hi ≤ lo ∨ hi ≤ q.lo) : q.At w' :=
  ⟨h.own hq.own fun k hk => by have h1 := hq.lt k hk; have h2 := (hq.own.lt k hk).1; omega, hq.lt, Nat.le_trans hq.le h.size⟩
theorem Within.rows (h : Within lo hi w w') {l k : Nat} {vs : List Value} {LL : List (List Int)} (hr : RowsI w l vs LL k) (ha : k ≤ lo ∨ hi ≤ l) : RowsI w' l vs LL k := by
  induction hr with
  | nil h1 h2 => exact .nil h1 (Nat.le_trans h2 h.size)
  | cons h1 h2 h3 ih =>
    have := h3.le.1
    exact .cons (h.row h1 (by dsimp only [rowJ]; omega)) h2 (ih (by omega))
theorem Within.ways (h : Within lo hi w w') {l k : Nat} {v : Value} {Ws : List (List Int)} (hr : WOwn w l k v Ws) (ha : k ≤ lo ∨ hi ≤ l) : WOwn w' l k v Ws := by
  obtain ⟨vs, h1, h2, h3⟩ := hr
  refine ⟨vs, h.own h1 fun j hj => ?_, h2, h.rows h3 ha⟩
  have h4 := h2 j hj
  have h5 := (h1.lt j hj).1
  omega
end

end Go.Proofs.YtkbfbifepaoojaaGreatDoor

