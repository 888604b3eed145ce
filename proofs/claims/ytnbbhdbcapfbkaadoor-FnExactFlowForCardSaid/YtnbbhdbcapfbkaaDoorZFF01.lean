/-
  Rows of numbers and of Booleans, in memory. Plain facts; no statement is proved here.
  What a law keeps while it calls on: its box, blocks that stay as they are, rows of memory that calls made. Plain facts; no law is proved here.
  Slices of ways in memory: read, owned, marked. Plain facts; no statement is proved here.
  CONTRACTS of the laws' own helpers eqWay, eqWayS. No law is proved here.
-/
import Derived.Test.YtnbbhdbcapfbkaaDoorZFF00
import Derived.Laws.OwnMore
import Derived.BigQuiet
import Derived.Deep.QuietTactic
import Derived.StillTailTactics
namespace Go.Proofs.YtnbbhdbcapfbkaaDoor
set_option maxRecDepth 4096
open Go.ChangeShapes Go.WideShapes Go.ChangeAt Go.RowKit

/-- A row of numbers. -/
def rowO (o : Nat → Int) (n : Nat) : List Int := (List.range n).map o
theorem rowO_len (o : Nat → Int) (n : Nat) : (rowO o n).length = n := by simp [rowO]
theorem rowO_succ (o : Nat → Int) (n : Nat) : rowO o (n + 1) = rowO o n ++ [o n] := by simp [rowO, List.range_succ]
theorem rowO_at (o : Nat → Int) {n c : Nat} (h : c < n) : (rowO o n)[c]? = some (o c) := by simp [rowO, h]

theorem ints_on {w w1 : World} {v : Value} {L : List Int} (h : Ints w v L) (hb : Below w.heap.size w w1) : Ints w1 v L := by
  rcases h with h | ⟨g, c, rfl, hg, hc⟩
  · exact .inl h
  · exact .inr ⟨g, c, rfl, Nat.lt_of_lt_of_le hg hb.size, fun j x hx => (hb.cell (p := ⟨g, j, none⟩) hg).trans (hc j x hx)⟩
theorem own_num {w : World} {B : Nat} {e : TypeId} {g n cap c : Nat} {o : Nat → Int} (h : w.ownsRow B e 1 (.slice (some ⟨g, 0, none⟩) n cap) n ((rowO o n).map (Value.int .i64))) (hc : c < n) : w.cell? ⟨g, c, none⟩ = some (.int .i64 (o c)) := by
  have := h.cells (g := g) rfl c (.int .i64 (o c)) (by rw [List.getElem?_map, rowO_at o hc]; rfl)
  have hadd : (⟨g, 0, none⟩ : Addr).add c = ⟨g, c, none⟩ := by unfold Addr.add; split <;> simp_all
  rwa [hadd] at this
theorem own_int {w : World} {B : Nat} {e : TypeId} {g n cap j : Nat} {L : List Int} {x : Int} (h : w.ownsRow B e 1 (.slice (some ⟨g, 0, none⟩) n cap) n (L.map (Value.int .i64))) (hx : L[j]? = some x) : w.cell? ⟨g, j, none⟩ = some (.int .i64 x) := by
  have := h.cells (g := g) rfl j (.int .i64 x) (by rw [List.getElem?_map, hx]; rfl)
  have hadd : (⟨g, 0, none⟩ : Addr).add j = ⟨g, j, none⟩ := by unfold Addr.add; split <;> simp_all
  rwa [hadd] at this
/-- A row of Booleans. -/
def rowB (o : Nat → Bool) (n : Nat) : List Value := (List.range n).map fun j => .bool (o j)
theorem rowB_len (o : Nat → Bool) (n : Nat) : (rowB o n).length = n := by simp [rowB]
theorem rowB_at (o : Nat → Bool) {n c : Nat} (h : c < n) : (rowB o n)[c]? = some (.bool (o c)) := by simp [rowB, h]
theorem rowB_eq {o o' : Nat → Bool} {n : Nat} (h : ∀ j, o j = o' j) : rowB o n = rowB o' n := by
  have : o = o' := funext h
  rw [this]
theorem rowB_none (n : Nat) : List.replicate n (Value.bool false) = rowB (fun _ => false) n := by
  unfold rowB
  rw [List.map_const', List.length_range]
theorem rowB_set {o o' : Nat → Bool} {n c : Nat} (h : ∀ j, o' j = (o j || decide (j = c))) : (rowB o n).set c (.bool true) = rowB o' n := by
  apply List.ext_getElem?
  intro j
  rw [List.getElem?_set]
  by_cases hj : j < n
  · rw [rowB_at _ hj, rowB_at _ hj, h]
    by_cases e : c = j
    · subst e
      rw [if_pos rfl, if_pos (by rw [rowB_len]; exact hj)]
      simp
    · rw [if_neg e]
      have : ¬ j = c := fun k => e k.symm
      simp [this]
  · have h1 : ∀ o : Nat → Bool, (rowB o n)[j]? = none := fun o => List.getElem?_eq_none_iff.2 (by rw [rowB_len]; omega)
    rw [h1, h1]
    split
    · rw [if_neg (by rw [rowB_len]; omega)]
    · rfl

theorem rowO_put {o o' : Nat → Int} {n c : Nat} {x : Int} (hx : o' c = x) (h : ∀ j, j ≠ c → o' j = o j) : ((rowO o n).map (Value.int .i64)).set c (.int .i64 x) = (rowO o' n).map (Value.int .i64) := by
  apply List.ext_getElem?
  intro j
  rw [List.getElem?_set, List.getElem?_map, List.getElem?_map]
  by_cases hj : j < n
  · rw [rowO_at _ hj, rowO_at _ hj]
    by_cases e : c = j
    · subst e
      rw [if_pos rfl, if_pos (by simpa [rowO_len] using hj), hx]
      rfl
    · rw [if_neg e, h j (fun k => e k.symm)]
  · have h1 : ∀ o : Nat → Int, (rowO o n)[j]? = none := fun o => List.getElem?_eq_none_iff.2 (by rw [rowO_len]; omega)
    rw [h1, h1]
    split
    · rw [if_neg (by simp [rowO_len]; omega)]; rfl
    · rfl
theorem rowO_const0 (x : Int) (n : Nat) : List.replicate n (Value.int .i64 x) = (rowO (fun _ => x) n).map (Value.int .i64) := by
  unfold rowO
  rw [List.map_const', List.length_range, List.map_replicate]
theorem rowO_same {o o' : Nat → Int} {n : Nat} (h : ∀ c, c < n → o c = o' c) : rowO o n = rowO o' n := List.map_congr_left fun c hc => h c (List.mem_range.1 hc)
theorem own_bool {w : World} {B : Nat} {e : TypeId} {g n cap c : Nat} {o : Nat → Bool} (h : w.ownsRow B e 1 (.slice (some ⟨g, 0, none⟩) n cap) n (rowB o n)) (hc : c < n) : w.cell? ⟨g, c, none⟩ = some (.bool (o c)) := by
  have := h.cells (g := g) rfl c (.bool (o c)) (rowB_at o hc)
  have hadd : (⟨g, 0, none⟩ : Addr).add c = ⟨g, c, none⟩ := by unfold Addr.add; split <;> simp_all
  rwa [hadd] at this

end Go.Proofs.YtnbbhdbcapfbkaaDoor

namespace Go.Proofs.YtnbbhdbcapfbkaaDoor
set_option maxRecDepth 4096
open Go.ChangeShapes Go.WideShapes Go.ChangeAt Go.RowKit

/-- A row that a call made: among the blocks from lo on, below hi. -/
structure RowD where
  lo : Nat
  hi : Nat
  t : TypeId
  sz : Nat
  v : Value
  n : Nat
  xs : List Value
structure RowD.At (r : RowD) (w : World) : Prop where
  own : w.ownsRow r.lo r.t r.sz r.v r.n r.xs
  lt : ∀ k, r.v.ownBlock = some k → k < r.hi
  le : r.hi ≤ w.heap.size

section
variable {r q : RowD} {w w' : World}
theorem RowD.At.on (h : r.At w) (hb : Below w.heap.size w w') : r.At w' := by
  refine ⟨?_, h.lt, Nat.le_trans h.le hb.size⟩
  refine h.own.kept (row := none) ⟨hb.os, hb.tape, hb.output, hb.size, fun i hi _ => hb.block i hi⟩ ?_
  cases hv : r.v.ownBlock with
  | none => exact .inl rfl
  | some j => exact .inr (by simp)
theorem RowD.At.drewN (h : r.At w) (m : Nat) : r.At (w.drewN m) := ⟨h.own, h.lt, h.le⟩
theorem RowD.At.grown (h : q.At w) (hr : r.At w) (ha : q.hi ≤ r.lo ∨ r.hi ≤ q.lo) (g : w.grownBy w' r.v.ownBlock) : q.At w' := by
  refine ⟨h.own.kept g ?_, h.lt, Nat.le_trans h.le g.size⟩
  cases hv : q.v.ownBlock with
  | none => exact .inl rfl
  | some j =>
    refine .inr (fun e => ?_)
    have h1 := h.lt j hv
    have h2 := (h.own.lt j hv).1
    have h3 := hr.lt j e.symm
    have h4 := (hr.own.lt j e.symm).1
    omega
/-- What a call handed back. -/
theorem row_new {t : TypeId} {sz : Nat} {v : Value} {n : Nat} {xs : List Value} (h : w'.ownsRow w.heap.size t sz v n xs) : RowD.At ⟨w.heap.size, w'.heap.size, t, sz, v, n, xs⟩ w' := ⟨h, fun k hk => (h.lt k hk).2, Nat.le_refl _⟩
end

/-- The law's state: its box o, the blocks K that stay, the rows L. -/
structure LSt (w : World) (o : Obj) (K : List (Nat × Obj)) (L : List RowD) (w' : World) : Prop where
  below : Below (w.alloc o).heap.size (w.alloc o) w'
  keep : ∀ p ∈ K, w'.heap[p.1]? = some p.2
  rows : ∀ r ∈ L, r.At w'

section
variable {w w' w'' : World} {o : Obj} {K : List (Nat × Obj)} {L : List RowD} {r : RowD}
theorem LSt.start (w : World) (o : Obj) : LSt w o [] [] (w.alloc o) := ⟨Below.refl _ _, fun p hp => (by cases hp), fun r hr => (by cases hr)⟩
theorem LSt.base (h : LSt w o K L w') : Below w.heap.size w w' := ((Below.refl _ _).alloc (Nat.le_refl _) _).trans (h.below.mono (by simp))
theorem LSt.on (h : LSt w o K L w') (hb : Below w'.heap.size w' w'') : LSt w o K L w'' :=
  ⟨h.below.trans (hb.mono h.below.size), fun p hp => (hb.block p.1 (Array.getElem?_eq_some_iff.1 (h.keep p hp)).1).trans (h.keep p hp), fun r hr => (h.rows r hr).on hb⟩
theorem LSt.drewN (h : LSt w o K L w') (m : Nat) : LSt w o K L (w'.drewN m) := ⟨below_drewN h.below m, h.keep, fun r hr => (h.rows r hr).drewN m⟩
theorem LSt.drew (h : LSt w o K L w') : LSt w o K L w'.drew := h.drewN 1
theorem LSt.few (h : LSt w o K L w') {K' : List (Nat × Obj)} {L' : List RowD} (hK : ∀ p ∈ K', p ∈ K) (hL : ∀ r ∈ L', r ∈ L) : LSt w o K' L' w' := ⟨h.below, fun p hp => h.keep p (hK p hp), fun r hr => h.rows r (hL r hr)⟩
/-- Another row comes first. -/
theorem LSt.front (h : LSt w o K L w') (i : Nat) (r : RowD) (hr : L[i]? = some r) : LSt w o K (r :: L.eraseIdx i) w' := h.few (fun p hp => hp) fun q hq => by
  rcases List.mem_cons.1 hq with rfl | hq
  · exact List.mem_of_getElem? hr
  · exact List.mem_of_mem_eraseIdx hq
theorem LSt.put (h : LSt w o K L w') (hr : r.At w') : LSt w o K (r :: L) w' := ⟨h.below, h.keep, fun q hq => by
  rcases List.mem_cons.1 hq with rfl | hq
  · exact hr
  · exact h.rows q hq⟩
/-- A call that hands back a row. -/
theorem LSt.call (h : LSt w o K L w') {t : TypeId} {sz : Nat} {v : Value} {n : Nat} {xs : List Value} (hr : w''.ownsRow w'.heap.size t sz v n xs) (hb : Below w'.heap.size w' w'') : LSt w o K (⟨w'.heap.size, w''.heap.size, t, sz, v, n, xs⟩ :: L) w'' := (h.on hb).put (row_new hr)
/-- A new block of the law's own. -/
theorem LSt.box (h : LSt w o K L w') (b : Obj) : LSt w o ((w'.heap.size, b) :: K) L (w'.alloc b) := by
  have h1 := h.on ((Below.refl w'.heap.size w').alloc (Nat.le_refl _) b)
  refine ⟨h1.below, fun p hp => ?_, h1.rows⟩
  rcases List.mem_cons.1 hp with rfl | hp
  · exact heap_alloc_new w' b
  · exact h1.keep p hp
/-- The first row is written anew. -/
theorem LSt.mark (h : LSt w o K (r :: L) w') {xs : List Value} (hn : w''.ownsRow r.lo r.t r.sz r.v r.n xs) (g : w'.grownBy w'' r.v.ownBlock) (hL : ∀ q ∈ L, q.hi ≤ r.lo ∨ r.hi ≤ q.lo) (hK : ∀ p ∈ K, p.1 < r.lo ∨ r.hi ≤ p.1) (hlo : (w.alloc o).heap.size ≤ r.lo) :
    LSt w o K ({ r with xs := xs } :: L) w'' := by
  have hr := h.rows r (List.mem_cons_self ..)
  refine ⟨h.below.grown g h.below.size (fun j hj => Nat.le_trans hlo (hr.own.lt j hj).1), fun p hp => ?_, fun q hq => ?_⟩
  · have h1 := h.keep p hp
    refine (g.block p.1 (Array.getElem?_eq_some_iff.1 h1).1 (fun e => ?_)).trans h1
    have h2 := hr.lt p.1 e.symm
    have h3 := (hr.own.lt p.1 e.symm).1
    have := hK p hp
    omega
  · rcases List.mem_cons.1 hq with rfl | hq
    · exact ⟨hn, hr.lt, Nat.le_trans hr.le g.size⟩
    · exact (h.rows q (List.mem_cons_of_mem _ hq)).grown hr (hL q hq) g
end

end Go.Proofs.YtnbbhdbcapfbkaaDoor

namespace Go.Proofs.YtnbbhdbcapfbkaaDoor
set_option maxRecDepth 4096
open Go.ChangeShapes Go.WideShapes Go.ChangeAt Go.RowKit

theorem Tryd.infoWay : (Tryd.prog.info? 48).map (fun i => (i.zero, i.size, i.bytes)) = some (some (.agg #[.slice none 0 0]), 1, 24) := by kernel_rfl

/-- Ways that lie in memory. -/
def WaysAt (w : World) (v : Value) (Ws : List (List Int)) : Prop :=
  ∃ a c, v = .slice a Ws.length c ∧ (Ws.length = 0 ∨ ∃ g, a = some ⟨g, 0, none⟩ ∧ g < w.heap.size ∧ ∀ (i : Nat) L, Ws[i]? = some L → ∃ u, w.cell? ⟨g, i, none⟩ = some u ∧ Ints w u L)
theorem waysAt_on {w w' : World} {v : Value} {Ws : List (List Int)} (h : WaysAt w v Ws) (hb : Below w.heap.size w w') : WaysAt w' v Ws := by
  obtain ⟨a, c, rfl, h⟩ := h
  refine ⟨a, c, rfl, ?_⟩
  rcases h with h | ⟨g, rfl, hg, hc⟩
  · exact .inl h
  · refine .inr ⟨g, rfl, Nat.lt_of_lt_of_le hg hb.size, fun i L hL => ?_⟩
    obtain ⟨u, h1, h2⟩ := hc i L hL
    exact ⟨u, (hb.cell (p := ⟨g, i, none⟩) hg).trans h1, ints_on h2 hb⟩
/-- An argument that is a slice of ways. -/
def ArgW (w : World) (v : Value) (Ws : List (List Int)) : Prop :=
  ∃ a c, v = .slice a Ws.length c ∧ (Ws.length = 0 ∨ ∃ b, a = some b ∧ b.block < w.heap.size ∧ ∀ (i : Nat) L, Ws[i]? = some L → ∃ u, w.cell? (b.add i) = some u ∧ ArgI w u L)
theorem blk_add (b : Addr) (j : Nat) : (b.add j).block = b.block := by unfold Addr.add; split <;> rfl
theorem argW_below {w w' : World} {v : Value} {Ws : List (List Int)} (h : ArgW w v Ws) (hb : Below w.heap.size w w') : ArgW w' v Ws := by
  obtain ⟨a, c, rfl, h⟩ := h
  refine ⟨a, c, rfl, ?_⟩
  rcases h with h | ⟨b, rfl, hg, hc⟩
  · exact .inl h
  · refine .inr ⟨b, rfl, Nat.lt_of_lt_of_le hg hb.size, fun i L hL => ?_⟩
    obtain ⟨u, h1, h2⟩ := hc i L hL
    exact ⟨u, (hb.cell (p := b.add i) (by rw [blk_add]; exact hg)).trans h1, argI_below h2 hb⟩

/-- A row of ints that a call made. -/
def rowJ (lo hi : Nat) (v : Value) (L : List Int) : RowD := ⟨lo, hi, 3, 1, v, L.length, L.map (Value.int .i64)⟩
/-- Rows of ints, each in memory of its own, in the order in which they were made. -/
inductive RowsI (w : World) : Nat → List Value → List (List Int) → Nat → Prop
  | nil {lo hi : Nat} : lo ≤ hi → hi ≤ w.heap.size → RowsI w lo [] [] hi
  | cons {lo mid hi : Nat} {v : Value} {L : List Int} {vs : List Value} {LL : List (List Int)} : (rowJ lo mid v L).At w → lo ≤ mid → RowsI w mid vs LL hi → RowsI w lo (v :: vs) (L :: LL) hi

section
variable {w w' : World} {lo mid hi : Nat} {vs : List Value} {LL : List (List Int)}
theorem own_kinds {B B' : Nat} {e e' : TypeId} {s s' n n' : Nat} {v v' : Value} {xs xs' : List Value} (h : w.ownsRow B e s v n xs) (h' : w.ownsRow B' e' s' v' n' xs') (he : e ≠ e') : v.ownBlock = none ∨ v.ownBlock ≠ v'.ownBlock := by
  rcases h.2 with ⟨rfl, _⟩ | ⟨g, cap, cur, rfl, _, hg, _⟩
  · exact .inl rfl
  · refine .inr (fun k => ?_)
    rcases h'.2 with ⟨rfl, _⟩ | ⟨g', cap', cur', rfl, _, hg', _⟩
    · cases k
    · have k2 : g = g' := by simpa [Value.ownBlock] using k
      subst k2
      rw [hg] at hg'
      injection hg' with hg'
      injection hg' with _ h2
      exact he h2
theorem RowsI.le (h : RowsI w lo vs LL hi) : lo ≤ hi ∧ hi ≤ w.heap.size := by
  induction h with
  | nil h1 h2 => exact ⟨h1, h2⟩
  | cons _ h1 _ ih => exact ⟨Nat.le_trans h1 ih.1, ih.2⟩
theorem RowsI.len (h : RowsI w lo vs LL hi) : vs.length = LL.length := by
  induction h with
  | nil _ _ => rfl
  | cons _ _ _ ih => simp [ih]
theorem RowsI.on (h : RowsI w lo vs LL hi) (hb : Below w.heap.size w w') : RowsI w' lo vs LL hi := by
  induction h with
  | nil h1 h2 => exact .nil h1 (Nat.le_trans h2 hb.size)
  | cons h1 h2 _ ih => exact .cons (h1.on hb) h2 ih
theorem RowsI.drewN (h : RowsI w lo vs LL hi) (n : Nat) : RowsI (w.drewN n) lo vs LL hi := by
  induction h with
  | nil h1 h2 => exact .nil h1 h2
  | cons h1 h2 _ ih => exact .cons (h1.drewN n) h2 ih
theorem RowsI.more (h : RowsI w lo vs LL mid) (h2 : mid ≤ hi) (h3 : hi ≤ w.heap.size) : RowsI w lo vs LL hi := by
  induction h with
  | nil h1 _ => exact .nil (Nat.le_trans h1 h2) h3
  | cons h1 k _ ih => exact .cons h1 k (ih h2)
theorem RowsI.base {lo' : Nat} (h : RowsI w lo vs LL hi) (h2 : lo' ≤ lo) : RowsI w lo' vs LL hi := by
  cases h with
  | nil h1 h3 => exact .nil (Nat.le_trans h2 h1) h3
  | cons h1 k h3 => exact .cons ⟨own_base h1.own h2, h1.lt, h1.le⟩ (Nat.le_trans h2 k) h3
theorem RowsI.snoc {v : Value} {L : List Int} (h : RowsI w lo vs LL mid) (hr : (rowJ mid hi v L).At w) (hm : mid ≤ hi) : RowsI w lo (vs ++ [v]) (LL ++ [L]) hi := by
  induction h with
  | nil h1 h2 => exact .cons ⟨own_base hr.own h1, hr.lt, hr.le⟩ (Nat.le_trans h1 hm) (.nil (Nat.le_refl _) hr.le)
  | cons h1 h2 _ ih => exact .cons h1 h2 (ih hr hm)
theorem RowsI.at (h : RowsI w lo vs LL hi) : ∀ {i : Nat} {v : Value} {L : List Int}, vs[i]? = some v → LL[i]? = some L → ∃ l k, lo ≤ l ∧ k ≤ hi ∧ (rowJ l k v L).At w := by
  induction h with
  | nil _ _ =>
    intro i v L h
    simp at h
  | cons h1 h2 h3 ih =>
    intro i v L hv hL
    cases i with
    | zero =>
      cases hv
      cases hL
      exact ⟨_, _, Nat.le_refl _, h3.le.1, h1⟩
    | succ i =>
      obtain ⟨l, k, a, b, c⟩ := ih (by simpa using hv) (by simpa using hL)
      exact ⟨l, k, Nat.le_trans h2 a, b, c⟩
/-- What writes into no row of ints. -/
theorem RowsI.grown {g : Option Nat} (h : RowsI w lo vs LL hi) (hg : w.grownBy w' g) (hne : ∀ v ∈ vs, v.ownBlock = none ∨ v.ownBlock ≠ g) : RowsI w' lo vs LL hi := by
  induction h with
  | nil h1 h2 => exact .nil h1 (Nat.le_trans h2 hg.size)
  | cons h1 h2 _ ih =>
    exact .cons ⟨h1.own.kept hg (hne _ (List.mem_cons_self ..)), h1.lt, Nat.le_trans h1.le hg.size⟩ h2 (ih fun v hv => hne v (List.mem_cons_of_mem _ hv))
theorem RowsI.kinds (h : RowsI w lo vs LL hi) {B s n : Nat} {e : TypeId} {u : Value} {xs : List Value} (hu : w.ownsRow B e s u n xs) (he : 3 ≠ e) : ∀ v ∈ vs, v.ownBlock = none ∨ v.ownBlock ≠ u.ownBlock := by
  induction h with
  | nil _ _ =>
    intro v hv
    cases hv
  | cons h1 _ _ ih =>
    intro v hv
    rcases List.mem_cons.1 hv with rfl | hv
    · exact own_kinds h1.own hu he
    · exact ih v hv
/-- One row is written anew. -/
theorem RowsI.put (h : RowsI w lo vs LL hi) : ∀ {i : Nat} {v : Value} {L L' : List Int}, vs[i]? = some v → LL[i]? = some L → L'.length = L.length → (∀ B, w.ownsRow B 3 1 v L.length (L.map (Value.int .i64)) → w'.ownsRow B 3 1 v L.length (L'.map (Value.int .i64))) → w.grownBy w' v.ownBlock → RowsI w' lo vs (LL.set i L') hi := by
  induction h with
  | nil _ _ =>
    intro i v L L' h
    simp at h
  | cons h1 h2 h3 ih =>
    intro i v L L' hv hL hl hw hg
    cases i with
    | zero =>
      cases hv
      cases hL
      refine .cons ⟨?_, h1.lt, Nat.le_trans h1.le hg.size⟩ h2 (h3.grown hg fun u hu => ?_)
      · have := hw _ h1.own
        show World.ownsRow _ _ _ _ _ L'.length _
        rw [hl]
        exact this
      · obtain ⟨j, hj, e⟩ := List.getElem_of_mem hu
        have hj2 : j < _ := h3.len ▸ hj
        obtain ⟨l, k, a, b, c⟩ := h3.at (i := j) (by rw [List.getElem?_eq_getElem hj, e]) (List.getElem?_eq_getElem hj2)
        cases hu : u.ownBlock with
        | none => exact .inl rfl
        | some m =>
          refine .inr fun e => ?_
          have h4 := (c.own.lt m hu).1
          have h5 := h1.lt m e.symm
          dsimp only [rowJ] at h4 h5
          omega
    | succ i =>
      have hv2 := by simpa using hv
      have hL2 := by simpa using hL
      obtain ⟨l, k, a, b, c⟩ := h3.at hv2 hL2
      refine .cons ⟨h1.own.kept hg ?_, h1.lt, Nat.le_trans h1.le hg.size⟩ h2 (ih hv2 hL2 hl hw hg)
      dsimp only [rowJ]
      rename_i u _ _ _
      cases hu : u.ownBlock with
      | none => exact .inl rfl
      | some m =>
        refine .inr fun e => ?_
        have h4 := h1.lt m hu
        have h5 := (c.own.lt m e.symm).1
        dsimp only [rowJ] at h4 h5
        omega
end

/-- Ways in memory that a call made, all of it among the blocks from lo on, below hi. -/
def WOwn (w : World) (lo hi : Nat) (v : Value) (Ws : List (List Int)) : Prop :=
  ∃ vs, w.ownsRow lo 48 1 v Ws.length vs ∧ (∀ k, v.ownBlock = some k → k < hi) ∧ RowsI w lo vs Ws hi
section
variable {w w' : World} {lo hi : Nat} {v : Value} {Ws : List (List Int)}
theorem WOwn.on (h : WOwn w lo hi v Ws) (hb : Below w.heap.size w w') : WOwn w' lo hi v Ws := by
  obtain ⟨vs, h1, h2, h3⟩ := h
  exact ⟨vs, own_below h1 hb (Nat.le_trans h3.le.1 h3.le.2), h2, h3.on hb⟩
theorem WOwn.drewN (h : WOwn w lo hi v Ws) (n : Nat) : WOwn (w.drewN n) lo hi v Ws := by
  obtain ⟨vs, h1, h2, h3⟩ := h
  exact ⟨vs, h1, h2, h3.drewN n⟩
theorem WOwn.le (h : WOwn w lo hi v Ws) : lo ≤ hi ∧ hi ≤ w.heap.size := by
  obtain ⟨vs, h1, h2, h3⟩ := h
  exact h3.le
theorem WOwn.form (h : WOwn w lo hi v Ws) : ∃ a c, v = .slice a Ws.length c := by
  obtain ⟨vs, h1, h2, h3⟩ := h
  exact own_form h1
theorem WOwn.at (h : WOwn w lo hi v Ws) : WaysAt w v Ws := by
  obtain ⟨vs, h1, h2, h3⟩ := h
  by_cases h0 : Ws.length = 0
  · obtain ⟨a, c, rfl⟩ := own_form h1
    exact ⟨a, c, rfl, .inl h0⟩
  · obtain ⟨g, c, rfl⟩ : ∃ g c, v = .slice (some ⟨g, 0, none⟩) Ws.length c := by
      rcases h1.2 with ⟨_, h⟩ | ⟨g, cap, cur, rfl, _⟩
      · exact absurd h h0
      · exact ⟨g, cap, rfl⟩
    refine ⟨_, c, rfl, .inr ⟨g, rfl, (h1.lt g rfl).2, fun i L hL => ?_⟩⟩
    have hi : i < vs.length := by
      rw [h3.len]
      exact (List.getElem?_eq_some_iff.1 hL).1
    have hu : vs[i]? = some vs[i] := List.getElem?_eq_getElem hi
    have hc := h1.cells (g := g) rfl i _ hu
    have hadd : (⟨g, 0, none⟩ : Addr).add i = ⟨g, i, none⟩ := by unfold Addr.add; split <;> simp_all
    rw [hadd] at hc
    obtain ⟨l, k, _, _, hr⟩ := h3.at hu hL
    exact ⟨_, hc, ints_of_own hr.own⟩
end
theorem rowJ_form {w : World} {l q : Nat} {u : Value} {L : List Int} (h : (rowJ l q u L).At w) : ∃ a c, u = .slice a L.length c := own_form h.own
/-- Ways came back in memory of the call's own. -/
def WaysBack (w : World) (Ws : List (List Int)) (e : Ending) (w' : World) : Prop :=
  ∃ v, e = .returned v ∧ WOwn w' w.heap.size w'.heap.size v Ws ∧ Below w.heap.size w w'
theorem own_put1 {w : World} {B r i s : Nat} {e : TypeId} {n : Nat} {v u : Value} {xs : List Value} (h : w.ownsRow B e s v n xs) (hr : r < B) : (w.setCell ⟨r, i, none⟩ u).ownsRow B e s v n xs := by
  have hg : w.grownBy (w.setCell ⟨r, i, none⟩ u) (some r) := ⟨rfl, rfl, rfl, by simp [World.setCell], fun k _ hk => heap_setCell_other w ⟨r, i, none⟩ k u (fun e => hk (by simp [e]))⟩
  refine h.kept hg ?_
  cases hv : v.ownBlock with
  | none => exact .inl rfl
  | some j => exact .inr (fun e => by have := (h.lt j hv).1; have := Option.some.inj e; omega)
/-- A block of one cell that a call has left as it was. -/
theorem old_one {wa w3 : World} {c0 : Value} {t : TypeId} {m : Nat} (hb : Below wa.heap.size wa w3) (h : wa.heap[m]? = some (.cells #[c0] t (0, 0))) : w3.cell? ⟨m, 0, none⟩ = some c0 ∧ w3.frozen? ⟨m, 0, none⟩ = false := by
  have h3 : w3.heap[m]? = some (.cells #[c0] t (0, 0)) := (hb.block m (Array.getElem?_eq_some_iff.1 h).1).trans h
  refine ⟨?_, ?_⟩
  · rw [cell_of_row _ _ _ _ _ _ h3]; rfl
  · simp [World.frozen?, h3]
/-- All in all. -/
def totW (Ws : List (List Int)) : Nat := (Ws.map List.length).sum
theorem totW_succ {Ws : List (List Int)} {k : Nat} {L : List Int} (h : Ws[k]? = some L) : totW (Ws.take (k + 1)) = totW (Ws.take k) + L.length := by
  obtain ⟨hi, rfl⟩ := List.getElem?_eq_some_iff.1 h
  unfold totW
  rw [List.take_succ_eq_append_getElem hi, List.map_append, List.sum_append]
  simp
theorem totW_le (Ws : List (List Int)) (k : Nat) : totW (Ws.take k) ≤ totW Ws := by
  have h : totW Ws = totW (Ws.take k) + totW (Ws.drop k) := by
    unfold totW
    rw [← List.sum_append, ← List.map_append, List.take_append_drop]
  omega
theorem totW_one {Ws : List (List Int)} {k : Nat} {L : List Int} (h : Ws[k]? = some L) : L.length ≤ totW Ws := by
  have h1 := totW_succ h
  have h2 := totW_le Ws (k + 1)
  omega

/-- Only the blocks from lo on, below hi, have turned. -/
structure Within (lo hi : Nat) (w w' : World) : Prop where
  os : w'.os = w.os
  tape : w'.tape = w.tape
  output : w'.output = w.output
  size : w.heap.size ≤ w'.heap.size
  block : ∀ i, i < w.heap.size → (i < lo ∨ hi ≤ i) → w'.heap[i]? = w.heap[i]?
section
variable {lo hi : Nat} {w w' w'' : World}
theorem Within.refl (lo hi : Nat) (w : World) : Within lo hi w w := ⟨rfl, rfl, rfl, Nat.le_refl _, fun _ _ _ => rfl⟩
theorem Within.grown (h : Within lo hi w w') {g : Option Nat} (hg : w'.grownBy w'' g) (hr : ∀ k, g = some k → lo ≤ k ∧ k < hi) : Within lo hi w w'' :=
  ⟨hg.os.trans h.os, hg.tape.trans h.tape, hg.output.trans h.output, Nat.le_trans h.size hg.size, fun i hi2 hh => (hg.block i (Nat.lt_of_lt_of_le hi2 h.size) (fun e => by have := hr i e.symm; omega)).trans (h.block i hi2 hh)⟩
theorem Within.below (h : Within lo hi w w') {B : Nat} (hB : B ≤ lo) (hl : lo ≤ w.heap.size) : Below B w w' := ⟨h.os, h.tape, h.output, h.size, fun i hi2 => h.block i (by omega) (.inl (by omega))⟩
theorem Within.own (h : Within lo hi w w') {B s n : Nat} {e : TypeId} {v : Value} {xs : List Value} (ho : w.ownsRow B e s v n xs) (ha : ∀ k, v.ownBlock = some k → k < lo ∨ hi ≤ k) : w'.ownsRow B e s v n xs := by
  refine ⟨ho.1, ?_⟩
  rcases ho.2 with h2 | ⟨g, cap, cur, rfl, hg, hh, r⟩
  · exact .inl h2
  · exact .inr ⟨g, cap, cur, rfl, hg, (h.block g (Array.getElem?_eq_some_iff.1 hh).1 (ha g rfl)).trans hh, r⟩
theorem Within.row (h : Within lo hi w w') {q : RowD} (hq : q.At w) (ha : q.hi ≤ lo ∨ hi ≤ q.lo) : q.At w' :=
  ⟨h.own hq.own fun k hk => by have h1 := hq.lt k hk; have h2 := (hq.own.lt k hk).1; omega, hq.lt, Nat.le_trans hq.le h.size⟩
theorem Within.rows (h : Within lo hi w w') {l k : Nat} {vs : List Value} {LL : List (List Int)} (hr : RowsI w l vs LL k) (ha : k ≤ lo ∨ hi ≤ l) : RowsI w' l vs LL k := by
  induction hr with
  | nil h1 h2 => exact .nil h1 (Nat.le_trans h2 h.size)
  | cons h1 h2 h3 ih =>
    have := h3.le.1
    exact .cons (h.row h1 (by dsimp only [rowJ]; omega)) h2 (ih (by omega))
theorem Within.ways (h : Within lo hi w w') {l k : Nat} {v : Value} {Ws : List (List Int)} (hr : WOwn w l k v Ws) (ha : k ≤ lo ∨ hi ≤ l) : WOwn w' l k v Ws := by
  obtain ⟨vs, h1, h2, h3⟩ := hr
  refine ⟨vs, h.own h1 fun j hj => ?_, h2, h.rows h3 ha⟩
  have h4 := h2 j hj
  have h5 := (h1.lt j hj).1
  omega
end

end Go.Proofs.YtnbbhdbcapfbkaaDoor

namespace Go.Proofs.YtnbbhdbcapfbkaaDoor
set_option maxRecDepth 4096
open Go.ChangeShapes Go.WideShapes Go.ChangeAt Go.RowKit

theorem eqWay (v1 v2 : Value) (L : List Int) (w : World) (h1 : Ints w v1 L) (h2 : Ints w v2 L) (hL : L.length ≤ 2000000) :
    Calls Tryd.prog 27 #[.agg #[v1], .agg #[v2]] w (Made w (.bool true)) := by
  have hB := ((Below.refl w.heap.size w).alloc (Nat.le_refl _) (.cells #[v1] 48)).alloc (by simp) (.cells #[v2] 48)
  have H1 := Lib.hid (ints_on h1 hB)
  have H2 := Lib.hid (ints_on h2 hB)
  clear h1 h2
  go_enter Tryd.func27, Tryd.ntmps27
  go_wp2_with fail
  refine (eqInts v1 v2 L _ H1.out H2.out hL).mono ?_
  rintro e w3 ⟨rfl, m, rfl⟩
  go_wp2_with fail
  go_ret
  exact ⟨rfl, below_drewN hB m⟩

set_option maxHeartbeats 1000000 in
theorem eqWays (v1 v2 : Value) (Ws : List (List Int)) (w : World) (h1 : WaysAt w v1 Ws) (h2 : WaysAt w v2 Ws) (hW : Ws.length ≤ 2000000) (hL : ∀ L ∈ Ws, L.length ≤ 2000000) :
    Calls Tryd.prog 12 #[v1, v2] w (Made w (.bool true)) := by
  obtain ⟨a1, c1, rfl, H1⟩ := h1
  obtain ⟨a2, c2, rfl, H2⟩ := h2
  have HH1 := Lib.hid H1
  have HH2 := Lib.hid H2
  have HLh := Lib.hid hL
  clear H1 H2 hL
  go_enter Tryd.func12, Tryd.ntmps12
  go_wp2
  go_loopw [5] (fun i wr => ∃ k : Nat, k ≤ Ws.length ∧ i = .int .i64 k ∧ Below w.heap.size w wr) (fun i _ => Ws.length - (intOf i).toNat)
  case atStart => exact ⟨0, Nat.zero_le _, rfl, Below.refl _ _⟩
  case round =>
    obtain ⟨k, hk, rfl, hB⟩ := hrel
    by_cases hlt : k < Ws.length
    · obtain ⟨L, hx⟩ : ∃ L, Ws[k]? = some L := ⟨_, List.getElem?_eq_getElem hlt⟩
      rcases HH1.out with h0 | ⟨g1, rfl, hg1, hc1⟩
      · omega
      · rcases HH2.out with h0 | ⟨g2, rfl, hg2, hc2⟩
        · omega
        · obtain ⟨u1, p1, i1⟩ := hc1 k L hx
          obtain ⟨u2, p2, i2⟩ := hc2 k L hx
          have d0 := (hB.cell (p := ⟨g1, _, none⟩) hg1).trans p1
          have e0 := (hB.cell (p := ⟨g2, _, none⟩) hg2).trans p2
          have hlt2 : (k : Int) < (Ws.length : Int) := by omega
          have HB2 := Lib.hid hB.drew
          have I1 := Lib.hid (ints_on i1 hB.drew)
          have I2 := Lib.hid (ints_on i2 hB.drew)
          have hLk := HLh.out L (List.mem_of_getElem? hx)
          obtain ⟨b1, n1, rfl, _⟩ := ints_form i1
          obtain ⟨b2, n2, rfl, _⟩ := ints_form i2
          clear p1 p2 i1 i2 hc1 hc2 hx hB
          go_wp2_with fail
          go_still_tail 8, (by kernel_rfl)
          change wpList _ _ _ _ _ wr.drew
          go_wp2_with (go_at_call 27; (with_reducible refine (eqWay _ _ L _ I1.out I2.out hLk).mono ?_); rintro e w' ⟨rfl, hb⟩; have HB3 := Lib.hid (HB2.out.trans (hb.mono HB2.out.size)); clear hb)
          go_roundw
          case rel => exact ⟨k + 1, by omega, by go_num, HB3.out⟩
          case measure => simp [intOf]; omega
    · obtain rfl : k = Ws.length := by omega
      go_wp2_with fail
      go_ret
      exact ⟨rfl, hB⟩

end Go.Proofs.YtnbbhdbcapfbkaaDoor

