/-
  CONTRACT of spec.l06Right: the net that a cursor draws, as a function of the bytes. No law is proved here.
-/
import Derived.Test.YtobflidianlomaaCurF
import Derived.Test.YtobflidianlomaaArcRow
import Derived.Test.YtobflidianlomaaNetM
import Derived.Deep.RegionHeld3
import Derived.Deep.DeepCutAuto
import Derived.Deep.CutRange
namespace Go.Proofs.Ytobflidianlomaa
set_option maxRecDepth 4096
open Go.ChangeShapes Go.WideShapes Go.ChangeAt Go.RowKit

/-- The cursor k draws on. -/
def DS.at (s : DS) (N : Nat) : Nat → DS
  | 0 => s
  | k + 1 => (s.at N k).next N
theorem DS.at_le {s : DS} {N : Nat} (h : s.i ≤ N) : ∀ k, (s.at N k).i ≤ N
  | 0 => h
  | k + 1 => next_le (DS.at_le h k)
/-- The arc that is drawn at s (five draws). -/
def arcD (N : Nat) (B : Nat → Int) (M : Int) (s : DS) : ArcD :=
  ⟨if (s.at N 4).few N B 5 = 0 then 0 else s.few N B M, if (s.at N 4).few N B 5 = 1 then 1 else (s.at N 1).few N B M, (s.at N 2).few N B 5, (s.at N 3).few N B 10⟩
def moreA (A : List ArcD) (x : ArcD) : List ArcD := if x.f = x.t then A else A ++ [x]
/-- The arcs that are drawn from round i on. -/
def rightA (N : Nat) (B : Nat → Int) (M : Int) : Nat → Nat → DS → List ArcD → List ArcD × DS
  | 0, _, s, A => (A, s)
  | f + 1, i, s, A => if (i : Int) < 4 + s.few N B 14 then rightA N B M f (i + 1) (s.at N 6) (moreA A (arcD N B M (s.next N))) else (A, s.next N)
def rightM (N : Nat) (B : Nat → Int) (s : DS) : Int := 3 + s.few N B 6
def rightP (N : Nat) (B : Nat → Int) (s : DS) : List ArcD × DS := rightA N B (rightM N B s) 18 0 (s.next N) []

theorem rightM_in (N : Nat) (B : Nat → Int) (s : DS) : 3 ≤ rightM N B s ∧ rightM N B s ≤ 8 := by
  have := s.few_in N B (n := 6) (by omega)
  unfold rightM
  omega
theorem arcD_ok {N : Nat} {B : Nat → Int} {M : Int} (hM : 3 ≤ M) (s : DS) (h : (arcD N B M s).f ≠ (arcD N B M s).t) : arcOk M (arcD N B M s) = true := by
  have h1 := s.few_in N B (n := M) (by omega)
  have h2 := (s.at N 1).few_in N B (n := M) (by omega)
  have h3 := (s.at N 2).few_in N B (n := 5) (by omega)
  have h4 := (s.at N 3).few_in N B (n := 10) (by omega)
  have hf : 0 ≤ (arcD N B M s).f ∧ (arcD N B M s).f ≤ M - 1 := by
    show 0 ≤ (if _ then (0 : Int) else _) ∧ (if _ then (0 : Int) else _) ≤ M - 1
    split <;> omega
  have ht : 0 ≤ (arcD N B M s).t ∧ (arcD N B M s).t ≤ M - 1 := by
    show 0 ≤ (if _ then (1 : Int) else _) ∧ (if _ then (1 : Int) else _) ≤ M - 1
    split <;> omega
  have hr : 0 ≤ (arcD N B M s).r ∧ (arcD N B M s).r ≤ 20 := by
    show 0 ≤ (s.at N 2).few N B 5 ∧ (s.at N 2).few N B 5 ≤ 20
    omega
  have hc : 0 ≤ (arcD N B M s).c ∧ (arcD N B M s).c ≤ 100 := by
    show 0 ≤ (s.at N 3).few N B 10 ∧ (s.at N 3).few N B 10 ≤ 100
    omega
  unfold arcOk
  rw [inV_iff.2 hf, inV_iff.2 ht, inV_iff.2 hr, inV_iff.2 hc]
  simp [h]
theorem moreA_ok {M : Int} {A : List ArcD} {x : ArcD} (h : ∀ y ∈ A, arcOk M y = true) (hx : x.f ≠ x.t → arcOk M x = true) : ∀ y ∈ moreA A x, arcOk M y = true := by
  unfold moreA
  split
  · exact h
  · rename_i hne
    intro y hy
    rcases List.mem_append.1 hy with h1 | h1
    · exact h y h1
    · rw [List.mem_singleton] at h1
      rw [h1]
      exact hx hne
theorem moreA_len (A : List ArcD) (x : ArcD) : (moreA A x).length ≤ A.length + 1 := by
  unfold moreA
  split
  · omega
  · simp
theorem rightA_ok {N : Nat} {B : Nat → Int} {M : Int} (hM : 3 ≤ M) : ∀ (f i : Nat) (s : DS) (A : List ArcD), (∀ y ∈ A, arcOk M y = true) → (∀ y ∈ (rightA N B M f i s A).1, arcOk M y = true) ∧ (rightA N B M f i s A).1.length ≤ A.length + f
  | 0, _, _, A, h => ⟨h, by simp [rightA]⟩
  | f + 1, i, s, A, h => by
    unfold rightA
    split
    · have h1 := rightA_ok (N := N) (B := B) hM f (i + 1) (s.at N 6) (moreA A (arcD N B M (s.next N))) (moreA_ok h (arcD_ok hM _))
      have h2 := moreA_len A (arcD N B M (s.next N))
      exact ⟨h1.1, by omega⟩
    · exact ⟨h, by simp⟩
theorem right_ok (N : Nat) (B : Nat → Int) (s : DS) : netOkV (rightM N B s) (rightP N B s).1 = true ∧ (rightP N B s).1.length ≤ 18 := by
  obtain ⟨h3, h8⟩ := rightM_in N B s
  obtain ⟨h1, h2⟩ := rightA_ok (N := N) (B := B) h3 18 0 (s.next N) [] (by simp)
  have hl : (rightP N B s).1.length ≤ 18 := by simpa [rightP] using h2
  refine ⟨?_, hl⟩
  unfold netOkV
  simp only [Bool.and_eq_true, decide_eq_true_eq, List.all_eq_true]
  exact ⟨inV_iff.2 (by omega), by omega, h1⟩

/-- The memory while the net is drawn: the cursor g, the result's block R, the net's own block X, the arcs. -/
structure NSt (w : World) (g : Nat) (v : Value) (N : Nat) (B : Nat → Int) (R X : Nat) (M : Int) (s : DS) (va : Value) (A : List ArcD) (wr : World) : Prop where
  grow : w.grownBy wr (some g)
  cur : CurF wr g v s
  code : CodeF wr v N B g
  res : wr.heap[R]? = some (.cells #[.int .i64 0, .slice none 0 0] 26 (0, 0))
  box : wr.heap[X]? = some (.cells #[.int .i64 M, va] 26 (0, 0))
  own : wr.ownsRow (X + 1) 66 4 va A.length (cellsA A)
  lo : g < w.heap.size ∧ w.heap.size ≤ R ∧ R < X
  fit : s.i ≤ N
section
variable {w wr w' : World} {g N R X : Nat} {v va : Value} {B : Nat → Int} {M : Int} {s s' : DS} {A : List ArcD}
theorem grown_onF {w w1 w2 : World} {r : Option Nat} (h : w.grownBy w1 r) (k : w1.grownBy w2 r) : w.grownBy w2 r :=
  ⟨k.os.trans h.os, k.tape.trans h.tape, k.output.trans h.output, Nat.le_trans h.size k.size, fun i hi hne => (k.block i (Nat.lt_of_lt_of_le hi h.size) hne).trans (h.block i hi hne)⟩
/-- Nothing that was there before has turned but g; what is written lies from n₀ on. -/
theorem grown_on2 {w w1 w2 : World} {g : Nat} {r : Option Nat} (h : w.grownBy w1 (some g)) (k : w1.grownBy w2 r) (hr : ∀ j, r = some j → w.heap.size ≤ j ∨ j = g) : w.grownBy w2 (some g) :=
  ⟨k.os.trans h.os, k.tape.trans h.tape, k.output.trans h.output, Nat.le_trans h.size k.size, fun i hi hne => (k.block i (Nat.lt_of_lt_of_le hi h.size) (fun e => by
    rcases hr i e.symm with h1 | h1
    · omega
    · exact hne (by rw [h1]))).trans (h.block i hi hne)⟩
theorem NSt.turn (h : NSt w g v N B R X M s va A wr) (k : wr.grownBy w' (some g)) (hc : CurF w' g v s') (hf : s'.i ≤ N) : NSt w g v N B R X M s' va A w' := by
  have hR := (Array.getElem?_eq_some_iff.1 h.res).1
  have hX := (Array.getElem?_eq_some_iff.1 h.box).1
  have hl := h.lo
  refine ⟨grown_onF h.grow k, hc, h.code.turn k, (k.block R hR (fun e => by have := Option.some.inj e; omega)).trans h.res, (k.block X hX (fun e => by have := Option.some.inj e; omega)).trans h.box, h.own.kept k ?_, h.lo, hf⟩
  cases hv : va.ownBlock with
  | none => exact .inl rfl
  | some j => exact .inr (fun e => by have := (h.own.lt j hv).1; have := Option.some.inj e; omega)
theorem NSt.still (h : NSt w g v N B R X M s va A wr) (k : wr.grownBy w' none) : NSt w g v N B R X M s va A w' :=
  h.turn ⟨k.os, k.tape, k.output, k.size, fun i hi _ => k.block i hi (by simp)⟩ ((k.block g (Array.getElem?_eq_some_iff.1 h.cur).1 (by simp)).trans h.cur) h.fit
theorem NSt.alloc (h : NSt w g v N B R X M s va A wr) (b : Obj) : NSt w g v N B R X M s va A (wr.alloc b) := h.still (World.grownBy_alloc wr b none)
theorem NSt.drewN (h : NSt w g v N B R X M s va A wr) (m : Nat) : NSt w g v N B R X M s va A (wr.drewN m) := ⟨grown_drawF h.grow m, h.cur, h.code, h.res, h.box, h.own, h.lo, h.fit⟩
theorem NSt.drew (h : NSt w g v N B R X M s va A wr) : NSt w g v N B R X M s va A wr.drew := h.drewN 1
theorem NSt.c0 (h : NSt w g v N B R X M s va A wr) : wr.cell? ⟨X, 0, none⟩ = some (.int .i64 M) := by rw [cell_of_row _ _ _ _ _ _ h.box]; rfl
theorem NSt.r0 (h : NSt w g v N B R X M s va A wr) : wr.cell? ⟨R, 0, none⟩ = some (.int .i64 0) := by rw [cell_of_row _ _ _ _ _ _ h.res]; rfl
theorem NSt.r1 (h : NSt w g v N B R X M s va A wr) : wr.cell? ⟨R, 1, none⟩ = some (.slice none 0 0) := by rw [cell_of_row _ _ _ _ _ _ h.res]; rfl
theorem NSt.c1 (h : NSt w g v N B R X M s va A wr) : wr.cell? ⟨X, 1, none⟩ = some va := by rw [cell_of_row _ _ _ _ _ _ h.box]; rfl
/-- A cell of a block that is none of these is written. -/
theorem NSt.set (h : NSt w g v N B R X M s va A wr) {S j : Nat} {u : Value} (h1 : w.heap.size ≤ S) (h2 : S ≠ R) (h3 : S ≠ X) (h4 : va.ownBlock ≠ some S) : NSt w g v N B R X M s va A (wr.setCell ⟨S, j, none⟩ u) := by
  have hl := h.lo
  have k : wr.grownBy (wr.setCell ⟨S, j, none⟩ u) (some S) := ⟨rfl, rfl, rfl, by simp [World.setCell], fun i _ hne => heap_setCell_other _ _ _ _ (fun e => hne (by rw [e]))⟩
  have hR := (Array.getElem?_eq_some_iff.1 h.res).1
  have hX := (Array.getElem?_eq_some_iff.1 h.box).1
  have hg := (Array.getElem?_eq_some_iff.1 h.cur).1
  refine ⟨grown_on2 h.grow k (fun j e => .inl (by have := Option.some.inj e; omega)), (k.block g hg (fun e => by have := Option.some.inj e; omega)).trans h.cur, ?_, (k.block R hR (fun e => h2 (Option.some.inj e).symm)).trans h.res, (k.block X hX (fun e => h3 (Option.some.inj e).symm)).trans h.box, h.own.kept k (.inr h4), h.lo, h.fit⟩
  exact h.code.keep (fun i hi hlt => k.block i hlt (fun e => by have := Option.some.inj e; omega)) k.size
end

section
variable {w wr w' : World} {g N R X Sa : Nat} {v va : Value} {B : Nat → Int} {M : Int} {s s' : DS} {A : List ArcD}
/-- The arc that is being drawn has a block of its own. -/
structure Fr (w : World) (g R X : Nat) (va : Value) (Sa : Nat) (xs : Array Value) (wr : World) : Prop where
  at_ : wr.heap[Sa]? = some (.cells xs 66 (0, 0))
  far : w.heap.size ≤ Sa ∧ Sa ≠ R ∧ Sa ≠ X ∧ Sa ≠ g ∧ va.ownBlock ≠ some Sa
theorem Fr.make {xs : Array Value} (h : NSt w g v N B R X M s va A wr) : Fr w g R X va wr.heap.size xs (wr.alloc (.cells xs 66)) := by
  have hR := (Array.getElem?_eq_some_iff.1 h.res).1
  have hX := (Array.getElem?_eq_some_iff.1 h.box).1
  have hg := (Array.getElem?_eq_some_iff.1 h.cur).1
  have hs := h.grow.size
  refine ⟨heap_alloc_new wr _, hs, by omega, by omega, by omega, fun e => ?_⟩
  have := (h.own.lt _ e).2
  omega
theorem Fr.drewN {xs : Array Value} (h : Fr w g R X va Sa xs wr) (m : Nat) : Fr w g R X va Sa xs (wr.drewN m) := ⟨h.at_, h.far⟩
theorem Fr.drew {xs : Array Value} (h : Fr w g R X va Sa xs wr) : Fr w g R X va Sa xs wr.drew := h.drewN 1
theorem Fr.kept {xs : Array Value} (h : Fr w g R X va Sa xs wr) (k : wr.grownBy w' (some g)) : Fr w g R X va Sa xs w' :=
  ⟨(k.block Sa (Array.getElem?_eq_some_iff.1 h.at_).1 (fun e => h.far.2.2.2.1 (Option.some.inj e))).trans h.at_, h.far⟩
/-- A draw while the net is drawn. -/
theorem fewN {n : Int} {Q : Ending → World → Prop} (hN : N ≤ 9000000000000000) (h : NSt w g v N B R X M s va A wr) (hn1 : 1 ≤ n ∧ n ≤ 256) (q : ∀ w', NSt w g v N B R X M (s.next N) va A w' → Q (.returned (.int .i64 (s.few N B n))) w') :
    Calls Try.prog 29 #[.pointer (some ⟨g, 0, none⟩), .int .i64 n] wr Q := by
  refine (fewF g N B v s n wr hN h.fit h.code h.cur hn1.1 hn1.2).mono ?_
  rintro e w' ⟨rfl, hc, hg⟩
  exact q _ (h.turn hg hc (next_le h.fit))
theorem fewNF {n : Int} {xs : Array Value} {Q : Ending → World → Prop} (hN : N ≤ 9000000000000000) (k : Fr w g R X va Sa xs wr) (h : NSt w g v N B R X M s va A wr) (hn1 : 1 ≤ n ∧ n ≤ 256)
    (q : ∀ w', NSt w g v N B R X M (s.next N) va A w' → Fr w g R X va Sa xs w' → Q (.returned (.int .i64 (s.few N B n))) w') :
    Calls Try.prog 29 #[.pointer (some ⟨g, 0, none⟩), .int .i64 n] wr Q := by
  refine (fewF g N B v s n wr hN h.fit h.code h.cur hn1.1 hn1.2).mono ?_
  rintro e w' ⟨rfl, hc, hg⟩
  exact q _ (h.turn hg hc (next_le h.fit)) (k.kept hg)
theorem heap_four {W : World} {S i : Nat} {a b c d : Value} (h : i ≠ S) : ((((W.setCell ⟨S, 0, none⟩ a).setCell ⟨S, 1, none⟩ b).setCell ⟨S, 2, none⟩ c).setCell ⟨S, 3, none⟩ d).heap[i]? = W.heap[i]? := by
  rw [heap_setCell_other _ _ _ _ h, heap_setCell_other _ _ _ _ h, heap_setCell_other _ _ _ _ h, heap_setCell_other _ _ _ _ h]
theorem far_four {W : World} {S X j : Nat} {a b c d u : Value} (h : S ≠ X) (hu : W.cell? ⟨X, j, none⟩ = some u) : ((((W.setCell ⟨S, 0, none⟩ a).setCell ⟨S, 1, none⟩ b).setCell ⟨S, 2, none⟩ c).setCell ⟨S, 3, none⟩ d).cell? ⟨X, j, none⟩ = some u := by
  rw [← hu]
  unfold World.cell?
  rw [heap_four (fun e => h e.symm)]
theorem NSt.xlt (h : NSt w g v N B R X M s va A wr) : wr.heap.size ≠ X := Nat.ne_of_gt (Array.getElem?_eq_some_iff.1 h.box).1
theorem NSt.four {xs : Array Value} {a b c d : Value} (h : NSt w g v N B R X M s va A wr) (k : Fr w g R X va Sa xs wr) : NSt w g v N B R X M s va A ((((wr.setCell ⟨Sa, 0, none⟩ a).setCell ⟨Sa, 1, none⟩ b).setCell ⟨Sa, 2, none⟩ c).setCell ⟨Sa, 3, none⟩ d) :=
  (((h.set k.far.1 k.far.2.1 k.far.2.2.1 k.far.2.2.2.2).set k.far.1 k.far.2.1 k.far.2.2.1 k.far.2.2.2.2).set k.far.1 k.far.2.1 k.far.2.2.1 k.far.2.2.2.2).set k.far.1 k.far.2.1 k.far.2.2.1 k.far.2.2.2.2
theorem Fr.set {xs : Array Value} {u : Value} {j : Nat} (k : Fr w g R X va Sa xs wr) : Fr w g R X va Sa (xs.set! j u) (wr.setCell ⟨Sa, j, none⟩ u) := ⟨heap_setCell_same wr Sa j _ _ u k.at_, k.far⟩
theorem Fr.four {p q r t a b c d : Value} (k : Fr w g R X va Sa #[p, q, r, t] wr) : Fr w g R X va Sa #[a, b, c, d] ((((wr.setCell ⟨Sa, 0, none⟩ a).setCell ⟨Sa, 1, none⟩ b).setCell ⟨Sa, 2, none⟩ c).setCell ⟨Sa, 3, none⟩ d) :=
  (((k.set (j := 0) (u := a)).set (j := 1) (u := b)).set (j := 2) (u := c)).set (j := 3) (u := d)
theorem NSt.push {x : ArcD} {b : Obj} {w6 : World} {v' : Value} (h : NSt w g v N B R X M s va A wr) (hown : w6.ownsRow (X + 1) 66 4 v' (A.length + 1) (cellsA A ++ arcC x)) (hg : (wr.alloc b).grownBy w6 va.ownBlock) :
    NSt w g v N B R X M s v' (A ++ [x]) (w6.setCell ⟨X, 1, none⟩ v') := by
  have hl := h.lo
  have hR := (Array.getElem?_eq_some_iff.1 h.res).1
  have hX := (Array.getElem?_eq_some_iff.1 h.box).1
  have hgg := (Array.getElem?_eq_some_iff.1 h.cur).1
  have hlow : ∀ j, va.ownBlock = some j → X + 1 ≤ j := fun j e => (h.own.lt j e).1
  have hk : ∀ i, i < wr.heap.size → i ≤ X → w6.heap[i]? = wr.heap[i]? := fun i hi hiX => (hg.block i (by simp; omega) (fun e => by have := hlow i e.symm; omega)).trans (((World.grownBy_alloc wr b none).block i hi (by simp)))
  have hgr6 : w.grownBy w6 (some g) := grown_on2 (grown_on2 h.grow (World.grownBy_alloc wr b none) (fun j e => by cases e)) hg (fun j e => .inl (by have := hlow j e; omega))
  have k : w6.grownBy (w6.setCell ⟨X, 1, none⟩ v') (some X) := ⟨rfl, rfl, rfl, by simp [World.setCell], fun i _ hne => heap_setCell_other _ _ _ _ (fun e => hne (by rw [e]))⟩
  have hs6 : wr.heap.size ≤ w6.heap.size := Nat.le_trans (by simp) hg.size
  have hX6 := (hk X hX (Nat.le_refl _)).trans h.box
  refine ⟨grown_on2 hgr6 k (fun j e => .inl (by have := Option.some.inj e; omega)), (k.block g (by omega) (fun e => by have := Option.some.inj e; omega)).trans ((hk g hgg (by omega)).trans h.cur), ?_, (k.block R (by omega) (fun e => by have := Option.some.inj e; omega)).trans ((hk R hR (by omega)).trans h.res), ?_, ?_, h.lo, h.fit⟩
  · exact h.code.keep (fun i hi hlt => (k.block i (by omega) (fun e => by have := Option.some.inj e; omega)).trans (hk i hlt (by omega))) (Nat.le_trans hs6 k.size)
  · exact heap_setCell_same w6 X 1 _ _ v' hX6
  · have := own_set hown (r := X) (i := 1) (u := v') (by omega)
    have e1 : (A ++ [x]).length = A.length + 1 := by simp
    have e2 : cellsA (A ++ [x]) = cellsA A ++ arcC x := by unfold cellsA; simp
    rw [e1, e2]
    exact this
theorem NSt.box6 {b : Obj} {w6 : World} (h : NSt w g v N B R X M s va A wr) (hg : (wr.alloc b).grownBy w6 va.ownBlock) : w6.heap[X]? = some (.cells #[.int .i64 M, va] 26 (0, 0)) := by
  have hX := (Array.getElem?_eq_some_iff.1 h.box).1
  exact ((hg.block X (by simp; omega) (fun e => by have := (h.own.lt X e.symm).1; omega)).trans (((World.grownBy_alloc wr b none).block X hX (by simp)))).trans h.box
theorem own_slice {w : World} {B s n : Nat} {e : TypeId} {v : Value} {xs : List Value} (h : w.ownsRow B e s v n xs) : ∃ a c, v = .slice a n c := by
  rcases h.2 with ⟨rfl, rfl⟩ | ⟨g, cap, cur, rfl, _⟩
  · exact ⟨_, _, rfl⟩
  · exact ⟨_, _, rfl⟩
theorem arc_new (w : World) (a b c d : Value) (t : TypeId) : ∀ j u, [a, b, c, d][j]? = some u → (w.alloc (.cells #[a, b, c, d] t)).cell? ((⟨w.heap.size, 0, none⟩ : Addr).add j) = some u := by
  intro j u h
  have hadd : (⟨w.heap.size, 0, none⟩ : Addr).add j = ⟨w.heap.size, j, none⟩ := by unfold Addr.add; split <;> simp_all
  rw [hadd, World.cell?_alloc_mark]
  simpa using h
theorem arc_one (x : ArcD) : ∀ u ∈ arcC x, u.oneCell' = true := by
  intro u hu
  simp [arcC] at hu
  rcases hu with rfl | rfl | rfl | rfl <;> rfl
theorem Fr.c0 {a b c d : Value} (h : Fr w g R X va Sa #[a, b, c, d] wr) : wr.cell? ⟨Sa, 0, none⟩ = some a := by rw [cell_of_row _ _ _ _ _ _ h.at_]; rfl
theorem Fr.c1 {a b c d : Value} (h : Fr w g R X va Sa #[a, b, c, d] wr) : wr.cell? ⟨Sa, 1, none⟩ = some b := by rw [cell_of_row _ _ _ _ _ _ h.at_]; rfl
theorem Fr.c2 {a b c d : Value} (h : Fr w g R X va Sa #[a, b, c, d] wr) : wr.cell? ⟨Sa, 2, none⟩ = some c := by rw [cell_of_row _ _ _ _ _ _ h.at_]; rfl
theorem Fr.c3 {a b c d : Value} (h : Fr w g R X va Sa #[a, b, c, d] wr) : wr.cell? ⟨Sa, 3, none⟩ = some d := by rw [cell_of_row _ _ _ _ _ _ h.at_]; rfl
end

theorem DS.at_succ (s : DS) (N k : Nat) : s.at N (k + 1) = (s.at N k).next N := rfl
theorem DS.next_at (s : DS) (N : Nat) : ∀ k, (s.next N).at N k = s.at N (k + 1)
  | 0 => rfl
  | k + 1 => by rw [DS.at_succ, DS.next_at s N k, ← DS.at_succ]
theorem Try.infoArcs : (Try.prog.info? 66).map (fun i => (i.zero, i.size, i.bytes)) = some (some (.agg #[.int .i64 0, .int .i64 0, .int .i64 0, .int .i64 0]), 4, 32) := by kernel_rfl

/-- What l06Right hands back. -/
def RightBack (w : World) (g : Nat) (v : Value) (N : Nat) (B : Nat → Int) (s : DS) (e : Ending) (w' : World) : Prop :=
  ∃ va, e = .returned (.agg #[.int .i64 (rightM N B s), va]) ∧ w'.ownsRow w.heap.size 66 4 va (rightP N B s).1.length (cellsA (rightP N B s).1) ∧ CurF w' g v (rightP N B s).2 ∧ w.grownBy w' (some g)

set_option maxHeartbeats 40000000 in
theorem rightF (g N : Nat) (B : Nat → Int) (v : Value) (s : DS) (w : World) (hN : N ≤ 9000000000000000) (hi : s.i ≤ N) (hc : CodeF w v N B g) (hk : CurF w g v s) :
    Calls Try.prog 27 #[.pointer (some ⟨g, 0, none⟩)] w (RightBack w g v N B s) := by
  obtain ⟨i0, hi0, hz0, hz1, hz2⟩ := info_parts Try.infoArcs
  obtain ⟨M, HM⟩ : ∃ M, Hid (rightM N B s = M) := ⟨_, rfl⟩
  have hM := rightM_in N B s
  rw [HM.out] at hM
  have hgl := (Array.getElem?_eq_some_iff.1 hk).1
  have hb0 := (Below.refl w.heap.size w).alloc (Nat.le_refl _) (.cells #[.int .i64 0, .slice none 0 0] 26)
  have hc0 := Lib.hid (hc.below hb0)
  have hk0 := Lib.hid (hk.below hb0)
  clear hc hk
  go_enter Try.func27, Try.ntmps27
  go_wp2_with fail
  refine (fewF g N B v s 6 _ hN hi hc0.out hk0.out (by omega) (by omega)).mono ?_
  rintro e w1 ⟨rfl, hcur, hgr⟩
  have hw3 : IntKind.i64.wrap (3 + s.few N B 6) = M := by rw [← HM.out]; exact IntWalk.i64_in _ (by have := hM; rw [← HM.out] at this; unfold rightM at this; omega)
  have hs1 := hgr.size
  rw [World.size_alloc] at hs1
  have hres : w1.heap[w.heap.size]? = some (.cells #[.int .i64 0, .slice none 0 0] 26 (0, 0)) := (hgr.block w.heap.size (by simp) (fun e => by have := Option.some.inj e; omega)).trans (heap_alloc_new w _)
  have hST : NSt w g v N B w.heap.size w1.heap.size M (s.next N) (.slice none 0 0) [] (w1.alloc (.cells #[.int .i64 M, .slice none 0 0] 26)) := by
    have ha := World.grownBy_alloc w1 (.cells #[.int .i64 M, .slice none 0 0] 26) none
    exact ⟨grown_on2 (grown_on2 ⟨rfl, rfl, rfl, Nat.le_refl _, fun _ _ _ => rfl⟩ (World.grownBy_alloc w _ none) (fun j e => by cases e)) (grown_onF hgr ⟨ha.os, ha.tape, ha.output, ha.size, fun i hi _ => ha.block i hi (by simp)⟩) (fun j e => .inr (Option.some.inj e).symm),
      (ha.block g (Array.getElem?_eq_some_iff.1 hcur).1 (by simp)).trans hcur, (hc0.out.turn hgr).below ((Below.refl _ _).alloc (Nat.le_refl _) _), (ha.block w.heap.size (by omega) (by simp)).trans hres, heap_alloc_new w1 _, World.ownsRow_nil _ _ _ _, ⟨hgl, Nat.le_refl _, by omega⟩, next_le hi⟩
  have HST := Lib.hid hST
  have HR : Hid (rightA N B M 18 0 (s.next N) [] = rightP N B s) := Lib.hid (by unfold rightP; rw [HM.out])
  clear hc0 hk0 hcur hgr hb0 hres hST
  go_wp2_with fail
  go_loopw [4] (fun i wr => ∃ (k : Nat) (s' : DS) (va : Value) (A : List ArcD), k ≤ 17 ∧ i = .int .i64 k ∧ Hid (rightA N B M (18 - k) k s' A = rightP N B s) ∧ A.length ≤ k ∧ NSt w g v N B w.heap.size w1.heap.size M s' va A wr) (fun i _ => 18 - (intOf i).toNat)
  case atStart => exact ⟨0, _, _, [], by omega, rfl, HR, Nat.le_refl _, HST.out⟩
  case round =>
    obtain ⟨k, s', va, A, hk, rfl, HRk, hl, hST⟩ := hrel
    go_wp2_with fail
    refine (fewF g N B v s' 14 _ hN hST.fit hST.code hST.cur (by omega) (by omega)).mono ?_
    rintro e w2 ⟨rfl, hcur, hgr⟩
    have hS2 := hST.turn hgr hcur (next_le hST.fit)
    obtain ⟨z, HZ⟩ : ∃ z, Hid (s'.few N B 14 = z) := ⟨_, rfl⟩
    have hz := s'.few_in N B (n := 14) (by omega)
    rw [HZ.out] at hz ⊢
    clear hST hcur hgr
    by_cases hlt : (k : Int) < 4 + z
    · obtain ⟨f, hf⟩ : ∃ f, 18 - k = f + 1 := ⟨18 - k - 1, by omega⟩
      have c0 := hS2.c0
      have c0d : w2.drew.cell? ⟨w1.heap.size, 0, none⟩ = some (.int .i64 M) := c0
      go_upto_region 5 with fail
      go_cut [5] from 17 to 29 (fun p wx => ∃ Sa, p = .pointer (some ⟨Sa, 0, none⟩) ∧ NSt w g v N B w.heap.size w1.heap.size M ((s'.next N).at N 4) va A wx ∧ Fr w g w.heap.size w1.heap.size va Sa #[.int .i64 ((s'.next N).few N B M), .int .i64 (((s'.next N).at N 1).few N B M), .int .i64 (((s'.next N).at N 2).few N B 5), .int .i64 (((s'.next N).at N 3).few N B 10)] wx)
      case first =>
        go_region_held3 (fun w' => w'.cell? ⟨w1.heap.size, 0, none⟩ = some (.int .i64 M))
          (first | with_reducible exact hS | with_reducible exact c0d | with_reducible exact far_four hF.far.2.2.1 hS | (with_reducible refine far_four hT.xlt ?_; go_keep) | go_keep)
          (first
            | (go_at_call 29; (with_reducible apply fewNF (w := w) (R := w.heap.size) (X := w1.heap.size) (M := M) (va := va) (A := A) (v := v) (B := B) (xs := #[.int .i64 0, .int .i64 0, .int .i64 0, .int .i64 0]) hN); (focus ((repeat (with_reducible (first | assumption | apply Fr.drew | apply Fr.make | apply NSt.drew))); done)); (focus ((repeat (with_reducible (first | assumption | apply NSt.drew | apply NSt.alloc))); done)); (focus (omega; done)); intro w3 hT hF; have hS := hT.c0; have z0 := hF.c0; have z1 := hF.c1; have z2 := hF.c2; have z3 := hF.c3; have y0 := frozen_of_row _ _ 0 _ _ hF.at_; have y1 := frozen_of_row _ _ 1 _ _ hF.at_; have y2 := frozen_of_row _ _ 2 _ _ hF.at_; have y3 := frozen_of_row _ _ 3 _ _ hF.at_)
            | (go_at_call 29; (with_reducible apply fewN (w := w) (R := w.heap.size) (X := w1.heap.size) (M := M) (va := va) (A := A) (v := v) (B := B) hN); (focus ((repeat (with_reducible (first | assumption | apply NSt.drew))); done)); (focus (omega; done)); intro w3 hT; have hS := hT.c0))
        all_goals
          go_wp2_with fail
          go_meet
          first
            | exact ⟨_, rfl, hT.four hF, hF.four⟩
            | exact ⟨_, rfl, hT.alloc _, Fr.make hT⟩
      case rest =>
        obtain ⟨Sa, rfl, hT, hF⟩ := hcut
        clear hS2 c0 c0d
        go_wp2_with fail
        refine fewNF hN hF hT (by omega) ?_
        intro w4 hT4 hF4
        clear hT hF
        dsimp only
        obtain ⟨y, HY⟩ : ∃ y, Hid (((s'.next N).at N 4).few N B 5 = y) := ⟨_, rfl⟩
        rw [HY.out]
        obtain ⟨x, HX⟩ : ∃ x, Hid (arcD N B M (s'.next N) = x) := ⟨_, rfl⟩
        have z0 := hF4.c0
        have z1 := hF4.c1
        have y0 := frozen_of_row _ _ 0 _ _ hF4.at_
        have y1 := frozen_of_row _ _ 1 _ _ hF4.at_
        rcases (by omega : y = 0 ∨ y = 1 ∨ (y ≠ 0 ∧ y ≠ 1)) with rfl | rfl | ⟨hy0, hy1⟩
        case inl =>
          go_upto_region 11 with fail
          have hT5 := hT4.set (j := 0) (u := .int .i64 0) hF4.far.1 hF4.far.2.1 hF4.far.2.2.1 hF4.far.2.2.2.2
          have hF5 : Fr w g w.heap.size w1.heap.size va Sa #[.int .i64 x.f, .int .i64 x.t, .int .i64 x.r, .int .i64 x.c] (w4.setCell ⟨Sa, 0, none⟩ (.int .i64 0)) := by
            rw [← HX.out]
            unfold arcD
            simp only [HY.out]
            exact hF4.set (j := 0) (u := .int .i64 0)
          generalize w4.setCell ⟨Sa, 0, none⟩ (.int .i64 0) = w5 at hT5 hF5 ⊢
          clear hT4 hF4 z0 z1 y0 y1
          have HN : Hid (rightA N B M (18 - (k + 1)) (k + 1) (s'.at N 6) (moreA A x) = rightP N B s) := Lib.hid (by
            have h := HRk.out
            rw [hf, rightA, HZ.out, if_pos hlt, HX.out] at h
            rw [show 18 - (k + 1) = f from by omega]
            exact h)
          have hT6 : NSt w g v N B w.heap.size w1.heap.size M (s'.at N 6) va A w5 := by
            have := hT5
            rw [DS.next_at] at this
            exact this
          obtain ⟨xf, xt, xr, xc⟩ := x
          have c1 := hT6.c1
          have f1 := frozen_of_row _ _ 1 _ _ hT6.box
          have z0 := hF5.c0
          have z1 := hF5.c1
          have z2 := hF5.c2
          have z3 := hF5.c3
          have HF := Lib.hid hF5
          have HT := Lib.hid hT6
          have hok := hT6.own
          clear HRk HX hT5 hT6 hF5
          by_cases hne : xf = xt
          · go_wp2_with fail
            go_roundw
            case rel => exact ⟨k + 1, s'.at N 6, va, A, by omega, by go_num, Lib.hid (by have h := HN.out; unfold moreA at h; rw [if_pos hne] at h; exact h), by omega, HT.out⟩
            case measure => simp [intOf]; omega
          · go_wp2_with (at_builtin; refine wpList_append_own _ rfl _ _ 24 rfl (w1.heap.size + 1) 66 i0 (.agg #[.int .i64 0, .int .i64 0, .int .i64 0, .int .i64 0]) 4 32 Try.underlying24 hi0 hz0 hz1 hz2 rfl (by decide) _ _ _ rfl (hok.alloc _) ⟨w5.heap.size, 0, none⟩ 1 1 (arcC ⟨xf, xt, xr, xc⟩) rfl rfl (arc_new _ _ _ _ _ _) (arc_one _) (by unfold maxLen; omega) (by omega) (by have := (Array.getElem?_eq_some_iff.1 HT.out.box).1; simp; omega) ?_; intro v' w6 hown6 hgrow _; obtain ⟨a7, c7, rfl⟩ := own_slice hown6; have hT7 := NSt.push HT.out hown6 hgrow; have hX6 := NSt.box6 HT.out hgrow; have e6 : w6.cell? ⟨w1.heap.size, 1, none⟩ = some va := (by rw [cell_of_row _ _ _ _ _ _ hX6]; rfl); have f6 := frozen_of_row _ _ 1 _ _ hX6; clear hgrow hX6)
            go_roundw
            case rel => exact ⟨k + 1, s'.at N 6, _, A ++ [⟨xf, xt, xr, xc⟩], by omega, by go_num, Lib.hid (by have h := HN.out; unfold moreA at h; rw [if_neg hne] at h; exact h), by simp; omega, hT7⟩
            case measure => simp [intOf]; omega
        case inr.inl =>
          go_upto_region 11 with fail
          have hT5 := hT4.set (j := 1) (u := .int .i64 1) hF4.far.1 hF4.far.2.1 hF4.far.2.2.1 hF4.far.2.2.2.2
          have hF5 : Fr w g w.heap.size w1.heap.size va Sa #[.int .i64 x.f, .int .i64 x.t, .int .i64 x.r, .int .i64 x.c] (w4.setCell ⟨Sa, 1, none⟩ (.int .i64 1)) := by
            rw [← HX.out]
            unfold arcD
            simp only [HY.out]
            exact hF4.set (j := 1) (u := .int .i64 1)
          generalize w4.setCell ⟨Sa, 1, none⟩ (.int .i64 1) = w5 at hT5 hF5 ⊢
          clear hT4 hF4 z0 z1 y0 y1
          have HN : Hid (rightA N B M (18 - (k + 1)) (k + 1) (s'.at N 6) (moreA A x) = rightP N B s) := Lib.hid (by
            have h := HRk.out
            rw [hf, rightA, HZ.out, if_pos hlt, HX.out] at h
            rw [show 18 - (k + 1) = f from by omega]
            exact h)
          have hT6 : NSt w g v N B w.heap.size w1.heap.size M (s'.at N 6) va A w5 := by
            have := hT5
            rw [DS.next_at] at this
            exact this
          obtain ⟨xf, xt, xr, xc⟩ := x
          have c1 := hT6.c1
          have f1 := frozen_of_row _ _ 1 _ _ hT6.box
          have z0 := hF5.c0
          have z1 := hF5.c1
          have z2 := hF5.c2
          have z3 := hF5.c3
          have HF := Lib.hid hF5
          have HT := Lib.hid hT6
          have hok := hT6.own
          clear HRk HX hT5 hT6 hF5
          by_cases hne : xf = xt
          · go_wp2_with fail
            go_roundw
            case rel => exact ⟨k + 1, s'.at N 6, va, A, by omega, by go_num, Lib.hid (by have h := HN.out; unfold moreA at h; rw [if_pos hne] at h; exact h), by omega, HT.out⟩
            case measure => simp [intOf]; omega
          · go_wp2_with (at_builtin; refine wpList_append_own _ rfl _ _ 24 rfl (w1.heap.size + 1) 66 i0 (.agg #[.int .i64 0, .int .i64 0, .int .i64 0, .int .i64 0]) 4 32 Try.underlying24 hi0 hz0 hz1 hz2 rfl (by decide) _ _ _ rfl (hok.alloc _) ⟨w5.heap.size, 0, none⟩ 1 1 (arcC ⟨xf, xt, xr, xc⟩) rfl rfl (arc_new _ _ _ _ _ _) (arc_one _) (by unfold maxLen; omega) (by omega) (by have := (Array.getElem?_eq_some_iff.1 HT.out.box).1; simp; omega) ?_; intro v' w6 hown6 hgrow _; obtain ⟨a7, c7, rfl⟩ := own_slice hown6; have hT7 := NSt.push HT.out hown6 hgrow; have hX6 := NSt.box6 HT.out hgrow; have e6 : w6.cell? ⟨w1.heap.size, 1, none⟩ = some va := (by rw [cell_of_row _ _ _ _ _ _ hX6]; rfl); have f6 := frozen_of_row _ _ 1 _ _ hX6; clear hgrow hX6)
            go_roundw
            case rel => exact ⟨k + 1, s'.at N 6, _, A ++ [⟨xf, xt, xr, xc⟩], by omega, by go_num, Lib.hid (by have h := HN.out; unfold moreA at h; rw [if_neg hne] at h; exact h), by simp; omega, hT7⟩
            case measure => simp [intOf]; omega
        case inr.inr =>
          go_upto_region 11 with fail
          have hT5 := hT4
          have hF5 : Fr w g w.heap.size w1.heap.size va Sa #[.int .i64 x.f, .int .i64 x.t, .int .i64 x.r, .int .i64 x.c] w4 := by
            rw [← HX.out]
            unfold arcD
            simp only [HY.out, if_neg hy0, if_neg hy1]
            exact hF4
          generalize w4 = w5 at hT5 hF5 ⊢
          clear hT4 hF4 z0 z1 y0 y1
          have HN : Hid (rightA N B M (18 - (k + 1)) (k + 1) (s'.at N 6) (moreA A x) = rightP N B s) := Lib.hid (by
            have h := HRk.out
            rw [hf, rightA, HZ.out, if_pos hlt, HX.out] at h
            rw [show 18 - (k + 1) = f from by omega]
            exact h)
          have hT6 : NSt w g v N B w.heap.size w1.heap.size M (s'.at N 6) va A w5 := by
            have := hT5
            rw [DS.next_at] at this
            exact this
          obtain ⟨xf, xt, xr, xc⟩ := x
          have c1 := hT6.c1
          have f1 := frozen_of_row _ _ 1 _ _ hT6.box
          have z0 := hF5.c0
          have z1 := hF5.c1
          have z2 := hF5.c2
          have z3 := hF5.c3
          have HF := Lib.hid hF5
          have HT := Lib.hid hT6
          have hok := hT6.own
          clear HRk HX hT5 hT6 hF5
          by_cases hne : xf = xt
          · go_wp2_with fail
            go_roundw
            case rel => exact ⟨k + 1, s'.at N 6, va, A, by omega, by go_num, Lib.hid (by have h := HN.out; unfold moreA at h; rw [if_pos hne] at h; exact h), by omega, HT.out⟩
            case measure => simp [intOf]; omega
          · go_wp2_with (at_builtin; refine wpList_append_own _ rfl _ _ 24 rfl (w1.heap.size + 1) 66 i0 (.agg #[.int .i64 0, .int .i64 0, .int .i64 0, .int .i64 0]) 4 32 Try.underlying24 hi0 hz0 hz1 hz2 rfl (by decide) _ _ _ rfl (hok.alloc _) ⟨w5.heap.size, 0, none⟩ 1 1 (arcC ⟨xf, xt, xr, xc⟩) rfl rfl (arc_new _ _ _ _ _ _) (arc_one _) (by unfold maxLen; omega) (by omega) (by have := (Array.getElem?_eq_some_iff.1 HT.out.box).1; simp; omega) ?_; intro v' w6 hown6 hgrow _; obtain ⟨a7, c7, rfl⟩ := own_slice hown6; have hT7 := NSt.push HT.out hown6 hgrow; have hX6 := NSt.box6 HT.out hgrow; have e6 : w6.cell? ⟨w1.heap.size, 1, none⟩ = some va := (by rw [cell_of_row _ _ _ _ _ _ hX6]; rfl); have f6 := frozen_of_row _ _ 1 _ _ hX6; clear hgrow hX6)
            go_roundw
            case rel => exact ⟨k + 1, s'.at N 6, _, A ++ [⟨xf, xt, xr, xc⟩], by omega, by go_num, Lib.hid (by have h := HN.out; unfold moreA at h; rw [if_neg hne] at h; exact h), by simp; omega, hT7⟩
            case measure => simp [intOf]; omega
    · obtain ⟨a9, c9, rfl⟩ := own_slice hS2.own
      have c0 := hS2.c0
      have c1 := hS2.c1
      have r0 := hS2.r0
      have r1 := hS2.r1
      have f0 := frozen_of_row _ _ 0 _ _ hS2.res
      have f1 := frozen_of_row _ _ 1 _ _ hS2.res
      have HS := Lib.hid hS2
      have HE : Hid (rightP N B s = (A, s'.next N)) := Lib.hid (by
        obtain ⟨f, hf⟩ : ∃ f, 18 - k = f + 1 := ⟨18 - k - 1, by omega⟩
        have h := HRk.out
        rw [hf, rightA, HZ.out, if_neg (by omega)] at h
        exact h.symm)
      clear hS2 HRk
      go_wp2_with fail
      have hrow := heap_setCell_same _ w.heap.size 1 _ _ (.slice a9 A.length c9) (heap_setCell_same w2 w.heap.size 0 _ _ (.int .i64 M) HS.out.res)
      have q0 : ((w2.setCell ⟨w.heap.size, 0, none⟩ (.int .i64 M)).setCell ⟨w.heap.size, 1, none⟩ (.slice a9 A.length c9)).cell? ⟨w.heap.size, 0, none⟩ = some (.int .i64 M) := by rw [cell_of_row _ _ _ _ _ _ hrow]; rfl
      have q1 : ((w2.setCell ⟨w.heap.size, 0, none⟩ (.int .i64 M)).setCell ⟨w.heap.size, 1, none⟩ (.slice a9 A.length c9)).cell? ⟨w.heap.size, 1, none⟩ = some (.slice a9 A.length c9) := by rw [cell_of_row _ _ _ _ _ _ hrow]; rfl
      refine bodyPost_ret (v := .agg #[.int .i64 M, .slice a9 A.length c9]) ?_ rfl ?_
      · simp [results, Try.results27, go_sem, q0, q1]
      · have hl := HS.out.lo
        have k1 : w2.grownBy (w2.setCell ⟨w.heap.size, 0, none⟩ (.int .i64 M)) (some w.heap.size) := ⟨rfl, rfl, rfl, by simp [World.setCell], fun i _ hne => heap_setCell_other _ _ _ _ (fun e => hne (by rw [e]))⟩
        have k2 : (w2.setCell ⟨w.heap.size, 0, none⟩ (.int .i64 M)).grownBy ((w2.setCell ⟨w.heap.size, 0, none⟩ (.int .i64 M)).setCell ⟨w.heap.size, 1, none⟩ (.slice a9 A.length c9)) (some w.heap.size) := ⟨rfl, rfl, rfl, by simp [World.setCell], fun i _ hne => heap_setCell_other _ _ _ _ (fun e => hne (by rw [e]))⟩
        have k3 := grown_onF k1 k2
        refine ⟨_, by rw [HM.out], ?_, ?_, ?_⟩
        · rw [HE.out]
          have h9 := own_set (own_set HS.out.own (r := w.heap.size) (i := 0) (u := .int .i64 M) (by omega)) (r := w.heap.size) (i := 1) (u := .slice a9 A.length c9) (by omega)
          exact own_base h9 (by omega)
        · rw [HE.out]
          exact (k3.block g (Array.getElem?_eq_some_iff.1 HS.out.cur).1 (fun e => by have := Option.some.inj e; omega)).trans HS.out.cur
        · exact grown_on2 HS.out.grow k3 (fun j e => .inl (by have := Option.some.inj e; omega))

end Go.Proofs.Ytobflidianlomaa
