/-
  The memory while a network in time is being set up: the lists of what lies beside each cell, the pairs, as far as they are listed. No statement is proved here.
  Plain lemmas: a region that draws its order in a round of a range over a function, at the wide fence: its operations only read, but for those at its end, whose order is forced. No law is proved here.
  A REGION THAT DRAWS ITS ORDER, WHOSE LAST OPERATION (a store) WAITS FOR ALL THE OTHERS: the condition on the world is shown behind every operation but that one. So the store may write a cell that the region reads. No statement is proved here.
  Plain lemma: a region that draws its order in a round of a range over a function, at the wide fence, whose last operation waits for all others. No law is proved here.
-/
import Derived.Test.YtnbbhdbcapfbkaaDoorZFF22
import Derived.Test.YtnbbhdbcapfbkaaDoorZFF24
import Derived.Test.YtnbbhdbcapfbkaaDoorZFF00
import Derived.StillTail
import Derived.StillTactics
import Derived.OrdersIn
import Derived.RangeFuncCalls
import Derived.TacticsIn
import Derived.OrdersHeld
import Derived.Deep.RegionHeld
namespace Go.Proofs.YtnbbhdbcapfbkaaDoor
set_option maxRecDepth 4096
open Go.ChangeShapes Go.WideShapes Go.ChangeAt Go.RowKit

structure XS (B0 : Nat) (w3 : World) (GN E F : Nat) (N : Nat → List Nat) (Sx : Nat → Value) (L : List (Nat × Nat)) (vp : Value) (W : World) : Prop where
  os : W.os = w3.os
  tape : W.tape = w3.tape
  output : W.output = w3.output
  size : w3.heap.size ≤ W.heap.size
  keep : ∀ i, i < w3.heap.size → i ≠ GN → i ≠ E → W.heap[i]? = w3.heap[i]?
  box : W.heap[E]? = some (.cells #[.int .i64 0, .int .i64 0, .int .i64 0, .slice (some ⟨GN, 0, none⟩) F F, vp, .slice none 0 0] 80 (0, 0))
  row : W.ownsRow B0 24 1 (.slice (some ⟨GN, 0, none⟩) F F) F (rowN Sx F)
  own : ∀ v, v < F → W.ownsRow w3.heap.size 3 1 (Sx v) (N v).length (natC (N v))
  apart : ∀ u v, u < F → v < F → u ≠ v → (Sx u).ownBlock = none ∨ (Sx u).ownBlock ≠ (Sx v).ownBlock
  ps : W.ownsRow w3.heap.size 84 2 vp L.length (pairC L)

/-- All blocks lie as they lay, but for block a and a row's own. -/
structure Upd (a : Nat) (r : Option Nat) (W W' : World) : Prop where
  size : W.heap.size ≤ W'.heap.size
  same : ∀ i, i < W.heap.size → i ≠ a → some i ≠ r → W'.heap[i]? = W.heap[i]?
theorem upd_of {a j : Nat} {r : Option Nat} {W w5 : World} {o : Obj} {u : Value} (hg : (W.alloc o).grownBy w5 r) : Upd a r W (w5.setCell ⟨a, j, none⟩ u) :=
  ⟨by have := hg.size; simp at this; simp [World.setCell]; omega, fun i hi ha hr => by
    rw [heap_setCell_other _ _ _ _ ha, hg.block i (by simp; omega) hr]
    exact (World.grownBy_alloc W o none).block _ hi (by simp)⟩
theorem Upd.drewN {a : Nat} {r : Option Nat} {W W' : World} {q : Nat} (h : Upd a r (W.drewN q) W') : Upd a r W W' := ⟨h.size, h.same⟩

section
variable {B0 GN E F : Nat} {w3 W W' w5 : World} {N : Nat → List Nat} {Sx : Nat → Value} {L : List (Nat × Nat)} {vp v' : Value}
theorem own_nc {B s n : Nat} {e : TypeId} {v : Value} {xs : List Value} {r : Option Nat} (h : W.ownsRow B e s v n xs) (hr : ∀ j, r = some j → ∀ cs t fr, W.heap[j]? ≠ some (.cells cs t fr)) : v.ownBlock = none ∨ v.ownBlock ≠ r := by
  rcases h.2 with ⟨rfl, _⟩ | ⟨g, cap, cur, rfl, _, hg, _⟩
  · exact .inl rfl
  · exact .inr fun e2 => hr g e2.symm _ _ _ hg
theorem XS.turn (h : XS B0 w3 GN E F N Sx L vp W) {r : Option Nat} (g : W.grownBy W' r) (hr : ∀ j, r = some j → w3.heap.size ≤ j ∧ ∀ cs t fr, W.heap[j]? ≠ some (.cells cs t fr)) : XS B0 w3 GN E F N Sx L vp W' where
  os := g.os.trans h.os
  tape := g.tape.trans h.tape
  output := g.output.trans h.output
  size := Nat.le_trans h.size g.size
  keep := fun i hi h1 h2 => (g.block i (Nat.lt_of_lt_of_le hi h.size) (fun e => by have := (hr i e.symm).1; omega)).trans (h.keep i hi h1 h2)
  box := (g.block E (Array.getElem?_eq_some_iff.1 h.box).1 (fun e => (hr E e.symm).2 _ _ _ h.box)).trans h.box
  row := h.row.kept g (own_nc h.row fun j e => (hr j e).2)
  own := fun v hv => (h.own v hv).kept g (own_nc (h.own v hv) fun j e => (hr j e).2)
  apart := h.apart
  ps := h.ps.kept g (own_nc h.ps fun j e => (hr j e).2)
theorem XS.alloc (h : XS B0 w3 GN E F N Sx L vp W) (o : Obj) : XS B0 w3 GN E F N Sx L vp (W.alloc o) := h.turn (World.grownBy_alloc W o none) (fun j e => by cases e)
theorem XS.below (h : XS B0 w3 GN E F N Sx L vp W) (hb : Below W.heap.size W W') : XS B0 w3 GN E F N Sx L vp W' := h.turn (grown_of_below hb) (fun j e => by cases e)
theorem XS.drewN (h : XS B0 w3 GN E F N Sx L vp W) (q : Nat) : XS B0 w3 GN E F N Sx L vp (W.drewN q) := ⟨h.os, h.tape, h.output, h.size, h.keep, h.box, h.row, h.own, h.apart, h.ps⟩
theorem XS.drew (h : XS B0 w3 GN E F N Sx L vp W) : XS B0 w3 GN E F N Sx L vp W.drew := ⟨h.os, h.tape, h.output, h.size, h.keep, h.box, h.row, h.own, h.apart, h.ps⟩
theorem XS.cell (h : XS B0 w3 GN E F N Sx L vp W) : W.cell? ⟨E, 3, none⟩ = some (.slice (some ⟨GN, 0, none⟩) F F) ∧ W.cell? ⟨E, 4, none⟩ = some vp := by
  refine ⟨?_, ?_⟩ <;> rw [cell_of_row _ _ _ _ _ _ h.box] <;> rfl
theorem XS.at_row (h : XS B0 w3 GN E F N Sx L vp W) {v : Nat} (hv : v < F) : W.cell? ⟨GN, v, none⟩ = some (Sx v) := by
  have := h.row.cells (g := GN) rfl v (Sx v) (rowN_at Sx hv)
  rwa [addr_at] at this
theorem XS.fz (h : XS B0 w3 GN E F N Sx L vp W) (v : Nat) : W.frozen? ⟨GN, v, none⟩ = false := by
  rcases h.row.2 with ⟨e, _⟩ | ⟨g, cap, cur, e, _, hg, _⟩
  · cases e
  · injection e with e1 _ _
    injection e1 with e1
    injection e1 with e1 _ _
    subst e1
    exact frozen_of_row _ _ v _ _ hg
theorem XS.fe (h : XS B0 w3 GN E F N Sx L vp W) (v : Nat) : W.frozen? ⟨E, v, none⟩ = false := frozen_of_row _ _ v _ _ h.box
theorem XS.rowAt (h : XS B0 w3 GN E F N Sx L vp W) : ∃ cur, W.heap[GN]? = some (.cells cur 24 (0, 0)) := by
  rcases h.row.2 with ⟨e, _⟩ | ⟨g, cap, cur, e, _, hg, _⟩
  · cases e
  · injection e with e1 _ _
    injection e1 with e1
    injection e1 with e1 _ _
    subst e1
    exact ⟨cur, hg⟩
/-- What an append to one of the rows leaves. -/
theorem XS.grownRow (h : XS B0 w3 GN E F N Sx L vp W) {k n : Nat} {xs : List Value} (hk : k < F) (hown : w5.ownsRow w3.heap.size 3 1 v' n xs) (hg : W.grownBy w5 (Sx k).ownBlock) (hat : (Sx k).ownBlock = v'.ownBlock ∨ v'.ownBlock = some W.heap.size) :
    w5.heap[E]? = some (.cells #[.int .i64 0, .int .i64 0, .int .i64 0, .slice (some ⟨GN, 0, none⟩) F F, vp, .slice none 0 0] 80 (0, 0)) ∧ w5.ownsRow B0 24 1 (.slice (some ⟨GN, 0, none⟩) F F) F (rowN Sx F) ∧ (∀ v, v < F → v ≠ k → w5.ownsRow w3.heap.size 3 1 (Sx v) (N v).length (natC (N v))) ∧
      w5.ownsRow w3.heap.size 84 2 vp L.length (pairC L) ∧ (∀ i, i < w3.heap.size → i ≠ GN → i ≠ E → w5.heap[i]? = w3.heap[i]?) ∧ (∀ u, u < F → u ≠ k → (Sx u).ownBlock = none ∨ (Sx u).ownBlock ≠ v'.ownBlock) := by
  have hok := h.own k hk
  refine ⟨(hg.block E (Array.getElem?_eq_some_iff.1 h.box).1 (fun e => ?_)).trans h.box, h.row.kept hg (own_typesT h.row hok (by decide)), fun v hv hne => (h.own v hv).kept hg (h.apart v k hv hk hne), h.ps.kept hg (own_typesT h.ps hok (by decide)), fun i hi h1 h2 => (hg.block i (Nat.lt_of_lt_of_le hi h.size) (fun e => ?_)).trans (h.keep i hi h1 h2), fun u hu hne => ?_⟩
  · rcases own_neT hok h.box (by decide) with e2 | e2
    · rw [e2] at e
      cases e
    · exact e2 e.symm
  · have := (hok.lt i e.symm).1
    omega
  · have _ := hown
    rcases hat with e | e
    · rw [← e]
      exact h.apart u k hu hk hne
    · rcases h3 : (Sx u).ownBlock with _ | j
      · exact .inl rfl
      · refine .inr fun k2 => ?_
        rw [e] at k2
        have k3 := ((h.own u hu).lt j h3).2
        have k4 := Option.some.inj k2
        omega
theorem XS.push (h : XS B0 w3 GN E F N Sx L vp W) (hGE : GN ≠ E) {k j : Nat} (hk : k < F) (hown : w5.ownsRow w3.heap.size 3 1 v' ((N k).length + 1) (natC (N k) ++ natC [j])) (hg : W.grownBy w5 (Sx k).ownBlock) (hat : (Sx k).ownBlock = v'.ownBlock ∨ v'.ownBlock = some W.heap.size) :
    XS B0 w3 GN E F (fun v => if v = k then N k ++ [j] else N v) (fun v => if v = k then v' else Sx v) L vp (w5.setCell ⟨GN, k, none⟩ v') := by
  obtain ⟨hbox, hrow, hoth, hps, hkeep, hap⟩ := h.grownRow hk hown hg hat
  obtain ⟨h1, h2⟩ := hrow.stored k v'
  rw [rowN_set] at h1
  refine ⟨h2.os.trans (hg.os.trans h.os), h2.tape.trans (hg.tape.trans h.tape), h2.output.trans (hg.output.trans h.output), Nat.le_trans h.size (Nat.le_trans hg.size h2.size), fun i hi e1 e2 => (h2.block i (Nat.lt_of_lt_of_le hi (Nat.le_trans h.size hg.size)) (fun e => e1 (Option.some.inj e))).trans (hkeep i hi e1 e2),
    (h2.block E (Array.getElem?_eq_some_iff.1 hbox).1 (fun e => hGE (Option.some.inj e).symm)).trans hbox, h1, fun v hv => ?_, fun u v hu hv hne => ?_, hps.kept h2 (own_typesT hps hrow (by decide))⟩
  · by_cases hvk : v = k
    · subst hvk
      simp only [if_true]
      have := hown.kept h2 (own_typesT hown hrow (by decide))
      rw [← natC_append] at this
      rw [List.length_append]
      exact this
    · simp only [if_neg hvk]
      exact (hoth v hv hvk).kept h2 (own_typesT (hoth v hv hvk) hrow (by decide))
  · by_cases hu2 : u = k
    · have hv2 : v ≠ k := fun e => hne (hu2.trans e.symm)
      simp only [hu2, if_true, if_neg hv2]
      rcases hap v hv hv2 with e | e
      · cases h3 : v'.ownBlock with
        | none => exact .inl rfl
        | some j => exact .inr (by rw [e]; simp)
      · cases h3 : v'.ownBlock with
        | none => exact .inl rfl
        | some j => exact .inr (by rw [h3] at e; exact fun e2 => e e2.symm)
    · by_cases hv2 : v = k
      · simp only [if_neg hu2, hv2, if_true]
        exact hap u hu hu2
      · simp only [if_neg hu2, if_neg hv2]
        exact h.apart u v hu hv hne
/-- What an append to the pairs leaves. -/
theorem XS.pair (h : XS B0 w3 GN E F N Sx L vp W) (hE3 : E < w3.heap.size) {p : Nat × Nat} (hown : w5.ownsRow w3.heap.size 84 2 v' (L.length + 1) (pairC L ++ pairC [p])) (hg : W.grownBy w5 vp.ownBlock) :
    XS B0 w3 GN E F N Sx (L ++ [p]) v' (w5.setCell ⟨E, 4, none⟩ v') := by
  have hbox : w5.heap[E]? = some (.cells #[.int .i64 0, .int .i64 0, .int .i64 0, .slice (some ⟨GN, 0, none⟩) F F, vp, .slice none 0 0] 80 (0, 0)) := (hg.block E (Array.getElem?_eq_some_iff.1 h.box).1 (fun e => by
    rcases own_neT h.ps h.box (by decide) with e2 | e2
    · rw [e2] at e
      cases e
    · exact e2 e.symm)).trans h.box
  have hrow : w5.ownsRow B0 24 1 (.slice (some ⟨GN, 0, none⟩) F F) F (rowN Sx F) := h.row.kept hg (own_typesT h.row h.ps (by decide))
  have hoth : ∀ v, v < F → w5.ownsRow w3.heap.size 3 1 (Sx v) (N v).length (natC (N v)) := fun v hv => (h.own v hv).kept hg (own_typesT (h.own v hv) h.ps (by decide))
  have h2 : w5.grownBy (w5.setCell ⟨E, 4, none⟩ v') (some E) := ⟨rfl, rfl, rfl, by simp [World.setCell], fun i _ hne => heap_setCell_other _ _ _ _ (fun e => hne (by rw [e]))⟩
  refine ⟨h2.os.trans (hg.os.trans h.os), h2.tape.trans (hg.tape.trans h.tape), h2.output.trans (hg.output.trans h.output), Nat.le_trans h.size (Nat.le_trans hg.size h2.size), fun i hi e1 e2 => (h2.block i (Nat.lt_of_lt_of_le hi (Nat.le_trans h.size hg.size)) (fun e => e2 (Option.some.inj e))).trans ((hg.block i (Nat.lt_of_lt_of_le hi h.size) (fun e => by have := (h.ps.lt i e.symm).1; omega)).trans (h.keep i hi e1 e2)),
    heap_setCell_same w5 _ 4 _ _ v' hbox, hrow.kept h2 (own_neT hrow hbox (by decide)), fun v hv => (hoth v hv).kept h2 (own_neT (hoth v hv) hbox (by decide)), h.apart, ?_⟩
  have := hown.kept h2 (own_neT hown hbox (by decide))
  rw [pairC_append, List.length_append]
  have _ := hE3
  exact this
end

end Go.Proofs.YtnbbhdbcapfbkaaDoor

namespace Go.Proofs.YtnbbhdbcapfbkaaDoor
set_option maxRecDepth 4096

/-- Only the ordinary way out. -/
def onlyN (Q : Exit → Act → World → Prop) : Exit → Act → World → Prop
  | .normal, a, w => Q .normal a w
  | _, _, _ => False
theorem onlyN_normal {Q : Exit → Act → World → Prop} {a : Act} {w : World} (h : Q .normal a w) : onlyN Q .normal a w := h
theorem onlyN_in (Q : Exit → Act → World → Prop) (e : Exit) (a : Act) (w : World) (h : onlyN Q e a w) : Q e a w := by
  cases e <;> first | exact h | exact h.elim

section
variable {P : Program} {ops : Array Oper} {md : Region.Mode}

theorem rowsIn_round {l n : Nat} {row : String} {args : Array Value} {w : World} {R : Value → World → Prop} (h : Rows P row args w R) : RowsIn (Fence.wide.inRound l) n P row args w R :=
  fun c cs _ => let ⟨v, w', r, s⟩ := h c cs; ⟨v, w', r, stepsIn_wide.2 s⟩

theorem oper_round {o : Oper} {l n : Nat} {a : Act} {w : World} {K : Act → World → Prop} {Q : Exit → Act → World → Prop} (hd : ∀ c, o.op ≠ .defer c) (h : o.wp P a w K Q) : o.wpIn (Fence.wide.inRound l) n P a w K Q := by
  unfold Oper.wp at h
  unfold Oper.wpIn
  refine ⟨fun _ _ => trivial, ?_⟩
  have e : o.semAt (Fence.wide.inRound l).round a.eval = execOp a.eval o := Oper.semAt_some l _ _ hd
  rw [e]
  generalize (execOp a.eval o).run P w = r at h
  cases r with
  | ok x w' =>
    cases x <;> simp only [Oper.upon] at h <;> simp only [Oper.uponIn] <;>
      first
        | exact h
        | exact ⟨fun hh => (by cases hh), CallsIn.inRound l (callsIn_wide.2 h)⟩
        | exact ⟨fun hh => (by cases hh), rowsIn_round h⟩
        | exact h.elim
  | halt x w' => cases x <;> simp only [Oper.upon] at h <;> simp only [Oper.uponIn] <;> exact h

theorem op_round {i l n : Nat} {a : Act} {w : World} {K K' : Act → World → Prop} {Q : Exit → Act → World → Prop} (hd : ∀ o ∈ ops, ∀ c, o.op ≠ .defer c) (hL : ¬ LetsOut Q) (hK : ∀ a w, K a w → K' a w) (h : wpOp P ops Q i K a w) : wpOpIn (Fence.wide.inRound l) n P ops Q i K' a w := by
  unfold wpOp at h
  unfold wpOpIn
  split
  · rename_i e
    simp only [e] at h
    exact hK _ _ h
  · rename_i o e
    simp only [e] at h
    split
    · rename_i hw
      rw [if_pos hw] at h
      rcases h with h | ⟨_, h⟩
      · exact Oper.wpIn_mono hK (oper_round (hd o (Array.mem_of_getElem? e)) h)
      · exact absurd h hL
    · rename_i hw
      rw [if_neg hw] at h
      exact ⟨fun _ _ => trivial, hK _ _ h⟩

theorem any_round {l n : Nat} {Q : Exit → Act → World → Prop} (hd : ∀ o ∈ ops, ∀ c, o.op ≠ .defer c) (hL : ¬ LetsOut Q) : ∀ (fuel : Nat) (listed : Array Bool) (a : Act) (w : World), wpAny P md ops Q fuel listed a w → wpAnyIn (Fence.wide.inRound l) n P md ops Q fuel listed a w
  | 0, _, _, _, h => h
  | fuel + 1, _, _, _, h => ⟨h.1, fun i hi => op_round hd hL (fun a w => any_round hd hL fuel _ a w) (h.2 i hi)⟩

def noDefer (o : Oper) : Bool := match o.op with
  | .defer _ => false
  | _ => true
theorem noDefer_out {l : List Oper} (h : l.all noDefer = true) : ∀ o ∈ l.toArray, ∀ c, o.op ≠ .defer c := by
  intro o ho c e
  have := List.all_eq_true.1 h o (by simpa using ho)
  unfold noDefer at this
  rw [e] at this
  cases this

/-- The region's law. -/
theorem wpIn_round_tail {id l₀ m : Nat} {Q : Exit → Act → World → Prop} {a : Act} {w : World} {l : List Oper} (n : Nat) (hm : P.follows .mixedOrders = true) (hB : Region.lexTailB .any l.toArray n = true) (hd : l.all noDefer = true)
    (h : wpStill P l.toArray w.drew (fun a' => wpList P l.toArray (onlyN Q) (l.drop n) a' w.drew) (l.take n) a) : (Code.region id l.toArray true).wpIn (Fence.wide.inRound l₀) m P Q a w := by
  refine Code.wpIn_mono (Q := onlyN Q) (onlyN_in Q) (wpIn_region_any hm (any_round (noDefer_out hd) (fun h => ?_) _ _ _ _ ?_))
  · obtain ⟨_, _, h⟩ := h
    exact h
  · simp only [Region.lexTailB, Bool.and_eq_true, decide_eq_true_eq] at hB
    obtain ⟨⟨⟨⟨hsel, hn⟩, hs⟩, hc⟩, hlex⟩ := hB
    have hnl : n < l.length := by simpa using hn
    have ht : (l.take n).length = n := by rw [List.length_take]; omega
    have hdr : (l.drop n).length = l.toArray.size - n := by simp
    have hst : HeadInv .any l.toArray n (Array.replicate l.toArray.size false) :=
      ⟨by simp, fun j oj _ hl => (by rw [getD_replicate_false] at hl; cases hl), fun t _ hh => getD_in (by simpa using hh) (getD_replicate_false _ _)⟩
    have head := wpAnyL_lex (md := .any) (g := l.toArray.size - n) hsel hs hc hn (l.take n) 0 _ a (fun j hj => by
      rw [ht] at hj
      simp [hj]) (by simpa using ht) hst (by rw [ht]; exact hlex) h
    have all := wpAny_of_head (Q' := onlyN Q) (g := l.toArray.size - n) (fun listed a' hh => by
      have t := wpAny_of_seq (md := .any) (Q' := onlyN Q) (l.drop n) n listed a' w.drew (fun j => by simp [List.getElem?_drop]) (by rw [hdr]; exact hh.1) hh.2
      rwa [hdr] at t) _ _ _ head
    have hsum : (l.take n).length + (l.toArray.size - n) = l.toArray.size := by rw [ht]; omega
    rw [hsum] at all
    exact all
end

end Go.Proofs.YtnbbhdbcapfbkaaDoor

namespace Go.Proofs.YtnbbhdbcapfbkaaDoor
open Go

section
variable {P : Program} {ops : Array Oper} {Q : Exit → Act → World → Prop} {md : Region.Mode} {S : World → Prop} {L : Nat}

/-- Whatever order is picked from here on, and S holds behind every operation but L. -/
def anyT (P : Program) (md : Region.Mode) (ops : Array Oper) (Q : Exit → Act → World → Prop) (S : World → Prop) (L : Nat) : Nat → Array Bool → Act → World → Prop
  | 0, listed, a, w => Region.ready md ops listed = [] ∧ Q .normal a w
  | fuel + 1, listed, a, w =>
    (Region.ready md ops listed = [] → Q .normal a w) ∧
    ∀ i ∈ Region.ready md ops listed, wpOp P ops Q i (fun a' w' => (i ≠ L → S w') ∧ anyT P md ops Q S L fuel (listed.setIfInBounds i true) a' w') a w

theorem any_of_T : ∀ (fuel : Nat) (listed : Array Bool) (a : Act) (w : World), anyT P md ops Q S L fuel listed a w → wpAny P md ops Q fuel listed a w
  | 0, _, _, _, h => h
  | fuel + 1, _, _, _, h => ⟨h.1, fun i hi => wpOp_mono (fun a' w' h' => any_of_T fuel _ a' w' h'.2) (h.2 i hi)⟩

theorem anyT_first {i : Nat} {oi : Oper} {v : Value} (hi : ops[i]? = some oi) (hsel : ∀ (j : Nat) (o : Oper) cs b, ops[j]? = some o → o.op ≠ .select cs b)
    (hQ : ∀ c a w, Q (.panic c) (a.put oi.dst v) w → Q (.panic c) a w) (hs : Region.sinkB md ops L = true) (hc : Region.chainB md ops L = true) (hL : L < ops.size) (hiL : i < L) :
    ∀ (fuel : Nat) (listed : Array Bool) (a : Act) (w : World), HeadInv md ops L listed →
      (∀ j oj, ops[j]? = some oj → j ≠ i → listed.getD j true = false → (∀ e ∈ oj.after, Region.binds md e = true → e.on ≠ i) → oi.apart ops oj = true) →
      i ∈ Region.ready md ops listed → YieldsIf P ops S oi v a → S w →
      anyT P md ops Q S L fuel (listed.setIfInBounds i true) (a.put oi.dst v) w → anyT P md ops Q S L (fuel + 1) listed a w := by
  intro fuel
  induction fuel with
  | zero =>
    intro listed a w _ _ hr hy hS H
    refine ⟨fun h => (by rw [h] at hr; cases hr), fun j hj => ?_⟩
    by_cases hji : j = i
    · subst hji; exact hy.wpOp hi hS ⟨fun _ => hS, H⟩
    · have := ready_mono hj hji
      rw [H.1] at this
      cases this
  | succ fuel ih =>
    intro listed a w inv hfree hr hy hS H
    refine ⟨fun h => (by rw [h] at hr; cases hr), fun j hj => ?_⟩
    by_cases hji : j = i
    · subst hji; exact hy.wpOp hi hS ⟨fun _ => hS, H⟩
    · have h1 := H.2 j (ready_mono hj hji)
      have hjL : j < L := by
        refine Nat.lt_of_not_le fun hle => ?_
        exact tail_waits hs hc hL inv (L - i) i rfl hiL (mem_ready.1 hr).1 j hle hj
      obtain ⟨hjun, oj, hoj, hall⟩ := mem_ready.1 hj
      have hnot : ∀ e ∈ oj.after, Region.binds md e = true → e.on ≠ i := fun e he hb heq => by
        have h1 := hall e he hb
        have h0 := (mem_ready.1 hr).1
        rw [heq] at h1
        rcases Nat.lt_or_ge i listed.size with h' | h'
        · simp [h'] at h0 h1; rw [h0] at h1; cases h1
        · simp [Array.getElem?_eq_none h'] at h1
      have h2 := wpOp_putIf hoj (hfree j oj hoj hji hjun hnot) (fun cs b => hsel i oi cs b hi) (fun cs b => hsel j oj cs b hoj) hQ hy h1
      have hfree' : ∀ k ok, ops[k]? = some ok → k ≠ i → (listed.setIfInBounds j true).getD k true = false →
          (∀ e ∈ ok.after, Region.binds md e = true → e.on ≠ i) → oi.apart ops ok = true := fun k ok hk hki hun hno => by
        refine hfree k ok hk hki ?_ hno
        by_cases hjk : j = k
        · subst hjk; exact hjun
        · rw [getD_set_ne true hjk] at hun; exact hun
      refine wpOp_mono (fun a' w' h3 => ⟨fun _ => h3.2.1 (by omega), ih (listed.setIfInBounds j true) a' w' (inv.set hj hjL) hfree' (ready_mono hr (Ne.symm hji)) h3.1 (h3.2.1 (by omega)) ?_⟩) h2
      rw [Array.setIfInBounds_comm _ _ hji]
      exact h3.2.2

/-- The same, with what has come up being closed: the goal of the walk. -/
def anyI (P : Program) (md : Region.Mode) (ops : Array Oper) (Q : Exit → Act → World → Prop) (S : World → Prop) (L : Nat) (fuel : Nat) (listed : Array Bool) (a : Act) (w : World) : Prop :=
  Region.sinkB md ops L = true → Region.chainB md ops L = true → L < ops.size → HeadInv md ops L listed → anyT P md ops Q S L fuel listed a w

/-- Take number i first. -/
theorem anyI_take {i : Nat} {oi : Oper} {v : Value} {fuel : Nat} {listed : Array Bool} {a : Act} {w : World} (hi : ops[i]? = some oi)
    (hsl : Region.noSelect ops = true) (hf : Region.free md ops listed i = true) (hr : (Region.ready md ops listed).contains i = true) (hiL : decide (i < L) = true)
    (hQ : ∀ c a w, Q (.panic c) (a.put oi.dst v) w → Q (.panic c) a w) (hy : YieldsIf P ops S oi v a) (hS : S w)
    (h : anyI P md ops Q S L fuel (listed.setIfInBounds i true) (a.put oi.dst v) w) : anyI P md ops Q S L (fuel + 1) listed a w := fun hs hc hL inv =>
  have hr' : i ∈ Region.ready md ops listed := by simpa using hr
  anyT_first hi (Region.noSelect_spec hsl) hQ hs hc hL (of_decide_eq_true hiL) fuel listed a w inv (Region.free_spec hi hf) hr' hy hS (h hs hc hL (inv.set hr' (of_decide_eq_true hiL)))

/-- Each of those that may come up. -/
def AllI (P : Program) (md : Region.Mode) (ops : Array Oper) (Q : Exit → Act → World → Prop) (S : World → Prop) (L : Nat) (fuel : Nat) (listed : Array Bool) (a : Act) (w : World) (rs : List Nat) : Prop :=
  ∀ i ∈ rs, i < L ∧ wpOp P ops Q i (fun a' w' => S w' ∧ anyI P md ops Q S L fuel (listed.setIfInBounds i true) a' w') a w
theorem AllI.nil {fuel : Nat} {listed : Array Bool} {a : Act} {w : World} : AllI P md ops Q S L fuel listed a w [] := fun _ h => by cases h
theorem AllI.cons {fuel : Nat} {listed : Array Bool} {a : Act} {w : World} {i : Nat} {o : Oper} {rs : List Nat} (ho : ops[i]? = some o) (hiL : decide (i < L) = true)
    (h : ∀ K' : Act → World → Prop, Shut (∀ a w, S w → (S w → anyI P md ops Q S L fuel (listed.setIfInBounds i true) a w) → K' a w) → if Region.wanted o (yielded ops a.tmps) = true then Oper.wp P o a w K' Q else K' (a.put o.dst undef) w)
    (hs : AllI P md ops Q S L fuel listed a w rs) : AllI P md ops Q S L fuel listed a w (i :: rs) := fun j hj => by
  rcases List.mem_cons.1 hj with rfl | hj
  · exact ⟨of_decide_eq_true hiL, wpOp_step ho (fun K' hK => h K' (fun a w hS hW => hK a w ⟨hS, hW hS⟩))⟩
  · exact hs j hj
theorem anyI_ready {rs : List Nat} {fuel : Nat} {listed : Array Bool} {a : Act} {w : World} (hr : Region.ready md ops listed = rs) (hne : rs ≠ [])
    (h : AllI P md ops Q S L fuel listed a w rs) : anyI P md ops Q S L (fuel + 1) listed a w := fun hs hc hL inv =>
  ⟨fun h0 => absurd (hr ▸ h0) hne, fun i hi => by
    have hi2 : i ∈ rs := hr ▸ hi
    obtain ⟨h1, h2⟩ := h i hi2
    exact wpOp_mono (fun a' w' h3 => ⟨fun _ => h3.1, h3.2 hs hc hL (inv.set hi h1)⟩) h2⟩
/-- The last operation. -/
theorem anyI_last {o : Oper} {fuel : Nat} {listed : Array Bool} {a : Act} {w : World} (hr : Region.ready md ops listed = [L]) (hr2 : Region.ready md ops (listed.setIfInBounds L true) = []) (ho : ops[L]? = some o)
    (h : ∀ K' : Act → World → Prop, Shut (∀ a w, Q .normal a w → K' a w) → if Region.wanted o (yielded ops a.tmps) = true then Oper.wp P o a w K' Q else K' (a.put o.dst undef) w) : anyI P md ops Q S L (fuel + 1) listed a w := fun _ _ _ _ =>
  ⟨fun h0 => (by rw [hr] at h0; cases h0), fun i hi => by
    rw [hr] at hi
    have e := List.mem_singleton.1 hi
    subst e
    refine wpOp_step ho (fun K' hK => h K' (fun a w hq => hK a w ⟨fun hn => absurd rfl hn, ?_⟩))
    cases fuel with
    | zero => exact ⟨hr2, hq⟩
    | succ f => exact ⟨fun _ => hq, fun j hj => by rw [hr2] at hj; cases hj⟩⟩
theorem headInv_start (md : Region.Mode) (ops : Array Oper) (n : Nat) : HeadInv md ops n (Array.replicate ops.size false) :=
  ⟨by simp, fun j oj _ hl => (by rw [getD_replicate_false] at hl; cases hl), fun t _ ht => (by simp [ht])⟩
/-- The beginning. -/
theorem wp_region_last {id : Nat} {a : Act} {w : World} (L : Nat) (S : World → Prop) (hm : P.follows .mixedOrders = true) (hs : Region.sinkB .any ops L = true) (hc : Region.chainB .any ops L = true) (hL : L < ops.size) (hS : S w.drew)
    (h : S w.drew → anyI P .any ops Q S L ops.size (Array.replicate ops.size false) a w.drew) : (Code.region id ops true).wp P Q a w :=
  wp_region_any hm (any_of_T (S := S) (L := L) _ _ _ _ (h hS hs hc hL (headInv_start _ _ _)))
end

end Go.Proofs.YtnbbhdbcapfbkaaDoor

namespace Go.Proofs.YtnbbhdbcapfbkaaDoor
set_option maxRecDepth 4096

theorem wpIn_round_last {P : Program} {id l₀ m : Nat} {Q : Exit → Act → World → Prop} {a : Act} {w : World} {l : List Oper} (L : Nat) (S : World → Prop) (hm : P.follows .mixedOrders = true) (hd : l.all noDefer = true) (hs : Region.sinkB .any l.toArray L = true) (hc : Region.chainB .any l.toArray L = true) (hL : L < l.toArray.size) (hS : S w.drew)
    (h : S w.drew → anyI P .any l.toArray (onlyN Q) S L l.toArray.size (Array.replicate l.toArray.size false) a w.drew) : (Code.region id l.toArray true).wpIn (Fence.wide.inRound l₀) m P Q a w :=
  Code.wpIn_mono (Q := onlyN Q) (onlyN_in Q) (wpIn_region_any hm (any_round (noDefer_out hd) (fun h => by obtain ⟨_, _, h⟩ := h; exact h) _ _ _ _ (any_of_T (S := S) (L := L) _ _ _ _ (h hS hs hc hL (headInv_start _ _ _)))))

end Go.Proofs.YtnbbhdbcapfbkaaDoor

