/-
  The residual network in memory: a row of slices of pointers to arcs. No statement is proved here.
  A way through the residual network, as a list of blocks; what flows along it changes the flow. Plain facts; no statement is proved here.
-/
import Derived.Test.YtlkhecdlmbhiaaaDoorZTS31
import Derived.Test.YtlkhecdlmbhiaaaDoorZTS33
import Derived.Maps.AppendAt
import Derived.Test.YtlkhecdlmbhiaaaDoorZTS09
namespace Go.Proofs.YtlkhecdlmbhiaaaDoor
set_option maxRecDepth 4096
open Go.ChangeShapes Go.WideShapes Go.ChangeAt Go.RowKit

/-- What leads away from a node: where to, and how many units still can. -/
def awayP (p : ArcD × Int) (v : Nat) : List (Nat × Int) := (if p.1.f = (v : Int) then [(p.1.t.toNat, p.1.r - p.2)] else []) ++ (if p.1.t = (v : Int) then [(p.1.f.toNat, p.2)] else [])
def resL (P : List (ArcD × Int)) (v : Nat) : List (Nat × Int) := P.flatMap fun p => awayP p v
def addE (E : Nat → List (Nat × Int)) (a : Nat) (e : Nat × Int) (v : Nat) : List (Nat × Int) := if v = a then E v ++ [e] else E v
def addB (bs : Nat → List Nat) (a b v : Nat) : List Nat := if v = a then bs v ++ [b] else bs v
theorem addB_is (bs : Nat → List Nat) (a b : Nat) : addB bs a b = fun v => if v = a then bs a ++ [b] else bs v := by
  funext v
  unfold addB
  by_cases e : v = a
  · rw [if_pos e, if_pos e, e]
  · rw [if_neg e, if_neg e]
theorem away_iff {p : ArcD × Int} {v : Nat} {e : Nat × Int} : e ∈ awayP p v ↔ (p.1.f = (v : Int) ∧ e = (p.1.t.toNat, p.1.r - p.2)) ∨ (p.1.t = (v : Int) ∧ e = (p.1.f.toNat, p.2)) := by
  unfold awayP
  rw [List.mem_append]
  by_cases h1 : p.1.f = (v : Int) <;> by_cases h2 : p.1.t = (v : Int) <;> simp [h1, h2]
theorem resL_iff {P : List (ArcD × Int)} {v : Nat} {e : Nat × Int} : e ∈ resL P v ↔ ∃ p ∈ P, (p.1.f = (v : Int) ∧ e = (p.1.t.toNat, p.1.r - p.2)) ∨ (p.1.t = (v : Int) ∧ e = (p.1.f.toNat, p.2)) := by
  unfold resL
  rw [List.mem_flatMap]
  exact ⟨fun ⟨p, hp, he⟩ => ⟨p, hp, away_iff.1 he⟩, fun ⟨p, hp, he⟩ => ⟨p, hp, away_iff.2 he⟩⟩
theorem resL_len (P : List (ArcD × Int)) (v : Nat) : (resL P v).length ≤ 2 * P.length := by
  unfold resL
  induction P with
  | nil => simp
  | cons p P ih =>
    have : (awayP p v).length ≤ 2 := by
      unfold awayP
      split <;> split <;> simp
    simp only [List.flatMap_cons, List.length_append, List.length_cons]
    omega
theorem resL_step {P : List (ArcD × Int)} {k a b : Nat} {r c y : Int} (h : P[k]? = some (⟨a, b, r, c⟩, y)) (hab : a ≠ b) (v : Nat) : addE (addE (resL (P.take k)) a (b, r - y)) b (a, y) v = resL (P.take (k + 1)) v := by
  obtain ⟨hi, e⟩ := List.getElem?_eq_some_iff.1 h
  unfold resL
  rw [List.take_succ_eq_append_getElem hi, List.flatMap_append, e]
  simp only [List.flatMap_cons, List.flatMap_nil, List.append_nil]
  unfold addE awayP
  simp only [Int.toNat_natCast, Int.natCast_inj]
  by_cases h1 : v = a
  · subst h1
    have h2 : ¬ b = v := fun e => hab e.symm
    have h3 : ¬ v = b := hab
    simp [h2, h3]
  · by_cases h2 : v = b
    · subst h2
      have h3 : ¬ a = v := fun e => h1 e.symm
      simp [h1, h3]
    · have h3 : ¬ a = v := fun e => h1 e.symm
      have h4 : ¬ b = v := fun e => h2 e.symm
      simp [h1, h2, h3, h4]

def ptrV (b : Nat) : Value := .pointer (some ⟨b, 0, none⟩)
def boxR (a l k : Int) (p : Option Addr) : Obj := .cells #[.int .i64 a, .int .i64 l, .int .i64 k, .pointer p] 109
/-- The arc in block b leads away from v as e says. -/
def Edge (w : World) (v : Nat) (e : Nat × Int) (b : Nat) : Prop :=
  ∃ rb k l' k' q, w.heap[b]? = some (boxR v e.2 k (some ⟨rb, 0, none⟩)) ∧ w.heap[rb]? = some (boxR e.1 l' k' q)
def notBox (w : World) (r : Option Nat) : Prop := ∀ k, r = some k → ∀ a l c p, w.heap[k]? ≠ some (boxR a l c p)
theorem Edge.grown {w w' : World} {v b : Nat} {e : Nat × Int} {r : Option Nat} (h : Edge w v e b) (g : w.grownBy w' r) (hr : notBox w r) : Edge w' v e b := by
  obtain ⟨rb, k, l', k', q, h1, h2⟩ := h
  have k1 := (Array.getElem?_eq_some_iff.1 h1).1
  have k2 := (Array.getElem?_eq_some_iff.1 h2).1
  exact ⟨rb, k, l', k', q, (g.block b k1 (fun e => hr b e.symm _ _ _ _ h1)).trans h1, (g.block rb k2 (fun e => hr rb e.symm _ _ _ _ h2)).trans h2⟩
theorem notBox_none (w : World) : notBox w none := fun k h => by cases h
theorem notBox_own {w : World} {B : Nat} {e : TypeId} {s n : Nat} {v : Value} {xs : List Value} (h : w.ownsRow B e s v n xs) (he : e ≠ 109) : notBox w v.ownBlock := by
  intro k hk a l c p hb
  rcases h.2 with ⟨rfl, _⟩ | ⟨g, cap, cur, rfl, _, hg, _⟩
  · cases hk
  · cases hk
    rw [hb] at hg
    unfold boxR at hg
    injection hg with hg
    injection hg with _ h2
    exact he h2.symm
theorem own_types {w : World} {B B' : Nat} {e e' : TypeId} {s s' n n' : Nat} {v v' : Value} {xs xs' : List Value} (h : w.ownsRow B e s v n xs) (h' : w.ownsRow B' e' s' v' n' xs') (he : e ≠ e') : v.ownBlock = none ∨ v.ownBlock ≠ v'.ownBlock := by
  rcases h.2 with ⟨rfl, _⟩ | ⟨g, cap, cur, rfl, _, hg, _⟩
  · exact .inl rfl
  · refine .inr (fun k => ?_)
    rcases h'.2 with ⟨rfl, _⟩ | ⟨g', cap', cur', rfl, _, hg', _⟩
    · cases k
    · have k2 : g = g' := by simpa [Value.ownBlock] using k
      subst k2
      rw [hg] at hg'
      injection hg' with hg'
      injection hg' with _ h2
      exact he h2

def rowV (S : Nat → Value) (n : Nat) : List Value := (List.range n).map S
theorem rowV_len (S : Nat → Value) (n : Nat) : (rowV S n).length = n := by simp [rowV]
theorem rowV_at (S : Nat → Value) {n c : Nat} (h : c < n) : (rowV S n)[c]? = some (S c) := by simp [rowV, h]
theorem rowV_set (S : Nat → Value) {n c : Nat} (x : Value) : (rowV S n).set c x = rowV (fun v => if v = c then x else S v) n := by
  apply List.ext_getElem?
  intro j
  rw [List.getElem?_set]
  by_cases hj : j < n
  · rw [rowV_at _ hj, rowV_at _ hj]
    by_cases e : c = j
    · subst e
      rw [if_pos rfl, if_pos (by rw [rowV_len]; exact hj), if_pos rfl]
    · rw [if_neg e, if_neg (fun h => e h.symm)]
  · have h1 : ∀ S : Nat → Value, (rowV S n)[j]? = none := fun S => List.getElem?_eq_none_iff.2 (by rw [rowV_len]; omega)
    rw [h1, h1]
    split
    · rw [if_neg (by rw [rowV_len]; omega)]
    · rfl

/-- The network: for each node a slice of pointers to the arcs that lead away from it. -/
structure RG (B : Nat) (w : World) (G n : Nat) (E : Nat → List (Nat × Int)) (S : Nat → Value) (bs : Nat → List Nat) : Prop where
  row : w.ownsRow B 77 1 (.slice (some ⟨G, 0, none⟩) n n) n (rowV S n)
  len : ∀ v, v < n → (bs v).length = (E v).length
  own : ∀ v, v < n → w.ownsRow B 107 1 (S v) (bs v).length ((bs v).map ptrV)
  edge : ∀ v, v < n → ∀ (j : Nat) e b, (E v)[j]? = some e → (bs v)[j]? = some b → Edge w v e b
  apart : ∀ u v, u < n → v < n → u ≠ v → (S u).ownBlock = none ∨ (S u).ownBlock ≠ (S v).ownBlock

section
variable {B G n : Nat} {w w' : World} {E : Nat → List (Nat × Int)} {S : Nat → Value} {bs : Nat → List Nat}
theorem below_grownN (h : Below w.heap.size w w') : w.grownBy w' none := ⟨h.os, h.tape, h.output, h.size, fun i hi _ => h.block i hi⟩
theorem ne_none (v : Value) : v.ownBlock = none ∨ v.ownBlock ≠ none := by cases h : v.ownBlock <;> simp
theorem RG.below (h : RG B w G n E S bs) (g : Below w.heap.size w w') : RG B w' G n E S bs := by
  have g' := below_grownN g
  exact ⟨h.row.kept g' (ne_none _), h.len, fun v hv => (h.own v hv).kept g' (ne_none _), fun v hv j e b he hb => (h.edge v hv j e b he hb).grown g' (notBox_none w), h.apart⟩
theorem RG.same (h : RG B w G n E S bs) {E' : Nat → List (Nat × Int)} (he : ∀ v, E v = E' v) : RG B w G n E' S bs := by
  have : E = E' := funext he
  rw [← this]
  exact h
theorem RG.at_row (h : RG B w G n E S bs) {v : Nat} (hv : v < n) : w.cell? ⟨G, v, none⟩ = some (S v) := by
  have := h.row.cells (g := G) rfl v (S v) (rowV_at S hv)
  have hadd : (⟨G, 0, none⟩ : Addr).add v = ⟨G, v, none⟩ := by unfold Addr.add; split <;> simp_all
  rwa [hadd] at this
/-- One more arc leads away from a: what an append and the store of its slice leave. -/
theorem RG.push (h : RG B w G n E S bs) {a b : Nat} {e : Nat × Int} {v' : Value} (ha : a < n) (hE : Edge w a e b) (hown : w'.ownsRow B 107 1 v' ((bs a).length + 1) ((bs a).map ptrV ++ [b].map ptrV))
    (hg : w.grownBy w' (S a).ownBlock) (hat : (S a).ownBlock = v'.ownBlock ∨ v'.ownBlock = some w.heap.size) :
    RG B (w'.setCell ⟨G, a, none⟩ v') G n (addE E a e) (fun v => if v = a then v' else S v) (addB bs a b) ∧ w'.grownBy (w'.setCell ⟨G, a, none⟩ v') (some G) := by
  rw [addB_is]
  have hrow : w'.ownsRow B 77 1 (.slice (some ⟨G, 0, none⟩) n n) n (rowV S n) := h.row.kept hg (own_types h.row (h.own a ha) (by decide))
  obtain ⟨h1, h2⟩ := hrow.stored a v'
  rw [rowV_set] at h1
  have hnb1 : notBox w (S a).ownBlock := notBox_own (h.own a ha) (by decide)
  have hnb2 : notBox w' (some G) := notBox_own hrow (by decide)
  have hown2 := hown.kept h2 (own_types hown hrow (by decide))
  have hother : ∀ v, v < n → v ≠ a → (w'.setCell ⟨G, a, none⟩ v').ownsRow B 107 1 (S v) (bs v).length ((bs v).map ptrV) := fun v hv hne => by
    have k1 := (h.own v hv).kept hg (h.apart v a hv ha hne)
    exact k1.kept h2 (own_types k1 hrow (by decide))
  refine ⟨⟨h1, fun v hv => ?_, fun v hv => ?_, fun v hv j e' b' he hb => ?_, fun u v hu hv hne => ?_⟩, h2⟩
  · unfold addE
    by_cases hva : v = a
    · subst hva
      simp [h.len v hv]
    · simp [hva, h.len v hv]
  · by_cases hva : v = a
    · subst hva
      simpa using hown2
    · simpa [hva] using hother v hv hva
  · have hkeep : ∀ {v e b}, Edge w v e b → Edge (w'.setCell ⟨G, a, none⟩ v') v e b := fun hh => (hh.grown hg hnb1).grown h2 hnb2
    unfold addE at he
    by_cases hva : v = a
    · subst hva
      rw [if_pos rfl] at he
      simp only [if_true] at hb
      rcases Nat.lt_or_ge j (E v).length with hj | hj
      · rw [List.getElem?_append_left hj] at he
        rw [List.getElem?_append_left (by rw [h.len v hv]; exact hj)] at hb
        exact hkeep (h.edge v hv j e' b' he hb)
      · rw [List.getElem?_append_right hj] at he
        rw [List.getElem?_append_right (by rw [h.len v hv]; exact hj), h.len v hv] at hb
        cases hz : j - (E v).length with
        | zero =>
          rw [hz] at he hb
          cases he
          cases hb
          exact hkeep hE
        | succ m => rw [hz] at he; cases he
    · rw [if_neg hva] at he
      simp only [if_neg hva] at hb
      exact hkeep (h.edge v hv j e' b' he hb)
  · have hlt : ∀ v, v < n → ∀ k, (S v).ownBlock = some k → k < w.heap.size := fun v hv k hk => ((h.own v hv).lt k hk).2
    have key : ∀ u, u < n → u ≠ a → (S u).ownBlock = none ∨ (S u).ownBlock ≠ v'.ownBlock := fun u hu hua => by
      rcases hat with e | e
      · rw [← e]
        exact h.apart u a hu ha hua
      · rcases h3 : (S u).ownBlock with _ | k
        · exact .inl rfl
        · refine .inr (fun k2 => ?_)
          rw [e] at k2
          have k3 := hlt u hu k h3
          have k4 := Option.some.inj k2
          omega
    by_cases hu2 : u = a
    · have hv2 : v ≠ a := fun e => hne (hu2.trans e.symm)
      simp only [hu2, if_true, if_neg hv2]
      rcases key v hv hv2 with k | k
      · cases h3 : v'.ownBlock with
        | none => exact .inl rfl
        | some m => rw [k]; exact .inr (by simp)
      · exact .inr (fun e => k e.symm)
    · by_cases hv2 : v = a
      · simp only [hv2, if_true, if_neg hu2]
        exact key u hu hu2
      · simp only [if_neg hu2, if_neg hv2]
        exact h.apart u v hu hv hne
/-- The network as it begins. -/
theorem RG.start (h : w.ownsRow B 77 1 (.slice (some ⟨G, 0, none⟩) n n) n (madeCells (Value.slice none 0 0).cells (n * 1)).toList) : RG B w G n (fun _ => []) (fun _ => .slice none 0 0) (fun _ => []) := by
  have e : (madeCells (Value.slice none 0 0).cells (n * 1)).toList = rowV (fun _ => .slice none 0 0) n := by
    rw [Nat.mul_one]
    refine (toList_madeCells_one _ _).trans ?_
    unfold rowV
    rw [List.map_const', List.length_range]
  rw [e] at h
  exact ⟨h, fun v _ => rfl, fun v _ => World.ownsRow_nil w B _ 1, fun v _ j e b he => by simp at he, fun u v _ _ _ => .inl rfl⟩
end

end Go.Proofs.YtlkhecdlmbhiaaaDoor

namespace Go.Proofs.YtlkhecdlmbhiaaaDoor
set_option maxRecDepth 4096

/-- Block b is the arc from u to v, and U units more can go there. X: the blocks of an arc's two directions. -/
def Hop (A : List ArcD) (F : List Int) (X : List (Nat × Nat)) (U : Int) (u v b : Nat) : Prop :=
  ∃ (i : Nat) (x : ArcD) (y : Int) (c d : Nat), A[i]? = some x ∧ F[i]? = some y ∧ X[i]? = some (c, d) ∧
    ((b = c ∧ x.f = (u : Int) ∧ x.t = (v : Int) ∧ y + U ≤ x.r) ∨ (b = d ∧ x.t = (u : Int) ∧ x.f = (v : Int) ∧ U ≤ y))
/-- The blocks lead back from v to node 0, the ranks fall. -/
def Way (A : List ArcD) (F : List Int) (X : List (Nat × Nat)) (U : Int) (ρ : Nat → Nat) : List Nat → Nat → Prop
  | [], v => v = 0
  | b :: L, v => ∃ u, Hop A F X U u v b ∧ ρ u < ρ v ∧ Way A F X U ρ L u
def LeftAt (A : List ArcD) (F : List Int) (X : List (Nat × Nat)) (b : Nat) (l : Int) : Prop :=
  ∃ (i : Nat) (x : ArcD) (y : Int) (c d : Nat), A[i]? = some x ∧ F[i]? = some y ∧ X[i]? = some (c, d) ∧ ((b = c ∧ l = x.r - y) ∨ (b = d ∧ l = y))
section
variable {A : List ArcD} {F : List Int} {X : List (Nat × Nat)} {U : Int} {ρ : Nat → Nat}
theorem Hop.left {u v b : Nat} (h : Hop A F X U u v b) : ∃ l, LeftAt A F X b l ∧ U ≤ l := by
  obtain ⟨i, x, y, c, d, hx, hy, hc, ⟨h1, _, _, h2⟩ | ⟨h1, _, _, h2⟩⟩ := h
  · exact ⟨_, ⟨i, x, y, c, d, hx, hy, hc, .inl ⟨h1, rfl⟩⟩, by omega⟩
  · exact ⟨_, ⟨i, x, y, c, d, hx, hy, hc, .inr ⟨h1, rfl⟩⟩, h2⟩
theorem Hop.raise {U' : Int} {u v b : Nat} (h : Hop A F X U u v b) (hl : ∀ l, LeftAt A F X b l → U' ≤ l) : Hop A F X U' u v b := by
  obtain ⟨i, x, y, c, d, hx, hy, hc, ⟨h1, h2, h3, _⟩ | ⟨h1, h2, h3, _⟩⟩ := h
  · have := hl _ ⟨i, x, y, c, d, hx, hy, hc, .inl ⟨h1, rfl⟩⟩
    exact ⟨i, x, y, c, d, hx, hy, hc, .inl ⟨h1, h2, h3, by omega⟩⟩
  · exact ⟨i, x, y, c, d, hx, hy, hc, .inr ⟨h1, h2, h3, hl _ ⟨i, x, y, c, d, hx, hy, hc, .inr ⟨h1, rfl⟩⟩⟩⟩
theorem Way.raise {U' : Int} : ∀ {L : List Nat} {v : Nat}, Way A F X U ρ L v → (∀ b ∈ L, ∀ l, LeftAt A F X b l → U' ≤ l) → Way A F X U' ρ L v
  | [], _, h, _ => h
  | b :: _, _, ⟨u, h1, h2, h3⟩, hl => ⟨u, h1.raise (hl b (List.mem_cons_self ..)), h2, h3.raise fun b' hb => hl b' (List.mem_cons_of_mem _ hb)⟩
theorem Way.at : ∀ {L : List Nat} {v b : Nat}, Way A F X U ρ L v → b ∈ L → ∃ u w, Hop A F X U u w b
  | [], _, _, _, hb => by cases hb
  | b' :: _, v, b, ⟨u, h1, _, h3⟩, hb => by
    rcases List.mem_cons.1 hb with rfl | hb
    · exact ⟨_, _, h1⟩
    · exact h3.at hb
theorem Way.drop : ∀ {L : List Nat} {v : Nat} (k : Nat), Way A F X U ρ L v → ∃ u, Way A F X U ρ (L.drop k) u
  | _, v, 0, h => ⟨v, by simpa using h⟩
  | [], v, k + 1, h => ⟨v, by simpa using h⟩
  | b :: L, v, k + 1, ⟨u, _, _, h3⟩ => by simpa using h3.drop k
/-- A change of an arc between nodes of higher rank leaves the way as it is. -/
theorem Way.other {i u v : Nat} {x : ArcD} (δ : Int) (hx : A[i]? = some x) (hd : (x.f = (u : Int) ∧ x.t = (v : Int)) ∨ (x.t = (u : Int) ∧ x.f = (v : Int))) (hr : ρ u < ρ v) :
    ∀ {L : List Nat} {w : Nat}, Way A F X U ρ L w → ρ w ≤ ρ u → Way A (bump F i δ) X U ρ L w
  | [], _, h, _ => h
  | b :: L, w, ⟨u', ⟨j, x', y', c, d, hx', hy', hc, hh⟩, h2, h3⟩, hw => by
    refine ⟨u', ⟨j, x', y', c, d, hx', ?_, hc, hh⟩, h2, h3.other δ hx hd hr (by omega)⟩
    rw [bump_ne]
    · exact hy'
    · intro e
      subst e
      rw [hx] at hx'
      have e2 := Option.some.inj hx'
      subst e2
      have hcase : (w = v ∧ u' = u) ∨ (w = u ∧ u' = v) := by
        rcases hd with ⟨a1, a2⟩ | ⟨a1, a2⟩ <;> rcases hh with ⟨_, b1, b2, _⟩ | ⟨_, b1, b2, _⟩ <;> omega
      rcases hcase with ⟨rfl, rfl⟩ | ⟨rfl, rfl⟩ <;> omega

/-- While the units go back: they stand at v; L is what is left of the way. -/
structure AInv (A : List ArcD) (F₀ : List Int) (X : List (Nat × Nat)) (U : Int) (ρ : Nat → Nat) (L : List Nat) (v : Nat) (F : List Int) : Prop where
  way : Way A F X U ρ L v
  len : F.length = A.length
  room : ∀ p ∈ A.zip F, 0 ≤ p.2 ∧ p.2 ≤ p.1.r
  bal : ∀ u : Nat, netO (A.zip F) u = netO (A.zip F₀) u + (if u = v then U else 0) - (if u = 1 then U else 0)
theorem AInv.start {L : List Nat} (h : Way A F X U ρ L 1) (hl : F.length = A.length) (hr : ∀ p ∈ A.zip F, 0 ≤ p.2 ∧ p.2 ≤ p.1.r) : AInv A F X U ρ L 1 F :=
  ⟨h, hl, hr, fun u => by split <;> omega⟩
theorem AInv.step {F₀ : List Int} {b v : Nat} {L : List Nat} (h : AInv A F₀ X U ρ (b :: L) v F) (hU : 0 ≤ U) :
    ∃ (i : Nat) (x : ArcD) (y : Int) (c d u : Nat), A[i]? = some x ∧ F[i]? = some y ∧ X[i]? = some (c, d) ∧ 0 ≤ y ∧ y ≤ x.r ∧
      ((b = c ∧ y + U ≤ x.r ∧ AInv A F₀ X U ρ L u (bump F i U)) ∨ (b = d ∧ U ≤ y ∧ AInv A F₀ X U ρ L u (bump F i (-U)))) := by
  obtain ⟨⟨u, ⟨i, x, y, c, d, hx, hy, hc, hh⟩, hr, hw⟩, hl, hroom, hbal⟩ := h
  have hyr := hroom (x, y) (List.mem_of_getElem? (zip_at hx hy))
  simp only at hyr
  refine ⟨i, x, y, c, d, u, hx, hy, hc, hyr.1, hyr.2, ?_⟩
  rcases hh with ⟨a0, a1, a2, a3⟩ | ⟨a0, a1, a2, a3⟩
  · refine .inl ⟨a0, a3, hw.other U hx (.inl ⟨a1, a2⟩) hr (Nat.le_refl _), by rw [bump_len]; exact hl, room_bump hx hy hroom (by omega), fun w => ?_⟩
    rw [netO_bump U w hx hy, hbal w]
    unfold outAt
    rw [a1, a2]
    by_cases e1 : w = u <;> by_cases e2 : w = v <;> simp [e1, e2] <;> omega
  · refine .inr ⟨a0, a3, hw.other (-U) hx (.inr ⟨a1, a2⟩) hr (Nat.le_refl _), by rw [bump_len]; exact hl, room_bump hx hy hroom (by omega), fun w => ?_⟩
    rw [netO_bump (-U) w hx hy, hbal w]
    unfold outAt
    rw [a1, a2]
    by_cases e1 : w = u <;> by_cases e2 : w = v <;> simp [e1, e2] <;> omega
theorem AInv.done {F₀ : List Int} {N : Int} {v : Nat} (h : AInv A F₀ X U ρ [] v F) (h0 : flowOkV N A F₀ = true) : flowOkV N A F = true ∧ netO (A.zip F) 0 = netO (A.zip F₀) 0 + U := by
  obtain ⟨hw, hl, hroom, hbal⟩ := h
  obtain ⟨hk, _, _, hs⟩ := flowOk_out h0
  have e : v = 0 := hw
  subst e
  refine ⟨flowOk_mk hk hl hroom fun w hw2 hn => ?_, ?_⟩
  · rw [hbal w, hs w hw2 hn, if_neg (by omega), if_neg (by omega)]
    rfl
  · rw [hbal 0]
    simp
end

end Go.Proofs.YtlkhecdlmbhiaaaDoor

