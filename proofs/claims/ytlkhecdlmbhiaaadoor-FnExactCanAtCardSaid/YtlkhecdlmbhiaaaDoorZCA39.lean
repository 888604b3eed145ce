/-
  The memory in which a unit is pushed along a network. No statement is proved here.
  CONTRACT of spec.l06Pushed. No law is proved here.
-/
import Derived.Test.YtlkhecdlmbhiaaaDoorZCA02
import Derived.Test.YtlkhecdlmbhiaaaDoorZCA27
import Derived.Maps.AppendAt
import Derived.Test.YtlkhecdlmbhiaaaDoorZCA25
import Derived.Deep.DeepCutAuto
import Derived.Deep.CutRange
import Derived.BigQuiet
import Derived.Deep.QuietTactic
namespace Go.Proofs.YtlkhecdlmbhiaaaDoor
set_option maxRecDepth 4096
open Go.ChangeShapes Go.WideShapes Go.ChangeAt Go.RowKit

theorem Tryd.infoNum : (Tryd.prog.info? 3).map (fun i => (i.zero, i.size, i.bytes)) = some (some (.int .i64 0), 1, 8) := by kernel_rfl
/-- The memory of a push: the flow's row, and the search's rows. -/
structure PM (w : World) (n : Nat) (v : Value) (L Gf Gb Gs : Nat) (F : List Int) (s : BS) (qv : Value) (wr : World) : Prop where
  flow : wr.ownsRow (w.heap.size + 1) 3 1 (.slice (some ⟨Gf, 0, none⟩) L L) L (F.map (Value.int .i64))
  by_ : wr.ownsRow (Gf + 1) 3 1 (.slice (some ⟨Gb, 0, none⟩) n n) n ((rowO s.b n).map (Value.int .i64))
  seen : wr.ownsRow (Gb + 1) 4 1 (.slice (some ⟨Gs, 0, none⟩) n n) n (rowB s.o n)
  queue : wr.ownsRow (Gs + 1) 3 1 qv s.q.length ((s.q.map Int.ofNat).map (Value.int .i64))
  below : Below (w.alloc (.cells #[.int .i64 (n : Int), v] 32)).heap.size (w.alloc (.cells #[.int .i64 (n : Int), v] 32)) wr
section
variable {w wr : World} {n L Gf Gb Gs Sa : Nat} {v qv : Value} {F : List Int} {s : BS} {x : ArcD}
theorem PM.ord (h : PM w n v L Gf Gb Gs F s qv wr) : w.heap.size < Gf ∧ Gf < Gb ∧ Gb < Gs ∧ Gs < wr.heap.size ∧ ∀ j, qv.ownBlock = some j → Gs < j ∧ j < wr.heap.size := by
  have h1 := h.flow.lt Gf rfl
  have h2 := h.by_.lt Gb rfl
  have h3 := h.seen.lt Gs rfl
  exact ⟨by omega, by omega, by omega, h3.2, fun j e => by have := h.queue.lt j e; omega⟩
theorem PM.alloc (h : PM w n v L Gf Gb Gs F s qv wr) (b : Obj) : PM w n v L Gf Gb Gs F s qv (wr.alloc b) := ⟨h.flow.alloc b, h.by_.alloc b, h.seen.alloc b, h.queue.alloc b, h.below.alloc h.below.size b⟩
theorem PM.drewN (h : PM w n v L Gf Gb Gs F s qv wr) (m : Nat) : PM w n v L Gf Gb Gs F s qv (wr.drewN m) := ⟨h.flow, h.by_, h.seen, h.queue, below_drewN h.below m⟩
theorem PM.drew (h : PM w n v L Gf Gb Gs F s qv wr) : PM w n v L Gf Gb Gs F s qv wr.drew := ⟨h.flow, h.by_, h.seen, h.queue, h.below.drew⟩
theorem PM.mark (h : PM w n v L Gf Gb Gs F s qv wr) (t : Nat) : PM w n v L Gf Gb Gs F ⟨fun j => s.o j || decide (j = t), s.b, s.q⟩ qv (wr.setCell ⟨Gs, t, none⟩ (.bool true)) := by
  obtain ⟨o1, o2, o3, o4, o5⟩ := h.ord
  obtain ⟨h1, h2⟩ := h.seen.stored t (.bool true)
  rw [rowB_set (o' := fun j => s.o j || decide (j = t)) (fun j => rfl)] at h1
  exact ⟨h.flow.kept h2 (.inr (fun e => by simp [Value.ownBlock] at e; omega)), h.by_.kept h2 (.inr (fun e => by simp [Value.ownBlock] at e; omega)), h1, h.queue.kept h2 (.inr (fun e => by have := o5 _ e; omega)),
    h.below.grown h2 h.below.size (fun j e => by cases e; simp; omega)⟩
theorem PM.tell (h : PM w n v L Gf Gb Gs F s qv wr) (t : Nat) (y : Int) : PM w n v L Gf Gb Gs F ⟨s.o, fun j => if j = t then y else s.b j, s.q⟩ qv (wr.setCell ⟨Gb, t, none⟩ (.int .i64 y)) := by
  obtain ⟨o1, o2, o3, o4, o5⟩ := h.ord
  obtain ⟨h1, h2⟩ := h.by_.stored t (.int .i64 y)
  rw [rowO_put (o' := fun j => if j = t then y else s.b j) (by simp) (fun j e => by simp [e])] at h1
  exact ⟨h.flow.kept h2 (.inr (fun e => by simp [Value.ownBlock] at e; omega)), h1, h.seen.kept h2 (.inr (fun e => by simp [Value.ownBlock] at e; omega)), h.queue.kept h2 (.inr (fun e => by have := o5 _ e; omega)),
    h.below.grown h2 h.below.size (fun j e => by cases e; simp; omega)⟩
theorem PM.pay (h : PM w n v L Gf Gb Gs F s qv wr) (i : Nat) (y : Int) : PM w n v L Gf Gb Gs (F.set i y) s qv (wr.setCell ⟨Gf, i, none⟩ (.int .i64 y)) := by
  obtain ⟨o1, o2, o3, o4, o5⟩ := h.ord
  obtain ⟨h1, h2⟩ := h.flow.stored i (.int .i64 y)
  rw [← List.map_set] at h1
  exact ⟨h1, h.by_.kept h2 (.inr (fun e => by simp [Value.ownBlock] at e; omega)), h.seen.kept h2 (.inr (fun e => by simp [Value.ownBlock] at e; omega)), h.queue.kept h2 (.inr (fun e => by have := o5 _ e; omega)),
    h.below.grown h2 h.below.size (fun j e => by cases e; simp; omega)⟩
theorem PM.app {b : Obj} {w6 : World} {v' : Value} {t : Nat} (h : PM w n v L Gf Gb Gs F s qv wr) (hown : w6.ownsRow (Gs + 1) 3 1 v' (s.q.length + 1) ((s.q.map Int.ofNat).map (Value.int .i64) ++ [(t : Int)].map (Value.int .i64))) (hg : (wr.alloc b).grownBy w6 qv.ownBlock) :
    PM w n v L Gf Gb Gs F ⟨s.o, s.b, s.q ++ [t]⟩ v' w6 := by
  have ha := h.alloc b
  obtain ⟨o1, o2, o3, o4, o5⟩ := ha.ord
  have e1 : (s.q ++ [t]).length = s.q.length + 1 := by simp
  have e2 : ((s.q ++ [t]).map Int.ofNat).map (Value.int .i64) = (s.q.map Int.ofNat).map (Value.int .i64) ++ [(t : Int)].map (Value.int .i64) := by simp
  refine ⟨ha.flow.kept hg (.inr (fun e => by have := o5 _ (show qv.ownBlock = some Gf from e.symm); omega)), ha.by_.kept hg (.inr (fun e => by have := o5 _ (show qv.ownBlock = some Gb from e.symm); omega)), ha.seen.kept hg (.inr (fun e => by have := o5 _ (show qv.ownBlock = some Gs from e.symm); omega)), ?_, ha.below.grown hg ha.below.size (fun j e => by have := o5 _ e; simp; omega)⟩
  show w6.ownsRow (Gs + 1) 3 1 v' (s.q ++ [t]).length _
  rw [e1, e2]
  exact hown
/-- The arc at hand has a block of its own. -/
structure PA (w : World) (n : Nat) (v : Value) (L Gf Gb Gs Sa : Nat) (x : ArcD) (F : List Int) (s : BS) (qv : Value) (wr : World) : Prop where
  pm : PM w n v L Gf Gb Gs F s qv wr
  arc : wr.heap[Sa]? = some (.cells #[.int .i64 x.f, .int .i64 x.t, .int .i64 x.r, .int .i64 x.c] 72 (0, 0))
  far : Gs < Sa ∧ qv.ownBlock ≠ some Sa
theorem PA.make (h : PM w n v L Gf Gb Gs F s qv wr) (x : ArcD) : PA w n v L Gf Gb Gs wr.heap.size x F s qv (wr.alloc (.cells #[.int .i64 x.f, .int .i64 x.t, .int .i64 x.r, .int .i64 x.c] 72)) := by
  obtain ⟨o1, o2, o3, o4, o5⟩ := h.ord
  exact ⟨h.alloc _, heap_alloc_new wr _, o4, fun e => by have := o5 _ e; omega⟩
theorem PA.drewN (h : PA w n v L Gf Gb Gs Sa x F s qv wr) (m : Nat) : PA w n v L Gf Gb Gs Sa x F s qv (wr.drewN m) := ⟨h.pm.drewN m, h.arc, h.far⟩
theorem PA.mark (h : PA w n v L Gf Gb Gs Sa x F s qv wr) (t : Nat) : PA w n v L Gf Gb Gs Sa x F ⟨fun j => s.o j || decide (j = t), s.b, s.q⟩ qv (wr.setCell ⟨Gs, t, none⟩ (.bool true)) :=
  ⟨h.pm.mark t, (heap_setCell_other _ _ _ _ (fun e => by have := h.far.1; simp at e; omega)).trans h.arc, h.far⟩
theorem PA.tell (h : PA w n v L Gf Gb Gs Sa x F s qv wr) (t : Nat) (y : Int) : PA w n v L Gf Gb Gs Sa x F ⟨s.o, fun j => if j = t then y else s.b j, s.q⟩ qv (wr.setCell ⟨Gb, t, none⟩ (.int .i64 y)) :=
  ⟨h.pm.tell t y, (heap_setCell_other _ _ _ _ (fun e => by have := h.far.1; have := h.pm.ord; simp at e; omega)).trans h.arc, h.far⟩
theorem PA.app {b : Obj} {w6 : World} (h : PA w n v L Gf Gb Gs Sa x F s qv wr) (hg : (wr.alloc b).grownBy w6 qv.ownBlock) : w6.heap[Sa]? = some (.cells #[.int .i64 x.f, .int .i64 x.t, .int .i64 x.r, .int .i64 x.c] 72 (0, 0)) := by
  have hX := (Array.getElem?_eq_some_iff.1 h.arc).1
  exact ((hg.block Sa (by simp; omega) (fun e => h.far.2 e.symm)).trans ((World.grownBy_alloc wr b none).block Sa hX (by simp))).trans h.arc
theorem PA.c0 (h : PA w n v L Gf Gb Gs Sa x F s qv wr) : wr.cell? ⟨Sa, 0, none⟩ = some (.int .i64 x.f) := by rw [cell_of_row _ _ _ _ _ _ h.arc]; rfl
theorem PA.c1 (h : PA w n v L Gf Gb Gs Sa x F s qv wr) : wr.cell? ⟨Sa, 1, none⟩ = some (.int .i64 x.t) := by rw [cell_of_row _ _ _ _ _ _ h.arc]; rfl
theorem PA.c2 (h : PA w n v L Gf Gb Gs Sa x F s qv wr) : wr.cell? ⟨Sa, 2, none⟩ = some (.int .i64 x.r) := by rw [cell_of_row _ _ _ _ _ _ h.arc]; rfl
end
theorem own_at {w : World} {B s n : Nat} {e : TypeId} {v : Value} {xs : List Value} (h : w.ownsRow B e s v n xs) (hn : 0 < n) : ∃ g c, v = .slice (some ⟨g, 0, none⟩) n c := by
  rcases h.2 with ⟨rfl, h0⟩ | ⟨g, cap, cur, rfl, _⟩
  · omega
  · exact ⟨_, _, rfl⟩
theorem scanB_step {P : List (ArcD × Int)} {v k : Nat} {s : BS} {p : ArcD × Int} (h : P[k]? = some p) : scanB v (P.drop k) k s = scanB v (P.drop (k + 1)) (k + 1) (bwdB p.1 p.2 v k (fwdB p.1 p.2 v k s)) := by
  obtain ⟨hi, rfl⟩ := List.getElem?_eq_some_iff.1 h
  rw [List.drop_eq_getElem_cons hi]
  rfl
theorem nxt_none {v k : Nat} {s : BS} {x : ArcD} {y : Int} (h1 : x.f = (v : Int) → s.o x.t.toNat = false → y < x.r → False) (h2 : x.t = (v : Int) → s.o x.f.toNat = false → 0 < y → False) : bwdB x y v k (fwdB x y v k s) = s := by
  have e : fwdB x y v k s = s := by
    unfold fwdB
    rw [if_neg (fun h => h1 h.1 h.2.1 h.2.2)]
  rw [e]
  unfold bwdB
  rw [if_neg (fun h => h2 h.1 h.2.1 h.2.2)]
theorem nxt_fwd {v k : Nat} {s : BS} {x : ArcD} {y : Int} (h1 : x.f = (v : Int)) (h2 : s.o x.t.toNat = false) (h3 : y < x.r) (hne : x.f ≠ x.t) : bwdB x y v k (fwdB x y v k s) = s.met x.t.toNat ((k : Int) + 1) := by
  have e : fwdB x y v k s = s.met x.t.toNat ((k : Int) + 1) := by
    unfold fwdB
    rw [if_pos ⟨h1, h2, h3⟩]
  rw [e]
  unfold bwdB
  rw [if_neg (fun h => hne (h1.trans h.1.symm))]
theorem nxt_bwd {v k : Nat} {s : BS} {x : ArcD} {y : Int} (h1 : x.t = (v : Int)) (h2 : s.o x.f.toNat = false) (h3 : 0 < y) (hne : x.f ≠ x.t) : bwdB x y v k (fwdB x y v k s) = s.met x.f.toNat (-(k : Int) - 1) := by
  have e : fwdB x y v k s = s := by
    unfold fwdB
    rw [if_neg (fun h => hne (h.1.trans h1.symm))]
  rw [e]
  unfold bwdB
  rw [if_pos ⟨h1, h2, h3⟩]
theorem scanB_end {P : List (ArcD × Int)} {v k : Nat} {s : BS} (h : P.length ≤ k) : scanB v (P.drop k) k s = s := by
  rw [List.drop_of_length_le h]
  rfl

end Go.Proofs.YtlkhecdlmbhiaaaDoor

namespace Go.Proofs.YtlkhecdlmbhiaaaDoor
set_option maxRecDepth 4096
open Go.ChangeShapes Go.WideShapes Go.ChangeAt Go.RowKit

theorem PA.append {w wr w6 : World} {n L Gf Gb Gs Sa t : Nat} {v qv v' : Value} {F : List Int} {s : BS} {x : ArcD} {b : Obj} (h : PA w n v L Gf Gb Gs Sa x F s qv wr) (hown : w6.ownsRow (Gs + 1) 3 1 v' (s.q.length + 1) ((s.q.map Int.ofNat).map (Value.int .i64) ++ [(t : Int)].map (Value.int .i64)))
    (hg : (wr.alloc b).grownBy w6 qv.ownBlock) (hat : v'.ownBlock = qv.ownBlock ∨ v'.ownBlock = some (wr.alloc b).heap.size) : PA w n v L Gf Gb Gs Sa x F ⟨s.o, s.b, s.q ++ [t]⟩ v' w6 := by
  refine ⟨h.pm.app hown hg, h.app hg, h.far.1, fun e => ?_⟩
  have hX := (Array.getElem?_eq_some_iff.1 h.arc).1
  rcases hat with k | k
  · exact h.far.2 (k.symm.trans e)
  · rw [e, World.size_alloc] at k
    have := Option.some.inj k
    omega
theorem size_set (w : World) (a : Addr) (x : Value) : (w.setCell a x).heap.size = w.heap.size := by simp [World.setCell]
theorem num_new_at {w : World} {m : Nat} (h : w.heap.size = m) (x : Int) (t : TypeId) : ∀ j u, ([x].map (Value.int .i64))[j]? = some u → (w.alloc (.cells #[.int .i64 x] t)).cell? ((⟨m, 0, none⟩ : Addr).add j) = some u := by
  subst h
  exact int_new w x t
/-- Whether the arc x (flow y) leads on, forward and backward. -/
def onF (s : BS) (x : ArcD) (y : Int) (u : Nat) : Bool := decide (x.f = (u : Int)) && (!s.o x.t.toNat && decide (y < x.r))
def onB (s : BS) (x : ArcD) (y : Int) (u : Nat) : Bool := decide (x.t = (u : Int)) && (!s.o x.f.toNat && decide (0 < y))
theorem fwd_on {s : BS} {x : ArcD} {y : Int} {u j : Nat} (h : onF s x y u = true) : fwdB x y u j s = s.met x.t.toNat ((j : Int) + 1) := by
  unfold onF at h
  simp only [Bool.and_eq_true, decide_eq_true_eq, Bool.not_eq_true'] at h
  unfold fwdB
  rw [if_pos ⟨h.1, h.2.1, h.2.2⟩]
theorem fwd_off {s : BS} {x : ArcD} {y : Int} {u j : Nat} (h : onF s x y u = false) : fwdB x y u j s = s := by
  unfold fwdB
  rw [if_neg]
  rintro ⟨h1, h2, h3⟩
  unfold onF at h
  rw [decide_eq_true h1, h2, decide_eq_true h3] at h
  cases h
theorem bwd_on {s : BS} {x : ArcD} {y : Int} {u j : Nat} (h : onB s x y u = true) : bwdB x y u j s = s.met x.f.toNat (-(j : Int) - 1) := by
  unfold onB at h
  simp only [Bool.and_eq_true, decide_eq_true_eq, Bool.not_eq_true'] at h
  unfold bwdB
  rw [if_pos ⟨h.1, h.2.1, h.2.2⟩]
theorem bwd_off {s : BS} {x : ArcD} {y : Int} {u j : Nat} (h : onB s x y u = false) : bwdB x y u j s = s := by
  unfold bwdB
  rw [if_neg]
  rintro ⟨h1, h2, h3⟩
  unfold onB at h
  rw [decide_eq_true h1, h2, decide_eq_true h3] at h
  cases h
theorem onF_at {s : BS} {a t u : Nat} {r c y : Int} : onF s ⟨(a : Int), (t : Int), r, c⟩ y u = (decide ((a : Int) = (u : Int)) && (!s.o t && decide (y < r))) := rfl
theorem onB_at {s : BS} {a t u : Nat} {r c y : Int} : onB s ⟨(a : Int), (t : Int), r, c⟩ y u = (decide ((t : Int) = (u : Int)) && (!s.o a && decide (0 < y))) := rfl

theorem search_step {P : List (ArcD × Int)} {f h u : Nat} {s : BS} (hu : s.q[h]? = some u) : searchB P (f + 1) h s = searchB P f (h + 1) (scanB u P 0 s) := by
  have hi := (List.getElem?_eq_some_iff.1 hu).1
  have e : s.q.getD h 0 = u := by rw [List.getD_eq_getElem?_getD, hu]; rfl
  rw [searchB, if_pos hi, e]
theorem search_end {P : List (ArcD × Int)} {f h : Nat} {s : BS} (hh : ¬ h < s.q.length) : searchB P f h s = s := by
  cases f with
  | zero => rfl
  | succ f => rw [searchB, if_neg hh]
theorem push_stop {A : List ArcD} {n k : Nat} {F : List Int} {E : BS} (hE : searchB (A.zip F) (n + 1) 0 startQ = E) (h : E.o 1 = false) : pushB A n (k + 1) F = F := by
  rw [pushB, hE, if_neg (by rw [h]; simp)]
theorem push_go {A : List ArcD} {n k : Nat} {F : List Int} {E : BS} (hE : searchB (A.zip F) (n + 1) 0 startQ = E) (h : E.o 1 = true) : pushB A n (k + 1) F = pushB A n k (walkB A E.b n 1 F) := by
  rw [pushB, hE, if_pos h]
theorem set_bump {F : List Int} {i : Nat} {y d : Int} (h : F[i]? = some y) : F.set i (y + d) = bump F i d := by
  unfold bump
  rw [List.getD_eq_getElem?_getD, h]
  rfl

set_option maxHeartbeats 4000000 in
theorem specPushed (n : Nat) (A : List ArcD) (k : Nat) (v : Value) (hk : netOkV n A = true) (hkk : k ≤ 1000000) (w : World) (hv : Arcs w v A) :
    Calls Tryd.prog 83 #[.agg #[.int .i64 (n : Int), v], .int .i64 (k : Int)] w (IntsBack w (pushedV A n k)) := by
  obtain ⟨i0, hi, hz0, hz1, hz2⟩ := info_parts Tryd.infoBool
  obtain ⟨i1, hi1, hy0, hy1, hy2⟩ := info_parts Tryd.infoNum
  obtain ⟨⟨hn2, hn15⟩, hl32, harc⟩ := netOk_out hk
  have hB := Below.refl (w.alloc (.cells #[.int .i64 (n : Int), v] 32)).heap.size (w.alloc (.cells #[.int .i64 (n : Int), v] 32))
  obtain ⟨c0, c1⟩ := net_cells hB
  obtain ⟨av, cv, rfl, HV⟩ := arcs_form hv
  have HVh := Lib.hid HV
  have HK := Lib.hid hk
  have HOK := Lib.hid harc
  have hn1 : 0 < n := by omega
  clear HV hv hk harc
  go_enter Tryd.func83, Tryd.ntmps83
  go_wp2_with (at_make; refine wpList_make_full _ rfl _ _ 26 rfl (w.heap.size + 1) 3 i1 (.int .i64 0) 1 Tryd.underlying26 hi1 hy0 hy1 .i64 .i64 A.length A.length A.length rfl rfl rfl rfl (by rw [hy2]; omega) (by unfold maxLen; omega) (by simp) ?_; intro w2 hrow hg2; have hB2 := hB.grown hg2 (by simp) (fun j hj => (by cases hj)); clear hg2)
  have hrow0 : w2.ownsRow (w.heap.size + 1) 3 1 (.slice (some ⟨w.heap.size + 1, 0, none⟩) A.length A.length) A.length ((List.replicate A.length 0).map (Value.int .i64)) := by
    have e : (madeCells (Value.int .i64 0).cells (A.length * 1)).toList = (List.replicate A.length 0).map (Value.int .i64) := by
      rw [Nat.mul_one, List.map_replicate]
      exact toList_madeCells_one _ _
    rw [e] at hrow
    simpa using hrow
  clear hrow
  go_loopw [6] (fun i wr => ∃ (m : Nat) (F : List Int), m ≤ k ∧ i = .int .i64 m ∧ Hid (pushB A n (k - m) F = pushedV A n k) ∧ Hid (flowOkV n A F = true) ∧ wr.ownsRow (w.heap.size + 1) 3 1 (.slice (some ⟨w.heap.size + 1, 0, none⟩) A.length A.length) A.length (F.map (Value.int .i64)) ∧ Below (w.alloc (.cells #[.int .i64 (n : Int), .slice av A.length cv] 32)).heap.size (w.alloc (.cells #[.int .i64 (n : Int), .slice av A.length cv] 32)) wr) (fun i _ => k - (intOf i).toNat)
  case atStart => exact ⟨0, _, Nat.zero_le _, rfl, Lib.hid rfl, Lib.hid (zero_ok HK.out), hrow0, hB2⟩
  case round =>
    clear hrow0 hB2 hB c0 c1
    obtain ⟨m, F, hm, rfl, HP, HF, hrow, hB⟩ := hrel
    have hwr : w.heap.size + 1 < wr.heap.size := (hrow.lt _ rfl).2
    by_cases hlt : m < k
    · have hlt2 : (m : Int) < (k : Int) := by omega
      obtain ⟨c0, c1⟩ := net_cells hB
      go_wp2_with (first
        | (at_make; refine wpList_make_full _ rfl (.tmp 25) (.tmp 25) 26 rfl (w.heap.size + 1 + 1) 3 i1 (.int .i64 0) 1 Tryd.underlying26 hi1 hy0 hy1 .i64 .i64 n n n rfl rfl rfl rfl (by rw [hy2]; omega) (by unfold maxLen; omega) (by first | omega | (simp; omega)) ?_; intro w3 hby hg3; have hl3 : wr.heap.size < w3.heap.size := (hby.lt _ rfl).2; have hB3 := hB.grown hg3 hB.size (fun j hj => (by cases hj)); have hrow3 := hrow.kept hg3 (.inr (by simp [Value.ownBlock])); obtain ⟨c0, c1⟩ := net_cells hB3; have hw3 := hg3.size; clear hg3)
        | (at_make; refine wpList_make_full _ rfl (.tmp 28) (.tmp 28) 35 rfl (wr.heap.size + 1) 4 i0 (.bool false) 1 Tryd.underlying35 hi hz0 hz1 .i64 .i64 n n n rfl rfl rfl rfl (by rw [hz2]; omega) (by unfold maxLen; omega) (by first | omega | (simp; omega)) ?_; intro w4 hseen hg4; have hB4 := hB3.grown hg4 hB3.size (fun j hj => (by cases hj)); have hrow4 := hrow3.kept hg4 (.inr (by simp [Value.ownBlock])); have hby4 := hby.kept hg4 (.inr (by simp [Value.ownBlock])); obtain ⟨c0, c1⟩ := net_cells hB4; have hw4 := hg4.size; have hl4 : w3.heap.size < w4.heap.size := (hseen.lt _ rfl).2; have hseen0 := made_rowB hseen; have f0 := hseen0.frozenAt 0; have d0 := own_bool hseen0 hn1; clear hg4))
      have HW : PM w n (.slice av A.length cv) A.length (w.heap.size + 1) wr.heap.size w3.heap.size F startQ (.slice (some ⟨w4.heap.size, 0, none⟩) 1 1) ((w4.setCell ⟨w3.heap.size, 0, none⟩ (.bool true)).alloc (.cells #[.int .i64 0] 3)) := by
        obtain ⟨h1, h2⟩ := hseen0.stored 0 (.bool true)
        rw [rowB_set (o' := startQ.o) (fun j => by simp [startQ])] at h1
        have e : (madeCells (Value.int .i64 0).cells (n * 1)).toList = (rowO (fun _ => 0) n).map (Value.int .i64) := by
          rw [Nat.mul_one, ← rowO_const0]
          exact toList_madeCells_one _ _
        rw [e] at hby4
        refine ⟨(hrow4.kept h2 (.inr (fun e => by simp [Value.ownBlock] at e; omega))).alloc _, (hby4.kept h2 (.inr (fun e => by simp [Value.ownBlock] at e; omega))).alloc _, h1.alloc _, ?_, (hB4.grown h2 hB4.size (fun j e => by cases e; simp; omega)).alloc (by have := hB4.size; simp at this ⊢; omega) _⟩
        have hg := heap_alloc_new (w4.setCell ⟨w3.heap.size, 0, none⟩ (.bool true)) (.cells #[.int .i64 0] 3)
        have hs : (w4.setCell ⟨w3.heap.size, 0, none⟩ (.bool true)).heap.size = w4.heap.size := by simp [World.setCell]
        rw [hs] at hg
        exact ⟨rfl, .inr ⟨w4.heap.size, 1, #[.int .i64 0], rfl, hl4, hg, Nat.le_refl _, by decide, rfl, rfl⟩⟩
      have hPW := HW
      clear HW hrow hrow3 hrow4 hby hby4 hseen hseen0 hB hB3 hB4 c0 c1 f0 d0
      generalize (w4.setCell ⟨w3.heap.size, 0, none⟩ (.bool true)).alloc (.cells #[.int .i64 0] 3) = W0 at hPW ⊢
      generalize w3.heap.size = Gs at hPW ⊢
      generalize wr.heap.size = Gb at hPW ⊢
      obtain ⟨E, HE⟩ : ∃ E, Hid (searchB (A.zip F) (n + 1) 0 startQ = E) := ⟨_, rfl⟩
      have hFl : F.length = A.length := (flowOk_out HF.out).2.1
      have HFl := Lib.hid hFl
      have HI0 : BInv (A.zip F) n startQ (fun _ => 0) := BInv.start hn1
      have HIn : Inside (A.zip F) n := inside_of HK.out
      clear hFl hlt2 hwr hl3 hl4 hw3 hw4
      go_loopw [9, 10] (fun q i wx => ∃ (h : Nat) (s : BS) (ρ : Nat → Nat), i = .int .i64 h ∧ h ≤ s.q.length ∧ PM w n (.slice av A.length cv) A.length (w.heap.size + 1) Gb Gs F s q wx ∧ BInv (A.zip F) n s ρ ∧ Hid (searchB (A.zip F) (n + 1 - h) h s = E)) (fun _ i _ => n + 1 - (intOf i).toNat)
      case atStart => exact ⟨0, _, _, rfl, Nat.zero_le _, hPW, HI0, HE⟩
      case round =>
        clear hPW HI0
        obtain ⟨h, s, ρ, rfl, hh, hPM, hI, HS⟩ := hrel
        have hqn := hI.few
        by_cases hlt : h < s.q.length
        · obtain ⟨gq, cq, rfl⟩ := own_at hPM.queue (by omega)
          obtain ⟨u, hu⟩ : ∃ u, s.q[h]? = some u := ⟨_, List.getElem?_eq_getElem hlt⟩
          have d0 := own_int (x := (u : Int)) (by have := hPM.queue; rwa [show s.q.length = (s.q.map Int.ofNat).length from by simp] at this) (by rw [List.getElem?_map, hu]; rfl)
          have hlt3 : (h : Int) < (s.q.length : Int) := by omega
          have hou : s.o u = true := hI.mem u (List.mem_of_getElem? hu)
          have HU := Lib.hid hu
          have HPM := Lib.hid hPM
          obtain ⟨S2, HS2⟩ : ∃ S2, Hid (scanB u (A.zip F) 0 s = S2) := ⟨_, rfl⟩
          clear hu hPM
          go_wp2_with fail
          go_loopw [9, 12] (fun q i wy => ∃ (j : Nat) (s' : BS) (ρ' : Nat → Nat), i = .int .i64 j ∧ j ≤ A.length ∧ PM w n (.slice av A.length cv) A.length (w.heap.size + 1) Gb Gs F s' q wy ∧ BInv (A.zip F) n s' ρ' ∧ s'.o u = true ∧ s.q.length ≤ s'.q.length ∧ Hid (scanB u ((A.zip F).drop j) j s' = S2)) (fun _ i _ => A.length - (intOf i).toNat)
          case atStart => exact ⟨0, s, ρ, rfl, Nat.zero_le _, HPM.out, hI, hou, Nat.le_refl _, HS2⟩
          case round =>
            clear HPM hI hou d0
            obtain ⟨j, s', ρ', rfl, hj, hPM, hI', hou', hqq, HN⟩ := hrel
            obtain ⟨c0, c1⟩ := net_cells hPM.below
            by_cases hltj : j < A.length
            ·
              --[
              have hltF : j < F.length := by have := HFl.out; omega
              obtain ⟨y, hy⟩ : ∃ y, F[j]? = some y := ⟨_, List.getElem?_eq_getElem hltF⟩
              obtain ⟨x, hx⟩ : ∃ x, A[j]? = some x := ⟨_, List.getElem?_eq_getElem hltj⟩
              obtain ⟨⟨hf0, hf1⟩, ⟨ht0, ht1⟩, hne, _, _⟩ := arcOk_out (HOK.out x (List.mem_of_getElem? hx))
              obtain ⟨xf, xt, xr, xc⟩ := x
              simp only at hf0 hf1 ht0 ht1 hne
              obtain ⟨a, rfl⟩ : ∃ a : Nat, xf = a := ⟨xf.toNat, by omega⟩
              obtain ⟨t, rfl⟩ : ∃ t : Nat, xt = t := ⟨xt.toNat, by omega⟩
              have han : a < n := by omega
              have htn : t < n := by omega
              have HZ := Lib.hid (zip_at hx hy)
              have HNE := Lib.hid hne
              rcases HVh.out with h0 | ⟨g, rfl, hgl, hc⟩
              · omega
              · have hb0 := below_box hPM.below
                have e0 := (hb0.cell (p := ⟨g, _, none⟩) hgl).trans (hc j _ hx).1
                have e1 := (hb0.cell (p := ⟨g, _, none⟩) hgl).trans (hc j _ hx).2.1
                have e2 := (hb0.cell (p := ⟨g, _, none⟩) hgl).trans (hc j _ hx).2.2.1
                have e3 := (hb0.cell (p := ⟨g, _, none⟩) hgl).trans (hc j _ hx).2.2.2
                simp only at e0 e1 e2 e3
                have hMa := PA.make hPM ⟨(a : Int), (t : Int), xr, xc⟩
                have HMa := Lib.hid hMa
                have HY := Lib.hid hy
                have hlt5 : (j : Int) < (F.length : Int) := by omega
                have hlt6 : (j : Int) < (A.length : Int) := by omega
                have han2 : (a : Int) < (n : Int) := by omega
                have htn2 : (t : Int) < (n : Int) := by omega
                clear hc hx hy hb0 hPM hMa hne
                go_upto_region 17 with fail
                generalize wr.alloc (.cells #[.int .i64 (a : Int), .int .i64 (t : Int), .int .i64 xr, .int .i64 xc] 72) = wa at HMa ⊢
                generalize wr.heap.size = Sa at HMa ⊢
                have b0 := HMa.out.c0
                have b1 := HMa.out.c1
                have b2 := HMa.out.c2
                dsimp only at b0 b1 b2
                have d1 := own_bool HMa.out.pm.seen htn
                have d3 := own_int HMa.out.pm.flow HY.out
                obtain ⟨k1, hk1⟩ : ∃ c, Hid (onF s' ⟨(a : Int), (t : Int), xr, xc⟩ y u = c) := ⟨_, rfl⟩
                go_cut [74] from 43 to 124 (fun b wx => b = .bool k1 ∧ PA w n (.slice (some ⟨g, 0, none⟩) A.length cv) A.length (w.heap.size + 1) Gb Gs Sa ⟨(a : Int), (t : Int), xr, xc⟩ F s' u9 wx)
                case first =>
                  by_cases hau : (a : Int) = (u : Int)
                  · cases hot : s'.o t with
                    | true =>
                      have e : k1 = false := by rw [← hk1.out, onF_at, hot]; simp
                      rw [hot] at d1
                      clear hot
                      go_quiet (fail)
                      go_wp2_with fail
                      go_meet
                      exact ⟨by rw [e], HMa.out.drewN _⟩
                    | false =>
                      by_cases hr : y < xr
                      · have e : k1 = true := by rw [← hk1.out, onF_at, hot, decide_eq_true hau, decide_eq_true hr]; rfl
                        rw [hot] at d1
                        clear hot
                        go_quiet (fail)
                        go_wp2_with fail
                        go_meet
                        exact ⟨by rw [e], HMa.out.drewN _⟩
                      · have e : k1 = false := by rw [← hk1.out, onF_at, decide_eq_false hr]; simp
                        rw [hot] at d1
                        clear hot
                        go_quiet (fail)
                        go_wp2_with fail
                        go_meet
                        exact ⟨by rw [e], HMa.out.drewN _⟩
                  · have e : k1 = false := by rw [← hk1.out, onF_at, decide_eq_false hau]; rfl
                    go_quiet (fail)
                    go_wp2_with fail
                    go_meet
                    exact ⟨by rw [e], HMa.out.drewN _⟩
                case rest =>
                  clear b0 b1 b2 d1 d3 HMa
                  obtain ⟨rfl, hPA⟩ := hcut
                  go_upto_if 74 with fail
                  go_cut [9] from 43 to 124 (fun q wx => PA w n (.slice (some ⟨g, 0, none⟩) A.length cv) A.length (w.heap.size + 1) Gb Gs Sa ⟨(a : Int), (t : Int), xr, xc⟩ F (fwdB ⟨(a : Int), (t : Int), xr, xc⟩ y u j s') q wx)
                  case first =>
                    cases k1 with
                    | false =>
                      have HPA := Lib.hid hPA
                      clear hPA
                      go_wp2_with fail
                      go_meet
                      rw [fwd_off hk1.out]
                      exact HPA.out
                    | true =>
                      have b1 := hPA.c1
                      dsimp only at b1
                      have d1 := own_bool hPA.pm.seen htn
                      have f1 := hPA.pm.seen.frozenAt t
                      have hm1 := hPA.mark t
                      have b11 := hm1.c1
                      dsimp only at b11
                      have d2 := own_num hm1.pm.by_ htn
                      have f2 := hm1.pm.by_.frozenAt t
                      have hm2 := hm1.tell t ((j : Int) + 1)
                      have b12 := hm2.c1
                      dsimp only at b12
                      have HM2 := Lib.hid hm2
                      have HMQ : Hid (World.ownsRow _ (Gs + 1) 3 1 u9 s'.q.length ((s'.q.map Int.ofNat).map (Value.int .i64))) := Lib.hid hm2.pm.queue
                      have hq2 : s'.q.length ≤ n := hI'.few
                      have hw1 : IntKind.i64.wrap ((j : Int) + 1) = (j : Int) + 1 := IntWalk.i64_in _ (by omega)
                      have hbs : Gs + 1 ≤ wc.heap.size := Nat.succ_le_of_lt hPA.pm.ord.2.2.2.1
                      clear hPA hm1 hm2
                      go_wp2_with (at_builtin; go_loud (refine wpList_append_own_at _ rfl _ _ 26 rfl (Gs + 1) 3 i1 (.int .i64 0) 1 8 Tryd.underlying26 hi1 hy0 hy1 hy2 rfl (by decide) _ _ _ rfl (HMQ.out.alloc _) ⟨wc.heap.size, 0, none⟩ 1 1 ([(t : Int)].map (Value.int .i64)) rfl rfl (num_new_at (by rw [size_set, size_set]) _ _) (ints_one _) (by unfold maxLen; omega) (by omega) (by simp; omega) ?_); intro v' w6 hown6 hgrow _ hat; have hP6 := HM2.out.append hown6 hgrow hat; have HP6 := Lib.hid hP6; clear hown6 hgrow hat hP6)
                      go_meet
                      rw [fwd_on hk1.out]
                      exact HP6.out
                  case rest =>
                    clear hPA
                    obtain ⟨ρ1, hI1, hou1, T1, hT1⟩ := fwd_inv (v := u) HIn hI' hou' HZ.out
                    have hq1 : s.q.length ≤ (fwdB ⟨(a : Int), (t : Int), xr, xc⟩ y u j s').q.length := by
                      have := congrArg List.length hT1
                      rw [List.length_append] at this
                      dsimp only at this
                      omega
                    dsimp only at hI1 hou1
                    obtain ⟨s1, HS1⟩ : ∃ s1, Hid (fwdB ⟨(a : Int), (t : Int), xr, xc⟩ y u j s' = s1) := ⟨_, rfl⟩
                    rw [HS1.out] at hcut hI1 hou1 hq1
                    have hPA := hcut
                    clear hT1 hcut
                    go_upto_region 21 with fail
                    have HPA := Lib.hid hPA
                    have b0 := hPA.c0
                    have b1 := hPA.c1
                    dsimp only at b0 b1
                    have d1 := own_bool hPA.pm.seen han
                    have d3 := own_int hPA.pm.flow HY.out
                    obtain ⟨k2, hk2⟩ : ∃ c, Hid (onB s1 ⟨(a : Int), (t : Int), xr, xc⟩ y u = c) := ⟨_, rfl⟩
                    clear hPA
                    go_cut [108] from 43 to 124 (fun b wx => b = .bool k2 ∧ PA w n (.slice (some ⟨g, 0, none⟩) A.length cv) A.length (w.heap.size + 1) Gb Gs Sa ⟨(a : Int), (t : Int), xr, xc⟩ F s1 u9 wx)
                    case first =>
                      by_cases htu : (t : Int) = (u : Int)
                      · cases hoa : s1.o a with
                        | true =>
                          have e : k2 = false := by rw [← hk2.out, onB_at, hoa]; simp
                          rw [hoa] at d1
                          clear hoa
                          go_wp2_with fail
                          go_meet
                          exact ⟨by rw [e], HPA.out⟩
                        | false =>
                          by_cases hr : 0 < y
                          · have e : k2 = true := by rw [← hk2.out, onB_at, hoa, decide_eq_true htu, decide_eq_true hr]; rfl
                            rw [hoa] at d1
                            clear hoa
                            go_wp2_with fail
                            go_meet
                            exact ⟨by rw [e], HPA.out⟩
                          · have e : k2 = false := by rw [← hk2.out, onB_at, decide_eq_false hr]; simp
                            rw [hoa] at d1
                            clear hoa
                            go_wp2_with fail
                            go_meet
                            exact ⟨by rw [e], HPA.out⟩
                      · have e : k2 = false := by rw [← hk2.out, onB_at, decide_eq_false htu]; rfl
                        go_wp2_with fail
                        go_meet
                        exact ⟨by rw [e], HPA.out⟩
                    case rest =>
                      clear b0 b1 d1 d3 HPA
                      obtain ⟨rfl, hPA⟩ := hcut
                      obtain ⟨ρ2, hI2, hou2, T2, hT2⟩ := bwd_inv (v := u) HIn hI1 hou1 HZ.out
                      have hq2 : s.q.length ≤ (bwdB ⟨(a : Int), (t : Int), xr, xc⟩ y u j s1).q.length := by
                        have := congrArg List.length hT2
                        rw [List.length_append] at this
                        dsimp only at this
                        omega
                      dsimp only at hI2 hou2
                      have HN2 : Hid (scanB u ((A.zip F).drop (j + 1)) (j + 1) (bwdB ⟨(a : Int), (t : Int), xr, xc⟩ y u j s1) = S2) := Lib.hid (by rw [← HS1.out, ← HN.out, scanB_step HZ.out])
                      clear hT2
                      cases k2 with
                      | false =>
                        rw [bwd_off hk2.out] at hI2 hou2 hq2 HN2
                        have HPA := Lib.hid hPA
                        clear hPA
                        go_wp2_with fail
                        go_roundw
                        case rel => exact ⟨j + 1, s1, ρ2, by go_num, by omega, HPA.out.pm, hI2, hou2, hq2, HN2⟩
                        case measure => simp [intOf]; omega
                      | true =>
                        rw [bwd_on hk2.out] at hI2 hou2 hq2 HN2
                        dsimp only at hI2 hou2 hq2 HN2
                        rw [Int.toNat_natCast] at hI2 hou2 hq2 HN2
                        have b1 := hPA.c0
                        dsimp only at b1
                        have d1 := own_bool hPA.pm.seen han
                        have f1 := hPA.pm.seen.frozenAt a
                        have hm1 := hPA.mark a
                        have b11 := hm1.c0
                        dsimp only at b11
                        have d2 := own_num hm1.pm.by_ han
                        have f2 := hm1.pm.by_.frozenAt a
                        have hm2 := hm1.tell a (-(j : Int) - 1)
                        have b12 := hm2.c0
                        dsimp only at b12
                        have HM2 := Lib.hid hm2
                        have HMQ : Hid (World.ownsRow _ (Gs + 1) 3 1 u9 s1.q.length ((s1.q.map Int.ofNat).map (Value.int .i64))) := Lib.hid hm2.pm.queue
                        have hq3 : s1.q.length ≤ n := hI1.few
                        have hw0 : IntKind.i64.wrap (-(j : Int)) = -(j : Int) := IntWalk.i64_in _ (by omega)
                        have hw1 : IntKind.i64.wrap (-(j : Int) - 1) = -(j : Int) - 1 := IntWalk.i64_in _ (by omega)
                        have hbs : Gs + 1 ≤ wc.heap.size := Nat.succ_le_of_lt hPA.pm.ord.2.2.2.1
                        clear hPA hm1 hm2
                        go_wp2_with (at_builtin; go_loud (refine wpList_append_own_at _ rfl _ _ 26 rfl (Gs + 1) 3 i1 (.int .i64 0) 1 8 Tryd.underlying26 hi1 hy0 hy1 hy2 rfl (by decide) _ _ _ rfl (HMQ.out.alloc _) ⟨wc.heap.size, 0, none⟩ 1 1 ([(a : Int)].map (Value.int .i64)) rfl rfl (num_new_at (by rw [size_set, size_set]) _ _) (ints_one _) (by unfold maxLen; omega) (by omega) (by simp; omega) ?_); intro v' w6 hown6 hgrow _ hat; have hP6 := HM2.out.append hown6 hgrow hat; have HP6 := Lib.hid hP6; clear hown6 hgrow hat hP6)
                        go_roundw
                        case rel => exact ⟨j + 1, _, ρ2, by go_num, by omega, HP6.out.pm, hI2, hou2, hq2, HN2⟩
                        case measure => simp [intOf]; omega
              --]
            · obtain rfl : j = A.length := by omega
              have HPM := Lib.hid hPM
              have HSN : Hid (searchB (A.zip F) (n + 1 - (h + 1)) (h + 1) s' = E) := Lib.hid (by
                have e1 := HN.out
                rw [scanB_end (by rw [List.length_zip]; omega)] at e1
                rw [← HS.out, show n + 1 - h = (n + 1 - (h + 1)) + 1 from by omega, search_step HU.out, HS2.out, e1])
              clear hPM c0 c1
              go_wp2_with fail
              go_roundw
              case rel => exact ⟨h + 1, s', ρ', by go_num, by omega, HPM.out, hI', HSN⟩
              case measure => simp [intOf]; omega
        · have HES : Hid (searchB (A.zip F) (n + 1) 0 startQ = s) := Lib.hid (by rw [HE.out, ← HS.out, search_end hlt])
          obtain ⟨aq, cq, rfl⟩ := own_form hPM.queue
          have d1 := own_bool hPM.seen (show 1 < n by omega)
          have hn1' : (1 : Int) < (n : Int) := by omega
          have HPM := Lib.hid hPM
          have hkm : k - m = (k - (m + 1)) + 1 := by omega
          have HKM := Lib.hid hkm
          cases ho1 : s.o 1 with
          | false =>
            have HR : Hid (F = pushedV A n k) := Lib.hid (by rw [← HP.out, HKM.out, push_stop HES.out ho1])
            rw [ho1] at d1
            clear hPM ho1 hkm
            go_wp2_with fail
            go_ret
            refine ⟨_, rfl, ?_, below_box HPM.out.below⟩
            have h9 := own_base HPM.out.flow (Nat.le_succ _)
            rw [← HR.out, HFl.out]
            exact h9
          | true =>
            have hPO := push_one (F := F) HF.out (by rw [HES.out]; exact ho1)
            rw [HES.out] at hPO
            obtain ⟨WF, HWF⟩ : ∃ WF, Hid (walkB A s.b n 1 F = WF) := ⟨_, rfl⟩
            rw [HWF.out] at hPO
            have HOKW := Lib.hid hPO.1
            have HPN : Hid (pushB A n (k - (m + 1)) WF = pushedV A n k) := Lib.hid (by rw [← HP.out, HKM.out, push_go HES.out ho1, HWF.out])
            have HW0 : Hid (WInv A F s ρ 1 F) := Lib.hid (WInv.start ho1 (flowOk_out HF.out).2.1 (flowOk_out HF.out).2.2.1)
            have HRK : Hid (ρ 1 < n) := Lib.hid (Nat.lt_of_lt_of_le (hI.rank 1 ho1) hI.few)
            have HI := Lib.hid hI
            rw [ho1] at d1
            clear hPM hPO ho1 hkm hI
            go_wp2_with fail
            go_loopw [14] (fun vv wx => ∃ (v f : Nat) (F' : List Int), vv = .int .i64 v ∧ PM w n (.slice av A.length cv) A.length (w.heap.size + 1) Gb Gs F' s (.slice aq s.q.length cq) wx ∧ Hid (WInv A F s ρ v F') ∧ Hid (ρ v < f) ∧ Hid (walkB A s.b f v F' = WF)) (fun vv _ => ρ (intOf vv).toNat)
            case atStart => exact ⟨1, n, F, rfl, HPM.out, HW0, HRK, HWF⟩
            case round =>
              clear HPM d1
              obtain ⟨v, f, F', rfl, hPM, HWI, HRF, HWK⟩ := hrel
              by_cases hv0 : v = 0
              · subst hv0
                have HPM := Lib.hid hPM
                have HFW : Hid (F' = WF) := Lib.hid (by have := HWK.out; rwa [walkB_zero] at this)
                clear hPM
                go_wp2_with fail
                go_roundw
                case rel => exact ⟨m + 1, F', by omega, by go_num, by rw [HFW.out]; exact HPN, by rw [HFW.out]; exact HOKW, HPM.out.flow, HPM.out.below⟩
                case measure => simp [intOf]; omega
              · have hvn : v < n := HI.out.bound v HWI.out.met
                obtain ⟨i, x, y, hx, hy, hy0, hyr, hcase⟩ := WInv.step HI.out.par HWI.out hv0
                obtain ⟨⟨hf0, hf1⟩, ⟨ht0, ht1⟩, _, ⟨hr0, hr1⟩, _⟩ := arcOk_out (HOK.out x (List.mem_of_getElem? hx))
                have hil : i < A.length := (List.getElem?_eq_some_iff.1 hx).1
                have hF'l : F'.length = A.length := HWI.out.len
                have hi2 : (i : Int) < (A.length : Int) := by omega
                have hvn2 : (v : Int) < (n : Int) := by omega
                have hvz : ((v : Int) != 0) = true := by simp; omega
                have d0 := own_num hPM.by_ hvn
                have d3 := own_int hPM.flow hy
                have f3 := hPM.flow.frozenAt i
                obtain ⟨xf, xt, xr, xc⟩ := x
                simp only at hf0 hf1 ht0 ht1 hr0 hr1 hyr
                rcases HVh.out with h0 | ⟨g, rfl, hgl, hc⟩
                · omega
                · obtain ⟨e0, e1, _, _⟩ := hc i _ hx
                  simp only at e0 e1
                  obtain ⟨f, rfl⟩ : ∃ f', f = f' + 1 := ⟨f - 1, by have := HRF.out; omega⟩
                  rcases hcase with ⟨hbv, hxt, ⟨u, hxf, hru, hwu⟩, hylt⟩ | ⟨hbv, hxf, ⟨u, hxt, hru, hwu⟩, hylt⟩
                  · simp only at hxt hxf hylt
                    subst hxt hxf
                    rw [hbv] at d0
                    have HWU := Lib.hid hwu
                    have HRU : Hid (ρ u < f) := Lib.hid (by have := HRF.out; omega)
                    have HRV := Lib.hid hru
                    have HWW : Hid (walkB A s.b f u (bump F' i 1) = WF) := Lib.hid (by rw [← HWK.out, walkB_fwd hv0 hbv hx rfl])
                    have hpay := hPM.pay i (y + 1)
                    rw [set_bump (d := 1) hy] at hpay
                    have HPAY := Lib.hid hpay
                    have w0 : IntKind.i64.wrap ((i : Int) + 1 - 1) = (i : Int) := by rw [show (i : Int) + 1 - 1 = i from by omega]; exact IntWalk.i64_in _ (by omega)
                    have w1 : IntKind.i64.wrap (y + 1) = y + 1 := IntWalk.i64_in _ (by omega)
                    have hp1 : (0 : Int) < (i : Int) + 1 := by omega
                    have hlF : (i : Int) < (F'.length : Int) := by omega
                    have w2 : IntKind.i64.wrap (i : Int) = (i : Int) := IntWalk.i64_in _ (by omega)
                    have HBV := Lib.hid hbv
                    have HE0 := Lib.hid e0
                    clear hbv hx hy hc e0 e1 hwu hru hpay hPM hv0
                    go_upto_region 30 with fail
                    go_still_tail 16, (by kernel_rfl)
                    go_wp2_with fail
                    generalize hq : (wr.setCell ⟨w.heap.size + 1, i, none⟩ (.int .i64 (y + 1))).drew = wq
                    have hPW : PM w n (.slice (some ⟨g, 0, none⟩) A.length cv) A.length (w.heap.size + 1) Gb Gs (bump F' i 1) s (.slice aq s.q.length cq) wq := by rw [← hq]; exact HPAY.out.drew
                    clear hq HPAY d0 d3 f3
                    have b0 := own_num hPW.by_ hvn
                    rw [HBV.out] at b0
                    have b1 := ((below_box hPW.below).cell (p := ⟨g, _, none⟩) hgl).trans HE0.out
                    obtain ⟨c0, c1⟩ := net_cells hPW.below
                    have HPW := Lib.hid hPW
                    clear hPW
                    go_quiet (fail)
                    go_wp2_with fail
                    go_roundw
                    case rel => exact ⟨u, f, bump F' i 1, rfl, HPW.out.drewN _, HWU, HRU, HWW⟩
                    case measure =>
                      simp [intOf]
                      exact HRV.out
                  · simp only at hxt hxf hylt
                    subst hxf hxt
                    rw [hbv] at d0
                    have HWU := Lib.hid hwu
                    have HRU : Hid (ρ u < f) := Lib.hid (by have := HRF.out; omega)
                    have HRV := Lib.hid hru
                    have HWW : Hid (walkB A s.b f u (bump F' i (-1)) = WF) := Lib.hid (by rw [← HWK.out, walkB_bwd hv0 hbv hx rfl])
                    have hpay := hPM.pay i (y - 1)
                    rw [show y - 1 = y + -1 from by omega, set_bump (d := -1) hy, show y + -1 = y - 1 from by omega] at hpay
                    have HPAY := Lib.hid hpay
                    have w0 : IntKind.i64.wrap (-(i : Int) - 1) = -(i : Int) - 1 := IntWalk.i64_in _ (by omega)
                    have w3 : IntKind.i64.wrap (-(-(i : Int) - 1)) = (i : Int) + 1 := by rw [show -(-(i : Int) - 1) = (i : Int) + 1 from by omega]; exact IntWalk.i64_in _ (by omega)
                    have w4 : IntKind.i64.wrap ((i : Int) + 1) = (i : Int) + 1 := IntWalk.i64_in _ (by omega)
                    have w5 : IntKind.i64.wrap ((i : Int) + 1 - 1) = (i : Int) := by rw [show (i : Int) + 1 - 1 = i from by omega]; exact IntWalk.i64_in _ (by omega)
                    have w1 : IntKind.i64.wrap (y - 1) = y - 1 := IntWalk.i64_in _ (by omega)
                    have hp1 : ¬ (0 : Int) < -(i : Int) - 1 := by omega
                    have hlF : (i : Int) < (F'.length : Int) := by omega
                    have w2 : IntKind.i64.wrap (i : Int) = (i : Int) := IntWalk.i64_in _ (by omega)
                    have HBV := Lib.hid hbv
                    have HE0 := Lib.hid e1
                    clear hbv hx hy hc e0 e1 hwu hru hpay hPM hv0
                    go_upto_region 32 with fail
                    go_still_tail 18, (by kernel_rfl)
                    go_wp2_with fail
                    generalize hq : (wr.setCell ⟨w.heap.size + 1, i, none⟩ (.int .i64 (y - 1))).drew = wq
                    have hPW : PM w n (.slice (some ⟨g, 0, none⟩) A.length cv) A.length (w.heap.size + 1) Gb Gs (bump F' i (-1)) s (.slice aq s.q.length cq) wq := by rw [← hq]; exact HPAY.out.drew
                    clear hq HPAY d0 d3 f3
                    have b0 := own_num hPW.by_ hvn
                    rw [HBV.out] at b0
                    have b1 := ((below_box hPW.below).cell (p := ⟨g, _, none⟩) hgl).trans HE0.out
                    obtain ⟨c0, c1⟩ := net_cells hPW.below
                    have HPW := Lib.hid hPW
                    clear hPW
                    go_quiet (fail)
                    go_wp2_with fail
                    go_roundw
                    case rel => exact ⟨u, f, bump F' i (-1), rfl, HPW.out.drewN _, HWU, HRU, HWW⟩
                    case measure =>
                      simp [intOf]
                      exact HRV.out
    · obtain rfl : m = k := by omega
      have HO := Lib.hid hrow
      have HE : Hid (F = pushedV A n m) := Lib.hid (by have h := HP.out; rw [Nat.sub_self] at h; exact h)
      have hFl : F.length = A.length := (flowOk_out HF.out).2.1
      have HFl := Lib.hid hFl
      clear hrow hFl
      go_wp2_with fail
      go_ret
      refine ⟨_, rfl, ?_, below_box hB⟩
      have h9 := own_base HO.out (Nat.le_succ _)
      rw [← HE.out, HFl.out]
      exact h9

end Go.Proofs.YtlkhecdlmbhiaaaDoor

