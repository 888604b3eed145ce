/-
  CONTRACT of the program's StepsFrom. No law is proved here.
-/
import Derived.Laws.EntriesVeiled
import Derived.StillTailTactics
import Derived.IntWalk
import Derived.Test.YtieipekhckambaaDoorRoundTail
import Derived.Test.YtieipekhckambaaDoorMarks
import Derived.Test.YtieipekhckambaaDoorCountI
import Derived.Test.YtieipekhckambaaDoorRepeatI
import Derived.Test.YtieipekhckambaaDoorAllFreeI
import Derived.Test.YtieipekhckambaaDoorGridOkI
import Derived.Test.YtieipekhckambaaDoorStepsV
namespace Go.Proofs.YtieipekhckambaaDoor
set_option maxRecDepth 4096
open Go.ChangeShapes Go.WideShapes Go.ChangeAt Go.RowKit Go.Shelf

attribute [local go_sem] Oper.semAt_some

theorem gok_size {W H : Int} {C : ByteArray} (h : gok W H C = true) : 1 ≤ C.size ∧ C.size ≤ 64 := by
  obtain ⟨⟨⟨h1, h2⟩, ⟨h3, h4⟩, hs⟩, _⟩ := gok_out h
  have := mul_bd h1 h2 h3 h4
  omega
theorem rowO_const (x : Int) (n : Nat) : List.replicate n x = rowO (fun _ => x) n := by
  unfold rowO
  rw [List.map_const', List.length_range]
theorem rowO_eq {o o' : Nat → Int} {n : Nat} (h : ∀ c, c < n → o c = o' c) : rowO o n = rowO o' n := by
  unfold rowO
  exact List.map_congr_left fun c hc => h c (List.mem_range.1 hc)
theorem all_mem {W H : Int} {C : ByteArray} {L : List Int} (h : L.all (freeV W H C) = true) : ∀ x ∈ L, freeV W H C x = true := List.all_eq_true.1 h

theorem cell_new_int (w : World) (x : Int) (t : TypeId) : (w.alloc (.cells #[.int .i64 x] t)).cell? ⟨w.heap.size, 0, none⟩ = some (.int .i64 x) := by
  rw [cell_of_row _ _ 0 _ _ _ (heap_alloc_new w _)]
  rfl
theorem ownsRow_pos {w : World} {B : Nat} {e : TypeId} {n : Nat} {v : Value} {xs : List Value} (hn : 1 ≤ n) (h : w.ownsRow B e 1 v n xs) : ∃ g cap, v = .slice (some ⟨g, 0, none⟩) n cap := by
  rcases h.2 with ⟨_, h0⟩ | ⟨g, cap, _, rfl, _⟩
  · omega
  · exact ⟨g, cap, rfl⟩

/-- The memory where the search begins. -/
structure Start (w wa : World) (W H : Int) (C : ByteArray) (S g n cap : Nat) (f : Value) : Prop where
  size : wa.heap.size = S + 1 + 1 + 1
  mem : Srch S (S + 1) g n cap w.heap.size (fun _ => -1) [] (.slice none 0 0) wa
  fn : Boxed wa (S + 1 + 1) 70 f
  grid : wa.heap[w.heap.size]? = some (.cells #[.int .i64 W, .int .i64 H, .string C] 25 (0, 0))
  below : Below w.heap.size w wa
  lo : w.heap.size < g ∧ g < S
theorem start_mk {w w3 : World} {W H : Int} {C : ByteArray} {g n cap B3 : Nat} (f : Value) (hB : Below (w.alloc (.cells #[.int .i64 W, .int .i64 H, .string C] 25)).heap.size (w.alloc (.cells #[.int .i64 W, .int .i64 H, .string C] 25)) w3)
    (hown : w3.ownsRow B3 3 1 (.slice (some ⟨g, 0, none⟩) n cap) n ((rowO (fun _ => -1) n).map (Value.int .i64))) (h3 : w.heap.size < B3) :
    Start w (((w3.alloc (.cells #[.slice (some ⟨g, 0, none⟩) n cap] 26)).alloc (.cells #[.slice none 0 0] 26)).alloc (.cells #[f] 70)) W H C w3.heap.size g n cap f := by
  have hl := hown.lt g rfl
  have hs := hB.size
  rw [World.size_alloc] at hs
  have hG : w3.heap[w.heap.size]? = some (.cells #[.int .i64 W, .int .i64 H, .string C] 25 (0, 0)) := (hB.block _ (by simp)).trans (heap_alloc_new w _)
  have hQ := (Boxed.new (w3.alloc (.cells #[.slice (some ⟨g, 0, none⟩) n cap] 26)) 26 (.slice none 0 0)).alloc (.cells #[f] 70)
  have hF := Boxed.new ((w3.alloc (.cells #[.slice (some ⟨g, 0, none⟩) n cap] 26)).alloc (.cells #[.slice none 0 0] 26)) 70 f
  simp only [World.size_alloc] at hQ hF
  refine ⟨by simp, ⟨((Boxed.new w3 _ _).alloc _).alloc _, own_base (((hown.alloc _).alloc _).alloc _) (by omega), hQ, World.ownsRow_nil _ _ _ _, by simp [Value.ownBlock]⟩, hF, ?_, ?_, by omega, hl.2⟩
  · rw [Below.heap_alloc _ _ _ (by simp; omega), Below.heap_alloc _ _ _ (by simp; omega), Below.heap_alloc _ _ _ (by omega)]
    exact hG
  · exact (((box_below hB).alloc (by omega) _).alloc (by simp; omega) _).alloc (by simp; omega) _

/-- The first loop's head: the first k of the list have been counted. -/
def Lp1 (S g n cap base : Nat) (L : List Int) (wa : World) (k : Nat) (wr : World) : Prop :=
  ∃ o R vq, Beg n o R ((L.take k).map Int.toNat) ∧ Srch S (S + 1) g n cap base o R vq wr ∧ Kp g (S + 1) wa (.slice none 0 0) wr vq
theorem src_take {W H : Int} {C : ByteArray} {L : List Int} (h : L.all (freeV W H C) = true) (c : Nat) : srcN L c = true ↔ c ∈ (L.take L.length).map Int.toNat := by
  rw [List.take_length]
  unfold srcN
  rw [List.contains_iff_mem, List.mem_map]
  constructor
  · exact fun hm => ⟨_, hm, rfl⟩
  · rintro ⟨x, hx, rfl⟩
    obtain ⟨_, y, rfl, _⟩ := free_in (all_mem h x hx)
    exact hx
theorem take_nat {L : List Int} {k y : Nat} (h : L[k]? = some (y : Int)) : (L.take (k + 1)).map Int.toNat = (L.take k).map Int.toNat ++ [y] := by
  obtain ⟨hi, e⟩ := List.getElem?_eq_some_iff.1 h
  rw [List.take_succ_eq_append_getElem hi, e, List.map_append]
  rfl

/-- The second loop's head: i of the queue are done. -/
structure Lp2 (S g n cap base : Nat) (nb : Nat → List Nat) (src : Nat → Bool) (wa : World) (i Bi : Nat) (ms : List Nat) (o : Nat → Int) (R : List Nat) (vq : Value) (wr : World) : Prop where
  bfs : Bfs nb n src o R i []
  mem : Srch S (S + 1) g n cap base o R vq wr
  kp : Kp g (S + 1) wa (.slice none 0 0) wr vq
  box : Boxed wr Bi 3 (.int .i64 i)
  lo : S + 1 + 1 < Bi
  ap : vq.ownBlock ≠ some Bi
  nd : ms.Nodup
  marks : ∀ r ∈ ms, S + 1 + 1 < r ∧ wr.heap[r]? = some (.deferred (some []))
theorem Lp2.begin {S g n cap base : Nat} {nb : Nat → List Nat} {src : Nat → Bool} {wa : World} {o : Nat → Int} {R pre : List Nat} {vq : Value} {wr : World} (hs : ∀ c, src c = true ↔ c ∈ pre) (hb : Beg n o R pre) (hM : Srch S (S + 1) g n cap base o R vq wr) (hK : Kp g (S + 1) wa (.slice none 0 0) wr vq) (hwa : wa.heap.size = S + 1 + 1 + 1) :
    Lp2 S g n cap base nb src wa 0 wr.heap.size [] o R vq (wr.alloc (.cells #[.int .i64 0] 3)) :=
  ⟨hb.bfs hs, hM.alloc _, hK.grown (World.grownBy_alloc wr _ none) (fun _ e => by cases e), Boxed.new wr _ _, by have := hK.size; omega, fun e => by have := (hM.rq.lt _ e).2; omega, List.nodup_nil, fun _ h => by cases h⟩
/-- A round's head: of the neighbours of the queue's i-th cell p those of pre have been counted; ws is the world where the round began. -/
def Rnd (W H : Int) (C : ByteArray) (S g n cap base i p : Nat) (L : List Int) (ws : World) (vq : Value) (pre : List Int) (W' : World) : Prop :=
  ∃ o R v, Bfs (nbN W H C) n (srcN L) o R i (pre.map Int.toNat) ∧ R[i]? = some p ∧ Srch S (S + 1) g n cap base o R v W' ∧ Kp g (S + 1) ws vq W' v
theorem Rnd.begin {W H : Int} {C : ByteArray} {S g n cap base i Bi p : Nat} {L : List Int} {wa : World} {ms : List Nat} {o : Nat → Int} {R : List Nat} {vq : Value} {wr : World} (h : Lp2 S g n cap base (nbN W H C) (srcN L) wa i Bi ms o R vq wr) (hp : R[i]? = some p) (b b' : Obj) :
    Rnd W H C S g n cap base i p L ((wr.alloc b).alloc b').drew vq [] ((wr.alloc b).alloc b').drew := ⟨o, R, vq, h.bfs, hp, ((h.mem.alloc b).alloc b').drew, Kp.refl _ _ _ _⟩
theorem Rnd.abide {W H : Int} {C : ByteArray} {S g n cap base i p : Nat} {L : List Int} {ws A B : World} {vq : Value} {pre : List Int} {r : Option Nat} (h : Rnd W H C S g n cap base i p L ws vq pre A) (hg : A.grownBy B r) (hr : ∀ j, r = some j → ws.heap.size ≤ j ∧ ∃ b : Obj, A.heap[j]? = some b ∧ b.isCells = false) : Rnd W H C S g n cap base i p L ws vq pre B := by
  obtain ⟨o, R, v, h1, h2, h3, h4⟩ := h
  exact ⟨o, R, v, h1, h2, h3.abide hg hr, h4.grown hg (fun j e => (hr j e).1)⟩

/-- ws is wr with two new blocks. -/
structure Next (wr ws : World) : Prop where
  size : ws.heap.size = wr.heap.size + 1 + 1
  gr : wr.grownBy ws none
theorem Next.old {wr ws : World} (h : Next wr ws) : ∀ k, k < wr.heap.size → ws.heap[k]? = wr.heap[k]? := fun k hk => h.gr.block k hk (by simp)
theorem Next.mk2 (wr : World) (b b' : Obj) : Next wr ((wr.alloc b).alloc b').drew :=
  ⟨by simp, ⟨rfl, rfl, rfl, by simp; omega, fun k hk _ => (Below.heap_alloc _ _ _ (by simp; omega)).trans (Below.heap_alloc _ _ _ hk)⟩⟩
/-- A block that is no cells is none of those that the closure writes. -/
theorem mark_apart {S g n cap base r : Nat} {o : Nat → Int} {R : List Nat} {v : Value} {w : World} {b : Obj} (h : Srch S (S + 1) g n cap base o R v w) (hr : w.heap[r]? = some b) (hc : b.isCells = false) : r ≠ g ∧ r ≠ S + 1 ∧ v.ownBlock ≠ some r := by
  have no : ∀ j cs t f, w.heap[j]? = some (.cells cs t f) → r ≠ j := fun j cs t f hj e => by
    subst e
    rw [hj] at hr
    cases hr
    cases hc
  refine ⟨?_, no _ _ _ _ h.bq, ?_⟩
  · rcases h.rs.2 with ⟨h1, _⟩ | ⟨g', c', cur, h1, _, hg, _⟩
    · cases h1
    · injection h1 with h1 _ _
      injection h1 with h1
      injection h1 with h1
      subst h1
      exact no _ _ _ _ hg
  · rcases h.rq.2 with ⟨rfl, _⟩ | ⟨g', c', cur, rfl, _, hg, _⟩
    · simp [Value.ownBlock]
    · intro e
      obtain rfl : g' = r := by simpa [Value.ownBlock] using e
      exact no _ _ _ _ hg rfl
theorem Lp2.next {S g n cap base : Nat} {nb : Nat → List Nat} {src : Nat → Bool} {wa : World} {i Bi D p : Nat} {ms : List Nat} {o o' : Nat → Int} {R R' : List Nat} {vq v' : Value} {wr ws W' : World} (h : Lp2 S g n cap base nb src wa i Bi ms o R vq wr) (hN : Next wr ws) (hwa : wa.heap.size = S + 1 + 1 + 1)
    (hB : Bfs nb n src o' R' i (nb p)) (hp : R'[i]? = some p) (hM : Srch S (S + 1) g n cap base o' R' v' W') (hK : Kp g (S + 1) ws vq W' v') (hD : ws.heap.size ≤ D) (hKD : W'.heap[D]? = some (.deferred (some []))) :
    Lp2 S g n cap base nb src wa (i + 1) W'.heap.size (D :: ms) o' R' v' (W'.alloc (.cells #[.int .i64 ((i : Int) + 1)] 3)) := by
  have h1 := hK.size
  have h2 := hN.size
  have h3 := h.kp.size
  have hkp := (h.kp.grown hN.gr (fun _ e => by cases e)).trans hK
  refine ⟨hB.next hp, hM.alloc _, hkp.grown (World.grownBy_alloc W' _ none) (fun _ e => by cases e), ?_, by omega, fun e => by have := (hM.rq.lt _ e).2; omega, List.nodup_cons.2 ⟨fun hm => ?_, h.nd⟩, fun r hr => ?_⟩
  · have := Boxed.new W' 3 (.int .i64 ((i + 1 : Nat) : Int))
    rw [Int.natCast_add] at this
    exact this
  · have := (Array.getElem?_eq_some_iff.1 (h.marks D hm).2).1
    omega
  · rcases List.mem_cons.1 hr with rfl | hr
    · exact ⟨by omega, (Below.heap_alloc _ _ _ (Array.getElem?_eq_some_iff.1 hKD).1).trans hKD⟩
    · obtain ⟨h4, h5⟩ := h.marks r hr
      have h6 := (Array.getElem?_eq_some_iff.1 h5).1
      obtain ⟨a1, a2, a3⟩ := mark_apart h.mem h5 rfl
      exact ⟨h4, (Below.heap_alloc _ _ _ (by omega)).trans ((hK.block r (by omega) a1 a2 a3).trans ((hN.old r h6).trans h5))⟩
theorem Kp.undrew {g Q : Nat} {A B : World} {v u : Value} (h : Kp g Q A.drew v B u) : Kp g Q A v B u := ⟨h.os, h.tape, h.output, h.size, h.block, h.row⟩
theorem round_end {W H : Int} {C : ByteArray} {S g n cap base i p z : Nat} {L pre : List Int} {o o' : Nat → Int} {R R' : List Nat} {wr ws W' w5 : World} {vq v' v5 : Value}
    (hB : Bfs (nbN W H C) n (srcN L) o' R' i (pre.map Int.toNat)) (hp : R'[i]? = some p) (hz : z ∈ nbN W H C p) (hzn : z < n) (hN : Next wr ws) (hM0 : Srch S (S + 1) g n cap base o R vq wr) (hM : Srch S (S + 1) g n cap base o' R' v' W') (hK : Kp g (S + 1) ws vq W' v')
    (hK5 : Kp g (S + 1) W'.drew v' w5 v5) (hM5 : Srch S (S + 1) g n cap base (visO (o' p + 1) o' z) (visR o' R' z) v5 w5) (hS : S + 1 < wr.heap.size) :
    KeepsFrom ws.heap.size W' w5 ∧ NbrK wr.heap.size (wr.heap.size + 1) W' w5 ∧ Rnd W H C S g n cap base i p L ws vq (pre ++ [(z : Int)]) w5 := by
  have k5 := hK5.undrew
  have hs1 := hN.size
  have hs2 := hK.size
  have hgr := (hM0.rs.lt g rfl).2
  have hrow : ∀ k, wr.heap.size ≤ k → k < ws.heap.size → v'.ownBlock ≠ some k := fun k h1 h2 e => by
    rcases hK.row k e with h3 | h3
    · have := (hM0.rq.lt k h3).2
      omega
    · omega
  have hkeep : ∀ k, wr.heap.size ≤ k → k < ws.heap.size → w5.heap[k]? = W'.heap[k]? := fun k h1 h2 => k5.block k (by omega) (by omega) (by omega) (hrow k h1 h2)
  refine ⟨⟨k5.size, fun r b hr hrb hc => ?_⟩, ⟨⟨k5.size, hkeep _ (by omega) (by omega), hkeep _ (by omega) (by omega)⟩, fun k cs hk => ?_⟩, ?_⟩
  · obtain ⟨a1, a2, a3⟩ := mark_apart hM hrb hc
    exact (k5.block r (Array.getElem?_eq_some_iff.1 hrb).1 a1 a2 a3).trans hrb
  · refine (k5.block k (Array.getElem?_eq_some_iff.1 hk).1 ?_ ?_ ?_).trans hk
    · rintro rfl
      rcases hM.rs.2 with ⟨h1, _⟩ | ⟨g', c', cur, h1, _, hg, _⟩
      · cases h1
      · injection h1 with h1 _ _
        injection h1 with h1
        injection h1 with h1
        subst h1
        rw [hk] at hg
        cases hg
    · rintro rfl
      have := hk.symm.trans hM.bq
      cases this
    · intro e
      rcases hM.rq.2 with ⟨rfl, _⟩ | ⟨g', c', cur, rfl, _, hg, _⟩
      · cases e
      · obtain rfl : g' = k := by simpa [Value.ownBlock] using e
        rw [hk] at hg
        cases hg
  · obtain ⟨hv, _⟩ := hB.visit hp hz hzn
    rw [show pre.map Int.toNat ++ [z] = (pre ++ [(z : Int)]).map Int.toNat from by simp] at hv
    exact ⟨_, _, v5, hv, vis_at hp, hM5, hK.trans k5⟩
theorem fn_apart {wr : World} {base Q n : Nat} {v f : Value} {xs : List Value} (h : wr.ownsRow base 3 1 v n xs) (hf : wr.heap[Q]? = some (.cells #[f] 70 (0, 0))) : v.ownBlock ≠ some Q := by
  rcases h.2 with ⟨rfl, _⟩ | ⟨g', c', cur, rfl, _, hg, _⟩
  · simp [Value.ownBlock]
  · intro e
    obtain rfl : g' = Q := by simpa [Value.ownBlock] using e
    rw [hf] at hg
    cases hg
def heldInt (w : World) : Value → Nat
  | .pointer (some a) => (intOf ((w.cell? a).getD undef)).toNat
  | _ => 0
theorem heldInt_box {w : World} {B i : Nat} {t : TypeId} (h : Boxed w B t (.int .i64 i)) : heldInt w (.pointer (some ⟨B, 0, none⟩)) = i := by
  simp [heldInt, h.cell, intOf]

set_option maxRecDepth 100000 in
set_option maxHeartbeats 2000000 in
theorem steps_in (W H : Int) (C : ByteArray) (L F : List Int) (v : Value) (hC : C.size ≤ 1048576) (hg : gok W H C = true) (hall : L.all (freeV W H C) = true) (hL : L.length ≤ 2000000) (HF : Hid (stepsL W H C L = F)) (w : World) (hv : Ints w v L) (hS : SidesAt w) :
    CallsIn Fence.wide 6 Tryd.prog 35 #[.agg #[.int .i64 W, .int .i64 H, .string C], v] w (IntsBack w F) := by
  have HG := Lib.hid hg
  have HA := Lib.hid hall
  obtain ⟨hn1, hn64⟩ := gok_size hg
  have hB := Below.refl (w.alloc (.cells #[.int .i64 W, .int .i64 H, .string C] 25)).heap.size (w.alloc (.cells #[.int .i64 W, .int .i64 H, .string C] 25))
  obtain ⟨av, cv, rfl, hVf⟩ := ints_form hv
  have HVf := Lib.hid hVf
  have HV := Lib.hid hv
  have HSd := Lib.hid hS
  clear hg hall hv hS hVf
  refine callsIn_of_wp_marks Tryd.func35 rfl trivial ?_ rfl
  simp only [Tryd.ntmps35, List.size_toArray, List.length_cons, List.length_nil, Nat.reduceAdd, Nat.reduceSub, Array.replicate_succ, Array.replicate_zero, List.push_toArray, List.append_toArray, List.nil_append, List.cons_append]
  gi_wp2_with (refine ⟨trivial, ?_⟩; gi_at_call 36; refine (callsIn_wide.2 (implGridOk W H C hC _)).mono ?_; rintro e w1 ⟨rfl, hb⟩; rw [HG.out]; replace hB := chain hB hb; obtain ⟨c0, c1, c2⟩ := box_cells hB; clear hb)
  refine ⟨trivial, ?_⟩
  refine (callsIn_wide.2 (allFreeI W H C L true _ hC hL HA _ (ints_on HV.out (box_below hB)))).mono ?_
  rintro e w2 ⟨rfl, hb⟩
  replace hB := chain hB hb
  obtain ⟨c0, c1, c2⟩ := box_cells hB
  clear hb
  have hlt2 : w.heap.size < w2.heap.size := by have := box_size hB; omega
  gi_wp2_with (refine ⟨trivial, ?_⟩; gi_at_call 51; refine (callsIn_wide.2 (repeatI C.size (-1) w2.heap.size 1 hn1 hn64 _ (cell_new_int w2 (-1) _))).mono ?_; rintro e w3 ⟨v3, rfl, hown, hb⟩; rw [List.length_replicate, rowO_const] at hown; obtain ⟨g, cap, rfl⟩ := ownsRow_pos hn1 hown; have HO := Lib.hid hown; have HB3 := Lib.hid (chain (hB.alloc hB.size (.cells #[.int .i64 (-1)] 3)) hb); clear hb hown)
  have HST := start_mk (.func (.func 52) #[] #[.pointer (some ⟨w3.heap.size, 0, none⟩), .pointer (some ⟨w3.heap.size + 1, 0, none⟩)]) HB3.out HO.out (by simp; omega)
  clear HO HB3 hB c0 c1 c2
  generalize hwa : ((w3.alloc (.cells #[.slice (some ⟨g, 0, none⟩) C.size cap] 26)).alloc (.cells #[.slice none 0 0] 26)).alloc (.cells #[.func (.func 52) #[] #[.pointer (some ⟨w3.heap.size, 0, none⟩), .pointer (some ⟨w3.heap.size + 1, 0, none⟩)]] 70) = wa at *
  clear hwa hlt2
  generalize w3.heap.size = S at *
  have hszS := HST.size
  have hgS := HST.lo
  gi_loopw [29] (fun i wr => ∃ k : Nat, k ≤ L.length ∧ i = .int .i64 k ∧ Lp1 S g C.size cap w.heap.size L wa k wr) (fun i _ => L.length - (intOf i).toNat)
  case atStart => exact ⟨0, Nat.zero_le _, rfl, _, _, _, Beg.none _, HST.mem, Kp.refl _ _ _ _⟩
  case round =>
    obtain ⟨k, hk, rfl, o, R, vq, hBeg, hM, hKp⟩ := hrel
    have hbel := hKp.below (n₀ := w.heap.size) (by omega) (by omega) (fun _ e => by cases e) (by omega)
    have hFb := (hKp.block (S + 1 + 1) (by omega) (by omega) (by omega) (fun e => by cases e)).trans HST.fn
    by_cases hlt : k < L.length
    · obtain ⟨x, hx⟩ : ∃ x, L[k]? = some x := ⟨_, List.getElem?_eq_getElem hlt⟩
      obtain ⟨_, y, rfl, hy⟩ := free_in (all_mem HA.out x (List.mem_of_getElem? hx))
      rcases HVf.out with h0 | ⟨gv, rfl, hgl, hc⟩
      · omega
      · have d0 : wr.cell? ⟨gv, k, none⟩ = some (.int .i64 (y : Int)) := ((HST.below.trans hbel).cell (p := ⟨gv, k, none⟩) hgl).trans (hc k _ hx)
        have f0 := Boxed.cell hFb
        have HX := Lib.hid hx
        have hlt2 : (k : Int) < (L.length : Int) := by omega
        have hRl : R.length ≤ 64 := Nat.le_trans (nodup_len _ _ hBeg.nd hBeg.lt) hn64
        clear hx hc hFb
        gi_wp2_with (refine ⟨trivial, ?_⟩; gi_at_call 52; refine (callsIn_wide.2 (countI S (S + 1) g C.size cap w.heap.size o R vq y 0 hy hRl (by omega) (by omega) wr (by have := hKp.size; omega) hM)).mono ?_; rintro e w5 ⟨⟨u, rfl⟩, vq', hK5, hM5⟩)
        go_roundw
        case rel => exact ⟨k + 1, by omega, by go_num, _, _, _, by rw [take_nat HX.out]; exact hBeg.visit hy, hM5, hKp.trans hK5⟩
        case measure => simp [intOf]; omega
    · obtain rfl : k = L.length := by omega
      gi_wp2
      have hLp := Lp2.begin (nb := nbN W H C) (src := srcN L) (src_take HA.out) hBeg hM hKp hszS
      clear hBeg hM hKp hbel hFb
      refine wpIn_loop (fun a' wr => ∃ (i Bi : Nat) (ms : List Nat) (o : Nat → Int) (R : List Nat) (vq : Value) (u11 u37 u38 u39 u40 u41 u42 u43 u44 u45 u46 u47 u48 u49 u50 u51 u52 u53 u54 u55 u56 u57 u58 u59 u60 u61 : Value), a' = { tmps := #[.agg #[.int .i64 W, .int .i64 H, .string C], .slice av L.length cv, .pointer (some ⟨w.heap.size, 0, none⟩), undef, .slice none 0 0, .pointer (some ⟨S, 0, none⟩), .pointer (some ⟨S + 1, 0, none⟩), .pointer (some ⟨S + 1 + 1, 0, none⟩), undef, u9, .pointer (some ⟨Bi, 0, none⟩), u11, .agg #[.int .i64 W, .int .i64 H, .string C], .bool true, .bool false, .bool false, .agg #[.int .i64 W, .int .i64 H, .string C], .slice av L.length cv, .bool true, .bool false, .bool false, .slice (some ⟨w2.heap.size, 0, none⟩) 1 1, .pointer (some ⟨w.heap.size, 2, none⟩), .string C, .int .i64 C.size, .slice (some ⟨g, 0, none⟩) C.size cap, .func (.func 52) #[] #[.pointer (some ⟨S, 0, none⟩), .pointer (some ⟨S + 1, 0, none⟩)], .slice av L.length cv, .int .i64 L.length, .int .i64 L.length, .bool false, u31, u32, u33, u34, u35, u36, u37, u38, u39, u40, u41, u42, u43, u44, u45, u46, u47, u48, u49, u50, u51, u52, u53, u54, u55, u56, u57, u58, u59, u60, u61, undef], defers := ms.map markD } ∧
          Lp2 S g C.size cap w.heap.size (nbN W H C) (srcN L) wa i Bi ms o R vq wr)
        (fun a' wr => 64 - heldInt wr (a'.tmps.getD 10 undef)) ?start ?round
      case start => exact ⟨0, _, [], o, R, vq, _, _, _, _, _, _, _, _, _, _, _, _, _, _, _, _, _, _, _, _, _, _, _, _, _, _, rfl, hLp⟩
      case round =>
        clear hLp
        rintro a' wr ⟨i, Bi, ms, o, R, vq, u11, u37, u38, u39, u40, u41, u42, u43, u44, u45, u46, u47, u48, u49, u50, u51, u52, u53, u54, u55, u56, u57, u58, u59, u60, u61, rfl, hLp⟩
        dsimp only
        have hB := hLp.bfs
        have hM := hLp.mem
        have hbel := hLp.kp.below (n₀ := w.heap.size) (by omega) (by omega) (fun _ e => by cases e) (by omega)
        have hFb := (hLp.kp.block (S + 1 + 1) (by omega) (by omega) (by omega) (fun e => by cases e)).trans HST.fn
        have hGr := (hLp.kp.block w.heap.size (by omega) (by omega) (by omega) (fun e => by cases e)).trans HST.grid
        have c0 : wr.cell? ⟨w.heap.size, 0, none⟩ = some (.int .i64 W) := by rw [cell_of_row _ _ _ _ _ _ hGr]; rfl
        have c1 : wr.cell? ⟨w.heap.size, 1, none⟩ = some (.int .i64 H) := by rw [cell_of_row _ _ _ _ _ _ hGr]; rfl
        have c2 : wr.cell? ⟨w.heap.size, 2, none⟩ = some (.string C) := by rw [cell_of_row _ _ _ _ _ _ hGr]; rfl
        have q0 := hM.bq.cell
        have b0 := hLp.box.cell
        have s0 := hM.bs.cell
        have f0 := Boxed.cell hFb
        obtain ⟨aq, cq, rfl⟩ := own_form hM.rq
        have hRn := hB.len
        by_cases hlt : i < R.length
        · obtain ⟨p, hp⟩ : ∃ p, R[i]? = some p := ⟨_, List.getElem?_eq_getElem hlt⟩
          obtain ⟨gq, rfl⟩ : ∃ gq, aq = some ⟨gq, 0, none⟩ := by
            rcases hM.rq.2 with ⟨_, h⟩ | ⟨gq, cap', cur, h, _⟩
            · omega
            · injection h with h1 _ _
              exact ⟨gq, h1⟩
          have hlt2 : (i : Int) < (R.length : Int) := by omega
          have r0 : wr.cell? ⟨gq, i, none⟩ = some (.int .i64 (p : Int)) := own_int hM.rq (natsL_at hp)
          have HP := Lib.hid hp
          have HLP := Lib.hid hLp
          clear hB hM hFb hGr hp hLp
          gi_wp2
          refine wpIn_wide.2 ?_
          go_still_tail 5, (by kernel_rfl)
          change wpList _ _ _ _ _ wr.drew
          go_wp2_with (go_at_call 53; refine (implNeighbors W H C p _).mono ?_; rintro e w5 ⟨rfl, rfl⟩)
          obtain ⟨Lp, HLp⟩ : ∃ Lp, Hid (aroundL W H C (p : Int) = Lp) := ⟨_, rfl⟩
          have hcap0 := caps_new W H C p wr 25 3
          have hcap : Caps ((wr.alloc (.cells #[.int .i64 W, .int .i64 H, .string C] 25)).alloc (.cells #[.int .i64 p] 3)).drew wr.heap.size (wr.heap.size + 1) W H C p := hcap0
          have hRd := Rnd.begin HLP.out HP.out (.cells #[.int .i64 W, .int .i64 H, .string C] 25) (.cells #[.int .i64 p] 3)
          have hW2 := HST.below.trans hbel
          have hB2 := ((hW2.alloc hW2.size (.cells #[.int .i64 W, .int .i64 H, .string C] 25)).alloc (by have := hW2.size; simp; omega) (.cells #[.int .i64 p] 3)).drew
          have hFw := (HLP.out.kp.block (S + 1 + 1) (by omega) (by omega) (by omega) (fun e => by cases e)).trans HST.fn
          have hNx := Next.mk2 wr (.cells #[.int .i64 W, .int .i64 H, .string C] 25) (.cells #[.int .i64 p] 3)
          have hst := nbr_stopsIn W H C p Lp hC HLp 5 _ _ _ hcap (HSd.out.below hB2)
          have hG2 := hcap.2.2.2.2.1
          have hK2 := hcap.2.2.2.2.2
          clear hcap hcap0 c0 c1 c2 q0 b0 s0 f0 r0
          generalize ((wr.alloc (.cells #[.int .i64 W, .int .i64 H, .string C] 25)).alloc (.cells #[.int .i64 p] 3)).drew = ws at *
          gi_wp2
          refine wpIn_rangeFunc_ownG rfl (by decide) (gf := 66) (lb := #[.pointer (some ⟨wr.heap.size, 0, none⟩), .pointer (some ⟨wr.heap.size + 1, 0, none⟩)]) rfl trivial (enters_of Tryd.func66 (by kernel_rfl) rfl)
            hst nbrK_t (nbrK_b hG2 hK2) (Below.refl _ _) (fun _ => rfl)
            (fun pre W' => Rnd W H C S g C.size cap w.heap.size i p L ws (.slice (some ⟨gq, 0, none⟩) R.length cq) (valsL pre) W')
            (fun _ _ _ => False)
            (fun s A B row hs hg hr => hs.abide hg hr)
            (fun _ _ _ _ _ hs _ _ => hs)
            hRd
            (fun y => { tmps := #[.agg #[.int .i64 W, .int .i64 H, .string C], .slice av L.length cv, .pointer (some ⟨w.heap.size, 0, none⟩), undef, .slice none 0 0, .pointer (some ⟨S, 0, none⟩), .pointer (some ⟨S + 1, 0, none⟩), .pointer (some ⟨S + 1 + 1, 0, none⟩), undef, u9, .pointer (some ⟨Bi, 0, none⟩), .int .i64 y.1, .agg #[.int .i64 W, .int .i64 H, .string C], .bool true, .bool false, .bool false, .agg #[.int .i64 W, .int .i64 H, .string C], .slice av L.length cv, .bool true, .bool false, .bool false, .slice (some ⟨w2.heap.size, 0, none⟩) 1 1, .pointer (some ⟨w.heap.size, 2, none⟩), .string C, .int .i64 C.size, .slice (some ⟨g, 0, none⟩) C.size cap, .func (.func 52) #[] #[.pointer (some ⟨S, 0, none⟩), .pointer (some ⟨S + 1, 0, none⟩)], .slice av L.length cv, .int .i64 L.length, .int .i64 L.length, .bool false, u31, u32, u33, u34, u35, u36, .int .i64 i, .slice (some ⟨gq, 0, none⟩) R.length cq, .int .i64 R.length, .bool true, u41, u42, .agg #[.int .i64 W, .int .i64 H, .string C], .slice (some ⟨gq, 0, none⟩) R.length cq, .int .i64 i, .pointer (some ⟨gq, i, none⟩), .int .i64 p, .func (.func 66) #[] #[.pointer (some ⟨wr.heap.size, 0, none⟩), .pointer (some ⟨wr.heap.size + 1, 0, none⟩)], .int .i64 y.1, u50, u51, u52, u53, u54, u55, u56, u57, u58, u59, u60, u61, undef], defers := [] }) ?assign ?body ?done ?stop
          case assign =>
            intro l y W' K hK
            gi_wp2
            exact hK
          case body =>
            rintro l pre y W' ⟨o', R', v', hB', hp', hM', hK'⟩ hlen4
            obtain ⟨z, hz, hzn⟩ := around_in (by rw [HLp.out]; exact y.2)
            obtain ⟨x, hx⟩ := y
            have hzx : x = (z : Int) := hz
            subst hzx
            obtain ⟨hpn, hp0, hpi⟩ := hB'.at hp'
            have hBx : Boxed W' Bi 3 (.int .i64 i) := (hK'.block Bi (by have := hNx.size; have := HLP.out.box.lt; omega) (by have := HLP.out.lo; omega) (by have := HLP.out.lo; omega) HLP.out.ap).trans ((hNx.old _ HLP.out.box.lt).trans HLP.out.box)
            have hFx : Boxed W' (S + 1 + 1) 70 _ := (hK'.block (S + 1 + 1) (by have := hNx.size; have := HLP.out.kp.size; omega) (by omega) (by omega) (fn_apart HLP.out.mem.rq hFw)).trans ((hNx.old _ (by have := HLP.out.kp.size; omega)).trans hFw)
            have hRl : R'.length ≤ 64 := Nat.le_trans hB'.len hn64
            have hi64 : i < 64 := Nat.lt_of_lt_of_le (List.getElem?_eq_some_iff.1 hp').1 hRl
            have b0 := hBx.cell
            have f0 := Boxed.cell hFx
            have s0 := hM'.bs.cell
            have q0 := hM'.bq.cell
            have n0 := hM'.num hpn
            have hcount := countI S (S + 1) g C.size cap w.heap.size o' R' v' z (o' p + 1) hzn hRl (by omega) (by omega) W'.drew (by have := hK'.size; have := hNx.size; have := HLP.out.kp.size; show w.heap.size ≤ W'.heap.size; omega) hM'.drew
            obtain ⟨av', cv', rfl⟩ := own_form hM'.rq
            obtain ⟨gv', rfl⟩ : ∃ gv', av' = some ⟨gv', 0, none⟩ := by
              rcases hM'.rq.2 with ⟨_, h⟩ | ⟨gv', cap', cur, h, _⟩
              · have := (List.getElem?_eq_some_iff.1 hp').1
                omega
              · injection h with h1 _ _
                exact ⟨gv', h1⟩
            have r0 := own_int hM'.rq (natsL_at hp')
            have hiR : (i : Int) < (R'.length : Int) := by have := (List.getElem?_eq_some_iff.1 hp').1; omega
            have hpn2 : (p : Int) < (C.size : Int) := by omega
            have hsum : IntKind.i64.wrap (o' p + 1) = o' p + 1 := IntWalk.i64_in _ (by omega)
            have hB'H := Lib.hid hB'
            have hp'H := Lib.hid hp'
            clear hB' hp' hBx hFx hz
            gi_wp2
            refine wpIn_round_tail 10 (by kernel_rfl) (by kernel_rfl) (by kernel_rfl) ?_
            simp only [List.take_succ_cons, List.take_zero, List.drop_succ_cons, List.drop_zero]
            repeat still_step
            refine wpStill_nil ?_
            go_wp2_with (go_at_call 52; refine hcount.mono ?_; rintro e w5 ⟨⟨u, rfl⟩, v5, hK5, hM5⟩)
            show _ ∧ _ ∧ _
            have hR := round_end hB'H.out hp'H.out (by unfold nbN; rw [HLp.out]; exact List.mem_map.2 ⟨_, hx, rfl⟩) hzn hNx HLP.out.mem hM' hK' hK5 hM5 (by have := HLP.out.kp.size; omega)
            have e : valsL (pre ++ [(⟨(z : Int), hx⟩ : InL Lp)]) = valsL pre ++ [(z : Int)] := valsL_snoc _ _
            rw [← e] at hR
            exact hR
          case done =>
            rintro D ys W' hD hys ⟨o', R', v', hB', hp', hM', hK'⟩ hK
            have hBx : Boxed W' Bi 3 (.int .i64 i) := (hK'.block Bi (by have := hNx.size; have := HLP.out.box.lt; omega) (by have := HLP.out.lo; omega) (by have := HLP.out.lo; omega) HLP.out.ap).trans ((hNx.old _ HLP.out.box.lt).trans HLP.out.box)
            have b0 := hBx.cell
            have hi64 : i < 64 := Nat.lt_of_lt_of_le (List.getElem?_eq_some_iff.1 hp').1 (Nat.le_trans hB'.len hn64)
            have hnb : (valsL ys).map Int.toNat = nbN W H C p := by rw [hys]; unfold nbN; rw [HLp.out]
            rw [hnb] at hB'
            have hNext := HLP.out.next hNx hszS hB' hp' hM' hK' hD hK
            have HNx := Lib.hid hNext
            clear hB' hp' hM' hK' hBx hnb hys hNext
            gi_wp2
            show _ ∧ _
            refine ⟨⟨i + 1, W'.heap.size, D :: ms, o', R', v', _, _, _, _, _, _, _, _, _, _, _, _, _, _, _, _, _, _, _, _, _, _, _, _, _, _, rfl, HNx.out⟩, ?_⟩
            show 64 - heldInt _ (.pointer (some ⟨W'.heap.size, 0, none⟩)) < 64 - heldInt _ (.pointer (some ⟨Bi, 0, none⟩))
            rw [heldInt_box HLP.out.box, heldInt_box HNx.out.box]
            omega
          case stop =>
            rintro D c pre W' _ _ h _
            exact h.elim
        · obtain rfl : i = R.length := by have := hB.le; omega
          have hF : F = rowO o C.size := by
            rw [← HF.out]
            exact (if_pos ⟨HG.out, all_mem HA.out⟩).trans (rowO_eq fun c _ => dist_one (steps_dist (all_mem HA.out) c) (hB.dist c))
          have HFF := Lib.hid hF
          have HLP := Lib.hid hLp
          have hbw := HST.below.trans hbel
          clear hF hLp hB
          gi_wp2
          show LeavesInM Fence.wide 6 Tryd.prog Tryd.f35 _ (IntsBack w F) (ms.map markD) .returning wr
          refine leavesMarksJ (v := .slice (some ⟨g, 0, none⟩) C.size cap) (fun w' => ?_) w (fun W => W.ownsRow w.heap.size 3 1 (.slice (some ⟨g, 0, none⟩) C.size cap) C.size ((rowO o C.size).map (Value.int .i64))) (fun W l b b' hj hl hc => ownsRow_putObj hj b' hl hc) (fun w' hj hb => ⟨_, rfl, ?_, hb⟩) ms wr HLP.out.nd (fun r hr => ⟨by have := (HLP.out.marks r hr).1; omega, (HLP.out.marks r hr).2⟩) hbw HLP.out.mem.rs
          · exact results_tmp Tryd.results35 _ _ _
          · rw [HFF.out, rowO_len]
            exact hj

theorem leaves_nil {n : Nat} {P : Program} {fn : Func} {tmps : Array Value} {R : Ending → World → Prop} {v : Value} {w : World} (hres : (results fn tmps).run P w = .ok v w) (hR : R (.returned v) w) : LeavesInM Fence.wide n P fn tmps R [] .returning w := ⟨v, hres, hR⟩

set_option maxRecDepth 100000 in
theorem steps_bad (W H : Int) (C : ByteArray) (v : Value) (hC : C.size ≤ 1048576) (hg : gok W H C = false) (w : World) :
    CallsIn Fence.wide 6 Tryd.prog 35 #[.agg #[.int .i64 W, .int .i64 H, .string C], v] w (IntsBack w []) := by
  have HG := Lib.hid hg
  have hB := Below.refl (w.alloc (.cells #[.int .i64 W, .int .i64 H, .string C] 25)).heap.size (w.alloc (.cells #[.int .i64 W, .int .i64 H, .string C] 25))
  clear hg
  refine callsIn_of_wp_marks Tryd.func35 rfl trivial ?_ rfl
  simp only [Tryd.ntmps35, List.size_toArray, List.length_cons, List.length_nil, Nat.reduceAdd, Nat.reduceSub, Array.replicate_succ, Array.replicate_zero, List.push_toArray, List.append_toArray, List.nil_append, List.cons_append]
  gi_wp2_with (refine ⟨trivial, ?_⟩; gi_at_call 36; refine (callsIn_wide.2 (implGridOk W H C hC _)).mono ?_; rintro e w1 ⟨rfl, hb⟩; rw [HG.out]; replace hB := chain hB hb; obtain ⟨c0, c1, c2⟩ := box_cells hB; clear hb)
  refine ⟨trivial, ?_⟩
  gi_wp2
  refine leaves_nil (R := IntsBack w []) (v := .slice none 0 0) ?_ ⟨_, rfl, World.ownsRow_nil _ _ _ _, box_below hB⟩
  exact results_tmp Tryd.results35 _ _ _

set_option maxRecDepth 100000 in
theorem steps_none (W H : Int) (C : ByteArray) (L : List Int) (v : Value) (hC : C.size ≤ 1048576) (hg : gok W H C = true) (hall : L.all (freeV W H C) = false) (hL : L.length ≤ 2000000) (w : World) (hv : Ints w v L) :
    CallsIn Fence.wide 6 Tryd.prog 35 #[.agg #[.int .i64 W, .int .i64 H, .string C], v] w (IntsBack w []) := by
  have HG := Lib.hid hg
  have HA := Lib.hid hall
  have hB := Below.refl (w.alloc (.cells #[.int .i64 W, .int .i64 H, .string C] 25)).heap.size (w.alloc (.cells #[.int .i64 W, .int .i64 H, .string C] 25))
  obtain ⟨av, cv, rfl, _⟩ := ints_form hv
  have HV := Lib.hid hv
  clear hg hall hv
  refine callsIn_of_wp_marks Tryd.func35 rfl trivial ?_ rfl
  simp only [Tryd.ntmps35, List.size_toArray, List.length_cons, List.length_nil, Nat.reduceAdd, Nat.reduceSub, Array.replicate_succ, Array.replicate_zero, List.push_toArray, List.append_toArray, List.nil_append, List.cons_append]
  gi_wp2_with (refine ⟨trivial, ?_⟩; gi_at_call 36; refine (callsIn_wide.2 (implGridOk W H C hC _)).mono ?_; rintro e w1 ⟨rfl, hb⟩; rw [HG.out]; replace hB := chain hB hb; obtain ⟨c0, c1, c2⟩ := box_cells hB; clear hb)
  refine ⟨trivial, ?_⟩
  refine (callsIn_wide.2 (allFreeI W H C L false _ hC hL HA _ (ints_on HV.out (box_below hB)))).mono ?_
  rintro e w2 ⟨rfl, hb⟩
  replace hB := chain hB hb
  clear hb c0 c1 c2
  gi_wp2
  refine leaves_nil (R := IntsBack w []) (v := .slice none 0 0) ?_ ⟨_, rfl, World.ownsRow_nil _ _ _ _, box_below hB⟩
  exact results_tmp Tryd.results35 _ _ _

theorem implSteps (W H : Int) (C : ByteArray) (L F : List Int) (v : Value) (hC : C.size ≤ 1048576) (hL : L.length ≤ 2000000) (HF : Hid (stepsL W H C L = F)) (w : World) (hv : Ints w v L) (hS : SidesAt w) :
    Calls Tryd.prog 35 #[.agg #[.int .i64 W, .int .i64 H, .string C], v] w (IntsBack w F) := by
  cases hg : gok W H C with
  | false =>
    have e : F = [] := by rw [← HF.out]; exact if_neg (fun h => by rw [h.1] at hg; cases hg)
    subst e
    exact callsIn_wide.1 (steps_bad W H C v hC hg w)
  | true =>
    cases hall : L.all (freeV W H C) with
    | true => exact callsIn_wide.1 (steps_in W H C L F v hC hg hall hL HF w hv hS)
    | false =>
      have e : F = [] := by
        rw [← HF.out]
        refine if_neg (fun h => ?_)
        rw [List.all_eq_true.2 h.2] at hall
        cases hall
      subst e
      exact callsIn_wide.1 (steps_none W H C L v hC hg hall hL w hv)

end Go.Proofs.YtieipekhckambaaDoor
