/-
  CONTRACT of the program's closure that receives a cell (StepsFrom$1). No law is proved here.
-/
import Derived.RangeFuncBox
import Derived.Maps.AppendAt
import Derived.Test.YtieipekhckambaaDoorBfs
import Derived.Test.YtieipekhckambaaDoorSpecSteps
namespace Go.Proofs.YtieipekhckambaaDoor
set_option maxRecDepth 4096
open Go.ChangeShapes Go.WideShapes Go.ChangeAt Go.RowKit

/-- Cells as numbers in memory. -/
def natsL (R : List Nat) : List Int := R.map fun (c : Nat) => ((c : Nat) : Int)
theorem natsL_snoc (R : List Nat) (c : Nat) : natsL (R ++ [c]) = natsL R ++ [(c : Int)] := by simp [natsL]
theorem natsL_len (R : List Nat) : (natsL R).length = R.length := by simp [natsL]
theorem natsL_at {R : List Nat} {i c : Nat} (h : R[i]? = some c) : (natsL R)[i]? = some (c : Int) := by simp [natsL, h]

/-- What a call of the closure keeps: every block but the numbers' row g, the queue's box Q and the queue's row. -/
structure Kp (g Q : Nat) (W : World) (v : Value) (W' : World) (v' : Value) : Prop where
  os : W'.os = W.os
  tape : W'.tape = W.tape
  output : W'.output = W.output
  size : W.heap.size ≤ W'.heap.size
  block : ∀ i, i < W.heap.size → i ≠ g → i ≠ Q → v.ownBlock ≠ some i → W'.heap[i]? = W.heap[i]?
  row : ∀ k, v'.ownBlock = some k → v.ownBlock = some k ∨ W.heap.size ≤ k
theorem Kp.refl (g Q : Nat) (W : World) (v : Value) : Kp g Q W v W v := ⟨rfl, rfl, rfl, Nat.le_refl _, fun _ _ _ _ _ => rfl, fun _ h => .inl h⟩
theorem Kp.trans {g Q : Nat} {A B C : World} {v u t : Value} (h : Kp g Q A v B u) (k : Kp g Q B u C t) : Kp g Q A v C t :=
  ⟨k.os.trans h.os, k.tape.trans h.tape, k.output.trans h.output, Nat.le_trans h.size k.size,
    fun i hi h1 h2 h3 => (k.block i (Nat.lt_of_lt_of_le hi h.size) h1 h2 (fun e => by rcases h.row i e with h4 | h4; exact h3 h4; omega)).trans (h.block i hi h1 h2 h3),
    fun i e => by
      rcases k.row i e with h4 | h4
      · exact h.row i h4
      · exact .inr (Nat.le_trans h.size h4)⟩
theorem Kp.grown {g Q : Nat} {A B C : World} {v u : Value} {r : Option Nat} (h : Kp g Q A v B u) (k : B.grownBy C r) (hr : ∀ j, r = some j → A.heap.size ≤ j) : Kp g Q A v C u :=
  ⟨k.os.trans h.os, k.tape.trans h.tape, k.output.trans h.output, Nat.le_trans h.size k.size,
    fun i hi h1 h2 h3 => (k.block i (Nat.lt_of_lt_of_le hi h.size) (fun e => by have := hr i e.symm; omega)).trans (h.block i hi h1 h2 h3), h.row⟩
theorem Kp.drew {g Q : Nat} {A B : World} {v u : Value} (h : Kp g Q A v B u) : Kp g Q A v B.drew u := ⟨h.os, h.tape, h.output, h.size, h.block, h.row⟩
theorem Kp.below {g Q n₀ : Nat} {A B : World} {v u : Value} (h : Kp g Q A v B u) (h1 : n₀ ≤ g) (h2 : n₀ ≤ Q) (h3 : ∀ k, v.ownBlock = some k → n₀ ≤ k) (hn : n₀ ≤ A.heap.size) : Below n₀ A B :=
  ⟨h.os, h.tape, h.output, h.size, fun i hi => h.block i (by omega) (by omega) (by omega) (fun e => by have := h3 i e; omega)⟩

/-- The search's memory: the numbers (box S, row g), the queue (box Q, row v). -/
structure Srch (S Q g n cap base : Nat) (o : Nat → Int) (R : List Nat) (v : Value) (W : World) : Prop where
  bs : Boxed W S 26 (.slice (some ⟨g, 0, none⟩) n cap)
  rs : W.ownsRow base 3 1 (.slice (some ⟨g, 0, none⟩) n cap) n ((rowO o n).map (Value.int .i64))
  bq : Boxed W Q 26 v
  rq : W.ownsRow base 3 1 v R.length ((natsL R).map (Value.int .i64))
  ap : v.ownBlock ≠ some g
theorem Srch.kept {S Q g n cap base : Nat} {o : Nat → Int} {R : List Nat} {v : Value} {W W' : World} {r : Option Nat} (h : Srch S Q g n cap base o R v W) (k : W.grownBy W' r) (h1 : some S ≠ r) (h2 : some g ≠ r) (h3 : some Q ≠ r) (h4 : v.ownBlock = none ∨ v.ownBlock ≠ r) : Srch S Q g n cap base o R v W' :=
  ⟨h.bs.kept k h1, h.rs.kept k (.inr h2), h.bq.kept k h3, h.rq.kept k h4, h.ap⟩
theorem Srch.alloc {S Q g n cap base : Nat} {o : Nat → Int} {R : List Nat} {v : Value} {W : World} (h : Srch S Q g n cap base o R v W) (b : Obj) : Srch S Q g n cap base o R v (W.alloc b) :=
  ⟨h.bs.alloc b, h.rs.alloc b, h.bq.alloc b, h.rq.alloc b, h.ap⟩
theorem Srch.drew {S Q g n cap base : Nat} {o : Nat → Int} {R : List Nat} {v : Value} {W : World} (h : Srch S Q g n cap base o R v W) : Srch S Q g n cap base o R v W.drew :=
  ⟨h.bs, h.rs, h.bq, h.rq, h.ap⟩
/-- A turn of a block that is no cells. -/
theorem Srch.abide {S Q g n cap base B : Nat} {o : Nat → Int} {R : List Nat} {v : Value} {W W' : World} {r : Option Nat} (h : Srch S Q g n cap base o R v W) (k : W.grownBy W' r) (hr : ∀ j, r = some j → B ≤ j ∧ ∃ b : Obj, W.heap[j]? = some b ∧ b.isCells = false) : Srch S Q g n cap base o R v W' := by
  have no : ∀ j cs t f, W.heap[j]? = some (.cells cs t f) → some j ≠ r := fun j cs t f hj e => by
    obtain ⟨_, b, hb, hc⟩ := hr j e.symm
    rw [hj] at hb
    cases hb
    cases hc
  refine h.kept k (no _ _ _ _ h.bs) ?_ (no _ _ _ _ h.bq) ?_
  · rcases h.rs.2 with ⟨h1, _⟩ | ⟨g', c', cur, h1, _, hg, _⟩
    · cases h1
    · injection h1 with h1 _ _
      injection h1 with h1
      injection h1 with h1
      subst h1
      exact no _ _ _ _ hg
  · rcases h.rq.2 with ⟨rfl, _⟩ | ⟨g', c', cur, rfl, _, hg, _⟩
    · exact .inl rfl
    · exact .inr (no _ _ _ _ hg)
theorem Srch.num {S Q g n cap base : Nat} {o : Nat → Int} {R : List Nat} {v : Value} {W : World} (h : Srch S Q g n cap base o R v W) {c : Nat} (hc : c < n) : W.cell? ⟨g, c, none⟩ = some (.int .i64 (o c)) := own_num h.rs hc

/-- What the closure leaves. -/
def Counted (S Q g n cap base : Nat) (o : Nat → Int) (R : List Nat) (v : Value) (W : World) (e : Ending) (W' : World) : Prop :=
  (∃ u, e = .returned u) ∧ ∃ v', Kp g Q W v W' v' ∧ Srch S Q g n cap base o R v' W'

theorem rowO_vis {n : Nat} {o : Nat → Int} {c : Nat} {k : Int} (hc : c < n) (h : o c = -1) : ((rowO o n).map (Value.int .i64)).set c (.int .i64 k) = (rowO (visO k o c) n).map (Value.int .i64) := by
  apply List.ext_getElem?
  intro x
  rw [List.getElem?_set, List.getElem?_map, List.getElem?_map]
  by_cases hx : x < n
  · rw [rowO_at _ hx, rowO_at _ hx]
    by_cases hxc : c = x
    · subst hxc
      rw [if_pos rfl, if_pos (by simpa [rowO_len] using hx), visO_self h]
      rfl
    · rw [if_neg hxc, visO_other (fun e => hxc e.symm)]
  · have h1 : (rowO o n)[x]? = none := List.getElem?_eq_none_iff.2 (by rw [rowO_len]; omega)
    have h2 : (rowO (visO k o c) n)[x]? = none := List.getElem?_eq_none_iff.2 (by rw [rowO_len]; omega)
    rw [h1, h2]
    split
    · rw [if_neg (by simp [rowO_len]; omega)]; rfl
    · rfl

theorem int_new_at {w : World} {m : Nat} (h : w.heap.size = m) (x : Int) (t : TypeId) : ∀ j u, ([x].map (Value.int .i64))[j]? = some u → (w.alloc (.cells #[.int .i64 x] t)).cell? ((⟨m, 0, none⟩ : Addr).add j) = some u := by
  subst h
  exact int_new w x t

theorem counted_mk {S Q g n cap base : Nat} {o o' : Nat → Int} {R : List Nat} {v : Value} {c : Nat} {x : Value} {b : Obj} {w w1 : World} {g' cap' : Nat} (hM : Srch S Q g n cap base o R v w) (hSQ : S ≠ Q) (hQ : base ≤ Q) (hb : base ≤ w.heap.size)
    (hst : (w.setCell ⟨g, c, none⟩ x).ownsRow base 3 1 (.slice (some ⟨g, 0, none⟩) n cap) n ((rowO o' n).map (Value.int .i64)) ∧ w.grownBy (w.setCell ⟨g, c, none⟩ x) (some g))
    (hown : w1.ownsRow base 3 1 (.slice (some ⟨g', 0, none⟩) (R.length + 1) cap') (R.length + 1) ((natsL R).map (Value.int .i64) ++ [(c : Int)].map (Value.int .i64)))
    (hgrow : ((w.setCell ⟨g, c, none⟩ x).alloc b).grownBy w1 v.ownBlock)
    (hat : Value.ownBlock (.slice (some ⟨g', 0, none⟩) (R.length + 1) cap') = v.ownBlock ∨ Value.ownBlock (.slice (some ⟨g', 0, none⟩) (R.length + 1) cap') = some ((w.setCell ⟨g, c, none⟩ x).alloc b).heap.size) :
    Kp g Q w v (w1.setCell ⟨Q, 0, none⟩ (.slice (some ⟨g', 0, none⟩) (R.length + 1) cap')) (.slice (some ⟨g', 0, none⟩) (R.length + 1) cap') ∧
    Srch S Q g n cap base o' (R ++ [c]) (.slice (some ⟨g', 0, none⟩) (R.length + 1) cap') (w1.setCell ⟨Q, 0, none⟩ (.slice (some ⟨g', 0, none⟩) (R.length + 1) cap')) := by
  have hsz : (w.setCell ⟨g, c, none⟩ x).heap.size = w.heap.size := by simp [World.setCell]
  have hSg : some S ≠ some g := hM.bs.not_row (by decide) hM.rs
  have hQg : some Q ≠ some g := hM.bq.not_row (by decide) hM.rs
  have hSv : some S ≠ v.ownBlock := hM.bs.not_row (by decide) hM.rq
  have bs1 := hM.bs.kept hst.2 hSg
  have bq1 := hM.bq.kept hst.2 hQg
  have rq1 := hM.rq.kept hst.2 (.inr hM.ap)
  have hglt := (hM.rs.lt g rfl).2
  obtain ⟨hv1, hv2, hr2, hk2, hb2⟩ := bq1.appended (by decide) rq1 (by rw [hsz]; exact hb) hQ hown hgrow
  have hq := grownBy_setCell' w1 Q (.slice (some ⟨g', 0, none⟩) (R.length + 1) cap')
  have bs2 : Boxed w1 S 26 _ := (bs1.alloc b).kept hgrow hSv
  have hgg : g' ≠ g := by
    intro e
    rcases hat with h | h
    · exact hM.ap (by rw [← h, e]; rfl)
    · have h2 : g' = ((w.setCell ⟨g, c, none⟩ x).alloc b).heap.size := by simpa [Value.ownBlock] using h
      rw [World.size_alloc, hsz] at h2
      omega
  have rs2 := (hst.1.alloc b).kept hgrow (.inr (fun e => hM.ap e.symm))
  have hs1 := hgrow.size
  rw [World.size_alloc, hsz] at hs1
  refine ⟨⟨?_, ?_, ?_, ?_, fun i hi h1 h2 h3 => ?_, fun k hk => ?_⟩, bs2.kept hq (by simpa using hSQ), rs2.kept hq (.inr hQg.symm), hv2, ?_, fun e => hgg (by simpa [Value.ownBlock] using e)⟩
  · exact hgrow.os
  · exact hgrow.tape
  · exact hgrow.output
  · have := hq.size; omega
  · rw [hq.block i (by omega) (by simpa using h2), hgrow.block i (by rw [World.size_alloc, hsz]; omega) (fun e => h3 e.symm), heap_alloc_old _ _ _ (by rw [hsz]; omega)]
    exact hst.2.block i hi (by simpa using h1)
  · rcases hat with h | h
    · exact .inl (h ▸ hk)
    · rw [h] at hk
      have h2 := Option.some.inj hk
      rw [World.size_alloc, hsz] at h2
      exact .inr (by omega)
  · rw [natsL_snoc, List.map_append, List.length_append]
    exact hr2

set_option maxHeartbeats 1000000 in
theorem countYes (S Q g n cap base : Nat) (o : Nat → Int) (R : List Nat) (v : Value) (c : Nat) (k : Int) (hc : c < n) (hR : R.length ≤ 64) (hSQ : S ≠ Q) (hQ : base ≤ Q) (hv : o c = -1) (w : World) (hb : base ≤ w.heap.size) (hM : Srch S Q g n cap base o R v w) :
    Calls Tryd.prog 52 #[.int .i64 c, .int .i64 k, .pointer (some ⟨S, 0, none⟩), .pointer (some ⟨Q, 0, none⟩)] w (Counted S Q g n cap base (visO k o c) (R ++ [c]) v w) := by
  obtain ⟨i0, hi, hz0, hz1, hz2⟩ := info_parts Tryd.info3
  have hst := hM.rs.stored c (.int .i64 k)
  rw [rowO_vis hc hv] at hst
  have hgo := hM.rs.lt g rfl
  have d0 := hM.bs.cell
  have d1 := own_num hM.rs hc
  rw [hv] at d1
  have f1 := hM.rs.frozenAt c
  have hSg : some S ≠ some g := hM.bs.not_row (by decide) hM.rs
  have hQg : some Q ≠ some g := hM.bq.not_row (by decide) hM.rs
  have bs1 : Boxed (w.setCell ⟨g, c, none⟩ (.int .i64 k)) S 26 _ := hM.bs.kept hst.2 hSg
  have bq1 : Boxed (w.setCell ⟨g, c, none⟩ (.int .i64 k)) Q 26 v := hM.bq.kept hst.2 hQg
  have rq1 : (w.setCell ⟨g, c, none⟩ (.int .i64 k)).ownsRow base 3 1 v R.length ((natsL R).map (Value.int .i64)) := hM.rq.kept hst.2 (.inr hM.ap)
  have e0 := bq1.cell
  have hsz : (w.setCell ⟨g, c, none⟩ (.int .i64 k)).heap.size = w.heap.size := by simp [World.setCell]
  have HM := Lib.hid hM
  have HST := Lib.hid hst
  have HC : (c : Int) < (n : Int) := by omega
  have HSZ := Lib.hid hsz
  clear hst hM hsz hv
  go_enter Tryd.func52, Tryd.ntmps52
  go_wp2_with (at_builtin; refine wpList_append_own_at _ rfl _ _ 26 rfl base 3 i0 (.int .i64 0) 1 8 Tryd.underlying26 hi hz0 hz1 hz2 rfl (by decide) _ _ _ rfl (rq1.alloc _) ⟨w.heap.size, 0, none⟩ 1 1 ([(c : Int)].map (Value.int .i64)) rfl rfl (int_new_at HSZ.out _ _) (ints_one _) (by unfold maxLen; omega) (by omega) (by simp [HSZ.out]; omega) ?_; intro v' w1 hown' hgrow hnew hat; obtain ⟨g', cap', rfl⟩ := ownsRow_succ hown'; obtain ⟨hv1, hv2, hr2, hk2, hb2⟩ := bq1.appended (by decide) rq1 (by rw [HSZ.out]; exact hb) hQ hown' hgrow; have hc1 := hv1.cell; have hf1 := hv1.frozen; have HK := Lib.hid (counted_mk HM.out hSQ hQ hb HST.out hown' hgrow hat); clear hown' hgrow hnew hat hv1 hv2 hr2 hk2 hb2)
  refine bodyPost_ret (results_none rfl _ _ _) rfl ?_
  exact ⟨⟨_, rfl⟩, _, HK.out⟩

theorem countNo (S Q g n cap base : Nat) (o : Nat → Int) (R : List Nat) (v : Value) (c : Nat) (k : Int) (hc : c < n) (hv : ¬ o c = -1) (w : World) (hM : Srch S Q g n cap base o R v w) :
    Calls Tryd.prog 52 #[.int .i64 c, .int .i64 k, .pointer (some ⟨S, 0, none⟩), .pointer (some ⟨Q, 0, none⟩)] w (Counted S Q g n cap base o R v w) := by
  have d0 := hM.bs.cell
  have d1 := own_num hM.rs hc
  have hv2 : (o c == -1) = false := by simpa using hv
  have HM := Lib.hid hM
  have HC : (c : Int) < (n : Int) := by omega
  clear hM hv
  go_enter Tryd.func52, Tryd.ntmps52
  go_wp2_with fail
  refine bodyPost_ret (results_none rfl _ _ _) rfl ?_
  exact ⟨⟨_, rfl⟩, _, Kp.refl _ _ _ _, HM.out⟩

theorem countI (S Q g n cap base : Nat) (o : Nat → Int) (R : List Nat) (v : Value) (c : Nat) (k : Int) (hc : c < n) (hR : R.length ≤ 64) (hSQ : S ≠ Q) (hQ : base ≤ Q) (w : World) (hb : base ≤ w.heap.size) (hM : Srch S Q g n cap base o R v w) :
    Calls Tryd.prog 52 #[.int .i64 c, .int .i64 k, .pointer (some ⟨S, 0, none⟩), .pointer (some ⟨Q, 0, none⟩)] w (Counted S Q g n cap base (visO k o c) (visR o R c) v w) := by
  by_cases hv : o c = -1
  · rw [visR_yes hv]
    exact countYes S Q g n cap base o R v c k hc hR hSQ hQ hv w hb hM
  · rw [visR_no hv, visO_no hv]
    exact countNo S Q g n cap base o R v c k hc hv w hM

end Go.Proofs.YtieipekhckambaaDoor
