/-
  Plain facts on a search by a queue: what it counts is the distance. No statement is proved here.
  CONTRACTS of the program's search over the residual network (reached). No law is proved here.
-/
import Derived.Test.YtlkhecdlmbhiaaaDoorZCA23
import Derived.Test.YtlkhecdlmbhiaaaDoorZCA27
namespace Go.Proofs.YtlkhecdlmbhiaaaDoor
set_option maxRecDepth 4096
open Classical

/-- A cell receives a number if it has none. -/
noncomputable def visO (d : Int) (o : Nat → Int) (c : Nat) : Nat → Int := fun x => if x = c ∧ o c = -1 then d else o x
noncomputable def visR (o : Nat → Int) (R : List Nat) (c : Nat) : List Nat := if o c = -1 then R ++ [c] else R

theorem nodup_len : ∀ (n : Nat) (R : List Nat), R.Nodup → (∀ c ∈ R, c < n) → R.length ≤ n := by
  intro n
  induction n with
  | zero =>
    intro R _ h
    cases R with
    | nil => exact Nat.le_refl _
    | cons a l => exact absurd (h a (List.mem_cons_self ..)) (Nat.not_lt_zero _)
  | succ n ih =>
    intro R hn h
    by_cases hm : n ∈ R
    · have h1 := ih (R.erase n) (hn.erase n) (fun c hc => by
        have := (hn.mem_erase_iff).1 hc
        have := h c this.2
        omega)
      have h2 := List.length_erase_of_mem hm
      have h3 := List.length_pos_of_mem hm
      omega
    · have := ih R hn (fun c hc => by
        have h1 := h c hc
        have : c ≠ n := fun e => hm (e ▸ hc)
        omega)
      omega

theorem visO_no {d : Int} {o : Nat → Int} {c : Nat} (h : ¬ o c = -1) : visO d o c = o := by
  funext x
  unfold visO
  rw [if_neg (fun hh => h hh.2)]
theorem visR_no {o : Nat → Int} {R : List Nat} {c : Nat} (h : ¬ o c = -1) : visR o R c = R := if_neg h
theorem visR_yes {o : Nat → Int} {R : List Nat} {c : Nat} (h : o c = -1) : visR o R c = R ++ [c] := if_pos h
theorem visO_self {d : Int} {o : Nat → Int} {c : Nat} (h : o c = -1) : visO d o c c = d := if_pos ⟨rfl, h⟩
theorem visO_other {d : Int} {o : Nat → Int} {c x : Nat} (h : x ≠ c) : visO d o c x = o x := if_neg (fun hh => h hh.1)

section
variable {nb : Nat → List Nat} {n : Nat} {src : Nat → Bool}

/-- The search: the first i of the queue are done, of the next one's neighbours the list pre. -/
structure Bfs (nb : Nat → List Nat) (n : Nat) (src : Nat → Bool) (o : Nat → Int) (R : List Nat) (i : Nat) (pre : List Nat) : Prop where
  zero : ∀ c, src c = true → o c = 0
  mem : ∀ c, c ∈ R ↔ o c ≠ -1
  lt : ∀ c, c ∈ R → c < n
  nd : R.Nodup
  snd : ∀ c, o c = -1 ∨ ∃ j : Nat, o c = j ∧ Rch nb n src j c
  srt : R.Pairwise (fun a b => o a ≤ o b)
  few : ∀ (q p : Nat), R[q]? = some p → o p ≤ (q : Int)
  done : ∀ (q p : Nat), q < i → R[q]? = some p → ∀ c ∈ nb p, 0 ≤ o c ∧ o c ≤ o p + 1
  up : ∀ (p : Nat), R[i]? = some p → ∀ x ∈ R, o x ≤ o p + 1
  mid : ∀ (p : Nat), R[i]? = some p → ∀ c ∈ pre, 0 ≤ o c ∧ o c ≤ o p + 1
  le : i ≤ R.length

theorem Bfs.nn {o : Nat → Int} {R : List Nat} {i : Nat} {pre : List Nat} (h : Bfs nb n src o R i pre) {c : Nat} (hc : o c ≠ -1) : 0 ≤ o c := by
  rcases h.snd c with e | ⟨j, e, _⟩
  · exact absurd e hc
  · omega
theorem Bfs.len {o : Nat → Int} {R : List Nat} {i : Nat} {pre : List Nat} (h : Bfs nb n src o R i pre) : R.length ≤ n := nodup_len n R h.nd h.lt
theorem Bfs.at {o : Nat → Int} {R : List Nat} {i : Nat} {pre : List Nat} (h : Bfs nb n src o R i pre) {p : Nat} (hp : R[i]? = some p) : p < n ∧ 0 ≤ o p ∧ o p ≤ (i : Int) := by
  have hm : p ∈ R := List.mem_of_getElem? hp
  exact ⟨h.lt p hm, h.nn ((h.mem p).1 hm), h.few i p hp⟩

theorem vis_at {o : Nat → Int} {R : List Nat} {c i p : Nat} (hp : R[i]? = some p) : (visR o R c)[i]? = some p := by
  unfold visR
  split
  · rw [List.getElem?_append_left (List.getElem?_eq_some_iff.1 hp).1]
    exact hp
  · exact hp

theorem Bfs.visit {o : Nat → Int} {R : List Nat} {i : Nat} {pre : List Nat} (h : Bfs nb n src o R i pre) {p c : Nat} (hp : R[i]? = some p) (hc : c ∈ nb p) (hcn : c < n) :
    Bfs nb n src (visO (o p + 1) o c) (visR o R c) i (pre ++ [c]) ∧ visO (o p + 1) o c p = o p := by
  have hpR : p ∈ R := List.mem_of_getElem? hp
  have hp0 := h.nn ((h.mem p).1 hpR)
  by_cases hv : o c = -1
  · have hpc : p ≠ c := fun e => by subst e; omega
    have e1 : visO (o p + 1) o c p = o p := visO_other hpc
    refine ⟨?_, e1⟩
    have hcR : c ∉ R := fun hm => (h.mem c).1 hm hv
    have hold : ∀ x, x ∈ R → visO (o p + 1) o c x = o x := fun x hx => visO_other (fun e => hcR (e ▸ hx))
    rw [visR_yes hv]
    have hilt : i < R.length := (List.getElem?_eq_some_iff.1 hp).1
    refine ⟨fun x hx => ?_, fun x => ?_, fun x hx => ?_, ?_, fun x => ?_, ?_, fun q y hq => ?_, fun q y hq hy z hz => ?_, fun y hy x hx => ?_, fun y hy z hz => ?_, by rw [List.length_append]; have := h.le; omega⟩
    · have := h.zero x hx
      rw [visO_other (fun e => by subst e; omega)]
      exact this
    · rw [List.mem_append, List.mem_singleton]
      by_cases hx : x = c
      · subst hx
        rw [visO_self hv]
        exact ⟨fun _ => by omega, fun _ => .inr rfl⟩
      · rw [visO_other hx]
        exact ⟨fun hh => hh.elim (h.mem x).1 (fun e => absurd e hx), fun hh => .inl ((h.mem x).2 hh)⟩
    · rcases List.mem_append.1 hx with hx | hx
      · exact h.lt x hx
      · rw [List.mem_singleton.1 hx]; exact hcn
    · rw [List.nodup_append]
      exact ⟨h.nd, by simp, fun a ha b hb => fun e => hcR (by rw [← List.mem_singleton.1 hb, ← e]; exact ha)⟩
    · by_cases hx : x = c
      · subst hx
        rw [visO_self hv]
        rcases h.snd p with e | ⟨j, e, hr⟩
        · omega
        · exact .inr ⟨j + 1, by omega, .inr ⟨p, h.lt p hpR, hr, hc⟩⟩
      · rw [visO_other hx]
        exact h.snd x
    · rw [List.pairwise_append]
      refine ⟨?_, by simp, fun a ha b hb => ?_⟩
      · exact List.Pairwise.imp_of_mem (fun {a b} ha hb hab => by rw [hold a ha, hold b hb]; exact hab) h.srt
      · rw [List.mem_singleton.1 hb, visO_self hv, hold a ha]
        exact h.up p hp a ha
    · by_cases hq2 : q < R.length
      · rw [List.getElem?_append_left hq2] at hq
        rw [hold y (List.mem_of_getElem? hq)]
        exact h.few q y hq
      · have hq3 : q = R.length := by
          have := (List.getElem?_eq_some_iff.1 hq).1
          simp at this
          omega
        subst hq3
        rw [List.getElem?_append_right (Nat.le_refl _)] at hq
        simp at hq
        subst hq
        rw [visO_self hv]
        have := h.few i p hp
        omega
    · rw [List.getElem?_append_left (by omega)] at hy
      have hyR := List.mem_of_getElem? hy
      rw [hold y hyR]
      have := h.done q y hq hy z hz
      rw [visO_other (fun e => by subst e; omega)]
      exact this
    · rw [List.getElem?_append_left hilt, hp] at hy
      obtain rfl := Option.some.inj hy
      rw [e1]
      rcases List.mem_append.1 hx with hx | hx
      · rw [hold x hx]; exact h.up p hp x hx
      · rw [List.mem_singleton.1 hx, visO_self hv]; omega
    · rw [List.getElem?_append_left hilt, hp] at hy
      obtain rfl := Option.some.inj hy
      rw [e1]
      rcases List.mem_append.1 hz with hz | hz
      · have := h.mid p hp z hz
        rw [visO_other (fun e => by subst e; omega)]
        exact this
      · rw [List.mem_singleton.1 hz, visO_self hv]; omega
  · rw [visO_no hv, visR_no hv]
    refine ⟨⟨h.zero, h.mem, h.lt, h.nd, h.snd, h.srt, h.few, h.done, h.up, fun y hy z hz => ?_, h.le⟩, rfl⟩
    rw [hp] at hy
    obtain rfl := Option.some.inj hy
    rcases List.mem_append.1 hz with hz | hz
    · exact h.mid p hp z hz
    · rw [List.mem_singleton.1 hz]
      exact ⟨h.nn hv, h.up p hp c ((h.mem c).2 hv)⟩

theorem Bfs.next {o : Nat → Int} {R : List Nat} {i p : Nat} (h : Bfs nb n src o R i (nb p)) (hp : R[i]? = some p) : Bfs nb n src o R (i + 1) [] := by
  have hilt : i < R.length := (List.getElem?_eq_some_iff.1 hp).1
  refine ⟨h.zero, h.mem, h.lt, h.nd, h.snd, h.srt, h.few, fun q y hq hy z hz => ?_, fun y hy x hx => ?_, (fun y _ z hz => by cases hz), by omega⟩
  · by_cases hqi : q < i
    · exact h.done q y hqi hy z hz
    · obtain rfl : q = i := by omega
      rw [hp] at hy
      obtain rfl := Option.some.inj hy
      exact h.mid p hp z hz
  · have h1 := h.up p hp x hx
    obtain ⟨hi1, e1⟩ := List.getElem?_eq_some_iff.1 hp
    obtain ⟨hi2, e2⟩ := List.getElem?_eq_some_iff.1 hy
    have := (List.pairwise_iff_getElem.1 h.srt) i (i + 1) hi1 hi2 (by omega)
    rw [e1, e2] at this
    omega

theorem Bfs.dist {o : Nat → Int} {R : List Nat} (h : Bfs nb n src o R R.length []) (c : Nat) : Dist nb n src (o c) c := by
  have up : ∀ (j c : Nat), Rch nb n src j c → 0 ≤ o c ∧ o c ≤ j := by
    intro j
    induction j with
    | zero =>
      intro c hr
      have := h.zero c hr
      omega
    | succ j ih =>
      rintro c (hr | ⟨p, _, hr, hm⟩)
      · have := ih c hr
        omega
      · have h1 := ih p hr
        have hpR : p ∈ R := (h.mem p).2 (by omega)
        obtain ⟨q, hq, e⟩ := List.getElem_of_mem hpR
        have := h.done q p hq (by rw [List.getElem?_eq_getElem hq, e]) c hm
        omega
  rcases h.snd c with e | ⟨j, e, hr⟩
  · exact .inr ⟨e, fun j hr => by have := up j c hr; omega⟩
  · exact .inl ⟨j, e, hr, fun i hi hri => by have := up i c hri; omega⟩

/-- Before the search: the list's cells have received 0. -/
structure Beg (n : Nat) (o : Nat → Int) (R pre : List Nat) : Prop where
  o : ∀ c, o c = if c ∈ pre then 0 else -1
  mem : ∀ c, c ∈ R ↔ c ∈ pre
  lt : ∀ c, c ∈ R → c < n
  nd : R.Nodup
theorem Beg.none (n : Nat) : Beg n (fun _ => -1) [] [] := ⟨fun c => by simp, fun c => by simp, (fun c h => by cases h), List.nodup_nil⟩
theorem Beg.visit {o : Nat → Int} {R pre : List Nat} (h : Beg n o R pre) {c : Nat} (hcn : c < n) : Beg n (visO 0 o c) (visR o R c) (pre ++ [c]) := by
  by_cases hv : o c = -1
  · have hcp : c ∉ pre := fun hm => by have := h.o c; rw [if_pos hm] at this; omega
    have hcR : c ∉ R := fun hm => hcp ((h.mem c).1 hm)
    rw [visR_yes hv]
    refine ⟨fun x => ?_, fun x => by simp [h.mem x], fun x hx => ?_, ?_⟩
    · by_cases hx : x = c
      · subst hx
        rw [visO_self hv, if_pos (by simp)]
      · rw [visO_other hx, h.o x]
        simp [hx]
    · rcases List.mem_append.1 hx with hx | hx
      · exact h.lt x hx
      · rw [List.mem_singleton.1 hx]; exact hcn
    · rw [List.nodup_append]
      exact ⟨h.nd, by simp, fun a ha b hb => fun e => hcR (by rw [← List.mem_singleton.1 hb, ← e]; exact ha)⟩
  · have hcp : c ∈ pre := by
      by_cases hm : c ∈ pre
      · exact hm
      · have := h.o c; rw [if_neg hm] at this; exact absurd this hv
    rw [visO_no hv, visR_no hv]
    refine ⟨fun x => ?_, fun x => ?_, h.lt, h.nd⟩
    · rw [h.o x]
      by_cases hx : x ∈ pre
      · rw [if_pos hx, if_pos (by simp [hx])]
      · have : x ≠ c := fun e => hx (e ▸ hcp)
        rw [if_neg hx, if_neg (by simp [hx, this])]
    · rw [h.mem x, List.mem_append, List.mem_singleton]
      exact ⟨.inl, fun hh => hh.elim id (fun e => e ▸ hcp)⟩
theorem Beg.bfs {o : Nat → Int} {R pre : List Nat} (h : Beg n o R pre) (hs : ∀ c, src c = true ↔ c ∈ pre) : Bfs nb n src o R 0 [] := by
  have h0 : ∀ c, c ∈ R → o c = 0 := fun c hc => by rw [h.o c, if_pos ((h.mem c).1 hc)]
  refine ⟨fun c hc => by rw [h.o c, if_pos ((hs c).1 hc)], fun c => ?_, h.lt, h.nd, fun c => ?_, ?_, fun q p hq => ?_, fun q _ hq => absurd hq (Nat.not_lt_zero _), fun p hp x hx => ?_, (fun _ _ _ hz => by cases hz), Nat.zero_le _⟩
  · rw [h.mem c, h.o c]
    by_cases hc : c ∈ pre
    · rw [if_pos hc]; exact ⟨fun _ => by omega, fun _ => hc⟩
    · rw [if_neg hc]; exact ⟨fun hh => absurd hh hc, fun hh => absurd rfl hh⟩
  · rw [h.o c]
    by_cases hc : c ∈ pre
    · rw [if_pos hc]; exact .inr ⟨0, rfl, (hs c).2 hc⟩
    · rw [if_neg hc]; exact .inl rfl
  · exact List.Pairwise.imp_of_mem (fun {a b} ha hb _ => by rw [h0 a ha, h0 b hb]; omega) (List.pairwise_of_forall (R := fun _ _ => True) (fun _ _ => trivial))
  · rw [h0 p (List.mem_of_getElem? hq)]; omega
  · rw [h0 x hx, h0 p (List.mem_of_getElem? hp)]; omega
end

end Go.Proofs.YtlkhecdlmbhiaaaDoor

namespace Go.Proofs.YtlkhecdlmbhiaaaDoor
set_option maxRecDepth 4096
open Go.ChangeShapes Go.WideShapes Go.ChangeAt Go.RowKit

/-- The nodes that were found, in the order in which they were: each can be reached. -/
structure Find (P : List (ArcD × Int)) (n : Nat) (o : Nat → Bool) (Q : List Nat) : Prop where
  good : Good P o
  mem : ∀ v, o v = true → v ∈ Q
  on : ∀ v ∈ Q, o v = true ∧ v < n
  nd : Q.Nodup
def doneL (o : Nat → Bool) (L : List (Nat × Int)) : Prop := ∀ e ∈ L, 0 < e.2 → o e.1 = true
section
variable {P : List (ArcD × Int)} {n : Nat} {o : Nat → Bool} {Q : List Nat}
theorem Find.len (h : Find P n o Q) : Q.length ≤ n := nodup_len n Q h.nd fun c hc => (h.on c hc).2
theorem Find.start (hn : 0 < n) : Find P n (addO (fun _ => false) 0) [0] :=
  ⟨good_start P, fun v hv => by have : v = 0 := by simpa [addO] using hv
                                rw [this]; exact List.mem_singleton.2 rfl, fun v hv => by rw [List.mem_singleton.1 hv]; exact ⟨addO_self _ _, hn⟩, by simp⟩
theorem Find.add (h : Find P n o Q) {u : Nat} (hu : u < n) (hno : o u = false) (hr : Res P u) : Find P n (addO o u) (Q ++ [u]) := by
  refine ⟨⟨addO_old h.good.zero, fun v hv => ?_⟩, fun v hv => ?_, fun v hv => ?_, ?_⟩
  · by_cases e : v = u
    · rw [e]; exact hr
    · rw [addO_other e] at hv
      exact h.good.res v hv
  · by_cases e : v = u
    · rw [e]; simp
    · rw [addO_other e] at hv
      exact List.mem_append_left _ (h.mem v hv)
  · rcases List.mem_append.1 hv with k | k
    · exact ⟨addO_old (h.on v k).1, (h.on v k).2⟩
    · rw [List.mem_singleton.1 k]
      exact ⟨addO_self _ _, hu⟩
  · rw [List.nodup_append]
    refine ⟨h.nd, by simp, fun a ha b hb => ?_⟩
    rw [List.mem_singleton.1 hb]
    intro e
    rw [e] at ha
    rw [(h.on u ha).1] at hno
    cases hno
theorem done_mono {o' : Nat → Bool} {L : List (Nat × Int)} (h : doneL o L) (hm : ∀ v, o v = true → o' v = true) : doneL o' L := fun e he hp => hm _ (h e he hp)
theorem done_step {L : List (Nat × Int)} {j : Nat} {e : Nat × Int} (h : doneL o (L.take j)) (he : L[j]? = some e) (hd : 0 < e.2 → o e.1 = true) : doneL o (L.take (j + 1)) := by
  obtain ⟨hi, rfl⟩ := List.getElem?_eq_some_iff.1 he
  rw [List.take_succ_eq_append_getElem hi]
  intro x hx hp
  rcases List.mem_append.1 hx with k | k
  · exact h x k hp
  · rw [List.mem_singleton.1 k] at hp ⊢
    exact hd hp
end
section
variable {N : Int} {A : List ArcD} {F : List Int} {o : Nat → Bool} {Q : List Nat} {n : Nat}
theorem resL_node (hn : netOkV n A = true) {v : Nat} {e : Nat × Int} (he : e ∈ resL (A.zip F) v) : e.1 < n := by
  obtain ⟨p, hp, h | h⟩ := resL_iff.1 he
  · have := (arcOk_out ((netOk_out hn).2.2 _ (zip_arc hp))).2.1
    rw [h.2]
    show p.1.t.toNat < n
    omega
  · have := (arcOk_out ((netOk_out hn).2.2 _ (zip_arc hp))).1
    rw [h.2]
    show p.1.f.toNat < n
    omega
theorem resL_res (hn : netOkV n A = true) {v : Nat} {e : Nat × Int} (he : e ∈ resL (A.zip F) v) (hp : 0 < e.2) (hv : Res (A.zip F) v) : Res (A.zip F) e.1 := by
  obtain ⟨p, hm, h | h⟩ := resL_iff.1 he
  · have h0 := (arcOk_out ((netOk_out hn).2.2 _ (zip_arc hm))).2.1.1
    rw [h.2] at hp ⊢
    show Res _ ((p.1.t.toNat : Nat) : Int)
    rw [Int.toNat_of_nonneg h0]
    exact Res.fwd hm (by rw [h.1]; exact hv) (by simp only at hp; omega)
  · have h0 := (arcOk_out ((netOk_out hn).2.2 _ (zip_arc hm))).1.1
    rw [h.2] at hp ⊢
    show Res _ ((p.1.f.toNat : Nat) : Int)
    rw [Int.toNat_of_nonneg h0]
    exact Res.bwd hm (by rw [h.1]; exact hv) (by simp only at hp; omega)
/-- When each node that was found has been visited, what was found is what can be reached. -/
theorem Find.is (hn : netOkV n A = true) (h : Find (A.zip F) n o Q) (hd : ∀ v ∈ Q, doneL o (resL (A.zip F) v)) (v : Nat) : o v = reachedB A F v := by
  refine good_is hn h.good (fun p hp => ⟨fun hf hr => ?_, fun ht hr => ?_⟩) v
  · have h0 := (arcOk_out ((netOk_out hn).2.2 _ (zip_arc hp))).1.1
    exact hd _ (h.mem _ hf) (p.1.t.toNat, p.1.r - p.2) (resL_iff.2 ⟨p, hp, .inl ⟨by omega, rfl⟩⟩) (by simp only; omega)
  · have h0 := (arcOk_out ((netOk_out hn).2.2 _ (zip_arc hp))).2.1.1
    exact hd _ (h.mem _ ht) (p.1.f.toNat, p.2) (resL_iff.2 ⟨p, hp, .inr ⟨by omega, rfl⟩⟩) hr
end

/-- The memory of the search: which nodes were found, and the nodes that wait. -/
structure RS (w : World) (n : Nat) (o : Nat → Bool) (va : Value) (Q : List Nat) (wr : World) : Prop where
  row : wr.ownsRow w.heap.size 4 1 (.slice (some ⟨w.heap.size, 0, none⟩) n n) n (rowB o n)
  lst : wr.ownsRow w.heap.size 3 1 va Q.length ((Q.map Int.ofNat).map (Value.int .i64))
  below : Below w.heap.size w wr
section
variable {w wr : World} {n : Nat} {o : Nat → Bool} {va : Value} {Q : List Nat}
theorem RS.mark (h : RS w n o va Q wr) (c : Nat) : RS w n (addO o c) va Q (wr.setCell ⟨w.heap.size, c, none⟩ (.bool true)) := by
  obtain ⟨h1, h2⟩ := add_row (c := c) h.row
  exact ⟨h1, h.lst.kept h2 (own_types h.lst h.row (by decide)), h.below.grown h2 h.below.size (fun j hj => by cases hj; exact Nat.le_refl _)⟩
theorem RS.alloc (h : RS w n o va Q wr) (b : Obj) : RS w n o va Q (wr.alloc b) := ⟨h.row.alloc b, h.lst.alloc b, h.below.alloc h.below.size b⟩
theorem RS.app (h : RS w n o va Q wr) {b : Obj} {w6 : World} {v' : Value} {t : Nat} (hown : w6.ownsRow w.heap.size 3 1 v' (Q.length + 1) ((Q.map Int.ofNat).map (Value.int .i64) ++ [(t : Int)].map (Value.int .i64))) (hg : (wr.alloc b).grownBy w6 va.ownBlock) :
    RS w n o v' (Q ++ [t]) w6 := by
  have ha := h.alloc b
  have e1 : (Q ++ [t]).length = Q.length + 1 := by simp
  have e2 : ((Q ++ [t]).map Int.ofNat).map (Value.int .i64) = (Q.map Int.ofNat).map (Value.int .i64) ++ [(t : Int)].map (Value.int .i64) := by simp
  refine ⟨ha.row.kept hg (own_types ha.row ha.lst (by decide)), ?_, ha.below.grown hg ha.below.size (fun j e => (ha.lst.lt j e).1)⟩
  rw [e1, e2]
  exact hown
theorem RS.found (h : RS w n o va Q wr) {c : Nat} (hc : c < n) : wr.cell? ⟨w.heap.size, c, none⟩ = some (.bool (o c)) := own_bool h.row hc
end

theorem int_new_at2 {w : World} {m : Nat} (h : w.heap.size = m) (x : Int) (t : TypeId) : ∀ j u, ([x].map (Value.int .i64))[j]? = some u → (w.alloc (.cells #[.int .i64 x] t)).cell? ((⟨m, 0, none⟩ : Addr).add j) = some u := by
  subst h
  exact int_new w x t
set_option maxHeartbeats 2000000 in
theorem implFound (n : Nat) (A : List ArcD) (F : List Int) (B G : Nat) (S : Nat → Value) (bs : Nat → List Nat) (hn : netOkV n A = true) (hA : A.length ≤ 3200) (hF : F.length = A.length) (w : World) (hR : RG B w G n (resL (A.zip F)) S bs) :
    Calls Tryd.prog 40 #[.slice (some ⟨G, 0, none⟩) n n] w (BoolsBack w (reachedB A F) n) := by
  obtain ⟨i0, hi, hz0, hz1, hz2⟩ := info_parts Tryd.infoBool
  obtain ⟨i1, hi1, hz10, hz11, hz12⟩ := info_parts Tryd.info3
  obtain ⟨⟨hN1, hN2⟩, _, _⟩ := netOk_out hn
  have hn0 : (0 : Int) < (n : Int) := by omega
  have hn1 : 0 < n := by omega
  have HNT := Lib.hid hn
  have HR := Lib.hid hR
  have HLF := Lib.hid hF
  clear hn hR hF
  go_enter Tryd.func40, Tryd.ntmps40
  go_wp2_with (at_make; go_loud (refine wpList_make_full _ rfl (.tmp 9) (.tmp 9) 35 rfl w.heap.size 4 i0 (.bool false) 1 Tryd.underlying35 hi hz0 hz1 .i64 .i64 n n n rfl rfl rfl rfl (by rw [hz2]; omega) (by unfold maxLen; omega) (Nat.le_refl _) ?_); intro w2 hrow hg2; have hrow0 := made_rowB hrow; have hB2 := (Below.refl w.heap.size w).grown hg2 (Nat.le_refl _) (fun j hj => (by cases hj)); have f0 := hrow0.frozenAt 0; have d0 := own_bool hrow0 hn1; have HR1 := Lib.hid hrow0; have HB2 := Lib.hid hB2; clear hrow hrow0 hg2 hB2)
  have HS0 : Hid (RS w n (addO (fun _ => false) 0) (.slice (some ⟨(w2.setCell ⟨w.heap.size, 0, none⟩ (.bool true)).heap.size, 0, none⟩) 1 1) [0] ((w2.setCell ⟨w.heap.size, 0, none⟩ (.bool true)).alloc (.cells #[.int .i64 0] 3))) := Lib.hid (by
    obtain ⟨h1, h2⟩ := add_row (c := 0) HR1.out
    have hb := HB2.out.grown h2 HB2.out.size (fun j hj => by cases hj; exact Nat.le_refl _)
    refine ⟨h1.alloc _, ?_, hb.alloc hb.size _⟩
    exact World.ownsRow_lit (base := w.heap.size) (e := 3) (size := 1) _ #[.int .i64 0] 1 hb.size (by decide) rfl)
  clear f0 d0 HR1
  go_loopw [4, 5] (fun va i wr => ∃ (k : Nat) (o : Nat → Bool) (Q : List Nat), i = .int .i64 k ∧ k ≤ Q.length ∧ Hid (Find (A.zip F) n o Q) ∧ Hid (∀ x ∈ Q.take k, doneL o (resL (A.zip F) x)) ∧ RS w n o va Q wr) (fun _ i _ => n - (intOf i).toNat)
  case atStart => exact ⟨0, _, [0], rfl, by simp, Lib.hid (Find.start hn1), Lib.hid (by simp), by simpa using HS0.out⟩
  case round =>
    clear HS0 HB2
    obtain ⟨k, o, Q, rfl, hk, HFD, HDN, hS⟩ := hrel
    obtain ⟨aq, cq, rfl⟩ := own_form hS.lst
    have hQl := HFD.out.len
    by_cases hlt : k < Q.length
    · obtain ⟨u, hu⟩ : ∃ u, Q[k]? = some u := ⟨_, List.getElem?_eq_getElem hlt⟩
      have hun : u < n := (HFD.out.on u (List.mem_of_getElem? hu)).2
      obtain ⟨gq, cq', hq⟩ := own_at2 hS.lst (by omega)
      injection hq with hq1 _ hq2
      subst hq1 hq2
      have d0 : wr.cell? ⟨gq, k, none⟩ = some (.int .i64 (u : Int)) := own_int hS.lst (by rw [List.getElem?_map, hu]; rfl)
      have d1 := (HR.out.below hS.below).at_row hun
      obtain ⟨au, cu, hSu⟩ := own_form (HR.out.own u hun)
      rw [hSu] at d1
      have hlen := HR.out.len u hun
      have hbl : (bs u).length ≤ 6400 := by
        have := resL_len (A.zip F) u
        have h2 : (A.zip F).length ≤ A.length := by rw [List.length_zip]; omega
        omega
      have hlt2 : (k : Int) < (Q.length : Int) := by omega
      have hun2 : (u : Int) < (n : Int) := by omega
      have HU := Lib.hid hu
      have HSU := Lib.hid hSu
      have HS := Lib.hid hS
      have HLEN := Lib.hid hlen
      clear hu hSu hS hlen
      go_wp2_with fail
      go_loopw [4, 28] (fun va j wq => ∃ (m : Nat) (o' : Nat → Bool) (Q' : List Nat), j = .int .i64 m ∧ m ≤ (bs u).length ∧ Q <+: Q' ∧ Hid (∀ v, o v = true → o' v = true) ∧ Hid (Find (A.zip F) n o' Q') ∧ Hid (doneL o' ((resL (A.zip F) u).take m)) ∧ RS w n o' va Q' wq) (fun _ j _ => (bs u).length - (intOf j).toNat)
      case atStart => exact ⟨0, o, Q, rfl, Nat.zero_le _, List.prefix_refl _, Lib.hid (fun v h => h), HFD, Lib.hid (by rw [List.take_zero]; intro e he; cases he), HS.out⟩
      case round =>
        clear HS d0 d1
        obtain ⟨m, o', Q', rfl, hm, hpre, HM, HFD', HD', hS⟩ := hrel
        have hRm := HR.out.below hS.below
        by_cases hmlt : m < (bs u).length
        · obtain ⟨b, hb⟩ : ∃ b, (bs u)[m]? = some b := ⟨_, List.getElem?_eq_getElem hmlt⟩
          obtain ⟨⟨t, z⟩, he⟩ : ∃ e, (resL (A.zip F) u)[m]? = some e := ⟨_, List.getElem?_eq_getElem (by have := HLEN.out; omega)⟩
          have htn : t < n := resL_node HNT.out (List.mem_of_getElem? he)
          have hE := hRm.edge u hun m _ b he hb
          have HEd := Lib.hid hE
          obtain ⟨rb, kc, l', kc', q, h1, h2⟩ := hE
          obtain ⟨_, k1, k2⟩ := boxR_cells h1
          obtain ⟨k3, _, _⟩ := boxR_cells h2
          dsimp only at k1 k3
          obtain ⟨ga, ca, hga⟩ := own_at2 (HR.out.own u hun) (by omega)
          have hga2 := HSU.out.symm.trans hga
          injection hga2 with hga3 _ hga4
          subst hga3 hga4
          have d0 := own_ptr (by have := hRm.own u hun; rw [hga] at this; exact this) hb
          have d1 := hS.found htn
          have hm2 : (m : Int) < ((bs u).length : Int) := by omega
          have htn2 : (t : Int) < (n : Int) := by omega
          have HE := Lib.hid he
          have HS := Lib.hid hS
          have HGA := Lib.hid hga
          have HRu : Hid (Res (A.zip F) u) := Lib.hid (HFD'.out.good.res u (HM.out u (HFD.out.on u (List.mem_of_getElem? HU.out)).1))
          clear h1 h2 hb he hga hRm
          cases hz : decide (0 < z) with
          | false =>
            have HZ := Lib.hid hz
            have hD2 : Hid (doneL o' ((resL (A.zip F) u).take (m + 1))) := Lib.hid (done_step HD'.out HE.out (fun h => by have := of_decide_eq_false HZ.out; exact absurd h this))
            clear hz hS
            go_wp2_with (go_at_call 68; refine (implOpen b z false HZ.out _ (by assumption)).mono ?_; rintro e w' ⟨rfl, rfl⟩)
            go_roundw
            case rel => exact ⟨m + 1, o', Q', by go_num, by omega, hpre, HM, HFD', hD2, HS.out⟩
            case measure => simp [intOf]; omega
          | true =>
            cases ho : o' t with
            | true =>
              have HZ := Lib.hid hz
              have HO := Lib.hid ho
              rw [ho] at d1
              have hD2 : Hid (doneL o' ((resL (A.zip F) u).take (m + 1))) := Lib.hid (done_step HD'.out HE.out (fun _ => HO.out))
              clear hz ho hS
              go_wp2_with (first
                | (go_at_call 68; refine (implOpen b z true HZ.out _ (by assumption)).mono ?_; rintro e w' ⟨rfl, rfl⟩)
                | (go_at_call 69; refine (implTo b rb t _ (by assumption) (by assumption)).mono ?_; rintro e w' ⟨rfl, rfl⟩))
              go_roundw
              case rel => exact ⟨m + 1, o', Q', by go_num, by omega, hpre, HM, HFD', hD2, HS.out⟩
              case measure => simp [intOf]; omega
            | false =>
              have HZ := Lib.hid hz
              have HO := Lib.hid ho
              rw [ho] at d1
              have f1 := hS.row.frozenAt t
              have hSm := hS.mark t
              obtain ⟨rb2, kc2, l2, kc3, q2, h1, h2⟩ := HEd.out.grown (add_row (c := t) hS.row).2 (notBox_own hS.row (by decide))
              obtain ⟨_, _, k4⟩ := boxR_cells h1
              obtain ⟨k5, _, _⟩ := boxR_cells h2
              dsimp only at k5
              have HSm := Lib.hid hSm
              obtain ⟨aq', cq', hq'⟩ := own_form hSm.lst
              subst hq'
              have hHs : (wr.setCell ⟨w.heap.size, t, none⟩ (.bool true)).heap.size = wr.heap.size := by simp [World.setCell]
              have HHs := Lib.hid hHs
              have hwr : w.heap.size ≤ wr.heap.size := hS.below.size
              have hQ' := HFD'.out.len
              clear hz ho hS h1 h2 hHs hSm
              go_wp2_with (first
                | (go_at_call 68; refine (implOpen b z true HZ.out _ (by assumption)).mono ?_; rintro e w' ⟨rfl, rfl⟩)
                | (go_at_call 69; refine (implTo b _ t _ (by assumption) (by assumption)).mono ?_; rintro e w' ⟨rfl, rfl⟩)
                | (at_builtin; go_loud (refine wpList_append_own _ rfl _ _ 26 rfl w.heap.size 3 i1 (.int .i64 0) 1 8 Tryd.underlying26 hi1 hz10 hz11 hz12 rfl (by decide) _ _ _ rfl (HSm.out.lst.alloc _) ⟨wr.heap.size, 0, none⟩ 1 1 ([(t : Int)].map (Value.int .i64)) rfl rfl (int_new_at2 HHs.out _ _) (ints_one _) (by unfold maxLen; omega) (by omega) (by simp [HHs.out]; omega) ?_); intro v' w6 hown6 hgrow _; have hS6 := HSm.out.app hown6 hgrow; have HS6 := Lib.hid hS6; clear hown6 hgrow hS6))
              go_roundw
              case rel => exact ⟨m + 1, addO o' t, Q' ++ [t], by go_num, by omega, hpre.trans (List.prefix_append _ _), Lib.hid (fun v h => addO_old (HM.out v h)), Lib.hid (HFD'.out.add htn HO.out (resL_res HNT.out (List.mem_of_getElem? HE.out) (of_decide_eq_true HZ.out) HRu.out)), Lib.hid (done_step (done_mono HD'.out (fun v h => addO_old h)) HE.out (fun _ => addO_self _ _)), HS6.out⟩
              case measure => simp [intOf]; omega
        · obtain rfl : m = (bs u).length := by omega
          have HS := Lib.hid hS
          have hkQ : k + 1 ≤ Q'.length := by have := hpre.length_le; omega
          have HPRE := Lib.hid hpre
          have hw1 : IntKind.i64.wrap ((k : Int) + 1) = (k : Int) + 1 := IntWalk.i64_in _ (by omega)
          clear hS hpre hRm
          go_wp2_with fail
          go_roundw
          case rel => exact ⟨k + 1, o', Q', by go_num, hkQ, HFD', Lib.hid (by
            have hD : doneL o' (resL (A.zip F) u) := by
              have := HD'.out
              rwa [HLEN.out, List.take_length] at this
            obtain ⟨T, hT⟩ := HPRE.out
            intro x hx
            rw [← hT, List.take_append_of_le_length (by omega)] at hx
            obtain ⟨hi, hh⟩ := List.getElem?_eq_some_iff.1 HU.out
            rw [List.take_succ_eq_append_getElem hi] at hx
            rcases List.mem_append.1 hx with h | h
            · exact done_mono (HDN.out x h) HM.out
            · rw [List.mem_singleton.1 h, hh]
              exact hD), HS.out⟩
          case measure => simp [intOf]; omega
    · obtain rfl : k = Q.length := by omega
      have HE : Hid (∀ v, o v = reachedB A F v) := Lib.hid (HFD.out.is HNT.out (by simpa using HDN.out))
      have HS := Lib.hid hS
      clear hS
      go_wp2_with fail
      go_ret
      exact ⟨_, rfl, by have := HS.out.row; rwa [rowB_eq HE.out] at this, HS.out.below⟩

end Go.Proofs.YtlkhecdlmbhiaaaDoor

