/-
  Rows of pointers in memory. No statement is proved here.
  A row of Booleans in memory. No statement is proved here.
  Plain facts on a search by a queue: what it counts is the distance. No statement is proved here.
-/
import Derived.Test.YtlkhecdlmbhiaaaDoorZTS36
import Derived.Test.YtlkhecdlmbhiaaaDoorZTS31
import Derived.Test.YtlkhecdlmbhiaaaDoorZTS07
namespace Go.Proofs.YtlkhecdlmbhiaaaDoor
set_option maxRecDepth 4096
open Go.ChangeShapes Go.WideShapes Go.ChangeAt Go.RowKit

theorem own_at2 {w : World} {B s n : Nat} {e : TypeId} {v : Value} {xs : List Value} (h : w.ownsRow B e s v n xs) (hn : 0 < n) : ∃ g c, v = .slice (some ⟨g, 0, none⟩) n c := by
  rcases h.2 with ⟨rfl, h0⟩ | ⟨g, cap, cur, rfl, _⟩
  · omega
  · exact ⟨_, _, rfl⟩

theorem own_ptr {w : World} {B : Nat} {e : TypeId} {g n c j b : Nat} {L : List Nat} (h : w.ownsRow B e 1 (.slice (some ⟨g, 0, none⟩) n c) n (L.map ptrV)) (hb : L[j]? = some b) : w.cell? ⟨g, j, none⟩ = some (.pointer (some ⟨b, 0, none⟩)) := by
  have := h.cells (g := g) rfl j (ptrV b) (by rw [List.getElem?_map, hb]; rfl)
  have hadd : (⟨g, 0, none⟩ : Addr).add j = ⟨g, j, none⟩ := by unfold Addr.add; split <;> simp_all
  rwa [hadd] at this

end Go.Proofs.YtlkhecdlmbhiaaaDoor

namespace Go.Proofs.YtlkhecdlmbhiaaaDoor
set_option maxRecDepth 4096
open Go.ChangeShapes Go.WideShapes Go.ChangeAt Go.RowKit

theorem Tryd.infoBool : (Tryd.prog.info? 4).map (fun i => (i.zero, i.size, i.bytes)) = some (some (.bool false), 1, 1) := by kernel_rfl

theorem made_rowB {w1 : World} {B : Nat} {g n : Nat} (h : w1.ownsRow B 4 1 (.slice (some ⟨g, 0, none⟩) n n) n (madeCells (Value.bool false).cells (n * 1)).toList) :
    w1.ownsRow B 4 1 (.slice (some ⟨g, 0, none⟩) n n) n (rowB (fun _ => false) n) := by
  have e : (madeCells (Value.bool false).cells (n * 1)).toList = rowB (fun _ => false) n := by
    rw [Nat.mul_one]
    exact (toList_madeCells_one _ _).trans (rowB_none n)
  rwa [e] at h
theorem add_row {w : World} {B g n c : Nat} {o : Nat → Bool} (h : w.ownsRow B 4 1 (.slice (some ⟨g, 0, none⟩) n n) n (rowB o n)) :
    (w.setCell ⟨g, c, none⟩ (.bool true)).ownsRow B 4 1 (.slice (some ⟨g, 0, none⟩) n n) n (rowB (addO o c) n) ∧ w.grownBy (w.setCell ⟨g, c, none⟩ (.bool true)) (some g) := by
  have := h.stored c (.bool true)
  rwa [rowB_set (o' := addO o c) (fun j => rfl)] at this

def yesN : Value → Nat
  | .bool true => 1
  | _ => 0
theorem netOk_of {N : Int} {A : List ArcD} {F : List Int} (h : flowOkV N A F = true) : netOkV N A = true := (flowOk_out h).1
end Go.Proofs.YtlkhecdlmbhiaaaDoor

namespace Go.Proofs.YtlkhecdlmbhiaaaDoor
set_option maxRecDepth 4096
open Classical

/-- A cell receives a number if it has none. -/
noncomputable def visO (d : Int) (o : Nat → Int) (c : Nat) : Nat → Int := fun x => if x = c ∧ o c = -1 then d else o x
noncomputable def visR (o : Nat → Int) (R : List Nat) (c : Nat) : List Nat := if o c = -1 then R ++ [c] else R

theorem nodup_len : ∀ (n : Nat) (R : List Nat), R.Nodup → (∀ c ∈ R, c < n) → R.length ≤ n := by
  intro n
  induction n with
  | zero =>
    intro R _ h
    cases R with
    | nil => exact Nat.le_refl _
    | cons a l => exact absurd (h a (List.mem_cons_self ..)) (Nat.not_lt_zero _)
  | succ n ih =>
    intro R hn h
    by_cases hm : n ∈ R
    · have h1 := ih (R.erase n) (hn.erase n) (fun c hc => by
        have := (hn.mem_erase_iff).1 hc
        have := h c this.2
        omega)
      have h2 := List.length_erase_of_mem hm
      have h3 := List.length_pos_of_mem hm
      omega
    · have := ih R hn (fun c hc => by
        have h1 := h c hc
        have : c ≠ n := fun e => hm (e ▸ hc)
        omega)
      omega

theorem visO_no {d : Int} {o : Nat → Int} {c : Nat} (h : ¬ o c = -1) : visO d o c = o := by
  funext x
  unfold visO
  rw [if_neg (fun hh => h hh.2)]
theorem visR_no {o : Nat → Int} {R : List Nat} {c : Nat} (h : ¬ o c = -1) : visR o R c = R := if_neg h
theorem visR_yes {o : Nat → Int} {R : List Nat} {c : Nat} (h : o c = -1) : visR o R c = R ++ [c] := if_pos h
theorem visO_self {d : Int} {o : Nat → Int} {c : Nat} (h : o c = -1) : visO d o c c = d := if_pos ⟨rfl, h⟩
theorem visO_other {d : Int} {o : Nat → Int} {c x : Nat} (h : x ≠ c) : visO d o c x = o x := if_neg (fun hh => h hh.1)

section
variable {nb : Nat → List Nat} {n : Nat} {src : Nat → Bool}

/-- The search: the first i of the queue are done, of the next one's neighbours the list pre. -/
structure Bfs (nb : Nat → List Nat) (n : Nat) (src : Nat → Bool) (o : Nat → Int) (R : List Nat) (i : Nat) (pre : List Nat) : Prop where
  zero : ∀ c, src c = true → o c = 0
  mem : ∀ c, c ∈ R ↔ o c ≠ -1
  lt : ∀ c, c ∈ R → c < n
  nd : R.Nodup
  snd : ∀ c, o c = -1 ∨ ∃ j : Nat, o c = j ∧ Rch nb n src j c
  srt : R.Pairwise (fun a b => o a ≤ o b)
  few : ∀ (q p : Nat), R[q]? = some p → o p ≤ (q : Int)
  done : ∀ (q p : Nat), q < i → R[q]? = some p → ∀ c ∈ nb p, 0 ≤ o c ∧ o c ≤ o p + 1
  up : ∀ (p : Nat), R[i]? = some p → ∀ x ∈ R, o x ≤ o p + 1
  mid : ∀ (p : Nat), R[i]? = some p → ∀ c ∈ pre, 0 ≤ o c ∧ o c ≤ o p + 1
  le : i ≤ R.length

theorem Bfs.nn {o : Nat → Int} {R : List Nat} {i : Nat} {pre : List Nat} (h : Bfs nb n src o R i pre) {c : Nat} (hc : o c ≠ -1) : 0 ≤ o c := by
  rcases h.snd c with e | ⟨j, e, _⟩
  · exact absurd e hc
  · omega
theorem Bfs.len {o : Nat → Int} {R : List Nat} {i : Nat} {pre : List Nat} (h : Bfs nb n src o R i pre) : R.length ≤ n := nodup_len n R h.nd h.lt
theorem Bfs.at {o : Nat → Int} {R : List Nat} {i : Nat} {pre : List Nat} (h : Bfs nb n src o R i pre) {p : Nat} (hp : R[i]? = some p) : p < n ∧ 0 ≤ o p ∧ o p ≤ (i : Int) := by
  have hm : p ∈ R := List.mem_of_getElem? hp
  exact ⟨h.lt p hm, h.nn ((h.mem p).1 hm), h.few i p hp⟩

theorem vis_at {o : Nat → Int} {R : List Nat} {c i p : Nat} (hp : R[i]? = some p) : (visR o R c)[i]? = some p := by
  unfold visR
  split
  · rw [List.getElem?_append_left (List.getElem?_eq_some_iff.1 hp).1]
    exact hp
  · exact hp

theorem Bfs.visit {o : Nat → Int} {R : List Nat} {i : Nat} {pre : List Nat} (h : Bfs nb n src o R i pre) {p c : Nat} (hp : R[i]? = some p) (hc : c ∈ nb p) (hcn : c < n) :
    Bfs nb n src (visO (o p + 1) o c) (visR o R c) i (pre ++ [c]) ∧ visO (o p + 1) o c p = o p := by
  have hpR : p ∈ R := List.mem_of_getElem? hp
  have hp0 := h.nn ((h.mem p).1 hpR)
  by_cases hv : o c = -1
  · have hpc : p ≠ c := fun e => by subst e; omega
    have e1 : visO (o p + 1) o c p = o p := visO_other hpc
    refine ⟨?_, e1⟩
    have hcR : c ∉ R := fun hm => (h.mem c).1 hm hv
    have hold : ∀ x, x ∈ R → visO (o p + 1) o c x = o x := fun x hx => visO_other (fun e => hcR (e ▸ hx))
    rw [visR_yes hv]
    have hilt : i < R.length := (List.getElem?_eq_some_iff.1 hp).1
    refine ⟨fun x hx => ?_, fun x => ?_, fun x hx => ?_, ?_, fun x => ?_, ?_, fun q y hq => ?_, fun q y hq hy z hz => ?_, fun y hy x hx => ?_, fun y hy z hz => ?_, by rw [List.length_append]; have := h.le; omega⟩
    · have := h.zero x hx
      rw [visO_other (fun e => by subst e; omega)]
      exact this
    · rw [List.mem_append, List.mem_singleton]
      by_cases hx : x = c
      · subst hx
        rw [visO_self hv]
        exact ⟨fun _ => by omega, fun _ => .inr rfl⟩
      · rw [visO_other hx]
        exact ⟨fun hh => hh.elim (h.mem x).1 (fun e => absurd e hx), fun hh => .inl ((h.mem x).2 hh)⟩
    · rcases List.mem_append.1 hx with hx | hx
      · exact h.lt x hx
      · rw [List.mem_singleton.1 hx]; exact hcn
    · rw [List.nodup_append]
      exact ⟨h.nd, by simp, fun a ha b hb => fun e => hcR (by rw [← List.mem_singleton.1 hb, ← e]; exact ha)⟩
    · by_cases hx : x = c
      · subst hx
        rw [visO_self hv]
        rcases h.snd p with e | ⟨j, e, hr⟩
        · omega
        · exact .inr ⟨j + 1, by omega, .inr ⟨p, h.lt p hpR, hr, hc⟩⟩
      · rw [visO_other hx]
        exact h.snd x
    · rw [List.pairwise_append]
      refine ⟨?_, by simp, fun a ha b hb => ?_⟩
      · exact List.Pairwise.imp_of_mem (fun {a b} ha hb hab => by rw [hold a ha, hold b hb]; exact hab) h.srt
      · rw [List.mem_singleton.1 hb, visO_self hv, hold a ha]
        exact h.up p hp a ha
    · by_cases hq2 : q < R.length
      · rw [List.getElem?_append_left hq2] at hq
        rw [hold y (List.mem_of_getElem? hq)]
        exact h.few q y hq
      · have hq3 : q = R.length := by
          have := (List.getElem?_eq_some_iff.1 hq).1
          simp at this
          omega
        subst hq3
        rw [List.getElem?_append_right (Nat.le_refl _)] at hq
        simp at hq
        subst hq
        rw [visO_self hv]
        have := h.few i p hp
        omega
    · rw [List.getElem?_append_left (by omega)] at hy
      have hyR := List.mem_of_getElem? hy
      rw [hold y hyR]
      have := h.done q y hq hy z hz
      rw [visO_other (fun e => by subst e; omega)]
      exact this
    · rw [List.getElem?_append_left hilt, hp] at hy
      obtain rfl := Option.some.inj hy
      rw [e1]
      rcases List.mem_append.1 hx with hx | hx
      · rw [hold x hx]; exact h.up p hp x hx
      · rw [List.mem_singleton.1 hx, visO_self hv]; omega
    · rw [List.getElem?_append_left hilt, hp] at hy
      obtain rfl := Option.some.inj hy
      rw [e1]
      rcases List.mem_append.1 hz with hz | hz
      · have := h.mid p hp z hz
        rw [visO_other (fun e => by subst e; omega)]
        exact this
      · rw [List.mem_singleton.1 hz, visO_self hv]; omega
  · rw [visO_no hv, visR_no hv]
    refine ⟨⟨h.zero, h.mem, h.lt, h.nd, h.snd, h.srt, h.few, h.done, h.up, fun y hy z hz => ?_, h.le⟩, rfl⟩
    rw [hp] at hy
    obtain rfl := Option.some.inj hy
    rcases List.mem_append.1 hz with hz | hz
    · exact h.mid p hp z hz
    · rw [List.mem_singleton.1 hz]
      exact ⟨h.nn hv, h.up p hp c ((h.mem c).2 hv)⟩

theorem Bfs.next {o : Nat → Int} {R : List Nat} {i p : Nat} (h : Bfs nb n src o R i (nb p)) (hp : R[i]? = some p) : Bfs nb n src o R (i + 1) [] := by
  have hilt : i < R.length := (List.getElem?_eq_some_iff.1 hp).1
  refine ⟨h.zero, h.mem, h.lt, h.nd, h.snd, h.srt, h.few, fun q y hq hy z hz => ?_, fun y hy x hx => ?_, (fun y _ z hz => by cases hz), by omega⟩
  · by_cases hqi : q < i
    · exact h.done q y hqi hy z hz
    · obtain rfl : q = i := by omega
      rw [hp] at hy
      obtain rfl := Option.some.inj hy
      exact h.mid p hp z hz
  · have h1 := h.up p hp x hx
    obtain ⟨hi1, e1⟩ := List.getElem?_eq_some_iff.1 hp
    obtain ⟨hi2, e2⟩ := List.getElem?_eq_some_iff.1 hy
    have := (List.pairwise_iff_getElem.1 h.srt) i (i + 1) hi1 hi2 (by omega)
    rw [e1, e2] at this
    omega

theorem Bfs.dist {o : Nat → Int} {R : List Nat} (h : Bfs nb n src o R R.length []) (c : Nat) : Dist nb n src (o c) c := by
  have up : ∀ (j c : Nat), Rch nb n src j c → 0 ≤ o c ∧ o c ≤ j := by
    intro j
    induction j with
    | zero =>
      intro c hr
      have := h.zero c hr
      omega
    | succ j ih =>
      rintro c (hr | ⟨p, _, hr, hm⟩)
      · have := ih c hr
        omega
      · have h1 := ih p hr
        have hpR : p ∈ R := (h.mem p).2 (by omega)
        obtain ⟨q, hq, e⟩ := List.getElem_of_mem hpR
        have := h.done q p hq (by rw [List.getElem?_eq_getElem hq, e]) c hm
        omega
  rcases h.snd c with e | ⟨j, e, hr⟩
  · exact .inr ⟨e, fun j hr => by have := up j c hr; omega⟩
  · exact .inl ⟨j, e, hr, fun i hi hri => by have := up i c hri; omega⟩

/-- Before the search: the list's cells have received 0. -/
structure Beg (n : Nat) (o : Nat → Int) (R pre : List Nat) : Prop where
  o : ∀ c, o c = if c ∈ pre then 0 else -1
  mem : ∀ c, c ∈ R ↔ c ∈ pre
  lt : ∀ c, c ∈ R → c < n
  nd : R.Nodup
theorem Beg.none (n : Nat) : Beg n (fun _ => -1) [] [] := ⟨fun c => by simp, fun c => by simp, (fun c h => by cases h), List.nodup_nil⟩
theorem Beg.visit {o : Nat → Int} {R pre : List Nat} (h : Beg n o R pre) {c : Nat} (hcn : c < n) : Beg n (visO 0 o c) (visR o R c) (pre ++ [c]) := by
  by_cases hv : o c = -1
  · have hcp : c ∉ pre := fun hm => by have := h.o c; rw [if_pos hm] at this; omega
    have hcR : c ∉ R := fun hm => hcp ((h.mem c).1 hm)
    rw [visR_yes hv]
    refine ⟨fun x => ?_, fun x => by simp [h.mem x], fun x hx => ?_, ?_⟩
    · by_cases hx : x = c
      · subst hx
        rw [visO_self hv, if_pos (by simp)]
      · rw [visO_other hx, h.o x]
        simp [hx]
    · rcases List.mem_append.1 hx with hx | hx
      · exact h.lt x hx
      · rw [List.mem_singleton.1 hx]; exact hcn
    · rw [List.nodup_append]
      exact ⟨h.nd, by simp, fun a ha b hb => fun e => hcR (by rw [← List.mem_singleton.1 hb, ← e]; exact ha)⟩
  · have hcp : c ∈ pre := by
      by_cases hm : c ∈ pre
      · exact hm
      · have := h.o c; rw [if_neg hm] at this; exact absurd this hv
    rw [visO_no hv, visR_no hv]
    refine ⟨fun x => ?_, fun x => ?_, h.lt, h.nd⟩
    · rw [h.o x]
      by_cases hx : x ∈ pre
      · rw [if_pos hx, if_pos (by simp [hx])]
      · have : x ≠ c := fun e => hx (e ▸ hcp)
        rw [if_neg hx, if_neg (by simp [hx, this])]
    · rw [h.mem x, List.mem_append, List.mem_singleton]
      exact ⟨.inl, fun hh => hh.elim id (fun e => e ▸ hcp)⟩
theorem Beg.bfs {o : Nat → Int} {R pre : List Nat} (h : Beg n o R pre) (hs : ∀ c, src c = true ↔ c ∈ pre) : Bfs nb n src o R 0 [] := by
  have h0 : ∀ c, c ∈ R → o c = 0 := fun c hc => by rw [h.o c, if_pos ((h.mem c).1 hc)]
  refine ⟨fun c hc => by rw [h.o c, if_pos ((hs c).1 hc)], fun c => ?_, h.lt, h.nd, fun c => ?_, ?_, fun q p hq => ?_, fun q _ hq => absurd hq (Nat.not_lt_zero _), fun p hp x hx => ?_, (fun _ _ _ hz => by cases hz), Nat.zero_le _⟩
  · rw [h.mem c, h.o c]
    by_cases hc : c ∈ pre
    · rw [if_pos hc]; exact ⟨fun _ => by omega, fun _ => hc⟩
    · rw [if_neg hc]; exact ⟨fun hh => absurd hh hc, fun hh => absurd rfl hh⟩
  · rw [h.o c]
    by_cases hc : c ∈ pre
    · rw [if_pos hc]; exact .inr ⟨0, rfl, (hs c).2 hc⟩
    · rw [if_neg hc]; exact .inl rfl
  · exact List.Pairwise.imp_of_mem (fun {a b} ha hb _ => by rw [h0 a ha, h0 b hb]; omega) (List.pairwise_of_forall (R := fun _ _ => True) (fun _ _ => trivial))
  · rw [h0 p (List.mem_of_getElem? hq)]; omega
  · rw [h0 x hx, h0 p (List.mem_of_getElem? hp)]; omega
end

end Go.Proofs.YtlkhecdlmbhiaaaDoor

