/-
  The nodes over which ways lead; where the units over each arc are a flow, each step is an arc, and the ways come back. Plain facts; no statement is proved here.
  A map from pairs of numbers to how often each was met. Plain facts and steps; no statement is proved here.
  Have ways the form of a plan? Plain facts; no statement is proved here.
-/
import Derived.Test.YtnbbhdbcapfbkaaDoorZFF12
import Derived.Maps.OwnOps
import Derived.Maps.Views
import Derived.WideKeyPair
import Derived.WideKeyEntry
import Derived.Test.YtnbbhdbcapfbkaaDoorZFF01
namespace Go.Proofs.YtnbbhdbcapfbkaaDoor
set_option maxRecDepth 4096

/-! ### units over arcs -/
def hopOf (x : ArcD) : Int × Int := (x.f, x.t)
def unitsL (A : List ArcD) (hs : List (Int × Int)) : List Int := A.map fun x => ((hs.count (hopOf x) : Nat) : Int)
def isHop (A : List ArcD) (h : Int × Int) : Bool := isArc A h.1 h.2
theorem isHop_iff {A : List ArcD} {h : Int × Int} : isHop A h = true ↔ ∃ x ∈ A, hopOf x = h := by
  unfold isHop
  rw [isArc_iff]
  constructor
  · rintro ⟨x, hx, h1, h2⟩
    exact ⟨x, hx, Prod.ext h1 h2⟩
  · rintro ⟨x, hx, rfl⟩
    exact ⟨x, hx, rfl, rfl⟩
theorem unitsL_len (A : List ArcD) (hs : List (Int × Int)) : (unitsL A hs).length = A.length := by simp [unitsL]
theorem unitsL_at {A : List ArcD} {hs : List (Int × Int)} {i : Nat} {x : ArcD} (h : A[i]? = some x) : (unitsL A hs)[i]? = some ((hs.count (hopOf x) : Nat) : Int) := by
  unfold unitsL
  rw [List.getElem?_map, h]
  rfl
theorem units_nil (A : List ArcD) : unitsL A [] = List.replicate A.length 0 := by
  unfold unitsL
  simp [List.map_const']
/-- One hop more. -/
theorem units_put {A : List ArcD} (hd : Dst A) {hs : List (Int × Int)} {i : Nat} {x : ArcD} (h : A[i]? = some x) : (unitsL A hs).set i (((hs.count (hopOf x) : Nat) : Int) + 1) = unitsL A (hs ++ [hopOf x]) := by
  apply List.ext_getElem?
  intro j
  rw [List.getElem?_set]
  by_cases hj : j < A.length
  · have hy : A[j]? = some A[j] := List.getElem?_eq_getElem hj
    rw [unitsL_at hy, unitsL_at hy, List.count_append]
    by_cases e : i = j
    · subst e
      rw [h] at hy
      rw [if_pos rfl, if_pos (by rw [unitsL_len]; exact hj), ← Option.some.inj hy, List.count_singleton_self]
      simp
    · rw [if_neg e, List.count_singleton, if_neg]
      · simp
      · intro e2
        have e3 : hopOf x = hopOf A[j] := by simpa using e2
        exact e (dst_eq hd h hy (congrArg Prod.fst e3) (congrArg Prod.snd e3))
  · have h1 : ∀ hs, (unitsL A hs)[j]? = none := fun hs => List.getElem?_eq_none_iff.2 (by rw [unitsL_len]; omega)
    rw [h1, h1]
    split
    · rw [if_neg (by rw [unitsL_len]; omega)]
    · rfl
theorem units_perm {A : List ArcD} {hs hs' : List (Int × Int)} (h : ∀ a, hs.count a = hs'.count a) : unitsL A hs = unitsL A hs' := by
  unfold unitsL
  exact List.map_congr_left fun x _ => by rw [h]
def outC (A : List ArcD) (hs : List (Int × Int)) (v : Int) : Nat := hs.countP fun h => decide (h.1 = v) && isHop A h
def inC (A : List ArcD) (hs : List (Int × Int)) (v : Int) : Nat := hs.countP fun h => decide (h.2 = v) && isHop A h
theorem units_cons (x : ArcD) (A : List ArcD) (hs : List (Int × Int)) : unitsL (x :: A) hs = ((hs.count (hopOf x) : Nat) : Int) :: unitsL A hs := rfl
theorem out_zero (v : Int) : ∀ A : List ArcD, outF (A.zip (unitsL A [])) v = 0
  | [] => rfl
  | x :: A => by
    rw [units_cons, List.zip_cons_cons, outF, out_zero v A]
    simp
theorem in_zero (v : Int) : ∀ A : List ArcD, inF (A.zip (unitsL A [])) v = 0
  | [] => rfl
  | x :: A => by
    rw [units_cons, List.zip_cons_cons, inF, in_zero v A]
    simp
theorem isHop_cons {x : ArcD} {A : List ArcD} {h : Int × Int} : isHop (x :: A) h = (decide (hopOf x = h) || isHop A h) := by
  rw [Bool.eq_iff_iff]
  simp only [isHop_iff, Bool.or_eq_true, decide_eq_true_eq, List.mem_cons]
  constructor
  · rintro ⟨y, rfl | hy, e⟩
    · exact .inl e
    · exact .inr ⟨y, hy, e⟩
  · rintro (e | ⟨y, hy, e⟩)
    · exact ⟨x, .inl rfl, e⟩
    · exact ⟨y, .inr hy, e⟩
theorem dst_cons {x : ArcD} {A : List ArcD} (hd : Dst (x :: A)) : isHop A (hopOf x) = false ∧ Dst A := by
  obtain ⟨h1, h2⟩ := List.pairwise_cons.1 hd
  refine ⟨?_, h2⟩
  cases e : isHop A (hopOf x) with
  | false => rfl
  | true =>
    obtain ⟨y, hy, e2⟩ := isHop_iff.1 e
    exact absurd ⟨(congrArg Prod.fst e2).symm, (congrArg Prod.snd e2).symm⟩ (h1 y hy)
theorem count_add (h : Int × Int) (hs : List (Int × Int)) (a : Int × Int) : (((h :: hs).count a : Nat) : Int) = ((hs.count a : Nat) : Int) + (if a = h then 1 else 0) := by
  rw [List.count_cons]
  by_cases e : a = h
  · subst e
    simp
  · have e2 : (h == a) = false := by
      rw [beq_eq_false_iff_ne]
      exact fun k => e k.symm
    rw [e2, if_neg e]
    simp
theorem out_cons (h : Int × Int) (hs : List (Int × Int)) (v : Int) : ∀ A : List ArcD, Dst A → outF (A.zip (unitsL A (h :: hs))) v = outF (A.zip (unitsL A hs)) v + (if h.1 = v ∧ isHop A h = true then 1 else 0)
  | [], _ => by simp [unitsL, outF, isHop, isArc]
  | x :: A, hd => by
    obtain ⟨h1, h2⟩ := dst_cons hd
    have ih := out_cons h hs v A h2
    rw [units_cons, units_cons, List.zip_cons_cons, List.zip_cons_cons, outF, outF, ih, count_add]
    simp only [isHop_cons, Bool.or_eq_true, decide_eq_true_eq]
    by_cases e : hopOf x = h
    · subst e
      have : (hopOf x).1 = x.f := rfl
      rw [this, h1]
      by_cases e2 : x.f = v <;> simp [e2] <;> omega
    · by_cases e2 : x.f = v <;> simp [e, e2] <;> omega
theorem in_cons (h : Int × Int) (hs : List (Int × Int)) (v : Int) : ∀ A : List ArcD, Dst A → inF (A.zip (unitsL A (h :: hs))) v = inF (A.zip (unitsL A hs)) v + (if h.2 = v ∧ isHop A h = true then 1 else 0)
  | [], _ => by simp [unitsL, inF, isHop, isArc]
  | x :: A, hd => by
    obtain ⟨h1, h2⟩ := dst_cons hd
    have ih := in_cons h hs v A h2
    rw [units_cons, units_cons, List.zip_cons_cons, List.zip_cons_cons, inF, inF, ih, count_add]
    simp only [isHop_cons, Bool.or_eq_true, decide_eq_true_eq]
    by_cases e : hopOf x = h
    · subst e
      have : (hopOf x).2 = x.t := rfl
      rw [this, h1]
      by_cases e2 : x.t = v <;> simp [e2] <;> omega
    · by_cases e2 : x.t = v <;> simp [e, e2] <;> omega
theorem out_units {A : List ArcD} (hd : Dst A) (v : Int) : ∀ hs, outF (A.zip (unitsL A hs)) v = (outC A hs v : Nat)
  | [] => out_zero v A
  | h :: hs => by
    rw [out_cons h hs v A hd, out_units hd v hs]
    unfold outC
    rw [List.countP_cons]
    by_cases e : h.1 = v <;> cases e2 : isHop A h <;> simp [e]
theorem in_units {A : List ArcD} (hd : Dst A) (v : Int) : ∀ hs, inF (A.zip (unitsL A hs)) v = (inC A hs v : Nat)
  | [] => in_zero v A
  | h :: hs => by
    rw [in_cons h hs v A hd, in_units hd v hs]
    unfold inC
    rw [List.countP_cons]
    by_cases e : h.2 = v <;> cases e2 : isHop A h <;> simp [e]
theorem runs_units {A : List ArcD} {hs : List (Int × Int)} {h : Int × Int} (hh : h ∈ hs) (ha : isHop A h = true) : Runs (A.zip (unitsL A hs)) h.1 h.2 := by
  obtain ⟨x, hx, rfl⟩ := isHop_iff.1 ha
  obtain ⟨i, hi, rfl⟩ := List.getElem_of_mem hx
  have h1 : A[i]? = some A[i] := List.getElem?_eq_getElem hi
  refine ⟨_, List.mem_of_getElem? (zip_at h1 (unitsL_at h1)), rfl, rfl, ?_⟩
  have := List.count_pos_iff.2 hh
  dsimp only
  omega

/-! ### the nodes of a way -/
section
variable (W H : Int) (C : ByteArray) (G : List Int)
noncomputable def ndV (c : Int) (t : Nat) : Int := inNodeV W H C c (t : Int)
noncomputable def hopsT : Nat → List Int → List (Int × Int)
  | _, [] => []
  | t, [c] => (ndV W H C c t, ndV W H C c t + 1) :: (if G.contains c = true then [(ndV W H C c t + 1, 1)] else [(ndV W H C c t + 1, 2), (2, 1)])
  | t, c :: d :: L => (ndV W H C c t, ndV W H C c t + 1) :: (ndV W H C c t + 1, ndV W H C d (t + 1)) :: hopsT (t + 1) (d :: L)
noncomputable def hopsW (w : List Int) : List (Int × Int) := match w with
  | [] => []
  | c :: L => (0, ndV W H C c 0) :: hopsT W H C G 0 (c :: L)
noncomputable def hopsAll (Ws : List (List Int)) : List (Int × Int) := Ws.flatMap (hopsW W H C G)
end
section
variable {W H : Int} {C : ByteArray} {S G : List Int} {T : Nat} {Ws : List (List Int)}
theorem nd_free {c : Int} {t : Nat} (hc : freeV W H C c = true) (ht : t ≤ 20) : ndV W H C c t = (inN (mapG W H C).F (numG W H C c) t : Nat) := by
  have := inNode_is (numG_lt hc) ht
  rw [cellG_num hc] at this
  exact this
theorem nd_no {c : Int} {t : Nat} (hc : freeV W H C c = false) : ndV W H C c t = -1 := by
  unfold ndV inNodeV
  rw [if_neg (by rw [hc]; simp)]
theorem nd_odd (c : Int) {t : Nat} (ht : t ≤ 20) : (freeV W H C c = false ∧ ndV W H C c t = -1) ∨ (freeV W H C c = true ∧ ∃ n : Nat, ndV W H C c t = 3 + 2 * (n : Int)) := by
  cases h : freeV W H C c with
  | false => exact .inl ⟨rfl, nd_no h⟩
  | true =>
    refine .inr ⟨rfl, t * (mapG W H C).F + numG W H C c, ?_⟩
    rw [nd_free h ht]
    unfold inN
    omega
theorem nd_eq {c d : Int} {t u : Nat} (hc : freeV W H C c = true) (ht : t ≤ 20) (hu : u ≤ 20) (h : ndV W H C d u = ndV W H C c t) : d = c ∧ u = t := by
  cases hd : freeV W H C d with
  | false =>
    rw [nd_no hd, nd_free hc ht] at h
    omega
  | true =>
    rw [nd_free hc ht, nd_free hd hu] at h
    obtain ⟨h1, h2⟩ := inN_inj (numG_lt hd) (numG_lt hc) (by exact_mod_cast h : inN (mapG W H C).F (numG W H C d) u = inN (mapG W H C).F (numG W H C c) t)
    exact ⟨numG_inj hd hc h1, h2⟩
theorem hops_self : ∀ {L : List Int} {t i : Nat} {c : Int}, L[i]? = some c → (ndV W H C c (t + i), ndV W H C c (t + i) + 1) ∈ hopsT W H C G t L
  | [], _, _, _, h => by simp at h
  | [a], t, i, c, h => by
    cases i with
    | zero =>
      have : a = c := by simpa using h
      subst this
      simp [hopsT]
    | succ i => simp at h
  | a :: b :: L, t, i, c, h => by
    cases i with
    | zero =>
      have : a = c := by simpa using h
      subst this
      simp [hopsT]
    | succ i =>
      have := hops_self (t := t + 1) (L := b :: L) (i := i) (c := c) (by simpa using h)
      rw [show t + (i + 1) = t + 1 + i by omega]
      simp only [hopsT, List.mem_cons]
      exact .inr (.inr this)
theorem hops_step : ∀ {L : List Int} {t i : Nat} {c d : Int}, L[i]? = some c → L[i + 1]? = some d → (ndV W H C c (t + i) + 1, ndV W H C d (t + i + 1)) ∈ hopsT W H C G t L
  | [], _, _, _, _, h, _ => by simp at h
  | [a], t, i, c, d, _, h => by simp at h
  | a :: b :: L, t, i, c, d, h, h' => by
    cases i with
    | zero =>
      have e1 : a = c := by simpa using h
      have e2 : b = d := by simpa using h'
      subst e1 e2
      simp [hopsT]
    | succ i =>
      have := hops_step (t := t + 1) (L := b :: L) (i := i) (c := c) (d := d) (by simpa using h) (by simpa using h')
      rw [show t + (i + 1) = t + 1 + i by omega]
      simp only [hopsT, List.mem_cons]
      exact .inr (.inr this)
/-- What a hop of a way can be. -/
theorem hops_mem : ∀ {L : List Int} {t : Nat} {h : Int × Int}, h ∈ hopsT W H C G t L →
    (∃ i c, L[i]? = some c ∧ h = (ndV W H C c (t + i), ndV W H C c (t + i) + 1)) ∨ (∃ i c d, L[i]? = some c ∧ L[i + 1]? = some d ∧ h = (ndV W H C c (t + i) + 1, ndV W H C d (t + i + 1))) ∨
    (∃ i c, L[i]? = some c ∧ i + 1 = L.length ∧ ((G.contains c = true ∧ h = (ndV W H C c (t + i) + 1, 1)) ∨ (G.contains c = false ∧ (h = (ndV W H C c (t + i) + 1, 2) ∨ h = (2, 1)))))
  | [], _, _, h => by simp [hopsT] at h
  | [a], t, h, hh => by
    rw [hopsT] at hh
    rcases List.mem_cons.1 hh with e | hh
    · exact .inl ⟨0, a, rfl, e⟩
    · refine .inr (.inr ⟨0, a, rfl, rfl, ?_⟩)
      cases hg : G.contains a with
      | true =>
        rw [hg, if_pos rfl] at hh
        exact .inl ⟨rfl, List.mem_singleton.1 hh⟩
      | false =>
        rw [hg, if_neg (by decide)] at hh
        exact .inr ⟨rfl, by simpa using hh⟩
  | a :: b :: L, t, h, hh => by
    rw [hopsT] at hh
    rcases List.mem_cons.1 hh with e | hh
    · exact .inl ⟨0, a, rfl, e⟩
    · rcases List.mem_cons.1 hh with e | hh
      · exact .inr (.inl ⟨0, a, b, rfl, rfl, e⟩)
      · have e0 : ∀ i, t + 1 + i = t + (i + 1) := fun i => by omega
        rcases hops_mem hh with ⟨i, c, hc, e⟩ | ⟨i, c, d, hc, hd, e⟩ | ⟨i, c, hc, hl, e⟩
        · exact .inl ⟨i + 1, c, by simpa using hc, by rw [← e0]; exact e⟩
        · exact .inr (.inl ⟨i + 1, c, d, by simpa using hc, by simpa using hd, by rw [← e0]; exact e⟩)
        · exact .inr (.inr ⟨i + 1, c, by simpa using hc, by simp at hl ⊢; omega, by rw [← e0]; exact e⟩)
/-- No more hops leave a cell's second node than come to it. -/
theorem hops_le {A : List ArcD} {c : Int} {t : Nat} (hc : freeV W H C c = true) (ht : t ≤ 20) (ha : isHop A (ndV W H C c t, ndV W H C c t + 1) = true) : ∀ {L : List Int} {u : Nat}, u + L.length ≤ 21 →
    outC A (hopsT W H C G u L) (ndV W H C c t + 1) ≤ inC A (hopsT W H C G u L) (ndV W H C c t + 1)
  | [], _, _ => Nat.le_refl _
  | [a], u, hu => by
    simp only [List.length_singleton] at hu
    have hv : ∃ n : Nat, ndV W H C c t = 3 + 2 * (n : Int) := by
      rcases nd_odd c ht with ⟨h, _⟩ | ⟨_, h⟩
      · rw [hc] at h; cases h
      · exact h
    obtain ⟨n, hn⟩ := hv
    have ho := nd_odd (W := W) (H := H) (C := C) a (t := u) (by omega)
    rw [hopsT]
    unfold outC inC
    by_cases e : ndV W H C a u = ndV W H C c t
    · rw [e]
      have e1 : ¬ ndV W H C c t = ndV W H C c t + 1 := by omega
      have e2 : ¬ (2 : Int) = ndV W H C c t + 1 := by omega
      have e5 : ¬ (1 : Int) = ndV W H C c t + 1 := by omega
      cases G.contains a with
      | true =>
        simp only [if_true, List.countP_cons, List.countP_nil, ha, e1, e5, decide_false, decide_true, Bool.true_and, Bool.false_and, Bool.false_eq_true, if_false]
        split <;> omega
      | false =>
        simp only [if_true, List.countP_cons, List.countP_nil, ha, e1, e2, e5, decide_false, decide_true, Bool.true_and, Bool.false_and, Bool.false_eq_true, if_false]
        split <;> omega
    · have e1 : ¬ ndV W H C a u = ndV W H C c t + 1 := by
        rcases ho with ⟨_, h⟩ | ⟨_, k, h⟩ <;> omega
      have e2 : ¬ ndV W H C a u + 1 = ndV W H C c t + 1 := by omega
      have e3 : ¬ (2 : Int) = ndV W H C c t + 1 := by omega
      split <;> simp [List.countP_cons, e1, e2, e3]
  | a :: b :: L, u, hu => by
    simp only [List.length_cons] at hu
    have ih := hops_le hc ht ha (L := b :: L) (u := u + 1) (by simp only [List.length_cons]; omega)
    have hv : ∃ n : Nat, ndV W H C c t = 3 + 2 * (n : Int) := by
      rcases nd_odd c ht with ⟨h, _⟩ | ⟨_, h⟩
      · rw [hc] at h; cases h
      · exact h
    obtain ⟨n, hn⟩ := hv
    have ho := nd_odd (W := W) (H := H) (C := C) a (t := u) (by omega)
    have ho2 := nd_odd (W := W) (H := H) (C := C) b (t := u + 1) (by omega)
    have e4 : ¬ ndV W H C b (u + 1) = ndV W H C c t + 1 := by
      rcases ho2 with ⟨_, h⟩ | ⟨_, k, h⟩ <;> omega
    have e1 : ¬ ndV W H C a u = ndV W H C c t + 1 := by
      rcases ho with ⟨_, h⟩ | ⟨_, k, h⟩ <;> omega
    rw [hopsT]
    unfold outC inC at ih ⊢
    simp only [List.countP_cons, e1, e4, decide_false, Bool.false_and, Bool.false_eq_true, if_false, Nat.add_zero]
    by_cases e : ndV W H C a u = ndV W H C c t
    · rw [e]
      simp only [ha, decide_true, Bool.true_and, if_true]
      split <;> omega
    · have e2 : ¬ ndV W H C a u + 1 = ndV W H C c t + 1 := by omega
      simp only [e2, decide_false, Bool.false_and, Bool.false_eq_true, if_false, Nat.add_zero]
      exact ih
end

end Go.Proofs.YtnbbhdbcapfbkaaDoor

namespace Go.Proofs.YtnbbhdbcapfbkaaDoor
set_option maxRecDepth 4096
open Go.ChangeShapes Go.WideShapes Go.ChangeAt Go.RowKit Go.Maps Go.ChangeMaps
open Go.WideElems (Fit rd rg pl rd_val elemAt entry_then_store)

theorem pairKey : Go.WideMaps.ArrKey Tryd.prog 84 3 2 := ⟨Tryd.underlying84, by kernel_rfl, by kernel_rfl, by kernel_rfl⟩
theorem pairLaw : Keyed Tryd.prog 84 := Keyed.of_law pairKey.law
def pairL (x y : Int) : Lit := .string (Go.keyBytes [.int .i64 x, .int .i64 y])
theorem pair_reads {x y : Int} (hx : (Lit.int .i64 x).wf = true) (hy : (Lit.int .i64 y).wf = true) : keyOf Tryd.prog 84 (.agg #[.int .i64 x, .int .i64 y]) = some (pairL x y) :=
  Go.WideMaps.keyOf_pair pairKey Tryd.underlying3 ⟨_, rfl⟩ hx hy
theorem pair_inj {x y x' y' : Int} (hx : (Lit.int .i64 x).wf = true) (hy : (Lit.int .i64 y).wf = true) (hx' : (Lit.int .i64 x').wf = true) (hy' : (Lit.int .i64 y').wf = true) (h : pairL x y = pairL x' y') : x = x' ∧ y = y' := by
  have h1 := pair_reads hx hy
  rw [h] at h1
  have h2 := pairLaw.inj h1 (pair_reads hx' hy')
  simpa using h2

theorem zeroI (w : World) : (zeroValue 3).run Tryd.prog w = .ok (.int .i64 0) w := by kernel_rfl

/-- Block B is a map that tells how often each pair stands in hs. -/
def CntMap (w : World) (B n : Nat) (hs : List (Int × Int)) : Prop :=
  ∃ D : DataW Value, w.ownsMap Tryd.prog 84 (plainElem Tryd.prog 3) B n D ∧ ∀ x y, (Lit.int .i64 x).wf = true → (Lit.int .i64 y).wf = true → D.atKey (pairL x y) (.lit (.int .i64 0)) = .lit (.int .i64 ((hs.count (x, y) : Nat) : Int))
section
variable {w w' : World} {B n : Nat} {hs : List (Int × Int)}
theorem CntMap.made (w : World) : CntMap (w.alloc (.map #[] 0)) w.heap.size 0 [] :=
  ⟨.map [], World.ownsMap_made _ _ _ _, fun x y _ _ => by
    have := atKey_of_not_has (D := (.map [] : DataW Value)) (k := pairL x y) rfl (.lit (.int .i64 0))
    rw [this]
    rfl⟩
theorem CntMap.kept {row : Option Nat} (h : CntMap w B n hs) (hg : w.grownBy w' row) (hne : some B ≠ row) : CntMap w' B n hs := by
  obtain ⟨D, h1, h2⟩ := h
  exact ⟨D, h1.kept hg hne, h2⟩
theorem CntMap.lt (h : CntMap w B n hs) : B < w.heap.size := by
  obtain ⟨D, h1, _⟩ := h
  exact h1.lt
theorem CntMap.below (h : CntMap w B n hs) (g : Below w.heap.size w w') : CntMap w' B n hs := by
  obtain ⟨D, ⟨es, clock, hb, F, hs, hD⟩, h2⟩ := h
  exact ⟨D, ⟨es, clock, (g.block B (Array.getElem?_eq_some_iff.1 hb).1).trans hb, F, hs, hD⟩, h2⟩
theorem CntMap.look (h : CntMap w B n hs) {x y : Int} (hx : (Lit.int .i64 x).wf = true) (hy : (Lit.int .i64 y).wf = true) :
    (Instr.lookup 82 (.map (some B)) (.agg #[.int .i64 x, .int .i64 y]) false).run Tryd.prog w = .ok (.int .i64 ((hs.count (x, y) : Nat) : Int)) w := by
  obtain ⟨D, h1, h2⟩ := h
  obtain ⟨c, hrun, hat, _⟩ := h1.lookup_int pairLaw Tryd.underlying82 Tryd.underlying3 (zeroI w) (pair_reads hx hy)
  rw [h2 x y hx hy] at hat
  have hat2 : ((hs.count (x, y) : Nat) : Int) = c := by simpa using hat
  rw [hrun, hat2]
theorem CntMap.put (h : CntMap w B n hs) (hn : n < maxLen) {x y : Int} (hx : (Lit.int .i64 x).wf = true) (hy : (Lit.int .i64 y).wf = true) {c : Int} (hc : (Lit.int .i64 c).wf = true) {hs' : List (Int × Int)} (h1 : ((hs'.count (x, y) : Nat) : Int) = c) (h2 : ∀ p, p ≠ (x, y) → hs'.count p = hs.count p) :
    ∃ w1, (Instr.mapUpdate 82 (.map (some B)) (.agg #[.int .i64 x, .int .i64 y]) (.int .i64 c)).run Tryd.prog w = .ok () w1 ∧ CntMap w1 B (n + 1) hs' ∧ w.grownBy w1 (some B) := by
  obtain ⟨D, hD, hat⟩ := h
  obtain ⟨w1, hrun, hown, hg⟩ := hD.update pairLaw Tryd.underlying82 hn (pair_reads hx hy) (plainElem_int Tryd.underlying3 hc)
  refine ⟨w1, hrun, ⟨_, hown, fun x' y' hx' hy' => ?_⟩, hg⟩
  by_cases e : (x', y') = (x, y)
  · injection e with e1 e2
    subst e1 e2
    rw [atKey_put_same hD.isMap (pairLaw.key (pair_reads hx hy)), h1]
  · rw [atKey_put_other (fun k => e (by obtain ⟨a, b⟩ := pair_inj hx' hy' hx hy k; rw [a, b])), hat x' y' hx' hy', h2 _ e]
/-- What 'mapEntry' leaves is what a store of the entry's value would leave. -/
theorem entry_same {u : World} {es : Array MapEntry} {clock : Nat} (hb : u.heap[B]? = some (.map es clock)) (F : Fit Tryd.prog 84 (plainElem (H := Value) Tryd.prog 3) es clock) {key : Value} {kl : Lit} (hkey : keyOf Tryd.prog 84 key = some kl) {v0 s : Value} {u1 : World}
    (hrun : (Instr.mapEntry 82 (.map (some B)) key).run Tryd.prog u = .ok (.tuple #[v0, s]) u1) : (Instr.mapUpdate 82 (.map (some B)) key v0).run Tryd.prog u = .ok () u1 := by
  have ht := Tryd.underlying82
  rcases pairKey.law.find u hkey es.toList F.keys with ⟨h1, h2⟩ | ⟨j, e0, h1, h2, h3⟩
  · simp [Instr.mapEntry, run_underlying ht, MapKept.run_getObj_map hb, pairKey.law.check u false hkey, h1, MapKept.run_setObj_map _ hb, Result.andThen] at hrun
    obtain ⟨⟨rfl, _⟩, rfl⟩ := hrun
    simp [Instr.mapUpdate, run_underlying ht, MapKept.run_getObj_map hb, pairKey.law.check u false hkey, h1, MapKept.run_setObj_map _ hb, Result.andThen]
  · have hj : es[j]? = some e0 := by simpa using h2
    simp [Instr.mapEntry, run_underlying ht, MapKept.run_getObj_map hb, pairKey.law.check u false hkey, h1, hj, h3, pairKey.law.stays u hkey, MapKept.run_setObj_map _ hb, Result.andThen] at hrun
    obtain ⟨⟨rfl, _⟩, rfl⟩ := hrun
    simp [Instr.mapUpdate, run_underlying ht, MapKept.run_getObj_map hb, pairKey.law.check u false hkey, h1, hj, h3, pairKey.law.stays u hkey, MapKept.run_setObj_map _ hb, Result.andThen]
    congr 2
    apply Array.ext'
    rw [Array.toList_modify, Array.toList_modify, modify_eq_set _ _ _ _ h2, modify_eq_set _ _ _ _ h2]
/-- What 'mapEntry' hands over is what a look-up would. -/
theorem entry_look {u : World} {es : Array MapEntry} {clock : Nat} (hb : u.heap[B]? = some (.map es clock)) (F : Fit Tryd.prog 84 (plainElem (H := Value) Tryd.prog 3) es clock) {key : Value} {kl : Lit} (hkey : keyOf Tryd.prog 84 key = some kl) {v0 s : Value} {u1 : World}
    (hrun : (Instr.mapEntry 82 (.map (some B)) key).run Tryd.prog u = .ok (.tuple #[v0, s]) u1) : (Instr.lookup 82 (.map (some B)) key false).run Tryd.prog u = .ok v0 u := by
  have ht := Tryd.underlying82
  rcases pairKey.law.find u hkey es.toList F.keys with ⟨h1, h2⟩ | ⟨j, e0, h1, h2, h3⟩
  · simp [Instr.mapEntry, run_underlying ht, MapKept.run_getObj_map hb, pairKey.law.check u false hkey, h1, MapKept.run_setObj_map _ hb, Result.andThen] at hrun
    obtain ⟨⟨rfl, _⟩, rfl⟩ := hrun
    simp [Instr.lookup, run_underlying ht, MapKept.run_getObj_map hb, pairKey.law.check u _ hkey, h1, Result.andThen]
  · have hj : es[j]? = some e0 := by simpa using h2
    simp [Instr.mapEntry, run_underlying ht, MapKept.run_getObj_map hb, pairKey.law.check u false hkey, h1, hj, h3, pairKey.law.stays u hkey, MapKept.run_setObj_map _ hb, Result.andThen] at hrun
    obtain ⟨⟨rfl, _⟩, rfl⟩ := hrun
    simp [Instr.lookup, run_underlying ht, MapKept.run_getObj_map hb, pairKey.law.check u _ hkey, h1, Result.andThen]
theorem CntMap.block (h : CntMap w B n hs) (e : w'.heap[B]? = w.heap[B]?) : CntMap w' B n hs := by
  obtain ⟨D, ⟨es, clock, hb, F, hs, hD⟩, h2⟩ := h
  exact ⟨D, ⟨es, clock, e.trans hb, F, hs, hD⟩, h2⟩
/-- One pair more. -/
theorem CntMap.entry (h : CntMap w B n hs) (hn : n < maxLen) {x y : Int} (hx : (Lit.int .i64 x).wf = true) (hy : (Lit.int .i64 y).wf = true) (hc0 : (Lit.int .i64 ((hs.count (x, y) : Nat) : Int)).wf = true) (hc : (Lit.int .i64 (((hs.count (x, y) : Nat) : Int) + 1)).wf = true) :
    ∃ (v0 : Value) (st : Nat) (w1 : World), (Instr.mapEntry 82 (.map (some B)) (.agg #[.int .i64 x, .int .i64 y])).run Tryd.prog w = .ok (.tuple #[v0, goInt st]) w1 ∧ CntMap w1 B (n + 1) hs ∧ w.grownBy w1 (some B) ∧
      ∀ w2 : World, w2.heap[B]? = w1.heap[B]? → ∃ w3, (Instr.entryStore 82 (.map (some B)) (goInt st) (.int .i64 (((hs.count (x, y) : Nat) : Int) + 1))).run Tryd.prog w2 = .ok () w3 ∧ CntMap w3 B (n + 1) (hs ++ [(x, y)]) ∧ w2.grownBy w3 (some B) := by
  have hC := h
  obtain ⟨D, ⟨es, clock, hb, F, hsz, hD⟩, hat⟩ := h
  obtain ⟨v0, st, es1, clock1, hrun, hv0, hst⟩ := entry_then_store pairKey.law Tryd.underlying82 zeroI hb F (pair_reads hx hy)
  have hv : v0 = .int .i64 ((hs.count (x, y) : Nat) : Int) := by
    have hl := hC.look hx hy
    rw [entry_look hb F (pair_reads hx hy) hrun] at hl
    injection hl
  have hup := entry_same hb F (pair_reads hx hy) hrun
  rw [hv] at hup
  obtain ⟨wa, ha, hCa, hga⟩ := hC.put hn hx hy hc0 (hs' := hs) rfl (fun _ _ => rfl)
  rw [ha] at hup
  injection hup with _ hw1
  refine ⟨v0, st, _, hrun, hw1 ▸ hCa, hw1 ▸ hga, fun w2 hw2 => ?_⟩
  have hb1 : (setBlock w B (.map es1 clock1)).heap[B]? = some (.map es1 clock1) := heap_setBlock_same hb _
  have hb2 := hw2.trans hb1
  obtain ⟨es', clock', hr1, hr2⟩ := hst w2 (.int .i64 (((hs.count (x, y) : Nat) : Int) + 1)) hb2
  obtain ⟨wb, hb3, hCb, _⟩ := hC.put hn hx hy hc (hs' := hs ++ [(x, y)]) (by rw [List.count_append, List.count_singleton_self]; rfl) (fun p hp => by
    rw [List.count_append, List.count_singleton, if_neg (by simpa using fun e => hp e.symm)]
    rfl)
  rw [hb3] at hr2
  injection hr2 with _ hwb
  refine ⟨_, hr1, hCb.block ?_, ⟨rfl, rfl, rfl, by simp [setBlock], fun i _ hi => heap_setBlock_other hb2 _ (fun e => hi (by rw [e]))⟩⟩
  rw [hwb, heap_setBlock_same hb2, heap_setBlock_same hb]
end

end Go.Proofs.YtnbbhdbcapfbkaaDoor

namespace Go.Proofs.YtnbbhdbcapfbkaaDoor
set_option maxRecDepth 4096
open Go.ChangeShapes Go.WideShapes Go.ChangeAt Go.RowKit

def okI (S : List Int) (T : Nat) (Ws : List (List Int)) (i : Nat) : Bool := match Ws[i]?, S[i]? with
  | some L, some c => decide (L.length = T + 1) && decide (L[0]? = some c)
  | _, _ => false
def formV (S : List Int) (T : Nat) (Ws : List (List Int)) : Bool := decide (Ws.length = S.length) && (List.range Ws.length).all (okI S T Ws)
section
variable {S : List Int} {T : Nat} {Ws : List (List Int)}
theorem form_len (h : Ws.length ≠ S.length) : formV S T Ws = false := by
  unfold formV
  rw [decide_eq_false h]
  rfl
theorem form_no {j : Nat} (hj : j < Ws.length) (h : okI S T Ws j = false) : formV S T Ws = false := by
  unfold formV
  rw [Bool.and_eq_false_iff]
  right
  cases e : (List.range Ws.length).all (okI S T Ws) with
  | false => rfl
  | true =>
    have := List.all_eq_true.1 e j (List.mem_range.2 hj)
    rw [h] at this
    cases this
theorem form_yes (hl : Ws.length = S.length) (h : ∀ k, k < Ws.length → okI S T Ws k = true) : formV S T Ws = true := by
  unfold formV
  rw [decide_eq_true hl, Bool.true_and, List.all_eq_true]
  exact fun k hk => h k (List.mem_range.1 hk)
theorem okI_at {i : Nat} {L : List Int} {c : Int} (hL : Ws[i]? = some L) (hc : S[i]? = some c) : okI S T Ws i = (decide (L.length = T + 1) && decide (L[0]? = some c)) := by
  unfold okI
  rw [hL, hc]
end

end Go.Proofs.YtnbbhdbcapfbkaaDoor

