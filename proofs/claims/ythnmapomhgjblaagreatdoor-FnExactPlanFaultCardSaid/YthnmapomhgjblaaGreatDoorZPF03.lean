/-
  CONTRACTS of the laws' own helpers szPlan, toPlan, eqPlan; an argument that is a plan, opened. No law is proved here.
  The numbers of a list in ascending order, each once: as the library's sort and compact leave them, and as two such lists are merged. Plain facts; no statement is proved here.
-/
import Derived.Test.YthnmapomhgjblaaGreatDoorZPF01
import Derived.Test.YthnmapomhgjblaaGreatDoorZPF02
import Derived.Test.YthnmapomhgjblaaGreatDoorZPF00
import Derived.Lib.SlicesCompact
namespace Go.Proofs.YthnmapomhgjblaaGreatDoor
set_option maxRecDepth 4096
open Go.ChangeShapes Go.WideShapes Go.ChangeAt Go.RowKit Go.Joins

theorem WOwn.put {w : World} {lo hi r i : Nat} {v u : Value} {Ws : List (List Int)} (h : WOwn w lo hi v Ws) (hr : r < lo) : WOwn (w.setCell ⟨r, i, none⟩ u) lo hi v Ws := by
  obtain ⟨vs, h1, h2, h3⟩ := h
  have hg : w.grownBy (w.setCell ⟨r, i, none⟩ u) (some r) := ⟨rfl, rfl, rfl, by simp [World.setCell], fun k _ hk => heap_setCell_other w ⟨r, i, none⟩ k u (fun e => hk (by simp [e]))⟩
  refine ⟨vs, own_put1 h1 hr, h2, h3.grown hg fun x hx => ?_⟩
  obtain ⟨j, hj, rfl⟩ := List.getElem_of_mem hx
  have hj2 : j < Ws.length := h3.len ▸ hj
  obtain ⟨l, k, hl, _, hrow⟩ := h3.at (i := j) (List.getElem?_eq_getElem hj) (List.getElem?_eq_getElem hj2)
  cases hb : (vs[j]).ownBlock with
  | none => exact .inl rfl
  | some m =>
    refine .inr fun e => ?_
    have := (hrow.own.lt m hb).1
    have := Option.some.inj e
    dsimp only [rowJ] at *
    omega
theorem box3 {w w1 : World} {a b c : Value} {t : TypeId} {g : Nat} (hb : Below w.heap.size w w1) (h : w.heap[g]? = some (.cells #[a, b, c] t)) :
    w1.cell? ⟨g, 0, none⟩ = some a ∧ w1.cell? ⟨g, 1, none⟩ = some b ∧ w1.cell? ⟨g, 2, none⟩ = some c ∧ w1.frozen? ⟨g, 0, none⟩ = false ∧ w1.frozen? ⟨g, 1, none⟩ = false ∧ w1.frozen? ⟨g, 2, none⟩ = false := by
  have h3 : w1.heap[g]? = some (.cells #[a, b, c] t) := (hb.block g (Array.getElem?_eq_some_iff.1 h).1).trans h
  refine ⟨?_, ?_, ?_, ?_, ?_, ?_⟩
  · rw [cell_of_row _ _ _ _ _ _ h3]; rfl
  · rw [cell_of_row _ _ _ _ _ _ h3]; rfl
  · rw [cell_of_row _ _ _ _ _ _ h3]; rfl
  · simp [World.frozen?, h3]
  · simp [World.frozen?, h3]
  · simp [World.frozen?, h3]

/-- A plan came back, its ways in memory of the call's own. -/
def PlanBack (w : World) (T M : Int) (Ws : List (List Int)) (e : Ending) (w' : World) : Prop :=
  ∃ a c, e = .returned (.agg #[.int .i64 T, .int .i64 M, .slice a Ws.length c]) ∧ WaysAt w' (.slice a Ws.length c) Ws ∧ Below w.heap.size w w'

theorem toPlanC (T M : Int) (v : Value) (Ws : List (List Int)) (w : World) (hv : ArgW w v Ws) (hW : Ws.length ≤ 2000000) (hL : ∀ L ∈ Ws, L.length ≤ 2000000) :
    Calls Tryz.prog 18 #[.agg #[.int .i64 T, .int .i64 M, v]] w (PlanBack w T M Ws) := by
  have hB := ((((Below.refl w.heap.size w).alloc (Nat.le_refl _) (.cells #[.int .i64 T, .int .i64 M, v] 39)).alloc (by simp) (.cells #[.int .i64 0, .int .i64 0, .slice none 0 0] 29)).alloc (by simp; omega) (.cells #[.int .i64 T, .int .i64 M, .slice none 0 0] 29))
  have HV := Lib.hid (argW_below hv hB)
  clear hv
  go_enter Tryz.func18, Tryz.ntmps18
  go_wp2_with fail
  refine (toWays v Ws _ HV.out hW hL).mono ?_
  rintro e w3 ⟨u, rfl, hown, hb⟩
  obtain ⟨q0, q1, q2, z0, z1, z2⟩ := box3 (g := w.heap.size + 1 + 1) hb (by
    have := heap_alloc_new ((w.alloc (.cells #[.int .i64 T, .int .i64 M, v] 39)).alloc (.cells #[.int .i64 0, .int .i64 0, .slice none 0 0] 29)) (.cells #[.int .i64 T, .int .i64 M, .slice none 0 0] 29)
    simpa using this)
  obtain ⟨r0, r1, r2, y0, y1, y2⟩ := box3 (g := w.heap.size + 1) (a := .int .i64 0) (b := .int .i64 0) (c := .slice none 0 0) (t := 29) hb (by
    rw [Below.heap_alloc _ _ _ (by simp)]
    have := heap_alloc_new (w.alloc (.cells #[.int .i64 T, .int .i64 M, v] 39)) (.cells #[.int .i64 0, .int .i64 0, .slice none 0 0] 29)
    simpa using this)
  obtain ⟨au, cu, rfl⟩ := hown.form
  have HO := Lib.hid hown
  have HB3 := Lib.hid (hB.trans (hb.mono hB.size))
  clear hown hb hB
  go_wp2_with fail
  refine bodyPost_ret (v := .agg #[.int .i64 T, .int .i64 M, .slice au Ws.length cu]) (by simp [results, Tryz.results18, go_sem, r0, r1, r2]) rfl ⟨_, _, rfl, ?_, ?_⟩
  · exact ((((HO.out.put (r := w.heap.size + 1 + 1) (by simp)).put (r := w.heap.size + 1) (by simp)).put (r := w.heap.size + 1) (by simp)).put (r := w.heap.size + 1) (by simp)).at
  · exact (((HB3.out.setCell (by simp; omega) _).setCell (by simp) _).setCell (by simp) _).setCell (by simp) _

theorem szPlanC (T M : Int) (v : Value) (Ws : List (List Int)) (left : Int) (h0 : 0 ≤ left) (h1 : left ≤ 1048576) (hW : Ws.length ≤ 9223372036854775807) (hL : ∀ L ∈ Ws, L.length ≤ 9223372036854775807) (w : World) (hv : ArgW w v Ws) :
    Calls Tryz.prog 14 #[.agg #[.int .i64 T, .int .i64 M, v], .int .i64 left] w (Made w (.int .i64 (szV Ws left))) := by
  have hB := (Below.refl w.heap.size w).alloc (Nat.le_refl _) (.cells #[.int .i64 T, .int .i64 M, v] 39)
  have HC := Lib.hid (szWays v Ws left h0 h1 hW hL _ (argW_below hv hB))
  have HB := Lib.hid hB
  obtain ⟨z, HZ⟩ : ∃ z, Hid (szV Ws left = z) := ⟨_, rfl⟩
  have hzm : z < 0 → z = -1 := fun h => by
    rw [← HZ.out] at h ⊢
    unfold szV at h ⊢
    split at h
    · omega
    · rename_i hh
      rw [if_neg hh]
  rw [HZ.out] at HC ⊢
  clear hv hB
  by_cases hz : z < 0
  · obtain rfl := hzm hz
    go_enter Tryz.func14, Tryz.ntmps14
    go_wp2_with fail
    refine HC.out.mono ?_
    rintro e w1 ⟨rfl, hb⟩
    have HB1 := Lib.hid (HB.out.trans (hb.mono HB.out.size))
    clear hb
    go_wp2_with fail
    go_ret
    exact ⟨rfl, HB1.out⟩
  · clear hzm
    go_enter Tryz.func14, Tryz.ntmps14
    go_wp2_with fail
    refine HC.out.mono ?_
    rintro e w1 ⟨rfl, hb⟩
    have HB1 := Lib.hid (HB.out.trans (hb.mono HB.out.size))
    clear hb
    go_wp2_with fail
    go_ret
    exact ⟨rfl, HB1.out⟩

theorem eqPlanC (T M : Int) (v1 v2 : Value) (Ws : List (List Int)) (w : World) (h1 : WaysAt w v1 Ws) (h2 : WaysAt w v2 Ws) (hW : Ws.length ≤ 2000000) (hL : ∀ L ∈ Ws, L.length ≤ 2000000) :
    Calls Tryz.prog 20 #[.agg #[.int .i64 T, .int .i64 M, v1], .agg #[.int .i64 T, .int .i64 M, v2]] w (Made w (.bool true)) := by
  have hB := ((Below.refl w.heap.size w).alloc (Nat.le_refl _) (.cells #[.int .i64 T, .int .i64 M, v1] 29)).alloc (by simp) (.cells #[.int .i64 T, .int .i64 M, v2] 29)
  have HC := Lib.hid (eqWays v1 v2 Ws _ (waysAt_on h1 hB) (waysAt_on h2 hB) hW hL)
  have HB := Lib.hid hB
  have hTT : (T != T) = false := by simp
  have hMM : (M != M) = false := by simp
  obtain ⟨a1, c1, rfl, _⟩ := h1
  obtain ⟨a2, c2, rfl, _⟩ := h2
  clear hB
  go_enter Tryz.func20, Tryz.ntmps20
  go_wp2_with fail
  refine HC.out.mono ?_
  rintro e w1 ⟨rfl, hb⟩
  have HB1 := Lib.hid (HB.out.trans (hb.mono HB.out.size))
  clear hb
  go_wp2_with fail
  go_ret
  exact ⟨rfl, HB1.out⟩

section
variable {H : Type} {enc : TypeId × Value → H}
/-- A slice of ways that lies in a struct. -/
theorem open_ways_cell {w : World} {n : Nat} {v : Value} {y : DataW H × List MemPlace} (h : DataW.trod enc Tryz.prog w 0 (fun _ => true) true n 37 [v] = some y) :
    ∃ Ws, ArgW w v Ws ∧ (Ws.length ≤ maxLen ∧ ∀ L ∈ Ws, L.length ≤ maxLen) := by
  rcases open_slice_fields Tryz.underlying37 Tryz.underlying100 (by kernel_rfl) (by kernel_rfl) h with hcs | ⟨a, len, cap, hcs, hl, hm, hfl⟩
  · simp only [List.cons.injEq, and_true] at hcs
    subst hcs
    exact ⟨[], ⟨none, 0, rfl, .inl rfl⟩, Nat.zero_le _, fun L hL => by cases hL⟩
  · simp only [List.cons.injEq, and_true] at hcs
    subst hcs
    obtain ⟨Ws, hA, hAt⟩ := list_of (Q := fun j (L : List Int) => (∃ u, w.cell? (a.add j) = some u ∧ ArgI w u L) ∧ L.length ≤ maxLen) len (fun i hi => by
      obtain ⟨v0, n0, y0, c0, t0⟩ := hfl i hi 0 _ rfl
      obtain ⟨L, h1, h2⟩ := open_ints_cell t0
      exact ⟨L, ⟨v0, by simpa using c0, h1⟩, h2⟩)
    refine ⟨Ws, ⟨some a, cap, by rw [hA], ?_⟩, by omega, fun L hL => ?_⟩
    · by_cases h0 : Ws.length = 0
      · exact .inl h0
      · obtain ⟨x, hx⟩ : ∃ x, Ws[0]? = some x := ⟨_, List.getElem?_eq_getElem (by omega)⟩
        obtain ⟨⟨u, hu, _⟩, _⟩ := hAt 0 x hx
        have hb := block_lt_of_cell hu
        rw [blk_add] at hb
        exact .inr ⟨a, rfl, hb, fun i L hL => (hAt i L hL).1⟩
    · obtain ⟨i, hi, rfl⟩ := List.getElem_of_mem hL
      exact (hAt i _ (List.getElem?_eq_getElem hi)).2
theorem open_arg_plan {w : World} {r : Reach} {b0 : Nat} {v : Value} {d : DataW H} {ps : List MemPlace} (hv : Value.okWide Tryz.prog w r b0 39 v) (h : DataW.Trod enc Tryz.prog w 0 (fun _ => true) true 39 v d ps) :
    ∃ (T M : Int) (u : Value) (Ws : List (List Int)), v = .agg #[.int .i64 T, .int .i64 M, u] ∧ ArgW w u Ws ∧ (Ws.length ≤ maxLen ∧ ∀ L ∈ Ws, L.length ≤ maxLen) := by
  obtain ⟨v0, v1, v2, y0, y1, y2, n, rfl, _, _, g0, g1, g2⟩ := open_agg3 Tryz.underlying39 (by kernel_rfl) (by kernel_rfl) hv h
  obtain ⟨T, e, _, _⟩ := DataW.trod_int Tryz.underlying3 g0
  simp only [List.cons.injEq, and_true] at e
  subst e
  obtain ⟨M, e, _, _⟩ := DataW.trod_int Tryz.underlying3 g1
  simp only [List.cons.injEq, and_true] at e
  subst e
  obtain ⟨Ws, hA, hl⟩ := open_ways_cell g2
  exact ⟨T, M, v2, Ws, rfl, hA, hl⟩
end

end Go.Proofs.YthnmapomhgjblaaGreatDoor

namespace Go.Proofs.YthnmapomhgjblaaGreatDoor
set_option maxRecDepth 4096
open Go.Lib

def onceL (L : List Int) : List Int := Lib.compact (L.mergeSort fun x y => decide (x ≤ y))
theorem up_same : ∀ {A B : List Int}, A.Pairwise (· < ·) → B.Pairwise (· < ·) → (∀ x, x ∈ A ↔ x ∈ B) → A = B
  | [], [], _, _, _ => rfl
  | [], b :: B, _, _, h => by have := (h b).2 (List.mem_cons_self ..); cases this
  | a :: A, [], _, _, h => by have := (h a).1 (List.mem_cons_self ..); cases this
  | a :: A, b :: B, hA, hB, h => by
    obtain ⟨a1, a2⟩ := List.pairwise_cons.1 hA
    obtain ⟨b1, b2⟩ := List.pairwise_cons.1 hB
    have e : a = b := by
      rcases List.mem_cons.1 ((h a).1 (List.mem_cons_self ..)) with e | e
      · exact e
      · rcases List.mem_cons.1 ((h b).2 (List.mem_cons_self ..)) with e2 | e2
        · exact e2.symm
        · have := b1 a e
          have := a1 b e2
          omega
    subst e
    congr 1
    refine up_same a2 b2 fun x => ?_
    have hx := h x
    simp only [List.mem_cons] at hx
    constructor
    · intro k
      rcases hx.1 (.inr k) with rfl | k2
      · have := a1 x k; omega
      · exact k2
    · intro k
      rcases hx.2 (.inr k) with rfl | k2
      · have := b1 x k; omega
      · exact k2
theorem comp_inv {d : Array Int} (hd : ∀ i j, i ≤ j → j < d.size → d[i]! ≤ d[j]!) : ∀ m, m ≤ d.size → (compactUpTo d m).Pairwise (· < ·) ∧ (∀ x, x ∈ compactUpTo d m ↔ ∃ j, j < m ∧ d[j]! = x)
  | 0, _ => by
    refine ⟨List.Pairwise.nil, fun x => Iff.intro (fun h => ?_) ?_⟩
    · unfold compactUpTo at h
      simp at h
    · rintro ⟨j, hj, _⟩
      omega
  | m + 1, hm => by
    obtain ⟨h1, h2⟩ := comp_inv hd m (by omega)
    rw [compactUpTo_succ]
    by_cases hk : keeps d m = true
    · rw [if_pos hk]
      constructor
      · refine List.pairwise_append.2 ⟨h1, List.pairwise_singleton _ _, fun x hx y hy => ?_⟩
        obtain rfl := List.mem_singleton.1 hy
        obtain ⟨j, hj, rfl⟩ := (h2 x).1 hx
        have hne : d[m]! ≠ d[m - 1]! := by
          unfold keeps at hk
          rcases of_decide_eq_true hk with h | h
          · omega
          · exact h
        have h3 := hd j (m - 1) (by omega) (by omega)
        have h4 := hd (m - 1) m (by omega) (by omega)
        omega
      · intro x
        rw [List.mem_append, h2, List.mem_singleton]
        constructor
        · rintro (⟨j, hj, e⟩ | e)
          · exact ⟨j, by omega, e⟩
          · exact ⟨m, by omega, e.symm⟩
        · rintro ⟨j, hj, e⟩
          by_cases hjm : j = m
          · subst hjm
            exact .inr e.symm
          · exact .inl ⟨j, by omega, e⟩
    · rw [if_neg hk, List.append_nil]
      refine ⟨h1, fun x => ?_⟩
      rw [h2]
      have hne : ¬ (m = 0 ∨ d[m]! ≠ d[m - 1]!) := fun h => hk (decide_eq_true h)
      have e0 : m ≠ 0 := fun h => hne (.inl h)
      have e1 : d[m]! = d[m - 1]! := Decidable.byContradiction fun h => hne (.inr h)
      constructor
      · rintro ⟨j, hj, e⟩
        exact ⟨j, by omega, e⟩
      · rintro ⟨j, hj, e⟩
        by_cases hjm : j = m
        · subst hjm
          exact ⟨j - 1, by omega, e1.symm.trans e⟩
        · exact ⟨j, by omega, e⟩
theorem once_both (L : List Int) : (onceL L).Pairwise (· < ·) ∧ ∀ x, x ∈ onceL L ↔ x ∈ L := by
  have hs : (L.mergeSort fun x y => decide (x ≤ y)).Pairwise fun x y => decide (x ≤ y) = true := List.pairwise_mergeSort (fun a b c h1 h2 => by simp at *; omega) (fun a b => by simp; omega) L
  have hm : ∀ x, x ∈ L.mergeSort (fun x y => decide (x ≤ y)) ↔ x ∈ L := fun x => List.mem_mergeSort
  unfold onceL Lib.compact
  generalize L.mergeSort (fun x y => decide (x ≤ y)) = M at *
  have hd : ∀ i j, i ≤ j → j < M.toArray.size → M.toArray[i]! ≤ M.toArray[j]! := fun i j hij hj => by
    have hj2 : j < M.length := by simpa using hj
    have hp := List.pairwise_iff_getElem.1 hs
    rw [getElem!_pos M.toArray i (by simp; omega), getElem!_pos M.toArray j hj]
    rcases Nat.lt_or_eq_of_le hij with h | h
    · simpa using hp i j (by omega) hj2 h
    · subst h
      exact Int.le_refl _
  obtain ⟨h1, h2⟩ := comp_inv hd M.length (by simp)
  refine ⟨h1, fun x => ?_⟩
  rw [h2, ← hm]
  constructor
  · rintro ⟨j, hj, rfl⟩
    rw [getElem!_pos M.toArray j (by simpa using hj)]
    simp
  · intro hx
    obtain ⟨j, hj, rfl⟩ := List.getElem_of_mem hx
    exact ⟨j, hj, by rw [getElem!_pos M.toArray j (by simpa using hj)]; simp⟩
theorem once_up (L : List Int) : (onceL L).Pairwise (· < ·) := (once_both L).1
theorem once_mem {L : List Int} {x : Int} : x ∈ onceL L ↔ x ∈ L := (once_both L).2 x
theorem once_is {L A : List Int} (h : A.Pairwise (· < ·)) (hm : ∀ x, x ∈ A ↔ x ∈ L) : A = onceL L := up_same h (once_up L) fun x => (hm x).trans once_mem.symm
theorem once_len (L : List Int) : (onceL L).length ≤ L.length := by
  unfold onceL Lib.compact compactUpTo
  rw [List.length_map]
  refine Nat.le_trans (List.length_filter_le _ _) ?_
  simp
theorem once_short {L : List Int} (h : L.length < 2) : onceL L = L := by
  refine (once_is ?_ fun x => Iff.rfl).symm
  match L, h with
  | [], _ => exact List.Pairwise.nil
  | [a], _ => exact List.pairwise_singleton _ _
  | _ :: _ :: _, h => exact absurd h (by simp)

/-- Two such lists, merged as far as i and k. -/
structure Mrg (A B : List Int) (i k : Nat) (out : List Int) : Prop where
  up : out.Pairwise (· < ·)
  mem : ∀ x, x ∈ out ↔ x ∈ A.take i ∨ x ∈ B.take k
  leA : ∀ y ∈ out, ∀ z ∈ A.drop i, y ≤ z
  leB : ∀ y ∈ out, ∀ z ∈ B.drop k, y ≤ z
/-- The next number. -/
def Pick (A B : List Int) (i k i' k' : Nat) (x : Int) : Prop :=
  (i' = i + 1 ∧ k' = k ∧ A[i]? = some x ∧ ∀ z ∈ B.drop k, x ≤ z) ∨ (i' = i ∧ k' = k + 1 ∧ B[k]? = some x ∧ ∀ z ∈ A.drop i, x ≤ z)
section
variable {A B out : List Int} {i k i' k' : Nat} {x : Int}
theorem mrg_start : Mrg A B 0 0 [] := ⟨List.Pairwise.nil, by simp, by simp, by simp⟩
theorem pick_A (hA : A[i]? = some x) (h : B.length ≤ k ∨ ∃ y, B[k]? = some y ∧ x ≤ y) (hB : B.Pairwise (· < ·)) : Pick A B i k (i + 1) k x := by
  refine .inl ⟨rfl, rfl, hA, fun z hz => ?_⟩
  rcases h with h | ⟨y, hy, hle⟩
  · rw [List.drop_of_length_le h] at hz
    cases hz
  · obtain ⟨hk, rfl⟩ := List.getElem?_eq_some_iff.1 hy
    rw [List.drop_eq_getElem_cons hk] at hz
    rcases List.mem_cons.1 hz with rfl | hz
    · exact hle
    · have h2 : (B.drop k).Pairwise (· < ·) := hB.sublist (List.drop_sublist k B)
      rw [List.drop_eq_getElem_cons hk] at h2
      have := (List.pairwise_cons.1 h2).1 z hz
      omega
theorem pick_B (hB : B[k]? = some x) (h : A.length ≤ i ∨ ∃ y, A[i]? = some y ∧ x ≤ y) (hA : A.Pairwise (· < ·)) : Pick A B i k i (k + 1) x := by
  refine .inr ⟨rfl, rfl, hB, fun z hz => ?_⟩
  rcases h with h | ⟨y, hy, hle⟩
  · rw [List.drop_of_length_le h] at hz
    cases hz
  · obtain ⟨hk, rfl⟩ := List.getElem?_eq_some_iff.1 hy
    rw [List.drop_eq_getElem_cons hk] at hz
    rcases List.mem_cons.1 hz with rfl | hz
    · exact hle
    · have h2 : (A.drop i).Pairwise (· < ·) := hA.sublist (List.drop_sublist i A)
      rw [List.drop_eq_getElem_cons hk] at h2
      have := (List.pairwise_cons.1 h2).1 z hz
      omega
theorem drop_up {L : List Int} (hL : L.Pairwise (· < ·)) (h : L[i]? = some x) : ∀ z ∈ L.drop (i + 1), x < z := by
  obtain ⟨hk, rfl⟩ := List.getElem?_eq_some_iff.1 h
  have h2 : (L.drop i).Pairwise (· < ·) := hL.sublist (List.drop_sublist i L)
  rw [List.drop_eq_getElem_cons hk] at h2
  exact (List.pairwise_cons.1 h2).1
theorem mem_take_one {L : List Int} (h : L[i]? = some x) (y : Int) : y ∈ L.take (i + 1) ↔ y ∈ L.take i ∨ y = x := by
  obtain ⟨hk, rfl⟩ := List.getElem?_eq_some_iff.1 h
  rw [List.take_succ_eq_append_getElem hk, List.mem_append, List.mem_singleton]
theorem drop_mem {L : List Int} (h : L[i]? = some x) : x ∈ L.drop i ∧ ∀ z ∈ L.drop (i + 1), z ∈ L.drop i := by
  obtain ⟨hk, rfl⟩ := List.getElem?_eq_some_iff.1 h
  rw [List.drop_eq_getElem_cons hk]
  exact ⟨List.mem_cons_self .., fun z hz => List.mem_cons_of_mem _ hz⟩
/-- All that is listed is at most the next number, which is at most all that is left. -/
theorem pick_le (h : Mrg A B i k out) (hp : Pick A B i k i' k' x) (hA : A.Pairwise (· < ·)) (hB : B.Pairwise (· < ·)) :
    (∀ y ∈ out, y ≤ x) ∧ (∀ z ∈ A.drop i', x ≤ z) ∧ (∀ z ∈ B.drop k', x ≤ z) ∧ (∀ z ∈ A.drop i', z ∈ A.drop i) ∧ (∀ z ∈ B.drop k', z ∈ B.drop k) ∧ (∀ y, (y ∈ A.take i' ∨ y ∈ B.take k') ↔ (y ∈ A.take i ∨ y ∈ B.take k) ∨ y = x) := by
  rcases hp with ⟨rfl, rfl, hx, hle⟩ | ⟨rfl, rfl, hx, hle⟩
  · obtain ⟨h1, h2⟩ := drop_mem hx
    refine ⟨fun y hy => h.leA y hy x h1, fun z hz => by have := drop_up hA hx z hz; omega, hle, h2, fun z hz => hz, fun y => ?_⟩
    rw [mem_take_one hx]
    constructor
    · rintro ((h | h) | h)
      · exact .inl (.inl h)
      · exact .inr h
      · exact .inl (.inr h)
    · rintro ((h | h) | h)
      · exact .inl (.inl h)
      · exact .inr h
      · exact .inl (.inr h)
  · obtain ⟨h1, h2⟩ := drop_mem hx
    refine ⟨fun y hy => h.leB y hy x h1, hle, fun z hz => by have := drop_up hB hx z hz; omega, fun z hz => hz, h2, fun y => ?_⟩
    rw [mem_take_one hx, or_assoc]
theorem mrg_new (h : Mrg A B i k out) (hp : Pick A B i k i' k' x) (hA : A.Pairwise (· < ·)) (hB : B.Pairwise (· < ·)) (hne : ∀ y, out[out.length - 1]? = some y → y ≠ x) : Mrg A B i' k' (out ++ [x]) := by
  obtain ⟨h1, h2, h3, h4, h5, h6⟩ := pick_le h hp hA hB
  have hlt : ∀ y ∈ out, y < x := fun y hy => by
    rcases List.eq_nil_or_concat out with e | ⟨pre, last, e⟩
    · rw [e] at hy
      cases hy
    · rw [List.concat_eq_append] at e
      have hx := hne last (by rw [e]; simp)
      have h7 := h1 last (by rw [e]; simp)
      have hup := h.up
      rw [e] at hup hy
      rcases List.mem_append.1 hy with hy | hy
      · have := (List.pairwise_append.1 hup).2.2 y hy last (List.mem_singleton_self _)
        omega
      · rw [List.mem_singleton.1 hy]
        omega
  refine ⟨List.pairwise_append.2 ⟨h.up, List.pairwise_singleton _ _, fun y hy z hz => by rw [List.mem_singleton.1 hz]; exact hlt y hy⟩, fun y => ?_, fun y hy z hz => ?_, fun y hy z hz => ?_⟩
  · rw [List.mem_append, List.mem_singleton, h.mem, h6]
  · rcases List.mem_append.1 hy with hy | hy
    · exact h.leA y hy z (h4 z hz)
    · rw [List.mem_singleton.1 hy]
      exact h2 z hz
  · rcases List.mem_append.1 hy with hy | hy
    · exact h.leB y hy z (h5 z hz)
    · rw [List.mem_singleton.1 hy]
      exact h3 z hz
theorem mrg_old (h : Mrg A B i k out) (hp : Pick A B i k i' k' x) (hA : A.Pairwise (· < ·)) (hB : B.Pairwise (· < ·)) (he : out[out.length - 1]? = some x) : Mrg A B i' k' out := by
  obtain ⟨h1, h2, h3, h4, h5, h6⟩ := pick_le h hp hA hB
  have hx : x ∈ out := List.mem_of_getElem? he
  refine ⟨h.up, fun y => ?_, fun y hy z hz => h.leA y hy z (h4 z hz), fun y hy z hz => h.leB y hy z (h5 z hz)⟩
  rw [h6, ← h.mem]
  constructor
  · exact .inl
  · rintro (k | rfl)
    · exact k
    · exact hx
theorem mrg_end {L : List Int} {n : Nat} (h : Mrg (onceL (L.take n)) (onceL (L.drop n)) i k out) (hi : (onceL (L.take n)).length ≤ i) (hk : (onceL (L.drop n)).length ≤ k) : out = onceL L := by
  refine once_is h.up fun x => ?_
  rw [h.mem, List.take_of_length_le hi, List.take_of_length_le hk, once_mem, once_mem, ← List.mem_append, List.take_append_drop]
theorem mrg_len (h : Mrg A B i k out) (hA : i ≤ A.length) (hB : k ≤ B.length) : out.length ≤ i + k := by
  have key : ∀ {X Y : List Int}, X.Nodup → (∀ x ∈ X, x ∈ Y) → X.length ≤ Y.length := fun {X} => by
    induction X with
    | nil => intro Y _ _; simp
    | cons a X ih =>
      intro Y hn hs
      obtain ⟨ha, hn⟩ := List.nodup_cons.1 hn
      have hb := hs a (List.mem_cons_self ..)
      have := ih (Y := Y.erase a) hn fun x hx => (List.mem_erase_of_ne (fun e => ha (by rw [← e]; exact hx))).2 (hs x (List.mem_cons_of_mem _ hx))
      rw [List.length_erase_of_mem hb] at this
      have : 0 < Y.length := List.length_pos_of_mem hb
      simp only [List.length_cons]
      omega
  have h1 := key (X := out) (Y := A.take i ++ B.take k) (h.up.imp fun h => by omega) fun x hx => List.mem_append.2 ((h.mem x).1 hx)
  rw [List.length_append, List.length_take, List.length_take] at h1
  omega
end

end Go.Proofs.YthnmapomhgjblaaGreatDoor

