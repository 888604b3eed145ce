/-
  CONTRACT of the program's joined: one cell of a path, and its rest, in new memory. No law is proved here.
  CONTRACT of the program's wayFrom: the cells over which the units lead from a node on. No law is proved here.
  Where a cell lies among the rows. No law is proved here.
  CONTRACT of the program's cellsWith at an invalid map, and plain lemmas. No law is proved here.
  CONTRACT of the program's gridRow.free. No law is proved here.
  CONTRACTS of the program's cellsWith at gridRow.free and of its FreeCells. No law is proved here.
-/
import Derived.Test.YtcagaolichgogaaDoorZWO22
import Derived.Test.YtcagaolichgogaaDoorZWO00
import Derived.Laws.CopyOwn
import Derived.BigQuiet
import Derived.Deep.QuietTactic
import Derived.Deep.RegionHeld3
import Derived.Test.YtcagaolichgogaaDoorZWO09
import Derived.Test.YtcagaolichgogaaDoorZWO08
import Derived.Test.YtcagaolichgogaaDoorZWO10
namespace Go.Proofs.YtcagaolichgogaaDoor
set_option maxRecDepth 4096
open Go.ChangeShapes Go.WideShapes Go.ChangeAt Go.RowKit

theorem infoIj : (Tryd.prog.info? 3).map (·.size) = some 1 := by kernel_rfl
theorem own_blockJ {w : World} {B : Nat} {e : TypeId} {g n c : Nat} {xs : List Value} (h : w.ownsRow B e 1 (.slice (some ⟨g, 0, none⟩) n c) n xs) : ∃ cur : List Value, w.heap[g]? = some (.cells cur.toArray e (0, 0)) ∧ cur.length = c := by
  rcases h.2 with ⟨h1, _⟩ | ⟨g', c', cur, h1, _, hg, _, _, hs, _⟩
  · cases h1
  · injection h1 with h1 _ h2
    injection h1 with h1
    injection h1 with h1
    subst h1 h2
    exact ⟨cur.toList, by simpa using hg, by simpa using hs⟩
theorem row_ofJ {w w0 : World} {g : Nat} {xs : List Int} (h : w.heap[g]? = some (.cells (xs.map (Value.int .i64)).toArray 3 (0, 0))) (hm : xs.length ≤ maxLen) (hg : g = w0.heap.size) : w.ownsRow w0.heap.size 3 1 (.slice (some ⟨g, 0, none⟩) xs.length xs.length) xs.length (xs.map (Value.int .i64)) :=
  ⟨by simp, .inr ⟨g, xs.length, _, rfl, by omega, h, Nat.le_refl _, hm, by simp, by rw [Nat.mul_one]; exact List.take_of_length_le (by simp)⟩⟩
theorem size_intJ (w : World) : (sizeOf 3).run Tryd.prog w = .ok 1 w := by
  have hi : (Tryd.prog.info? 3).map (·.size) = some 1 := infoIj
  cases hq : Tryd.prog.info? 3 with
  | none => simp [hq] at hi
  | some i =>
    have hs : i.size = 1 := by simpa [hq] using hi
    simp [sizeOf, typeInfo, hq, hs]
theorem ints_underJ : Tryd.prog.underlying 24 = some (.slice (Tryd.prog.elem 24)) := by
  have hE : Tryd.prog.elem 24 = 3 := by kernel_rfl
  rw [hE]
  exact Tryd.underlying24
/-- whole[1:]. -/
theorem slice_rest (g n : Nat) (w : World) :
    (Instr.slice 24 (.slice (some ⟨g, 0, none⟩) (n + 1) (n + 1)) (some (.int .i64 1)) none none).run Tryd.prog w = .ok (.slice (some ⟨g, if n = 0 then 0 else 1, none⟩) n n) w := by
  have hE : Tryd.prog.elem 24 = 3 := by kernel_rfl
  rw [run_slice_l w 24 (some ⟨g, 0, none⟩) (n + 1) (n + 1) ints_underJ .i64 1 (by omega) (by omega), hE, size_intJ w]
  by_cases h0 : n = 0
  · subst h0
    simp [Result.andThen, sliced]
  · simp [Result.andThen, sliced, h0, Addr.add]

theorem j_min (n : Nat) (x : Int) : [Value.int .i64 x].length = Nat.min 1 (n + 1) := by
  show 1 = min 1 (n + 1)
  omega
theorem j_minR (R : List Int) : (R.map (Value.int .i64)).length = Nat.min R.length R.length := by
  rw [List.length_map]
  exact (Nat.min_self _).symm
theorem j_cell {w : World} {b : Addr} {x : Int} (h : w.cell? b = some (.int .i64 x)) : ∀ j v, [Value.int .i64 x][j]? = some v → w.cell? (b.add j) = some v := by
  intro j v hj
  match j, hj with
  | 0, hj =>
    rw [← Option.some.inj hj]
    have : b.add 0 = b := by unfold Addr.add; simp
    rw [this]
    exact h
theorem j_one (x : Int) : ∀ v ∈ [Value.int .i64 x], v.oneCell' = true := by
  intro v hv
  rw [List.mem_singleton.1 hv]
  rfl
theorem j_fit {cur : List Value} {n : Nat} {x : Int} (h : cur.length = n + 1) : 0 + [Value.int .i64 x].length ≤ cur.length := by
  rw [h]
  simp
theorem j_posR {w : World} {g off : Nat} {ar : Option Addr} {R : List Int} (ho : (if R.length = 0 then 0 else 1) = off) (h : R.length = 0 ∨ ∃ g, ar = some ⟨g, 0, none⟩ ∧ ∀ (j : Nat) (x : Int), R[j]? = some x → w.cell? ⟨g, j, none⟩ = some (.int .i64 x)) : 0 < (R.map (Value.int .i64)).length → (some ⟨g, off, none⟩ : Option Addr) = some ⟨g, 1, none⟩ ∧ ∃ ad, ar = some ad ∧ ∀ j v, (R.map (Value.int .i64))[j]? = some v → w.cell? (ad.add j) = some v := by
  intro h0
  rw [List.length_map] at h0
  rcases h with h | ⟨q, rfl, hc⟩
  · omega
  · refine ⟨by rw [← ho, if_neg (by omega)], _, rfl, fun j v hj => ?_⟩
    rw [List.getElem?_map] at hj
    obtain ⟨x, hx, rfl⟩ := Option.map_eq_some_iff.1 hj
    have hadd : (⟨q, 0, none⟩ : Addr).add j = ⟨q, j, none⟩ := by unfold Addr.add; split <;> simp_all
    rw [hadd]
    exact hc j x hx
theorem j_fitR {cur : List Value} {R : List Int} {x : Int} (h : cur.length = R.length + 1) : 1 + (R.map (Value.int .i64)).length ≤ (splice cur 0 [Value.int .i64 x]).length := by
  rw [length_splice _ _ _ (by simp; omega), h, List.length_map]
  omega
theorem j_end {cur : List Value} {R : List Int} {x : Int} (h : cur.length = R.length + 1) : splice (splice cur 0 [Value.int .i64 x]) 1 (R.map (Value.int .i64)) = (x :: R).map (Value.int .i64) := by
  unfold splice
  cases cur with
  | nil => simp at h
  | cons a cur =>
    have hl : cur.length = R.length := by simpa using h
    simp [hl]
    omega

set_option maxHeartbeats 1000000 in
theorem implJoined (b : Addr) (c : Nat) (x : Int) (R : List Int) (vr : Value) (hR : R.length ≤ 1000000) (w : World) (hx : w.cell? b = some (.int .i64 x)) (hr : Ints w vr R) :
    Calls Tryd.prog 57 #[.slice (some b) 1 c, vr] w (IntsBack w (x :: R)) := by
  obtain ⟨i0, hi, hz0, hz1, hz2⟩ := info_parts Tryd.info3
  have HR := Lib.hid hr
  have hbl := block_lt_of_cell hx
  obtain ⟨ar, cr, rfl, hrr⟩ := ints_form hr
  have HRR := Lib.hid hrr
  have hN : (1 : Int) + (R.length : Int) = ((R.length + 1 : Nat) : Int) := by omega
  have hwN : IntKind.i64.wrap ((R.length + 1 : Nat) : Int) = ((R.length + 1 : Nat) : Int) := IntWalk.i64_in _ (by omega)
  have hsl := fun g w' => slice_rest g R.length w'
  obtain ⟨off, HOFF⟩ : ∃ off : Nat, Hid ((if R.length = 0 then (0 : Nat) else 1) = off) := ⟨_, Lib.hid rfl⟩
  rw [HOFF.out] at hsl
  have HPR : Hid (∀ w2, Below w.heap.size w w2 → R.length = 0 ∨ ∃ g, ar = some ⟨g, 0, none⟩ ∧ ∀ (j : Nat) (x : Int), R[j]? = some x → w2.cell? ⟨g, j, none⟩ = some (.int .i64 x)) := Lib.hid fun w2 hb => by
    rcases HRR.out with h | ⟨q, e, hq, hc⟩
    · exact .inl h
    · exact .inr ⟨q, e, fun j y hy => (hb.cell (p := ⟨q, j, none⟩) hq).trans (hc j y hy)⟩
  clear hr hrr
  go_enter Tryd.func57, Tryd.ntmps57
  go_wp2_with (first
    | (at_make; refine wpList_make_full _ rfl _ _ 24 rfl w.heap.size 3 i0 (.int .i64 0) 1 Tryd.underlying24 hi hz0 hz1 .i64 .i64 ((R.length + 1 : Nat) : Int) ((R.length + 1 : Nat) : Int) (R.length + 1) rfl rfl rfl rfl (by rw [hz2]; omega) (by unfold maxLen; omega) (Nat.le_refl _) ?_; intro w1 hown hgr; obtain ⟨cur, hcur, hcl⟩ := own_blockJ hown; have hx1 : w1.cell? b = some (.int .i64 x) := hgr.cell hx (by simp); have hb1 : Below w.heap.size w w1 := (Below.refl _ w).grown hgr (Nat.le_refl _) (fun k e => by cases e); clear hown hgr hx)
    | (with_reducible refine wpList_copy_splice rfl (.tmp 12) (.tmp 13) 24 24 rfl 3 Tryd.underlying24 infoIj (some ⟨w.heap.size, 0, none⟩) (some b) (R.length + 1) (R.length + 1) 1 c rfl rfl w.heap.size 0 cur 3 hcur [.int .i64 x] (j_min _ _) (fun _ => ⟨rfl, _, rfl, j_cell hx1⟩) (j_fit hcl) (j_one x) w.heap.size w hb1 (Nat.le_refl _) ?_; intro w2 hcur2 hb2; have HP2 := Lib.hid (j_posR (g := w.heap.size) HOFF.out (HPR.out w2 hb2)); clear hcur hb1 hx1)
    | (with_reducible refine wpList_copy_splice rfl (.tmp 18) (.tmp 19) 24 24 rfl 3 Tryd.underlying24 infoIj _ ar R.length R.length R.length cr rfl rfl w.heap.size 1 _ 3 hcur2.out (R.map (Value.int .i64)) (j_minR R) HP2.out (j_fitR hcl) (ints_one _) w.heap.size w hb2 (Nat.le_refl _) ?_; intro w3 hcur3 hb3; clear hcur2 hb2))
  have hfin := hcur3.out
  rw [j_end hcl] at hfin
  have HF := Lib.hid hfin
  clear hfin hcur3
  go_ret
  have hl : (x :: R).length = R.length + 1 := rfl
  refine ⟨_, rfl, ?_, hb3⟩
  have := row_ofJ (w0 := w) HF.out (by rw [hl]; unfold maxLen; omega) rfl
  rw [hl] at this
  exact this

end Go.Proofs.YtcagaolichgogaaDoor

namespace Go.Proofs.YtcagaolichgogaaDoor
set_option maxRecDepth 4096
open Go.ChangeShapes Go.WideShapes Go.ChangeAt Go.RowKit

/-- From a node on the units lead over these cells. -/
inductive Trk (L NX : List Int) : Int → List Int → Prop
  | stop {z : Int} : z < 3 → Trk L NX z []
  | step {v o k : Nat} {z c : Int} {cs : List Int} : 3 ≤ v → k = (v - 3) / 2 % L.length → L[k]? = some c → NX[v]? = some (o : Int) → NX[o]? = some z → Trk L NX z cs → Trk L NX (v : Int) (c :: cs)
/-- A list in memory, with its room. -/
def Room (w : World) (v : Value) (L : List Int) : Prop :=
  ∃ g c, v = .slice (some ⟨g, 0, none⟩) L.length c ∧ L.length ≤ c ∧ g < w.heap.size ∧ ∀ (j : Nat) x, L[j]? = some x → w.cell? ⟨g, j, none⟩ = some (.int .i64 x)
theorem Room.on {w w' : World} {v : Value} {L : List Int} (h : Room w v L) (hb : Below w.heap.size w w') : Room w' v L := by
  obtain ⟨g, c, rfl, h1, hg, hc⟩ := h
  exact ⟨g, c, rfl, h1, Nat.lt_of_lt_of_le hg hb.size, fun j x hx => (hb.cell (p := ⟨g, j, none⟩) hg).trans (hc j x hx)⟩
theorem room_of {w : World} {B : Nat} {v : Value} {L : List Int} (h : w.ownsRow B 3 1 v L.length (L.map (Value.int .i64))) (h0 : 0 < L.length) : Room w v L := by
  rcases h.2 with ⟨_, h2⟩ | ⟨g, cap, cur, rfl, _, hh, h1, _⟩
  · omega
  · refine ⟨g, cap, rfl, h1, (Array.getElem?_eq_some_iff.1 hh).1, fun j x hx => ?_⟩
    have := h.cells (g := g) rfl j (.int .i64 x) (by rw [List.getElem?_map, hx]; rfl)
    have hadd : (⟨g, 0, none⟩ : Addr).add j = ⟨g, j, none⟩ := by unfold Addr.add; split <;> simp_all
    rwa [hadd] at this
theorem slice_one1 (g n c k : Nat) (hk : k < n) (hc : n ≤ c) (w : World) :
    (Instr.slice 24 (.slice (some ⟨g, 0, none⟩) n c) (some (.int .i64 (k : Int))) (some (.int .i64 ((k : Int) + 1))) none).run Tryd.prog w = .ok (.slice (some ⟨g, k, none⟩) 1 (c - k)) w := by
  have hE : Tryd.prog.elem 24 = 3 := by kernel_rfl
  rw [run_slice_lh w 24 (some ⟨g, 0, none⟩) n c ints_underJ .i64 .i64 (k : Int) ((k : Int) + 1) (by omega) (by omega) (by omega), hE, size_intJ w]
  have h1 : ¬ c = k := by omega
  have h2 : ((k : Int) + 1).toNat = k + 1 := by omega
  simp [Result.andThen, sliced, h1, h2, Addr.add]
  exact fun h => h.symm
/-- The box of the units, while calls go on. -/
def UBox (w : World) (vc vn : Value) (w' : World) : Prop := Below (w.alloc (.cells #[vc, vn] 55)).heap.size (w.alloc (.cells #[vc, vn] 55)) w'
theorem ubox_cells {w w' : World} {vc vn : Value} (h : UBox w vc vn w') : w'.cell? ⟨w.heap.size, 0, none⟩ = some vc ∧ w'.cell? ⟨w.heap.size, 1, none⟩ = some vn := by
  have h1 := (h.block w.heap.size (by simp)).trans (heap_alloc_new w _)
  refine ⟨?_, ?_⟩ <;> rw [cell_of_row _ _ _ _ _ _ h1] <;> rfl
theorem ubox_below {w w' : World} {vc vn : Value} (h : UBox w vc vn w') : Below w.heap.size w w' := ((Below.refl _ _).alloc (Nat.le_refl _) _).trans (h.mono (by simp))

theorem held_u {w w' : World} {vc vn : Value} {gn o : Nat} {z : Int} (h : UBox w vc vn w') (hg : gn < w.heap.size) (hz : w.cell? ⟨gn, o, none⟩ = some (.int .i64 z)) :
    w'.cell? ⟨w.heap.size, 0, none⟩ = some vc ∧ w'.cell? ⟨w.heap.size, 1, none⟩ = some vn ∧ w'.cell? ⟨gn, o, none⟩ = some (.int .i64 z) ∧ UBox w vc vn w' :=
  ⟨(ubox_cells h).1, (ubox_cells h).2, ((ubox_below h).cell (p := ⟨gn, o, none⟩) hg).trans hz, h⟩

set_option maxHeartbeats 2000000 in
theorem implWayFrom (L NX : List Int) (vc vn : Value) (hL : L.length ≤ 1000000) (hN : NX.length ≤ 1000000) : ∀ {z : Int} {cs : List Int}, Trk L NX z cs → cs.length ≤ 100000 → ∀ w : World, Room w vc L → Ints w vn NX →
    Calls Tryd.prog 28 #[.agg #[vc, vn], .int .i64 z] w (IntsBack w cs) := by
  intro z cs h
  induction h with
  | stop hz =>
    intro _ w hc hn
    go_enter Tryd.func28, Tryd.ntmps28
    go_wp2_with fail
    go_ret
    exact ⟨_, rfl, World.ownsRow_nil _ _ _ 1, (Below.refl _ _).alloc (Nat.le_refl _) _⟩
  | @step v o k z c cs hv3 hk hc hvo hoz htr ih =>
    intro hcs w hRc hIn
    have hcl : cs.length ≤ 100000 := by simp only [List.length_cons] at hcs; omega
    have hkl := (List.getElem?_eq_some_iff.1 hc).1
    have hvl := (List.getElem?_eq_some_iff.1 hvo).1
    have hol := (List.getElem?_eq_some_iff.1 hoz).1
    have HRC := Lib.hid hRc
    have HIN := Lib.hid hIn
    have HIH := Lib.hid (ih hcl)
    obtain ⟨g, cc, rfl, hgc, hg, hgx⟩ := hRc
    obtain ⟨gn, cn, rfl, hgn, hnx⟩ : ∃ gn cn, vn = .slice (some ⟨gn, 0, none⟩) NX.length cn ∧ gn < w.heap.size ∧ ∀ (j : Nat) x, NX[j]? = some x → w.cell? ⟨gn, j, none⟩ = some (.int .i64 x) := by
      rcases hIn with ⟨rfl, _⟩ | h
      · simp at hvl
      · exact h
    have dv := hnx v o hvo
    have dz := hnx o z hoz
    have dc := hgx k c hc
    have hB0 : UBox w (.slice (some ⟨g, 0, none⟩) L.length cc) (.slice (some ⟨gn, 0, none⟩) NX.length cn) (w.alloc (.cells #[.slice (some ⟨g, 0, none⟩) L.length cc, .slice (some ⟨gn, 0, none⟩) NX.length cn] 55)) := Below.refl _ _
    obtain ⟨c0, c1⟩ := ubox_cells hB0
    have dv1 := ((ubox_below hB0).cell (p := ⟨gn, v, none⟩) hgn).trans dv
    have dz1 := ((ubox_below hB0).cell (p := ⟨gn, o, none⟩) hgn).trans dz
    have HDC := Lib.hid dc
    have HDZ := Lib.hid dz
    obtain ⟨q1, hq1⟩ : ∃ q1 : Nat, v - 3 = q1 := ⟨_, rfl⟩
    obtain ⟨q2, hq2⟩ : ∃ q2 : Nat, q1 / 2 = q2 := ⟨_, rfl⟩
    have hw1 : IntKind.i64.wrap ((v : Int) - 3) = (q1 : Int) := by rw [IntWalk.i64_in _ (by omega)]; omega
    have hw2 : ((q1 : Int)).tdiv 2 = (q2 : Int) := by rw [← hq2]; exact (Int.ofNat_tdiv q1 2).symm
    have hw2b : IntKind.i64.wrap (q2 : Int) = (q2 : Int) := IntWalk.i64_in _ (by omega)
    have hw3 : ((q2 : Int)).tmod (L.length : Int) = (k : Int) := by rw [hk, ← hq2, ← hq1]; exact (Int.ofNat_tmod _ _).symm
    have hL0 : ¬ (L.length : Int) = 0 := by omega
    have hL1 : ((L.length : Int) == 0) = false := beq_eq_false_iff_ne.2 hL0
    have hwk : IntKind.i64.wrap ((k : Int) + 1) = (k : Int) + 1 := IntWalk.i64_in _ (by omega)
    have hsl := fun w' => slice_one1 g L.length cc k hkl hgc w'
    have hn3 : ¬ (v : Int) < 3 := by omega
    have hvl2 : (v : Int) < (NX.length : Int) := by omega
    have hol2 : (o : Int) < (NX.length : Int) := by omega
    have hwo1 : IntKind.i64.wrap (o : Int) = (o : Int) := IntWalk.i64_in _ (by omega)
    have hkk := Lib.hid hk
    clear ih hgx hnx hc hvo hoz dv dz dc hk hq1 hq2 htr hcs
    go_enter Tryd.func28, Tryd.ntmps28
    go_wp2_with fail
    go_region_held3 (fun w' => w'.cell? ⟨w.heap.size, 0, none⟩ = some (.slice (some ⟨g, 0, none⟩) L.length cc) ∧ w'.cell? ⟨w.heap.size, 1, none⟩ = some (.slice (some ⟨gn, 0, none⟩) NX.length cn) ∧ w'.cell? ⟨gn, o, none⟩ = some (.int .i64 z) ∧ UBox w (.slice (some ⟨g, 0, none⟩) L.length cc) (.slice (some ⟨gn, 0, none⟩) NX.length cn) w')
      (first | exact hS | exact ⟨c0, c1, dz1, hB0.drew⟩ | go_keep)
      (first
        | (go_at_call 28; (try go_split_ands); have hU : UBox w (.slice (some ⟨g, 0, none⟩) L.length cc) (.slice (some ⟨gn, 0, none⟩) NX.length cn) _ := (by assumption); (with_reducible refine (HIH.out _ (HRC.out.on (ubox_below hU)) (ints_on HIN.out (ubox_below hU))).mono ?_); rintro e w6 ⟨v6, rfl, hown6, hb⟩; have hU6 : UBox w (.slice (some ⟨g, 0, none⟩) L.length cc) (.slice (some ⟨gn, 0, none⟩) NX.length cn) w6 := hU.trans (hb.mono hU.size); have hi6 := ints_of_own hown6; have hS := held_u hU6 hgn HDZ.out; clear hb hown6)
        | (go_at_call 57; (try go_split_ands); have hU : UBox w (.slice (some ⟨g, 0, none⟩) L.length cc) (.slice (some ⟨gn, 0, none⟩) NX.length cn) _ := (by assumption); (with_reducible refine (implJoined ⟨g, k, none⟩ (cc - k) c cs _ (by omega) _ (((ubox_below hU).cell (p := ⟨g, k, none⟩) hg).trans HDC.out) (by assumption)).mono ?_); rintro e w7 ⟨v7, rfl, hown7, hb⟩; have hU7 : UBox w (.slice (some ⟨g, 0, none⟩) L.length cc) (.slice (some ⟨gn, 0, none⟩) NX.length cn) w7 := hU.trans (hb.mono hU.size); have hown8 := own_base hown7 (ubox_below hU).size; have hS := held_u hU7 hgn HDZ.out; clear hb hown7))
    have HE := Lib.hid (ubox_below hU7)
    have HO := Lib.hid hown8
    clear hS hU7 hown8
    go_wp2_with fail
    go_ret
    exact ⟨_, rfl, HO.out, HE.out⟩

end Go.Proofs.YtcagaolichgogaaDoor

namespace Go.Proofs.YtcagaolichgogaaDoor
set_option maxRecDepth 4096
open Go.ChangeShapes Go.WideShapes Go.ChangeAt Go.RowKit

theorem rowsR_at {a b : Nat} {C : ByteArray} {y : Nat} (hg : gok a b C = true) (hy : y < b) (hb : b ≤ 8) : (rowsR a b C)[y]? = some (.string (rowT C a y)) := by
  unfold rowsR
  rw [if_pos hg]
  exact rowsV_at C a b y hy hb

theorem cell_rows {w : World} {g q : Nat} {R S : Array Value} {t : TypeId} {v : Value} (hR : w.heap[g]? = some (.cells S t (0, 0))) (HR : Hid (S = R)) (hr : Hid (R[q]? = some v)) : w.cell? ⟨g, q, none⟩ = some v := by
  rw [cell_of_row _ _ _ _ _ _ hR, HR.out]
  exact hr.out

/-- Where the cell n of a valid map lies among the rows. -/
theorem place {W H : Int} {C : ByteArray} {n : Nat} (hg : gok W H C = true) (hn : n < C.size) : ∃ a b q m : Nat, W = a ∧ H = b ∧ 1 ≤ a ∧ a ≤ 8 ∧ b ≤ 8 ∧ q < b ∧ m < a ∧ (n : Int).tdiv (a : Int) = (q : Int) ∧ (n : Int).tmod (a : Int) = (m : Int) ∧
    m < (rowT C a q).size ∧ byteAt (rowT C a q) m = byteAt C n ∧ (rowsR W H C)[q]? = some (.string (rowT C a q)) := by
  obtain ⟨⟨⟨h1, h2⟩, ⟨h3, h4⟩, hs⟩, _⟩ := gok_out hg
  obtain ⟨a, rfl⟩ : ∃ a : Nat, W = a := ⟨W.toNat, by omega⟩
  obtain ⟨b, rfl⟩ : ∃ b : Nat, H = b := ⟨H.toNat, by omega⟩
  have hs2 : C.size = a * b := by have : ((a * b : Nat) : Int) = (a : Int) * (b : Int) := Int.natCast_mul a b; omega
  have ha : 0 < a := by omega
  have hq : n / a < b := Nat.div_lt_of_lt_mul (by omega)
  have hm : n % a < a := Nat.mod_lt _ ha
  have hle : (n / a + 1) * a ≤ C.size := by rw [hs2, Nat.mul_comm a b]; exact Nat.mul_le_mul_right a (by omega)
  have hnn : n / a * a + n % a = n := by rw [Nat.mul_comm]; exact Nat.div_add_mod n a
  refine ⟨a, b, n / a, n % a, rfl, rfl, by omega, by omega, by omega, hq, hm, ?_, ?_, by rw [row_size C a _ hle]; exact hm, ?_, rowsR_at hg hq (by omega)⟩
  · rw [Int.tdiv_eq_ediv_of_nonneg (by omega)]; rfl
  · rw [Int.tmod_eq_emod_of_nonneg (by omega)]; rfl
  · rw [row_byte C a _ _ hle hm, hnn]

end Go.Proofs.YtcagaolichgogaaDoor

namespace Go.Proofs.YtcagaolichgogaaDoor
set_option maxRecDepth 4096
open Go.ChangeShapes Go.WideShapes Go.ChangeAt Go.RowKit

theorem left_quiet {P : Program} {f : FuncId} {args : Array Value} {w : World} {n : Nat} {v : Value} (h : Calls P f args (w.drewN n) fun e w' => e = .returned v ∧ w.drewN n = w') :
    Calls P f args (w.drewN n) fun e w'' => e = .returned v ∧ ∃ m, w'' = w.drewN m :=
  h.mono fun _ _ ⟨he, hm⟩ => ⟨he, n, hm.symm⟩
theorem own_drewN {w : World} {B : Nat} {e : TypeId} {s n : Nat} {v : Value} {xs : List Value} (h : w.ownsRow B e s v n xs) (m : Nat) : (w.drewN m).ownsRow B e s v n xs := h
theorem ints_nil (w : World) : IntsBack w [] (.returned (.slice none 0 0)) w := ⟨_, rfl, ⟨rfl, .inl ⟨rfl, rfl⟩⟩, Below.refl _ _⟩
theorem picks_none {p : Nat → Bool} {k : Nat} (h : ∀ n, p n = false) : picks p k = [] := by
  simp [picks, h]
theorem gok_few {W H : Int} {C : ByteArray} (hg : gok W H C = true) : C.size ≤ 64 := by
  obtain ⟨⟨⟨h1, h2⟩, ⟨h3, h4⟩, hs⟩, _⟩ := gok_out hg
  have := mul_bd h1 h2 h3 h4
  omega

theorem with_no (W H : Int) (C : ByteArray) (f : Value) (hC : C.size ≤ 1048576) (hg : gok W H C = false) (w : World) :
    Calls Tryd.prog 73 #[.agg #[.int .i64 W, .int .i64 H, .string C], f] w (IntsBack w []) := by
  have hB := Below.refl (w.alloc (.cells #[.int .i64 W, .int .i64 H, .string C] 29)).heap.size (w.alloc (.cells #[.int .i64 W, .int .i64 H, .string C] 29))
  go_enter Tryd.func73, Tryd.ntmps73
  go_wp2_with (first
    | (go_at_call 82; (with_reducible refine (rowsOf W H C hC _).mono ?_); rintro e w1 ⟨rfl, hb⟩; replace hB := chain hB hb; clear hb)
    | (refine wpStoreRows W H C _ _ rfl rfl rfl rfl ?_; replace hB := chain hB (rows_in w1 (rowsR W H C)).1))
  go_ret
  exact ⟨_, rfl, ⟨rfl, .inl ⟨rfl, rfl⟩⟩, box_below hB⟩

theorem ints_under {w w0 w' : World} {L : List Int} {e : Ending} (h : IntsBack w0 L e w') (hb : Below w.heap.size w w0) : IntsBack w L e w' := by
  obtain ⟨v, he, ho, h2⟩ := h
  exact ⟨v, he, own_base ho hb.size, hb.trans (h2.mono hb.size)⟩
theorem ints_out {w w' : World} {L : List Int} {e : Ending} (h : IntsBack w L e w') : ∃ v, e = .returned v ∧ IntsBack w L (.returned v) w' := by
  obtain ⟨v, rfl, h⟩ := h
  exact ⟨v, rfl, v, rfl, h⟩

end Go.Proofs.YtcagaolichgogaaDoor

namespace Go.Proofs.YtcagaolichgogaaDoor
set_option maxRecDepth 4096
open Go.ChangeShapes Go.WideShapes Go.ChangeAt Go.RowKit

theorem freeI (r : ByteArray) (x : Int) (n : Nat) (e : x = n) (h : n < r.size) (w : World) :
    Calls Tryd.prog 74 #[.string r, .int .i64 x] w fun e w' => e = .returned (.bool (freeB (byteAt r n))) ∧ w = w' := by
  subst e
  have hat := run_at (P := Tryd.prog) 108 r .i64 n n rfl h Tryd.underlying108
  go_enter Tryd.func74, Tryd.ntmps74
  go_wp2
  go_ret
  exact ⟨bool_ret (c := freeB (byteAt r n)) rfl (by unfold freeB; simp [bne, Bool.beq_eq_decide_eq]), rfl⟩

theorem freeTo (r : ByteArray) (x : Int) (n : Nat) (b : Bool) (hb : Hid (freeB (byteAt r n) = b)) (e : x = n) (h : n < r.size) (w : World) :
    Calls Tryd.prog 74 #[.string r, .int .i64 x] w fun e w' => e = .returned (.bool b) ∧ w = w' := by
  rw [← hb.out]
  exact freeI r x n e h w

end Go.Proofs.YtcagaolichgogaaDoor

namespace Go.Proofs.YtcagaolichgogaaDoor
set_option maxRecDepth 4096
open Go.ChangeShapes Go.WideShapes Go.ChangeAt Go.RowKit

theorem freeL_no {W H : Int} {C : ByteArray} (hg : ¬ gok W H C = true) : freeL W H C = [] :=
  picks_none fun n => by unfold freeP freeV cellOk; simp [hg]
theorem freeP_at {W H : Int} {C : ByteArray} {n : Nat} {b : Bool} (hg : gok W H C = true) (hn : n < C.size) (h : freeP W H C n = b) : freeB (byteAt C n) = b := by
  rw [← h]
  unfold freeP
  exact (freeV_at hg hn).symm

set_option maxHeartbeats 1000000 in
theorem withFree (W H : Int) (C : ByteArray) (p : Nat → Bool) (L : List Int) (hC : C.size ≤ 1048576) (hg : gok W H C = true) (HPB : Hid (∀ n b, n < C.size → p n = b → freeB (byteAt C n) = b)) (HL : Hid (picks p (min C.size 64) = L)) (w : World) :
    Calls Tryd.prog 73 #[.agg #[.int .i64 W, .int .i64 H, .string C], .func (.func 74) #[] #[]] w (IntsBack w L) := by
  obtain ⟨i0, hi, hz0, hz1, hz2⟩ := info_parts Tryd.info3
  have hfew := gok_few hg
  have hB := Below.refl (w.alloc (.cells #[.int .i64 W, .int .i64 H, .string C] 29)).heap.size (w.alloc (.cells #[.int .i64 W, .int .i64 H, .string C] 29))
  go_enter Tryd.func73, Tryd.ntmps73
  go_wp2_with (first
    | (go_at_call 82; (with_reducible refine (rowsOf W H C hC _).mono ?_); rintro e w1 ⟨rfl, hb⟩; replace hB := chain hB hb; have hs1 := box_size hB; clear hb)
    | (refine wpStoreRows W H C _ _ rfl rfl rfl rfl ?_; have hR := (rows_in w1 (rowsR W H C)).2; replace hB := chain hB (rows_in w1 (rowsR W H C)).1; have hs2 := rowsW2_size w1 (rowsR W H C); obtain ⟨c0, c1, c2⟩ := box_cells hB))
  clear c0 c1 c2
  generalize rowsW2 w1 (rowsR W H C) = wS at hR hB hs2 ⊢
  generalize w1.heap.size = G at hR hs1 hs2 ⊢
  have HR := Lib.hid hR
  have HG := Lib.hid hg
  have hs3 : w.heap.size + 1 ≤ wS.heap.size := by omega
  have hs4 : G < wS.heap.size := by omega
  clear hR hg hs2
  go_loopw [7, 19] (fun v i wr => ∃ k : Nat, k ≤ C.size ∧ i = .int .i64 k ∧ wr.ownsRow wS.heap.size 3 1 v (picks p k).length ((picks p k).map (Value.int .i64)) ∧ Below wS.heap.size wS wr) (fun _ i _ => C.size - (intOf i).toNat)
  case atStart => exact ⟨0, Nat.zero_le _, rfl, ⟨rfl, .inl ⟨rfl, rfl⟩⟩, Below.refl _ _⟩
  case round =>
    obtain ⟨k, hk, rfl, hown, hbe⟩ := hrel
    have hbs := hbe.size
    by_cases hlt : k < C.size
    · obtain ⟨c0, c1, c2⟩ := box_cells (chain hB hbe)
      obtain ⟨a, b, q, m, rfl, rfl, ha1, ha2, hb8, hq, hm, hd, he, hms, hby, hr⟩ := place HG.out hlt
      have d1 : wr.cell? ⟨G, q, none⟩ = some (.string (rowT C a q)) := (hbe.cell (p := ⟨G, q, none⟩) hs4).trans (cell_rows HR.out (Lib.hid rfl) (Lib.hid hr))
      have e3 : IntKind.i64.wrap (q : Int) = (q : Int) := IntWalk.i64_in _ (by omega)
      have hl := picks_len p k
      have HB := Lib.hid hby
      clear hby hr
      by_cases hp : p k = true
      · have HP : Hid (picks p (k + 1) = picks p k ++ [(k : Int)]) := Lib.hid (picks_yes hp)
        have HPT : Hid (freeB (byteAt (rowT C a q) m) = true) := Lib.hid (by rw [HB.out]; exact HPB.out _ _ hlt hp)
        clear hp
        go_wp2
        go_quiet ((go_at_call 74; exact left_quiet (freeTo _ _ m _ HPT rfl hms _)))
        clear d1 e3 hd he
        go_wp2_with (at_builtin; go_loud (refine wpList_append_own _ rfl _ _ 24 rfl wS.heap.size 3 i0 (.int .i64 0) 1 8 Tryd.underlying24 hi hz0 hz1 hz2 rfl (by decide) _ _ _ rfl ((own_drewN hown _).alloc _) ⟨wr.heap.size, 0, none⟩ 1 1 ([(k : Int)].map (Value.int .i64)) rfl rfl (int_new _ _ _) (ints_one _) (by unfold maxLen; omega) (by omega) (by simp; omega) ?_); intro v' w2 hown2 hgrow _; have hbe2 := ((below_drewN hbe _).alloc (by simpa using hbs) _).grown hgrow (by simp; omega) (fun j hj => (hown.lt j hj).1); clear hgrow)
        go_roundw
        case rel => exact ⟨k + 1, by omega, by go_num, ints_push hown2 HP.out, hbe2⟩
        case measure => simp [intOf]; omega
      · have hp2 : p k = false := by simpa using hp
        have HP : Hid (picks p (k + 1) = picks p k) := Lib.hid (picks_no hp2)
        have HPT : Hid (freeB (byteAt (rowT C a q) m) = false) := Lib.hid (by rw [HB.out]; exact HPB.out _ _ hlt hp2)
        clear hp hp2
        go_wp2
        go_quiet ((go_at_call 74; exact left_quiet (freeTo _ _ m _ HPT rfl hms _)))
        clear d1 e3 hd he
        go_wp2
        go_roundw
        case rel => exact ⟨k + 1, by omega, by go_num, by rw [HP.out]; exact own_drewN hown _, below_drewN hbe _⟩
        case measure => simp [intOf]; omega
    · obtain rfl : k = C.size := by omega
      have HE : Hid (picks p C.size = L) := Lib.hid (by rw [← HL.out]; congr 1; omega)
      go_wp2
      go_ret
      exact ⟨_, rfl, by rw [← HE.out]; exact own_base hown (by omega), box_below (chain hB hbe)⟩

theorem withFreeAny (W H : Int) (C : ByteArray) (L : List Int) (hC : C.size ≤ 1048576) (HL : Hid (freeL W H C = L)) (w : World) :
    Calls Tryd.prog 73 #[.agg #[.int .i64 W, .int .i64 H, .string C], .func (.func 74) #[] #[]] w (IntsBack w L) := by
  by_cases hg : gok W H C = true
  · exact withFree W H C (freeP W H C) L hC hg (Lib.hid fun n b hn h => freeP_at hg hn h) HL w
  · have : L = [] := HL.out.symm.trans (freeL_no hg)
    subst this
    exact with_no W H C _ hC (by simpa using hg) w

theorem implFreeCells (W H : Int) (C : ByteArray) (L : List Int) (hC : C.size ≤ 1048576) (HL : Hid (freeL W H C = L)) (w : World) :
    Calls Tryd.prog 52 #[.agg #[.int .i64 W, .int .i64 H, .string C]] w (IntsBack w L) := by
  go_enter Tryd.func52, Tryd.ntmps52
  go_wp2_with (go_at_call 73; (with_reducible refine (withFreeAny W H C L hC HL _).mono ?_); intro e w1 h1; obtain ⟨v, rfl, h2⟩ := ints_out h1)
  go_ret
  exact ints_under h2 ((Below.refl _ _).alloc (Nat.le_refl _) _)

end Go.Proofs.YtcagaolichgogaaDoor

