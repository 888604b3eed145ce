/-
  CONTRACTS of the laws' own helpers toIntS, and of arguments that are slices of ints. No law is proved here.
  CONTRACTS of the laws' own helpers toWay, toWayS. No law is proved here.
  CONTRACTS of the laws' own helpers eqWay, eqWayS. No law is proved here.
  Plain lemmas: an argument of whatever type, read again behind the call; an argument that is a slice of structs, opened. No law is proved here.
  Plain lemmas: an argument that is a slice of ints, opened, and read again after the call. No law is proved here.
  Plain lemmas: an argument that is a slice of ways, opened. No law is proved here.
-/
import Derived.Test.YthnmapomhgjblaaGreatDoorZPF00
import Derived.Test.YthnmapomhgjblaaGreatDoorZPF01
import Derived.BigQuiet
import Derived.Deep.QuietTactic
import Derived.StillTailTactics
import Derived.Deep.Slices
import Derived.Deep.Fields
import Derived.ChangeSame
import Derived.Lib.SmallJoins
namespace Go.Proofs.YthnmapomhgjblaaGreatDoor
set_option maxRecDepth 4096
open Go.ChangeShapes Go.WideShapes Go.ChangeAt Go.RowKit

set_option maxHeartbeats 400000 in
theorem toInts (v : Value) (L : List Int) (w : World) (hv : ArgI w v L) (hL : L.length ≤ 2000000) :
    Calls Tryz.prog 17 #[v] w (IntsBack w L) := by
  obtain ⟨i0, hi, hz0, hz1, hz2⟩ := info_parts Tryz.info3
  obtain ⟨av, cv, rfl, HV⟩ := hv
  have HVh := Lib.hid HV
  clear HV
  go_enter Tryz.func17, Tryz.ntmps17
  go_wp2_with (at_make; refine wpList_make_full w rfl _ _ 26 rfl w.heap.size 3 i0 (.int .i64 0) 1 Tryz.underlying26 hi hz0 hz1 .i64 .i64 (L.length : Int) (L.length : Int) L.length rfl rfl rfl rfl (by rw [hz2]; omega) (by unfold maxLen; omega) (Nat.le_refl _) ?_; intro w1 hown0 hgrow0)
  generalize (madeCells (Value.int .i64 0).cells (L.length * 1)).toList = xs at hown0
  have hxl : xs.length = L.length := by have := hown0.1; omega
  have hb0 := (Below.refl w.heap.size w).grown hgrow0 (Nat.le_refl _) (by simp)
  have hgl := (hown0.lt w.heap.size rfl).2
  clear hgrow0
  go_loopw [4] (fun i wr => ∃ k : Nat, k ≤ L.length ∧ i = .int .i64 k ∧ wr.ownsRow w.heap.size 3 1 (.slice (some ⟨w.heap.size, 0, none⟩) L.length L.length) L.length ((L.take k).map (Value.int .i64) ++ xs.drop k) ∧ Below w.heap.size w wr) (fun i _ => L.length - (intOf i).toNat)
  case atStart => exact ⟨0, Nat.zero_le _, rfl, by simpa using hown0, hb0⟩
  case round =>
    clear hown0
    obtain ⟨k, hk, rfl, hown, hbe⟩ := hrel
    by_cases hlt : k < L.length
    · obtain ⟨x, hx⟩ : ∃ x, L[k]? = some x := ⟨_, List.getElem?_eq_getElem hlt⟩
      rcases HVh.out with h0 | ⟨b, rfl, hg, hc⟩
      · omega
      · have hbl : (b.add k).block = b.block := by unfold Addr.add; split <;> rfl
        have d0 : wr.cell? (b.add k) = some (.int .i64 x) := (hbe.cell (p := b.add k) (by rw [hbl]; exact hg)).trans (hc k x hx)
        have HST := Lib.hid (ints_set_at L k x xs hx (by omega))
        have hk2 : (k : Int) < (L.length : Int) := by omega
        obtain ⟨u, d1⟩ := own_cell hown hlt
        have d2 := hown.frozenAt k
        clear hx hc hbl
        go_wp2
        go_roundw
        case rel => exact ⟨k + 1, by omega, by go_num, by rw [← HST.out]; exact (hown.stored k _).1, hbe.setCell (Nat.le_refl _) _⟩
        case measure => simp [intOf]; omega
    · obtain rfl : k = L.length := by omega
      go_wp2
      go_ret
      exact ⟨_, rfl, by rw [List.take_length, List.drop_of_length_le (by omega), List.append_nil] at hown; exact hown, hbe⟩

end Go.Proofs.YthnmapomhgjblaaGreatDoor

namespace Go.Proofs.YthnmapomhgjblaaGreatDoor
set_option maxRecDepth 4096
open Go.ChangeShapes Go.WideShapes Go.ChangeAt Go.RowKit

/-- A way came back, its cells in memory of the call's own. -/
def WayBack (w : World) (L : List Int) (e : Ending) (w' : World) : Prop :=
  ∃ u, e = .returned (.agg #[u]) ∧ w'.ownsRow w.heap.size 3 1 u L.length (L.map (Value.int .i64)) ∧ Below w.heap.size w w'

theorem toWay (v : Value) (L : List Int) (w : World) (hv : ArgI w v L) (hL : L.length ≤ 2000000) :
    Calls Tryz.prog 66 #[.agg #[v]] w (WayBack w L) := by
  have hB := ((((Below.refl w.heap.size w).alloc (Nat.le_refl _) (.cells #[v] 100)).alloc (by simp) (.cells #[.slice none 0 0] 52)).alloc (by simp; omega) (.cells #[.slice none 0 0] 52))
  have HV := Lib.hid (argI_below hv hB)
  clear hv
  go_enter Tryz.func66, Tryz.ntmps66
  go_wp2_with fail
  refine (toInts v L _ HV.out hL).mono ?_
  rintro e w3 ⟨u, rfl, hown, hb⟩
  obtain ⟨_, z0⟩ := old_one (m := w.heap.size + 1 + 1) hb (by
    have := heap_alloc_new ((w.alloc (.cells #[v] 100)).alloc (.cells #[.slice none 0 0] 52)) (.cells #[.slice none 0 0] 52)
    simpa using this)
  obtain ⟨r0, y0⟩ := old_one (m := w.heap.size + 1) (c0 := .slice none 0 0) (t := 52) hb (by
    rw [Below.heap_alloc _ _ _ (by simp)]
    have := heap_alloc_new (w.alloc (.cells #[v] 100)) (.cells #[.slice none 0 0] 52)
    simpa using this)
  obtain ⟨au, cu, rfl⟩ := own_form hown
  have HO := Lib.hid hown
  have HB3 := Lib.hid (hB.trans (hb.mono hB.size))
  clear hown hb hB
  go_wp2_with fail
  refine bodyPost_ret (v := .agg #[.slice au L.length cu]) (by simp [results, Tryz.results66, go_sem, r0]) rfl ⟨_, rfl, ?_, ?_⟩
  · have h1 := own_put1 (own_put1 HO.out (r := w.heap.size + 1 + 1) (i := 0) (u := .slice au L.length cu) (by simp)) (r := w.heap.size + 1) (i := 0) (u := .slice au L.length cu) (by simp)
    exact own_base h1 (by simp; omega)
  · exact (HB3.out.setCell (by simp; omega) _).setCell (by simp) _

theorem ways_step {vs xs : List Value} {k n : Nat} {u : Value} (hk : k < n) (hv : vs.length = k) (hx : xs.length = n) : (vs ++ xs.drop k).set k u = (vs ++ [u]) ++ xs.drop (k + 1) := by
  rw [List.set_append, if_neg (by omega), hv, Nat.sub_self, List.drop_eq_getElem_cons (by omega), List.set_cons_zero, List.append_assoc]
  rfl
set_option maxHeartbeats 1000000 in
theorem toWays (v : Value) (Ws : List (List Int)) (w : World) (hv : ArgW w v Ws) (hW : Ws.length ≤ 2000000) (hL : ∀ L ∈ Ws, L.length ≤ 2000000) :
    Calls Tryz.prog 40 #[v] w (WaysBack w Ws) := by
  obtain ⟨i0, hi, hz0, hz1, hz2⟩ := info_parts Tryz.infoWay
  obtain ⟨av, cv, rfl, HV⟩ := hv
  have HVh := Lib.hid HV
  have HLh := Lib.hid hL
  clear HV hL
  go_enter Tryz.func40, Tryz.ntmps40
  go_wp2_with (at_make; refine wpList_make_full w rfl _ _ 27 rfl w.heap.size 52 i0 _ 1 Tryz.underlying27 hi hz0 hz1 .i64 .i64 (Ws.length : Int) (Ws.length : Int) Ws.length rfl rfl rfl rfl (by rw [hz2]; omega) (by unfold maxLen; omega) (Nat.le_refl _) ?_; intro w1 hown0 hgrow0)
  generalize (madeCells (Value.agg #[.slice none 0 0]).cells (Ws.length * 1)).toList = xs at hown0
  have hxl : xs.length = Ws.length := by have := hown0.1; omega
  have hb0 := (Below.refl w.heap.size w).grown hgrow0 (Nat.le_refl _) (by simp)
  have hg0 := (hown0.lt w.heap.size rfl).2
  clear hgrow0
  go_loopw [4] (fun i wr => ∃ (k : Nat) (vs : List Value), k ≤ Ws.length ∧ i = .int .i64 k ∧ vs.length = k ∧ wr.ownsRow w.heap.size 52 1 (.slice (some ⟨w.heap.size, 0, none⟩) Ws.length Ws.length) Ws.length (vs ++ xs.drop k) ∧ RowsI wr w.heap.size vs (Ws.take k) wr.heap.size ∧ Below w.heap.size w wr) (fun i _ => Ws.length - (intOf i).toNat)
  case atStart => exact ⟨0, [], Nat.zero_le _, rfl, rfl, by simpa using hown0, by rw [List.take_zero]; exact .nil (by omega) (Nat.le_refl _), hb0⟩
  case round =>
    clear hown0
    obtain ⟨k, vs, hk, rfl, hvl, hown, hrows, hbe⟩ := hrel
    by_cases hlt : k < Ws.length
    · obtain ⟨L, hx⟩ : ∃ L, Ws[k]? = some L := ⟨_, List.getElem?_eq_getElem hlt⟩
      rcases HVh.out with h0 | ⟨b, rfl, hg, hc⟩
      · omega
      · have hk2 : (k : Int) < (Ws.length : Int) := by omega
        obtain ⟨u0, hu0, hI⟩ := hc k L hx
        have d0 := (hbe.cell (p := b.add k) (by rw [blk_add]; exact hg)).trans hu0
        have HI := Lib.hid (argI_below hI hbe)
        obtain ⟨a0, c0, rfl, _⟩ := hI
        have HT := Lib.hid (toWay (.slice a0 L.length c0) L wr HI.out (HLh.out L (List.mem_of_getElem? hx)))
        have hts : Ws.take (k + 1) = Ws.take k ++ [L] := by
          obtain ⟨_, e⟩ := List.getElem?_eq_some_iff.1 hx
          rw [List.take_succ_eq_append_getElem hlt, e]
        have HTS := Lib.hid hts
        have HVL := Lib.hid hvl
        clear hu0 hc hx hts hvl
        go_wp2_with fail
        refine HT.out.mono ?_
        rintro e w3 ⟨u, rfl, hu, hb⟩
        have hbs := hbe.size
        have hown3 := own_below hown hb hbs
        have hbe3 := hbe.trans (hb.mono hbs)
        obtain ⟨x0, f0⟩ := own_cell hown3 (j := k) (by omega)
        have z0 := hown3.frozenAt k
        have hst := ways_step (u := u) hlt HVL.out hxl
        have hown4 := hown3.stored k u
        rw [hst] at hown4
        have hrow3 := (hrows.on hb).snoc (hi := w3.heap.size) (v := u) (L := L) ⟨hu, fun j hj => (hu.lt j hj).2, Nat.le_refl _⟩ hb.size
        rw [← HTS.out] at hrow3
        have hrow4 := hrow3.grown hown4.2 (hrow3.kinds hown3 (by decide))
        have hsz : (w3.setCell ⟨w.heap.size, k, none⟩ u).heap.size = w3.heap.size := by simp [World.setCell]
        rw [← hsz] at hrow4
        have HO4 := Lib.hid hown4.1
        have HR4 := Lib.hid hrow4
        have HB4 := Lib.hid (hbe3.setCell (Nat.le_refl _) u (p := ⟨w.heap.size, k, none⟩))
        obtain ⟨au, cu, rfl⟩ := own_form hu
        clear hown hbe hb hown3 hbe3 d0 hrows hrow3 hrow4 hown4 hu hst
        go_wp2_with fail
        go_roundw
        case rel => exact ⟨k + 1, _, by omega, by go_num, by rw [List.length_append, HVL.out]; rfl, HO4.out, HR4.out, HB4.out⟩
        case measure => simp [intOf]; omega
    · obtain rfl : k = Ws.length := by omega
      rw [List.take_length] at hrows
      rw [List.drop_of_length_le (by omega), List.append_nil] at hown
      have HO := Lib.hid hown
      have HR := Lib.hid hrows
      have HB := Lib.hid hbe
      clear hown hrows hbe
      go_wp2_with fail
      go_ret
      exact ⟨_, rfl, ⟨vs, HO.out, fun j hj => by have := (HO.out.lt j hj).2; omega, HR.out⟩, HB.out⟩

end Go.Proofs.YthnmapomhgjblaaGreatDoor

namespace Go.Proofs.YthnmapomhgjblaaGreatDoor
set_option maxRecDepth 4096
open Go.ChangeShapes Go.WideShapes Go.ChangeAt Go.RowKit

theorem eqWay (v1 v2 : Value) (L : List Int) (w : World) (h1 : Ints w v1 L) (h2 : Ints w v2 L) (hL : L.length ≤ 2000000) :
    Calls Tryz.prog 67 #[.agg #[v1], .agg #[v2]] w (Made w (.bool true)) := by
  have hB := ((Below.refl w.heap.size w).alloc (Nat.le_refl _) (.cells #[v1] 52)).alloc (by simp) (.cells #[v2] 52)
  have H1 := Lib.hid (ints_on h1 hB)
  have H2 := Lib.hid (ints_on h2 hB)
  clear h1 h2
  go_enter Tryz.func67, Tryz.ntmps67
  go_wp2_with fail
  refine (eqInts v1 v2 L _ H1.out H2.out hL).mono ?_
  rintro e w3 ⟨rfl, m, rfl⟩
  go_wp2_with fail
  go_ret
  exact ⟨rfl, below_drewN hB m⟩

set_option maxHeartbeats 1000000 in
theorem eqWays (v1 v2 : Value) (Ws : List (List Int)) (w : World) (h1 : WaysAt w v1 Ws) (h2 : WaysAt w v2 Ws) (hW : Ws.length ≤ 2000000) (hL : ∀ L ∈ Ws, L.length ≤ 2000000) :
    Calls Tryz.prog 41 #[v1, v2] w (Made w (.bool true)) := by
  obtain ⟨a1, c1, rfl, H1⟩ := h1
  obtain ⟨a2, c2, rfl, H2⟩ := h2
  have HH1 := Lib.hid H1
  have HH2 := Lib.hid H2
  have HLh := Lib.hid hL
  clear H1 H2 hL
  go_enter Tryz.func41, Tryz.ntmps41
  go_wp2
  go_loopw [5] (fun i wr => ∃ k : Nat, k ≤ Ws.length ∧ i = .int .i64 k ∧ Below w.heap.size w wr) (fun i _ => Ws.length - (intOf i).toNat)
  case atStart => exact ⟨0, Nat.zero_le _, rfl, Below.refl _ _⟩
  case round =>
    obtain ⟨k, hk, rfl, hB⟩ := hrel
    by_cases hlt : k < Ws.length
    · obtain ⟨L, hx⟩ : ∃ L, Ws[k]? = some L := ⟨_, List.getElem?_eq_getElem hlt⟩
      rcases HH1.out with h0 | ⟨g1, rfl, hg1, hc1⟩
      · omega
      · rcases HH2.out with h0 | ⟨g2, rfl, hg2, hc2⟩
        · omega
        · obtain ⟨u1, p1, i1⟩ := hc1 k L hx
          obtain ⟨u2, p2, i2⟩ := hc2 k L hx
          have d0 := (hB.cell (p := ⟨g1, _, none⟩) hg1).trans p1
          have e0 := (hB.cell (p := ⟨g2, _, none⟩) hg2).trans p2
          have hlt2 : (k : Int) < (Ws.length : Int) := by omega
          have HB2 := Lib.hid hB.drew
          have I1 := Lib.hid (ints_on i1 hB.drew)
          have I2 := Lib.hid (ints_on i2 hB.drew)
          have hLk := HLh.out L (List.mem_of_getElem? hx)
          obtain ⟨b1, n1, rfl, _⟩ := ints_form i1
          obtain ⟨b2, n2, rfl, _⟩ := ints_form i2
          clear p1 p2 i1 i2 hc1 hc2 hx hB
          go_wp2_with fail
          go_still_tail 8, (by kernel_rfl)
          change wpList _ _ _ _ _ wr.drew
          go_wp2_with (go_at_call 67; (with_reducible refine (eqWay _ _ L _ I1.out I2.out hLk).mono ?_); rintro e w' ⟨rfl, hb⟩; have HB3 := Lib.hid (HB2.out.trans (hb.mono HB2.out.size)); clear hb)
          go_roundw
          case rel => exact ⟨k + 1, by omega, by go_num, HB3.out⟩
          case measure => simp [intOf]; omega
    · obtain rfl : k = Ws.length := by omega
      go_wp2_with fail
      go_ret
      exact ⟨rfl, hB⟩

end Go.Proofs.YthnmapomhgjblaaGreatDoor

namespace Go.Proofs.YthnmapomhgjblaaGreatDoor
set_option maxRecDepth 4096
open Go.ChangeShapes Go.WideShapes Go.ChangeAt Go.RowKit Go.Deep Go.Joins

section
variable {H : Type} {enc : TypeId × Value → H}

/-- Whatever a call made behind it, the argument reads as it did. -/
theorem again_of {t : TypeId} (hr : Tryz.prog.readableRec t = true) (hrow : t < Tryz.prog.types.size) {w w1 : World} {v : Value} {d : DataW H} {ps : List MemPlace} (h : DataW.Trod enc Tryz.prog w 0 (fun _ => true) true t v d ps)
    (hlt : ∀ x ∈ ps, x.block < w.heap.size) (hb : Below w.heap.size w w1) (sp : Nat → Bool) (hsp : ∀ p ∈ ps, sp p.block = true) : DataW.Trod enc Tryz.prog w1 0 sp true t v d ps :=
  WideElems.Trod_stays (by kernel_rfl) hr hrow h (fun x hx => hb.same (hlt x hx)) hsp

theorem list_of {α : Type} {Q : Nat → α → Prop} : ∀ (n : Nat), (∀ i, i < n → ∃ x, Q i x) → ∃ L : List α, L.length = n ∧ ∀ (j : Nat) x, L[j]? = some x → Q j x
  | 0, _ => ⟨[], rfl, fun j x h => by simp at h⟩
  | n + 1, h => by
    obtain ⟨L, hl, hL⟩ := list_of n fun i hi => h i (by omega)
    obtain ⟨x, hx⟩ := h n (by omega)
    refine ⟨L ++ [x], by simp [hl], fun j y hy => ?_⟩
    by_cases hj : j < n
    · rw [List.getElem?_append_left (by omega)] at hy
      exact hL j y hy
    · rw [List.getElem?_append_right (by omega)] at hy
      have : j = n := by
        have := (List.getElem?_eq_some_iff.1 hy).1
        simp at this
        omega
      subst this
      rw [hl, Nat.sub_self] at hy
      cases hy
      exact hx

theorem open_slice_fields {P : Program} {w : World} {base : Nat} {spare : Nat → Bool} {held : Bool} {t e : TypeId} {fs : Array Field} {fuel : Nat} {cs : List Value} {x : DataW H × List MemPlace} (ht : P.underlying t = some (.slice e)) (he : P.underlying e = some (.struct fs))
    (hone : oneCellFields P fs = true) (hC : P.cellsOf e = fs.size) (h : DataW.trod enc P w base spare held fuel t cs = some x) :
    (cs = [.slice none 0 0]) ∨
    ∃ (a : Addr) (len cap : Nat), cs = [.slice (some a) len cap] ∧ len ≤ cap ∧ cap ≤ maxLen ∧
      ∀ i, i < len → ∀ (j : Nat) (f : Field), fs[j]? = some f → ∃ (v : Value) (n : Nat) (y : DataW H × List MemPlace), w.cell? (a.add (i * fs.size + j)) = some v ∧ DataW.trod enc P w base spare held n f.type [v] = some y := by
  rcases open_slice ht h with h0 | ⟨a, len, cap, m, n, D, Pl, hcs, hb, hl, hm, hmm, hx, hi⟩
  · exact .inl h0.1
  · refine .inr ⟨a, len, cap, hcs, hl, hm, fun i hil j f hj => ?_⟩
    have him : i < m := by rw [hmm]; split <;> omega
    obtain ⟨cs', hc, ht'⟩ := hi i him
    rw [hC] at hc
    obtain ⟨ys, n', _, _, hlen, hyl, hf⟩ := DataW.trod_struct he ht'
    obtain ⟨_, hcl, hat⟩ := World.cells?_some hc
    obtain ⟨ho, hk⟩ := hone_of hone j f hj
    have hjl : j < fs.size := (Array.getElem?_eq_some_iff.1 hj).1
    have hcell := hat j hjl
    have hv : cs'[j]? = some (cs'[j]'(by omega)) := List.getElem?_eq_getElem (by omega)
    have h1 := hf j f hj
    rw [ho, hk] at h1
    have hone' : (cs'.drop j).take 1 = [cs'[j]'(by omega)] := by
      rw [List.drop_eq_getElem_cons (by omega)]
      rfl
    rw [hone'] at h1
    have hys : ys[j]? = some (ys[j]'(by omega)) := List.getElem?_eq_getElem (by omega)
    refine ⟨_, n', _, ?_, h1.trans hys⟩
    rw [← Go.Deep.add_add, hcell, hv]

theorem cell_int {w : World} {a : Addr} {v : Value} {n : Nat} {t : TypeId} {y : DataW H × List MemPlace} (ht : Tryz.prog.underlying t = some (.int .i64)) (hc : w.cell? a = some v) (h : DataW.trod enc Tryz.prog w 0 (fun _ => true) true n t [v] = some y) : ∃ z : Int, w.cell? a = some (.int .i64 z) := by
  obtain ⟨z, e, _, _⟩ := DataW.trod_int ht h
  simp only [List.cons.injEq, and_true] at e
  subst e
  exact ⟨z, hc⟩
end

end Go.Proofs.YthnmapomhgjblaaGreatDoor

namespace Go.Proofs.YthnmapomhgjblaaGreatDoor
set_option maxRecDepth 4096
open Go.ChangeShapes Go.WideShapes Go.ChangeAt Go.RowKit

section
variable {H : Type} {enc : TypeId × Value → H}

/-- The argument is read again as it was, whatever a call made behind it. -/
def AgainI (enc : TypeId × Value → H) (w : World) (v : Value) (d : DataW H) (ps : List MemPlace) : Prop :=
  ∀ (w1 : World), Below w.heap.size w w1 → ∀ sp : Nat → Bool, (∀ p ∈ ps, sp p.block = true) → DataW.Trod enc Tryz.prog w1 0 sp true 26 v d ps

theorem open_arg_ints {w : World} {r : Reach} {b0 : Nat} {v : Value} {d : DataW H} {ps : List MemPlace} (hv : Value.okWide Tryz.prog w r b0 26 v) (h : DataW.Trod enc Tryz.prog w 0 (fun _ => true) true 26 v d ps) :
    ∃ L, ArgI w v L ∧ L.length ≤ maxLen ∧ AgainI enc w v d ps := by
  obtain ⟨a0, len0, cap0, rfl⟩ := okWide_slice Tryz.underlying26 hv
  obtain ⟨fuel, hf⟩ := h
  rcases open_ints Tryz.underlying26 Tryz.underlying3 (by kernel_rfl) hf with ⟨hcs, hx⟩ | ⟨a, len, cap, zs, hcs, _, hl, hm, hz, hx, hcell, hwz⟩
  · simp [Value.cells] at hcs
    obtain ⟨rfl, rfl, rfl⟩ := hcs
    obtain ⟨rfl, rfl⟩ := Prod.mk.inj hx
    exact ⟨[], ⟨none, 0, rfl, .inl rfl⟩, Nat.zero_le _, fun w1 _ sp _ => shut_slice_nil Tryz.underlying26⟩
  · simp [Value.cells] at hcs
    obtain ⟨rfl, rfl, rfl⟩ := hcs
    obtain ⟨rfl, rfl⟩ := Prod.mk.inj hx
    simp only [if_true] at hz
    have hbl : ∀ i, (a.add i).block = a.block := fun i => by unfold Addr.add; split <;> rfl
    have hlt : ∀ i, i < zs.length → a.block < w.heap.size := fun i hi => by have := block_lt_of_cell (hcell i hi); rwa [hbl] at this
    refine ⟨zs.take len0, ⟨some a, cap0, by rw [List.length_take, Nat.min_eq_left (by omega)], ?_⟩, by rw [List.length_take]; omega, fun w1 hb sp hsp => ?_⟩
    · by_cases h0 : len0 = 0
      · left; rw [List.length_take]; omega
      · refine .inr ⟨a, rfl, hlt 0 (by omega), fun j x hx => ?_⟩
        rw [List.getElem?_take] at hx
        split at hx
        · rw [hcell j (by omega)]
          simp [List.getD, hx]
        · cases hx
    · by_cases hc0 : cap0 = 0
      · exact ⟨2, shut_ints 0 Tryz.underlying26 Tryz.underlying3 (by kernel_rfl) (Nat.zero_le _) hl hm (by split <;> omega) (fun i hi => by omega) hwz⟩
      · have hs : sp a.block = true := by
          have hin : MemPlace.cell a.block a.off ∈ MemPlace.row a zs.length := MemPlace.mem_row.2 ⟨0, by omega, rfl⟩
          exact hsp _ hin
        exact ⟨2, shut_ints 0 Tryz.underlying26 Tryz.underlying3 (by kernel_rfl) (Nat.zero_le _) hl hm (by rw [if_pos hs]; exact hz) (fun i hi => (hb.cell (p := a.add i) (by rw [hbl]; exact hlt i hi)).trans (hcell i hi)) hwz⟩
end

end Go.Proofs.YthnmapomhgjblaaGreatDoor

namespace Go.Proofs.YthnmapomhgjblaaGreatDoor
set_option maxRecDepth 4096
open Go.ChangeShapes Go.WideShapes Go.ChangeAt Go.RowKit Go.Deep Go.Joins

section
variable {H : Type} {enc : TypeId × Value → H}
theorem open_ints_cell {w : World} {n : Nat} {v : Value} {y : DataW H × List MemPlace} (h : DataW.trod enc Tryz.prog w 0 (fun _ => true) true n 26 [v] = some y) : ∃ L : List Int, ArgI w v L ∧ L.length ≤ maxLen := by
  rcases open_ints Tryz.underlying26 Tryz.underlying3 (by kernel_rfl) h with ⟨hcs, _⟩ | ⟨a, len, cap, zs, hcs, _, hl, hm, hz, _, hcell, _⟩
  · simp only [List.cons.injEq, and_true] at hcs
    subst hcs
    exact ⟨[], ⟨none, 0, rfl, .inl rfl⟩, Nat.zero_le _⟩
  · simp only [List.cons.injEq, and_true] at hcs
    subst hcs
    simp only [if_true] at hz
    have hbl : ∀ i, (a.add i).block = a.block := fun i => by unfold Addr.add; split <;> rfl
    refine ⟨zs.take len, ⟨some a, cap, by rw [List.length_take, Nat.min_eq_left (by omega)], ?_⟩, by rw [List.length_take]; omega⟩
    by_cases h0 : len = 0
    · left; rw [List.length_take]; omega
    · refine .inr ⟨a, rfl, ?_, fun j x hx => ?_⟩
      · have := block_lt_of_cell (hcell 0 (by omega))
        rwa [hbl] at this
      · rw [List.getElem?_take] at hx
        split at hx
        · rw [hcell j (by omega)]
          simp [List.getD, hx]
        · cases hx
theorem open_arg_ways {w : World} {r : Reach} {b0 : Nat} {v : Value} {d : DataW H} {ps : List MemPlace} (hv : Value.okWide Tryz.prog w r b0 37 v) (h : DataW.Trod enc Tryz.prog w 0 (fun _ => true) true 37 v d ps) :
    ∃ Ws, ArgW w v Ws ∧ (Ws.length ≤ maxLen ∧ ∀ L ∈ Ws, L.length ≤ maxLen) := by
  obtain ⟨a0, len0, cap0, rfl⟩ := okWide_slice Tryz.underlying37 hv
  obtain ⟨fuel, hf⟩ := h
  rcases open_slice_fields Tryz.underlying37 Tryz.underlying100 (by kernel_rfl) (by kernel_rfl) hf with hcs | ⟨a, len, cap, hcs, hl, hm, hfl⟩
  · simp [Value.cells] at hcs
    obtain ⟨rfl, rfl, rfl⟩ := hcs
    exact ⟨[], ⟨none, 0, rfl, .inl rfl⟩, Nat.zero_le _, fun L hL => by cases hL⟩
  · simp [Value.cells] at hcs
    obtain ⟨rfl, rfl, rfl⟩ := hcs
    obtain ⟨Ws, hA, hAt⟩ := list_of (Q := fun j (L : List Int) => (∃ u, w.cell? (a.add j) = some u ∧ ArgI w u L) ∧ L.length ≤ maxLen) len0 (fun i hi => by
      obtain ⟨v0, n0, y0, c0, t0⟩ := hfl i hi 0 _ rfl
      obtain ⟨L, h1, h2⟩ := open_ints_cell t0
      exact ⟨L, ⟨v0, by simpa using c0, h1⟩, h2⟩)
    refine ⟨Ws, ⟨some a, cap0, by rw [hA], ?_⟩, by omega, fun L hL => ?_⟩
    · by_cases h0 : Ws.length = 0
      · exact .inl h0
      · obtain ⟨x, hx⟩ : ∃ x, Ws[0]? = some x := ⟨_, List.getElem?_eq_getElem (by omega)⟩
        obtain ⟨⟨u, hu, _⟩, _⟩ := hAt 0 x hx
        have hb := block_lt_of_cell hu
        rw [blk_add] at hb
        exact .inr ⟨a, rfl, hb, fun i L hL => (hAt i L hL).1⟩
    · obtain ⟨i, hi, rfl⟩ := List.getElem_of_mem hL
      exact (hAt i _ (List.getElem?_eq_getElem hi)).2
end

end Go.Proofs.YthnmapomhgjblaaGreatDoor

