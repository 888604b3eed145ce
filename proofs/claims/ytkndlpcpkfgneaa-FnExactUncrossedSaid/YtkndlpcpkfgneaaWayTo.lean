/-
  CONTRACTS of the laws' own helpers toWay, toWayS. No law is proved here.
-/
import Derived.Test.YtkndlpcpkfgneaaWayRow
import Derived.Test.YtkndlpcpkfgneaaCopyInts
namespace Go.Proofs.Ytkndlpcpkfgneaa
set_option maxRecDepth 4096
open Go.ChangeShapes Go.WideShapes Go.ChangeAt Go.RowKit

/-- A way came back, its cells in memory of the call's own. -/
def WayBack (w : World) (L : List Int) (e : Ending) (w' : World) : Prop :=
  ∃ u, e = .returned (.agg #[u]) ∧ w'.ownsRow w.heap.size 3 1 u L.length (L.map (Value.int .i64)) ∧ Below w.heap.size w w'

theorem toWay (v : Value) (L : List Int) (w : World) (hv : ArgI w v L) (hL : L.length ≤ 2000000) :
    Calls Try.prog 21 #[.agg #[v]] w (WayBack w L) := by
  have hB := ((((Below.refl w.heap.size w).alloc (Nat.le_refl _) (.cells #[v] 36)).alloc (by simp) (.cells #[.slice none 0 0] 39)).alloc (by simp; omega) (.cells #[.slice none 0 0] 39))
  have HV := Lib.hid (argI_below hv hB)
  clear hv
  go_enter Try.func21, Try.ntmps21
  go_wp2_with fail
  refine (toInts v L _ HV.out hL).mono ?_
  rintro e w3 ⟨u, rfl, hown, hb⟩
  obtain ⟨_, z0⟩ := old_one (m := w.heap.size + 1 + 1) hb (by
    have := heap_alloc_new ((w.alloc (.cells #[v] 36)).alloc (.cells #[.slice none 0 0] 39)) (.cells #[.slice none 0 0] 39)
    simpa using this)
  obtain ⟨r0, y0⟩ := old_one (m := w.heap.size + 1) (c0 := .slice none 0 0) (t := 39) hb (by
    rw [Below.heap_alloc _ _ _ (by simp)]
    have := heap_alloc_new (w.alloc (.cells #[v] 36)) (.cells #[.slice none 0 0] 39)
    simpa using this)
  obtain ⟨au, cu, rfl⟩ := own_form hown
  have HO := Lib.hid hown
  have HB3 := Lib.hid (hB.trans (hb.mono hB.size))
  clear hown hb hB
  go_wp2_with fail
  refine bodyPost_ret (v := .agg #[.slice au L.length cu]) (by simp [results, Try.results21, go_sem, r0]) rfl ⟨_, rfl, ?_, ?_⟩
  · have h1 := own_put1 (own_put1 HO.out (r := w.heap.size + 1 + 1) (i := 0) (u := .slice au L.length cu) (by simp)) (r := w.heap.size + 1) (i := 0) (u := .slice au L.length cu) (by simp)
    exact own_base h1 (by simp; omega)
  · exact (HB3.out.setCell (by simp; omega) _).setCell (by simp) _

theorem ways_step {vs xs : List Value} {k n : Nat} {u : Value} (hk : k < n) (hv : vs.length = k) (hx : xs.length = n) : (vs ++ xs.drop k).set k u = (vs ++ [u]) ++ xs.drop (k + 1) := by
  rw [List.set_append, if_neg (by omega), hv, Nat.sub_self, List.drop_eq_getElem_cons (by omega), List.set_cons_zero, List.append_assoc]
  rfl
set_option maxHeartbeats 1000000 in
theorem toWays (v : Value) (Ws : List (List Int)) (w : World) (hv : ArgW w v Ws) (hW : Ws.length ≤ 2000000) (hL : ∀ L ∈ Ws, L.length ≤ 2000000) :
    Calls Try.prog 8 #[v] w (WaysBack w Ws) := by
  obtain ⟨i0, hi, hz0, hz1, hz2⟩ := info_parts Try.infoWay
  obtain ⟨av, cv, rfl, HV⟩ := hv
  have HVh := Lib.hid HV
  have HLh := Lib.hid hL
  clear HV hL
  go_enter Try.func8, Try.ntmps8
  go_wp2_with (at_make; refine wpList_make_full w rfl _ _ 24 rfl w.heap.size 39 i0 _ 1 Try.underlying24 hi hz0 hz1 .i64 .i64 (Ws.length : Int) (Ws.length : Int) Ws.length rfl rfl rfl rfl (by rw [hz2]; omega) (by unfold maxLen; omega) (Nat.le_refl _) ?_; intro w1 hown0 hgrow0)
  generalize (madeCells (Value.agg #[.slice none 0 0]).cells (Ws.length * 1)).toList = xs at hown0
  have hxl : xs.length = Ws.length := by have := hown0.1; omega
  have hb0 := (Below.refl w.heap.size w).grown hgrow0 (Nat.le_refl _) (by simp)
  have hg0 := (hown0.lt w.heap.size rfl).2
  clear hgrow0
  go_loopw [4] (fun i wr => ∃ (k : Nat) (vs : List Value), k ≤ Ws.length ∧ i = .int .i64 k ∧ vs.length = k ∧ wr.ownsRow w.heap.size 39 1 (.slice (some ⟨w.heap.size, 0, none⟩) Ws.length Ws.length) Ws.length (vs ++ xs.drop k) ∧ RowsI wr w.heap.size vs (Ws.take k) wr.heap.size ∧ Below w.heap.size w wr) (fun i _ => Ws.length - (intOf i).toNat)
  case atStart => exact ⟨0, [], Nat.zero_le _, rfl, rfl, by simpa using hown0, by rw [List.take_zero]; exact .nil (by omega) (Nat.le_refl _), hb0⟩
  case round =>
    clear hown0
    obtain ⟨k, vs, hk, rfl, hvl, hown, hrows, hbe⟩ := hrel
    by_cases hlt : k < Ws.length
    · obtain ⟨L, hx⟩ : ∃ L, Ws[k]? = some L := ⟨_, List.getElem?_eq_getElem hlt⟩
      rcases HVh.out with h0 | ⟨b, rfl, hg, hc⟩
      · omega
      · have hk2 : (k : Int) < (Ws.length : Int) := by omega
        obtain ⟨u0, hu0, hI⟩ := hc k L hx
        have d0 := (hbe.cell (p := b.add k) (by rw [blk_add]; exact hg)).trans hu0
        have HI := Lib.hid (argI_below hI hbe)
        obtain ⟨a0, c0, rfl, _⟩ := hI
        have HT := Lib.hid (toWay (.slice a0 L.length c0) L wr HI.out (HLh.out L (List.mem_of_getElem? hx)))
        have hts : Ws.take (k + 1) = Ws.take k ++ [L] := by
          obtain ⟨_, e⟩ := List.getElem?_eq_some_iff.1 hx
          rw [List.take_succ_eq_append_getElem hlt, e]
        have HTS := Lib.hid hts
        have HVL := Lib.hid hvl
        clear hu0 hc hx hts hvl
        go_wp2_with fail
        refine HT.out.mono ?_
        rintro e w3 ⟨u, rfl, hu, hb⟩
        have hbs := hbe.size
        have hown3 := own_below hown hb hbs
        have hbe3 := hbe.trans (hb.mono hbs)
        obtain ⟨x0, f0⟩ := own_cell hown3 (j := k) (by omega)
        have z0 := hown3.frozenAt k
        have hst := ways_step (u := u) hlt HVL.out hxl
        have hown4 := hown3.stored k u
        rw [hst] at hown4
        have hrow3 := (hrows.on hb).snoc (hi := w3.heap.size) (v := u) (L := L) ⟨hu, fun j hj => (hu.lt j hj).2, Nat.le_refl _⟩ hb.size
        rw [← HTS.out] at hrow3
        have hrow4 := hrow3.grown hown4.2 (hrow3.kinds hown3 (by decide))
        have hsz : (w3.setCell ⟨w.heap.size, k, none⟩ u).heap.size = w3.heap.size := by simp [World.setCell]
        rw [← hsz] at hrow4
        have HO4 := Lib.hid hown4.1
        have HR4 := Lib.hid hrow4
        have HB4 := Lib.hid (hbe3.setCell (Nat.le_refl _) u (p := ⟨w.heap.size, k, none⟩))
        obtain ⟨au, cu, rfl⟩ := own_form hu
        clear hown hbe hb hown3 hbe3 d0 hrows hrow3 hrow4 hown4 hu hst
        go_wp2_with fail
        go_roundw
        case rel => exact ⟨k + 1, _, by omega, by go_num, by rw [List.length_append, HVL.out]; rfl, HO4.out, HR4.out, HB4.out⟩
        case measure => simp [intOf]; omega
    · obtain rfl : k = Ws.length := by omega
      rw [List.take_length] at hrows
      rw [List.drop_of_length_le (by omega), List.append_nil] at hown
      have HO := Lib.hid hown
      have HR := Lib.hid hrows
      have HB := Lib.hid hbe
      clear hown hrows hbe
      go_wp2_with fail
      go_ret
      exact ⟨_, rfl, ⟨vs, HO.out, fun j hj => by have := (HO.out.lt j hj).2; omega, HR.out⟩, HB.out⟩

end Go.Proofs.Ytkndlpcpkfgneaa
