/-
  CONTRACT of spec.StepsFrom. No law is proved here.
-/
import Derived.Test.YtieipekhckambaaDoorSpecAround
import Derived.Test.YtieipekhckambaaDoorDist
namespace Go.Proofs.YtieipekhckambaaDoor
set_option maxRecDepth 4096
open Go.ChangeShapes Go.WideShapes Go.ChangeAt Go.RowKit

/-- The neighbours of a cell, as numbers. -/
noncomputable def nbN (W H : Int) (C : ByteArray) (c : Nat) : List Nat := (aroundL W H C c).map Int.toNat
def srcN (L : List Int) (c : Nat) : Bool := L.contains (c : Int)
/-- A row of numbers. -/
def rowO (o : Nat → Int) (n : Nat) : List Int := (List.range n).map o
theorem rowO_len (o : Nat → Int) (n : Nat) : (rowO o n).length = n := by simp [rowO]
theorem rowO_succ (o : Nat → Int) (n : Nat) : rowO o (n + 1) = rowO o n ++ [o n] := by simp [rowO, List.range_succ]
theorem rowO_at (o : Nat → Int) {n c : Nat} (h : c < n) : (rowO o n)[c]? = some (o c) := by simp [rowO, h]

theorem ints_on {w w1 : World} {v : Value} {L : List Int} (h : Ints w v L) (hb : Below w.heap.size w w1) : Ints w1 v L := by
  rcases h with h | ⟨g, c, rfl, hg, hc⟩
  · exact .inl h
  · exact .inr ⟨g, c, rfl, Nat.lt_of_lt_of_le hg hb.size, fun j x hx => (hb.cell (p := ⟨g, j, none⟩) hg).trans (hc j x hx)⟩
theorem own_num {w : World} {B : Nat} {e : TypeId} {g n cap c : Nat} {o : Nat → Int} (h : w.ownsRow B e 1 (.slice (some ⟨g, 0, none⟩) n cap) n ((rowO o n).map (Value.int .i64))) (hc : c < n) : w.cell? ⟨g, c, none⟩ = some (.int .i64 (o c)) := by
  have := h.cells (g := g) rfl c (.int .i64 (o c)) (by rw [List.getElem?_map, rowO_at o hc]; rfl)
  have hadd : (⟨g, 0, none⟩ : Addr).add c = ⟨g, c, none⟩ := by unfold Addr.add; split <;> simp_all
  rwa [hadd] at this
theorem own_int {w : World} {B : Nat} {e : TypeId} {g n cap j : Nat} {L : List Int} {x : Int} (h : w.ownsRow B e 1 (.slice (some ⟨g, 0, none⟩) n cap) n (L.map (Value.int .i64))) (hx : L[j]? = some x) : w.cell? ⟨g, j, none⟩ = some (.int .i64 x) := by
  have := h.cells (g := g) rfl j (.int .i64 x) (by rw [List.getElem?_map, hx]; rfl)
  have hadd : (⟨g, 0, none⟩ : Addr).add j = ⟨g, j, none⟩ := by unfold Addr.add; split <;> simp_all
  rwa [hadd] at this
theorem around_in {W H c : Int} {C : ByteArray} {x : Int} (h : x ∈ aroundL W H C c) : ∃ y : Nat, x = y ∧ y < C.size := by
  unfold aroundL at h
  split at h
  · have hf := (List.mem_filter.1 h).2
    unfold freeV at hf
    simp only [Bool.and_eq_true] at hf
    obtain ⟨_, n, rfl, hn⟩ := cellOk_out hf.1
    exact ⟨n, rfl, hn⟩
  · cases h
theorem relL_snoc {d : Nat} {o : Nat → Int} {L : List Nat} {i y : Nat} (h : L[i]? = some y) : relL d o (L.take (i + 1)) = rel1 d (relL d o (L.take i)) y := by
  obtain ⟨hi, rfl⟩ := List.getElem?_eq_some_iff.1 h
  rw [List.take_succ_eq_append_getElem hi]
  unfold relL
  rw [List.foldl_append]
  rfl
theorem rel1_same {d : Nat} {o : Nat → Int} {y : Nat} (h : ¬ o y < 0) : rel1 d o y = o := by
  funext x
  unfold rel1
  rw [if_neg (fun hh => h hh.2)]
theorem rowO_set {d n : Nat} {o : Nat → Int} {y : Nat} (hy : y < n) (h : o y < 0) : ((rowO o n).map (Value.int .i64)).set y (.int .i64 ((d : Int) + 1)) = (rowO (rel1 d o y) n).map (Value.int .i64) := by
  apply List.ext_getElem?
  intro x
  rw [List.getElem?_set, List.getElem?_map, List.getElem?_map]
  by_cases hx : x < n
  · rw [rowO_at _ hx, rowO_at _ hx]
    by_cases hxy : y = x
    · subst hxy
      have e : rel1 d o y y = (d : Int) + 1 := if_pos ⟨rfl, h⟩
      rw [if_pos rfl, if_pos (by simpa [rowO_len] using hx), e]
      rfl
    · have e : rel1 d o y x = o x := if_neg (fun hh => hxy hh.1.symm)
      rw [if_neg hxy, e]
  · have h1 : (rowO o n)[x]? = none := List.getElem?_eq_none_iff.2 (by rw [rowO_len]; omega)
    have h2 : (rowO (rel1 d o y) n)[x]? = none := List.getElem?_eq_none_iff.2 (by rw [rowO_len]; omega)
    rw [h1, h2, if_neg (by omega)]
theorem gok_some {W H : Int} {C : ByteArray} (hg : gok W H C = true) : 1 ≤ C.size := by
  obtain ⟨⟨⟨h1, h2⟩, ⟨h3, h4⟩, hs⟩, _⟩ := gok_out hg
  have := mul_bd h1 h2 h3 h4
  omega
theorem gok_few2 {W H : Int} {C : ByteArray} (hg : gok W H C = true) : C.size ≤ 64 := by
  obtain ⟨⟨⟨h1, h2⟩, ⟨h3, h4⟩, hs⟩, _⟩ := gok_out hg
  have := mul_bd h1 h2 h3 h4
  omega

set_option maxHeartbeats 1000000 in
theorem specSteps_free (W H : Int) (C : ByteArray) (L F : List Int) (v : Value) (hC : C.size ≤ 1048576) (hg : gok W H C = true) (hL : L.length ≤ 2000000) (w : World) (hv : Ints w v L) (o0 : Nat → Int) (HO : Hid (∀ c, o0 c = startB (srcN L) c))
    (hbad : ∀ x ∈ L, freeV W H C x = true)
    (HFF : Hid (rowO (runB (nbN W H C) C.size (srcN L) C.size) C.size = F)) :
    Calls Tryd.prog 39 #[.agg #[.int .i64 W, .int .i64 H, .string C], v] w (IntsBack w F) := by
  obtain ⟨i0, hi, hz0, hz1, hz2⟩ := info_parts Tryd.info3
  have hB := Below.refl (w.alloc (.cells #[.int .i64 W, .int .i64 H, .string C] 25)).heap.size (w.alloc (.cells #[.int .i64 W, .int .i64 H, .string C] 25))
  have hown := made_box w (.cells #[.int .i64 W, .int .i64 H, .string C] 25) 3
  replace hB := hB.alloc (Nat.le_refl _) (.cells #[] 3)
  obtain ⟨av, cv, rfl, HV⟩ := ints_form hv
  have HVh := Lib.hid HV
  have HI := Lib.hid hv
  have hfew : C.size ≤ 64 := gok_few2 hg
  have HBAD := Lib.hid hbad
  clear HV hv hbad
  obtain ⟨c0, c1, c2⟩ := box_cells hB
  go_enter Tryd.func39, Tryd.ntmps39
  go_wp2_with (go_at_call 41; (with_reducible refine (specGridOk W H C hC _).mono ?_); rintro e w1 ⟨rfl, hb⟩; replace hown := own_below hown hb (box_size hB); replace hB := chain hB hb; obtain ⟨c0, c1, c2⟩ := box_cells hB; clear hb)
  go_loopw [6] (fun i wr => ∃ k : Nat, k ≤ L.length ∧ i = .int .i64 k ∧ Below (w.alloc (.cells #[.int .i64 W, .int .i64 H, .string C] 25)).heap.size (w.alloc (.cells #[.int .i64 W, .int .i64 H, .string C] 25)) wr ∧
    wr.ownsRow (w.heap.size + 1) 3 1 (.slice (some ⟨w.heap.size + 1, 0, none⟩) 0 0) 0 []) (fun i _ => L.length - (intOf i).toNat)
  case atStart => exact ⟨0, Nat.zero_le _, rfl, hB, hown⟩
  case round =>
    clear hB hown
    obtain ⟨k, hk, rfl, hB, hown⟩ := hrel
    obtain ⟨c0, c1, c2⟩ := box_cells hB
    by_cases hlt : k < L.length
    · obtain ⟨x, hx⟩ : ∃ x, L[k]? = some x := ⟨_, List.getElem?_eq_getElem hlt⟩
      rcases HVh.out with h0 | ⟨g, rfl, hgl, hc⟩
      · omega
      · have d0 : wr.cell? ⟨g, k, none⟩ = some (.int .i64 x) := ((box_below hB).cell (p := ⟨g, k, none⟩) hgl).trans (hc k x hx)
        have HF : Hid (freeV W H C x = true) := Lib.hid (HBAD.out x (List.mem_of_getElem? hx))
        have hlt2 : (k : Int) < (L.length : Int) := by omega
        clear hx hc
        go_wp2_with fail
        go_region_with (go_at_call 38; (with_reducible refine (specFreeTo W H C x true hC HF _).mono ?_); rintro e w5 ⟨rfl, hb⟩; have hS5 : Below (w.alloc (.cells #[.int .i64 W, .int .i64 H, .string C] 25)).heap.size (w.alloc (.cells #[.int .i64 W, .int .i64 H, .string C] 25)) w5 ∧ w5.ownsRow (w.heap.size + 1) 3 1 (.slice (some ⟨w.heap.size + 1, 0, none⟩) 0 0) 0 [] := ⟨chain hB.drew hb, own_below (w := wr.drew) hown hb (box_size hB.drew)⟩)
        all_goals
          obtain ⟨hB5, hown5⟩ := hS5
          clear d0 hB hown hb c0 c1 c2
          go_wp2_with fail
          go_roundw
          case rel => exact ⟨k + 1, by omega, by go_num, hB5, hown5⟩
          case measure => simp [intOf]; omega
    · obtain rfl : k = L.length := by omega
      go_wp2_with fail
      go_loopw [5, 7] (fun v i wx => ∃ k : Nat, k ≤ C.size ∧ i = .int .i64 k ∧ Below (w.alloc (.cells #[.int .i64 W, .int .i64 H, .string C] 25)).heap.size (w.alloc (.cells #[.int .i64 W, .int .i64 H, .string C] 25)) wx ∧
        wx.ownsRow (w.heap.size + 1) 3 1 v (rowO o0 k).length ((rowO o0 k).map (Value.int .i64))) (fun _ i _ => C.size - (intOf i).toNat)
      case atStart => exact ⟨0, Nat.zero_le _, rfl, hB, hown⟩
      case round =>
        clear hB hown c0 c1 c2
        obtain ⟨k, hk, rfl, hB, hown⟩ := hrel
        obtain ⟨c0, c1, c2⟩ := box_cells hB
        have hIx := ints_on HI.out (box_below hB)
        have hs5 := box_size hB
        by_cases hlt : k < C.size
        · have hlt2 : (k : Int) < (C.size : Int) := by omega
          have hrl := rowO_len o0 k
          cases hsr : L.contains (k : Int) with
          | true =>
            have HSR := Lib.hid hsr
            have HP : Hid (rowO o0 (k + 1) = rowO o0 k ++ [0]) := Lib.hid (by rw [rowO_succ, HO.out]; unfold startB srcN; rw [if_pos hsr])
            clear hsr
            go_wp2_with (first
              | (go_at_call 44; (with_reducible refine (specHas _ L (k : Int) true _ hIx HSR hL).mono ?_); rintro e w' ⟨rfl, rfl⟩)
              | (at_builtin; refine wpList_append_own _ rfl _ _ 26 rfl (w.heap.size + 1) 3 i0 (.int .i64 0) 1 8 Tryd.underlying26 hi hz0 hz1 hz2 rfl (by decide) _ _ _ rfl (hown.alloc _) ⟨wr.heap.size, 0, none⟩ 1 1 ([(0 : Int)].map (Value.int .i64)) rfl rfl (int_new _ _ _) (ints_one _) (by unfold maxLen; omega) (by omega) (by simp; omega) ?_; intro v' w6 hown6 hgrow _; have hB6 := (hB.alloc hB.size _).grown hgrow (by simp; omega) (fun j hj => by simpa using (hown.lt j hj).1); clear hgrow))
            go_roundw
            case rel => exact ⟨k + 1, by omega, by go_num, hB6, ints_push hown6 HP.out⟩
            case measure => simp [intOf]; omega
          | false =>
            have HSR := Lib.hid hsr
            have HP : Hid (rowO o0 (k + 1) = rowO o0 k ++ [-1]) := Lib.hid (by rw [rowO_succ, HO.out]; unfold startB srcN; rw [if_neg (by rw [hsr]; decide)])
            clear hsr
            go_wp2_with (first
              | (go_at_call 44; (with_reducible refine (specHas _ L (k : Int) false _ hIx HSR hL).mono ?_); rintro e w' ⟨rfl, rfl⟩)
              | (at_builtin; refine wpList_append_own _ rfl _ _ 26 rfl (w.heap.size + 1) 3 i0 (.int .i64 0) 1 8 Tryd.underlying26 hi hz0 hz1 hz2 rfl (by decide) _ _ _ rfl (hown.alloc _) ⟨wr.heap.size, 0, none⟩ 1 1 ([(-1 : Int)].map (Value.int .i64)) rfl rfl (int_new _ _ _) (ints_one _) (by unfold maxLen; omega) (by omega) (by simp; omega) ?_; intro v' w6 hown6 hgrow _; have hB6 := (hB.alloc hB.size _).grown hgrow (by simp; omega) (fun j hj => by simpa using (hown.lt j hj).1); clear hgrow))
            go_roundw
            case rel => exact ⟨k + 1, by omega, by go_num, hB6, ints_push hown6 HP.out⟩
            case measure => simp [intOf]; omega
        · obtain rfl : k = C.size := by omega
          have hn1 : 1 ≤ C.size := gok_some hg
          have hst : rowO o0 C.size = rowO (runB (nbN W H C) C.size (srcN L) 0) C.size := by
            unfold rowO
            exact List.map_congr_left fun c _ => HO.out c
          have hrw : (rowO o0 C.size).length = C.size := rowO_len _ _
          rw [hrw, hst] at hown
          obtain ⟨go, cap, rfl⟩ : ∃ go cap, u5 = .slice (some ⟨go, 0, none⟩) C.size cap := by
            rcases hown.2 with ⟨_, h⟩ | ⟨go, cap, cur, h, _⟩
            · omega
            · exact ⟨go, cap, h⟩
          go_wp2_with fail
          go_loopw [8] (fun i wx => ∃ d : Nat, d ≤ C.size ∧ i = .int .i64 d ∧ Below (w.alloc (.cells #[.int .i64 W, .int .i64 H, .string C] 25)).heap.size (w.alloc (.cells #[.int .i64 W, .int .i64 H, .string C] 25)) wx ∧
            wx.ownsRow (w.heap.size + 1) 3 1 (.slice (some ⟨go, 0, none⟩) C.size cap) C.size ((rowO (runB (nbN W H C) C.size (srcN L) d) C.size).map (Value.int .i64))) (fun i _ => C.size - (intOf i).toNat)
          case atStart => exact ⟨0, Nat.zero_le _, rfl, hB, hown⟩
          case round =>
            clear hB hown c0 c1 c2 hIx hs5 hst hrw
            obtain ⟨d, hd, rfl, hB, hown⟩ := hrel
            obtain ⟨c0, c1, c2⟩ := box_cells hB
            by_cases hdn : d < C.size
            · have hdn2 : decide ((d : Int) < (C.size : Int)) = true := decide_eq_true (by omega)
              have hdn3 : decide (d < C.size) = true := decide_eq_true hdn
              obtain ⟨od, HOD⟩ : ∃ od, Hid (runB (nbN W H C) C.size (srcN L) d = od) := ⟨_, rfl⟩
              have hown1 := hown
              rw [HOD.out] at hown1
              clear hown
              go_wp2_with fail
              go_loopw [9] (fun i wx => ∃ c : Nat, c ≤ C.size ∧ i = .int .i64 c ∧ Below (w.alloc (.cells #[.int .i64 W, .int .i64 H, .string C] 25)).heap.size (w.alloc (.cells #[.int .i64 W, .int .i64 H, .string C] 25)) wx ∧
                wx.ownsRow (w.heap.size + 1) 3 1 (.slice (some ⟨go, 0, none⟩) C.size cap) C.size ((rowO ((List.range c).foldl (nodeB (nbN W H C) d) od) C.size).map (Value.int .i64))) (fun i _ => C.size - (intOf i).toNat)
              case atStart => exact ⟨0, Nat.zero_le _, rfl, hB, hown1⟩
              case round =>
                clear hB hown1 c0 c1 c2
                obtain ⟨c, hc, rfl, hB, hown⟩ := hrel
                obtain ⟨c0, c1, c2⟩ := box_cells hB
                obtain ⟨o, Ho⟩ : ∃ o, Hid ((List.range c).foldl (nodeB (nbN W H C) d) od = o) := ⟨_, rfl⟩
                have hown2 := hown
                rw [Ho.out] at hown2
                clear hown
                by_cases hcn : c < C.size
                · have hcn2 : (c : Int) < (C.size : Int) := by omega
                  have d1 := own_num hown2 hcn
                  have HN : Hid ((List.range (c + 1)).foldl (nodeB (nbN W H C) d) od = nodeB (nbN W H C) d o c) := Lib.hid (by rw [List.range_succ, List.foldl_append, Ho.out]; rfl)
                  by_cases hcd : o c = (d : Int)
                  · have HN2 : Hid (nodeB (nbN W H C) d o c = relL d o (nbN W H C c)) := Lib.hid (if_pos hcd)
                    have hcd2 : (o c != (d : Int)) = false := by simpa using hcd
                    clear hcd
                    obtain ⟨LL, HLL⟩ : ∃ LL, Hid (aroundL W H C c = LL) := ⟨_, rfl⟩
                    have hl4 : LL.length ≤ 4 := by rw [← HLL.out]; exact aroundL_len W H C c
                    go_wp2_with fail
                    refine (specAround W H C c LL hC HLL _).mono ?_
                    rintro e w5 ⟨v5, rfl, hownL, hb⟩
                    have hap := own_apart hown2 hownL
                    have hown3 := own_below hown2 hb (box_size hB)
                    replace hB := chain hB hb
                    obtain ⟨k0, k1, k2⟩ := box_cells hB
                    obtain ⟨a5, c5, hv5⟩ := own_form hownL
                    have hwr := hb.size
                    clear hb d1 c0 c1 c2 hown2
                    subst hv5
                    go_wp2_with fail
                    go_loopw [11] (fun i wx => ∃ i' : Nat, i' ≤ LL.length ∧ i = .int .i64 i' ∧ Below (w.alloc (.cells #[.int .i64 W, .int .i64 H, .string C] 25)).heap.size (w.alloc (.cells #[.int .i64 W, .int .i64 H, .string C] 25)) wx ∧ wx.ownsRow wr.heap.size 3 1 (.slice a5 LL.length c5) LL.length (LL.map (Value.int .i64)) ∧
                      wx.ownsRow (w.heap.size + 1) 3 1 (.slice (some ⟨go, 0, none⟩) C.size cap) C.size ((rowO (relL d o ((nbN W H C c).take i')) C.size).map (Value.int .i64))) (fun i _ => LL.length - (intOf i).toNat)
                    case atStart => exact ⟨0, Nat.zero_le _, rfl, hB, hownL, hown3⟩
                    case round =>
                      clear hB hownL hown3 k0 k1 k2
                      obtain ⟨i', hi', rfl, hB, hownL, hown⟩ := hrel
                      obtain ⟨c0, c1, c2⟩ := box_cells hB
                      by_cases hil : i' < LL.length
                      · obtain ⟨x, hx⟩ : ∃ x, LL[i']? = some x := ⟨_, List.getElem?_eq_getElem hil⟩
                        obtain ⟨y, rfl, hy⟩ := around_in (c := (c : Int)) (x := x) (by rw [HLL.out]; exact List.mem_of_getElem? hx)
                        obtain ⟨gl, rfl⟩ : ∃ gl, a5 = some ⟨gl, 0, none⟩ := by
                          rcases hownL.2 with ⟨_, h⟩ | ⟨gl, cap', cur, h, _⟩
                          · omega
                          · injection h with h1 _ _
                            exact ⟨gl, h1⟩
                        obtain ⟨o2, HO2⟩ : ∃ o2, Hid (relL d o ((nbN W H C c).take i') = o2) := ⟨_, rfl⟩
                        have hown2 := hown
                        rw [HO2.out] at hown2
                        have d3 := own_int hownL hx
                        have d4 := own_num hown2 hy
                        have f4 := hown2.frozenAt y
                        have HS : Hid (relL d o ((nbN W H C c).take (i' + 1)) = rel1 d o2 y) := Lib.hid (by rw [← HO2.out]; exact relL_snoc (by unfold nbN; rw [HLL.out, List.getElem?_map, hx]; rfl))
                        have hil2 : (i' : Int) < (LL.length : Int) := by omega
                        have hy2 : (y : Int) < (C.size : Int) := by omega
                        clear hx hown
                        by_cases hneg : o2 y < 0
                        · have HR := Lib.hid (rowO_set (n := C.size) (d := d) hy hneg)
                          have hst := hown2.stored y (.int .i64 ((d : Int) + 1))
                          have hgo := (hown2.lt go rfl).1
                          have HK := Lib.hid (hownL.kept hst.2 (.inr (fun e => hap.elim (fun h => by cases h) (fun h => h e.symm))))
                          have HST := Lib.hid hst.1
                          clear hst hownL hown2
                          go_wp2_with fail
                          go_roundw
                          case rel => exact ⟨i' + 1, by omega, by go_num, hB.setCell (by simp; omega) _, HK.out, by rw [HS.out, ← HR.out]; exact HST.out⟩
                          case measure => simp [intOf]; omega
                        · have HR : Hid (rel1 d o2 y = o2) := Lib.hid (rel1_same hneg)
                          go_wp2_with fail
                          go_roundw
                          case rel => exact ⟨i' + 1, by omega, by go_num, hB, hownL, by rw [HS.out, HR.out]; exact hown2⟩
                          case measure => simp [intOf]; omega
                      · obtain rfl : i' = LL.length := by omega
                        have HE : Hid (relL d o ((nbN W H C c).take LL.length) = nodeB (nbN W H C) d o c) := Lib.hid (by rw [HN2.out, List.take_of_length_le (by unfold nbN; rw [HLL.out, List.length_map]; exact Nat.le_refl _)])
                        go_wp2_with fail
                        go_roundw
                        case rel => exact ⟨c + 1, by omega, by go_num, hB, by rw [HN.out, ← HE.out]; exact hown⟩
                        case measure => simp [intOf]; omega
                  · have HN2 : Hid (nodeB (nbN W H C) d o c = o) := Lib.hid (if_neg hcd)
                    have hcd2 : (o c != (d : Int)) = true := by simpa using hcd
                    clear hcd
                    go_wp2_with fail
                    go_roundw
                    case rel => exact ⟨c + 1, by omega, by go_num, hB, by rw [HN.out, HN2.out]; exact hown2⟩
                    case measure => simp [intOf]; omega
                · obtain rfl : c = C.size := by omega
                  have HE : Hid (runB (nbN W H C) C.size (srcN L) (d + 1) = o) := Lib.hid (by rw [← Ho.out, ← HOD.out]; unfold runB; rw [List.range_succ, List.foldl_append]; rfl)
                  go_wp2_with fail
                  go_roundw
                  case rel => exact ⟨d + 1, by omega, by go_num, hB, by rw [HE.out]; exact hown2⟩
                  case measure => simp [intOf]; omega
            · obtain rfl : d = C.size := by omega
              go_wp2_with fail
              go_ret
              exact ⟨_, rfl, by rw [← HFF.out, rowO_len]; exact own_base hown (by omega), box_below hB⟩

theorem specSteps_inv (W H : Int) (C : ByteArray) (v : Value) (hC : C.size ≤ 1048576) (hg : gok W H C = false) (w : World) :
    Calls Tryd.prog 39 #[.agg #[.int .i64 W, .int .i64 H, .string C], v] w (IntsBack w []) := by
  have hB := Below.refl (w.alloc (.cells #[.int .i64 W, .int .i64 H, .string C] 25)).heap.size (w.alloc (.cells #[.int .i64 W, .int .i64 H, .string C] 25))
  have hown := made_box w (.cells #[.int .i64 W, .int .i64 H, .string C] 25) 3
  replace hB := hB.alloc (Nat.le_refl _) (.cells #[] 3)
  obtain ⟨c0, c1, c2⟩ := box_cells hB
  go_enter Tryd.func39, Tryd.ntmps39
  go_wp2_with (go_at_call 41; (with_reducible refine (specGridOk W H C hC _).mono ?_); rintro e w1 ⟨rfl, hb⟩; replace hown := own_below hown hb (box_size hB); replace hB := chain hB hb; clear hb)
  go_ret
  exact ⟨_, rfl, own_base hown (by omega), box_below hB⟩

set_option maxHeartbeats 1000000 in
theorem specSteps_bad (W H : Int) (C : ByteArray) (L : List Int) (v : Value) (hC : C.size ≤ 1048576) (hg : gok W H C = true) (hL : L.length ≤ 2000000) (w : World) (hv : Ints w v L) (hbad : ¬ ∀ x ∈ L, freeV W H C x = true) :
    Calls Tryd.prog 39 #[.agg #[.int .i64 W, .int .i64 H, .string C], v] w (IntsBack w []) := by
  have hB := Below.refl (w.alloc (.cells #[.int .i64 W, .int .i64 H, .string C] 25)).heap.size (w.alloc (.cells #[.int .i64 W, .int .i64 H, .string C] 25))
  have hown := made_box w (.cells #[.int .i64 W, .int .i64 H, .string C] 25) 3
  replace hB := hB.alloc (Nat.le_refl _) (.cells #[] 3)
  obtain ⟨av, cv, rfl, HV⟩ := ints_form hv
  have HVh := Lib.hid HV
  have HBAD := Lib.hid hbad
  clear HV hv hbad
  obtain ⟨c0, c1, c2⟩ := box_cells hB
  go_enter Tryd.func39, Tryd.ntmps39
  go_wp2_with (go_at_call 41; (with_reducible refine (specGridOk W H C hC _).mono ?_); rintro e w1 ⟨rfl, hb⟩; replace hown := own_below hown hb (box_size hB); replace hB := chain hB hb; obtain ⟨c0, c1, c2⟩ := box_cells hB; clear hb)
  go_loopw [6] (fun i wr => ∃ k : Nat, k ≤ L.length ∧ i = .int .i64 k ∧ Hid (∀ x ∈ L.take k, freeV W H C x = true) ∧ Below (w.alloc (.cells #[.int .i64 W, .int .i64 H, .string C] 25)).heap.size (w.alloc (.cells #[.int .i64 W, .int .i64 H, .string C] 25)) wr ∧
    wr.ownsRow (w.heap.size + 1) 3 1 (.slice (some ⟨w.heap.size + 1, 0, none⟩) 0 0) 0 []) (fun i _ => L.length - (intOf i).toNat)
  case atStart => exact ⟨0, Nat.zero_le _, rfl, Lib.hid (fun x hx => by simp at hx), hB, hown⟩
  case round =>
    clear hB hown
    obtain ⟨k, hk, rfl, HK, hB, hown⟩ := hrel
    obtain ⟨c0, c1, c2⟩ := box_cells hB
    by_cases hlt : k < L.length
    · obtain ⟨x, hx⟩ : ∃ x, L[k]? = some x := ⟨_, List.getElem?_eq_getElem hlt⟩
      rcases HVh.out with h0 | ⟨g, rfl, hgl, hc⟩
      · omega
      · have d0 : wr.cell? ⟨g, k, none⟩ = some (.int .i64 x) := ((box_below hB).cell (p := ⟨g, k, none⟩) hgl).trans (hc k x hx)
        have HX := Lib.hid hx
        have hlt2 : (k : Int) < (L.length : Int) := by omega
        clear hx hc
        cases hf : freeV W H C x with
        | true =>
          have HF := Lib.hid hf
          have HK2 : Hid (∀ x ∈ L.take (k + 1), freeV W H C x = true) := Lib.hid (fun z hz => by
            obtain ⟨hi, hxx⟩ := List.getElem?_eq_some_iff.1 HX.out
            rw [List.take_succ_eq_append_getElem hi, hxx] at hz
            rcases List.mem_append.1 hz with h | h
            · exact HK.out z h
            · rw [List.mem_singleton.1 h]; exact hf)
          clear hf
          go_wp2_with fail
          go_region_with (go_at_call 38; (with_reducible refine (specFreeTo W H C x true hC HF _).mono ?_); rintro e w5 ⟨rfl, hb⟩; have hS5 : Below (w.alloc (.cells #[.int .i64 W, .int .i64 H, .string C] 25)).heap.size (w.alloc (.cells #[.int .i64 W, .int .i64 H, .string C] 25)) w5 ∧ w5.ownsRow (w.heap.size + 1) 3 1 (.slice (some ⟨w.heap.size + 1, 0, none⟩) 0 0) 0 [] := ⟨chain hB.drew hb, own_below (w := wr.drew) hown hb (box_size hB.drew)⟩)
          all_goals
            obtain ⟨hB5, hown5⟩ := hS5
            clear d0 hB hown hb c0 c1 c2
            go_wp2_with fail
            go_roundw
            case rel => exact ⟨k + 1, by omega, by go_num, HK2, hB5, hown5⟩
            case measure => simp [intOf]; omega
        | false =>
          have HF := Lib.hid hf
          clear hf
          go_wp2_with fail
          go_region_with (go_at_call 38; (with_reducible refine (specFreeTo W H C x false hC HF _).mono ?_); rintro e w5 ⟨rfl, hb⟩; have hS5 : Below (w.alloc (.cells #[.int .i64 W, .int .i64 H, .string C] 25)).heap.size (w.alloc (.cells #[.int .i64 W, .int .i64 H, .string C] 25)) w5 ∧ w5.ownsRow (w.heap.size + 1) 3 1 (.slice (some ⟨w.heap.size + 1, 0, none⟩) 0 0) 0 [] := ⟨chain hB.drew hb, own_below (w := wr.drew) hown hb (box_size hB.drew)⟩)
          all_goals
            obtain ⟨hB5, hown5⟩ := hS5
            clear d0 hB hown hb c0 c1 c2
            go_wp2_with fail
            go_ret
            exact ⟨_, rfl, own_base hown5 (by omega), box_below hB5⟩
    · obtain rfl : k = L.length := by omega
      exact absurd (by have := HK.out; rwa [List.take_length] at this) HBAD.out

/-- The list that spec.StepsFrom gives back. -/
noncomputable def stepsL (W H : Int) (C : ByteArray) (L : List Int) : List Int := @ite _ (gok W H C = true ∧ ∀ x ∈ L, freeV W H C x = true) (Classical.propDecidable _) (rowO (runB (nbN W H C) C.size (srcN L) C.size) C.size) []
theorem specSteps (W H : Int) (C : ByteArray) (L F : List Int) (v : Value) (hC : C.size ≤ 1048576) (hL : L.length ≤ 2000000) (HF : Hid (stepsL W H C L = F)) (w : World) (hv : Ints w v L) :
    Calls Tryd.prog 39 #[.agg #[.int .i64 W, .int .i64 H, .string C], v] w (IntsBack w F) := by
  by_cases hg : gok W H C = true
  · by_cases hb : ∀ x ∈ L, freeV W H C x = true
    · exact specSteps_free W H C L F v hC hg hL w hv _ (Lib.hid fun _ => rfl) hb (Lib.hid (by rw [← HF.out]; exact (if_pos ⟨hg, hb⟩).symm))
    · have e : F = [] := by rw [← HF.out]; exact if_neg fun h => hb h.2
      subst e
      exact specSteps_bad W H C L v hC hg hL w hv hb
  · have e : F = [] := by rw [← HF.out]; exact if_neg fun h => hg h.1
    subst e
    exact specSteps_inv W H C v hC (by simpa using hg) w

/-- Each number is the distance. -/
theorem steps_dist {W H : Int} {C : ByteArray} {L : List Int} (hb : ∀ x ∈ L, freeV W H C x = true) (c : Nat) : Dist (nbN W H C) C.size (srcN L) (runB (nbN W H C) C.size (srcN L) C.size c) c := by
  refine run_dist (fun x hx => ?_) (fun p _ x hx => ?_)
  · have h := hb (x : Int) (List.contains_iff_mem.1 hx)
    unfold freeV at h
    simp only [Bool.and_eq_true] at h
    obtain ⟨_, n, e, hn⟩ := cellOk_out h.1
    have : x = n := by omega
    omega
  · obtain ⟨z, hz, rfl⟩ := List.mem_map.1 hx
    obtain ⟨y, rfl, hy⟩ := around_in hz
    simpa using hy

end Go.Proofs.YtieipekhckambaaDoor
