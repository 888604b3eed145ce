/-
  CONTRACT of spec.ReadGrid. No law is proved here.
-/
import Derived.Test.YtcofajganakbiaaDoorTextAny
import Derived.Test.YtcofajganakbiaaDoorStrip
import Derived.StillTailTactics
import Derived.Deep.Cut
namespace Go.Proofs.YtcofajganakbiaaDoor
open Go.ChangeShapes Go.WideShapes Go.ChangeAt Go.RowKit

/-- How ReadGrid ends. -/
def ReadG (T : ByteArray) (w : World) (e : Ending) (w' : World) : Prop :=
  Below w.heap.size w w' ∧ ((∃ (a b : Nat) (C : ByteArray), Good a b C T ∧ e = .returned (.tuple #[.agg #[.int .i64 a, .int .i64 b, .string C], .bool true])) ∨
    ((∀ (a b : Nat) (C : ByteArray), ¬ Good a b C T) ∧ e = .returned (.tuple #[.agg #[.int .i64 0, .int .i64 0, .string ⟨#[]⟩], .bool false])))

/-- The result's block lies at the head of the call's memory, all zero. -/
def ZW (w wr : World) : Prop := Below w.heap.size w wr ∧ wr.heap[w.heap.size]? = some (.cells #[.int .i64 0, .int .i64 0, .string ⟨#[]⟩] 27 (0, 0))
theorem zw_start (w : World) : ZW w (w.alloc (.cells #[.int .i64 0, .int .i64 0, .string ⟨#[]⟩] 27)) := ⟨(Below.refl _ _).alloc (Nat.le_refl _) _, heap_alloc_new w _⟩
theorem zw_lt {w wr : World} (h : ZW w wr) : w.heap.size < wr.heap.size := (Array.getElem?_eq_some_iff.1 h.2).1
theorem zw_on {w w1 w2 : World} (h : ZW w w1) (hb : Below w1.heap.size w1 w2) : ZW w w2 := ⟨h.1.trans (hb.mono h.1.size), (hb.block _ (zw_lt h)).trans h.2⟩
theorem zw_res {w wr : World} (h : ZW w wr) : (wr.cell? ⟨w.heap.size, 0, none⟩ = some (.int .i64 0) ∧ wr.cell? ⟨w.heap.size, 1, none⟩ = some (.int .i64 0) ∧ wr.cell? ⟨w.heap.size, 2, none⟩ = some (.string ⟨#[]⟩)) ∧
    wr.frozen? ⟨w.heap.size, 0, none⟩ = false ∧ wr.frozen? ⟨w.heap.size, 1, none⟩ = false ∧ wr.frozen? ⟨w.heap.size, 2, none⟩ = false := by
  refine ⟨⟨?_, ?_, ?_⟩, frozen_of_row _ _ _ _ _ h.2, frozen_of_row _ _ _ _ _ h.2, frozen_of_row _ _ _ _ _ h.2⟩ <;> rw [cell_of_row _ _ _ _ _ _ h.2] <;> rfl
theorem grid_info2 : (Tryd.prog.info? 27).map (·.size) = some 3 := by kernel_rfl
theorem load_grid2 (w : World) (g : Nat) (cs : Array Value) (hz : cs.size = 3) (hg : w.heap[g]? = some (.cells cs 27 (0, 0))) : (loadVar 27 ⟨g, 0, none⟩).run Tryd.prog w = .ok (.agg cs) w :=
  run_loadVar_row w g _ _ cs (0, 0) _ hg Tryd.underlying27 rfl (by rw [hz]; exact grid_info2)
theorem zw_stores {w wr : World} (h : ZW w wr) (a b c : Value) :
    Below w.heap.size w (((wr.setCell ⟨w.heap.size, 0, none⟩ a).setCell ⟨w.heap.size, 1, none⟩ b).setCell ⟨w.heap.size, 2, none⟩ c) ∧
    (((wr.setCell ⟨w.heap.size, 0, none⟩ a).setCell ⟨w.heap.size, 1, none⟩ b).setCell ⟨w.heap.size, 2, none⟩ c).heap[w.heap.size]? = some (.cells #[a, b, c] 27 (0, 0)) :=
  ⟨((h.1.setCell (Nat.le_refl _) _).setCell (Nat.le_refl _) _).setCell (Nat.le_refl _) _, heap_setCell_same _ _ _ _ _ _ (heap_setCell_same _ _ _ _ _ _ (heap_setCell_same _ _ _ _ _ _ h.2))⟩

theorem bytes_ne {x y : ByteArray} (h : x ≠ y) : (x.toList == y.toList) = false := by
  rw [beq_eq_false_iff_ne]
  intro e
  rw [ByteArray.toList_eq, ByteArray.toList_eq] at e
  exact h (ByteArray.ext (Array.toList_inj.1 e))

theorem good_few {a b : Nat} {C T : ByteArray} (h : Good a b C T) : T.size ≤ 93 := by
  obtain ⟨h1, h2, h3, h4, _⟩ := good_sides h
  have := good_size h
  have h5 : b * (a + 1) ≤ 8 * 9 := Nat.mul_le_mul h4 (by omega)
  omega

theorem one_byte (T : ByteArray) (k : Nat) (h : 21 + k < T.size) : ∃ c, (T.data.toList.drop 21)[k]? = some c ∧ (T.extract (21 + k) (21 + k + 1)).data.toList = [c] := by
  have hl : 21 + k < T.data.toList.length := by simpa using h
  refine ⟨T.data.toList[21 + k], by rw [List.getElem?_drop]; exact List.getElem?_eq_getElem hl, ?_⟩
  rw [ByteArray.data_extract, Array.toList_extract, List.extract_eq_take_drop, List.drop_eq_getElem_cons hl, show 21 + k + 1 - (21 + k) = 1 from by omega]
  rfl
theorem strip_take {T D : ByteArray} {a N k : Nat} (hs : T.size = 21 + N) (hk : k < N) (hr : k % (a + 1) < a) (h : D.data.toList ++ strip a (k % (a + 1)) ((T.data.toList.drop 21).drop k) = strip a 0 (T.data.toList.drop 21)) :
    (D ++ T.extract (21 + k) (21 + k + 1)).data.toList ++ strip a ((k + 1) % (a + 1)) ((T.data.toList.drop 21).drop (k + 1)) = strip a 0 (T.data.toList.drop 21) := by
  obtain ⟨c, hc, he⟩ := one_byte T k (by omega)
  obtain ⟨hl, rfl⟩ := List.getElem?_eq_some_iff.1 hc
  rw [strip_step a k _ hl, if_pos hr] at h
  rw [ByteArray.data_append, Array.toList_append, he, List.append_assoc]
  exact h
theorem strip_skip {T D : ByteArray} {a N k : Nat} (hs : T.size = 21 + N) (hk : k < N) (hr : ¬ k % (a + 1) < a) (h : D.data.toList ++ strip a (k % (a + 1)) ((T.data.toList.drop 21).drop k) = strip a 0 (T.data.toList.drop 21)) :
    D.data.toList ++ strip a ((k + 1) % (a + 1)) ((T.data.toList.drop 21).drop (k + 1)) = strip a 0 (T.data.toList.drop 21) := by
  obtain ⟨c, hc, he⟩ := one_byte T k (by omega)
  obtain ⟨hl, rfl⟩ := List.getElem?_eq_some_iff.1 hc
  rw [strip_step a k _ hl, if_neg hr] at h
  exact h
theorem strip_end {T D : ByteArray} {a N : Nat} (hs : T.size = 21 + N) (h : D.data.toList ++ strip a (N % (a + 1)) ((T.data.toList.drop 21).drop N) = strip a 0 (T.data.toList.drop 21)) :
    D.data.toList = strip a 0 (T.data.toList.drop 21) := by
  have hl : T.data.toList.length = 21 + N := by simpa using hs
  rw [List.drop_of_length_le (by rw [List.length_drop]; omega)] at h
  rw [← h]
  simp [strip]
theorem strip_good {T D C : ByteArray} {a b : Nat} (h : D.data.toList = strip a 0 (T.data.toList.drop 21)) (hg : Good a b C T) : D = C := by
  apply ByteArray.ext
  apply Array.toList_inj.1
  rw [h, good_strip hg]

theorem zw_set {w wr : World} (h : ZW w wr) {G : Nat} (hG : w.heap.size < G) (m : Nat) (u : Value) : ZW w (wr.setCell ⟨G, m, none⟩ u) :=
  ⟨h.1.setCell (by simp; omega) u, (heap_setCell_other _ _ _ _ (by simp; omega)).trans h.2⟩
theorem zw_drew {w wr : World} (h : ZW w wr) : ZW w wr.drew := ⟨h.1.drew, h.2⟩
theorem g_set {wr : World} {G : Nat} {a b D E : Value} (h : wr.heap[G]? = some (.cells #[a, b, D] 27 (0, 0))) : (wr.setCell ⟨G, 2, none⟩ E).heap[G]? = some (.cells #[a, b, E] 27 (0, 0)) := heap_setCell_same _ _ _ _ _ _ h
theorem slice_one (T : ByteArray) (k N : Nat) (hs : T.size = 21 + N) (hk : k < N) (w : World) :
    (Instr.slice 9 (.string T) (some (.int .i64 (21 + (k : Int)))) (some (.int .i64 (21 + (k : Int) + 1))) none).run Tryd.prog w = .ok (.string (T.extract (21 + k) (21 + k + 1))) w := by
  have e5 : (21 + (k : Int)).toNat = 21 + k := by omega
  have e6 : (21 + (k : Int) + 1).toNat = 21 + k + 1 := by omega
  rw [run_slice_string w 9 T .i64 .i64 _ _ Tryd.underlying9 (by omega) (by omega) (by omega), e5, e6]

theorem specRead_long (T : ByteArray) (h : 200 < T.size) (w : World) : Calls Tryd.prog 9 #[.string T] w (ReadG T w) := by
  have hz := zw_start w
  have HN : Hid (∀ (a b : Nat) (C : ByteArray), ¬ Good a b C T) := Lib.hid fun a b C hg => by have := good_few hg; omega
  go_enter Tryd.func9, Tryd.ntmps9
  go_wp2
  exact bodyPost_ret (v := .tuple #[.agg #[.int .i64 0, .int .i64 0, .string ⟨#[]⟩], .bool false]) (results_rows Tryd.results9 _ _ _ _ _ rfl rfl (load_grid2 _ _ _ rfl hz.2)) rfl ⟨hz.1, .inr ⟨HN.out, rfl⟩⟩

set_option maxHeartbeats 1000000 in
set_option maxRecDepth 10000 in
theorem specRead (T : ByteArray) (h : T.size ≤ 200) (w : World) : Calls Tryd.prog 9 #[.string T] w (ReadG T w) := by
  have hz := zw_start w
  go_enter Tryd.func9, Tryd.ntmps9
  go_wp2
  go_loopw [4] (fun x wr => ∃ b : Nat, 1 ≤ b ∧ b ≤ 9 ∧ x = .int .i64 b ∧ ZW w wr ∧ Hid (∀ (a' b' : Nat) (C : ByteArray), Good a' b' C T → b ≤ b')) (fun x _ => 9 - (intOf x).toNat)
  case atStart => exact ⟨1, Nat.le_refl _, by omega, rfl, hz, Lib.hid fun a' b' C hg => (good_sides hg).2.2.1⟩
  case round =>
    clear hz
    obtain ⟨b, hb1, hb9, rfl, hz, HI⟩ := hrel
    by_cases hb : b ≤ 8
    · have hb8 : decide ((b : Int) ≤ 8) = true := decide_eq_true (by omega)
      go_wp2
      go_loopw [5] (fun x wx => ∃ a : Nat, 1 ≤ a ∧ a ≤ 9 ∧ x = .int .i64 a ∧ ZW w wx ∧ Hid (∀ (a' b' : Nat) (C : ByteArray), Good a' b' C T → b < b' ∨ (b' = b ∧ a ≤ a'))) (fun x _ => 9 - (intOf x).toNat)
      case atStart => exact ⟨1, Nat.le_refl _, by omega, rfl, hz, Lib.hid fun a' b' C hg => by have h1 := HI.out a' b' C hg; have h2 := (good_sides hg).1; omega⟩
      case round =>
        clear hz
        obtain ⟨a, ha1, ha9, rfl, hz, HJ⟩ := hrel
        by_cases ha : a ≤ 8
        · have hda : (digT a).size ≤ 1 := Nat.le_refl _
          have hdb : (digT b).size ≤ 1 := Nat.le_refl _
          go_upto_region 10 with (first
            | (go_at_call 13; (with_reducible refine (specDec (a : Int) a rfl ha1 ha _).mono ?_); rintro e w2 ⟨rfl, hb0⟩; replace hz := zw_on hz hb0; clear hb0)
            | (go_at_call 13; (with_reducible refine (specDec (b : Int) b rfl hb1 hb _).mono ?_); rintro e w2 ⟨rfl, hb0⟩; replace hz := zw_on hz hb0; clear hb0))
          rw [show ((⟨#[104, 101, 105, 103, 104, 116, 32]⟩ : ByteArray) ++ digT b ++ ⟨#[10, 119, 105, 100, 116, 104, 32]⟩ ++ digT a ++ ⟨#[10, 109, 97, 112, 10]⟩) = headT a b from rfl]
          obtain ⟨N, hN⟩ : ∃ N, N = b * (a + 1) := ⟨_, rfl⟩
          have hN2 : N ≤ 72 := by rw [hN]; exact Nat.mul_le_mul hb (show a + 1 ≤ 9 by omega)
          have hNi : (b : Int) * ((a : Int) + 1) = (N : Int) := by rw [hN, Int.natCast_mul]; rfl
          have hhs := headT_size a b
          have HNN := Lib.hid hN
          clear hN hda hdb
          by_cases hs : T.size = 21 + N
          · have hs1 : 21 + (N : Int) = (T.size : Int) := by omega
            have hst := Lib.hid hs
            clear hs
            by_cases hh : T.extract 0 21 = headT a b
            · have hgk := heap_alloc_new w2 (.cells #[.int .i64 a, .int .i64 b, .string ⟨#[]⟩] 27)
              have hzg := zw_on hz ((Below.refl w2.heap.size w2).alloc (Nat.le_refl _) (.cells #[.int .i64 a, .int .i64 b, .string ⟨#[]⟩] 27))
              go_wp2_with fail
              generalize w2.alloc (.cells #[.int .i64 a, .int .i64 b, .string ⟨#[]⟩] 27) = w3 at *
              have hgl := zw_lt hz
              generalize w2.heap.size = G at *
              clear hz
              go_loopw [8] (fun x wx => ∃ (k : Nat) (D : ByteArray), k ≤ N ∧ x = .int .i64 k ∧ ZW w wx ∧ wx.heap[G]? = some (.cells #[.int .i64 a, .int .i64 b, .string D] 27 (0, 0)) ∧ D.size ≤ k ∧ Hid (D.data.toList ++ strip a (k % (a + 1)) ((T.data.toList.drop 21).drop k) = strip a 0 (T.data.toList.drop 21))) (fun x _ => N - (intOf x).toNat)
              case atStart => exact ⟨0, ⟨#[]⟩, Nat.zero_le _, rfl, hzg, hgk, Nat.le_refl _, Lib.hid (by simp)⟩
              case round =>
                clear hzg hgk
                obtain ⟨k, D, hk, rfl, hz, hgk, hD, HS⟩ := hrel
                have c0 := cell_rows2 (q := 0) (v := .int .i64 a) hgk rfl
                have c1 := cell_rows2 (q := 1) (v := .int .i64 b) hgk rfl
                have c2 := cell_rows2 (q := 2) (v := .string D) hgk rfl
                have f2 := frozen_of_row _ _ 2 _ _ hgk
                by_cases hlt : k < N
                · obtain ⟨r, hr⟩ : ∃ r, r = k % (a + 1) := ⟨_, rfl⟩
                  have hm : (k : Int).tmod ((a : Int) + 1) = (r : Int) := by rw [Int.tmod_eq_emod_of_nonneg (by omega), hr]; rfl
                  have HR := Lib.hid hr
                  clear hr
                  have hkN : (k : Int) < (N : Int) := by omega
                  by_cases hra : r < a
                  · have hra2 : (r : Int) < (a : Int) := by omega
                    have hes : (T.extract (21 + k) (21 + k + 1)).size ≤ 1 := by rw [ByteArray.size_extract]; omega
                    have HS2 := Lib.hid (strip_take hst.out hlt (by rw [← HR.out]; exact hra) HS.out)
                    have hD2 : (D ++ T.extract (21 + k) (21 + k + 1)).size ≤ k + 1 := by rw [ByteArray.size_append]; omega
                    have HD2 := Lib.hid hD2
                    clear hD2
                    have hadd : ∀ w, (Op.stringOp .add D (T.extract (21 + k) (21 + k + 1))).run Tryd.prog w = .ok (.string (D ++ T.extract (21 + k) (21 + k + 1))) w := fun w => run_string_add w D _ (by omega) (by omega)
                    go_wp2_with fail
                    have e3 : IntKind.i64.wrap (21 + (k : Int)) = 21 + (k : Int) := IntWalk.i64_in _ (by omega)
                    have e4 : IntKind.i64.wrap (21 + (k : Int) + 1) = 21 + (k : Int) + 1 := IntWalk.i64_in _ (by omega)
                    have hsl : ∀ w, (Instr.slice 9 (.string T) (some (.int .i64 (21 + (k : Int)))) (some (.int .i64 (21 + (k : Int) + 1))) none).run Tryd.prog w = .ok (.string (T.extract (21 + k) (21 + k + 1))) w := fun w => slice_one T k N hst.out hlt w
                    go_still_tail 15, (by kernel_rfl)
                    clear e3 e4 hsl hadd
                    go_wp2_with fail
                    go_roundw
                    case rel => exact ⟨k + 1, _, by omega, by go_num, zw_drew (zw_set hz hgl 2 _), g_set hgk, HD2.out, HS2⟩
                    case measure => simp [intOf]; omega
                  · have hra2 : ¬ (r : Int) < (a : Int) := by omega
                    have HS2 := Lib.hid (strip_skip hst.out hlt (by rw [← HR.out]; exact hra) HS.out)
                    go_wp2_with fail
                    go_roundw
                    case rel => exact ⟨k + 1, D, by omega, by go_num, hz, hgk, by omega, HS2⟩
                    case measure => simp [intOf]; omega
                · obtain rfl : k = N := by omega
                  have HD := Lib.hid (strip_end hst.out HS.out)
                  have hDs : D.size ≤ 1048576 := by omega
                  obtain ⟨X, HX⟩ : ∃ X, Hid (gtextT a b D = X) := ⟨_, rfl⟩
                  obtain ⟨o, HO⟩ : ∃ o, Hid (gok a b D = o) := ⟨_, rfl⟩
                  by_cases hok : o = true ∧ X = T
                  · obtain ⟨rfl, rfl⟩ := hok
                    have HGD : Hid (Good a b D X) := Lib.hid ⟨HO.out, by rw [← HX.out]; unfold gtextT; rw [if_pos HO.out]; rfl⟩
                    go_wp2_with (go_at_call 6; (with_reducible refine (specText a b D X true hDs HX HO _).mono ?_); rintro e w4 ⟨rfl, hb4⟩; have hz4 := zw_on hz hb4; have hgk4 := (hb4.block G (Array.getElem?_eq_some_iff.1 hgk).1).trans hgk; have c0 := cell_rows2 (q := 0) (v := .int .i64 a) hgk4 rfl; have c1 := cell_rows2 (q := 1) (v := .int .i64 b) hgk4 rfl; have c2 := cell_rows2 (q := 2) (v := .string D) hgk4 rfl; obtain ⟨⟨d0, d1, d2⟩, f0, f1, f2⟩ := zw_res hz4)
                    obtain ⟨hb5, hh5⟩ := zw_stores hz4 (.int .i64 a) (.int .i64 b) (.string D)
                    exact bodyPost_ret (v := .tuple #[.agg #[.int .i64 a, .int .i64 b, .string D], .bool true]) (results_rows Tryd.results9 _ _ _ _ _ rfl rfl (load_grid2 _ _ _ rfl hh5)) rfl ⟨hb5, .inl ⟨a, b, D, HGD.out, rfl⟩⟩
                  · have HJ2 : Hid (∀ (a' b' : Nat) (C : ByteArray), Good a' b' C T → b < b' ∨ (b' = b ∧ a + 1 ≤ a')) := Lib.hid fun a' b' C hg => by
                      rcases HJ.out a' b' C hg with h1 | ⟨rfl, h1⟩
                      · exact .inl h1
                      · refine .inr ⟨rfl, ?_⟩
                        rcases Nat.lt_or_ge a a' with h2 | h2
                        · exact h2
                        · obtain rfl : a' = a := by omega
                          obtain rfl := strip_good HD.out hg
                          exact absurd ⟨HO.out.symm.trans hg.1, by rw [← HX.out]; unfold gtextT; rw [if_pos hg.1]; exact hg.2⟩ hok
                    cases o with
                    | false =>
                      clear hok
                      go_wp2_with (go_at_call 6; (with_reducible refine (specText a b D X false hDs HX HO _).mono ?_); rintro e w4 ⟨rfl, hb4⟩; have hz4 := zw_on hz hb4; have hgk4 := (hb4.block G (Array.getElem?_eq_some_iff.1 hgk).1).trans hgk; have c0 := cell_rows2 (q := 0) (v := .int .i64 a) hgk4 rfl; have c1 := cell_rows2 (q := 1) (v := .int .i64 b) hgk4 rfl; have c2 := cell_rows2 (q := 2) (v := .string D) hgk4 rfl; obtain ⟨⟨d0, d1, d2⟩, f0, f1, f2⟩ := zw_res hz4)
                      go_roundw
                      case rel => exact ⟨a + 1, by omega, by omega, by go_num, hz4, HJ2⟩
                      case measure => simp [intOf]; omega
                    | true =>
                      have hxt : X ≠ T := fun e => hok ⟨rfl, e⟩
                      have hx2 := bytes_ne hxt
                      clear hok hxt
                      go_wp2_with (go_at_call 6; (with_reducible refine (specText a b D X true hDs HX HO _).mono ?_); rintro e w4 ⟨rfl, hb4⟩; have hz4 := zw_on hz hb4; have hgk4 := (hb4.block G (Array.getElem?_eq_some_iff.1 hgk).1).trans hgk; have c0 := cell_rows2 (q := 0) (v := .int .i64 a) hgk4 rfl; have c1 := cell_rows2 (q := 1) (v := .int .i64 b) hgk4 rfl; have c2 := cell_rows2 (q := 2) (v := .string D) hgk4 rfl; obtain ⟨⟨d0, d1, d2⟩, f0, f1, f2⟩ := zw_res hz4)
                      go_roundw
                      case rel => exact ⟨a + 1, by omega, by omega, by go_num, hz4, HJ2⟩
                      case measure => simp [intOf]; omega
            · have hh2 := bytes_ne hh
              have HJ2 : Hid (∀ (a' b' : Nat) (C : ByteArray), Good a' b' C T → b < b' ∨ (b' = b ∧ a + 1 ≤ a')) := Lib.hid fun a' b' C hg => by
                rcases HJ.out a' b' C hg with h1 | ⟨rfl, h1⟩
                · exact .inl h1
                · refine .inr ⟨rfl, ?_⟩
                  rcases Nat.lt_or_ge a a' with h2 | h2
                  · exact h2
                  · obtain rfl : a' = a := by omega
                    exact absurd (good_head hg) hh
              clear hh
              go_wp2_with fail
              go_roundw
              case rel => exact ⟨a + 1, by omega, by omega, by go_num, hz, HJ2⟩
              case measure => simp [intOf]; omega
          · have hs1 : ¬ (T.size : Int) = 21 + (N : Int) := by omega
            have HJ2 : Hid (∀ (a' b' : Nat) (C : ByteArray), Good a' b' C T → b < b' ∨ (b' = b ∧ a + 1 ≤ a')) := Lib.hid fun a' b' C hg => by
              rcases HJ.out a' b' C hg with h1 | ⟨rfl, h1⟩
              · exact .inl h1
              · refine .inr ⟨rfl, ?_⟩
                rcases Nat.lt_or_ge a a' with h2 | h2
                · exact h2
                · obtain rfl : a' = a := by omega
                  exact absurd (good_size hg) (by rw [← HNN.out]; exact hs)
            go_wp2_with fail
            go_roundw
            case rel => exact ⟨a + 1, by omega, by omega, by go_num, hz, HJ2⟩
            case measure => simp [intOf]; omega
        · obtain rfl : a = 9 := by omega
          have HI2 : Hid (∀ (a' b' : Nat) (C : ByteArray), Good a' b' C T → b + 1 ≤ b') := Lib.hid fun a' b' C hg => by
            have h1 := HJ.out a' b' C hg
            have h2 := (good_sides hg).2.1
            omega
          go_wp2_with fail
          go_roundw
          case rel => exact ⟨b + 1, by omega, by omega, by go_num, hz, HI2⟩
          case measure => simp [intOf]; omega
    · obtain rfl : b = 9 := by omega
      have HN : Hid (∀ (a b : Nat) (C : ByteArray), ¬ Good a b C T) := Lib.hid fun a' b' C hg => by
        have h1 := HI.out a' b' C hg
        have h2 := (good_sides hg).2.2.2.1
        omega
      obtain ⟨⟨d0, d1, d2⟩, f0, f1, f2⟩ := zw_res hz
      go_wp2_with fail
      obtain ⟨hb0, hh0⟩ := zw_stores hz (.int .i64 0) (.int .i64 0) (.string ⟨#[]⟩)
      exact bodyPost_ret (v := .tuple #[.agg #[.int .i64 0, .int .i64 0, .string ⟨#[]⟩], .bool false]) (results_rows Tryd.results9 _ _ _ _ _ rfl rfl (load_grid2 _ _ _ rfl hh0)) rfl ⟨hb0, .inr ⟨HN.out, rfl⟩⟩

end Go.Proofs.YtcofajganakbiaaDoor
