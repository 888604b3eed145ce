/-
  CONTRACTS of the program's cellsWith at gridRow.free and of its FreeCells. No law is proved here.
  CONTRACT of the program's InNode. No law is proved here.
  CONTRACTS of the library's slices.Index and slices.Contains at ints. No law is proved here.
-/
import Derived.Test.YtnbbhdbcapfbkaaDoorZFF15
import Derived.Test.YtnbbhdbcapfbkaaDoorZFF11
import Derived.Test.YtnbbhdbcapfbkaaDoorZFF14
import Derived.Test.YtnbbhdbcapfbkaaDoorZFF12
import Derived.Test.YtnbbhdbcapfbkaaDoorZFF03
import Derived.Test.YtnbbhdbcapfbkaaDoorZFF01
namespace Go.Proofs.YtnbbhdbcapfbkaaDoor
set_option maxRecDepth 4096
open Go.ChangeShapes Go.WideShapes Go.ChangeAt Go.RowKit

theorem freeL_no {W H : Int} {C : ByteArray} (hg : ¬ gok W H C = true) : freeL W H C = [] :=
  picks_none fun n => by unfold freeP freeV cellOk; simp [hg]
theorem freeP_at {W H : Int} {C : ByteArray} {n : Nat} {b : Bool} (hg : gok W H C = true) (hn : n < C.size) (h : freeP W H C n = b) : freeB (byteAt C n) = b := by
  rw [← h]
  unfold freeP
  exact (freeV_at hg hn).symm

set_option maxHeartbeats 1000000 in
theorem withFree (W H : Int) (C : ByteArray) (p : Nat → Bool) (L : List Int) (hC : C.size ≤ 1048576) (hg : gok W H C = true) (HPB : Hid (∀ n b, n < C.size → p n = b → freeB (byteAt C n) = b)) (HL : Hid (picks p (min C.size 64) = L)) (w : World) :
    Calls Tryd.prog 65 #[.agg #[.int .i64 W, .int .i64 H, .string C], .func (.func 66) #[] #[]] w (IntsBack w L) := by
  obtain ⟨i0, hi, hz0, hz1, hz2⟩ := info_parts Tryd.info3
  have hfew := gok_few hg
  have hB := Below.refl (w.alloc (.cells #[.int .i64 W, .int .i64 H, .string C] 30)).heap.size (w.alloc (.cells #[.int .i64 W, .int .i64 H, .string C] 30))
  go_enter Tryd.func65, Tryd.ntmps65
  go_wp2_with (first
    | (go_at_call 71; (with_reducible refine (rowsOf W H C hC _).mono ?_); rintro e w1 ⟨rfl, hb⟩; replace hB := chain hB hb; have hs1 := box_size hB; clear hb)
    | (refine wpStoreRows W H C _ _ rfl rfl rfl rfl ?_; have hR := (rows_in w1 (rowsR W H C)).2; replace hB := chain hB (rows_in w1 (rowsR W H C)).1; have hs2 := rowsW2_size w1 (rowsR W H C); obtain ⟨c0, c1, c2⟩ := box_cells hB))
  clear c0 c1 c2
  generalize rowsW2 w1 (rowsR W H C) = wS at hR hB hs2 ⊢
  generalize w1.heap.size = G at hR hs1 hs2 ⊢
  have HR := Lib.hid hR
  have HG := Lib.hid hg
  have hs3 : w.heap.size + 1 ≤ wS.heap.size := by omega
  have hs4 : G < wS.heap.size := by omega
  clear hR hg hs2
  go_loopw [7, 19] (fun v i wr => ∃ k : Nat, k ≤ C.size ∧ i = .int .i64 k ∧ wr.ownsRow wS.heap.size 3 1 v (picks p k).length ((picks p k).map (Value.int .i64)) ∧ Below wS.heap.size wS wr) (fun _ i _ => C.size - (intOf i).toNat)
  case atStart => exact ⟨0, Nat.zero_le _, rfl, ⟨rfl, .inl ⟨rfl, rfl⟩⟩, Below.refl _ _⟩
  case round =>
    obtain ⟨k, hk, rfl, hown, hbe⟩ := hrel
    have hbs := hbe.size
    by_cases hlt : k < C.size
    · obtain ⟨c0, c1, c2⟩ := box_cells (chain hB hbe)
      obtain ⟨a, b, q, m, rfl, rfl, ha1, ha2, hb8, hq, hm, hd, he, hms, hby, hr⟩ := place HG.out hlt
      have d1 : wr.cell? ⟨G, q, none⟩ = some (.string (rowT C a q)) := (hbe.cell (p := ⟨G, q, none⟩) hs4).trans (cell_rows HR.out (Lib.hid rfl) (Lib.hid hr))
      have e3 : IntKind.i64.wrap (q : Int) = (q : Int) := IntWalk.i64_in _ (by omega)
      have hl := picks_len p k
      have HB := Lib.hid hby
      clear hby hr
      by_cases hp : p k = true
      · have HP : Hid (picks p (k + 1) = picks p k ++ [(k : Int)]) := Lib.hid (picks_yes hp)
        have HPT : Hid (freeB (byteAt (rowT C a q) m) = true) := Lib.hid (by rw [HB.out]; exact HPB.out _ _ hlt hp)
        clear hp
        go_wp2
        go_quiet ((go_at_call 66; exact left_quiet (freeTo _ _ m _ HPT rfl hms _)))
        clear d1 e3 hd he
        go_wp2_with (at_builtin; go_loud (refine wpList_append_own _ rfl _ _ 24 rfl wS.heap.size 3 i0 (.int .i64 0) 1 8 Tryd.underlying24 hi hz0 hz1 hz2 rfl (by decide) _ _ _ rfl ((own_drewN hown _).alloc _) ⟨wr.heap.size, 0, none⟩ 1 1 ([(k : Int)].map (Value.int .i64)) rfl rfl (int_new _ _ _) (ints_one _) (by unfold maxLen; omega) (by omega) (by simp; omega) ?_); intro v' w2 hown2 hgrow _; have hbe2 := ((below_drewN hbe _).alloc (by simpa using hbs) _).grown hgrow (by simp; omega) (fun j hj => (hown.lt j hj).1); clear hgrow)
        go_roundw
        case rel => exact ⟨k + 1, by omega, by go_num, ints_push hown2 HP.out, hbe2⟩
        case measure => simp [intOf]; omega
      · have hp2 : p k = false := by simpa using hp
        have HP : Hid (picks p (k + 1) = picks p k) := Lib.hid (picks_no hp2)
        have HPT : Hid (freeB (byteAt (rowT C a q) m) = false) := Lib.hid (by rw [HB.out]; exact HPB.out _ _ hlt hp2)
        clear hp hp2
        go_wp2
        go_quiet ((go_at_call 66; exact left_quiet (freeTo _ _ m _ HPT rfl hms _)))
        clear d1 e3 hd he
        go_wp2
        go_roundw
        case rel => exact ⟨k + 1, by omega, by go_num, by rw [HP.out]; exact own_drewN hown _, below_drewN hbe _⟩
        case measure => simp [intOf]; omega
    · obtain rfl : k = C.size := by omega
      have HE : Hid (picks p C.size = L) := Lib.hid (by rw [← HL.out]; congr 1; omega)
      go_wp2
      go_ret
      exact ⟨_, rfl, by rw [← HE.out]; exact own_base hown (by omega), box_below (chain hB hbe)⟩

theorem withFreeAny (W H : Int) (C : ByteArray) (L : List Int) (hC : C.size ≤ 1048576) (HL : Hid (freeL W H C = L)) (w : World) :
    Calls Tryd.prog 65 #[.agg #[.int .i64 W, .int .i64 H, .string C], .func (.func 66) #[] #[]] w (IntsBack w L) := by
  by_cases hg : gok W H C = true
  · exact withFree W H C (freeP W H C) L hC hg (Lib.hid fun n b hn h => freeP_at hg hn h) HL w
  · have : L = [] := HL.out.symm.trans (freeL_no hg)
    subst this
    exact with_no W H C _ hC (by simpa using hg) w

theorem implFreeCells (W H : Int) (C : ByteArray) (L : List Int) (hC : C.size ≤ 1048576) (HL : Hid (freeL W H C = L)) (w : World) :
    Calls Tryd.prog 43 #[.agg #[.int .i64 W, .int .i64 H, .string C]] w (IntsBack w L) := by
  go_enter Tryd.func43, Tryd.ntmps43
  go_wp2_with (go_at_call 65; (with_reducible refine (withFreeAny W H C L hC HL _).mono ?_); intro e w1 h1; obtain ⟨v, rfl, h2⟩ := ints_out h1)
  go_ret
  exact ints_under h2 ((Below.refl _ _).alloc (Nat.le_refl _) _)

end Go.Proofs.YtnbbhdbcapfbkaaDoor

namespace Go.Proofs.YtnbbhdbcapfbkaaDoor
set_option maxRecDepth 4096
open Go.ChangeShapes Go.WideShapes Go.ChangeAt Go.RowKit

theorem freeL_len (W H : Int) (C : ByteArray) : (freeL W H C).length ≤ 64 := Nat.le_trans (picks_len _ _) (Nat.min_le_right _ 64)
theorem numIn (F t i : Nat) (z : Int) (hF : F ≤ 1000) (ht : t ≤ 1000) (hi : i ≤ 1000) (HZ : Hid ((numV 0 F 0 0 t i : Nat) = z)) (w : World) :
    Calls Tryd.prog 62 #[.int .i64 0, .agg #[.int .i64 F, .int .i64 0, .int .i64 0], .int .i64 t, .int .i64 i] w (Made w (.int .i64 z)) :=
  numCell 0 F 0 0 t i z (by omega) hF ht hi HZ w

set_option maxHeartbeats 1000000 in
theorem implInNode (W H : Int) (C : ByteArray) (c T z : Int) (hC : C.size ≤ 1048576) (HZ : Hid (inNodeV W H C c T = z)) (w : World) :
    Calls Tryd.prog 41 #[.agg #[.int .i64 W, .int .i64 H, .string C], .int .i64 c, .int .i64 T] w (Made w (.int .i64 z)) := by
  have hB := Below.refl (w.alloc (.cells #[.int .i64 W, .int .i64 H, .string C] 30)).heap.size (w.alloc (.cells #[.int .i64 W, .int .i64 H, .string C] 30))
  obtain ⟨L, HL⟩ : ∃ L, Hid (freeL W H C = L) := ⟨_, rfl⟩
  have hlen : L.length ≤ 64 := by rw [← HL.out]; exact freeL_len W H C
  have hup : L.Pairwise (· ≤ ·) := by rw [← HL.out]; exact free_le
  obtain ⟨n, HN⟩ : ∃ n, Hid (L.countP (fun y => decide (y < c)) = n) := ⟨_, rfl⟩
  have hnl : n ≤ 64 := by rw [← HN.out]; exact Nat.le_trans List.countP_le_length hlen
  have hw2 : L.length ≤ 2000000 := by omega
  by_cases hf : freeV W H C c = true
  · have HB : Hid (L.contains c = true) := Lib.hid (by rw [← HL.out, free_has]; exact hf)
    have hn : (freeL W H C).idxOf c = n := by rw [← HN.out, ← HL.out]; exact (asc_count freeU_up (freeU_mem hf)).symm
    by_cases hT : rgB T 0 20 = true
    · have HR : Hid ((decide (0 ≤ T) && decide (T ≤ 20)) = true) := Lib.hid hT
      obtain ⟨h0, h1⟩ := rgB_iff.1 hT
      obtain ⟨t, rfl⟩ : ∃ t : Nat, T = t := ⟨T.toNat, by omega⟩
      have ht : t ≤ 1000 := by omega
      have HZ2 : Hid ((numV 0 L.length 0 0 t n : Nat) = z) := Lib.hid (by
        have e1 : inNodeV W H C c (t : Int) = 3 + 2 * ((t : Int) * ((freeL W H C).length : Int) + (((freeL W H C).idxOf c : Nat) : Int)) := if_pos ⟨hf, hT⟩
        have e2 : numV 0 L.length 0 0 t n = 3 + 2 * (t * L.length + n) + 0 % 2 := if_pos (by decide)
        rw [← HZ.out, e1, e2, hn, HL.out]
        simp)
      clear hf hT HZ hn h0 h1
      go_enter Tryd.func41, Tryd.ntmps41
      go_wp2_with fail
      refine (implFreeCells W H C L hC HL _).mono ?_
      rintro e w1 ⟨v, rfl, hown, hb⟩
      replace hB := chain hB hb
      obtain ⟨av, cv, rfl⟩ := own_form hown
      have HI := Lib.hid (ints_of_own hown)
      clear hb hown
      go_wp2_with fail
      refine (implFind L c _ n true hw2 hup HN HB _ HI.out).mono ?_
      rintro e w2 ⟨rfl, q, rfl⟩
      replace hB := below_drewN hB q
      clear hup HI
      go_wp2_with (first
        | (go_at_call 49; refine (implRange _ _ _ true HR _).mono ?_; rintro e w' ⟨rfl, rfl⟩)
        | (go_at_call 62; (with_reducible refine (numIn L.length t n z (by omega) ht (by omega) HZ2 _).mono ?_); rintro e w3 ⟨rfl, hb⟩; replace hB := box_below (chain hB hb); clear hb))
      go_ret
      exact ⟨rfl, hB⟩
    · have hz : z = -1 := by
        rw [← HZ.out]
        unfold inNodeV
        rw [if_neg (fun h => hT h.2)]
      subst hz
      have HR : Hid ((decide (0 ≤ T) && decide (T ≤ 20)) = false) := Lib.hid (by simpa [rgB] using hT)
      clear hf hT HZ hn
      go_enter Tryd.func41, Tryd.ntmps41
      go_wp2_with fail
      refine (implFreeCells W H C L hC HL _).mono ?_
      rintro e w1 ⟨v, rfl, hown, hb⟩
      replace hB := chain hB hb
      have HI := Lib.hid (ints_of_own hown)
      clear hb hown
      go_wp2_with fail
      refine (implFind L c _ n true hw2 hup HN HB _ HI.out).mono ?_
      rintro e w2 ⟨rfl, q, rfl⟩
      replace hB := box_below (below_drewN hB q)
      clear hup HI
      go_wp2_with (go_at_call 49; refine (implRange _ _ _ false HR _).mono ?_; rintro e w' ⟨rfl, rfl⟩)
      go_ret
      exact ⟨rfl, hB⟩
  · have hz : z = -1 := by
      rw [← HZ.out]
      unfold inNodeV
      rw [if_neg (fun h => hf h.1)]
    subst hz
    have HB : Hid (L.contains c = false) := Lib.hid (by rw [← HL.out, free_has]; simpa using hf)
    clear hf HZ
    go_enter Tryd.func41, Tryd.ntmps41
    go_wp2_with fail
    refine (implFreeCells W H C L hC HL _).mono ?_
    rintro e w1 ⟨v, rfl, hown, hb⟩
    replace hB := chain hB hb
    have HI := Lib.hid (ints_of_own hown)
    clear hb hown
    go_wp2_with fail
    refine (implFind L c _ n false hw2 hup HN HB _ HI.out).mono ?_
    rintro e w2 ⟨rfl, q, rfl⟩
    replace hB := box_below (below_drewN hB q)
    clear hup HI
    go_wp2
    go_ret
    exact ⟨rfl, hB⟩

end Go.Proofs.YtnbbhdbcapfbkaaDoor

namespace Go.Proofs.YtnbbhdbcapfbkaaDoor
set_option maxRecDepth 4096
open Go.ChangeShapes Go.WideShapes Go.ChangeAt Go.RowKit

/-- slices.Index: the element is not among them. -/
theorem indexNo (L : List Int) (x : Int) (v : Value) (hL : L.length ≤ 2000000) (w : World) (hv : Ints w v L) (h : L.contains x = false) :
    Calls Tryd.prog 67 #[v, .int .i64 x] w fun e w' => e = .returned (.int .i64 (-1)) ∧ w = w' := by
  obtain ⟨av, cv, rfl, HV⟩ := ints_form hv
  have HVh := Lib.hid HV
  have HX : Hid (∀ (j : Nat) y, L[j]? = some y → ¬ x = y) := Lib.hid fun j y hy e => by
    have : L.contains x = true := List.contains_iff_mem.2 (by rw [e]; exact List.mem_of_getElem? hy)
    rw [h] at this
    cases this
  clear HV hv h
  go_enter Tryd.func67, Tryd.ntmps67
  go_wp2
  go_loop [8] (fun i => ∃ k : Nat, k ≤ L.length ∧ i = .int .i64 k) (fun i => L.length - (intOf i).toNat)
  case atStart => exact ⟨0, Nat.zero_le _, rfl⟩
  case round =>
    obtain ⟨k, hk, rfl⟩ := hrel
    by_cases hlt : k < L.length
    · obtain ⟨y, hy⟩ : ∃ y, L[k]? = some y := ⟨_, List.getElem?_eq_getElem hlt⟩
      rcases HVh.out with h0 | ⟨g, rfl, hgl, hc⟩
      · omega
      · have d0 := hc k y hy
        have hne := HX.out k y hy
        have hne2 : (x == y) = false := by simpa using hne
        have hlt2 : (k : Int) < (L.length : Int) := by omega
        clear hy hc hne
        go_wp2
        go_roundw
        case rel => exact ⟨k + 1, by omega, by go_num⟩
        case measure => simp [intOf]; omega
    · go_wp2
      go_ret
      exact ⟨rfl, rfl⟩
theorem indexYes (L : List Int) (x : Int) (v : Value) (hL : L.length ≤ 2000000) (w : World) (hv : Ints w v L) (h : L.contains x = true) :
    Calls Tryd.prog 67 #[v, .int .i64 x] w fun e w' => (∃ k : Nat, e = .returned (.int .i64 k)) ∧ w = w' := by
  obtain ⟨av, cv, rfl, HV⟩ := ints_form hv
  have HVh := Lib.hid HV
  obtain ⟨m, hm, hmx⟩ := List.getElem_of_mem (List.contains_iff_mem.1 h)
  have HM : Hid (L[m]? = some x) := Lib.hid (by rw [List.getElem?_eq_getElem hm, hmx])
  clear HV hv h hmx
  go_enter Tryd.func67, Tryd.ntmps67
  go_wp2
  go_loop [8] (fun i => ∃ k : Nat, k ≤ m ∧ i = .int .i64 k) (fun i => L.length - (intOf i).toNat)
  case atStart => exact ⟨0, Nat.zero_le _, rfl⟩
  case round =>
    obtain ⟨k, hk, rfl⟩ := hrel
    have hlt : k < L.length := by omega
    obtain ⟨y, hy⟩ : ∃ y, L[k]? = some y := ⟨_, List.getElem?_eq_getElem hlt⟩
    rcases HVh.out with h0 | ⟨g, rfl, hgl, hc⟩
    · omega
    · have d0 := hc k y hy
      have hlt2 : (k : Int) < (L.length : Int) := by omega
      have HM2 : Hid (k = m → x = y) := Lib.hid fun e => by
        subst e
        rw [HM.out] at hy
        exact Option.some.inj hy
      clear hy hc
      by_cases hxy : x = y
      · have hne2 : (x == y) = true := by simpa using hxy
        go_wp2
        go_ret
        exact ⟨⟨k, rfl⟩, rfl⟩
      · have hne2 : (x == y) = false := by simpa using hxy
        have hkm : k ≠ m := fun e => hxy (HM2.out e)
        go_wp2
        go_roundw
        case rel => exact ⟨k + 1, by omega, by go_num⟩
        case measure => simp [intOf]; omega

/-- slices.Contains: among the elements? -/
theorem containsI (L : List Int) (x : Int) (v : Value) (b : Bool) (hL : L.length ≤ 2000000) (HB : Hid (L.contains x = b)) (w : World) (hv : Ints w v L) :
    Calls Tryd.prog 44 #[v, .int .i64 x] w fun e w' => e = .returned (.bool b) ∧ w = w' := by
  cases b with
  | false =>
    go_enter Tryd.func44, Tryd.ntmps44
    go_wp2_with fail
    refine (indexNo L x v hL w hv HB.out).mono ?_
    rintro e w1 ⟨rfl, rfl⟩
    go_wp2_with fail
    go_ret
    exact ⟨rfl, rfl⟩
  | true =>
    go_enter Tryd.func44, Tryd.ntmps44
    go_wp2_with fail
    refine (indexYes L x v hL w hv HB.out).mono ?_
    rintro e w1 ⟨⟨k, rfl⟩, rfl⟩
    have hk : (0 : Int) ≤ (k : Int) := by omega
    go_wp2_with fail
    go_ret
    exact ⟨rfl, rfl⟩


end Go.Proofs.YtnbbhdbcapfbkaaDoor

