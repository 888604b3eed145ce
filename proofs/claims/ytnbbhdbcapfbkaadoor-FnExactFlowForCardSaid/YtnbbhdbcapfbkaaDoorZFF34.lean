/-
  CONTRACTS of spec.AskOk and spec.InNode. No law is proved here.
  CONTRACT of spec.InNode. No law is proved here.
  CONTRACT of spec.Beside. No law is proved here.
-/
import Derived.Test.YtnbbhdbcapfbkaaDoorZFF33
import Derived.Test.YtnbbhdbcapfbkaaDoorZFF01
import Derived.Test.YtnbbhdbcapfbkaaDoorZFF11
namespace Go.Proofs.YtnbbhdbcapfbkaaDoor
set_option maxRecDepth 4096
open Go.ChangeShapes Go.WideShapes Go.ChangeAt Go.RowKit

theorem specGridB (W H : Int) (C : ByteArray) (b : Bool) (hC : C.size ≤ 1048576) (HB : Hid (gok W H C = b)) (w : World) :
    Calls Tryd.prog 51 #[.agg #[.int .i64 W, .int .i64 H, .string C]] w (Made w (.bool b)) := by
  rw [← HB.out]
  exact specGridOk W H C hC w
theorem l01InB (x lo hi : Int) (b : Bool) (HB : Hid (rgB x lo hi = b)) (w : World) :
    Calls Tryd.prog 36 #[.int .i64 x, .int .i64 lo, .int .i64 hi] w fun e w' => e = .returned (.bool b) ∧ w = w' := by
  by_cases h1 : lo ≤ x
  · by_cases h2 : x ≤ hi
    · have e : b = true := by rw [← HB.out]; exact rgB_iff.2 ⟨h1, h2⟩
      subst e
      go_enter Tryd.func36, Tryd.ntmps36
      go_wp2
      go_ret
      exact ⟨rfl, rfl⟩
    · have e : b = false := by rw [← HB.out]; unfold rgB; simp [h2]
      subst e
      go_enter Tryd.func36, Tryd.ntmps36
      go_wp2
      go_ret
      exact ⟨rfl, rfl⟩
  · have e : b = false := by rw [← HB.out]; unfold rgB; simp [h1]
    subst e
    go_enter Tryd.func36, Tryd.ntmps36
    go_wp2
    go_ret
    exact ⟨rfl, rfl⟩

set_option maxHeartbeats 4000000 in
theorem specAsk (W H : Int) (C : ByteArray) (S G : List Int) (T : Int) (vs vg : Value) (b : Bool) (hC : C.size ≤ 1048576) (hS : S.length ≤ 2000000) (hG : G.length ≤ 2000000) (HB : Hid (askV W H C S G T = b)) (w : World) (hs : Ints w vs S) (hg : Ints w vg G) :
    Calls Tryd.prog 29 #[.agg #[.int .i64 W, .int .i64 H, .string C], vs, vg, .int .i64 T] w (Made w (.bool b)) := by
  have hB := Below.refl (w.alloc (.cells #[.int .i64 W, .int .i64 H, .string C] 30)).heap.size (w.alloc (.cells #[.int .i64 W, .int .i64 H, .string C] 30))
  obtain ⟨c0, c1, c2⟩ := box_cells hB
  have HSS := Lib.hid hs
  have HGG := Lib.hid hg
  obtain ⟨al, cs, rfl, _⟩ := ints_form hs
  obtain ⟨ag, cg, rfl, _⟩ := ints_form hg
  clear hs hg
  cases hgk : gok W H C with
  | false =>
    obtain rfl : b = false := HB.out.symm.trans (by unfold askV; simp [hgk])
    clear HB
    have HGK := Lib.hid hgk
    clear hgk
    go_enter Tryd.func29, Tryd.ntmps29
    go_wp2_with fail
    refine (specGridB W H C false hC HGK _).mono ?_
    rintro e w1 ⟨rfl, hb⟩
    replace hB := chain hB hb
    obtain ⟨c0, c1, c2⟩ := box_cells hB
    clear hb
    go_wp2_with fail
    go_ret
    exact ⟨rfl, box_below hB⟩
  | true =>
    have HGK := Lib.hid hgk
    cases hr1 : rgB S.length 1 10 with
    | false =>
      obtain rfl : b = false := HB.out.symm.trans (by unfold askV; simp [hr1])
      clear HB
      have HR1 := Lib.hid hr1
      clear hr1 hgk
      go_enter Tryd.func29, Tryd.ntmps29
      go_wp2_with fail
      refine (specGridB W H C true hC HGK _).mono ?_
      rintro e w1 ⟨rfl, hb⟩
      replace hB := chain hB hb
      obtain ⟨c0, c1, c2⟩ := box_cells hB
      clear hb
      go_wp2_with fail
      refine (l01InB (S.length : Int) 1 10 false HR1 _).mono ?_
      rintro e w2 ⟨rfl, rfl⟩
      go_wp2_with fail
      go_ret
      exact ⟨rfl, box_below hB⟩
    | true =>
      have HR1 := Lib.hid hr1
      by_cases hle : G.length ≤ S.length
      · cases hr2 : rgB T 0 20 with
        | false =>
          obtain rfl : b = false := HB.out.symm.trans (by unfold askV; simp [hr2])
          clear HB
          have HR2 := Lib.hid hr2
          clear hr1 hr2 hgk
          go_enter Tryd.func29, Tryd.ntmps29
          go_wp2_with fail
          refine (specGridB W H C true hC HGK _).mono ?_
          rintro e w1 ⟨rfl, hb⟩
          replace hB := chain hB hb
          obtain ⟨c0, c1, c2⟩ := box_cells hB
          clear hb
          go_wp2_with fail
          refine (l01InB (S.length : Int) 1 10 true HR1 _).mono ?_
          rintro e w2 ⟨rfl, rfl⟩
          go_wp2_with fail
          refine (l01InB T 0 20 false HR2 _).mono ?_
          rintro e w2 ⟨rfl, rfl⟩
          go_wp2_with fail
          go_ret
          exact ⟨rfl, box_below hB⟩
        | true =>
          have HR2 := Lib.hid hr2
          cases ha1 : ascV W H C S with
          | false =>
            obtain rfl : b = false := HB.out.symm.trans (by unfold askV; simp [ha1])
            clear HB
            have HA1 := Lib.hid ha1
            clear hr1 hr2 hgk ha1
            go_enter Tryd.func29, Tryd.ntmps29
            go_wp2_with fail
            refine (specGridB W H C true hC HGK _).mono ?_
            rintro e w1 ⟨rfl, hb⟩
            replace hB := chain hB hb
            obtain ⟨c0, c1, c2⟩ := box_cells hB
            clear hb
            go_wp2_with fail
            refine (l01InB (S.length : Int) 1 10 true HR1 _).mono ?_
            rintro e w2 ⟨rfl, rfl⟩
            go_wp2_with fail
            refine (l01InB T 0 20 true HR2 _).mono ?_
            rintro e w2 ⟨rfl, rfl⟩
            go_wp2_with fail
            refine (specAsc W H C S (.slice al S.length cs) false hC hS HA1 _ (ints_on HSS.out (box_below hB))).mono ?_
            rintro e w3 ⟨rfl, hb⟩
            replace hB := chain hB hb
            obtain ⟨c0, c1, c2⟩ := box_cells hB
            clear hb
            go_wp2_with fail
            go_ret
            exact ⟨rfl, box_below hB⟩
          | true =>
            have HA1 := Lib.hid ha1
            cases ha2 : ascV W H C G with
            | false =>
              obtain rfl : b = false := HB.out.symm.trans (by unfold askV; simp [ha2])
              clear HB
              have HA2 := Lib.hid ha2
              clear hr1 hr2 hgk ha1 ha2
              go_enter Tryd.func29, Tryd.ntmps29
              go_wp2_with fail
              refine (specGridB W H C true hC HGK _).mono ?_
              rintro e w1 ⟨rfl, hb⟩
              replace hB := chain hB hb
              obtain ⟨c0, c1, c2⟩ := box_cells hB
              clear hb
              go_wp2_with fail
              refine (l01InB (S.length : Int) 1 10 true HR1 _).mono ?_
              rintro e w2 ⟨rfl, rfl⟩
              go_wp2_with fail
              refine (l01InB T 0 20 true HR2 _).mono ?_
              rintro e w2 ⟨rfl, rfl⟩
              go_wp2_with fail
              refine (specAsc W H C S (.slice al S.length cs) true hC hS HA1 _ (ints_on HSS.out (box_below hB))).mono ?_
              rintro e w3 ⟨rfl, hb⟩
              replace hB := chain hB hb
              obtain ⟨c0, c1, c2⟩ := box_cells hB
              clear hb
              go_wp2_with fail
              refine (specAsc W H C G (.slice ag G.length cg) false hC hG HA2 _ (ints_on HGG.out (box_below hB))).mono ?_
              rintro e w3 ⟨rfl, hb⟩
              replace hB := chain hB hb
              obtain ⟨c0, c1, c2⟩ := box_cells hB
              clear hb
              go_wp2_with fail
              go_ret
              exact ⟨rfl, box_below hB⟩
            | true =>
              have HA2 := Lib.hid ha2
              obtain ⟨ht1, ht2⟩ := rgB_iff.1 hr2
              have HD : Hid (decide (((freeL W H C).length : Int) * (T + 1) ≤ 240) = b) := Lib.hid (by rw [← HB.out]; unfold askV; simp [hgk, hr1, hr2, hle, ha1, ha2])
              have hf64 : (freeL W H C).length ≤ 64 := Nat.le_trans (picks_len _ _) (Nat.min_le_right _ _)
              have hm0 : 0 ≤ ((freeL W H C).length : Int) * (T + 1) := Int.mul_nonneg (by omega) (by omega)
              have hm1 : ((freeL W H C).length : Int) * (T + 1) ≤ 64 * 21 := Int.mul_le_mul (by omega) (by omega) (by omega) (by omega)
              have hwm : IntKind.i64.wrap (((freeL W H C).length : Int) * (T + 1)) = ((freeL W H C).length : Int) * (T + 1) := IntWalk.i64_in _ (by omega)
              clear HB hr1 hr2 hgk ha1 ha2
              go_enter Tryd.func29, Tryd.ntmps29
              go_wp2_with fail
              refine (specGridB W H C true hC HGK _).mono ?_
              rintro e w1 ⟨rfl, hb⟩
              replace hB := chain hB hb
              obtain ⟨c0, c1, c2⟩ := box_cells hB
              clear hb
              go_wp2_with fail
              refine (l01InB (S.length : Int) 1 10 true HR1 _).mono ?_
              rintro e w2 ⟨rfl, rfl⟩
              go_wp2_with fail
              refine (l01InB T 0 20 true HR2 _).mono ?_
              rintro e w2 ⟨rfl, rfl⟩
              go_wp2_with fail
              refine (specAsc W H C S (.slice al S.length cs) true hC hS HA1 _ (ints_on HSS.out (box_below hB))).mono ?_
              rintro e w3 ⟨rfl, hb⟩
              replace hB := chain hB hb
              obtain ⟨c0, c1, c2⟩ := box_cells hB
              clear hb
              go_wp2_with fail
              refine (specAsc W H C G (.slice ag G.length cg) true hC hG HA2 _ (ints_on HGG.out (box_below hB))).mono ?_
              rintro e w3 ⟨rfl, hb⟩
              replace hB := chain hB hb
              obtain ⟨c0, c1, c2⟩ := box_cells hB
              clear hb
              go_wp2_with fail
              refine (specFreeCells W H C _ hC (Lib.hid rfl) _).mono ?_
              rintro e w5 ⟨v, rfl, hown, hb⟩
              replace hB := chain hB hb
              obtain ⟨av, cv, rfl, _⟩ := ints_form (ints_of_own hown)
              clear hb hown c0 c1 c2
              go_wp2_with fail
              go_ret
              exact ⟨bool_ret HD.out (by simp), box_below hB⟩
      · obtain rfl : b = false := HB.out.symm.trans (by unfold askV; simp [hle])
        clear HB
        have HLE := Lib.hid hle
        clear hr1 hgk
        go_enter Tryd.func29, Tryd.ntmps29
        go_wp2_with fail
        refine (specGridB W H C true hC HGK _).mono ?_
        rintro e w1 ⟨rfl, hb⟩
        replace hB := chain hB hb
        obtain ⟨c0, c1, c2⟩ := box_cells hB
        clear hb
        go_wp2_with fail
        refine (l01InB (S.length : Int) 1 10 true HR1 _).mono ?_
        rintro e w2 ⟨rfl, rfl⟩
        go_wp2_with fail
        go_ret
        exact ⟨rfl, box_below hB⟩

end Go.Proofs.YtnbbhdbcapfbkaaDoor

namespace Go.Proofs.YtnbbhdbcapfbkaaDoor
set_option maxRecDepth 4096
open Go.ChangeShapes Go.WideShapes Go.ChangeAt Go.RowKit

theorem idx_is {c : Int} : ∀ {L : List Int}, c ∈ L → L[L.idxOf c]? = some c ∧ ∀ (j : Nat) x, j < L.idxOf c → L[j]? = some x → ¬ x = c
  | [], h => by cases h
  | a :: L, h => by
    rw [List.idxOf_cons]
    by_cases e : a = c
    · subst e
      simp
    · have h2 := idx_is (L := L) (c := c) (by rcases List.mem_cons.1 h with h | h; exact absurd h.symm e; exact h)
      have e2 : (a == c) = false := by simp [e]
      rw [e2]
      refine ⟨by simpa using h2.1, fun j x hj hx => ?_⟩
      simp only [cond_false] at hj
      cases j with
      | zero => simp at hx; subst hx; exact e
      | succ j => exact h2.2 j x (by omega) (by simpa using hx)
theorem free_memA {W H : Int} {C : ByteArray} {c : Int} (h : freeV W H C c = true) : c ∈ freeL W H C := by
  obtain ⟨hg, n, rfl, hn⟩ : gok W H C = true ∧ ∃ n : Nat, c = n ∧ n < C.size := by
    have h2 := h
    unfold freeV at h2
    simp only [Bool.and_eq_true] at h2
    exact cellOk_out h2.1
  have hs := (gok_out hg).1
  have := (mul_bd hs.1.1 hs.1.2 hs.2.1.1 hs.2.1.2).2
  have h2 := hs.2.2
  refine List.mem_map.2 ⟨n, List.mem_filter.2 ⟨List.mem_range.2 (by omega), h⟩, rfl⟩

set_option maxHeartbeats 4000000 in
theorem specInNode (W H : Int) (C : ByteArray) (c T z : Int) (hC : C.size ≤ 1048576) (HZ : Hid (inNodeV W H C c T = z)) (w : World) :
    Calls Tryd.prog 18 #[.agg #[.int .i64 W, .int .i64 H, .string C], .int .i64 c, .int .i64 T] w (Made w (.int .i64 z)) := by
  have hB := Below.refl (w.alloc (.cells #[.int .i64 W, .int .i64 H, .string C] 30)).heap.size (w.alloc (.cells #[.int .i64 W, .int .i64 H, .string C] 30))
  obtain ⟨c0, c1, c2⟩ := box_cells hB
  cases hf : freeV W H C c with
  | false =>
    obtain rfl : z = -1 := by rw [← HZ.out]; unfold inNodeV; rw [if_neg (by simp [hf])]
    have HF := Lib.hid hf
    clear hf HZ
    go_enter Tryd.func18, Tryd.ntmps18
    go_wp2_with fail
    refine (specFreeB W H C c false hC HF _).mono ?_
    rintro e w1 ⟨rfl, hb⟩
    replace hB := chain hB hb
    clear hb c0 c1 c2
    go_wp2_with fail
    go_ret
    exact ⟨rfl, box_below hB⟩
  | true =>
    have HF := Lib.hid hf
    cases hr : rgB T 0 20 with
    | false =>
      obtain rfl : z = -1 := by rw [← HZ.out]; unfold inNodeV; rw [if_neg (by simp [hr])]
      have HR := Lib.hid hr
      clear hf hr HZ
      go_enter Tryd.func18, Tryd.ntmps18
      go_wp2_with fail
      refine (specFreeB W H C c true hC HF _).mono ?_
      rintro e w1 ⟨rfl, hb⟩
      replace hB := chain hB hb
      clear hb c0 c1 c2
      go_wp2_with fail
      refine (l01InB T 0 20 false HR _).mono ?_
      rintro e w2 ⟨rfl, rfl⟩
      go_wp2_with fail
      go_ret
      exact ⟨rfl, box_below hB⟩
    | true =>
      have HR := Lib.hid hr
      obtain ⟨ht1, ht2⟩ := rgB_iff.1 hr
      obtain ⟨L, HL⟩ : ∃ L, Hid (freeL W H C = L) := ⟨_, rfl⟩
      obtain ⟨i, HI⟩ : ∃ i, Hid (L.idxOf c = i) := ⟨_, rfl⟩
      obtain ⟨hix, hne⟩ := idx_is (free_memA hf)
      rw [HL.out, HI.out] at hix hne
      have hil : i < L.length := (List.getElem?_eq_some_iff.1 hix).1
      have hl64 : L.length ≤ 64 := by rw [← HL.out]; exact Nat.le_trans (picks_len _ _) (Nat.min_le_right _ _)
      have HIX := Lib.hid hix
      have HNE := Lib.hid hne
      obtain rfl : 3 + 2 * (T * (L.length : Int) + (i : Int)) = z := by rw [← HZ.out]; unfold inNodeV; rw [if_pos ⟨hf, hr⟩, HL.out, HI.out]
      have hm0 : 0 ≤ T * (L.length : Int) := Int.mul_nonneg (by omega) (by omega)
      have hm1 : T * (L.length : Int) ≤ 20 * 64 := Int.mul_le_mul (by omega) (by omega) (by omega) (by omega)
      have hw1 : IntKind.i64.wrap (T * (L.length : Int)) = T * (L.length : Int) := IntWalk.i64_in _ (by omega)
      have hw2 : IntKind.i64.wrap (T * (L.length : Int) + (i : Int)) = T * (L.length : Int) + (i : Int) := IntWalk.i64_in _ (by omega)
      have hw3 : IntKind.i64.wrap (2 * (T * (L.length : Int) + (i : Int))) = 2 * (T * (L.length : Int) + (i : Int)) := IntWalk.i64_in _ (by omega)
      have hw4 : IntKind.i64.wrap (3 + 2 * (T * (L.length : Int) + (i : Int))) = 3 + 2 * (T * (L.length : Int) + (i : Int)) := IntWalk.i64_in _ (by omega)
      have HW := Lib.hid (And.intro hw1 (And.intro hw2 (And.intro hw3 hw4)))
      clear hf hr HZ hix hne hw1 hw2 hw3 hw4 HI
      go_enter Tryd.func18, Tryd.ntmps18
      go_wp2_with fail
      refine (specFreeB W H C c true hC HF _).mono ?_
      rintro e w1 ⟨rfl, hb⟩
      replace hB := chain hB hb
      obtain ⟨c0, c1, c2⟩ := box_cells hB
      clear hb
      go_wp2_with fail
      refine (l01InB T 0 20 true HR _).mono ?_
      rintro e w2 ⟨rfl, rfl⟩
      go_wp2_with fail
      refine (specFreeCells W H C L hC HL _).mono ?_
      rintro e w5 ⟨v, rfl, hown, hb⟩
      replace hB := chain hB hb
      obtain ⟨av, cv, rfl, HO⟩ := ints_form (ints_of_own hown)
      rcases HO with h0 | ⟨g, rfl, hg, hc⟩
      · omega
      have HC := Lib.hid hc
      have HB5 := Lib.hid hB
      have hB5 := Below.refl w5.heap.size w5
      clear hb hown c0 c1 c2 hc hB
      go_wp2_with fail
      go_loopw [8] (fun k wr => ∃ n : Nat, k = .int .i64 n ∧ n ≤ i ∧ Below w5.heap.size w5 wr) (fun k _ => i - (intOf k).toNat)
      case atStart => exact ⟨0, rfl, Nat.zero_le _, hB5⟩
      case round =>
        clear hB5
        obtain ⟨n, rfl, hn, hB⟩ := hrel
        have hnl : (n : Int) < (L.length : Int) := by omega
        obtain ⟨x, hx⟩ : ∃ x, L[n]? = some x := ⟨_, List.getElem?_eq_getElem (by omega)⟩
        have d0 := (hB.cell (p := ⟨g, n, none⟩) hg).trans (HC.out n x hx)
        by_cases hni : n < i
        · have hxc := HNE.out n x hni hx
          clear hx
          go_wp2_with fail
          go_roundw
          case rel => exact ⟨n + 1, by go_num, by omega, hB⟩
          case measure => simp [intOf]; omega
        · obtain rfl : n = i := by omega
          obtain rfl : x = c := by rw [HIX.out] at hx; exact (Option.some.inj hx).symm
          clear hx
          obtain ⟨hw1, hw2, hw3, hw4⟩ := HW.out
          go_wp2_with fail
          go_ret
          exact ⟨rfl, box_below (chain HB5.out hB)⟩

end Go.Proofs.YtnbbhdbcapfbkaaDoor

namespace Go.Proofs.YtnbbhdbcapfbkaaDoor
set_option maxRecDepth 4096
open Go.ChangeShapes Go.WideShapes Go.ChangeAt Go.RowKit

theorem specBeside (W H : Int) (C : ByteArray) (a b : Int) (r : Bool) (hC : C.size ≤ 1048576) (HR : Hid ((aroundL W H C a).contains b = r)) (w : World) :
    Calls Tryd.prog 33 #[.agg #[.int .i64 W, .int .i64 H, .string C], .int .i64 a, .int .i64 b] w (Made w (.bool r)) := by
  obtain ⟨L, HL⟩ : ∃ L, Hid (aroundL W H C a = L) := ⟨_, rfl⟩
  have HR2 : Hid (L.contains b = r) := Lib.hid (by rw [← HL.out]; exact HR.out)
  have hlen : L.length ≤ 2000000 := by rw [← HL.out]; exact Nat.le_trans (aroundL_len W H C a) (by decide)
  clear HR
  have hB := Below.refl (w.alloc (.cells #[.int .i64 W, .int .i64 H, .string C] 30)).heap.size (w.alloc (.cells #[.int .i64 W, .int .i64 H, .string C] 30))
  go_enter Tryd.func33, Tryd.ntmps33
  go_wp2_with fail
  refine (specAround W H C a L hC HL _).mono ?_
  rintro e w1 ⟨v, rfl, hown, hb⟩
  replace hB := chain hB hb
  go_wp2_with fail
  refine (specHas v L b r _ (ints_of_own hown) HR2 hlen).mono ?_
  rintro e w' ⟨rfl, rfl⟩
  go_wp2_with fail
  go_ret
  exact ⟨rfl, box_below hB⟩

end Go.Proofs.YtnbbhdbcapfbkaaDoor

