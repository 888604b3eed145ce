/-
  CONTRACTS of the program's HomeOf, Homes, CountIn and Enough. No law is proved here.
-/
import Derived.Test.YtieipekhckambaaDoorCompI
import Derived.Test.YtieipekhckambaaDoorSortK
namespace Go.Proofs.YtieipekhckambaaDoor
set_option maxRecDepth 4096
open Go.ChangeShapes Go.WideShapes Go.ChangeAt Go.RowKit Go.Maps

theorem implHomeOf (W H : Int) (C : ByteArray) (c z : Int) (hC : C.size ≤ 1048576) (HZ : Hid (homeV W H C c = z)) (w : World) (hS : SidesAt w) :
    Calls Tryd.prog 11 #[.agg #[.int .i64 W, .int .i64 H, .string C], .int .i64 c] w (Made w (.int .i64 z)) := by
  obtain ⟨R, HR⟩ : ∃ R, Hid (reachL W H C c = R) := ⟨_, rfl⟩
  have HH := Lib.hid (reach_head (W := W) (H := H) (C := C) (a := c) HZ.out)
  rw [HR.out] at HH
  have hB := (Below.refl w.heap.size w).alloc (Nat.le_refl _) (.cells #[.int .i64 W, .int .i64 H, .string C] 25)
  have HS := Lib.hid (hS.below hB)
  clear hS HZ
  go_enter Tryd.func11, Tryd.ntmps11
  go_wp2_with fail
  refine (reachedI W H C c R hC HR _ HS.out).mono ?_
  rintro e w3 ⟨v, rfl, hown, hb⟩
  have hB3 := hB.trans (hb.mono hB.size)
  obtain ⟨av, cv, rfl, HV⟩ := ints_form (ints_of_own hown)
  clear hb hB hown HS HR
  rcases HH.out with ⟨h0, rfl⟩ | ⟨h1, h2⟩
  · subst h0
    clear HH HV
    go_wp2_with fail
    go_ret
    exact ⟨rfl, hB3⟩
  · rcases HV with h | ⟨g, rfl, hgl, hc⟩
    · omega
    · have d0 := hc 0 z h2
      have hl : (0 : Int) < (R.length : Int) := by omega
      have hl2 : 0 < R.length := by omega
      clear HH hc h2
      go_wp2_with fail
      go_ret
      exact ⟨rfl, hB3⟩

theorem homes_sorted {W H : Int} {C : ByteArray} {B : Nat} {D : DataW Value} {w : World} (h : Comp W H C B D w) {ss : List Int} (hp : ss.Perm (intKeys D)) : ss.mergeSort (fun x y => decide (x ≤ y)) = homesL W H C := by
  have hc : CollectedI D (fun _ => false) (homesL W H C) := ⟨homesL_nodup W H C, fun x => by rw [← h.keys x]; simp⟩
  rw [mergeSort_of_perm_i (hp.trans (hc.perm h.map lawK Tryd.underlying3 (fun _ => rfl)).symm)]
  refine List.mergeSort_of_pairwise ?_
  have hu : (homesL W H C).Pairwise (· < ·) := List.Pairwise.filter _ (freeL_up W H C)
  refine hu.imp (fun {a b} h => ?_)
  simp only [decide_eq_true_eq]
  omega

theorem implHomes (W H : Int) (C : ByteArray) (R : List Int) (hC : C.size ≤ 1048576) (HR : Hid (homesL W H C = R)) (w : World) (hS : SidesAt w) :
    Calls Tryd.prog 10 #[.agg #[.int .i64 W, .int .i64 H, .string C]] w (IntsBack w R) := by
  have hB := (Below.refl w.heap.size w).alloc (Nat.le_refl _) (.cells #[.int .i64 W, .int .i64 H, .string C] 25)
  have HS := Lib.hid (hS.below hB)
  clear hS
  go_enter Tryd.func10, Tryd.ntmps10
  go_wp2_with fail
  refine (componentsI W H C hC _ HS.out).mono ?_
  rintro e w3 ⟨B, D, rfl, hBl, hcomp, hb⟩
  have hB3 := hB.trans (hb.mono hB.size)
  have hsz : Maps.size D ≤ 64 := by
    obtain ⟨es, clock, _, F, hn, rfl⟩ := hcomp.map
    show (List.foldr DataW.insert [] _).length ≤ 64
    rw [length_sorted, List.length_map, Array.length_toList]
    exact hn
  clear hb hB HS
  go_wp2_with fail
  refine (keysI (some B) w3).mono ?_
  rintro e w4 ⟨rfl, rfl⟩
  go_wp2_with fail
  refine (sortedI B 64 D Rv w3 hcomp.map (by unfold maxLen; omega) (by omega)).mono ?_
  rintro e w5 ⟨v, ss, rfl, hp, hrow, hb⟩
  have e1 := (homes_sorted hcomp hp).trans HR.out
  have hl : ss.length = R.length := by rw [← e1, List.length_mergeSort]
  go_wp2_with fail
  go_ret
  have hs3 := hB3.size
  refine ⟨_, rfl, ?_, hB3.trans ((((Below.refl _ _).alloc (Nat.le_refl _) _).trans (hb.mono (by omega))).mono hs3)⟩
  have hrow2 := hrow
  rw [e1, hl] at hrow2
  exact own_base hrow2 (by omega)

theorem homesL_wf {W H : Int} {C : ByteArray} {x : Int} (h : x ∈ homesL W H C) : (Lit.int .i64 x).wf = true := by
  obtain ⟨hg, n, rfl, hn⟩ := free_in (freeL_mem.1 (homesL_iff.1 h).1)
  have := (gok_size hg).2
  exact WalkArith.wf_i64 (by omega)
theorem comp_get {W H : Int} {C : ByteArray} {B : Nat} {D : DataW Value} {w : World} (h : Comp W H C B D w) (x : Int) (hx : (Lit.int .i64 x).wf = true) (L : List Int) :
    ∃ v Rx, (Instr.lookup 53 (.map (some B)) (.int .i64 x) false).run Tryd.prog w = .ok v w ∧ Ints w v Rx ∧ Rx.length ≤ 64 ∧ ((L.filter fun c => Rx.contains c).length : Int) = countV W H C x L := by
  by_cases hin : x ∈ homesL W H C
  · obtain ⟨v, h1, h2⟩ := h.els x hin
    exact ⟨v, _, comp_look h.map hx h1, h2, reach_len W H C x, count_home hin L⟩
  · refine ⟨_, [], comp_look_no h.map hx ?_, .inl ⟨rfl, _, _, rfl⟩, by simp, ?_⟩
    · cases hh : has D (.int .i64 x) with
      | false => rfl
      | true => exact absurd ((h.keys x).1 hh) hin
    · rw [count_no hin]
      simp

theorem implCountIn (W H : Int) (C : ByteArray) (home : Int) (L : List Int) (z : Int) (v : Value) (hC : C.size ≤ 1048576) (hL : L.length ≤ 2000000) (HZ : Hid (countV W H C home L = z)) (hwf : (Lit.int .i64 home).wf = true) (w : World) (hv : Ints w v L) (hS : SidesAt w) :
    Calls Tryd.prog 12 #[.agg #[.int .i64 W, .int .i64 H, .string C], .int .i64 home, v] w (Made w (.int .i64 z)) := by
  have hB := (Below.refl w.heap.size w).alloc (Nat.le_refl _) (.cells #[.int .i64 W, .int .i64 H, .string C] 25)
  have HS := Lib.hid (hS.below hB)
  have HV := Lib.hid (ints_on hv hB)
  clear hS hv
  go_enter Tryd.func12, Tryd.ntmps12
  go_wp2_with fail
  refine (componentsI W H C hC _ HS.out).mono ?_
  rintro e w3 ⟨B, D, rfl, hBl, hcomp, hb⟩
  have HV3 := Lib.hid (ints_on HV.out hb)
  have hB3 := hB.trans (hb.mono hB.size)
  obtain ⟨u, Rx, hrun, hu, hRl, hcnt⟩ := comp_get hcomp home hwf L
  have HU := Lib.hid hu
  have HN := Lib.hid (hcnt.trans HZ.out)
  clear hb hB HS HV hcomp hu hcnt
  go_wp2_with fail
  refine (countWithinI Rx L u v z (by omega) hL HN w3 HU.out HV3.out).mono ?_
  rintro e w4 ⟨rfl, rfl⟩
  go_wp2_with fail
  go_ret
  exact ⟨rfl, hB3⟩

theorem enough_gok {W H : Int} {C : ByteArray} {S D : List Int} {b : Bool} (HB : Hid (enoughV W H C S D = b)) (h : gok W H C = false) : b = false := by
  rw [← HB.out]
  unfold enoughV
  rw [h]
  rfl
theorem enough_S {W H : Int} {C : ByteArray} {S D : List Int} {b : Bool} (HB : Hid (enoughV W H C S D = b)) (h : S.all (freeV W H C) = false) : b = false := by
  rw [← HB.out]
  unfold enoughV
  rw [h]
  simp
theorem enough_D {W H : Int} {C : ByteArray} {S D : List Int} {b : Bool} (HB : Hid (enoughV W H C S D = b)) (h : D.all (freeV W H C) = false) : b = false := by
  rw [← HB.out]
  unfold enoughV
  rw [h]
  simp
theorem enough_yes {W H : Int} {C : ByteArray} {S D : List Int} {b : Bool} (HB : Hid (enoughV W H C S D = b)) (hg : gok W H C = true) (hS : S.all (freeV W H C) = true) (hD : D.all (freeV W H C) = true) (h : ∀ x ∈ homesL W H C, countV W H C x D ≤ countV W H C x S) : b = true := by
  rw [← HB.out]
  unfold enoughV
  rw [hg, hS, hD, Bool.true_and, Bool.true_and, Bool.true_and, List.all_eq_true]
  exact fun x hx => decide_eq_true (h x hx)
theorem enough_short {W H : Int} {C : ByteArray} {S D : List Int} {b : Bool} (HB : Hid (enoughV W H C S D = b)) {x : Int} (hx : x ∈ homesL W H C) (h : countV W H C x S < countV W H C x D) : b = false := by
  rw [← HB.out]
  cases he : enoughV W H C S D with
  | false => rfl
  | true =>
    unfold enoughV at he
    simp only [Bool.and_eq_true, List.all_eq_true, decide_eq_true_eq] at he
    have := he.2.2.2 x hx
    omega

theorem enough_bad (W H : Int) (C : ByteArray) (vs vd : Value) (hC : C.size ≤ 1048576) (hg : gok W H C = false) (w : World) :
    Calls Tryd.prog 14 #[.agg #[.int .i64 W, .int .i64 H, .string C], vs, vd] w (Made w (.bool false)) := by
  have HG := Lib.hid hg
  have hB := Below.refl (w.alloc (.cells #[.int .i64 W, .int .i64 H, .string C] 25)).heap.size (w.alloc (.cells #[.int .i64 W, .int .i64 H, .string C] 25))
  clear hg
  go_enter Tryd.func14, Tryd.ntmps14
  go_wp2_with fail
  refine (implGridOk W H C hC _).mono ?_
  rintro e w1 ⟨rfl, hb⟩
  rw [HG.out]
  replace hB := chain hB hb
  clear hb
  go_wp2_with fail
  go_ret
  exact ⟨rfl, box_below hB⟩
theorem enough_badS (W H : Int) (C : ByteArray) (S : List Int) (vs vd : Value) (hC : C.size ≤ 1048576) (hSl : S.length ≤ 2000000) (hg : gok W H C = true) (hA : S.all (freeV W H C) = false) (w : World) (hvs : Ints w vs S) :
    Calls Tryd.prog 14 #[.agg #[.int .i64 W, .int .i64 H, .string C], vs, vd] w (Made w (.bool false)) := by
  have HG := Lib.hid hg
  have HA := Lib.hid hA
  have HV := Lib.hid hvs
  have hB := Below.refl (w.alloc (.cells #[.int .i64 W, .int .i64 H, .string C] 25)).heap.size (w.alloc (.cells #[.int .i64 W, .int .i64 H, .string C] 25))
  clear hg hA hvs
  go_enter Tryd.func14, Tryd.ntmps14
  go_wp2_with fail
  refine (implGridOk W H C hC _).mono ?_
  rintro e w1 ⟨rfl, hb⟩
  rw [HG.out]
  replace hB := chain hB hb
  obtain ⟨c0, c1, c2⟩ := box_cells hB
  clear hb
  go_wp2_with fail
  refine (allFreeI W H C S false _ hC hSl HA _ (ints_on HV.out (box_below hB))).mono ?_
  rintro e w2 ⟨rfl, hb⟩
  replace hB := chain hB hb
  clear hb c0 c1 c2
  go_wp2_with fail
  go_ret
  exact ⟨rfl, box_below hB⟩
theorem enough_badD (W H : Int) (C : ByteArray) (S D : List Int) (vs vd : Value) (hC : C.size ≤ 1048576) (hSl : S.length ≤ 2000000) (hDl : D.length ≤ 2000000) (hg : gok W H C = true) (hA : S.all (freeV W H C) = true) (hE : D.all (freeV W H C) = false) (w : World) (hvs : Ints w vs S) (hvd : Ints w vd D) :
    Calls Tryd.prog 14 #[.agg #[.int .i64 W, .int .i64 H, .string C], vs, vd] w (Made w (.bool false)) := by
  have HG := Lib.hid hg
  have HA := Lib.hid hA
  have HE := Lib.hid hE
  have HV := Lib.hid hvs
  have HU := Lib.hid hvd
  have hB := Below.refl (w.alloc (.cells #[.int .i64 W, .int .i64 H, .string C] 25)).heap.size (w.alloc (.cells #[.int .i64 W, .int .i64 H, .string C] 25))
  clear hg hA hE hvs hvd
  go_enter Tryd.func14, Tryd.ntmps14
  go_wp2_with fail
  refine (implGridOk W H C hC _).mono ?_
  rintro e w1 ⟨rfl, hb⟩
  rw [HG.out]
  replace hB := chain hB hb
  obtain ⟨c0, c1, c2⟩ := box_cells hB
  clear hb
  go_wp2_with fail
  refine (allFreeI W H C S true _ hC hSl HA _ (ints_on HV.out (box_below hB))).mono ?_
  rintro e w2 ⟨rfl, hb⟩
  replace hB := chain hB hb
  clear hb c0 c1 c2
  obtain ⟨c0, c1, c2⟩ := box_cells hB
  go_wp2_with fail
  refine (allFreeI W H C D false _ hC hDl HE _ (ints_on HU.out (box_below hB))).mono ?_
  rintro e w3 ⟨rfl, hb⟩
  replace hB := chain hB hb
  clear hb c0 c1 c2
  go_wp2_with fail
  go_ret
  exact ⟨rfl, box_below hB⟩

theorem keyOf_is {key : Value} {kl : Lit} (h : keyOf Tryd.prog 3 key = some kl) : ∃ x, key = Value.int .i64 x := by
  obtain ⟨x, e, _⟩ := Maps.keyOf_i64 Tryd.underlying3 h
  exact ⟨x, e⟩
theorem keyOf_lit {x : Int} {kl : Lit} (h : keyOf Tryd.prog 3 (Value.int .i64 x) = some kl) : kl = .int .i64 x := by
  obtain ⟨y, e, e2, _⟩ := Maps.keyOf_i64 Tryd.underlying3 h
  cases e
  exact e2
theorem range_below {w w' : World} {r n₀ : Nat} (h : w.grownBy w' (some r)) (hr : n₀ ≤ r) (hn : n₀ ≤ w.heap.size) : Below n₀ w w' := ⟨h.os, h.tape, h.output, h.size, fun i hi => h.block i (by omega) (fun e => by have := Option.some.inj e; omega)⟩

set_option maxHeartbeats 1000000 in
theorem enough_in (W H : Int) (C : ByteArray) (S D : List Int) (b : Bool) (vs vd : Value) (hC : C.size ≤ 1048576) (hSl : S.length ≤ 1048576) (hDl : D.length ≤ 1048576) (HB : Hid (enoughV W H C S D = b)) (hg : gok W H C = true) (hA : S.all (freeV W H C) = true) (hE : D.all (freeV W H C) = true) (w : World) (hvs : Ints w vs S) (hvd : Ints w vd D) (hS : SidesAt w) :
    Calls Tryd.prog 14 #[.agg #[.int .i64 W, .int .i64 H, .string C], vs, vd] w (Made w (.bool b)) := by
  have HG := Lib.hid hg
  have HA := Lib.hid hA
  have HE := Lib.hid hE
  have HV := Lib.hid hvs
  have HU := Lib.hid hvd
  have HS := Lib.hid hS
  have hB := Below.refl (w.alloc (.cells #[.int .i64 W, .int .i64 H, .string C] 25)).heap.size (w.alloc (.cells #[.int .i64 W, .int .i64 H, .string C] 25))
  clear hg hA hE hvs hvd hS
  go_enter Tryd.func14, Tryd.ntmps14
  go_wp2_with fail
  refine (implGridOk W H C hC _).mono ?_
  rintro e w1 ⟨rfl, hb⟩
  rw [HG.out]
  replace hB := chain hB hb
  obtain ⟨c0, c1, c2⟩ := box_cells hB
  clear hb
  go_wp2_with fail
  refine (allFreeI W H C S true _ hC (by omega) HA _ (ints_on HV.out (box_below hB))).mono ?_
  rintro e w2 ⟨rfl, hb⟩
  replace hB := chain hB hb
  clear hb c0 c1 c2
  obtain ⟨c0, c1, c2⟩ := box_cells hB
  go_wp2_with fail
  refine (allFreeI W H C D true _ hC (by omega) HE _ (ints_on HU.out (box_below hB))).mono ?_
  rintro e w3 ⟨rfl, hb⟩
  replace hB := chain hB hb
  clear hb c0 c1 c2
  obtain ⟨c0, c1, c2⟩ := box_cells hB
  go_wp2_with fail
  refine (componentsI W H C hC _ (HS.out.below (box_below hB))).mono ?_
  rintro e w4 ⟨B, Dm, rfl, hBl, hcomp, hb⟩
  replace hB := chain hB hb
  have HB4 := Lib.hid (box_below hB)
  have HV4 := Lib.hid (ints_on HV.out (box_below hB))
  have HU4 := Lib.hid (ints_on HU.out (box_below hB))
  have HC4 := Lib.hid hcomp
  clear hb c0 c1 c2 hB hcomp HS HV HU
  go_wp2_with (at_range; refine wpList_range_own _ rfl _ 53 rfl 3 26 lawK Tryd.underlying53 _ B 64 Dm rfl HC4.out.map ?_; intro w0 hrg0 hg0 hs0)
  go_frame
  go_loopw [8] (fun _ wr => ∃ (left : Lit → Bool) (cnt : Nat), wr.ranges Tryd.prog 3 Rv B w4.heap.size 64 Dm left cnt ∧ (∀ x : Int, x ∈ homesL W H C → left (.int .i64 x) = false → countV W H C x D ≤ countV W H C x S) ∧ Below w4.heap.size w4 wr) (fun _ wr => wr.rangeLeft B w4.heap.size)
  case atStart => exact ⟨_, _, hrg0, fun x hx hl => (by rw [(HC4.out.keys x).2 hx] at hl; cases hl), range_below (hg0.but (some w4.heap.size)) (Nat.le_refl _) (Nat.le_refl _)⟩
  case round =>
    clear hrg0 hg0 hs0
    obtain ⟨left, cnt, hrg, hdone, hbr⟩ := hrel
    go_wp2_with (at_next; refine wpList_next_ranges (α := Int) (β := Value) _ rfl _ rfl 3 lawK Rv (Value.int .i64) (fun v => v) (fun key kl hk => keyOf_is hk) (fun v _ _ => ⟨v, rfl⟩) B w4.heap.size 64 Dm left cnt rfl hrg ?_ ?_)
    · intro _ hl0
      have e : b = true := enough_yes HB HG.out HA.out HE.out (fun x hx => hdone x hx (hl0 _))
      subst e
      go_wp2_with fail
      go_ret
      exact ⟨rfl, HB4.out.trans (hbr.mono HB4.out.size)⟩
    · intro x u kl y yp wn cnt1 hkey hlk hRv hat hrg1 hlt hg1 hs1 hen
      obtain rfl := keyOf_lit hkey
      cases hRv
      have hx : x ∈ homesL W H C := (HC4.out.keys x).1 (has_true_of_atKey hat)
      obtain ⟨u', hat', hu⟩ := HC4.out.els x hx
      have e : u' = u := by
        have := (hat' .nil).symm.trans (hat .nil)
        injection this
      subst e
      have hbn : Below w4.heap.size w4 wn := hbr.trans (range_below hg1 (Nat.le_refl _) hbr.size)
      have HU1 := Lib.hid (ints_on hu hbn)
      have HV5 := Lib.hid (ints_on HV4.out hbn)
      have HU5 := Lib.hid (ints_on HU4.out hbn)
      have HX := Lib.hid hx
      have HRG := Lib.hid hrg1
      have HL := Lib.hid hlt
      have HD := Lib.hid hdone
      have HBN := Lib.hid hbn
      have HCL := Lib.hid hrg.left_eq
      have HND := Lib.hid (count_home hx D)
      have HNS := Lib.hid (count_home hx S)
      have hRl := reach_len W H C x
      clear hkey hlk hat hrg1 hlt hg1 hs1 hx hat' hu hbn hdone hrg hbr
      go_wp2_with fail
      refine (countWithinI (reachL W H C x) D u' vd (countV W H C x D) (by omega) (by omega) HND wn HU1.out HU5.out).mono ?_
      rintro e wm ⟨rfl, rfl⟩
      go_wp2_with fail
      refine (countWithinI (reachL W H C x) S u' vs (countV W H C x S) (by omega) (by omega) HNS wn HU1.out HV5.out).mono ?_
      rintro e wm ⟨rfl, rfl⟩
      obtain ⟨cd, hcd⟩ : ∃ cd, Hid (countV W H C x D = cd) := ⟨_, rfl⟩
      obtain ⟨cs, hcs⟩ : ∃ cs, Hid (countV W H C x S = cs) := ⟨_, rfl⟩
      rw [hcd.out, hcs.out]
      by_cases hgt : cs < cd
      · have e : b = false := enough_short HB HX.out (by rw [hcd.out, hcs.out]; exact hgt)
        subst e
        go_wp2_with fail
        go_ret
        exact ⟨rfl, HB4.out.trans (HBN.out.mono HB4.out.size)⟩
      · go_wp2_with fail
        go_roundw
        case rel => exact ⟨_, cnt1, HRG.out, fun x2 hx2 hl2 => (by
          by_cases e : x2 = x
          · subst e
            rw [hcd.out, hcs.out]
            omega
          · refine HD.out x2 hx2 ?_
            simpa [Lit.sameKey, e] using hl2), HBN.out⟩
        case measure => rw [HRG.out.left_eq, HCL.out]; exact HL.out

theorem implEnough (W H : Int) (C : ByteArray) (S D : List Int) (b : Bool) (vs vd : Value) (hC : C.size ≤ 1048576) (hSl : S.length ≤ 1048576) (hDl : D.length ≤ 1048576) (HB : Hid (enoughV W H C S D = b)) (w : World) (hvs : Ints w vs S) (hvd : Ints w vd D) (hS : SidesAt w) :
    Calls Tryd.prog 14 #[.agg #[.int .i64 W, .int .i64 H, .string C], vs, vd] w (Made w (.bool b)) := by
  cases hg : gok W H C with
  | false =>
    obtain rfl := enough_gok HB hg
    exact enough_bad W H C vs vd hC hg w
  | true =>
    cases hA : S.all (freeV W H C) with
    | false =>
      obtain rfl := enough_S HB hA
      exact enough_badS W H C S vs vd hC (by omega) hg hA w hvs
    | true =>
      cases hE : D.all (freeV W H C) with
      | false =>
        obtain rfl := enough_D HB hE
        exact enough_badD W H C S D vs vd hC (by omega) (by omega) hg hA hE w hvs hvd
      | true => exact enough_in W H C S D b vs vd hC hSl hDl HB hg hA hE w hvs hvd hS

end Go.Proofs.YtieipekhckambaaDoor
