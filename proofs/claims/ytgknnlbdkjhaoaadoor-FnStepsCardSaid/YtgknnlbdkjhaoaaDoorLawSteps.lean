/-
  THE LAW FnSteps: distances on a drawn map are symmetric and satisfy the triangle inequality; a shortest way has their length and leads from cell to cell beside it. A tied card: where the listed variable holds what its initialiser laid.
-/
import Derived.Test.YtgknnlbdkjhaoaaDoorDrawSome
import Derived.Test.YtgknnlbdkjhaoaaDoorDrawPlaces
import Derived.Test.YtgknnlbdkjhaoaaDoorArgBytes
import Derived.Test.YtgknnlbdkjhaoaaDoorBesideI
import Derived.Test.YtgknnlbdkjhaoaaDoorWayI
import Derived.Deep.CutRange
import Derived.Deep.DeepCutAuto
import Derived.Test.YtgknnlbdkjhaoaaDoorTailQuick
import Derived.IntWalk
import Derived.Deep.QuietTactic
import Derived.Lib.SmallJoins
import Derived.Test.YtgknnlbdkjhaoaaDoorCards
import Derived.Test.YtgknnlbdkjhaoaaDoorTie
import Derived.SevenTiedAt
namespace Go.Proofs.YtgknnlbdkjhaoaaDoor.fnSteps
open Go.ChangeShapes Go.WideShapes Go.ChangeAt Go.RowKit Go.Joins
open Go.ChangeMaps (open_string shut_string)

theorem bigYes (N g : Nat) (v : Value) (w : World) (hN : N ≤ maxLen) (hc : CodeB w v N g) (h : 1048576 < N) : Calls Tryd.prog 7 #[v] w fun e w' => e = .returned (.bool true) ∧ w = w' := by
  obtain ⟨a, c, rfl, _⟩ := hc
  have hN2 : N ≤ 9223372036854775807 := by unfold maxLen at hN; omega
  have hd : (1048576 : Int) < (N : Int) := by omega
  go_enter Tryd.func7, Tryd.ntmps7
  go_wp2
  go_ret
  exact ⟨rfl, rfl⟩
theorem bigNo (N g : Nat) (v : Value) (w : World) (hc : CodeB w v N g) (h : N ≤ 1048576) : Calls Tryd.prog 7 #[v] w fun e w' => e = .returned (.bool false) ∧ w = w' := by
  obtain ⟨a, c, rfl, _⟩ := hc
  have hd : ¬ (1048576 : Int) < (N : Int) := by omega
  go_enter Tryd.func7, Tryd.ntmps7
  go_wp2
  go_ret
  exact ⟨rfl, rfl⟩

theorem freeL_free {W H : Int} {C : ByteArray} {x : Int} (h : x ∈ freeL W H C) : freeV W H C x = true := by
  unfold freeL picks at h
  obtain ⟨n, hn, rfl⟩ := List.mem_map.1 h
  exact (List.mem_filter.1 hn).2
/-- The place in the list that a drawn number names. -/
theorem at_draw {W H : Int} {C : ByteArray} {L P : List Int} {p : Int} (hL : L = someOf (freeL W H C) P) (hlen : 3 ≤ L.length) (h0 : 0 ≤ p) : ∃ (i n : Nat), p.tmod (L.length : Int) = (i : Int) ∧ i < L.length ∧ L[i]? = some (n : Int) ∧ freeV W H C (n : Int) = true := by
  have hb : 0 ≤ p.tmod (L.length : Int) ∧ p.tmod (L.length : Int) < (L.length : Int) := ⟨Int.tmod_nonneg _ h0, Int.tmod_lt_of_pos _ (by omega)⟩
  obtain ⟨i, hi⟩ : ∃ i : Nat, p.tmod (L.length : Int) = i := ⟨(p.tmod (L.length : Int)).toNat, by omega⟩
  have hil : i < L.length := by omega
  have hall : ∀ y ∈ L, freeV W H C y = true := fun y hy => by
    rw [hL] at hy
    exact freeL_free (List.mem_filter.1 hy).1
  have hf : freeV W H C L[i] = true := hall _ (List.getElem_mem hil)
  obtain ⟨_, n, hn, _⟩ := free_in hf
  refine ⟨i, n, hi, hil, ?_, by rw [← hn]; exact hf⟩
  rw [List.getElem?_eq_getElem hil, hn]

/-- What lies in the law's own memory: the map's box and the way. -/
structure Fs (W H : Int) (C : ByteArray) (G : Nat) (w wx : World) : Prop where
  below : Below w.heap.size w wx
  grid : wx.heap[G]? = some (.cells #[.int .i64 W, .int .i64 H, .string C] 25 (0, 0))
theorem Fs.on {W H : Int} {C : ByteArray} {G : Nat} {w wx wy : World} (h : Fs W H C G w wx) (hb : Below wx.heap.size wx wy) : Fs W H C G w wy :=
  ⟨h.below.trans (hb.mono h.below.size), (hb.block _ (Array.getElem?_eq_some_iff.1 h.grid).1).trans h.grid⟩
theorem Fs.cells {W H : Int} {C : ByteArray} {G : Nat} {w wx : World} (h : Fs W H C G w wx) : wx.cell? ⟨G, 0, none⟩ = some (.int .i64 W) ∧ wx.cell? ⟨G, 1, none⟩ = some (.int .i64 H) ∧ wx.cell? ⟨G, 2, none⟩ = some (.string C) := by
  refine ⟨?_, ?_, ?_⟩ <;> rw [cell_of_row _ _ _ _ _ _ h.grid] <;> rfl

/-- What the law knows of the drawn cells' distances and way. -/
structure Knows (W H : Int) (C : ByteArray) (a b c : Nat) (n x y : Int) (M : List Int) : Prop where
  fa : freeV W H C a = true
  fb : freeV W H C b = true
  fc : freeV W H C c = true
  n : stepsToV W H C a b = n
  x : stepsToV W H C a c = x
  y : stepsToV W H C c b = y
  m : wayL W H C a b = M

theorem ints_cell2 (w : World) (x y : Int) (e : TypeId) : Ints (w.alloc (.cells #[.int .i64 x, .int .i64 y] e)) (.slice (some ⟨w.heap.size, 0, none⟩) 2 2) [x, y] :=
  .inr ⟨w.heap.size, 2, rfl, by simp, fun j z hz => by
    rw [cell_of_row _ _ j _ _ _ (heap_alloc_new w _)]
    match j, hz with
    | 0, hz => exact congrArg some (congrArg (Value.int .i64) (Option.some.inj hz))
    | 1, hz => exact congrArg some (congrArg (Value.int .i64) (Option.some.inj hz))⟩
theorem Knows.way {W H : Int} {C : ByteArray} {a b c : Nat} {n x y : Int} {M : List Int} (h : Knows W H C a b c n x y M) :
    (M.length : Int) = n + 1 ∧ (∀ x : Int, M[0]? = some x → x = a) ∧ (∀ (i : Nat) (x : Int), (i : Int) = n → M[i]? = some x → x = b) ∧ ∀ (i : Nat) (x y : Int), M[i]? = some x → M[i + 1]? = some y → y ∈ aroundL W H C x := by
  have t := wayL_ok h.fa h.fb
  rw [h.m, h.n] at t
  exact t
theorem Knows.back {W H : Int} {C : ByteArray} {a b c : Nat} {n x y : Int} {M : List Int} (h : Knows W H C a b c n x y M) : Hid (stepsToV W H C b a = n) := Lib.hid (by rw [stepsTo_comm]; exact h.n)
theorem steps_bd {W H : Int} {C : ByteArray} (a b : Int) (h : C.size ≤ 64) : -1 ≤ stepsToV W H C a b ∧ stepsToV W H C a b ≤ 64 := by
  refine ⟨?_, by have := stepsTo_le W H C a b; omega⟩
  by_cases hf : freeV W H C a = true ∧ freeV W H C b = true
  · obtain ⟨_, n, rfl, _⟩ := free_in hf.1
    obtain ⟨_, m, rfl, _⟩ := free_in hf.2
    rw [stepsTo_far hf.1 hf.2]
    rcases far_val hf.2 n with e | e <;> omega
  · unfold stepsToV
    rw [if_neg hf]
    omega
theorem Knows.tells {W H : Int} {C : ByteArray} {a b c : Nat} {n x y : Int} {M : List Int} (h : Knows W H C a b c n x y M) (hs : C.size ≤ 64) :
    (-1 ≤ n ∧ n ≤ 64) ∧ (-1 ≤ x ∧ x ≤ 64) ∧ (-1 ≤ y ∧ y ≤ 64) ∧ (0 ≤ x → 0 ≤ y → 0 ≤ n ∧ n ≤ x + y) ∧ (n = 0 ↔ a = b) := by
  have t := steps_tri h.fa h.fb h.fc
  have z := steps_zero h.fa h.fb
  rw [h.n, h.x, h.y] at t
  rw [h.n] at z
  refine ⟨by rw [← h.n]; exact steps_bd _ _ hs, by rw [← h.x]; exact steps_bd _ _ hs, by rw [← h.y]; exact steps_bd _ _ hs, t, z.trans (by omega)⟩

set_option maxRecDepth 100000 in
set_option maxHeartbeats 4000000 in
theorem walk_in (N : Nat) (v : Value) (hN : N ≤ 1048576) (w : World) (hc : CodeB w v N w.heap.size) (hs : SidesAt w) :
    Calls Tryd.prog 3 #[v] w fun e w' => e = .returned (.bool true) ∧ Below w.heap.size w w' := by
  have HSd := Lib.hid hs
  clear hs
  go_enter Tryd.func3, Tryd.ntmps3
  go_wp2_with fail
  refine (bigNo N _ v w hc hN).mono ?_
  rintro e w' ⟨rfl, rfl⟩
  go_wp2_with fail
  refine (drawSome N v (by omega) w hc).mono ?_
  rintro e w1 ⟨a, b, C, L, P, x, rfl, hG, hL, hown, hB⟩
  obtain ⟨hn1, hn64⟩ := gok_size hG
  have hC : C.size ≤ 1048576 := by omega
  have HL := Lib.hid hL
  obtain ⟨av, cv, rfl⟩ := own_form hown
  have hF2 : Fs a b C w1.heap.size w (w1.alloc (.cells #[.int .i64 a, .int .i64 b, .string C] 25)) := ⟨hB.alloc hB.size _, heap_alloc_new w1 _⟩
  have hown2 := hown.alloc (.cells #[.int .i64 a, .int .i64 b, .string C] 25)
  have hcA := (hc.below hF2.below).up hF2.below.size
  have hz2 : w1.heap.size < (w1.alloc (.cells #[.int .i64 a, .int .i64 b, .string C] 25)).heap.size := by simp
  clear hown hB hc hL
  by_cases hlen : L.length < 3
  · have hlen2 : (L.length : Int) < 3 := by omega
    go_wp2_with fail
    go_ret
    exact ⟨rfl, hF2.below⟩
  · have hlen2 : ¬ (L.length : Int) < 3 := by omega
    have hlen3 : 3 ≤ L.length := by omega
    obtain ⟨gl, rfl⟩ : ∃ gl, av = some ⟨gl, 0, none⟩ := by
      rcases hown2.2 with ⟨_, h⟩ | ⟨gl, cap', cur, h, _⟩
      · omega
      · injection h with h1 _ _
        exact ⟨gl, h1⟩
    go_wp2_with fail
    generalize w1.alloc (.cells #[.int .i64 a, .int .i64 b, .string C] 25) = w2 at *
    refine (drawPlaces N v (by omega) w2 hcA).mono ?_
    rintro e w3 ⟨Pl, hPl, hPb, vp, rfl, hownp, hb3⟩
    obtain ⟨gp, cp, rfl⟩ : ∃ gp cp, vp = .slice (some ⟨gp, 0, none⟩) Pl.length cp := by
      rcases hownp.2 with ⟨_, h⟩ | ⟨gp, cap', cur, h, _⟩
      · omega
      · exact ⟨gp, cap', h⟩
    have hownL := own_below hown2 hb3 hF2.below.size
    obtain ⟨p0, hp0⟩ : ∃ x, Pl[0]? = some x := ⟨_, List.getElem?_eq_getElem (by omega)⟩
    obtain ⟨p1, hp1⟩ : ∃ x, Pl[1]? = some x := ⟨_, List.getElem?_eq_getElem (by omega)⟩
    obtain ⟨p2, hp2⟩ : ∃ x, Pl[2]? = some x := ⟨_, List.getElem?_eq_getElem (by omega)⟩
    obtain ⟨i0, n0, e0, hi0, hz0, f0⟩ := at_draw HL.out hlen3 (hPb _ (List.mem_of_getElem? hp0)).1
    obtain ⟨i1, n1, e1, hi1, hz1, f1⟩ := at_draw HL.out hlen3 (hPb _ (List.mem_of_getElem? hp1)).1
    obtain ⟨i2, n2, e2, hi2, hz2', f2⟩ := at_draw HL.out hlen3 (hPb _ (List.mem_of_getElem? hp2)).1
    have q0 := own_int hownp hp0
    have q1 := own_int hownp hp1
    have q2 := own_int hownp hp2
    have r0 := own_int hownL hz0
    have r1 := own_int hownL hz1
    have r2 := own_int hownL hz2'
    have hne : (L.length : Int) ≠ 0 := by omega
    have hi0' : (i0 : Int) < (L.length : Int) := by omega
    have hi1' : (i1 : Int) < (L.length : Int) := by omega
    have hi2' : (i2 : Int) < (L.length : Int) := by omega
    obtain ⟨dn, hdn⟩ : ∃ d, stepsToV a b C n0 n1 = d := ⟨_, rfl⟩
    obtain ⟨dx, hdx⟩ : ∃ d, stepsToV a b C n0 n2 = d := ⟨_, rfl⟩
    obtain ⟨dy, hdy⟩ : ∃ d, stepsToV a b C n2 n1 = d := ⟨_, rfl⟩
    obtain ⟨M, hM⟩ : ∃ M, wayL a b C n0 n1 = M := ⟨_, rfl⟩
    have HK : Hid (Knows a b C n0 n1 n2 dn dx dy M) := Lib.hid ⟨f0, f1, f2, hdn, hdx, hdy, hM⟩
    have hF3 := hF2.on hb3
    obtain ⟨c0, c1, c2⟩ := hF3.cells
    have hPl2 : (Pl.length : Int) = 12 := by omega
    have HPL := Lib.hid hPl
    clear hownp hownL hp0 hp1 hp2 hz0 hz1 hz2 hz2' f0 f1 f2 hPb hown2 hcA hF2 hb3 hdn hdx hdy hM hPl
    go_wp2_with fail
    have hF := hF3
    clear q0 q1 q2 r0 r1 r2 hF3
    refine (implStepsTo a b C n0 n1 dn hC (Lib.hid HK.out.n) _ (HSd.out.below hF.below)).mono ?_
    rintro e w4 ⟨rfl, hb⟩
    replace hF := hF.on hb
    obtain ⟨c0, c1, c2⟩ := hF.cells
    clear hb
    go_wp2_with fail
    refine (implStepsTo a b C n0 n2 dx hC (Lib.hid HK.out.x) _ (HSd.out.below hF.below)).mono ?_
    rintro e w5 ⟨rfl, hb⟩
    replace hF := hF.on hb
    obtain ⟨c0, c1, c2⟩ := hF.cells
    clear hb
    go_wp2_with fail
    refine (implStepsTo a b C n2 n1 dy hC (Lib.hid HK.out.y) _ (HSd.out.below hF.below)).mono ?_
    rintro e w6 ⟨rfl, hb⟩
    replace hF := hF.on hb
    obtain ⟨c0, c1, c2⟩ := hF.cells
    clear hb
    go_wp2_with fail
    refine (implWayTo a b C n0 n1 M hC (Lib.hid HK.out.m) _ (HSd.out.below hF.below)).mono ?_
    rintro e w7 ⟨vw, rfl, hownw, hb⟩
    obtain ⟨aw, cw, rfl⟩ := own_form hownw
    replace hownw := own_base hownw (Nat.zero_le _)
    replace hF := hF.on hb
    obtain ⟨c0, c1, c2⟩ := hF.cells
    clear hb
    have hM2 : (M.length : Int) = dn + 1 := by
      have := (wayL_ok HK.out.fa HK.out.fb).1
      rw [HK.out.m, HK.out.n] at this
      exact this
    go_upto_region 14 with fail
    go_cut [110] from 71 to 110 (fun s wx => s = .bool false ∧ Fs a b C w1.heap.size w wx ∧ wx.ownsRow 0 3 1 (.slice aw M.length cw) M.length (M.map (Value.int .i64)))
    case first =>
      have hN1 := Knows.back HK.out
      obtain ⟨⟨bn1, bn2⟩, ⟨bx1, bx2⟩, ⟨by1, by2⟩, htri, hzero⟩ := Knows.tells HK.out hn64
      have HT := Lib.hid htri
      have HZ := Lib.hid hzero
      have HM := Lib.hid hM2
      have HF := Lib.hid hF
      have HW := Lib.hid hownw
      have hSd := HSd.out.below hF.below
      clear htri hzero hF hownw
      have hab : (((n0 : Int) == (n1 : Int)) = true ∧ (dn == 0) = true) ∨ (((n0 : Int) == (n1 : Int)) = false ∧ (dn == 0) = false) := by
        by_cases h : n0 = n1
        · exact .inl ⟨beq_iff_eq.2 (by omega), beq_iff_eq.2 (HZ.out.2 h)⟩
        · exact .inr ⟨beq_eq_false_iff_ne.2 (by omega), beq_eq_false_iff_ne.2 (fun e => h (HZ.out.1 e))⟩
      by_cases hx : 0 ≤ dx
      · by_cases hy : 0 ≤ dy
        · obtain ⟨h1, h2⟩ := HT.out hx hy
          have h3 : ¬ dx + dy < dn := by omega
          have h4 : ¬ dn < 0 := by omega
          rcases hab with ⟨g1, g2⟩ | ⟨g1, g2⟩
          all_goals
            go_wp2_with (go_at_call 10; refine (implStepsTo a b C n1 n0 dn hC hN1 _ hSd).mono ?_; rintro e w8 ⟨rfl, hb⟩; have HF8 := Lib.hid (HF.out.on hb); have HW8 := Lib.hid (own_below HW.out hb (Nat.zero_le _)); clear hb)
            go_meet
            exact ⟨by simp; omega, HF8.out, HW8.out⟩
        · rcases hab with ⟨g1, g2⟩ | ⟨g1, g2⟩
          all_goals
            go_wp2_with (go_at_call 10; refine (implStepsTo a b C n1 n0 dn hC hN1 _ hSd).mono ?_; rintro e w8 ⟨rfl, hb⟩; have HF8 := Lib.hid (HF.out.on hb); have HW8 := Lib.hid (own_below HW.out hb (Nat.zero_le _)); clear hb)
            go_meet
            exact ⟨rfl, HF8.out, HW8.out⟩
      · rcases hab with ⟨g1, g2⟩ | ⟨g1, g2⟩
        all_goals
          go_wp2_with (go_at_call 10; refine (implStepsTo a b C n1 n0 dn hC hN1 _ hSd).mono ?_; rintro e w8 ⟨rfl, hb⟩; have HF8 := Lib.hid (HF.out.on hb); have HW8 := Lib.hid (own_below HW.out hb (Nat.zero_le _)); clear hb)
          go_meet
          exact ⟨rfl, HF8.out, HW8.out⟩
    case rest =>
      clear hF hownw c0 c1 c2
      obtain ⟨rfl, hF, hownw⟩ := hcut
      have hSd0 := HSd
      go_wp2_with fail
      go_loopw [13] (fun i wx => ∃ k : Nat, k ≤ M.length ∧ i = .int .i64 k ∧ Fs a b C w1.heap.size w wx ∧ wx.ownsRow 0 3 1 (.slice aw M.length cw) M.length (M.map (Value.int .i64))) (fun i _ => M.length - (intOf i).toNat)
      case atStart => exact ⟨0, Nat.zero_le _, rfl, hF, hownw⟩
      case round =>
        clear hF hownw
        obtain ⟨k, hk, rfl, hF, hownw⟩ := hrel
        by_cases hlt : k < M.length
        · obtain ⟨x, hx⟩ : ∃ x, M[k]? = some x := ⟨_, List.getElem?_eq_getElem hlt⟩
          obtain ⟨gw, rfl⟩ : ∃ gw, aw = some ⟨gw, 0, none⟩ := by
            rcases hownw.2 with ⟨_, h⟩ | ⟨gw, cap', cur, h, _⟩
            · omega
            · injection h with h1 _ _
              exact ⟨gw, h1⟩
          obtain ⟨c0, c1, c2⟩ := hF.cells
          have d0 := own_int hownw hx
          obtain ⟨_, way0, way1, way2⟩ := Knows.way HK.out
          have HW := Lib.hid hownw
          have HF := Lib.hid hF
          have hlt2 : (k : Int) < (M.length : Int) := by omega
          have hSd := hSd0.out.below hF.below
          have HLT := Lib.hid hlt
          go_upto_region 19 with fail
          go_cut [157] from 111 to 157 (fun s wx => s = .bool false ∧ Fs a b C w1.heap.size w wx ∧ wx.ownsRow 0 3 1 (.slice (some ⟨gw, 0, none⟩) M.length cw) M.length (M.map (Value.int .i64)))
          case first =>
            rcases Nat.eq_zero_or_pos k with rfl | hpos
            · have hx0 := way0 x hx
              subst hx0
              by_cases hkn : dn = 0
              · have hb1 : ((0 : Int) == dn) = true := beq_iff_eq.2 hkn.symm
                have hb2 : ((n0 : Int) != (n1 : Int)) = false := by rw [way1 0 _ (by omega) hx]; simp
                clear way0 way1 way2 hx hownw hF hkn
                go_quiet (fail)
                go_wp2_with fail
                go_meet
                exact ⟨rfl, HF.out.on (show Below wr.heap.size wr (wr.drewN nq) from below_drewN (Below.refl _ _) nq), (show (wr.drewN nq).ownsRow 0 3 1 (.slice (some ⟨gw, 0, none⟩) M.length cw) M.length (M.map (Value.int .i64)) from HW.out)⟩
              · have hb1 : ((0 : Int) == dn) = false := beq_eq_false_iff_ne.2 (fun e => hkn e.symm)
                clear way0 way1 way2 hx hownw hF hkn
                go_quiet (fail)
                go_wp2_with fail
                go_meet
                exact ⟨rfl, HF.out.on (show Below wr.heap.size wr (wr.drewN nq) from below_drewN (Below.refl _ _) nq), (show (wr.drewN nq).ownsRow 0 3 1 (.slice (some ⟨gw, 0, none⟩) M.length cw) M.length (M.map (Value.int .i64)) from HW.out)⟩
            · obtain ⟨j, rfl⟩ : ∃ j, k = j + 1 := ⟨k - 1, by omega⟩
              obtain ⟨z, hz⟩ : ∃ z, M[j]? = some z := ⟨_, List.getElem?_eq_getElem (by omega)⟩
              have d1 := own_int hownw hz
              have HBs : Hid ((aroundL a b C z).contains x = true) := Lib.hid (List.contains_iff_mem.2 (way2 j z x hz hx))
              have hj0 : (0 : Int) < (j : Int) + 1 := by omega
              have hj1 : (((j : Int) + 1) == 0) = false := beq_eq_false_iff_ne.2 (by omega)
              have hj2 : (j : Int) < (M.length : Int) := by omega
              have hj3 : IntKind.i64.wrap (j : Int) = j := IntWalk.i64_in _ (by have := HK.out; have hm := (Knows.tells HK.out hn64).1.2; omega)
              by_cases hkn : (j : Int) + 1 = dn
              · have hb1 : ((j : Int) + 1 == dn) = true := beq_iff_eq.2 hkn
                have hxn := way1 (j + 1) x (by omega) hx
                subst hxn
                clear way0 way1 way2 hx hz hownw hF hkn
                refine wp_region_still_tail 37 (by kernel_rfl) (by kernel_rfl) ?_
                change wpStill _ _ wr.drew _ _ _
                refine still_of_quiet _ _ ?_
                simp only [List.take_succ_cons, List.take_zero, List.drop_succ_cons, List.drop_zero]
                repeat (go_big_quiet_step (fail))
                refine wpQuiet_nil ?_
                go_wp2_with (go_at_call 12; refine (implBeside a b C z (n1 : Int) true hC HBs _ (hSd.below (Below.refl wr.heap.size wr).drew)).mono ?_; rintro e w8 ⟨rfl, hb⟩; have HF8 := Lib.hid (HF.out.on (show Below wr.heap.size wr w8 from ⟨hb.os, hb.tape, hb.output, hb.size, hb.block⟩)); have HW8 := Lib.hid (own_below (w := wr.drew) HW.out.drew hb (Nat.zero_le _)); clear hb)
                go_meet
                exact ⟨rfl, HF8.out, HW8.out⟩
              · have hb1 : ((j : Int) + 1 == dn) = false := beq_eq_false_iff_ne.2 hkn
                clear way0 way1 way2 hx hz hownw hF hkn
                refine wp_region_still_tail 37 (by kernel_rfl) (by kernel_rfl) ?_
                change wpStill _ _ wr.drew _ _ _
                refine still_of_quiet _ _ ?_
                simp only [List.take_succ_cons, List.take_zero, List.drop_succ_cons, List.drop_zero]
                repeat (go_big_quiet_step (fail))
                refine wpQuiet_nil ?_
                go_wp2_with (go_at_call 12; refine (implBeside a b C z x true hC HBs _ (hSd.below (Below.refl wr.heap.size wr).drew)).mono ?_; rintro e w8 ⟨rfl, hb⟩; have HF8 := Lib.hid (HF.out.on (show Below wr.heap.size wr w8 from ⟨hb.os, hb.tape, hb.output, hb.size, hb.block⟩)); have HW8 := Lib.hid (own_below (w := wr.drew) HW.out.drew hb (Nat.zero_le _)); clear hb)
                go_meet
                exact ⟨rfl, HF8.out, HW8.out⟩
          case rest =>
            clear hF hownw way0 way1 way2 hx d0 c0 c1 c2
            obtain ⟨rfl, hF9, hW9⟩ := hcut
            have hk64 : (k : Int) ≤ 64 := by have hm := (Knows.tells HK.out hn64).1.2; omega
            go_wp2_with fail
            go_roundw
            case rel => exact ⟨k + 1, HLT.out, by go_num, hF9, hW9⟩
            case measure => have h9 := HLT.out; simp [intOf]; omega
        · obtain rfl : k = M.length := by omega
          obtain ⟨c0, c1, c2⟩ := hF.cells
          obtain ⟨F, HFr⟩ : ∃ F, Hid (stepsL a b C [(n0 : Int), (n2 : Int)] = F) := ⟨_, rfl⟩
          have hI := ints_cell2 wr n0 n2 3
          have hz9 := hF.below.size
          have hF9 := hF.on ((Below.refl wr.heap.size wr).alloc (Nat.le_refl _) (.cells #[.int .i64 n0, .int .i64 n2] 3))
          have hSd := HSd.out.below hF9.below
          clear hownw hF
          go_wp2_with fail
          refine (implSteps a b C [(n0 : Int), (n2 : Int)] F _ hC (by simp) HFr _ hI hSd).mono ?_
          rintro e w9 ⟨vf, rfl, hownf, hb⟩
          replace hF9 := hF9.on hb
          obtain ⟨c0, c1, c2⟩ := hF9.cells
          have hFe : F = rowO (runB (nbN a b C) C.size (srcN [(n0 : Int), (n2 : Int)]) C.size) C.size := by
            rw [← HFr.out]
            exact if_pos ⟨hG, fun t ht => by
              rcases List.mem_cons.1 ht with rfl | ht
              · exact HK.out.fa
              · rw [List.mem_singleton.1 ht]; exact HK.out.fc⟩
          rw [hFe, rowO_len] at hownf
          obtain ⟨gf, cf, rfl⟩ := ownsRow_pos hn1 hownf
          have hn1s : n1 < C.size := by
            obtain ⟨_, t, e, ht⟩ := free_in HK.out.fb
            omega
          have d1 := own_num hownf hn1s
          rw [two_far HK.out.fa HK.out.fb HK.out.fc, HK.out.n, HK.out.y] at d1
          have hn1i : (n1 : Int) < (C.size : Int) := by omega
          clear hFe hownf hI hb hSd
          by_cases hy : 0 ≤ dy
          · by_cases hn : dn < 0
            · rw [show lesser dn dy = dy from if_pos ⟨hy, .inl hn⟩] at d1
              go_wp2_with fail
              go_ret
              exact ⟨by simp, hF9.below⟩
            · by_cases hyn : dy < dn
              · rw [show lesser dn dy = dy from if_pos ⟨hy, .inr hyn⟩] at d1
                go_wp2_with fail
                go_ret
                exact ⟨by simp, hF9.below⟩
              · rw [show lesser dn dy = dn from if_neg (fun h => h.2.elim hn hyn)] at d1
                go_wp2_with fail
                go_ret
                exact ⟨by simp, hF9.below⟩
          · rw [show lesser dn dy = dn from if_neg (fun h => hy h.1)] at d1
            go_wp2_with fail
            go_ret
            exact ⟨by simp, hF9.below⟩

set_option maxRecDepth 100000 in
theorem walk_big (N : Nat) (v : Value) (hN : N ≤ maxLen) (w : World) (hc : CodeB w v N w.heap.size) (h : 1048576 < N) :
    Calls Tryd.prog 3 #[v] w fun e w' => e = .returned (.bool true) ∧ Below w.heap.size w w' := by
  go_enter Tryd.func3, Tryd.ntmps3
  go_wp2_with fail
  refine (bigYes N _ v w hN hc h).mono ?_
  rintro e w' ⟨rfl, rfl⟩
  go_wp2_with fail
  go_ret
  exact ⟨rfl, Below.refl _ _⟩

theorem walkL (v : Value) (N : Nat) (w : World) (hc : CodeB w v N w.heap.size) (hN : N ≤ maxLen) (hl : laidMetH Tryd.prog Rows.fnStepsRow.laid w) :
    Calls Tryd.prog 3 #[v] w fun e w' => e = .returned (.bool true) ∧ Below w.heap.size w w' := by
  rcases Nat.lt_or_ge 1048576 N with h | h
  · exact walk_big N v hN w hc h
  · exact walk_in N v h w hc (sides_of_laid hl)
-- LIFT
set_option maxRecDepth 100000 in
theorem lifted (os : Os) (started : os.Started) (H : Type) (enc : TypeId × Value → H) :
    ReturnsInHanded {} Tryd.checked os 3 .any (fun w args => (Rows.fnStepsSpec.pre enc Tryd.prog Tryd.f3 [] false w args ∧ laidMetH Tryd.prog Rows.fnStepsRow.laid w) ∧ sizedMet enc Tryd.prog Tryd.f3 (OpenSpec.ofChange Rows.fnStepsSpec) false w args)
      (Rows.fnStepsSpec.post enc Tryd.prog Tryd.f3 false true false false) := by
  refine returnsInHanded_of_change_and (C := Tryd.checked) (X := fun w _ => laidMetH Tryd.prog Rows.fnStepsRow.laid w) (fun _ _ _ hh h => h.of_heap hh) own started (by kernel_rfl) Tryd.func3
    (ChangeSpec.witness_shaped (enc := enc) (C := Tryd.checked) (os := os) (X := fun w _ => laidMetH Tryd.prog Rows.fnStepsRow.laid w) false (World.doorLaid Tryd.prog 400 os) #[.slice none 0 0] 8 rfl (World.shaped_of_RefB (by kernel_rfl) (by kernel_rfl)) (by kernel_rfl) (by kernel_rfl) (by kernel_rfl) (sides_met os _)) ?_
  intro W base args ds gs before hval0 hW _ hsz0 hL _
  have hsz : (DataW.weightsEach Tryd.prog (Tryd.f3.params.toList ++ Rows.fnStepsSpec.plain.varTypes Tryd.prog) (ds ++ gs)).all (· ≤ reachBytes) = true := hsz0
  clear hsz0
  have hval : ∀ (j : Nat) t v, Tryd.f3.params[j]? = some t → args[j]? = some v → Value.okWide Tryd.prog W .any base t v := hval0
  have hW' := hW
  obtain ⟨p, q, hA0, hV, rfl, hfz, hnd⟩ := hW
  have hA : DataW.TrodAll enc Tryd.prog W 0 (fun _ => true) true Tryd.f3.params.toList args.toList ds p := hA0
  rw [Tryd.params3] at hA hval hsz
  obtain ⟨v0, vs0, d0, ds0, p0, q0, hargs, rfl, rfl, h0, r0⟩ := trodAll_cons hA
  obtain ⟨rfl, rfl, rfl⟩ := trodAll_nil r0
  obtain rfl : args = #[v0] := by cases args; simp_all
  have hs0 := sides_of_laid hL
  obtain ⟨rfl, _⟩ := sides_vars hs0 hs0 hV
  obtain ⟨L0, w0, l0, again0⟩ := open_arg_bytes (hval 0 22 v0 rfl rfl) h0
  clear hA0 hval0 hsz
  simp only [List.append_nil] at hW'
  refine (walkL v0 L0 W w0 l0 hL).mono fun e W' ⟨he, hg⟩ => ?_
  subst he
  obtain ⟨_, hvs⟩ := sides_vars hs0 (hs0.below hg) hV
  exact ⟨_, rfl, post_of_below (pa := p0 ++ ([])) (pv := q) hW' (fun _ _ _ => (trodAll_cons_mk (shut_bool Tryd.underlying4 _) trodAll_mk0)) (fun sp hsp => (trodAll_cons_mk (again0 W' hg sp (fun p hp => hsp p (by simp [hp]))) trodAll_mk0)) (fun sp _ => hvs sp) (by simp)
    hg (ok_one (by kernel_rfl) rfl (okWide_bool_mk Tryd.underlying4 _))⟩

theorem said : Rows.FnStepsSaid :=
  OpenClaim.holds_of_wide 3 Tryd.f3 rfl rfl rfl rfl rfl rfl rfl ⟨rfl, rfl, rfl, rfl, rfl⟩ rfl rfl rfl rfl rfl (by kernel_rfl) Tryd.func3 (by kernel_rfl)
    (of_decide_eq_true (by kernel_rfl)) (by unfold Func.isWrapper; first | (rw [if_pos (by decide +kernel)]; kernel_rfl) | (rw [if_neg (by decide +kernel)]; exact ⟨rfl, rfl⟩))
    (fun os started H enc _ => lifted os started H enc)

theorem plain (f : FuncId) (fn : Func) (hf : Tryd.pinned.checked.prog.funcNamed "loop.example/g00961/laws.FnSteps" = some f) (hfn : Tryd.pinned.checked.prog.funcs[f]? = some fn) :
    Rows.fnStepsCard.stood.looks = Tryd.pinned.checked.prog.looks [] ∧ ∀ (j : Nat) t, fn.params[j]? = some t → Tryd.pinned.checked.prog.wantsStandIn t = false := by
  obtain rfl : f = 3 := Option.some.inj ((show Tryd.prog.funcNamed "loop.example/g00961/laws.FnSteps" = some 3 by kernel_rfl).symm.trans hf) |>.symm
  obtain rfl : fn = Tryd.f3 := (Option.some.inj (Tryd.func3.symm.trans hfn)).symm
  refine ⟨by kernel_rfl, fun j t ht => ?_⟩
  rw [Tryd.params3] at ht
  have hm : t ∈ [22] := by simpa using Array.mem_of_getElem? ht
  have hall : ([22].all fun u => !Tryd.prog.wantsStandIn u) = true := by kernel_rfl
  exact (show Tryd.prog.wantsStandIn t = false by simpa using List.all_eq_true.1 hall t hm)

theorem proved : Rows.FnStepsCardSaid :=
  Claim7.holds_tied_plain_at .later [] _ _ _ _ said (fun _ h => by cases h) (by kernel_rfl) (fun _ h => by cases h) fnSteps_row_tie rfl ⟨rfl, rfl⟩ (by kernel_rfl) rfl plain (by kernel_rfl)

end Go.Proofs.YtgknnlbdkjhaoaaDoor.fnSteps
