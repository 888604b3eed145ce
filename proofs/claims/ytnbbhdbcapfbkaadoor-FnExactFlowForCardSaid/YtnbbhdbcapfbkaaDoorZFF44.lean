/-
  THE LAW FnExactFlowFor: at every grid, starts, goals, span and ways the program's FlowFor answers as its model, leaves its arguments alone, and its answer owns its memory. No condition.
-/
import Derived.Test.YtnbbhdbcapfbkaaDoorZFF00
import Derived.Test.YtnbbhdbcapfbkaaDoorZFF01
import Derived.Test.YtnbbhdbcapfbkaaDoorZFF02
import Derived.Test.YtnbbhdbcapfbkaaDoorZFF03
import Derived.Test.YtnbbhdbcapfbkaaDoorZFF43
import Derived.Test.YtnbbhdbcapfbkaaDoorZFF10
import Derived.Lib.SmallJoins
import Derived.Test.YtnbbhdbcapfbkaaDoorCards
import Derived.Test.YtnbbhdbcapfbkaaDoorTie
import Derived.SevenTiedAt
namespace Go.Proofs.YtnbbhdbcapfbkaaDoor.fnExactFlowFor
set_option maxRecDepth 4096
open Go.ChangeShapes Go.WideShapes Go.ChangeAt Go.RowKit Go.Joins

theorem flux_few {W H : Int} {C : ByteArray} {S G : List Int} {T : Int} {Ws : List (List Int)} : (fluxL W H C S G T Ws).length ≤ 3200 := by
  unfold fluxL
  split
  · rw [unitsL_len]
    exact timeAV_len
  · exact Nat.zero_le _
theorem mark1 (v : Value) (B n : Nat) (xs : List Value) (w : World) (hown : w.ownsRow B 3 1 v n xs) (hn : n ≤ 2000000) :
    Calls Tryd.prog 13 #[v, .int .i64 1] w (MarkedI w B 3 v 1 n) := markInts v B 1 n xs w hown (by omega)
theorem held1 (v : Value) (n : Nat) (w : World) (h : Ints w v (nums 1 n)) (hn : n ≤ 2000000) :
    Calls Tryd.prog 15 #[v, .int .i64 1] w (Made w (.int .i64 ((1 + n : Nat) : Int))) :=
  heldInts v 1 n w h (by omega)
theorem own_nums {w : World} {B : Nat} {T : TypeId} {v : Value} {n : Nat} (h : w.ownsRow B T 1 v n ((nums 1 n).map (Value.int .i64))) : w.ownsRow B T 1 v (nums 1 n).length ((nums 1 n).map (Value.int .i64)) := by
  rw [length_nums]
  exact h

set_option maxHeartbeats 8000000 in
theorem walkM (W H : Int) (C : ByteArray) (v : Value) (S : List Int) (u : Value) (G : List Int) (T : Int) (x : Value) (Ws : List (List Int)) (w : World) (hv : ArgI w v S) (hu : ArgI w u G) (hx : ArgW w x Ws) (hSd : SidesAt w) (h : C.size ≤ 1048576) (hl : S.length ≤ 1048576) (hm : G.length ≤ 1048576) (hz : C.size + (Ws.length + totW Ws) ≤ 1048576) (hL : ∀ L ∈ Ws, L.length ≤ 2000000) :
    Calls Tryd.prog 3 #[.agg #[.int .i64 W, .int .i64 H, .string C], v, u, .int .i64 T, x] w fun e w' => e = .returned (.bool true) ∧ Below w.heap.size w w' := by
  have hl0 : ¬ (1048576 : Int) < (S.length : Int) := by omega
  have hm0 : ¬ (1048576 : Int) < (G.length : Int) := by omega
  have h0 : ¬ (1048576 - (C.size : Int)) < 0 := by omega
  have HZ : Hid (szV Ws (1048576 - (C.size : Int)) = 1048576 - (C.size : Int) - ((Ws.length + totW Ws : Nat) : Int)) := Lib.hid (by unfold szV; rw [if_pos (by omega)])
  have h1 : ¬ (1048576 - (C.size : Int) - ((Ws.length + totW Ws : Nat) : Int)) < 0 := by omega
  obtain ⟨b, HB⟩ : ∃ b, Hid (fluxB W H C S G T Ws = b) := ⟨_, rfl⟩
  obtain ⟨R, HR⟩ : ∃ R, Hid (fluxL W H C S G T Ws = R) := ⟨_, rfl⟩
  have hRf : R.length ≤ 3200 := by rw [← HR.out]; exact flux_few
  have hbb : (b != b) = false := by simp
  have HS := Lib.hid hv
  have HG := Lib.hid hu
  have HW := Lib.hid hx
  have HSd := Lib.hid hSd
  have HLL := Lib.hid hL
  have hW2 : Ws.length ≤ 2000000 := by omega
  have hT2 : totW Ws ≤ 2000000 := by omega
  obtain ⟨av, cv, rfl, _⟩ := hv
  obtain ⟨au, cu, rfl, _⟩ := hu
  obtain ⟨ax, cx, rfl, _⟩ := hx
  obtain ⟨z, hz2⟩ : ∃ z : Int, 1048576 - (C.size : Int) - ((Ws.length + totW Ws : Nat) : Int) = z := ⟨_, rfl⟩
  rw [hz2] at HZ h1
  have hL9 : ∀ L ∈ Ws, L.length ≤ 9223372036854775807 := fun L hL' => Nat.le_trans (hL L hL') (by omega)
  have HSZ : Hid (∀ wr, Below w.heap.size w wr → Calls Tryd.prog 5 #[.slice ax Ws.length cx, .int .i64 (1048576 - (C.size : Int))] wr (Made wr (.int .i64 z))) := Lib.hid fun wr hb => by
    have := szWays (.slice ax Ws.length cx) Ws (1048576 - (C.size : Int)) (by omega) (by omega) (by omega) hL9 wr (argW_below HW.out hb)
    rwa [HZ.out] at this
  have hB := LSt.start w (.cells #[.int .i64 W, .int .i64 H, .string C] 23)
  obtain ⟨c0, c1, c2⟩ := box_cells hB.below
  clear hSd hL hz hz2 hL9 HZ
  go_enter Tryd.func3, Tryd.ntmps3
  go_wp2_with fail
  refine (szGrid_yes W H C h _).mono ?_
  rintro e w1 ⟨rfl, hb⟩
  replace hB := hB.on hb
  clear hb c0 c1 c2
  go_wp2_with fail
  refine (HSZ.out _ hB.base).mono ?_
  rintro e w1b ⟨rfl, hb⟩
  replace hB := hB.on hb
  clear hb HSZ
  obtain ⟨c0, c1, c2⟩ := box_cells hB.below
  go_wp2_with fail
  refine (toGrid W H C _).mono ?_
  rintro e w2 ⟨rfl, hb⟩
  replace hB := hB.on hb
  clear hb c0 c1 c2
  go_wp2_with fail
  refine (toInts _ S _ (argI_below HS.out hB.base) (by omega)).mono ?_
  rintro e w3 ⟨s1, rfl, hown, hb⟩
  replace hB := hB.on hb
  have HI3 := Lib.hid (ints_of_own hown)
  clear hb hown
  go_wp2_with fail
  refine (toInts _ G _ (argI_below HG.out hB.base) (by omega)).mono ?_
  rintro e w4 ⟨g1, rfl, hown, hb⟩
  replace hB := hB.on hb
  have HI4 := Lib.hid (ints_on HI3.out hb)
  have HJ4 := Lib.hid (ints_of_own hown)
  clear hb hown HI3
  go_wp2_with fail
  refine (toWays _ Ws _ (argW_below HW.out hB.base) hW2 HLL.out).mono ?_
  rintro e w4b ⟨x1, rfl, how, hb⟩
  replace hB := hB.on hb
  have HI5 := Lib.hid (ints_on HI4.out hb)
  have HJ5 := Lib.hid (ints_on HJ4.out hb)
  obtain ⟨ax1, cx1, rfl⟩ := how.form
  clear hb HI4 HJ4
  go_wp2_with fail
  refine (specFlux W H C S G T Ws s1 g1 _ R b h (by omega) (by omega) hT2 hW2 HB HR _ HI5.out HJ5.out how.at).mono ?_
  rintro e w5 ⟨v0, rfl, hown, hb⟩
  obtain ⟨a0, k0, rfl⟩ := own_form hown
  have s5 := hb.size
  have s4 := hB.below.size
  replace hB := hB.call hown hb
  clear hb hown how HI5 HJ5
  go_wp2_with fail
  refine (toInts _ S _ (argI_below HS.out hB.base) (by omega)).mono ?_
  rintro e w6 ⟨s2, rfl, hown, hb⟩
  have s6 := hb.size
  replace hB := hB.call hown hb
  clear hb hown
  go_wp2_with fail
  refine (toInts _ G _ (argI_below HG.out hB.base) (by omega)).mono ?_
  rintro e w7 ⟨g2, rfl, hown, hb⟩
  have s7 := hb.size
  replace hB := hB.call hown hb
  clear hb hown
  go_wp2_with fail
  refine (toWays _ Ws _ (argW_below HW.out hB.base) hW2 HLL.out).mono ?_
  rintro e w7b ⟨x4, rfl, how4, hb⟩
  have s7b := hb.size
  replace hB := hB.on hb
  obtain ⟨ax4, cx4, rfl⟩ := how4.form
  clear hb
  obtain ⟨c0, c1, c2⟩ := box_cells hB.below
  go_wp2_with fail
  refine (toGrid W H C _).mono ?_
  rintro e w8 ⟨rfl, hb⟩
  have s8 := hb.size
  replace hB := hB.on hb
  replace how4 := how4.on hb
  clear hb c0 c1 c2
  go_wp2_with fail
  have rs := (hB.rows ⟨w5.heap.size, w6.heap.size, 3, 1, s2, S.length, S.map (Value.int .i64)⟩ (by simp)).own
  have rg := (hB.rows ⟨w6.heap.size, w7.heap.size, 3, 1, g2, G.length, G.map (Value.int .i64)⟩ (by simp)).own
  refine (implFlux W H C S G T Ws s2 g2 _ R b h (by omega) (by omega) hT2 HB HR _ (ints_of_own rs) (ints_of_own rg) how4.at (HSd.out.below hB.base)).mono ?_
  rintro e w9 ⟨v1, rfl, hown, hb⟩
  obtain ⟨a1, k1, rfl⟩ := own_form hown
  have s9 := hb.size
  replace hB := hB.call hown hb
  replace how4 := how4.on hb
  clear hb hown rs rg
  go_wp2_with fail
  have ra := (hB.rows ⟨w8.heap.size, w9.heap.size, 3, 1, .slice a1 R.length k1, R.length, R.map (Value.int .i64)⟩ (by simp)).own
  have rb := (hB.rows ⟨w4b.heap.size, w5.heap.size, 3, 1, .slice a0 R.length k0, R.length, R.map (Value.int .i64)⟩ (by simp)).own
  refine (eqInts _ _ R _ (ints_of_own ra) (ints_of_own rb) (by omega)).mono ?_
  rintro e wa ⟨rfl, n1, rfl⟩
  replace hB := hB.drewN n1
  replace how4 := how4.drewN n1
  clear ra rb
  generalize w9.drewN n1 = wa at *
  go_wp2_with fail
  refine (toInts _ S _ (argI_below HS.out hB.base) (by omega)).mono ?_
  rintro e wb ⟨q3, rfl, hown3, hb⟩
  replace hB := hB.on hb
  replace how4 := how4.on hb
  clear hb
  have rs := (hB.rows ⟨w5.heap.size, w6.heap.size, 3, 1, s2, S.length, S.map (Value.int .i64)⟩ (by simp)).own
  go_wp2_with fail
  refine (eqInts _ _ S _ (ints_of_own rs) (ints_of_own hown3) (by omega)).mono ?_
  rintro e wc ⟨rfl, n2, rfl⟩
  replace hB := hB.drewN n2
  replace how4 := how4.drewN n2
  clear rs hown3
  generalize wb.drewN n2 = wc at *
  go_wp2_with fail
  refine (toInts _ G _ (argI_below HG.out hB.base) (by omega)).mono ?_
  rintro e wd ⟨q3, rfl, hown3, hb⟩
  replace hB := hB.on hb
  replace how4 := how4.on hb
  clear hb
  have rs := (hB.rows ⟨w6.heap.size, w7.heap.size, 3, 1, g2, G.length, G.map (Value.int .i64)⟩ (by simp)).own
  go_wp2_with fail
  refine (eqInts _ _ G _ (ints_of_own rs) (ints_of_own hown3) (by omega)).mono ?_
  rintro e we ⟨rfl, n3, rfl⟩
  replace hB := hB.drewN n3
  replace how4 := how4.drewN n3
  clear rs hown3
  generalize wd.drewN n3 = we at *
  go_wp2_with fail
  refine (toWays _ Ws _ (argW_below HW.out hB.base) hW2 HLL.out).mono ?_
  rintro e wf ⟨x5, rfl, how5, hb⟩
  replace hB := hB.on hb
  replace how4 := how4.on hb
  obtain ⟨ax5, cx5, rfl⟩ := how5.form
  clear hb
  go_wp2_with fail
  refine (eqWays _ _ Ws _ how4.at how5.at hW2 HLL.out).mono ?_
  rintro e wg ⟨rfl, hb⟩
  replace hB := hB.on hb
  replace how4 := how4.on hb
  clear hb how5
  replace hB := hB.front 2 ⟨w5.heap.size, w6.heap.size, 3, 1, s2, S.length, S.map (Value.int .i64)⟩ rfl
  have rs := (hB.rows _ (List.mem_cons_self ..)).own
  have hwm := hB.rows _ (List.mem_cons_self ..)
  go_wp2_with fail
  refine (mark1 s2 _ S.length _ _ rs (by omega)).mono ?_
  rintro e wh ⟨rfl, hm, hg⟩
  have hwi := within_mark hwm hg
  replace how4 := hwi.ways how4 (by dsimp only; omega)
  replace hB := hB.mark hm hg (fun q hq => by simp at hq; rcases hq with rfl | rfl | rfl <;> simp <;> omega) (fun p hp => by simp at hp) (by show _ ≤ w5.heap.size; omega)
  clear rs hm hg hwi hwm
  replace hB := hB.front 2 ⟨w6.heap.size, w7.heap.size, 3, 1, g2, G.length, G.map (Value.int .i64)⟩ rfl
  have rs := (hB.rows _ (List.mem_cons_self ..)).own
  have hwm := hB.rows _ (List.mem_cons_self ..)
  go_wp2_with fail
  refine (markInts g2 _ (1 + S.length) G.length _ _ rs (by omega)).mono ?_
  rintro e wi ⟨rfl, hm, hg⟩
  have hwi := within_mark hwm hg
  replace how4 := hwi.ways how4 (by dsimp only; omega)
  replace hB := hB.mark hm hg (fun q hq => by simp at hq; rcases hq with rfl | rfl | rfl <;> simp <;> omega) (fun p hp => by simp at hp) (by show _ ≤ w6.heap.size; omega)
  clear rs hm hg hwi hwm
  have hle4 := how4.le
  go_wp2_with fail
  refine (markWays _ _ _ (1 + S.length + G.length) Ws _ how4 hW2 (by omega)).mono ?_
  rintro e wj ⟨rfl, hom, hwi⟩
  replace hB := hB.within hwi (by omega) (by omega) (fun q hq => by simp at hq; rcases hq with rfl | rfl | rfl | rfl <;> simp <;> omega) (fun p hp => by simp at hp)
  clear hwi hle4 how4 hom
  have hk0 : ¬ (((1 + S.length + G.length + totW Ws : Nat) : Int)) < 0 := by omega
  go_wp2_with fail
  have ra := (hB.rows ⟨w8.heap.size, w9.heap.size, 3, 1, .slice a1 R.length k1, R.length, R.map (Value.int .i64)⟩ (by simp)).own
  have rb := (hB.rows ⟨w4b.heap.size, w5.heap.size, 3, 1, .slice a0 R.length k0, R.length, R.map (Value.int .i64)⟩ (by simp)).own
  refine (eqInts _ _ R _ (ints_of_own ra) (ints_of_own rb) (by omega)).mono ?_
  rintro e wk ⟨rfl, n4, rfl⟩
  replace hB := hB.drewN n4
  clear ra rb
  generalize wj.drewN n4 = wk at *
  replace hB := hB.front 2 ⟨w8.heap.size, w9.heap.size, 3, 1, .slice a1 R.length k1, R.length, R.map (Value.int .i64)⟩ rfl
  have rs := (hB.rows _ (List.mem_cons_self ..)).own
  go_wp2_with fail
  refine (mark1 _ _ R.length _ _ rs (by omega)).mono ?_
  rintro e wl ⟨rfl, hm, hg⟩
  replace hB := hB.mark hm hg (fun q hq => by simp at hq; rcases hq with rfl | rfl | rfl <;> simp <;> omega) (fun p hp => by simp at hp) (by show _ ≤ w8.heap.size; omega)
  clear rs hm hg
  have hk1 : ¬ (((1 + R.length : Nat) : Int)) < 0 := by omega
  have hk2 : ((((1 + R.length : Nat) : Int)) != (((1 + R.length : Nat) : Int))) = false := by simp
  have rs := (hB.rows _ (List.mem_cons_self ..)).own
  go_wp2_with fail
  refine (held1 _ R.length _ (ints_of_own (own_nums rs)) (by omega)).mono ?_
  rintro e wm ⟨rfl, hb⟩
  replace hB := hB.on hb
  clear hb rs
  obtain ⟨c0, c1, c2⟩ := box_cells hB.below
  go_wp2_with fail
  refine (toGrid W H C _).mono ?_
  rintro e wn ⟨rfl, hb⟩
  replace hB := hB.on hb
  clear hb c0 c1 c2
  go_wp2_with fail
  refine (toInts _ S _ (argI_below HS.out hB.base) (by omega)).mono ?_
  rintro e wo ⟨s5', rfl, hown, hb⟩
  replace hB := hB.on hb
  have HI3 := Lib.hid (ints_of_own hown)
  clear hb hown
  go_wp2_with fail
  refine (toInts _ G _ (argI_below HG.out hB.base) (by omega)).mono ?_
  rintro e wp ⟨g5', rfl, hown, hb⟩
  replace hB := hB.on hb
  have HI4 := Lib.hid (ints_on HI3.out hb)
  have HJ4 := Lib.hid (ints_of_own hown)
  clear hb hown HI3
  go_wp2_with fail
  refine (toWays _ Ws _ (argW_below HW.out hB.base) hW2 HLL.out).mono ?_
  rintro e wq ⟨x6, rfl, how, hb⟩
  replace hB := hB.on hb
  have HI5 := Lib.hid (ints_on HI4.out hb)
  have HJ5 := Lib.hid (ints_on HJ4.out hb)
  obtain ⟨ax6, cx6, rfl⟩ := how.form
  clear hb HI4 HJ4
  go_wp2_with fail
  refine (implFlux W H C S G T Ws s5' g5' _ R b h (by omega) (by omega) hT2 HB HR _ HI5.out HJ5.out how.at (HSd.out.below hB.base)).mono ?_
  rintro e wr ⟨v2, rfl, hown, hb⟩
  obtain ⟨a2, k2, rfl⟩ := own_form hown
  replace hB := hB.on hb
  have HK := Lib.hid (ints_of_own hown)
  clear hb hown how HI5 HJ5
  go_wp2_with fail
  have rb := (hB.rows ⟨w4b.heap.size, w5.heap.size, 3, 1, .slice a0 R.length k0, R.length, R.map (Value.int .i64)⟩ (by simp)).own
  refine (eqInts _ _ R _ HK.out (ints_of_own rb) (by omega)).mono ?_
  rintro e ws ⟨rfl, n5, rfl⟩
  replace hB := hB.drewN n5
  clear rb HK
  generalize wr.drewN n5 = ws at *
  have rs := (hB.rows _ (List.mem_cons_self ..)).own
  go_wp2_with fail
  refine (held1 _ R.length _ (ints_of_own (own_nums rs)) (by omega)).mono ?_
  rintro e wt ⟨rfl, hb⟩
  have HE := Lib.hid (hB.on hb).base
  clear hb rs hB
  go_wp2_with fail
  go_ret
  exact ⟨rfl, HE.out⟩

set_option maxHeartbeats 2000000 in
theorem walk (W H : Int) (C : ByteArray) (v : Value) (S : List Int) (u : Value) (G : List Int) (T : Int) (x : Value) (Ws : List (List Int)) (hC : C.size ≤ maxLen) (w : World) (hv : ArgI w v S) (_hS : S.length ≤ maxLen) (hu : ArgI w u G) (hG : G.length ≤ maxLen) (hx : ArgW w x Ws) (hl : Ws.length ≤ maxLen ∧ ∀ L ∈ Ws, L.length ≤ maxLen) (hSd : SidesAt w) :
    Calls Tryd.prog 3 #[.agg #[.int .i64 W, .int .i64 H, .string C], v, u, .int .i64 T, x] w fun e w' => e = .returned (.bool true) ∧ Below w.heap.size w w' := by
  have hmx : maxLen ≤ 9223372036854775807 := by unfold maxLen; omega
  by_cases hs1 : S.length ≤ 1048576
  · by_cases hg1 : G.length ≤ 1048576
    · by_cases hc1 : C.size ≤ 1048576
      · by_cases hz : C.size + (Ws.length + totW Ws) ≤ 1048576
        · exact walkM W H C v S u G T x Ws w hv hu hx hSd hc1 hs1 hg1 hz fun L hL => by
            obtain ⟨i, hi, rfl⟩ := List.getElem_of_mem hL
            have := totW_one (List.getElem?_eq_getElem hi)
            omega
        · have e : szV Ws (1048576 - (C.size : Int)) = -1 := by unfold szV; rw [if_neg (by omega)]
          have hl0 : ¬ (1048576 : Int) < (S.length : Int) := by omega
          have hm0 : ¬ (1048576 : Int) < (G.length : Int) := by omega
          have h0 : ¬ (1048576 - (C.size : Int)) < 0 := by omega
          have HSZ : Hid (∀ wr, Below w.heap.size w wr → Calls Tryd.prog 5 #[x, .int .i64 (1048576 - (C.size : Int))] wr (Made wr (.int .i64 (-1)))) := Lib.hid fun wr hb => by
            have := szWays x Ws (1048576 - (C.size : Int)) (by omega) (by omega) (Nat.le_trans hl.1 hmx) (fun L hL => Nat.le_trans (hl.2 L hL) hmx) wr (argW_below hx hb)
            rwa [e] at this
          obtain ⟨av, cv, rfl, _⟩ := hv
          obtain ⟨au, cu, rfl, _⟩ := hu
          obtain ⟨ax, cx, rfl, _⟩ := hx
          have hB := LSt.start w (.cells #[.int .i64 W, .int .i64 H, .string C] 23)
          obtain ⟨c0, c1, c2⟩ := box_cells hB.below
          clear hl e
          go_enter Tryd.func3, Tryd.ntmps3
          go_wp2_with fail
          refine (szGrid_yes W H C hc1 _).mono ?_
          rintro e w1 ⟨rfl, hb⟩
          replace hB := hB.on hb
          clear hb c0 c1 c2
          go_wp2_with fail
          refine (HSZ.out _ hB.base).mono ?_
          rintro e w2 ⟨rfl, hb⟩
          replace hB := hB.on hb
          clear hb
          go_wp2_with fail
          go_ret
          exact ⟨rfl, hB.base⟩
      · have hl0 : ¬ (1048576 : Int) < (S.length : Int) := by omega
        have hm0 : ¬ (1048576 : Int) < (G.length : Int) := by omega
        obtain ⟨av, cv, rfl, _⟩ := hv
        obtain ⟨au, cu, rfl, _⟩ := hu
        have hB := LSt.start w (.cells #[.int .i64 W, .int .i64 H, .string C] 23)
        obtain ⟨c0, c1, c2⟩ := box_cells hB.below
        go_enter Tryd.func3, Tryd.ntmps3
        go_wp2_with fail
        refine (szGrid_no W H C (Nat.le_trans hC hmx) hc1 _).mono ?_
        rintro e w1 ⟨rfl, hb⟩
        replace hB := hB.on hb
        clear hb
        go_wp2_with fail
        go_ret
        exact ⟨rfl, hB.base⟩
    · have hl0 : ¬ (1048576 : Int) < (S.length : Int) := by omega
      have hm0 : (1048576 : Int) < (G.length : Int) := by omega
      have hm9 : (G.length : Int) ≤ 9223372036854775807 := by omega
      obtain ⟨av, cv, rfl, _⟩ := hv
      obtain ⟨au, cu, rfl, _⟩ := hu
      go_enter Tryd.func3, Tryd.ntmps3
      go_wp2_with fail
      go_ret
      exact ⟨rfl, (Below.refl _ _).alloc (Nat.le_refl _) _⟩
  · have hl0 : (1048576 : Int) < (S.length : Int) := by omega
    obtain ⟨av, cv, rfl, _⟩ := hv
    go_enter Tryd.func3, Tryd.ntmps3
    go_wp2_with fail
    go_ret
    exact ⟨rfl, (Below.refl _ _).alloc (Nat.le_refl _) _⟩
theorem walkL (W H : Int) (C : ByteArray) (v : Value) (S : List Int) (u : Value) (G : List Int) (T : Int) (x : Value) (Ws : List (List Int)) (_w0 : (Lit.int .i64 W).wf = true) (_w1 : (Lit.int .i64 H).wf = true) (hC : C.size ≤ maxLen) (_w3 : (Lit.int .i64 T).wf = true) (w : World) (hv : ArgI w v S) (hS : S.length ≤ maxLen) (hu : ArgI w u G) (hG : G.length ≤ maxLen) (hx : ArgW w x Ws) (hl : Ws.length ≤ maxLen ∧ ∀ L ∈ Ws, L.length ≤ maxLen) (hL : laidMetH Tryd.prog Rows.fnExactFlowForRow.laid w) :
    Calls Tryd.prog 3 #[.agg #[.int .i64 W, .int .i64 H, .string C], v, u, .int .i64 T, x] w fun e w' => e = .returned (.bool true) ∧ Below w.heap.size w w' :=
  walk W H C v S u G T x Ws hC w hv hS hu hG hx hl (sides_of_laid hL)
-- LIFT
set_option maxRecDepth 100000 in
theorem lifted (os : Os) (started : os.Started) (H : Type) (enc : TypeId × Value → H) :
    ReturnsInHanded {} Tryd.checked os 3 .any (fun w args => (Rows.fnExactFlowForSpec.pre enc Tryd.prog Tryd.f3 [] false w args ∧ laidMetH Tryd.prog Rows.fnExactFlowForRow.laid w) ∧ sizedMet enc Tryd.prog Tryd.f3 (OpenSpec.ofChange Rows.fnExactFlowForSpec) false w args)
      (Rows.fnExactFlowForSpec.post enc Tryd.prog Tryd.f3 false true false false) := by
  refine returnsInHanded_of_change_and (C := Tryd.checked) (X := fun w _ => laidMetH Tryd.prog Rows.fnExactFlowForRow.laid w) (fun _ _ _ hh h => h.of_heap hh) own started (by kernel_rfl) Tryd.func3
    (ChangeSpec.witness_shaped (enc := enc) (C := Tryd.checked) (os := os) (X := fun w _ => laidMetH Tryd.prog Rows.fnExactFlowForRow.laid w) false (World.doorLaid Tryd.prog 400 os) #[.agg #[.int .i64 0, .int .i64 0, .string ByteArray.empty], .slice none 0 0, .slice none 0 0, .int .i64 0, .slice none 0 0] 8 rfl (World.shaped_of_RefB (by kernel_rfl) (by kernel_rfl)) (by kernel_rfl) (by kernel_rfl) (by kernel_rfl) (sides_met os _)) ?_
  intro W base args ds gs before hval0 hW _ hsz0 hL _
  have hsz : (DataW.weightsEach Tryd.prog (Tryd.f3.params.toList ++ Rows.fnExactFlowForSpec.plain.varTypes Tryd.prog) (ds ++ gs)).all (· ≤ reachBytes) = true := hsz0
  clear hsz0
  have hval : ∀ (j : Nat) t v, Tryd.f3.params[j]? = some t → args[j]? = some v → Value.okWide Tryd.prog W .any base t v := hval0
  have hW' := hW
  obtain ⟨p, q, hA0, hV, rfl, hfz, hnd⟩ := hW
  have hA : DataW.TrodAll enc Tryd.prog W 0 (fun _ => true) true Tryd.f3.params.toList args.toList ds p := hA0
  rw [Tryd.params3] at hA hval hsz
  obtain ⟨v0, vs0, d0, ds0, p0, q0, hargs, rfl, rfl, h0, r0⟩ := trodAll_cons hA
  obtain ⟨v1, vs1, d1, ds1, p1, q1, rfl, rfl, rfl, h1, r1⟩ := trodAll_cons r0
  obtain ⟨v2, vs2, d2, ds2, p2, q2, rfl, rfl, rfl, h2, r2⟩ := trodAll_cons r1
  obtain ⟨v3, vs3, d3, ds3, p3, q3, rfl, rfl, rfl, h3, r3⟩ := trodAll_cons r2
  obtain ⟨v4, vs4, d4, ds4, p4, q4, rfl, rfl, rfl, h4, r4⟩ := trodAll_cons r3
  obtain ⟨rfl, rfl, rfl⟩ := trodAll_nil r4
  obtain rfl : args = #[v0, v1, v2, v3, v4] := by cases args; simp_all
  have hs0 := sides_of_laid hL
  obtain ⟨rfl, _⟩ := sides_vars hs0 hs0 hV
  obtain ⟨u00, u01, u02, y00, y01, y02, m0, rfl, rfl, rfl, g00, g01, g02⟩ := open_agg3 Tryd.underlying23 (by kernel_rfl) (by kernel_rfl) (hval 0 23 v0 rfl rfl) h0
  obtain ⟨a0W, e00, rfl, w0W⟩ := DataW.trod_int Tryd.underlying3 g00
  obtain ⟨a0H, e01, rfl, w0H⟩ := DataW.trod_int Tryd.underlying3 g01
  obtain ⟨a0C, e02, rfl, w0C⟩ := DataW.trod_string Tryd.underlying9 g02
  simp only [List.cons.injEq, and_true] at e00 e01 e02
  subst e00 e01 e02
  obtain ⟨L1, w1, l1, again1⟩ := open_arg_ints (hval 1 24 v1 rfl rfl) h1
  obtain ⟨L2, w2, l2, again2⟩ := open_arg_ints (hval 2 24 v2 rfl rfl) h2
  obtain ⟨a3, rfl, rfl, rfl, w3⟩ := open_int Tryd.underlying3 (hval 3 3 v3 rfl rfl) h3
  obtain ⟨L4, w4, l4⟩ := open_arg_ways (hval 4 25 v4 rfl rfl) h4
  clear hA0 hval0 hsz
  simp only [List.append_nil, List.nil_append] at hW'
  refine (walkL a0W a0H a0C v1 L1 v2 L2 a3 v4 L4 w0W w0H w0C w3 W w1 l1 w2 l2 w4 l4 hL).mono fun e W' ⟨he, hg⟩ => ?_
  subst he
  obtain ⟨_, hvs⟩ := sides_vars hs0 (hs0.below hg) hV
  exact ⟨_, rfl, post_of_below (pa := (([] : List MemPlace) ++ ([] ++ [])) ++ (p1 ++ (p2 ++ (([] : List MemPlace) ++ (p4 ++ ([])))))) (pv := q) hW' (fun _ _ _ => (trodAll_cons_mk (shut_bool Tryd.underlying4 _) trodAll_mk0)) (fun sp hsp => (trodAll_cons_mk (shut_agg3 (P := Tryd.prog) (y0 := (.lit (.int .i64 a0W), [])) (y1 := (.lit (.int .i64 a0H), [])) (y2 := (.lit (.string a0C.data.toList), [])) Tryd.underlying23 (by kernel_rfl) (by kernel_rfl) ⟨1, by simp [DataW.trod, Tryd.underlying3, w0W]⟩ ⟨1, by simp [DataW.trod, Tryd.underlying3, w0H]⟩ ⟨1, by simp [DataW.trod, Tryd.underlying9, w0C]⟩) (trodAll_cons_mk (again1 W' hg sp (fun p hp => hsp p (by simp [hp]))) (trodAll_cons_mk (again2 W' hg sp (fun p hp => hsp p (by simp [hp]))) (trodAll_cons_mk (shut_int Tryd.underlying3 w3) (trodAll_cons_mk (again_of (by kernel_rfl) (of_decide_eq_true (by kernel_rfl)) h4 (fun x hx => hW'.lt x (by simp [hx])) hg sp (fun p hp => hsp p (by simp [hp]))) trodAll_mk0)))))) (fun sp _ => hvs sp) (by simp)
    hg (ok_one (by kernel_rfl) rfl (okWide_bool_mk Tryd.underlying4 _))⟩

theorem said : Rows.FnExactFlowForSaid :=
  OpenClaim.holds_of_wide 3 Tryd.f3 rfl rfl rfl rfl rfl rfl rfl ⟨rfl, rfl, rfl, rfl, rfl⟩ rfl rfl rfl rfl rfl (by kernel_rfl) Tryd.func3 (by kernel_rfl)
    (of_decide_eq_true (by kernel_rfl)) (by unfold Func.isWrapper; first | (rw [if_pos (by decide +kernel)]; kernel_rfl) | (rw [if_neg (by decide +kernel)]; exact ⟨rfl, rfl⟩))
    (fun os started H enc _ => lifted os started H enc)

theorem plain (f : FuncId) (fn : Func) (hf : Tryd.pinned.checked.prog.funcNamed "loop.example/g00961/laws.FnExactFlowFor" = some f) (hfn : Tryd.pinned.checked.prog.funcs[f]? = some fn) :
    Rows.fnExactFlowForCard.stood.looks = Tryd.pinned.checked.prog.looks [] ∧ ∀ (j : Nat) t, fn.params[j]? = some t → Tryd.pinned.checked.prog.wantsStandIn t = false := by
  obtain rfl : f = 3 := Option.some.inj ((show Tryd.prog.funcNamed "loop.example/g00961/laws.FnExactFlowFor" = some 3 by kernel_rfl).symm.trans hf) |>.symm
  obtain rfl : fn = Tryd.f3 := (Option.some.inj (Tryd.func3.symm.trans hfn)).symm
  refine ⟨by kernel_rfl, fun j t ht => ?_⟩
  rw [Tryd.params3] at ht
  have hm : t ∈ [23, 24, 24, 3, 25] := by simpa using Array.mem_of_getElem? ht
  have hall : ([23, 24, 24, 3, 25].all fun u => !Tryd.prog.wantsStandIn u) = true := by kernel_rfl
  exact (show Tryd.prog.wantsStandIn t = false by simpa using List.all_eq_true.1 hall t hm)

theorem proved : Rows.FnExactFlowForCardSaid :=
  Claim7.holds_tied_plain_at .later [] _ _ _ _ said (fun _ h => by cases h) (by kernel_rfl) (fun _ h => by cases h) fnExactFlowFor_row_tie rfl ⟨rfl, rfl⟩ (by kernel_rfl) rfl plain (by kernel_rfl)

end Go.Proofs.YtnbbhdbcapfbkaaDoor.fnExactFlowFor

