/-
  CONTRACT of spec.l13Ok. No law is proved here.
  CONTRACTS of spec.l12Count, SwapsAt and RingsAt. No law is proved here.
-/
import Derived.Test.YtkbfbifepaoojaaGreatDoorZPU14
import Derived.Test.YtkbfbifepaoojaaGreatDoorZPU33
import Derived.BigQuiet
import Derived.Deep.QuietTactic
import Derived.Test.YtkbfbifepaoojaaGreatDoorZPU15
namespace Go.Proofs.YtkbfbifepaoojaaGreatDoor
set_option maxRecDepth 4096
open Go.ChangeShapes Go.WideShapes Go.ChangeAt Go.RowKit

/-- Two ways are in one cell at a time. -/
theorem reg_same {Ws : List (List Int)} {a b t : Nat} {L K : List Int} {x : Int} (hab : a < b) (hL : Ws[a]? = some L) (hK : Ws[b]? = some K) (h1 : L[t]? = some x) (h2 : K[t]? = some x) (hw : 1 < wideV Ws) : regV Ws = false := by
  cases e : regV Ws with
  | false => rfl
  | true =>
    have he := (reg_iff.1 e).1
    have ht : t < wideV Ws := by rw [← (even_iff.1 he).2.2 a L hL]; exact (List.getElem?_eq_some_iff.1 h1).1
    have hn : (colL Ws t).Nodup := by
      by_cases h : t + 1 < wideV Ws
      · exact (reg_free e h).1
      · obtain ⟨s, rfl⟩ : ∃ s, t = s + 1 := ⟨t - 1, by omega⟩
        exact (reg_free e ht).2
    have := at_inj hn (col_at hL h1) (col_at hK h2)
    omega
/-- No two of the first j ways are in one cell at a time. -/
def DiffW (Ws : List (List Int)) (j : Nat) : Prop := ∀ (a b t : Nat) (L K : List Int) (x : Int), a < b → b < j → Ws[a]? = some L → Ws[b]? = some K → L[t]? = some x → K[t]? = some x → ¬ 1 < wideV Ws
theorem reg_of {Ws : List (List Int)} (h1 : 1 ≤ Ws.length) (h2 : Ws.length ≤ 10) (h3 : ∀ (k : Nat) L, k < Ws.length → Ws[k]? = some L → L.length = wideV Ws) (h4 : 0 < wideV Ws) (h5 : DiffW Ws Ws.length) : regV Ws = true := by
  have he : evenV Ws = true := even_iff.2 ⟨h1, h2, fun i L hL => h3 i L (List.getElem?_eq_some_iff.1 hL).1 hL⟩
  refine reg_iff.2 ⟨he, h4, fun t ht => ?_⟩
  have hn : ∀ s, s < wideV Ws → (colL Ws s).Nodup := fun s hs => by
    refine List.pairwise_iff_getElem.2 fun a b ha hb hab e => ?_
    rw [col_len] at ha hb
    obtain ⟨c1, c2⟩ := col_is he (List.getElem?_eq_getElem ha) hs
    obtain ⟨d1, d2⟩ := col_is he (List.getElem?_eq_getElem hb) hs
    rw [List.getElem?_eq_getElem (by rw [col_len]; exact ha)] at c1
    rw [List.getElem?_eq_getElem (by rw [col_len]; exact hb)] at d1
    have e2 := (Option.some.inj c1).symm.trans (e.trans (Option.some.inj d1))
    exact h5 a b s _ _ _ hab hb (List.getElem?_eq_getElem ha) (List.getElem?_eq_getElem hb) c2 (d2.trans (congrArg some e2.symm)) (by omega)
  have hl : levV Ws (t : Int) = true := lev_yes he (by omega) (by omega)
  rw [meet_of hl, decide_eq_true (hn t (by omega)), decide_eq_true (hn (t + 1) ht)]
  rfl
/-- The way k is nowhere with one of the first j. -/
def DiffK (Ws : List (List Int)) (K : List Int) (j : Nat) : Prop := ∀ (a t : Nat) (L : List Int) (x : Int), a < j → Ws[a]? = some L → L[t]? = some x → K[t]? = some x → ¬ 1 < wideV Ws
def DiffT (Ws : List (List Int)) (L K : List Int) (j : Nat) : Prop := ∀ (t : Nat) (x : Int), t < j → L[t]? = some x → K[t]? = some x → ¬ 1 < wideV Ws

set_option maxHeartbeats 4000000 in
theorem specReg (v : Value) (Ws : List (List Int)) (b : Bool) (hW : Ws.length ≤ 2000000) (hT : totW Ws ≤ 2000000) (HB : Hid (regV Ws = b)) (w : World) (hv : WaysAt w v Ws) :
    Calls Tryz.prog 32 #[v] w fun e w' => e = .returned (.bool b) ∧ ∃ q, w' = w.drewN q := by
  obtain ⟨r, HR⟩ : ∃ r, Hid ((decide ((1 : Int) ≤ (Ws.length : Int)) && decide ((Ws.length : Int) ≤ 10)) = r) := ⟨_, rfl⟩
  have HC := Lib.hid (specRange (Ws.length : Int) 1 10 r HR)
  have HVV := Lib.hid hv
  have HTh := Lib.hid hT
  obtain ⟨av, cv, rfl, _⟩ := hv
  clear hT
  cases r with
  | false =>
    have e : b = false := by
      rw [← HB.out]
      refine reg_even (even_few fun h => ?_)
      have := HR.out
      rw [decide_eq_true (by omega), decide_eq_true (by omega)] at this
      cases this
    subst e
    go_enter Tryz.func32, Tryz.ntmps32
    go_wp2_with fail
    refine (HC.out _).mono ?_
    rintro e w1 ⟨rfl, rfl⟩
    go_wp2_with fail
    go_ret
    exact ⟨rfl, 0, rfl⟩
  | true =>
    have hN : 1 ≤ Ws.length ∧ Ws.length ≤ 10 := by
      have := HR.out
      rw [Bool.and_eq_true, decide_eq_true_eq, decide_eq_true_eq] at this
      omega
    obtain ⟨L0, hx0⟩ : ∃ L0, Ws[0]? = some L0 := ⟨_, List.getElem?_eq_getElem (by omega)⟩
    obtain ⟨g, a0, c, e, hg, u0, b0, rfl, d0, _⟩ := way_at HVV.out hx0
    injection e with e1 e2 e3
    subst e1 e3
    have HW0 := Lib.hid (wide_at hx0)
    have hL0 := totW_one hx0
    have hL02 : L0.length ≤ 2000000 := by have := HTh.out; omega
    have HN := Lib.hid hN
    have h0N : (0 : Int) < (Ws.length : Int) := by omega
    have HX0 := Lib.hid hx0
    clear hx0 hL0 hN
    by_cases h0 : L0.length = 0
    · have e : b = false := by rw [← HB.out]; exact reg_bare (by rw [HW0.out, h0])
      subst e
      have hz : ((L0.length : Int) == 0) = true := by rw [beq_iff_eq]; omega
      clear HB
      go_enter Tryz.func32, Tryz.ntmps32
      go_wp2_with fail
      refine (HC.out _).mono ?_
      rintro e w1 ⟨rfl, rfl⟩
      go_wp2_with fail
      go_ret
      exact ⟨rfl, 0, rfl⟩
    · have hz : ((L0.length : Int) == 0) = false := by rw [beq_eq_false_iff_ne]; omega
      have H0 := Lib.hid h0
      clear h0
      go_enter Tryz.func32, Tryz.ntmps32
      go_wp2_with fail
      refine (HC.out _).mono ?_
      rintro e w1 ⟨rfl, rfl⟩
      go_wp2_with fail
      go_loopw [3, 4, 5] (fun i _ _ wr => ∃ j q : Nat, j ≤ Ws.length ∧ i = .int .i64 j ∧ Hid (∀ (k : Nat) L, k < j → Ws[k]? = some L → L.length = L0.length) ∧ Hid (DiffW Ws j) ∧ wr = w.drewN q) (fun i _ _ _ => Ws.length - (intOf i).toNat)
      case atStart => exact ⟨0, 0, Nat.zero_le _, rfl, Lib.hid fun k L hk => absurd hk (by omega), Lib.hid fun a b t L K x _ h => absurd h (by omega), rfl⟩
      case round =>
        obtain ⟨j, q, hj, rfl, HK, HD, rfl⟩ := hrel
        by_cases hlt : j < Ws.length
        · have hlt2 : (j : Int) < (Ws.length : Int) := by omega
          obtain ⟨K, hx⟩ : ∃ K, Ws[j]? = some K := ⟨_, List.getElem?_eq_getElem hlt⟩
          obtain ⟨_, au, _, e, _, u, bu, rfl, d1, hI⟩ := way_at HVV.out hx
          injection e with e1 e2 e3
          injection e1 with e1
          injection e1 with e1
          subst e1
          have hLb := totW_one hx
          have hLb2 : K.length ≤ 2000000 := by have := HTh.out; omega
          have HX := Lib.hid hx
          clear hx hLb e2 e3
          by_cases hlen : K.length = L0.length
          · have hln : ((K.length : Int) != (L0.length : Int)) = false := by rw [bne_eq_false_iff_eq]; omega
            have HLN := Lib.hid hlen
            rcases ints_form hI with ⟨_, _, e, HI⟩
            injection e with e1 _ e3
            subst e1 e3
            rcases HI with h0 | ⟨p, rfl, hp, hpc⟩
            · have := H0.out; omega
            have HPC := Lib.hid hpc
            clear hlen hI hpc
            go_wp2
            go_quiet (fail)
            go_wp2
            go_loopw [4, 5] (fun i _ wr => ∃ k q : Nat, k ≤ j ∧ i = .int .i64 k ∧ Hid (DiffK Ws K k) ∧ wr = w.drewN q) (fun i _ _ => j - (intOf i).toNat)
            case atStart => exact ⟨0, _, Nat.zero_le _, rfl, Lib.hid fun a t L x h => absurd h (by omega), by first | rfl | exact World.drewN_drewN ..⟩
            case round =>
              obtain ⟨k, q, hk, rfl, HDK, rfl⟩ := hrel
              by_cases hlk : k < j
              · have hlk2 : (k : Int) < (j : Int) := by omega
                have hlk3 : (k : Int) < (Ws.length : Int) := by omega
                obtain ⟨L, hx⟩ : ∃ L, Ws[k]? = some L := ⟨_, List.getElem?_eq_getElem (by omega)⟩
                obtain ⟨_, au2, _, e, _, u2, bu2, rfl, d2, hI⟩ := way_at HVV.out hx
                injection e with e1 e2 e3
                injection e1 with e1
                injection e1 with e1
                subst e1
                clear e3 e2
                have hLk := HK.out k L hlk hx
                rcases ints_form hI with ⟨_, _, e, HI⟩
                injection e with e1 _ e3
                subst e1 e3
                rcases HI with h0 | ⟨p2, rfl, hp2, hpc2⟩
                · have := H0.out; omega
                have HPC2 := Lib.hid hpc2
                have HXL := Lib.hid hx
                have HLK := Lib.hid hLk
                clear hx hI hpc2 hLk
                go_wp2
                go_loopw [5] (fun i wr => ∃ t q : Nat, t ≤ L0.length ∧ i = .int .i64 t ∧ Hid (DiffT Ws L K t) ∧ wr = w.drewN q) (fun i _ => L0.length - (intOf i).toNat)
                case atStart => exact ⟨0, _, Nat.zero_le _, rfl, Lib.hid fun t x h => absurd h (by omega), rfl⟩
                case round =>
                  obtain ⟨t, q, ht, rfl, HDT, rfl⟩ := hrel
                  by_cases hlt3 : t < L0.length
                  · have hlt4 : (t : Int) < (L0.length : Int) := by omega
                    have hlt5 : (t : Int) < (K.length : Int) := by rw [HLN.out]; omega
                    have hlt6 : (t : Int) < (L.length : Int) := by rw [HLK.out]; omega
                    obtain ⟨x, hxx⟩ : ∃ x, K[t]? = some x := ⟨_, List.getElem?_eq_getElem (by rw [HLN.out]; exact hlt3)⟩
                    obtain ⟨y, hyy⟩ : ∃ y, L[t]? = some y := ⟨_, List.getElem?_eq_getElem (by rw [HLK.out]; exact hlt3)⟩
                    have dx := HPC.out t x hxx
                    have dy := HPC2.out t y hyy
                    have HXX := Lib.hid hxx
                    have HYY := Lib.hid hyy
                    clear hxx hyy
                    by_cases hxy : x = y
                    · subst hxy
                      have hb : (x == x) = true := by simp
                      by_cases hw1 : 1 < L0.length
                      · have hw2 : (1 : Int) < (L0.length : Int) := by omega
                        have e : b = false := by rw [← HB.out]; exact reg_same hlk HXL.out HX.out HYY.out HXX.out (by rw [HW0.out]; exact hw1)
                        subst e
                        go_wp2
                        go_quiet (fail)
                        go_wp2
                        go_ret
                        exact ⟨rfl, _, by first | rfl | exact World.drewN_drewN ..⟩
                      · have hw2 : ¬ (1 : Int) < (L0.length : Int) := by omega
                        have HW1 := Lib.hid hw1
                        clear hw1
                        go_wp2
                        go_quiet (fail)
                        go_wp2
                        go_roundw
                        case rel => exact ⟨t + 1, _, by omega, by go_num, Lib.hid fun s z _ _ _ => (by rw [HW0.out]; exact HW1.out), rfl⟩
                        case measure => simp [intOf]; omega
                    · have hb : (x == y) = false := by simpa using hxy
                      have HXY := Lib.hid hxy
                      clear hxy
                      go_wp2
                      go_quiet (fail)
                      go_wp2
                      go_roundw
                      case rel => exact ⟨t + 1, _, by omega, by go_num, Lib.hid fun s z hs h1 h2 => (by
                        rcases Nat.lt_succ_iff_lt_or_eq.1 hs with h | h
                        · exact HDT.out s z h h1 h2
                        · rw [h, HYY.out] at h1
                          rw [h, HXX.out] at h2
                          exact absurd (Option.some.inj (h2.trans h1.symm)) HXY.out), rfl⟩
                      case measure => simp [intOf]; omega
                  · obtain rfl : t = L0.length := by omega
                    have hnl : ¬ (L0.length : Int) < (L0.length : Int) := by omega
                    go_wp2
                    go_roundw
                    case rel => exact ⟨k + 1, _, by omega, by go_num, Lib.hid fun a s M z ha hM h1 h2 => (by
                      rcases Nat.lt_succ_iff_lt_or_eq.1 ha with h | h
                      · exact HDK.out a s M z h hM h1 h2
                      · rw [h, HXL.out] at hM
                        cases hM
                        exact HDT.out s z (by rw [← HLK.out]; exact (List.getElem?_eq_some_iff.1 h1).1) h1 h2), rfl⟩
                    case measure => simp [intOf]; omega
              · obtain rfl : k = j := by omega
                have hnl : ¬ (k : Int) < (k : Int) := by omega
                go_wp2
                go_roundw
                case rel => exact ⟨k + 1, _, by omega, by go_num, Lib.hid fun a M ha hM => (by
                  rcases Nat.lt_succ_iff_lt_or_eq.1 ha with h | h
                  · exact HK.out a M h hM
                  · rw [h, HX.out] at hM
                    cases hM
                    exact HLN.out), Lib.hid fun a b s M M2 z hab hb hM hM2 h1 h2 => (by
                  rcases Nat.lt_succ_iff_lt_or_eq.1 hb with h | h
                  · exact HD.out a b s M M2 z hab h hM hM2 h1 h2
                  · rw [h, HX.out] at hM2
                    cases hM2
                    exact HDK.out a s M z (by omega) hM h1 h2), rfl⟩
                case measure => simp [intOf]; omega
          · have hln : ((K.length : Int) != (L0.length : Int)) = true := by rw [bne_iff_ne]; omega
            have e : b = false := by
              rw [← HB.out]
              exact reg_even (even_no HX.out (by rw [HW0.out]; exact hlen))
            subst e
            clear hlen
            go_wp2
            go_quiet (fail)
            go_wp2
            go_ret
            exact ⟨rfl, _, by first | rfl | exact World.drewN_drewN ..⟩
        · obtain rfl : j = Ws.length := by omega
          have hnl : ¬ (Ws.length : Int) < (Ws.length : Int) := by omega
          have e : b = true := by
            rw [← HB.out]
            exact reg_of HN.out.1 HN.out.2 (fun k L hk hL => by rw [HW0.out]; exact HK.out k L hk hL) (by rw [HW0.out]; have := H0.out; omega) HD.out
          subst e
          go_wp2
          go_ret
          exact ⟨rfl, _, rfl⟩

end Go.Proofs.YtkbfbifepaoojaaGreatDoor

namespace Go.Proofs.YtkbfbifepaoojaaGreatDoor
set_option maxRecDepth 4096
open Go.ChangeShapes Go.WideShapes Go.ChangeAt Go.RowKit

theorem inR_isS (A B : List Int) (lo hi i m : Nat) (h : ringV A B i = m) : inR A B lo hi i = (decide ((lo : Int) ≤ (m : Int)) && decide ((m : Int) ≤ (hi : Int))) := by
  unfold inR
  rw [h]
  congr 1
  · exact decide_eq_decide.2 (by omega)
  · exact decide_eq_decide.2 (by omega)

set_option maxHeartbeats 2000000 in
theorem specCount (v : Value) (Ws : List (List Int)) (t : Int) (lo hi m : Nat) (hW : Ws.length ≤ 2000000) (hT : totW Ws ≤ 2000000) (HM : Hid (cntV Ws t lo hi = m)) (w : World) (hv : WaysAt w v Ws) (hwf : (Lit.int .i64 t).wf = true) :
    Calls Tryz.prog 73 #[v, .int .i64 t, .int .i64 (lo : Int), .int .i64 (hi : Int)] w (Made w (.int .i64 (m : Int))) := by
  obtain ⟨r, HR⟩ : ∃ r, Hid (levV Ws t = r) := ⟨_, rfl⟩
  obtain ⟨q, HQ⟩ : ∃ q, Hid (meetV Ws t = q) := ⟨_, rfl⟩
  have HL := Lib.hid (specLevel v Ws t r hW hT HR w hv hwf)
  have HME : Hid (∀ wr, Below w.heap.size w wr → Calls Tryz.prog 111 #[v, .int .i64 t] wr (Made wr (.bool q))) := Lib.hid fun wr hB => specMeet v Ws t q hW hT HQ wr (waysAt_on hv hB) hwf
  have HVV := Lib.hid hv
  have HT := Lib.hid hT
  obtain ⟨av, cv, rfl, _⟩ := hv
  clear hT hwf
  cases r with
  | false =>
    obtain rfl : m = 0 := by rw [← HM.out]; exact cnt_no fun h => by have := h.1; rw [HR.out] at this; cases this
    go_enter Tryz.func73, Tryz.ntmps73
    go_wp2_with fail
    refine HL.out.mono ?_
    rintro e w1 ⟨rfl, hB⟩
    go_wp2_with fail
    go_ret
    exact ⟨rfl, hB⟩
  | true =>
    cases q with
    | true =>
      obtain rfl : m = 0 := by rw [← HM.out]; exact cnt_no fun h => by have := h.2; rw [HQ.out] at this; cases this
      go_enter Tryz.func73, Tryz.ntmps73
      go_wp2_with fail
      refine HL.out.mono ?_
      rintro e w1 ⟨rfl, hB⟩
      go_wp2_with fail
      refine (HME.out w1 hB).mono ?_
      rintro e w2 ⟨rfl, hb⟩
      replace hB := hB.trans (hb.mono hB.size)
      clear hb
      go_wp2_with fail
      go_ret
      exact ⟨rfl, hB⟩
    | false =>
      obtain ⟨n, rfl⟩ := levS_out HR.out
      have HMC : Hid (countR (colL Ws n) (colL Ws (n + 1)) lo hi Ws.length = m) := Lib.hid (by rw [← HM.out, cnt_yes HR.out HQ.out])
      obtain ⟨A, HA⟩ : ∃ A, Hid (colL Ws n = A) := ⟨_, rfl⟩
      obtain ⟨B, HBB⟩ : ∃ B, Hid (colL Ws (n + 1) = B) := ⟨_, rfl⟩
      have HCI : Hid (∀ (i : Nat) (wr : World), i < Ws.length → Below w.heap.size w wr → Calls Tryz.prog 112 #[.slice av Ws.length cv, .int .i64 (n : Int), .int .i64 (i : Int)] wr fun e w' => e = .returned (.int .i64 ((ringV A B i : Nat) : Int)) ∧ ∃ q, w' = wr.drewN q) := Lib.hid fun i wr hi hB => specRing _ Ws n i _ HT.out HR.out HQ.out hi (Lib.hid (by rw [HA.out, HBB.out])) wr (waysAt_on HVV.out hB)
      rw [HA.out, HBB.out] at HMC
      clear HM HVV
      go_enter Tryz.func73, Tryz.ntmps73
      go_wp2_with fail
      refine HL.out.mono ?_
      rintro e w1 ⟨rfl, hB⟩
      go_wp2_with fail
      refine (HME.out w1 hB).mono ?_
      rintro e w2 ⟨rfl, hb⟩
      replace hB := hB.trans (hb.mono hB.size)
      have HB2 := Lib.hid hB
      clear hb hB HL HME
      go_wp2_with fail
      go_loopw [9, 10] (fun s x wr => ∃ i : Nat, i ≤ Ws.length ∧ s = .int .i64 ((countR A B lo hi i : Nat) : Int) ∧ x = .int .i64 i ∧ Below w.heap.size w wr) (fun _ x _ => Ws.length - (intOf x).toNat)
      case atStart => exact ⟨0, Nat.zero_le _, by rw [countR_zero]; rfl, rfl, HB2.out⟩
      case round =>
        clear HB2
        obtain ⟨i, hiW, rfl, rfl, hB⟩ := hrel
        by_cases hlt : i < Ws.length
        · have hlt2 : (i : Int) < (Ws.length : Int) := by omega
          have HC := Lib.hid (HCI.out i wr hlt hB)
          have hcl := countR_le (A := A) (B := B) (lo := lo) (hi := hi) (n := i)
          have HS := Lib.hid (countR_succ (A := A) (B := B) (lo := lo) (hi := hi) (n := i))
          obtain ⟨d, HD⟩ : ∃ d, Hid (ringV A B i = d) := ⟨_, rfl⟩
          obtain ⟨cc, HCC⟩ : ∃ cc, Hid (countR A B lo hi i = cc) := ⟨_, rfl⟩
          rw [HD.out] at HC
          rw [HCC.out] at hcl HS ⊢
          obtain ⟨b, HBR⟩ : ∃ b, Hid ((decide ((lo : Int) ≤ (d : Int)) && decide ((d : Int) ≤ (hi : Int))) = b) := ⟨_, rfl⟩
          have HIN : Hid (inR A B lo hi i = b) := Lib.hid (by rw [inR_isS A B lo hi i d HD.out, HBR.out])
          have HWI := Lib.hid (specRange (d : Int) (lo : Int) (hi : Int) b HBR)
          have HBW := Lib.hid hB
          clear hB
          cases b with
          | true =>
            go_wp2_with (first | (go_at_call 112; refine HC.out.mono ?_; rintro e w' ⟨rfl, q7, rfl⟩; have HB3 := Lib.hid (below_drewN HBW.out q7)) | (go_at_call 72; refine (HWI.out _).mono ?_; rintro e w' ⟨rfl, rfl⟩))
            go_roundw
            case rel => exact ⟨i + 1, by omega, by rw [HS.out, HIN.out, if_pos rfl]; go_num, by go_num, HB3.out⟩
            case measure => simp [intOf]; omega
          | false =>
            go_wp2_with (first | (go_at_call 112; refine HC.out.mono ?_; rintro e w' ⟨rfl, q7, rfl⟩; have HB3 := Lib.hid (below_drewN HBW.out q7)) | (go_at_call 72; refine (HWI.out _).mono ?_; rintro e w' ⟨rfl, rfl⟩))
            go_roundw
            case rel => exact ⟨i + 1, by omega, by rw [HS.out, HIN.out, if_neg (by decide)]; go_num, by go_num, HB3.out⟩
            case measure => simp [intOf]; omega
        · obtain rfl : i = Ws.length := by omega
          have hnl : ¬ (Ws.length : Int) < (Ws.length : Int) := by omega
          rw [HMC.out]
          go_wp2
          go_ret
          exact ⟨rfl, hB⟩

theorem specSwaps (v : Value) (Ws : List (List Int)) (t : Int) (m : Nat) (hW : Ws.length ≤ 2000000) (hT : totW Ws ≤ 2000000) (HM : Hid (swapsV Ws t = m)) (w : World) (hv : WaysAt w v Ws) (hwf : (Lit.int .i64 t).wf = true) :
    Calls Tryz.prog 33 #[v, .int .i64 t] w (Made w (.int .i64 (m : Int))) := by
  obtain ⟨q, HQ⟩ : ∃ q, Hid (cntV Ws t 2 2 = q) := ⟨_, rfl⟩
  have hq : q ≤ Ws.length := by rw [← HQ.out]; exact cnt_le
  have e : m = q / 2 := by rw [← HM.out]; unfold swapsV; rw [HQ.out]
  have HC := Lib.hid (specCount v Ws t 2 2 q hW hT HQ w hv hwf)
  have hdiv : (q : Int).tdiv 2 = ((q / 2 : Nat) : Int) := rfl
  subst e
  obtain ⟨av, cv, rfl, _⟩ := hv
  clear hwf hT
  go_enter Tryz.func33, Tryz.ntmps33
  go_wp2_with fail
  refine HC.out.mono ?_
  rintro e w1 ⟨rfl, hB⟩
  go_wp2_with fail
  go_ret
  exact ⟨by go_num, hB⟩
theorem specRings (v : Value) (Ws : List (List Int)) (t : Int) (m : Nat) (hW : Ws.length ≤ 2000000) (hT : totW Ws ≤ 2000000) (HM : Hid (ringsV Ws t = m)) (w : World) (hv : WaysAt w v Ws) (hwf : (Lit.int .i64 t).wf = true) :
    Calls Tryz.prog 34 #[v, .int .i64 t] w (Made w (.int .i64 (m : Int))) := by
  have HC := Lib.hid (specCount v Ws t 3 10 m hW hT HM w hv hwf)
  obtain ⟨av, cv, rfl, _⟩ := hv
  clear hwf hT
  go_enter Tryz.func34, Tryz.ntmps34
  go_wp2_with fail
  refine HC.out.mono ?_
  rintro e w1 ⟨rfl, hB⟩
  go_wp2_with fail
  go_ret
  exact ⟨rfl, hB⟩

end Go.Proofs.YtkbfbifepaoojaaGreatDoor

