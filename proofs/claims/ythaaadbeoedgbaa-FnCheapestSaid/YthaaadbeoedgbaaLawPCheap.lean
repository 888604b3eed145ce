/-
  THE LAW FnCheapest: the cheapest flow of a drawn network is one of its size and its cost, as large as can be; each further one costs no less than the one before it. For every input.
-/
import Derived.Test.YthaaadbeoedgbaaCostI
import Derived.Test.YthaaadbeoedgbaaDrawNet
import Derived.Test.YthaaadbeoedgbaaCheapsI
import Derived.Test.YthaaadbeoedgbaaMostI
import Derived.Test.YthaaadbeoedgbaaArgBytes
import Derived.Test.YthaaadbeoedgbaaCodeOf
import Derived.Test.YthaaadbeoedgbaaArgCopy
import Derived.Deep.CutRange
import Derived.Deep.DeepCutAuto
import Derived.Deep.RegionHeld3
import Derived.IntWalk
import Derived.Lib.SmallJoins
namespace Go.Proofs.Ythaaadbeoedgbaa.fnCheapest
set_option maxRecDepth 4096
open Go.ChangeShapes Go.WideShapes Go.ChangeAt Go.RowKit Go.Joins

theorem bigYes (N g : Nat) (B : Nat → Int) (v : Value) (w : World) (hN : N ≤ maxLen) (hc : CodeF w v N B g) (h : 1048576 < N) : Calls Try.prog 6 #[v] w fun e w' => e = .returned (.bool true) ∧ w = w' := by
  obtain ⟨a, c, rfl, _⟩ := hc
  have hN2 : N ≤ 9223372036854775807 := by unfold maxLen at hN; omega
  have hd : (1048576 : Int) < (N : Int) := by omega
  go_enter Try.func6, Try.ntmps6
  go_wp2
  go_ret
  exact ⟨rfl, rfl⟩
theorem bigNo (N g : Nat) (B : Nat → Int) (v : Value) (w : World) (hc : CodeF w v N B g) (h : N ≤ 1048576) : Calls Try.prog 6 #[v] w fun e w' => e = .returned (.bool false) ∧ w = w' := by
  obtain ⟨a, c, rfl, _⟩ := hc
  have hd : ¬ (1048576 : Int) < (N : Int) := by omega
  go_enter Try.func6, Try.ntmps6
  go_wp2
  go_ret
  exact ⟨rfl, rfl⟩

/-- What lies in the law's own memory. -/
structure NSt (M : Nat) (A : List ArcD) (w : World) (X : Nat) (na : Value) (wx : World) : Prop where
  below : Below w.heap.size w wx
  boxn : wx.heap[X]? = some (.cells #[.int .i64 (M : Int), na] 26)
  arcn : Arcs wx na A
structure NF (M : Nat) (A : List ArcD) (w : World) (X : Nat) (na vf : Value) (F : List Int) (wx : World) : Prop where
  st : NSt M A w X na wx
  fl : Ints wx vf F
section
variable {M X : Nat} {A : List ArcD} {w wx wy : World} {na vf : Value} {F : List Int}
theorem NSt.on (h : NSt M A w X na wx) (hb : Below wx.heap.size wx wy) : NSt M A w X na wy :=
  ⟨h.below.trans (hb.mono h.below.size), (hb.block _ (Array.getElem?_eq_some_iff.1 h.boxn).1).trans h.boxn, arcs_on h.arcn hb⟩
theorem NSt.cells (h : NSt M A w X na wx) : wx.cell? ⟨X, 0, none⟩ = some (.int .i64 (M : Int)) ∧ wx.cell? ⟨X, 1, none⟩ = some na :=
  ⟨(cell_of_row wx X 0 _ _ _ h.boxn).trans rfl, (cell_of_row wx X 1 _ _ _ h.boxn).trans rfl⟩
theorem NF.on (h : NF M A w X na vf F wx) (hb : Below wx.heap.size wx wy) : NF M A w X na vf F wy := ⟨h.st.on hb, ints_on h.fl hb⟩
theorem NF.held (h : NF M A w X na vf F wx) (hb : Below wx.heap.size wx wy) : wy.cell? ⟨X, 0, none⟩ = some (.int .i64 (M : Int)) ∧ wy.cell? ⟨X, 1, none⟩ = some na ∧ NF M A w X na vf F wy :=
  have h2 := h.on hb
  ⟨h2.st.cells.1, h2.st.cells.2, h2⟩
end

/-- The cost before so many units; the step to it. -/
noncomputable def lastV (n : Nat) (A : List ArcD) (k : Nat) : Int := if k = 0 then 0 else cheapC n A ((k - 1 : Nat) : Int)
noncomputable def stepV (n : Nat) (A : List ArcD) (k : Nat) : Int := lastV n A k - lastV n A (k - 1)
theorem cheapC_is {n k : Nat} {A : List ArcD} {F : List Int} (hn : netOkV n A = true) (hk : k ≤ 16) (h : cheapF A n k = some F) : cheapC n A (k : Int) = costO (A.zip F) := by
  have := (cheap_yes ((cheapO_is hn hk).trans h)).2.1
  exact this
theorem cost_bd {n k : Nat} {A : List ArcD} {F : List Int} (hn : netOkV n A = true) (h : cheapF A n k = some F) : 0 ≤ costO (A.zip F) ∧ costO (A.zip F) ≤ 6400000 := by
  obtain ⟨hA, hp⟩ := flow_rooms (cheap_ok hn h).1
  have := costO_bound (P := A.zip F) (fun p hm => ⟨hp p hm, (arcOk_out ((netOk_out hn).2.2 _ (zip_arc hm))).2.2.2.2⟩)
  rw [List.length_zip] at this
  omega
theorem costO_zero : ∀ (A : List ArcD) (n : Nat), costO (A.zip (List.replicate n 0)) = 0
  | [], n => by simp [costO]
  | a :: A, 0 => by simp [costO]
  | a :: A, n + 1 => by
    rw [List.replicate_succ, List.zip_cons_cons, costO, costO_zero A n]
    simp
theorem cost_le {n k : Nat} {A : List ArcD} {F : List Int} (hn : netOkV n A = true) (hk : k ≤ 16) (h : cheapF A n k = some F) : (0 ≤ lastV n A k ∧ lastV n A k ≤ 6400000) ∧ stepV n A k ≤ costO (A.zip F) - lastV n A k ∧ lastV n A (k + 1) = costO (A.zip F) ∧ stepV n A (k + 1) = costO (A.zip F) - lastV n A k := by
  have e1 : lastV n A (k + 1) = costO (A.zip F) := by
    unfold lastV
    rw [if_neg (by omega)]
    exact cheapC_is hn hk h
  refine ⟨?_, ?_, e1, by unfold stepV; rw [e1]; rfl⟩
  · unfold lastV
    by_cases h0 : k = 0
    · rw [if_pos h0]; omega
    · rw [if_neg h0]
      obtain ⟨F', h1⟩ := cheap_down h (show k - 1 ≤ k by omega)
      rw [cheapC_is hn (by omega) h1]
      exact cost_bd hn h1
  · cases k with
    | zero =>
      cases h
      unfold stepV lastV
      rw [costO_zero]
      simp
    | succ k =>
      obtain ⟨F', h1, _, _⟩ := cheapF_succ h
      have e2 : lastV n A (k + 1) = costO (A.zip F') := by
        unfold lastV
        rw [if_neg (by omega)]
        exact cheapC_is hn (by omega) h1
      cases k with
      | zero =>
        unfold stepV
        rw [e2]
        have := cheap_first hn h1 h
        cases h1
        unfold lastV
        rw [costO_zero] at this ⊢
        simp
        omega
      | succ k =>
        obtain ⟨F'', h2, _, _⟩ := cheapF_succ h1
        have e3 : lastV n A (k + 1) = costO (A.zip F'') := by
          unfold lastV
          rw [if_neg (by omega)]
          exact cheapC_is hn (by omega) h2
        have := cheap_more hn h2 h1 h
        unfold stepV
        rw [e2, show k + 1 + 1 - 1 = k + 1 from rfl, e3]
        exact this

set_option maxRecDepth 100000 in
set_option maxHeartbeats 4000000 in
theorem walk_in (N : Nat) (B : Nat → Int) (v : Value) (hN : N ≤ 1048576) (w : World) (hc : CodeF w v N B w.heap.size) :
    Calls Try.prog 3 #[v] w fun e w' => e = .returned (.bool true) ∧ Below w.heap.size w w' := by
  have HC := Lib.hid hc
  go_enter Try.func3, Try.ntmps3
  go_wp2_with fail
  refine (bigNo N _ B v w hc hN).mono ?_
  rintro e w' ⟨rfl, rfl⟩
  clear hc
  go_wp2_with fail
  refine (drawNet N B v w (by omega) HC.out).mono ?_
  rintro e w1 ⟨na, rfl, ha, hb⟩
  obtain ⟨an, cn, rfl, _⟩ := arcs_form ha
  obtain ⟨hnet, hA18⟩ := dp_ok N B
  obtain ⟨⟨hM2, hM15⟩, _, _⟩ := netOk_out hnet
  generalize dpA N B = A at ha hnet hA18 ⊢
  generalize dpM N B = M at hnet hM2 hM15 ⊢
  have HNT := Lib.hid hnet
  have hb2 := (Below.refl w1.heap.size w1).alloc (Nat.le_refl _) (.cells #[.int .i64 (M : Int), .slice an A.length cn] 26)
  have HS0 : Hid (NSt M A w w1.heap.size (.slice an A.length cn) (w1.alloc (.cells #[.int .i64 (M : Int), .slice an A.length cn] 26))) := Lib.hid
    ⟨hb.trans (hb2.mono hb.size), heap_alloc_new w1 _, arcs_on ha hb2⟩
  clear ha hb hb2 hnet
  go_upto_region 4 with fail
  generalize w1.alloc (.cells #[.int .i64 (M : Int), .slice an A.length cn] 26) = w2 at HS0 ⊢
  generalize w1.heap.size = X at HS0 ⊢
  obtain ⟨c0, c1⟩ := HS0.out.cells
  obtain ⟨m9, HM⟩ : ∃ m, Hid (mostN M A = m) := ⟨_, rfl⟩
  obtain ⟨o, HO⟩ : ∃ o, Hid (mostO M A = o) := ⟨_, rfl⟩
  obtain ⟨z, HZ⟩ : ∃ z, Hid (mostS M A = z) := ⟨_, rfl⟩
  go_wp2_with fail
  refine (implMost M A _ z o m9 (by omega) HZ HO HM _ HS0.out.arcn).mono ?_
  rintro e w3 ⟨vg, rfl, _, hb⟩
  have HS3 := Lib.hid (HS0.out.on hb)
  clear hb c0 c1 HS0
  go_wp2_with fail
  go_loopw [6, 7, 8] (fun la st i wr => ∃ k : Nat, i = .int .i64 k ∧ k ≤ 9 ∧ la = .int .i64 (lastV M A k) ∧ st = .int .i64 (stepV M A k) ∧ NSt M A w X (.slice an A.length cn) wr) (fun _ _ i _ => 9 - (intOf i).toNat)
  case atStart => exact ⟨0, rfl, by omega, rfl, rfl, HS3.out⟩
  case round =>
    clear HS3
    obtain ⟨k, rfl, hk, rfl, rfl, hS⟩ := hrel
    by_cases hlt : k ≤ 8
    · have hlt2 : (k : Int) ≤ 8 := by omega
      obtain ⟨c0, c1⟩ := hS.cells
      obtain ⟨R, HR⟩ : ∃ R, Hid (cheapL M A (k : Int) = R) := ⟨_, rfl⟩
      obtain ⟨zc, HZC⟩ : ∃ z, Hid (cheapC M A (k : Int) = z) := ⟨_, rfl⟩
      have HS := Lib.hid hS
      have hci := cheap_iff HNT.out k
      rw [HZ.out] at hci
      clear hS
      cases hf : cheapF A M k with
      | none =>
        obtain ⟨_, _, e3⟩ := cheap_no ((cheapO_is HNT.out (by omega)).trans hf)
        have HB9 := Lib.hid e3
        have hkm : ¬ ((k : Int) ≤ z) := by rw [hf] at hci; exact of_decide_eq_false hci.symm
        have hk0 : (0 : Int) < (k : Int) := by
          cases k with
          | zero => cases hf
          | succ k => omega
        have HLV : Hid (leastV M A (k : Int) = -1) := Lib.hid (by unfold leastV; rw [if_neg (by rw [e3]; simp)])
        clear e3 hci hf
        go_wp2_with (first
          | (go_at_call 9; refine (implCheap M A k _ R zc false (by omega) HR HZC HB9 _ HS.out.arcn).mono ?_; rintro e w4 ⟨vr, rfl, _, hb⟩; have HS4 := Lib.hid (HS.out.on hb); obtain ⟨c0, c1⟩ := HS4.out.cells; clear hb)
          | (go_at_call 10; refine (implLeast M A k _ (-1) (by omega) HLV _ HS4.out.arcn).mono ?_; rintro e w5 ⟨rfl, hb⟩; have HS5 := Lib.hid (HS4.out.on hb); clear hb))
        go_ret
        exact ⟨by rw [show decide (0 < k) = true from decide_eq_true (by omega)]; rfl, HS5.out.below⟩
      | some F =>
        obtain ⟨e1, e2, e3⟩ := cheap_yes ((cheapO_is HNT.out (by omega)).trans hf)
        have HB9 := Lib.hid e3
        have hkm : (k : Int) ≤ z := by rw [hf] at hci; exact of_decide_eq_true hci.symm
        obtain ⟨⟨hl0, hl1⟩, hst, hln, hsn⟩ := cost_le HNT.out (by omega) hf
        obtain ⟨hc0, hc1⟩ := cost_bd HNT.out hf
        obtain ⟨hok, hsz, _⟩ := cheap_ok HNT.out hf
        have hcost := e2
        rw [HR.out] at e1
        rw [HZC.out] at e2
        subst e1
        have HLV : Hid (leastV M A (k : Int) = zc) := Lib.hid (by unfold leastV; rw [if_pos e3]; exact HZC.out)
        have HFO : Hid (flowOkV M A R = true) := Lib.hid hok
        have HFS : Hid (flowSizeV M A R = (k : Int)) := Lib.hid (by unfold flowSizeV; rw [if_pos hok, hsz])
        have HFC : Hid (flowCostV M A R = zc) := Lib.hid (by unfold flowCostV; rw [if_pos hok, e2])
        have hFl : R.length ≤ 2000000 := by have := (flowOk_out hok).2.1; omega
        rw [← e2] at hst hln hsn hc0 hc1
        have HLN := Lib.hid hln
        have HSN := Lib.hid hsn
        generalize lastV M A k = la at hl0 hl1 hst HSN ⊢
        generalize stepV M A k = st at hst ⊢
        have hw : IntKind.i64.wrap (zc - la) = zc - la := IntWalk.i64_in _ (by omega)
        have hnl : ¬ zc - la < st := by omega
        have hzz : (zc != zc) = false := by simp
        have hkk : ((k : Int) != (k : Int)) = false := by simp
        clear e2 e3 hci hf hok hsz hcost hln hsn hst
        go_wp2_with (go_at_call 9; refine (implCheap M A k _ R zc true (by omega) HR HZC HB9 _ HS.out.arcn).mono ?_; rintro e w4 ⟨vf, rfl, hown, hb⟩; have HS4 := Lib.hid (HS.out.on hb); have HOW := Lib.hid hown; obtain ⟨c0, c1⟩ := HS4.out.cells; clear hb hown)
        obtain ⟨af, cf, rfl⟩ := own_form HOW.out
        have HNF : Hid (NF M A w X (.slice an A.length cn) (.slice af R.length cf) R w4) := Lib.hid ⟨HS4.out, ints_of_own HOW.out⟩
        have hS4 := HNF.out.held (Below.refl w4.heap.size w4).drew
        clear c0 c1
        go_region_held3 (fun w' => w'.cell? ⟨X, 0, none⟩ = some (.int .i64 (M : Int)) ∧ w'.cell? ⟨X, 1, none⟩ = some (.slice an A.length cn) ∧ NF M A w X (.slice an A.length cn) (.slice af R.length cf) R w')
          (first | exact hS | exact hS4 | (go_split_ands; exact NF.held (by assumption) ((Below.refl _ _).alloc (Nat.le_refl _) _)) | go_keep)
          (first
            | ((try go_split_ands); rw [if_pos (by rfl)]; have hS0 : NF M A w X (.slice an A.length cn) (.slice af R.length cf) R _ := (by assumption); refine wp_copy _ _ rfl _ rfl _ R rfl hS0.fl (by omega) ?_; intro v5 w5 hv5 hb; have hS := NF.held hS0 hb; clear hb)
            | (go_at_call 11; (try go_split_ands); have hS0 : NF M A w X (.slice an A.length cn) (.slice af R.length cf) R _ := (by assumption); (with_reducible refine (implFlowOk M A R _ _ true (by omega) hFl HFO _ hS0.st.arcn (by assumption)).mono ?_); rintro e w6 ⟨rfl, hb⟩; (try go_split_ands); have hS := NF.held hS0 hb; clear hb)
            | (go_at_call 12; (try go_split_ands); have hS0 : NF M A w X (.slice an A.length cn) (.slice af R.length cf) R _ := (by assumption); (with_reducible refine (implFlowSize M A R _ _ (k : Int) (by omega) hFl HFS _ hS0.st.arcn (by assumption)).mono ?_); rintro e w7 ⟨rfl, hb⟩; (try go_split_ands); have hS := NF.held hS0 hb; clear hb)
            | (go_at_call 13; (try go_split_ands); have hS0 : NF M A w X (.slice an A.length cn) (.slice af R.length cf) R _ := (by assumption); (with_reducible refine (implFlowCost M A R _ _ zc (by omega) hFl HFC _ hS0.st.arcn (by assumption)).mono ?_); rintro e w8 ⟨rfl, hb⟩; (try go_split_ands); have hS := NF.held hS0 hb; clear hb)
            | (go_at_call 10; (try go_split_ands); have hS0 : NF M A w X (.slice an A.length cn) (.slice af R.length cf) R _ := (by assumption); (with_reducible refine (implLeast M A k _ zc (by omega) HLV _ hS0.st.arcn).mono ?_); rintro e w9 ⟨rfl, hb⟩; (try go_split_ands); have hS := NF.held hS0 hb; clear hb))
        have HN9 := Lib.hid hS.2.2.st
        clear hS HNF HOW HS4
        go_wp2_with fail
        go_roundw
        case rel => exact ⟨k + 1, by go_num, by omega, by rw [HLN.out], by rw [HSN.out], HN9.out⟩
        case measure => simp [intOf]; omega
    · obtain rfl : k = 9 := by omega
      have HS := Lib.hid hS
      clear hS
      go_wp2_with fail
      go_ret
      exact ⟨rfl, HS.out.below⟩

theorem walk_big (N : Nat) (B : Nat → Int) (v : Value) (hN : N ≤ maxLen) (w : World) (hc : CodeF w v N B w.heap.size) (h : 1048576 < N) :
    Calls Try.prog 3 #[v] w fun e w' => e = .returned (.bool true) ∧ Below w.heap.size w w' := by
  go_enter Try.func3, Try.ntmps3
  go_wp2_with fail
  refine (bigYes N _ B v w hN hc h).mono ?_
  rintro e w' ⟨rfl, rfl⟩
  go_wp2_with fail
  go_ret
  exact ⟨rfl, Below.refl _ _⟩

theorem walk (v : Value) (N : Nat) (w : World) (hc : CodeB w v N w.heap.size) (hN : N ≤ maxLen) :
    Calls Try.prog 3 #[v] w fun e w' => e = .returned (.bool true) ∧ Below w.heap.size w w' := by
  obtain ⟨B, hF⟩ := code_of hc
  rcases Nat.lt_or_ge 1048576 N with h | h
  · exact walk_big N B v hN w hF h
  · exact walk_in N B v h w hF
-- LIFT
set_option maxRecDepth 100000 in
theorem lifted (os : Os) (started : os.Started) (H : Type) (enc : TypeId × Value → H) :
    ReturnsInHanded {} Try.checked os 3 .any (Rows.fnCheapestSpec.pre6 enc Try.prog Try.f3 Rows.fnCheapestRow.domain false) (Rows.fnCheapestSpec.post enc Try.prog Try.f3 false true false false) := by
  refine returnsInHanded_of_change (C := Try.checked) own started (by kernel_rfl) Try.func3
    (ChangeSpec.witness6 (enc := enc) (C := Try.checked) false ⟨#[], #[.slice none 0 0], []⟩ 8 (by kernel_rfl) (by kernel_rfl) (by kernel_rfl) (by kernel_rfl)) ?_
  intro W base args ds gs before hval0 hW hcnd _
  have hval : ∀ (j : Nat) t v, Try.f3.params[j]? = some t → args[j]? = some v → Value.okWide Try.prog W .any base t v := hval0
  have hW' := hW
  obtain ⟨p, q, hA0, hV, rfl, hfz, hnd⟩ := hW
  have hA : DataW.TrodAll enc Try.prog W 0 (fun _ => true) true Try.f3.params.toList args.toList ds p := hA0
  rw [Try.params3] at hA hval
  obtain ⟨v0, vs0, d0, ds0, p0, q0, hargs, rfl, rfl, h0, r0⟩ := trodAll_cons hA
  obtain ⟨rfl, rfl, rfl⟩ := trodAll_nil r0
  obtain rfl : args = #[v0] := by cases args; simp_all
  obtain ⟨rfl, rfl⟩ := trodVars_none hV
  obtain ⟨L0, w0, l0, again0⟩ := open_arg_bytes (hval 0 22 v0 rfl rfl) h0
  clear hA0 hval0
  simp only [List.append_nil] at hW'
  refine (walk v0 L0 W w0 l0).mono fun e W' ⟨he, hg⟩ => ?_
  subst he
  exact ⟨_, rfl, post_of_below (pa := p0 ++ ([])) (pv := []) hW' (fun _ _ _ => (trodAll_cons_mk (shut_bool Try.underlying4 _) trodAll_mk0)) (fun sp hsp => (trodAll_cons_mk (again0 W' hg sp (fun p hp => hsp p (by simp [hp]))) trodAll_mk0)) (fun _ _ => rfl) (by simp)
    hg (ok_one (by kernel_rfl) rfl (okWide_bool_mk Try.underlying4 _))⟩

theorem over : Rows.fnCheapestRow.holds Try.pinned (OpenSpec.ofChange Rows.fnCheapestSpec) :=
  OpenClaim.holds_of_wide 3 Try.f3 rfl rfl rfl rfl rfl rfl rfl ⟨rfl, rfl, rfl, rfl, rfl⟩ rfl rfl rfl rfl rfl (by kernel_rfl) Try.func3 (by kernel_rfl)
    (of_decide_eq_true (by kernel_rfl)) (by unfold Func.isWrapper; first | (rw [if_pos (by decide +kernel)]; kernel_rfl) | (rw [if_neg (by decide +kernel)]; exact ⟨rfl, rfl⟩))
    (fun os started H enc _ => lifted os started H enc)

theorem proved : Rows.FnCheapestSaid :=
  over

end Go.Proofs.Ythaaadbeoedgbaa.fnCheapest
