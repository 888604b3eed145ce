/-
  CONTRACT of laws.copied. No law is proved here.
  A REGION THAT DRAWS ITS ORDER, BY WHAT HOLDS OF EACH OPERATION'S VALUE: no order is gone through; each operation is shown once, at any world in which those that it waits for have their values. Memory may be made by many of them. No statement is proved here.
-/
import Derived.Test.YtkbfbifepaoojaaGreatDoorZPU14
import Derived.Test.YtkbfbifepaoojaaGreatDoorZPU09
import Derived.Test.YtkbfbifepaoojaaGreatDoorZPU17
import Derived.Test.YtkbfbifepaoojaaGreatDoorZPU18
import Derived.OrdersHeld
import Derived.StillTail
import Derived.Deep.RegionHeld
import Derived.Test.YtkbfbifepaoojaaGreatDoorZPU00
namespace Go.Proofs.YtkbfbifepaoojaaGreatDoor
set_option maxRecDepth 4096
open Go.ChangeShapes Go.WideShapes Go.ChangeAt Go.RowKit

theorem way_newC (w : World) (u : Value) (t : TypeId) : ∀ j x, [u][j]? = some x → (w.alloc (.cells #[u] t)).cell? ((⟨w.heap.size, 0, none⟩ : Addr).add j) = some x := by
  intro j x h
  have hadd : (⟨w.heap.size, 0, none⟩ : Addr).add j = ⟨w.heap.size, j, none⟩ := by unfold Addr.add; split <;> simp_all
  rw [hadd, World.cell?_alloc_mark]
  simpa using h
/-- Ways came back, each in memory of its own. -/
def OutBack (w : World) (Ws : List (List Int)) (e : Ending) (w' : World) : Prop :=
  ∃ v vs, e = .returned v ∧ OutW w' w.heap.size v vs Ws ∧ Below w.heap.size w w'

set_option maxHeartbeats 2000000 in
theorem lawCopied (v : Value) (Ws : List (List Int)) (hW : Ws.length ≤ 2000000) (hT : totW Ws ≤ 2000000) (w : World) (hv : WaysAt w v Ws) :
    Calls Tryz.prog 9 #[v] w (OutBack w Ws) := by
  obtain ⟨i0, hi, hz0, hz1, hz2⟩ := info_parts Tryz.infoWay
  have HVV := Lib.hid hv
  have HTh := Lib.hid hT
  have HO0 := Lib.hid (own_made0 w 51)
  have HB0 := Lib.hid ((Below.refl w.heap.size w).alloc (Nat.le_refl _) (.cells #[] 51))
  obtain ⟨av, cv, rfl, _⟩ := hv
  clear hT
  go_enter Tryz.func9, Tryz.ntmps9
  go_wp2_with fail
  go_loopw [3, 4] (fun s i wr => ∃ (k : Nat) (vs : List Value), k ≤ Ws.length ∧ i = .int .i64 k ∧ vs.length = k ∧ wr.ownsRow w.heap.size 51 1 s k vs ∧ AllR wr w.heap.size vs (Ws.take k) ∧ Below w.heap.size w wr) (fun _ i _ => Ws.length - (intOf i).toNat)
  case atStart => exact ⟨0, [], Nat.zero_le _, rfl, rfl, HO0.out, .nil, HB0.out⟩
  case round =>
    obtain ⟨k, vs, hk, rfl, hvl, hown, hall, hbe⟩ := hrel
    have HO := Lib.hid hown
    have HB := Lib.hid hbe
    have HA := Lib.hid hall
    have HVL := Lib.hid hvl
    clear hown hbe hall hvl
    by_cases hlt : k < Ws.length
    · have hlt2 : (k : Int) < (Ws.length : Int) := by omega
      obtain ⟨L, hx⟩ : ∃ L, Ws[k]? = some L := ⟨_, List.getElem?_eq_getElem hlt⟩
      have hLb := totW_one hx
      have hLb2 : L.length ≤ 2000000 := by have := HTh.out; omega
      have hb1 := (Below.refl wr.heap.size wr).alloc (Nat.le_refl _) (.cells #[] 3)
      have HBW := Lib.hid (HB.out.trans (hb1.mono HB.out.size))
      obtain ⟨g, au, c, e, hg, u, bu, rfl, d1, hI⟩ := way_at (waysAt_on HVV.out HBW.out) hx
      injection e with e1 e2 e3
      subst e1 e3
      have HI := Lib.hid (argI_of_ints hI)
      have hts : Ws.take (k + 1) = Ws.take k ++ [L] := by
        obtain ⟨h1, h2⟩ := List.getElem?_eq_some_iff.1 hx
        rw [List.take_succ_eq_append_getElem h1, h2]
      have HTS := Lib.hid hts
      have hbs := HB.out.size
      clear hx e2 hI hLb hb1 hts
      go_wp2_with (at_builtin; first
        | (refine wpList_app rfl _ _ rfl wr.heap.size _ _ [] L rfl rfl (by exact own_made0 wr 3) HI.out (by simp; omega) (by simp) ?_; intro v' w2 hown2 hgr2; have hb2 : Below wr.heap.size wr w2 := ((Below.refl _ _).alloc (Nat.le_refl _) _).grown hgr2 (by simp) (fun j hj => by cases hj; exact Nat.le_refl _); rw [List.nil_append] at hown2; have HB2 := Lib.hid hb2; have HA2 := Lib.hid (HA.out.snoc hown2 hb2 hbs); have HO2 := Lib.hid (own_below HO.out hb2 hbs); obtain ⟨a2, c2, rfl⟩ := own_form hown2; clear hown2 hgr2 hb2)
        | (have hb3 := (Below.refl w2.heap.size w2).alloc (Nat.le_refl _) (.cells #[.slice a2 L.length c2] 51); have HA3 := Lib.hid (HA2.out.on hb3); have HO3 := Lib.hid (own_below HO2.out hb3 (Nat.le_trans hbs HB2.out.size)); have HB3 := Lib.hid (HB2.out.trans (hb3.mono HB2.out.size)); clear hb3; refine wpList_append_own _ rfl _ _ 27 rfl w.heap.size 51 i0 (.agg #[.slice none 0 0]) 1 24 Tryz.underlying27 hi hz0 hz1 hz2 rfl (by decide) _ _ _ rfl HO3.out ⟨w2.heap.size, 0, none⟩ 1 1 [.slice a2 L.length c2] rfl rfl (way_newC _ _ _) (by simp [Value.oneCell']) (by unfold maxLen; omega) (by omega) (by have := HB3.out.size; omega) ?_; intro v' w6 hown6 hgr6 _; have HA6 := Lib.hid (HA3.out.kinds HO3.out (by decide) hgr6); have HB6 := Lib.hid ((HB.out.trans (HB3.out.mono hbs)).grown hgr6 (by have := HB3.out.size; omega) (fun j hj => (HO3.out.lt j hj).1)); have HO6 := Lib.hid hown6; clear hown6 hgr6))
      go_roundw
      case rel => exact ⟨k + 1, vs ++ [.slice a2 L.length c2], by omega, by go_num, by rw [List.length_append, HVL.out]; rfl, HO6.out, by rw [HTS.out]; exact HA6.out, HB6.out⟩
      case measure => simp [intOf]; omega
    · obtain rfl : k = Ws.length := by omega
      have hnl : ¬ (Ws.length : Int) < (Ws.length : Int) := by omega
      have ha := HA.out
      rw [List.take_length] at ha
      have HAA := Lib.hid ha
      have HO2 : Hid (wr.ownsRow w.heap.size 51 1 _ vs.length vs) := Lib.hid (by rw [HVL.out]; exact HO.out)
      clear ha
      go_wp2_with fail
      go_ret
      exact ⟨_, vs, rfl, ⟨HO2.out, HAA.out⟩, HB.out⟩

end Go.Proofs.YtkbfbifepaoojaaGreatDoor

namespace Go.Proofs.YtkbfbifepaoojaaGreatDoor
open Go Go.ChangeShapes Go.WideShapes Go.ChangeAt Go.RowKit

section
variable {P : Program} {ops : Array Oper} {Q : Exit → Act → World → Prop}

/-- All that an operation waits for stands ahead of it. -/
def aheadB (ops : Array Oper) : Bool := (List.range ops.size).all fun j => match ops[j]? with | some o => o.after.all fun e => !(Region.binds .any e) || decide (e.on < j) | none => true
theorem ahead_spec (h : aheadB ops = true) {j : Nat} {o : Oper} (ho : ops[j]? = some o) {e : Edge} (he : e ∈ o.after) (hb : Region.binds .any e = true) : e.on < j := by
  unfold aheadB at h
  have hj := (Array.getElem?_eq_some_iff.1 ho).1
  have h1 := List.all_eq_true.1 h j (List.mem_range.2 hj)
  rw [ho] at h1
  have h2 := Array.all_eq_true_iff_forall_mem.1 h1 e he
  rw [hb] at h2
  simpa using h2
theorem getD_in {listed : Array Bool} {j : Nat} (h : j < listed.size) : listed.getD j true = listed.getD j false := by simp [h]
theorem all_listed (hac : aheadB ops = true) {listed : Array Bool} (hs : listed.size = ops.size) (hr : Region.ready .any ops listed = []) : ∀ j, j < ops.size → listed.getD j false = true := by
  intro j
  induction j using Nat.strongRecOn with
  | ind j ih =>
    intro hj
    refine Decidable.byContradiction fun hn => ?_
    have hf : listed.getD j true = false := by rw [getD_in (by omega)]; simpa using hn
    have : j ∈ Region.ready .any ops listed := mem_ready.2 ⟨hf, ops[j], Array.getElem?_eq_getElem hj, fun e he hb => by
      have := ahead_spec hac (Array.getElem?_eq_getElem hj) he hb
      exact ih e.on this (by omega)⟩
    rw [hr] at this
    cases this
/-- How many are not yet listed. -/
def openN (n : Nat) (listed : Array Bool) : Nat := (List.range n).countP fun j => !listed.getD j true
theorem open_set {listed : Array Bool} {i : Nat} (hf : listed.getD i true = false) : ∀ {n : Nat}, i < n → openN n (listed.setIfInBounds i true) + 1 ≤ openN n listed
  | 0, h => absurd h (by omega)
  | n + 1, h => by
    have hle : ∀ m, openN m (listed.setIfInBounds i true) ≤ openN m listed := fun m => by
      unfold openN
      refine List.countP_mono_left fun j _ hj => ?_
      by_cases hji : j = i
      · subst hji
        simp [hf]
      · rw [getD_set_ne true (Ne.symm hji)] at hj
        exact hj
    unfold openN
    rw [List.range_succ, List.countP_append, List.countP_append]
    by_cases hi : i < n
    · have := open_set hf hi
      unfold openN at this
      have h2 : ([n].countP fun j => !(listed.setIfInBounds i true).getD j true) = [n].countP fun j => !listed.getD j true := by
        simp only [List.countP_cons, List.countP_nil]
        rw [getD_set_ne true (show i ≠ n by omega)]
      omega
    · obtain rfl : i = n := by omega
      have h1 := hle i
      unfold openN at h1
      have hlt : i < listed.size := Decidable.byContradiction fun h => by simp [h] at hf
      have h2 : ([i].countP fun j => !(listed.setIfInBounds i true).getD j true) = 0 := by simp [hlt]
      have h3 : ([i].countP fun j => !listed.getD j true) = 1 := by simp only [List.countP_cons, List.countP_nil, hf]; rfl
      omega

/-- The values with one more. -/
def updV (V : Nat → Value) (i : Nat) (v : Value) : Nat → Value := fun j => if j = i then v else V j
/-- What holds when some are listed. -/
structure InvR (ops : Array Oper) (F : Nat → Value → World → Prop) (S : World → Prop) (mk : (Nat → Value) → Act) (listed : Array Bool) (a : Act) (w : World) : Prop where
  size : listed.size = ops.size
  held : S w
  act : ∃ V, a = mk V ∧ ∀ j, listed.getD j false = true → F j (V j) w
/-- One operation, once. -/
def StepR (P : Program) (ops : Array Oper) (Q : Exit → Act → World → Prop) (F : Nat → Value → World → Prop) (S : World → Prop) (mk : (Nat → Value) → Act) (i : Nat) : Prop :=
  ∀ (V : Nat → Value) (w : World), S w → (∀ o, ops[i]? = some o → ∀ e ∈ o.after, Region.binds .any e = true → F e.on (V e.on) w) → wpOp P ops Q i (fun a' w' => ∃ v, a' = mk (updV V i v) ∧ F i v w' ∧ S w' ∧ Below w.heap.size w w') (mk V) w
theorem any_inv {F : Nat → Value → World → Prop} {S : World → Prop} {mk : (Nat → Value) → Act} (hac : aheadB ops = true) (mono : ∀ j v w w', F j v w → Below w.heap.size w w' → F j v w')
    (step : ∀ i, i < ops.size → StepR P ops Q F S mk i) (fin : ∀ V w, S w → (∀ j, j < ops.size → F j (V j) w) → Q .normal (mk V) w) :
    ∀ (fuel : Nat) (listed : Array Bool) (a : Act) (w : World), openN ops.size listed ≤ fuel → InvR ops F S mk listed a w → wpAny P .any ops Q fuel listed a w := by
  have hfin : ∀ listed a w, InvR ops F S mk listed a w → Region.ready .any ops listed = [] → Q .normal a w := fun listed a w h hr => by
    obtain ⟨V, rfl, hF⟩ := h.act
    exact fin V w h.held fun j hj => hF j (all_listed hac h.size hr j hj)
  intro fuel
  induction fuel with
  | zero =>
    intro listed a w hn h
    have hr : Region.ready .any ops listed = [] := by
      cases e : Region.ready .any ops listed with
      | nil => rfl
      | cons j _ =>
        have hj : j ∈ Region.ready .any ops listed := by rw [e]; exact List.mem_cons_self ..
        obtain ⟨hf, o, ho, _⟩ := mem_ready.1 hj
        have := open_set hf (Array.getElem?_eq_some_iff.1 ho).1
        omega
    exact ⟨hr, hfin _ _ _ h hr⟩
  | succ fuel ih =>
    intro listed a w hn h
    refine ⟨hfin _ _ _ h, fun i hi => ?_⟩
    obtain ⟨hf, o, ho, hd⟩ := mem_ready.1 hi
    have hil := (Array.getElem?_eq_some_iff.1 ho).1
    obtain ⟨V, rfl, hF⟩ := h.act
    refine wpOp_mono (fun a' w' hk => ?_) (step i hil V w h.held fun o' ho' e he hb => by
      rw [ho] at ho'
      cases ho'
      exact hF _ (hd e he hb))
    obtain ⟨v, rfl, hv, hS, hB⟩ := hk
    have := open_set hf hil
    refine ih _ _ _ (by omega) ⟨by rw [Array.size_setIfInBounds]; exact h.size, hS, _, rfl, fun j hj => ?_⟩
    unfold updV
    by_cases hji : j = i
    · subst hji
      rw [if_pos rfl]
      exact hv
    · rw [if_neg hji]
      rw [getD_set_ne false (Ne.symm hji)] at hj
      exact mono _ _ _ _ (hF j hj) hB
/-- The beginning. -/
theorem wp_region_inv {id : Nat} {a : Act} {w : World} (F : Nat → Value → World → Prop) (S : World → Prop) (mk : (Nat → Value) → Act) (V0 : Nat → Value) (hm : P.follows .mixedOrders = true) (hac : aheadB ops = true) (ha : a = mk V0) (hS : S w.drew)
    (mono : ∀ j v w w', F j v w → Below w.heap.size w w' → F j v w') (step : ∀ i, i < ops.size → StepR P ops Q F S mk i) (fin : ∀ V w, S w → (∀ j, j < ops.size → F j (V j) w) → Q .normal (mk V) w) :
    (Code.region id ops true).wp P Q a w := by
  refine wp_region_any hm (any_inv hac mono step fin _ _ _ _ ?_ ⟨by simp, hS, V0, ha, fun j hj => ?_⟩)
  · unfold openN
    refine Nat.le_trans List.countP_le_length ?_
    simp
  · rw [getD_replicate_false] at hj
    cases hj
/-- The last operation waits for all others. -/
def lastB (ops : Array Oper) (L : Nat) : Bool := match ops[L]? with | some o => (List.range ops.size).all fun j => decide (j = L) || o.after.any fun e => Region.binds .any e && decide (e.on = j) | none => false
theorem last_spec {L : Nat} (h : lastB ops L = true) {listed : Array Bool} (hr : L ∈ Region.ready .any ops listed) : ∀ j, j < ops.size → j ≠ L → listed.getD j false = true := by
  intro j hj hne
  obtain ⟨_, o, ho, hd⟩ := mem_ready.1 hr
  unfold lastB at h
  rw [ho] at h
  have h1 := List.all_eq_true.1 h j (List.mem_range.2 hj)
  rw [Bool.or_eq_true, decide_eq_true_eq] at h1
  rcases h1 with h1 | h1
  · exact absurd h1 hne
  · obtain ⟨i, hi, hb⟩ := Array.any_eq_true.1 h1
    rw [Bool.and_eq_true, decide_eq_true_eq] at hb
    rw [← hb.2]
    exact hd _ (Array.getElem_mem hi) hb.1
theorem any_done {listed : Array Bool} {a : Act} {w : World} (h : ∀ j, j < ops.size → listed.getD j true = true) (hQ : Q .normal a w) : ∀ fuel, wpAny P .any ops Q fuel listed a w := by
  have hr : Region.ready .any ops listed = [] := by
    cases e : Region.ready .any ops listed with
    | nil => rfl
    | cons j _ =>
      have hj : j ∈ Region.ready .any ops listed := by rw [e]; exact List.mem_cons_self ..
      obtain ⟨hf, o, ho, _⟩ := mem_ready.1 hj
      rw [h j (Array.getElem?_eq_some_iff.1 ho).1] at hf
      cases hf
  intro fuel
  cases fuel with
  | zero => exact ⟨hr, hQ⟩
  | succ f => exact ⟨fun _ => hQ, fun j hj => by rw [hr] at hj; cases hj⟩
theorem any_inv_last {F : Nat → Value → World → Prop} {S : World → Prop} {mk : (Nat → Value) → Act} {L : Nat} (hac : aheadB ops = true) (hL : L < ops.size) (hla : lastB ops L = true) (mono : ∀ j v w w', F j v w → Below w.heap.size w w' → F j v w')
    (step : ∀ i, i < ops.size → i ≠ L → StepR P ops Q F S mk i) (fin : ∀ V w, S w → (∀ j, j < ops.size → j ≠ L → F j (V j) w) → wpOp P ops Q L (fun a' w' => Q .normal a' w') (mk V) w) :
    ∀ (fuel : Nat) (listed : Array Bool) (a : Act) (w : World), openN ops.size listed ≤ fuel → listed.getD L true = false → InvR ops F S mk listed a w → wpAny P .any ops Q fuel listed a w := by
  intro fuel
  induction fuel with
  | zero =>
    intro listed a w hn hf h
    have := open_set hf hL
    omega
  | succ fuel ih =>
    intro listed a w hn hfL h
    refine ⟨fun hr => ?_, fun i hi => ?_⟩
    · have h1 := all_listed hac h.size hr L hL
      rw [← getD_in (by rw [h.size]; exact hL), hfL] at h1
      cases h1
    · obtain ⟨hf, o, ho, hd⟩ := mem_ready.1 hi
      have hil := (Array.getElem?_eq_some_iff.1 ho).1
      obtain ⟨V, rfl, hF⟩ := h.act
      by_cases hiL : i = L
      · subst hiL
        have hall := last_spec hla hi
        refine wpOp_mono (fun a' w' hQ => any_done (fun j hj => ?_) hQ fuel) (fin V w h.held fun j hj hne => hF j (hall j hj hne))
        by_cases hji : j = i
        · subst hji
          simp [h.size, hj]
        · rw [getD_set_ne true (Ne.symm hji), getD_in (by rw [h.size]; exact hj)]
          exact hall j hj hji
      · refine wpOp_mono (fun a' w' hk => ?_) (step i hil hiL V w h.held fun o' ho' e he hb => by
          rw [ho] at ho'
          cases ho'
          exact hF _ (hd e he hb))
        obtain ⟨v, rfl, hv, hS, hB⟩ := hk
        have := open_set hf hil
        refine ih _ _ _ (by omega) (by rw [getD_set_ne true hiL]; exact hfL) ⟨by rw [Array.size_setIfInBounds]; exact h.size, hS, _, rfl, fun j hj => ?_⟩
        unfold updV
        by_cases hji : j = i
        · subst hji
          rw [if_pos rfl]
          exact hv
        · rw [if_neg hji]
          rw [getD_set_ne false (Ne.symm hji)] at hj
          exact mono _ _ _ _ (hF j hj) hB
/-- Every operation's value is put where it goes. -/
def putsL : List Oper → Nat → Act → (Nat → Value) → Act
  | [], _, a, _ => a
  | o :: os, j, a, V => putsL os (j + 1) (a.put o.dst (V j)) V
theorem wp_region_inv2 {id : Nat} {a : Act} {w : World} (F : Nat → Value → World → Prop) (S : World → Prop) (hm : P.follows .mixedOrders = true) (hac : aheadB ops = true) (hS : S w.drew)
    (mono : ∀ j v w w', F j v w → Below w.heap.size w w' → F j v w')
    (h : ∀ mk : (Nat → Value) → Act, mk = (fun V => putsL ops.toList 0 a V) → (∃ V0, a = mk V0) ∧ (∀ i, i < ops.size → StepR P ops Q F S mk i) ∧ (∀ V w, S w → (∀ j, j < ops.size → F j (V j) w) → Q .normal (mk V) w)) :
    (Code.region id ops true).wp P Q a w := by
  obtain ⟨⟨V0, h0⟩, h1, h2⟩ := h _ rfl
  exact wp_region_inv F S _ V0 hm hac h0 hS mono h1 h2
theorem wp_region_inv_last {id : Nat} {a : Act} {w : World} (L : Nat) (F : Nat → Value → World → Prop) (S : World → Prop) (hm : P.follows .mixedOrders = true) (hac : aheadB ops = true) (hL : decide (L < ops.size) = true) (hla : lastB ops L = true) (hS : S w.drew)
    (mono : ∀ j v w w', F j v w → Below w.heap.size w w' → F j v w')
    (h : ∀ mk : (Nat → Value) → Act, mk = (fun V => putsL ops.toList 0 a V) → (∃ V0, a = mk V0) ∧ (∀ i, i < ops.size → i ≠ L → StepR P ops Q F S mk i) ∧ (∀ V w, S w → (∀ j, j < ops.size → j ≠ L → F j (V j) w) → wpOp P ops Q L (fun a' w' => Q .normal a' w') (mk V) w)) :
    (Code.region id ops true).wp P Q a w := by
  obtain ⟨⟨V0, h0⟩, h1, h2⟩ := h _ rfl
  have hL := of_decide_eq_true hL
  refine wp_region_any hm (any_inv_last hac hL hla mono h1 h2 _ _ _ _ ?_ ?_ ⟨by simp, hS, V0, h0, fun j hj => ?_⟩)
  · unfold openN
    refine Nat.le_trans List.countP_le_length ?_
    simp
  · simp [hL]
  · rw [getD_replicate_false] at hj
    cases hj
end

end Go.Proofs.YtkbfbifepaoojaaGreatDoor

