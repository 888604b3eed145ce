/-
  CONTRACTS of the program's length and distances. No law is proved here.
-/
import Derived.Test.YtobflidianlomaaRowS
import Derived.Test.YtobflidianlomaaHeapI
import Derived.Test.YtobflidianlomaaTakeI
namespace Go.Proofs.Ytobflidianlomaa
set_option maxRecDepth 4096
open Go.ChangeShapes Go.WideShapes Go.ChangeAt Go.RowKit

theorem implLength (b : Nat) (a l k : Int) (p : Option Addr) (hk : -100 ≤ k ∧ k ≤ 100) (w : World) (h : w.heap[b]? = some (boxR a l k p)) :
    Calls Try.prog 55 #[ptrV b] w fun e w' => e = .returned (.int .i64 (10000 * k + 1)) ∧ w = w' := by
  have c2 : w.cell? ⟨b, 2, none⟩ = some (.int .i64 k) := box_cell h rfl
  have e1 : IntKind.i64.wrap (10000 * k) = 10000 * k := IntWalk.i64_in _ (by omega)
  have e2 : IntKind.i64.wrap (10000 * k + 1) = 10000 * k + 1 := IntWalk.i64_in _ (by omega)
  clear h
  unfold ptrV
  go_enter Try.func55, Try.ntmps55
  go_wp2_with fail
  go_ret
  exact ⟨rfl, rfl⟩

theorem quiet_of {P : Program} {f : FuncId} {args : Array Value} {w : World} {n : Nat} {v : Value} (h : Calls P f args (w.drewN n) fun e w' => e = .returned v ∧ w.drewN n = w') :
    Calls P f args (w.drewN n) fun e w'' => e = .returned v ∧ ∃ m, w'' = w.drewN m :=
  h.mono fun _ _ ⟨he, hm⟩ => ⟨he, n, hm.symm⟩

/-- The memory of the search: the labels, the heap. -/
structure DM (w : World) (n H : Nat) (v : Value) (D : Nat → Int) (Q : List (Int × Int)) (wr : World) : Prop where
  row : wr.ownsRow w.heap.size 3 1 (.slice (some ⟨w.heap.size, 0, none⟩) n n) n ((rowO D n).map (Value.int .i64))
  bag : Bag w.heap.size H wr v Q
  below : Below w.heap.size w wr
section
variable {w wr wq : World} {n H : Nat} {v v' : Value} {D : Nat → Int} {Q Q' : List (Int × Int)}
theorem Heaped.row {B B' : Nat} {e : TypeId} {s m : Nat} {u : Value} {xs : List Value} (h : Heaped B H wr wq) (hH : wr.heap[H]? = some (heapB v)) (hr : wr.ownsRow B' e s u m xs) (h1 : e ≠ 95) (h2 : e ≠ 83) : wq.ownsRow B' e s u m xs := by
  refine ⟨hr.1, ?_⟩
  rcases hr.2 with h0 | ⟨g, cap, cur, hv, hb, hg, r⟩
  · exact .inl h0
  · refine .inr ⟨g, cap, cur, hv, hb, ?_, r⟩
    refine (h.block g (Array.getElem?_eq_some_iff.1 hg).1 (fun e1 => ?_) (.inr fun cs fr e1 => ?_)).trans hg
    · subst e1
      rw [hH] at hg
      unfold heapB at hg
      injection hg with hg
      injection hg with _ h3
      exact h2 h3.symm
    · rw [hg] at e1
      injection e1 with e1
      injection e1 with _ h3
      exact h1 h3
theorem Heaped.below {B : Nat} {w0 : World} (h : Heaped B H wr wq) (hB : Below B w0 wr) (hH : B ≤ H) (hs : B ≤ wr.heap.size) : Below B w0 wq :=
  hB.trans ⟨h.os, h.tape, h.output, h.size, fun k hk => h.block k (by omega) (by omega) (.inl hk)⟩
theorem DM.heaped (h : DM w n H v D Q wr) (hH : w.heap.size ≤ H) (hb : Bag w.heap.size H wq v' Q') (hh : Heaped w.heap.size H wr wq) : DM w n H v' D Q' wq :=
  ⟨hh.row h.bag.box h.row (by decide) (by decide), hb, hh.below h.below hH h.below.size⟩
theorem DM.at (h : DM w n H v D Q wr) {c : Nat} (hc : c < n) : wr.cell? ⟨w.heap.size, c, none⟩ = some (.int .i64 (D c)) := own_num h.row hc
theorem DM.put (h : DM w n H v D Q wr) (t : Nat) (x : Int) : DM w n H v (putE D t x) Q (wr.setCell ⟨w.heap.size, t, none⟩ (.int .i64 x)) := by
  obtain ⟨h1, h2⟩ := h.row.stored t (.int .i64 x)
  rw [rowO_put (o' := putE D t x) (putE_at _ _ _) fun j hj => putE_ne _ hj] at h1
  refine ⟨h1, ⟨?_, h.bag.row.kept h2 (own_types h.bag.row h.row (by decide))⟩, h.below.grown h2 h.below.size (fun j hj => by cases hj; exact Nat.le_refl _)⟩
  refine (h2.block H h.bag.lt (fun e => ?_)).trans h.bag.box
  have e := Option.some.inj e
  rcases h.row.2 with ⟨h0, _⟩ | ⟨g, cap, cur, hv, _, hg, _⟩
  · cases h0
  · cases hv
    rw [← e, h.bag.box] at hg
    unfold heapB at hg
    injection hg with hg
    injection hg with _ h3
    exact absurd h3 (by decide)
theorem DM.drew (h : DM w n H v D Q wr) (k : Nat) : DM w n H v D Q (wr.drewN k) := ⟨h.row, ⟨h.bag.box, h.bag.row⟩, ⟨h.below.os, h.below.tape, h.below.output, h.below.size, h.below.block⟩⟩

/-- What the loops' measure reads of memory: how far the labels can fall, how many wait. -/
def fallW (w : World) (g n : Nat) : Nat := fallS (fun v => match w.cell? ⟨g, v, none⟩ with | some x => intOf x | none => 0) n
def lenW (w : World) (H : Nat) : Nat := match w.cell? ⟨H, 0, none⟩ with | some (.slice _ n _) => n | _ => 0
theorem DM.fall (h : DM w n H v D Q wr) : fallW wr w.heap.size n = fallS D n := fallS_same fun c hc => by rw [h.at hc]; rfl
theorem DM.len (h : DM w n H v D Q wr) : lenW wr H = Q.length := by
  unfold lenW
  rw [h.bag.cell]
  rcases h.bag.row.2 with ⟨rfl, h0⟩ | ⟨g, cap, cur, rfl, _⟩
  · exact h0.symm
  · rfl
end

/-- What distances leaves. -/
def DistBack (w : World) (P : List (ArcD × Int)) (n : Nat) (e : Ending) (w' : World) : Prop :=
  ∃ (D : Nat → Int) (g : Nat), e = .returned (.slice (some ⟨g, 0, none⟩) n n) ∧ w'.ownsRow w.heap.size 3 1 (.slice (some ⟨g, 0, none⟩) n n) n ((rowO D n).map (Value.int .i64)) ∧ (∀ v, (D v = 1099511627776 ∧ ¬ ∃ d, IsD P v d) ∨ (D v ≠ 1099511627776 ∧ IsD P v (D v))) ∧ Below w.heap.size w w'

set_option maxHeartbeats 4000000 in
theorem implDistances (n : Nat) (A : List ArcD) (F : List Int) (B G : Nat) (S : Nat → Value) (X : List (Nat × Nat)) (Sx : Nat → Prop) (E : Nat → Int) (ve : Value) (hn : netOkV n A = true) (hF : F.length = A.length) (hS : Feas (A.zip F) Sx E) (he0 : E 0 = 0) (hE : ∀ v, -1500001500 ≤ E v ∧ E v ≤ 1099511627776) (w : World) (hR : RN B w G n A F S X) (hve : Ints w ve (rowO E n)) :
    Calls Try.prog 35 #[.slice (some ⟨G, 0, none⟩) n n, ve] w (DistBack w (A.zip F) n) := by
  obtain ⟨i1, hi1, hz10, hz11, hz12⟩ := info_parts Try.info3
  obtain ⟨⟨hN1, hN2⟩, hA3, hok⟩ := netOk_out hn
  have hn1 : 0 < n := by omega
  have hn15 : n ≤ 1500 := by omega
  have HP := Lib.hid (fit_of (F := F) hn)
  have HOK := Lib.hid hok
  have HR := Lib.hid hR
  have HLF := Lib.hid hF
  have HSX := Lib.hid hS
  have HE := Lib.hid hE
  obtain ⟨ae, ce, rfl, HV⟩ := ints_form hve
  rw [rowO_len]
  rcases HV with h0 | ⟨ge, rfl, hge, hce⟩
  · rw [rowO_len] at h0
    omega
  have HCE : Hid (∀ c, c < n → w.cell? ⟨ge, c, none⟩ = some (.int .i64 (E c))) := Lib.hid fun c hc => hce c _ (rowO_at E hc)
  clear hn hok hR hF hS hE hve hce hN1 hN2
  go_enter Try.func35, Try.ntmps35
  go_wp2_with (at_make; go_loud (refine wpList_make_full _ rfl (.tmp 14) (.tmp 14) 27 rfl w.heap.size 3 i1 (.int .i64 0) 1 Try.underlying27 hi1 hz10 hz11 .i64 .i64 n n n rfl rfl rfl rfl (by rw [hz12]; omega) (by unfold maxLen; omega) (Nat.le_refl _) ?_); intro w2 hrow hg2; have hB2 := (Below.refl w.heap.size w).grown hg2 (Nat.le_refl _) (fun j hj => (by cases hj)); have HR1 := Lib.hid hrow; have HB2 := Lib.hid hB2; clear hrow hg2 hB2)
  go_loopw [18] (fun i wr => ∃ k : Nat, i = .int .i64 k ∧ k ≤ n ∧ wr.ownsRow w.heap.size 3 1 (.slice (some ⟨w.heap.size, 0, none⟩) n n) n ((rowO (fun v => if v < k then 1099511627776 else 0) n).map (Value.int .i64)) ∧ Below w.heap.size w wr) (fun i _ => n - (intOf i).toNat)
  case atStart =>
    refine ⟨0, rfl, Nat.zero_le _, ?_, HB2.out⟩
    have e : (madeCells (Value.int .i64 0).cells (n * 1)).toList = (rowO (fun v => if v < 0 then 1099511627776 else 0) n).map (Value.int .i64) := by
      rw [Nat.mul_one]
      refine (toList_madeCells_one _ _).trans ?_
      rw [rowO_const0]
      rfl
    rw [← e]
    exact HR1.out
  case round =>
    clear HR1 HB2
    obtain ⟨k, rfl, hk, hrow, hB⟩ := hrel
    by_cases hlt : k < n
    · have hlt2 : (k : Int) < (n : Int) := by omega
      have f0 := hrow.frozenAt k
      have c0 := own_num hrow hlt
      obtain ⟨h1, h2⟩ := hrow.stored k (.int .i64 1099511627776)
      rw [rowO_put (o' := fun v => if v < k + 1 then 1099511627776 else 0) (by simp) fun j hj => by
        have : (j < k + 1) = (j < k) := by apply propext; omega
        simp only [this]] at h1
      have H1 := Lib.hid h1
      have HB := Lib.hid (hB.grown h2 hB.size (fun j hj => by cases hj; exact Nat.le_refl _))
      clear h1 h2 hB hrow
      go_wp2_with fail
      go_roundw
      case rel => exact ⟨k + 1, by go_num, by omega, H1.out, HB.out⟩
      case measure => simp [intOf]; omega
    · obtain rfl : n = k := by omega
      have hrow1 : wr.ownsRow w.heap.size 3 1 (.slice (some ⟨w.heap.size, 0, none⟩) n n) n ((rowO (fun _ => 1099511627776) n).map (Value.int .i64)) := by
        have e : rowO (fun v => if v < n then (1099511627776 : Int) else 0) n = rowO (fun _ => 1099511627776) n := rowO_same fun c hc => if_pos hc
        rw [e] at hrow
        exact hrow
      have f0 := hrow1.frozenAt 0
      have c0 := own_num hrow1 hn1
      have hn2 : (0 : Int) < (n : Int) := by omega
      obtain ⟨h1, h2⟩ := hrow1.stored 0 (.int .i64 0)
      rw [rowO_put (o' := putE (fun _ => 1099511627776) 0 0) (putE_at _ _ _) fun j hj => putE_ne _ hj] at h1
      have H1 := Lib.hid h1
      have HB := Lib.hid (hB.grown h2 hB.size (fun j hj => by cases hj; exact Nat.le_refl _))
      clear h1 h2 hB hrow hrow1
      have hbox : ((wr.setCell ⟨w.heap.size, 0, none⟩ (.int .i64 0)).alloc (.cells #[.slice none 0 0] 83)).heap[wr.heap.size]? = some (heapB (.slice none 0 0)) := by
        have := heap_alloc_new (wr.setCell ⟨w.heap.size, 0, none⟩ (.int .i64 0)) (heapB (.slice none 0 0))
        rw [World.size_setCell] at this
        exact this
      have hwr : w.heap.size ≤ wr.heap.size := by have := HB.out.size; rwa [World.size_setCell] at this
      have HDM : Hid (DM w n wr.heap.size (.slice none 0 0) (putE (fun _ => 1099511627776) 0 0) [] ((wr.setCell ⟨w.heap.size, 0, none⟩ (.int .i64 0)).alloc (.cells #[.slice none 0 0] 83))) :=
        Lib.hid ⟨H1.out.alloc _, ⟨hbox, World.ownsRow_nil _ _ _ _⟩, HB.out.alloc HB.out.size _⟩
      clear hbox H1 HB
      have HWR := Lib.hid hwr
      clear hwr
      go_wp2_with (go_at_call 52; refine (implPut w.heap.size wr.heap.size _ [] 0 0 HWR.out (by decide) _ HDM.out.bag).mono ?_; rintro e w4 ⟨rfl, ⟨v4, L4, hb4, hp4⟩, hh4⟩; have HD4 := Lib.hid (HDM.out.heaped HWR.out hb4 hh4); have HP4 := Lib.hid (List.perm_singleton.1 hp4); clear hb4 hp4 hh4)
      rw [HP4.out] at HD4
      have HI4 := Lib.hid (DI.start hn1 hn15 HSX.out he0)
      generalize wr.heap.size = H at HWR HD4 ⊢
      clear HDM HP4 f0 c0 hk hlt
      go_loopw [] (fun wq => ∃ (D : Nat → Int) (Q : List (Int × Int)) (v : Value), Hid (DI (A.zip F) n Sx E n D Q) ∧ DM w n H v D Q wq) (fun wq => 2 * fallW wq w.heap.size n + lenW wq H)
      case atStart => exact ⟨_, _, _, HI4, HD4.out⟩
      case round =>
        clear HI4 HD4
        obtain ⟨D, Q, v, HI, hD⟩ := hrel
        have HD := Lib.hid hD
        clear hD
        by_cases hq : Q.length = 0
        · have hq0 : Q = [] := List.eq_nil_of_length_eq_zero hq
          subst hq0
          have hend := HI.out.end HP.out hn1 hn15 HSX.out
          have HEND := Lib.hid hend
          clear hend
          go_wp2_with (go_at_call 53; refine (implEmpty w.heap.size H _ [] true rfl _ HD.out.bag).mono ?_; rintro e w' ⟨rfl, rfl⟩)
          go_ret
          exact ⟨D, w.heap.size, rfl, HD.out.row, HEND.out, HD.out.below⟩
        · obtain ⟨⟨r, y⟩, hp0⟩ : ∃ p, Q[0]? = some p := ⟨_, List.getElem?_eq_getElem (by omega)⟩
          obtain ⟨u, rfl, hun, hSu, hDu⟩ := HI.out.entry (List.mem_of_getElem? hp0)
          have hQl : Q.length ≤ 5000000000000 := by have := HI.out.few; omega
          have hq1 : decide (Q.length = 0) = false := decide_eq_false hq
          have HP0 := Lib.hid hp0
          have HDU := Lib.hid hDu
          have HSU := Lib.hid hSu
          have HQ1 := Lib.hid hq1
          have hun2 : (u : Int) < (n : Int) := by omega
          have hbu := HI.out.le HP.out hn1 hn15 HSX.out u
          have hbe := HE.out u
          have hw1 : IntKind.i64.wrap (D u - E u) = D u - E u := IntWalk.i64_in _ (by omega)
          clear hp0 hDu hSu hq hq1
          by_cases hr : D u - E u < r
          · go_wp2_with (first | (go_at_call 53; refine (implEmpty w.heap.size H _ Q false HQ1.out _ HD.out.bag).mono ?_; rintro e w' ⟨rfl, rfl⟩) | (go_at_call 54; refine (implHTake w.heap.size H v Q (r, (u : Int)) HP0.out (by omega) _ HD.out.bag).mono ?_; rintro e w5 ⟨rfl, ⟨v5, Q5, hb5, hp5⟩, hh5⟩; have hD5 := HD.out.heaped HWR.out hb5 hh5; have d1 := hD5.at hun; have d2 := (hD5.below.cell (p := ⟨ge, u, none⟩) hge).trans (HCE.out u hun); have HD5 := Lib.hid hD5; have HP5 := Lib.hid hp5; clear hb5 hp5 hh5 hD5))
            go_quiet (fail)
            go_wp2_with fail
            go_roundw
            case rel => exact ⟨D, Q5, v5, Lib.hid (HI.out.skip HP5.out hr), HD5.out.drew _⟩
            case measure =>
              rw [(HD5.out.drew _).fall, (HD5.out.drew _).len, HD.out.fall, HD.out.len]
              have := HP5.out.length_eq
              simp only [List.length_cons] at this
              omega
          · go_wp2_with (first | (go_at_call 53; refine (implEmpty w.heap.size H _ Q false HQ1.out _ HD.out.bag).mono ?_; rintro e w' ⟨rfl, rfl⟩) | (go_at_call 54; refine (implHTake w.heap.size H v Q (r, (u : Int)) HP0.out (by omega) _ HD.out.bag).mono ?_; rintro e w5 ⟨rfl, ⟨v5, Q5, hb5, hp5⟩, hh5⟩; have hD5 := HD.out.heaped HWR.out hb5 hh5; have d1 := hD5.at hun; have d2 := (hD5.below.cell (p := ⟨ge, u, none⟩) hge).trans (HCE.out u hun); have HD5 := Lib.hid hD5; have HP5 := Lib.hid hp5; clear hb5 hp5 hh5 hD5))
            go_quiet (fail)
            generalize hq6 : w5.drewN nq = w6
            have hD6 : DM w n H v5 D Q5 w6 := by rw [← hq6]; exact HD5.out.drew _
            have d3 := (HR.out.below hD6.below).at_row hun
            obtain ⟨au, cu, hSu⟩ := own_form (HR.out.own u hun)
            rw [hSu] at d3
            have HSV := Lib.hid hSu
            have HD6 := Lib.hid hD6
            have hlen := rowS_box_len HLF.out HR.out.len u
            have hbl : (bsL (A.zip X) u).length ≤ 6400 := by
              rw [hlen]
              have := rowS_len (A.zip F) u
              have h2 : (A.zip F).length ≤ A.length := by rw [List.length_zip]; omega
              omega
            have HLEN := Lib.hid hlen
            have HM : Hid (2 * fallS D n + Q5.length + 1 = 2 * fallS D n + Q.length) := Lib.hid (by
              have := HP5.out.length_eq
              simp only [List.length_cons] at this
              omega)
            have HI6 := Lib.hid (HI.out.take HP5.out).1
            clear d1 d2 hq6 hD6 hSu hlen HD5 HP5 HQ1 hw1
            generalize (bsL (A.zip X) u).length = m at HLEN hbl d3 ⊢
            go_wp2_with fail
            clear hr d3
            go_loopw [50] (fun i wq => ∃ (k : Nat) (D' : Nat → Int) (Q' : List (Int × Int)) (v' : Value), i = .int .i64 k ∧ k ≤ m ∧ Hid (DI (A.zip F) n Sx E u D' Q') ∧ Hid (D' u ≠ 1099511627776) ∧ Hid (∀ e ∈ (rowS (A.zip F) u).take k, 0 < e.2.1 → D' e.1 ≤ D' u + (10000 * e.2.2 + 1)) ∧ Hid (2 * fallS D' n + Q'.length ≤ 2 * fallS D n + Q5.length) ∧ DM w n H v' D' Q' wq) (fun i _ => m - (intOf i).toNat)
            case atStart => exact ⟨0, D, Q5, v5, rfl, Nat.zero_le _, HI6, HDU, Lib.hid (by rw [List.take_zero]; intro e he; cases he), Lib.hid (Nat.le_refl _), HD6.out⟩
            case round =>
              clear HD6 HI6 HDU
              obtain ⟨k, D', Q', v', rfl, hk, HI', HDU, HDN, HME, hD'⟩ := hrel
              have HD' := Lib.hid hD'
              clear hD'
              by_cases hkm : k < m
              · obtain ⟨⟨t, z, kc⟩, he⟩ : ∃ e, (rowS (A.zip F) u)[k]? = some e := ⟨_, List.getElem?_eq_getElem (by have := HLEN.out; omega)⟩
                have hem := List.mem_of_getElem? he
                obtain ⟨htn, hkc1, hkc2⟩ := row_lt HP.out hem
                simp only at htn hkc1 hkc2
                have hRm := HR.out.below HD'.out.below
                obtain ⟨b, c, z', k', hb, h1, h2, hut⟩ := hRm.step3 HLF.out HOK.out he
                obtain ⟨ga, ca, hga⟩ := own_at2 (hRm.own u hun) (by rw [rowS_box_len HLF.out HR.out.len u]; have := HLEN.out; omega)
                have hga2 := HSV.out.symm.trans hga
                injection hga2 with hga3 _ hga4
                subst hga3 hga4
                have d0 := own_ptr (by have := hRm.own u hun; rw [hga] at this; exact this) hb
                have d1 := HD'.out.at hun
                have d4 := HD'.out.at htn
                have hbu' := HI'.out.bd HP.out hn1 hn15 HSX.out HDU.out
                have hbt := HI'.out.le HP.out hn1 hn15 HSX.out t
                have hkm2 : (k : Int) < (m : Int) := by omega
                have htn2 : (t : Int) < (n : Int) := by omega
                have hw2 : IntKind.i64.wrap (D' u + (10000 * kc + 1)) = D' u + (10000 * kc + 1) := IntWalk.i64_in _ (by omega)
                have HE2 := Lib.hid he
                have HEM := Lib.hid hem
                have HB1 := Lib.hid h1
                have HB2 := Lib.hid h2
                have HUT := Lib.hid hut
                clear he hem h1 h2 hut hb hga hRm
                go_wp2_with fail
                go_quiet ((go_at_call 55; exact quiet_of (implLength b u z kc _ ⟨hkc1, hkc2⟩ _ HB1.out)))
                generalize hq7 : wr.drewN nq = w7
                have hD7 : DM w n H v' D' Q' w7 := by rw [← hq7]; exact HD'.out.drew _
                have h71 : w7.heap[b]? = some (boxR u z kc (some ⟨c, 0, none⟩)) := by rw [← hq7]; exact HB1.out
                have h72 : w7.heap[c]? = some (boxR t z' k' (some ⟨b, 0, none⟩)) := by rw [← hq7]; exact HB2.out
                clear hq7 d0 d1 d4 hw2 HB1 HB2
                have d4 := hD7.at htn
                obtain ⟨_, c1, c3⟩ := boxR_cells h71
                obtain ⟨c0, _, _⟩ := boxR_cells h72
                have HD7 := Lib.hid hD7
                have H71 := Lib.hid h71
                have H72 := Lib.hid h72
                clear hD7 h71 h72
                have hstep : ∀ D'' : Nat → Int, Hid ((0 < z → D'' t ≤ D'' u + (10000 * kc + 1)) ∧ (∀ e ∈ (rowS (A.zip F) u).take k, 0 < e.2.1 → D'' e.1 ≤ D'' u + (10000 * e.2.2 + 1))) → Hid (∀ e ∈ (rowS (A.zip F) u).take (k + 1), 0 < e.2.1 → D'' e.1 ≤ D'' u + (10000 * e.2.2 + 1)) := fun D'' hh => Lib.hid (by
                  intro e he hp
                  obtain ⟨hi, h2⟩ := List.getElem?_eq_some_iff.1 HE2.out
                  rw [List.take_succ_eq_append_getElem hi] at he
                  rcases List.mem_append.1 he with h | h
                  · exact hh.out.2 e h hp
                  · rw [List.mem_singleton.1 h, h2] at hp ⊢
                    exact hh.out.1 hp)
                have HST := Lib.hid hstep
                clear hstep
                cases hz : decide (0 < z) with
                | false =>
                  have HZ := Lib.hid hz
                  clear hz
                  go_wp2_with (go_at_call 41; refine (implOpen b z false HZ.out _ (by assumption)).mono ?_; rintro e w9 ⟨rfl, rfl⟩)
                  go_roundw
                  case rel => exact ⟨k + 1, D', Q', v', by go_num, by omega, HI', HDU, HST.out D' (Lib.hid ⟨fun h => absurd h (of_decide_eq_false HZ.out), HDN.out⟩), HME, HD7.out⟩
                  case measure => simp [intOf]; omega
                | true =>
                  have HZ := Lib.hid hz
                  clear hz
                  by_cases hlt : D' u + (10000 * kc + 1) < D' t
                  · have hs1 : Stp (A.zip F) u t (10000 * kc + 1) := row_stp HP.out HEM.out (of_decide_eq_true HZ.out)
                    obtain ⟨_, _, _, hfall, hb1, hb2⟩ := HI'.out.relax HP.out hn1 hn15 HSX.out HDU.out hs1 HUT.out hlt (.refl _)
                    have hbe2 := HE.out t
                    have hw3 : IntKind.i64.wrap (D' u + (10000 * kc + 1) - E t) = D' u + (10000 * kc + 1) - E t := IntWalk.i64_in _ (by omega)
                    have hQl' : Q'.length ≤ 5000000000000 := by have := HI'.out.few; omega
                    have f7 := HD7.out.row.frozenAt t
                    have hD8 := HD7.out.put t (D' u + (10000 * kc + 1))
                    have e8 : ∀ (q : Nat) (a l kk : Int) (p : Option Addr), w7.heap[q]? = some (boxR a l kk p) → (w7.setCell ⟨w.heap.size, t, none⟩ (.int .i64 (D' u + (10000 * kc + 1)))).heap[q]? = some (boxR a l kk p) := fun q a l kk p hq => by
                      refine (heap_setCell_other w7 ⟨w.heap.size, t, none⟩ q _ (fun e => ?_)).trans hq
                      rcases own_notBox HD7.out.row (by decide) hq with h | h
                      · cases h
                      · exact h (congrArg some e.symm)
                    have h81 := e8 _ _ _ _ _ H71.out
                    have h82 := e8 _ _ _ _ _ H72.out
                    have HD8 := Lib.hid hD8
                    have H81 := Lib.hid h81
                    have H82 := Lib.hid h82
                    have HS1 := Lib.hid hs1
                    have HFL := Lib.hid hfall
                    clear hD8 e8 h81 h82 hs1 hfall
                    go_wp2_with (first | (go_at_call 41; refine (implOpen b z true HZ.out _ (by assumption)).mono ?_; rintro e w9 ⟨rfl, rfl⟩) | (go_at_call 42; refine (implTo b c t _ (by assumption) (by assumption)).mono ?_; rintro e w9 ⟨rfl, rfl⟩))
                    have HLT := Lib.hid hlt
                    clear hlt f7 c0 c1 c3 d4
                    generalize w7.setCell ⟨w.heap.size, t, none⟩ (.int .i64 (D' u + (10000 * kc + 1))) = w8 at HD8 H81 H82 ⊢
                    obtain ⟨_, c1, c3⟩ := boxR_cells H81.out
                    obtain ⟨c0, _, _⟩ := boxR_cells H82.out
                    have d2 := (HD8.out.below.cell (p := ⟨ge, t, none⟩) hge).trans (HCE.out t htn)
                    have HD8d : Hid (DM w n H v' (putE D' t (D' u + (10000 * kc + 1))) Q' w8.drew) := Lib.hid (HD8.out.drew 1)
                    go_region_with (first | (go_at_call 42; refine (implTo b c t _ (by assumption) (by assumption)).mono ?_; rintro e w9 ⟨rfl, rfl⟩) | (go_at_call 52; refine (implPut w.heap.size H _ Q' (D' u + (10000 * kc + 1) - E t) t HWR.out hQl' _ HD8d.out.bag).mono ?_; rintro e w9 ⟨rfl, ⟨v9, L9, hb9, hp9⟩, hh9⟩; have HD9 := Lib.hid (HD8d.out.heaped HWR.out hb9 hh9); have HP9 := Lib.hid hp9; clear hb9 hp9 hh9))
                    all_goals
                      go_wp2_with fail
                      go_roundw
                      case rel =>
                        obtain ⟨r1, _, _, _, _, _⟩ := HI'.out.relax HP.out hn1 hn15 HSX.out HDU.out HS1.out HUT.out HLT.out HP9.out
                        have eu : putE D' t (D' u + (10000 * kc + 1)) u = D' u := putE_ne _ HUT.out
                        have hmono : ∀ j, putE D' t (D' u + (10000 * kc + 1)) j ≤ D' j := fun j => by
                          by_cases e1 : j = t
                          · rw [e1, putE_at]; exact Int.le_of_lt HLT.out
                          · rw [putE_ne _ e1]; exact Int.le_refl _
                        refine ⟨k + 1, _, L9, v9, by go_num, by omega, Lib.hid r1, Lib.hid (by rw [eu]; exact HDU.out), HST.out _ (Lib.hid ⟨fun _ => by rw [putE_at, eu]; exact Int.le_refl _, fun e he hp => by rw [eu]; exact Int.le_trans (hmono _) (HDN.out e he hp)⟩), Lib.hid ?_, HD9.out⟩
                        have := HME.out
                        have := HFL.out
                        have := HP9.out.length_eq
                        rw [List.length_append] at this
                        simp only [List.length_cons, List.length_nil] at this
                        omega
                      case measure => simp [intOf]; omega
                  · have HLT := Lib.hid hlt
                    go_wp2_with (first | (go_at_call 41; refine (implOpen b z true HZ.out _ (by assumption)).mono ?_; rintro e w9 ⟨rfl, rfl⟩) | (go_at_call 42; refine (implTo b c t _ (by assumption) (by assumption)).mono ?_; rintro e w9 ⟨rfl, rfl⟩))
                    go_roundw
                    case rel => exact ⟨k + 1, D', Q', v', by go_num, by omega, HI', HDU, HST.out D' (Lib.hid ⟨fun _ => by have := HLT.out; omega, HDN.out⟩), HME, HD7.out⟩
                    case measure => simp [intOf]; omega
              · obtain rfl : k = m := by omega
                have hfin : ∀ v l, Stp (A.zip F) u v l → D' v ≤ D' u + l := fun v l hs => by
                  obtain ⟨e, he, h1, h2, h3⟩ := stp_row hs
                  have := HDN.out e (by rw [HLEN.out, List.take_length]; exact he) h2
                  rw [h1, ← h3] at this
                  exact this
                have HFIN := Lib.hid hfin
                clear hfin
                go_wp2_with fail
                go_roundw
                case rel => exact ⟨D', Q', v', Lib.hid (HI'.out.done HFIN.out), HD'.out⟩
                case measure =>
                  rw [HD'.out.fall, HD'.out.len, HD.out.fall, HD.out.len]
                  have := HME.out
                  have := HM.out
                  omega

end Go.Proofs.Ytobflidianlomaa
