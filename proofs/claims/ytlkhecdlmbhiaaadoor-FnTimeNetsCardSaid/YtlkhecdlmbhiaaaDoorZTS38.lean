/-
  CONTRACTS of the program's search over the residual network (reached). No law is proved here.
-/
import Derived.Test.YtlkhecdlmbhiaaaDoorZTS37
namespace Go.Proofs.YtlkhecdlmbhiaaaDoor
set_option maxRecDepth 4096
open Go.ChangeShapes Go.WideShapes Go.ChangeAt Go.RowKit

/-- The nodes that were found, in the order in which they were: each can be reached. -/
structure Find (P : List (ArcD × Int)) (n : Nat) (o : Nat → Bool) (Q : List Nat) : Prop where
  good : Good P o
  mem : ∀ v, o v = true → v ∈ Q
  on : ∀ v ∈ Q, o v = true ∧ v < n
  nd : Q.Nodup
def doneL (o : Nat → Bool) (L : List (Nat × Int)) : Prop := ∀ e ∈ L, 0 < e.2 → o e.1 = true
section
variable {P : List (ArcD × Int)} {n : Nat} {o : Nat → Bool} {Q : List Nat}
theorem Find.len (h : Find P n o Q) : Q.length ≤ n := nodup_len n Q h.nd fun c hc => (h.on c hc).2
theorem Find.start (hn : 0 < n) : Find P n (addO (fun _ => false) 0) [0] :=
  ⟨good_start P, fun v hv => by have : v = 0 := by simpa [addO] using hv
                                rw [this]; exact List.mem_singleton.2 rfl, fun v hv => by rw [List.mem_singleton.1 hv]; exact ⟨addO_self _ _, hn⟩, by simp⟩
theorem Find.add (h : Find P n o Q) {u : Nat} (hu : u < n) (hno : o u = false) (hr : Res P u) : Find P n (addO o u) (Q ++ [u]) := by
  refine ⟨⟨addO_old h.good.zero, fun v hv => ?_⟩, fun v hv => ?_, fun v hv => ?_, ?_⟩
  · by_cases e : v = u
    · rw [e]; exact hr
    · rw [addO_other e] at hv
      exact h.good.res v hv
  · by_cases e : v = u
    · rw [e]; simp
    · rw [addO_other e] at hv
      exact List.mem_append_left _ (h.mem v hv)
  · rcases List.mem_append.1 hv with k | k
    · exact ⟨addO_old (h.on v k).1, (h.on v k).2⟩
    · rw [List.mem_singleton.1 k]
      exact ⟨addO_self _ _, hu⟩
  · rw [List.nodup_append]
    refine ⟨h.nd, by simp, fun a ha b hb => ?_⟩
    rw [List.mem_singleton.1 hb]
    intro e
    rw [e] at ha
    rw [(h.on u ha).1] at hno
    cases hno
theorem done_mono {o' : Nat → Bool} {L : List (Nat × Int)} (h : doneL o L) (hm : ∀ v, o v = true → o' v = true) : doneL o' L := fun e he hp => hm _ (h e he hp)
theorem done_step {L : List (Nat × Int)} {j : Nat} {e : Nat × Int} (h : doneL o (L.take j)) (he : L[j]? = some e) (hd : 0 < e.2 → o e.1 = true) : doneL o (L.take (j + 1)) := by
  obtain ⟨hi, rfl⟩ := List.getElem?_eq_some_iff.1 he
  rw [List.take_succ_eq_append_getElem hi]
  intro x hx hp
  rcases List.mem_append.1 hx with k | k
  · exact h x k hp
  · rw [List.mem_singleton.1 k] at hp ⊢
    exact hd hp
end
section
variable {N : Int} {A : List ArcD} {F : List Int} {o : Nat → Bool} {Q : List Nat} {n : Nat}
theorem resL_node (hn : netOkV n A = true) {v : Nat} {e : Nat × Int} (he : e ∈ resL (A.zip F) v) : e.1 < n := by
  obtain ⟨p, hp, h | h⟩ := resL_iff.1 he
  · have := (arcOk_out ((netOk_out hn).2.2 _ (zip_arc hp))).2.1
    rw [h.2]
    show p.1.t.toNat < n
    omega
  · have := (arcOk_out ((netOk_out hn).2.2 _ (zip_arc hp))).1
    rw [h.2]
    show p.1.f.toNat < n
    omega
theorem resL_res (hn : netOkV n A = true) {v : Nat} {e : Nat × Int} (he : e ∈ resL (A.zip F) v) (hp : 0 < e.2) (hv : Res (A.zip F) v) : Res (A.zip F) e.1 := by
  obtain ⟨p, hm, h | h⟩ := resL_iff.1 he
  · have h0 := (arcOk_out ((netOk_out hn).2.2 _ (zip_arc hm))).2.1.1
    rw [h.2] at hp ⊢
    show Res _ ((p.1.t.toNat : Nat) : Int)
    rw [Int.toNat_of_nonneg h0]
    exact Res.fwd hm (by rw [h.1]; exact hv) (by simp only at hp; omega)
  · have h0 := (arcOk_out ((netOk_out hn).2.2 _ (zip_arc hm))).1.1
    rw [h.2] at hp ⊢
    show Res _ ((p.1.f.toNat : Nat) : Int)
    rw [Int.toNat_of_nonneg h0]
    exact Res.bwd hm (by rw [h.1]; exact hv) (by simp only at hp; omega)
/-- When each node that was found has been visited, what was found is what can be reached. -/
theorem Find.is (hn : netOkV n A = true) (h : Find (A.zip F) n o Q) (hd : ∀ v ∈ Q, doneL o (resL (A.zip F) v)) (v : Nat) : o v = reachedB A F v := by
  refine good_is hn h.good (fun p hp => ⟨fun hf hr => ?_, fun ht hr => ?_⟩) v
  · have h0 := (arcOk_out ((netOk_out hn).2.2 _ (zip_arc hp))).1.1
    exact hd _ (h.mem _ hf) (p.1.t.toNat, p.1.r - p.2) (resL_iff.2 ⟨p, hp, .inl ⟨by omega, rfl⟩⟩) (by simp only; omega)
  · have h0 := (arcOk_out ((netOk_out hn).2.2 _ (zip_arc hp))).2.1.1
    exact hd _ (h.mem _ ht) (p.1.f.toNat, p.2) (resL_iff.2 ⟨p, hp, .inr ⟨by omega, rfl⟩⟩) hr
end

/-- The memory of the search: which nodes were found, and the nodes that wait. -/
structure RS (w : World) (n : Nat) (o : Nat → Bool) (va : Value) (Q : List Nat) (wr : World) : Prop where
  row : wr.ownsRow w.heap.size 4 1 (.slice (some ⟨w.heap.size, 0, none⟩) n n) n (rowB o n)
  lst : wr.ownsRow w.heap.size 3 1 va Q.length ((Q.map Int.ofNat).map (Value.int .i64))
  below : Below w.heap.size w wr
section
variable {w wr : World} {n : Nat} {o : Nat → Bool} {va : Value} {Q : List Nat}
theorem RS.mark (h : RS w n o va Q wr) (c : Nat) : RS w n (addO o c) va Q (wr.setCell ⟨w.heap.size, c, none⟩ (.bool true)) := by
  obtain ⟨h1, h2⟩ := add_row (c := c) h.row
  exact ⟨h1, h.lst.kept h2 (own_types h.lst h.row (by decide)), h.below.grown h2 h.below.size (fun j hj => by cases hj; exact Nat.le_refl _)⟩
theorem RS.alloc (h : RS w n o va Q wr) (b : Obj) : RS w n o va Q (wr.alloc b) := ⟨h.row.alloc b, h.lst.alloc b, h.below.alloc h.below.size b⟩
theorem RS.app (h : RS w n o va Q wr) {b : Obj} {w6 : World} {v' : Value} {t : Nat} (hown : w6.ownsRow w.heap.size 3 1 v' (Q.length + 1) ((Q.map Int.ofNat).map (Value.int .i64) ++ [(t : Int)].map (Value.int .i64))) (hg : (wr.alloc b).grownBy w6 va.ownBlock) :
    RS w n o v' (Q ++ [t]) w6 := by
  have ha := h.alloc b
  have e1 : (Q ++ [t]).length = Q.length + 1 := by simp
  have e2 : ((Q ++ [t]).map Int.ofNat).map (Value.int .i64) = (Q.map Int.ofNat).map (Value.int .i64) ++ [(t : Int)].map (Value.int .i64) := by simp
  refine ⟨ha.row.kept hg (own_types ha.row ha.lst (by decide)), ?_, ha.below.grown hg ha.below.size (fun j e => (ha.lst.lt j e).1)⟩
  rw [e1, e2]
  exact hown
theorem RS.found (h : RS w n o va Q wr) {c : Nat} (hc : c < n) : wr.cell? ⟨w.heap.size, c, none⟩ = some (.bool (o c)) := own_bool h.row hc
end

theorem int_new_at2 {w : World} {m : Nat} (h : w.heap.size = m) (x : Int) (t : TypeId) : ∀ j u, ([x].map (Value.int .i64))[j]? = some u → (w.alloc (.cells #[.int .i64 x] t)).cell? ((⟨m, 0, none⟩ : Addr).add j) = some u := by
  subst h
  exact int_new w x t
set_option maxHeartbeats 2000000 in
theorem implFound (n : Nat) (A : List ArcD) (F : List Int) (B G : Nat) (S : Nat → Value) (bs : Nat → List Nat) (hn : netOkV n A = true) (hA : A.length ≤ 3200) (hF : F.length = A.length) (w : World) (hR : RG B w G n (resL (A.zip F)) S bs) :
    Calls Tryd.prog 40 #[.slice (some ⟨G, 0, none⟩) n n] w (BoolsBack w (reachedB A F) n) := by
  obtain ⟨i0, hi, hz0, hz1, hz2⟩ := info_parts Tryd.infoBool
  obtain ⟨i1, hi1, hz10, hz11, hz12⟩ := info_parts Tryd.info3
  obtain ⟨⟨hN1, hN2⟩, _, _⟩ := netOk_out hn
  have hn0 : (0 : Int) < (n : Int) := by omega
  have hn1 : 0 < n := by omega
  have HNT := Lib.hid hn
  have HR := Lib.hid hR
  have HLF := Lib.hid hF
  clear hn hR hF
  go_enter Tryd.func40, Tryd.ntmps40
  go_wp2_with (at_make; go_loud (refine wpList_make_full _ rfl (.tmp 9) (.tmp 9) 35 rfl w.heap.size 4 i0 (.bool false) 1 Tryd.underlying35 hi hz0 hz1 .i64 .i64 n n n rfl rfl rfl rfl (by rw [hz2]; omega) (by unfold maxLen; omega) (Nat.le_refl _) ?_); intro w2 hrow hg2; have hrow0 := made_rowB hrow; have hB2 := (Below.refl w.heap.size w).grown hg2 (Nat.le_refl _) (fun j hj => (by cases hj)); have f0 := hrow0.frozenAt 0; have d0 := own_bool hrow0 hn1; have HR1 := Lib.hid hrow0; have HB2 := Lib.hid hB2; clear hrow hrow0 hg2 hB2)
  have HS0 : Hid (RS w n (addO (fun _ => false) 0) (.slice (some ⟨(w2.setCell ⟨w.heap.size, 0, none⟩ (.bool true)).heap.size, 0, none⟩) 1 1) [0] ((w2.setCell ⟨w.heap.size, 0, none⟩ (.bool true)).alloc (.cells #[.int .i64 0] 3))) := Lib.hid (by
    obtain ⟨h1, h2⟩ := add_row (c := 0) HR1.out
    have hb := HB2.out.grown h2 HB2.out.size (fun j hj => by cases hj; exact Nat.le_refl _)
    refine ⟨h1.alloc _, ?_, hb.alloc hb.size _⟩
    exact World.ownsRow_lit (base := w.heap.size) (e := 3) (size := 1) _ #[.int .i64 0] 1 hb.size (by decide) rfl)
  clear f0 d0 HR1
  go_loopw [4, 5] (fun va i wr => ∃ (k : Nat) (o : Nat → Bool) (Q : List Nat), i = .int .i64 k ∧ k ≤ Q.length ∧ Hid (Find (A.zip F) n o Q) ∧ Hid (∀ x ∈ Q.take k, doneL o (resL (A.zip F) x)) ∧ RS w n o va Q wr) (fun _ i _ => n - (intOf i).toNat)
  case atStart => exact ⟨0, _, [0], rfl, by simp, Lib.hid (Find.start hn1), Lib.hid (by simp), by simpa using HS0.out⟩
  case round =>
    clear HS0 HB2
    obtain ⟨k, o, Q, rfl, hk, HFD, HDN, hS⟩ := hrel
    obtain ⟨aq, cq, rfl⟩ := own_form hS.lst
    have hQl := HFD.out.len
    by_cases hlt : k < Q.length
    · obtain ⟨u, hu⟩ : ∃ u, Q[k]? = some u := ⟨_, List.getElem?_eq_getElem hlt⟩
      have hun : u < n := (HFD.out.on u (List.mem_of_getElem? hu)).2
      obtain ⟨gq, cq', hq⟩ := own_at2 hS.lst (by omega)
      injection hq with hq1 _ hq2
      subst hq1 hq2
      have d0 : wr.cell? ⟨gq, k, none⟩ = some (.int .i64 (u : Int)) := own_int hS.lst (by rw [List.getElem?_map, hu]; rfl)
      have d1 := (HR.out.below hS.below).at_row hun
      obtain ⟨au, cu, hSu⟩ := own_form (HR.out.own u hun)
      rw [hSu] at d1
      have hlen := HR.out.len u hun
      have hbl : (bs u).length ≤ 6400 := by
        have := resL_len (A.zip F) u
        have h2 : (A.zip F).length ≤ A.length := by rw [List.length_zip]; omega
        omega
      have hlt2 : (k : Int) < (Q.length : Int) := by omega
      have hun2 : (u : Int) < (n : Int) := by omega
      have HU := Lib.hid hu
      have HSU := Lib.hid hSu
      have HS := Lib.hid hS
      have HLEN := Lib.hid hlen
      clear hu hSu hS hlen
      go_wp2_with fail
      go_loopw [4, 28] (fun va j wq => ∃ (m : Nat) (o' : Nat → Bool) (Q' : List Nat), j = .int .i64 m ∧ m ≤ (bs u).length ∧ Q <+: Q' ∧ Hid (∀ v, o v = true → o' v = true) ∧ Hid (Find (A.zip F) n o' Q') ∧ Hid (doneL o' ((resL (A.zip F) u).take m)) ∧ RS w n o' va Q' wq) (fun _ j _ => (bs u).length - (intOf j).toNat)
      case atStart => exact ⟨0, o, Q, rfl, Nat.zero_le _, List.prefix_refl _, Lib.hid (fun v h => h), HFD, Lib.hid (by rw [List.take_zero]; intro e he; cases he), HS.out⟩
      case round =>
        clear HS d0 d1
        obtain ⟨m, o', Q', rfl, hm, hpre, HM, HFD', HD', hS⟩ := hrel
        have hRm := HR.out.below hS.below
        by_cases hmlt : m < (bs u).length
        · obtain ⟨b, hb⟩ : ∃ b, (bs u)[m]? = some b := ⟨_, List.getElem?_eq_getElem hmlt⟩
          obtain ⟨⟨t, z⟩, he⟩ : ∃ e, (resL (A.zip F) u)[m]? = some e := ⟨_, List.getElem?_eq_getElem (by have := HLEN.out; omega)⟩
          have htn : t < n := resL_node HNT.out (List.mem_of_getElem? he)
          have hE := hRm.edge u hun m _ b he hb
          have HEd := Lib.hid hE
          obtain ⟨rb, kc, l', kc', q, h1, h2⟩ := hE
          obtain ⟨_, k1, k2⟩ := boxR_cells h1
          obtain ⟨k3, _, _⟩ := boxR_cells h2
          dsimp only at k1 k3
          obtain ⟨ga, ca, hga⟩ := own_at2 (HR.out.own u hun) (by omega)
          have hga2 := HSU.out.symm.trans hga
          injection hga2 with hga3 _ hga4
          subst hga3 hga4
          have d0 := own_ptr (by have := hRm.own u hun; rw [hga] at this; exact this) hb
          have d1 := hS.found htn
          have hm2 : (m : Int) < ((bs u).length : Int) := by omega
          have htn2 : (t : Int) < (n : Int) := by omega
          have HE := Lib.hid he
          have HS := Lib.hid hS
          have HGA := Lib.hid hga
          have HRu : Hid (Res (A.zip F) u) := Lib.hid (HFD'.out.good.res u (HM.out u (HFD.out.on u (List.mem_of_getElem? HU.out)).1))
          clear h1 h2 hb he hga hRm
          cases hz : decide (0 < z) with
          | false =>
            have HZ := Lib.hid hz
            have hD2 : Hid (doneL o' ((resL (A.zip F) u).take (m + 1))) := Lib.hid (done_step HD'.out HE.out (fun h => by have := of_decide_eq_false HZ.out; exact absurd h this))
            clear hz hS
            go_wp2_with (go_at_call 68; refine (implOpen b z false HZ.out _ (by assumption)).mono ?_; rintro e w' ⟨rfl, rfl⟩)
            go_roundw
            case rel => exact ⟨m + 1, o', Q', by go_num, by omega, hpre, HM, HFD', hD2, HS.out⟩
            case measure => simp [intOf]; omega
          | true =>
            cases ho : o' t with
            | true =>
              have HZ := Lib.hid hz
              have HO := Lib.hid ho
              rw [ho] at d1
              have hD2 : Hid (doneL o' ((resL (A.zip F) u).take (m + 1))) := Lib.hid (done_step HD'.out HE.out (fun _ => HO.out))
              clear hz ho hS
              go_wp2_with (first
                | (go_at_call 68; refine (implOpen b z true HZ.out _ (by assumption)).mono ?_; rintro e w' ⟨rfl, rfl⟩)
                | (go_at_call 69; refine (implTo b rb t _ (by assumption) (by assumption)).mono ?_; rintro e w' ⟨rfl, rfl⟩))
              go_roundw
              case rel => exact ⟨m + 1, o', Q', by go_num, by omega, hpre, HM, HFD', hD2, HS.out⟩
              case measure => simp [intOf]; omega
            | false =>
              have HZ := Lib.hid hz
              have HO := Lib.hid ho
              rw [ho] at d1
              have f1 := hS.row.frozenAt t
              have hSm := hS.mark t
              obtain ⟨rb2, kc2, l2, kc3, q2, h1, h2⟩ := HEd.out.grown (add_row (c := t) hS.row).2 (notBox_own hS.row (by decide))
              obtain ⟨_, _, k4⟩ := boxR_cells h1
              obtain ⟨k5, _, _⟩ := boxR_cells h2
              dsimp only at k5
              have HSm := Lib.hid hSm
              obtain ⟨aq', cq', hq'⟩ := own_form hSm.lst
              subst hq'
              have hHs : (wr.setCell ⟨w.heap.size, t, none⟩ (.bool true)).heap.size = wr.heap.size := by simp [World.setCell]
              have HHs := Lib.hid hHs
              have hwr : w.heap.size ≤ wr.heap.size := hS.below.size
              have hQ' := HFD'.out.len
              clear hz ho hS h1 h2 hHs hSm
              go_wp2_with (first
                | (go_at_call 68; refine (implOpen b z true HZ.out _ (by assumption)).mono ?_; rintro e w' ⟨rfl, rfl⟩)
                | (go_at_call 69; refine (implTo b _ t _ (by assumption) (by assumption)).mono ?_; rintro e w' ⟨rfl, rfl⟩)
                | (at_builtin; go_loud (refine wpList_append_own _ rfl _ _ 26 rfl w.heap.size 3 i1 (.int .i64 0) 1 8 Tryd.underlying26 hi1 hz10 hz11 hz12 rfl (by decide) _ _ _ rfl (HSm.out.lst.alloc _) ⟨wr.heap.size, 0, none⟩ 1 1 ([(t : Int)].map (Value.int .i64)) rfl rfl (int_new_at2 HHs.out _ _) (ints_one _) (by unfold maxLen; omega) (by omega) (by simp [HHs.out]; omega) ?_); intro v' w6 hown6 hgrow _; have hS6 := HSm.out.app hown6 hgrow; have HS6 := Lib.hid hS6; clear hown6 hgrow hS6))
              go_roundw
              case rel => exact ⟨m + 1, addO o' t, Q' ++ [t], by go_num, by omega, hpre.trans (List.prefix_append _ _), Lib.hid (fun v h => addO_old (HM.out v h)), Lib.hid (HFD'.out.add htn HO.out (resL_res HNT.out (List.mem_of_getElem? HE.out) (of_decide_eq_true HZ.out) HRu.out)), Lib.hid (done_step (done_mono HD'.out (fun v h => addO_old h)) HE.out (fun _ => addO_self _ _)), HS6.out⟩
              case measure => simp [intOf]; omega
        · obtain rfl : m = (bs u).length := by omega
          have HS := Lib.hid hS
          have hkQ : k + 1 ≤ Q'.length := by have := hpre.length_le; omega
          have HPRE := Lib.hid hpre
          have hw1 : IntKind.i64.wrap ((k : Int) + 1) = (k : Int) + 1 := IntWalk.i64_in _ (by omega)
          clear hS hpre hRm
          go_wp2_with fail
          go_roundw
          case rel => exact ⟨k + 1, o', Q', by go_num, hkQ, HFD', Lib.hid (by
            have hD : doneL o' (resL (A.zip F) u) := by
              have := HD'.out
              rwa [HLEN.out, List.take_length] at this
            obtain ⟨T, hT⟩ := HPRE.out
            intro x hx
            rw [← hT, List.take_append_of_le_length (by omega)] at hx
            obtain ⟨hi, hh⟩ := List.getElem?_eq_some_iff.1 HU.out
            rw [List.take_succ_eq_append_getElem hi] at hx
            rcases List.mem_append.1 hx with h | h
            · exact done_mono (HDN.out x h) HM.out
            · rw [List.mem_singleton.1 h, hh]
              exact hD), HS.out⟩
          case measure => simp [intOf]; omega
    · obtain rfl : k = Q.length := by omega
      have HE : Hid (∀ v, o v = reachedB A F v) := Lib.hid (HFD.out.is HNT.out (by simpa using HDN.out))
      have HS := Lib.hid hS
      clear hS
      go_wp2_with fail
      go_ret
      exact ⟨_, rfl, by have := HS.out.row; rwa [rowB_eq HE.out] at this, HS.out.below⟩

end Go.Proofs.YtlkhecdlmbhiaaaDoor

