/-
  CONTRACT of the program's shortestPath. No law is proved here.
-/
import Derived.Test.YtobflidianlomaaShortM
import Derived.Test.YtobflidianlomaaDijI
namespace Go.Proofs.Ytobflidianlomaa
set_option maxRecDepth 4096
open Go.ChangeShapes Go.WideShapes Go.ChangeAt Go.RowKit

section
variable {P : List (ArcD × Int)} {n v : Nat} {x : ArcD} {y : Int}
theorem fit_ex (hP : Fit P n) (hn : 0 < n) (h15 : n ≤ 1500) {d : Int} (hd : IsD P v d) (h0 : v ≠ 0) : ∃ p ∈ P, fitF (farV P) v p ∨ fitB (farV P) v p := by
  obtain ⟨u', l, d', hu', hs, hdl⟩ := tight_ex hd h0
  have e1 := far_is hu'
  have e2 := far_is hd
  have e3 := (far_lt hP hn h15).2 ⟨d', hu'⟩
  cases hs with
  | @fwd p _ _ hp h1 h2 hr =>
    refine ⟨p, hp, .inl ⟨h2, hr, ?_, ?_⟩⟩
    · rw [show p.1.f.toNat = u' by omega]; exact e3
    · rw [show p.1.f.toNat = u' by omega, e1, e2]; omega
  | @bwd p _ _ hp h1 h2 hr =>
    refine ⟨p, hp, .inr ⟨h2, hr, ?_, ?_⟩⟩
    · rw [show p.1.t.toNat = u' by omega]; exact e3
    · rw [show p.1.t.toNat = u' by omega, e1, e2]; omega
theorem fitF_rk (hP : Fit P n) (hn : 0 < n) (h15 : n ≤ 1500) {d : Int} (hd : IsD P v d) (hp : (x, y) ∈ P) (hf : fitF (farV P) v (x, y)) : rkV P x.f.toNat < rkV P v := by
  obtain ⟨h3, h4, h5, h6⟩ := hf
  have hin := hP.1 _ hp
  simp only at h3 h4 h5 h6 hin
  obtain ⟨du, hdu⟩ := (far_lt hP hn h15).1 h5
  have hst : Stp P x.f.toNat v (10000 * x.c + 1) := .fwd hp (by simp only; omega) h3 h4
  have hv2 : IsD P v (du + (10000 * x.c + 1)) := by
    rw [far_is hdu, far_is hd] at h6
    rw [show du + (10000 * x.c + 1) = d by omega]
    exact hd
  rw [rk_tight hP hn h15 hdu hst hv2]
  omega
theorem fitB_rk (hP : Fit P n) (hn : 0 < n) (h15 : n ≤ 1500) {d : Int} (hd : IsD P v d) (hp : (x, y) ∈ P) (hf : fitB (farV P) v (x, y)) : rkV P x.t.toNat < rkV P v := by
  obtain ⟨h3, h4, h5, h6⟩ := hf
  have hin := hP.1 _ hp
  simp only at h3 h4 h5 h6 hin
  obtain ⟨du, hdu⟩ := (far_lt hP hn h15).1 h5
  have hst : Stp P x.t.toNat v (1 - 10000 * x.c) := .bwd hp (by simp only; omega) h3 h4
  have hv2 : IsD P v (du + (1 - 10000 * x.c)) := by
    rw [far_is hdu, far_is hd] at h6
    rw [show du + (1 - 10000 * x.c) = d by omega]
    exact hd
  rw [rk_tight hP hn h15 hdu hst hv2]
  omega
/-- The labels that distances leaves. -/
def Labels (P : List (ArcD × Int)) (D : Nat → Int) : Prop := ∀ v, (D v = 1099511627776 ∧ ¬ ∃ d, IsD P v d) ∨ (D v ≠ 1099511627776 ∧ IsD P v (D v))
theorem Labels.val {D : Nat → Int} (h : Labels P D) (hv : D v ≠ 1099511627776) : IsD P v (D v) := by
  rcases h v with h | h
  · exact absurd h.1 hv
  · exact h.2
theorem Labels.far {D : Nat → Int} (h : Labels P D) (hP : Fit P n) (hn : 0 < n) (h15 : n ≤ 1500) (u : Nat) : (D u = 1099511627776 ∧ farV P u = 1152921504606846976) ∨ (D u ≠ 1099511627776 ∧ farV P u = D u ∧ -1500001500 ≤ D u ∧ D u ≤ 1500001500) := by
  rcases h u with ⟨h1, h2⟩ | ⟨h1, h2⟩
  · exact .inl ⟨h1, far_no h2⟩
  · exact .inr ⟨h1, far_is h2, isD_bd hP hn h15 h2⟩
theorem testF {D : Nat → Int} (h : Labels P D) (hP : Fit P n) (hn : 0 < n) (h15 : n ≤ 1500) (hp : (x, y) ∈ P) (ht : x.t = (v : Int)) : fitF (farV P) v (x, y) ↔ (0 < x.r - y ∧ D x.f.toNat + (10000 * x.c + 1) = D v) := by
  have hc := hP.2 _ hp
  have h1 := h.far hP hn h15 v
  have h2 := h.far hP hn h15 x.f.toNat
  unfold fitF
  simp only at hc ⊢
  constructor
  · rintro ⟨_, a2, a3, a4⟩
    omega
  · rintro ⟨a1, a2⟩
    refine ⟨ht, by omega, by omega, by omega⟩
theorem testB {D : Nat → Int} (h : Labels P D) (hP : Fit P n) (hn : 0 < n) (h15 : n ≤ 1500) (hp : (x, y) ∈ P) (ht : x.f = (v : Int)) : fitB (farV P) v (x, y) ↔ (0 < y ∧ D x.t.toNat + (10000 * -x.c + 1) = D v) := by
  have hc := hP.2 _ hp
  have h1 := h.far hP hn h15 v
  have h2 := h.far hP hn h15 x.t.toNat
  unfold fitB
  simp only at hc ⊢
  constructor
  · rintro ⟨_, a2, a3, a4⟩
    omega
  · rintro ⟨a1, a2⟩
    refine ⟨ht, by omega, by omega, by omega⟩
end

section
variable {B G n : Nat} {w : World} {A : List ArcD} {F : List Int} {S : Nat → Value} {X : List (Nat × Nat)}
/-- The arc into v at a place of v's slice, as the program sees it. -/
theorem RN.pick {D : Nat → Int} (h : RN B w G n A F S X) (hn : netOkV n A = true) (hF : F.length = A.length) (hD : Labels (A.zip F) D) {v k : Nat} (hv : D v ≠ 1099511627776) (hk : k < (bsL (A.zip X) v).length) :
    ∃ (b a u : Nat) (z kc : Int) (l' k' : Int), (bsL (A.zip X) v)[k]? = some b ∧ w.heap[b]? = some (boxR v l' k' (some ⟨a, 0, none⟩)) ∧ w.heap[a]? = some (boxR u z kc (some ⟨b, 0, none⟩)) ∧ (-100 ≤ kc ∧ kc ≤ 100) ∧ u < n ∧
      (rowT (farV (A.zip F)) (A.zip F) v)[k]? = some (decide (0 < z ∧ D u + (10000 * kc + 1) = D v)) ∧
      ((∀ f ∈ (rowT (farV (A.zip F)) (A.zip F) v).take k, f = false) → (0 < z ∧ D u + (10000 * kc + 1) = D v) → Link A X (backB (A.zip F)) v a u ∧ rkV (A.zip F) u < rkV (A.zip F) v ∧ D u ≠ 1099511627776) := by
  obtain ⟨⟨h2, h15⟩, _, hok⟩ := netOk_out hn
  have hn0 : 0 < n := by omega
  have hn15 : n ≤ 1500 := by omega
  have hP : Fit (A.zip F) n := fit_of hn
  obtain ⟨b, hb⟩ : ∃ b, (bsL (A.zip X) v)[k]? = some b := ⟨_, List.getElem?_eq_getElem hk⟩
  obtain ⟨i, x, y, c, d, e1, e2, e3, e4, e5⟩ := row_at (D := farV (A.zip F)) (fun x hx => (arcOk_out (hok x hx)).2.2.1) hF h.len 0 hb
  obtain ⟨b1, b2⟩ := h.box.box i x y c d e1 e2 e3
  have hm : (x, y) ∈ A.zip F := List.mem_of_getElem? (zip_at e1 e2)
  have hdv := hD.val hv
  obtain ⟨⟨hf0, hf1⟩, ⟨ht0, ht1⟩, _, _, hc0, hc1⟩ := arcOk_out (hok x (List.mem_of_getElem? e1))
  have hfin : ∀ u, D u + (10000 * x.c + 1) = D v ∨ D u + (10000 * -x.c + 1) = D v → D u ≠ 1099511627776 := fun u hu e => by
    have := hD.far hP hn0 hn15 v
    omega
  rcases e4 with ⟨rfl, h5, h6⟩ | ⟨rfl, h5, h6⟩
  · have hT := testB hD hP hn0 hn15 hm h5
    have e6 : decide (fitB (farV (A.zip F)) v (x, y)) = decide (0 < y ∧ D x.t.toNat + (10000 * -x.c + 1) = D v) := by rw [decide_eq_decide]; exact hT
    refine ⟨b, d, x.t.toNat, y, -x.c, x.r - y, x.c, hb, by rw [← h5]; exact b1, by rw [Int.toNat_of_nonneg ht0]; exact b2, by omega, by omega, by rw [h6, e6], fun hall hyes => ?_⟩
    have hfit := hT.2 hyes
    have hT2 : (rowT (farV (A.zip F)) (A.zip F) v)[k]? = some true := by rw [h6]; simp [hfit]
    have := (e5 hall hT2).1 rfl h5
    rw [Nat.zero_add] at this
    exact ⟨⟨i, x, b, d, e1, e3, .inr ⟨this, rfl, by omega⟩⟩, fitB_rk hP hn0 hn15 hdv hm hfit, hfin _ (.inr hyes.2)⟩
  · have hT := testF hD hP hn0 hn15 hm h5
    have e6 : decide (fitF (farV (A.zip F)) v (x, y)) = decide (0 < x.r - y ∧ D x.f.toNat + (10000 * x.c + 1) = D v) := by rw [decide_eq_decide]; exact hT
    refine ⟨b, c, x.f.toNat, x.r - y, x.c, y, -x.c, hb, by rw [← h5]; exact b2, by rw [Int.toNat_of_nonneg hf0]; exact b1, by omega, by omega, by rw [h6, e6], fun hall hyes => ?_⟩
    have hfit := hT.2 hyes
    have hT2 : (rowT (farV (A.zip F)) (A.zip F) v)[k]? = some true := by rw [h6]; simp [hfit]
    have := (e5 hall hT2).2 rfl h5
    rw [Nat.zero_add] at this
    exact ⟨⟨i, x, c, b, e1, e3, .inl ⟨this, rfl, by omega⟩⟩, fitF_rk hP hn0 hn15 hdv hm hfit, hfin _ (.inl hyes.2)⟩
end
/-- What an append of one pointer leaves. -/
theorem path_app {w0 w7 w8 : World} {B b a : Nat} {o : Obj} {v v' : Value} {L : List Nat} {u z kc : Int} {p : Option Addr} (hown : w7.ownsRow B 62 1 v L.length (L.map ptrV)) (hB : Below B w0 w7) (hs : B ≤ w7.heap.size) (h72 : w7.heap[a]? = some (boxR u z kc p))
    (hown8 : w8.ownsRow B 62 1 v' (L.length + 1) (L.map ptrV ++ [b].map ptrV)) (hg : (w7.alloc o).grownBy w8 v.ownBlock) :
    ∃ g c, v' = .slice (some ⟨g, 0, none⟩) (L.length + 1) c ∧ w8.ownsRow B 62 1 (.slice (some ⟨g, 0, none⟩) (L.length + 1) c) (L.length + 1) ((L ++ [b]).map ptrV) ∧ w8.cell? ⟨g, L.length, none⟩ = some (.pointer (some ⟨b, 0, none⟩)) ∧ w8.cell? ⟨a, 0, none⟩ = some (.int .i64 u) ∧ Below B w0 w8 := by
  obtain ⟨g, c, rfl⟩ := own_at2 hown8 (by omega)
  have hn8 : w8.ownsRow B 62 1 (.slice (some ⟨g, 0, none⟩) (L.length + 1) c) (L.length + 1) ((L ++ [b]).map ptrV) := by
    rw [List.map_append]
    exact hown8
  have ha := (Array.getElem?_eq_some_iff.1 h72).1
  refine ⟨g, c, rfl, hn8, own_ptr hn8 (by simp), ?_, (hB.alloc hs o).grown hg (by simp; omega) (fun j hj => (hown.lt j hj).1)⟩
  have h82 : w8.heap[a]? = some (boxR u z kc p) := (hg.block a (by simp; omega) (fun e => by
    rcases own_notBox hown (by decide) h72 with h | h
    · rw [h] at e
      cases e
    · exact h e.symm)).trans ((Below.heap_alloc w7 o a ha).trans h72)
  exact box_cell h82 rfl
theorem ptr_newS (w : World) (b : Nat) (t : TypeId) : ∀ j u, ([b].map ptrV)[j]? = some u → (w.alloc (.cells #[.pointer (some ⟨b, 0, none⟩)] t)).cell? ((⟨w.heap.size, 0, none⟩ : Addr).add j) = some u := by
  intro j u h
  have hadd : (⟨w.heap.size, 0, none⟩ : Addr).add j = ⟨w.heap.size, j, none⟩ := by unfold Addr.add; split <;> simp_all
  rw [hadd, World.cell?_alloc_mark]
  simpa [ptrV] using h

set_option maxHeartbeats 4000000 in
theorem implShort (n : Nat) (A : List ArcD) (F : List Int) (B G : Nat) (S : Nat → Value) (X : List (Nat × Nat)) (D : Nat → Int) (ve : Value) (hn : netOkV n A = true) (hF : F.length = A.length) (hD : Labels (A.zip F) D) (h1 : D 1 ≠ 1099511627776) (w : World) (hR : RN B w G n A F S X) (hve : Ints w ve (rowO D n)) :
    Calls Try.prog 36 #[.slice (some ⟨G, 0, none⟩) n n, ve] w fun e w' => ∃ (L : List Nat) (vp : Value), e = .returned vp ∧ w'.ownsRow w.heap.size 62 1 vp L.length (L.map ptrV) ∧ Seg A X (backB (A.zip F)) L 1 0 ∧ L.length ≤ 1500 ∧ Below w.heap.size w w' := by
  obtain ⟨i0, hi, hz0, hz1, hz2⟩ := info_parts Try.infoPtr
  obtain ⟨⟨hN1, hN2⟩, hA3, hok⟩ := netOk_out hn
  have hn1 : 0 < n := by omega
  have hn15 : n ≤ 1500 := by omega
  have hn11 : 1 < n := by omega
  have hrk1 := rk_lt (fit_of (F := F) hn) hn1 hn15 (hD.val h1)
  have HP := Lib.hid (fit_of (F := F) hn)
  have HN := Lib.hid hn
  have HR := Lib.hid hR
  have HLF := Lib.hid hF
  have HD := Lib.hid hD
  have HD1 := Lib.hid h1
  obtain ⟨ae, ce, rfl, HV⟩ := ints_form hve
  rw [rowO_len]
  rcases HV with h0 | ⟨ge, rfl, hge, hce⟩
  · rw [rowO_len] at h0
    omega
  have HCE : Hid (∀ c, c < n → w.cell? ⟨ge, c, none⟩ = some (.int .i64 (D c))) := Lib.hid fun c hc => hce c _ (rowO_at D hc)
  clear hn hok hR hF hD h1 hve hce hN1 hN2
  go_enter Try.func36, Try.ntmps36
  go_wp2_with fail
  go_loopw [5, 6] (fun vp vn wr => ∃ (v : Nat) (L : List Nat), vn = .int .i64 v ∧ v < n ∧ Hid (D v ≠ 1099511627776) ∧ Hid (Seg A X (backB (A.zip F)) L 1 v) ∧ L.length + rkV (A.zip F) v ≤ 1500 ∧ wr.ownsRow w.heap.size 62 1 vp L.length (L.map ptrV) ∧ Below w.heap.size w wr) (fun _ vn _ => rkV (A.zip F) (intOf vn).toNat)
  case atStart => exact ⟨1, [], rfl, hn11, HD1, Lib.hid rfl, by simp; omega, World.ownsRow_nil _ _ _ _, Below.refl _ _⟩
  case round =>
    obtain ⟨v, L, rfl, hvn, HDV, HSG, hlen, hown, hB⟩ := hrel
    obtain ⟨ap, cp, hap⟩ := own_form hown
    subst hap
    have HOW := Lib.hid hown
    have HB := Lib.hid hB
    clear hown hB
    by_cases h0 : v = 0
    · subst h0
      go_wp2_with fail
      go_ret
      exact ⟨L, _, rfl, HOW.out, HSG.out, by omega, HB.out⟩
    · have hv0 : ((v : Int) == 0) = false := by simpa using (fun e => h0 (by omega))
      have hv0b : ((v : Int) != 0) = true := by simpa using (fun e => h0 (by omega))
      have hvn2 : (v : Int) < (n : Int) := by omega
      have d3 := (HR.out.below HB.out).at_row hvn
      obtain ⟨au, cu, hSu⟩ := own_form (HR.out.own v hvn)
      rw [hSu] at d3
      have HSV := Lib.hid hSu
      have hTl := rowT_len (D := farV (A.zip F)) HLF.out HR.out.len v
      have htrue := rowT_mem (fit_ex HP.out hn1 hn15 (HD.out.val HDV.out) h0)
      have hbl : (bsL (A.zip X) v).length ≤ 6400 := by
        rw [rowS_box_len HLF.out HR.out.len v]
        have := rowS_len (A.zip F) v
        have h2 : (A.zip F).length ≤ A.length := by rw [List.length_zip]; omega
        omega
      have HTL := Lib.hid hTl
      have HTR := Lib.hid htrue
      have HV0 := Lib.hid h0
      clear hSu hTl htrue h0
      obtain ⟨m, HM⟩ : ∃ m, Hid (m = (bsL (A.zip X) v).length) := ⟨_, rfl⟩
      rw [← HM.out] at d3 hbl
      go_wp2_with fail
      go_loopw [5, 26] (fun vq i wq => ∃ k : Nat, vq = .slice ap L.length cp ∧ i = .int .i64 k ∧ k ≤ m ∧ Hid (∀ f ∈ (rowT (farV (A.zip F)) (A.zip F) v).take k, f = false) ∧ wq.ownsRow w.heap.size 62 1 (.slice ap L.length cp) L.length (L.map ptrV) ∧ Below w.heap.size w wq) (fun _ i _ => m - (intOf i).toNat)
      case atStart => exact ⟨0, rfl, rfl, Nat.zero_le _, Lib.hid (by rw [List.take_zero]; intro f hf; cases hf), HOW.out, HB.out⟩
      case round =>
        clear HOW HB d3
        obtain ⟨k, rfl, rfl, hk, HALL, hown, hB⟩ := hrel
        have hkm : k < m := by
          refine Classical.byContradiction fun hno => ?_
          have e : k = (rowT (farV (A.zip F)) (A.zip F) v).length := by rw [HTL.out, ← HM.out]; omega
          have := HALL.out true (by rw [e, List.take_length]; exact HTR.out)
          cases this
        obtain ⟨b, a, u, z, kc, l', k', hb, h1, h2, hkc, hun, hT, hyes⟩ := (HR.out.below hB).pick HN.out HLF.out HD.out HDV.out (k := k) (by rw [← HM.out]; exact hkm)
        have hRm := HR.out.below hB
        obtain ⟨ga, ca, hga⟩ := own_at2 (hRm.own v hvn) (by rw [← HM.out]; omega)
        have hga2 := HSV.out.symm.trans hga
        injection hga2 with hga3 _ hga4
        subst hga3 hga4
        have d0 := own_ptr (by have := hRm.own v hvn; rw [hga] at this; exact this) hb
        obtain ⟨_, _, c3⟩ := boxR_cells h1
        have f0 : wr.cell? ⟨a, 0, none⟩ = some (.int .i64 (u : Int)) := box_cell h2 rfl
        have f1 : wr.cell? ⟨a, 1, none⟩ = some (.int .i64 z) := box_cell h2 rfl
        have dv := (hB.cell (p := ⟨ge, v, none⟩) hge).trans (HCE.out v hvn)
        have du := (hB.cell (p := ⟨ge, u, none⟩) hge).trans (HCE.out u hun)
        have hkm2 : (k : Int) < (m : Int) := by omega
        have hun2 : (u : Int) < (n : Int) := by omega
        have hbv := HD.out.far HP.out hn1 hn15 v
        have hbu := HD.out.far HP.out hn1 hn15 u
        have hw1 : IntKind.i64.wrap (D u + (10000 * kc + 1)) = D u + (10000 * kc + 1) := IntWalk.i64_in _ (by omega)
        have HOW := Lib.hid hown
        have HB := Lib.hid hB
        have HB2 := Lib.hid h2
        have HT := Lib.hid hT
        have HYES := Lib.hid hyes
        clear hRm hown hB h1 h2 hT hyes hb hga hbv hbu
        generalize hdu : D u = su at hw1 du
        generalize hdv : D v = sv at dv
        have HDUV := Lib.hid (And.intro hdu hdv)
        clear hdu hdv
        have hno : Hid (¬ (0 < z ∧ su + (10000 * kc + 1) = sv)) → Hid (∀ f ∈ (rowT (farV (A.zip F)) (A.zip F) v).take (k + 1), f = false) := fun h => Lib.hid (by
          obtain ⟨e1, e2⟩ := HDUV.out
          have hT := HT.out
          rw [e1, e2, decide_eq_false h.out] at hT
          obtain ⟨hi, h2⟩ := List.getElem?_eq_some_iff.1 hT
          intro f hf
          rw [List.take_succ_eq_append_getElem hi] at hf
          rcases List.mem_append.1 hf with h | h
          · exact HALL.out f h
          · rw [List.mem_singleton.1 h, h2])
        have HNO := Lib.hid hno
        clear hno
        cases hz : decide (0 < z) with
        | false =>
          have HZ := Lib.hid hz
          clear hz
          go_wp2_with fail
          go_quiet ((go_at_call 41; exact quiet_of (implOpen a z false HZ.out _ (by assumption))))
          go_wp2_with fail
          go_roundw
          case rel => exact ⟨k + 1, rfl, by go_num, by omega, HNO.out (Lib.hid fun h => absurd h.1 (of_decide_eq_false HZ.out)), HOW.out, ⟨HB.out.os, HB.out.tape, HB.out.output, HB.out.size, HB.out.block⟩⟩
          case measure => simp [intOf]; omega
        | true =>
          have HZ := Lib.hid hz
          clear hz
          cases hq : (su + (10000 * kc + 1) == sv) with
          | false =>
            have HQ := Lib.hid hq
            go_wp2_with fail
            go_quiet ((first | (go_at_call 41; exact quiet_of (implOpen a z true HZ.out _ (by assumption))) | (go_at_call 55; exact quiet_of (implLength a u z kc _ hkc _ HB2.out))))
            go_wp2_with fail
            go_roundw
            case rel => exact ⟨k + 1, rfl, by go_num, by omega, HNO.out (Lib.hid fun h => by have := HQ.out; simp [h.2] at this), HOW.out, ⟨HB.out.os, HB.out.tape, HB.out.output, HB.out.size, HB.out.block⟩⟩
            case measure => simp [intOf]; omega
          | true =>
            have HQ := Lib.hid hq
            have hfin : Link A X (backB (A.zip F)) v a u ∧ rkV (A.zip F) u < rkV (A.zip F) v ∧ D u ≠ 1099511627776 := HYES.out HALL.out (by
              obtain ⟨e1, e2⟩ := HDUV.out
              rw [e1, e2]
              exact ⟨of_decide_eq_true HZ.out, by simpa using HQ.out⟩)
            have HFIN := Lib.hid hfin
            clear hfin
            go_wp2_with fail
            go_quiet ((first | (go_at_call 41; exact quiet_of (implOpen a z true HZ.out _ (by assumption))) | (go_at_call 55; exact quiet_of (implLength a u z kc _ hkc _ HB2.out))))
            generalize hq7 : wr.drewN nq = w7
            have hown7 : w7.ownsRow w.heap.size 62 1 (.slice ap L.length cp) L.length (L.map ptrV) := by rw [← hq7]; exact HOW.out
            have hB7 : Below w.heap.size w w7 := by rw [← hq7]; exact ⟨HB.out.os, HB.out.tape, HB.out.output, HB.out.size, HB.out.block⟩
            have h72 : w7.heap[a]? = some (boxR u z kc (some ⟨b, 0, none⟩)) := by rw [← hq7]; exact HB2.out
            clear hq7 d0 c3 f0 f1 dv du hw1 hq HOW HB HB2
            have hs7 := hB7.size
            have ha7 := (Array.getElem?_eq_some_iff.1 h72).1
            have HOW7 := Lib.hid hown7
            have HB7 := Lib.hid hB7
            have H72 := Lib.hid h72
            clear hown7 hB7 h72
            go_wp2_with (at_builtin; go_loud (refine wpList_append_own _ rfl _ _ 60 rfl w.heap.size 62 i0 (.pointer none) 1 8 Try.underlying60 hi hz0 hz1 hz2 rfl (by decide) _ _ _ rfl (HOW7.out.alloc _) ⟨w7.heap.size, 0, none⟩ 1 1 ([a].map ptrV) rfl rfl (ptr_newS _ _ _) (ptrs_one _) (by unfold maxLen; omega) (by omega) (by simp; omega) ?_); intro v' w8 hown8 hgrow _; go_loud (obtain ⟨g8, c8, rfl, hn8, d8, f8, hB8⟩ := path_app HOW7.out HB7.out hs7 H72.out hown8 hgrow; have HN8 := Lib.hid hn8; have HB8 := Lib.hid hB8; clear hown8 hgrow hB8 hn8))
            go_roundw
            case rel =>
              refine ⟨u, L ++ [a], rfl, hun, Lib.hid HFIN.out.2.2, Lib.hid (HSG.out.snoc HV0.out HFIN.out.1), ?_, ?_, HB8.out⟩
              · have := HFIN.out.2.1
                rw [List.length_append]
                simp only [List.length_cons, List.length_nil]
                omega
              · rw [List.length_append]
                exact HN8.out
            case measure =>
              have := HFIN.out.2.1
              simp only [intOf, Int.toNat_natCast]
              omega

end Go.Proofs.Ytobflidianlomaa
