/-
  CONTRACTS of the program's take and augment: units flow along a way. No law is proved here.
-/
import Derived.Test.YtghhlojjjjnogaaResR
namespace Go.Proofs.Ytghhlojjjjnogaa
set_option maxRecDepth 4096
open Go.ChangeShapes Go.WideShapes Go.ChangeAt Go.RowKit

theorem boxR_left {w : World} {b : Nat} {a l k : Int} {p : Option Addr} (u : Int) (h : w.heap[b]? = some (boxR a l k p)) : (w.setCell ⟨b, 1, none⟩ (.int .i64 u)).heap[b]? = some (boxR a u k p) :=
  heap_setCell_same w b 1 _ _ _ h
theorem implTake (b c : Nat) (a l k a' l' k' U : Int) (hne : b ≠ c) (hw1 : IntKind.i64.wrap (l - U) = l - U) (hw2 : IntKind.i64.wrap (l' + U) = l' + U) (w : World) (h1 : w.heap[b]? = some (boxR a l k (some ⟨c, 0, none⟩))) (h2 : w.heap[c]? = some (boxR a' l' k' (some ⟨b, 0, none⟩))) :
    Calls Try.prog 62 #[ptrV b, .int .i64 U] w fun e w' => e = .returned (.tuple #[]) ∧ w' = (w.setCell ⟨b, 1, none⟩ (.int .i64 (l - U))).setCell ⟨c, 1, none⟩ (.int .i64 (l' + U)) := by
  obtain ⟨_, j1, _⟩ := boxR_cells h1
  have f1 := frozen_of_row w b 1 _ _ h1
  have hb1 := boxR_left (l - U) h1
  have hb2 : (w.setCell ⟨b, 1, none⟩ (.int .i64 (l - U))).heap[c]? = some (boxR a' l' k' (some ⟨b, 0, none⟩)) := (heap_setCell_other w ⟨b, 1, none⟩ c _ (fun e => hne e.symm)).trans h2
  obtain ⟨_, _, j3⟩ := boxR_cells hb1
  obtain ⟨_, j2, _⟩ := boxR_cells hb2
  have f2 := frozen_of_row _ c 1 _ _ hb2
  clear h1 h2 hb1 hb2
  unfold ptrV
  go_enter Try.func62, Try.ntmps62
  go_wp2_with fail
  exact bodyPost_end (v := .tuple #[]) (by simp [results]) rfl ⟨rfl, rfl⟩

theorem left_facts {n : Nat} {A : List ArcD} {F : List Int} {X : List (Nat × Nat)} {b : Nat} {l : Int} (h : flowOkV n A F = true) (hl : LeftAt A F X b l) : 0 ≤ l ∧ l ≤ 20 := by
  obtain ⟨hn, _, hr, _⟩ := flowOk_out h
  obtain ⟨i, x, y, c, d, h1, h2, _, h4⟩ := hl
  have h5 := hr (x, y) (List.mem_of_getElem? (zip_at h1 h2))
  have h6 := (arcOk_out ((netOk_out hn).2.2 _ (List.mem_of_getElem? h1))).2.2.2.1
  simp only at h5
  omega

section
variable {B G n i c d p q : Nat} {w w' : World} {A : List ArcD} {F : List Int} {S : Nat → Value} {X : List (Nat × Nat)} {x : ArcD} {y : Int}
/-- What take leaves. -/
theorem RN.took {a1 l1 k1 a2 l2 k2 : Int} {r1 r2 : Option Addr} (δ v1 v2 : Int) (h : RN B w G n A F S X) (hx : A[i]? = some x) (hy : F[i]? = some y) (hc : X[i]? = some (c, d)) (hpq : (p = c ∧ q = d) ∨ (p = d ∧ q = c)) (hne : p ≠ q)
    (hp : w.heap[p]? = some (boxR a1 l1 k1 r1)) (hq : w.heap[q]? = some (boxR a2 l2 k2 r2)) (hw : w' = (w.setCell ⟨p, 1, none⟩ (.int .i64 v1)).setCell ⟨q, 1, none⟩ (.int .i64 v2))
    (h1 : w'.heap[c]? = some (boxR x.f (x.r - (y + δ)) x.c (some ⟨d, 0, none⟩))) (h2 : w'.heap[d]? = some (boxR x.t (y + δ) (-x.c) (some ⟨c, 0, none⟩))) :
    RN B w' G n A (Go.Proofs.Ytghhlojjjjnogaa.bump F i δ) S X ∧ (∀ {B' : Nat} {e : TypeId} {m : Nat} {v : Value} {xs : List Value}, w.ownsRow B' e 1 v m xs → e ≠ 85 → w'.ownsRow B' e 1 v m xs) ∧ ∀ w0 : World, Below B w0 w → Below B w0 w' := by
  have g1 := grown_setCellR w ⟨p, 1, none⟩ (.int .i64 v1)
  have g2 := grown_setCellR (w.setCell ⟨p, 1, none⟩ (.int .i64 v1)) ⟨q, 1, none⟩ (.int .i64 v2)
  rw [← hw] at g2
  have hq1 : (w.setCell ⟨p, 1, none⟩ (.int .i64 v1)).heap[q]? = some (boxR a2 l2 k2 r2) := (heap_setCell_other w ⟨p, 1, none⟩ q _ (fun e => hne e.symm)).trans hq
  refine ⟨h.bump δ hx hy hc hpq hp g1 hq1 g2 h1 h2, fun k he => ?_, fun w0 hb => ?_⟩
  · have k1 := k.kept g1 (own_notBox k he hp)
    exact k1.kept g2 (own_notBox k1 he hq1)
  · have hl := h.box.lt (c, d) (List.mem_of_getElem? hc)
    have hB : B ≤ p ∧ B ≤ q := by rcases hpq with ⟨rfl, rfl⟩ | ⟨rfl, rfl⟩ <;> exact ⟨by omega, by omega⟩
    have hs : B ≤ w.heap.size := by simp only at hl; omega
    have h3 := hb.grown g1 hs (fun j hj => by cases hj; exact hB.1)
    exact h3.grown g2 (Nat.le_trans hs g1.size) (fun j hj => by cases hj; exact hB.2)
theorem RN.fwd (U : Int) (h : RN B w G n A F S X) (hx : A[i]? = some x) (hy : F[i]? = some y) (hc : X[i]? = some (c, d)) (hw : w' = (w.setCell ⟨c, 1, none⟩ (.int .i64 (x.r - y - U))).setCell ⟨d, 1, none⟩ (.int .i64 (y + U))) :
    RN B w' G n A (Go.Proofs.Ytghhlojjjjnogaa.bump F i U) S X ∧ (∀ {B' : Nat} {e : TypeId} {m : Nat} {v : Value} {xs : List Value}, w.ownsRow B' e 1 v m xs → e ≠ 85 → w'.ownsRow B' e 1 v m xs) ∧ ∀ w0 : World, Below B w0 w → Below B w0 w' := by
  have hcd := (h.box.apart i i c d c d hc hc).1
  obtain ⟨b1, b2⟩ := h.box.box i x y c d hx hy hc
  refine h.took U _ _ hx hy hc (.inl ⟨rfl, rfl⟩) hcd b1 b2 hw ?_ ?_
  · rw [hw, show x.r - (y + U) = x.r - y - U by omega]
    exact (heap_setCell_other _ ⟨d, 1, none⟩ c _ hcd).trans (boxR_left _ b1)
  · rw [hw]
    exact boxR_left _ ((heap_setCell_other w ⟨c, 1, none⟩ d _ (fun e => hcd e.symm)).trans b2)
theorem RN.bwd (U : Int) (h : RN B w G n A F S X) (hx : A[i]? = some x) (hy : F[i]? = some y) (hc : X[i]? = some (c, d)) (hw : w' = (w.setCell ⟨d, 1, none⟩ (.int .i64 (y - U))).setCell ⟨c, 1, none⟩ (.int .i64 (x.r - y + U))) :
    RN B w' G n A (Go.Proofs.Ytghhlojjjjnogaa.bump F i (-U)) S X ∧ (∀ {B' : Nat} {e : TypeId} {m : Nat} {v : Value} {xs : List Value}, w.ownsRow B' e 1 v m xs → e ≠ 85 → w'.ownsRow B' e 1 v m xs) ∧ ∀ w0 : World, Below B w0 w → Below B w0 w' := by
  have hcd := (h.box.apart i i c d c d hc hc).1
  obtain ⟨b1, b2⟩ := h.box.box i x y c d hx hy hc
  refine h.took (-U) _ _ hx hy hc (.inr ⟨rfl, rfl⟩) (fun e => hcd e.symm) b2 b1 hw ?_ ?_
  · rw [hw, show x.r - (y + -U) = x.r - y + U by omega]
    exact boxR_left _ ((heap_setCell_other w ⟨d, 1, none⟩ c _ hcd).trans b1)
  · rw [hw, show y + -U = y - U by omega]
    exact (heap_setCell_other _ ⟨c, 1, none⟩ d _ (fun e => hcd e.symm)).trans (boxR_left _ b2)
end

set_option maxHeartbeats 1000000 in
theorem implAugment (n : Nat) (A : List ArcD) (F : List Int) (B G Bp : Nat) (S : Nat → Value) (X : List (Nat × Nat)) (ρ : Nat → Nat) (L : List Nat) (v : Value) (hok : flowOkV n A F = true) (hW : Way A F X 1 ρ L 1) (hL : L.length ≤ 2000000) (w : World) (hR : RN B w G n A F S X) (hp : w.ownsRow Bp 83 1 v L.length (L.map ptrV)) :
    Calls Try.prog 50 #[v] w fun e w' => ∃ U F', e = .returned (.int .i64 U) ∧ 1 ≤ U ∧ U ≤ 20 ∧ flowOkV n A F' = true ∧ netO (A.zip F') 0 = netO (A.zip F) 0 + U ∧ RN B w' G n A F' S X ∧ Below B w w' := by
  have hL0 : 0 < L.length := by
    cases L with
    | nil => simp [Way] at hW
    | cons b L => simp
  obtain ⟨gp, cp, rfl⟩ := own_at2 hp hL0
  have HW := Lib.hid hW
  have HOK := Lib.hid hok
  have HR := Lib.hid hR
  have HP := Lib.hid hp
  clear hW hok hR hp
  go_enter Try.func50, Try.ntmps50
  go_wp2_with fail
  go_loopw [3, 10] (fun vu i wr => ∃ (k : Nat) (U : Int), vu = .int .i64 U ∧ i = .int .i64 k ∧ k ≤ L.length ∧ 1 ≤ U ∧ U ≤ 20 ∧ Hid (∀ b ∈ L.take k, ∀ l, LeftAt A F X b l → U ≤ l) ∧ w = wr) (fun _ i _ => L.length - (intOf i).toNat)
  case atStart => exact ⟨0, 20, rfl, rfl, Nat.zero_le _, by decide, by decide, Lib.hid (by simp), rfl⟩
  case round =>
    obtain ⟨k, U, rfl, rfl, hk, hU1, hU2, HU, rfl⟩ := hrel
    by_cases hlt : k < L.length
    · obtain ⟨b, hb⟩ : ∃ b, L[k]? = some b := ⟨_, List.getElem?_eq_getElem hlt⟩
      obtain ⟨u0, w0, hh⟩ := HW.out.at (List.mem_of_getElem? hb)
      obtain ⟨l, hl, hl1⟩ := hh.left
      obtain ⟨a, kc, q, hbx⟩ := HR.out.box.leftAt hl
      obtain ⟨_, k1, _⟩ := boxR_cells hbx
      have d0 := own_ptr HP.out hb
      obtain ⟨hl0, hl2⟩ := left_facts HOK.out hl
      have hlt2 : (k : Int) < (L.length : Int) := by omega
      have HB := Lib.hid hb
      have HLF := Lib.hid hl
      clear hb hh hl hbx
      have HUT : ∀ U', U' ≤ U → U' ≤ l → Hid (∀ b ∈ L.take (k + 1), ∀ l, LeftAt A F X b l → U' ≤ l) := fun U' h1 h2 => Lib.hid (by
        intro b' hb' l' hl'
        obtain ⟨hi, hh⟩ := List.getElem?_eq_some_iff.1 HB.out
        rw [List.take_succ_eq_append_getElem hi] at hb'
        rcases List.mem_append.1 hb' with h | h
        · have := HU.out b' h l' hl'
          omega
        · rw [List.mem_singleton.1 h, hh] at hl'
          rw [HR.out.box.left_one hl' HLF.out]
          exact h2)
      by_cases hm : U ≤ l
      · go_wp2_with fail
        go_roundw
        case rel => exact ⟨k + 1, U, rfl, by go_num, by omega, hU1, hU2, HUT U (Int.le_refl _) hm, trivial⟩
        case measure => simp [intOf]; omega
      · go_wp2_with fail
        go_roundw
        case rel => exact ⟨k + 1, l, by rw [if_pos (by omega)], by go_num, by omega, hl1, hl2, HUT l (by omega) (Int.le_refl _), trivial⟩
        case measure => simp [intOf]; omega
    · obtain rfl : k = L.length := by omega
      have hWU : Way A F X U ρ L 1 := HW.out.raise (by simpa using HU.out)
      have HF := flowOk_out HOK.out
      have HA0 : Hid (AInv A F X U ρ L 1 F) := Lib.hid (AInv.start hWU HF.2.1 HF.2.2.1)
      clear hWU HF
      go_wp2_with fail
      go_loopw [23] (fun i wr => ∃ (k u : Nat) (F' : List Int), i = .int .i64 k ∧ k ≤ L.length ∧ Hid (AInv A F X U ρ (L.drop k) u F') ∧ RN B wr G n A F' S X ∧ Below B w wr ∧ wr.ownsRow Bp 83 1 (.slice (some ⟨gp, 0, none⟩) L.length cp) L.length (L.map ptrV)) (fun i _ => L.length - (intOf i).toNat)
      case atStart => exact ⟨0, 1, F, rfl, Nat.zero_le _, by simpa using HA0, HR.out, Below.refl _ _, HP.out⟩
      case round =>
        clear HA0 HR HP
        obtain ⟨k, u, F', rfl, hk, HI, hR, hB, hP⟩ := hrel
        by_cases hlt : k < L.length
        · obtain ⟨b, hb⟩ : ∃ b, L[k]? = some b := ⟨_, List.getElem?_eq_getElem hlt⟩
          have hdr : L.drop k = b :: L.drop (k + 1) := by
            obtain ⟨hi, hh⟩ := List.getElem?_eq_some_iff.1 hb
            rw [← hh]
            exact List.drop_eq_getElem_cons hi
          have d0 := own_ptr hP hb
          have hI := HI.out
          rw [hdr] at hI
          obtain ⟨i, x, y, c, d, u', hx, hy, hc, hy0, hyr, hcase⟩ := hI.step (by omega)
          have hlt2 : (k : Int) < (L.length : Int) := by omega
          have hxr := (arcOk_out ((netOk_out (flowOk_out HOK.out).1).2.2 _ (List.mem_of_getElem? hx))).2.2.2.1
          have hcd := (hR.box.apart i i c d c d hc hc).1
          obtain ⟨hb1, hb2⟩ := hR.box.box i x y c d hx hy hc
          have HX := Lib.hid hx
          have HY := Lib.hid hy
          have HC := Lib.hid hc
          have HR := Lib.hid hR
          have HBL := Lib.hid hB
          have HP := Lib.hid hP
          have HB1 := Lib.hid hb1
          have HB2 := Lib.hid hb2
          clear hx hy hc hR hB hP hb1 hb2 hb hdr hI
          rcases hcase with ⟨rfl, hroom, hI⟩ | ⟨rfl, hroom, hI⟩
          · have HI2 := Lib.hid hI
            clear hI
            go_wp2_with (go_at_call 62; refine (implTake b d x.f (x.r - y) x.c x.t y (-x.c) U hcd (IntWalk.i64_in _ (by omega)) (IntWalk.i64_in _ (by omega)) _ HB1.out HB2.out).mono ?_; rintro e w' ⟨rfl, hw'⟩; have HW9 := Lib.hid hw'; clear hw')
            go_roundw
            case rel =>
              obtain ⟨r1, r2, r3⟩ := HR.out.fwd U HX.out HY.out HC.out HW9.out
              exact ⟨k + 1, u', _, by go_num, by omega, HI2, r1, r3 _ HBL.out, r2 HP.out (by decide)⟩
            case measure => simp [intOf]; omega
          · have HI2 := Lib.hid hI
            clear hI
            go_wp2_with (go_at_call 62; refine (implTake b c x.t y (-x.c) x.f (x.r - y) x.c U (fun e => hcd e.symm) (IntWalk.i64_in _ (by omega)) (IntWalk.i64_in _ (by omega)) _ HB2.out HB1.out).mono ?_; rintro e w' ⟨rfl, hw'⟩; have HW9 := Lib.hid hw'; clear hw')
            go_roundw
            case rel =>
              obtain ⟨r1, r2, r3⟩ := HR.out.bwd U HX.out HY.out HC.out HW9.out
              exact ⟨k + 1, u', _, by go_num, by omega, HI2, r1, r3 _ HBL.out, r2 HP.out (by decide)⟩
            case measure => simp [intOf]; omega
        · obtain rfl : k = L.length := by omega
          have hI := HI.out
          rw [List.drop_length] at hI
          obtain ⟨h1, h2⟩ := hI.done HOK.out
          have HR := Lib.hid hR
          have HBL := Lib.hid hB
          clear hI hR hB hP
          go_wp2_with fail
          go_ret
          exact ⟨U, F', rfl, hU1, hU2, h1, h2, HR.out, HBL.out⟩

end Go.Proofs.Ytghhlojjjjnogaa
