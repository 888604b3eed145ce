/-
  CONTRACT of the program's take: units flow along one arc. No law is proved here.
  CONTRACT of the program's augment: units flow along a way. No law is proved here.
  What MostFlow hands back. No statement is proved here.
  CONTRACT of the program's MostFlow. No law is proved here.
-/
import Derived.Test.YtlkhecdlmbhiaaaDoorZTS37
import Derived.Test.YtlkhecdlmbhiaaaDoorZTS10
import Derived.Test.YtlkhecdlmbhiaaaDoorZTS39
import Derived.Deep.RegionWith
namespace Go.Proofs.YtlkhecdlmbhiaaaDoor
set_option maxRecDepth 4096
open Go.ChangeShapes Go.WideShapes Go.ChangeAt Go.RowKit

theorem boxR_left {w : World} {b : Nat} {a l k : Int} {p : Option Addr} (u : Int) (h : w.heap[b]? = some (boxR a l k p)) : (w.setCell ⟨b, 1, none⟩ (.int .i64 u)).heap[b]? = some (boxR a u k p) :=
  heap_setCell_same w b 1 _ _ _ h
theorem implTake (b c : Nat) (a l k a' l' k' U : Int) (hne : b ≠ c) (hw1 : IntKind.i64.wrap (l - U) = l - U) (hw2 : IntKind.i64.wrap (l' + U) = l' + U) (w : World) (h1 : w.heap[b]? = some (boxR a l k (some ⟨c, 0, none⟩))) (h2 : w.heap[c]? = some (boxR a' l' k' (some ⟨b, 0, none⟩))) :
    Calls Tryd.prog 70 #[ptrV b, .int .i64 U] w fun e w' => e = .returned (.tuple #[]) ∧ w' = (w.setCell ⟨b, 1, none⟩ (.int .i64 (l - U))).setCell ⟨c, 1, none⟩ (.int .i64 (l' + U)) := by
  obtain ⟨_, j1, _⟩ := boxR_cells h1
  have f1 := frozen_of_row w b 1 _ _ h1
  have hb1 := boxR_left (l - U) h1
  have hb2 : (w.setCell ⟨b, 1, none⟩ (.int .i64 (l - U))).heap[c]? = some (boxR a' l' k' (some ⟨b, 0, none⟩)) := (heap_setCell_other w ⟨b, 1, none⟩ c _ (fun e => hne e.symm)).trans h2
  obtain ⟨_, _, j3⟩ := boxR_cells hb1
  obtain ⟨_, j2, _⟩ := boxR_cells hb2
  have f2 := frozen_of_row _ c 1 _ _ hb2
  clear h1 h2 hb1 hb2
  unfold ptrV
  go_enter Tryd.func70, Tryd.ntmps70
  go_wp2_with fail
  exact bodyPost_end (v := .tuple #[]) (by simp [results]) rfl ⟨rfl, rfl⟩

theorem left_facts {n : Nat} {A : List ArcD} {F : List Int} {X : List (Nat × Nat)} {b : Nat} {l : Int} (h : flowOkV n A F = true) (hl : LeftAt A F X b l) : 0 ≤ l ∧ l ≤ 20 := by
  obtain ⟨hn, _, hr, _⟩ := flowOk_out h
  obtain ⟨i, x, y, c, d, h1, h2, _, h4⟩ := hl
  have h5 := hr (x, y) (List.mem_of_getElem? (zip_at h1 h2))
  have h6 := (arcOk_out ((netOk_out hn).2.2 _ (List.mem_of_getElem? h1))).2.2.2.1
  simp only at h5
  omega

section
variable {B G n i c d p q : Nat} {w w' : World} {A : List ArcD} {F : List Int} {S : Nat → Value} {X : List (Nat × Nat)} {x : ArcD} {y : Int}
/-- What take leaves. -/
theorem RN.took {a1 l1 k1 a2 l2 k2 : Int} {r1 r2 : Option Addr} (δ v1 v2 : Int) (h : RN B w G n A F S X) (hx : A[i]? = some x) (hy : F[i]? = some y) (hc : X[i]? = some (c, d)) (hpq : (p = c ∧ q = d) ∨ (p = d ∧ q = c)) (hne : p ≠ q)
    (hp : w.heap[p]? = some (boxR a1 l1 k1 r1)) (hq : w.heap[q]? = some (boxR a2 l2 k2 r2)) (hw : w' = (w.setCell ⟨p, 1, none⟩ (.int .i64 v1)).setCell ⟨q, 1, none⟩ (.int .i64 v2))
    (h1 : w'.heap[c]? = some (boxR x.f (x.r - (y + δ)) x.c (some ⟨d, 0, none⟩))) (h2 : w'.heap[d]? = some (boxR x.t (y + δ) (-x.c) (some ⟨c, 0, none⟩))) :
    RN B w' G n A (Go.Proofs.YtlkhecdlmbhiaaaDoor.bump F i δ) S X ∧ (∀ {B' : Nat} {e : TypeId} {m : Nat} {v : Value} {xs : List Value}, w.ownsRow B' e 1 v m xs → e ≠ 109 → w'.ownsRow B' e 1 v m xs) ∧ ∀ w0 : World, Below B w0 w → Below B w0 w' := by
  have g1 := grown_setCellR w ⟨p, 1, none⟩ (.int .i64 v1)
  have g2 := grown_setCellR (w.setCell ⟨p, 1, none⟩ (.int .i64 v1)) ⟨q, 1, none⟩ (.int .i64 v2)
  rw [← hw] at g2
  have hq1 : (w.setCell ⟨p, 1, none⟩ (.int .i64 v1)).heap[q]? = some (boxR a2 l2 k2 r2) := (heap_setCell_other w ⟨p, 1, none⟩ q _ (fun e => hne e.symm)).trans hq
  refine ⟨h.bump δ hx hy hc hpq hp g1 hq1 g2 h1 h2, fun k he => ?_, fun w0 hb => ?_⟩
  · have k1 := k.kept g1 (own_notBox k he hp)
    exact k1.kept g2 (own_notBox k1 he hq1)
  · have hl := h.box.lt (c, d) (List.mem_of_getElem? hc)
    have hB : B ≤ p ∧ B ≤ q := by rcases hpq with ⟨rfl, rfl⟩ | ⟨rfl, rfl⟩ <;> exact ⟨by omega, by omega⟩
    have hs : B ≤ w.heap.size := by simp only at hl; omega
    have h3 := hb.grown g1 hs (fun j hj => by cases hj; exact hB.1)
    exact h3.grown g2 (Nat.le_trans hs g1.size) (fun j hj => by cases hj; exact hB.2)
theorem RN.fwd (U : Int) (h : RN B w G n A F S X) (hx : A[i]? = some x) (hy : F[i]? = some y) (hc : X[i]? = some (c, d)) (hw : w' = (w.setCell ⟨c, 1, none⟩ (.int .i64 (x.r - y - U))).setCell ⟨d, 1, none⟩ (.int .i64 (y + U))) :
    RN B w' G n A (Go.Proofs.YtlkhecdlmbhiaaaDoor.bump F i U) S X ∧ (∀ {B' : Nat} {e : TypeId} {m : Nat} {v : Value} {xs : List Value}, w.ownsRow B' e 1 v m xs → e ≠ 109 → w'.ownsRow B' e 1 v m xs) ∧ ∀ w0 : World, Below B w0 w → Below B w0 w' := by
  have hcd := (h.box.apart i i c d c d hc hc).1
  obtain ⟨b1, b2⟩ := h.box.box i x y c d hx hy hc
  refine h.took U _ _ hx hy hc (.inl ⟨rfl, rfl⟩) hcd b1 b2 hw ?_ ?_
  · rw [hw, show x.r - (y + U) = x.r - y - U by omega]
    exact (heap_setCell_other _ ⟨d, 1, none⟩ c _ hcd).trans (boxR_left _ b1)
  · rw [hw]
    exact boxR_left _ ((heap_setCell_other w ⟨c, 1, none⟩ d _ (fun e => hcd e.symm)).trans b2)
theorem RN.bwd (U : Int) (h : RN B w G n A F S X) (hx : A[i]? = some x) (hy : F[i]? = some y) (hc : X[i]? = some (c, d)) (hw : w' = (w.setCell ⟨d, 1, none⟩ (.int .i64 (y - U))).setCell ⟨c, 1, none⟩ (.int .i64 (x.r - y + U))) :
    RN B w' G n A (Go.Proofs.YtlkhecdlmbhiaaaDoor.bump F i (-U)) S X ∧ (∀ {B' : Nat} {e : TypeId} {m : Nat} {v : Value} {xs : List Value}, w.ownsRow B' e 1 v m xs → e ≠ 109 → w'.ownsRow B' e 1 v m xs) ∧ ∀ w0 : World, Below B w0 w → Below B w0 w' := by
  have hcd := (h.box.apart i i c d c d hc hc).1
  obtain ⟨b1, b2⟩ := h.box.box i x y c d hx hy hc
  refine h.took (-U) _ _ hx hy hc (.inr ⟨rfl, rfl⟩) (fun e => hcd e.symm) b2 b1 hw ?_ ?_
  · rw [hw, show x.r - (y + -U) = x.r - y + U by omega]
    exact boxR_left _ ((heap_setCell_other w ⟨d, 1, none⟩ c _ hcd).trans b1)
  · rw [hw, show y + -U = y - U by omega]
    exact (heap_setCell_other _ ⟨c, 1, none⟩ d _ (fun e => hcd e.symm)).trans (boxR_left _ b2)
end

end Go.Proofs.YtlkhecdlmbhiaaaDoor

namespace Go.Proofs.YtlkhecdlmbhiaaaDoor
set_option maxRecDepth 4096
open Go.ChangeShapes Go.WideShapes Go.ChangeAt Go.RowKit

set_option maxHeartbeats 1000000 in
theorem implAugment (n : Nat) (A : List ArcD) (F : List Int) (B G Bp : Nat) (S : Nat → Value) (X : List (Nat × Nat)) (ρ : Nat → Nat) (L : List Nat) (v : Value) (hok : flowOkV n A F = true) (hW : Way A F X 1 ρ L 1) (hL : L.length ≤ 2000000) (w : World) (hR : RN B w G n A F S X) (hp : w.ownsRow Bp 107 1 v L.length (L.map ptrV)) :
    Calls Tryd.prog 39 #[v] w fun e w' => ∃ U F', e = .returned (.int .i64 U) ∧ 1 ≤ U ∧ U ≤ 20 ∧ flowOkV n A F' = true ∧ netO (A.zip F') 0 = netO (A.zip F) 0 + U ∧ RN B w' G n A F' S X ∧ Below B w w' := by
  have hL0 : 0 < L.length := by
    cases L with
    | nil => simp [Way] at hW
    | cons b L => simp
  obtain ⟨gp, cp, rfl⟩ := own_at2 hp hL0
  have HW := Lib.hid hW
  have HOK := Lib.hid hok
  have HR := Lib.hid hR
  have HP := Lib.hid hp
  clear hW hok hR hp
  go_enter Tryd.func39, Tryd.ntmps39
  go_wp2_with fail
  go_loopw [3, 10] (fun vu i wr => ∃ (k : Nat) (U : Int), vu = .int .i64 U ∧ i = .int .i64 k ∧ k ≤ L.length ∧ 1 ≤ U ∧ U ≤ 20 ∧ Hid (∀ b ∈ L.take k, ∀ l, LeftAt A F X b l → U ≤ l) ∧ w = wr) (fun _ i _ => L.length - (intOf i).toNat)
  case atStart => exact ⟨0, 20, rfl, rfl, Nat.zero_le _, by decide, by decide, Lib.hid (by simp), rfl⟩
  case round =>
    obtain ⟨k, U, rfl, rfl, hk, hU1, hU2, HU, rfl⟩ := hrel
    by_cases hlt : k < L.length
    · obtain ⟨b, hb⟩ : ∃ b, L[k]? = some b := ⟨_, List.getElem?_eq_getElem hlt⟩
      obtain ⟨u0, w0, hh⟩ := HW.out.at (List.mem_of_getElem? hb)
      obtain ⟨l, hl, hl1⟩ := hh.left
      obtain ⟨a, kc, q, hbx⟩ := HR.out.box.leftAt hl
      obtain ⟨_, k1, _⟩ := boxR_cells hbx
      have d0 := own_ptr HP.out hb
      obtain ⟨hl0, hl2⟩ := left_facts HOK.out hl
      have hlt2 : (k : Int) < (L.length : Int) := by omega
      have HB := Lib.hid hb
      have HLF := Lib.hid hl
      clear hb hh hl hbx
      have HUT : ∀ U', U' ≤ U → U' ≤ l → Hid (∀ b ∈ L.take (k + 1), ∀ l, LeftAt A F X b l → U' ≤ l) := fun U' h1 h2 => Lib.hid (by
        intro b' hb' l' hl'
        obtain ⟨hi, hh⟩ := List.getElem?_eq_some_iff.1 HB.out
        rw [List.take_succ_eq_append_getElem hi] at hb'
        rcases List.mem_append.1 hb' with h | h
        · have := HU.out b' h l' hl'
          omega
        · rw [List.mem_singleton.1 h, hh] at hl'
          rw [HR.out.box.left_one hl' HLF.out]
          exact h2)
      by_cases hm : U ≤ l
      · go_wp2_with fail
        go_roundw
        case rel => exact ⟨k + 1, U, rfl, by go_num, by omega, hU1, hU2, HUT U (Int.le_refl _) hm, trivial⟩
        case measure => simp [intOf]; omega
      · go_wp2_with fail
        go_roundw
        case rel => exact ⟨k + 1, l, by rw [if_pos (by omega)], by go_num, by omega, hl1, hl2, HUT l (by omega) (Int.le_refl _), trivial⟩
        case measure => simp [intOf]; omega
    · obtain rfl : k = L.length := by omega
      have hWU : Way A F X U ρ L 1 := HW.out.raise (by simpa using HU.out)
      have HF := flowOk_out HOK.out
      have HA0 : Hid (AInv A F X U ρ L 1 F) := Lib.hid (AInv.start hWU HF.2.1 HF.2.2.1)
      clear hWU HF
      go_wp2_with fail
      go_loopw [23] (fun i wr => ∃ (k u : Nat) (F' : List Int), i = .int .i64 k ∧ k ≤ L.length ∧ Hid (AInv A F X U ρ (L.drop k) u F') ∧ RN B wr G n A F' S X ∧ Below B w wr ∧ wr.ownsRow Bp 107 1 (.slice (some ⟨gp, 0, none⟩) L.length cp) L.length (L.map ptrV)) (fun i _ => L.length - (intOf i).toNat)
      case atStart => exact ⟨0, 1, F, rfl, Nat.zero_le _, by simpa using HA0, HR.out, Below.refl _ _, HP.out⟩
      case round =>
        clear HA0 HR HP
        obtain ⟨k, u, F', rfl, hk, HI, hR, hB, hP⟩ := hrel
        by_cases hlt : k < L.length
        · obtain ⟨b, hb⟩ : ∃ b, L[k]? = some b := ⟨_, List.getElem?_eq_getElem hlt⟩
          have hdr : L.drop k = b :: L.drop (k + 1) := by
            obtain ⟨hi, hh⟩ := List.getElem?_eq_some_iff.1 hb
            rw [← hh]
            exact List.drop_eq_getElem_cons hi
          have d0 := own_ptr hP hb
          have hI := HI.out
          rw [hdr] at hI
          obtain ⟨i, x, y, c, d, u', hx, hy, hc, hy0, hyr, hcase⟩ := hI.step (by omega)
          have hlt2 : (k : Int) < (L.length : Int) := by omega
          have hxr := (arcOk_out ((netOk_out (flowOk_out HOK.out).1).2.2 _ (List.mem_of_getElem? hx))).2.2.2.1
          have hcd := (hR.box.apart i i c d c d hc hc).1
          obtain ⟨hb1, hb2⟩ := hR.box.box i x y c d hx hy hc
          have HX := Lib.hid hx
          have HY := Lib.hid hy
          have HC := Lib.hid hc
          have HR := Lib.hid hR
          have HBL := Lib.hid hB
          have HP := Lib.hid hP
          have HB1 := Lib.hid hb1
          have HB2 := Lib.hid hb2
          clear hx hy hc hR hB hP hb1 hb2 hb hdr hI
          rcases hcase with ⟨rfl, hroom, hI⟩ | ⟨rfl, hroom, hI⟩
          · have HI2 := Lib.hid hI
            clear hI
            go_wp2_with (go_at_call 70; refine (implTake b d x.f (x.r - y) x.c x.t y (-x.c) U hcd (IntWalk.i64_in _ (by omega)) (IntWalk.i64_in _ (by omega)) _ HB1.out HB2.out).mono ?_; rintro e w' ⟨rfl, hw'⟩; have HW9 := Lib.hid hw'; clear hw')
            go_roundw
            case rel =>
              obtain ⟨r1, r2, r3⟩ := HR.out.fwd U HX.out HY.out HC.out HW9.out
              exact ⟨k + 1, u', _, by go_num, by omega, HI2, r1, r3 _ HBL.out, r2 HP.out (by decide)⟩
            case measure => simp [intOf]; omega
          · have HI2 := Lib.hid hI
            clear hI
            go_wp2_with (go_at_call 70; refine (implTake b c x.t y (-x.c) x.f (x.r - y) x.c U (fun e => hcd e.symm) (IntWalk.i64_in _ (by omega)) (IntWalk.i64_in _ (by omega)) _ HB2.out HB1.out).mono ?_; rintro e w' ⟨rfl, hw'⟩; have HW9 := Lib.hid hw'; clear hw')
            go_roundw
            case rel =>
              obtain ⟨r1, r2, r3⟩ := HR.out.bwd U HX.out HY.out HC.out HW9.out
              exact ⟨k + 1, u', _, by go_num, by omega, HI2, r1, r3 _ HBL.out, r2 HP.out (by decide)⟩
            case measure => simp [intOf]; omega
        · obtain rfl : k = L.length := by omega
          have hI := HI.out
          rw [List.drop_length] at hI
          obtain ⟨h1, h2⟩ := hI.done HOK.out
          have HR := Lib.hid hR
          have HBL := Lib.hid hB
          clear hI hR hB hP
          go_wp2_with fail
          go_ret
          exact ⟨U, F', rfl, hU1, hU2, h1, h2, HR.out, HBL.out⟩

end Go.Proofs.YtlkhecdlmbhiaaaDoor

namespace Go.Proofs.YtlkhecdlmbhiaaaDoor
set_option maxRecDepth 4096
open Go.ChangeShapes Go.WideShapes Go.ChangeAt Go.RowKit

/-- A number and a list of Booleans came back, the list in memory of the call's own. -/
def MostBack (w : World) (z : Int) (o : Nat → Bool) (m : Nat) (e : Ending) (w' : World) : Prop :=
  ∃ v, e = .returned (.tuple #[.int .i64 z, v]) ∧ w'.ownsRow w.heap.size 4 1 v m (rowB o m) ∧ Below w.heap.size w w'

end Go.Proofs.YtlkhecdlmbhiaaaDoor

namespace Go.Proofs.YtlkhecdlmbhiaaaDoor
set_option maxRecDepth 4096
open Go.ChangeShapes Go.WideShapes Go.ChangeAt Go.RowKit

theorem flow_rooms {n : Nat} {A : List ArcD} {F : List Int} (h : flowOkV n A F = true) : A.length ≤ 3200 ∧ ∀ p ∈ A.zip F, 0 ≤ p.2 ∧ p.2 ≤ 20 := by
  obtain ⟨hn, _, hr, _⟩ := flowOk_out h
  obtain ⟨_, hA, hok⟩ := netOk_out hn
  refine ⟨hA, fun p hp => ?_⟩
  have h1 := hr p hp
  have h2 := (arcOk_out (hok _ (zip_arc hp))).2.2.2.1
  omega
theorem flow_bd {n : Nat} {A : List ArcD} {F : List Int} (h : flowOkV n A F = true) : -64000 ≤ netO (A.zip F) 0 ∧ netO (A.zip F) 0 ≤ 64000 := by
  obtain ⟨hA, hp⟩ := flow_rooms h
  have := netO_bound hp 0
  rw [List.length_zip] at this
  omega
/-- What a search for a way has handed back. -/
def Led (n : Nat) (A : List ArcD) (F : List Int) (X : List (Nat × Nat)) (w : World) (v : Value) : Prop :=
  ∃ L B, w.ownsRow B 107 1 v L.length (L.map ptrV) ∧ ((L = [] ∧ v = .slice none 0 0 ∧ reachedB A F 1 = false) ∨ ∃ ρ, Way A F X 1 ρ L 1 ∧ L.length ≤ n)

set_option maxHeartbeats 2000000 in
theorem implMost (N : Int) (A : List ArcD) (v : Value) (z : Int) (o : Nat → Bool) (m : Nat) (hA : A.length ≤ 2000000) (HZ : Hid (mostS N A = z)) (HO : Hid (mostO N A = o)) (HM : Hid (mostN N A = m)) (w : World) (hv : Arcs w v A) :
    Calls Tryd.prog 10 #[.agg #[.int .i64 N, v]] w (MostBack w z o m) := by
  have hB := Below.refl (w.alloc (.cells #[.int .i64 N, v] 32)).heap.size (w.alloc (.cells #[.int .i64 N, v] 32))
  obtain ⟨c0, c1⟩ := net_cells hB
  have HV := Lib.hid hv
  clear hv
  cases hn : netOkV N A with
  | false =>
    have HN := Lib.hid hn
    have e1 : z = -1 := by rw [← HZ.out]; unfold mostS; rw [if_neg (by rw [hn]; simp)]
    have e2 : m = 0 := by rw [← HM.out]; unfold mostN; rw [if_neg (by rw [hn]; simp)]
    subst e1 e2
    clear hn
    go_enter Tryd.func10, Tryd.ntmps10
    go_wp2_with fail
    refine (implNetOk N A _ false HN _ (by omega) (arcs_on HV.out (below_box hB))).mono ?_
    rintro e w1 ⟨rfl, hb⟩
    replace hB := next_below hB hb
    clear hb c0 c1
    go_wp2_with fail
    go_ret2
    exact ⟨_, rfl, World.ownsRow_nil _ _ _ _, below_box hB⟩
  | true =>
    have HN := Lib.hid hn
    obtain ⟨⟨h2, h15⟩, hA3, hokA⟩ := netOk_out hn
    obtain ⟨n, rfl⟩ : ∃ n : Nat, N = n := ⟨N.toNat, by omega⟩
    have e2 : n = m := by rw [← HM.out]; unfold mostN; rw [if_pos hn, Int.toNat_natCast]
    subst e2
    have HOK := Lib.hid hokA
    have HF0 : Hid (flowOkV n A (List.replicate A.length 0) = true) := Lib.hid (zero_ok hn)
    obtain ⟨i0, hi, hz0, hz1, hz2⟩ := info_parts Tryd.info3
    obtain ⟨av, cv, rfl, HVV⟩ := arcs_form HV.out
    clear hn hokA HVV
    go_enter Tryd.func10, Tryd.ntmps10
    go_wp2_with fail
    refine (implNetOk (n : Int) A _ true HN _ (by omega) (arcs_on HV.out (below_box hB))).mono ?_
    rintro e w1 ⟨rfl, hb⟩
    replace hB := next_below hB hb
    obtain ⟨c0, c1⟩ := net_cells hB
    clear hb
    have hs := hB.size
    rw [World.size_alloc] at hs
    go_upto_region 3 with fail
    obtain ⟨wm, hrun, hrow, hg⟩ := run_make_full (P := Tryd.prog) w1.drew w1.heap.size 26 3 i0 (.int .i64 0) 1 Tryd.underlying26 hi hz0 hz1 .i64 .i64 A.length (by rw [hz2]; omega) (by unfold maxLen; omega) (Nat.le_refl _)
    have hBm : Below (w.alloc (.cells #[.int .i64 (n : Int), .slice av A.length cv] 32)).heap.size (w.alloc (.cells #[.int .i64 (n : Int), .slice av A.length cv] 32)) wm := hB.drew.grown hg hB.size (fun j hj => by cases hj)
    obtain ⟨m0, m1⟩ := net_cells hBm
    have hms := hBm.size
    rw [World.size_alloc] at hms
    have hrow0 : wm.ownsRow w1.heap.size 3 1 (.slice (some ⟨w1.heap.size, 0, none⟩) A.length A.length) (List.replicate A.length (0 : Int)).length ((List.replicate A.length 0).map (Value.int .i64)) := by
      have e : (madeCells (Value.int .i64 0).cells (A.length * 1)).toList = (List.replicate A.length 0).map (Value.int .i64) := by
        rw [Nat.mul_one, List.map_replicate]
        exact toList_madeCells_one _ _
      rw [e] at hrow
      rw [List.length_replicate]
      exact hrow
    have HI0 := Lib.hid (ints_of_own hrow0)
    have HBM := Lib.hid hBm
    have HB := Lib.hid hB
    clear hrow hrow0 hg hB hBm
    go_cut [4] from 7 to 15 (fun vr wx => ∃ G S X, vr = .slice (some ⟨G, 0, none⟩) n n ∧ RN (wm.heap.size + 1) wx G n A (List.replicate A.length 0) S X ∧ Below (w.alloc (.cells #[.int .i64 (n : Int), .slice av A.length cv] 32)).heap.size (w.alloc (.cells #[.int .i64 (n : Int), .slice av A.length cv] 32)) wx)
    case first =>
      go_region_with (go_at_call 37; refine (implResidual n A (List.replicate A.length 0) _ _ (by omega) HOK.out hA3 (by simp) (flow_rooms HF0.out).2 _ (arcs_on HV.out (below_box HBM.out)) HI0.out).mono ?_; rintro e w2 ⟨G, S, X, rfl, hR, hb⟩; have HR := Lib.hid hR; have HB2 := Lib.hid hb; clear hR hb)
      all_goals
        go_wp2_with fail
        go_meet
        exact ⟨G, S, X, rfl, HR.out, next_below HBM.out HB2.out⟩
    case rest =>
      clear c0 c1 m0 m1 HB HBM HI0 hrun
      obtain ⟨G, S, X, rfl, hR, hB⟩ := hcut
      have HR := Lib.hid hR
      have HB := Lib.hid hB
      clear hR hB
      go_wp2_with (go_at_call 38; refine (implPath n A _ _ G S X HF0.out _ HR.out).mono ?_; rintro e w5 ⟨L, vp, rfl, hown, hb, hled⟩; have HL := Lib.hid hled; have HOW := Lib.hid hown; have HB5 := Lib.hid hb; clear hled hown hb)
      have hLed : Hid (Led n A (List.replicate A.length 0) X w5 vp) := Lib.hid ⟨L, _, HOW.out, HL.out⟩
      have hR5 := Lib.hid (HR.out.below HB5.out)
      have hBb := Lib.hid (next_below HB.out HB5.out)
      clear HR HB HL HOW HB5
      go_loopw [5, 6] (fun vs vp wr => ∃ F : List Int, vs = .int .i64 (netO (A.zip F) 0) ∧ Hid (flowOkV n A F = true) ∧ Led n A F X wr vp ∧ RN (wm.heap.size + 1) wr G n A F S X ∧ Below (w.alloc (.cells #[.int .i64 (n : Int), .slice av A.length cv] 32)).heap.size (w.alloc (.cells #[.int .i64 (n : Int), .slice av A.length cv] 32)) wr) (fun vs _ _ => (64001 - intOf vs).toNat)
      case atStart => exact ⟨_, by rw [netO_zero], HF0, hLed.out, hR5.out, hBb.out⟩
      case round =>
        clear hLed hR5 hBb
        obtain ⟨F, rfl, HF, ⟨L, Bp, hown, hled⟩, hR, hB⟩ := hrel
        have hfb := flow_bd HF.out
        have HR := Lib.hid hR
        have HB := Lib.hid hB
        have HOW := Lib.hid hown
        rcases hled with ⟨rfl, rfl, hno⟩ | ⟨ρ, hW, hLn⟩
        · have HNO := Lib.hid hno
          have HLF := Lib.hid (flowOk_out HF.out).2.1
          clear hno hR hB hown
          go_wp2_with (go_at_call 40; refine (implFound n A F _ G S _ HN.out hA3 HLF.out _ (HR.out.rg HLF.out HOK.out)).mono ?_; rintro e w9 ⟨vr, rfl, hown, hb⟩; have HOW9 := Lib.hid hown; have HB9 := Lib.hid hb; clear hown hb)
          go_ret2
          obtain ⟨e1, e3⟩ := most_is HF.out HNO.out
          rw [HZ.out] at e1
          rw [HO.out] at e3
          have hwr := HB.out.size
          rw [World.size_alloc] at hwr
          refine ⟨vr, by rw [e1]; rfl, ?_, below_box (next_below HB.out HB9.out)⟩
          rw [← e3]
          exact own_base HOW9.out (by omega)
        · have hL0 : 0 < L.length := by
            cases L with
            | nil => simp [Way] at hW
            | cons b L => simp
          obtain ⟨gp, cp, rfl⟩ := own_at2 hown hL0
          have HW := Lib.hid hW
          have hbs : (w.alloc (.cells #[.int .i64 (n : Int), .slice av A.length cv] 32)).heap.size ≤ wm.heap.size + 1 := by
            rw [World.size_alloc]
            omega
          have HBS := Lib.hid hbs
          clear hW hR hB hown hbs
          go_wp2_with (first
            | (go_at_call 39; refine (implAugment n A F _ G Bp S X ρ L _ HF.out HW.out (by omega) _ HR.out HOW.out).mono ?_; rintro e w6 ⟨U, F', rfl, hU1, hU2, hF', hsz, hR', hb'⟩; have HF' := Lib.hid hF'; have HSZ := Lib.hid hsz; have HR' := Lib.hid hR'; have HB' := Lib.hid hb'; have hw9 : IntKind.i64.wrap (netO (A.zip F) 0 + U) = netO (A.zip F) 0 + U := IntWalk.i64_in _ (by omega); clear hF' hsz hR' hb')
            | (go_at_call 38; refine (implPath n A F' _ G S X HF'.out _ HR'.out).mono ?_; rintro e w5 ⟨L', vp, rfl, hown, hb, hled⟩; have HL := Lib.hid hled; have HOW5 := Lib.hid hown; have HB5 := Lib.hid hb; clear hled hown hb))
          go_roundw
          case rel => exact ⟨F', by rw [HSZ.out], HF', ⟨L', _, HOW5.out, HL.out⟩, HR'.out.below HB5.out, next_below (HB.out.trans (HB'.out.mono HBS.out)) HB5.out⟩
          case measure =>
            have h1 := flow_bd HF'.out
            have h2 := HSZ.out
            simp only [intOf]
            omega

end Go.Proofs.YtlkhecdlmbhiaaaDoor

