/-
  CONTRACTS of spec.FlowOk, FlowSize. No law is proved here.
  Cells of a boxed structure; an arc of a right net in natural numbers. Plain facts; no law is proved here.
  The residual network in memory: a row of slices of pointers to arcs. No statement is proved here.
-/
import Derived.Test.YtlkhecdlmbhiaaaDoorZCA23
import Derived.Test.YtlkhecdlmbhiaaaDoorZCA24
import Derived.Maps.AppendAt
namespace Go.Proofs.YtlkhecdlmbhiaaaDoor
set_option maxRecDepth 4096
open Go.ChangeShapes Go.WideShapes Go.ChangeAt Go.RowKit

section
variable {N : Int} {A : List ArcD} {F : List Int}
theorem flow_net (h : netOkV N A = false) : flowOkV N A F = false := by
  unfold flowOkV
  rw [h]
  rfl
theorem flow_len (h : ¬ F.length = A.length) : flowOkV N A F = false := by
  unfold flowOkV
  rw [decide_eq_false h]
  simp
theorem flow_room {p : ArcD × Int} (hp : p ∈ A.zip F) (h : inRoom p = false) : flowOkV N A F = false := by
  cases hf : flowOkV N A F with
  | false => rfl
  | true =>
    have := inV_iff.2 ((flowOk_out hf).2.2.1 p hp)
    unfold inRoom at h
    rw [h] at this
    cases this
theorem flow_out {v : Nat} (h2 : 2 ≤ v) (hv : (v : Int) < N) (h : ¬ netO (A.zip F) v = 0) : flowOkV N A F = false := by
  cases hf : flowOkV N A F with
  | false => rfl
  | true => exact absurd ((flowOk_out hf).2.2.2 v h2 hv) h
theorem room_all {P : List (ArcD × Int)} {k : Nat} {p : ArcD × Int} (h : ∀ q ∈ P.take k, inRoom q = true) (hx : P[k]? = some p) (hp : inRoom p = true) : ∀ q ∈ P.take (k + 1), inRoom q = true := by
  obtain ⟨hi, rfl⟩ := List.getElem?_eq_some_iff.1 hx
  rw [List.take_succ_eq_append_getElem hi]
  intro q hq
  rcases List.mem_append.1 hq with h1 | h1
  · exact h q h1
  · rw [List.mem_singleton] at h1
    rw [h1]
    exact hp
theorem room_20 (hn : netOkV N A = true) (h : ∀ q ∈ A.zip F, inRoom q = true) : ∀ p ∈ A.zip F, 0 ≤ p.2 ∧ p.2 ≤ 20 := fun p hp => by
  have h1 := inV_iff.1 (h p hp)
  have h2 := (arcOk_out ((netOk_out hn).2.2 _ (zip_arc hp))).2.2.2.1
  omega
end

set_option maxHeartbeats 1000000 in
theorem specFlow_in (n : Nat) (A : List ArcD) (F : List Int) (v vf : Value) (b : Bool) (hn : netOkV n A = true) (hF : F.length = A.length) (HB : Hid (flowOkV n A F = b)) (w : World) (hv : Arcs w v A) (hf : Ints w vf F) :
    Calls Tryd.prog 94 #[.agg #[.int .i64 (n : Int), v], vf] w (Made w (.bool b)) := by
  obtain ⟨hN, hA, hok⟩ := netOk_out hn
  have hB := Below.refl (w.alloc (.cells #[.int .i64 (n : Int), v] 32)).heap.size (w.alloc (.cells #[.int .i64 (n : Int), v] 32))
  obtain ⟨c0, c1⟩ := net_cells hB
  have HVV := Lib.hid hv
  obtain ⟨av, cv, rfl, HV⟩ := arcs_form hv
  obtain ⟨af, cf, rfl, HF⟩ := ints_form hf
  have hf2 : Ints w (.slice af A.length cf) F := by rw [← hF]; exact hf
  have HFF := Lib.hid hf2
  have HVh := Lib.hid HV
  have HFh := Lib.hid HF
  have HOK := Lib.hid hok
  have HNT := Lib.hid hn
  have HL := Lib.hid hF
  have hF2 : (F.length == A.length) = true := by simpa using hF
  clear HV hv HF hf hok hn hf2
  go_enter Tryd.func94, Tryd.ntmps94
  go_wp2_with fail
  refine (specNetOk n A _ true HNT _ (by omega) (arcs_on HVV.out (below_box hB))).mono ?_
  rintro e w1 ⟨rfl, hb⟩
  replace hB := next_below hB hb
  obtain ⟨c0, c1⟩ := net_cells hB
  clear hb
  go_wp2_with fail
  go_loopw [5] (fun i wr => ∃ k : Nat, k ≤ F.length ∧ i = .int .i64 k ∧ Hid (∀ q ∈ (A.zip F).take k, inRoom q = true) ∧ Below (w.alloc (.cells #[.int .i64 (n : Int), .slice av A.length cv] 32)).heap.size (w.alloc (.cells #[.int .i64 (n : Int), .slice av A.length cv] 32)) wr) (fun i _ => F.length - (intOf i).toNat)
  case atStart => exact ⟨0, Nat.zero_le _, rfl, Lib.hid (by simp), hB⟩
  case round =>
    clear hB c0 c1
    obtain ⟨k, hk, rfl, HK, hB⟩ := hrel
    obtain ⟨c0, c1⟩ := net_cells hB
    by_cases hlt : k < F.length
    · obtain ⟨y, hy⟩ : ∃ y, F[k]? = some y := ⟨_, List.getElem?_eq_getElem hlt⟩
      obtain ⟨x, hx⟩ : ∃ x, A[k]? = some x := ⟨_, List.getElem?_eq_getElem (by omega)⟩
      rcases HVh.out with h0 | ⟨g, rfl, hgl, hc⟩
      · omega
      · rcases HFh.out with h0 | ⟨gf, rfl, hgf, hcf⟩
        · omega
        · have e0 := ((below_box hB).cell (p := ⟨g, _, none⟩) hgl).trans (hc k x hx).2.2.1
          have e2 := ((below_box hB).cell (p := ⟨gf, _, none⟩) hgf).trans (hcf k y hy)
          have HZ := Lib.hid (zip_at hx hy)
          have hlt2 : (k : Int) < (F.length : Int) := by omega
          have hlt3 : (k : Int) < (A.length : Int) := by omega
          have hlt4 : k < A.length := by omega
          have HB2 := Lib.hid hB.drew
          clear hc hcf hx hy
          cases hr : inV y 0 x.r with
          | true =>
            have HR := Lib.hid hr
            clear hr
            go_wp2_with fail
            go_still_tail 10, (by kernel_rfl)
            change wpList _ _ _ _ _ wr.drew
            go_wp2_with (go_at_call 76; refine (l01In _ _ _ _ HR _).mono ?_; rintro e w' ⟨rfl, rfl⟩)
            go_roundw
            case rel => exact ⟨k + 1, by omega, by go_num, Lib.hid (room_all HK.out HZ.out HR.out), HB2.out⟩
            case measure => simp [intOf]; omega
          | false =>
            have HR := Lib.hid hr
            have e : b = false := by rw [← HB.out]; exact flow_room (List.mem_of_getElem? HZ.out) hr
            subst e
            clear hr
            go_wp2_with fail
            go_still_tail 10, (by kernel_rfl)
            change wpList _ _ _ _ _ wr.drew
            go_wp2_with (go_at_call 76; refine (l01In _ _ _ _ HR _).mono ?_; rintro e w' ⟨rfl, rfl⟩)
            go_ret
            exact ⟨rfl, below_box HB2.out⟩
    · obtain rfl : k = F.length := by omega
      have HALL : Hid (∀ q ∈ A.zip F, inRoom q = true) := Lib.hid (by
        have := HK.out
        rwa [List.take_of_length_le (by rw [List.length_zip]; omega)] at this)
      obtain ⟨R, HR⟩ : ∃ R, Hid (rowO (netO (A.zip F)) n = R) := ⟨_, rfl⟩
      have hn15 : n ≤ 1500 := by omega
      have hRl : R.length = n := by rw [← HR.out, rowO_len]
      clear HK
      go_wp2_with fail
      refine (specOut n A F R _ _ hn15 HOK.out hA HL.out (room_20 HNT.out HALL.out) HR _ (arcs_on HVV.out (below_box hB)) (ints_on HFF.out (below_box hB))).mono ?_
      rintro e w5 ⟨vo, rfl, hown, hb⟩
      replace hB := next_below hB hb
      obtain ⟨ao, co, rfl, HO⟩ := ints_form (ints_of_own hown)
      have HOh := Lib.hid HO
      rw [hRl]
      clear hb hown HO c0 c1
      go_wp2_with fail
      go_loopw [7] (fun i wr => ∃ k : Nat, 2 ≤ k ∧ k ≤ n ∧ i = .int .i64 k ∧ Hid (∀ v : Nat, 2 ≤ v → v < k → netO (A.zip F) v = 0) ∧ wr = w5) (fun i _ => n - (intOf i).toNat)
      case atStart => exact ⟨2, Nat.le_refl _, by omega, rfl, Lib.hid (fun v h1 h2 => by omega), rfl⟩
      case round =>
        obtain ⟨k, hk2, hkn, rfl, HK, rfl⟩ := hrel
        obtain ⟨c0, c1⟩ := net_cells hB
        by_cases hlt : k < n
        · rcases HOh.out with h0 | ⟨go, rfl, hgo, hco⟩
          · omega
          · have d0 := hco k (netO (A.zip F) k) (by rw [← HR.out]; exact rowO_at _ hlt)
            have hlt2 : (k : Int) < (n : Int) := by omega
            clear hco
            by_cases hz : netO (A.zip F) k = 0
            · have HZ := Lib.hid hz
              have hz2 : (netO (A.zip F) k != 0) = false := by simp [hz]
              clear hz
              go_wp2_with fail
              go_roundw
              case rel => exact ⟨k + 1, by omega, by omega, by go_num, Lib.hid (fun v h1 h2 => by
                rcases Nat.lt_or_ge v k with h3 | h3
                · exact HK.out v h1 h3
                · obtain rfl : v = k := by omega
                  exact HZ.out), trivial⟩
              case measure => simp [intOf]; omega
            · have hz2 : (netO (A.zip F) k != 0) = true := by simp [hz]
              have e : b = false := by rw [← HB.out]; exact flow_out hk2 hlt2 hz
              subst e
              clear hz
              go_wp2_with fail
              go_ret
              exact ⟨rfl, below_box hB⟩
        · obtain rfl : k = n := by omega
          have e : b = true := by
            rw [← HB.out]
            exact flowOk_mk HNT.out HL.out (fun p hp => inV_iff.1 (HALL.out p hp)) (fun v h1 h2 => HK.out v h1 (by omega))
          subst e
          go_wp2_with fail
          go_ret
          exact ⟨rfl, below_box hB⟩

theorem specFlowOk (N : Int) (A : List ArcD) (F : List Int) (v vf : Value) (b : Bool) (hAl : A.length ≤ 2000000) (_hFl : F.length ≤ 2000000) (HB : Hid (flowOkV N A F = b)) (w : World) (hv : Arcs w v A) (hf : Ints w vf F) :
    Calls Tryd.prog 94 #[.agg #[.int .i64 N, v], vf] w (Made w (.bool b)) := by
  cases hn : netOkV N A with
  | true =>
    by_cases hF : F.length = A.length
    · obtain ⟨⟨h1, _⟩, _⟩ := netOk_out hn
      obtain ⟨n, rfl⟩ : ∃ n : Nat, N = n := ⟨N.toNat, by omega⟩
      exact specFlow_in n A F v vf b hn hF HB w hv hf
    · have e : b = false := by rw [← HB.out]; exact flow_len hF
      subst e
      have hB := Below.refl (w.alloc (.cells #[.int .i64 N, v] 32)).heap.size (w.alloc (.cells #[.int .i64 N, v] 32))
      obtain ⟨c0, c1⟩ := net_cells hB
      have HVV := Lib.hid hv
      obtain ⟨av, cv, rfl, _⟩ := arcs_form hv
      obtain ⟨af, cf, rfl, _⟩ := ints_form hf
      have HNT := Lib.hid hn
      have hF2 : (F.length == A.length) = false := by simpa using hF
      clear hv hf hn
      go_enter Tryd.func94, Tryd.ntmps94
      go_wp2_with fail
      refine (specNetOk N A _ true HNT _ (by omega) (arcs_on HVV.out (below_box hB))).mono ?_
      rintro e w1 ⟨rfl, hb⟩
      replace hB := next_below hB hb
      obtain ⟨c0, c1⟩ := net_cells hB
      clear hb
      go_wp2_with fail
      go_ret
      exact ⟨rfl, below_box hB⟩
  | false =>
    have e : b = false := by rw [← HB.out]; exact flow_net hn
    subst e
    have hB := Below.refl (w.alloc (.cells #[.int .i64 N, v] 32)).heap.size (w.alloc (.cells #[.int .i64 N, v] 32))
    obtain ⟨c0, c1⟩ := net_cells hB
    have HVV := Lib.hid hv
    obtain ⟨av, cv, rfl, _⟩ := arcs_form hv
    have HNT := Lib.hid hn
    clear hv hf hn
    go_enter Tryd.func94, Tryd.ntmps94
    go_wp2_with fail
    refine (specNetOk N A _ false HNT _ (by omega) (arcs_on HVV.out (below_box hB))).mono ?_
    rintro e w1 ⟨rfl, hb⟩
    replace hB := next_below hB hb
    clear hb
    go_wp2_with fail
    go_ret
    exact ⟨rfl, below_box hB⟩

theorem flow_facts {N : Int} {A : List ArcD} {F : List Int} (h : flowOkV N A F = true) : ∃ n : Nat, N = n ∧ 2 ≤ n ∧ n ≤ 1500 ∧ (∀ x ∈ A, arcOk (n : Int) x = true) ∧ A.length ≤ 3200 ∧ F.length = A.length ∧ ∀ p ∈ A.zip F, 0 ≤ p.2 ∧ p.2 ≤ 20 := by
  obtain ⟨hn, hF, hr, _⟩ := flowOk_out h
  obtain ⟨⟨h1, h2⟩, hA, hok⟩ := netOk_out hn
  obtain ⟨n, rfl⟩ : ∃ n : Nat, N = n := ⟨N.toNat, by omega⟩
  refine ⟨n, rfl, by omega, by omega, hok, hA, hF, fun p hp => ?_⟩
  have := hr p hp
  have h2 := (arcOk_out (hok _ (zip_arc hp))).2.2.2.1
  omega

end Go.Proofs.YtlkhecdlmbhiaaaDoor

namespace Go.Proofs.YtlkhecdlmbhiaaaDoor
set_option maxRecDepth 4096
open Go.ChangeShapes Go.WideShapes Go.ChangeAt Go.RowKit

theorem box_cell {w : World} {g j : Nat} {cs : Array Value} {t : TypeId} {u : Value} (h : w.heap[g]? = some (.cells cs t)) (hu : cs[j]? = some u) : w.cell? ⟨g, j, none⟩ = some u := (cell_of_row w g j cs t _ h).trans hu
theorem box_set {w : World} {g G j : Nat} {o : Obj} {u : Value} (h : w.heap[g]? = some o) (hG : G ≠ g) : (w.setCell ⟨G, j, none⟩ u).heap[g]? = some o := (heap_setCell_other w ⟨G, j, none⟩ g u (fun e => hG e.symm)).trans h
/-- An arc of a right net, its ends as natural numbers. -/
theorem arc_nat {n k : Nat} {A : List ArcD} (hok : ∀ x ∈ A, arcOk (n : Int) x = true) (h : k < A.length) : ∃ (a b : Nat) (r c : Int), A[k]? = some ⟨a, b, r, c⟩ ∧ a < n ∧ b < n ∧ a ≠ b ∧ (0 ≤ r ∧ r ≤ 20) ∧ (0 ≤ c ∧ c ≤ 100) := by
  have hx : A[k]? = some A[k] := List.getElem?_eq_getElem h
  obtain ⟨⟨hf0, hf1⟩, ⟨ht0, ht1⟩, hne, hr, hc⟩ := arcOk_out (hok _ (List.mem_of_getElem? hx))
  refine ⟨A[k].f.toNat, A[k].t.toNat, A[k].r, A[k].c, ?_, by omega, by omega, by omega, hr, hc⟩
  rw [hx, Int.toNat_of_nonneg hf0, Int.toNat_of_nonneg ht0]

end Go.Proofs.YtlkhecdlmbhiaaaDoor

namespace Go.Proofs.YtlkhecdlmbhiaaaDoor
set_option maxRecDepth 4096
open Go.ChangeShapes Go.WideShapes Go.ChangeAt Go.RowKit

/-- What leads away from a node: where to, and how many units still can. -/
def awayP (p : ArcD × Int) (v : Nat) : List (Nat × Int) := (if p.1.f = (v : Int) then [(p.1.t.toNat, p.1.r - p.2)] else []) ++ (if p.1.t = (v : Int) then [(p.1.f.toNat, p.2)] else [])
def resL (P : List (ArcD × Int)) (v : Nat) : List (Nat × Int) := P.flatMap fun p => awayP p v
def addE (E : Nat → List (Nat × Int)) (a : Nat) (e : Nat × Int) (v : Nat) : List (Nat × Int) := if v = a then E v ++ [e] else E v
def addB (bs : Nat → List Nat) (a b v : Nat) : List Nat := if v = a then bs v ++ [b] else bs v
theorem addB_is (bs : Nat → List Nat) (a b : Nat) : addB bs a b = fun v => if v = a then bs a ++ [b] else bs v := by
  funext v
  unfold addB
  by_cases e : v = a
  · rw [if_pos e, if_pos e, e]
  · rw [if_neg e, if_neg e]
theorem away_iff {p : ArcD × Int} {v : Nat} {e : Nat × Int} : e ∈ awayP p v ↔ (p.1.f = (v : Int) ∧ e = (p.1.t.toNat, p.1.r - p.2)) ∨ (p.1.t = (v : Int) ∧ e = (p.1.f.toNat, p.2)) := by
  unfold awayP
  rw [List.mem_append]
  by_cases h1 : p.1.f = (v : Int) <;> by_cases h2 : p.1.t = (v : Int) <;> simp [h1, h2]
theorem resL_iff {P : List (ArcD × Int)} {v : Nat} {e : Nat × Int} : e ∈ resL P v ↔ ∃ p ∈ P, (p.1.f = (v : Int) ∧ e = (p.1.t.toNat, p.1.r - p.2)) ∨ (p.1.t = (v : Int) ∧ e = (p.1.f.toNat, p.2)) := by
  unfold resL
  rw [List.mem_flatMap]
  exact ⟨fun ⟨p, hp, he⟩ => ⟨p, hp, away_iff.1 he⟩, fun ⟨p, hp, he⟩ => ⟨p, hp, away_iff.2 he⟩⟩
theorem resL_len (P : List (ArcD × Int)) (v : Nat) : (resL P v).length ≤ 2 * P.length := by
  unfold resL
  induction P with
  | nil => simp
  | cons p P ih =>
    have : (awayP p v).length ≤ 2 := by
      unfold awayP
      split <;> split <;> simp
    simp only [List.flatMap_cons, List.length_append, List.length_cons]
    omega
theorem resL_step {P : List (ArcD × Int)} {k a b : Nat} {r c y : Int} (h : P[k]? = some (⟨a, b, r, c⟩, y)) (hab : a ≠ b) (v : Nat) : addE (addE (resL (P.take k)) a (b, r - y)) b (a, y) v = resL (P.take (k + 1)) v := by
  obtain ⟨hi, e⟩ := List.getElem?_eq_some_iff.1 h
  unfold resL
  rw [List.take_succ_eq_append_getElem hi, List.flatMap_append, e]
  simp only [List.flatMap_cons, List.flatMap_nil, List.append_nil]
  unfold addE awayP
  simp only [Int.toNat_natCast, Int.natCast_inj]
  by_cases h1 : v = a
  · subst h1
    have h2 : ¬ b = v := fun e => hab e.symm
    have h3 : ¬ v = b := hab
    simp [h2, h3]
  · by_cases h2 : v = b
    · subst h2
      have h3 : ¬ a = v := fun e => h1 e.symm
      simp [h1, h3]
    · have h3 : ¬ a = v := fun e => h1 e.symm
      have h4 : ¬ b = v := fun e => h2 e.symm
      simp [h1, h2, h3, h4]

def ptrV (b : Nat) : Value := .pointer (some ⟨b, 0, none⟩)
def boxR (a l k : Int) (p : Option Addr) : Obj := .cells #[.int .i64 a, .int .i64 l, .int .i64 k, .pointer p] 109
/-- The arc in block b leads away from v as e says. -/
def Edge (w : World) (v : Nat) (e : Nat × Int) (b : Nat) : Prop :=
  ∃ rb k l' k' q, w.heap[b]? = some (boxR v e.2 k (some ⟨rb, 0, none⟩)) ∧ w.heap[rb]? = some (boxR e.1 l' k' q)
def notBox (w : World) (r : Option Nat) : Prop := ∀ k, r = some k → ∀ a l c p, w.heap[k]? ≠ some (boxR a l c p)
theorem Edge.grown {w w' : World} {v b : Nat} {e : Nat × Int} {r : Option Nat} (h : Edge w v e b) (g : w.grownBy w' r) (hr : notBox w r) : Edge w' v e b := by
  obtain ⟨rb, k, l', k', q, h1, h2⟩ := h
  have k1 := (Array.getElem?_eq_some_iff.1 h1).1
  have k2 := (Array.getElem?_eq_some_iff.1 h2).1
  exact ⟨rb, k, l', k', q, (g.block b k1 (fun e => hr b e.symm _ _ _ _ h1)).trans h1, (g.block rb k2 (fun e => hr rb e.symm _ _ _ _ h2)).trans h2⟩
theorem notBox_none (w : World) : notBox w none := fun k h => by cases h
theorem notBox_own {w : World} {B : Nat} {e : TypeId} {s n : Nat} {v : Value} {xs : List Value} (h : w.ownsRow B e s v n xs) (he : e ≠ 109) : notBox w v.ownBlock := by
  intro k hk a l c p hb
  rcases h.2 with ⟨rfl, _⟩ | ⟨g, cap, cur, rfl, _, hg, _⟩
  · cases hk
  · cases hk
    rw [hb] at hg
    unfold boxR at hg
    injection hg with hg
    injection hg with _ h2
    exact he h2.symm
theorem own_types {w : World} {B B' : Nat} {e e' : TypeId} {s s' n n' : Nat} {v v' : Value} {xs xs' : List Value} (h : w.ownsRow B e s v n xs) (h' : w.ownsRow B' e' s' v' n' xs') (he : e ≠ e') : v.ownBlock = none ∨ v.ownBlock ≠ v'.ownBlock := by
  rcases h.2 with ⟨rfl, _⟩ | ⟨g, cap, cur, rfl, _, hg, _⟩
  · exact .inl rfl
  · refine .inr (fun k => ?_)
    rcases h'.2 with ⟨rfl, _⟩ | ⟨g', cap', cur', rfl, _, hg', _⟩
    · cases k
    · have k2 : g = g' := by simpa [Value.ownBlock] using k
      subst k2
      rw [hg] at hg'
      injection hg' with hg'
      injection hg' with _ h2
      exact he h2

def rowV (S : Nat → Value) (n : Nat) : List Value := (List.range n).map S
theorem rowV_len (S : Nat → Value) (n : Nat) : (rowV S n).length = n := by simp [rowV]
theorem rowV_at (S : Nat → Value) {n c : Nat} (h : c < n) : (rowV S n)[c]? = some (S c) := by simp [rowV, h]
theorem rowV_set (S : Nat → Value) {n c : Nat} (x : Value) : (rowV S n).set c x = rowV (fun v => if v = c then x else S v) n := by
  apply List.ext_getElem?
  intro j
  rw [List.getElem?_set]
  by_cases hj : j < n
  · rw [rowV_at _ hj, rowV_at _ hj]
    by_cases e : c = j
    · subst e
      rw [if_pos rfl, if_pos (by rw [rowV_len]; exact hj), if_pos rfl]
    · rw [if_neg e, if_neg (fun h => e h.symm)]
  · have h1 : ∀ S : Nat → Value, (rowV S n)[j]? = none := fun S => List.getElem?_eq_none_iff.2 (by rw [rowV_len]; omega)
    rw [h1, h1]
    split
    · rw [if_neg (by rw [rowV_len]; omega)]
    · rfl

/-- The network: for each node a slice of pointers to the arcs that lead away from it. -/
structure RG (B : Nat) (w : World) (G n : Nat) (E : Nat → List (Nat × Int)) (S : Nat → Value) (bs : Nat → List Nat) : Prop where
  row : w.ownsRow B 77 1 (.slice (some ⟨G, 0, none⟩) n n) n (rowV S n)
  len : ∀ v, v < n → (bs v).length = (E v).length
  own : ∀ v, v < n → w.ownsRow B 107 1 (S v) (bs v).length ((bs v).map ptrV)
  edge : ∀ v, v < n → ∀ (j : Nat) e b, (E v)[j]? = some e → (bs v)[j]? = some b → Edge w v e b
  apart : ∀ u v, u < n → v < n → u ≠ v → (S u).ownBlock = none ∨ (S u).ownBlock ≠ (S v).ownBlock

section
variable {B G n : Nat} {w w' : World} {E : Nat → List (Nat × Int)} {S : Nat → Value} {bs : Nat → List Nat}
theorem below_grownN (h : Below w.heap.size w w') : w.grownBy w' none := ⟨h.os, h.tape, h.output, h.size, fun i hi _ => h.block i hi⟩
theorem ne_none (v : Value) : v.ownBlock = none ∨ v.ownBlock ≠ none := by cases h : v.ownBlock <;> simp
theorem RG.below (h : RG B w G n E S bs) (g : Below w.heap.size w w') : RG B w' G n E S bs := by
  have g' := below_grownN g
  exact ⟨h.row.kept g' (ne_none _), h.len, fun v hv => (h.own v hv).kept g' (ne_none _), fun v hv j e b he hb => (h.edge v hv j e b he hb).grown g' (notBox_none w), h.apart⟩
theorem RG.same (h : RG B w G n E S bs) {E' : Nat → List (Nat × Int)} (he : ∀ v, E v = E' v) : RG B w G n E' S bs := by
  have : E = E' := funext he
  rw [← this]
  exact h
theorem RG.at_row (h : RG B w G n E S bs) {v : Nat} (hv : v < n) : w.cell? ⟨G, v, none⟩ = some (S v) := by
  have := h.row.cells (g := G) rfl v (S v) (rowV_at S hv)
  have hadd : (⟨G, 0, none⟩ : Addr).add v = ⟨G, v, none⟩ := by unfold Addr.add; split <;> simp_all
  rwa [hadd] at this
/-- One more arc leads away from a: what an append and the store of its slice leave. -/
theorem RG.push (h : RG B w G n E S bs) {a b : Nat} {e : Nat × Int} {v' : Value} (ha : a < n) (hE : Edge w a e b) (hown : w'.ownsRow B 107 1 v' ((bs a).length + 1) ((bs a).map ptrV ++ [b].map ptrV))
    (hg : w.grownBy w' (S a).ownBlock) (hat : (S a).ownBlock = v'.ownBlock ∨ v'.ownBlock = some w.heap.size) :
    RG B (w'.setCell ⟨G, a, none⟩ v') G n (addE E a e) (fun v => if v = a then v' else S v) (addB bs a b) ∧ w'.grownBy (w'.setCell ⟨G, a, none⟩ v') (some G) := by
  rw [addB_is]
  have hrow : w'.ownsRow B 77 1 (.slice (some ⟨G, 0, none⟩) n n) n (rowV S n) := h.row.kept hg (own_types h.row (h.own a ha) (by decide))
  obtain ⟨h1, h2⟩ := hrow.stored a v'
  rw [rowV_set] at h1
  have hnb1 : notBox w (S a).ownBlock := notBox_own (h.own a ha) (by decide)
  have hnb2 : notBox w' (some G) := notBox_own hrow (by decide)
  have hown2 := hown.kept h2 (own_types hown hrow (by decide))
  have hother : ∀ v, v < n → v ≠ a → (w'.setCell ⟨G, a, none⟩ v').ownsRow B 107 1 (S v) (bs v).length ((bs v).map ptrV) := fun v hv hne => by
    have k1 := (h.own v hv).kept hg (h.apart v a hv ha hne)
    exact k1.kept h2 (own_types k1 hrow (by decide))
  refine ⟨⟨h1, fun v hv => ?_, fun v hv => ?_, fun v hv j e' b' he hb => ?_, fun u v hu hv hne => ?_⟩, h2⟩
  · unfold addE
    by_cases hva : v = a
    · subst hva
      simp [h.len v hv]
    · simp [hva, h.len v hv]
  · by_cases hva : v = a
    · subst hva
      simpa using hown2
    · simpa [hva] using hother v hv hva
  · have hkeep : ∀ {v e b}, Edge w v e b → Edge (w'.setCell ⟨G, a, none⟩ v') v e b := fun hh => (hh.grown hg hnb1).grown h2 hnb2
    unfold addE at he
    by_cases hva : v = a
    · subst hva
      rw [if_pos rfl] at he
      simp only [if_true] at hb
      rcases Nat.lt_or_ge j (E v).length with hj | hj
      · rw [List.getElem?_append_left hj] at he
        rw [List.getElem?_append_left (by rw [h.len v hv]; exact hj)] at hb
        exact hkeep (h.edge v hv j e' b' he hb)
      · rw [List.getElem?_append_right hj] at he
        rw [List.getElem?_append_right (by rw [h.len v hv]; exact hj), h.len v hv] at hb
        cases hz : j - (E v).length with
        | zero =>
          rw [hz] at he hb
          cases he
          cases hb
          exact hkeep hE
        | succ m => rw [hz] at he; cases he
    · rw [if_neg hva] at he
      simp only [if_neg hva] at hb
      exact hkeep (h.edge v hv j e' b' he hb)
  · have hlt : ∀ v, v < n → ∀ k, (S v).ownBlock = some k → k < w.heap.size := fun v hv k hk => ((h.own v hv).lt k hk).2
    have key : ∀ u, u < n → u ≠ a → (S u).ownBlock = none ∨ (S u).ownBlock ≠ v'.ownBlock := fun u hu hua => by
      rcases hat with e | e
      · rw [← e]
        exact h.apart u a hu ha hua
      · rcases h3 : (S u).ownBlock with _ | k
        · exact .inl rfl
        · refine .inr (fun k2 => ?_)
          rw [e] at k2
          have k3 := hlt u hu k h3
          have k4 := Option.some.inj k2
          omega
    by_cases hu2 : u = a
    · have hv2 : v ≠ a := fun e => hne (hu2.trans e.symm)
      simp only [hu2, if_true, if_neg hv2]
      rcases key v hv hv2 with k | k
      · cases h3 : v'.ownBlock with
        | none => exact .inl rfl
        | some m => rw [k]; exact .inr (by simp)
      · exact .inr (fun e => k e.symm)
    · by_cases hv2 : v = a
      · simp only [hv2, if_true, if_neg hu2]
        exact key u hu hu2
      · simp only [if_neg hu2, if_neg hv2]
        exact h.apart u v hu hv hne
/-- The network as it begins. -/
theorem RG.start (h : w.ownsRow B 77 1 (.slice (some ⟨G, 0, none⟩) n n) n (madeCells (Value.slice none 0 0).cells (n * 1)).toList) : RG B w G n (fun _ => []) (fun _ => .slice none 0 0) (fun _ => []) := by
  have e : (madeCells (Value.slice none 0 0).cells (n * 1)).toList = rowV (fun _ => .slice none 0 0) n := by
    rw [Nat.mul_one]
    refine (toList_madeCells_one _ _).trans ?_
    unfold rowV
    rw [List.map_const', List.length_range]
  rw [e] at h
  exact ⟨h, fun v _ => rfl, fun v _ => World.ownsRow_nil w B _ 1, fun v _ j e b he => by simp at he, fun u v _ _ _ => .inl rfl⟩
end

end Go.Proofs.YtlkhecdlmbhiaaaDoor

