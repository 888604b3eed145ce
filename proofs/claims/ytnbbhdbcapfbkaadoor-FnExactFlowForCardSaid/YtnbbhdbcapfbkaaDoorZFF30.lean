/-
  CONTRACTS of spec.FlowOk, FlowSize. No law is proved here.
  Cells of a boxed structure; an arc of a right net in natural numbers. Plain facts; no law is proved here.
-/
import Derived.Test.YtnbbhdbcapfbkaaDoorZFF17
import Derived.Test.YtnbbhdbcapfbkaaDoorZFF18
namespace Go.Proofs.YtnbbhdbcapfbkaaDoor
set_option maxRecDepth 4096
open Go.ChangeShapes Go.WideShapes Go.ChangeAt Go.RowKit

section
variable {N : Int} {A : List ArcD} {F : List Int}
theorem flow_net (h : netOkV N A = false) : flowOkV N A F = false := by
  unfold flowOkV
  rw [h]
  rfl
theorem flow_len (h : ¬ F.length = A.length) : flowOkV N A F = false := by
  unfold flowOkV
  rw [decide_eq_false h]
  simp
theorem flow_room {p : ArcD × Int} (hp : p ∈ A.zip F) (h : inRoom p = false) : flowOkV N A F = false := by
  cases hf : flowOkV N A F with
  | false => rfl
  | true =>
    have := inV_iff.2 ((flowOk_out hf).2.2.1 p hp)
    unfold inRoom at h
    rw [h] at this
    cases this
theorem flow_out {v : Nat} (h2 : 2 ≤ v) (hv : (v : Int) < N) (h : ¬ netO (A.zip F) v = 0) : flowOkV N A F = false := by
  cases hf : flowOkV N A F with
  | false => rfl
  | true => exact absurd ((flowOk_out hf).2.2.2 v h2 hv) h
theorem room_all {P : List (ArcD × Int)} {k : Nat} {p : ArcD × Int} (h : ∀ q ∈ P.take k, inRoom q = true) (hx : P[k]? = some p) (hp : inRoom p = true) : ∀ q ∈ P.take (k + 1), inRoom q = true := by
  obtain ⟨hi, rfl⟩ := List.getElem?_eq_some_iff.1 hx
  rw [List.take_succ_eq_append_getElem hi]
  intro q hq
  rcases List.mem_append.1 hq with h1 | h1
  · exact h q h1
  · rw [List.mem_singleton] at h1
    rw [h1]
    exact hp
theorem room_20 (hn : netOkV N A = true) (h : ∀ q ∈ A.zip F, inRoom q = true) : ∀ p ∈ A.zip F, 0 ≤ p.2 ∧ p.2 ≤ 20 := fun p hp => by
  have h1 := inV_iff.1 (h p hp)
  have h2 := (arcOk_out ((netOk_out hn).2.2 _ (zip_arc hp))).2.2.2.1
  omega
end

set_option maxHeartbeats 1000000 in
theorem specFlow_in (n : Nat) (A : List ArcD) (F : List Int) (v vf : Value) (b : Bool) (hn : netOkV n A = true) (hF : F.length = A.length) (HB : Hid (flowOkV n A F = b)) (w : World) (hv : Arcs w v A) (hf : Ints w vf F) :
    Calls Tryd.prog 55 #[.agg #[.int .i64 (n : Int), v], vf] w (Made w (.bool b)) := by
  obtain ⟨hN, hA, hok⟩ := netOk_out hn
  have hB := Below.refl (w.alloc (.cells #[.int .i64 (n : Int), v] 45)).heap.size (w.alloc (.cells #[.int .i64 (n : Int), v] 45))
  obtain ⟨c0, c1⟩ := net_cells hB
  have HVV := Lib.hid hv
  obtain ⟨av, cv, rfl, HV⟩ := arcs_form hv
  obtain ⟨af, cf, rfl, HF⟩ := ints_form hf
  have hf2 : Ints w (.slice af A.length cf) F := by rw [← hF]; exact hf
  have HFF := Lib.hid hf2
  have HVh := Lib.hid HV
  have HFh := Lib.hid HF
  have HOK := Lib.hid hok
  have HNT := Lib.hid hn
  have HL := Lib.hid hF
  have hF2 : (F.length == A.length) = true := by simpa using hF
  clear HV hv HF hf hok hn hf2
  go_enter Tryd.func55, Tryd.ntmps55
  go_wp2_with fail
  refine (specNetOk n A _ true HNT _ (by omega) (arcs_on HVV.out (below_box hB))).mono ?_
  rintro e w1 ⟨rfl, hb⟩
  replace hB := next_below hB hb
  obtain ⟨c0, c1⟩ := net_cells hB
  clear hb
  go_wp2_with fail
  go_loopw [5] (fun i wr => ∃ k : Nat, k ≤ F.length ∧ i = .int .i64 k ∧ Hid (∀ q ∈ (A.zip F).take k, inRoom q = true) ∧ Below (w.alloc (.cells #[.int .i64 (n : Int), .slice av A.length cv] 45)).heap.size (w.alloc (.cells #[.int .i64 (n : Int), .slice av A.length cv] 45)) wr) (fun i _ => F.length - (intOf i).toNat)
  case atStart => exact ⟨0, Nat.zero_le _, rfl, Lib.hid (by simp), hB⟩
  case round =>
    clear hB c0 c1
    obtain ⟨k, hk, rfl, HK, hB⟩ := hrel
    obtain ⟨c0, c1⟩ := net_cells hB
    by_cases hlt : k < F.length
    · obtain ⟨y, hy⟩ : ∃ y, F[k]? = some y := ⟨_, List.getElem?_eq_getElem hlt⟩
      obtain ⟨x, hx⟩ : ∃ x, A[k]? = some x := ⟨_, List.getElem?_eq_getElem (by omega)⟩
      rcases HVh.out with h0 | ⟨g, rfl, hgl, hc⟩
      · omega
      · rcases HFh.out with h0 | ⟨gf, rfl, hgf, hcf⟩
        · omega
        · have e0 := ((below_box hB).cell (p := ⟨g, _, none⟩) hgl).trans (hc k x hx).2.2.1
          have e2 := ((below_box hB).cell (p := ⟨gf, _, none⟩) hgf).trans (hcf k y hy)
          have HZ := Lib.hid (zip_at hx hy)
          have hlt2 : (k : Int) < (F.length : Int) := by omega
          have hlt3 : (k : Int) < (A.length : Int) := by omega
          have hlt4 : k < A.length := by omega
          have HB2 := Lib.hid hB.drew
          clear hc hcf hx hy
          cases hr : inV y 0 x.r with
          | true =>
            have HR := Lib.hid hr
            clear hr
            go_wp2_with fail
            go_still_tail 10, (by kernel_rfl)
            change wpList _ _ _ _ _ wr.drew
            go_wp2_with (go_at_call 36; refine (l01In _ _ _ _ HR _).mono ?_; rintro e w' ⟨rfl, rfl⟩)
            go_roundw
            case rel => exact ⟨k + 1, by omega, by go_num, Lib.hid (room_all HK.out HZ.out HR.out), HB2.out⟩
            case measure => simp [intOf]; omega
          | false =>
            have HR := Lib.hid hr
            have e : b = false := by rw [← HB.out]; exact flow_room (List.mem_of_getElem? HZ.out) hr
            subst e
            clear hr
            go_wp2_with fail
            go_still_tail 10, (by kernel_rfl)
            change wpList _ _ _ _ _ wr.drew
            go_wp2_with (go_at_call 36; refine (l01In _ _ _ _ HR _).mono ?_; rintro e w' ⟨rfl, rfl⟩)
            go_ret
            exact ⟨rfl, below_box HB2.out⟩
    · obtain rfl : k = F.length := by omega
      have HALL : Hid (∀ q ∈ A.zip F, inRoom q = true) := Lib.hid (by
        have := HK.out
        rwa [List.take_of_length_le (by rw [List.length_zip]; omega)] at this)
      obtain ⟨R, HR⟩ : ∃ R, Hid (rowO (netO (A.zip F)) n = R) := ⟨_, rfl⟩
      have hn15 : n ≤ 1500 := by omega
      have hRl : R.length = n := by rw [← HR.out, rowO_len]
      clear HK
      go_wp2_with fail
      refine (specOut n A F R _ _ hn15 HOK.out hA HL.out (room_20 HNT.out HALL.out) HR _ (arcs_on HVV.out (below_box hB)) (ints_on HFF.out (below_box hB))).mono ?_
      rintro e w5 ⟨vo, rfl, hown, hb⟩
      replace hB := next_below hB hb
      obtain ⟨ao, co, rfl, HO⟩ := ints_form (ints_of_own hown)
      have HOh := Lib.hid HO
      rw [hRl]
      clear hb hown HO c0 c1
      go_wp2_with fail
      go_loopw [7] (fun i wr => ∃ k : Nat, 2 ≤ k ∧ k ≤ n ∧ i = .int .i64 k ∧ Hid (∀ v : Nat, 2 ≤ v → v < k → netO (A.zip F) v = 0) ∧ wr = w5) (fun i _ => n - (intOf i).toNat)
      case atStart => exact ⟨2, Nat.le_refl _, by omega, rfl, Lib.hid (fun v h1 h2 => by omega), rfl⟩
      case round =>
        obtain ⟨k, hk2, hkn, rfl, HK, rfl⟩ := hrel
        obtain ⟨c0, c1⟩ := net_cells hB
        by_cases hlt : k < n
        · rcases HOh.out with h0 | ⟨go, rfl, hgo, hco⟩
          · omega
          · have d0 := hco k (netO (A.zip F) k) (by rw [← HR.out]; exact rowO_at _ hlt)
            have hlt2 : (k : Int) < (n : Int) := by omega
            clear hco
            by_cases hz : netO (A.zip F) k = 0
            · have HZ := Lib.hid hz
              have hz2 : (netO (A.zip F) k != 0) = false := by simp [hz]
              clear hz
              go_wp2_with fail
              go_roundw
              case rel => exact ⟨k + 1, by omega, by omega, by go_num, Lib.hid (fun v h1 h2 => by
                rcases Nat.lt_or_ge v k with h3 | h3
                · exact HK.out v h1 h3
                · obtain rfl : v = k := by omega
                  exact HZ.out), trivial⟩
              case measure => simp [intOf]; omega
            · have hz2 : (netO (A.zip F) k != 0) = true := by simp [hz]
              have e : b = false := by rw [← HB.out]; exact flow_out hk2 hlt2 hz
              subst e
              clear hz
              go_wp2_with fail
              go_ret
              exact ⟨rfl, below_box hB⟩
        · obtain rfl : k = n := by omega
          have e : b = true := by
            rw [← HB.out]
            exact flowOk_mk HNT.out HL.out (fun p hp => inV_iff.1 (HALL.out p hp)) (fun v h1 h2 => HK.out v h1 (by omega))
          subst e
          go_wp2_with fail
          go_ret
          exact ⟨rfl, below_box hB⟩

theorem specFlowOk (N : Int) (A : List ArcD) (F : List Int) (v vf : Value) (b : Bool) (hAl : A.length ≤ 2000000) (_hFl : F.length ≤ 2000000) (HB : Hid (flowOkV N A F = b)) (w : World) (hv : Arcs w v A) (hf : Ints w vf F) :
    Calls Tryd.prog 55 #[.agg #[.int .i64 N, v], vf] w (Made w (.bool b)) := by
  cases hn : netOkV N A with
  | true =>
    by_cases hF : F.length = A.length
    · obtain ⟨⟨h1, _⟩, _⟩ := netOk_out hn
      obtain ⟨n, rfl⟩ : ∃ n : Nat, N = n := ⟨N.toNat, by omega⟩
      exact specFlow_in n A F v vf b hn hF HB w hv hf
    · have e : b = false := by rw [← HB.out]; exact flow_len hF
      subst e
      have hB := Below.refl (w.alloc (.cells #[.int .i64 N, v] 45)).heap.size (w.alloc (.cells #[.int .i64 N, v] 45))
      obtain ⟨c0, c1⟩ := net_cells hB
      have HVV := Lib.hid hv
      obtain ⟨av, cv, rfl, _⟩ := arcs_form hv
      obtain ⟨af, cf, rfl, _⟩ := ints_form hf
      have HNT := Lib.hid hn
      have hF2 : (F.length == A.length) = false := by simpa using hF
      clear hv hf hn
      go_enter Tryd.func55, Tryd.ntmps55
      go_wp2_with fail
      refine (specNetOk N A _ true HNT _ (by omega) (arcs_on HVV.out (below_box hB))).mono ?_
      rintro e w1 ⟨rfl, hb⟩
      replace hB := next_below hB hb
      obtain ⟨c0, c1⟩ := net_cells hB
      clear hb
      go_wp2_with fail
      go_ret
      exact ⟨rfl, below_box hB⟩
  | false =>
    have e : b = false := by rw [← HB.out]; exact flow_net hn
    subst e
    have hB := Below.refl (w.alloc (.cells #[.int .i64 N, v] 45)).heap.size (w.alloc (.cells #[.int .i64 N, v] 45))
    obtain ⟨c0, c1⟩ := net_cells hB
    have HVV := Lib.hid hv
    obtain ⟨av, cv, rfl, _⟩ := arcs_form hv
    have HNT := Lib.hid hn
    clear hv hf hn
    go_enter Tryd.func55, Tryd.ntmps55
    go_wp2_with fail
    refine (specNetOk N A _ false HNT _ (by omega) (arcs_on HVV.out (below_box hB))).mono ?_
    rintro e w1 ⟨rfl, hb⟩
    replace hB := next_below hB hb
    clear hb
    go_wp2_with fail
    go_ret
    exact ⟨rfl, below_box hB⟩

theorem flow_facts {N : Int} {A : List ArcD} {F : List Int} (h : flowOkV N A F = true) : ∃ n : Nat, N = n ∧ 2 ≤ n ∧ n ≤ 1500 ∧ (∀ x ∈ A, arcOk (n : Int) x = true) ∧ A.length ≤ 3200 ∧ F.length = A.length ∧ ∀ p ∈ A.zip F, 0 ≤ p.2 ∧ p.2 ≤ 20 := by
  obtain ⟨hn, hF, hr, _⟩ := flowOk_out h
  obtain ⟨⟨h1, h2⟩, hA, hok⟩ := netOk_out hn
  obtain ⟨n, rfl⟩ : ∃ n : Nat, N = n := ⟨N.toNat, by omega⟩
  refine ⟨n, rfl, by omega, by omega, hok, hA, hF, fun p hp => ?_⟩
  have := hr p hp
  have h2 := (arcOk_out (hok _ (zip_arc hp))).2.2.2.1
  omega

end Go.Proofs.YtnbbhdbcapfbkaaDoor

namespace Go.Proofs.YtnbbhdbcapfbkaaDoor
set_option maxRecDepth 4096
open Go.ChangeShapes Go.WideShapes Go.ChangeAt Go.RowKit

theorem box_cell {w : World} {g j : Nat} {cs : Array Value} {t : TypeId} {u : Value} (h : w.heap[g]? = some (.cells cs t)) (hu : cs[j]? = some u) : w.cell? ⟨g, j, none⟩ = some u := (cell_of_row w g j cs t _ h).trans hu
theorem box_set {w : World} {g G j : Nat} {o : Obj} {u : Value} (h : w.heap[g]? = some o) (hG : G ≠ g) : (w.setCell ⟨G, j, none⟩ u).heap[g]? = some o := (heap_setCell_other w ⟨G, j, none⟩ g u (fun e => hG e.symm)).trans h
/-- An arc of a right net, its ends as natural numbers. -/
theorem arc_nat {n k : Nat} {A : List ArcD} (hok : ∀ x ∈ A, arcOk (n : Int) x = true) (h : k < A.length) : ∃ (a b : Nat) (r c : Int), A[k]? = some ⟨a, b, r, c⟩ ∧ a < n ∧ b < n ∧ a ≠ b ∧ (0 ≤ r ∧ r ≤ 20) ∧ (0 ≤ c ∧ c ≤ 100) := by
  have hx : A[k]? = some A[k] := List.getElem?_eq_getElem h
  obtain ⟨⟨hf0, hf1⟩, ⟨ht0, ht1⟩, hne, hr, hc⟩ := arcOk_out (hok _ (List.mem_of_getElem? hx))
  refine ⟨A[k].f.toNat, A[k].t.toNat, A[k].r, A[k].c, ?_, by omega, by omega, by omega, hr, hc⟩
  rw [hx, Int.toNat_of_nonneg hf0, Int.toNat_of_nonneg ht0]

end Go.Proofs.YtnbbhdbcapfbkaaDoor

