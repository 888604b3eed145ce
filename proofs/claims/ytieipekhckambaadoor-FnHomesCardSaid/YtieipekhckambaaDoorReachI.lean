/-
  CONTRACTS of the program's reachedFrom and countWithin, and of the library's Index and Contains at ints. No law is proved here.
-/
import Derived.Test.YtieipekhckambaaDoorStepsI
import Derived.Test.YtieipekhckambaaDoorStepsToI
import Derived.Test.YtieipekhckambaaDoorHomeSum
namespace Go.Proofs.YtieipekhckambaaDoor
set_option maxRecDepth 4096
open Go.ChangeShapes Go.WideShapes Go.ChangeAt Go.RowKit

set_option maxHeartbeats 1000000 in
theorem reachedI (W H : Int) (C : ByteArray) (c : Int) (R : List Int) (hC : C.size ≤ 1048576) (HR : Hid (reachL W H C c = R)) (w : World) (hS : SidesAt w) :
    Calls Tryd.prog 32 #[.agg #[.int .i64 W, .int .i64 H, .string C], .int .i64 c] w (IntsBack w R) := by
  obtain ⟨i0, hi, hz0, hz1, hz2⟩ := info_parts Tryd.info3
  obtain ⟨F, HF⟩ : ∃ F, Hid (stepsL W H C [c] = F) := ⟨_, rfl⟩
  have hFl : F.length ≤ 64 := by rw [← HF.out]; exact stepsL_len W H C [c]
  have HE : Hid (picks (reachP F) F.length = R) := Lib.hid (by rw [← HF.out]; exact HR.out)
  have hB := (Below.refl w.heap.size w).alloc (Nat.le_refl _) (.cells #[.int .i64 W, .int .i64 H, .string C] 25)
  have hI := ints_cell1 (w.alloc (.cells #[.int .i64 W, .int .i64 H, .string C] 25)) c 3
  rw [World.size_alloc] at hI
  have hB2 := hB.alloc hB.size (.cells #[.int .i64 c] 3)
  have HS := Lib.hid (hS.below hB2)
  have HI := Lib.hid hI
  clear hS hI HR
  go_enter Tryd.func32, Tryd.ntmps32
  go_wp2_with fail
  refine (implSteps W H C [c] F _ hC (by simp) HF _ HI.out HS.out).mono ?_
  rintro e w3 ⟨v, rfl, hown, hb⟩
  have hB3 := hB2.trans (hb.mono hB2.size)
  have hs3 := hB3.size
  obtain ⟨av, cv, rfl, HV⟩ := ints_form (ints_of_own hown)
  have HVh := Lib.hid HV
  clear hb hB hB2 HV hown HI HS HF
  go_wp2_with fail
  go_loopw [5, 13] (fun v i wr => ∃ k : Nat, k ≤ F.length ∧ i = .int .i64 k ∧ wr.ownsRow w3.heap.size 3 1 v (picks (reachP F) k).length ((picks (reachP F) k).map (Value.int .i64)) ∧ Below w3.heap.size w3 wr) (fun _ i _ => F.length - (intOf i).toNat)
  case atStart => exact ⟨0, Nat.zero_le _, rfl, World.ownsRow_nil _ _ _ _, Below.refl _ _⟩
  case round =>
    obtain ⟨k, hk, rfl, hown, hbe⟩ := hrel
    have hbs := hbe.size
    by_cases hlt : k < F.length
    · obtain ⟨x, hx⟩ : ∃ x, F[k]? = some x := ⟨_, List.getElem?_eq_getElem hlt⟩
      rcases HVh.out with h0 | ⟨g, rfl, hgl, hc⟩
      · omega
      · have d0 : wr.cell? ⟨g, k, none⟩ = some (.int .i64 x) := (hbe.cell (p := ⟨g, k, none⟩) hgl).trans (hc k x hx)
        have hlt2 : (k : Int) < (F.length : Int) := by omega
        have hl := picks_len (reachP F) k
        have hp := reachP_at hx
        clear hx hc
        by_cases hx1 : x = -1
        · subst hx1
          have HP : Hid (picks (reachP F) (k + 1) = picks (reachP F) k) := Lib.hid (picks_no (by rw [hp]; rfl))
          clear hp
          go_wp2_with fail
          go_roundw
          case rel => exact ⟨k + 1, by omega, by go_num, by rw [HP.out]; exact hown, hbe⟩
          case measure => simp [intOf]; omega
        · have HP : Hid (picks (reachP F) (k + 1) = picks (reachP F) k ++ [(k : Int)]) := Lib.hid (picks_yes (by rw [hp]; simp [hx1]))
          have hx2 : (x != -1) = true := by simp [hx1]
          clear hp
          go_wp2_with (at_builtin; refine wpList_append_own _ rfl _ _ 26 rfl w3.heap.size 3 i0 (.int .i64 0) 1 8 Tryd.underlying26 hi hz0 hz1 hz2 rfl (by decide) _ _ _ rfl (hown.alloc _) ⟨wr.heap.size, 0, none⟩ 1 1 ([(k : Int)].map (Value.int .i64)) rfl rfl (int_new _ _ _) (ints_one _) (by unfold maxLen; omega) (by omega) (by simp; omega) ?_; intro v' w2 hown2 hgrow _; have hB4 := (hbe.alloc hbs _).grown hgrow (by simp; omega) (fun j hj => (hown.lt j hj).1); clear hgrow)
          go_roundw
          case rel => exact ⟨k + 1, by omega, by go_num, ints_push hown2 HP.out, hB4⟩
          case measure => simp [intOf]; omega
    · obtain rfl : k = F.length := by omega
      go_wp2_with fail
      go_ret
      exact ⟨_, rfl, by rw [← HE.out]; exact own_base hown (by omega), hB3.trans (hbe.mono (by omega))⟩

/-- slices.Index: the element is not among them. -/
theorem indexNo (L : List Int) (x : Int) (v : Value) (hL : L.length ≤ 2000000) (w : World) (hv : Ints w v L) (h : L.contains x = false) :
    Calls Tryd.prog 64 #[v, .int .i64 x] w fun e w' => e = .returned (.int .i64 (-1)) ∧ w = w' := by
  obtain ⟨av, cv, rfl, HV⟩ := ints_form hv
  have HVh := Lib.hid HV
  have HX : Hid (∀ (j : Nat) y, L[j]? = some y → ¬ x = y) := Lib.hid fun j y hy e => by
    have : L.contains x = true := List.contains_iff_mem.2 (by rw [e]; exact List.mem_of_getElem? hy)
    rw [h] at this
    cases this
  clear HV hv h
  go_enter Tryd.func64, Tryd.ntmps64
  go_wp2
  go_loop [8] (fun i => ∃ k : Nat, k ≤ L.length ∧ i = .int .i64 k) (fun i => L.length - (intOf i).toNat)
  case atStart => exact ⟨0, Nat.zero_le _, rfl⟩
  case round =>
    obtain ⟨k, hk, rfl⟩ := hrel
    by_cases hlt : k < L.length
    · obtain ⟨y, hy⟩ : ∃ y, L[k]? = some y := ⟨_, List.getElem?_eq_getElem hlt⟩
      rcases HVh.out with h0 | ⟨g, rfl, hgl, hc⟩
      · omega
      · have d0 := hc k y hy
        have hne := HX.out k y hy
        have hne2 : (x == y) = false := by simpa using hne
        have hlt2 : (k : Int) < (L.length : Int) := by omega
        clear hy hc hne
        go_wp2
        go_roundw
        case rel => exact ⟨k + 1, by omega, by go_num⟩
        case measure => simp [intOf]; omega
    · go_wp2
      go_ret
      exact ⟨rfl, rfl⟩
theorem indexYes (L : List Int) (x : Int) (v : Value) (hL : L.length ≤ 2000000) (w : World) (hv : Ints w v L) (h : L.contains x = true) :
    Calls Tryd.prog 64 #[v, .int .i64 x] w fun e w' => (∃ k : Nat, e = .returned (.int .i64 k)) ∧ w = w' := by
  obtain ⟨av, cv, rfl, HV⟩ := ints_form hv
  have HVh := Lib.hid HV
  obtain ⟨m, hm, hmx⟩ := List.getElem_of_mem (List.contains_iff_mem.1 h)
  have HM : Hid (L[m]? = some x) := Lib.hid (by rw [List.getElem?_eq_getElem hm, hmx])
  clear HV hv h hmx
  go_enter Tryd.func64, Tryd.ntmps64
  go_wp2
  go_loop [8] (fun i => ∃ k : Nat, k ≤ m ∧ i = .int .i64 k) (fun i => L.length - (intOf i).toNat)
  case atStart => exact ⟨0, Nat.zero_le _, rfl⟩
  case round =>
    obtain ⟨k, hk, rfl⟩ := hrel
    have hlt : k < L.length := by omega
    obtain ⟨y, hy⟩ : ∃ y, L[k]? = some y := ⟨_, List.getElem?_eq_getElem hlt⟩
    rcases HVh.out with h0 | ⟨g, rfl, hgl, hc⟩
    · omega
    · have d0 := hc k y hy
      have hlt2 : (k : Int) < (L.length : Int) := by omega
      have HM2 : Hid (k = m → x = y) := Lib.hid fun e => by
        subst e
        rw [HM.out] at hy
        exact Option.some.inj hy
      clear hy hc
      by_cases hxy : x = y
      · have hne2 : (x == y) = true := by simpa using hxy
        go_wp2
        go_ret
        exact ⟨⟨k, rfl⟩, rfl⟩
      · have hne2 : (x == y) = false := by simpa using hxy
        have hkm : k ≠ m := fun e => hxy (HM2.out e)
        go_wp2
        go_roundw
        case rel => exact ⟨k + 1, by omega, by go_num⟩
        case measure => simp [intOf]; omega

/-- slices.Contains: among the elements? -/
theorem containsI (L : List Int) (x : Int) (v : Value) (b : Bool) (hL : L.length ≤ 2000000) (HB : Hid (L.contains x = b)) (w : World) (hv : Ints w v L) :
    Calls Tryd.prog 50 #[v, .int .i64 x] w fun e w' => e = .returned (.bool b) ∧ w = w' := by
  cases b with
  | false =>
    go_enter Tryd.func50, Tryd.ntmps50
    go_wp2_with fail
    refine (indexNo L x v hL w hv HB.out).mono ?_
    rintro e w1 ⟨rfl, rfl⟩
    go_wp2_with fail
    go_ret
    exact ⟨rfl, rfl⟩
  | true =>
    go_enter Tryd.func50, Tryd.ntmps50
    go_wp2_with fail
    refine (indexYes L x v hL w hv HB.out).mono ?_
    rintro e w1 ⟨⟨k, rfl⟩, rfl⟩
    have hk : (0 : Int) ≤ (k : Int) := by omega
    go_wp2_with fail
    go_ret
    exact ⟨rfl, rfl⟩

theorem filter_yes {p : Int → Bool} {L : List Int} {k : Nat} {x : Int} (hx : L[k]? = some x) (hp : p x = true) : ((L.take (k + 1)).filter p).length = ((L.take k).filter p).length + 1 := by
  rw [take_snoc hx, List.filter_append]
  simp [hp]
theorem filter_no {p : Int → Bool} {L : List Int} {k : Nat} {x : Int} (hx : L[k]? = some x) (hp : p x = false) : ((L.take (k + 1)).filter p).length = ((L.take k).filter p).length := by
  rw [take_snoc hx, List.filter_append]
  simp [hp]
theorem filter_le (p : Int → Bool) (L : List Int) (k : Nat) : ((L.take k).filter p).length ≤ k := Nat.le_trans (List.length_filter_le _ _) (by rw [List.length_take]; omega)

/-- How many of L lie among R. -/
theorem countWithinI (R L : List Int) (u v : Value) (z : Int) (hR : R.length ≤ 2000000) (hL : L.length ≤ 2000000) (HZ : Hid (((L.filter fun c => R.contains c).length : Int) = z)) (w : World) (hu : Ints w u R) (hv : Ints w v L) :
    Calls Tryd.prog 33 #[u, v] w fun e w' => e = .returned (.int .i64 z) ∧ w = w' := by
  obtain ⟨av, cv, rfl, HV⟩ := ints_form hv
  have HVh := Lib.hid HV
  have HU := Lib.hid hu
  clear HV hv hu
  go_enter Tryd.func33, Tryd.ntmps33
  go_wp2_with fail
  go_loop [5, 10] (fun a i => ∃ k : Nat, k ≤ L.length ∧ i = .int .i64 k ∧ ∃ m : Nat, m ≤ k ∧ a = .int .i64 m ∧ Hid (((L.take k).filter fun c => R.contains c).length = m)) (fun _ i => L.length - (intOf i).toNat)
  case atStart => exact ⟨0, Nat.zero_le _, rfl, 0, Nat.le_refl _, rfl, Lib.hid rfl⟩
  case round =>
    obtain ⟨k, hk, rfl, m, hm, rfl, HM⟩ := hrel
    by_cases hlt : k < L.length
    · obtain ⟨x, hx⟩ : ∃ x, L[k]? = some x := ⟨_, List.getElem?_eq_getElem hlt⟩
      rcases HVh.out with h0 | ⟨g, rfl, hgl, hc⟩
      · omega
      · have d0 := hc k x hx
        have HX := Lib.hid hx
        have hlt2 : (k : Int) < (L.length : Int) := by omega
        clear hx hc
        cases hb : R.contains x with
        | true =>
          have HB := Lib.hid hb
          clear hb
          go_wp2_with fail
          refine (containsI R x u true hR HB w HU.out).mono ?_
          rintro e w1 ⟨rfl, rfl⟩
          go_wp2_with fail
          go_roundw
          case rel => exact ⟨k + 1, by omega, by go_num, m + 1, by omega, by go_num, Lib.hid (by rw [filter_yes HX.out HB.out, HM.out])⟩
          case measure => simp [intOf]; omega
        | false =>
          have HB := Lib.hid hb
          clear hb
          go_wp2_with fail
          refine (containsI R x u false hR HB w HU.out).mono ?_
          rintro e w1 ⟨rfl, rfl⟩
          go_wp2_with fail
          go_roundw
          case rel => exact ⟨k + 1, by omega, by go_num, m, by omega, rfl, Lib.hid (by rw [filter_no HX.out HB.out, HM.out])⟩
          case measure => simp [intOf]; omega
    · obtain rfl : k = L.length := by omega
      have e : z = (m : Int) := by rw [← HZ.out, ← HM.out, List.take_length]
      subst e
      go_wp2_with fail
      go_ret
      exact ⟨rfl, rfl⟩

end Go.Proofs.YtieipekhckambaaDoor
