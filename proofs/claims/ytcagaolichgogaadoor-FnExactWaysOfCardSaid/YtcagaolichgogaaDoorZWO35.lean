/-
  CONTRACTS of the library's slices.Index and slices.Contains at ints. No law is proved here.
-/
import Derived.Test.YtcagaolichgogaaDoorZWO25
import Derived.Test.YtcagaolichgogaaDoorZWO00
namespace Go.Proofs.YtcagaolichgogaaDoor
set_option maxRecDepth 4096
open Go.ChangeShapes Go.WideShapes Go.ChangeAt Go.RowKit

/-- slices.Index: the element is not among them. -/
theorem indexNo (L : List Int) (x : Int) (v : Value) (hL : L.length ≤ 2000000) (w : World) (hv : Ints w v L) (h : L.contains x = false) :
    Calls Tryd.prog 75 #[v, .int .i64 x] w fun e w' => e = .returned (.int .i64 (-1)) ∧ w = w' := by
  obtain ⟨av, cv, rfl, HV⟩ := ints_form hv
  have HVh := Lib.hid HV
  have HX : Hid (∀ (j : Nat) y, L[j]? = some y → ¬ x = y) := Lib.hid fun j y hy e => by
    have : L.contains x = true := List.contains_iff_mem.2 (by rw [e]; exact List.mem_of_getElem? hy)
    rw [h] at this
    cases this
  clear HV hv h
  go_enter Tryd.func75, Tryd.ntmps75
  go_wp2
  go_loop [8] (fun i => ∃ k : Nat, k ≤ L.length ∧ i = .int .i64 k) (fun i => L.length - (intOf i).toNat)
  case atStart => exact ⟨0, Nat.zero_le _, rfl⟩
  case round =>
    obtain ⟨k, hk, rfl⟩ := hrel
    by_cases hlt : k < L.length
    · obtain ⟨y, hy⟩ : ∃ y, L[k]? = some y := ⟨_, List.getElem?_eq_getElem hlt⟩
      rcases HVh.out with h0 | ⟨g, rfl, hgl, hc⟩
      · omega
      · have d0 := hc k y hy
        have hne := HX.out k y hy
        have hne2 : (x == y) = false := by simpa using hne
        have hlt2 : (k : Int) < (L.length : Int) := by omega
        clear hy hc hne
        go_wp2
        go_roundw
        case rel => exact ⟨k + 1, by omega, by go_num⟩
        case measure => simp [intOf]; omega
    · go_wp2
      go_ret
      exact ⟨rfl, rfl⟩
theorem indexYes (L : List Int) (x : Int) (v : Value) (hL : L.length ≤ 2000000) (w : World) (hv : Ints w v L) (h : L.contains x = true) :
    Calls Tryd.prog 75 #[v, .int .i64 x] w fun e w' => (∃ k : Nat, e = .returned (.int .i64 k)) ∧ w = w' := by
  obtain ⟨av, cv, rfl, HV⟩ := ints_form hv
  have HVh := Lib.hid HV
  obtain ⟨m, hm, hmx⟩ := List.getElem_of_mem (List.contains_iff_mem.1 h)
  have HM : Hid (L[m]? = some x) := Lib.hid (by rw [List.getElem?_eq_getElem hm, hmx])
  clear HV hv h hmx
  go_enter Tryd.func75, Tryd.ntmps75
  go_wp2
  go_loop [8] (fun i => ∃ k : Nat, k ≤ m ∧ i = .int .i64 k) (fun i => L.length - (intOf i).toNat)
  case atStart => exact ⟨0, Nat.zero_le _, rfl⟩
  case round =>
    obtain ⟨k, hk, rfl⟩ := hrel
    have hlt : k < L.length := by omega
    obtain ⟨y, hy⟩ : ∃ y, L[k]? = some y := ⟨_, List.getElem?_eq_getElem hlt⟩
    rcases HVh.out with h0 | ⟨g, rfl, hgl, hc⟩
    · omega
    · have d0 := hc k y hy
      have hlt2 : (k : Int) < (L.length : Int) := by omega
      have HM2 : Hid (k = m → x = y) := Lib.hid fun e => by
        subst e
        rw [HM.out] at hy
        exact Option.some.inj hy
      clear hy hc
      by_cases hxy : x = y
      · have hne2 : (x == y) = true := by simpa using hxy
        go_wp2
        go_ret
        exact ⟨⟨k, rfl⟩, rfl⟩
      · have hne2 : (x == y) = false := by simpa using hxy
        have hkm : k ≠ m := fun e => hxy (HM2.out e)
        go_wp2
        go_roundw
        case rel => exact ⟨k + 1, by omega, by go_num⟩
        case measure => simp [intOf]; omega

/-- slices.Contains: among the elements? -/
theorem containsI (L : List Int) (x : Int) (v : Value) (b : Bool) (hL : L.length ≤ 2000000) (HB : Hid (L.contains x = b)) (w : World) (hv : Ints w v L) :
    Calls Tryd.prog 53 #[v, .int .i64 x] w fun e w' => e = .returned (.bool b) ∧ w = w' := by
  cases b with
  | false =>
    go_enter Tryd.func53, Tryd.ntmps53
    go_wp2_with fail
    refine (indexNo L x v hL w hv HB.out).mono ?_
    rintro e w1 ⟨rfl, rfl⟩
    go_wp2_with fail
    go_ret
    exact ⟨rfl, rfl⟩
  | true =>
    go_enter Tryd.func53, Tryd.ntmps53
    go_wp2_with fail
    refine (indexYes L x v hL w hv HB.out).mono ?_
    rintro e w1 ⟨⟨k, rfl⟩, rfl⟩
    have hk : (0 : Int) ≤ (k : Int) := by omega
    go_wp2_with fail
    go_ret
    exact ⟨rfl, rfl⟩


end Go.Proofs.YtcagaolichgogaaDoor

