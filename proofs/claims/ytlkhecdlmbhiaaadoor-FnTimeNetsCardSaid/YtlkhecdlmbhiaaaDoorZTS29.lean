/-
  CONTRACT of the program's joinTime. No law is proved here.
  CONTRACTS of the library's slices.Index and slices.Contains at ints. No law is proved here.
-/
import Derived.Test.YtlkhecdlmbhiaaaDoorZTS28
import Derived.Test.YtlkhecdlmbhiaaaDoorZTS17
import Derived.Test.YtlkhecdlmbhiaaaDoorZTS18
namespace Go.Proofs.YtlkhecdlmbhiaaaDoor
set_option maxRecDepth 4096
open Go.ChangeShapes Go.WideShapes Go.ChangeAt Go.RowKit

theorem flatX_len {f : Nat → List ArcD} {c : Nat} (h : ∀ i, (f i).length ≤ c) : ∀ n, ((List.range n).flatMap f).length ≤ c * n
  | 0 => by simp
  | n + 1 => by
    have := flatX_len h n
    have := h n
    rw [List.range_succ, List.flatMap_append, List.length_append]
    simp only [List.flatMap_cons, List.flatMap_nil, List.append_nil, Nat.mul_add]
    omega
theorem flatX_snoc (f : Nat → List ArcD) (n : Nat) : (List.range (n + 1)).flatMap f = (List.range n).flatMap f ++ f n := by
  rw [List.range_succ, List.flatMap_append]
  simp
theorem cellX_len {F T t i : Nat} {nx : Nat → List Nat} (h : (nx i).length ≤ 4) : (cellX F nx T t i).length ≤ 6 := by
  unfold cellX
  split <;> simp <;> omega
theorem five_is (m : MapD) (t p a b : Nat) : fiveX m.F t p a b = fiveA m t p a b := rfl

set_option maxHeartbeats 2000000 in
theorem implJoinTime {B k P T : Nat} {G : Nat} {va : Value} {A : List ArcD} {m : MapD} {nx : Nat → List Nat} {Sx : Nat → Value} {L : List (Nat × Nat)} (t : Nat) (hF : m.F ≤ 64) (hP : P ≤ 300) (hT : T ≤ 20) (ht : t ≤ T) (hLP : L.length = P) (hLF : ∀ q ∈ L, q.1 < m.F ∧ q.2 < m.F) (hA : A.length ≤ 500000) (hN : ∀ i, (nx i).length ≤ 4) (hNF : ∀ i, i < m.F → ∀ j ∈ nx i, j < m.F) (w : World) (vp : Value) (hvp : ∃ a c, vp = .slice a P c)
    (h : EX B k m.F P T (.slice (some ⟨G, 0, none⟩) m.F m.F) vp va A w) (hx : NX B w G m.F nx Sx) (hp : PairsAt B w vp L) :
    Calls Tryd.prog 33 #[.pointer (some ⟨k, 0, none⟩), .int .i64 t] w (JoinedX B k m.F P T (.slice (some ⟨G, 0, none⟩) m.F m.F) vp (A ++ (List.range m.F).flatMap (cellX m.F nx T t) ++ (if t = T then [] else pairA m t (numV 2 m.F P T t 0) L)) w) := by
  obtain ⟨F, hFF⟩ : ∃ F, m.F = F := ⟨_, rfl⟩
  obtain ⟨Q, HQ⟩ : ∃ Q : List ArcD, Hid ((if t = T then [] else pairA m t (numV 2 m.F P T t 0) L) = Q) := ⟨_, rfl⟩
  rw [HQ.out]
  have HFM := Lib.hid hFF
  rw [hFF] at hF hLF hNF h hx ⊢
  have hcl := fun i => cellX_len (F := F) (T := T) (t := t) (hN i)
  have HCL := Lib.hid hcl
  have HNF := Lib.hid hNF
  have HN := Lib.hid hN
  have HLF := Lib.hid hLF
  have HVP := Lib.hid hvp
  have HX := Lib.hid hx
  have HP := Lib.hid hp
  have HE := Lib.hid h
  obtain ⟨c0, c1, c2, c3, c4, c5⟩ := h.cells
  clear h hx hp hNF hN hcl hLF hvp hFF
  go_enter Tryd.func33, Tryd.ntmps33
  go_wp2_with fail
  go_loopw [11] (fun jv wr => ∃ (i : Nat) (va : Value), jv = .int .i64 i ∧ i ≤ F ∧ EX B k F P T (.slice (some ⟨G, 0, none⟩) F F) vp va (A ++ (List.range i).flatMap (cellX F nx T t)) wr ∧ Below B w wr ∧ TK w wr) (fun jv _ => F - (intOf jv).toNat)
  case atStart => exact ⟨0, va, rfl, Nat.zero_le _, by simpa using HE.out, Below.refl _ _, TK.refl _⟩
  case round =>
    clear c0 c1 c2 c3 c4 c5 HE
    obtain ⟨i, va1, rfl, hi, hE, hB, hK⟩ := hrel
    by_cases hlt : i < F
    · have hi2 : (i : Int) < (F : Int) := by omega
      have hl := flatX_len HCL.out i
      have HS : Hid ((List.range (i + 1)).flatMap (cellX F nx T t) = (List.range i).flatMap (cellX F nx T t) ++ cellX F nx T t i) := Lib.hid (flatX_snoc _ _)
      have HE := Lib.hid hE
      clear hE
      generalize (List.range i).flatMap (cellX F nx T t) = Y at HE hl HS
      go_wp2_with fail
      refine (implJoinCell t i (by omega) (by omega) (by omega) ht hlt (by rw [List.length_append]; omega) (by have := HN.out i; omega) (HNF.out i hlt) _ HE.out (HX.out.tk hK)).mono ?_
      rintro e w2 ⟨rfl, ⟨va2, hE2⟩, hB2, hK2⟩
      replace hB2 := hB.trans hB2
      replace hK2 := hK.trans hK2
      have HE2 := Lib.hid hE2
      clear HE hE2 hB hK
      go_wp2_with fail
      go_roundw
      case rel => exact ⟨i + 1, va2, by go_num, by omega, by rw [HS.out, ← List.append_assoc]; exact HE2.out, hB2, hK2⟩
      case measure => simp [intOf]; omega
    · obtain rfl : i = F := by omega
      have hl := flatX_len HCL.out i
      obtain ⟨c0, c1, c2, c3, c4, c5⟩ := hE.cells
      obtain ⟨A1, HA1⟩ : ∃ A1 : List ArcD, Hid (A ++ (List.range i).flatMap (cellX i nx T t) = A1) := ⟨_, rfl⟩
      have hl1 : A1.length ≤ 500400 := by rw [← HA1.out, List.length_append]; omega
      rw [HA1.out] at hE
      have HE := Lib.hid hE
      clear hE
      by_cases htT : t = T
      · have htT2 : ((t : Int) == (T : Int)) = true := by simp [htT]
        have HQ0 : Hid (Q = []) := Lib.hid (by rw [← HQ.out, if_pos htT])
        clear htT
        go_wp2_with fail
        refine bodyPost_end (v := .tuple #[]) (by simp [results]) rfl ?_
        rw [HQ0.out, List.append_nil]
        exact ⟨rfl, ⟨va1, by rw [HA1.out]; exact HE.out⟩, hB, hK⟩
      · have htT2 : ((t : Int) == (T : Int)) = false := by simpa using fun e => htT (by omega)
        have htT3 : t < T := by omega
        have HQ1 : Hid (Q = pairA m t (numV 2 i P T t 0) L) := Lib.hid (by rw [← HQ.out, if_neg htT, HFM.out])
        clear htT
        have hpL : ∀ (n : Nat), n ≤ P → (pairA m t (numV 2 i P T t 0) (L.take n)).length ≤ 5 * n := fun n hn => by rw [pairA_len, List.length_take]; omega
        have HPL := Lib.hid hpL
        clear hpL
        obtain ⟨ap, cpp, hvp2⟩ := HVP.out
        subst hvp2
        go_wp2_with fail
        go_loopw [31] (fun jv wr => ∃ (j : Nat) (va : Value), jv = .int .i64 j ∧ j ≤ P ∧ EX B k i P T (.slice (some ⟨G, 0, none⟩) i i) (.slice ap P cpp) va (A1 ++ pairA m t (numV 2 i P T t 0) (L.take j)) wr ∧ Below B w wr ∧ TK w wr) (fun jv _ => P - (intOf jv).toNat)
        case atStart => exact ⟨0, va1, rfl, Nat.zero_le _, by simpa [pairA] using HE.out, hB, hK⟩
        case round =>
          clear c0 c1 c2 c3 c4 c5 HE hB hK
          obtain ⟨j, va3, rfl, hj, hE, hB, hK⟩ := hrel
          by_cases hjP : j < P
          · have hj2 : (j : Int) < (P : Int) := by omega
            have hll := HPL.out j hj
            obtain ⟨⟨a, b⟩, hab⟩ : ∃ q, L[j]? = some q := ⟨_, List.getElem?_eq_getElem (by omega)⟩
            obtain ⟨haF, hbF⟩ := HLF.out _ (List.mem_of_getElem? hab)
            have HS : Hid (pairA m t (numV 2 i P T t 0) (L.take (j + 1)) = pairA m t (numV 2 i P T t 0) (L.take j) ++ fiveX i t (numV 2 i P T t j) a b) := Lib.hid (by
              obtain ⟨hjl, e⟩ := List.getElem?_eq_some_iff.1 hab
              rw [List.take_succ_eq_append_getElem hjl, e, pairA_snoc, ← five_is, HFM.out, num2, num2, List.length_take]
              congr 2
              omega)
            obtain ⟨gp, hgp⟩ : ∃ gp, ap = some ⟨gp, 0, none⟩ := by
              obtain ⟨gp, cc, e⟩ := own_ptrT HP.out (by omega)
              injection e with e1 _ _
              exact ⟨gp, e1⟩
            subst hgp
            have hpp : PairsAt B wr (.slice (some ⟨gp, 0, none⟩) P cpp) L := hK.row HP.out (by decide) (by decide)
            have HPP := Lib.hid hpp
            have HAB := Lib.hid hab
            have HE := Lib.hid hE
            clear hE hpp hab
            generalize pairA m t (numV 2 i P T t 0) (L.take j) = Y at HE hll HS
            go_wp2_with fail
            refine (implJoinPair t j a b (by omega) (by omega) (by omega) htT3 HAB.out hLP haF hbF (by rw [List.length_append]; omega) _ HE.out HPP.out).mono ?_
            rintro e w4 ⟨rfl, ⟨va4, hE4⟩, hB4, hK4⟩
            replace hB4 := hB.trans hB4
            replace hK4 := hK.trans hK4
            have HE4 := Lib.hid hE4
            clear HE hE4 hB hK HPP
            go_wp2_with fail
            go_roundw
            case rel => exact ⟨j + 1, va4, by go_num, by omega, by rw [HS.out, ← List.append_assoc]; exact HE4.out, hB4, hK4⟩
            case measure => simp [intOf]; omega
          · obtain rfl : j = P := by omega
            have HE := Lib.hid hE
            clear hE
            go_wp2_with fail
            refine bodyPost_end (v := .tuple #[]) (by simp [results]) rfl ?_
            refine ⟨rfl, ⟨va3, ?_⟩, hB, hK⟩
            have e := HE.out
            rw [← hLP, List.take_length, hLP] at e
            rw [HQ1.out, HA1.out]
            exact e

end Go.Proofs.YtlkhecdlmbhiaaaDoor

namespace Go.Proofs.YtlkhecdlmbhiaaaDoor
set_option maxRecDepth 4096
open Go.ChangeShapes Go.WideShapes Go.ChangeAt Go.RowKit

/-- slices.Index: the element is not among them. -/
theorem indexNo (L : List Int) (x : Int) (v : Value) (hL : L.length ≤ 2000000) (w : World) (hv : Ints w v L) (h : L.contains x = false) :
    Calls Tryd.prog 66 #[v, .int .i64 x] w fun e w' => e = .returned (.int .i64 (-1)) ∧ w = w' := by
  obtain ⟨av, cv, rfl, HV⟩ := ints_form hv
  have HVh := Lib.hid HV
  have HX : Hid (∀ (j : Nat) y, L[j]? = some y → ¬ x = y) := Lib.hid fun j y hy e => by
    have : L.contains x = true := List.contains_iff_mem.2 (by rw [e]; exact List.mem_of_getElem? hy)
    rw [h] at this
    cases this
  clear HV hv h
  go_enter Tryd.func66, Tryd.ntmps66
  go_wp2
  go_loop [8] (fun i => ∃ k : Nat, k ≤ L.length ∧ i = .int .i64 k) (fun i => L.length - (intOf i).toNat)
  case atStart => exact ⟨0, Nat.zero_le _, rfl⟩
  case round =>
    obtain ⟨k, hk, rfl⟩ := hrel
    by_cases hlt : k < L.length
    · obtain ⟨y, hy⟩ : ∃ y, L[k]? = some y := ⟨_, List.getElem?_eq_getElem hlt⟩
      rcases HVh.out with h0 | ⟨g, rfl, hgl, hc⟩
      · omega
      · have d0 := hc k y hy
        have hne := HX.out k y hy
        have hne2 : (x == y) = false := by simpa using hne
        have hlt2 : (k : Int) < (L.length : Int) := by omega
        clear hy hc hne
        go_wp2
        go_roundw
        case rel => exact ⟨k + 1, by omega, by go_num⟩
        case measure => simp [intOf]; omega
    · go_wp2
      go_ret
      exact ⟨rfl, rfl⟩
theorem indexYes (L : List Int) (x : Int) (v : Value) (hL : L.length ≤ 2000000) (w : World) (hv : Ints w v L) (h : L.contains x = true) :
    Calls Tryd.prog 66 #[v, .int .i64 x] w fun e w' => (∃ k : Nat, e = .returned (.int .i64 k)) ∧ w = w' := by
  obtain ⟨av, cv, rfl, HV⟩ := ints_form hv
  have HVh := Lib.hid HV
  obtain ⟨m, hm, hmx⟩ := List.getElem_of_mem (List.contains_iff_mem.1 h)
  have HM : Hid (L[m]? = some x) := Lib.hid (by rw [List.getElem?_eq_getElem hm, hmx])
  clear HV hv h hmx
  go_enter Tryd.func66, Tryd.ntmps66
  go_wp2
  go_loop [8] (fun i => ∃ k : Nat, k ≤ m ∧ i = .int .i64 k) (fun i => L.length - (intOf i).toNat)
  case atStart => exact ⟨0, Nat.zero_le _, rfl⟩
  case round =>
    obtain ⟨k, hk, rfl⟩ := hrel
    have hlt : k < L.length := by omega
    obtain ⟨y, hy⟩ : ∃ y, L[k]? = some y := ⟨_, List.getElem?_eq_getElem hlt⟩
    rcases HVh.out with h0 | ⟨g, rfl, hgl, hc⟩
    · omega
    · have d0 := hc k y hy
      have hlt2 : (k : Int) < (L.length : Int) := by omega
      have HM2 : Hid (k = m → x = y) := Lib.hid fun e => by
        subst e
        rw [HM.out] at hy
        exact Option.some.inj hy
      clear hy hc
      by_cases hxy : x = y
      · have hne2 : (x == y) = true := by simpa using hxy
        go_wp2
        go_ret
        exact ⟨⟨k, rfl⟩, rfl⟩
      · have hne2 : (x == y) = false := by simpa using hxy
        have hkm : k ≠ m := fun e => hxy (HM2.out e)
        go_wp2
        go_roundw
        case rel => exact ⟨k + 1, by omega, by go_num⟩
        case measure => simp [intOf]; omega

/-- slices.Contains: among the elements? -/
theorem containsI (L : List Int) (x : Int) (v : Value) (b : Bool) (hL : L.length ≤ 2000000) (HB : Hid (L.contains x = b)) (w : World) (hv : Ints w v L) :
    Calls Tryd.prog 34 #[v, .int .i64 x] w fun e w' => e = .returned (.bool b) ∧ w = w' := by
  cases b with
  | false =>
    go_enter Tryd.func34, Tryd.ntmps34
    go_wp2_with fail
    refine (indexNo L x v hL w hv HB.out).mono ?_
    rintro e w1 ⟨rfl, rfl⟩
    go_wp2_with fail
    go_ret
    exact ⟨rfl, rfl⟩
  | true =>
    go_enter Tryd.func34, Tryd.ntmps34
    go_wp2_with fail
    refine (indexYes L x v hL w hv HB.out).mono ?_
    rintro e w1 ⟨⟨k, rfl⟩, rfl⟩
    have hk : (0 : Int) ≤ (k : Int) := by omega
    go_wp2_with fail
    go_ret
    exact ⟨rfl, rfl⟩


end Go.Proofs.YtlkhecdlmbhiaaaDoor

