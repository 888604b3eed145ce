/-
  CONTRACT of spec.l11Sorted: the numbers of a list in ascending order, each once. No law is proved here.
-/
import Derived.Test.YtkbfbifepaoojaaGreatDoorZPU01
import Derived.Test.YtkbfbifepaoojaaGreatDoorZPU17
import Derived.BigQuiet
import Derived.Deep.RegionHeld3
import Derived.Deep.Slices
import Derived.Deep.QuietTactic
import Derived.Deep.DeepCutAuto
import Derived.Deep.CutRange
namespace Go.Proofs.YtkbfbifepaoojaaGreatDoor
set_option maxRecDepth 4096
open Go.ChangeShapes Go.WideShapes Go.ChangeAt Go.RowKit

/-- A list in memory with its room. -/
def ArgJ (w : World) (v : Value) (L : List Int) : Prop :=
  ∃ a c, v = .slice a L.length c ∧ L.length ≤ c ∧ c ≤ maxLen ∧ (L.length = 0 ∨ ∃ b, a = some b ∧ b.block < w.heap.size ∧ ∀ (j : Nat) x, L[j]? = some x → w.cell? (b.add j) = some (.int .i64 x))
theorem ArgJ.arg {w : World} {v : Value} {L : List Int} (h : ArgJ w v L) : ArgI w v L := by
  obtain ⟨a, c, rfl, _, _, h⟩ := h
  exact ⟨a, c, rfl, h⟩
theorem ArgJ.on {w w' : World} {v : Value} {L : List Int} (h : ArgJ w v L) (hb : Below w.heap.size w w') : ArgJ w' v L := by
  obtain ⟨a, c, rfl, h1, h2, h⟩ := h
  refine ⟨a, c, rfl, h1, h2, ?_⟩
  rcases h with h | ⟨b, rfl, hg, hc⟩
  · exact .inl h
  · refine .inr ⟨b, rfl, Nat.lt_of_lt_of_le hg hb.size, fun j x hx => ?_⟩
    have hbl : (b.add j).block = b.block := by unfold Addr.add; split <;> rfl
    rw [hb.cell (p := b.add j) (by rw [hbl]; exact hg)]
    exact hc j x hx
theorem argJ_of {w : World} {B : Nat} {v : Value} {L : List Int} (h : w.ownsRow B 3 1 v L.length (L.map (Value.int .i64))) : ArgJ w v L := by
  rcases h.2 with ⟨rfl, h0⟩ | ⟨g, cap, cur, rfl, _, hh, h1, h2, _⟩
  · exact ⟨none, 0, by rw [h0], by omega, Nat.zero_le _, .inl h0⟩
  · refine ⟨_, cap, rfl, h1, h2, .inr ⟨_, rfl, (Array.getElem?_eq_some_iff.1 hh).1, fun j x hx => ?_⟩⟩
    exact h.cells (g := g) rfl j (.int .i64 x) (by rw [List.getElem?_map, hx]; rfl)
theorem own_made0 (w : World) (e : TypeId) : (w.alloc (.cells #[] e)).ownsRow w.heap.size e 1 (.slice (some ⟨w.heap.size, 0, none⟩) 0 0) 0 [] := by
  have := World.ownsRow_made (base := w.heap.size) (e := e) (size := 1) w #[] 0 (Nat.le_refl _) (by decide) rfl
  simpa using this

theorem size_int (w : World) : (sizeOf 3).run Tryz.prog w = .ok 1 w := by
  have hi : (Tryz.prog.info? 3).map (·.size) = some 1 := by kernel_rfl
  cases hq : Tryz.prog.info? 3 with
  | none => simp [hq] at hi
  | some i =>
    have hs : i.size = 1 := by simpa [hq] using hi
    simp [sizeOf, typeInfo, hq, hs]
theorem intsl_under : Tryz.prog.underlying 26 = some (.slice (Tryz.prog.elem 26)) := by
  have hE : Tryz.prog.elem 26 = 3 := by kernel_rfl
  rw [hE]
  exact Tryz.underlying26
theorem slice_to (b : Addr) (n c h : Nat) (hh : h ≤ n) (hc : n ≤ c) (h0 : 0 < n) (w : World) :
    (Instr.slice 26 (.slice (some b) n c) none (some (.int .i64 (h : Int))) none).run Tryz.prog w = .ok (.slice (some b) h c) w := by
  have hE : Tryz.prog.elem 26 = 3 := by kernel_rfl
  rw [run_slice_h w 26 (some b) n c intsl_under .i64 (h : Int) (by omega) (by omega), hE, size_int w]
  have : ¬ c = 0 := by omega
  simp [Result.andThen, sliced, this, Addr.add]
theorem slice_from (b : Addr) (n c h : Nat) (hh : h < n) (hc : n ≤ c) (w : World) :
    (Instr.slice 26 (.slice (some b) n c) (some (.int .i64 (h : Int))) none none).run Tryz.prog w = .ok (.slice (some (b.add h)) (n - h) (c - h)) w := by
  have hE : Tryz.prog.elem 26 = 3 := by kernel_rfl
  rw [run_slice_l w 26 (some b) n c intsl_under .i64 (h : Int) (by omega) (by omega), hE, size_int w]
  have : ¬ c = h := by omega
  simp [Result.andThen, sliced, this]
theorem argJ_take {w : World} {b : Addr} {c : Nat} {L : List Int} {h : Nat} (hj : ArgJ w (.slice (some b) L.length c) L) (hh : h ≤ L.length) : ArgJ w (.slice (some b) h c) (L.take h) := by
  have hl : (L.take h).length = h := by rw [List.length_take]; omega
  obtain ⟨a, c', e, h1, h2, hc⟩ := hj
  injection e with e1 e2 e3
  subst e1
  subst e3
  refine ⟨_, c, by rw [hl], by omega, h2, ?_⟩
  rcases hc with h0 | ⟨b', e4, hg, hc⟩
  · exact .inl (by omega)
  · refine .inr ⟨b', e4, hg, fun j x hx => hc j x ?_⟩
    rw [List.getElem?_take] at hx
    split at hx
    · exact hx
    · cases hx
theorem argJ_drop {w : World} {b : Addr} {c : Nat} {L : List Int} {h : Nat} (hj : ArgJ w (.slice (some b) L.length c) L) (hh : h < L.length) : ArgJ w (.slice (some (b.add h)) (L.length - h) (c - h)) (L.drop h) := by
  have hl : (L.drop h).length = L.length - h := by rw [List.length_drop]
  obtain ⟨a, c', e, h1, h2, hc⟩ := hj
  injection e with e1 e2 e3
  subst e1
  subst e3
  refine ⟨_, c - h, by rw [hl], by omega, by omega, ?_⟩
  rcases hc with h0 | ⟨b', e4, hg, hc⟩
  · omega
  · cases e4
    refine .inr ⟨_, rfl, ?_, fun j x hx => ?_⟩
    · have hbl : (b.add h).block = b.block := by unfold Addr.add; split <;> rfl
      rw [hbl]
      exact hg
    · rw [List.getElem?_drop] at hx
      rw [← hc (h + j) x hx, ← Go.Deep.add_add]

/-- The end of a round: what is listed, with the number that was picked. -/
theorem last_cases (out : List Int) (x : Int) : out.length = 0 ∨ (∃ y, out[out.length - 1]? = some y ∧ 0 < out.length ∧ y ≠ x) ∨ (out[out.length - 1]? = some x ∧ 0 < out.length) := by
  by_cases h : out.length = 0
  · exact .inl h
  · have e : out[out.length - 1]? = some (out[out.length - 1]'(by omega)) := List.getElem?_eq_getElem _
    by_cases hx : out[out.length - 1]'(by omega) = x
    · exact .inr (.inr ⟨by rw [e, hx], by omega⟩)
    · exact .inr (.inl ⟨_, e, by omega, hx⟩)

set_option maxHeartbeats 4000000 in
theorem specSorted : ∀ (d : Nat) (L : List Int), L.length ≤ d → L.length ≤ 10000000 → ∀ (v : Value) (w : World), ArgJ w v L →
    Calls Tryz.prog 103 #[v] w (IntsBack w (onceL L)) := by
  intro d
  induction d with
  | zero =>
    intro L hd _ v w hv
    have h0 : L.length = 0 := by omega
    obtain rfl := List.eq_nil_of_length_eq_zero h0
    have e1 : onceL [] = [] := once_short (by simp)
    rw [e1]
    have HV := Lib.hid hv.arg
    obtain ⟨a, c, rfl, _, _, _⟩ := hv
    go_enter Tryz.func103, Tryz.ntmps103
    go_wp2_with (at_builtin; refine wpList_app rfl _ _ rfl w.heap.size _ _ [] [] rfl rfl (by exact own_made0 w 3) (argI_below HV.out ((Below.refl _ _).alloc (Nat.le_refl _) _)) (by simp) (by simp) ?_; intro v' w1 hown1 hgr1)
    go_ret
    exact ⟨_, rfl, hown1, ((Below.refl _ _).alloc (Nat.le_refl _) _).grown hgr1 (by simp) (fun j hj => by cases hj; exact Nat.le_refl _)⟩
  | succ d ih =>
    intro L hd hL v w hv
    by_cases h2 : L.length < 2
    · rw [once_short h2]
      have HV := Lib.hid hv.arg
      obtain ⟨a, c, rfl, _, _, _⟩ := hv
      have h2' : (L.length : Int) < 2 := by omega
      go_enter Tryz.func103, Tryz.ntmps103
      go_wp2_with (at_builtin; refine wpList_app rfl _ _ rfl w.heap.size _ _ [] L rfl rfl (by exact own_made0 w 3) (argI_below HV.out ((Below.refl _ _).alloc (Nat.le_refl _) _)) (by simp; omega) (by simp) ?_; intro v' w1 hown1 hgr1)
      go_ret
      exact ⟨_, rfl, hown1, ((Below.refl _ _).alloc (Nat.le_refl _) _).grown hgr1 (by simp) (fun j hj => by cases hj; exact Nat.le_refl _)⟩
    · obtain ⟨i0, hi, hz0, hz1, hz2⟩ := info_parts Tryz.info3
      have HJ := Lib.hid hv
      obtain ⟨a, c, rfl, hc1, hc2, hh⟩ := hv
      obtain ⟨b, rfl⟩ : ∃ b, a = some b := by
        rcases hh with h | ⟨b, rfl, _⟩
        · omega
        · exact ⟨b, rfl⟩
      obtain ⟨h, hq, hlo, hhi, hhl⟩ : ∃ h : Nat, (L.length : Int).tdiv 2 = (h : Int) ∧ 0 < h ∧ h < L.length ∧ h + 1 ≤ L.length := ⟨L.length / 2, (Int.ofNat_tdiv L.length 2).symm, by omega, by omega, by omega⟩
      have hwq : IntKind.i64.wrap (h : Int) = (h : Int) := IntWalk.i64_in _ (by omega)
      have h2' : ¬ (L.length : Int) < 2 := by omega
      have sl1 := fun w' => slice_to b L.length c h (by omega) hc1 (by omega) w'
      have sl2 := fun w' => slice_from b L.length c h hhi hc1 w'
      have T1 := Lib.hid (ih (L.take h) (by rw [List.length_take]; omega) (by rw [List.length_take]; omega))
      have T2 := Lib.hid (ih (L.drop h) (by rw [List.length_drop]; omega) (by rw [List.length_drop]; omega))
      obtain ⟨A, HA⟩ : ∃ A, Hid (onceL (L.take h) = A) := ⟨_, rfl⟩
      obtain ⟨B, HB⟩ : ∃ B, Hid (onceL (L.drop h) = B) := ⟨_, rfl⟩
      rw [HA.out] at T1
      rw [HB.out] at T2
      have HAU : Hid (A.Pairwise (· < ·)) := Lib.hid (by rw [← HA.out]; exact once_up _)
      have HBU : Hid (B.Pairwise (· < ·)) := Lib.hid (by rw [← HB.out]; exact once_up _)
      have HEND : Hid (∀ out : List Int, Mrg A B A.length B.length out → out = onceL L) := Lib.hid fun out hm => by
        have e1 := HA.out
        have e2 := HB.out
        subst e1 e2
        exact mrg_end hm (Nat.le_refl _) (Nat.le_refl _)
      have hAl : A.length ≤ 10000000 := by
        have := once_len (L.take h)
        rw [HA.out, List.length_take] at this
        omega
      have hBl : B.length ≤ 10000000 := by
        have := once_len (L.drop h)
        rw [HB.out, List.length_drop] at this
        omega
      obtain ⟨R, HR⟩ : ∃ R, Hid (onceL L = R) := ⟨_, rfl⟩
      rw [HR.out] at HEND ⊢
      clear hh ih hd
      go_enter Tryz.func103, Tryz.ntmps103
      go_wp2_with fail
      refine (T1.out _ w (argJ_take HJ.out (Nat.le_of_lt hhi))).mono ?_
      rintro e w1 ⟨va, rfl, howna, hb⟩
      go_wp2_with fail
      refine (T2.out _ w1 (argJ_drop (HJ.out.on hb) hhi)).mono ?_
      rintro e w2 ⟨vb, rfl, hownb, hb2⟩
      have hB2 := hb.trans (hb2.mono hb.size)
      obtain ⟨aa, ca, rfl⟩ := own_form howna
      obtain ⟨ab, cb, rfl⟩ := own_form hownb
      have IA := Lib.hid (ints_on (ints_of_own howna) hb2)
      have IB := Lib.hid (ints_of_own hownb)
      have hm0 := own_made0 w2 3
      have HB2 := Lib.hid hB2
      have hw2s := hB2.size
      clear howna hownb hb hb2 hB2 T1 T2 HJ sl1 sl2 hq hwq
      go_wp2_with fail
      go_loopw [5, 6, 7] (fun o i k wr => ∃ (p q : Nat) (out : List Int), p ≤ A.length ∧ q ≤ B.length ∧ i = .int .i64 p ∧ k = .int .i64 q ∧ wr.ownsRow w2.heap.size 3 1 o out.length (out.map (Value.int .i64)) ∧ Hid (Mrg A B p q out) ∧ Below w2.heap.size w2 wr) (fun _ i k _ => A.length + B.length - (intOf i).toNat - (intOf k).toNat)
      case atStart => exact ⟨0, 0, [], Nat.zero_le _, Nat.zero_le _, rfl, rfl, hm0, Lib.hid mrg_start, (Below.refl _ _).alloc (Nat.le_refl _) _⟩
      case round =>
        clear hm0
        obtain ⟨p, q, out, hp, hq, rfl, rfl, hown, HM, hbe⟩ := hrel
        have hol := mrg_len HM.out hp hq
        have JA := Lib.hid (ints_on IA.out hbe)
        have JB := Lib.hid (ints_on IB.out hbe)
        have HO := Lib.hid hown
        have HE := Lib.hid hbe
        obtain ⟨ao, co, rfl⟩ := own_form hown
        clear hown hbe
        by_cases hend : p < A.length ∨ q < B.length
        · have hcase : (∃ x, p < A.length ∧ A[p]? = some x ∧ ((∃ y, q < B.length ∧ B[q]? = some y ∧ x ≤ y) ∨ B.length ≤ q) ∧ Hid (Pick A B p q (p + 1) q x)) ∨ (∃ x, q < B.length ∧ B[q]? = some x ∧ ((∃ y, p < A.length ∧ A[p]? = some y ∧ ¬ y ≤ x) ∨ A.length ≤ p) ∧ Hid (Pick A B p q p (q + 1) x)) := by
            by_cases h1 : p < A.length
            · have e1 : A[p]? = some A[p] := List.getElem?_eq_getElem h1
              by_cases h2 : q < B.length
              · have e2 : B[q]? = some B[q] := List.getElem?_eq_getElem h2
                by_cases h3 : A[p] ≤ B[q]
                · exact .inl ⟨_, h1, e1, .inl ⟨_, h2, e2, h3⟩, Lib.hid (pick_A e1 (.inr ⟨_, e2, h3⟩) HBU.out)⟩
                · exact .inr ⟨_, h2, e2, .inl ⟨_, h1, e1, h3⟩, Lib.hid (pick_B e2 (.inr ⟨_, e1, by omega⟩) HAU.out)⟩
              · exact .inl ⟨_, h1, e1, .inr (by omega), Lib.hid (pick_A e1 (.inl (by omega)) HBU.out)⟩
            · have h2 : q < B.length := by omega
              have e2 : B[q]? = some B[q] := List.getElem?_eq_getElem h2
              exact .inr ⟨_, h2, e2, .inr (by omega), Lib.hid (pick_B e2 (.inl (by omega)) HAU.out)⟩
          have hwo : IntKind.i64.wrap ((out.length : Int) - 1) = ((out.length - 1 : Nat) : Int) ∨ out.length = 0 := by
            by_cases h : out.length = 0
            · exact .inr h
            · left
              rw [IntWalk.i64_in _ (by omega)]
              omega
          have HFA := Lib.hid (ints_form JA.out)
          have HFB := Lib.hid (ints_form JB.out)
          have HFO : Hid (out.length = 0 ∨ ∃ g, ao = some ⟨g, 0, none⟩) := Lib.hid (by
            rcases HO.out.2 with ⟨_, h⟩ | ⟨g, cap, cur, e, _⟩
            · exact .inl h
            · injection e with e1 e2 e3
              exact .inr ⟨g, e1⟩)
          have HOm : Hid (∀ m, (wr.drewN m).ownsRow w2.heap.size 3 1 (.slice ao out.length co) out.length (out.map (Value.int .i64))) := Lib.hid fun m => HO.out
          have HEm : Hid (∀ m, Below w2.heap.size w2 (wr.drewN m)) := Lib.hid fun m => below_drewN HE.out m
          have hgA : ∀ x, A[p]? = some x → ∃ g, aa = some ⟨g, 0, none⟩ ∧ wr.cell? ⟨g, p, none⟩ = some (.int .i64 x) := fun x hx => by
            obtain ⟨a', c', e, hh⟩ := HFA.out
            injection e with e1 e2 e3
            subst e1
            rcases hh with h | ⟨g, e4, _, hc⟩
            · have := (List.getElem?_eq_some_iff.1 hx).1
              omega
            · exact ⟨g, e4, hc p x hx⟩
          have hgB : ∀ x, B[q]? = some x → ∃ g, ab = some ⟨g, 0, none⟩ ∧ wr.cell? ⟨g, q, none⟩ = some (.int .i64 x) := fun x hx => by
            obtain ⟨a', c', e, hh⟩ := HFB.out
            injection e with e1 e2 e3
            subst e1
            rcases hh with h | ⟨g, e4, _, hc⟩
            · have := (List.getElem?_eq_some_iff.1 hx).1
              omega
            · exact ⟨g, e4, hc q x hx⟩
          have hgO : ∀ y, out[out.length - 1]? = some y → 0 < out.length → ∃ g, ao = some ⟨g, 0, none⟩ ∧ wr.cell? ⟨g, out.length - 1, none⟩ = some (.int .i64 y) := fun y hy h0 => by
            rcases HFO.out with h | ⟨g, e⟩
            · omega
            · subst e
              exact ⟨g, rfl, own_int HO.out hy⟩
          clear hend HFA HFB HFO JA JB
          rcases hcase with ⟨x, hpl, hx, hy, HP⟩ | ⟨x, hql, hx, hy, HP⟩
          · obtain ⟨gA, rfl, dA⟩ := hgA x hx
            have hpl2 : (p : Int) < (A.length : Int) := by omega
            rcases hy with ⟨y, hql, hyy, hle⟩ | hql
            · obtain ⟨gB, rfl, dB⟩ := hgB y hyy
              have hql2 : (q : Int) < (B.length : Int) := by omega
              have hql3 : ¬ (B.length : Int) ≤ (q : Int) := by omega
              clear hx hyy hgA hgB
              rcases last_cases out x with ho | ⟨z, hz, ho, hne⟩ | ⟨hz, ho⟩
              · have hb0 : ((out.length : Int) == 0) = true := beq_iff_eq.2 (by omega)
                have HN := Lib.hid (mrg_new HM.out HP.out HAU.out HBU.out (fun y hy => by have := (List.getElem?_eq_some_iff.1 hy).1; omega))
                clear hgO hwo ho
                go_wp2_with fail
                go_quiet (fail)
                go_wp2_with (at_builtin; refine wpList_append_own _ rfl _ _ 26 rfl w2.heap.size 3 i0 (.int .i64 0) 1 8 Tryz.underlying26 hi hz0 hz1 hz2 rfl (by decide) _ _ _ rfl ((HOm.out _).alloc _) ⟨_, 0, none⟩ 1 1 ([x].map (Value.int .i64)) rfl rfl (int_new _ _ _) (ints_one _) (by unfold maxLen; omega) (by omega) (by have := (HEm.out 0).size; simp [World.drewN] at this ⊢; omega) ?_; intro v' w5 hown5 hgr5 _; have hbe5 := ((HEm.out _).alloc (HEm.out _).size _).grown hgr5 (by have := (HEm.out 0).size; simp [World.drewN] at this ⊢; omega) (fun j hj => by simpa using (HO.out.lt j hj).1); clear hgr5)
                go_roundw
                case rel => exact ⟨p + 1, q, out ++ [x], by omega, by omega, by go_num, by go_num, by simpa using hown5, HN, hbe5⟩
                case measure => simp [intOf]; omega
              · have hb0 : ((out.length : Int) == 0) = false := beq_eq_false_iff_ne.2 (by omega)
                have hlt3 : out.length - 1 < out.length := by omega
                have hlt4 : ((out.length - 1 : Nat) : Int) < (out.length : Int) := by omega
                obtain ⟨gO, rfl, dO⟩ := hgO z hz ho
                have hzx : (z != x) = true := by simpa using hne
                have hwo2 : IntKind.i64.wrap ((out.length : Int) - 1) = ((out.length - 1 : Nat) : Int) := by rcases hwo with h | h; exact h; omega
                have HN := Lib.hid (mrg_new HM.out HP.out HAU.out HBU.out (fun y hy => by rw [hz] at hy; cases hy; exact hne))
                clear hgO hwo hz hne
                go_wp2_with fail
                go_quiet (fail)
                go_wp2_with (at_builtin; refine wpList_append_own _ rfl _ _ 26 rfl w2.heap.size 3 i0 (.int .i64 0) 1 8 Tryz.underlying26 hi hz0 hz1 hz2 rfl (by decide) _ _ _ rfl ((HOm.out _).alloc _) ⟨_, 0, none⟩ 1 1 ([x].map (Value.int .i64)) rfl rfl (int_new _ _ _) (ints_one _) (by unfold maxLen; omega) (by omega) (by have := (HEm.out 0).size; simp [World.drewN] at this ⊢; omega) ?_; intro v' w5 hown5 hgr5 _; have hbe5 := ((HEm.out _).alloc (HEm.out _).size _).grown hgr5 (by have := (HEm.out 0).size; simp [World.drewN] at this ⊢; omega) (fun j hj => by simpa using (HO.out.lt j hj).1); clear hgr5)
                go_roundw
                case rel => exact ⟨p + 1, q, out ++ [x], by omega, by omega, by go_num, by go_num, by simpa using hown5, HN, hbe5⟩
                case measure => simp [intOf]; omega
              · have hb0 : ((out.length : Int) == 0) = false := beq_eq_false_iff_ne.2 (by omega)
                have hlt3 : out.length - 1 < out.length := by omega
                have hlt4 : ((out.length - 1 : Nat) : Int) < (out.length : Int) := by omega
                obtain ⟨gO, rfl, dO⟩ := hgO x hz ho
                have hxx : (x != x) = false := by simp
                have hwo2 : IntKind.i64.wrap ((out.length : Int) - 1) = ((out.length - 1 : Nat) : Int) := by rcases hwo with h | h; exact h; omega
                have HN := Lib.hid (mrg_old HM.out HP.out HAU.out HBU.out hz)
                clear hgO hwo hz
                go_wp2_with fail
                go_quiet (fail)
                go_wp2_with fail
                go_roundw
                case rel => exact ⟨p + 1, q, out, by omega, by omega, by go_num, by go_num, HOm.out _, HN, HEm.out _⟩
                case measure => simp [intOf]; omega
            · have hql2 : ¬ (q : Int) < (B.length : Int) := by omega
              have hql3 : (B.length : Int) ≤ (q : Int) := by omega
              clear hx hgA hgB
              rcases last_cases out x with ho | ⟨z, hz, ho, hne⟩ | ⟨hz, ho⟩
              · have hb0 : ((out.length : Int) == 0) = true := beq_iff_eq.2 (by omega)
                have HN := Lib.hid (mrg_new HM.out HP.out HAU.out HBU.out (fun y hy => by have := (List.getElem?_eq_some_iff.1 hy).1; omega))
                clear hgO hwo ho
                go_wp2_with fail
                go_quiet (fail)
                go_wp2_with (at_builtin; refine wpList_append_own _ rfl _ _ 26 rfl w2.heap.size 3 i0 (.int .i64 0) 1 8 Tryz.underlying26 hi hz0 hz1 hz2 rfl (by decide) _ _ _ rfl ((HOm.out _).alloc _) ⟨_, 0, none⟩ 1 1 ([x].map (Value.int .i64)) rfl rfl (int_new _ _ _) (ints_one _) (by unfold maxLen; omega) (by omega) (by have := (HEm.out 0).size; simp [World.drewN] at this ⊢; omega) ?_; intro v' w5 hown5 hgr5 _; have hbe5 := ((HEm.out _).alloc (HEm.out _).size _).grown hgr5 (by have := (HEm.out 0).size; simp [World.drewN] at this ⊢; omega) (fun j hj => by simpa using (HO.out.lt j hj).1); clear hgr5)
                go_roundw
                case rel => exact ⟨p + 1, q, out ++ [x], by omega, by omega, by go_num, by go_num, by simpa using hown5, HN, hbe5⟩
                case measure => simp [intOf]; omega
              · have hb0 : ((out.length : Int) == 0) = false := beq_eq_false_iff_ne.2 (by omega)
                have hlt3 : out.length - 1 < out.length := by omega
                have hlt4 : ((out.length - 1 : Nat) : Int) < (out.length : Int) := by omega
                obtain ⟨gO, rfl, dO⟩ := hgO z hz ho
                have hzx : (z != x) = true := by simpa using hne
                have hwo2 : IntKind.i64.wrap ((out.length : Int) - 1) = ((out.length - 1 : Nat) : Int) := by rcases hwo with h | h; exact h; omega
                have HN := Lib.hid (mrg_new HM.out HP.out HAU.out HBU.out (fun y hy => by rw [hz] at hy; cases hy; exact hne))
                clear hgO hwo hz hne
                go_wp2_with fail
                go_quiet (fail)
                go_wp2_with (at_builtin; refine wpList_append_own _ rfl _ _ 26 rfl w2.heap.size 3 i0 (.int .i64 0) 1 8 Tryz.underlying26 hi hz0 hz1 hz2 rfl (by decide) _ _ _ rfl ((HOm.out _).alloc _) ⟨_, 0, none⟩ 1 1 ([x].map (Value.int .i64)) rfl rfl (int_new _ _ _) (ints_one _) (by unfold maxLen; omega) (by omega) (by have := (HEm.out 0).size; simp [World.drewN] at this ⊢; omega) ?_; intro v' w5 hown5 hgr5 _; have hbe5 := ((HEm.out _).alloc (HEm.out _).size _).grown hgr5 (by have := (HEm.out 0).size; simp [World.drewN] at this ⊢; omega) (fun j hj => by simpa using (HO.out.lt j hj).1); clear hgr5)
                go_roundw
                case rel => exact ⟨p + 1, q, out ++ [x], by omega, by omega, by go_num, by go_num, by simpa using hown5, HN, hbe5⟩
                case measure => simp [intOf]; omega
              · have hb0 : ((out.length : Int) == 0) = false := beq_eq_false_iff_ne.2 (by omega)
                have hlt3 : out.length - 1 < out.length := by omega
                have hlt4 : ((out.length - 1 : Nat) : Int) < (out.length : Int) := by omega
                obtain ⟨gO, rfl, dO⟩ := hgO x hz ho
                have hxx : (x != x) = false := by simp
                have hwo2 : IntKind.i64.wrap ((out.length : Int) - 1) = ((out.length - 1 : Nat) : Int) := by rcases hwo with h | h; exact h; omega
                have HN := Lib.hid (mrg_old HM.out HP.out HAU.out HBU.out hz)
                clear hgO hwo hz
                go_wp2_with fail
                go_quiet (fail)
                go_wp2_with fail
                go_roundw
                case rel => exact ⟨p + 1, q, out, by omega, by omega, by go_num, by go_num, HOm.out _, HN, HEm.out _⟩
                case measure => simp [intOf]; omega
          · obtain ⟨gB, rfl, dB⟩ := hgB x hx
            have hql2 : (q : Int) < (B.length : Int) := by omega
            have hql3 : ¬ (B.length : Int) ≤ (q : Int) := by omega
            rcases hy with ⟨y, hpl, hyy, hle⟩ | hpl
            · obtain ⟨gA, rfl, dA⟩ := hgA y hyy
              have hpl2 : (p : Int) < (A.length : Int) := by omega
              clear hx hyy hgA hgB
              rcases last_cases out x with ho | ⟨z, hz, ho, hne⟩ | ⟨hz, ho⟩
              · have hb0 : ((out.length : Int) == 0) = true := beq_iff_eq.2 (by omega)
                have HN := Lib.hid (mrg_new HM.out HP.out HAU.out HBU.out (fun y hy => by have := (List.getElem?_eq_some_iff.1 hy).1; omega))
                clear hgO hwo ho
                go_wp2_with fail
                go_quiet (fail)
                go_wp2_with (at_builtin; refine wpList_append_own _ rfl _ _ 26 rfl w2.heap.size 3 i0 (.int .i64 0) 1 8 Tryz.underlying26 hi hz0 hz1 hz2 rfl (by decide) _ _ _ rfl ((HOm.out _).alloc _) ⟨_, 0, none⟩ 1 1 ([x].map (Value.int .i64)) rfl rfl (int_new _ _ _) (ints_one _) (by unfold maxLen; omega) (by omega) (by have := (HEm.out 0).size; simp [World.drewN] at this ⊢; omega) ?_; intro v' w5 hown5 hgr5 _; have hbe5 := ((HEm.out _).alloc (HEm.out _).size _).grown hgr5 (by have := (HEm.out 0).size; simp [World.drewN] at this ⊢; omega) (fun j hj => by simpa using (HO.out.lt j hj).1); clear hgr5)
                go_roundw
                case rel => exact ⟨p, q + 1, out ++ [x], by omega, by omega, by go_num, by go_num, by simpa using hown5, HN, hbe5⟩
                case measure => simp [intOf]; omega
              · have hb0 : ((out.length : Int) == 0) = false := beq_eq_false_iff_ne.2 (by omega)
                have hlt3 : out.length - 1 < out.length := by omega
                have hlt4 : ((out.length - 1 : Nat) : Int) < (out.length : Int) := by omega
                obtain ⟨gO, rfl, dO⟩ := hgO z hz ho
                have hzx : (z != x) = true := by simpa using hne
                have hwo2 : IntKind.i64.wrap ((out.length : Int) - 1) = ((out.length - 1 : Nat) : Int) := by rcases hwo with h | h; exact h; omega
                have HN := Lib.hid (mrg_new HM.out HP.out HAU.out HBU.out (fun y hy => by rw [hz] at hy; cases hy; exact hne))
                clear hgO hwo hz hne
                go_wp2_with fail
                go_quiet (fail)
                go_wp2_with (at_builtin; refine wpList_append_own _ rfl _ _ 26 rfl w2.heap.size 3 i0 (.int .i64 0) 1 8 Tryz.underlying26 hi hz0 hz1 hz2 rfl (by decide) _ _ _ rfl ((HOm.out _).alloc _) ⟨_, 0, none⟩ 1 1 ([x].map (Value.int .i64)) rfl rfl (int_new _ _ _) (ints_one _) (by unfold maxLen; omega) (by omega) (by have := (HEm.out 0).size; simp [World.drewN] at this ⊢; omega) ?_; intro v' w5 hown5 hgr5 _; have hbe5 := ((HEm.out _).alloc (HEm.out _).size _).grown hgr5 (by have := (HEm.out 0).size; simp [World.drewN] at this ⊢; omega) (fun j hj => by simpa using (HO.out.lt j hj).1); clear hgr5)
                go_roundw
                case rel => exact ⟨p, q + 1, out ++ [x], by omega, by omega, by go_num, by go_num, by simpa using hown5, HN, hbe5⟩
                case measure => simp [intOf]; omega
              · have hb0 : ((out.length : Int) == 0) = false := beq_eq_false_iff_ne.2 (by omega)
                have hlt3 : out.length - 1 < out.length := by omega
                have hlt4 : ((out.length - 1 : Nat) : Int) < (out.length : Int) := by omega
                obtain ⟨gO, rfl, dO⟩ := hgO x hz ho
                have hxx : (x != x) = false := by simp
                have hwo2 : IntKind.i64.wrap ((out.length : Int) - 1) = ((out.length - 1 : Nat) : Int) := by rcases hwo with h | h; exact h; omega
                have HN := Lib.hid (mrg_old HM.out HP.out HAU.out HBU.out hz)
                clear hgO hwo hz
                go_wp2_with fail
                go_quiet (fail)
                go_wp2_with fail
                go_roundw
                case rel => exact ⟨p, q + 1, out, by omega, by omega, by go_num, by go_num, HOm.out _, HN, HEm.out _⟩
                case measure => simp [intOf]; omega
            · obtain rfl : p = A.length := by omega
              clear hx hgA hgB
              go_upto_region 10 with fail
              refine wp_region_held_drew (S := fun w' => ∃ m, w' = wr.drewN m) (by kernel_rfl) ⟨1, rfl⟩ (fun hHeld => ?_)
              refine wpAnyH_take (i := 0) (oi := _) (v := (.int .i64 (q : Int))) rfl (by kernel_rfl) (by kernel_rfl) (by kernel_rfl) (fun _ _ _ h => h) (Or.inl ⟨by rfl, ?_⟩) (by assumption) ?_
              focus (intro w' hSw; (try dsimp only at hSw); go_split_ands; simp only [List.getElem_toArray, List.getElem_cons_zero]; go_simp; done)
              simp only [List.getElem_toArray, List.getElem_cons_zero, Act.put, List.setIfInBounds_toArray, List.set_cons_zero, List.set_cons_succ]
              refine wpAnyH_take (i := 1) (oi := _) (v := (.slice (some ⟨gB, 0, none⟩) B.length cb)) rfl (by kernel_rfl) (by kernel_rfl) (by kernel_rfl) (fun _ _ _ h => h) (Or.inl ⟨by rfl, ?_⟩) (by assumption) ?_
              focus (intro w' hSw; (try dsimp only at hSw); go_split_ands; simp only [List.getElem_toArray, List.getElem_cons_succ, List.getElem_cons_zero]; go_simp; done)
              simp only [List.getElem_toArray, List.getElem_cons_succ, List.getElem_cons_zero, Act.put, List.setIfInBounds_toArray, List.set_cons_zero, List.set_cons_succ]
              refine wpAnyH_take (i := 2) (oi := _) (v := (.int .i64 (B.length : Int))) rfl (by kernel_rfl) (by kernel_rfl) (by kernel_rfl) (fun _ _ _ h => h) (Or.inl ⟨by rfl, ?_⟩) (by assumption) ?_
              focus (intro w' hSw; (try dsimp only at hSw); go_split_ands; simp only [List.getElem_toArray, List.getElem_cons_succ, List.getElem_cons_zero]; go_simp; done)
              simp only [List.getElem_toArray, List.getElem_cons_succ, List.getElem_cons_zero, Act.put, List.setIfInBounds_toArray, List.set_cons_zero, List.set_cons_succ]
              refine wpAnyH_take (i := 3) (oi := _) (v := (.bool false)) rfl (by kernel_rfl) (by kernel_rfl) (by kernel_rfl) (fun _ _ _ h => h) (Or.inl ⟨by rfl, ?_⟩) (by assumption) ?_
              focus (intro w' hSw; (try dsimp only at hSw); go_split_ands; simp only [List.getElem_toArray, List.getElem_cons_succ, List.getElem_cons_zero]; go_simp; done)
              simp only [List.getElem_toArray, List.getElem_cons_succ, List.getElem_cons_zero, Act.put, List.setIfInBounds_toArray, List.set_cons_zero, List.set_cons_succ]
              refine wpAnyH_take (i := 4) (oi := _) (v := (.bool false)) rfl (by kernel_rfl) (by kernel_rfl) (by kernel_rfl) (fun _ _ _ h => h) (Or.inl ⟨by rfl, ?_⟩) (by assumption) ?_
              focus (intro w' hSw; (try dsimp only at hSw); go_split_ands; simp only [List.getElem_toArray, List.getElem_cons_succ, List.getElem_cons_zero]; go_simp; done)
              simp only [List.getElem_toArray, List.getElem_cons_succ, List.getElem_cons_zero, Act.put, List.setIfInBounds_toArray, List.set_cons_zero, List.set_cons_succ]
              refine wpAnyH_take (i := 5) (oi := _) (v := (.int .i64 (A.length : Int))) rfl (by kernel_rfl) (by kernel_rfl) (by kernel_rfl) (fun _ _ _ h => h) (Or.inl ⟨by rfl, ?_⟩) (by assumption) ?_
              focus (intro w' hSw; (try dsimp only at hSw); go_split_ands; simp only [List.getElem_toArray, List.getElem_cons_succ, List.getElem_cons_zero]; go_simp; done)
              simp only [List.getElem_toArray, List.getElem_cons_succ, List.getElem_cons_zero, Act.put, List.setIfInBounds_toArray, List.set_cons_zero, List.set_cons_succ]
              refine wpAnyH_take (i := 6) (oi := _) (v := (.slice aa A.length ca)) rfl (by kernel_rfl) (by kernel_rfl) (by kernel_rfl) (fun _ _ _ h => h) (Or.inl ⟨by rfl, ?_⟩) (by assumption) ?_
              focus (intro w' hSw; (try dsimp only at hSw); go_split_ands; simp only [List.getElem_toArray, List.getElem_cons_succ, List.getElem_cons_zero]; go_simp; done)
              simp only [List.getElem_toArray, List.getElem_cons_succ, List.getElem_cons_zero, Act.put, List.setIfInBounds_toArray, List.set_cons_zero, List.set_cons_succ]
              refine wpAnyH_take (i := 7) (oi := _) (v := (.int .i64 (A.length : Int))) rfl (by kernel_rfl) (by kernel_rfl) (by kernel_rfl) (fun _ _ _ h => h) (Or.inl ⟨by rfl, ?_⟩) (by assumption) ?_
              focus (intro w' hSw; (try dsimp only at hSw); go_split_ands; simp only [List.getElem_toArray, List.getElem_cons_succ, List.getElem_cons_zero]; go_simp; done)
              simp only [List.getElem_toArray, List.getElem_cons_succ, List.getElem_cons_zero, Act.put, List.setIfInBounds_toArray, List.set_cons_zero, List.set_cons_succ]
              refine wpAnyH_take (i := 8) (oi := _) (v := (.bool false)) rfl (by kernel_rfl) (by kernel_rfl) (by kernel_rfl) (fun _ _ _ h => h) (Or.inl ⟨by rfl, ?_⟩) (by assumption) ?_
              focus (intro w' hSw; (try dsimp only at hSw); go_split_ands; simp only [List.getElem_toArray, List.getElem_cons_succ, List.getElem_cons_zero]; go_simp; done)
              simp only [List.getElem_toArray, List.getElem_cons_succ, List.getElem_cons_zero, Act.put, List.setIfInBounds_toArray, List.set_cons_zero, List.set_cons_succ]
              refine wpAnyH_take (i := 9) (oi := _) (v := (.bool false)) rfl (by kernel_rfl) (by kernel_rfl) (by kernel_rfl) (fun _ _ _ h => h) (Or.inl ⟨by rfl, ?_⟩) (by assumption) ?_
              focus (intro w' hSw; (try dsimp only at hSw); go_split_ands; simp only [List.getElem_toArray, List.getElem_cons_succ, List.getElem_cons_zero]; go_simp; done)
              simp only [List.getElem_toArray, List.getElem_cons_succ, List.getElem_cons_zero, Act.put, List.setIfInBounds_toArray, List.set_cons_zero, List.set_cons_succ]
              refine wpAnyH_take (i := 10) (oi := _) (v := undef) rfl (by kernel_rfl) (by kernel_rfl) (by kernel_rfl) (fun _ _ _ h => h) (Or.inr ⟨by rfl, rfl⟩) (by assumption) ?_
              simp only [List.getElem_toArray, List.getElem_cons_succ, List.getElem_cons_zero, Act.put, List.setIfInBounds_toArray, List.set_cons_zero, List.set_cons_succ]
              refine wpAnyH_take (i := 11) (oi := _) (v := undef) rfl (by kernel_rfl) (by kernel_rfl) (by kernel_rfl) (fun _ _ _ h => h) (Or.inr ⟨by rfl, rfl⟩) (by assumption) ?_
              simp only [List.getElem_toArray, List.getElem_cons_succ, List.getElem_cons_zero, Act.put, List.setIfInBounds_toArray, List.set_cons_zero, List.set_cons_succ]
              refine wpAnyH_take (i := 12) (oi := _) (v := undef) rfl (by kernel_rfl) (by kernel_rfl) (by kernel_rfl) (fun _ _ _ h => h) (Or.inr ⟨by rfl, rfl⟩) (by assumption) ?_
              simp only [List.getElem_toArray, List.getElem_cons_succ, List.getElem_cons_zero, Act.put, List.setIfInBounds_toArray, List.set_cons_zero, List.set_cons_succ]
              refine wpAnyH_take (i := 13) (oi := _) (v := undef) rfl (by kernel_rfl) (by kernel_rfl) (by kernel_rfl) (fun _ _ _ h => h) (Or.inr ⟨by rfl, rfl⟩) (by assumption) ?_
              simp only [List.getElem_toArray, List.getElem_cons_succ, List.getElem_cons_zero, Act.put, List.setIfInBounds_toArray, List.set_cons_zero, List.set_cons_succ]
              refine wpAnyH_take (i := 14) (oi := _) (v := undef) rfl (by kernel_rfl) (by kernel_rfl) (by kernel_rfl) (fun _ _ _ h => h) (Or.inr ⟨by rfl, rfl⟩) (by assumption) ?_
              simp only [List.getElem_toArray, List.getElem_cons_succ, List.getElem_cons_zero, Act.put, List.setIfInBounds_toArray, List.set_cons_zero, List.set_cons_succ]
              refine wpAnyH_take (i := 15) (oi := _) (v := undef) rfl (by kernel_rfl) (by kernel_rfl) (by kernel_rfl) (fun _ _ _ h => h) (Or.inr ⟨by rfl, rfl⟩) (by assumption) ?_
              simp only [List.getElem_toArray, List.getElem_cons_succ, List.getElem_cons_zero, Act.put, List.setIfInBounds_toArray, List.set_cons_zero, List.set_cons_succ]
              refine wpAnyH_take (i := 16) (oi := _) (v := undef) rfl (by kernel_rfl) (by kernel_rfl) (by kernel_rfl) (fun _ _ _ h => h) (Or.inr ⟨by rfl, rfl⟩) (by assumption) ?_
              simp only [List.getElem_toArray, List.getElem_cons_succ, List.getElem_cons_zero, Act.put, List.setIfInBounds_toArray, List.set_cons_zero, List.set_cons_succ]
              refine wpAnyH_take (i := 17) (oi := _) (v := undef) rfl (by kernel_rfl) (by kernel_rfl) (by kernel_rfl) (fun _ _ _ h => h) (Or.inr ⟨by rfl, rfl⟩) (by assumption) ?_
              simp only [List.getElem_toArray, List.getElem_cons_succ, List.getElem_cons_zero, Act.put, List.setIfInBounds_toArray, List.set_cons_zero, List.set_cons_succ]
              refine wpAnyH_take (i := 18) (oi := _) (v := undef) rfl (by kernel_rfl) (by kernel_rfl) (by kernel_rfl) (fun _ _ _ h => h) (Or.inr ⟨by rfl, rfl⟩) (by assumption) ?_
              simp only [List.getElem_toArray, List.getElem_cons_succ, List.getElem_cons_zero, Act.put, List.setIfInBounds_toArray, List.set_cons_zero, List.set_cons_succ]
              refine wpAnyH_take (i := 19) (oi := _) (v := (.bool false)) rfl (by kernel_rfl) (by kernel_rfl) (by kernel_rfl) (fun _ _ _ h => h) (Or.inl ⟨by rfl, ?_⟩) (by assumption) ?_
              focus (intro w' hSw; (try dsimp only at hSw); go_split_ands; simp only [List.getElem_toArray, List.getElem_cons_succ, List.getElem_cons_zero]; go_simp; done)
              simp only [List.getElem_toArray, List.getElem_cons_succ, List.getElem_cons_zero, Act.put, List.setIfInBounds_toArray, List.set_cons_zero, List.set_cons_succ]
              refine wpAnyH_take (i := 20) (oi := _) (v := (.bool false)) rfl (by kernel_rfl) (by kernel_rfl) (by kernel_rfl) (fun _ _ _ h => h) (Or.inl ⟨by rfl, ?_⟩) (by assumption) ?_
              focus (intro w' hSw; (try dsimp only at hSw); go_split_ands; simp only [List.getElem_toArray, List.getElem_cons_succ, List.getElem_cons_zero]; go_simp; done)
              simp only [List.getElem_toArray, List.getElem_cons_succ, List.getElem_cons_zero, Act.put, List.setIfInBounds_toArray, List.set_cons_zero, List.set_cons_succ]
              refine wpAnyH_done (by kernel_rfl) ?_ _
              rcases last_cases out x with ho | ⟨z, hz, ho, hne⟩ | ⟨hz, ho⟩
              · have hb0 : ((out.length : Int) == 0) = true := beq_iff_eq.2 (by omega)
                have HN := Lib.hid (mrg_new HM.out HP.out HAU.out HBU.out (fun y hy => by have := (List.getElem?_eq_some_iff.1 hy).1; omega))
                clear hgO hwo ho
                go_wp2_with (at_builtin; refine wpList_append_own _ rfl _ _ 26 rfl w2.heap.size 3 i0 (.int .i64 0) 1 8 Tryz.underlying26 hi hz0 hz1 hz2 rfl (by decide) _ _ _ rfl ((HOm.out 1).alloc _) ⟨_, 0, none⟩ 1 1 ([x].map (Value.int .i64)) rfl rfl (int_new _ _ _) (ints_one _) (by unfold maxLen; omega) (by omega) (by have := (HEm.out 0).size; simp [World.drewN] at this ⊢; omega) ?_; intro v' w5 hown5 hgr5 _; have hbe5 := ((HEm.out 1).alloc (HEm.out 1).size _).grown hgr5 (by have := (HEm.out 0).size; simp [World.drewN] at this ⊢; omega) (fun j hj => by simpa using (HO.out.lt j hj).1); clear hgr5)
                go_roundw
                case rel => exact ⟨A.length, q + 1, out ++ [x], by omega, by omega, by go_num, by go_num, by simpa using hown5, HN, hbe5⟩
                case measure => simp [intOf]; omega
              · have hb0 : ((out.length : Int) == 0) = false := beq_eq_false_iff_ne.2 (by omega)
                have hlt3 : out.length - 1 < out.length := by omega
                have hlt4 : ((out.length - 1 : Nat) : Int) < (out.length : Int) := by omega
                obtain ⟨gO, rfl, dO⟩ := hgO z hz ho
                have hzx : (z != x) = true := by simpa using hne
                have hwo2 : IntKind.i64.wrap ((out.length : Int) - 1) = ((out.length - 1 : Nat) : Int) := by rcases hwo with h | h; exact h; omega
                have HN := Lib.hid (mrg_new HM.out HP.out HAU.out HBU.out (fun y hy => by rw [hz] at hy; cases hy; exact hne))
                clear hgO hwo hz hne
                go_wp2_with (at_builtin; refine wpList_append_own _ rfl _ _ 26 rfl w2.heap.size 3 i0 (.int .i64 0) 1 8 Tryz.underlying26 hi hz0 hz1 hz2 rfl (by decide) _ _ _ rfl ((HOm.out 1).alloc _) ⟨_, 0, none⟩ 1 1 ([x].map (Value.int .i64)) rfl rfl (int_new _ _ _) (ints_one _) (by unfold maxLen; omega) (by omega) (by have := (HEm.out 0).size; simp [World.drewN] at this ⊢; omega) ?_; intro v' w5 hown5 hgr5 _; have hbe5 := ((HEm.out 1).alloc (HEm.out 1).size _).grown hgr5 (by have := (HEm.out 0).size; simp [World.drewN] at this ⊢; omega) (fun j hj => by simpa using (HO.out.lt j hj).1); clear hgr5)
                go_roundw
                case rel => exact ⟨A.length, q + 1, out ++ [x], by omega, by omega, by go_num, by go_num, by simpa using hown5, HN, hbe5⟩
                case measure => simp [intOf]; omega
              · have hb0 : ((out.length : Int) == 0) = false := beq_eq_false_iff_ne.2 (by omega)
                have hlt3 : out.length - 1 < out.length := by omega
                have hlt4 : ((out.length - 1 : Nat) : Int) < (out.length : Int) := by omega
                obtain ⟨gO, rfl, dO⟩ := hgO x hz ho
                have hxx : (x != x) = false := by simp
                have hwo2 : IntKind.i64.wrap ((out.length : Int) - 1) = ((out.length - 1 : Nat) : Int) := by rcases hwo with h | h; exact h; omega
                have HN := Lib.hid (mrg_old HM.out HP.out HAU.out HBU.out hz)
                clear hgO hwo hz
                go_wp2_with fail
                go_roundw
                case rel => exact ⟨A.length, q + 1, out, by omega, by omega, by go_num, by go_num, HOm.out 1, HN, HEm.out 1⟩
                case measure => simp [intOf]; omega
        · have hp2 : p = A.length := by omega
          have hq2 : q = B.length := by omega
          subst hp2 hq2
          go_wp2_with fail
          go_ret
          have he := HEND.out out HM.out
          subst he
          exact ⟨_, rfl, own_base HO.out hw2s, HB2.out.trans (HE.out.mono hw2s)⟩

end Go.Proofs.YtkbfbifepaoojaaGreatDoor

