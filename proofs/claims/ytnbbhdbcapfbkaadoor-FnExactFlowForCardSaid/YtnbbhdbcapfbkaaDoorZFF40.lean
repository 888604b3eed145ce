/-
  CONTRACT of spec.TimeNet. No law is proved here.
  CONTRACT of spec.FlowSize. No law is proved here.
  A STEP: 'append(row, list...)', the row of the call's own, the list nil, empty or in memory. No statement is proved here.
  What comes back of WaysOf; a row over a call that is no call of its own. Plain facts; no statement is proved here.
-/
import Derived.Test.YtnbbhdbcapfbkaaDoorZFF36
import Derived.Test.YtnbbhdbcapfbkaaDoorZFF37
import Derived.Test.YtnbbhdbcapfbkaaDoorZFF38
import Derived.Test.YtnbbhdbcapfbkaaDoorZFF39
import Derived.Test.YtnbbhdbcapfbkaaDoorZFF30
import Derived.Test.YtnbbhdbcapfbkaaDoorZFF00
import Derived.Deep.Upon
import Derived.Laws.OwnMore
import Derived.Test.YtnbbhdbcapfbkaaDoorZFF12
import Derived.Test.YtnbbhdbcapfbkaaDoorZFF01
namespace Go.Proofs.YtnbbhdbcapfbkaaDoor
set_option maxRecDepth 4096
open Go.ChangeShapes Go.WideShapes Go.ChangeAt Go.RowKit
theorem specTimeNet (W H : Int) (C : ByteArray) (S G : List Int) (T : Int) (strict : Bool) (vs vg : Value) (N : Int) (A : List ArcD) (b : Bool) (hC : C.size ≤ 1048576) (hS : S.length ≤ 2000000) (hG : G.length ≤ 2000000) (HN : Hid (timeNV W H C S G T strict = N)) (HA : Hid (timeAV W H C S G T strict = A)) (HB : Hid (askV W H C S G T = b)) (w : World) (hs : Ints w vs S) (hg : Ints w vg G) :
    Calls Tryd.prog 17 #[.agg #[.int .i64 W, .int .i64 H, .string C], vs, vg, .int .i64 T, .bool strict] w (TimeBack w N A b) :=
  timeParts.all timePartA timePartB timePartC timePartD W H C S G T strict vs vg N A b hC hS hG HN HA HB w hs hg

end Go.Proofs.YtnbbhdbcapfbkaaDoor

namespace Go.Proofs.YtnbbhdbcapfbkaaDoor
set_option maxRecDepth 4096
open Go.ChangeShapes Go.WideShapes Go.ChangeAt Go.RowKit

theorem specFlowSize (N : Int) (A : List ArcD) (F : List Int) (v vf : Value) (z : Int) (hAl : A.length ≤ 2000000) (hFl : F.length ≤ 2000000) (HZ : Hid (flowSizeV N A F = z)) (w : World) (hv : Arcs w v A) (hf : Ints w vf F) :
    Calls Tryd.prog 37 #[.agg #[.int .i64 N, v], vf] w (Made w (.int .i64 z)) := by
  have hB := Below.refl (w.alloc (.cells #[.int .i64 N, v] 45)).heap.size (w.alloc (.cells #[.int .i64 N, v] 45))
  obtain ⟨c0, c1⟩ := net_cells hB
  have HVV := Lib.hid hv
  have HFF := Lib.hid hf
  clear hv hf
  cases hk : flowOkV N A F with
  | false =>
    have HK := Lib.hid hk
    have e : z = -1 := by rw [← HZ.out]; exact if_neg (by rw [hk]; simp)
    subst e
    clear hk
    go_enter Tryd.func37, Tryd.ntmps37
    go_wp2_with fail
    refine (specFlowOk N A F v vf false hAl hFl HK _ (arcs_on HVV.out (below_box hB)) (ints_on HFF.out (below_box hB))).mono ?_
    rintro e w1 ⟨rfl, hb⟩
    replace hB := next_below hB hb
    clear hb c0 c1
    go_wp2_with fail
    go_ret
    exact ⟨rfl, below_box hB⟩
  | true =>
    have HK := Lib.hid hk
    obtain ⟨n, rfl, h2, h15, hok, hA, hF, hP⟩ := flow_facts hk
    have e : netO (A.zip F) 0 = z := by rw [← HZ.out]; exact (if_pos hk).symm
    have HE := Lib.hid e
    have HOK := Lib.hid hok
    have HP := Lib.hid hP
    have HL := Lib.hid hF
    obtain ⟨R, HR⟩ : ∃ R, Hid (rowO (netO (A.zip F)) n = R) := ⟨_, rfl⟩
    have hRl : R.length = n := by rw [← HR.out, rowO_len]
    clear hk e hok hP hF HZ
    go_enter Tryd.func37, Tryd.ntmps37
    go_wp2_with fail
    refine (specFlowOk n A F v vf true hAl hFl HK _ (arcs_on HVV.out (below_box hB)) (ints_on HFF.out (below_box hB))).mono ?_
    rintro e w1 ⟨rfl, hb⟩
    replace hB := next_below hB hb
    obtain ⟨c0, c1⟩ := net_cells hB
    clear hb
    go_wp2_with fail
    refine (specOut n A F R _ _ h15 HOK.out hA HL.out HP.out HR _ (arcs_on HVV.out (below_box hB)) (ints_on HFF.out (below_box hB))).mono ?_
    rintro e w5 ⟨vo, rfl, hown, hb⟩
    replace hB := next_below hB hb
    obtain ⟨ao, co, rfl, HO⟩ := ints_form (ints_of_own hown)
    have hn0 : 0 < n := by omega
    rw [hRl] at HO ⊢
    rcases HO with h0 | ⟨go, rfl, hgo, hco⟩
    · omega
    · have d0 := hco 0 z (by rw [← HR.out, rowO_at _ hn0, HE.out])
      have hn1 : (0 : Int) < (n : Int) := by omega
      clear hb hown c0 c1 hco hRl
      go_wp2_with fail
      go_ret
      exact ⟨rfl, below_box hB⟩

end Go.Proofs.YtnbbhdbcapfbkaaDoor

namespace Go.Proofs.YtnbbhdbcapfbkaaDoor
set_option maxRecDepth 4096
open Go.ChangeShapes Go.WideShapes Go.ChangeAt Go.RowKit

theorem app_run (w : World) (B : Nat) (v u : Value) (M L : List Int) (ty : TypeId) (hown : w.ownsRow B 3 1 v M.length (M.map (Value.int .i64))) (hv : ArgI w u L) (hl : M.length + L.length ≤ 100000000) (hB : B ≤ w.heap.size) :
    ∃ v' w', (Builtin.append_ #[24, 24] ty #[v, u]).run Tryd.prog w = .ok v' w' ∧ w'.ownsRow B 3 1 v' (M ++ L).length ((M ++ L).map (Value.int .i64)) ∧ w.grownBy w' v.ownBlock := by
  obtain ⟨i0, hi, hz0, hz1, hz2⟩ := info_parts Tryd.info3
  obtain ⟨a, c, rfl, hc⟩ := hv
  by_cases h0 : L.length = 0
  · obtain rfl := List.eq_nil_of_length_eq_zero h0
    have hs : Src Tryd.prog i0.size 24 (.slice a 0 c) 0 [] w := by
      cases a with
      | none => exact Src.ofNil w Tryd.underlying24 c
      | some p => exact Src.ofSlice w Tryd.underlying24 p 0 c [] (by simp) (by intro j u h; simp at h) (by intro u h; cases h)
    obtain ⟨p, k, hk, hv⟩ : ∃ p k, M.length ≤ k ∧ v = .slice p M.length k := by
      rcases hown.2 with ⟨rfl, h⟩ | ⟨g, cap, cur, rfl, _, _, h, _⟩
      · exact ⟨none, 0, by omega, by rw [h]⟩
      · exact ⟨_, _, h, rfl⟩
    subst hv
    refine ⟨_, w, run_append_nothing w _ _ _ _ i0 Tryd.underlying24 hi p M.length k hk _ hs, ?_, World.grownBy.refl _ _⟩
    rw [List.append_nil]
    exact hown
  · rcases hc with h | ⟨b, rfl, _, hc⟩
    · exact absurd h h0
    · obtain ⟨v', w', h1, h2, h3, _⟩ := run_append_own (P := Tryd.prog) w B 24 ty 3 i0 (.int .i64 0) 1 8 Tryd.underlying24 hi hz0 hz1 hz2 rfl (by decide) v M.length (M.map (Value.int .i64)) hown b L.length c (L.map (Value.int .i64)) (by simp) (fun j u h => by
          rw [List.getElem?_map] at h
          obtain ⟨x, hx, rfl⟩ := Option.map_eq_some_iff.1 h
          exact hc j x hx) (ints_one _) (by unfold maxLen; omega) (by omega) hB
      refine ⟨v', w', h1, ?_, h3⟩
      rw [List.length_append, List.map_append]
      exact h2

theorem wp_app {o : Oper} {a : Act} {w : World} {K : Act → World → Prop} {Q : Exit → Act → World → Prop} (s x : Operand) (hop : o.op = Op.call { callee := Callee.builtin Builtin.append, args := #[s, x], argTypes := #[24, 24] })
    (B : Nat) (v u : Value) (M L : List Int) (hs : a.eval s = v) (hx : a.eval x = u) (hown : w.ownsRow B 3 1 v M.length (M.map (Value.int .i64))) (hv : ArgI w u L) (hl : M.length + L.length ≤ 100000000) (hB : B ≤ w.heap.size)
    (hK : ∀ v' w', w'.ownsRow B 3 1 v' (M ++ L).length ((M ++ L).map (Value.int .i64)) → w.grownBy w' v.ownBlock → K (a.put o.dst v') w') : Oper.wp Tryd.prog o a w K Q := by
  obtain ⟨v', w', hrun, h1, h2⟩ := app_run w B v u M L o.type hown hv hl hB
  unfold Oper.wp
  simp [execOp, hop, resolve, invoke, builtin, hs, hx, hrun, Result.andThen]
  exact hK _ _ h1 h2
theorem wpList_app {ops : Array Oper} {rest : List Oper} {o : Oper} {a : Act} {w : World} {Q : Exit → Act → World → Prop} (hgd : o.guard = none) (s x : Operand) (hop : o.op = Op.call { callee := Callee.builtin Builtin.append, args := #[s, x], argTypes := #[24, 24] })
    (B : Nat) (v u : Value) (M L : List Int) (hs : a.eval s = v) (hx : a.eval x = u) (hown : w.ownsRow B 3 1 v M.length (M.map (Value.int .i64))) (hv : ArgI w u L) (hl : M.length + L.length ≤ 100000000) (hB : B ≤ w.heap.size)
    (h : ∀ v' w', w'.ownsRow B 3 1 v' (M ++ L).length ((M ++ L).map (Value.int .i64)) → w.grownBy w' v.ownBlock → wpList Tryd.prog ops Q rest (a.put o.dst v') w') : wpList Tryd.prog ops Q (o :: rest) a w :=
  wpList_plain hgd fun _ hK => wp_app s x hop B v u M L hs hx hown hv hl hB fun v' w' h2 h3 => hK _ _ (h v' w' h2 h3)
theorem argI_of_ints {w : World} {v : Value} {L : List Int} (h : Ints w v L) : ArgI w v L := by
  rcases h with ⟨rfl, a, c, rfl⟩ | ⟨g, c, rfl, hg, hc⟩
  · exact ⟨a, c, rfl, .inl rfl⟩
  · refine ⟨_, c, rfl, .inr ⟨_, rfl, hg, fun j x hx => ?_⟩⟩
    have hadd : (⟨g, 0, none⟩ : Addr).add j = ⟨g, j, none⟩ := by unfold Addr.add; split <;> simp_all
    rw [hadd]
    exact hc j x hx

end Go.Proofs.YtnbbhdbcapfbkaaDoor

namespace Go.Proofs.YtnbbhdbcapfbkaaDoor
set_option maxRecDepth 4096
open Go.ChangeShapes Go.WideShapes Go.ChangeAt Go.RowKit

theorem below_noneT {w' w'' : World} (h : Below w'.heap.size w' w'') : w'.grownBy w'' none := ⟨h.os, h.tape, h.output, h.size, fun i hi _ => h.block i hi⟩
theorem own_any {w' w'' : World} {B s k : Nat} {e : TypeId} {v : Value} {xs : List Value} (ho : w'.ownsRow B e s v k xs) (hb : Below w'.heap.size w' w'') : w''.ownsRow B e s v k xs := ho.kept (below_noneT hb) (by cases v.ownBlock <;> simp)
def WaysRet (w : World) (Ws : List (List Int)) (b : Bool) (e : Ending) (w' : World) : Prop :=
  ∃ v, e = .returned (.tuple #[v, .bool b]) ∧ WOwn w' w.heap.size w'.heap.size v Ws ∧ Below w.heap.size w w'
theorem waysB_is {W H : Int} {C : ByteArray} {S G F : List Int} {t n : Nat} {A : List ArcD} {z : Int} (hk : askV W H C S G t = true) (hn : nodesG W H C t false = n) (hA : netG W H C S G t false = A) (hz : flowSizeV (n : Int) A F = z) : waysB W H C S G t F = decide (z = (S.length : Int)) := by
  subst hn hA hz
  unfold waysB
  rw [hk]
  rfl

end Go.Proofs.YtnbbhdbcapfbkaaDoor

