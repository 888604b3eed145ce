/-
  CONTRACTS of the program's methods of a network that is being built: join, node, nodes, joinCell. No law is proved here.
-/
import Derived.Test.YtnbbhdbcapfbkaaDoorZFF22
import Derived.Test.YtnbbhdbcapfbkaaDoorZFF15
import Derived.Deep.AppendLies
namespace Go.Proofs.YtnbbhdbcapfbkaaDoor
set_option maxRecDepth 4096
open Go.ChangeShapes Go.WideShapes Go.ChangeAt Go.RowKit

/-- What a method leaves that lists arcs: A is listed now. -/
def JoinedX (B k F P T : Nat) (vn vp : Value) (A : List ArcD) (w : World) (e : Ending) (w' : World) : Prop :=
  e = .returned (.tuple #[]) ∧ (∃ va, EX B k F P T vn vp va A w') ∧ Below B w w' ∧ TK w w'

set_option maxHeartbeats 1000000 in
theorem implJoinX {B k F P T : Nat} {vn vp va : Value} {A : List ArcD} (f t c : Int) (hA : A.length ≤ 2000000) (w : World) (h : EX B k F P T vn vp va A w) :
    Calls Tryd.prog 40 #[.pointer (some ⟨k, 0, none⟩), .int .i64 f, .int .i64 t, .int .i64 c] w (JoinedX B k F P T vn vp (A ++ [⟨f, t, 1, c⟩]) w) := by
  obtain ⟨i0, hi, hz0, hz1, hz2⟩ := info_parts Tryd.infoArcT
  have HE := Lib.hid h
  obtain ⟨_, _, _, _, _, c5⟩ := h.cells
  have hlo := h.lo
  have hlt := h.lt
  clear h
  go_enter Tryd.func40, Tryd.ntmps40
  go_wp2_with (at_builtin; go_loud (refine wpList_append_lies _ rfl _ _ 43 rfl B 62 i0 (.agg #[.int .i64 0, .int .i64 0, .int .i64 0, .int .i64 0]) 4 32 Tryd.underlying43 hi hz0 hz1 hz2 rfl (by decide) _ _ _ rfl (HE.out.row.alloc _) ⟨w.heap.size, 0, none⟩ 1 1 (cellsA [⟨f, t, 1, c⟩]) rfl rfl (arcs_newT _ [⟨f, t, 1, c⟩] _ rfl _) (arcs_oneT _) (by decide) (by unfold maxLen; omega) (by omega) (by simp; omega) _ rfl ?_; intro g6 c6 w6 hown6 hgrow6 _ _; have hN6 := HE.out.app (Z := [⟨f, t, 1, c⟩]) hown6 hgrow6; have f6 := HE.out.free6 hgrow6; have e6 := HE.out.cell6 hgrow6; have HN6 := Lib.hid hN6; clear hown6 hgrow6 hN6))
  refine bodyPost_end (v := .tuple #[]) (by simp [results]) rfl ?_
  exact ⟨rfl, ⟨_, HN6.out.1⟩, HN6.out.2.1, HN6.out.2.2⟩

theorem implNode {k F P T : Nat} (c t i : Nat) (z : Int) (hc : c < 4) (hF : F ≤ 1000) (hP : P ≤ 1000) (hT : T ≤ 500) (ht : t ≤ 1000) (hi : i ≤ 1000) (HZ : Hid ((numV c F P T t i : Nat) = z)) (w : World)
    (c0 : w.cell? ⟨k, 0, none⟩ = some (.int .i64 F)) (c1 : w.cell? ⟨k, 1, none⟩ = some (.int .i64 P)) (c2 : w.cell? ⟨k, 2, none⟩ = some (.int .i64 T)) :
    Calls Tryd.prog 45 #[.pointer (some ⟨k, 0, none⟩), .int .i64 c, .int .i64 t, .int .i64 i] w (Made w (.int .i64 z)) := by
  go_enter Tryd.func45, Tryd.ntmps45
  by_cases h2 : c < 2
  · go_wp2_with (go_at_call 62; (with_reducible refine (numCell c F P T t i z h2 hF ht hi HZ _).mono ?_); rintro e w1 ⟨rfl, hb⟩; have HB := Lib.hid hb; clear hb)
    go_ret
    exact ⟨rfl, HB.out⟩
  · go_wp2_with (go_at_call 62; (with_reducible refine (numPair c F P T t i z (by omega) hc hF hP hT ht hi HZ _).mono ?_); rintro e w1 ⟨rfl, hb⟩; have HB := Lib.hid hb; clear hb)
    go_ret
    exact ⟨rfl, HB.out⟩
theorem implNode0 {k F P T : Nat} (t i : Nat) (z : Int) (hF : F ≤ 1000) (hP : P ≤ 1000) (hT : T ≤ 500) (ht : t ≤ 1000) (hi : i ≤ 1000) (HZ : Hid ((numV 0 F P T t i : Nat) = z)) (w : World)
    (c0 : w.cell? ⟨k, 0, none⟩ = some (.int .i64 F)) (c1 : w.cell? ⟨k, 1, none⟩ = some (.int .i64 P)) (c2 : w.cell? ⟨k, 2, none⟩ = some (.int .i64 T)) :
    Calls Tryd.prog 45 #[.pointer (some ⟨k, 0, none⟩), .int .i64 0, .int .i64 t, .int .i64 i] w (Made w (.int .i64 z)) := implNode 0 t i z (by omega) hF hP hT ht hi HZ w c0 c1 c2
theorem implNode0s {k F P T : Nat} (t i : Nat) (z : Int) (hF : F ≤ 1000) (hP : P ≤ 1000) (hT : T ≤ 500) (ht : t + 1 ≤ 1000) (hi : i ≤ 1000) (HZ : Hid ((numV 0 F P T (t + 1) i : Nat) = z)) (w : World)
    (c0 : w.cell? ⟨k, 0, none⟩ = some (.int .i64 F)) (c1 : w.cell? ⟨k, 1, none⟩ = some (.int .i64 P)) (c2 : w.cell? ⟨k, 2, none⟩ = some (.int .i64 T)) :
    Calls Tryd.prog 45 #[.pointer (some ⟨k, 0, none⟩), .int .i64 0, .int .i64 ((t : Int) + 1), .int .i64 i] w (Made w (.int .i64 z)) := implNode 0 (t + 1) i z (by omega) hF hP hT ht hi HZ w c0 c1 c2
theorem implNode1 {k F P T : Nat} (t i : Nat) (z : Int) (hF : F ≤ 1000) (hP : P ≤ 1000) (hT : T ≤ 500) (ht : t ≤ 1000) (hi : i ≤ 1000) (HZ : Hid ((numV 1 F P T t i : Nat) = z)) (w : World)
    (c0 : w.cell? ⟨k, 0, none⟩ = some (.int .i64 F)) (c1 : w.cell? ⟨k, 1, none⟩ = some (.int .i64 P)) (c2 : w.cell? ⟨k, 2, none⟩ = some (.int .i64 T)) :
    Calls Tryd.prog 45 #[.pointer (some ⟨k, 0, none⟩), .int .i64 1, .int .i64 t, .int .i64 i] w (Made w (.int .i64 z)) := implNode 1 t i z (by omega) hF hP hT ht hi HZ w c0 c1 c2
theorem implNode2 {k F P T : Nat} (t i : Nat) (z : Int) (hF : F ≤ 1000) (hP : P ≤ 1000) (hT : T ≤ 500) (ht : t ≤ 1000) (hi : i ≤ 1000) (HZ : Hid ((numV 2 F P T t i : Nat) = z)) (w : World)
    (c0 : w.cell? ⟨k, 0, none⟩ = some (.int .i64 F)) (c1 : w.cell? ⟨k, 1, none⟩ = some (.int .i64 P)) (c2 : w.cell? ⟨k, 2, none⟩ = some (.int .i64 T)) :
    Calls Tryd.prog 45 #[.pointer (some ⟨k, 0, none⟩), .int .i64 2, .int .i64 t, .int .i64 i] w (Made w (.int .i64 z)) := implNode 2 t i z (by omega) hF hP hT ht hi HZ w c0 c1 c2
theorem implNode3 {k F P T : Nat} (t i : Nat) (z : Int) (hF : F ≤ 1000) (hP : P ≤ 1000) (hT : T ≤ 500) (ht : t ≤ 1000) (hi : i ≤ 1000) (HZ : Hid ((numV 3 F P T t i : Nat) = z)) (w : World)
    (c0 : w.cell? ⟨k, 0, none⟩ = some (.int .i64 F)) (c1 : w.cell? ⟨k, 1, none⟩ = some (.int .i64 P)) (c2 : w.cell? ⟨k, 2, none⟩ = some (.int .i64 T)) :
    Calls Tryd.prog 45 #[.pointer (some ⟨k, 0, none⟩), .int .i64 3, .int .i64 t, .int .i64 i] w (Made w (.int .i64 z)) := implNode 3 t i z (by omega) hF hP hT ht hi HZ w c0 c1 c2

theorem implNodes {k F P T : Nat} (z : Int) (hF : F ≤ 1000) (hP : P ≤ 1000) (hT : T ≤ 500) (HZ : Hid ((numV 2 F P T T 0 : Nat) = z)) (w : World)
    (c0 : w.cell? ⟨k, 0, none⟩ = some (.int .i64 F)) (c1 : w.cell? ⟨k, 1, none⟩ = some (.int .i64 P)) (c2 : w.cell? ⟨k, 2, none⟩ = some (.int .i64 T)) :
    Calls Tryd.prog 46 #[.pointer (some ⟨k, 0, none⟩)] w (Made w (.int .i64 z)) := by
  have hn : Calls Tryd.prog 45 #[.pointer (some ⟨k, 0, none⟩), .int .i64 2, .int .i64 T, .int .i64 0] w (Made w (.int .i64 z)) := implNode 2 T 0 z (by omega) hF hP hT (by omega) (by omega) HZ w c0 c1 c2
  go_enter Tryd.func46, Tryd.ntmps46
  go_wp2_with (go_at_call 45; (with_reducible refine hn.mono ?_); rintro e w1 ⟨rfl, hb⟩; have HB := Lib.hid hb; clear hb)
  go_ret
  exact ⟨rfl, HB.out⟩

/-- A cell's arcs at one time, nx what lies beside it. -/
def cellX (F : Nat) (nx : Nat → List Nat) (T t i : Nat) : List ArcD :=
  ⟨(inN F i t : Nat), (inN F i t + 1 : Nat), 1, 0⟩ :: (if t = T then [] else ⟨(inN F i t + 1 : Nat), (inN F i (t + 1) : Nat), 1, 0⟩ :: (nx i).map fun j => ⟨(inN F i t + 1 : Nat), (inN F j (t + 1) : Nat), 1, 1⟩)
theorem num0 (F P T t i : Nat) : numV 0 F P T t i = inN F i t := by unfold numV inN; rw [if_pos (by omega)]; rfl
theorem num1 (F P T t i : Nat) : numV 1 F P T t i = inN F i t + 1 := by unfold numV inN; rw [if_pos (by omega)]
theorem inN_bd {F i t : Nat} (hF : F ≤ 1000) (hi : i ≤ 1000) (ht : t ≤ 1000) : inN F i t ≤ 3000000 := by
  have := Nat.mul_le_mul ht hF
  unfold inN
  omega

set_option maxHeartbeats 2000000 in
theorem implJoinCell {B k F P T : Nat} {G : Nat} {vp va : Value} {A : List ArcD} {nx : Nat → List Nat} {Sx : Nat → Value} (t i : Nat) (hF : F ≤ 1000) (hP : P ≤ 1000) (hT : T ≤ 500) (ht : t ≤ T) (hi : i < F) (hA : A.length ≤ 1000000) (hN : (nx i).length ≤ 1000) (hNF : ∀ j ∈ nx i, j < F) (w : World)
    (h : EX B k F P T (.slice (some ⟨G, 0, none⟩) F F) vp va A w) (hx : NX B w G F nx Sx) :
    Calls Tryd.prog 63 #[.pointer (some ⟨k, 0, none⟩), .int .i64 t, .int .i64 i] w (JoinedX B k F P T (.slice (some ⟨G, 0, none⟩) F F) vp (A ++ cellX F nx T t i) w) := by
  obtain ⟨a, ha⟩ : ∃ a, a = inN F i t := ⟨_, rfl⟩
  obtain ⟨b, hb⟩ : ∃ b, b = inN F i (t + 1) := ⟨_, rfl⟩
  have H0 : Hid ((numV 0 F P T t i : Nat) = (a : Int)) := Lib.hid (by rw [num0, ha])
  have H1 : Hid ((numV 1 F P T t i : Nat) = (a : Int) + 1) := Lib.hid (by rw [num1, ha]; rfl)
  have H2 : Hid ((numV 0 F P T (t + 1) i : Nat) = (b : Int)) := Lib.hid (by rw [num0, hb])
  have HCX : Hid (cellX F nx T t i = ⟨(a : Int), (a : Int) + 1, 1, 0⟩ :: (if t = T then [] else ⟨(a : Int) + 1, (b : Int), 1, 0⟩ :: (nx i).map fun j => ⟨(a : Int) + 1, (inN F j (t + 1) : Nat), 1, 1⟩)) := Lib.hid (by rw [ha, hb]; rfl)
  have hw1 : IntKind.i64.wrap ((t : Int) + 1) = (t : Int) + 1 := IntWalk.i64_in _ (by omega)
  have ht5 : t ≤ 1000 := by omega
  have ht6 : t + 1 ≤ 1000 := by omega
  have hi5 : i ≤ 1000 := by omega
  have HX := Lib.hid hx
  have HE := Lib.hid h
  obtain ⟨c0, c1, c2, c3, c4, c5⟩ := h.cells
  clear ha hb h hx
  go_enter Tryd.func63, Tryd.ntmps63
  go_wp2_with fail
  refine (implNode1 t i _ hF hP hT ht5 hi5 H1 _ c0 c1 c2).mono ?_
  rintro e w1 ⟨rfl, hb1⟩
  have hE1 := HE.out.call hb1
  have hk1 := TK.below hb1
  have hB1 := hb1.mono (B' := B) (by have := HE.out.lo; have := HE.out.lt; omega)
  clear hb1 c0 c1 c2 c3 c4 c5
  obtain ⟨c0, c1, c2, c3, c4, c5⟩ := hE1.cells
  have HE1 := Lib.hid hE1
  clear hE1
  go_wp2_with fail
  refine (implNode0 t i _ hF hP hT ht5 hi5 H0 _ c0 c1 c2).mono ?_
  rintro e w2 ⟨rfl, hb2⟩
  have hE2 := HE1.out.call hb2
  have hk2 := hk1.trans (TK.below hb2)
  have hB2 := hB1.trans (hb2.mono (B' := B) (by have := HE1.out.lo; have := HE1.out.lt; omega))
  have HE2 := Lib.hid hE2
  clear hb2 c0 c1 c2 c3 c4 c5 hk1 hB1 HE1 hE2
  go_wp2_with fail
  refine (implJoinX _ _ _ (by omega) _ HE2.out).mono ?_
  rintro e w3 ⟨rfl, ⟨va3, hE3⟩, hb3, hk3⟩
  replace hk3 := hk2.trans hk3
  replace hb3 := hB2.trans hb3
  obtain ⟨c0, c1, c2, c3, c4, c5⟩ := hE3.cells
  have HE3 := Lib.hid hE3
  clear hk2 hB2 HE2 hE3
  by_cases htT : t = T
  · have htT2 : ((t : Int) == (T : Int)) = true := by simp [htT]
    have HCY : Hid (cellX F nx T t i = [⟨(a : Int), (a : Int) + 1, 1, 0⟩]) := Lib.hid (by rw [HCX.out, if_pos htT])
    clear htT
    go_wp2_with fail
    refine bodyPost_end (v := .tuple #[]) (by simp [results]) rfl ?_
    rw [HCY.out]
    exact ⟨rfl, ⟨_, HE3.out⟩, hb3, hk3⟩
  · have htT2 : ((t : Int) == (T : Int)) = false := by simpa using fun e => htT (by omega)
    have HCY : Hid (cellX F nx T t i = ⟨(a : Int), (a : Int) + 1, 1, 0⟩ :: ⟨(a : Int) + 1, (b : Int), 1, 0⟩ :: (nx i).map fun j => ⟨(a : Int) + 1, (inN F j (t + 1) : Nat), 1, 1⟩) := Lib.hid (by rw [HCX.out, if_neg htT])
    clear htT
    go_wp2_with fail
    refine (implNode0s t i _ hF hP hT ht6 hi5 H2 _ c0 c1 c2).mono ?_
    rintro e w4 ⟨rfl, hb4⟩
    have hE4 := HE3.out.call hb4
    have hk4 := hk3.trans (TK.below hb4)
    have hB4 := hb3.trans (hb4.mono (B' := B) (by have := HE3.out.lo; have := HE3.out.lt; omega))
    have HE4 := Lib.hid hE4
    clear hb4 c0 c1 c2 c3 c4 c5 hk3 hb3 HE3 hE4
    go_wp2_with fail
    refine (implJoinX _ _ _ (by simp only [List.length_append, List.length_cons, List.length_nil]; omega) _ HE4.out).mono ?_
    rintro e w5 ⟨rfl, ⟨va5, hE5⟩, hb5, hk5⟩
    replace hk5 := hk4.trans hk5
    replace hb5 := hB4.trans hb5
    obtain ⟨c0, c1, c2, c3, c4, c5⟩ := hE5.cells
    have hx5 := HX.out.tk hk5
    have s0 := hx5.at_row hi
    obtain ⟨av, cv, HSv⟩ := own_form (hx5.own i hi)
    rw [HSv] at s0
    have hi2 : (i : Int) < (F : Int) := by omega
    have HSV := Lib.hid HSv
    have HE5 := Lib.hid hE5
    obtain ⟨Z, HZ⟩ : ∃ Z : List ArcD, Hid (A ++ [(⟨(a : Int), (a : Int) + 1, 1, 0⟩ : ArcD)] ++ [(⟨(a : Int) + 1, (b : Int), 1, 0⟩ : ArcD)] = Z) := ⟨_, rfl⟩
    have hZl : Z.length ≤ 1000002 := by rw [← HZ.out]; simp only [List.length_append, List.length_cons, List.length_nil]; omega
    rw [HZ.out] at HE5
    have HXX := Lib.hid hx5
    have HK5 := Lib.hid hk5
    have HB5 := Lib.hid hb5
    clear hk4 hB4 HE4 hE5 hx5 HSv hk5 hb5 HX HE
    obtain ⟨n, hn⟩ : ∃ n, (nx i).length = n := ⟨_, rfl⟩
    rw [hn] at s0 HSV hN
    go_wp2_with fail
    go_loopw [43] (fun jv wr => ∃ (j : Nat) (va : Value), jv = .int .i64 j ∧ j ≤ n ∧ EX B k F P T (.slice (some ⟨G, 0, none⟩) F F) vp va (Z ++ ((nx i).take j).map fun j => ⟨(a : Int) + 1, (inN F j (t + 1) : Nat), 1, 1⟩) wr ∧ Below B w5 wr ∧ TK w5 wr) (fun jv _ => n - (intOf jv).toNat)
    case atStart => exact ⟨0, va5, rfl, Nat.zero_le _, by simpa using HE5.out, Below.refl _ _, TK.refl _⟩
    case round =>
      clear HE5 c0 c1 c2 c3 c4 c5 s0
      obtain ⟨j, va6, rfl, hj, hE, hB, hK⟩ := hrel
      by_cases hjn : j < n
      · obtain ⟨x, hx⟩ : ∃ x, (nx i)[j]? = some x := ⟨_, List.getElem?_eq_getElem (by omega)⟩
        have hxF := hNF x (List.mem_of_getElem? hx)
        have hxx := HXX.out.tk hK
        obtain ⟨gv, rfl⟩ : ∃ gv, av = some ⟨gv, 0, none⟩ := by
          obtain ⟨gv, cc, e⟩ := own_ptrT (hxx.own i hi) (by rw [hn]; omega)
          rw [HSV.out] at e
          injection e with e1 _ _
          exact ⟨gv, e1⟩
        have d0 := hxx.num hi (by rw [HSV.out, hn]) hx
        have hjn2 : (j : Int) < (n : Int) := by omega
        obtain ⟨c0, c1, c2, c3, c4, c5⟩ := hE.cells
        have HE := Lib.hid hE
        have HX := Lib.hid hx
        obtain ⟨zx, hzx⟩ : ∃ zx, zx = inN F x (t + 1) := ⟨_, rfl⟩
        have H3 : Hid ((numV 0 F P T (t + 1) x : Nat) = (zx : Int)) := Lib.hid (by rw [num0, hzx])
        have HR : Hid (((nx i).take (j + 1)).map (fun j => (⟨(a : Int) + 1, (inN F j (t + 1) : Nat), 1, 1⟩ : ArcD)) = ((nx i).take j).map (fun j => (⟨(a : Int) + 1, (inN F j (t + 1) : Nat), 1, 1⟩ : ArcD)) ++ [⟨(a : Int) + 1, (zx : Int), 1, 1⟩]) := Lib.hid (by
          obtain ⟨hjl, e⟩ := List.getElem?_eq_some_iff.1 hx
          rw [List.take_succ_eq_append_getElem hjl, List.map_append, e, hzx]
          rfl)
        have hYl : (((nx i).take j).map (fun j => (⟨(a : Int) + 1, (inN F j (t + 1) : Nat), 1, 1⟩ : ArcD))).length ≤ 1000 := by rw [List.length_map, List.length_take]; omega
        clear hE hx hxx hzx
        generalize ((nx i).take j).map (fun j => (⟨(a : Int) + 1, (inN F j (t + 1) : Nat), 1, 1⟩ : ArcD)) = Y at HE HR hYl
        go_wp2_with fail
        refine (implNode0s t x _ hF hP hT ht6 (by omega) H3 _ c0 c1 c2).mono ?_
        rintro e w6 ⟨rfl, hb6⟩
        have hE6 := HE.out.call hb6
        have hk6 := hK.trans (TK.below hb6)
        have hB6 := hB.trans (hb6.mono (B' := B) (by have := HE.out.lo; have := HE.out.lt; omega))
        have HE6 := Lib.hid hE6
        clear hb6 c0 c1 c2 c3 c4 c5 HE hE6 hK hB d0
        go_wp2_with fail
        refine (implJoinX _ _ _ (by rw [List.length_append]; omega) _ HE6.out).mono ?_
        rintro e w7 ⟨rfl, ⟨va7, hE7⟩, hb7, hk7⟩
        replace hk7 := hk6.trans hk7
        replace hb7 := hB6.trans hb7
        have HE7 := Lib.hid hE7
        clear hE7 HE6 hk6 hB6
        go_wp2_with fail
        go_roundw
        case rel => exact ⟨j + 1, va7, by go_num, by omega, by rw [HR.out, ← List.append_assoc]; exact HE7.out, hb7, hk7⟩
        case measure => simp [intOf]; omega
      · obtain rfl : j = n := by omega
        have HE := Lib.hid hE
        clear hE
        go_wp2_with fail
        refine bodyPost_end (v := .tuple #[]) (by simp [results]) rfl ?_
        refine ⟨rfl, ⟨va6, ?_⟩, HB5.out.trans hB, HK5.out.trans hK⟩
        have e := HE.out
        rw [← hn, List.take_length, ← HZ.out] at e
        rw [HCY.out]
        simpa using e

end Go.Proofs.YtnbbhdbcapfbkaaDoor

