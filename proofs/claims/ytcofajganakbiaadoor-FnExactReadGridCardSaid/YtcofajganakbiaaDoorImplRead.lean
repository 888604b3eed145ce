/-
  CONTRACT of the program's ReadGrid. No law is proved here.
-/
import Derived.Test.YtcofajganakbiaaDoorSpecRead
import Derived.Test.YtcofajganakbiaaDoorReadI
import Derived.Test.YtcofajganakbiaaDoorShelfB
namespace Go.Proofs.YtcofajganakbiaaDoor
open Go.ChangeShapes Go.WideShapes Go.ChangeAt Go.RowKit

theorem join_flat (xs : List (List UInt8)) : Lib.join xs [] = xs.flatten := by
  cases xs with
  | nil => rfl
  | cons x r =>
    rw [Lib.join_cons]
    simp [Lib.joinTail]

/-- The lines of a text, as texts. -/
def Lines (T : ByteArray) : List ByteArray := Lib.splitB ⟨#[10]⟩ 0 (Lib.countB T ⟨#[10]⟩) T
theorem lines_spl (T : ByteArray) : (Lines T).map (·.data.toList) = spl T.data.toList := split_lines T
theorem lines_len (T : ByteArray) : (Lines T).length = Lib.countB T ⟨#[10]⟩ + 1 := Lib.splitB_all ⟨#[10]⟩ (by decide) 0 _ T rfl
theorem lines_few (T : ByteArray) : (Lines T).length ≤ T.size + 1 := by
  rw [lines_len]
  have := Lib.countB_le ⟨#[10]⟩ (by decide) T.size T (Nat.le_refl _)
  omega
theorem line_size {T x : ByteArray} (h : x ∈ Lines T) : x.size ≤ T.size := by
  have h1 : x.data.toList ∈ spl T.data.toList := by rw [← lines_spl]; exact List.mem_map_of_mem h
  have h2 := piece_len h1
  have h3 := spl_len T.data.toList
  have h4 : x.data.toList.length = x.size := by simp
  have h5 : T.data.toList.length = T.size := by simp
  omega
theorem join_size (T : ByteArray) : (Lib.join (((Lines T).drop 3).map (·.data.toList)) []).length ≤ T.size := by
  rw [join_flat, List.map_drop, lines_spl]
  have h1 := drop_len (spl T.data.toList) 3
  have h3 := spl_len T.data.toList
  have h5 : T.data.toList.length = T.size := by simp
  omega

theorem lines_good {a b : Nat} {C T : ByteArray} (hg : Good a b C T) : 4 ≤ (Lines T).length ∧ ((Lines T).map (·.data.toList))[0]? = some (hL b) ∧ ((Lines T).map (·.data.toList))[1]? = some (wL a) ∧ Lib.join (((Lines T).drop 3).map (·.data.toList)) [] = C.data.toList := by
  obtain ⟨_, _, _, _, hs⟩ := good_sides hg
  have e := (lines_spl T).trans (good_lines hg)
  refine ⟨?_, by rw [e]; rfl, by rw [e]; rfl, ?_⟩
  · have := congrArg List.length e
    simp at this
    omega
  · rw [List.map_drop, e, join_flat]
    show (rowsL a b C ++ [[]]).flatten = _
    rw [List.flatten_append, rows_flat hs]
    simp

/-- What the call finds of the library's variables. -/
def Env (w : World) : Prop :=
  Tab w ∧ (∃ ev, w.cell? ⟨1, 0, none⟩ = some ev ∧ ∃ t p, ev = .iface t p) ∧ (∃ ev, w.cell? ⟨2, 0, none⟩ = some ev ∧ ∃ t p, ev = .iface t p) ∧
    ∃ m : Int, w.cell? ⟨0, 0, none⟩ = some (.int .i64 m)
theorem cell_on {w w1 : World} {p : Addr} {v : Value} (h : w.cell? p = some v) (hb : Below w.heap.size w w1) : w1.cell? p = some v := (hb.cell (World.block_lt_of_cell? w _ h)).trans h
theorem env_on {w w1 : World} (h : Env w) (hb : Below w.heap.size w w1) : Env w1 := by
  obtain ⟨h1, ⟨e1, h2, h2'⟩, ⟨e2, h3, h3'⟩, m, h4⟩ := h
  exact ⟨tab_on h1 hb, ⟨e1, cell_on h2 hb, h2'⟩, ⟨e2, cell_on h3 hb, h3'⟩, m, cell_on h4 hb⟩
theorem readEnv (s : ByteArray) (hlim : s.size ≤ 140737488355328) (w : World) (he : Env w) : Calls Tryd.prog 17 #[.string s] w (ReadBack s w) := by
  obtain ⟨h1, ⟨e1, h2, h2'⟩, ⟨e2, h3, h3'⟩, _⟩ := he
  exact implRead s hlim e1 e2 w (Lib.hid h2) h2' (Lib.hid h3) h3' (Lib.hid h1)

theorem splitEnv (T : ByteArray) (hT : T.size ≤ 1048576) (w : World) (he : Env w) :
    Calls Tryd.prog 16 #[.string T, .string ⟨#[10]⟩] w fun e w' => e = .returned (.slice (some ⟨w.heap.size, 0, none⟩) (Lines T).length (Lines T).length) ∧ w' = w.alloc (.cells ((Lines T).map Value.string).toArray 9) := by
  obtain ⟨m, hm⟩ := he.2.2.2
  have h := Any.strings_Split Tryd.lays146 (by kernel_rfl) T ⟨#[10]⟩ m w (by omega) hm (by decide)
  rw [lines_len]
  exact h

theorem size_str (w : World) : (sizeOf 9).run Tryd.prog w = .ok 1 w := by
  have hi : (Tryd.prog.info? 9).map (·.size) = some 1 := by kernel_rfl
  cases hq : Tryd.prog.info? 9 with
  | none => simp [hq] at hi
  | some i =>
    have hs : i.size = 1 := by simpa [hq] using hi
    simp [sizeOf, typeInfo, hq, hs]
theorem slice3 (G n : Nat) (h : 3 ≤ n) (w : World) :
    (Instr.slice 42 (.slice (some ⟨G, 0, none⟩) n n) (some (.int .i64 3)) none none).run Tryd.prog w = .ok (.slice (some ⟨G, if n = 3 then 0 else 3, none⟩) (n - 3) (n - 3)) w := by
  have hE : Tryd.prog.elem 42 = 9 := by kernel_rfl
  have hu : Tryd.prog.underlying 42 = some (.slice (Tryd.prog.elem 42)) := by
    rw [hE]
    exact Tryd.underlying42
  rw [run_slice_l w 42 (some ⟨G, 0, none⟩) n n hu .i64 3 (by omega) (by omega), hE, size_str w]
  by_cases h3 : n = 3
  · subst h3
    simp [Result.andThen, sliced]
  · simp [Result.andThen, sliced, h3, Addr.add]

theorem joinEnv (T : ByteArray) (hT : T.size ≤ 1048576) (G : Nat) (w : World) (h3 : 3 ≤ (Lines T).length) (hc : ∀ (j : Nat) x, (Lines T)[j]? = some x → w.cell? ⟨G, j, none⟩ = some (.string x)) (hG : G < w.heap.size) (J : ByteArray)
    (HJ : Hid ((⟨(Lib.join (((Lines T).drop 3).map (·.data.toList)) []).toArray⟩ : ByteArray) = J)) :
    Calls Tryd.prog 19 #[.slice (some ⟨G, if (Lines T).length = 3 then 0 else 3, none⟩) ((Lines T).length - 3) ((Lines T).length - 3), .string ⟨#[]⟩] w (Made w (.string J)) := by
  obtain rfl := HJ.out
  by_cases h : (Lines T).length = 3
  · rw [h]
    have hd : (Lines T).drop 3 = [] := List.drop_of_length_le (by omega)
    rw [hd]
    exact (Any.strings_Join_none Tryd.lays156 Tryd.Builder_Extra_156 _ 0 ⟨#[]⟩ w).mono fun e w' ⟨he, hw⟩ => ⟨he, by rw [hw]; exact Below.refl _ _⟩
  · rw [if_neg h]
    have hl : (Lines T).length - 3 = ((Lines T).drop 3).length := by rw [List.length_drop]
    rw [hl]
    have hfew := lines_few T
    exact Any.strings_Join Tryd.lays156 Tryd.Builder_Extra_156 G 3 ((Lines T).drop 3).length ((Lines T).drop 3) ⟨#[]⟩ w (fun j x hx => hc (3 + j) x (by rw [← hx, List.getElem?_drop])) hG (by rw [← hl]; omega) (Nat.le_refl _) (by
      have := join_size T
      show (Lib.join (((Lines T).drop 3).map (·.data.toList)) []).length ≤ _
      omega)

theorem no_good_short {T : ByteArray} (h : (Lines T).length < 3) : ∀ (a b : Nat) (C : ByteArray), ¬ Good a b C T := fun a b C hg => by
  have := (lines_good hg).1
  omega

/-- What was read of the lines is what a map's text says. -/
theorem read_good {T x0 x1 : ByteArray} {hi wi : Int} {k0 k1 : Bool} {J : ByteArray} (h0 : (Lines T)[0]? = some x0) (h1 : (Lines T)[1]? = some x1)
    (hr0 : ReadIs ⟨(Lib.trimPrefix x0.data.toList [104, 101, 105, 103, 104, 116, 32]).toArray⟩ hi k0) (hr1 : ReadIs ⟨(Lib.trimPrefix x1.data.toList [119, 105, 100, 116, 104, 32]).toArray⟩ wi k1)
    (hJ : (⟨(Lib.join (((Lines T).drop 3).map (·.data.toList)) []).toArray⟩ : ByteArray) = J) {a b : Nat} {C : ByteArray} (hg : Good a b C T) : hi = b ∧ wi = a ∧ J = C := by
  obtain ⟨_, ha, _, hb, _⟩ := good_sides hg
  obtain ⟨_, e0, e1, e2⟩ := lines_good hg
  rw [List.getElem?_map, h0] at e0
  rw [List.getElem?_map, h1] at e1
  have e0' : x0.data.toList = hL b := Option.some.inj e0
  have e1' : x1.data.toList = wL a := Option.some.inj e1
  rw [e0', trim_h] at hr0
  rw [e1', trim_w] at hr1
  refine ⟨read_dig hb hr0, read_dig ha hr1, ?_⟩
  rw [← hJ, e2]

theorem trim_size (x : ByteArray) (p : List UInt8) : (⟨(Lib.trimPrefix x.data.toList p).toArray⟩ : ByteArray).size ≤ x.size := by
  have h5 : x.data.toList.length = x.size := by simp
  have h2 : (⟨(Lib.trimPrefix x.data.toList p).toArray⟩ : ByteArray).size = (Lib.trimPrefix x.data.toList p).length := by simp [ByteArray.size]
  rw [h2]
  unfold Lib.trimPrefix
  split
  · rw [List.length_drop]; omega
  · omega
theorem trimTo (x y p : ByteArray) (HY : Hid ((⟨(Lib.trimPrefix x.data.toList p.data.toList).toArray⟩ : ByteArray) = y)) (w : World) :
    Calls Tryd.prog 18 #[.string x, .string p] w fun e w' => e = .returned (.string y) ∧ w = w' := by
  rw [← HY.out]
  exact (Any.strings_TrimPrefix Tryd.lays101 x p w).mono fun e w' ⟨h1, h2⟩ => ⟨h1, h2.symm⟩
theorem joinTo (T : ByteArray) (hT : T.size ≤ 1048576) (n G off m : Nat) (w : World) (hn : (Lines T).length = n) (h3 : 3 ≤ n) (HOF : Hid ((if n = 3 then 0 else 3) = off)) (HM : Hid (n - 3 = m)) (hc : ∀ (j : Nat) x, (Lines T)[j]? = some x → w.cell? ⟨G, j, none⟩ = some (.string x)) (hG : G < w.heap.size) (J : ByteArray)
    (HJ : Hid ((⟨(Lib.join (((Lines T).drop 3).map (·.data.toList)) []).toArray⟩ : ByteArray) = J)) :
    Calls Tryd.prog 19 #[.slice (some ⟨G, off, none⟩) m m, .string ⟨#[]⟩] w (Made w (.string J)) := by
  rw [← HOF.out, ← HM.out]
  subst hn
  exact joinEnv T hT G w h3 hc hG J HJ

set_option maxHeartbeats 1000000 in
set_option maxRecDepth 10000 in
theorem implRead1 (T : ByteArray) (hT : T.size ≤ 1048576) (w : World) (he : Hid (Env w)) : Calls Tryd.prog 10 #[.string T] w (ReadG T w) := by
  have hz := zw_start w
  have hz0 := hz
  obtain ⟨n, hn⟩ : ∃ n, (Lines T).length = n := ⟨_, rfl⟩
  have hfew := lines_few T
  rw [hn] at hfew
  go_enter Tryd.func10, Tryd.ntmps10
  go_wp2_with fail
  refine (splitEnv T hT _ (env_on he.out hz.1)).mono ?_
  rintro e w1 ⟨rfl, hw1⟩
  rw [hn]
  have hcl : ∀ (j : Nat) x, (Lines T)[j]? = some x → w1.cell? ⟨w.heap.size + 1, j, none⟩ = some (.string x) := fun j x hx => by
    rw [hw1]
    have h0 := heap_alloc_new (w.alloc (.cells #[.int .i64 0, .int .i64 0, .string ⟨#[]⟩] 27)) (.cells ((Lines T).map Value.string).toArray 9)
    have h1 := cell_of_row _ _ j _ _ _ h0
    rw [World.size_alloc] at h1
    rw [h1]
    simp [hx]
  replace hz := zw_on hz (w2 := w1) (by rw [hw1]; exact (Below.refl _ _).alloc (Nat.le_refl _) _)
  have hsz : w.heap.size + 1 < w1.heap.size := by rw [hw1]; simp
  have HC := Lib.hid hcl
  have HN := Lib.hid hn
  clear hw1 hcl hn
  by_cases h3 : n < 3
  · have HNG : Hid (∀ (a b : Nat) (C : ByteArray), ¬ Good a b C T) := Lib.hid (no_good_short (by rw [HN.out]; exact h3))
    obtain ⟨⟨d0, d1, d2⟩, f0, f1, f2⟩ := zw_res hz
    go_wp2_with fail
    obtain ⟨hb0, hh0⟩ := zw_stores hz (.int .i64 0) (.int .i64 0) (.string ⟨#[]⟩)
    exact bodyPost_ret (v := .tuple #[.agg #[.int .i64 0, .int .i64 0, .string ⟨#[]⟩], .bool false]) (results_rows Tryd.results10 _ _ _ _ _ rfl rfl (load_grid2 _ _ _ rfl hh0)) rfl ⟨hb0, .inr ⟨HNG.out, rfl⟩⟩
  · obtain ⟨x0, hx0⟩ : ∃ x, (Lines T)[0]? = some x := ⟨_, List.getElem?_eq_getElem (by rw [HN.out]; omega)⟩
    obtain ⟨x1, hx1⟩ : ∃ x, (Lines T)[1]? = some x := ⟨_, List.getElem?_eq_getElem (by rw [HN.out]; omega)⟩
    have p0 := HC.out 0 x0 hx0
    have p1 := HC.out 1 x1 hx1
    have hq0 : x0.size ≤ T.size := line_size (List.mem_of_getElem? hx0)
    have hq1 : x1.size ≤ T.size := line_size (List.mem_of_getElem? hx1)
    have HX0 := Lib.hid hx0
    have HX1 := Lib.hid hx1
    clear hx0 hx1
    obtain ⟨y0, HY0⟩ : ∃ y, Hid ((⟨(Lib.trimPrefix x0.data.toList [104, 101, 105, 103, 104, 116, 32]).toArray⟩ : ByteArray) = y) := ⟨_, rfl⟩
    obtain ⟨y1, HY1⟩ : ∃ y, Hid ((⟨(Lib.trimPrefix x1.data.toList [119, 105, 100, 116, 104, 32]).toArray⟩ : ByteArray) = y) := ⟨_, rfl⟩
    have hy0 : y0.size ≤ 140737488355328 := by rw [← HY0.out]; have := trim_size x0 [104, 101, 105, 103, 104, 116, 32]; omega
    have hy1 : y1.size ≤ 140737488355328 := by rw [← HY1.out]; have := trim_size x1 [119, 105, 100, 116, 104, 32]; omega
    clear hq0 hq1
    go_wp2_with fail
    refine (trimTo x0 y0 ⟨#[104, 101, 105, 103, 104, 116, 32]⟩ HY0 _).mono ?_
    rintro e w' ⟨rfl, rfl⟩
    go_wp2_with fail
    refine (readEnv y0 hy0 _ (env_on he.out hz.1)).mono ?_
    rintro e w2 ⟨hi, k0, rfl, hr0, hb2⟩
    replace hz := zw_on hz hb2
    have p1a := cell_on p1 hb2
    have HC2 : Hid (∀ (j : Nat) x, (Lines T)[j]? = some x → w2.cell? ⟨w.heap.size + 1, j, none⟩ = some (.string x)) := Lib.hid fun j x hx => cell_on (HC.out j x hx) hb2
    have hsz2 := hb2.size
    clear hb2 p0 p1 HC
    go_wp2_with fail
    refine (trimTo x1 y1 ⟨#[119, 105, 100, 116, 104, 32]⟩ HY1 _).mono ?_
    rintro e w' ⟨rfl, rfl⟩
    go_wp2_with fail
    refine (readEnv y1 hy1 _ (env_on he.out hz.1)).mono ?_
    rintro e w3 ⟨wi, k1, rfl, hr1, hb3⟩
    replace hz := zw_on hz hb3
    have HC3 : Hid (∀ (j : Nat) x, (Lines T)[j]? = some x → w3.cell? ⟨w.heap.size + 1, j, none⟩ = some (.string x)) := Lib.hid fun j x hx => cell_on (HC2.out j x hx) hb3
    have hsz3 := hb3.size
    clear hb3 p1a HC2
    obtain ⟨J, HJ⟩ : ∃ J, Hid ((⟨(Lib.join (((Lines T).drop 3).map (·.data.toList)) []).toArray⟩ : ByteArray) = J) := ⟨_, rfl⟩
    have hJs : J.size ≤ 1048576 := by
      rw [← HJ.out]
      have := join_size T
      have h2 : (⟨(Lib.join (((Lines T).drop 3).map (·.data.toList)) []).toArray⟩ : ByteArray).size = (Lib.join (((Lines T).drop 3).map (·.data.toList)) []).length := by simp [ByteArray.size]
      omega
    obtain ⟨off, HOF⟩ : ∃ off : Nat, Hid ((if n = 3 then 0 else 3) = off) := ⟨_, rfl⟩
    obtain ⟨m, HM⟩ : ∃ m, Hid (n - 3 = m) := ⟨_, rfl⟩
    have h3n : 3 ≤ n := by omega
    have hGw : w.heap.size + 1 < w3.heap.size := by omega
    have hsl : ∀ w', (Instr.slice 42 (.slice (some ⟨w.heap.size + 1, 0, none⟩) n n) (some (.int .i64 3)) none none).run Tryd.prog w' = .ok (.slice (some ⟨w.heap.size + 1, off, none⟩) m m) w' := fun w' => by
      rw [← HOF.out, ← HM.out]
      exact slice3 (w.heap.size + 1) n h3n w'
    go_wp2_with fail
    refine (joinTo T hT n (w.heap.size + 1) off m w3 HN.out h3n HOF HM HC3.out hGw J HJ).mono ?_
    rintro e w4 ⟨rfl, hb4⟩
    replace hz := zw_on hz hb4
    clear hb4 hsl HC3
    have hgk := heap_alloc_new w4 (.cells #[.int .i64 wi, .int .i64 hi, .string J] 27)
    replace hz := zw_on hz ((Below.refl w4.heap.size w4).alloc (Nat.le_refl _) (.cells #[.int .i64 wi, .int .i64 hi, .string J] 27))
    obtain ⟨X, HX⟩ : ∃ X, Hid (gtextT wi hi J = X) := ⟨_, rfl⟩
    obtain ⟨o, HO⟩ : ∃ o, Hid (gok wi hi J = o) := ⟨_, rfl⟩
    have HR0 := Lib.hid hr0
    have HR1 := Lib.hid hr1
    clear hr0 hr1
    go_wp2_with fail
    refine (implText wi hi J X o hJs HX HO _ (Lib.hid (env_on he.out hz.1).1)).mono ?_
    rintro e w5 ⟨rfl, hb5⟩
    have hgk5 := (hb5.block w4.heap.size (Array.getElem?_eq_some_iff.1 hgk).1).trans hgk
    replace hz := zw_on hz hb5
    have c0 := cell_rows2 (q := 0) (v := .int .i64 wi) hgk5 rfl
    have c1 := cell_rows2 (q := 1) (v := .int .i64 hi) hgk5 rfl
    have c2 := cell_rows2 (q := 2) (v := .string J) hgk5 rfl
    obtain ⟨⟨d0, d1, d2⟩, f0, f1, f2⟩ := zw_res hz
    clear hb5 hgk
    by_cases hok : o = true ∧ X = T
    · obtain ⟨rfl, rfl⟩ := hok
      obtain ⟨a, b, rfl, rfl, h1, h2, h3', h4, hs⟩ := sides_of HO.out
      have HGD : Hid (Good a b J X) := Lib.hid ⟨HO.out, by rw [← HX.out]; unfold gtextT; rw [if_pos HO.out]; rfl⟩
      go_wp2_with fail
      obtain ⟨hb6, hh6⟩ := zw_stores hz (.int .i64 a) (.int .i64 b) (.string J)
      exact bodyPost_ret (v := .tuple #[.agg #[.int .i64 a, .int .i64 b, .string J], .bool true]) (results_rows Tryd.results10 _ _ _ _ _ rfl rfl (load_grid2 _ _ _ rfl hh6)) rfl ⟨hb6, .inl ⟨a, b, J, HGD.out, rfl⟩⟩
    · have HNG : Hid (∀ (a b : Nat) (C : ByteArray), ¬ Good a b C T) := Lib.hid fun a b C hg => by
        obtain ⟨rfl, rfl, rfl⟩ := read_good HX0.out HX1.out (by rw [HY0.out]; exact HR0.out) (by rw [HY1.out]; exact HR1.out) HJ.out hg
        exact hok ⟨HO.out.symm.trans hg.1, by rw [← HX.out]; unfold gtextT; rw [if_pos hg.1]; exact hg.2⟩
      cases o with
      | false =>
        clear hok
        go_wp2_with fail
        obtain ⟨hb6, hh6⟩ := zw_stores hz (.int .i64 0) (.int .i64 0) (.string ⟨#[]⟩)
        exact bodyPost_ret (v := .tuple #[.agg #[.int .i64 0, .int .i64 0, .string ⟨#[]⟩], .bool false]) (results_rows Tryd.results10 _ _ _ _ _ rfl rfl (load_grid2 _ _ _ rfl hh6)) rfl ⟨hb6, .inr ⟨HNG.out, rfl⟩⟩
      | true =>
        have hxt : X ≠ T := fun e => hok ⟨rfl, e⟩
        have hx2 := bytes_ne hxt
        clear hok hxt
        go_wp2_with fail
        obtain ⟨hb6, hh6⟩ := zw_stores hz (.int .i64 0) (.int .i64 0) (.string ⟨#[]⟩)
        exact bodyPost_ret (v := .tuple #[.agg #[.int .i64 0, .int .i64 0, .string ⟨#[]⟩], .bool false]) (results_rows Tryd.results10 _ _ _ _ _ rfl rfl (load_grid2 _ _ _ rfl hh6)) rfl ⟨hb6, .inr ⟨HNG.out, rfl⟩⟩

end Go.Proofs.YtcofajganakbiaaDoor
