/-
  THE LAW FnExactReadGrid, as a card tied to the program's text: at every text the program's ReadGrid answers as its model, where the library's listed variables hold what their initialisers lay.
-/
import Derived.Test.YtcofajganakbiaaDoorImplRead
import Derived.Test.YtcofajganakbiaaDoorEqGrid
import Derived.Test.YtcofajganakbiaaDoorShaped
import Derived.Test.YtcofajganakbiaaDoorCards
import Derived.Test.YtcofajganakbiaaDoorTie
import Derived.LaidMore
import Derived.Stop.Joined
import Derived.Stop.LaidErr
import Derived.SevenTiedAt
import Derived.Lib.LaidTab
import Derived.Lay
namespace Go.Proofs.YtcofajganakbiaaDoor.fnExactReadGrid
open Go.ChangeShapes Go.WideShapes Go.ChangeAt Go.RowKit
open Go.ChangeMaps (open_string shut_string)

/-- What ReadGrid has to return. -/
def ResG (T : ByteArray) (p q : Int) (D : ByteArray) (k : Bool) : Prop :=
  (∃ a b : Nat, Good a b D T ∧ p = a ∧ q = b ∧ k = true) ∨ ((∀ (a b : Nat) (C : ByteArray), ¬ Good a b C T) ∧ p = 0 ∧ q = 0 ∧ D = ⟨#[]⟩ ∧ k = false)
theorem resG_same {T D D' : ByteArray} {p q p' q' : Int} {k k' : Bool} (h : ResG T p q D k) (h' : ResG T p' q' D' k') : p = p' ∧ q = q' ∧ D = D' ∧ k = k' := by
  rcases h with ⟨a, b, hg, rfl, rfl, rfl⟩ | ⟨hn, rfl, rfl, rfl, rfl⟩
  · rcases h' with ⟨a', b', hg', rfl, rfl, rfl⟩ | ⟨hn', rfl, rfl, rfl, rfl⟩
    · obtain ⟨rfl, rfl, rfl⟩ := good_one hg hg'
      exact ⟨rfl, rfl, rfl, rfl⟩
    · exact absurd hg (hn' _ _ _)
  · rcases h' with ⟨a', b', hg', rfl, rfl, rfl⟩ | ⟨hn', rfl, rfl, rfl, rfl⟩
    · exact absurd hg' (hn _ _ _)
    · exact ⟨rfl, rfl, rfl, rfl⟩
theorem resG_of {T : ByteArray} {w w' : World} {e : Ending} (h : ReadG T w e w') : Below w.heap.size w w' ∧ ∃ (p q : Int) (D : ByteArray) (k : Bool), e = .returned (.tuple #[.agg #[.int .i64 p, .int .i64 q, .string D], .bool k]) ∧ ResG T p q D k := by
  obtain ⟨hb, ⟨a, b, C, hg, he⟩ | ⟨hn, he⟩⟩ := h
  · exact ⟨hb, a, b, C, true, he, .inl ⟨a, b, hg, rfl, rfl, rfl⟩⟩
  · exact ⟨hb, 0, 0, ⟨#[]⟩, false, he, .inr ⟨hn, rfl, rfl, rfl, rfl⟩⟩

theorem specAny (T : ByteArray) (w : World) : Calls Tryd.prog 9 #[.string T] w (ReadG T w) := by
  by_cases h : T.size ≤ 200
  · exact specRead T h w
  · exact specRead_long T (by omega) w

set_option maxHeartbeats 400000 in
set_option maxRecDepth 10000 in
theorem walk (T : ByteArray) (hT : T.size ≤ 140737488355328) (w : World) (he : Hid (Env w)) :
    Calls Tryd.prog 4 #[.string T] w fun e w' => e = .returned (.bool true) ∧ Below w.heap.size w w' := by
  by_cases hb : (1048576 : Int) < T.size
  · go_enter Tryd.func4, Tryd.ntmps4
    go_wp2
    go_ret
    exact ⟨rfl, Below.refl _ _⟩
  · go_enter Tryd.func4, Tryd.ntmps4
    go_wp2_with fail
    refine (specAny T _).mono ?_
    intro e w1 h1
    obtain ⟨hb1, p, q, D, k, rfl, hr1⟩ := resG_of h1
    have hR := Below.refl (w1.alloc (.cells #[.int .i64 p, .int .i64 q, .string D] 27)).heap.size (w1.alloc (.cells #[.int .i64 p, .int .i64 q, .string D] 27))
    have hb1a := hb1.alloc hb1.size (.cells #[.int .i64 p, .int .i64 q, .string D] 27)
    clear h1
    go_wp2_with fail
    refine (implRead1 T (by omega) _ (Lib.hid (env_on he.out hb1a))).mono ?_
    intro e w2 h2
    obtain ⟨hb2, p', q', D', k', rfl, hr2⟩ := resG_of h2
    obtain ⟨rfl, rfl, rfl, rfl⟩ := resG_same hr1 hr2
    replace hR := chain hR hb2
    have hb2a := (hb1a.trans (hb2.mono hb1a.size))
    have hR2 := hR.alloc hR.size (.cells #[.int .i64 p, .int .i64 q, .string D] 27)
    have hb2b := hb2a.alloc hb2a.size (.cells #[.int .i64 p, .int .i64 q, .string D] 27)
    obtain ⟨c0, c1, c2⟩ := box_cells hR2
    clear h2 hb1 hb1a hb2 hR hr1 hr2 hb2a
    go_wp2_with fail
    refine (eqGridSame p q D _).mono ?_
    rintro e w3 ⟨rfl, hb3⟩
    go_wp2_with fail
    go_ret
    exact ⟨rfl, hb2b.trans (hb3.mono hb2b.size)⟩

theorem gPow : Tryd.prog.globalNamed "internal/strconv.uint64pow10" = some 3 := by kernel_rfl
theorem tPow : (Tryd.prog.globals[3]?).map (·.type) = some 98 := by kernel_rfl
theorem cPow : Tryd.prog.cellsOf 98 = 20 := by kernel_rfl
theorem c64 : Tryd.prog.cellsOf 85 = 1 := by kernel_rfl
theorem gES : Tryd.prog.globalNamed "strconv.ErrSyntax" = some 1 := by kernel_rfl
theorem tES : (Tryd.prog.globals[1]?).map (·.type) = some 56 := by kernel_rfl
theorem gER : Tryd.prog.globalNamed "strconv.ErrRange" = some 2 := by kernel_rfl
theorem tER : (Tryd.prog.globals[2]?).map (·.type) = some 56 := by kernel_rfl
theorem cES : Tryd.prog.cellsOf 111 = 1 := by kernel_rfl
theorem cS : Tryd.prog.cellsOf 9 = 1 := by kernel_rfl
theorem star : "*" ++ "errors.errorString" = "*errors.errorString" := by decide
theorem rowES (u : TypeId) (h : Tryd.prog.typeName? 3 u = some "*errors.errorString") : u = 109 :=
  typeName_ptr_named (nm := "errors.errorString") (by rw [star]; kernel_rfl) (by kernel_rfl) (by decide) u (by rw [star]; exact h)

/-- What the row's list gives. -/
theorem of_laid {W : World} (h : laidMetH Tryd.prog Rows.fnExactReadGridRow.laid W) : Lib.TabIs Tryd.prog W "internal/strconv.uint64pow10" .u64 Lib.pow10Tab ∧
    (∃ ev, W.cell? ⟨1, 0, none⟩ = some ev ∧ ∃ t p, ev = .iface t p) ∧ (∃ ev, W.cell? ⟨2, 0, none⟩ = some ev ∧ ∃ t p, ev = .iface t p) := by
  have hL : laidMet Tryd.prog Rows.fnExactReadGridRow.laid W := h
  refine ⟨Lib.tabIs_of_head (zs := Lib.pow10Tab) (rest := (Rows.fnExactReadGridRow.laid).drop 3) gPow tPow Tryd.underlying98 Tryd.underlying85 c64 cPow hL.tail.tail, ?_, ?_⟩
  · obtain ⟨a0, s0, hv0, -, -, -⟩ := laid_sentinel hL.tail.tail.tail.tail.tail gES tES Tryd.underlying56 rowES Tryd.underlying109 Tryd.underlying111 rfl rfl Tryd.underlying9 cES cS
    exact ⟨_, by have h0 := World.var?_cell gES hv0 0; simpa using h0, _, _, rfl⟩
  · obtain ⟨a0, s0, hv0, -, -, -⟩ := laid_sentinel hL.tail.tail.tail.tail gER tER Tryd.underlying56 rowES Tryd.underlying109 Tryd.underlying111 rfl rfl Tryd.underlying9 cES cS
    exact ⟨_, by have h0 := World.var?_cell gER hv0 0; simpa using h0, _, _, rfl⟩

theorem door_met (os : Os) (args : Array Value) : laidMetH Tryd.prog Rows.fnExactReadGridRow.laid ((World.laidAll Tryd.prog os Rows.fnExactReadGridRow.laid).forCall (fun _ _ => 0) ⟨#[], args, []⟩).memory := by
  have h : laidMet Tryd.prog Rows.fnExactReadGridRow.laid ((World.laidAll Tryd.prog os Rows.fnExactReadGridRow.laid).forCall (fun _ _ => 0) ⟨#[], args, []⟩).memory := laidMet_laidAll _ (by kernel_rfl) (by kernel_rfl)
  exact h

theorem walkL (T : ByteArray) (_w0 : T.size ≤ maxLen) (s0 : T.size ≤ 140737488355328) (w : World) (hL : laidMetH Tryd.prog Rows.fnExactReadGridRow.laid w) (hsh : w.ShapedOpen Tryd.prog) :
    Calls Tryd.prog 4 #[.string T] w fun e w' => e = .returned (.bool true) ∧ Below w.heap.size w w' := by
  obtain ⟨ht, h1, h2⟩ := of_laid hL
  have hm : ∃ m : Int, w.cell? ⟨0, 0, none⟩ = some (.int .i64 m) :=
    Go.Proofs.cell_of_shapedOpen_int (zero := #[.int .i64 0]) (t := 3) hsh (of_decide_eq_true (by kernel_rfl)) (by kernel_rfl) rfl (by kernel_rfl) (by kernel_rfl) Tryd.underlying3
  exact walk T s0 w (Lib.hid ⟨ht, h1, h2, hm⟩)
-- LIFT
set_option maxRecDepth 100000 in
theorem lifted (os : Os) (started : os.Started) (H : Type) (enc : TypeId × Value → H) :
    ReturnsInHanded {} Tryd.checked os 4 .any (fun w args => (Rows.fnExactReadGridSpec.pre enc Tryd.prog Tryd.f4 [] false w args ∧ laidMetH Tryd.prog Rows.fnExactReadGridRow.laid w) ∧ sizedMet enc Tryd.prog Tryd.f4 (OpenSpec.ofChange Rows.fnExactReadGridSpec) false w args)
      (Rows.fnExactReadGridSpec.post enc Tryd.prog Tryd.f4 false true false false) := by
  refine returnsInHanded_shaped_and (C := Tryd.checked) (X := fun w _ => laidMetH Tryd.prog Rows.fnExactReadGridRow.laid w) (fun _ _ _ hh h => h.of_heap hh) own started (by kernel_rfl) Tryd.func4
    (ChangeSpec.witness_shaped (enc := enc) (C := Tryd.checked) (os := os) (X := fun w _ => laidMetH Tryd.prog Rows.fnExactReadGridRow.laid w) false (World.laidAll Tryd.prog os Rows.fnExactReadGridRow.laid) #[.string ByteArray.empty] 8 (World.laidAll_os _ _ _) (World.shaped_of_ZipB (by kernel_rfl) (by kernel_rfl)) (by kernel_rfl) (by kernel_rfl) (by kernel_rfl) (door_met os _)) ?_
  intro W base args ds gs before hval0 hW _ hsz0 hL hsh _
  have hsz : (DataW.weightsEach Tryd.prog (Tryd.f4.params.toList ++ Rows.fnExactReadGridSpec.plain.varTypes Tryd.prog) (ds ++ gs)).all (· ≤ reachBytes) = true := hsz0
  clear hsz0
  have hval : ∀ (j : Nat) t v, Tryd.f4.params[j]? = some t → args[j]? = some v → Value.okWide Tryd.prog W .any base t v := hval0
  have hW' := hW
  obtain ⟨p, q, hA0, hV, rfl, hfz, hnd⟩ := hW
  have hA : DataW.TrodAll enc Tryd.prog W 0 (fun _ => true) true Tryd.f4.params.toList args.toList ds p := hA0
  rw [Tryd.params4] at hA hval hsz
  obtain ⟨v0, vs0, d0, ds0, p0, q0, hargs, rfl, rfl, h0, r0⟩ := trodAll_cons hA
  obtain ⟨rfl, rfl, rfl⟩ := trodAll_nil r0
  obtain rfl : args = #[v0] := by cases args; simp_all
  obtain ⟨rfl, rfl⟩ := trodVars_none hV
  obtain ⟨a0, rfl, rfl, rfl, w0⟩ := open_string Tryd.underlying9 (hval 0 9 v0 rfl rfl) h0
  have s0 : a0.size ≤ 140737488355328 := by
    have h1 := sized_string hsz (j := 0) (t := 9) rfl rfl
    have h2 := reachBytes_lt
    have e1 : a0.size = a0.data.size := rfl
    have e2 : a0.data.toList.length = a0.data.size := Array.length_toList
    have e3 : (2 : Nat) ^ 47 = 140737488355328 := by decide
    omega
  clear hA0 hval0 hsz
  simp only [List.append_nil] at hW'
  refine (walkL a0 w0 s0 W hL hsh).mono fun e W' ⟨he, hg⟩ => ?_
  subst he
  exact ⟨_, rfl, post_of_below (pa := []) (pv := []) hW' (fun _ _ _ => (trodAll_cons_mk (shut_bool Tryd.underlying4 _) trodAll_mk0)) (fun sp _ => (trodAll_cons_mk (shut_string Tryd.underlying9 w0) trodAll_mk0)) (fun _ _ => rfl) rfl
    hg (ok_one (by kernel_rfl) rfl (okWide_bool_mk Tryd.underlying4 _))⟩

theorem said : Rows.FnExactReadGridSaid :=
  OpenClaim.holds_of_wide 4 Tryd.f4 rfl rfl rfl rfl rfl rfl rfl ⟨rfl, rfl, rfl, rfl, rfl⟩ rfl rfl rfl rfl rfl (by kernel_rfl) Tryd.func4 (by kernel_rfl)
    (of_decide_eq_true (by kernel_rfl)) (by unfold Func.isWrapper; first | (rw [if_pos (by decide +kernel)]; kernel_rfl) | (rw [if_neg (by decide +kernel)]; exact ⟨rfl, rfl⟩))
    (fun os started H enc _ => lifted os started H enc)

theorem plain (f : FuncId) (fn : Func) (hf : Tryd.pinned.checked.prog.funcNamed "loop.example/g00961/laws.FnExactReadGrid" = some f) (hfn : Tryd.pinned.checked.prog.funcs[f]? = some fn) :
    true = Tryd.pinned.checked.prog.looks [] ∧ ∀ (j : Nat) t, fn.params[j]? = some t → Tryd.pinned.checked.prog.wantsStandIn t = false := by
  obtain rfl : f = 4 := Option.some.inj ((show Tryd.prog.funcNamed "loop.example/g00961/laws.FnExactReadGrid" = some 4 by kernel_rfl).symm.trans hf) |>.symm
  obtain rfl : fn = Tryd.f4 := (Option.some.inj (Tryd.func4.symm.trans hfn)).symm
  refine ⟨by kernel_rfl, fun j t ht => ?_⟩
  rw [Tryd.params4] at ht
  have hm : t ∈ [9] := by simpa using Array.mem_of_getElem? ht
  have hall : ([9].all fun u => !Tryd.prog.wantsStandIn u) = true := by kernel_rfl
  exact (show Tryd.prog.wantsStandIn t = false by simpa using List.all_eq_true.1 hall t hm)

theorem proved : Rows.FnExactReadGridCardSaid :=
  Claim7.holds_tied_plain_at .later [] _ _ _ _ said (fun _ h => by cases h) (by kernel_rfl) (fun _ h => by cases h) fnExactReadGrid_row_tie rfl ⟨rfl, rfl⟩ (by kernel_rfl) rfl plain (by kernel_rfl)

end Go.Proofs.YtcofajganakbiaaDoor.fnExactReadGrid
