/-
  THE LAW FnExactReadDecimal, as a card tied to the program's text: at every string the program's ReadDecimal answers as its model, where the library's listed variables hold what their initialisers lay.
-/
import Derived.Test.YtklbgnodifnbiaaDoorReadNum
import Derived.Test.YtklbgnodifnbiaaDoorShelf
import Derived.Test.YtklbgnodifnbiaaDoorCards
import Derived.Test.YtklbgnodifnbiaaDoorTie
import Derived.LaidMore
import Derived.Stop.Joined
import Derived.Stop.LaidErr
import Derived.SevenTiedAt
import Derived.Lib.LaidTab
import Derived.Lib.AppendIntMem
import Derived.Lib.BufferWrite
namespace Go.Proofs.YtklbgnodifnbiaaDoor.fnExactReadDecimal
open Go.ChangeShapes Go.WideShapes Go.ChangeAt Go.RowKit
open Go.ChangeMaps (open_string shut_string)

theorem specRead_long (s : ByteArray) (w : World) (h : 10 < s.size) : Calls Tryd.prog 7 #[.string s] w (ReadBack s w) := by
  have h1 : (10 : Int) < s.size := by omega
  go_enter Tryd.func7, Tryd.ntmps7
  go_wp2
  go_ret2
  exact ⟨0, false, rfl, no_long h, Below.refl _ _⟩

theorem pow_bd {n i : Nat} (h : n < 10 ^ i) (hi : i ≤ 10) : n < 10000000000 := by
  have := Nat.pow_le_pow_right (n := 10) (by omega) hi
  omega

theorem parse_step {s : ByteArray} {i n : Nat} (hi : i < s.size) (h : Lib.parseUint10 0 (s.data.toList.take i) = .ok n) (h1 : 48 ≤ byteAt s i) (h2 : byteAt s i ≤ 57) (hn : n < 10000000000) :
    Lib.parseUint10 0 (s.data.toList.take (i + 1)) = .ok ((10 * (n : Int) + byteAt s i - 48).toNat) := by
  rw [byteAt_eq s i hi] at h1 h2 ⊢
  have e : s.data.toList.take (i + 1) = s.data.toList.take i ++ [s[i]] := by
    rw [List.take_succ_eq_append_getElem (by simpa using hi)]; rfl
  rw [e, parse_append _ _ _ _ h, parse_digit (by omega) (by omega) (by omega), Lib.parseUint10]
  congr 1
  omega
theorem parse_stop {s : ByteArray} {i n : Nat} (hi : i < s.size) (h : Lib.parseUint10 0 (s.data.toList.take i) = .ok n) (h1 : byteAt s i < 48 ∨ 57 < byteAt s i) (q : Nat) : Lib.parseUint10 0 s.data.toList ≠ .ok q := by
  rw [byteAt_eq s i hi] at h1
  have e : s.data.toList = s.data.toList.take i ++ (s[i] :: s.data.toList.drop (i + 1)) := by
    have hl : i < s.data.toList.length := by simpa using hi
    have e2 := List.drop_eq_getElem_cons hl
    have e3 : s.data.toList[i] = s[i] := rfl
    rw [e3] at e2
    rw [← e2, List.take_append_drop]
  rw [e, parse_append _ _ _ _ h, parse_bad (by omega)]
  intro h
  cases h

set_option maxHeartbeats 1000000 in
theorem specRead (s : ByteArray) (w : World) (hs : ¬ 10 < s.size) : Calls Tryd.prog 7 #[.string s] w (ReadBack s w) := by
  have hs1 : ¬ (10 : Int) < s.size := by omega
  go_enter Tryd.func7, Tryd.ntmps7
  go_wp2
  go_loop [4, 5] (fun a i => ∃ (k n : Nat), k ≤ s.size ∧ n < 10000000000 ∧ Hid (n < 10 ^ k) ∧ Hid (Lib.parseUint10 0 (s.data.toList.take k) = .ok n) ∧ a = .int .i64 n ∧ i = .int .i64 k) (fun _ i => s.size - (intOf i).toNat)
  case atStart => exact ⟨0, 0, Nat.zero_le _, by omega, Lib.hid (by decide), Lib.hid (by simp [Lib.parseUint10]), rfl, rfl⟩
  case round =>
    obtain ⟨k, n, hk, hn, HB, HP, rfl, rfl⟩ := hrel
    by_cases hlt : k < s.size
    · have hb1 := byteAt_bd s k
      have hx1 := run_at (P := Tryd.prog) 9 s .i64 k k rfl hlt Tryd.underlying9
      by_cases c1 : byteAt s k < 48
      · have HN := Lib.hid (no_parse (parse_stop hlt HP.out (.inl c1)))
        clear HP HB
        go_wp2
        go_ret2
        exact ⟨0, false, rfl, HN.out, Below.refl _ _⟩
      · by_cases c2 : 57 < byteAt s k
        · have HN := Lib.hid (no_parse (parse_stop hlt HP.out (.inr c2)))
          clear HP HB
          go_wp2
          go_ret2
          exact ⟨0, false, rfl, HN.out, Below.refl _ _⟩
        · have HP2 := Lib.hid (parse_step hlt HP.out (by omega) (by omega) hn)
          have HB2 : Hid ((10 * (n : Int) + byteAt s k - 48).toNat < 10 ^ (k + 1)) := Lib.hid (by have := HB.out; rw [Nat.pow_succ]; omega)
          have hn2 := pow_bd HB2.out (by omega)
          clear HP HB
          go_wp2
          go_round
          case rel => exact ⟨k + 1, _, by omega, hn2, HB2, HP2, by go_num, by go_num⟩
          case measure => simp [intOf]; omega
    · obtain rfl : k = s.size := by omega
      have HP2 : Hid (Lib.parseUint10 0 s.data.toList = .ok n) := Lib.hid (by have := HP.out; rwa [List.take_of_length_le (by simp)] at this)
      clear HP HB
      by_cases c1 : 1000000000 < n
      · have HN := Lib.hid (no_big HP2.out c1)
        have c2 : (1000000000 : Int) < n := by omega
        clear HP2
        go_wp2
        go_ret2
        exact ⟨0, false, rfl, HN.out, Below.refl _ _⟩
      · have c2 : ¬ (1000000000 : Int) < n := by omega
        by_cases c3 : s = ⟨(Lib.itoa (n : Int)).toArray⟩
        · have HN := Lib.hid (yes_same (q := (n : Int)) (by omega) (by omega) c3)
          have HC := Lib.hid c3
          clear HP2 c3
          go_wp2_with (go_at_call 5; (with_reducible refine (specDecimal _ _ (Lib.hid (by omega)) (Lib.hid (by omega))).mono ?_); rintro e w1 ⟨rfl, hb1⟩; rw [← HC.out])
          go_ret2
          exact ⟨_, true, rfl, HN.out, hb1⟩
        · have HN := Lib.hid (no_same HP2.out c3)
          have hne := text_ne c3
          clear HP2 c3
          go_wp2_with (go_at_call 5; (with_reducible refine (specDecimal _ _ (Lib.hid (by omega)) (Lib.hid (by omega))).mono ?_); rintro e w1 ⟨rfl, hb1⟩)
          go_ret2
          exact ⟨0, false, rfl, HN.out, hb1⟩

/-- How Atoi ends, and what that says of the number: nothing of memory that was there has turned. -/
def AtoiBack (s : ByteArray) (w : World) (e : Ending) (w' : World) : Prop :=
  Below w.heap.size w w' ∧ ((∃ v, e = .returned (.tuple #[.int .i64 v, .nilIface]) ∧ Lib.atoiAll s.data.toList = .ok v) ∨
    (∃ v t p, e = .returned (.tuple #[.int .i64 v, .iface t p]) ∧ ∀ q, Lib.atoiAll s.data.toList ≠ .ok q))

theorem below_bytes (w : World) (T : TypeId) (t : ByteArray) : Below w.heap.size w (Lib.bytesWorld w T t) := by
  unfold Lib.bytesWorld
  exact Lib.below_freeze ((Below.refl _ w).drew.alloc (Nat.le_refl _) _) (p := ⟨w.heap.size, (Lib.bytesCells w T t).size, none⟩) (Nat.le_refl _) _

theorem atoi (s : ByteArray) (hlim : s.size ≤ 140737488355328) (ev1 ev2 : Value) (w : World) (h1 : w.cell? ⟨0, 0, none⟩ = some ev1) (hev1 : ∃ t p, ev1 = .iface t p) (h2 : w.cell? ⟨1, 0, none⟩ = some ev2) (hev2 : ∃ t p, ev2 = .iface t p) :
    Calls Tryd.prog 11 #[.string s] w (AtoiBack s w) := by
  cases h : Lib.atoiAll s.data.toList
  · rename_i v
    refine (Any.strconv_Atoi_ok Tryd.laysC172 s (by omega) v h w).mono fun e w' hw => ?_
    obtain ⟨he, hw⟩ := hw
    refine ⟨?_, .inl ⟨v, he, h⟩⟩
    rcases hw with rfl | ⟨t, rfl⟩
    · exact Below.refl _ _
    · exact below_bytes w _ t
  · refine (Any.strconv_Atoi_syntax Tryd.laysC172 s (by omega) h ev1 w h1 (.inr hev1)).mono fun e w' hw => ?_
    obtain ⟨N, he, _, _, hb⟩ := hw
    exact ⟨hb, .inr ⟨_, _, _, he, fun q hq => by rw [h] at hq; cases hq⟩⟩
  · refine (Any.strconv_Atoi_range Tryd.laysC172 s (by omega) h ev2 w h2 (.inr hev2)).mono fun e w' hw => ?_
    obtain ⟨N, he, _, _, hb⟩ := hw
    exact ⟨hb, .inr ⟨_, _, _, he, fun q hq => by rw [h] at hq; cases hq⟩⟩

theorem strconvItoa (n : Int) (h0 : Hid (-9223372036854775808 ≤ n)) (h1 : Hid (n ≤ 9223372036854775807)) (w : World) (ht : Lib.TabIs Tryd.prog w "internal/strconv.uint64pow10" .u64 Lib.pow10Tab) :
    Calls Tryd.prog 10 #[.int .i64 n] w (Made w (.string ⟨(Lib.itoa n).toArray⟩)) :=
  (Any.strconv_Itoa Tryd.laysM171 n h0.out h1.out w ht).mono fun e w' ⟨he, k, os, hw⟩ => ⟨he, by rw [hw]; exact Lib.below_grow _ w (Nat.le_refl _) k os⟩

theorem implDecimal (n : Int) (h0 : Hid (-9223372036854775808 ≤ n)) (h1 : Hid (n ≤ 9223372036854775807)) (w : World) (ht : Hid (Lib.TabIs Tryd.prog w "internal/strconv.uint64pow10" .u64 Lib.pow10Tab)) :
    Calls Tryd.prog 6 #[.int .i64 n] w (Made w (.string ⟨(Lib.itoa n).toArray⟩)) := by
  go_enter Tryd.func6, Tryd.ntmps6
  go_wp2_with (go_at_call 10; (with_reducible refine (strconvItoa _ h0 h1 _ ht.out).mono ?_); rintro e w1 ⟨rfl, hb1⟩)
  go_ret
  exact ⟨rfl, hb1⟩

set_option maxHeartbeats 1000000 in
theorem implRead (s : ByteArray) (hlim : s.size ≤ 140737488355328) (ev1 ev2 : Value) (w : World) (h1 : Hid (w.cell? ⟨0, 0, none⟩ = some ev1)) (hev1 : ∃ t p, ev1 = .iface t p) (h2 : Hid (w.cell? ⟨1, 0, none⟩ = some ev2)) (hev2 : ∃ t p, ev2 = .iface t p)
    (ht : Hid (Lib.TabIs Tryd.prog w "internal/strconv.uint64pow10" .u64 Lib.pow10Tab)) :
    Calls Tryd.prog 8 #[.string s] w (ReadBack s w) := by
  go_enter Tryd.func8, Tryd.ntmps8
  go_wp2_with fail
  refine (atoi s hlim ev1 ev2 _ h1.out hev1 h2.out hev2).mono ?_
  rintro e w1 ⟨hb1, ⟨v, rfl, ha⟩ | ⟨v, t, p, rfl, ha⟩⟩
  · have HA := Lib.hid ha
    clear ha
    have ht1 := Lib.hid (Lib.tabBelow_of_tabIs ht.out _ hb1)
    by_cases c1 : v < 0
    · have HN := Lib.hid (no_atoi (s := s) (fun m hm e => by rw [HA.out] at e; injection e with e; omega))
      go_wp2
      go_ret2
      exact ⟨0, false, rfl, HN.out, hb1⟩
    · by_cases c2 : 1000000000 < v
      · have HN := Lib.hid (no_atoi (s := s) (fun m hm e => by rw [HA.out] at e; injection e with e; omega))
        go_wp2
        go_ret2
        exact ⟨0, false, rfl, HN.out, hb1⟩
      · by_cases c3 : s = ⟨(Lib.itoa v).toArray⟩
        · have HN := Lib.hid (yes_same (q := v) (by omega) (by omega) c3)
          have HC := Lib.hid c3
          clear c3
          go_wp2_with (go_at_call 6; (with_reducible refine (implDecimal _ (Lib.hid (by omega)) (Lib.hid (by omega)) _ ht1).mono ?_); rintro e w2 ⟨rfl, hb2⟩; rw [← HC.out])
          go_ret2
          exact ⟨_, true, rfl, HN.out, hb1.trans (hb2.mono hb1.size)⟩
        · have HN := Lib.hid (no_same_atoi HA.out c3)
          have hne := text_ne c3
          clear c3
          go_wp2_with (go_at_call 6; (with_reducible refine (implDecimal _ (Lib.hid (by omega)) (Lib.hid (by omega)) _ ht1).mono ?_); rintro e w2 ⟨rfl, hb2⟩)
          go_ret2
          exact ⟨0, false, rfl, HN.out, hb1.trans (hb2.mono hb1.size)⟩
  · have HN := Lib.hid (no_atoi (s := s) (fun m _ => ha _))
    clear ha
    go_wp2
    all_goals (go_ret2; exact ⟨0, false, rfl, HN.out, hb1⟩)

theorem specAny (s : ByteArray) (w : World) : Calls Tryd.prog 7 #[.string s] w (ReadBack s w) := by
  by_cases h : 10 < s.size
  · exact specRead_long s w h
  · exact specRead s w h

theorem gPow : Tryd.prog.globalNamed "internal/strconv.uint64pow10" = some 2 := by kernel_rfl
theorem tPow : (Tryd.prog.globals[2]?).map (·.type) = some 56 := by kernel_rfl
theorem cPow : Tryd.prog.cellsOf 56 = 20 := by kernel_rfl
theorem c64 : Tryd.prog.cellsOf 42 = 1 := by kernel_rfl
theorem gES : Tryd.prog.globalNamed "strconv.ErrSyntax" = some 0 := by kernel_rfl
theorem tES : (Tryd.prog.globals[0]?).map (·.type) = some 30 := by kernel_rfl
theorem gER : Tryd.prog.globalNamed "strconv.ErrRange" = some 1 := by kernel_rfl
theorem tER : (Tryd.prog.globals[1]?).map (·.type) = some 30 := by kernel_rfl
theorem cES : Tryd.prog.cellsOf 64 = 1 := by kernel_rfl
theorem cS : Tryd.prog.cellsOf 9 = 1 := by kernel_rfl
theorem star : "*" ++ "errors.errorString" = "*errors.errorString" := by decide
theorem rowES (u : TypeId) (h : Tryd.prog.typeName? 3 u = some "*errors.errorString") : u = 62 :=
  typeName_ptr_named (nm := "errors.errorString") (by rw [star]; kernel_rfl) (by kernel_rfl) (by decide) u (by rw [star]; exact h)

/-- What the row's list gives. -/
theorem of_laid {W : World} (h : laidMetH Tryd.prog Rows.fnExactReadDecimalRow.laid W) : Lib.TabIs Tryd.prog W "internal/strconv.uint64pow10" .u64 Lib.pow10Tab ∧
    (∃ ev, W.cell? ⟨0, 0, none⟩ = some ev ∧ ∃ t p, ev = .iface t p) ∧ (∃ ev, W.cell? ⟨1, 0, none⟩ = some ev ∧ ∃ t p, ev = .iface t p) := by
  have hL : laidMet Tryd.prog Rows.fnExactReadDecimalRow.laid W := h
  refine ⟨Lib.tabIs_of_head (zs := Lib.pow10Tab) (rest := (Rows.fnExactReadDecimalRow.laid).drop 3) gPow tPow Tryd.underlying56 Tryd.underlying42 c64 cPow hL.tail.tail, ?_, ?_⟩
  · obtain ⟨a0, s0, hv0, -, -, -⟩ := laid_sentinel hL.tail.tail.tail.tail gES tES Tryd.underlying30 rowES Tryd.underlying62 Tryd.underlying64 rfl rfl Tryd.underlying9 cES cS
    exact ⟨_, by have h0 := World.var?_cell gES hv0 0; simpa using h0, _, _, rfl⟩
  · obtain ⟨a0, s0, hv0, -, -, -⟩ := laid_sentinel hL.tail.tail.tail gER tER Tryd.underlying30 rowES Tryd.underlying62 Tryd.underlying64 rfl rfl Tryd.underlying9 cES cS
    exact ⟨_, by have h0 := World.var?_cell gER hv0 0; simpa using h0, _, _, rfl⟩

theorem door_met (os : Os) (args : Array Value) : laidMetH Tryd.prog Rows.fnExactReadDecimalRow.laid ((World.doorLaid Tryd.prog 400 os).forCall (fun _ _ => 0) ⟨#[], args, []⟩).memory :=
  laidMetH_of_parts3 (fuel := 8) (laidMet_of_run' 8 (by kernel_rfl) (by kernel_rfl)) (by kernel_rfl) (by kernel_rfl)

theorem walkL (s : ByteArray) (_w0 : s.size ≤ maxLen) (s0 : s.size ≤ 140737488355328) (w : World) (hL : laidMetH Tryd.prog Rows.fnExactReadDecimalRow.laid w) :
    Calls Tryd.prog 4 #[.string s] w fun e w' => e = .returned (.bool true) ∧ Below w.heap.size w w' := by
  obtain ⟨ht, ⟨ev1, h1, hev1⟩, ⟨ev2, h2, hev2⟩⟩ := of_laid hL
  have HT := Lib.hid ht
  have H1 := Lib.hid h1
  have H2 := Lib.hid h2
  clear ht h1 h2 hL
  by_cases hb : (1048576 : Int) < s.size
  · go_enter Tryd.func4, Tryd.ntmps4
    go_wp2
    go_ret
    exact ⟨rfl, Below.refl _ _⟩
  · go_enter Tryd.func4, Tryd.ntmps4
    go_wp2_with fail
    refine (specAny s _).mono ?_
    rintro e w1 ⟨n, b, rfl, hr, hb1⟩
    have HT1 := Lib.hid (Lib.tabBelow_of_tabIs HT.out _ hb1)
    have H11 : Hid (w1.cell? ⟨0, 0, none⟩ = some ev1) := Lib.hid ((hb1.cell (p := ⟨0, 0, none⟩) (World.block_lt_of_cell? w _ H1.out)).trans H1.out)
    have H21 : Hid (w1.cell? ⟨1, 0, none⟩ = some ev2) := Lib.hid ((hb1.cell (p := ⟨1, 0, none⟩) (World.block_lt_of_cell? w _ H2.out)).trans H2.out)
    have HR := Lib.hid hr
    clear hr
    go_wp2_with fail
    refine (implRead s s0 ev1 ev2 _ H11 hev1 H21 hev2 HT1).mono ?_
    rintro e w2 ⟨n', b', rfl, hr', hb2⟩
    obtain ⟨rfl, rfl⟩ := readIs_same HR.out hr'
    clear hr'
    go_wp2
    go_ret
    exact ⟨rfl, hb1.trans (hb2.mono hb1.size)⟩
-- LIFT
set_option maxRecDepth 100000 in
theorem lifted (os : Os) (started : os.Started) (H : Type) (enc : TypeId × Value → H) :
    ReturnsInHanded {} Tryd.checked os 4 .any (fun w args => (Rows.fnExactReadDecimalSpec.pre enc Tryd.prog Tryd.f4 [] false w args ∧ laidMetH Tryd.prog Rows.fnExactReadDecimalRow.laid w) ∧ sizedMet enc Tryd.prog Tryd.f4 (OpenSpec.ofChange Rows.fnExactReadDecimalSpec) false w args)
      (Rows.fnExactReadDecimalSpec.post enc Tryd.prog Tryd.f4 false true false false) := by
  refine returnsInHanded_of_change_and (C := Tryd.checked) (X := fun w _ => laidMetH Tryd.prog Rows.fnExactReadDecimalRow.laid w) (fun _ _ _ hh h => h.of_heap hh) own started (by kernel_rfl) Tryd.func4
    (ChangeSpec.witness_shaped (enc := enc) (C := Tryd.checked) (os := os) (X := fun w _ => laidMetH Tryd.prog Rows.fnExactReadDecimalRow.laid w) false (World.doorLaid Tryd.prog 400 os) #[.string ByteArray.empty] 8 rfl (World.shaped_of_RefB (by kernel_rfl) (by kernel_rfl)) (by kernel_rfl) (by kernel_rfl) (by kernel_rfl) (door_met os _)) ?_
  intro W base args ds gs before hval0 hW _ hsz0 hL _
  have hsz : (DataW.weightsEach Tryd.prog (Tryd.f4.params.toList ++ Rows.fnExactReadDecimalSpec.plain.varTypes Tryd.prog) (ds ++ gs)).all (· ≤ reachBytes) = true := hsz0
  clear hsz0
  have hval : ∀ (j : Nat) t v, Tryd.f4.params[j]? = some t → args[j]? = some v → Value.okWide Tryd.prog W .any base t v := hval0
  have hW' := hW
  obtain ⟨p, q, hA0, hV, rfl, hfz, hnd⟩ := hW
  have hA : DataW.TrodAll enc Tryd.prog W 0 (fun _ => true) true Tryd.f4.params.toList args.toList ds p := hA0
  rw [Tryd.params4] at hA hval hsz
  obtain ⟨v0, vs0, d0, ds0, p0, q0, hargs, rfl, rfl, h0, r0⟩ := trodAll_cons hA
  obtain ⟨rfl, rfl, rfl⟩ := trodAll_nil r0
  obtain rfl : args = #[v0] := by cases args; simp_all
  obtain ⟨rfl, rfl⟩ := trodVars_none hV
  obtain ⟨a0, rfl, rfl, rfl, w0⟩ := open_string Tryd.underlying9 (hval 0 9 v0 rfl rfl) h0
  have s0 : a0.size ≤ 140737488355328 := by
    have h1 := sized_string hsz (j := 0) (t := 9) rfl rfl
    have h2 := reachBytes_lt
    have e1 : a0.size = a0.data.size := rfl
    have e2 : a0.data.toList.length = a0.data.size := Array.length_toList
    have e3 : (2 : Nat) ^ 47 = 140737488355328 := by decide
    omega
  clear hA0 hval0 hsz
  simp only [List.append_nil] at hW'
  refine (walkL a0 w0 s0 W hL).mono fun e W' ⟨he, hg⟩ => ?_
  subst he
  exact ⟨_, rfl, post_of_below (pa := []) (pv := []) hW' (fun _ _ _ => (trodAll_cons_mk (shut_bool Tryd.underlying4 _) trodAll_mk0)) (fun sp _ => (trodAll_cons_mk (shut_string Tryd.underlying9 w0) trodAll_mk0)) (fun _ _ => rfl) rfl
    hg (ok_one (by kernel_rfl) rfl (okWide_bool_mk Tryd.underlying4 _))⟩

theorem said : Rows.FnExactReadDecimalSaid :=
  OpenClaim.holds_of_wide 4 Tryd.f4 rfl rfl rfl rfl rfl rfl rfl ⟨rfl, rfl, rfl, rfl, rfl⟩ rfl rfl rfl rfl rfl (by kernel_rfl) Tryd.func4 (by kernel_rfl)
    (of_decide_eq_true (by kernel_rfl)) (by unfold Func.isWrapper; first | (rw [if_pos (by decide +kernel)]; kernel_rfl) | (rw [if_neg (by decide +kernel)]; exact ⟨rfl, rfl⟩))
    (fun os started H enc _ => lifted os started H enc)

theorem plain (f : FuncId) (fn : Func) (hf : Tryd.pinned.checked.prog.funcNamed "loop.example/g00961/laws.FnExactReadDecimal" = some f) (hfn : Tryd.pinned.checked.prog.funcs[f]? = some fn) :
    true = Tryd.pinned.checked.prog.looks [] ∧ ∀ (j : Nat) t, fn.params[j]? = some t → Tryd.pinned.checked.prog.wantsStandIn t = false := by
  obtain rfl : f = 4 := Option.some.inj ((show Tryd.prog.funcNamed "loop.example/g00961/laws.FnExactReadDecimal" = some 4 by kernel_rfl).symm.trans hf) |>.symm
  obtain rfl : fn = Tryd.f4 := (Option.some.inj (Tryd.func4.symm.trans hfn)).symm
  refine ⟨by kernel_rfl, fun j t ht => ?_⟩
  rw [Tryd.params4] at ht
  have hm : t ∈ [9] := by simpa using Array.mem_of_getElem? ht
  have hall : ([9].all fun u => !Tryd.prog.wantsStandIn u) = true := by kernel_rfl
  exact (show Tryd.prog.wantsStandIn t = false by simpa using List.all_eq_true.1 hall t hm)

theorem proved : Rows.FnExactReadDecimalCardSaid :=
  Claim7.holds_tied_plain_at .later [] _ _ _ _ said (fun _ h => by cases h) (by kernel_rfl) (fun _ h => by cases h) fnExactReadDecimal_row_tie rfl ⟨rfl, rfl⟩ (by kernel_rfl) rfl plain (by kernel_rfl)

end Go.Proofs.YtklbgnodifnbiaaDoor.fnExactReadDecimal
