/-
  CONTRACTS for the law FnExactPartsOf: what PartsOf and its model return and leave of memory.
-/
import Derived.Test.YtklbgnodifnbiaaBase
import Derived.Lib.UnsafeStr
import Derived.Lib.Strings
import Derived.Lib.Walk
import Derived.Lib.BufferWrite
import Derived.Laws.MakeOwn
namespace Go.Proofs.Ytklbgnodifnbiaa
open Go.ChangeShapes Go.WideShapes Go.ChangeAt Go.RowKit


set_option maxHeartbeats 1000000 in
/-- Clone gives the same bytes back; of what was there nothing has turned. -/
theorem liteClone (s : ByteArray) (w : World) (hlim : s.size ≤ 281474976710656) :
    Calls Try.prog 26 #[.string s] w fun e w' => e = .returned (.string s) ∧ Below w.heap.size w w' := by
  by_cases h0 : s.size = 0
  · have hs : s = ⟨#[]⟩ := by
      apply ByteArray.ext
      exact Array.eq_empty_of_size_eq_zero h0
    subst hs
    go_enter Try.func26, Try.ntmps26
    go_wp2
    go_ret
    exact ⟨rfl, Below.refl _ _⟩
  · obtain ⟨i0, hi, hz0, hz1, hz2⟩ := info_parts Try.info5
    have hinfo : (Try.prog.info? 5).map (·.size) = some 1 := by rw [hi]; simp [hz1]
    have hco : Try.prog.cellsOf 5 = 1 := by simp [Program.cellsOf, hi, hz1]
    obtain ⟨M, hM⟩ : ∃ M, M = madeCells (Value.int .u8 0).cells (((s.size : Nat) : Int).toNat * i0.size) := ⟨_, rfl⟩
    have hMs : M.size = s.size := by rw [hM, size_madeCells, hz1]; simp
    have hmk : ∀ W : World, (Instr.makeSlice 32 (.int .i64 (s.size : Int)) (.int .i64 (s.size : Int))).run Try.prog W = .ok (.slice (some ⟨W.heap.size, 0, none⟩) s.size s.size) (W.alloc (.cells M 5)) := fun W => by
      have h := run_make (P := Try.prog) W 32 5 i0 (.int .u8 0) Try.underlying32 hi hz0 .i64 .i64 (s.size : Int) (s.size : Int) (by omega) (by omega) (by rw [hz2]; omega) (by omega)
      rw [← hM] at h
      simpa using h
    clear hM
    have hcp := Lib.run_copy_row_string (P := Try.prog) (w.alloc (.cells M 5)) 32 9 3 5 w.heap.size 0 s.size s.size s M 5 Try.underlying32 hinfo (heap_alloc_new w _) (Nat.le_refl _) (by omega)
    obtain ⟨Y, hY⟩ : ∃ Y, Y = (M.toList.take 0 ++ Lib.byteCells s.data.toList ++ M.toList.drop (0 + s.size)).toArray := ⟨_, rfl⟩
    rw [← hY] at hcp
    have hYl : Y.toList = Lib.byteCells s.data.toList := by
      rw [hY, List.toList_toArray, List.take_zero, List.nil_append, List.drop_of_length_le (by rw [Array.length_toList]; omega), List.append_nil]
    have hYs : Y.size = s.size := by rw [← Array.length_toList, hYl, Lib.byteCells_length, ← Lib.size_eq]
    have hgY : ((w.alloc (.cells M 5)).setRow w.heap.size Y).heap[w.heap.size]? = some (.cells Y 5 (0, 0)) := setRow_heap _ _ M _ 5 (0, 0) (heap_alloc_new w _)
    have hne : s.data.toList ≠ [] := fun e => h0 (by rw [Lib.size_eq, e]; rfl)
    have hUS := Lib.run_unsafeString_row (P := Try.prog) ((w.alloc (.cells M 5)).setRow w.heap.size Y) 40 3 9 5 Try.underlying40 hco w.heap.size Y.size (by unfold World.shape?; rw [hgY]) s.data.toList hne (by rw [← Lib.size_eq]; omega) (by rw [← Lib.size_eq]; omega)
      (fun j x hx => Lib.cells_of_row hgY Y.size j _ (by rw [List.take_of_length_le (by rw [Array.length_toList]; exact Nat.le_refl _), hYl]; simp [Lib.byteCells, hx]))
    rw [← Lib.size_eq] at hUS
    clear hY
    go_enter Try.func26, Try.ntmps26
    go_wp2
    go_ret
    have hb1 : Below w.heap.size w (w.alloc (.cells M 5)) := (Below.refl _ w).alloc (Nat.le_refl _) _
    have hb2 : Below w.heap.size (w.alloc (.cells M 5)) ((w.alloc (.cells M 5)).setRow w.heap.size Y) := ⟨rfl, rfl, rfl, by simp, fun k hk => setRow_other _ _ _ _ (by omega)⟩
    exact ⟨rfl, Lib.below_freeze (hb1.trans hb2) (p := ⟨w.heap.size, 0, none⟩) (Nat.le_refl _) _⟩

theorem stringsClone (s : ByteArray) (w : World) (hlim : s.size ≤ 281474976710656) :
    Calls Try.prog 24 #[.string s] w fun e w' => e = .returned (.string s) ∧ Below w.heap.size w w' := by
  go_enter Try.func24, Try.ntmps24
  go_wp2_with (go_at_call 26; (with_reducible refine (liteClone _ _ hlim).mono ?_); rintro e w1 ⟨rfl, hb1⟩)
  go_ret
  exact ⟨rfl, hb1⟩

/-- The fields found ahead of place n, and where the field under way begins; the line's end counts as a space. -/
def stOf (s : ByteArray) : Nat → List ByteArray × Nat
  | 0 => ([], 0)
  | n + 1 => if n = s.size ∨ byteAt s n = 32 then ((if (stOf s n).2 < n then (stOf s n).1 ++ [s.extract (stOf s n).2 n] else (stOf s n).1), n + 1) else stOf s n
def fieldsOf (s : ByteArray) : List ByteArray := (stOf s (s.size + 1)).1
def validTo (s : ByteArray) (n : Nat) : Bool := (List.range n).all fun i => decide (32 ≤ byteAt s i) && decide (byteAt s i ≤ 126)

theorem st_push {s : ByteArray} {n b : Nat} {acc : List ByteArray} (h : stOf s n = (acc, b)) (hs : n = s.size ∨ byteAt s n = 32) (hb : b < n) : stOf s (n + 1) = (acc ++ [s.extract b n], n + 1) := by
  rw [stOf, if_pos hs, h]
  simp [hb]
theorem st_skip {s : ByteArray} {n b : Nat} {acc : List ByteArray} (h : stOf s n = (acc, b)) (hs : n = s.size ∨ byteAt s n = 32) (hb : ¬ b < n) : stOf s (n + 1) = (acc, n + 1) := by
  rw [stOf, if_pos hs, h]
  simp [hb]
theorem st_on {s : ByteArray} {n b : Nat} {acc : List ByteArray} (h : stOf s n = (acc, b)) (hs : n ≠ s.size) (hx : byteAt s n ≠ 32) : stOf s (n + 1) = (acc, b) := by
  rw [stOf, if_neg (by simp [hs, hx]), h]
theorem st_bd (s : ByteArray) : ∀ n, (stOf s n).1.length ≤ n ∧ (stOf s n).2 ≤ n
  | 0 => by simp [stOf]
  | n + 1 => by
    have ih := st_bd s n
    rw [stOf]
    split
    · split <;> simp <;> omega
    · omega
theorem st_bd2 {s : ByteArray} {n b : Nat} {acc : List ByteArray} (h : stOf s n = (acc, b)) : acc.length ≤ n ∧ b ≤ n := by
  have := st_bd s n
  rw [h] at this
  exact this
theorem valid_succ {s : ByteArray} {n : Nat} (h : validTo s n = true) (h1 : 32 ≤ byteAt s n) (h2 : byteAt s n ≤ 126) : validTo s (n + 1) = true := by
  unfold validTo at *
  rw [List.range_succ, List.all_append, h]
  simp [h1, h2]
theorem valid_not {s : ByteArray} {n m : Nat} (hn : n < m) (h1 : byteAt s n < 32 ∨ 126 < byteAt s n) : validTo s m = false := by
  unfold validTo
  rw [List.all_eq_false]
  exact ⟨n, List.mem_range.2 hn, by simp; omega⟩

def partsOf (s : ByteArray) : List ByteArray × Bool :=
  if 600 < s.size then ([], false) else if validTo s s.size = false then ([], false) else if 12 < (fieldsOf s).length then ([], false) else (fieldsOf s, true)

/-- A call has returned the texts L in a row of its own (from block B on), and b. -/
def TextsBack (w : World) (L : List ByteArray) (b : Bool) (e : Ending) (w' : World) : Prop :=
  ∃ v, e = .returned (.tuple #[v, .bool b]) ∧ w'.ownsRow w.heap.size 9 1 v L.length (L.map Value.string) ∧ Below w.heap.size w w'

theorem textsBack_new {w wr : World} {L : List ByteArray} {b : Bool} (hp : (L, b) = ([], false)) (hbe : Below w.heap.size w wr) :
    TextsBack w L b (.returned (.tuple #[.slice (some ⟨wr.heap.size, 0, none⟩) 0 0, .bool false])) (wr.alloc (.cells #[] 9)) := by
  obtain ⟨rfl, rfl⟩ := Prod.mk.inj hp
  exact ⟨_, rfl, World.ownsRow_made _ _ _ hbe.size (by decide) rfl, hbe.alloc hbe.size _⟩

theorem textsBack_nil {w wr : World} {L : List ByteArray} {b : Bool} (hp : (L, b) = ([], false)) (hbe : Below w.heap.size w wr) :
    TextsBack w L b (.returned (.tuple #[.slice none 0 0, .bool false])) wr := by
  obtain ⟨rfl, rfl⟩ := Prod.mk.inj hp
  exact ⟨_, rfl, World.ownsRow_nil _ _ _ _, hbe⟩
theorem ext_size (s : ByteArray) (k n : Nat) (h1 : k ≤ n) (h2 : n ≤ s.size) : (s.extract k n).size = n - k := by
  simp [ByteArray.size_extract]
  omega
theorem textsBack_old {w wr : World} {L acc : List ByteArray} {b : Bool} {v : Value} (hp : (L, b) = (acc, true)) (hown : wr.ownsRow w.heap.size 9 1 v acc.length (acc.map Value.string)) (hbe : Below w.heap.size w wr) :
    TextsBack w L b (.returned (.tuple #[v, .bool true])) wr := by
  obtain ⟨rfl, rfl⟩ := Prod.mk.inj hp
  exact ⟨_, rfl, hown, hbe⟩

theorem textsBack_own {w wr : World} {L acc : List ByteArray} {b : Bool} {A : Option Addr} {n m c : Nat} (hp : (L, b) = (acc, true)) (hown : wr.ownsRow w.heap.size 9 1 (.slice A n c) n (acc.map Value.string)) (hn : n = m) (hbe : Below w.heap.size w wr) :
    TextsBack w L b (.returned (.tuple #[.slice A m c, .bool true])) wr := by
  obtain ⟨rfl, rfl⟩ := Prod.mk.inj hp
  subst hn
  have hl : n = L.length := by have := hown.1; simpa using this.symm
  subst hl
  exact ⟨_, rfl, hown, hbe⟩

theorem parts_long {s : ByteArray} (h : 600 < s.size) : partsOf s = ([], false) := by rw [partsOf, if_pos h]
theorem parts_bad {s : ByteArray} (h : ¬ 600 < s.size) (h2 : validTo s s.size = false) : partsOf s = ([], false) := by rw [partsOf, if_neg h, if_pos h2]
theorem parts_many {s : ByteArray} (h : ¬ 600 < s.size) (h2 : validTo s s.size = true) (h3 : 12 < (fieldsOf s).length) : partsOf s = ([], false) := by
  rw [partsOf, if_neg h, if_neg (by simp [h2]), if_pos h3]
theorem parts_ok {s : ByteArray} (h : ¬ 600 < s.size) (h2 : validTo s s.size = true) (h3 : ¬ 12 < (fieldsOf s).length) : partsOf s = (fieldsOf s, true) := by
  rw [partsOf, if_neg h, if_neg (by simp [h2]), if_neg h3]

theorem strs_one (L : List ByteArray) : ∀ u ∈ L.map Value.string, u.oneCell' = true := by
  intro u hu
  obtain ⟨b, _, rfl⟩ := List.mem_map.1 hu
  rfl
theorem str_new (w : World) (x : ByteArray) (t : TypeId) : ∀ j u, ([x].map Value.string)[j]? = some u → (w.alloc (.cells #[.string x] t)).cell? ((⟨w.heap.size, 0, none⟩ : Addr).add j) = some u := by
  intro j u h
  have hadd : (⟨w.heap.size, 0, none⟩ : Addr).add j = ⟨w.heap.size, j, none⟩ := by unfold Addr.add; split <;> simp_all
  rw [hadd, World.cell?_alloc_mark]
  simpa using h

theorem own_push {w1 : World} {base : Nat} {e : TypeId} {v : Value} {acc : List ByteArray} {x : ByteArray} (h : w1.ownsRow base e 1 v (acc.length + 1) (acc.map Value.string ++ [x].map Value.string)) :
    w1.ownsRow base e 1 v (acc ++ [x]).length ((acc ++ [x]).map Value.string) := by
  rw [List.length_append, List.map_append]
  exact h

theorem specParts_long (s : ByteArray) (L : List ByteArray) (b : Bool) (w : World) (hs : 600 < s.size) (HP : Hid (partsOf s = (L, b))) :
    Calls Try.prog 11 #[.string s] w (TextsBack w L b) := by
  have hs1 : (600 : Int) < s.size := by omega
  go_enter Try.func11, Try.ntmps11
  go_wp2
  go_ret2
  exact textsBack_new (HP.out.symm.trans (parts_long hs)) (Below.refl _ _)

set_option maxHeartbeats 1000000 in
theorem specParts (s : ByteArray) (L : List ByteArray) (b : Bool) (w : World) (hs : ¬ 600 < s.size) (HP : Hid (partsOf s = (L, b))) :
    Calls Try.prog 11 #[.string s] w (TextsBack w L b) := by
  obtain ⟨i0, hi, hz0, hz1, hz2⟩ := info_parts Try.infoS
  have hs1 : ¬ (600 : Int) < s.size := by omega
  go_enter Try.func11, Try.ntmps11
  go_wp2
  go_loopw [4, 5, 6] (fun v g i wr => ∃ (n k : Nat) (acc : List ByteArray), n ≤ s.size + 1 ∧ k ≤ n ∧ acc.length ≤ n ∧ Hid (stOf s n = (acc, k)) ∧ Hid (validTo s (min n s.size) = true) ∧
      g = .int .i64 k ∧ i = .int .i64 n ∧ wr.ownsRow w.heap.size 9 1 v acc.length (acc.map Value.string) ∧ Below w.heap.size w wr)
    (fun _ _ i _ => s.size + 1 - (intOf i).toNat)
  case atStart =>
    exact ⟨0, 0, [], Nat.zero_le _, Nat.le_refl _, Nat.le_refl _, Lib.hid rfl, Lib.hid (by simp [validTo]), rfl, rfl, World.ownsRow_made _ _ _ (Nat.le_refl _) (by decide) rfl, (Below.refl _ _).alloc (Nat.le_refl _) _⟩
  case round =>
    obtain ⟨n, k, acc, hn, hk, hal, HS, HV, rfl, rfl, hown, hbe⟩ := hrel
    have hbs := hbe.size
    by_cases hlt : n < s.size
    · have hb1 := byteAt_bd s n
      have hx1 := run_at (P := Try.prog) 9 s .i64 n n rfl hlt Try.underlying9
      by_cases c1 : byteAt s n < 32
      · go_wp2
        go_ret2
        exact textsBack_new (HP.out.symm.trans (parts_bad hs (valid_not hlt (.inl c1)))) hbe
      · by_cases c2 : 126 < byteAt s n
        · go_wp2
          go_ret2
          exact textsBack_new (HP.out.symm.trans (parts_bad hs (valid_not hlt (.inr c2)))) hbe
        · have HV2 : Hid (validTo s (min (n + 1) s.size) = true) := Lib.hid (by have := HV.out; rw [Nat.min_eq_left (by omega)] at this ⊢; exact valid_succ this (by omega) (by omega))
          clear HV
          by_cases c3 : byteAt s n = 32
          · have HC3 := Lib.hid c3
            have c4 : (byteAt s n == 32) = true := by simp [c3]
            have c5 : (byteAt s n != 32) = false := by simp [c3]
            clear c3
            by_cases c6 : k < n
            · have HS2 := Lib.hid (st_push HS.out (.inr HC3.out) c6)
              clear HS
              go_wp2_with (at_builtin; refine wpList_append_own _ rfl _ _ 25 rfl w.heap.size 9 i0 (.string ⟨#[]⟩) 1 16 Try.underlying25 hi hz0 hz1 hz2 rfl (by decide) _ _ _ rfl (hown.alloc _) ⟨wr.heap.size, 0, none⟩ 1 1 ([s.extract k n].map Value.string) rfl rfl (str_new _ _ _) (strs_one _) (by unfold maxLen; omega) (by omega) (by simp; omega) ?_; intro v' w1 hown1 hgrow _; have hbe1 := (hbe.alloc hbs _).grown hgrow (by simp; omega) (fun j hj => (hown.lt j hj).1); clear hgrow)
              go_wp2
              go_roundw
              case rel => exact ⟨n + 1, n + 1, acc ++ [s.extract k n], by omega, by omega, by simp; omega, HS2, HV2, by go_num, by go_num, own_push hown1, hbe1⟩
              case measure => simp [intOf]; omega
            · have HS2 := Lib.hid (st_skip HS.out (.inr HC3.out) c6)
              clear HS
              go_wp2
              go_roundw
              case rel => exact ⟨n + 1, n + 1, acc, by omega, by omega, by omega, HS2, HV2, by go_num, by go_num, hown, hbe⟩
              case measure => simp [intOf]; omega
          · have HS2 := Lib.hid (st_on HS.out (by omega) c3)
            clear HS
            have c4 : (byteAt s n == 32) = false := by simpa using c3
            have c5 : (byteAt s n != 32) = true := by simpa using c3
            clear c3
            go_wp2
            go_roundw
            case rel => exact ⟨n + 1, k, acc, by omega, by omega, by omega, HS2, HV2, rfl, by go_num, hown, hbe⟩
            case measure => simp [intOf]; omega
    · by_cases heq : n = s.size
      · have HE := Lib.hid heq
        have HV2 : Hid (validTo s (min (n + 1) s.size) = true) := Lib.hid (by have := HV.out; rw [Nat.min_eq_right (by omega)] at this ⊢; exact this)
        have hle : s.size ≤ n := by omega
        have hle2 : n ≤ s.size := by omega
        clear heq HV
        by_cases c6 : k < n
        · have HS2 := Lib.hid (st_push HS.out (.inl HE.out) c6)
          clear HS
          go_wp2_with (at_builtin; refine wpList_append_own _ rfl _ _ 25 rfl w.heap.size 9 i0 (.string ⟨#[]⟩) 1 16 Try.underlying25 hi hz0 hz1 hz2 rfl (by decide) _ _ _ rfl (hown.alloc _) ⟨wr.heap.size, 0, none⟩ 1 1 ([s.extract k n].map Value.string) rfl rfl (str_new _ _ _) (strs_one _) (by unfold maxLen; omega) (by omega) (by simp; omega) ?_; intro v' w1 hown1 hgrow _; have hbe1 := (hbe.alloc hbs _).grown hgrow (by simp; omega) (fun j hj => (hown.lt j hj).1); clear hgrow)
          go_wp2
          go_roundw
          case rel => exact ⟨n + 1, n + 1, acc ++ [s.extract k n], by omega, by omega, by simp; omega, HS2, HV2, by go_num, by go_num, own_push hown1, hbe1⟩
          case measure => simp [intOf]; omega
        · have HS2 := Lib.hid (st_skip HS.out (.inl HE.out) c6)
          clear HS
          go_wp2
          go_roundw
          case rel => exact ⟨n + 1, n + 1, acc, by omega, by omega, by omega, HS2, HV2, by go_num, by go_num, hown, hbe⟩
          case measure => simp [intOf]; omega
      · have hgt : s.size < n := by omega
        have HF : Hid (fieldsOf s = acc) := Lib.hid (by
          have e : n = s.size + 1 := by omega
          unfold fieldsOf
          rw [← e, HS.out])
        have HV2 : Hid (validTo s s.size = true) := Lib.hid (by have := HV.out; rwa [Nat.min_eq_right (by omega)] at this)
        clear HS HV heq
        obtain ⟨A, c, rfl⟩ := own_form hown
        by_cases c7 : 12 < acc.length
        · have HP2 := Lib.hid (HP.out.symm.trans (parts_many hs HV2.out (by rw [HF.out]; exact c7)))
          have c8 : (12 : Int) < acc.length := by omega
          clear HP HF c7
          go_wp2
          go_ret2
          exact textsBack_new HP2.out hbe
        · have HP2 := Lib.hid (HP.out.symm.trans ((parts_ok hs HV2.out (by rw [HF.out]; exact c7)).trans (by rw [HF.out])))
          have c8 : ¬ (12 : Int) < acc.length := by omega
          clear HP HF c7
          go_wp2
          go_ret2
          exact textsBack_old HP2.out hown hbe

/-- What withPart has returned. -/
def RowBack (B : Nat) (w : World) (L : List ByteArray) (e : Ending) (w' : World) : Prop :=
  ∃ v, e = .returned v ∧ w'.ownsRow B 9 1 v L.length (L.map Value.string) ∧ Below B w w'

theorem withPart_none (B : Nat) (v : Value) (L : List ByteArray) (x : ByteArray) (w : World) (hown : w.ownsRow B 9 1 v L.length (L.map Value.string)) (hx : x.size = 0) :
    Calls Try.prog 21 #[v, .string x] w (RowBack B w L) := by
  have hs : x = ⟨#[]⟩ := by
    apply ByteArray.ext
    exact Array.eq_empty_of_size_eq_zero hx
  subst hs
  go_enter Try.func21, Try.ntmps21
  go_wp2
  go_ret
  exact ⟨_, rfl, hown, Below.refl _ _⟩

set_option maxHeartbeats 400000 in
theorem withPart_some (B : Nat) (v : Value) (L : List ByteArray) (x : ByteArray) (w : World) (hown : w.ownsRow B 9 1 v L.length (L.map Value.string)) (hx : 0 < x.size) (hx2 : x.size ≤ 600) (hL : L.length ≤ 700) (hB : B ≤ w.heap.size) :
    Calls Try.prog 21 #[v, .string x] w (RowBack B w (L ++ [x])) := by
  obtain ⟨i0, hi, hz0, hz1, hz2⟩ := info_parts Try.infoS
  have hc1 : x.toList.isEmpty = false := by
    rw [ByteArray.toList_eq]
    cases hd : x.data.toList with
    | nil => have : x.size = x.data.toList.length := by simp
             rw [hd, List.length_nil] at this; omega
    | cons a l => rfl
  go_enter Try.func21, Try.ntmps21
  go_wp2_with (first
    | (go_at_call 24; (with_reducible refine (stringsClone _ _ (by omega)).mono ?_); rintro e w1 ⟨rfl, hb1⟩; have hown1 := own_below hown hb1 hB; have hs1 := hb1.size)
    | (at_builtin; refine wpList_append_own _ rfl _ _ 25 rfl B 9 i0 (.string ⟨#[]⟩) 1 16 Try.underlying25 hi hz0 hz1 hz2 rfl (by decide) _ _ _ rfl (hown1.alloc _) ⟨w1.heap.size, 0, none⟩ 1 1 ([x].map Value.string) rfl rfl (str_new _ _ _) (strs_one _) (by unfold maxLen; omega) (by omega) (by simp; omega) ?_; intro v' w2 hown2 hgrow _; have hbe2 := ((hb1.mono hB).alloc (by omega) _).grown hgrow (by simp; omega) (fun j hj => (hown.lt j hj).1); clear hgrow))
  go_ret
  exact ⟨_, rfl, own_push hown2, hbe2⟩

set_option maxHeartbeats 1000000 in
theorem implParts (s : ByteArray) (L : List ByteArray) (b : Bool) (w : World) (hs : ¬ 600 < s.size) (HP : Hid (partsOf s = (L, b))) :
    Calls Try.prog 12 #[.string s] w (TextsBack w L b) := by
  have hs1 : ¬ (600 : Int) < s.size := by omega
  go_enter Try.func12, Try.ntmps12
  go_wp2
  go_step3
  go_wp2
  go_step3
  go_wp2
  go_loopw [4, 5, 6] (fun v g i wr => ∃ (n k : Nat) (acc : List ByteArray), n ≤ s.size ∧ k ≤ n ∧ acc.length ≤ n ∧ Hid (stOf s n = (acc, k)) ∧ Hid (validTo s n = true) ∧
      g = .int .i64 k ∧ i = .int .i64 n ∧ wr.ownsRow w.heap.size 9 1 v acc.length (acc.map Value.string) ∧ Below w.heap.size w wr)
    (fun _ _ i _ => s.size - (intOf i).toNat)
  case atStart =>
    exact ⟨0, 0, [], Nat.zero_le _, Nat.le_refl _, Nat.le_refl _, Lib.hid rfl, Lib.hid (by simp [validTo]), rfl, rfl, World.ownsRow_nil _ _ _ _, Below.refl _ _⟩
  case round =>
    obtain ⟨n, k, acc, hn, hk, hal, HS, HV, rfl, rfl, hown, hbe⟩ := hrel
    have hbs := hbe.size
    by_cases hlt : n < s.size
    · have hb1 := byteAt_bd s n
      have hx1 := run_at (P := Try.prog) 9 s .i64 n n rfl hlt Try.underlying9
      by_cases c1 : byteAt s n < 32
      · have HP2 := Lib.hid (HP.out.symm.trans (parts_bad hs (valid_not hlt (.inl c1))))
        clear HP
        go_wp2
        go_ret2
        exact textsBack_nil HP2.out hbe
      · by_cases c2 : 126 < byteAt s n
        · have HP2 := Lib.hid (HP.out.symm.trans (parts_bad hs (valid_not hlt (.inr c2))))
          clear HP
          go_wp2
          go_ret2
          exact textsBack_nil HP2.out hbe
        · have HV2 : Hid (validTo s (n + 1) = true) := Lib.hid (valid_succ HV.out (by omega) (by omega))
          clear HV
          by_cases c3 : byteAt s n = 32
          · have HC3 := Lib.hid c3
            have c4 : (byteAt s n == 32) = true := by simp [c3]
            clear c3
            by_cases c6 : k < n
            · have HS2 := Lib.hid (st_push HS.out (.inr HC3.out) c6)
              have HX1 : Hid (0 < (s.extract k n).size) := Lib.hid (by rw [ext_size _ _ _ hk hn]; omega)
              have HX2 : Hid ((s.extract k n).size ≤ 600) := Lib.hid (by rw [ext_size _ _ _ hk hn]; omega)
              clear HS
              go_wp2_with (go_at_call 21; (with_reducible refine (withPart_some w.heap.size _ acc _ _ hown HX1.out HX2.out (by omega) hbs).mono ?_); rintro e w1 ⟨v1, rfl, hown1, hbe1⟩; have hbe2 := hbe.trans hbe1)
              go_wp2
              go_roundw
              case rel => exact ⟨n + 1, n + 1, acc ++ [s.extract k n], by omega, by omega, by simp; omega, HS2, HV2, by go_num, by go_num, hown1, hbe2⟩
              case measure => simp [intOf]; omega
            · have HS2 := Lib.hid (st_skip HS.out (.inr HC3.out) c6)
              have HX : Hid ((s.extract k n).size = 0) := Lib.hid (by rw [ext_size _ _ _ hk hn]; omega)
              clear HS
              go_wp2_with (go_at_call 21; (with_reducible refine (withPart_none w.heap.size _ acc _ _ hown HX.out).mono ?_); rintro e w1 ⟨v1, rfl, hown1, hbe1⟩; have hbe2 := hbe.trans hbe1)
              go_wp2
              go_roundw
              case rel => exact ⟨n + 1, n + 1, acc, by omega, by omega, by omega, HS2, HV2, by go_num, by go_num, hown1, hbe2⟩
              case measure => simp [intOf]; omega
          · have HS2 := Lib.hid (st_on HS.out (by omega) c3)
            clear HS
            have c4 : (byteAt s n == 32) = false := by simpa using c3
            clear c3
            go_wp2
            go_roundw
            case rel => exact ⟨n + 1, k, acc, by omega, by omega, by omega, HS2, HV2, rfl, by go_num, hown, hbe⟩
            case measure => simp [intOf]; omega
    · obtain rfl : n = s.size := by omega
      by_cases c6 : k < s.size
      · have HF : Hid (fieldsOf s = acc ++ [s.extract k s.size]) := Lib.hid (by unfold fieldsOf; rw [st_push HS.out (.inl rfl) c6])
        have HX1 : Hid (0 < (s.extract k s.size).size) := Lib.hid (by rw [ext_size _ _ _ hk hn]; omega)
        have HX2 : Hid ((s.extract k s.size).size ≤ 600) := Lib.hid (by rw [ext_size _ _ _ hk hn]; omega)
        clear HS
        by_cases c7 : 12 < (acc ++ [s.extract k s.size]).length
        · have HP2 := Lib.hid (HP.out.symm.trans (parts_many hs HV.out (by rw [HF.out]; exact c7)))
          have c8 : (12 : Int) < (acc.length : Int) + 1 := by simp at c7; omega
          clear HP HF c7
          go_wp2_with (go_at_call 21; (with_reducible refine (withPart_some w.heap.size _ acc _ _ hown HX1.out HX2.out (by omega) hbs).mono ?_); rintro e w1 ⟨v1, rfl, hown1, hbe1⟩; have hbe2 := hbe.trans hbe1; obtain ⟨A, c, rfl⟩ := own_form hown1)
          go_ret2
          exact textsBack_nil HP2.out hbe2
        · have HP2 := Lib.hid (HP.out.symm.trans ((parts_ok hs HV.out (by rw [HF.out]; exact c7)).trans (by rw [HF.out])))
          have c8 : ¬ (12 : Int) < (acc.length : Int) + 1 := by simp at c7; omega
          clear HP HF c7
          go_wp2_with (go_at_call 21; (with_reducible refine (withPart_some w.heap.size _ acc _ _ hown HX1.out HX2.out (by omega) hbs).mono ?_); rintro e w1 ⟨v1, rfl, hown1, hbe1⟩; have hbe2 := hbe.trans hbe1; obtain ⟨A, c, rfl⟩ := own_form hown1)
          go_ret2
          exact textsBack_own HP2.out hown1 (by simp) hbe2
      · have HF : Hid (fieldsOf s = acc) := Lib.hid (by unfold fieldsOf; rw [st_skip HS.out (.inl rfl) c6])
        have HX : Hid ((s.extract k s.size).size = 0) := Lib.hid (by rw [ext_size _ _ _ hk hn]; omega)
        clear HS
        by_cases c7 : 12 < acc.length
        · have HP2 := Lib.hid (HP.out.symm.trans (parts_many hs HV.out (by rw [HF.out]; exact c7)))
          have c8 : (12 : Int) < acc.length := by omega
          clear HP HF c7
          go_wp2_with (go_at_call 21; (with_reducible refine (withPart_none w.heap.size _ acc _ _ hown HX.out).mono ?_); rintro e w1 ⟨v1, rfl, hown1, hbe1⟩; have hbe2 := hbe.trans hbe1; obtain ⟨A, c, rfl⟩ := own_form hown1)
          go_ret2
          exact textsBack_nil HP2.out hbe2
        · have HP2 := Lib.hid (HP.out.symm.trans ((parts_ok hs HV.out (by rw [HF.out]; exact c7)).trans (by rw [HF.out])))
          have c8 : ¬ (12 : Int) < acc.length := by omega
          clear HP HF c7
          go_wp2_with (go_at_call 21; (with_reducible refine (withPart_none w.heap.size _ acc _ _ hown HX.out).mono ?_); rintro e w1 ⟨v1, rfl, hown1, hbe1⟩; have hbe2 := hbe.trans hbe1; obtain ⟨A, c, rfl⟩ := own_form hown1)
          go_ret2
          exact textsBack_own HP2.out hown1 rfl hbe2

theorem implParts_long (s : ByteArray) (L : List ByteArray) (b : Bool) (w : World) (hs : 600 < s.size) (HP : Hid (partsOf s = (L, b))) :
    Calls Try.prog 12 #[.string s] w (TextsBack w L b) := by
  have hs1 : (600 : Int) < s.size := by omega
  go_enter Try.func12, Try.ntmps12
  go_wp2
  go_step3
  go_wp2
  rw [Exit.noGoto_ret]
  go_ret2
  exact textsBack_nil (HP.out.symm.trans (parts_long hs)) (Below.refl _ _)

end Go.Proofs.Ytklbgnodifnbiaa
