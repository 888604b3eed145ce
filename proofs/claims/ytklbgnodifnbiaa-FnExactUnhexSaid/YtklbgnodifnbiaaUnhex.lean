/-
  CONTRACTS for the law FnExactUnhex: what Unhex and its model return and leave of memory.
-/
import Derived.Test.YtklbgnodifnbiaaHex
import Derived.Lib.Bytealg
namespace Go.Proofs.Ytklbgnodifnbiaa
open Go.ChangeShapes Go.WideShapes Go.ChangeAt Go.RowKit

/-- The number that a hexadecimal digit stands for; -1 where the byte is none. -/
def hv (x : Int) : Int := if 48 ≤ x ∧ x ≤ 57 then x - 48 else if 97 ≤ x ∧ x ≤ 102 then x - 87 else -1

theorem hv_bd (x : Int) : -1 ≤ hv x ∧ hv x < 16 := by unfold hv; omega

theorem l01Value (x : Int) (h0 : 0 ≤ x) (h1 : x < 256) (w : World) :
    Calls Try.prog 19 #[.int .u8 x] w fun e w' => e = .returned (.int .i64 (hv x)) ∧ w = w' := by
  go_enter Try.func19, Try.ntmps19
  go_wp2
  all_goals (go_ret; exact ⟨ret_int (by unfold hv; omega), rfl⟩)

theorem digits_index (x : Int) (h0 : 0 ≤ x) (h1 : x < 256) : Lib.indexByte [48, 49, 50, 51, 52, 53, 54, 55, 56, 57, 97, 98, 99, 100, 101, 102] x.toNat.toUInt8 = hv x := by
  have H : ∀ a : Fin 256, Lib.indexByte [48, 49, 50, 51, 52, 53, 54, 55, 56, 57, 97, 98, 99, 100, 101, 102] ((a.val : Int)).toNat.toUInt8 = hv (a.val : Int) := by decide +kernel
  obtain ⟨n, rfl⟩ : ∃ n : Nat, x = n := ⟨x.toNat, by omega⟩
  exact H ⟨n, by omega⟩

theorem indexByteString (s : ByteArray) (c : Int) (w : World) : (callFunc 25 #[.string s, .int .u8 c]).run Try.prog w = .ok (.value (.int .i64 (Lib.indexByte s.data.toList c.toNat.toUInt8))) w := by
  rw [run_callFunc_extern Try.func25 (by kernel_rfl) (by kernel_rfl) (by kernel_rfl) (e := Extern.BytealgIndexByte.indexByte) (by kernel_rfl), Lib.run_indexByteString]
  rfl

theorem liteIndexByte (s : ByteArray) (c : Int) (w : World) :
    Calls Try.prog 23 #[.string s, .int .u8 c] w fun e w' => e = .returned (.int .i64 (Lib.indexByte s.data.toList c.toNat.toUInt8)) ∧ w = w' := by
  have hx := indexByteString s c
  go_enter Try.func23, Try.ntmps23
  go_wp2
  go_ret
  exact ⟨rfl, rfl⟩

theorem stringsIndexByte (s : ByteArray) (c : Int) (w : World) :
    Calls Try.prog 20 #[.string s, .int .u8 c] w fun e w' => e = .returned (.int .i64 (Lib.indexByte s.data.toList c.toNat.toUInt8)) ∧ w = w' := by
  go_enter Try.func20, Try.ntmps20
  go_wp2_with (go_at_call 23; (with_reducible refine (liteIndexByte _ _ _).mono ?_); rintro e w' ⟨rfl, rfl⟩)
  go_ret
  exact ⟨rfl, rfl⟩

theorem digitIndex (x : Int) (h0 : 0 ≤ x) (h1 : x < 256) (w : World) :
    Calls Try.prog 20 #[.string ⟨#[48, 49, 50, 51, 52, 53, 54, 55, 56, 57, 97, 98, 99, 100, 101, 102]⟩, .int .u8 x] w fun e w' => e = .returned (.int .i64 (hv x)) ∧ w = w' :=
  (stringsIndexByte _ x w).mono fun e w' ⟨he, hw⟩ => ⟨by rw [he, ← digits_index x h0 h1], hw⟩

/-- What a text of hexadecimal digits stands for. -/
def unhexL : List UInt8 → Option (List UInt8)
  | [] => some []
  | [_] => none
  | a :: b :: r => if hv a.toNat < 0 ∨ hv b.toNat < 0 then none else (unhexL r).map (UInt8.ofNat (16 * hv a.toNat + hv b.toNat).toNat :: ·)

def unhexV (l : List UInt8) : Value :=
  match unhexL l with
  | some r => .tuple #[.string ⟨r.toArray⟩, .bool true]
  | none => .tuple #[.string ⟨#[]⟩, .bool false]

theorem unhex_at (s : ByteArray) (n : Nat) (h : n + 1 < s.size) : unhexL (s.data.toList.drop n) =
    if hv (byteAt s n) < 0 ∨ hv (byteAt s (n + 1)) < 0 then none else (unhexL (s.data.toList.drop (n + 2))).map (UInt8.ofNat (16 * hv (byteAt s n) + hv (byteAt s (n + 1))).toNat :: ·) := by
  have e : s.data.toList.drop n = s[n] :: s[n + 1] :: s.data.toList.drop (n + 2) := by
    rw [List.drop_eq_getElem_cons (by simpa using (by omega : n < s.size)), List.drop_eq_getElem_cons (by simpa using h)]
    rfl
  rw [e, unhexL, byteAt_eq s n (by omega), byteAt_eq s (n + 1) h]

theorem unhex_bad {l m acc : List UInt8} (h : unhexL l = (unhexL m).map (acc ++ ·)) (h2 : unhexL m = none) : unhexV l = .tuple #[.string ⟨#[]⟩, .bool false] := by
  rw [h2] at h
  simp [unhexV, h]
theorem unhex_good {l m m2 acc : List UInt8} {c : UInt8} (h : unhexL l = (unhexL m).map (acc ++ ·)) (h2 : unhexL m = (unhexL m2).map (c :: ·)) : unhexL l = (unhexL m2).map ((acc ++ [c]) ++ ·) := by
  rw [h, h2]
  cases unhexL m2 <;> simp
theorem unhex_end {l m acc : List UInt8} (h : unhexL l = (unhexL m).map (acc ++ ·)) (h2 : m = []) : unhexV l = .tuple #[.string ⟨acc.toArray⟩, .bool true] := by
  subst h2
  simp [unhexL] at h
  simp [unhexV, h]

theorem specUnhex_no (s : ByteArray) (w : World) (hs : 40000 < s.size ∨ s.size % 2 ≠ 0) :
    Calls Try.prog 9 #[.string s] w fun e w' => e = .returned (.tuple #[.string ⟨#[]⟩, .bool false]) ∧ w = w' := by
  by_cases h1 : (40000 : Int) < s.size
  · go_enter Try.func9, Try.ntmps9
    go_wp2
    go_ret2
    exact ⟨rfl, rfl⟩
  · have h2 : (0 : Int) ≤ s.size := by omega
    have h3 : ((s.size : Int) % 2 == 0) = false := by simp; omega
    have h4 : ((s.size : Int) % 2 != 0) = true := by simp; omega
    go_enter Try.func9, Try.ntmps9
    go_wp2
    go_ret2
    exact ⟨rfl, rfl⟩

set_option maxHeartbeats 400000 in
theorem specUnhex_yes (s : ByteArray) (w : World) (hs : s.size ≤ 40000) (he : s.size % 2 = 0) :
    Calls Try.prog 9 #[.string s] w fun e w' => e = .returned (unhexV s.data.toList) ∧ Below w.heap.size w w' := by
  obtain ⟨i0, hi, hz0, hz1, hz2⟩ := info_parts Try.info5
  have h1 : ¬ (40000 : Int) < s.size := by omega
  have h2 : (0 : Int) ≤ s.size := by omega
  have h3 : ((s.size : Int) % 2 == 0) = true := by simp; omega
  have h4 : ((s.size : Int) % 2 != 0) = false := by simp; omega
  have HE := Lib.hid he
  clear he
  go_enter Try.func9, Try.ntmps9
  go_wp2
  go_loopw [4, 5] (fun v i wr => ∃ (n : Nat) (acc : List UInt8), n ≤ s.size ∧ Hid (n = 2 * acc.length) ∧ i = .int .i64 n ∧ wr.ownsRow w.heap.size 5 1 v acc.length (cellsOf acc) ∧
      Hid (unhexL s.data.toList = (unhexL (s.data.toList.drop n)).map (acc ++ ·)) ∧ Below w.heap.size w wr)
    (fun _ i _ => s.size - (intOf i).toNat)
  case atStart =>
    exact ⟨0, [], Nat.zero_le _, Lib.hid rfl, rfl, World.ownsRow_made _ _ _ (Nat.le_refl _) (by decide) rfl, Lib.hid (by simp), (Below.refl _ _).alloc (Nat.le_refl _) _⟩
  case round =>
    obtain ⟨n, acc, hn, HN, rfl, hown, HU, hbe⟩ := hrel
    by_cases hlt : n < s.size
    · have hlt2 : n + 1 < s.size := by have := HE.out; have := HN.out; omega
      have hlt3 : (n : Int) + 1 < s.size := by omega
      have hb1 := byteAt_bd s n
      have hb2 := byteAt_bd s (n + 1)
      have hx1 := run_at (P := Try.prog) 9 s .i64 n n rfl hlt Try.underlying9
      have hx2 := run_at (P := Try.prog) 9 s .i64 ((n : Int) + 1) (n + 1) (by omega) hlt2 Try.underlying9
      have hd1 := hv_bd (byteAt s n)
      have hd2 := hv_bd (byteAt s (n + 1))
      have hbs := hbe.size
      have hu := unhex_at s n hlt2
      by_cases c1 : hv (byteAt s n) < 0
      · have HU2 := Lib.hid (unhex_bad HU.out (hu.trans (if_pos (.inl c1))))
        clear hu HU
        go_wp2_with (go_at_call 19; (with_reducible refine (l01Value _ (by omega) (by omega) _).mono ?_); rintro e w' ⟨rfl, rfl⟩)
        go_ret2
        exact ⟨(congrArg Ending.returned HU2.out).symm, hbe⟩
      · by_cases c2 : hv (byteAt s (n + 1)) < 0
        · have HU2 := Lib.hid (unhex_bad HU.out (hu.trans (if_pos (.inr c2))))
          clear hu HU
          go_wp2_with (go_at_call 19; (with_reducible refine (l01Value _ (by omega) (by omega) _).mono ?_); rintro e w' ⟨rfl, rfl⟩)
          go_ret2
          exact ⟨(congrArg Ending.returned HU2.out).symm, hbe⟩
        · have HU2 := Lib.hid (unhex_good HU.out (hu.trans (if_neg (fun h => h.elim c1 c2))))
          clear hu HU
          have c3 : 0 ≤ hv (byteAt s n) := by omega
          have c4 : 0 ≤ hv (byteAt s (n + 1)) := by omega
          have hl2 : acc.length ≤ 20000 := by have := HN.out; omega
          go_wp2_with (first
            | (go_at_call 19; (with_reducible refine (l01Value _ (by omega) (by omega) _).mono ?_); rintro e w' ⟨rfl, rfl⟩)
            | (at_builtin; refine wpList_append_own _ rfl _ _ 32 rfl w.heap.size 5 i0 (.int .u8 0) 1 1 Try.underlying32 hi hz0 hz1 hz2 rfl (by decide) _ _ _ rfl (hown.alloc _) ⟨wr.heap.size, 0, none⟩ 1 1 (cellsOf [UInt8.ofNat (16 * hv (byteAt s n) + hv (byteAt s (n + 1))).toNat]) rfl rfl (cells_new1 _ _ (by omega) (by omega) _) (cellsOf_one _) (by unfold maxLen; omega) (by omega) (by simp; omega) ?_; intro v' w1 hown1 hgrow _; have hbe1 := (hbe.alloc hbs _).grown hgrow (by simp; omega) (fun j hj => (hown.lt j hj).1); clear hgrow))
          go_wp2
          go_roundw
          case rel => exact ⟨n + 2, acc ++ [UInt8.ofNat (16 * hv (byteAt s n) + hv (byteAt s (n + 1))).toNat], by omega, Lib.hid (by have := HN.out; simp; omega), by go_num, by rw [cellsOf_append, List.length_append]; exact hown1, HU2, hbe1⟩
          case measure => simp [intOf]; omega
    · have hconv := run_text_own (P := Try.prog) wr 32 9 5 Try.underlying32 Try.underlying5 Try.underlying9 hown
      have HU2 := Lib.hid (unhex_end HU.out (List.drop_eq_nil_of_le (by simp; omega)))
      clear HU
      go_wp2
      go_ret2
      exact ⟨(congrArg Ending.returned HU2.out).symm, hbe⟩
theorem implUnhex_no (s : ByteArray) (w : World) (hs : 40000 < s.size ∨ s.size % 2 ≠ 0) :
    Calls Try.prog 10 #[.string s] w fun e w' => e = .returned (.tuple #[.string ⟨#[]⟩, .bool false]) ∧ w = w' := by
  by_cases h1 : (40000 : Int) < s.size
  · go_enter Try.func10, Try.ntmps10
    go_wp2
    all_goals (go_ret2; exact ⟨rfl, rfl⟩)
  · have h2 : (0 : Int) ≤ s.size := by omega
    have h3 : ((s.size : Int) % 2 == 0) = false := by simp; omega
    have h4 : ((s.size : Int) % 2 != 0) = true := by simp; omega
    go_enter Try.func10, Try.ntmps10
    go_wp2
    all_goals (go_ret2; exact ⟨rfl, rfl⟩)

set_option maxHeartbeats 400000 in
theorem implUnhex_yes (s : ByteArray) (w : World) (hs : s.size ≤ 40000) (he : s.size % 2 = 0) :
    Calls Try.prog 10 #[.string s] w fun e w' => e = .returned (unhexV s.data.toList) ∧ Below w.heap.size w w' := by
  obtain ⟨i0, hi, hz0, hz1, hz2⟩ := info_parts Try.info5
  have h1 : ¬ (40000 : Int) < s.size := by omega
  have h2 : (0 : Int) ≤ s.size := by omega
  have h3 : ((s.size : Int) % 2 == 0) = true := by simp; omega
  have h4 : ((s.size : Int) % 2 != 0) = false := by simp; omega
  have HE := Lib.hid he
  clear he
  go_enter Try.func10, Try.ntmps10
  go_wp2_with (at_make; refine wpList_make_own _ rfl _ _ 32 rfl w.heap.size 5 i0 (.int .u8 0) 1 Try.underlying32 hi hz0 hz1 _ _ _ (s.size / 2) rfl rfl (by omega) (by rw [hz2]; omega) (by unfold maxLen; omega) (Nat.le_refl _) ?_; intro w0 hown0 hgrow0)
  go_loopw [4, 5] (fun v i wr => ∃ (n : Nat) (acc : List UInt8), n ≤ s.size ∧ Hid (n = 2 * acc.length) ∧ i = .int .i64 n ∧ wr.ownsRow w.heap.size 5 1 v acc.length (cellsOf acc) ∧
      Hid (unhexL s.data.toList = (unhexL (s.data.toList.drop n)).map (acc ++ ·)) ∧ Below w.heap.size w wr)
    (fun _ i _ => s.size - (intOf i).toNat)
  case atStart =>
    exact ⟨0, [], Nat.zero_le _, Lib.hid rfl, rfl, hown0, Lib.hid (by simp), (Below.refl _ _).grown hgrow0 (Nat.le_refl _) (by simp)⟩
  case round =>
    clear hown0 hgrow0
    obtain ⟨n, acc, hn, HN, rfl, hown, HU, hbe⟩ := hrel
    by_cases hlt : n < s.size
    · have hlt2 : n + 1 < s.size := by have := HE.out; have := HN.out; omega
      have hlt3 : (n : Int) + 1 < s.size := by omega
      have hb1 := byteAt_bd s n
      have hb2 := byteAt_bd s (n + 1)
      have hx1 := run_at (P := Try.prog) 9 s .i64 n n rfl hlt Try.underlying9
      have hx2 := run_at (P := Try.prog) 9 s .i64 ((n : Int) + 1) (n + 1) (by omega) hlt2 Try.underlying9
      have hd1 := hv_bd (byteAt s n)
      have hd2 := hv_bd (byteAt s (n + 1))
      have hbs := hbe.size
      have hu := unhex_at s n hlt2
      by_cases c1 : hv (byteAt s n) < 0
      · have HU2 := Lib.hid (unhex_bad HU.out (hu.trans (if_pos (.inl c1))))
        clear hu HU
        go_wp2_with (go_at_call 20; (with_reducible refine (digitIndex _ (by omega) (by omega) _).mono ?_); rintro e w' ⟨rfl, rfl⟩)
        go_ret2
        exact ⟨(congrArg Ending.returned HU2.out).symm, hbe⟩
      · by_cases c2 : hv (byteAt s (n + 1)) < 0
        · have HU2 := Lib.hid (unhex_bad HU.out (hu.trans (if_pos (.inr c2))))
          clear hu HU
          go_wp2_with (go_at_call 20; (with_reducible refine (digitIndex _ (by omega) (by omega) _).mono ?_); rintro e w' ⟨rfl, rfl⟩)
          go_ret2
          exact ⟨(congrArg Ending.returned HU2.out).symm, hbe⟩
        · have HU2 := Lib.hid (unhex_good HU.out (hu.trans (if_neg (fun h => h.elim c1 c2))))
          clear hu HU
          have c3 : 0 ≤ hv (byteAt s n) := by omega
          have c4 : 0 ≤ hv (byteAt s (n + 1)) := by omega
          have hl2 : acc.length ≤ 20000 := by have := HN.out; omega
          go_wp2_with (first
            | (go_at_call 20; (with_reducible refine (digitIndex _ (by omega) (by omega) _).mono ?_); rintro e w' ⟨rfl, rfl⟩)
            | (at_builtin; refine wpList_append_own _ rfl _ _ 32 rfl w.heap.size 5 i0 (.int .u8 0) 1 1 Try.underlying32 hi hz0 hz1 hz2 rfl (by decide) _ _ _ rfl (hown.alloc _) ⟨wr.heap.size, 0, none⟩ 1 1 (cellsOf [UInt8.ofNat (16 * hv (byteAt s n) + hv (byteAt s (n + 1))).toNat]) rfl rfl (cells_new1 _ _ (by omega) (by omega) _) (cellsOf_one _) (by unfold maxLen; omega) (by omega) (by simp; omega) ?_; intro v' w1 hown1 hgrow _; have hbe1 := (hbe.alloc hbs _).grown hgrow (by simp; omega) (fun j hj => (hown.lt j hj).1); clear hgrow))
          go_wp2
          go_roundw
          case rel => exact ⟨n + 2, acc ++ [UInt8.ofNat (16 * hv (byteAt s n) + hv (byteAt s (n + 1))).toNat], by omega, Lib.hid (by have := HN.out; simp; omega), by go_num, by rw [cellsOf_append, List.length_append]; exact hown1, HU2, hbe1⟩
          case measure => simp [intOf]; omega
    · have hconv := run_text_own (P := Try.prog) wr 32 9 5 Try.underlying32 Try.underlying5 Try.underlying9 hown
      have HU2 := Lib.hid (unhex_end HU.out (List.drop_eq_nil_of_le (by simp; omega)))
      clear HU
      go_wp2
      go_ret2
      exact ⟨(congrArg Ending.returned HU2.out).symm, hbe⟩

end Go.Proofs.Ytklbgnodifnbiaa
