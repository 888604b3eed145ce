/-
  Plain facts on the text of a map: its lines, its bytes, and that it says which map it is. No statement is proved here.
-/
import Derived.Test.YtcofajganakbiaaDoorSplit
import Derived.Test.YtcofajganakbiaaDoorTextOf
import Derived.Test.YtcofajganakbiaaDoorReadNum
namespace Go.Proofs.YtcofajganakbiaaDoor
open Go.ChangeShapes Go.WideShapes Go.ChangeAt Go.RowKit

/-- T is the text of this valid map. -/
def Good (a b : Nat) (C T : ByteArray) : Prop := gok a b C = true ∧ textT a b C = T

theorem good_sides {a b : Nat} {C T : ByteArray} (h : Good a b C T) : 1 ≤ a ∧ a ≤ 8 ∧ 1 ≤ b ∧ b ≤ 8 ∧ C.size = a * b := by
  obtain ⟨⟨⟨h1, h2⟩, ⟨h3, h4⟩, hs⟩, _⟩ := gok_out h.1
  exact ⟨by omega, by omega, by omega, by omega, by have : ((a * b : Nat) : Int) = (a : Int) * (b : Int) := Int.natCast_mul a b; omega⟩

def hL (b : Nat) : List UInt8 := [104, 101, 105, 103, 104, 116, 32, UInt8.ofNat (48 + b)]
def wL (a : Nat) : List UInt8 := [119, 105, 100, 116, 104, 32, UInt8.ofNat (48 + a)]
def mL : List UInt8 := [109, 97, 112]
theorem headT_list (a b : Nat) : (headT a b).data.toList = hL b ++ 10 :: (wL a ++ 10 :: (mL ++ 10 :: [])) := by
  unfold headT digT hL wL mL
  simp
def rowsL (a b : Nat) (C : ByteArray) : List (List UInt8) := (List.range b).map fun y => (rowT C a y).data.toList

theorem textL_list (a b : Nat) (C : ByteArray) : textL a b C b = hL b ++ 10 :: (wL a ++ 10 :: (mL ++ 10 :: (rowsL a b C).flatMap fun r => r ++ [10])) := by
  unfold textL rowsL
  rw [headT_list, List.flatMap_map]
  simp

theorem dig_nl {n : Nat} (h : n ≤ 8) : UInt8.ofNat (48 + n) ≠ 10 := by
  intro e
  have := congrArg UInt8.toNat e
  rw [UInt8.toNat_ofNat'] at this
  change _ = 10 at this
  omega
theorem hL_nl {b : Nat} (h : b ≤ 8) : ∀ c ∈ hL b, c ≠ 10 := by
  intro c hc
  simp only [hL, List.mem_cons, List.not_mem_nil, or_false] at hc
  rcases hc with rfl | rfl | rfl | rfl | rfl | rfl | rfl | rfl
  all_goals first | decide | exact dig_nl h
theorem wL_nl {a : Nat} (h : a ≤ 8) : ∀ c ∈ wL a, c ≠ 10 := by
  intro c hc
  simp only [wL, List.mem_cons, List.not_mem_nil, or_false] at hc
  rcases hc with rfl | rfl | rfl | rfl | rfl | rfl | rfl
  all_goals first | decide | exact dig_nl h
theorem mL_nl : ∀ c ∈ mL, c ≠ 10 := by decide

theorem kind_nl {C : ByteArray} {j : Nat} (hj : j < C.size) (h : kindB (byteAt C j) = true) : C.data.toList[j]'(by simpa using hj) ≠ 10 := by
  intro e
  have hb : byteAt C j = 10 := by
    unfold byteAt
    rw [List.getD_eq_getElem?_getD, List.getElem?_eq_getElem (by simpa using hj), Option.getD_some, e]
    rfl
  rw [hb] at h
  exact absurd h (by decide)

theorem rows_nl {a b : Nat} {C : ByteArray} (hk : Kinds C C.size) (hs : C.size = a * b) : ∀ r ∈ rowsL a b C, ∀ c ∈ r, c ≠ 10 := by
  intro r hr c hc
  obtain ⟨y, hy, rfl⟩ := List.mem_map.1 hr
  have hy2 : y < b := by simpa using hy
  have hle : (y + 1) * a ≤ C.size := by rw [hs, Nat.mul_comm a b]; exact Nat.mul_le_mul_right a (by omega)
  obtain ⟨x, hx, rfl⟩ := List.getElem_of_mem hc
  have hxa : x < a := by
    have : x < (rowT C a y).size := by simpa using hx
    rwa [row_size C a y hle] at this
  have h1 : (y + 1) * a = y * a + a := by rw [Nat.add_mul, Nat.one_mul]
  have hk2 := hk (y * a + x) (by omega)
  rw [← row_byte C a y x hle hxa] at hk2
  exact kind_nl (by simpa using hx) hk2

/-- The lines of the text. -/
theorem good_lines {a b : Nat} {C T : ByteArray} (h : Good a b C T) : spl T.data.toList = hL b :: wL a :: mL :: (rowsL a b C ++ [[]]) := by
  obtain ⟨h1, h2, h3, h4, hs⟩ := good_sides h
  have hT : T.data.toList = textL a b C b := by rw [← h.2]; rfl
  rw [hT, textL_list, spl_at (hL_nl h4), spl_at (wL_nl h2), spl_at mL_nl, spl_rows _ (rows_nl (gok_out h.1).2 hs)]

theorem rows_upto (a : Nat) (C : ByteArray) : ∀ b, b * a ≤ C.size → (rowsL a b C).flatten = C.data.toList.take (b * a) := by
  intro b
  induction b with
  | zero => intro _; simp [rowsL]
  | succ b ih =>
    intro h
    have h1 : (b + 1) * a = b * a + a := by rw [Nat.add_mul, Nat.one_mul]
    have hr : rowsL a (b + 1) C = rowsL a b C ++ [(rowT C a b).data.toList] := by simp [rowsL, List.range_succ]
    rw [hr, List.flatten_append, ih (by omega), h1, List.take_add]
    unfold rowT
    rw [ByteArray.data_extract, Array.toList_extract, List.extract_eq_take_drop, h1]
    simp
theorem rows_flat {a b : Nat} {C : ByteArray} (hs : C.size = a * b) : (rowsL a b C).flatten = C.data.toList := by
  have e : b * a = C.data.toList.length := by rw [Nat.mul_comm, ← hs]; simp
  rw [rows_upto a C b (by rw [hs, Nat.mul_comm]; exact Nat.le_refl _), e, List.take_length]

theorem dig_inj {m n : Nat} (hm : m ≤ 8) (hn : n ≤ 8) (h : UInt8.ofNat (48 + m) = UInt8.ofNat (48 + n)) : m = n := by
  have := congrArg UInt8.toNat h
  rw [UInt8.toNat_ofNat', UInt8.toNat_ofNat'] at this
  omega

/-- A text is the text of one map at most. -/
theorem good_one {a b a' b' : Nat} {C C' T : ByteArray} (h : Good a b C T) (h' : Good a' b' C' T) : a = a' ∧ b = b' ∧ C = C' := by
  obtain ⟨_, ha, _, hb, hs⟩ := good_sides h
  obtain ⟨_, ha', _, hb', hs'⟩ := good_sides h'
  have e := (good_lines h).symm.trans (good_lines h')
  injection e with e1 e
  injection e with e2 e
  injection e with e3 e
  have hbb : b = b' := dig_inj hb hb' (by unfold hL at e1; simpa using e1)
  have haa : a = a' := dig_inj ha ha' (by unfold wL at e2; simpa using e2)
  refine ⟨haa, hbb, ?_⟩
  have e4 := List.append_cancel_right e
  apply ByteArray.ext
  apply Array.toList_inj.1
  rw [← rows_flat hs, ← rows_flat hs', e4]

theorem trim_h (b : Nat) : Lib.trimPrefix (hL b) [104, 101, 105, 103, 104, 116, 32] = [UInt8.ofNat (48 + b)] := by
  simp [Lib.trimPrefix, Lib.hasPrefix, hL, List.isPrefixOf]
theorem trim_w (a : Nat) : Lib.trimPrefix (wL a) [119, 105, 100, 116, 104, 32] = [UInt8.ofNat (48 + a)] := by
  simp [Lib.trimPrefix, Lib.hasPrefix, wL, List.isPrefixOf]
theorem read_dig {n : Nat} {v : Int} {ok : Bool} (hn : n ≤ 8) (h : ReadIs (digT n) v ok) : v = n := by
  have h2 : ReadIs (digT n) n true := yes_same (by omega) (by omega) (itoa_digit n (by omega)).symm
  exact (readIs_same h h2).1

end Go.Proofs.YtcofajganakbiaaDoor
