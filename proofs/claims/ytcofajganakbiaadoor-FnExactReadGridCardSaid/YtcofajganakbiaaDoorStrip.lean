/-
  Plain facts on the bytes of a map's text behind its head: the rows without their newlines. No statement is proved here.
-/
import Derived.Test.YtcofajganakbiaaDoorParse
namespace Go.Proofs.YtcofajganakbiaaDoor
open Go.ChangeShapes Go.WideShapes Go.ChangeAt Go.RowKit

/-- The bytes at the places whose remainder by a + 1 is below a, from remainder k on. -/
def strip (a : Nat) : Nat → List UInt8 → List UInt8
  | _, [] => []
  | k, c :: l => if k < a then c :: strip a ((k + 1) % (a + 1)) l else strip a ((k + 1) % (a + 1)) l

theorem strip_row (a : Nat) (t : List UInt8) : ∀ (r : List UInt8) (k : Nat), r.length + k = a → strip a k (r ++ 10 :: t) = r ++ strip a 0 t
  | [], k, h => by
    obtain rfl : k = a := by simpa using h
    rw [List.nil_append, strip, if_neg (Nat.lt_irrefl _), Nat.mod_self]
    rfl
  | c :: r, k, h => by
    have hk : k < a := by simp at h; omega
    rw [List.cons_append, strip, if_pos hk, Nat.mod_eq_of_lt (by omega), strip_row a t r (k + 1) (by simp at h; omega)]
    rfl
theorem strip_rows (a : Nat) (rs : List (List UInt8)) (h : ∀ r ∈ rs, r.length = a) : strip a 0 (rs.flatMap fun r => r ++ [10]) = rs.flatten := by
  induction rs with
  | nil => rfl
  | cons r rs ih =>
    rw [List.flatMap_cons, List.append_assoc, List.singleton_append, strip_row a _ r 0 (h r (by simp)), ih (fun x hx => h x (by simp [hx]))]
    rfl
theorem strip_step (a i : Nat) (R : List UInt8) (h : i < R.length) :
    strip a (i % (a + 1)) (R.drop i) = if i % (a + 1) < a then R[i] :: strip a ((i + 1) % (a + 1)) (R.drop (i + 1)) else strip a ((i + 1) % (a + 1)) (R.drop (i + 1)) := by
  rw [List.drop_eq_getElem_cons h, strip, Nat.mod_add_mod]

theorem rowsL_len {a b : Nat} {C : ByteArray} (hs : C.size = a * b) : ∀ r ∈ rowsL a b C, r.length = a := by
  intro r hr
  obtain ⟨y, hy, rfl⟩ := List.mem_map.1 hr
  have hy2 : y < b := by simpa using hy
  have hle : (y + 1) * a ≤ C.size := by rw [hs, Nat.mul_comm a b]; exact Nat.mul_le_mul_right a (by omega)
  have := row_size C a y hle
  simpa using this
theorem flat_len (a : Nat) (rs : List (List UInt8)) (h : ∀ r ∈ rs, r.length = a) : (rs.flatMap fun r => r ++ [10]).length = rs.length * (a + 1) := by
  induction rs with
  | nil => simp
  | cons r rs ih =>
    rw [List.flatMap_cons, List.length_append, List.length_append, ih (fun x hx => h x (by simp [hx])), h r (by simp), show (r :: rs).length = rs.length + 1 from rfl, Nat.add_mul, Nat.one_mul, show ([10] : List UInt8).length = 1 from rfl]
    omega

theorem good_list {a b : Nat} {C T : ByteArray} (h : Good a b C T) : T.data.toList = (headT a b).data.toList ++ (rowsL a b C).flatMap fun r => r ++ [10] := by
  have hT : T.data.toList = textL a b C b := by rw [← h.2]; rfl
  rw [hT, textL_list, headT_list]
  simp
theorem head_len (a b : Nat) : (headT a b).data.toList.length = 21 := by
  have := headT_size a b
  simpa using this
theorem good_size {a b : Nat} {C T : ByteArray} (h : Good a b C T) : T.size = 21 + b * (a + 1) := by
  obtain ⟨_, _, _, _, hs⟩ := good_sides h
  have e := congrArg List.length (good_list h)
  rw [List.length_append, head_len, flat_len a _ (rowsL_len hs)] at e
  have : (rowsL a b C).length = b := by simp [rowsL]
  rw [this] at e
  simpa using e
theorem good_head {a b : Nat} {C T : ByteArray} (h : Good a b C T) : T.extract 0 21 = headT a b := by
  apply ByteArray.ext
  apply Array.toList_inj.1
  rw [ByteArray.data_extract, Array.toList_extract, List.extract_eq_take_drop, good_list h, List.drop_zero, List.take_append_of_le_length (by rw [head_len]; exact Nat.le_refl _), List.take_of_length_le (by rw [head_len]; exact Nat.le_refl _)]
theorem good_strip {a b : Nat} {C T : ByteArray} (h : Good a b C T) : strip a 0 (T.data.toList.drop 21) = C.data.toList := by
  obtain ⟨_, _, _, _, hs⟩ := good_sides h
  rw [good_list h, List.drop_append_of_le_length (by rw [head_len]; exact Nat.le_refl _), List.drop_of_length_le (by rw [head_len]; exact Nat.le_refl _), List.nil_append, strip_rows a _ (rowsL_len hs), rows_flat hs]

end Go.Proofs.YtcofajganakbiaaDoor
