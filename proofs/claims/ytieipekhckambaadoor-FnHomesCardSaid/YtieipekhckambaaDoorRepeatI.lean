/-
  CONTRACTS of math/bits.Mul64 and math/bits.Mul: the product's two halves. No law is proved here.
  CONTRACT of slices.Repeat at a slice of one int. No law is proved here.
-/
import Derived.Test.YtieipekhckambaaDoorBase
import Derived.Lib.Mul64
import Derived.Laws.Bits64b
import Derived.Test.YtieipekhckambaaDoorIntsBack
import Derived.Laws.CopyOwn
import Derived.Deep.RegionLaw
import Derived.IntWalk
namespace Go.Proofs.YtieipekhckambaaDoor
set_option maxRecDepth 4096
open Go.ChangeShapes Go.WideShapes Go.ChangeAt Go.RowKit Go.Lib

theorem mulMask (a : Nat) (ha : a < 18446744073709551616) : bits .and .u64 (a : Int) 4294967295 = ((a % 4294967296 : Nat) : Int) := by
  have h := bits_and_u64_nat a 4294967295 ha (by omega)
  have e : a &&& 4294967295 = a % 4294967296 := Nat.and_two_pow_sub_one_eq_mod a 32
  rw [e] at h
  exact h
theorem mulDiv (a : Nat) : (a : Int) / 4294967296 = ((a / 4294967296 : Nat) : Int) := by omega
theorem mulMul (a b : Nat) : (a : Int) * (b : Int) = ((a * b : Nat) : Int) := (Int.natCast_mul a b).symm
theorem mulAdd (a b : Nat) : (a : Int) + (b : Int) = ((a + b : Nat) : Int) := (Int.natCast_add a b).symm
theorem mulWrap (a : Nat) (ha : a < 18446744073709551616) : IntKind.u64.wrap (a : Int) = (a : Int) := by rw [IntKind.wrap_u64]; omega
theorem mulMod (a : Nat) : IntKind.u64.wrap (a : Int) = ((a % 18446744073709551616 : Nat) : Int) := by rw [IntKind.wrap_u64]; omega

/-- What the product's call returns. -/
def Product (x y : Nat) (w : World) (e : Ending) (w' : World) : Prop := e = .returned (.tuple #[.int .u64 ((x * y / 18446744073709551616 : Nat) : Int), .int .u64 ((x * y % 18446744073709551616 : Nat) : Int)]) ∧ w = w'

set_option maxHeartbeats 1000000 in
theorem mul64I (x y : Nat) (hx : x < 18446744073709551616) (hy : y < 18446744073709551616) (w : World) :
    Calls Tryd.prog 86 #[.int .u64 x, .int .u64 y] w (Product x y w) := by
  obtain ⟨bd, bt, bw, hhi⟩ := Lib.mul64_hi x y hx hy
  have ba := Lib.half_mul_le (a := x / 4294967296) (b := y / 4294967296) (by omega) (by omega)
  have bb := Lib.half_mul_le (a := x / 4294967296) (b := y % 4294967296) (by omega) (by omega)
  have bc := Lib.half_mul_le (a := x % 4294967296) (b := y / 4294967296) (by omega) (by omega)
  have ba' : x / 4294967296 * (y / 4294967296) < 18446744073709551616 := by omega
  have bb' : x / 4294967296 * (y % 4294967296) < 18446744073709551616 := by omega
  have bc' : x % 4294967296 * (y / 4294967296) < 18446744073709551616 := by omega
  have bh1 : x / 4294967296 * (y / 4294967296) + (x / 4294967296 * (y % 4294967296) + x % 4294967296 * (y % 4294967296) / 4294967296) / 4294967296 < 18446744073709551616 := by omega
  have bh : x / 4294967296 * (y / 4294967296) + (x / 4294967296 * (y % 4294967296) + x % 4294967296 * (y % 4294967296) / 4294967296) / 4294967296 + ((x / 4294967296 * (y % 4294967296) + x % 4294967296 * (y % 4294967296) / 4294967296) % 4294967296 + x % 4294967296 * (y / 4294967296)) / 4294967296 < 18446744073709551616 := by omega
  go_enter Tryd.func86, Tryd.ntmps86
  go_wp2
  simp only [mulMask x hx, mulMask y hy, mulDiv, mulMul, mulAdd, mulWrap _ bd, mulWrap _ bb', mulWrap _ bt, mulMask _ bt, mulWrap _ bc', mulWrap _ bw, mulWrap _ ba', mulWrap _ bh1, mulWrap _ bh, mulMod (x * y)]
  rw [hhi]
  go_ret2
  exact ⟨rfl, rfl⟩

theorem mulI (x y : Nat) (hx : x < 18446744073709551616) (hy : y < 18446744073709551616) (w : World) :
    Calls Tryd.prog 65 #[.int .u64 x, .int .u64 y] w (Product x y w) := by
  go_enter Tryd.func65, Tryd.ntmps65
  go_wp2_with (go_at_call 86; (with_reducible refine (mul64I x y hx hy _).mono ?_); rintro e w' ⟨rfl, rfl⟩)
  go_ret2
  exact ⟨rfl, rfl⟩

end Go.Proofs.YtieipekhckambaaDoor

namespace Go.Proofs.YtieipekhckambaaDoor
set_option maxRecDepth 4096
open Go.ChangeShapes Go.WideShapes Go.ChangeAt Go.RowKit Go.Lib

theorem mulOne (n : Nat) (hn : n ≤ 64) (w : World) : Calls Tryd.prog 65 #[.int .u64 1, .int .u64 n] w fun e w' => e = .returned (.tuple #[.int .u64 0, .int .u64 n]) ∧ w = w' := by
  refine (mulI 1 n (by omega) (by omega) w).mono ?_
  rintro e w' ⟨rfl, rfl⟩
  have e1 : (1 * n / 18446744073709551616 : Nat) = 0 := by omega
  have e2 : (1 * n % 18446744073709551616 : Nat) = n := by omega
  rw [e1, e2]
  exact ⟨rfl, rfl⟩

theorem infoI : (Tryd.prog.info? 3).map (·.size) = some 1 := by kernel_rfl
theorem own_block {w : World} {B : Nat} {e : TypeId} {g n c : Nat} {xs : List Value} (h : w.ownsRow B e 1 (.slice (some ⟨g, 0, none⟩) n c) n xs) : ∃ cur : List Value, w.heap[g]? = some (.cells cur.toArray e (0, 0)) ∧ cur.length = c := by
  rcases h.2 with ⟨h1, _⟩ | ⟨g', c', cur, h1, _, hg, _, _, hs, _⟩
  · cases h1
  · injection h1 with h1 _ h2
    injection h1 with h1
    injection h1 with h1
    subst h1
    subst h2
    exact ⟨cur.toList, by simpa using hg, by simpa using hs⟩
theorem one_min {n : Nat} (h : 1 ≤ n) (x : Int) : [Value.int .i64 x].length = Nat.min 1 n := by
  show 1 = min 1 n
  omega
theorem one_cell {w : World} {g : Nat} {x : Int} (h : w.cell? ⟨g, 0, none⟩ = some (.int .i64 x)) : ∀ j v, [Value.int .i64 x][j]? = some v → w.cell? ((⟨g, 0, none⟩ : Addr).add j) = some v := by
  intro j v hj
  match j, hj with
  | 0, hj => rw [← Option.some.inj hj]; exact h
theorem one_one (x : Int) : ∀ v ∈ [Value.int .i64 x], v.oneCell' = true := by
  intro v hv
  rw [List.mem_singleton.1 hv]
  rfl

/-- k copies lie there. -/
def Rep (x : Int) (n g k : Nat) (w : World) : Prop := ∃ cur : List Value, cur.length = n ∧ cur.take k = List.replicate k (.int .i64 x) ∧ w.heap[g]? = some (.cells cur.toArray 3 (0, 0))
theorem rep_start {x : Int} {n g : Nat} {cur : List Value} {w : World} (hl : cur.length = n) (h1 : 1 ≤ n) (h : w.heap[g]? = some (.cells (splice cur 0 [.int .i64 x]).toArray 3 (0, 0))) : Rep x n g 1 w := by
  refine ⟨_, ?_, ?_, h⟩
  · simp [splice]; omega
  · simp [splice]
theorem rep_min {n k m : Nat} (h : m = min k (n - k)) (x : Int) : (List.replicate m (Value.int .i64 x)).length = Nat.min k (n - k) := by
  rw [List.length_replicate, h]
theorem rep_one (x : Int) (m : Nat) : ∀ v ∈ List.replicate m (Value.int .i64 x), v.oneCell' = true := by
  intro v hv
  rw [(List.mem_replicate.1 hv).2]
  rfl
theorem rep_cells {x : Int} {g k m : Nat} {cur : List Value} {w : World} (ht : cur.take k = List.replicate k (.int .i64 x)) (h : w.heap[g]? = some (.cells cur.toArray 3 (0, 0))) (hm : m ≤ k) :
    ∀ j v, (List.replicate m (Value.int .i64 x))[j]? = some v → w.cell? ((⟨g, 0, none⟩ : Addr).add j) = some v := by
  intro j v hj
  have hadd : (⟨g, 0, none⟩ : Addr).add j = ⟨g, j, none⟩ := by unfold Addr.add; split <;> simp_all
  have hjm : j < m := by have := (List.getElem?_eq_some_iff.1 hj).1; simpa using this
  have e : cur[j]? = some v := by
    have h2 : (cur.take k)[j]? = cur[j]? := List.getElem?_take_of_lt (by omega)
    rw [← h2, ht, List.getElem?_replicate, if_pos (by omega)]
    rw [List.getElem?_replicate, if_pos hjm] at hj
    exact hj
  rw [hadd, cell_of_row _ _ j _ _ _ h]
  simpa using e
theorem rep_next {x : Int} {n g k m : Nat} {cur : List Value} {w : World} (ht : cur.take k = List.replicate k (.int .i64 x)) (hl : cur.length = n) (hk : k + m ≤ n) (h : w.heap[g]? = some (.cells (splice cur k (List.replicate m (.int .i64 x))).toArray 3 (0, 0))) : Rep x n g (k + m) w := by
  refine ⟨_, ?_, ?_, h⟩
  · simp [splice]; omega
  · unfold splice
    rw [ht, ← List.append_assoc, List.replicate_append_replicate, List.take_append_of_le_length (by simp), List.take_of_length_le (by simp)]
theorem rep_end {x : Int} {n : Nat} {w wr : World} (h : Rep x n w.heap.size n wr) (hb : Below w.heap.size w wr) (hn : n ≤ maxLen) : IntsBack w (List.replicate n x) (.returned (.slice (some ⟨w.heap.size, 0, none⟩) n n)) wr := by
  obtain ⟨cur, hl, ht, hc⟩ := h
  refine ⟨_, rfl, ?_, hb⟩
  rw [List.length_replicate]
  refine ⟨by simp, .inr ⟨w.heap.size, n, _, rfl, Nat.le_refl _, hc, Nat.le_refl _, hn, by simpa using hl, ?_⟩⟩
  rw [List.map_replicate, ← ht]
  simp

set_option maxHeartbeats 1000000 in
theorem repeatI (n : Nat) (x : Int) (gx cx : Nat) (h1 : 1 ≤ n) (hn : n ≤ 64) (w : World) (hx : w.cell? ⟨gx, 0, none⟩ = some (.int .i64 x)) :
    Calls Tryd.prog 51 #[.slice (some ⟨gx, 0, none⟩) 1 cx, .int .i64 n] w (IntsBack w (List.replicate n x)) := by
  obtain ⟨i0, hi, hz0, hz1, hz2⟩ := info_parts Tryd.info3
  have hn0 : ¬ (n : Int) < 0 := by omega
  have hn9 : ¬ (9223372036854775807 : Int) < (n : Int) := by omega
  have hw : IntKind.u64.wrap (n : Int) = n := by rw [IntKind.wrap_u64]; omega
  have hw2 : IntKind.i64.wrap (n : Int) = n := IntWalk.i64_in _ (by omega)
  go_enter Tryd.func51, Tryd.ntmps51
  go_wp2_with (first
    | (go_at_call 65; (with_reducible refine (mulOne n hn _).mono ?_); rintro e w' ⟨rfl, rfl⟩)
    | (at_make; refine wpList_make_full _ rfl (.tmp 29) (.tmp 29) 26 rfl w.heap.size 3 i0 (.int .i64 0) 1 Tryd.underlying26 hi hz0 hz1 .i64 .i64 n n n rfl rfl rfl rfl (by rw [hz2]; omega) (by unfold maxLen; omega) (Nat.le_refl _) ?_; intro w1 hown hgr; obtain ⟨cur, hcur, hcl⟩ := own_block hown; have hx1 : w1.cell? ⟨gx, 0, none⟩ = some (.int .i64 x) := hgr.cell hx (by simp); have hb1 : Below w.heap.size w w1 := (Below.refl _ w).grown hgr (Nat.le_refl _) (fun k e => by cases e); clear hown hgr hx)
    | (with_reducible refine wpList_copy_splice rfl (.tmp 31) (.tmp 32) 26 26 rfl 3 Tryd.underlying26 infoI (some ⟨w.heap.size, 0, none⟩) (some ⟨gx, 0, none⟩) n n 1 cx rfl rfl w.heap.size 0 cur 3 hcur [.int .i64 x] (one_min h1 x) (fun _ => ⟨rfl, _, rfl, one_cell hx1⟩) (by rw [hcl]; simpa using h1) (one_one x) w.heap.size w hb1 (Nat.le_refl _) ?_; intro w2 hcur2 hb2; clear hcur hb1 hx1))
  obtain ⟨k0, hk0⟩ : ∃ k : Nat, k = 1 := ⟨_, rfl⟩
  have HR := Lib.hid (rep_start hcl h1 hcur2.out)
  clear hcur2 hk0
  go_loopw [8] (fun i wr => ∃ k : Nat, 1 ≤ k ∧ k ≤ n ∧ i = .int .i64 k ∧ Rep x n w.heap.size k wr ∧ Below w.heap.size w wr) (fun i _ => n - (intOf i).toNat)
  case atStart => exact ⟨1, Nat.le_refl _, h1, rfl, HR.out, hb2⟩
  case round =>
    clear hb2 HR
    obtain ⟨k, hk1, hkn, rfl, hR, hb⟩ := hrel
    by_cases hlt : k < n
    · obtain ⟨cur2, hl2, ht2, hcur⟩ := hR
      have hlt2 : (k : Int) < (n : Int) := by omega
      have hnk : ¬ n = k := by omega
      have HT := Lib.hid ht2
      have HL := Lib.hid hl2
      obtain ⟨m, hm⟩ : ∃ m, m = min k (n - k) := ⟨_, rfl⟩
      have HM := Lib.hid hm
      have hmb : m ≤ k ∧ k + m ≤ n ∧ 1 ≤ m := by omega
      have hwk : IntKind.i64.wrap ((k : Int) + (m : Int)) = (k : Int) + (m : Int) := IntWalk.i64_in _ (by omega)
      clear hm ht2 hl2
      go_wp2_with fail
      go_region_law (refine step_copy_splice rfl (.tmp 41) (.tmp 44) 26 26 rfl 3 Tryd.underlying26 infoI (some ⟨w.heap.size, k, none⟩) (some ⟨w.heap.size, 0, none⟩) (n - k) (n - k) k n (by simp [Act.eval, Act.put]) (by simp [Act.eval, Act.put]) w.heap.size k cur2 3 hcur (List.replicate m (.int .i64 x)) (rep_min HM.out x) (fun _ => ⟨rfl, _, rfl, rep_cells HT.out hcur hmb.1⟩) (by rw [HL.out, List.length_replicate]; omega) (rep_one x m) w.heap.size w hb.drew (Nat.le_refl _) ?_; intro w5 hcur5 hb5)
      all_goals
        have HE := Lib.hid (rep_next HT.out HL.out hmb.2.1 hcur5.out)
        clear hcur hb hcur5
        go_simp
        change _ ∧ _
        refine ⟨⟨_, _, _, _, _, _, _, _, _, _, _, _, _, _, ⟨k + m, by omega, by omega, by go_num, HE.out, hb5⟩, rfl⟩, ?_⟩
        simp [intOf]; omega
    · obtain rfl : k = n := by omega
      go_wp2_with fail
      go_ret
      exact rep_end hR hb (by unfold maxLen; omega)

end Go.Proofs.YtieipekhckambaaDoor

