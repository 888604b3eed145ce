/-
  An argument that is a slice of Booleans, opened; CONTRACT of the laws' own helper toBoolS. No law is proved here.
-/
import Derived.Test.YtekimmlpfabhhaaArgNet
import Derived.Test.YtekimmlpfabhhaaBools
import Derived.Test.YtekimmlpfabhhaaReachO
import Derived.OwnWalk
namespace Go.Proofs.Ytekimmlpfabhhaa
set_option maxRecDepth 4096
open Go.ChangeShapes Go.WideShapes Go.ChangeAt Go.RowKit Go.Deep Go.Joins

theorem Try.infoBoolA : (Try.prog.info? 4).map (fun i => (i.zero, i.size, i.bytes)) = some (some (.bool false), 1, 1) := by kernel_rfl
/-- An argument that is a slice of Booleans: nil or empty, or somewhere in a block. -/
def ArgBl (w : World) (v : Value) (o : Nat → Bool) (n : Nat) : Prop :=
  ∃ a c, v = .slice a n c ∧ (n = 0 ∨ ∃ b, a = some b ∧ b.block < w.heap.size ∧ ∀ j, j < n → w.cell? (b.add j) = some (.bool (o j)))
theorem argBl_below {w w1 : World} {v : Value} {o : Nat → Bool} {n : Nat} (h : ArgBl w v o n) (hb : Below w.heap.size w w1) : ArgBl w1 v o n := by
  obtain ⟨a, c, hv, hh⟩ := h
  refine ⟨a, c, hv, ?_⟩
  rcases hh with h0 | ⟨b, ha, hlt, hc⟩
  · exact .inl h0
  · refine .inr ⟨b, ha, Nat.lt_of_lt_of_le hlt hb.size, fun j hj => ?_⟩
    have hbl : (b.add j).block = b.block := by unfold Addr.add; split <;> rfl
    rw [hb.cell (p := b.add j) (by rw [hbl]; exact hlt)]
    exact hc j hj
section
variable {H : Type} {enc : TypeId × Value → H}
theorem open_arg_bools {w : World} {v : Value} {d : DataW H} {ps : List MemPlace} {r : Reach} {b0 : Nat} (hv : Value.okWide Try.prog w r b0 26 v) (h : DataW.Trod enc Try.prog w 0 (fun _ => true) true 26 v d ps) : ∃ o n, ArgBl w v o n ∧ n ≤ maxLen := by
  obtain ⟨a0, len0, cap0, rfl⟩ := okWide_slice Try.underlying26 hv
  obtain ⟨fuel, hf⟩ := h
  rcases open_slice Try.underlying26 hf with h0 | ⟨a, len, cap, m, n, D, Pl, hcs, hb, hl, hm, hmm, hx, hi⟩
  · have hcs := h0.1
    simp [Value.cells] at hcs
    obtain ⟨rfl, rfl, rfl⟩ := hcs
    exact ⟨fun _ => false, 0, ⟨none, 0, rfl, .inl rfl⟩, Nat.zero_le _⟩
  · simp [Value.cells] at hcs
    obtain ⟨rfl, rfl, rfl⟩ := hcs
    have hC : Try.prog.cellsOf 4 = 1 := by kernel_rfl
    have hb1 : ∀ i, ∃ b : Bool, i < len0 → w.cell? (a.add i) = some (.bool b) := fun i => by
      by_cases hil : i < len0
      · have him : i < m := by rw [hmm]; split <;> omega
        obtain ⟨cs', hc, ht'⟩ := hi i him
        obtain ⟨b, e, _⟩ := DataW.trod_bool Try.underlying4 ht'
        rw [hC, Nat.mul_one] at hc
        obtain ⟨_, hcl, hat⟩ := World.cells?_some hc
        have := hat 0 (by omega)
        rw [e] at this
        refine ⟨b, fun _ => ?_⟩
        have hadd : (a.add i).add 0 = a.add i := by unfold Addr.add; simp
        rw [hadd] at this
        simpa using this
      · exact ⟨false, fun h => absurd h hil⟩
    refine ⟨fun i => (hb1 i).choose, len0, ⟨some a, cap0, rfl, ?_⟩, by omega⟩
    by_cases h0 : len0 = 0
    · exact .inl h0
    · have h1 := (hb1 0).choose_spec (by omega)
      have h2 := block_lt_of_cell h1
      rw [add_block] at h2
      exact .inr ⟨a, rfl, h2, fun j hj => (hb1 j).choose_spec hj⟩
end

/-- The row while it is copied. -/
def copyO (o z : Nat → Bool) (k i : Nat) : Bool := if i < k then o i else z i
theorem copyO_set (o z : Nat → Bool) (k n : Nat) : (rowB (copyO o z k) n).set k (.bool (o k)) = rowB (copyO o z (k + 1)) n := by
  apply List.ext_getElem?
  intro j
  rw [List.getElem?_set]
  by_cases hj : j < n
  · rw [rowB_at _ hj, rowB_at _ hj]
    by_cases e : k = j
    · subst e
      rw [if_pos rfl, if_pos (by rw [rowB_len]; exact hj)]
      simp [copyO]
    · rw [if_neg e]
      have h1 : j < k + 1 ↔ j < k := by omega
      simp [copyO, h1]
  · have h1 : ∀ o : Nat → Bool, (rowB o n)[j]? = none := fun o => List.getElem?_eq_none_iff.2 (by rw [rowB_len]; omega)
    rw [h1, h1]
    split
    · rw [if_neg (by rw [rowB_len]; omega)]
    · rfl

set_option maxHeartbeats 400000 in
theorem toBools (v : Value) (o : Nat → Bool) (n : Nat) (w : World) (hv : ArgBl w v o n) (hn : n ≤ 2000000) :
    Calls Try.prog 17 #[v] w (BoolsBack w o n) := by
  obtain ⟨i0, hi, hz0, hz1, hz2⟩ := info_parts Try.infoBoolA
  obtain ⟨av, cv, rfl, HV⟩ := hv
  have HVh := Lib.hid HV
  clear HV
  go_enter Try.func17, Try.ntmps17
  go_wp2_with (at_make; refine wpList_make_full w rfl _ _ 26 rfl w.heap.size 4 i0 (.bool false) 1 Try.underlying26 hi hz0 hz1 .i64 .i64 (n : Int) (n : Int) n rfl rfl rfl rfl (by rw [hz2]; omega) (by unfold maxLen; omega) (Nat.le_refl _) ?_; intro w1 hown0 hgrow0)
  have hown1 : w1.ownsRow w.heap.size 4 1 (.slice (some ⟨w.heap.size, 0, none⟩) n n) n (rowB (fun _ => false) n) := by
    have e : (madeCells (Value.bool false).cells (n * 1)).toList = rowB (fun _ => false) n := by
      rw [Nat.mul_one]
      exact (toList_madeCells_one _ _).trans (rowB_none n)
    rwa [e] at hown0
  have hb0 := (Below.refl w.heap.size w).grown hgrow0 (Nat.le_refl _) (by simp)
  have hgl := (hown0.lt w.heap.size rfl).2
  clear hgrow0 hown0
  go_loopw [4] (fun i wr => ∃ k : Nat, k ≤ n ∧ i = .int .i64 k ∧ wr.ownsRow w.heap.size 4 1 (.slice (some ⟨w.heap.size, 0, none⟩) n n) n (rowB (copyO o (fun _ => false) k) n) ∧ Below w.heap.size w wr) (fun i _ => n - (intOf i).toNat)
  case atStart => exact ⟨0, Nat.zero_le _, rfl, by rw [rowB_upto (o := copyO o (fun _ => false) 0) (o' := fun _ => false) (fun j _ => by simp [copyO])]; exact hown1, hb0⟩
  case round =>
    clear hown1
    obtain ⟨k, hk, rfl, hown, hbe⟩ := hrel
    by_cases hlt : k < n
    · rcases HVh.out with h0 | ⟨b, rfl, hg, hc⟩
      · omega
      · have hbl : (b.add k).block = b.block := by unfold Addr.add; split <;> rfl
        have d0 : wr.cell? (b.add k) = some (.bool (o k)) := (hbe.cell (p := b.add k) (by rw [hbl]; exact hg)).trans (hc k hlt)
        have HST := Lib.hid (copyO_set o (fun _ => false) k n)
        have hk2 : (k : Int) < (n : Int) := by omega
        obtain ⟨u, d1⟩ := own_cell hown hlt
        have d2 := hown.frozenAt k
        clear hc hbl
        go_wp2
        go_roundw
        case rel => exact ⟨k + 1, by omega, by go_num, by rw [← HST.out]; exact (hown.stored k _).1, hbe.setCell (Nat.le_refl _) _⟩
        case measure => simp [intOf]; omega
    · obtain rfl : k = n := by omega
      go_wp2
      go_ret
      refine ⟨_, rfl, ?_, hbe⟩
      have e : rowB (copyO o (fun _ => false) k) k = rowB o k := rowB_upto fun j hj => by simp [copyO, hj]
      rwa [e] at hown

theorem Keep.held2B {w : World} {X : Nat} {N : Int} {u v2 : Value} {A : List ArcD} {w' w'' : World} (h : Keep w X N u v2 A w') {f2 : Value} {o : Nat → Bool} {m : Nat} (hI : Bools w' f2 o m) (hb : Below w'.heap.size w' w'') :
    w''.cell? ⟨w.heap.size, 0, none⟩ = some (.int .i64 N) ∧ w''.cell? ⟨w.heap.size, 1, none⟩ = some u ∧ w''.cell? ⟨X, 0, none⟩ = some (.int .i64 N) ∧ w''.cell? ⟨X, 1, none⟩ = some v2 ∧ Keep w X N u v2 A w'' ∧ Bools w'' f2 o m :=
  ⟨(net_cells (h.on hb).below).1, (net_cells (h.on hb).below).2, (h.on hb).c2, (h.on hb).c3, h.on hb, bools_on hI hb⟩

theorem Keep.held3B {w : World} {X : Nat} {N : Int} {u v2 : Value} {A : List ArcD} {w' w'' : World} (h : Keep w X N u v2 A w') {f2 q2 : Value} {F : List Int} {o : Nat → Bool} {m : Nat} (hI : Ints w' f2 F) (hQ : Bools w' q2 o m) (hb : Below w'.heap.size w' w'') :
    w''.cell? ⟨w.heap.size, 0, none⟩ = some (.int .i64 N) ∧ w''.cell? ⟨w.heap.size, 1, none⟩ = some u ∧ w''.cell? ⟨X, 0, none⟩ = some (.int .i64 N) ∧ w''.cell? ⟨X, 1, none⟩ = some v2 ∧ Keep w X N u v2 A w'' ∧ Ints w'' f2 F ∧ Bools w'' q2 o m :=
  ⟨(net_cells (h.on hb).below).1, (net_cells (h.on hb).below).2, (h.on hb).c2, (h.on hb).c3, h.on hb, ints_on hI hb, bools_on hQ hb⟩

end Go.Proofs.Ytekimmlpfabhhaa
