/-
  CONTRACTS of the laws' own helpers on slices of ints: eqIntS, markIntS, heldIntS. No law is proved here.
-/
import Derived.Test.YtpihkmjmolmgcaaBase
import Derived.Deep.QuietTactic
import Derived.BigQuiet
import Derived.Deep.RegionWith
import Derived.Laws.OwnMore
namespace Go.Proofs.Ytpihkmjmolmgcaa
set_option maxRecDepth 4096
open Go.ChangeShapes Go.WideShapes Go.ChangeAt Go.RowKit

/-- A list of ints that lies in memory: nil or empty, or at the head of a block. -/
def Ints (w : World) (v : Value) (L : List Int) : Prop :=
  (L = [] ∧ ∃ a c, v = .slice a 0 c) ∨ ∃ g c, v = .slice (some ⟨g, 0, none⟩) L.length c ∧ g < w.heap.size ∧ ∀ (j : Nat) x, L[j]? = some x → w.cell? ⟨g, j, none⟩ = some (.int .i64 x)

theorem ints_of_own {w : World} {B : Nat} {e : TypeId} {v : Value} {L : List Int} (h : w.ownsRow B e 1 v L.length (L.map (Value.int .i64))) : Ints w v L := by
  rcases h.2 with ⟨rfl, h0⟩ | ⟨g, cap, cur, rfl, _, hh, _⟩
  · exact .inl ⟨List.eq_nil_of_length_eq_zero h0, _, _, rfl⟩
  · refine .inr ⟨g, cap, rfl, (Array.getElem?_eq_some_iff.1 hh).1, fun j x hx => ?_⟩
    have := h.cells (g := g) rfl j (.int .i64 x) (by rw [List.getElem?_map, hx]; rfl)
    have hadd : (⟨g, 0, none⟩ : Addr).add j = ⟨g, j, none⟩ := by unfold Addr.add; split <;> simp_all
    rwa [hadd] at this

theorem ints_form {w : World} {v : Value} {L : List Int} (h : Ints w v L) : ∃ a c, v = .slice a L.length c ∧ (L.length = 0 ∨ ∃ g, a = some ⟨g, 0, none⟩ ∧ g < w.heap.size ∧ ∀ (j : Nat) x, L[j]? = some x → w.cell? ⟨g, j, none⟩ = some (.int .i64 x)) := by
  rcases h with ⟨rfl, a, c, rfl⟩ | ⟨g, c, rfl, hg, hc⟩
  · exact ⟨a, c, rfl, .inl rfl⟩
  · exact ⟨_, c, rfl, .inr ⟨g, rfl, hg, hc⟩⟩

/-- A call has only read, and has returned v. -/
def Quiet (w : World) (v : Value) (e : Ending) (w' : World) : Prop := e = .returned v ∧ ∃ n, w' = w.drewN n

set_option maxHeartbeats 400000 in
theorem eqInts (v1 v2 : Value) (L : List Int) (w : World) (h1 : Ints w v1 L) (h2 : Ints w v2 L) (hL : L.length ≤ 2000000) :
    Calls Try.prog 27 #[v1, v2] w (Quiet w (.bool true)) := by
  by_cases h0 : L.length = 0
  · obtain ⟨a1, c1, rfl⟩ : ∃ a c, v1 = .slice a 0 c := by
      rcases h1 with ⟨_, h⟩ | ⟨g, c, rfl, _⟩
      · exact h
      · exact ⟨_, c, by rw [h0]⟩
    obtain ⟨a2, c2, rfl⟩ : ∃ a c, v2 = .slice a 0 c := by
      rcases h2 with ⟨_, h⟩ | ⟨g, c, rfl, _⟩
      · exact h
      · exact ⟨_, c, by rw [h0]⟩
    clear h1 h2
    go_enter Try.func27, Try.ntmps27
    go_wp2
    refine wp_loop_rounds 1 ?_
    rw [rounds_succ]
    go_wp2
    go_ret
    exact ⟨rfl, 0, rfl⟩
  · obtain ⟨g1, c1, rfl, _, hc1⟩ : ∃ g c, v1 = .slice (some ⟨g, 0, none⟩) L.length c ∧ g < w.heap.size ∧ ∀ (j : Nat) x, L[j]? = some x → w.cell? ⟨g, j, none⟩ = some (.int .i64 x) := by
      rcases h1 with ⟨rfl, _⟩ | h
      · exact absurd rfl h0
      · exact h
    obtain ⟨g2, c2, rfl, _, hc2⟩ : ∃ g c, v2 = .slice (some ⟨g, 0, none⟩) L.length c ∧ g < w.heap.size ∧ ∀ (j : Nat) x, L[j]? = some x → w.cell? ⟨g, j, none⟩ = some (.int .i64 x) := by
      rcases h2 with ⟨rfl, _⟩ | h
      · exact absurd rfl h0
      · exact h
    have H1 := Lib.hid hc1
    have H2 := Lib.hid hc2
    clear hc1 hc2 h1 h2 h0
    go_enter Try.func27, Try.ntmps27
    go_wp2
    go_loopw [5] (fun i wr => ∃ k m : Nat, k ≤ L.length ∧ i = .int .i64 k ∧ wr = w.drewN m) (fun i _ => L.length - (intOf i).toNat)
    case atStart => exact ⟨0, 0, Nat.zero_le _, rfl, rfl⟩
    case round =>
      obtain ⟨k, m, hk, rfl, rfl⟩ := hrel
      by_cases hlt : k < L.length
      · obtain ⟨x, hx⟩ : ∃ x, L[k]? = some x := ⟨_, List.getElem?_eq_getElem hlt⟩
        have d1 : w.cell? ⟨g1, k, none⟩ = some (.int .i64 x) := H1.out k x hx
        have d2 : w.cell? ⟨g2, k, none⟩ = some (.int .i64 x) := H2.out k x hx
        have hlt2 : (k : Int) < (L.length : Int) := by omega
        clear hx
        go_wp2
        go_quiet (fail)
        go_wp2
        go_roundw
        case rel => exact ⟨k + 1, _, by omega, by go_num, rfl⟩
        case measure => simp [intOf]; omega
      · go_wp2
        go_ret
        exact ⟨rfl, m, rfl⟩

/-- The ints that the marks from k on are. -/
def nums (k n : Nat) : List Int := (List.range n).map fun j => ((k + j : Nat) : Int)
theorem length_nums (k n : Nat) : (nums k n).length = n := by simp [nums]
theorem nums_at {k n j : Nat} (h : j < n) : (nums k n)[j]? = some ((k + j : Nat) : Int) := by simp [nums, h]

set_option maxHeartbeats 400000 in
theorem heldInts (v : Value) (k n : Nat) (w : World) (h : Ints w v (nums k n)) (hn : k + n ≤ 100000000) :
    Calls Try.prog 35 #[v, .int .i64 k] w (Made w (.int .i64 ((k + n : Nat) : Int))) := by
  by_cases h0 : n = 0
  · subst h0
    obtain ⟨a1, c1, rfl⟩ : ∃ a c, v = .slice a 0 c := by
      rcases h with ⟨_, h⟩ | ⟨g, c, rfl, _⟩
      · exact h
      · exact ⟨_, c, by rw [length_nums]⟩
    clear h
    go_enter Try.func35, Try.ntmps35
    go_wp2
    refine wp_loop_rounds 1 ?_
    rw [rounds_succ]
    go_wp2
    go_ret
    exact ⟨ret_int (by omega), Below.refl _ _⟩
  · obtain ⟨g, c, rfl, hg, hc⟩ : ∃ g c, v = .slice (some ⟨g, 0, none⟩) (nums k n).length c ∧ g < w.heap.size ∧ ∀ (j : Nat) x, (nums k n)[j]? = some x → w.cell? ⟨g, j, none⟩ = some (.int .i64 x) := by
      rcases h with ⟨h, _⟩ | h
      · have := congrArg List.length h
        rw [length_nums] at this
        exact absurd this h0
      · exact h
    have HC := Lib.hid hc
    clear hc h h0
    rw [length_nums]
    go_enter Try.func35, Try.ntmps35
    go_wp2
    go_loop [1, 5] (fun a i => ∃ j : Nat, j ≤ n ∧ a = .int .i64 ((k + j : Nat) : Int) ∧ i = .int .i64 j) (fun _ i => n - (intOf i).toNat)
    case atStart => exact ⟨0, Nat.zero_le _, rfl, rfl⟩
    case round =>
      obtain ⟨j, hj, rfl, rfl⟩ := hrel
      by_cases hlt : j < n
      · have d1 : w.cell? ⟨g, j, none⟩ = some (.int .i64 ((k + j : Nat) : Int)) := HC.out j _ (nums_at hlt)
        have hlt2 : (j : Int) < (n : Int) := by omega
        go_wp2
        go_round
        case rel => exact ⟨j + 1, by omega, by go_num, by go_num⟩
        case measure => simp [intOf]; omega
      · obtain rfl : j = n := by omega
        go_wp2
        go_ret
        exact ⟨ret_int (by omega), Below.refl _ _⟩

theorem nums_succ (k j : Nat) : nums k (j + 1) = nums k j ++ [((k + j : Nat) : Int)] := by simp [nums, List.range_succ]
theorem nums_set (k j : Nat) (xs : List Value) (h : j < xs.length) :
    ((nums k j).map (Value.int .i64) ++ xs.drop j).set j (.int .i64 ((k + j : Nat) : Int)) = (nums k (j + 1)).map (Value.int .i64) ++ xs.drop (j + 1) := by
  rw [List.set_append, if_neg (by simp [length_nums]), List.length_map, length_nums, Nat.sub_self, List.drop_eq_getElem_cons h, List.set_cons_zero, nums_succ]
  simp

/-- markIntS has written its marks, and nothing else that was there. -/
def MarkedI (w : World) (B : Nat) (T : TypeId) (v : Value) (k n : Nat) (e : Ending) (w' : World) : Prop :=
  e = .returned (.int .i64 ((k + n : Nat) : Int)) ∧ w'.ownsRow B T 1 v n ((nums k n).map (Value.int .i64)) ∧ w.grownBy w' v.ownBlock

set_option maxHeartbeats 400000 in
theorem markInts (v : Value) (B k n : Nat) (xs : List Value) (w : World) (hown : w.ownsRow B 3 1 v n xs) (hn : k + n ≤ 100000000) :
    Calls Try.prog 32 #[v, .int .i64 k] w (MarkedI w B 3 v k n) := by
  have hxl : xs.length = n := by have := hown.1; omega
  by_cases h0 : n = 0
  · subst h0
    obtain ⟨a, c, rfl⟩ := own_form hown
    have hnil : xs = [] := List.eq_nil_of_length_eq_zero hxl
    subst hnil
    go_enter Try.func32, Try.ntmps32
    go_wp2
    refine wp_loop_rounds 1 ?_
    rw [rounds_succ]
    go_wp2
    go_ret
    exact ⟨ret_int (by omega), hown, World.grownBy.refl _ _⟩
  · obtain ⟨g, c, rfl⟩ : ∃ g c, v = .slice (some ⟨g, 0, none⟩) n c := by
      rcases hown.2 with ⟨_, h⟩ | ⟨g, cap, cur, rfl, _⟩
      · exact absurd h h0
      · exact ⟨g, cap, rfl⟩
    clear h0
    go_enter Try.func32, Try.ntmps32
    go_wp2
    go_loopw [1, 5] (fun a i wr => ∃ j : Nat, j ≤ n ∧ a = .int .i64 ((k + j : Nat) : Int) ∧ i = .int .i64 j ∧ wr.ownsRow B 3 1 (.slice (some ⟨g, 0, none⟩) n c) n ((nums k j).map (Value.int .i64) ++ xs.drop j) ∧ w.grownBy wr (some g)) (fun _ i _ => n - (intOf i).toNat)
    case atStart => exact ⟨0, Nat.zero_le _, rfl, rfl, by simpa [nums] using hown, World.grownBy.refl _ _⟩
    case round =>
      clear hown
      obtain ⟨j, hj, rfl, rfl, hown, hgr⟩ := hrel
      have hgs := hgr.size
      by_cases hlt : j < n
      · have hlt2 : (j : Int) < (n : Int) := by omega
        have hst := nums_set k j xs (by omega)
        have HST := Lib.hid hst
        clear hst
        obtain ⟨u, d1⟩ := own_cell hown hlt
        have d2 := hown.frozenAt j
        go_wp2
        go_roundw
        case rel => exact ⟨j + 1, by omega, by go_num, by go_num, by rw [← HST.out]; exact (hown.stored j _).1, grown_step hgr (Below.refl _ _) (hown.stored j _).2⟩
        case measure => simp [intOf]; omega
      · obtain rfl : j = n := by omega
        go_wp2
        go_ret
        exact ⟨ret_int (by omega), by rw [List.drop_of_length_le (by omega), List.append_nil] at hown; exact hown, hgr⟩

end Go.Proofs.Ytpihkmjmolmgcaa
