/-
  CONTRACTS of the laws' own helpers on lists of texts: eqStringS, markText, markStringS, heldStringS.
-/
import Derived.Test.YtklbgnodifnbiaaBase
import Derived.Deep.QuietTactic
import Derived.BigQuiet
import Derived.Deep.RegionWith
import Derived.Laws.OwnMore
namespace Go.Proofs.Ytklbgnodifnbiaa
open Go.ChangeShapes Go.WideShapes Go.ChangeAt Go.RowKit

/-- A list of texts that lies in memory: nil or empty, or at the head of a block. -/
def Texts (w : World) (v : Value) (L : List ByteArray) : Prop :=
  (L = [] ∧ ∃ a c, v = .slice a 0 c) ∨ ∃ g c, v = .slice (some ⟨g, 0, none⟩) L.length c ∧ g < w.heap.size ∧ ∀ (j : Nat) x, L[j]? = some x → w.cell? ⟨g, j, none⟩ = some (.string x)

theorem texts_of_own {w : World} {B : Nat} {e : TypeId} {v : Value} {L : List ByteArray} (h : w.ownsRow B e 1 v L.length (L.map Value.string)) : Texts w v L := by
  rcases h.2 with ⟨rfl, h0⟩ | ⟨g, cap, cur, rfl, _, hh, _⟩
  · exact .inl ⟨List.eq_nil_of_length_eq_zero h0, _, _, rfl⟩
  · refine .inr ⟨g, cap, rfl, (Array.getElem?_eq_some_iff.1 hh).1, fun j x hx => ?_⟩
    have := h.cells (g := g) rfl j (.string x) (by rw [List.getElem?_map, hx]; rfl)
    have hadd : (⟨g, 0, none⟩ : Addr).add j = ⟨g, j, none⟩ := by unfold Addr.add; split <;> simp_all
    rwa [hadd] at this

/-- A call has only read, and has returned v. -/
def Quiet (w : World) (v : Value) (e : Ending) (w' : World) : Prop := e = .returned v ∧ ∃ n, w' = w.drewN n

set_option maxHeartbeats 400000 in
theorem eqTexts (v1 v2 : Value) (L : List ByteArray) (w : World) (h1 : Texts w v1 L) (h2 : Texts w v2 L) (hL : L.length ≤ 1000000) :
    Calls Try.prog 13 #[v1, v2] w (Quiet w (.bool true)) := by
  by_cases h0 : L.length = 0
  · obtain ⟨a1, c1, rfl⟩ : ∃ a c, v1 = .slice a 0 c := by
      rcases h1 with ⟨_, h⟩ | ⟨g, c, rfl, _⟩
      · exact h
      · exact ⟨_, c, by rw [h0]⟩
    obtain ⟨a2, c2, rfl⟩ : ∃ a c, v2 = .slice a 0 c := by
      rcases h2 with ⟨_, h⟩ | ⟨g, c, rfl, _⟩
      · exact h
      · exact ⟨_, c, by rw [h0]⟩
    clear h1 h2
    go_enter Try.func13, Try.ntmps13
    go_wp2
    refine wp_loop_rounds 1 ?_
    rw [rounds_succ]
    go_wp2
    go_ret
    exact ⟨rfl, 0, rfl⟩
  · obtain ⟨g1, c1, rfl, _, hc1⟩ : ∃ g c, v1 = .slice (some ⟨g, 0, none⟩) L.length c ∧ g < w.heap.size ∧ ∀ (j : Nat) x, L[j]? = some x → w.cell? ⟨g, j, none⟩ = some (.string x) := by
      rcases h1 with ⟨rfl, _⟩ | h
      · exact absurd rfl h0
      · exact h
    obtain ⟨g2, c2, rfl, _, hc2⟩ : ∃ g c, v2 = .slice (some ⟨g, 0, none⟩) L.length c ∧ g < w.heap.size ∧ ∀ (j : Nat) x, L[j]? = some x → w.cell? ⟨g, j, none⟩ = some (.string x) := by
      rcases h2 with ⟨rfl, _⟩ | h
      · exact absurd rfl h0
      · exact h
    have H1 := Lib.hid hc1
    have H2 := Lib.hid hc2
    clear hc1 hc2 h1 h2 h0
    go_enter Try.func13, Try.ntmps13
    go_wp2
    go_loopw [5] (fun i wr => ∃ k m : Nat, k ≤ L.length ∧ i = .int .i64 k ∧ wr = w.drewN m) (fun i _ => L.length - (intOf i).toNat)
    case atStart => exact ⟨0, 0, Nat.zero_le _, rfl, rfl⟩
    case round =>
      obtain ⟨k, m, hk, rfl, rfl⟩ := hrel
      by_cases hlt : k < L.length
      · obtain ⟨x, hx⟩ : ∃ x, L[k]? = some x := ⟨_, List.getElem?_eq_getElem hlt⟩
        have d1 : w.cell? ⟨g1, k, none⟩ = some (.string x) := H1.out k x hx
        have d2 : w.cell? ⟨g2, k, none⟩ = some (.string x) := H2.out k x hx
        have hlt2 : (k : Int) < (L.length : Int) := by omega
        clear hx
        go_wp2
        go_quiet (fail)
        go_wp2
        go_roundw
        case rel => exact ⟨k + 1, _, by omega, by go_num, rfl⟩
        case measure => simp [intOf]; omega
      · go_wp2
        go_ret
        exact ⟨rfl, m, rfl⟩

/-- The last decimal digit of q, as a text. -/
def digitT (q : Nat) : ByteArray := ⟨#[UInt8.ofNat (48 + q % 10)]⟩
theorem digitT_size (q : Nat) : (digitT q).size = 1 := rfl
/-- The decimal digits of q ahead of out (f: fuel). -/
def decF : Nat → Nat → ByteArray → ByteArray
  | 0, _, out => out
  | f + 1, q, out => if q = 0 then out else decF f (q / 10) (digitT q ++ out)
/-- The mark of number k. -/
def markOf (k : Nat) : ByteArray := if k = 0 then ⟨#[109, 48]⟩ else ⟨#[109]⟩ ++ decF k k ⟨#[]⟩

theorem decF_zero (f : Nat) (out : ByteArray) : decF f 0 out = out := by cases f <;> simp [decF]


set_option maxHeartbeats 400000 in
theorem markText (k : Nat) (w : World) (h0 : 0 < k) (h1 : k ≤ 2000000) :
    Calls Try.prog 22 #[.int .i64 k] w (Made w (.string (markOf k))) := by
  have h2 : ¬ (k : Int) ≤ 0 := by omega
  have HM : Hid (markOf k = ⟨#[109]⟩ ++ decF k k ⟨#[]⟩) := Lib.hid (by rw [markOf, if_neg (by omega)])
  go_enter Try.func22, Try.ntmps22
  go_wp2
  go_loopw [0, 3] (fun a o wr => ∃ (q f : Nat) (out : ByteArray), q ≤ f ∧ out.size + q ≤ 2000000 ∧ a = .int .i64 q ∧ o = .string out ∧ Hid (decF f q out = decF k k ⟨#[]⟩) ∧ Below w.heap.size w wr)
    (fun a _ _ => (intOf a).toNat)
  case atStart => exact ⟨k, k, ⟨#[]⟩, Nat.le_refl _, by have : (ByteArray.mk #[]).size = 0 := rfl; omega, rfl, rfl, Lib.hid rfl, Below.refl _ _⟩
  case round =>
    obtain ⟨q, f, out, hqf, hq, rfl, rfl, HD, hbe⟩ := hrel
    have hbs := hbe.size
    have hos : out.size ≤ 2000000 := by omega
    by_cases hz : 0 < q
    · have HD2 : Hid (decF (f - 1) (q / 10) (digitT q ++ out) = decF k k ⟨#[]⟩) := Lib.hid (by
        have := HD.out
        obtain ⟨f', rfl⟩ : ∃ f', f = f' + 1 := ⟨f - 1, by omega⟩
        rw [decF, if_neg (by omega)] at this
        exact this)
      have hz2 : (0 : Int) < q := by omega
      have hcv := run_text_new1 (P := Try.prog) wr 32 9 5 Try.underlying32 Try.underlying5 Try.underlying9 (48 + (q : Int) % 10) (by omega) (by omega)
      rw [show (48 + (q : Int) % 10).toNat = 48 + q % 10 from by omega] at hcv
      change _ = Result.ok (Value.string (digitT q)) _ at hcv
      have hds : (digitT q).size ≤ 1 := Nat.le_refl _
      go_wp2
      go_roundw
      case rel => exact ⟨q / 10, f - 1, _, by omega, by rw [ByteArray.size_append, digitT_size]; omega, by go_num, rfl, HD2, hbe.alloc hbs _⟩
      case measure => simp [intOf]; omega
    · obtain rfl : q = 0 := by omega
      have HD2 : Hid (⟨#[109]⟩ ++ out = markOf k) := Lib.hid (by rw [HM.out, ← HD.out, decF_zero])
      clear HD HM
      go_wp2
      go_ret
      exact ⟨congrArg (fun x => Ending.returned (Value.string x)) HD2.out, hbe⟩

theorem markTextI (x : Int) (k : Nat) (hx : x = (k : Int)) (w : World) (h0 : 0 < k) (h1 : k ≤ 2000000) :
    Calls Try.prog 22 #[.int .i64 x] w (Made w (.string (markOf k))) := by
  subst hx
  exact markText k w h0 h1

/-- The texts that the marks from k on are. -/
def marks (k n : Nat) : List ByteArray := (List.range n).map fun j => markOf (k + j)
theorem length_marks (k n : Nat) : (marks k n).length = n := by simp [marks]
theorem marks_at {k n j : Nat} (h : j < n) : (marks k n)[j]? = some (markOf (k + j)) := by simp [marks, h]

set_option maxHeartbeats 400000 in
theorem heldTexts (v : Value) (k n : Nat) (w : World) (h : Texts w v (marks k n)) (hk : 0 < k) (hn : k + n ≤ 2000000) :
    Calls Try.prog 15 #[v, .int .i64 k] w (Made w (.int .i64 ((k + n : Nat) : Int))) := by
  by_cases h0 : n = 0
  · subst h0
    obtain ⟨a1, c1, rfl⟩ : ∃ a c, v = .slice a 0 c := by
      rcases h with ⟨_, h⟩ | ⟨g, c, rfl, _⟩
      · exact h
      · exact ⟨_, c, by rw [length_marks]⟩
    clear h
    go_enter Try.func15, Try.ntmps15
    go_wp2
    refine wp_loop_rounds 1 ?_
    rw [rounds_succ]
    go_wp2
    go_ret
    exact ⟨ret_int (by omega), Below.refl _ _⟩
  · obtain ⟨g, c, rfl, hg, hc⟩ : ∃ g c, v = .slice (some ⟨g, 0, none⟩) (marks k n).length c ∧ g < w.heap.size ∧ ∀ (j : Nat) x, (marks k n)[j]? = some x → w.cell? ⟨g, j, none⟩ = some (.string x) := by
      rcases h with ⟨h, _⟩ | h
      · have := congrArg List.length h
        rw [length_marks] at this
        exact absurd this h0
      · exact h
    have HC := Lib.hid hc
    clear hc h h0
    rw [length_marks]
    go_enter Try.func15, Try.ntmps15
    go_wp2
    go_loopw [1, 5] (fun a i wr => ∃ j : Nat, j ≤ n ∧ a = .int .i64 ((k + j : Nat) : Int) ∧ i = .int .i64 j ∧ Below w.heap.size w wr) (fun _ i _ => n - (intOf i).toNat)
    case atStart => exact ⟨0, Nat.zero_le _, rfl, rfl, Below.refl _ _⟩
    case round =>
      obtain ⟨j, hj, rfl, rfl, hbe⟩ := hrel
      have hbs := hbe.size
      by_cases hlt : j < n
      · have d1 : wr.cell? ⟨g, j, none⟩ = some (.string (markOf (k + j))) := (hbe.cell (p := ⟨g, j, none⟩) hg).trans (HC.out j _ (marks_at hlt))
        have hlt2 : (j : Int) < (n : Int) := by omega
        go_wp2
        go_region_with (go_at_call 22; (with_reducible refine (markTextI _ (k + j) (by omega) _ (by omega) (by omega)).mono ?_); rintro e w1 ⟨rfl, hb1⟩; have d2 := (hb1.cell (p := ⟨g, j, none⟩) (by simp; omega)).trans d1; have hbe2 := hbe.drew.trans (hb1.mono (by simp; omega)))
        all_goals
          clear d1 d2
          go_wp2
          go_roundw
          case rel => exact ⟨j + 1, by omega, by go_num, by go_num, hbe2⟩
          case measure => simp [intOf]; omega
      · obtain rfl : j = n := by omega
        go_wp2
        go_ret
        exact ⟨ret_int (by omega), hbe⟩

theorem marks_succ (k j : Nat) : marks k (j + 1) = marks k j ++ [markOf (k + j)] := by simp [marks, List.range_succ]
theorem marks_set (k j : Nat) (xs : List Value) (h : j < xs.length) :
    ((marks k j).map Value.string ++ xs.drop j).set j (.string (markOf (k + j))) = (marks k (j + 1)).map Value.string ++ xs.drop (j + 1) := by
  rw [List.set_append, if_neg (by simp [length_marks]), List.length_map, length_marks, Nat.sub_self, List.drop_eq_getElem_cons h, List.set_cons_zero, marks_succ]
  simp

/-- markStringS has written its marks, and nothing else that was there. -/
def Marked (w : World) (B : Nat) (T : TypeId) (v : Value) (k n : Nat) (e : Ending) (w' : World) : Prop :=
  e = .returned (.int .i64 ((k + n : Nat) : Int)) ∧ w'.ownsRow B T 1 v n ((marks k n).map Value.string) ∧ w.grownBy w' v.ownBlock

set_option maxHeartbeats 400000 in
theorem markTexts (v : Value) (B k n : Nat) (xs : List Value) (w : World) (hown : w.ownsRow B 9 1 v n xs) (hk : 0 < k) (hn : k + n ≤ 2000000) (hB : B ≤ w.heap.size) :
    Calls Try.prog 14 #[v, .int .i64 k] w (Marked w B 9 v k n) := by
  have hxl : xs.length = n := by have := hown.1; omega
  by_cases h0 : n = 0
  · subst h0
    obtain ⟨a, c, rfl⟩ := own_form hown
    have hnil : xs = [] := List.eq_nil_of_length_eq_zero hxl
    subst hnil
    go_enter Try.func14, Try.ntmps14
    go_wp2
    refine wp_loop_rounds 1 ?_
    rw [rounds_succ]
    go_wp2
    go_ret
    exact ⟨ret_int (by omega), hown, World.grownBy.refl _ _⟩
  · obtain ⟨g, c, rfl⟩ : ∃ g c, v = .slice (some ⟨g, 0, none⟩) n c := by
      rcases hown.2 with ⟨_, h⟩ | ⟨g, cap, cur, rfl, _⟩
      · exact absurd h h0
      · exact ⟨g, cap, rfl⟩
    clear h0
    have hgl := (hown.lt g rfl).2
    go_enter Try.func14, Try.ntmps14
    go_wp2
    go_loopw [1, 5] (fun a i wr => ∃ j : Nat, j ≤ n ∧ a = .int .i64 ((k + j : Nat) : Int) ∧ i = .int .i64 j ∧ wr.ownsRow B 9 1 (.slice (some ⟨g, 0, none⟩) n c) n ((marks k j).map Value.string ++ xs.drop j) ∧ w.grownBy wr (some g)) (fun _ i _ => n - (intOf i).toNat)
    case atStart => exact ⟨0, Nat.zero_le _, rfl, rfl, by simpa [marks] using hown, World.grownBy.refl _ _⟩
    case round =>
      clear hown
      obtain ⟨j, hj, rfl, rfl, hown, hgr⟩ := hrel
      have hgs := hgr.size
      by_cases hlt : j < n
      · have hlt2 : (j : Int) < (n : Int) := by omega
        have hst := marks_set k j xs (by omega)
        have HST := Lib.hid hst
        clear hst
        go_wp2_with (go_at_call 22; (with_reducible refine (markTextI _ (k + j) (by omega) _ (by omega) (by omega)).mono ?_); rintro e w1 ⟨rfl, hb1⟩; have hown1 := own_below hown hb1 (by omega); obtain ⟨u, d1⟩ := own_cell hown1 hlt; have d2 := hown1.frozenAt j; have hs1 := hb1.size)
        go_roundw
        case rel => exact ⟨j + 1, by omega, by go_num, by go_num, by rw [← HST.out]; exact (hown1.stored j _).1, grown_step hgr hb1 (hown1.stored j _).2⟩
        case measure => simp [intOf]; omega
      · obtain rfl : j = n := by omega
        go_wp2
        go_ret
        exact ⟨ret_int (by omega), by rw [List.drop_of_length_le (by omega), List.append_nil] at hown; exact hown, hgr⟩

end Go.Proofs.Ytklbgnodifnbiaa
