/-
  Plain lemmas for this seat's proofs: no statement is proved here. Small facts on endings, on bytes and on rows of bytes that a call made itself.
  Slices of ints in memory; marks. Plain facts; no law is proved here.
  CONTRACTS of laws.eqIntS. No law is proved here.
  Nets: their arcs as a list, in memory; which nets are right. Plain facts; no statement is proved here.
-/
import Derived.Test.YtlkhecdlmbhiaaaDoorRows
import Derived.WalkKit
import Derived.ProofKit
import Derived.OpenShut
import Derived.ShutString
import Derived.WalkLawsBesides
import Derived.WalkSpells
import Derived.Lib.Hide
import Derived.Laws.BytesString
import Derived.Laws.IdiomStrings
import Derived.Deep.Draws
import Derived.Deep.QuietTactic
import Derived.BigQuiet
import Derived.Deep.RegionWith
import Derived.Laws.OwnMore
namespace Go.Proofs.YtlkhecdlmbhiaaaDoor
set_option maxRecDepth 4096
open Go.ChangeShapes Go.WideShapes Go.ChangeAt Go.RowKit

theorem own : ownKnob Tryd.prog.godebug = none := by kernel_rfl
theorem Tryd.info5 : (Tryd.prog.info? 5).map (fun i => (i.zero, i.size, i.bytes)) = some (some (.int .u8 0), 1, 1) := by kernel_rfl
theorem Tryd.infoS : (Tryd.prog.info? 9).map (fun i => (i.zero, i.size, i.bytes)) = some (some (.string ⟨#[]⟩), 1, 16) := by kernel_rfl

theorem ret_int {k : IntKind} {a b : Int} (h : a = b) : Ending.returned (.int k a) = .returned (.int k b) := by rw [h]

/-- The byte at a place, as a number. -/
def byteAt (s : ByteArray) (n : Nat) : Int := ((s.data.toList.getD n 0).toNat : Int)
theorem byteAt_bd (s : ByteArray) (n : Nat) : 0 ≤ byteAt s n ∧ byteAt s n < 256 := by
  unfold byteAt
  have := (s.data.toList.getD n 0).toNat_lt
  omega
theorem byteAt_eq (s : ByteArray) (n : Nat) (h : n < s.size) : byteAt s n = ((s[n].toNat : Nat) : Int) := by
  unfold byteAt
  have hl : n < s.data.toList.length := by simpa using h
  rw [List.getD_eq_getElem?_getD, List.getElem?_eq_getElem hl]
  rfl
theorem run_at {P : Program} (t : TypeId) (s : ByteArray) (k : IntKind) (i : Int) (n : Nat) (e : i = n) (h : n < s.size) (ht : P.underlying t = some .string) (w : World) :
    (Instr.index t (.string s) (.int k i)).run P w = .ok (.int .u8 (byteAt s n)) w := by
  subst e
  rw [run_index_string w t s k n ht, dif_pos ⟨by omega, by omega⟩, byteAt_eq s n h]
  simp

/-- Bytes as cells. -/
def cellsOf (l : List UInt8) : List Value := l.map fun b => Value.int .u8 b.toNat

theorem cellsOf_append (l m : List UInt8) : cellsOf (l ++ m) = cellsOf l ++ cellsOf m := by simp [cellsOf]
theorem length_cellsOf (l : List UInt8) : (cellsOf l).length = l.length := by simp [cellsOf]
theorem cellsOf_one (l : List UInt8) : ∀ u ∈ cellsOf l, u.oneCell' = true := by
  intro u hu
  simp only [cellsOf, List.mem_map] at hu
  obtain ⟨b, _, rfl⟩ := hu
  rfl

theorem cells_new (w : World) (l : List UInt8) (t : TypeId) : ∀ j u, (cellsOf l)[j]? = some u → (w.alloc (.cells (cellsOf l).toArray t)).cell? ((⟨w.heap.size, 0, none⟩ : Addr).add j) = some u := by
  intro j u h
  have hadd : (⟨w.heap.size, 0, none⟩ : Addr).add j = ⟨w.heap.size, j, none⟩ := by unfold Addr.add; split <;> simp_all
  rw [hadd, World.cell?_alloc_mark]
  simpa using h
theorem cells_new1 (w : World) (x : Int) (h0 : 0 ≤ x) (h : x < 256) (t : TypeId) : ∀ j u, (cellsOf [UInt8.ofNat x.toNat])[j]? = some u → (w.alloc (.cells #[.int .u8 x] t)).cell? ((⟨w.heap.size, 0, none⟩ : Addr).add j) = some u := by
  have e : (#[Value.int .u8 x] : Array Value) = (cellsOf [UInt8.ofNat x.toNat]).toArray := by
    simp [cellsOf, UInt8.toNat_ofNat']
    omega
  rw [e]
  exact cells_new w _ t

/-- The text of a row of bytes that the call owns. -/
theorem run_text_own {P : Program} (w : World) (src dst e : TypeId) (hs : P.underlying src = some (.slice e)) (he : P.underlying e = some (.int .u8)) (hd : P.underlying dst = some .string)
    {base n : Nat} {v : Value} {l : List UInt8} (hown : w.ownsRow base e 1 v n (cellsOf l)) :
    (convert src dst v).run P w = .ok (.string ⟨l.toArray⟩) w := by
  have hl : l.length = n := by have := hown.1; rw [length_cellsOf] at this; omega
  rcases Nat.eq_zero_or_pos n with h0 | h0
  · have hnil : l = [] := List.eq_nil_of_length_eq_zero (by omega)
    subst hnil
    rcases hown.2 with ⟨rfl, _⟩ | ⟨g, cap, cur, rfl, _, hh, _⟩
    · rw [run_convert_bytes_string w src dst e none 0 0 hs he hd]
      simp [Conv.bytesToString]
      rfl
    · subst h0
      exact run_convert_bytes_back w src dst e ⟨g, 0, none⟩ cap [] hs he hd (fun j hj => absurd hj (by simp))
  · rcases hown.2 with ⟨_, h⟩ | ⟨g, cap, cur, rfl, _, hh, _⟩
    · omega
    · subst hl
      refine run_convert_bytes_back w src dst e ⟨g, 0, none⟩ cap l hs he hd (fun j hj => ?_)
      exact hown.cells rfl j _ (by simp [cellsOf, hj])

/-- The text of a new row of one byte. -/
theorem run_text_new1 {P : Program} (w : World) (src dst e : TypeId) (hs : P.underlying src = some (.slice e)) (he : P.underlying e = some (.int .u8)) (hd : P.underlying dst = some .string) (x : Int) (h0 : 0 ≤ x) (h : x < 256) :
    (convert src dst (.slice (some ⟨w.heap.size, 0, none⟩) 1 1)).run P (w.alloc (.cells #[.int .u8 x] e)) = .ok (.string ⟨#[UInt8.ofNat x.toNat]⟩) (w.alloc (.cells #[.int .u8 x] e)) :=
  run_convert_bytes_back _ src dst e ⟨w.heap.size, 0, none⟩ 1 [UInt8.ofNat x.toNat] hs he hd (fun j hj => by
    have hj0 : j = 0 := by simpa using hj
    subst hj0
    exact cells_new1 w x h0 h e 0 _ rfl)

section
variable {H : Type} {enc : TypeId × Value → H} {P : Program}
/-- The row's last step where of the call's world only 'below the old blocks nothing has turned' is known. -/
theorem post_of_below {f : Func} {s : ChangeSpec} {apart fresh handsOn again : Bool} {W W' : World} {args : Array Value} {v : Value} {ds gs : List (DataW H)} {before pa pv : List MemPlace}
    (hW : DataW.Whole enc P f.params.toList s.vars apart W args.toList ds gs before)
    (hres : ∀ (b : Nat) (sp : Nat → Bool) (hd : Bool), DataW.TrodAll enc P W' b sp hd f.resultTypes.toList (v.resultList f.resultTypes.size) (s.fn H (ds ++ gs)).results [])
    (hargs : ∀ sp : Nat → Bool, (∀ p ∈ before, sp p.block = true) → DataW.TrodAll enc P W' 0 sp true f.params.toList args.toList (s.fn H (ds ++ gs)).args pa)
    (hvars : ∀ sp : Nat → Bool, (∀ p ∈ before, sp p.block = true) → DataW.TrodVars enc P W' sp s.vars (s.fn H (ds ++ gs)).vars pv)
    (hps : before = pa ++ pv) (hb : Below W.heap.size W W')
    (hok : ∀ (j : Nat) (t : TypeId) (r : Value), f.resultTypes[j]? = some t → (v.resultList f.resultTypes.size)[j]? = some r → Value.okWide P W' .any 0 t r) :
    s.post enc P f apart fresh handsOn again W args v W' := by
  have hlt : ∀ p ∈ before, p.block < W.heap.size := fun p hp => hW.lt p hp
  have hold : ∀ p ∈ before, (fun b => decide (b < W.heap.size)) p.block = true := fun p hp => by simpa using hlt p hp
  refine ⟨ds, gs, before, [], pa, pv, hW, hres _ _ _, hargs _ hold, hvars _ hold, World.keptBut_mono (fun p hp => ⟨hp, ?_⟩) (hb.frame (· ∈ before)), fun _ => ?_⟩
  · rw [hps, List.mem_append] at hp
    exact Or.inr hp
  · obtain ⟨_, _, _, _, _, hz, hn⟩ := hW
    refine ⟨hok, _, _, ([] ++ pa) ++ pv, ⟨[] ++ pa, pv, trodAll_append (hargs _ (fun _ _ => rfl)) (hres _ _ _), hvars _ (fun _ _ => rfl), rfl, ?_, ?_⟩, ?_⟩
    · intro b off hp
      have hin : MemPlace.cell b off ∈ before := by rw [hps]; simpa using hp
      rw [hb.frozen (hlt _ hin)]
      exact hz b off hin
    · intro ha
      have := hn ha
      rw [hps] at this
      simpa using this
    · intro p hp _
      rw [hps]
      simpa using hp
end

theorem bcell {W w1 : World} (hb : Below W.heap.size W w1) : (∀ b o, b < W.heap.size → w1.cell? ⟨b, o, none⟩ = W.cell? ⟨b, o, none⟩) ∧ (∀ b o, b < W.heap.size → w1.frozen? ⟨b, o, none⟩ = W.frozen? ⟨b, o, none⟩) :=
  ⟨fun b o h => hb.cell (p := ⟨b, o, none⟩) h, fun b o h => hb.frozen (p := ⟨b, o, none⟩) h⟩

theorem own_below {B : Nat} {w w1 : World} {e : TypeId} {size : Nat} {v : Value} {n : Nat} {xs : List Value} (h : w.ownsRow B e size v n xs) (hb : Below w.heap.size w w1) (_hB : B ≤ w.heap.size) : w1.ownsRow B e size v n xs := by
  refine ⟨h.1, ?_⟩
  rcases h.2 with h2 | ⟨g, cap, cur, hv, hg, hh, r⟩
  · exact Or.inl h2
  · have hlt := (Array.getElem?_eq_some_iff.1 hh).1
    exact Or.inr ⟨g, cap, cur, hv, hg, by rw [hb.block g hlt]; exact hh, r⟩

theorem own_form {w : World} {base : Nat} {e : TypeId} {size : Nat} {v : Value} {n : Nat} {xs : List Value} (h : w.ownsRow base e size v n xs) : ∃ a c, v = .slice a n c := by
  rcases h.2 with ⟨rfl, rfl⟩ | ⟨g, cap, cur, rfl, _⟩
  · exact ⟨none, 0, rfl⟩
  · exact ⟨_, _, rfl⟩

theorem own_cell {w : World} {B : Nat} {e : TypeId} {g n c j : Nat} {xs : List Value} (h : w.ownsRow B e 1 (.slice (some ⟨g, 0, none⟩) n c) n xs) (hj : j < n) : ∃ u, w.cell? ⟨g, j, none⟩ = some u := by
  have hl : j < xs.length := by have := h.1; omega
  have := h.cells (g := g) rfl j xs[j] (List.getElem?_eq_getElem hl)
  have hadd : (⟨g, 0, none⟩ : Addr).add j = ⟨g, j, none⟩ := by unfold Addr.add; split <;> simp_all
  rw [hadd] at this
  exact ⟨_, this⟩

theorem grown_step {w wr w1 w2 : World} {g : Nat} (h : w.grownBy wr (some g)) (hb : Below wr.heap.size wr w1) (h2 : w1.grownBy w2 (some g)) : w.grownBy w2 (some g) :=
  ⟨h2.os.trans (hb.os.trans h.os), h2.tape.trans (hb.tape.trans h.tape), h2.output.trans (hb.output.trans h.output), Nat.le_trans h.size (Nat.le_trans hb.size h2.size),
    fun i hi hne => (h2.block i (Nat.lt_of_lt_of_le hi (Nat.le_trans h.size hb.size)) hne).trans ((hb.block i (Nat.lt_of_lt_of_le hi h.size)).trans (h.block i hi hne))⟩

theorem below_drewN {B : Nat} {a w : World} (h : Below B a w) (n : Nat) : Below B a (w.drewN n) := ⟨h.os, h.tape, h.output, h.size, h.block⟩

/-- Two rows of which one was there before the other was made. -/
theorem own_apart {w w' : World} {B : Nat} {e e' : TypeId} {s s' n n' : Nat} {v v' : Value} {xs xs' : List Value} (h : w.ownsRow B e s v n xs) (h' : w'.ownsRow w.heap.size e' s' v' n' xs') :
    v.ownBlock = none ∨ v.ownBlock ≠ v'.ownBlock := by
  cases hv : v.ownBlock with
  | none => exact .inl rfl
  | some k =>
    refine .inr (fun e => ?_)
    have h1 := (h.lt k hv).2
    have h2 := (h'.lt k e.symm).1
    omega

/-- A call has made memory only, and has returned v. -/
def Made (w : World) (v : Value) (e : Ending) (w' : World) : Prop := e = .returned v ∧ Below w.heap.size w w'

end Go.Proofs.YtlkhecdlmbhiaaaDoor

namespace Go.Proofs.YtlkhecdlmbhiaaaDoor
set_option maxRecDepth 4096
open Go.ChangeShapes Go.WideShapes Go.ChangeAt Go.RowKit

/-- A list of ints that lies in memory: nil or empty, or at the head of a block. -/
def Ints (w : World) (v : Value) (L : List Int) : Prop :=
  (L = [] ∧ ∃ a c, v = .slice a 0 c) ∨ ∃ g c, v = .slice (some ⟨g, 0, none⟩) L.length c ∧ g < w.heap.size ∧ ∀ (j : Nat) x, L[j]? = some x → w.cell? ⟨g, j, none⟩ = some (.int .i64 x)

theorem ints_of_own {w : World} {B : Nat} {e : TypeId} {v : Value} {L : List Int} (h : w.ownsRow B e 1 v L.length (L.map (Value.int .i64))) : Ints w v L := by
  rcases h.2 with ⟨rfl, h0⟩ | ⟨g, cap, cur, rfl, _, hh, _⟩
  · exact .inl ⟨List.eq_nil_of_length_eq_zero h0, _, _, rfl⟩
  · refine .inr ⟨g, cap, rfl, (Array.getElem?_eq_some_iff.1 hh).1, fun j x hx => ?_⟩
    have := h.cells (g := g) rfl j (.int .i64 x) (by rw [List.getElem?_map, hx]; rfl)
    have hadd : (⟨g, 0, none⟩ : Addr).add j = ⟨g, j, none⟩ := by unfold Addr.add; split <;> simp_all
    rwa [hadd] at this

theorem ints_form {w : World} {v : Value} {L : List Int} (h : Ints w v L) : ∃ a c, v = .slice a L.length c ∧ (L.length = 0 ∨ ∃ g, a = some ⟨g, 0, none⟩ ∧ g < w.heap.size ∧ ∀ (j : Nat) x, L[j]? = some x → w.cell? ⟨g, j, none⟩ = some (.int .i64 x)) := by
  rcases h with ⟨rfl, a, c, rfl⟩ | ⟨g, c, rfl, hg, hc⟩
  · exact ⟨a, c, rfl, .inl rfl⟩
  · exact ⟨_, c, rfl, .inr ⟨g, rfl, hg, hc⟩⟩

/-- A call has only read, and has returned v. -/
def Quiet (w : World) (v : Value) (e : Ending) (w' : World) : Prop := e = .returned v ∧ ∃ n, w' = w.drewN n

/-- The ints that the marks from k on are. -/
def nums (k n : Nat) : List Int := (List.range n).map fun j => ((k + j : Nat) : Int)
theorem length_nums (k n : Nat) : (nums k n).length = n := by simp [nums]
theorem nums_at {k n j : Nat} (h : j < n) : (nums k n)[j]? = some ((k + j : Nat) : Int) := by simp [nums, h]

theorem nums_succ (k j : Nat) : nums k (j + 1) = nums k j ++ [((k + j : Nat) : Int)] := by simp [nums, List.range_succ]
theorem nums_set (k j : Nat) (xs : List Value) (h : j < xs.length) :
    ((nums k j).map (Value.int .i64) ++ xs.drop j).set j (.int .i64 ((k + j : Nat) : Int)) = (nums k (j + 1)).map (Value.int .i64) ++ xs.drop (j + 1) := by
  rw [List.set_append, if_neg (by simp [length_nums]), List.length_map, length_nums, Nat.sub_self, List.drop_eq_getElem_cons h, List.set_cons_zero, nums_succ]
  simp

/-- markIntS has written its marks, and nothing else that was there. -/
def MarkedI (w : World) (B : Nat) (T : TypeId) (v : Value) (k n : Nat) (e : Ending) (w' : World) : Prop :=
  e = .returned (.int .i64 ((k + n : Nat) : Int)) ∧ w'.ownsRow B T 1 v n ((nums k n).map (Value.int .i64)) ∧ w.grownBy w' v.ownBlock

end Go.Proofs.YtlkhecdlmbhiaaaDoor

namespace Go.Proofs.YtlkhecdlmbhiaaaDoor
set_option maxRecDepth 4096
open Go.ChangeShapes Go.WideShapes Go.ChangeAt Go.RowKit

set_option maxHeartbeats 400000 in
theorem eqInts (v1 v2 : Value) (L : List Int) (w : World) (h1 : Ints w v1 L) (h2 : Ints w v2 L) (hL : L.length ≤ 2000000) :
    Calls Tryd.prog 20 #[v1, v2] w (Quiet w (.bool true)) := by
  by_cases h0 : L.length = 0
  · obtain ⟨a1, c1, rfl⟩ : ∃ a c, v1 = .slice a 0 c := by
      rcases h1 with ⟨_, h⟩ | ⟨g, c, rfl, _⟩
      · exact h
      · exact ⟨_, c, by rw [h0]⟩
    obtain ⟨a2, c2, rfl⟩ : ∃ a c, v2 = .slice a 0 c := by
      rcases h2 with ⟨_, h⟩ | ⟨g, c, rfl, _⟩
      · exact h
      · exact ⟨_, c, by rw [h0]⟩
    clear h1 h2
    go_enter Tryd.func20, Tryd.ntmps20
    go_wp2
    refine wp_loop_rounds 1 ?_
    rw [rounds_succ]
    go_wp2
    go_ret
    exact ⟨rfl, 0, rfl⟩
  · obtain ⟨g1, c1, rfl, _, hc1⟩ : ∃ g c, v1 = .slice (some ⟨g, 0, none⟩) L.length c ∧ g < w.heap.size ∧ ∀ (j : Nat) x, L[j]? = some x → w.cell? ⟨g, j, none⟩ = some (.int .i64 x) := by
      rcases h1 with ⟨rfl, _⟩ | h
      · exact absurd rfl h0
      · exact h
    obtain ⟨g2, c2, rfl, _, hc2⟩ : ∃ g c, v2 = .slice (some ⟨g, 0, none⟩) L.length c ∧ g < w.heap.size ∧ ∀ (j : Nat) x, L[j]? = some x → w.cell? ⟨g, j, none⟩ = some (.int .i64 x) := by
      rcases h2 with ⟨rfl, _⟩ | h
      · exact absurd rfl h0
      · exact h
    have H1 := Lib.hid hc1
    have H2 := Lib.hid hc2
    clear hc1 hc2 h1 h2 h0
    go_enter Tryd.func20, Tryd.ntmps20
    go_wp2
    go_loopw [5] (fun i wr => ∃ k m : Nat, k ≤ L.length ∧ i = .int .i64 k ∧ wr = w.drewN m) (fun i _ => L.length - (intOf i).toNat)
    case atStart => exact ⟨0, 0, Nat.zero_le _, rfl, rfl⟩
    case round =>
      obtain ⟨k, m, hk, rfl, rfl⟩ := hrel
      by_cases hlt : k < L.length
      · obtain ⟨x, hx⟩ : ∃ x, L[k]? = some x := ⟨_, List.getElem?_eq_getElem hlt⟩
        have d1 : w.cell? ⟨g1, k, none⟩ = some (.int .i64 x) := H1.out k x hx
        have d2 : w.cell? ⟨g2, k, none⟩ = some (.int .i64 x) := H2.out k x hx
        have hlt2 : (k : Int) < (L.length : Int) := by omega
        clear hx
        go_wp2
        go_quiet (fail)
        go_wp2
        go_roundw
        case rel => exact ⟨k + 1, _, by omega, by go_num, rfl⟩
        case measure => simp [intOf]; omega
      · go_wp2
        go_ret
        exact ⟨rfl, m, rfl⟩

end Go.Proofs.YtlkhecdlmbhiaaaDoor

namespace Go.Proofs.YtlkhecdlmbhiaaaDoor
set_option maxRecDepth 4096
open Go.ChangeShapes Go.WideShapes Go.ChangeAt Go.RowKit

/-- An arc. -/
structure ArcD where
  f : Int
  t : Int
  r : Int
  c : Int
def arcC (x : ArcD) : List Value := [.int .i64 x.f, .int .i64 x.t, .int .i64 x.r, .int .i64 x.c]
def arcV (x : ArcD) : Value := .agg #[.int .i64 x.f, .int .i64 x.t, .int .i64 x.r, .int .i64 x.c]
def netV (N : Int) (v : Value) : Value := .agg #[.int .i64 N, v]

/-- A list of arcs that lies in memory: nil or empty, or at the head of a block. -/
def Arcs (w : World) (v : Value) (A : List ArcD) : Prop :=
  (A = [] ∧ ∃ a c, v = .slice a 0 c) ∨ ∃ g c, v = .slice (some ⟨g, 0, none⟩) A.length c ∧ g < w.heap.size ∧ ∀ (j : Nat) x, A[j]? = some x →
    w.cell? ⟨g, j * 4, none⟩ = some (.int .i64 x.f) ∧ w.cell? ⟨g, j * 4 + 1, none⟩ = some (.int .i64 x.t) ∧ w.cell? ⟨g, j * 4 + 2, none⟩ = some (.int .i64 x.r) ∧ w.cell? ⟨g, j * 4 + 3, none⟩ = some (.int .i64 x.c)
theorem arcs_form {w : World} {v : Value} {A : List ArcD} (h : Arcs w v A) : ∃ a c, v = .slice a A.length c ∧ (A.length = 0 ∨ ∃ g, a = some ⟨g, 0, none⟩ ∧ g < w.heap.size ∧ ∀ (j : Nat) x, A[j]? = some x →
    w.cell? ⟨g, j * 4, none⟩ = some (.int .i64 x.f) ∧ w.cell? ⟨g, j * 4 + 1, none⟩ = some (.int .i64 x.t) ∧ w.cell? ⟨g, j * 4 + 2, none⟩ = some (.int .i64 x.r) ∧ w.cell? ⟨g, j * 4 + 3, none⟩ = some (.int .i64 x.c)) := by
  rcases h with ⟨rfl, a, c, rfl⟩ | ⟨g, c, rfl, hg, hc⟩
  · exact ⟨a, c, rfl, .inl rfl⟩
  · exact ⟨_, c, rfl, .inr ⟨g, rfl, hg, hc⟩⟩
theorem arcs_on {w w1 : World} {v : Value} {A : List ArcD} (h : Arcs w v A) (hb : Below w.heap.size w w1) : Arcs w1 v A := by
  rcases h with h | ⟨g, c, rfl, hg, hc⟩
  · exact .inl h
  · refine .inr ⟨g, c, rfl, Nat.lt_of_lt_of_le hg hb.size, fun j x hx => ?_⟩
    obtain ⟨h1, h2, h3, h4⟩ := hc j x hx
    exact ⟨(hb.cell (p := ⟨g, _, none⟩) hg).trans h1, (hb.cell (p := ⟨g, _, none⟩) hg).trans h2, (hb.cell (p := ⟨g, _, none⟩) hg).trans h3, (hb.cell (p := ⟨g, _, none⟩) hg).trans h4⟩

def inV (x lo hi : Int) : Bool := decide (lo ≤ x) && decide (x ≤ hi)
def arcOk (N : Int) (x : ArcD) : Bool := inV x.f 0 (N - 1) && (inV x.t 0 (N - 1) && (!decide (x.f = x.t) && (inV x.r 0 20 && inV x.c 0 100)))
def netOkV (N : Int) (A : List ArcD) : Bool := inV N 2 1500 && (decide (A.length ≤ 3200) && A.all (arcOk N))
theorem inV_iff {x lo hi : Int} : inV x lo hi = true ↔ lo ≤ x ∧ x ≤ hi := by
  unfold inV
  rw [Bool.and_eq_true, decide_eq_true_eq, decide_eq_true_eq]
theorem inV_no {x lo hi : Int} (h : inV x lo hi = false) : ¬ (lo ≤ x ∧ x ≤ hi) := fun k => by rw [inV_iff.2 k] at h; cases h

section
variable {N : Int} {A : List ArcD}
theorem netOk_out (h : netOkV N A = true) : (2 ≤ N ∧ N ≤ 1500) ∧ A.length ≤ 3200 ∧ ∀ x ∈ A, arcOk N x = true := by
  unfold netOkV at h
  simp only [Bool.and_eq_true, decide_eq_true_eq, List.all_eq_true] at h
  exact ⟨inV_iff.1 h.1, h.2.1, h.2.2⟩
theorem arcOk_out {x : ArcD} (h : arcOk N x = true) : (0 ≤ x.f ∧ x.f < N) ∧ (0 ≤ x.t ∧ x.t < N) ∧ x.f ≠ x.t ∧ (0 ≤ x.r ∧ x.r ≤ 20) ∧ (0 ≤ x.c ∧ x.c ≤ 100) := by
  unfold arcOk at h
  simp only [Bool.and_eq_true, Bool.not_eq_true', decide_eq_false_iff_not, inV_iff] at h
  exact ⟨⟨h.1.1, by omega⟩, ⟨h.2.1.1, by omega⟩, h.2.2.1, h.2.2.2.1, h.2.2.2.2⟩
/-- An arc is wrong at its first fault. -/
theorem arcOk_cases (N : Int) (x : ArcD) : arcOk N x = true ∧ (inV x.f 0 (N - 1) = true ∧ inV x.t 0 (N - 1) = true ∧ x.f ≠ x.t ∧ inV x.r 0 20 = true ∧ inV x.c 0 100 = true) ∨ arcOk N x = false ∧
    (inV x.f 0 (N - 1) = false ∨ (inV x.f 0 (N - 1) = true ∧ inV x.t 0 (N - 1) = false) ∨ (inV x.f 0 (N - 1) = true ∧ inV x.t 0 (N - 1) = true ∧ x.f = x.t) ∨
      (inV x.f 0 (N - 1) = true ∧ inV x.t 0 (N - 1) = true ∧ x.f ≠ x.t ∧ inV x.r 0 20 = false) ∨ (inV x.f 0 (N - 1) = true ∧ inV x.t 0 (N - 1) = true ∧ x.f ≠ x.t ∧ inV x.r 0 20 = true ∧ inV x.c 0 100 = false)) := by
  unfold arcOk
  cases inV x.f 0 (N - 1) <;> cases inV x.t 0 (N - 1) <;> cases inV x.r 0 20 <;> cases inV x.c 0 100 <;> by_cases e : x.f = x.t <;> simp [e]
end

/-- The net in its box. -/
theorem net_cells {w w1 : World} {N : Int} {v : Value} {t : TypeId} (h : Below (w.alloc (.cells #[.int .i64 N, v] t)).heap.size (w.alloc (.cells #[.int .i64 N, v] t)) w1) :
    w1.cell? ⟨w.heap.size, 0, none⟩ = some (.int .i64 N) ∧ w1.cell? ⟨w.heap.size, 1, none⟩ = some v := by
  refine ⟨?_, ?_⟩ <;> refine (h.cell (by simp)).trans ?_ <;> rw [cell_of_row _ _ _ _ _ _ (heap_alloc_new w _)] <;> rfl
theorem below_box {w w1 : World} {o : Obj} (h : Below (w.alloc o).heap.size (w.alloc o) w1) : Below w.heap.size w w1 := ((Below.refl _ _).alloc (Nat.le_refl _) _).trans (h.mono (by simp))
theorem next_below {a b c : World} (h : Below a.heap.size a b) (k : Below b.heap.size b c) : Below a.heap.size a c := h.trans (k.mono h.size)

theorem l01In (x lo hi : Int) (b : Bool) (HB : Hid (inV x lo hi = b)) (w : World) :
    Calls Tryd.prog 76 #[.int .i64 x, .int .i64 lo, .int .i64 hi] w fun e w' => e = .returned (.bool b) ∧ w = w' := by
  by_cases h1 : lo ≤ x
  · have h1' : ¬ x < lo := by omega
    by_cases h2 : x ≤ hi
    · have e : b = true := by rw [← HB.out]; exact inV_iff.2 ⟨h1, h2⟩
      subst e
      have h2' : ¬ hi < x := by omega
      go_enter Tryd.func76, Tryd.ntmps76
      go_wp2
      go_ret
      exact ⟨rfl, rfl⟩
    · have e : b = false := by
        rw [← HB.out]
        cases h : inV x lo hi with
        | false => rfl
        | true => exact absurd (inV_iff.1 h).2 h2
      subst e
      have h2' : hi < x := by omega
      go_enter Tryd.func76, Tryd.ntmps76
      go_wp2
      go_ret
      exact ⟨rfl, rfl⟩
  · have e : b = false := by
      rw [← HB.out]
      cases h : inV x lo hi with
      | false => rfl
      | true => exact absurd (inV_iff.1 h).1 h1
    subst e
    have h1' : x < lo := by omega
    go_enter Tryd.func76, Tryd.ntmps76
    go_wp2
    go_ret
    exact ⟨rfl, rfl⟩

end Go.Proofs.YtlkhecdlmbhiaaaDoor

