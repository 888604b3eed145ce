/-
  Plain lemmas for this seat's proofs: no statement is proved here. Small facts on endings, on bytes and on rows of bytes that a call made itself.
  CONTRACTS of the model's cursor over drawn bytes: l01New, l01Byte, l01Below. What it draws is a number of its range; that is all that is said. No law is proved here.
-/
import Derived.Test.YtlkhecdlmbhiaaaDoorRows
import Derived.WalkKit
import Derived.ProofKit
import Derived.OpenShut
import Derived.ShutString
import Derived.WalkLawsBesides
import Derived.WalkSpells
import Derived.Lib.Hide
import Derived.Laws.BytesString
import Derived.Laws.IdiomStrings
import Derived.Deep.Draws
import Derived.Deep.QuietTactic
import Derived.BigQuiet
namespace Go.Proofs.YtlkhecdlmbhiaaaDoor
set_option maxRecDepth 4096
open Go.ChangeShapes Go.WideShapes Go.ChangeAt Go.RowKit

theorem own : ownKnob Tryd.prog.godebug = none := by kernel_rfl
theorem Tryd.info5 : (Tryd.prog.info? 5).map (fun i => (i.zero, i.size, i.bytes)) = some (some (.int .u8 0), 1, 1) := by kernel_rfl
theorem Tryd.infoS : (Tryd.prog.info? 9).map (fun i => (i.zero, i.size, i.bytes)) = some (some (.string ⟨#[]⟩), 1, 16) := by kernel_rfl

theorem ret_int {k : IntKind} {a b : Int} (h : a = b) : Ending.returned (.int k a) = .returned (.int k b) := by rw [h]

/-- The byte at a place, as a number. -/
def byteAt (s : ByteArray) (n : Nat) : Int := ((s.data.toList.getD n 0).toNat : Int)
theorem byteAt_bd (s : ByteArray) (n : Nat) : 0 ≤ byteAt s n ∧ byteAt s n < 256 := by
  unfold byteAt
  have := (s.data.toList.getD n 0).toNat_lt
  omega
theorem byteAt_eq (s : ByteArray) (n : Nat) (h : n < s.size) : byteAt s n = ((s[n].toNat : Nat) : Int) := by
  unfold byteAt
  have hl : n < s.data.toList.length := by simpa using h
  rw [List.getD_eq_getElem?_getD, List.getElem?_eq_getElem hl]
  rfl
theorem run_at {P : Program} (t : TypeId) (s : ByteArray) (k : IntKind) (i : Int) (n : Nat) (e : i = n) (h : n < s.size) (ht : P.underlying t = some .string) (w : World) :
    (Instr.index t (.string s) (.int k i)).run P w = .ok (.int .u8 (byteAt s n)) w := by
  subst e
  rw [run_index_string w t s k n ht, dif_pos ⟨by omega, by omega⟩, byteAt_eq s n h]
  simp

/-- Bytes as cells. -/
def cellsOf (l : List UInt8) : List Value := l.map fun b => Value.int .u8 b.toNat

theorem cellsOf_append (l m : List UInt8) : cellsOf (l ++ m) = cellsOf l ++ cellsOf m := by simp [cellsOf]
theorem length_cellsOf (l : List UInt8) : (cellsOf l).length = l.length := by simp [cellsOf]
theorem cellsOf_one (l : List UInt8) : ∀ u ∈ cellsOf l, u.oneCell' = true := by
  intro u hu
  simp only [cellsOf, List.mem_map] at hu
  obtain ⟨b, _, rfl⟩ := hu
  rfl

theorem cells_new (w : World) (l : List UInt8) (t : TypeId) : ∀ j u, (cellsOf l)[j]? = some u → (w.alloc (.cells (cellsOf l).toArray t)).cell? ((⟨w.heap.size, 0, none⟩ : Addr).add j) = some u := by
  intro j u h
  have hadd : (⟨w.heap.size, 0, none⟩ : Addr).add j = ⟨w.heap.size, j, none⟩ := by unfold Addr.add; split <;> simp_all
  rw [hadd, World.cell?_alloc_mark]
  simpa using h
theorem cells_new1 (w : World) (x : Int) (h0 : 0 ≤ x) (h : x < 256) (t : TypeId) : ∀ j u, (cellsOf [UInt8.ofNat x.toNat])[j]? = some u → (w.alloc (.cells #[.int .u8 x] t)).cell? ((⟨w.heap.size, 0, none⟩ : Addr).add j) = some u := by
  have e : (#[Value.int .u8 x] : Array Value) = (cellsOf [UInt8.ofNat x.toNat]).toArray := by
    simp [cellsOf, UInt8.toNat_ofNat']
    omega
  rw [e]
  exact cells_new w _ t

/-- The text of a row of bytes that the call owns. -/
theorem run_text_own {P : Program} (w : World) (src dst e : TypeId) (hs : P.underlying src = some (.slice e)) (he : P.underlying e = some (.int .u8)) (hd : P.underlying dst = some .string)
    {base n : Nat} {v : Value} {l : List UInt8} (hown : w.ownsRow base e 1 v n (cellsOf l)) :
    (convert src dst v).run P w = .ok (.string ⟨l.toArray⟩) w := by
  have hl : l.length = n := by have := hown.1; rw [length_cellsOf] at this; omega
  rcases Nat.eq_zero_or_pos n with h0 | h0
  · have hnil : l = [] := List.eq_nil_of_length_eq_zero (by omega)
    subst hnil
    rcases hown.2 with ⟨rfl, _⟩ | ⟨g, cap, cur, rfl, _, hh, _⟩
    · rw [run_convert_bytes_string w src dst e none 0 0 hs he hd]
      simp [Conv.bytesToString]
      rfl
    · subst h0
      exact run_convert_bytes_back w src dst e ⟨g, 0, none⟩ cap [] hs he hd (fun j hj => absurd hj (by simp))
  · rcases hown.2 with ⟨_, h⟩ | ⟨g, cap, cur, rfl, _, hh, _⟩
    · omega
    · subst hl
      refine run_convert_bytes_back w src dst e ⟨g, 0, none⟩ cap l hs he hd (fun j hj => ?_)
      exact hown.cells rfl j _ (by simp [cellsOf, hj])

/-- The text of a new row of one byte. -/
theorem run_text_new1 {P : Program} (w : World) (src dst e : TypeId) (hs : P.underlying src = some (.slice e)) (he : P.underlying e = some (.int .u8)) (hd : P.underlying dst = some .string) (x : Int) (h0 : 0 ≤ x) (h : x < 256) :
    (convert src dst (.slice (some ⟨w.heap.size, 0, none⟩) 1 1)).run P (w.alloc (.cells #[.int .u8 x] e)) = .ok (.string ⟨#[UInt8.ofNat x.toNat]⟩) (w.alloc (.cells #[.int .u8 x] e)) :=
  run_convert_bytes_back _ src dst e ⟨w.heap.size, 0, none⟩ 1 [UInt8.ofNat x.toNat] hs he hd (fun j hj => by
    have hj0 : j = 0 := by simpa using hj
    subst hj0
    exact cells_new1 w x h0 h e 0 _ rfl)

section
variable {H : Type} {enc : TypeId × Value → H} {P : Program}
/-- The row's last step where of the call's world only 'below the old blocks nothing has turned' is known. -/
theorem post_of_below {f : Func} {s : ChangeSpec} {apart fresh handsOn again : Bool} {W W' : World} {args : Array Value} {v : Value} {ds gs : List (DataW H)} {before pa pv : List MemPlace}
    (hW : DataW.Whole enc P f.params.toList s.vars apart W args.toList ds gs before)
    (hres : ∀ (b : Nat) (sp : Nat → Bool) (hd : Bool), DataW.TrodAll enc P W' b sp hd f.resultTypes.toList (v.resultList f.resultTypes.size) (s.fn H (ds ++ gs)).results [])
    (hargs : ∀ sp : Nat → Bool, (∀ p ∈ before, sp p.block = true) → DataW.TrodAll enc P W' 0 sp true f.params.toList args.toList (s.fn H (ds ++ gs)).args pa)
    (hvars : ∀ sp : Nat → Bool, (∀ p ∈ before, sp p.block = true) → DataW.TrodVars enc P W' sp s.vars (s.fn H (ds ++ gs)).vars pv)
    (hps : before = pa ++ pv) (hb : Below W.heap.size W W')
    (hok : ∀ (j : Nat) (t : TypeId) (r : Value), f.resultTypes[j]? = some t → (v.resultList f.resultTypes.size)[j]? = some r → Value.okWide P W' .any 0 t r) :
    s.post enc P f apart fresh handsOn again W args v W' := by
  have hlt : ∀ p ∈ before, p.block < W.heap.size := fun p hp => hW.lt p hp
  have hold : ∀ p ∈ before, (fun b => decide (b < W.heap.size)) p.block = true := fun p hp => by simpa using hlt p hp
  refine ⟨ds, gs, before, [], pa, pv, hW, hres _ _ _, hargs _ hold, hvars _ hold, World.keptBut_mono (fun p hp => ⟨hp, ?_⟩) (hb.frame (· ∈ before)), fun _ => ?_⟩
  · rw [hps, List.mem_append] at hp
    exact Or.inr hp
  · obtain ⟨_, _, _, _, _, hz, hn⟩ := hW
    refine ⟨hok, _, _, ([] ++ pa) ++ pv, ⟨[] ++ pa, pv, trodAll_append (hargs _ (fun _ _ => rfl)) (hres _ _ _), hvars _ (fun _ _ => rfl), rfl, ?_, ?_⟩, ?_⟩
    · intro b off hp
      have hin : MemPlace.cell b off ∈ before := by rw [hps]; simpa using hp
      rw [hb.frozen (hlt _ hin)]
      exact hz b off hin
    · intro ha
      have := hn ha
      rw [hps] at this
      simpa using this
    · intro p hp _
      rw [hps]
      simpa using hp
end

theorem bcell {W w1 : World} (hb : Below W.heap.size W w1) : (∀ b o, b < W.heap.size → w1.cell? ⟨b, o, none⟩ = W.cell? ⟨b, o, none⟩) ∧ (∀ b o, b < W.heap.size → w1.frozen? ⟨b, o, none⟩ = W.frozen? ⟨b, o, none⟩) :=
  ⟨fun b o h => hb.cell (p := ⟨b, o, none⟩) h, fun b o h => hb.frozen (p := ⟨b, o, none⟩) h⟩

theorem own_below {B : Nat} {w w1 : World} {e : TypeId} {size : Nat} {v : Value} {n : Nat} {xs : List Value} (h : w.ownsRow B e size v n xs) (hb : Below w.heap.size w w1) (_hB : B ≤ w.heap.size) : w1.ownsRow B e size v n xs := by
  refine ⟨h.1, ?_⟩
  rcases h.2 with h2 | ⟨g, cap, cur, hv, hg, hh, r⟩
  · exact Or.inl h2
  · have hlt := (Array.getElem?_eq_some_iff.1 hh).1
    exact Or.inr ⟨g, cap, cur, hv, hg, by rw [hb.block g hlt]; exact hh, r⟩

theorem own_form {w : World} {base : Nat} {e : TypeId} {size : Nat} {v : Value} {n : Nat} {xs : List Value} (h : w.ownsRow base e size v n xs) : ∃ a c, v = .slice a n c := by
  rcases h.2 with ⟨rfl, rfl⟩ | ⟨g, cap, cur, rfl, _⟩
  · exact ⟨none, 0, rfl⟩
  · exact ⟨_, _, rfl⟩

theorem own_cell {w : World} {B : Nat} {e : TypeId} {g n c j : Nat} {xs : List Value} (h : w.ownsRow B e 1 (.slice (some ⟨g, 0, none⟩) n c) n xs) (hj : j < n) : ∃ u, w.cell? ⟨g, j, none⟩ = some u := by
  have hl : j < xs.length := by have := h.1; omega
  have := h.cells (g := g) rfl j xs[j] (List.getElem?_eq_getElem hl)
  have hadd : (⟨g, 0, none⟩ : Addr).add j = ⟨g, j, none⟩ := by unfold Addr.add; split <;> simp_all
  rw [hadd] at this
  exact ⟨_, this⟩

theorem grown_step {w wr w1 w2 : World} {g : Nat} (h : w.grownBy wr (some g)) (hb : Below wr.heap.size wr w1) (h2 : w1.grownBy w2 (some g)) : w.grownBy w2 (some g) :=
  ⟨h2.os.trans (hb.os.trans h.os), h2.tape.trans (hb.tape.trans h.tape), h2.output.trans (hb.output.trans h.output), Nat.le_trans h.size (Nat.le_trans hb.size h2.size),
    fun i hi hne => (h2.block i (Nat.lt_of_lt_of_le hi (Nat.le_trans h.size hb.size)) hne).trans ((hb.block i (Nat.lt_of_lt_of_le hi h.size)).trans (h.block i hi hne))⟩

theorem below_drewN {B : Nat} {a w : World} (h : Below B a w) (n : Nat) : Below B a (w.drewN n) := ⟨h.os, h.tape, h.output, h.size, h.block⟩

/-- Two rows of which one was there before the other was made. -/
theorem own_apart {w w' : World} {B : Nat} {e e' : TypeId} {s s' n n' : Nat} {v v' : Value} {xs xs' : List Value} (h : w.ownsRow B e s v n xs) (h' : w'.ownsRow w.heap.size e' s' v' n' xs') :
    v.ownBlock = none ∨ v.ownBlock ≠ v'.ownBlock := by
  cases hv : v.ownBlock with
  | none => exact .inl rfl
  | some k =>
    refine .inr (fun e => ?_)
    have h1 := (h.lt k hv).2
    have h2 := (h'.lt k e.symm).1
    omega

/-- A call has made memory only, and has returned v. -/
def Made (w : World) (v : Value) (e : Ending) (w' : World) : Prop := e = .returned v ∧ Below w.heap.size w w'

end Go.Proofs.YtlkhecdlmbhiaaaDoor

namespace Go.Proofs.YtlkhecdlmbhiaaaDoor
set_option maxRecDepth 4096
open Go.ChangeShapes Go.WideShapes Go.ChangeAt Go.RowKit

theorem and_le (x : Int) (m : Nat) (hm : m < 4611686018427387904) : 0 ≤ bits .and .i64 x (m : Int) ∧ bits .and .i64 x (m : Int) ≤ (m : Int) := by
  have h1 : (BitVec.ofInt 64 (m : Int)).toNat = m := by
    rw [BitVec.toNat_ofInt]
    have e : ((m : Int) % ((2 ^ 64 : Nat) : Int)) = m := Int.emod_eq_of_lt (by omega) (by omega)
    rw [e]
    rfl
  have h2 : (BitVec.ofInt 64 x &&& BitVec.ofInt 64 (m : Int)).toNat ≤ m := by
    rw [BitVec.toNat_and, h1]
    exact Nat.and_le_right
  have h3 : bits .and .i64 x (m : Int) = (((BitVec.ofInt 64 x &&& BitVec.ofInt 64 (m : Int)).toNat : Nat) : Int) := by
    show IntKind.i64.wrap (((BitVec.ofInt 64 x &&& BitVec.ofInt 64 (m : Int)).toNat : Nat) : Int) = _
    exact IntWalk.i64_in _ (by omega)
  rw [h3]
  omega

/-- The bytes handed in: a slice of N cells below the block g. -/
def CodeB (w : World) (v : Value) (N g : Nat) : Prop :=
  ∃ a c, v = .slice a N c ∧ (N = 0 ∨ ∃ b, a = some b ∧ b.block < g ∧ b.block < w.heap.size ∧ ∀ j, j < N → ∃ x : Int, 0 ≤ x ∧ x < 256 ∧ w.cell? (b.add j) = some (.int .u8 x))
/-- The cursor in block g over the bytes v. -/
def Cur (w : World) (g : Nat) (v : Value) (N : Nat) : Prop := ∃ i h : Int, 0 ≤ i ∧ i ≤ N ∧ w.heap[g]? = some (.cells #[v, .int .i64 i, .int .i64 h] 97 (0, 0))

theorem add_blockC (b : Addr) (j : Nat) : (b.add j).block = b.block := by unfold Addr.add; split <;> rfl
theorem CodeB.keep {w w' : World} {v : Value} {N g : Nat} (h : CodeB w v N g) (hb : ∀ k, k < g → k < w.heap.size → w'.heap[k]? = w.heap[k]?) (hs : w.heap.size ≤ w'.heap.size) : CodeB w' v N g := by
  obtain ⟨a, c, hv, hh⟩ := h
  refine ⟨a, c, hv, ?_⟩
  rcases hh with h0 | ⟨b, ha, hg, hlt, hc⟩
  · exact .inl h0
  · refine .inr ⟨b, ha, hg, Nat.lt_of_lt_of_le hlt hs, fun j hj => ?_⟩
    obtain ⟨x, h1, h2, h3⟩ := hc j hj
    refine ⟨x, h1, h2, ?_⟩
    rw [← h3]
    have e := hb b.block hg hlt
    simp [World.cell?, add_blockC, e]
theorem CodeB.below {w w' : World} {v : Value} {N g : Nat} (h : CodeB w v N g) (hb : Below w.heap.size w w') : CodeB w' v N g := h.keep (fun k _ hk => hb.block k hk) hb.size
theorem CodeB.turn {w w' : World} {v : Value} {N g : Nat} (h : CodeB w v N g) (hb : w.grownBy w' (some g)) : CodeB w' v N g := h.keep (fun k hk hlt => hb.block k hlt (fun e => by cases e; omega)) hb.size
theorem Cur.below {w w' : World} {v : Value} {N g : Nat} (h : Cur w g v N) (hb : Below w.heap.size w w') : Cur w' g v N := by
  obtain ⟨i, x, h1, h2, h3⟩ := h
  exact ⟨i, x, h1, h2, (hb.block _ (Array.getElem?_eq_some_iff.1 h3).1).trans h3⟩
theorem Cur.keep {w w' : World} {v : Value} {N g : Nat} (h : Cur w g v N) (hb : w'.heap[g]? = w.heap[g]?) : Cur w' g v N := by
  obtain ⟨i, x, h1, h2, h3⟩ := h
  exact ⟨i, x, h1, h2, hb.trans h3⟩
theorem Cur.lt {w : World} {v : Value} {N g : Nat} (h : Cur w g v N) : g < w.heap.size := by
  obtain ⟨i, x, h1, h2, h3⟩ := h
  exact (Array.getElem?_eq_some_iff.1 h3).1

/-- A draw: a number x of which Q holds; the cursor's block alone has turned. -/
def Drawn (w : World) (g : Nat) (v : Value) (N : Nat) (Q : Int → Prop) (e : Ending) (w' : World) : Prop :=
  ∃ x, e = .returned (.int .i64 x) ∧ Q x ∧ Cur w' g v N ∧ w.grownBy w' (some g)

theorem grown_draw {w w1 : World} {r : Option Nat} (h : w.grownBy w1 r) (n : Nat) : w.grownBy (w1.drewN n) r := ⟨h.os, h.tape, h.output, h.size, h.block⟩
theorem KeepsOthers2 (w : World) (g j : Nat) (v : Value) : w.heap.size ≤ (w.setCell ⟨g, j, none⟩ v).heap.size := by simp [World.setCell]
theorem grown_set {w w1 : World} {g : Nat} (h : w.grownBy w1 (some g)) (j : Nat) (v : Value) : w.grownBy (w1.setCell ⟨g, j, none⟩ v) (some g) :=
  ⟨h.os, h.tape, h.output, Nat.le_trans h.size (KeepsOthers2 _ _ _ _), fun k hk hne => (heap_setCell_other _ _ _ _ (fun e => hne (by rw [e]))).trans (h.block k hk hne)⟩

set_option maxHeartbeats 2000000 in
theorem l01Byte (g N : Nat) (v : Value) (w : World) (hN : N ≤ 9000000000000000) (hc : CodeB w v N g) (hk : Cur w g v N) :
    Calls Tryd.prog 27 #[.pointer (some ⟨g, 0, none⟩)] w (Drawn w g v N fun x => 0 ≤ x ∧ x < 256) := by
  obtain ⟨i, h, hi0, hi1, hg⟩ := hk
  obtain ⟨a, c, rfl, hh⟩ := hc
  have c0 : w.cell? ⟨g, 0, none⟩ = some (.slice a N c) := by rw [cell_of_row _ _ _ _ _ _ hg]; rfl
  have c1 : w.cell? ⟨g, 1, none⟩ = some (.int .i64 i) := by rw [cell_of_row _ _ _ _ _ _ hg]; rfl
  have c2 : w.cell? ⟨g, 2, none⟩ = some (.int .i64 h) := by rw [cell_of_row _ _ _ _ _ _ hg]; rfl
  have f0 := frozen_of_row w g 1 _ _ hg
  have f2 := frozen_of_row w g 2 _ _ hg
  go_enter Tryd.func27, Tryd.ntmps27
  go_wp2_with fail
  generalize wrap64 (wrap64 (h * 6364136223846793005) + 1442695040888963407) = E
  have hg1 : (w.setCell ⟨g, 2, none⟩ (.int .i64 E)).heap[g]? = some (.cells #[.slice a N c, .int .i64 i, .int .i64 E] 97 (0, 0)) := heap_setCell_same w g 2 _ _ (.int .i64 E) hg
  have hgr : w.grownBy (w.setCell ⟨g, 2, none⟩ (.int .i64 E)) (some g) := ⟨rfl, rfl, rfl, (KeepsOthers2 w g 2 _), fun k _ hne => heap_setCell_other _ _ _ _ (fun e => hne (by rw [e]))⟩
  generalize w.setCell ⟨g, 2, none⟩ (.int .i64 E) = w1 at hg1 hgr ⊢
  clear c0 c1 c2 f0 f2 hg
  have c0 : w1.cell? ⟨g, 0, none⟩ = some (.slice a N c) := by rw [cell_of_row _ _ _ _ _ _ hg1]; rfl
  have c1 : w1.cell? ⟨g, 1, none⟩ = some (.int .i64 i) := by rw [cell_of_row _ _ _ _ _ _ hg1]; rfl
  have c2 : w1.cell? ⟨g, 2, none⟩ = some (.int .i64 E) := by rw [cell_of_row _ _ _ _ _ _ hg1]; rfl
  go_quiet (fail)
  have hX : 0 ≤ bits .and .i64 (bits .xor .i64 (E / 8589934592) (E / 35184372088832)) 255 ∧ bits .and .i64 (bits .xor .i64 (E / 8589934592) (E / 35184372088832)) 255 ≤ 255 := and_le _ 255 (by decide)
  generalize bits .and .i64 (bits .xor .i64 (E / 8589934592) (E / 35184372088832)) 255 = X at hX ⊢
  obtain ⟨n, rfl⟩ : ∃ n : Nat, i = n := ⟨i.toNat, by omega⟩
  clear c2
  go_wp2_with fail
  by_cases hlt : n < N
  · have hlt2 : (n : Int) < (N : Int) := by omega
    rcases hh with h0 | ⟨b, rfl, hb1, hb2, hcell⟩
    · omega
    · obtain ⟨x, hx0, hx1, hx⟩ := hcell n hlt
      have d0 : w1.cell? (b.add n) = some (.int .u8 x) := by
        rw [← hx]
        have e := hgr.block b.block hb2 (fun e => by cases e; omega)
        simp [World.cell?, add_blockC, e]
      clear hcell hx
      go_quiet (fail)
      go_wp2_with fail
      go_quiet (fail)
      have hY : 0 ≤ bits .and .i64 (X + x) 255 ∧ bits .and .i64 (X + x) 255 ≤ 255 := and_le _ 255 (by decide)
      generalize bits .and .i64 (X + x) 255 = Y at hY ⊢
      have f1 := frozen_of_row w1 g 1 _ _ hg1
      go_wp2_with fail
      go_ret
      exact ⟨Y, rfl, by omega, ⟨(n : Int) + 1, E, by omega, by omega, heap_setCell_same _ g 1 _ _ _ hg1⟩, grown_set (grown_draw hgr _) 1 _⟩
  · obtain rfl : n = N := by omega
    go_quiet (fail)
    go_wp2_with fail
    go_ret
    exact ⟨X, rfl, by omega, ⟨(n : Int), E, by omega, by omega, hg1⟩, grown_draw (grown_draw hgr _) _⟩

theorem drawn_on {w w1 w2 : World} {g : Nat} (h : w.grownBy w1 (some g)) (k : w1.grownBy w2 (some g)) : w.grownBy w2 (some g) :=
  ⟨k.os.trans h.os, k.tape.trans h.tape, k.output.trans h.output, Nat.le_trans h.size k.size, fun i hi hne => (k.block i (Nat.lt_of_lt_of_le hi h.size) hne).trans (h.block i hi hne)⟩

set_option maxHeartbeats 2000000 in
theorem l01Below_few (g N : Nat) (v : Value) (n : Int) (w : World) (hN : N ≤ 9000000000000000) (hc : CodeB w v N g) (hk : Cur w g v N) (hn1 : 1 ≤ n) (hn2 : n ≤ 256) :
    Calls Tryd.prog 28 #[.pointer (some ⟨g, 0, none⟩), .int .i64 n] w (Drawn w g v N fun x => 0 ≤ x ∧ x < n) := by
  go_enter Tryd.func28, Tryd.ntmps28
  go_wp2_with fail
  refine (l01Byte g N v w hN hc hk).mono ?_
  rintro e w1 ⟨x, rfl, ⟨hx0, hx1⟩, hcur, hgr⟩
  have hne : n ≠ 0 := by omega
  have h1 : 0 ≤ x.tmod n ∧ x.tmod n < n := ⟨Int.tmod_nonneg _ hx0, Int.tmod_lt_of_pos _ (by omega)⟩
  obtain ⟨y, hy⟩ : ∃ y, x.tmod n = y := ⟨_, rfl⟩
  rw [hy] at h1
  go_wp2_with fail
  go_ret
  exact ⟨y, rfl, h1, hcur, hgr⟩

theorem l01Below_none (g N : Nat) (v : Value) (n : Int) (w : World) (hk : Cur w g v N) (hn : n ≤ 0) :
    Calls Tryd.prog 28 #[.pointer (some ⟨g, 0, none⟩), .int .i64 n] w (Drawn w g v N fun x => x = 0) := by
  go_enter Tryd.func28, Tryd.ntmps28
  go_wp2_with fail
  go_ret
  exact ⟨0, rfl, rfl, hk, ⟨rfl, rfl, rfl, Nat.le_refl _, fun _ _ _ => rfl⟩⟩

set_option maxHeartbeats 4000000 in
theorem l01Below_many (g N : Nat) (v : Value) (n : Int) (w : World) (hN : N ≤ 9000000000000000) (hc : CodeB w v N g) (hk : Cur w g v N) (hn1 : 256 < n) :
    Calls Tryd.prog 28 #[.pointer (some ⟨g, 0, none⟩), .int .i64 n] w (Drawn w g v N fun x => 0 ≤ x ∧ x < n) := by
  go_enter Tryd.func28, Tryd.ntmps28
  go_wp2_with fail
  refine (l01Byte g N v w hN hc hk).mono ?_
  rintro e w1 ⟨x1, rfl, ⟨h10, h11⟩, hk1, hg1⟩
  have hc1 := hc.turn hg1
  go_wp2_with fail
  refine (l01Byte g N v w1 hN hc1 hk1).mono ?_
  rintro e w2 ⟨x2, rfl, ⟨h20, h21⟩, hk2, hg2⟩
  have hc2 := hc1.turn hg2
  go_wp2_with fail
  refine (l01Byte g N v w2 hN hc2 hk2).mono ?_
  rintro e w3 ⟨x3, rfl, ⟨h30, h31⟩, hk3, hg3⟩
  have hc3 := hc2.turn hg3
  go_wp2_with fail
  refine (l01Byte g N v w3 hN hc3 hk3).mono ?_
  rintro e w4 ⟨x4, rfl, ⟨h40, h41⟩, hk4, hg4⟩
  have hne : n ≠ 0 := by omega
  obtain ⟨s, hs⟩ : ∃ s, x1 * 16777216 + x2 * 65536 + x3 * 256 + x4 = s := ⟨_, rfl⟩
  have hs0 : 0 ≤ s := by omega
  have h1 : 0 ≤ s.tmod n ∧ s.tmod n < n := ⟨Int.tmod_nonneg _ hs0, Int.tmod_lt_of_pos _ (by omega)⟩
  obtain ⟨y, hy⟩ : ∃ y, s.tmod n = y := ⟨_, rfl⟩
  rw [hy] at h1
  go_wp2_with fail
  go_ret
  exact ⟨y, rfl, h1, hk4, drawn_on hg1 (drawn_on hg2 (drawn_on hg3 hg4))⟩

theorem l01Below (g N : Nat) (v : Value) (n : Int) (w : World) (hN : N ≤ 9000000000000000) (hc : CodeB w v N g) (hk : Cur w g v N) (hn1 : 1 ≤ n) :
    Calls Tryd.prog 28 #[.pointer (some ⟨g, 0, none⟩), .int .i64 n] w (Drawn w g v N fun x => 0 ≤ x ∧ x < n) := by
  by_cases h : n ≤ 256
  · exact l01Below_few g N v n w hN hc hk hn1 h
  · exact l01Below_many g N v n w hN hc hk (by omega)

set_option maxHeartbeats 2000000 in
theorem l01New (N : Nat) (v : Value) (w : World) (hN : N ≤ 9000000000000000) (hc : CodeB w v N w.heap.size) :
    Calls Tryd.prog 26 #[v] w fun e w' => e = .returned (.pointer (some ⟨w.heap.size, 0, none⟩)) ∧ Cur w' w.heap.size v N ∧ Below w.heap.size w w' := by
  obtain ⟨a, c, rfl, hh⟩ := hc
  have HH := Lib.hid hh
  clear hh
  go_enter Tryd.func26, Tryd.ntmps26
  go_wp2_with fail
  go_loop [3, 4] (fun h i => ∃ (k : Nat) (x : Int), k ≤ N ∧ i = .int .i64 k ∧ h = .int .i64 x ∧ 0 ≤ x ∧ x ≤ 10000000000000000) (fun _ i => N - (intOf i).toNat)
  case atStart => exact ⟨0, _, Nat.zero_le _, rfl, rfl, by omega, by omega⟩
  case round =>
    obtain ⟨k, x, hk, rfl, rfl, hx0, hx1⟩ := hrel
    by_cases hlt : k < N ∧ k < 4000
    · obtain ⟨hlt1, hlt2⟩ := hlt
      rcases HH.out with h0 | ⟨b, rfl, hb1, hb2, hcell⟩
      · omega
      · obtain ⟨y, hy0, hy1, hy⟩ := hcell k hlt1
        have hk1 : (k : Int) < (N : Int) := by omega
        have hk2 : (k : Int) < 4000 := by omega
        clear hcell
        go_wp2_with fail
        have hX : 0 ≤ bits .and .i64 (x * 131 + y + 7) 1073741823 ∧ bits .and .i64 (x * 131 + y + 7) 1073741823 ≤ 1073741823 := and_le _ 1073741823 (by decide)
        go_round
        case rel => exact ⟨k + 1, _, by omega, by go_num, rfl, hX.1, by omega⟩
        case measure => simp [intOf]; omega
    · by_cases h1 : k < N
      · have h2 : ¬ (k : Int) < 4000 := by omega
        have h3 : (k : Int) < (N : Int) := by omega
        go_wp2_with fail
        go_ret
        exact ⟨rfl, ⟨0, x, by omega, by omega, heap_alloc_new w _⟩, (Below.refl _ w).alloc (Nat.le_refl _) _⟩
      · obtain rfl : k = N := by omega
        go_wp2_with fail
        go_ret
        exact ⟨rfl, ⟨0, x, by omega, by omega, heap_alloc_new w _⟩, (Below.refl _ w).alloc (Nat.le_refl _) _⟩

end Go.Proofs.YtlkhecdlmbhiaaaDoor

