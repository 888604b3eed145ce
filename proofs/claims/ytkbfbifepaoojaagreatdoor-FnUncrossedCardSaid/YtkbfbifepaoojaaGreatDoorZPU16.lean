/-
  CONTRACT of the model's l11Walk: ways from given starts that meet nowhere. No law is proved here.
-/
import Derived.Test.YtkbfbifepaoojaaGreatDoorZPU08
import Derived.Test.YtkbfbifepaoojaaGreatDoorZPU09
import Derived.Deep.AppendLies
import Derived.Test.YtkbfbifepaoojaaGreatDoorZPU13
import Derived.Test.YtkbfbifepaoojaaGreatDoorZPU15
import Derived.Maps.AppendAt
import Derived.StillTailTactics
import Derived.Deep.RegionHeld3
import Derived.BigQuiet
import Derived.Deep.QuietTactic
namespace Go.Proofs.YtkbfbifepaoojaaGreatDoor
set_option maxRecDepth 4096
open Go.ChangeShapes Go.WideShapes Go.ChangeAt Go.RowKit

/-- spec.l01Once. -/
theorem onceB (g N : Nat) (v : Value) (n : Int) (w : World) (hN : N ≤ 9000000000000000) (hc : CodeB w v N g) (hk : Cur w g v N) (hn1 : 1 ≤ n) :
    Calls Tryz.prog 64 #[.pointer (some ⟨g, 0, none⟩), .int .i64 n] w fun e w' => ∃ b, e = .returned (.bool b) ∧ Cur w' g v N ∧ w.grownBy w' (some g) := by
  have HC := Lib.hid (l01Below g N v n w hN hc hk hn1)
  clear hc hk
  go_enter Tryz.func64, Tryz.ntmps64
  go_wp2_with fail
  refine HC.out.mono ?_
  rintro e w1 ⟨x, rfl, _, hk1, hg1⟩
  by_cases hx : x = 0
  · have hb : (x == 0) = true := by simpa using hx
    clear hx
    go_wp2_with fail
    go_ret
    exact ⟨_, rfl, hk1, hg1⟩
  · have hb : (x == 0) = false := by simpa using hx
    clear hx
    go_wp2_with fail
    go_ret
    exact ⟨_, rfl, hk1, hg1⟩

theorem own_any2 {w' w'' : World} {B s k : Nat} {e : TypeId} {v : Value} {xs : List Value} (ho : w'.ownsRow B e s v k xs) (hb : Below w'.heap.size w' w'') : w''.ownsRow B e s v k xs := ho.kept (show w'.grownBy w'' none from ⟨hb.os, hb.tape, hb.output, hb.size, fun i hi _ => hb.block i hi⟩) (by cases v.ownBlock <;> simp)
/-- What all loops keep: the grid's box, the starts, the code, the cursor. -/
structure WK (w : World) (W H : Int) (C : ByteArray) (g N : Nat) (v : Value) (B0 : Nat) (vS : Value) (S : List Int) (wr : World) : Prop where
  turn : w.grownBy wr (some g)
  box : wr.heap[w.heap.size]? = some (.cells #[.int .i64 W, .int .i64 H, .string C] 25)
  code : CodeB wr v N g
  cur : Cur wr g v N
  start : wr.ownsRow B0 3 1 vS S.length (S.map (Value.int .i64))
  old : ∀ j, vS.ownBlock = some j → j < w.heap.size
section
variable {w wr w' : World} {W H : Int} {C : ByteArray} {g N B0 : Nat} {v vS : Value} {S : List Int}
theorem WK.step {row : Option Nat} (h : WK w W H C g N v B0 vS S wr) (hgl : g < w.heap.size) (k : wr.grownBy w' row) (hr : ∀ r, row = some r → w.heap.size < r) : WK w W H C g N v B0 vS S w' := by
  have hlt := h.cur.lt
  refine ⟨turn_trans h.turn k fun r e => .inl (by have := hr r e; omega), ?_, ?_, ?_, h.start.kept k ?_, h.old⟩
  · exact (k.block w.heap.size (Array.getElem?_eq_some_iff.1 h.box).1 (fun e => by have := hr _ e.symm; omega)).trans h.box
  · exact h.code.keep (fun i hi hl => k.block i hl (fun e => by have := hr _ e.symm; omega)) k.size
  · exact h.cur.keep (k.block g hlt (fun e => by have := hr _ e.symm; omega))
  · cases hb : vS.ownBlock with
    | none => exact .inl rfl
    | some j => exact .inr fun e => by have := hr j e.symm; have := h.old j hb; omega
theorem WK.on (h : WK w W H C g N v B0 vS S wr) (hgl : g < w.heap.size) (hb : Below wr.heap.size wr w') : WK w W H C g N v B0 vS S w' :=
  h.step hgl (row := none) ⟨hb.os, hb.tape, hb.output, hb.size, fun i hi _ => hb.block i hi⟩ fun r e => by cases e
theorem WK.draw (h : WK w W H C g N v B0 vS S wr) (hgB : g < B0) (hgl : g < w.heap.size) (k : wr.grownBy w' (some g)) (hc : Cur w' g v N) : WK w W H C g N v B0 vS S w' := by
  refine ⟨turn_trans h.turn k fun r e => .inr (Option.some.inj e).symm, ?_, h.code.turn k, hc, h.start.kept k ?_, h.old⟩
  · exact (k.block w.heap.size (Array.getElem?_eq_some_iff.1 h.box).1 (fun e => by have := Option.some.inj e; omega)).trans h.box
  · cases hb : vS.ownBlock with
    | none => exact .inl rfl
    | some j => exact .inr fun e => by have := (h.start.lt j hb).1; have := Option.some.inj e; omega
theorem WK.cells (h : WK w W H C g N v B0 vS S wr) : wr.cell? ⟨w.heap.size, 0, none⟩ = some (.int .i64 W) ∧ wr.cell? ⟨w.heap.size, 1, none⟩ = some (.int .i64 H) ∧ wr.cell? ⟨w.heap.size, 2, none⟩ = some (.string C) := by
  refine ⟨?_, ?_, ?_⟩ <;> (rw [cell_of_row _ _ _ _ _ _ h.box]; rfl)
end
theorem own_two_way {w : World} {B B' n n' : Nat} {v v' : Value} {xs xs' : List Value} (h : w.ownsRow B 51 1 v n xs) (h' : w.ownsRow B' 3 1 v' n' xs') : v.ownBlock = none ∨ v.ownBlock ≠ v'.ownBlock := own_kinds h h' (by decide)
theorem own_low {w : World} {B s n g : Nat} {e : TypeId} {v : Value} {xs : List Value} (h : w.ownsRow B e s v n xs) (hg : g < B) : v.ownBlock = none ∨ v.ownBlock ≠ some g := by
  cases hv : v.ownBlock with
  | none => exact .inl rfl
  | some j => exact .inr fun e => by have := (h.lt j hv).1; have := Option.some.inj e; omega
theorem AllR.read {w : World} {B : Nat} {us : List Value} {LL : List (List Int)} (h : AllR w B us LL) {i g n c k : Nat} {L : List Int} {x : Int} (hu : us[i]? = some (.slice (some ⟨g, 0, none⟩) n c)) (hL : LL[i]? = some L) (hx : L[k]? = some x) : w.cell? ⟨g, k, none⟩ = some (.int .i64 x) := by
  have hc := (h.row i _ L hu hL).cells (g := g) rfl k (.int .i64 x) (by rw [List.getElem?_map, hx]; rfl)
  have hadd : (⟨g, 0, none⟩ : Addr).add k = ⟨g, k, none⟩ := by unfold Addr.add; split <;> simp_all
  rwa [hadd] at hc
/-- A cell of the first row is written. -/
theorem AllR.put0 {w : World} {B g n c : Nat} {us : List Value} {L : List Int} {LL : List (List Int)} (h : AllR w B (.slice (some ⟨g, 0, none⟩) n c :: us) (L :: LL)) (hl : L.length = n) (k : Nat) (y : Int) :
    w.frozen? ⟨g, k, none⟩ = false ∧ AllR (w.setCell ⟨g, k, none⟩ (.int .i64 y)) B (.slice (some ⟨g, 0, none⟩) n c :: us) (L.set k y :: LL) ∧ w.grownBy (w.setCell ⟨g, k, none⟩ (.int .i64 y)) (some g) ∧ B ≤ g ∧ w.ownsRow B 3 1 (.slice (some ⟨g, 0, none⟩) n c) n (L.map (Value.int .i64)) := by
  have ho := h.row 0 _ L rfl rfl
  rw [hl] at ho
  have hg : w.grownBy (w.setCell ⟨g, k, none⟩ (.int .i64 y)) (some g) := ⟨rfl, rfl, rfl, by simp [World.setCell], fun j _ hj => heap_setCell_other w ⟨g, k, none⟩ j _ (fun e => hj (by simp [e]))⟩
  refine ⟨ho.frozenAt k, ?_, hg, (ho.lt g rfl).1, ho⟩
  refine AllR.swap (i := 0) h rfl rfl ?_ hg (.inl rfl)
  rw [List.map_set, List.length_set, hl]
  exact (ho.stored k (.int .i64 y)).1
/-- What the inner loop keeps: the ways, the rows, and WK. -/
structure HW (w : World) (W H : Int) (C : ByteArray) (g N : Nat) (v : Value) (B0 : Nat) (vS : Value) (S : List Int) (vO : Value) (us : List Value) (vx vn : Value) (Next Now : List Int) (Ls : List (List Int)) (wr : World) : Prop where
  outs : wr.ownsRow (w.heap.size + 1) 51 1 vO S.length us
  all : AllR wr (w.heap.size + 1) (vx :: vn :: us) (Next :: Now :: Ls)
  wk : WK w W H C g N v B0 vS S wr
section
variable {w wr w' : World} {W H : Int} {C : ByteArray} {g N B0 : Nat} {v vS vO vx vn : Value} {S Next Now : List Int} {us : List Value} {Ls : List (List Int)}
theorem HW.on (h : HW w W H C g N v B0 vS S vO us vx vn Next Now Ls wr) (hgl : g < w.heap.size) (hb : Below wr.heap.size wr w') : HW w W H C g N v B0 vS S vO us vx vn Next Now Ls w' :=
  ⟨own_any2 h.outs hb, h.all.on hb, h.wk.on hgl hb⟩
theorem HW.draw (h : HW w W H C g N v B0 vS S vO us vx vn Next Now Ls wr) (hgB : g < B0) (hgl : g < w.heap.size) (hgB1 : g < w.heap.size + 1) (k : wr.grownBy w' (some g)) (hc : Cur w' g v N) : HW w W H C g N v B0 vS S vO us vx vn Next Now Ls w' :=
  ⟨h.outs.kept k (own_low h.outs hgB1), h.all.turn k hgB1, h.wk.draw hgB hgl k hc⟩
theorem HW.held {gx gn n n' cx cn a i : Nat} {d e1 y2 x : Int} (h : HW w W H C g N v B0 vS S vO us (.slice (some ⟨gx, 0, none⟩) n cx) (.slice (some ⟨gn, 0, none⟩) n' cn) Next Now Ls wr) (h1 : Next[a]? = some d) (h2 : Now[a]? = some e1) (h3 : Next[i]? = some y2) (h4 : Now[i]? = some x) :
    wr.cell? ⟨gx, a, none⟩ = some (.int .i64 d) ∧ wr.cell? ⟨gn, a, none⟩ = some (.int .i64 e1) ∧ wr.cell? ⟨gx, i, none⟩ = some (.int .i64 y2) ∧ wr.cell? ⟨gn, i, none⟩ = some (.int .i64 x) ∧ wr.cell? ⟨w.heap.size, 0, none⟩ = some (.int .i64 W) ∧ wr.cell? ⟨w.heap.size, 1, none⟩ = some (.int .i64 H) ∧ wr.cell? ⟨w.heap.size, 2, none⟩ = some (.string C) ∧ HW w W H C g N v B0 vS S vO us (.slice (some ⟨gx, 0, none⟩) n cx) (.slice (some ⟨gn, 0, none⟩) n' cn) Next Now Ls wr := by
  obtain ⟨c0, c1, c2⟩ := h.wk.cells
  exact ⟨h.all.read (i := 0) rfl rfl h1, h.all.read (i := 1) rfl rfl h2, h.all.read (i := 0) rfl rfl h3, h.all.read (i := 1) rfl rfl h4, c0, c1, c2, h⟩
end
theorem own_any3 {w' w'' : World} {B s k : Nat} {e : TypeId} {v : Value} {xs : List Value} (ho : w'.ownsRow B e s v k xs) (hb : Below w'.heap.size w' w'') : w''.ownsRow B e s v k xs := own_any2 ho hb
theorem own_at {w : World} {B s n c : Nat} {e : TypeId} {a : Option Addr} {xs : List Value} (h : w.ownsRow B e s (.slice a n c) n xs) (hn : n ≠ 0) : ∃ g, a = some ⟨g, 0, none⟩ := by
  rcases h.2 with ⟨e, _⟩ | ⟨g, cap, cur, e, _⟩
  · injection e with _ e2 _
    exact absurd e2 hn
  · injection e with e1 _ _
    exact ⟨g, e1⟩
theorem own_cell_at {w : World} {B n c g i : Nat} {e : TypeId} {xs : List Value} {u : Value} (h : w.ownsRow B e 1 (.slice (some ⟨g, 0, none⟩) n c) n xs) (hu : xs[i]? = some u) : w.cell? ⟨g, i, none⟩ = some u := by
  have hc := h.cells (g := g) rfl i u hu
  have hadd : (⟨g, 0, none⟩ : Addr).add i = ⟨g, i, none⟩ := by unfold Addr.add; split <;> simp_all
  rwa [hadd] at hc
/-- Three facts of a world, kept as one. -/
structure HZ (w : World) (A B C : Prop) : Prop where
  a : A
  b : B
  c : C
/-- One way has got its next cell: what holds behind the append, and behind the store. -/
theorem way_app {w W7 w9 : World} {W H : Int} {C : ByteArray} {g N B0 : Nat} {v vS : Value} {S : List Int} {go gx n cx cO i g9 c9 : Nat} {L X : List Int} {u : Value} {x : Int} {us2 : List Value} {Ls : List (List Int)}
    (hO : W7.ownsRow (w.heap.size + 1) 51 1 (.slice (some ⟨go, 0, none⟩) S.length cO) S.length us2) (hA : AllR W7 (w.heap.size + 1) (.slice (some ⟨gx, 0, none⟩) n cx :: us2) (X :: growL Ls X i)) (hK : WK w W H C g N v B0 vS S W7) (hgl : g < w.heap.size)
    (hX : X[i]? = some x) (hL : Ls[i]? = some L) (hu : us2[i]? = some u)
    (hown : w9.ownsRow (w.heap.size + 1) 3 1 (.slice (some ⟨g9, 0, none⟩) (L.length + 1) c9) (L.length + 1) (L.map (Value.int .i64) ++ [x].map (Value.int .i64))) (hgrow : W7.grownBy w9 u.ownBlock) (hat : u.ownBlock = some g9 ∨ g9 = W7.heap.size) :
    (w9.cell? ⟨go, i, none⟩ = some u ∧ w9.cell? ⟨gx, i, none⟩ = some (.int .i64 x)) ∧ w9.frozen? ⟨go, i, none⟩ = false ∧ HZ (w9.setCell ⟨go, i, none⟩ (.slice (some ⟨g9, 0, none⟩) (L.length + 1) c9)) ((w9.setCell ⟨go, i, none⟩ (.slice (some ⟨g9, 0, none⟩) (L.length + 1) c9)).ownsRow (w.heap.size + 1) 51 1 (.slice (some ⟨go, 0, none⟩) S.length cO) S.length (us2.set i (.slice (some ⟨g9, 0, none⟩) (L.length + 1) c9))) (AllR (w9.setCell ⟨go, i, none⟩ (.slice (some ⟨g9, 0, none⟩) (L.length + 1) c9)) (w.heap.size + 1) (.slice (some ⟨gx, 0, none⟩) n cx :: us2.set i (.slice (some ⟨g9, 0, none⟩) (L.length + 1) c9)) (X :: growL Ls X (i + 1))) (WK w W H C g N v B0 vS S (w9.setCell ⟨go, i, none⟩ (.slice (some ⟨g9, 0, none⟩) (L.length + 1) c9))) := by
  have hLg : (growL Ls X i)[i]? = some L := grow_self.trans hL
  have hu1 : (Value.slice (some ⟨gx, 0, none⟩) n cx :: us2)[i + 1]? = some u := by simpa using hu
  have hL1 : (X :: growL Ls X i)[i + 1]? = some L := by simpa using hLg
  have hr := hA.row (i + 1) u L hu1 hL1
  have hO9 := hO.kept hgrow (own_two_way hO hr)
  have hK9 := hK.step hgl hgrow fun r e => by have := (hr.lt r e).1; omega
  have hA9 : AllR w9 (w.heap.size + 1) (.slice (some ⟨gx, 0, none⟩) n cx :: us2.set i (.slice (some ⟨g9, 0, none⟩) (L.length + 1) c9)) (X :: growL Ls X (i + 1)) := by
    have h := AllR.swap (i := i + 1) (u' := .slice (some ⟨g9, 0, none⟩) (L.length + 1) c9) (L' := L ++ [x]) hA hu1 hL1 (by
      rw [List.map_append, List.length_append, List.length_singleton]
      exact hown) hgrow (by
      rcases hat with e | e
      · exact .inl e.symm
      · exact .inr ⟨g9, rfl, by omega⟩)
    rw [List.set_cons_succ, List.set_cons_succ, grow_succ hX hL] at h
    exact h
  obtain ⟨hs1, hs2⟩ := hO9.stored i (.slice (some ⟨g9, 0, none⟩) (L.length + 1) c9)
  exact ⟨⟨own_cell_at hO9 hu, hA9.read (i := 0) rfl rfl hX⟩, hO9.frozenAt i, hs1, hA9.kinds hO9 (by decide) hs2, hK9.step hgl hs2 fun r e => by have := (hO9.lt go rfl).1; have := Option.some.inj e; omega⟩
def WalkV (w : World) (W H : Int) (C : ByteArray) (g N : Nat) (v : Value) (S : List Int) (T : Nat) (e : Ending) (w' : World) : Prop :=
  ∃ (Ws : List (List Int)) (x : Value) (vs : List Value), e = .returned x ∧ WalkD (aroundL W H C) S T Ws ∧ OutW w' (w.heap.size + 1) x vs Ws ∧ Cur w' g v N ∧ w.grownBy w' (some g)

set_option maxHeartbeats 8000000 in
theorem l11Walk (g N : Nat) (v : Value) (W H : Int) (C : ByteArray) (S : List Int) (T : Nat) (vS : Value) (w : World) (hN : N ≤ 9000000000000000) (hC : C.size ≤ 1048576) (hSn : S.Nodup) (hS1 : 1 ≤ S.length) (hS10 : S.length ≤ 10) (hT : T ≤ 20) (B0 : Nat) (hgB : g < B0) (hc : CodeB w v N g) (hk : Cur w g v N) (hso : w.ownsRow B0 3 1 vS S.length (S.map (Value.int .i64))) :
    Calls Tryz.prog 61 #[.pointer (some ⟨g, 0, none⟩), .agg #[.int .i64 W, .int .i64 H, .string C], vS, .int .i64 (T : Int)] w (WalkV w W H C g N v S T) := by
  obtain ⟨i0, hi, hz0, hz1, hz2⟩ := info_parts Tryz.info3
  have HI0 := Lib.hid hi
  obtain ⟨i1, hi1, hz10, hz11, hz12⟩ := info_parts Tryz.infoWay
  have hgl := hk.lt
  have hgB1 : g < w.heap.size + 1 := Nat.lt_succ_of_lt hgl
  have hs := ints_of_own hso
  have HSO := Lib.hid hso
  have hB := (Below.refl w.heap.size w).alloc (Nat.le_refl _) (.cells #[.int .i64 W, .int .i64 H, .string C] 25)
  have HSS := Lib.hid (ints_on hs hB)
  have HK := Lib.hid (hk.below hB)
  have HC := Lib.hid (hc.below hB)
  obtain ⟨aS, cS, rfl, HI⟩ := ints_form hs
  obtain ⟨gS, rfl, hgS, hcS⟩ : ∃ gS, aS = some ⟨gS, 0, none⟩ ∧ gS < w.heap.size ∧ ∀ (j : Nat) x, S[j]? = some x → w.cell? ⟨gS, j, none⟩ = some (.int .i64 x) := by
    rcases HI with h | h
    · omega
    · exact h
  have HCS := Lib.hid hcS
  have s1 : (w.alloc (.cells #[.int .i64 W, .int .i64 H, .string C] 25)).heap.size = w.heap.size + 1 := World.size_alloc _ _
  have s2 : ((w.alloc (.cells #[.int .i64 W, .int .i64 H, .string C] 25)).alloc (.cells #[] 51)).heap.size = w.heap.size + 2 := by rw [World.size_alloc, s1]
  have s3 : (((w.alloc (.cells #[.int .i64 W, .int .i64 H, .string C] 25)).alloc (.cells #[] 51)).alloc (.cells #[] 3)).heap.size = w.heap.size + 3 := by rw [World.size_alloc, s2]
  have hO1 : ((w.alloc (.cells #[.int .i64 W, .int .i64 H, .string C] 25)).alloc (.cells #[] 51)).ownsRow (w.heap.size + 1) 51 1 (.slice (some ⟨w.heap.size + 1, 0, none⟩) 0 0) 0 [] := by
    have h := World.ownsRow_made (base := w.heap.size + 1) (e := 51) (size := 1) (w.alloc (.cells #[.int .i64 W, .int .i64 H, .string C] 25)) #[] 0 (by omega) (by decide) rfl
    rwa [s1] at h
  have hO2 : (((w.alloc (.cells #[.int .i64 W, .int .i64 H, .string C] 25)).alloc (.cells #[] 51)).alloc (.cells #[] 3)).ownsRow (w.heap.size + 1 + 1) 3 1 (.slice (some ⟨w.heap.size + 1 + 1, 0, none⟩) 0 0) 0 [] := by
    have h := World.ownsRow_made (base := w.heap.size + 1 + 1) (e := 3) (size := 1) ((w.alloc (.cells #[.int .i64 W, .int .i64 H, .string C] 25)).alloc (.cells #[] 51)) #[] 0 (by omega) (by decide) rfl
    rwa [s2] at h
  have b2 := (Below.refl (w.alloc (.cells #[.int .i64 W, .int .i64 H, .string C] 25)).heap.size (w.alloc (.cells #[.int .i64 W, .int .i64 H, .string C] 25))).alloc (Nat.le_refl _) (.cells #[] 51)
  have b3 := (Below.refl ((w.alloc (.cells #[.int .i64 W, .int .i64 H, .string C] 25)).alloc (.cells #[] 51)).heap.size ((w.alloc (.cells #[.int .i64 W, .int .i64 H, .string C] 25)).alloc (.cells #[] 51))).alloc (Nat.le_refl _) (.cells #[] 3)
  have hnews : ∀ j u, (S.map (Value.int .i64))[j]? = some u → (((w.alloc (.cells #[.int .i64 W, .int .i64 H, .string C] 25)).alloc (.cells #[] 51)).alloc (.cells #[] 3)).cell? ((⟨gS, 0, none⟩ : Addr).add j) = some u := fun j u hj => by
    have hadd : (⟨gS, 0, none⟩ : Addr).add j = ⟨gS, j, none⟩ := by unfold Addr.add; split <;> simp_all
    rw [hadd]
    rw [List.getElem?_map] at hj
    cases hx : S[j]? with
    | none => rw [hx] at hj; cases hj
    | some x =>
      rw [hx] at hj
      cases hj
      have hb4 : Below w.heap.size w (((w.alloc (.cells #[.int .i64 W, .int .i64 H, .string C] 25)).alloc (.cells #[] 51)).alloc (.cells #[] 3)) := hB.trans ((b2.mono (by omega)).trans (b3.mono (by omega)))
      exact (hb4.cell (p := ⟨gS, j, none⟩) hgS).trans (hcS j x hx)
  have HN := Lib.hid hnews
  have HO1 := Lib.hid (own_any2 hO1 b3)
  have HO2 := Lib.hid hO2
  have HB2 := Lib.hid b2
  have HB3 := Lib.hid b3
  have HS1 := Lib.hid s1
  have HS2 := Lib.hid s2
  have HS3 := Lib.hid s3
  have HB1 := Lib.hid hB
  clear hso hs hk hc HI hcS hnews hO1 hO2 b2 b3 s1 s2 s3 hB
  go_enter Tryz.func61, Tryz.ntmps61
  go_wp2_with (at_builtin; refine wpList_append_own_at _ rfl _ _ 26 rfl (w.heap.size + 1 + 1) 3 i0 (.int .i64 0) 1 8 Tryz.underlying26 hi hz0 hz1 hz2 rfl (by decide) _ _ _ rfl HO2.out ⟨gS, 0, none⟩ S.length cS (S.map (Value.int .i64)) rfl (by simp) HN.out (ints_one _) (by unfold maxLen; omega) (by omega) (by rw [HS3.out]; omega) ?_; intro v4 w4 hown4 hg4 _ _; have HO4 := Lib.hid hown4; have HG4 := Lib.hid hg4; clear hown4 hg4)
  have ho4 := HO4.out
  rw [Nat.zero_add, List.nil_append] at ho4
  have hg4 : (((w.alloc (.cells #[.int .i64 W, .int .i64 H, .string C] 25)).alloc (.cells #[] 51)).alloc (.cells #[] 3)).grownBy w4 (some (w.heap.size + 1 + 1)) := HG4.out
  have hb4 : Below ((w.alloc (.cells #[.int .i64 W, .int .i64 H, .string C] 25)).alloc (.cells #[] 51)).heap.size ((w.alloc (.cells #[.int .i64 W, .int .i64 H, .string C] 25)).alloc (.cells #[] 51)) w4 := HB3.out.grown hg4 HB3.out.size (fun j hj => by cases hj; rw [HS2.out]; omega)
  have HA : Hid (AllR w4 (w.heap.size + 1) [v4] [S]) := Lib.hid (AllR.nil.cons (w := ((w.alloc (.cells #[.int .i64 W, .int .i64 H, .string C] 25)).alloc (.cells #[] 51))) (own_base ho4 (by rw [HS2.out]; omega)) hb4 (by have := HS2.out; omega))
  have HW4 : Hid (w4.ownsRow (w.heap.size + 1) 51 1 (.slice (some ⟨w.heap.size + 1, 0, none⟩) 0 0) 0 []) := Lib.hid (HO1.out.kept hg4 (.inr (by simp [Value.ownBlock])))
  have HK4 : Hid (WK w W H C g N v B0 (.slice (some ⟨gS, 0, none⟩) S.length cS) S w4) := by
    have h1 : WK w W H C g N v B0 (.slice (some ⟨gS, 0, none⟩) S.length cS) S (w.alloc (.cells #[.int .i64 W, .int .i64 H, .string C] 25)) := ⟨⟨HB1.out.os, HB1.out.tape, HB1.out.output, HB1.out.size, fun i hi _ => HB1.out.block i hi⟩, heap_alloc_new w _, HC.out, HK.out, own_any2 HSO.out HB1.out, fun j e => (HSO.out.lt j e).2⟩
    exact Lib.hid (((h1.on hgl HB2.out).on hgl HB3.out).step hgl hg4 fun r e => by have := Option.some.inj e; omega)
  clear ho4 hg4 hb4 HO1 HO2 HO4 HG4 HB1 HB2 HB3 HS1 HS2 HS3 HN HK HC HSS HCS
  obtain ⟨aN, cN, rfl⟩ : ∃ a c, v4 = .slice a S.length c := by
    obtain ⟨u, hu, ho⟩ := HA.out.at (i := 0) (L := S) rfl
    cases hu
    exact own_form ho
  go_wp2_with fail
  go_loopw [9, 11] (fun o i wr => ∃ (j : Nat) (vs : List Value), j ≤ S.length ∧ i = .int .i64 (j : Int) ∧ wr.ownsRow (w.heap.size + 1) 51 1 o j vs ∧ AllR wr (w.heap.size + 1) (.slice aN S.length cN :: vs) (S :: (S.take j).map fun c => [c]) ∧ WK w W H C g N v B0 (.slice (some ⟨gS, 0, none⟩) S.length cS) S wr) (fun _ i _ => S.length - (intOf i).toNat)
  case atStart => exact ⟨0, [], Nat.zero_le _, rfl, HW4.out, HA.out, HK4.out⟩
  case round =>
    clear HW4 HA HK4
    obtain ⟨j, us, hj, rfl, hown, hall, hwk⟩ := hrel
    by_cases hlt : j < S.length
    · have hlt2 : (j : Int) < (S.length : Int) := by omega
      obtain ⟨c, hc⟩ : ∃ c, S[j]? = some c := ⟨_, List.getElem?_eq_getElem hlt⟩
      have hadd : (⟨gS, 0, none⟩ : Addr).add j = ⟨gS, j, none⟩ := by unfold Addr.add; split <;> simp_all
      have d0 := hwk.start.cells (g := gS) rfl j (.int .i64 c) (by rw [List.getElem?_map, hc]; rfl)
      rw [hadd] at d0
      have hwl : w.heap.size < wr.heap.size := (Array.getElem?_eq_some_iff.1 hwk.box).1
      have hu := World.ownsRow_lit (base := wr.heap.size) (e := 3) (size := 1) wr #[.int .i64 c] 1 (Nat.le_refl _) (by decide) rfl
      have b1 := (Below.refl wr.heap.size wr).alloc (Nat.le_refl _) (.cells #[.int .i64 c] 3)
      have hall1 := hall.snoc (L := [c]) hu b1 (by omega)
      have b2 := (Below.refl (wr.alloc (.cells #[.int .i64 c] 3)).heap.size (wr.alloc (.cells #[.int .i64 c] 3))).alloc (Nat.le_refl _) (.cells #[.slice (some ⟨wr.heap.size, 0, none⟩) 1 1] 51)
      have hall2 := Lib.hid (hall1.on b2)
      have hown2 := Lib.hid (own_any2 (own_any2 hown b1) b2)
      have hwk2 := Lib.hid ((hwk.on hgl b1).on hgl b2)
      have HCJ := Lib.hid hc
      have hsz2 : wr.heap.size + 1 + 1 = ((wr.alloc (.cells #[.int .i64 c] 3)).alloc (.cells #[.slice (some ⟨wr.heap.size, 0, none⟩) 1 1] 51)).heap.size := by rw [World.size_alloc, World.size_alloc]
      have HSZ := Lib.hid hsz2
      have hnw : ∀ k u, [Value.slice (some ⟨wr.heap.size, 0, none⟩) 1 1][k]? = some u → ((wr.alloc (.cells #[.int .i64 c] 3)).alloc (.cells #[.slice (some ⟨wr.heap.size, 0, none⟩) 1 1] 51)).cell? ((⟨wr.heap.size + 1, 0, none⟩ : Addr).add k) = some u := fun k u hk => by
        have := cell_one_new (wr.alloc (.cells #[.int .i64 c] 3)) (.slice (some ⟨wr.heap.size, 0, none⟩) 1 1) 51 k u hk
        rwa [World.size_alloc] at this
      have HNW := Lib.hid hnw
      clear hc hown hall hwk hu b1 hall1 b2 hsz2 hnw
      go_wp2_with (at_builtin; refine wpList_append_own _ rfl _ _ 27 rfl (w.heap.size + 1) 51 i1 (.agg #[.slice none 0 0]) 1 24 Tryz.underlying27 hi1 hz10 hz11 hz12 rfl (by decide) _ _ _ rfl hown2.out ⟨wr.heap.size + 1, 0, none⟩ 1 1 [.slice (some ⟨wr.heap.size, 0, none⟩) 1 1] rfl rfl HNW.out (by simp [Value.oneCell']) (by unfold maxLen; omega) (by omega) (by rw [← HSZ.out]; omega) ?_; intro v' w6 hown6 hgrow _; have HO6 := Lib.hid hown6; have HG6 := Lib.hid hgrow; clear hown6 hgrow)
      go_roundw
      case rel => exact ⟨j + 1, us ++ [.slice (some ⟨wr.heap.size, 0, none⟩) 1 1], by omega, by go_num, HO6.out, (by
        rw [List.take_succ_eq_append_getElem hlt, List.map_append]
        have h := hall2.out.kinds hown2.out (by decide) HG6.out
        have e : S[j] = c := (List.getElem?_eq_some_iff.1 HCJ.out).2
        rw [e]
        exact h), hwk2.out.step hgl HG6.out fun r e => by have := (hown2.out.lt r e).1; omega⟩
      case measure => simp [intOf]; omega
    · obtain rfl : j = S.length := by omega
      have hnl : ¬ (S.length : Int) < (S.length : Int) := by omega
      rw [List.take_length] at hall
      have HO := Lib.hid hown
      have HA := Lib.hid hall
      have HK := Lib.hid hwk
      clear hown hall hwk
      obtain ⟨ao, co, rfl⟩ := own_form HO.out
      have HST := Lib.hid (walk_start (aroundL W H C) hSn)
      go_wp2_with fail
      go_loopw [10, 12] (fun n x wx => ∃ (tt : Nat) (vn : Value) (us : List Value) (Ls : List (List Int)), tt ≤ T ∧ x = .int .i64 (tt : Int) ∧ vn = n ∧ Hid (WalkD (aroundL W H C) S tt Ls) ∧ wx.ownsRow (w.heap.size + 1) 51 1 (.slice ao S.length co) S.length us ∧ AllR wx (w.heap.size + 1) (vn :: us) (colL Ls tt :: Ls) ∧ WK w W H C g N v B0 (.slice (some ⟨gS, 0, none⟩) S.length cS) S wx) (fun _ x _ => T - (intOf x).toNat)
      case atStart => exact ⟨0, _, us, S.map fun c => [c], Nat.zero_le _, rfl, rfl, HST, HO.out, by rw [col_start]; exact HA.out, HK.out⟩
      case round =>
        clear HO HA HK HST
        obtain ⟨tt, vn, us, Ls, htt, rfl, rfl, HWD, hown, hall, hwk⟩ := hrel
        by_cases hlt : tt < T
        · have hlt2 : (tt : Int) < (T : Int) := by omega
          obtain ⟨Now, HN⟩ : ∃ Now, Hid (colL Ls tt = Now) := ⟨_, rfl⟩
          have HNL : Hid (Now.length = S.length) := Lib.hid (by rw [← HN.out, col_len]; exact HWD.out.len)
          have HND : Hid (Now.Nodup) := Lib.hid (by rw [← HN.out]; exact HWD.out.nd tt (Nat.le_refl _))
          rw [HN.out] at hall
          obtain ⟨an, cn, rfl⟩ : ∃ a c, vn = .slice a Now.length c := by
            obtain ⟨u, hu, ho⟩ := hall.at (i := 0) (L := Now) rfl
            cases hu
            exact own_form ho
          have hwl : w.heap.size < wr.heap.size := (Array.getElem?_eq_some_iff.1 hwk.box).1
          have hu := World.ownsRow_made (base := wr.heap.size) (e := 3) (size := 1) wr #[] 0 (Nat.le_refl _) (by decide) rfl
          have b1 := (Below.refl wr.heap.size wr).alloc (Nat.le_refl _) (.cells #[] 3)
          have HA1 := Lib.hid (hall.cons (L := []) hu b1 (by omega))
          have HO1 := Lib.hid (own_any2 hown b1)
          have HK1 := Lib.hid (hwk.on hgl b1)
          clear hown hall hwk hu b1 hwl
          go_wp2_with fail
          go_loopw [13, 14] (fun n x wx => ∃ (j : Nat) (vx : Value), j ≤ Now.length ∧ x = .int .i64 (j : Int) ∧ vx = n ∧ wx.ownsRow (w.heap.size + 1) 51 1 (.slice ao S.length co) S.length us ∧ AllR wx (w.heap.size + 1) (vx :: .slice an Now.length cn :: us) (Now.take j :: Now :: Ls) ∧ WK w W H C g N v B0 (.slice (some ⟨gS, 0, none⟩) S.length cS) S wx) (fun _ x _ => Now.length - (intOf x).toNat)
          case atStart => exact ⟨0, _, Nat.zero_le _, rfl, rfl, HO1.out, HA1.out, HK1.out⟩
          case round =>
            clear HO1 HA1 HK1
            obtain ⟨j, vx, hj, rfl, rfl, hown, hall, hwk⟩ := hrel
            by_cases hlj : j < Now.length
            · have hlj2 : (j : Int) < (Now.length : Int) := by omega
              obtain ⟨c, hc⟩ : ∃ c, Now[j]? = some c := ⟨_, List.getElem?_eq_getElem hlj⟩
              obtain ⟨u, hu, ho⟩ := hall.at (i := 1) (L := Now) rfl
              cases hu
              obtain ⟨u, hu, hox⟩ := hall.at (i := 0) (L := Now.take j) rfl
              cases hu
              have hIn := ints_of_own ho
              obtain ⟨_, _, e, HI⟩ := ints_form hIn
              injection e with e1 _ e3
              subst e1
              clear e3
              rcases HI with h0 | ⟨gn, rfl, hgn, hcn⟩
              · omega
              · have d0 := hcn j c hc
                have hlen : (Now.take j).length = j := by rw [List.length_take]; omega
                have hox2 : wr.ownsRow (w.heap.size + 1) 3 1 vx j ((Now.take j).map (Value.int .i64)) := by rw [hlen] at hox; exact hox
                have HX := Lib.hid (hox2.alloc (.cells #[.int .i64 c] 3))
                have b1 := (Below.refl wr.heap.size wr).alloc (Nat.le_refl _) (.cells #[.int .i64 c] 3)
                have HA1 := Lib.hid (hall.on b1)
                have HO1 := Lib.hid (own_any2 hown b1)
                have HK1 := Lib.hid (hwk.on hgl b1)
                have HCJ := Lib.hid hc
                have hNl : Now.length ≤ 10 := by have := HNL.out; omega
                have hwl : w.heap.size < wr.heap.size := (Array.getElem?_eq_some_iff.1 hwk.box).1
                clear hc ho hox hox2 hIn hown hall hwk hcn b1 hlen
                go_wp2_with (at_builtin; refine wpList_append_own_at _ rfl _ _ 26 rfl (w.heap.size + 1) 3 i0 (.int .i64 0) 1 8 Tryz.underlying26 hi hz0 hz1 hz2 rfl (by decide) _ _ _ rfl HX.out ⟨wr.heap.size, 0, none⟩ 1 1 ([c].map (Value.int .i64)) rfl rfl (int_new _ _ _) (ints_one _) (by unfold maxLen; omega) (by omega) (by rw [World.size_alloc]; omega) ?_; intro v6 w6 hown6 hg6 _ hat6; have HO6 := Lib.hid hown6; have HG6 := Lib.hid hg6; have HT6 := Lib.hid hat6; clear hown6 hg6 hat6)
                go_roundw
                case rel => exact ⟨j + 1, v6, by omega, by go_num, rfl, HO1.out.kept HG6.out (own_two_way HO1.out HX.out), (by
                  have h := HA1.out.swap (i := 0) (u := vx) (u' := v6) (L := Now.take j) (L' := Now.take (j + 1)) rfl rfl (by
                    have := HO6.out
                    rw [List.take_succ_eq_append_getElem hlj, List.map_append, List.length_append, List.length_take, Nat.min_eq_left (by omega), (List.getElem?_eq_some_iff.1 HCJ.out).2]
                    exact this) HG6.out (by
                    rcases HT6.out with e | e
                    · exact .inl e
                    · exact .inr ⟨_, e, Nat.le_refl _⟩)
                  exact h), HK1.out.step hgl HG6.out fun r e => by have := (HX.out.lt r e).1; omega⟩
                case measure => simp [intOf]; omega
            · obtain rfl : j = Now.length := by omega
              have hnl : ¬ (Now.length : Int) < (Now.length : Int) := by omega
              rw [List.take_length] at hall
              obtain ⟨ax, cx, rfl⟩ : ∃ a c, vx = .slice a Now.length c := by
                obtain ⟨u, hu, ho⟩ := hall.at (i := 0) (L := Now) rfl
                cases hu
                exact own_form ho
              have HO1 := Lib.hid hown
              have HA1 := Lib.hid hall
              have HK1 := Lib.hid hwk
              clear hown hall hwk
              go_wp2_with fail
              go_loopw [15] (fun x wx => ∃ (i : Nat) (Next : List Int), i ≤ Now.length ∧ x = .int .i64 (i : Int) ∧ Hid (NextOk (aroundL W H C) Now Next) ∧ wx.ownsRow (w.heap.size + 1) 51 1 (.slice ao S.length co) S.length us ∧ AllR wx (w.heap.size + 1) (.slice ax Now.length cx :: .slice an Now.length cn :: us) (Next :: Now :: Ls) ∧ WK w W H C g N v B0 (.slice (some ⟨gS, 0, none⟩) S.length cS) S wx) (fun x _ => Now.length - (intOf x).toNat)
              case atStart => exact ⟨0, Now, Nat.zero_le _, rfl, Lib.hid (next_start HND.out), HO1.out, HA1.out, HK1.out⟩
              case round =>
                clear HO1 HA1 HK1
                obtain ⟨i, Next, hi, rfl, HNX, hown, hall, hwk⟩ := hrel
                by_cases hli : i < Now.length
                · have hli2 : (i : Int) < (Now.length : Int) := by omega
                  have hNl : Now.length ≤ 10 := by have := HNL.out; omega
                  obtain ⟨x, hx⟩ : ∃ x, Now[i]? = some x := ⟨_, List.getElem?_eq_getElem hli⟩
                  obtain ⟨u, hu, ho⟩ := hall.at (i := 1) (L := Now) rfl
                  cases hu
                  obtain ⟨_, _, e, HI⟩ := ints_form (ints_of_own ho)
                  injection e with e1 _ e3
                  subst e1
                  clear e3
                  rcases HI with h0 | ⟨gn, rfl, hgn, hcn⟩
                  · omega
                  · have d0 := hcn i x hx
                    obtain ⟨c0, c1, c2⟩ := hwk.cells
                    obtain ⟨L, HL⟩ : ∃ L, Hid (aroundL W H C x = L) := ⟨_, rfl⟩
                    have HLl : Hid (L.length ≤ 4) := Lib.hid (by rw [← HL.out]; exact aroundL_len W H C x)
                    have HCA : Hid (Calls Tryz.prog 101 #[.agg #[.int .i64 W, .int .i64 H, .string C], .int .i64 x] wr.drew (IntsBack wr.drew L)) := Lib.hid (specAround W H C x L hC HL wr.drew)
                    have HXI := Lib.hid hx
                    have HO1 := Lib.hid hown
                    have HA1 := Lib.hid hall
                    have HK1 := Lib.hid hwk
                    have hwl : w.heap.size < wr.heap.size := (Array.getElem?_eq_some_iff.1 hwk.box).1
                    clear hx ho hown hall hwk hcn
                    go_wp2
                    go_still_tail 5, (by kernel_rfl)
                    change wpList _ _ _ _ _ wr.drew
                    go_wp2_with fail
                    refine HCA.out.mono ?_
                    rintro e w7 ⟨vl, rfl, hlo, hb⟩
                    obtain ⟨al, cl, rfl⟩ := own_form hlo
                    have hb7 : Below wr.heap.size wr w7 := (below_drewN (Below.refl wr.heap.size wr) 1).trans (hb.mono (Nat.le_refl _))
                    have hlo7 : w7.ownsRow (w.heap.size + 1) 3 1 (.slice al L.length cl) L.length (L.map (Value.int .i64)) := own_base hlo (by show _ ≤ wr.heap.size; omega)
                    have HO7 := Lib.hid (own_any2 HO1.out hb7)
                    have HA7 := Lib.hid (HA1.out.on hb7)
                    have HK7 := Lib.hid (HK1.out.on hgl hb7)
                    have HL7 := Lib.hid hlo7
                    clear hlo hb hb7 hlo7 HCA HO1 HA1 HK1 c0 c1 c2 d0
                    by_cases hl0 : L.length = 0
                    · have hl02 : ((L.length : Int) == 0) = true := by rw [beq_iff_eq]; omega
                      go_wp2_with fail
                      go_roundw
                      case rel => exact ⟨i + 1, Next, by omega, by go_num, HNX, HO7.out, HA7.out, HK7.out⟩
                      case measure => simp [intOf]; omega
                    · have hl02 : ((L.length : Int) == 0) = false := by rw [beq_eq_false_iff_ne]; omega
                      have HL0 := Lib.hid hl0
                      clear hl0
                      go_wp2_with fail
                      refine (onceB g N v 3 w7 hN HK7.out.code HK7.out.cur (by omega)).mono ?_
                      rintro e w8 ⟨b8, rfl, hk8, hg8⟩
                      have HK8 := Lib.hid (HK7.out.draw hgB hgl hg8 hk8)
                      have HO8 := Lib.hid (HO7.out.kept hg8 (own_low HO7.out hgB1))
                      have HA8 := Lib.hid (HA7.out.turn hg8 hgB1)
                      have HL8 := Lib.hid (HL7.out.kept hg8 (own_low HL7.out hgB1))
                      clear hk8 hg8 HO7 HA7 HK7 HL7
                      cases b8 with
                      | true =>
                        go_wp2_with fail
                        go_roundw
                        case rel => exact ⟨i + 1, Next, by omega, by go_num, HNX, HO8.out, HA8.out, HK8.out⟩
                        case measure => simp [intOf]; omega
                      | false =>
                        go_wp2_with fail
                        refine (l01Below g N v (L.length : Int) w8 hN HK8.out.code HK8.out.cur (by have := HL0.out; omega)).mono ?_
                        rintro e w9 ⟨y, rfl, ⟨hy0, hy1⟩, hk9, hg9⟩
                        have HK9 := Lib.hid (HK8.out.draw hgB hgl hg9 hk9)
                        have HO9 := Lib.hid (HO8.out.kept hg9 (own_low HO8.out hgB1))
                        have HA9 := Lib.hid (HA8.out.turn hg9 hgB1)
                        have hl9 := HL8.out.kept hg9 (own_low HL8.out hgB1)
                        obtain ⟨yn, rfl⟩ : ∃ yn : Nat, y = (yn : Int) := ⟨y.toNat, by omega⟩
                        obtain ⟨d, hd⟩ : ∃ d, L[yn]? = some d := ⟨_, List.getElem?_eq_getElem (by omega)⟩
                        have HDL : Hid (d ∈ aroundL W H C x) := Lib.hid (by rw [HL.out]; exact List.mem_of_getElem? hd)
                        obtain ⟨_, _, e, HI⟩ := ints_form (ints_of_own hl9)
                        injection e with e1 _ e3
                        subst e1
                        clear e3
                        rcases HI with h0 | ⟨gl, rfl, hgl9, hcl⟩
                        · omega
                        · have d1 := hcl yn d hd
                          clear hd hcl hl9 hk9 hg9 HO8 HA8 HK8 HL8
                          have HNN : Hid (Next.length = Now.length) := Lib.hid HNX.out.len
                          go_wp2_with fail
                          go_loopw [18, 19] (fun z s wx => ∃ (j : Nat) (zz : Int), z = .int .i64 zz ∧ s = .int .i64 (j : Int) ∧ j ≤ Now.length ∧ Hid (Seen Next d j zz) ∧ wx = w9) (fun _ s _ => Now.length - (intOf s).toNat)
                          case atStart => exact ⟨0, -1, rfl, rfl, Nat.zero_le _, Lib.hid (.inl ⟨rfl, fun a x h => absurd h (by omega)⟩), rfl⟩
                          case round =>
                            obtain ⟨j, zz, rfl, rfl, hj, HSN, rfl⟩ := hrel
                            obtain ⟨u, hu, hox⟩ := HA9.out.at (i := 0) (L := Next) rfl
                            cases hu
                            obtain ⟨_, _, e, HI⟩ := ints_form (ints_of_own hox)
                            injection e with e1 e2 e3
                            subst e1
                            clear e2 e3
                            rcases HI with h0 | ⟨gx, rfl, hgx, hcx⟩
                            · have := HNN.out
                              omega
                            · have HCX := Lib.hid hcx
                              rw [HNN.out] at hox
                              have HOX := Lib.hid hox
                              clear hcx hox
                              by_cases hlj : j < Now.length
                              · have hlj2 : (j : Int) < (Now.length : Int) := by omega
                                obtain ⟨y, hy⟩ : ∃ y, Next[j]? = some y := ⟨_, List.getElem?_eq_getElem (by rw [HNN.out]; exact hlj)⟩
                                have d2 := HCX.out j y hy
                                have HY := Lib.hid hy
                                clear hy
                                by_cases hyd : y = d
                                · subst hyd
                                  have hb : (y == y) = true := by simp
                                  go_wp2_with fail
                                  go_roundw
                                  case rel => exact ⟨j + 1, (j : Int), rfl, by go_num, by omega, Lib.hid (.inr ⟨j, by rw [HNN.out]; exact hlj, rfl, HY.out⟩), (by first | trivial | rfl)⟩
                                  case measure => simp [intOf]; omega
                                · have hb : (y == d) = false := by simpa using hyd
                                  have HYD := Lib.hid hyd
                                  clear hyd
                                  go_wp2_with fail
                                  go_roundw
                                  case rel => exact ⟨j + 1, zz, rfl, by go_num, by omega, Lib.hid (by
                                    rcases HSN.out with ⟨h1, h2⟩ | h
                                    · refine .inl ⟨h1, fun a x2 ha hz => ?_⟩
                                      rcases Nat.lt_succ_iff_lt_or_eq.1 ha with h | h
                                      · exact h2 a x2 h hz
                                      · rw [h, HY.out] at hz
                                        cases hz
                                        exact HYD.out
                                    · exact .inr h), (by first | trivial | rfl)⟩
                                  case measure => simp [intOf]; omega
                              · obtain rfl : j = Now.length := by omega
                                have hnl : ¬ (Now.length : Int) < (Now.length : Int) := by omega
                                have hst : ∀ (k : Nat) (y : Int), k < Now.length → wr.frozen? ⟨gx, k, none⟩ = false ∧ (wr.setCell ⟨gx, k, none⟩ (.int .i64 y)).ownsRow (w.heap.size + 1) 3 1 (.slice (some ⟨gx, 0, none⟩) Now.length cx) (Next.set k y).length ((Next.set k y).map (Value.int .i64)) ∧ wr.grownBy (wr.setCell ⟨gx, k, none⟩ (.int .i64 y)) (some gx) := fun k y hk => by
                                  have h2 := (HOX.out.stored k (.int .i64 y)).1
                                  refine ⟨HOX.out.frozenAt k, ?_, ⟨rfl, rfl, rfl, by simp [World.setCell], fun j _ hj => heap_setCell_other wr ⟨gx, k, none⟩ j _ (fun e => hj (by simp [e]))⟩⟩
                                  rw [List.map_set, List.length_set, HNN.out]
                                  exact h2
                                have HST := Lib.hid hst
                                clear hst
                                rcases HSN.out with ⟨rfl, h2⟩ | ⟨a, ha, rfl, haA⟩
                                · have HNO := Lib.hid h2
                                  clear h2
                                  have hneg : ((-1 : Int) < 0) = True := by simp
                                  obtain ⟨f2, ho2, hg2⟩ := HST.out i d hli
                                  obtain ⟨y2, hy2⟩ : ∃ y2, Next[i]? = some y2 := ⟨_, List.getElem?_eq_getElem (by rw [HNN.out]; exact hli)⟩
                                  have d2 := HCX.out i y2 hy2
                                  have HO2 := Lib.hid ho2
                                  have HG2 := Lib.hid hg2
                                  clear ho2 hg2 hy2
                                  go_wp2_with fail
                                  go_roundw
                                  case rel => exact ⟨i + 1, Next.set i d, by omega, by go_num, Lib.hid (next_move HNX.out HXI.out HDL.out (fun k y hk => HNO.out k y (by rw [← HNN.out]; exact (List.getElem?_eq_some_iff.1 hk).1) hk)), HO9.out.kept HG2.out (own_two_way HO9.out HOX.out), AllR.swap (i := 0) HA9.out rfl rfl HO2.out HG2.out (.inl rfl), HK9.out.step hgl HG2.out fun r e => by have := (HOX.out.lt r e).1; omega⟩
                                  case measure => simp [intOf]; omega
                                · have haN : a < Now.length := by rw [← HNN.out]; exact ha
                                  have haI : (a : Int) < (Now.length : Int) := by omega
                                  have h0a : ¬ (a : Int) < 0 := by omega
                                  obtain ⟨e1, he1⟩ : ∃ e1, Now[a]? = some e1 := ⟨_, List.getElem?_eq_getElem haN⟩
                                  obtain ⟨y2, hy2⟩ : ∃ y2, Next[i]? = some y2 := ⟨_, List.getElem?_eq_getElem (by rw [HNN.out]; exact hli)⟩
                                  have HAA := Lib.hid haA
                                  have HE1 := Lib.hid he1
                                  have HY2 := Lib.hid hy2
                                  have hS0 := HW.held (HW.on (w' := wr.drew) ⟨HO9.out, HA9.out, HK9.out⟩ hgl (below_drewN (Below.refl _ _) 1)) haA he1 hy2 HXI.out
                                  clear haA he1 hy2
                                  by_cases hd1 : d = e1
                                  · subst hd1
                                    have hbd : (d == d) = true := by simp
                                    by_cases hyx : y2 = x
                                    · subst hyx
                                      have hbx : (y2 == y2) = true := by simp
                                      have hsym : (aroundL W H C d).contains y2 = true := List.contains_iff_mem.2 (around_sym HDL.out)
                                      have hne : i ≠ a := fun e => by
                                        subst e
                                        have := HAA.out
                                        rw [HY2.out] at this
                                        cases this
                                        exact around_irr HDL.out
                                      have HNE := Lib.hid hne
                                      have HSYM := Lib.hid hsym
                                      clear hsym hne
                                      go_upto_region 29 with fail
                                      refine wp_region_held_drew (S := fun w' => w'.cell? ⟨gx, a, none⟩ = some (.int .i64 d) ∧ w'.cell? ⟨gn, a, none⟩ = some (.int .i64 d) ∧ w'.cell? ⟨gx, i, none⟩ = some (.int .i64 y2) ∧ w'.cell? ⟨gn, i, none⟩ = some (.int .i64 y2) ∧ w'.cell? ⟨w.heap.size, 0, none⟩ = some (.int .i64 W) ∧ w'.cell? ⟨w.heap.size, 1, none⟩ = some (.int .i64 H) ∧ w'.cell? ⟨w.heap.size, 2, none⟩ = some (.string C) ∧ HW w W H C g N v B0 (.slice (some ⟨gS, 0, none⟩) S.length cS) S (.slice ao S.length co) us (.slice (some ⟨gx, 0, none⟩) Now.length cx) (.slice (some ⟨gn, 0, none⟩) Now.length cn) Next Now Ls w') (by kernel_rfl) hS0 (fun hHeld => ?_)
                                      try simp only [List.append_eq, List.cons_append, List.nil_append]
                                      refine wpAnyH_take (i := 0) (oi := _) (v := .slice (some ⟨gx, 0, none⟩) Now.length cx) rfl (by kernel_rfl) (by kernel_rfl) (by kernel_rfl) (fun _ _ _ h => h) (Or.inl ⟨by rfl, ?_⟩) (by assumption) ?_
                                      focus (intro w' hSw; (try dsimp only at hSw); go_split_ands; simp only [List.getElem_toArray, List.getElem_cons_zero]; go_simp; done)
                                      simp only [List.getElem_toArray, List.getElem_cons_zero, Act.put, List.setIfInBounds_toArray, List.set_cons_zero, List.set_cons_succ]
                                      refine wpAnyH_take (i := 1) (oi := _) (v := .int .i64 (a : Int)) rfl (by kernel_rfl) (by kernel_rfl) (by kernel_rfl) (fun _ _ _ h => h) (Or.inl ⟨by rfl, ?_⟩) (by assumption) ?_
                                      focus (intro w' hSw; (try dsimp only at hSw); go_split_ands; simp only [List.getElem_toArray, List.getElem_cons_succ, List.getElem_cons_zero]; go_simp; done)
                                      simp only [List.getElem_toArray, List.getElem_cons_succ, List.getElem_cons_zero, Act.put, List.setIfInBounds_toArray, List.set_cons_zero, List.set_cons_succ]
                                      refine wpAnyH_take (i := 2) (oi := _) (v := .pointer (some ⟨gx, a, none⟩)) rfl (by kernel_rfl) (by kernel_rfl) (by kernel_rfl) (fun _ _ _ h => h) (Or.inl ⟨by rfl, ?_⟩) (by assumption) ?_
                                      focus (intro w' hSw; (try dsimp only at hSw); go_split_ands; simp only [List.getElem_toArray, List.getElem_cons_succ, List.getElem_cons_zero]; go_simp; done)
                                      simp only [List.getElem_toArray, List.getElem_cons_succ, List.getElem_cons_zero, Act.put, List.setIfInBounds_toArray, List.set_cons_zero, List.set_cons_succ]
                                      refine wpAnyH_take (i := 3) (oi := _) (v := .int .i64 d) rfl (by kernel_rfl) (by kernel_rfl) (by kernel_rfl) (fun _ _ _ h => h) (Or.inl ⟨by rfl, ?_⟩) (by assumption) ?_
                                      focus (intro w' hSw; (try dsimp only at hSw); go_split_ands; simp only [List.getElem_toArray, List.getElem_cons_succ, List.getElem_cons_zero]; go_simp; done)
                                      simp only [List.getElem_toArray, List.getElem_cons_succ, List.getElem_cons_zero, Act.put, List.setIfInBounds_toArray, List.set_cons_zero, List.set_cons_succ]
                                      refine wpAnyH_take (i := 4) (oi := _) (v := .slice (some ⟨gn, 0, none⟩) Now.length cn) rfl (by kernel_rfl) (by kernel_rfl) (by kernel_rfl) (fun _ _ _ h => h) (Or.inl ⟨by rfl, ?_⟩) (by assumption) ?_
                                      focus (intro w' hSw; (try dsimp only at hSw); go_split_ands; simp only [List.getElem_toArray, List.getElem_cons_succ, List.getElem_cons_zero]; go_simp; done)
                                      simp only [List.getElem_toArray, List.getElem_cons_succ, List.getElem_cons_zero, Act.put, List.setIfInBounds_toArray, List.set_cons_zero, List.set_cons_succ]
                                      refine wpAnyH_take (i := 5) (oi := _) (v := .int .i64 (a : Int)) rfl (by kernel_rfl) (by kernel_rfl) (by kernel_rfl) (fun _ _ _ h => h) (Or.inl ⟨by rfl, ?_⟩) (by assumption) ?_
                                      focus (intro w' hSw; (try dsimp only at hSw); go_split_ands; simp only [List.getElem_toArray, List.getElem_cons_succ, List.getElem_cons_zero]; go_simp; done)
                                      simp only [List.getElem_toArray, List.getElem_cons_succ, List.getElem_cons_zero, Act.put, List.setIfInBounds_toArray, List.set_cons_zero, List.set_cons_succ]
                                      refine wpAnyH_take (i := 6) (oi := _) (v := .pointer (some ⟨gn, a, none⟩)) rfl (by kernel_rfl) (by kernel_rfl) (by kernel_rfl) (fun _ _ _ h => h) (Or.inl ⟨by rfl, ?_⟩) (by assumption) ?_
                                      focus (intro w' hSw; (try dsimp only at hSw); go_split_ands; simp only [List.getElem_toArray, List.getElem_cons_succ, List.getElem_cons_zero]; go_simp; done)
                                      simp only [List.getElem_toArray, List.getElem_cons_succ, List.getElem_cons_zero, Act.put, List.setIfInBounds_toArray, List.set_cons_zero, List.set_cons_succ]
                                      refine wpAnyH_take (i := 7) (oi := _) (v := .int .i64 d) rfl (by kernel_rfl) (by kernel_rfl) (by kernel_rfl) (fun _ _ _ h => h) (Or.inl ⟨by rfl, ?_⟩) (by assumption) ?_
                                      focus (intro w' hSw; (try dsimp only at hSw); go_split_ands; simp only [List.getElem_toArray, List.getElem_cons_succ, List.getElem_cons_zero]; go_simp; done)
                                      simp only [List.getElem_toArray, List.getElem_cons_succ, List.getElem_cons_zero, Act.put, List.setIfInBounds_toArray, List.set_cons_zero, List.set_cons_succ]
                                      refine wpAnyH_take (i := 8) (oi := _) (v := .bool true) rfl (by kernel_rfl) (by kernel_rfl) (by kernel_rfl) (fun _ _ _ h => h) (Or.inl ⟨by rfl, ?_⟩) (by assumption) ?_
                                      focus (intro w' hSw; (try dsimp only at hSw); go_split_ands; simp only [List.getElem_toArray, List.getElem_cons_succ, List.getElem_cons_zero]; go_simp; done)
                                      simp only [List.getElem_toArray, List.getElem_cons_succ, List.getElem_cons_zero, Act.put, List.setIfInBounds_toArray, List.set_cons_zero, List.set_cons_succ]
                                      refine wpAnyH_take (i := 9) (oi := _) (v := .bool true) rfl (by kernel_rfl) (by kernel_rfl) (by kernel_rfl) (fun _ _ _ h => h) (Or.inl ⟨by rfl, ?_⟩) (by assumption) ?_
                                      focus (intro w' hSw; (try dsimp only at hSw); go_split_ands; simp only [List.getElem_toArray, List.getElem_cons_succ, List.getElem_cons_zero]; go_simp; done)
                                      simp only [List.getElem_toArray, List.getElem_cons_succ, List.getElem_cons_zero, Act.put, List.setIfInBounds_toArray, List.set_cons_zero, List.set_cons_succ]
                                      refine wpAnyH_take (i := 10) (oi := _) (v := .slice (some ⟨gx, 0, none⟩) Now.length cx) rfl (by kernel_rfl) (by kernel_rfl) (by kernel_rfl) (fun _ _ _ h => h) (Or.inl ⟨by rfl, ?_⟩) (by assumption) ?_
                                      focus (intro w' hSw; (try dsimp only at hSw); go_split_ands; simp only [List.getElem_toArray, List.getElem_cons_succ, List.getElem_cons_zero]; go_simp; done)
                                      simp only [List.getElem_toArray, List.getElem_cons_succ, List.getElem_cons_zero, Act.put, List.setIfInBounds_toArray, List.set_cons_zero, List.set_cons_succ]
                                      refine wpAnyH_take (i := 11) (oi := _) (v := .int .i64 (i : Int)) rfl (by kernel_rfl) (by kernel_rfl) (by kernel_rfl) (fun _ _ _ h => h) (Or.inl ⟨by rfl, ?_⟩) (by assumption) ?_
                                      focus (intro w' hSw; (try dsimp only at hSw); go_split_ands; simp only [List.getElem_toArray, List.getElem_cons_succ, List.getElem_cons_zero]; go_simp; done)
                                      simp only [List.getElem_toArray, List.getElem_cons_succ, List.getElem_cons_zero, Act.put, List.setIfInBounds_toArray, List.set_cons_zero, List.set_cons_succ]
                                      refine wpAnyH_take (i := 12) (oi := _) (v := .pointer (some ⟨gx, i, none⟩)) rfl (by kernel_rfl) (by kernel_rfl) (by kernel_rfl) (fun _ _ _ h => h) (Or.inl ⟨by rfl, ?_⟩) (by assumption) ?_
                                      focus (intro w' hSw; (try dsimp only at hSw); go_split_ands; simp only [List.getElem_toArray, List.getElem_cons_succ, List.getElem_cons_zero]; go_simp; done)
                                      simp only [List.getElem_toArray, List.getElem_cons_succ, List.getElem_cons_zero, Act.put, List.setIfInBounds_toArray, List.set_cons_zero, List.set_cons_succ]
                                      refine wpAnyH_take (i := 13) (oi := _) (v := .int .i64 y2) rfl (by kernel_rfl) (by kernel_rfl) (by kernel_rfl) (fun _ _ _ h => h) (Or.inl ⟨by rfl, ?_⟩) (by assumption) ?_
                                      focus (intro w' hSw; (try dsimp only at hSw); go_split_ands; simp only [List.getElem_toArray, List.getElem_cons_succ, List.getElem_cons_zero]; go_simp; done)
                                      simp only [List.getElem_toArray, List.getElem_cons_succ, List.getElem_cons_zero, Act.put, List.setIfInBounds_toArray, List.set_cons_zero, List.set_cons_succ]
                                      refine wpAnyH_take (i := 14) (oi := _) (v := .slice (some ⟨gn, 0, none⟩) Now.length cn) rfl (by kernel_rfl) (by kernel_rfl) (by kernel_rfl) (fun _ _ _ h => h) (Or.inl ⟨by rfl, ?_⟩) (by assumption) ?_
                                      focus (intro w' hSw; (try dsimp only at hSw); go_split_ands; simp only [List.getElem_toArray, List.getElem_cons_succ, List.getElem_cons_zero]; go_simp; done)
                                      simp only [List.getElem_toArray, List.getElem_cons_succ, List.getElem_cons_zero, Act.put, List.setIfInBounds_toArray, List.set_cons_zero, List.set_cons_succ]
                                      refine wpAnyH_take (i := 15) (oi := _) (v := .int .i64 (i : Int)) rfl (by kernel_rfl) (by kernel_rfl) (by kernel_rfl) (fun _ _ _ h => h) (Or.inl ⟨by rfl, ?_⟩) (by assumption) ?_
                                      focus (intro w' hSw; (try dsimp only at hSw); go_split_ands; simp only [List.getElem_toArray, List.getElem_cons_succ, List.getElem_cons_zero]; go_simp; done)
                                      simp only [List.getElem_toArray, List.getElem_cons_succ, List.getElem_cons_zero, Act.put, List.setIfInBounds_toArray, List.set_cons_zero, List.set_cons_succ]
                                      refine wpAnyH_take (i := 16) (oi := _) (v := .pointer (some ⟨gn, i, none⟩)) rfl (by kernel_rfl) (by kernel_rfl) (by kernel_rfl) (fun _ _ _ h => h) (Or.inl ⟨by rfl, ?_⟩) (by assumption) ?_
                                      focus (intro w' hSw; (try dsimp only at hSw); go_split_ands; simp only [List.getElem_toArray, List.getElem_cons_succ, List.getElem_cons_zero]; go_simp; done)
                                      simp only [List.getElem_toArray, List.getElem_cons_succ, List.getElem_cons_zero, Act.put, List.setIfInBounds_toArray, List.set_cons_zero, List.set_cons_succ]
                                      refine wpAnyH_take (i := 17) (oi := _) (v := .int .i64 y2) rfl (by kernel_rfl) (by kernel_rfl) (by kernel_rfl) (fun _ _ _ h => h) (Or.inl ⟨by rfl, ?_⟩) (by assumption) ?_
                                      focus (intro w' hSw; (try dsimp only at hSw); go_split_ands; simp only [List.getElem_toArray, List.getElem_cons_succ, List.getElem_cons_zero]; go_simp; done)
                                      simp only [List.getElem_toArray, List.getElem_cons_succ, List.getElem_cons_zero, Act.put, List.setIfInBounds_toArray, List.set_cons_zero, List.set_cons_succ]
                                      refine wpAnyH_take (i := 18) (oi := _) (v := .bool true) rfl (by kernel_rfl) (by kernel_rfl) (by kernel_rfl) (fun _ _ _ h => h) (Or.inl ⟨by rfl, ?_⟩) (by assumption) ?_
                                      focus (intro w' hSw; (try dsimp only at hSw); go_split_ands; simp only [List.getElem_toArray, List.getElem_cons_succ, List.getElem_cons_zero]; go_simp; done)
                                      simp only [List.getElem_toArray, List.getElem_cons_succ, List.getElem_cons_zero, Act.put, List.setIfInBounds_toArray, List.set_cons_zero, List.set_cons_succ]
                                      refine wpAnyH_take (i := 19) (oi := _) (v := .bool true) rfl (by kernel_rfl) (by kernel_rfl) (by kernel_rfl) (fun _ _ _ h => h) (Or.inl ⟨by rfl, ?_⟩) (by assumption) ?_
                                      focus (intro w' hSw; (try dsimp only at hSw); go_split_ands; simp only [List.getElem_toArray, List.getElem_cons_succ, List.getElem_cons_zero]; go_simp; done)
                                      simp only [List.getElem_toArray, List.getElem_cons_succ, List.getElem_cons_zero, Act.put, List.setIfInBounds_toArray, List.set_cons_zero, List.set_cons_succ]
                                      refine wpAnyH_take (i := 20) (oi := _) (v := .bool true) rfl (by kernel_rfl) (by kernel_rfl) (by kernel_rfl) (fun _ _ _ h => h) (Or.inl ⟨by rfl, ?_⟩) (by assumption) ?_
                                      focus (intro w' hSw; (try dsimp only at hSw); go_split_ands; simp only [List.getElem_toArray, List.getElem_cons_succ, List.getElem_cons_zero]; go_simp; done)
                                      simp only [List.getElem_toArray, List.getElem_cons_succ, List.getElem_cons_zero, Act.put, List.setIfInBounds_toArray, List.set_cons_zero, List.set_cons_succ]
                                      refine wpAnyH_take (i := 21) (oi := _) (v := .agg #[.int .i64 W, .int .i64 H, .string C]) rfl (by kernel_rfl) (by kernel_rfl) (by kernel_rfl) (fun _ _ _ h => h) (Or.inl ⟨by rfl, ?_⟩) (by assumption) ?_
                                      focus (intro w' hSw; (try dsimp only at hSw); go_split_ands; simp only [List.getElem_toArray, List.getElem_cons_succ, List.getElem_cons_zero]; go_simp; done)
                                      simp only [List.getElem_toArray, List.getElem_cons_succ, List.getElem_cons_zero, Act.put, List.setIfInBounds_toArray, List.set_cons_zero, List.set_cons_succ]
                                      refine wpAnyH_take (i := 22) (oi := _) (v := .int .i64 d) rfl (by kernel_rfl) (by kernel_rfl) (by kernel_rfl) (fun _ _ _ h => h) (Or.inl ⟨by rfl, ?_⟩) (by assumption) ?_
                                      focus (intro w' hSw; (try dsimp only at hSw); go_split_ands; simp only [List.getElem_toArray, List.getElem_cons_succ, List.getElem_cons_zero]; go_simp; done)
                                      simp only [List.getElem_toArray, List.getElem_cons_succ, List.getElem_cons_zero, Act.put, List.setIfInBounds_toArray, List.set_cons_zero, List.set_cons_succ]
                                      refine wpAnyH_take (i := 23) (oi := _) (v := .slice (some ⟨gn, 0, none⟩) Now.length cn) rfl (by kernel_rfl) (by kernel_rfl) (by kernel_rfl) (fun _ _ _ h => h) (Or.inl ⟨by rfl, ?_⟩) (by assumption) ?_
                                      focus (intro w' hSw; (try dsimp only at hSw); go_split_ands; simp only [List.getElem_toArray, List.getElem_cons_succ, List.getElem_cons_zero]; go_simp; done)
                                      simp only [List.getElem_toArray, List.getElem_cons_succ, List.getElem_cons_zero, Act.put, List.setIfInBounds_toArray, List.set_cons_zero, List.set_cons_succ]
                                      refine wpAnyH_take (i := 24) (oi := _) (v := .int .i64 (i : Int)) rfl (by kernel_rfl) (by kernel_rfl) (by kernel_rfl) (fun _ _ _ h => h) (Or.inl ⟨by rfl, ?_⟩) (by assumption) ?_
                                      focus (intro w' hSw; (try dsimp only at hSw); go_split_ands; simp only [List.getElem_toArray, List.getElem_cons_succ, List.getElem_cons_zero]; go_simp; done)
                                      simp only [List.getElem_toArray, List.getElem_cons_succ, List.getElem_cons_zero, Act.put, List.setIfInBounds_toArray, List.set_cons_zero, List.set_cons_succ]
                                      refine wpAnyH_take (i := 25) (oi := _) (v := .pointer (some ⟨gn, i, none⟩)) rfl (by kernel_rfl) (by kernel_rfl) (by kernel_rfl) (fun _ _ _ h => h) (Or.inl ⟨by rfl, ?_⟩) (by assumption) ?_
                                      focus (intro w' hSw; (try dsimp only at hSw); go_split_ands; simp only [List.getElem_toArray, List.getElem_cons_succ, List.getElem_cons_zero]; go_simp; done)
                                      simp only [List.getElem_toArray, List.getElem_cons_succ, List.getElem_cons_zero, Act.put, List.setIfInBounds_toArray, List.set_cons_zero, List.set_cons_succ]
                                      refine wpAnyH_take (i := 26) (oi := _) (v := .int .i64 y2) rfl (by kernel_rfl) (by kernel_rfl) (by kernel_rfl) (fun _ _ _ h => h) (Or.inl ⟨by rfl, ?_⟩) (by assumption) ?_
                                      focus (intro w' hSw; (try dsimp only at hSw); go_split_ands; simp only [List.getElem_toArray, List.getElem_cons_succ, List.getElem_cons_zero]; go_simp; done)
                                      simp only [List.getElem_toArray, List.getElem_cons_succ, List.getElem_cons_zero, Act.put, List.setIfInBounds_toArray, List.set_cons_zero, List.set_cons_succ]
                                      refine wpAnyH_ready (rs := [27]) (by kernel_rfl) (by simp) ?_
                                      refine AllReadyH.cons rfl (fun K hK => ?_) AllReadyH.nil
                                      simp only [List.getElem_toArray, List.getElem_cons_succ, List.getElem_cons_zero]
                                      go_simp
                                      go_at_call 102
                                      refine (specBeside W H C d y2 true hC HSYM _).mono ?_
                                      rintro e w27 ⟨rfl, hb⟩
                                      have hS27 := HW.held (hHeld.2.2.2.2.2.2.2.on hgl hb) HAA.out HE1.out HY2.out HXI.out
                                      clear hHeld
                                      refine hK.out _ _ hS27 (fun hHeld => ?_)
                                      clear hK K hS27
                                      refine wpAnyH_take (i := 28) (oi := _) (v := .bool true) rfl (by kernel_rfl) (by kernel_rfl) (by kernel_rfl) (fun _ _ _ h => h) (Or.inl ⟨by rfl, ?_⟩) (by assumption) ?_
                                      focus (intro w' hSw; (try dsimp only at hSw); go_split_ands; simp only [List.getElem_toArray, List.getElem_cons_succ, List.getElem_cons_zero]; go_simp; done)
                                      simp only [List.getElem_toArray, List.getElem_cons_succ, List.getElem_cons_zero, Act.put, List.setIfInBounds_toArray, List.set_cons_zero, List.set_cons_succ]
                                      refine wpAnyH_take (i := 29) (oi := _) (v := .bool true) rfl (by kernel_rfl) (by kernel_rfl) (by kernel_rfl) (fun _ _ _ h => h) (Or.inl ⟨by rfl, ?_⟩) (by assumption) ?_
                                      focus (intro w' hSw; (try dsimp only at hSw); go_split_ands; simp only [List.getElem_toArray, List.getElem_cons_succ, List.getElem_cons_zero]; go_simp; done)
                                      simp only [List.getElem_toArray, List.getElem_cons_succ, List.getElem_cons_zero, Act.put, List.setIfInBounds_toArray, List.set_cons_zero, List.set_cons_succ]
                                      refine wpAnyH_take (i := 30) (oi := _) (v := .pointer (some ⟨g, 0, none⟩)) rfl (by kernel_rfl) (by kernel_rfl) (by kernel_rfl) (fun _ _ _ h => h) (Or.inl ⟨by rfl, ?_⟩) (by assumption) ?_
                                      focus (intro w' hSw; (try dsimp only at hSw); go_split_ands; simp only [List.getElem_toArray, List.getElem_cons_succ, List.getElem_cons_zero]; go_simp; done)
                                      simp only [List.getElem_toArray, List.getElem_cons_succ, List.getElem_cons_zero, Act.put, List.setIfInBounds_toArray, List.set_cons_zero, List.set_cons_succ]
                                      refine wpAnyH_ready (rs := [31]) (by kernel_rfl) (by simp) ?_
                                      refine AllReadyH.cons rfl (fun K hK => ?_) AllReadyH.nil
                                      simp only [List.getElem_toArray, List.getElem_cons_succ, List.getElem_cons_zero]
                                      go_simp
                                      go_at_call 64
                                      refine (onceB g N v 2 _ hN hHeld.2.2.2.2.2.2.2.wk.code hHeld.2.2.2.2.2.2.2.wk.cur (by omega)).mono ?_
                                      rintro e w31 ⟨b11, rfl, hk11, hg11⟩
                                      have hS31 := HW.held (hHeld.2.2.2.2.2.2.2.draw hgB hgl hgB1 hg11 hk11) HAA.out HE1.out HY2.out HXI.out
                                      clear hHeld
                                      refine hK.out _ _ hS31 (fun hHeld => ?_)
                                      clear hK K hS31
                                      refine wpAnyH_take (i := 32) (oi := _) (v := .bool b11) rfl (by kernel_rfl) (by kernel_rfl) (by kernel_rfl) (fun _ _ _ h => h) (Or.inl ⟨by rfl, ?_⟩) (by assumption) ?_
                                      focus (intro w' hSw; (try dsimp only at hSw); go_split_ands; simp only [List.getElem_toArray, List.getElem_cons_succ, List.getElem_cons_zero]; go_simp; done)
                                      simp only [List.getElem_toArray, List.getElem_cons_succ, List.getElem_cons_zero, Act.put, List.setIfInBounds_toArray, List.set_cons_zero, List.set_cons_succ]
                                      refine wpAnyH_done (by kernel_rfl) ?_ _
                                      have HBE := Lib.hid hHeld.2.2.2.2.2.2.2
                                      clear hHeld hS0
                                      clear hk11 hg11
                                      have HK11 := Lib.hid HBE.out.wk
                                      have HO11 := Lib.hid HBE.out.outs
                                      have HA11 := Lib.hid HBE.out.all
                                      clear HBE
                                      cases b11 with
                                      | false =>
                                        go_wp2_with fail
                                        go_roundw
                                        case rel => exact ⟨i + 1, Next, by omega, by go_num, HNX, HO11.out, HA11.out, HK11.out⟩
                                        case measure => simp [intOf]; omega
                                      | true =>
                                        obtain ⟨f1, hA12, hg12, hgxB, hr11⟩ := HA11.out.put0 HNN.out i d
                                        have r1 := HA11.out.read (i := 0) (L := Next) rfl rfl HY2.out
                                        have HO12 := Lib.hid (HO11.out.kept hg12 (own_two_way HO11.out hr11))
                                        have HK12 := Lib.hid (HK11.out.step hgl hg12 fun r e => by have := Option.some.inj e; omega)
                                        have r2 := hA12.read (i := 1) (L := Now) rfl rfl HXI.out
                                        obtain ⟨f2, hA13, hg13, _, hr12⟩ := hA12.put0 (by rw [List.length_set]; exact HNN.out) a y2
                                        have r3 := hA12.read (i := 0) (L := Next.set i d) (k := a) (x := d) rfl rfl (by rw [List.getElem?_set, if_neg HNE.out]; exact HAA.out)
                                        have HO13 := Lib.hid (HO12.out.kept hg13 (own_two_way HO12.out hr12))
                                        have HK13 := Lib.hid (HK12.out.step hgl hg13 fun r e => by have := Option.some.inj e; omega)
                                        have HA13 := Lib.hid hA13
                                        clear hA12 hA13 hg12 hg13 hr11 hr12
                                        go_wp2_with fail
                                        go_roundw
                                        case rel => exact ⟨i + 1, (Next.set i d).set a y2, by omega, by go_num, Lib.hid (next_swap HNX.out HNE.out HXI.out HY2.out HE1.out HAA.out HDL.out (around_sym HDL.out)), HO13.out, HA13.out, HK13.out⟩
                                        case measure => simp [intOf]; omega
                                    · have hbx : (y2 == x) = false := by simpa using hyx
                                      clear hyx
                                      go_upto_region 29 with fail
                                      refine wp_region_held_drew (S := fun w' => w'.cell? ⟨gx, a, none⟩ = some (.int .i64 d) ∧ w'.cell? ⟨gn, a, none⟩ = some (.int .i64 d) ∧ w'.cell? ⟨gx, i, none⟩ = some (.int .i64 y2) ∧ w'.cell? ⟨gn, i, none⟩ = some (.int .i64 x) ∧ w'.cell? ⟨w.heap.size, 0, none⟩ = some (.int .i64 W) ∧ w'.cell? ⟨w.heap.size, 1, none⟩ = some (.int .i64 H) ∧ w'.cell? ⟨w.heap.size, 2, none⟩ = some (.string C) ∧ HW w W H C g N v B0 (.slice (some ⟨gS, 0, none⟩) S.length cS) S (.slice ao S.length co) us (.slice (some ⟨gx, 0, none⟩) Now.length cx) (.slice (some ⟨gn, 0, none⟩) Now.length cn) Next Now Ls w') (by kernel_rfl) hS0 (fun hHeld => ?_)
                                      try simp only [List.append_eq, List.cons_append, List.nil_append]
                                      refine wpAnyH_take (i := 0) (oi := _) (v := .slice (some ⟨gx, 0, none⟩) Now.length cx) rfl (by kernel_rfl) (by kernel_rfl) (by kernel_rfl) (fun _ _ _ h => h) (Or.inl ⟨by rfl, ?_⟩) (by assumption) ?_
                                      focus (intro w' hSw; (try dsimp only at hSw); go_split_ands; simp only [List.getElem_toArray, List.getElem_cons_zero]; go_simp; done)
                                      simp only [List.getElem_toArray, List.getElem_cons_zero, Act.put, List.setIfInBounds_toArray, List.set_cons_zero, List.set_cons_succ]
                                      refine wpAnyH_take (i := 1) (oi := _) (v := .int .i64 (a : Int)) rfl (by kernel_rfl) (by kernel_rfl) (by kernel_rfl) (fun _ _ _ h => h) (Or.inl ⟨by rfl, ?_⟩) (by assumption) ?_
                                      focus (intro w' hSw; (try dsimp only at hSw); go_split_ands; simp only [List.getElem_toArray, List.getElem_cons_succ, List.getElem_cons_zero]; go_simp; done)
                                      simp only [List.getElem_toArray, List.getElem_cons_succ, List.getElem_cons_zero, Act.put, List.setIfInBounds_toArray, List.set_cons_zero, List.set_cons_succ]
                                      refine wpAnyH_take (i := 2) (oi := _) (v := .pointer (some ⟨gx, a, none⟩)) rfl (by kernel_rfl) (by kernel_rfl) (by kernel_rfl) (fun _ _ _ h => h) (Or.inl ⟨by rfl, ?_⟩) (by assumption) ?_
                                      focus (intro w' hSw; (try dsimp only at hSw); go_split_ands; simp only [List.getElem_toArray, List.getElem_cons_succ, List.getElem_cons_zero]; go_simp; done)
                                      simp only [List.getElem_toArray, List.getElem_cons_succ, List.getElem_cons_zero, Act.put, List.setIfInBounds_toArray, List.set_cons_zero, List.set_cons_succ]
                                      refine wpAnyH_take (i := 3) (oi := _) (v := .int .i64 d) rfl (by kernel_rfl) (by kernel_rfl) (by kernel_rfl) (fun _ _ _ h => h) (Or.inl ⟨by rfl, ?_⟩) (by assumption) ?_
                                      focus (intro w' hSw; (try dsimp only at hSw); go_split_ands; simp only [List.getElem_toArray, List.getElem_cons_succ, List.getElem_cons_zero]; go_simp; done)
                                      simp only [List.getElem_toArray, List.getElem_cons_succ, List.getElem_cons_zero, Act.put, List.setIfInBounds_toArray, List.set_cons_zero, List.set_cons_succ]
                                      refine wpAnyH_take (i := 4) (oi := _) (v := .slice (some ⟨gn, 0, none⟩) Now.length cn) rfl (by kernel_rfl) (by kernel_rfl) (by kernel_rfl) (fun _ _ _ h => h) (Or.inl ⟨by rfl, ?_⟩) (by assumption) ?_
                                      focus (intro w' hSw; (try dsimp only at hSw); go_split_ands; simp only [List.getElem_toArray, List.getElem_cons_succ, List.getElem_cons_zero]; go_simp; done)
                                      simp only [List.getElem_toArray, List.getElem_cons_succ, List.getElem_cons_zero, Act.put, List.setIfInBounds_toArray, List.set_cons_zero, List.set_cons_succ]
                                      refine wpAnyH_take (i := 5) (oi := _) (v := .int .i64 (a : Int)) rfl (by kernel_rfl) (by kernel_rfl) (by kernel_rfl) (fun _ _ _ h => h) (Or.inl ⟨by rfl, ?_⟩) (by assumption) ?_
                                      focus (intro w' hSw; (try dsimp only at hSw); go_split_ands; simp only [List.getElem_toArray, List.getElem_cons_succ, List.getElem_cons_zero]; go_simp; done)
                                      simp only [List.getElem_toArray, List.getElem_cons_succ, List.getElem_cons_zero, Act.put, List.setIfInBounds_toArray, List.set_cons_zero, List.set_cons_succ]
                                      refine wpAnyH_take (i := 6) (oi := _) (v := .pointer (some ⟨gn, a, none⟩)) rfl (by kernel_rfl) (by kernel_rfl) (by kernel_rfl) (fun _ _ _ h => h) (Or.inl ⟨by rfl, ?_⟩) (by assumption) ?_
                                      focus (intro w' hSw; (try dsimp only at hSw); go_split_ands; simp only [List.getElem_toArray, List.getElem_cons_succ, List.getElem_cons_zero]; go_simp; done)
                                      simp only [List.getElem_toArray, List.getElem_cons_succ, List.getElem_cons_zero, Act.put, List.setIfInBounds_toArray, List.set_cons_zero, List.set_cons_succ]
                                      refine wpAnyH_take (i := 7) (oi := _) (v := .int .i64 d) rfl (by kernel_rfl) (by kernel_rfl) (by kernel_rfl) (fun _ _ _ h => h) (Or.inl ⟨by rfl, ?_⟩) (by assumption) ?_
                                      focus (intro w' hSw; (try dsimp only at hSw); go_split_ands; simp only [List.getElem_toArray, List.getElem_cons_succ, List.getElem_cons_zero]; go_simp; done)
                                      simp only [List.getElem_toArray, List.getElem_cons_succ, List.getElem_cons_zero, Act.put, List.setIfInBounds_toArray, List.set_cons_zero, List.set_cons_succ]
                                      refine wpAnyH_take (i := 8) (oi := _) (v := .bool true) rfl (by kernel_rfl) (by kernel_rfl) (by kernel_rfl) (fun _ _ _ h => h) (Or.inl ⟨by rfl, ?_⟩) (by assumption) ?_
                                      focus (intro w' hSw; (try dsimp only at hSw); go_split_ands; simp only [List.getElem_toArray, List.getElem_cons_succ, List.getElem_cons_zero]; go_simp; done)
                                      simp only [List.getElem_toArray, List.getElem_cons_succ, List.getElem_cons_zero, Act.put, List.setIfInBounds_toArray, List.set_cons_zero, List.set_cons_succ]
                                      refine wpAnyH_take (i := 9) (oi := _) (v := .bool true) rfl (by kernel_rfl) (by kernel_rfl) (by kernel_rfl) (fun _ _ _ h => h) (Or.inl ⟨by rfl, ?_⟩) (by assumption) ?_
                                      focus (intro w' hSw; (try dsimp only at hSw); go_split_ands; simp only [List.getElem_toArray, List.getElem_cons_succ, List.getElem_cons_zero]; go_simp; done)
                                      simp only [List.getElem_toArray, List.getElem_cons_succ, List.getElem_cons_zero, Act.put, List.setIfInBounds_toArray, List.set_cons_zero, List.set_cons_succ]
                                      refine wpAnyH_take (i := 10) (oi := _) (v := .slice (some ⟨gx, 0, none⟩) Now.length cx) rfl (by kernel_rfl) (by kernel_rfl) (by kernel_rfl) (fun _ _ _ h => h) (Or.inl ⟨by rfl, ?_⟩) (by assumption) ?_
                                      focus (intro w' hSw; (try dsimp only at hSw); go_split_ands; simp only [List.getElem_toArray, List.getElem_cons_succ, List.getElem_cons_zero]; go_simp; done)
                                      simp only [List.getElem_toArray, List.getElem_cons_succ, List.getElem_cons_zero, Act.put, List.setIfInBounds_toArray, List.set_cons_zero, List.set_cons_succ]
                                      refine wpAnyH_take (i := 11) (oi := _) (v := .int .i64 (i : Int)) rfl (by kernel_rfl) (by kernel_rfl) (by kernel_rfl) (fun _ _ _ h => h) (Or.inl ⟨by rfl, ?_⟩) (by assumption) ?_
                                      focus (intro w' hSw; (try dsimp only at hSw); go_split_ands; simp only [List.getElem_toArray, List.getElem_cons_succ, List.getElem_cons_zero]; go_simp; done)
                                      simp only [List.getElem_toArray, List.getElem_cons_succ, List.getElem_cons_zero, Act.put, List.setIfInBounds_toArray, List.set_cons_zero, List.set_cons_succ]
                                      refine wpAnyH_take (i := 12) (oi := _) (v := .pointer (some ⟨gx, i, none⟩)) rfl (by kernel_rfl) (by kernel_rfl) (by kernel_rfl) (fun _ _ _ h => h) (Or.inl ⟨by rfl, ?_⟩) (by assumption) ?_
                                      focus (intro w' hSw; (try dsimp only at hSw); go_split_ands; simp only [List.getElem_toArray, List.getElem_cons_succ, List.getElem_cons_zero]; go_simp; done)
                                      simp only [List.getElem_toArray, List.getElem_cons_succ, List.getElem_cons_zero, Act.put, List.setIfInBounds_toArray, List.set_cons_zero, List.set_cons_succ]
                                      refine wpAnyH_take (i := 13) (oi := _) (v := .int .i64 y2) rfl (by kernel_rfl) (by kernel_rfl) (by kernel_rfl) (fun _ _ _ h => h) (Or.inl ⟨by rfl, ?_⟩) (by assumption) ?_
                                      focus (intro w' hSw; (try dsimp only at hSw); go_split_ands; simp only [List.getElem_toArray, List.getElem_cons_succ, List.getElem_cons_zero]; go_simp; done)
                                      simp only [List.getElem_toArray, List.getElem_cons_succ, List.getElem_cons_zero, Act.put, List.setIfInBounds_toArray, List.set_cons_zero, List.set_cons_succ]
                                      refine wpAnyH_take (i := 14) (oi := _) (v := .slice (some ⟨gn, 0, none⟩) Now.length cn) rfl (by kernel_rfl) (by kernel_rfl) (by kernel_rfl) (fun _ _ _ h => h) (Or.inl ⟨by rfl, ?_⟩) (by assumption) ?_
                                      focus (intro w' hSw; (try dsimp only at hSw); go_split_ands; simp only [List.getElem_toArray, List.getElem_cons_succ, List.getElem_cons_zero]; go_simp; done)
                                      simp only [List.getElem_toArray, List.getElem_cons_succ, List.getElem_cons_zero, Act.put, List.setIfInBounds_toArray, List.set_cons_zero, List.set_cons_succ]
                                      refine wpAnyH_take (i := 15) (oi := _) (v := .int .i64 (i : Int)) rfl (by kernel_rfl) (by kernel_rfl) (by kernel_rfl) (fun _ _ _ h => h) (Or.inl ⟨by rfl, ?_⟩) (by assumption) ?_
                                      focus (intro w' hSw; (try dsimp only at hSw); go_split_ands; simp only [List.getElem_toArray, List.getElem_cons_succ, List.getElem_cons_zero]; go_simp; done)
                                      simp only [List.getElem_toArray, List.getElem_cons_succ, List.getElem_cons_zero, Act.put, List.setIfInBounds_toArray, List.set_cons_zero, List.set_cons_succ]
                                      refine wpAnyH_take (i := 16) (oi := _) (v := .pointer (some ⟨gn, i, none⟩)) rfl (by kernel_rfl) (by kernel_rfl) (by kernel_rfl) (fun _ _ _ h => h) (Or.inl ⟨by rfl, ?_⟩) (by assumption) ?_
                                      focus (intro w' hSw; (try dsimp only at hSw); go_split_ands; simp only [List.getElem_toArray, List.getElem_cons_succ, List.getElem_cons_zero]; go_simp; done)
                                      simp only [List.getElem_toArray, List.getElem_cons_succ, List.getElem_cons_zero, Act.put, List.setIfInBounds_toArray, List.set_cons_zero, List.set_cons_succ]
                                      refine wpAnyH_take (i := 17) (oi := _) (v := .int .i64 x) rfl (by kernel_rfl) (by kernel_rfl) (by kernel_rfl) (fun _ _ _ h => h) (Or.inl ⟨by rfl, ?_⟩) (by assumption) ?_
                                      focus (intro w' hSw; (try dsimp only at hSw); go_split_ands; simp only [List.getElem_toArray, List.getElem_cons_succ, List.getElem_cons_zero]; go_simp; done)
                                      simp only [List.getElem_toArray, List.getElem_cons_succ, List.getElem_cons_zero, Act.put, List.setIfInBounds_toArray, List.set_cons_zero, List.set_cons_succ]
                                      refine wpAnyH_take (i := 18) (oi := _) (v := .bool false) rfl (by kernel_rfl) (by kernel_rfl) (by kernel_rfl) (fun _ _ _ h => h) (Or.inl ⟨by rfl, ?_⟩) (by assumption) ?_
                                      focus (intro w' hSw; (try dsimp only at hSw); go_split_ands; simp only [List.getElem_toArray, List.getElem_cons_succ, List.getElem_cons_zero]; go_simp; done)
                                      simp only [List.getElem_toArray, List.getElem_cons_succ, List.getElem_cons_zero, Act.put, List.setIfInBounds_toArray, List.set_cons_zero, List.set_cons_succ]
                                      refine wpAnyH_take (i := 19) (oi := _) (v := .bool false) rfl (by kernel_rfl) (by kernel_rfl) (by kernel_rfl) (fun _ _ _ h => h) (Or.inl ⟨by rfl, ?_⟩) (by assumption) ?_
                                      focus (intro w' hSw; (try dsimp only at hSw); go_split_ands; simp only [List.getElem_toArray, List.getElem_cons_succ, List.getElem_cons_zero]; go_simp; done)
                                      simp only [List.getElem_toArray, List.getElem_cons_succ, List.getElem_cons_zero, Act.put, List.setIfInBounds_toArray, List.set_cons_zero, List.set_cons_succ]
                                      refine wpAnyH_take (i := 20) (oi := _) (v := .bool false) rfl (by kernel_rfl) (by kernel_rfl) (by kernel_rfl) (fun _ _ _ h => h) (Or.inl ⟨by rfl, ?_⟩) (by assumption) ?_
                                      focus (intro w' hSw; (try dsimp only at hSw); go_split_ands; simp only [List.getElem_toArray, List.getElem_cons_succ, List.getElem_cons_zero]; go_simp; done)
                                      simp only [List.getElem_toArray, List.getElem_cons_succ, List.getElem_cons_zero, Act.put, List.setIfInBounds_toArray, List.set_cons_zero, List.set_cons_succ]
                                      refine wpAnyH_take (i := 21) (oi := _) (v := undef) rfl (by kernel_rfl) (by kernel_rfl) (by kernel_rfl) (fun _ _ _ h => h) (Or.inr ⟨by rfl, rfl⟩) (by assumption) ?_
                                      simp only [List.getElem_toArray, List.getElem_cons_succ, List.getElem_cons_zero, Act.put, List.setIfInBounds_toArray, List.set_cons_zero, List.set_cons_succ]
                                      refine wpAnyH_take (i := 22) (oi := _) (v := undef) rfl (by kernel_rfl) (by kernel_rfl) (by kernel_rfl) (fun _ _ _ h => h) (Or.inr ⟨by rfl, rfl⟩) (by assumption) ?_
                                      simp only [List.getElem_toArray, List.getElem_cons_succ, List.getElem_cons_zero, Act.put, List.setIfInBounds_toArray, List.set_cons_zero, List.set_cons_succ]
                                      refine wpAnyH_take (i := 23) (oi := _) (v := undef) rfl (by kernel_rfl) (by kernel_rfl) (by kernel_rfl) (fun _ _ _ h => h) (Or.inr ⟨by rfl, rfl⟩) (by assumption) ?_
                                      simp only [List.getElem_toArray, List.getElem_cons_succ, List.getElem_cons_zero, Act.put, List.setIfInBounds_toArray, List.set_cons_zero, List.set_cons_succ]
                                      refine wpAnyH_take (i := 24) (oi := _) (v := undef) rfl (by kernel_rfl) (by kernel_rfl) (by kernel_rfl) (fun _ _ _ h => h) (Or.inr ⟨by rfl, rfl⟩) (by assumption) ?_
                                      simp only [List.getElem_toArray, List.getElem_cons_succ, List.getElem_cons_zero, Act.put, List.setIfInBounds_toArray, List.set_cons_zero, List.set_cons_succ]
                                      refine wpAnyH_take (i := 25) (oi := _) (v := undef) rfl (by kernel_rfl) (by kernel_rfl) (by kernel_rfl) (fun _ _ _ h => h) (Or.inr ⟨by rfl, rfl⟩) (by assumption) ?_
                                      simp only [List.getElem_toArray, List.getElem_cons_succ, List.getElem_cons_zero, Act.put, List.setIfInBounds_toArray, List.set_cons_zero, List.set_cons_succ]
                                      refine wpAnyH_take (i := 26) (oi := _) (v := undef) rfl (by kernel_rfl) (by kernel_rfl) (by kernel_rfl) (fun _ _ _ h => h) (Or.inr ⟨by rfl, rfl⟩) (by assumption) ?_
                                      simp only [List.getElem_toArray, List.getElem_cons_succ, List.getElem_cons_zero, Act.put, List.setIfInBounds_toArray, List.set_cons_zero, List.set_cons_succ]
                                      refine wpAnyH_take (i := 27) (oi := _) (v := undef) rfl (by kernel_rfl) (by kernel_rfl) (by kernel_rfl) (fun _ _ _ h => h) (Or.inr ⟨by rfl, rfl⟩) (by assumption) ?_
                                      simp only [List.getElem_toArray, List.getElem_cons_succ, List.getElem_cons_zero, Act.put, List.setIfInBounds_toArray, List.set_cons_zero, List.set_cons_succ]
                                      refine wpAnyH_take (i := 28) (oi := _) (v := .bool false) rfl (by kernel_rfl) (by kernel_rfl) (by kernel_rfl) (fun _ _ _ h => h) (Or.inl ⟨by rfl, ?_⟩) (by assumption) ?_
                                      focus (intro w' hSw; (try dsimp only at hSw); go_split_ands; simp only [List.getElem_toArray, List.getElem_cons_succ, List.getElem_cons_zero]; go_simp; done)
                                      simp only [List.getElem_toArray, List.getElem_cons_succ, List.getElem_cons_zero, Act.put, List.setIfInBounds_toArray, List.set_cons_zero, List.set_cons_succ]
                                      refine wpAnyH_take (i := 29) (oi := _) (v := .bool false) rfl (by kernel_rfl) (by kernel_rfl) (by kernel_rfl) (fun _ _ _ h => h) (Or.inl ⟨by rfl, ?_⟩) (by assumption) ?_
                                      focus (intro w' hSw; (try dsimp only at hSw); go_split_ands; simp only [List.getElem_toArray, List.getElem_cons_succ, List.getElem_cons_zero]; go_simp; done)
                                      simp only [List.getElem_toArray, List.getElem_cons_succ, List.getElem_cons_zero, Act.put, List.setIfInBounds_toArray, List.set_cons_zero, List.set_cons_succ]
                                      refine wpAnyH_take (i := 30) (oi := _) (v := undef) rfl (by kernel_rfl) (by kernel_rfl) (by kernel_rfl) (fun _ _ _ h => h) (Or.inr ⟨by rfl, rfl⟩) (by assumption) ?_
                                      simp only [List.getElem_toArray, List.getElem_cons_succ, List.getElem_cons_zero, Act.put, List.setIfInBounds_toArray, List.set_cons_zero, List.set_cons_succ]
                                      refine wpAnyH_take (i := 31) (oi := _) (v := undef) rfl (by kernel_rfl) (by kernel_rfl) (by kernel_rfl) (fun _ _ _ h => h) (Or.inr ⟨by rfl, rfl⟩) (by assumption) ?_
                                      simp only [List.getElem_toArray, List.getElem_cons_succ, List.getElem_cons_zero, Act.put, List.setIfInBounds_toArray, List.set_cons_zero, List.set_cons_succ]
                                      refine wpAnyH_take (i := 32) (oi := _) (v := .bool false) rfl (by kernel_rfl) (by kernel_rfl) (by kernel_rfl) (fun _ _ _ h => h) (Or.inl ⟨by rfl, ?_⟩) (by assumption) ?_
                                      focus (intro w' hSw; (try dsimp only at hSw); go_split_ands; simp only [List.getElem_toArray, List.getElem_cons_succ, List.getElem_cons_zero]; go_simp; done)
                                      simp only [List.getElem_toArray, List.getElem_cons_succ, List.getElem_cons_zero, Act.put, List.setIfInBounds_toArray, List.set_cons_zero, List.set_cons_succ]
                                      refine wpAnyH_done (by kernel_rfl) ?_ _
                                      have HBE := Lib.hid hHeld.2.2.2.2.2.2.2
                                      clear hHeld hS0
                                      go_wp2_with fail
                                      go_roundw
                                      case rel => exact ⟨i + 1, Next, by omega, by go_num, HNX, HBE.out.outs, HBE.out.all, HBE.out.wk⟩
                                      case measure => simp [intOf]; omega
                                  · have hbd : (d == e1) = false := by simpa using hd1
                                    clear hd1
                                    go_upto_region 29 with fail
                                    refine wp_region_held_drew (S := fun w' => w'.cell? ⟨gx, a, none⟩ = some (.int .i64 d) ∧ w'.cell? ⟨gn, a, none⟩ = some (.int .i64 e1) ∧ w'.cell? ⟨gx, i, none⟩ = some (.int .i64 y2) ∧ w'.cell? ⟨gn, i, none⟩ = some (.int .i64 x) ∧ w'.cell? ⟨w.heap.size, 0, none⟩ = some (.int .i64 W) ∧ w'.cell? ⟨w.heap.size, 1, none⟩ = some (.int .i64 H) ∧ w'.cell? ⟨w.heap.size, 2, none⟩ = some (.string C) ∧ HW w W H C g N v B0 (.slice (some ⟨gS, 0, none⟩) S.length cS) S (.slice ao S.length co) us (.slice (some ⟨gx, 0, none⟩) Now.length cx) (.slice (some ⟨gn, 0, none⟩) Now.length cn) Next Now Ls w') (by kernel_rfl) hS0 (fun hHeld => ?_)
                                    try simp only [List.append_eq, List.cons_append, List.nil_append]
                                    refine wpAnyH_take (i := 0) (oi := _) (v := .slice (some ⟨gx, 0, none⟩) Now.length cx) rfl (by kernel_rfl) (by kernel_rfl) (by kernel_rfl) (fun _ _ _ h => h) (Or.inl ⟨by rfl, ?_⟩) (by assumption) ?_
                                    focus (intro w' hSw; (try dsimp only at hSw); go_split_ands; simp only [List.getElem_toArray, List.getElem_cons_zero]; go_simp; done)
                                    simp only [List.getElem_toArray, List.getElem_cons_zero, Act.put, List.setIfInBounds_toArray, List.set_cons_zero, List.set_cons_succ]
                                    refine wpAnyH_take (i := 1) (oi := _) (v := .int .i64 (a : Int)) rfl (by kernel_rfl) (by kernel_rfl) (by kernel_rfl) (fun _ _ _ h => h) (Or.inl ⟨by rfl, ?_⟩) (by assumption) ?_
                                    focus (intro w' hSw; (try dsimp only at hSw); go_split_ands; simp only [List.getElem_toArray, List.getElem_cons_succ, List.getElem_cons_zero]; go_simp; done)
                                    simp only [List.getElem_toArray, List.getElem_cons_succ, List.getElem_cons_zero, Act.put, List.setIfInBounds_toArray, List.set_cons_zero, List.set_cons_succ]
                                    refine wpAnyH_take (i := 2) (oi := _) (v := .pointer (some ⟨gx, a, none⟩)) rfl (by kernel_rfl) (by kernel_rfl) (by kernel_rfl) (fun _ _ _ h => h) (Or.inl ⟨by rfl, ?_⟩) (by assumption) ?_
                                    focus (intro w' hSw; (try dsimp only at hSw); go_split_ands; simp only [List.getElem_toArray, List.getElem_cons_succ, List.getElem_cons_zero]; go_simp; done)
                                    simp only [List.getElem_toArray, List.getElem_cons_succ, List.getElem_cons_zero, Act.put, List.setIfInBounds_toArray, List.set_cons_zero, List.set_cons_succ]
                                    refine wpAnyH_take (i := 3) (oi := _) (v := .int .i64 d) rfl (by kernel_rfl) (by kernel_rfl) (by kernel_rfl) (fun _ _ _ h => h) (Or.inl ⟨by rfl, ?_⟩) (by assumption) ?_
                                    focus (intro w' hSw; (try dsimp only at hSw); go_split_ands; simp only [List.getElem_toArray, List.getElem_cons_succ, List.getElem_cons_zero]; go_simp; done)
                                    simp only [List.getElem_toArray, List.getElem_cons_succ, List.getElem_cons_zero, Act.put, List.setIfInBounds_toArray, List.set_cons_zero, List.set_cons_succ]
                                    refine wpAnyH_take (i := 4) (oi := _) (v := .slice (some ⟨gn, 0, none⟩) Now.length cn) rfl (by kernel_rfl) (by kernel_rfl) (by kernel_rfl) (fun _ _ _ h => h) (Or.inl ⟨by rfl, ?_⟩) (by assumption) ?_
                                    focus (intro w' hSw; (try dsimp only at hSw); go_split_ands; simp only [List.getElem_toArray, List.getElem_cons_succ, List.getElem_cons_zero]; go_simp; done)
                                    simp only [List.getElem_toArray, List.getElem_cons_succ, List.getElem_cons_zero, Act.put, List.setIfInBounds_toArray, List.set_cons_zero, List.set_cons_succ]
                                    refine wpAnyH_take (i := 5) (oi := _) (v := .int .i64 (a : Int)) rfl (by kernel_rfl) (by kernel_rfl) (by kernel_rfl) (fun _ _ _ h => h) (Or.inl ⟨by rfl, ?_⟩) (by assumption) ?_
                                    focus (intro w' hSw; (try dsimp only at hSw); go_split_ands; simp only [List.getElem_toArray, List.getElem_cons_succ, List.getElem_cons_zero]; go_simp; done)
                                    simp only [List.getElem_toArray, List.getElem_cons_succ, List.getElem_cons_zero, Act.put, List.setIfInBounds_toArray, List.set_cons_zero, List.set_cons_succ]
                                    refine wpAnyH_take (i := 6) (oi := _) (v := .pointer (some ⟨gn, a, none⟩)) rfl (by kernel_rfl) (by kernel_rfl) (by kernel_rfl) (fun _ _ _ h => h) (Or.inl ⟨by rfl, ?_⟩) (by assumption) ?_
                                    focus (intro w' hSw; (try dsimp only at hSw); go_split_ands; simp only [List.getElem_toArray, List.getElem_cons_succ, List.getElem_cons_zero]; go_simp; done)
                                    simp only [List.getElem_toArray, List.getElem_cons_succ, List.getElem_cons_zero, Act.put, List.setIfInBounds_toArray, List.set_cons_zero, List.set_cons_succ]
                                    refine wpAnyH_take (i := 7) (oi := _) (v := .int .i64 e1) rfl (by kernel_rfl) (by kernel_rfl) (by kernel_rfl) (fun _ _ _ h => h) (Or.inl ⟨by rfl, ?_⟩) (by assumption) ?_
                                    focus (intro w' hSw; (try dsimp only at hSw); go_split_ands; simp only [List.getElem_toArray, List.getElem_cons_succ, List.getElem_cons_zero]; go_simp; done)
                                    simp only [List.getElem_toArray, List.getElem_cons_succ, List.getElem_cons_zero, Act.put, List.setIfInBounds_toArray, List.set_cons_zero, List.set_cons_succ]
                                    refine wpAnyH_take (i := 8) (oi := _) (v := .bool false) rfl (by kernel_rfl) (by kernel_rfl) (by kernel_rfl) (fun _ _ _ h => h) (Or.inl ⟨by rfl, ?_⟩) (by assumption) ?_
                                    focus (intro w' hSw; (try dsimp only at hSw); go_split_ands; simp only [List.getElem_toArray, List.getElem_cons_succ, List.getElem_cons_zero]; go_simp; done)
                                    simp only [List.getElem_toArray, List.getElem_cons_succ, List.getElem_cons_zero, Act.put, List.setIfInBounds_toArray, List.set_cons_zero, List.set_cons_succ]
                                    refine wpAnyH_take (i := 9) (oi := _) (v := .bool false) rfl (by kernel_rfl) (by kernel_rfl) (by kernel_rfl) (fun _ _ _ h => h) (Or.inl ⟨by rfl, ?_⟩) (by assumption) ?_
                                    focus (intro w' hSw; (try dsimp only at hSw); go_split_ands; simp only [List.getElem_toArray, List.getElem_cons_succ, List.getElem_cons_zero]; go_simp; done)
                                    simp only [List.getElem_toArray, List.getElem_cons_succ, List.getElem_cons_zero, Act.put, List.setIfInBounds_toArray, List.set_cons_zero, List.set_cons_succ]
                                    refine wpAnyH_take (i := 10) (oi := _) (v := undef) rfl (by kernel_rfl) (by kernel_rfl) (by kernel_rfl) (fun _ _ _ h => h) (Or.inr ⟨by rfl, rfl⟩) (by assumption) ?_
                                    simp only [List.getElem_toArray, List.getElem_cons_succ, List.getElem_cons_zero, Act.put, List.setIfInBounds_toArray, List.set_cons_zero, List.set_cons_succ]
                                    refine wpAnyH_take (i := 11) (oi := _) (v := undef) rfl (by kernel_rfl) (by kernel_rfl) (by kernel_rfl) (fun _ _ _ h => h) (Or.inr ⟨by rfl, rfl⟩) (by assumption) ?_
                                    simp only [List.getElem_toArray, List.getElem_cons_succ, List.getElem_cons_zero, Act.put, List.setIfInBounds_toArray, List.set_cons_zero, List.set_cons_succ]
                                    refine wpAnyH_take (i := 12) (oi := _) (v := undef) rfl (by kernel_rfl) (by kernel_rfl) (by kernel_rfl) (fun _ _ _ h => h) (Or.inr ⟨by rfl, rfl⟩) (by assumption) ?_
                                    simp only [List.getElem_toArray, List.getElem_cons_succ, List.getElem_cons_zero, Act.put, List.setIfInBounds_toArray, List.set_cons_zero, List.set_cons_succ]
                                    refine wpAnyH_take (i := 13) (oi := _) (v := undef) rfl (by kernel_rfl) (by kernel_rfl) (by kernel_rfl) (fun _ _ _ h => h) (Or.inr ⟨by rfl, rfl⟩) (by assumption) ?_
                                    simp only [List.getElem_toArray, List.getElem_cons_succ, List.getElem_cons_zero, Act.put, List.setIfInBounds_toArray, List.set_cons_zero, List.set_cons_succ]
                                    refine wpAnyH_take (i := 14) (oi := _) (v := undef) rfl (by kernel_rfl) (by kernel_rfl) (by kernel_rfl) (fun _ _ _ h => h) (Or.inr ⟨by rfl, rfl⟩) (by assumption) ?_
                                    simp only [List.getElem_toArray, List.getElem_cons_succ, List.getElem_cons_zero, Act.put, List.setIfInBounds_toArray, List.set_cons_zero, List.set_cons_succ]
                                    refine wpAnyH_take (i := 15) (oi := _) (v := undef) rfl (by kernel_rfl) (by kernel_rfl) (by kernel_rfl) (fun _ _ _ h => h) (Or.inr ⟨by rfl, rfl⟩) (by assumption) ?_
                                    simp only [List.getElem_toArray, List.getElem_cons_succ, List.getElem_cons_zero, Act.put, List.setIfInBounds_toArray, List.set_cons_zero, List.set_cons_succ]
                                    refine wpAnyH_take (i := 16) (oi := _) (v := undef) rfl (by kernel_rfl) (by kernel_rfl) (by kernel_rfl) (fun _ _ _ h => h) (Or.inr ⟨by rfl, rfl⟩) (by assumption) ?_
                                    simp only [List.getElem_toArray, List.getElem_cons_succ, List.getElem_cons_zero, Act.put, List.setIfInBounds_toArray, List.set_cons_zero, List.set_cons_succ]
                                    refine wpAnyH_take (i := 17) (oi := _) (v := undef) rfl (by kernel_rfl) (by kernel_rfl) (by kernel_rfl) (fun _ _ _ h => h) (Or.inr ⟨by rfl, rfl⟩) (by assumption) ?_
                                    simp only [List.getElem_toArray, List.getElem_cons_succ, List.getElem_cons_zero, Act.put, List.setIfInBounds_toArray, List.set_cons_zero, List.set_cons_succ]
                                    refine wpAnyH_take (i := 18) (oi := _) (v := undef) rfl (by kernel_rfl) (by kernel_rfl) (by kernel_rfl) (fun _ _ _ h => h) (Or.inr ⟨by rfl, rfl⟩) (by assumption) ?_
                                    simp only [List.getElem_toArray, List.getElem_cons_succ, List.getElem_cons_zero, Act.put, List.setIfInBounds_toArray, List.set_cons_zero, List.set_cons_succ]
                                    refine wpAnyH_take (i := 19) (oi := _) (v := .bool false) rfl (by kernel_rfl) (by kernel_rfl) (by kernel_rfl) (fun _ _ _ h => h) (Or.inl ⟨by rfl, ?_⟩) (by assumption) ?_
                                    focus (intro w' hSw; (try dsimp only at hSw); go_split_ands; simp only [List.getElem_toArray, List.getElem_cons_succ, List.getElem_cons_zero]; go_simp; done)
                                    simp only [List.getElem_toArray, List.getElem_cons_succ, List.getElem_cons_zero, Act.put, List.setIfInBounds_toArray, List.set_cons_zero, List.set_cons_succ]
                                    refine wpAnyH_take (i := 20) (oi := _) (v := .bool false) rfl (by kernel_rfl) (by kernel_rfl) (by kernel_rfl) (fun _ _ _ h => h) (Or.inl ⟨by rfl, ?_⟩) (by assumption) ?_
                                    focus (intro w' hSw; (try dsimp only at hSw); go_split_ands; simp only [List.getElem_toArray, List.getElem_cons_succ, List.getElem_cons_zero]; go_simp; done)
                                    simp only [List.getElem_toArray, List.getElem_cons_succ, List.getElem_cons_zero, Act.put, List.setIfInBounds_toArray, List.set_cons_zero, List.set_cons_succ]
                                    refine wpAnyH_take (i := 21) (oi := _) (v := undef) rfl (by kernel_rfl) (by kernel_rfl) (by kernel_rfl) (fun _ _ _ h => h) (Or.inr ⟨by rfl, rfl⟩) (by assumption) ?_
                                    simp only [List.getElem_toArray, List.getElem_cons_succ, List.getElem_cons_zero, Act.put, List.setIfInBounds_toArray, List.set_cons_zero, List.set_cons_succ]
                                    refine wpAnyH_take (i := 22) (oi := _) (v := undef) rfl (by kernel_rfl) (by kernel_rfl) (by kernel_rfl) (fun _ _ _ h => h) (Or.inr ⟨by rfl, rfl⟩) (by assumption) ?_
                                    simp only [List.getElem_toArray, List.getElem_cons_succ, List.getElem_cons_zero, Act.put, List.setIfInBounds_toArray, List.set_cons_zero, List.set_cons_succ]
                                    refine wpAnyH_take (i := 23) (oi := _) (v := undef) rfl (by kernel_rfl) (by kernel_rfl) (by kernel_rfl) (fun _ _ _ h => h) (Or.inr ⟨by rfl, rfl⟩) (by assumption) ?_
                                    simp only [List.getElem_toArray, List.getElem_cons_succ, List.getElem_cons_zero, Act.put, List.setIfInBounds_toArray, List.set_cons_zero, List.set_cons_succ]
                                    refine wpAnyH_take (i := 24) (oi := _) (v := undef) rfl (by kernel_rfl) (by kernel_rfl) (by kernel_rfl) (fun _ _ _ h => h) (Or.inr ⟨by rfl, rfl⟩) (by assumption) ?_
                                    simp only [List.getElem_toArray, List.getElem_cons_succ, List.getElem_cons_zero, Act.put, List.setIfInBounds_toArray, List.set_cons_zero, List.set_cons_succ]
                                    refine wpAnyH_take (i := 25) (oi := _) (v := undef) rfl (by kernel_rfl) (by kernel_rfl) (by kernel_rfl) (fun _ _ _ h => h) (Or.inr ⟨by rfl, rfl⟩) (by assumption) ?_
                                    simp only [List.getElem_toArray, List.getElem_cons_succ, List.getElem_cons_zero, Act.put, List.setIfInBounds_toArray, List.set_cons_zero, List.set_cons_succ]
                                    refine wpAnyH_take (i := 26) (oi := _) (v := undef) rfl (by kernel_rfl) (by kernel_rfl) (by kernel_rfl) (fun _ _ _ h => h) (Or.inr ⟨by rfl, rfl⟩) (by assumption) ?_
                                    simp only [List.getElem_toArray, List.getElem_cons_succ, List.getElem_cons_zero, Act.put, List.setIfInBounds_toArray, List.set_cons_zero, List.set_cons_succ]
                                    refine wpAnyH_take (i := 27) (oi := _) (v := undef) rfl (by kernel_rfl) (by kernel_rfl) (by kernel_rfl) (fun _ _ _ h => h) (Or.inr ⟨by rfl, rfl⟩) (by assumption) ?_
                                    simp only [List.getElem_toArray, List.getElem_cons_succ, List.getElem_cons_zero, Act.put, List.setIfInBounds_toArray, List.set_cons_zero, List.set_cons_succ]
                                    refine wpAnyH_take (i := 28) (oi := _) (v := .bool false) rfl (by kernel_rfl) (by kernel_rfl) (by kernel_rfl) (fun _ _ _ h => h) (Or.inl ⟨by rfl, ?_⟩) (by assumption) ?_
                                    focus (intro w' hSw; (try dsimp only at hSw); go_split_ands; simp only [List.getElem_toArray, List.getElem_cons_succ, List.getElem_cons_zero]; go_simp; done)
                                    simp only [List.getElem_toArray, List.getElem_cons_succ, List.getElem_cons_zero, Act.put, List.setIfInBounds_toArray, List.set_cons_zero, List.set_cons_succ]
                                    refine wpAnyH_take (i := 29) (oi := _) (v := .bool false) rfl (by kernel_rfl) (by kernel_rfl) (by kernel_rfl) (fun _ _ _ h => h) (Or.inl ⟨by rfl, ?_⟩) (by assumption) ?_
                                    focus (intro w' hSw; (try dsimp only at hSw); go_split_ands; simp only [List.getElem_toArray, List.getElem_cons_succ, List.getElem_cons_zero]; go_simp; done)
                                    simp only [List.getElem_toArray, List.getElem_cons_succ, List.getElem_cons_zero, Act.put, List.setIfInBounds_toArray, List.set_cons_zero, List.set_cons_succ]
                                    refine wpAnyH_take (i := 30) (oi := _) (v := undef) rfl (by kernel_rfl) (by kernel_rfl) (by kernel_rfl) (fun _ _ _ h => h) (Or.inr ⟨by rfl, rfl⟩) (by assumption) ?_
                                    simp only [List.getElem_toArray, List.getElem_cons_succ, List.getElem_cons_zero, Act.put, List.setIfInBounds_toArray, List.set_cons_zero, List.set_cons_succ]
                                    refine wpAnyH_take (i := 31) (oi := _) (v := undef) rfl (by kernel_rfl) (by kernel_rfl) (by kernel_rfl) (fun _ _ _ h => h) (Or.inr ⟨by rfl, rfl⟩) (by assumption) ?_
                                    simp only [List.getElem_toArray, List.getElem_cons_succ, List.getElem_cons_zero, Act.put, List.setIfInBounds_toArray, List.set_cons_zero, List.set_cons_succ]
                                    refine wpAnyH_take (i := 32) (oi := _) (v := .bool false) rfl (by kernel_rfl) (by kernel_rfl) (by kernel_rfl) (fun _ _ _ h => h) (Or.inl ⟨by rfl, ?_⟩) (by assumption) ?_
                                    focus (intro w' hSw; (try dsimp only at hSw); go_split_ands; simp only [List.getElem_toArray, List.getElem_cons_succ, List.getElem_cons_zero]; go_simp; done)
                                    simp only [List.getElem_toArray, List.getElem_cons_succ, List.getElem_cons_zero, Act.put, List.setIfInBounds_toArray, List.set_cons_zero, List.set_cons_succ]
                                    refine wpAnyH_done (by kernel_rfl) ?_ _
                                    have HBE := Lib.hid hHeld.2.2.2.2.2.2.2
                                    clear hHeld hS0
                                    go_wp2_with fail
                                    go_roundw
                                    case rel => exact ⟨i + 1, Next, by omega, by go_num, HNX, HBE.out.outs, HBE.out.all, HBE.out.wk⟩
                                    case measure => simp [intOf]; omega
                · obtain rfl : i = Now.length := by omega
                  have hnl : ¬ (Now.length : Int) < (Now.length : Int) := by omega
                  have HO1 := Lib.hid hown
                  have HA1 := Lib.hid (AllR.drop2 hall)
                  have HK1 := Lib.hid hwk
                  have HXL : Hid (Next.length = Now.length) := Lib.hid HNX.out.len
                  have HSL : Hid (S.length = Now.length) := Lib.hid HNL.out.symm
                  clear hown hall hwk
                  go_wp2_with fail
                  go_loopw [20] (fun x wx => ∃ (i : Nat) (us2 : List Value), i ≤ Now.length ∧ x = .int .i64 (i : Int) ∧ wx.ownsRow (w.heap.size + 1) 51 1 (.slice ao S.length co) S.length us2 ∧ AllR wx (w.heap.size + 1) (.slice ax Now.length cx :: us2) (Next :: growL Ls Next i) ∧ WK w W H C g N v B0 (.slice (some ⟨gS, 0, none⟩) S.length cS) S wx) (fun x _ => Now.length - (intOf x).toNat)
                  case atStart => exact ⟨0, us, Nat.zero_le _, rfl, HO1.out, by rw [grow_zero]; exact HA1.out, HK1.out⟩
                  case round =>
                    clear HO1 HA1 HK1
                    obtain ⟨i, us2, hiN, rfl, hown, hall, hwk⟩ := hrel
                    by_cases hli : i < Now.length
                    · have hli2 : (i : Int) < (Now.length : Int) := by omega
                      have HO1 := Lib.hid hown
                      have HA1 := Lib.hid hall
                      have HK1 := Lib.hid hwk
                      clear hown hall hwk
                      have hiS : i < S.length := by rw [HSL.out]; exact hli
                      have hiS2 : (i : Int) < (S.length : Int) := by omega
                      obtain ⟨go, hgo⟩ := own_at HO1.out (by rw [HSL.out]; omega)
                      subst hgo
                      obtain ⟨x, hx⟩ : ∃ x, Next[i]? = some x := ⟨_, List.getElem?_eq_getElem (by rw [HXL.out]; exact hli)⟩
                      obtain ⟨L, hL⟩ : ∃ L, Ls[i]? = some L := ⟨_, List.getElem?_eq_getElem (by rw [HWD.out.len, HSL.out]; exact hli)⟩
                      obtain ⟨u, hu, hou⟩ := HA1.out.at (i := i + 1) (L := L) (by
                        rw [List.getElem?_cons_succ, grow_self]
                        exact hL)
                      rw [List.getElem?_cons_succ] at hu
                      have hl22 : L.length ≤ 21 := by have := HWD.out.cells i L hL; omega
                      have HL22 := Lib.hid hl22
                      have hgt := own_at (HA1.out.row 0 _ Next rfl rfl |> fun h => (by rw [HXL.out] at h; exact h)) (show Now.length ≠ 0 by omega)
                      obtain ⟨gx, hgx⟩ := hgt
                      subst hgx
                      have HXI := Lib.hid hx
                      have HLI := Lib.hid hL
                      have HUI := Lib.hid hu
                      have HOU := Lib.hid hou
                      have b7 : Below wr.heap.size wr (wr.drew.alloc (.cells #[.int .i64 x] 3)) := (below_drewN (Below.refl wr.heap.size wr) 1).alloc (Nat.le_refl _) _
                      have HO7 := Lib.hid (own_any2 HO1.out b7)
                      have HA7 := Lib.hid (HA1.out.on b7)
                      have HK7 := Lib.hid (HK1.out.on hgl b7)
                      have HU7 := Lib.hid (own_any3 HOU.out b7)
                      have hS0 : wr.drew.cell? ⟨go, i, none⟩ = some u ∧ wr.drew.cell? ⟨gx, i, none⟩ = some (.int .i64 x) := ⟨own_cell_at HO1.out hu, HA1.out.read (i := 0) rfl rfl hx⟩
                      have HS7 := Lib.hid (show _ ∧ _ from ⟨own_cell_at HO7.out hu, HA7.out.read (i := 0) rfl rfl hx⟩)
                      have hwl : w.heap.size < wr.heap.size := (Array.getElem?_eq_some_iff.1 HK1.out.box).1
                      have HWL := Lib.hid hwl
                      clear hx hL hu hou hl22 b7 hwl
                      go_upto_region 36 with fail
                      refine wp_region_last 15 (fun w' => w'.cell? ⟨go, i, none⟩ = some u ∧ w'.cell? ⟨gx, i, none⟩ = some (.int .i64 x)) (by as_aux_lemma => kernel_rfl) (by as_aux_lemma => kernel_rfl) (by as_aux_lemma => kernel_rfl) (by decide) hS0 (fun hHeld => ?_)
                      refine anyI_take (i := 0) (oi := _) (v := ?q1v1) rfl (by as_aux_lemma => kernel_rfl) (by as_aux_lemma => kernel_rfl) (by as_aux_lemma => kernel_rfl) rfl (fun _ _ _ h => h) (Or.inl ⟨by rfl, ?q1y1⟩) (by assumption) ?q1r1
                      case q1y1 =>
                        intro w' hSw
                        (try dsimp only at hSw)
                        go_split_ands
                        simp only [List.getElem_toArray, List.getElem_cons_zero]
                        go_simp
                        all_goals (try with_reducible rfl)
                      simp only [List.getElem_toArray, List.getElem_cons_zero, Act.put, List.setIfInBounds_toArray, List.set_cons_zero, List.set_cons_succ]
                      refine anyI_take (i := 1) (oi := _) (v := ?q1v2) rfl (by as_aux_lemma => kernel_rfl) (by as_aux_lemma => kernel_rfl) (by as_aux_lemma => kernel_rfl) rfl (fun _ _ _ h => h) (Or.inl ⟨by rfl, ?q1y2⟩) (by assumption) ?q1r2
                      case q1y2 =>
                        intro w' hSw
                        (try dsimp only at hSw)
                        go_split_ands
                        simp only [List.getElem_toArray, List.getElem_cons_succ, List.getElem_cons_zero]
                        go_simp
                        all_goals (try with_reducible rfl)
                      simp only [List.getElem_toArray, List.getElem_cons_succ, List.getElem_cons_zero, Act.put, List.setIfInBounds_toArray, List.set_cons_zero, List.set_cons_succ]
                      refine anyI_take (i := 2) (oi := _) (v := ?q1v3) rfl (by as_aux_lemma => kernel_rfl) (by as_aux_lemma => kernel_rfl) (by as_aux_lemma => kernel_rfl) rfl (fun _ _ _ h => h) (Or.inl ⟨by rfl, ?q1y3⟩) (by assumption) ?q1r3
                      case q1y3 =>
                        intro w' hSw
                        (try dsimp only at hSw)
                        go_split_ands
                        simp only [List.getElem_toArray, List.getElem_cons_succ, List.getElem_cons_zero]
                        go_simp
                        all_goals (try with_reducible rfl)
                      simp only [List.getElem_toArray, List.getElem_cons_succ, List.getElem_cons_zero, Act.put, List.setIfInBounds_toArray, List.set_cons_zero, List.set_cons_succ]
                      refine anyI_take (i := 3) (oi := _) (v := ?q1v4) rfl (by as_aux_lemma => kernel_rfl) (by as_aux_lemma => kernel_rfl) (by as_aux_lemma => kernel_rfl) rfl (fun _ _ _ h => h) (Or.inl ⟨by rfl, ?q1y4⟩) (by assumption) ?q1r4
                      case q1y4 =>
                        intro w' hSw
                        (try dsimp only at hSw)
                        go_split_ands
                        simp only [List.getElem_toArray, List.getElem_cons_succ, List.getElem_cons_zero]
                        go_simp
                        all_goals (try with_reducible rfl)
                      simp only [List.getElem_toArray, List.getElem_cons_succ, List.getElem_cons_zero, Act.put, List.setIfInBounds_toArray, List.set_cons_zero, List.set_cons_succ]
                      refine anyI_take (i := 4) (oi := _) (v := ?q1v5) rfl (by as_aux_lemma => kernel_rfl) (by as_aux_lemma => kernel_rfl) (by as_aux_lemma => kernel_rfl) rfl (fun _ _ _ h => h) (Or.inl ⟨by rfl, ?q1y5⟩) (by assumption) ?q1r5
                      case q1y5 =>
                        intro w' hSw
                        (try dsimp only at hSw)
                        go_split_ands
                        simp only [List.getElem_toArray, List.getElem_cons_succ, List.getElem_cons_zero]
                        go_simp
                        all_goals (try with_reducible rfl)
                      simp only [List.getElem_toArray, List.getElem_cons_succ, List.getElem_cons_zero, Act.put, List.setIfInBounds_toArray, List.set_cons_zero, List.set_cons_succ]
                      refine anyI_take (i := 5) (oi := _) (v := ?q1v6) rfl (by as_aux_lemma => kernel_rfl) (by as_aux_lemma => kernel_rfl) (by as_aux_lemma => kernel_rfl) rfl (fun _ _ _ h => h) (Or.inl ⟨by rfl, ?q1y6⟩) (by assumption) ?q1r6
                      case q1y6 =>
                        intro w' hSw
                        (try dsimp only at hSw)
                        go_split_ands
                        simp only [List.getElem_toArray, List.getElem_cons_succ, List.getElem_cons_zero]
                        go_simp
                        all_goals (try with_reducible rfl)
                      simp only [List.getElem_toArray, List.getElem_cons_succ, List.getElem_cons_zero, Act.put, List.setIfInBounds_toArray, List.set_cons_zero, List.set_cons_succ]
                      refine anyI_take (i := 6) (oi := _) (v := ?q1v7) rfl (by as_aux_lemma => kernel_rfl) (by as_aux_lemma => kernel_rfl) (by as_aux_lemma => kernel_rfl) rfl (fun _ _ _ h => h) (Or.inl ⟨by rfl, ?q1y7⟩) (by assumption) ?q1r7
                      case q1y7 =>
                        intro w' hSw
                        (try dsimp only at hSw)
                        go_split_ands
                        simp only [List.getElem_toArray, List.getElem_cons_succ, List.getElem_cons_zero]
                        go_simp
                        all_goals (try with_reducible rfl)
                      simp only [List.getElem_toArray, List.getElem_cons_succ, List.getElem_cons_zero, Act.put, List.setIfInBounds_toArray, List.set_cons_zero, List.set_cons_succ]
                      refine anyI_take (i := 7) (oi := _) (v := ?q1v8) rfl (by as_aux_lemma => kernel_rfl) (by as_aux_lemma => kernel_rfl) (by as_aux_lemma => kernel_rfl) rfl (fun _ _ _ h => h) (Or.inl ⟨by rfl, ?q1y8⟩) (by assumption) ?q1r8
                      case q1y8 =>
                        intro w' hSw
                        (try dsimp only at hSw)
                        go_split_ands
                        simp only [List.getElem_toArray, List.getElem_cons_succ, List.getElem_cons_zero]
                        go_simp
                        all_goals (try with_reducible rfl)
                      simp only [List.getElem_toArray, List.getElem_cons_succ, List.getElem_cons_zero, Act.put, List.setIfInBounds_toArray, List.set_cons_zero, List.set_cons_succ]
                      refine anyI_take (i := 8) (oi := _) (v := ?q1v9) rfl (by as_aux_lemma => kernel_rfl) (by as_aux_lemma => kernel_rfl) (by as_aux_lemma => kernel_rfl) rfl (fun _ _ _ h => h) (Or.inl ⟨by rfl, ?q1y9⟩) (by assumption) ?q1r9
                      case q1y9 =>
                        intro w' hSw
                        (try dsimp only at hSw)
                        go_split_ands
                        simp only [List.getElem_toArray, List.getElem_cons_succ, List.getElem_cons_zero]
                        go_simp
                        all_goals (try with_reducible rfl)
                      simp only [List.getElem_toArray, List.getElem_cons_succ, List.getElem_cons_zero, Act.put, List.setIfInBounds_toArray, List.set_cons_zero, List.set_cons_succ]
                      refine anyI_take (i := 9) (oi := _) (v := ?q1v10) rfl (by as_aux_lemma => kernel_rfl) (by as_aux_lemma => kernel_rfl) (by as_aux_lemma => kernel_rfl) rfl (fun _ _ _ h => h) (Or.inl ⟨by rfl, ?q1y10⟩) (by assumption) ?q1r10
                      case q1y10 =>
                        intro w' hSw
                        (try dsimp only at hSw)
                        go_split_ands
                        simp only [List.getElem_toArray, List.getElem_cons_succ, List.getElem_cons_zero]
                        go_simp
                        all_goals (try with_reducible rfl)
                      simp only [List.getElem_toArray, List.getElem_cons_succ, List.getElem_cons_zero, Act.put, List.setIfInBounds_toArray, List.set_cons_zero, List.set_cons_succ]
                      refine anyI_take (i := 10) (oi := _) (v := ?q1v11) rfl (by as_aux_lemma => kernel_rfl) (by as_aux_lemma => kernel_rfl) (by as_aux_lemma => kernel_rfl) rfl (fun _ _ _ h => h) (Or.inl ⟨by rfl, ?q1y11⟩) (by assumption) ?q1r11
                      case q1y11 =>
                        intro w' hSw
                        (try dsimp only at hSw)
                        go_split_ands
                        simp only [List.getElem_toArray, List.getElem_cons_succ, List.getElem_cons_zero]
                        go_simp
                        all_goals (try with_reducible rfl)
                      simp only [List.getElem_toArray, List.getElem_cons_succ, List.getElem_cons_zero, Act.put, List.setIfInBounds_toArray, List.set_cons_zero, List.set_cons_succ]
                      refine anyI_ready (rs := [11]) (by as_aux_lemma => kernel_rfl) (by simp) ?_
                      refine AllI.cons rfl rfl (fun K hK => ?_) AllI.nil
                      simp only [List.getElem_toArray, List.getElem_cons_succ, List.getElem_cons_zero]
                      go_simp
                      have hS7 := HS7.out
                      clear hHeld
                      refine hK.out _ _ hS7 (fun hHeld => ?_)
                      clear hK K
                      (try simp only [Act.put, List.setIfInBounds_toArray, List.set_cons_zero, List.set_cons_succ])
                      refine anyI_ready (rs := [12]) (by as_aux_lemma => kernel_rfl) (by simp) ?_
                      refine AllI.cons rfl rfl (fun K hK => ?_) AllI.nil
                      simp only [List.getElem_toArray, List.getElem_cons_succ, List.getElem_cons_zero]
                      rw [if_pos (by rfl)]
                      refine wp_append_lies _ (.tmp 161) (.tmp 166) 26 rfl (w.heap.size + 1) 3 i0 (.int .i64 0) 1 8 Tryz.underlying26 HI0.out hz0 hz1 hz2 rfl (by decide) _ _ _ (by simp [Act.eval]) HU7.out ⟨wr.heap.size, 0, none⟩ 1 1 ([x].map (Value.int .i64)) (by simp [Act.eval]) rfl (int_new _ _ _) (ints_one _) (by decide) (by have := HL22.out; unfold maxLen; omega) (by have := HL22.out; omega) (by have := HWL.out; simp; omega) _ rfl ?_; intro g9 c9 w9 hown9 hgrow9 hat9 _; obtain ⟨hS9, hf9, hF9⟩ := way_app HO7.out HA7.out HK7.out hgl HXI.out HLI.out HUI.out hown9 hgrow9 hat9; have HF := Lib.hid hF9; clear hF9 hown9 hgrow9 hat9
                      clear hHeld
                      refine hK.out _ _ hS9 (fun hHeld => ?_)
                      clear hK K
                      (try simp only [Act.put, List.setIfInBounds_toArray, List.set_cons_zero, List.set_cons_succ])
                      refine anyI_take (i := 13) (oi := _) (v := ?q1v14) rfl (by as_aux_lemma => kernel_rfl) (by as_aux_lemma => kernel_rfl) (by as_aux_lemma => kernel_rfl) rfl (fun _ _ _ h => h) (Or.inl ⟨by rfl, ?q1y14⟩) (by assumption) ?q1r14
                      case q1y14 =>
                        intro w' hSw
                        (try dsimp only at hSw)
                        go_split_ands
                        simp only [List.getElem_toArray, List.getElem_cons_succ, List.getElem_cons_zero]
                        go_simp
                        all_goals (try with_reducible rfl)
                      simp only [List.getElem_toArray, List.getElem_cons_succ, List.getElem_cons_zero, Act.put, List.setIfInBounds_toArray, List.set_cons_zero, List.set_cons_succ]
                      refine anyI_take (i := 14) (oi := _) (v := ?q1v15) rfl (by as_aux_lemma => kernel_rfl) (by as_aux_lemma => kernel_rfl) (by as_aux_lemma => kernel_rfl) rfl (fun _ _ _ h => h) (Or.inl ⟨by rfl, ?q1y15⟩) (by assumption) ?q1r15
                      case q1y15 =>
                        intro w' hSw
                        (try dsimp only at hSw)
                        go_split_ands
                        simp only [List.getElem_toArray, List.getElem_cons_succ, List.getElem_cons_zero]
                        go_simp
                        all_goals (try with_reducible rfl)
                      simp only [List.getElem_toArray, List.getElem_cons_succ, List.getElem_cons_zero, Act.put, List.setIfInBounds_toArray, List.set_cons_zero, List.set_cons_succ]
                      refine anyI_last (by as_aux_lemma => kernel_rfl) (by as_aux_lemma => kernel_rfl) rfl (fun K hK => ?_)
                      simp only [List.getElem_toArray, List.getElem_cons_succ, List.getElem_cons_zero]
                      go_simp
                      refine hK.out _ _ ?_
                      clear hK K
                      (try simp only [Act.put, List.setIfInBounds_toArray, List.set_cons_zero, List.set_cons_succ])
                      go_wp2_with fail
                      go_roundw
                      case rel => exact ⟨i + 1, _, by omega, by go_num, HF.out.a, HF.out.b, HF.out.c⟩
                      case measure => simp [intOf]; omega
                    · obtain rfl : i = Now.length := by omega
                      have hnl : ¬ (Now.length : Int) < (Now.length : Int) := by omega
                      have HO1 := Lib.hid hown
                      have HA1 := Lib.hid hall
                      have HK1 := Lib.hid hwk
                      clear hown hall hwk
                      go_wp2_with fail
                      go_roundw
                      case rel => exact ⟨tt + 1, _, us2, growL Ls Next Now.length, by omega, by go_num, rfl, Lib.hid (by
                        have h := walk_next HWD.out (X := Next) (by rw [HN.out]; exact HNX.out) (by rw [HXL.out]; exact HNL.out)
                        rwa [HSL.out] at h), HO1.out, (by
                        have h := grow_col_new HWD.out (X := Next) (by rw [HXL.out]; exact HNL.out)
                        rw [HSL.out] at h
                        rw [h]
                        exact HA1.out), HK1.out⟩
                      case measure => simp [intOf]; omega
        · obtain rfl : tt = T := by omega
          have hnl : ¬ (tt : Int) < (tt : Int) := by omega
          have HO1 := Lib.hid hown
          have HA1 := Lib.hid hall
          have HK1 := Lib.hid hwk
          clear hown hall hwk
          go_wp2_with fail
          go_ret
          exact ⟨Ls, _, us, rfl, HWD.out, ⟨by
            have hl : us.length = S.length := by rw [HA1.out.tail.len]; exact HWD.out.len
            rw [hl]
            exact HO1.out, HA1.out.tail⟩, HK1.out.cur, HK1.out.turn⟩

end Go.Proofs.YtkbfbifepaoojaaGreatDoor

