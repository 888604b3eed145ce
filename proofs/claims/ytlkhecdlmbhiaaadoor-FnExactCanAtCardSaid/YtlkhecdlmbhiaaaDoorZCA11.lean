/-
  CONTRACT of the program's gridRow.free. No law is proved here.
  CONTRACT of the program's FreeAt. No law is proved here.
  CONTRACT of the program's allFree. No law is proved here.
  CONTRACTS of the laws' own helpers toIntS, and of arguments that are slices of ints. No law is proved here.
  Plain lemmas: an argument that is a slice of ints, opened, and read again after the call. No law is proved here.
  CONTRACT of the program's GridOk. No law is proved here.
  CONTRACT of the program's cellsWith at an invalid map, and plain lemmas. No law is proved here.
  CONTRACTS of the program's cellsWith at gridRow.free and of its FreeCells. No law is proved here.
  Rows of numbers and of Booleans, in memory. Plain facts; no statement is proved here.
-/
import Derived.Test.YtlkhecdlmbhiaaaDoorZCA05
import Derived.Test.YtlkhecdlmbhiaaaDoorZCA10
import Derived.Test.YtlkhecdlmbhiaaaDoorZCA00
import Derived.Test.YtlkhecdlmbhiaaaDoorZCA09
import Derived.Test.YtlkhecdlmbhiaaaDoorZCA06
import Derived.Test.YtlkhecdlmbhiaaaDoorZCA07
import Derived.Deep.QuietTactic
import Derived.BigQuiet
import Derived.Test.YtlkhecdlmbhiaaaDoorZCA08
namespace Go.Proofs.YtlkhecdlmbhiaaaDoor
set_option maxRecDepth 4096
open Go.ChangeShapes Go.WideShapes Go.ChangeAt Go.RowKit

theorem freeI (r : ByteArray) (x : Int) (n : Nat) (e : x = n) (h : n < r.size) (w : World) :
    Calls Tryd.prog 42 #[.string r, .int .i64 x] w fun e w' => e = .returned (.bool (freeB (byteAt r n))) ∧ w = w' := by
  subst e
  have hat := run_at (P := Tryd.prog) 84 r .i64 n n rfl h Tryd.underlying84
  go_enter Tryd.func42, Tryd.ntmps42
  go_wp2
  go_ret
  exact ⟨bool_ret (c := freeB (byteAt r n)) rfl (by unfold freeB; simp [bne, Bool.beq_eq_decide_eq]), rfl⟩

theorem freeTo (r : ByteArray) (x : Int) (n : Nat) (b : Bool) (hb : Hid (freeB (byteAt r n) = b)) (e : x = n) (h : n < r.size) (w : World) :
    Calls Tryd.prog 42 #[.string r, .int .i64 x] w fun e w' => e = .returned (.bool b) ∧ w = w' := by
  rw [← hb.out]
  exact freeI r x n e h w

end Go.Proofs.YtlkhecdlmbhiaaaDoor

namespace Go.Proofs.YtlkhecdlmbhiaaaDoor
set_option maxRecDepth 4096
open Go.ChangeShapes Go.WideShapes Go.ChangeAt Go.RowKit

set_option maxHeartbeats 400000 in
theorem implFreeAt (W H : Int) (C : ByteArray) (c : Int) (hC : C.size ≤ 1048576) (w : World) :
    Calls Tryd.prog 86 #[.agg #[.int .i64 W, .int .i64 H, .string C], .int .i64 c] w (Made w (.bool (freeV W H C c))) := by
  have hB := Below.refl (w.alloc (.cells #[.int .i64 W, .int .i64 H, .string C] 25)).heap.size (w.alloc (.cells #[.int .i64 W, .int .i64 H, .string C] 25))
  by_cases h : cellOk W H C c = true
  · obtain ⟨hg, n, rfl, hn⟩ := cellOk_out h
    obtain ⟨r, m, hm, hby, HW⟩ := rowWith_at hC hg hn
    have HF : Hid (freeB (byteAt r m) = freeV W H C n) := Lib.hid (by rw [hby, freeV_at hg hn])
    have HWW := Lib.hid HW
    clear h hg hby HW
    go_enter Tryd.func86, Tryd.ntmps86
    go_wp2_with (first
      | (go_at_call 96; (with_reducible refine (HWW.out _).mono ?_); rintro e w1 ⟨rfl, hb⟩; replace hB := chain hB hb; clear hb)
      | (go_at_call 42; (with_reducible refine (freeI _ _ m rfl hm _).mono ?_); rintro e w2 ⟨rfl, rfl⟩))
    go_ret
    exact ⟨bool_ret HF.out rfl, box_below hB⟩
  · have HF : Hid (false = freeV W H C c) := Lib.hid (by unfold freeV; simp [h])
    go_enter Tryd.func86, Tryd.ntmps86
    go_wp2_with (go_at_call 96; (with_reducible refine (rowWith_no W H C c hC h _).mono ?_); rintro e w1 ⟨rfl, hb⟩; replace hB := chain hB hb; clear hb)
    go_ret
    exact ⟨bool_ret HF.out rfl, box_below hB⟩

end Go.Proofs.YtlkhecdlmbhiaaaDoor

namespace Go.Proofs.YtlkhecdlmbhiaaaDoor
set_option maxRecDepth 4096
open Go.ChangeShapes Go.WideShapes Go.ChangeAt Go.RowKit

theorem all_take {p : Int → Bool} {L : List Int} {k : Nat} {x : Int} (h : (L.take k).all p = true) (hx : L[k]? = some x) (hp : p x = true) : (L.take (k + 1)).all p = true := by
  obtain ⟨hi, rfl⟩ := List.getElem?_eq_some_iff.1 hx
  rw [List.take_succ_eq_append_getElem hi, List.all_append, h]
  simp [hp]
theorem all_not {p : Int → Bool} {L : List Int} {k : Nat} {x : Int} (hx : L[k]? = some x) (hp : p x = false) : L.all p = false := by
  rw [List.all_eq_false]
  exact ⟨x, List.mem_of_getElem? hx, by simp [hp]⟩

set_option maxHeartbeats 1000000 in
theorem allFreeI (W H : Int) (C : ByteArray) (L : List Int) (b : Bool) (v : Value) (hC : C.size ≤ 1048576) (hL : L.length ≤ 2000000) (HB : Hid (L.all (freeV W H C) = b)) (w : World) (hv : Ints w v L) :
    Calls Tryd.prog 60 #[.agg #[.int .i64 W, .int .i64 H, .string C], v] w (Made w (.bool b)) := by
  have hB := Below.refl (w.alloc (.cells #[.int .i64 W, .int .i64 H, .string C] 25)).heap.size (w.alloc (.cells #[.int .i64 W, .int .i64 H, .string C] 25))
  obtain ⟨av, cv, rfl, HV⟩ := ints_form hv
  have HVh := Lib.hid HV
  clear HV hv
  go_enter Tryd.func60, Tryd.ntmps60
  go_wp2_with fail
  go_loopw [9] (fun i wr => ∃ k : Nat, k ≤ L.length ∧ i = .int .i64 k ∧ Hid ((L.take k).all (freeV W H C) = true) ∧ Below (w.alloc (.cells #[.int .i64 W, .int .i64 H, .string C] 25)).heap.size (w.alloc (.cells #[.int .i64 W, .int .i64 H, .string C] 25)) wr) (fun i _ => L.length - (intOf i).toNat)
  case atStart => exact ⟨0, Nat.zero_le _, rfl, Lib.hid rfl, hB⟩
  case round =>
    clear hB
    obtain ⟨k, hk, rfl, HK, hB⟩ := hrel
    obtain ⟨c0, c1, c2⟩ := box_cells hB
    by_cases hlt : k < L.length
    · obtain ⟨x, hx⟩ : ∃ x, L[k]? = some x := ⟨_, List.getElem?_eq_getElem hlt⟩
      rcases HVh.out with h0 | ⟨g, rfl, hgl, hc⟩
      · omega
      · have d0 : wr.cell? ⟨g, k, none⟩ = some (.int .i64 x) := ((box_below hB).cell (p := ⟨g, k, none⟩) hgl).trans (hc k x hx)
        have HX := Lib.hid hx
        have hlt2 : (k : Int) < (L.length : Int) := by omega
        clear hx hc
        cases hf : freeV W H C x with
        | true =>
          have HF := Lib.hid hf
          clear hf
          go_wp2_with fail
          refine (implFreeAt W H C x hC _).mono ?_
          rintro e w5 ⟨rfl, hb⟩
          rw [HF.out]
          replace hB := chain hB hb
          clear d0 hb c0 c1 c2
          go_wp2_with fail
          go_roundw
          case rel => exact ⟨k + 1, by omega, by go_num, Lib.hid (all_take HK.out HX.out HF.out), hB⟩
          case measure => simp [intOf]; omega
        | false =>
          have HF := Lib.hid hf
          have e : b = false := by rw [← HB.out]; exact all_not HX.out hf
          subst e
          clear hf
          go_wp2_with fail
          refine (implFreeAt W H C x hC _).mono ?_
          rintro e w5 ⟨rfl, hb⟩
          rw [HF.out]
          replace hB := chain hB hb
          clear d0 hb c0 c1 c2
          go_wp2_with fail
          go_ret
          exact ⟨rfl, box_below hB⟩
    · obtain rfl : k = L.length := by omega
      have e : b = true := by rw [← HB.out, ← HK.out, List.take_length]
      subst e
      go_wp2_with fail
      go_ret
      exact ⟨rfl, box_below hB⟩

end Go.Proofs.YtlkhecdlmbhiaaaDoor

namespace Go.Proofs.YtlkhecdlmbhiaaaDoor
set_option maxRecDepth 4096
open Go.ChangeShapes Go.WideShapes Go.ChangeAt Go.RowKit

set_option maxHeartbeats 400000 in
theorem toInts (v : Value) (L : List Int) (w : World) (hv : ArgI w v L) (hL : L.length ≤ 2000000) :
    Calls Tryd.prog 18 #[v] w (IntsBack w L) := by
  obtain ⟨i0, hi, hz0, hz1, hz2⟩ := info_parts Tryd.info3
  obtain ⟨av, cv, rfl, HV⟩ := hv
  have HVh := Lib.hid HV
  clear HV
  go_enter Tryd.func18, Tryd.ntmps18
  go_wp2_with (at_make; refine wpList_make_full w rfl _ _ 26 rfl w.heap.size 3 i0 (.int .i64 0) 1 Tryd.underlying26 hi hz0 hz1 .i64 .i64 (L.length : Int) (L.length : Int) L.length rfl rfl rfl rfl (by rw [hz2]; omega) (by unfold maxLen; omega) (Nat.le_refl _) ?_; intro w1 hown0 hgrow0)
  generalize (madeCells (Value.int .i64 0).cells (L.length * 1)).toList = xs at hown0
  have hxl : xs.length = L.length := by have := hown0.1; omega
  have hb0 := (Below.refl w.heap.size w).grown hgrow0 (Nat.le_refl _) (by simp)
  have hgl := (hown0.lt w.heap.size rfl).2
  clear hgrow0
  go_loopw [4] (fun i wr => ∃ k : Nat, k ≤ L.length ∧ i = .int .i64 k ∧ wr.ownsRow w.heap.size 3 1 (.slice (some ⟨w.heap.size, 0, none⟩) L.length L.length) L.length ((L.take k).map (Value.int .i64) ++ xs.drop k) ∧ Below w.heap.size w wr) (fun i _ => L.length - (intOf i).toNat)
  case atStart => exact ⟨0, Nat.zero_le _, rfl, by simpa using hown0, hb0⟩
  case round =>
    clear hown0
    obtain ⟨k, hk, rfl, hown, hbe⟩ := hrel
    by_cases hlt : k < L.length
    · obtain ⟨x, hx⟩ : ∃ x, L[k]? = some x := ⟨_, List.getElem?_eq_getElem hlt⟩
      rcases HVh.out with h0 | ⟨b, rfl, hg, hc⟩
      · omega
      · have hbl : (b.add k).block = b.block := by unfold Addr.add; split <;> rfl
        have d0 : wr.cell? (b.add k) = some (.int .i64 x) := (hbe.cell (p := b.add k) (by rw [hbl]; exact hg)).trans (hc k x hx)
        have HST := Lib.hid (ints_set_at L k x xs hx (by omega))
        have hk2 : (k : Int) < (L.length : Int) := by omega
        obtain ⟨u, d1⟩ := own_cell hown hlt
        have d2 := hown.frozenAt k
        clear hx hc hbl
        go_wp2
        go_roundw
        case rel => exact ⟨k + 1, by omega, by go_num, by rw [← HST.out]; exact (hown.stored k _).1, hbe.setCell (Nat.le_refl _) _⟩
        case measure => simp [intOf]; omega
    · obtain rfl : k = L.length := by omega
      go_wp2
      go_ret
      exact ⟨_, rfl, by rw [List.take_length, List.drop_of_length_le (by omega), List.append_nil] at hown; exact hown, hbe⟩

end Go.Proofs.YtlkhecdlmbhiaaaDoor

namespace Go.Proofs.YtlkhecdlmbhiaaaDoor
set_option maxRecDepth 4096
open Go.ChangeShapes Go.WideShapes Go.ChangeAt Go.RowKit

section
variable {H : Type} {enc : TypeId × Value → H}

/-- The argument is read again as it was, whatever a call made behind it. -/
def AgainI (enc : TypeId × Value → H) (w : World) (v : Value) (d : DataW H) (ps : List MemPlace) : Prop :=
  ∀ (w1 : World), Below w.heap.size w w1 → ∀ sp : Nat → Bool, (∀ p ∈ ps, sp p.block = true) → DataW.Trod enc Tryd.prog w1 0 sp true 26 v d ps

theorem open_arg_ints {w : World} {r : Reach} {b0 : Nat} {v : Value} {d : DataW H} {ps : List MemPlace} (hv : Value.okWide Tryd.prog w r b0 26 v) (h : DataW.Trod enc Tryd.prog w 0 (fun _ => true) true 26 v d ps) :
    ∃ L, ArgI w v L ∧ L.length ≤ maxLen ∧ AgainI enc w v d ps := by
  obtain ⟨a0, len0, cap0, rfl⟩ := okWide_slice Tryd.underlying26 hv
  obtain ⟨fuel, hf⟩ := h
  rcases open_ints Tryd.underlying26 Tryd.underlying3 (by kernel_rfl) hf with ⟨hcs, hx⟩ | ⟨a, len, cap, zs, hcs, _, hl, hm, hz, hx, hcell, hwz⟩
  · simp [Value.cells] at hcs
    obtain ⟨rfl, rfl, rfl⟩ := hcs
    obtain ⟨rfl, rfl⟩ := Prod.mk.inj hx
    exact ⟨[], ⟨none, 0, rfl, .inl rfl⟩, Nat.zero_le _, fun w1 _ sp _ => shut_slice_nil Tryd.underlying26⟩
  · simp [Value.cells] at hcs
    obtain ⟨rfl, rfl, rfl⟩ := hcs
    obtain ⟨rfl, rfl⟩ := Prod.mk.inj hx
    simp only [if_true] at hz
    have hbl : ∀ i, (a.add i).block = a.block := fun i => by unfold Addr.add; split <;> rfl
    have hlt : ∀ i, i < zs.length → a.block < w.heap.size := fun i hi => by have := block_lt_of_cell (hcell i hi); rwa [hbl] at this
    refine ⟨zs.take len0, ⟨some a, cap0, by rw [List.length_take, Nat.min_eq_left (by omega)], ?_⟩, by rw [List.length_take]; omega, fun w1 hb sp hsp => ?_⟩
    · by_cases h0 : len0 = 0
      · left; rw [List.length_take]; omega
      · refine .inr ⟨a, rfl, hlt 0 (by omega), fun j x hx => ?_⟩
        rw [List.getElem?_take] at hx
        split at hx
        · rw [hcell j (by omega)]
          simp [List.getD, hx]
        · cases hx
    · by_cases hc0 : cap0 = 0
      · exact ⟨2, shut_ints 0 Tryd.underlying26 Tryd.underlying3 (by kernel_rfl) (Nat.zero_le _) hl hm (by split <;> omega) (fun i hi => by omega) hwz⟩
      · have hs : sp a.block = true := by
          have hin : MemPlace.cell a.block a.off ∈ MemPlace.row a zs.length := MemPlace.mem_row.2 ⟨0, by omega, rfl⟩
          exact hsp _ hin
        exact ⟨2, shut_ints 0 Tryd.underlying26 Tryd.underlying3 (by kernel_rfl) (Nat.zero_le _) hl hm (by rw [if_pos hs]; exact hz) (fun i hi => (hb.cell (p := a.add i) (by rw [hbl]; exact hlt i hi)).trans (hcell i hi)) hwz⟩
end

end Go.Proofs.YtlkhecdlmbhiaaaDoor

namespace Go.Proofs.YtlkhecdlmbhiaaaDoor
set_option maxRecDepth 4096
open Go.ChangeShapes Go.WideShapes Go.ChangeAt Go.RowKit

theorem implGridOk (W H : Int) (C : ByteArray) (hC : C.size ≤ 1048576) (w : World) :
    Calls Tryd.prog 59 #[.agg #[.int .i64 W, .int .i64 H, .string C]] w (Made w (.bool (gok W H C))) := by
  go_enter Tryd.func59, Tryd.ntmps59
  go_wp2_with (first
    | (go_at_call 71; (with_reducible refine (rowsOf W H C hC _).mono ?_); rintro e w' ⟨rfl, hb⟩)
    | (refine wpStoreRows W H C _ _ rfl rfl rfl rfl ?_))
  go_ret
  exact ⟨rfl, (((Below.refl _ _).alloc (Nat.le_refl _) _).trans (hb.mono (by simp))).trans ((rows_in _ _).1.mono (by have := hb.size; simp at this; omega))⟩

end Go.Proofs.YtlkhecdlmbhiaaaDoor

namespace Go.Proofs.YtlkhecdlmbhiaaaDoor
set_option maxRecDepth 4096
open Go.ChangeShapes Go.WideShapes Go.ChangeAt Go.RowKit

theorem left_quiet {P : Program} {f : FuncId} {args : Array Value} {w : World} {n : Nat} {v : Value} (h : Calls P f args (w.drewN n) fun e w' => e = .returned v ∧ w.drewN n = w') :
    Calls P f args (w.drewN n) fun e w'' => e = .returned v ∧ ∃ m, w'' = w.drewN m :=
  h.mono fun _ _ ⟨he, hm⟩ => ⟨he, n, hm.symm⟩
theorem own_drewN {w : World} {B : Nat} {e : TypeId} {s n : Nat} {v : Value} {xs : List Value} (h : w.ownsRow B e s v n xs) (m : Nat) : (w.drewN m).ownsRow B e s v n xs := h
theorem ints_nil (w : World) : IntsBack w [] (.returned (.slice none 0 0)) w := ⟨_, rfl, ⟨rfl, .inl ⟨rfl, rfl⟩⟩, Below.refl _ _⟩
theorem picks_none {p : Nat → Bool} {k : Nat} (h : ∀ n, p n = false) : picks p k = [] := by
  simp [picks, h]
theorem gok_few {W H : Int} {C : ByteArray} (hg : gok W H C = true) : C.size ≤ 64 := by
  obtain ⟨⟨⟨h1, h2⟩, ⟨h3, h4⟩, hs⟩, _⟩ := gok_out hg
  have := mul_bd h1 h2 h3 h4
  omega

theorem with_no (W H : Int) (C : ByteArray) (f : Value) (hC : C.size ≤ 1048576) (hg : gok W H C = false) (w : World) :
    Calls Tryd.prog 41 #[.agg #[.int .i64 W, .int .i64 H, .string C], f] w (IntsBack w []) := by
  have hB := Below.refl (w.alloc (.cells #[.int .i64 W, .int .i64 H, .string C] 25)).heap.size (w.alloc (.cells #[.int .i64 W, .int .i64 H, .string C] 25))
  go_enter Tryd.func41, Tryd.ntmps41
  go_wp2_with (first
    | (go_at_call 71; (with_reducible refine (rowsOf W H C hC _).mono ?_); rintro e w1 ⟨rfl, hb⟩; replace hB := chain hB hb; clear hb)
    | (refine wpStoreRows W H C _ _ rfl rfl rfl rfl ?_; replace hB := chain hB (rows_in w1 (rowsR W H C)).1))
  go_ret
  exact ⟨_, rfl, ⟨rfl, .inl ⟨rfl, rfl⟩⟩, box_below hB⟩

theorem ints_under {w w0 w' : World} {L : List Int} {e : Ending} (h : IntsBack w0 L e w') (hb : Below w.heap.size w w0) : IntsBack w L e w' := by
  obtain ⟨v, he, ho, h2⟩ := h
  exact ⟨v, he, own_base ho hb.size, hb.trans (h2.mono hb.size)⟩
theorem ints_out {w w' : World} {L : List Int} {e : Ending} (h : IntsBack w L e w') : ∃ v, e = .returned v ∧ IntsBack w L (.returned v) w' := by
  obtain ⟨v, rfl, h⟩ := h
  exact ⟨v, rfl, v, rfl, h⟩

end Go.Proofs.YtlkhecdlmbhiaaaDoor

namespace Go.Proofs.YtlkhecdlmbhiaaaDoor
set_option maxRecDepth 4096
open Go.ChangeShapes Go.WideShapes Go.ChangeAt Go.RowKit

theorem freeL_no {W H : Int} {C : ByteArray} (hg : ¬ gok W H C = true) : freeL W H C = [] :=
  picks_none fun n => by unfold freeP freeV cellOk; simp [hg]
theorem freeP_at {W H : Int} {C : ByteArray} {n : Nat} {b : Bool} (hg : gok W H C = true) (hn : n < C.size) (h : freeP W H C n = b) : freeB (byteAt C n) = b := by
  rw [← h]
  unfold freeP
  exact (freeV_at hg hn).symm

set_option maxHeartbeats 1000000 in
theorem withFree (W H : Int) (C : ByteArray) (p : Nat → Bool) (L : List Int) (hC : C.size ≤ 1048576) (hg : gok W H C = true) (HPB : Hid (∀ n b, n < C.size → p n = b → freeB (byteAt C n) = b)) (HL : Hid (picks p (min C.size 64) = L)) (w : World) :
    Calls Tryd.prog 41 #[.agg #[.int .i64 W, .int .i64 H, .string C], .func (.func 42) #[] #[]] w (IntsBack w L) := by
  obtain ⟨i0, hi, hz0, hz1, hz2⟩ := info_parts Tryd.info3
  have hfew := gok_few hg
  have hB := Below.refl (w.alloc (.cells #[.int .i64 W, .int .i64 H, .string C] 25)).heap.size (w.alloc (.cells #[.int .i64 W, .int .i64 H, .string C] 25))
  go_enter Tryd.func41, Tryd.ntmps41
  go_wp2_with (first
    | (go_at_call 71; (with_reducible refine (rowsOf W H C hC _).mono ?_); rintro e w1 ⟨rfl, hb⟩; replace hB := chain hB hb; have hs1 := box_size hB; clear hb)
    | (refine wpStoreRows W H C _ _ rfl rfl rfl rfl ?_; have hR := (rows_in w1 (rowsR W H C)).2; replace hB := chain hB (rows_in w1 (rowsR W H C)).1; have hs2 := rowsW2_size w1 (rowsR W H C); obtain ⟨c0, c1, c2⟩ := box_cells hB))
  clear c0 c1 c2
  generalize rowsW2 w1 (rowsR W H C) = wS at hR hB hs2 ⊢
  generalize w1.heap.size = G at hR hs1 hs2 ⊢
  have HR := Lib.hid hR
  have HG := Lib.hid hg
  have hs3 : w.heap.size + 1 ≤ wS.heap.size := by omega
  have hs4 : G < wS.heap.size := by omega
  clear hR hg hs2
  go_loopw [7, 19] (fun v i wr => ∃ k : Nat, k ≤ C.size ∧ i = .int .i64 k ∧ wr.ownsRow wS.heap.size 3 1 v (picks p k).length ((picks p k).map (Value.int .i64)) ∧ Below wS.heap.size wS wr) (fun _ i _ => C.size - (intOf i).toNat)
  case atStart => exact ⟨0, Nat.zero_le _, rfl, ⟨rfl, .inl ⟨rfl, rfl⟩⟩, Below.refl _ _⟩
  case round =>
    obtain ⟨k, hk, rfl, hown, hbe⟩ := hrel
    have hbs := hbe.size
    by_cases hlt : k < C.size
    · obtain ⟨c0, c1, c2⟩ := box_cells (chain hB hbe)
      obtain ⟨a, b, q, m, rfl, rfl, ha1, ha2, hb8, hq, hm, hd, he, hms, hby, hr⟩ := place HG.out hlt
      have d1 : wr.cell? ⟨G, q, none⟩ = some (.string (rowT C a q)) := (hbe.cell (p := ⟨G, q, none⟩) hs4).trans (cell_rows HR.out (Lib.hid rfl) (Lib.hid hr))
      have e3 : IntKind.i64.wrap (q : Int) = (q : Int) := IntWalk.i64_in _ (by omega)
      have hl := picks_len p k
      have HB := Lib.hid hby
      clear hby hr
      by_cases hp : p k = true
      · have HP : Hid (picks p (k + 1) = picks p k ++ [(k : Int)]) := Lib.hid (picks_yes hp)
        have HPT : Hid (freeB (byteAt (rowT C a q) m) = true) := Lib.hid (by rw [HB.out]; exact HPB.out _ _ hlt hp)
        clear hp
        go_wp2
        go_quiet ((go_at_call 42; exact left_quiet (freeTo _ _ m _ HPT rfl hms _)))
        clear d1 e3 hd he
        go_wp2_with (at_builtin; go_loud (refine wpList_append_own _ rfl _ _ 26 rfl wS.heap.size 3 i0 (.int .i64 0) 1 8 Tryd.underlying26 hi hz0 hz1 hz2 rfl (by decide) _ _ _ rfl ((own_drewN hown _).alloc _) ⟨wr.heap.size, 0, none⟩ 1 1 ([(k : Int)].map (Value.int .i64)) rfl rfl (int_new _ _ _) (ints_one _) (by unfold maxLen; omega) (by omega) (by simp; omega) ?_); intro v' w2 hown2 hgrow _; have hbe2 := ((below_drewN hbe _).alloc (by simpa using hbs) _).grown hgrow (by simp; omega) (fun j hj => (hown.lt j hj).1); clear hgrow)
        go_roundw
        case rel => exact ⟨k + 1, by omega, by go_num, ints_push hown2 HP.out, hbe2⟩
        case measure => simp [intOf]; omega
      · have hp2 : p k = false := by simpa using hp
        have HP : Hid (picks p (k + 1) = picks p k) := Lib.hid (picks_no hp2)
        have HPT : Hid (freeB (byteAt (rowT C a q) m) = false) := Lib.hid (by rw [HB.out]; exact HPB.out _ _ hlt hp2)
        clear hp hp2
        go_wp2
        go_quiet ((go_at_call 42; exact left_quiet (freeTo _ _ m _ HPT rfl hms _)))
        clear d1 e3 hd he
        go_wp2
        go_roundw
        case rel => exact ⟨k + 1, by omega, by go_num, by rw [HP.out]; exact own_drewN hown _, below_drewN hbe _⟩
        case measure => simp [intOf]; omega
    · obtain rfl : k = C.size := by omega
      have HE : Hid (picks p C.size = L) := Lib.hid (by rw [← HL.out]; congr 1; omega)
      go_wp2
      go_ret
      exact ⟨_, rfl, by rw [← HE.out]; exact own_base hown (by omega), box_below (chain hB hbe)⟩

theorem withFreeAny (W H : Int) (C : ByteArray) (L : List Int) (hC : C.size ≤ 1048576) (HL : Hid (freeL W H C = L)) (w : World) :
    Calls Tryd.prog 41 #[.agg #[.int .i64 W, .int .i64 H, .string C], .func (.func 42) #[] #[]] w (IntsBack w L) := by
  by_cases hg : gok W H C = true
  · exact withFree W H C (freeP W H C) L hC hg (Lib.hid fun n b hn h => freeP_at hg hn h) HL w
  · have : L = [] := HL.out.symm.trans (freeL_no hg)
    subst this
    exact with_no W H C _ hC (by simpa using hg) w

theorem implFreeCells (W H : Int) (C : ByteArray) (L : List Int) (hC : C.size ≤ 1048576) (HL : Hid (freeL W H C = L)) (w : World) :
    Calls Tryd.prog 11 #[.agg #[.int .i64 W, .int .i64 H, .string C]] w (IntsBack w L) := by
  go_enter Tryd.func11, Tryd.ntmps11
  go_wp2_with (go_at_call 41; (with_reducible refine (withFreeAny W H C L hC HL _).mono ?_); intro e w1 h1; obtain ⟨v, rfl, h2⟩ := ints_out h1)
  go_ret
  exact ints_under h2 ((Below.refl _ _).alloc (Nat.le_refl _) _)

end Go.Proofs.YtlkhecdlmbhiaaaDoor

namespace Go.Proofs.YtlkhecdlmbhiaaaDoor
set_option maxRecDepth 4096
open Go.ChangeShapes Go.WideShapes Go.ChangeAt Go.RowKit

/-- A row of numbers. -/
def rowO (o : Nat → Int) (n : Nat) : List Int := (List.range n).map o
theorem rowO_len (o : Nat → Int) (n : Nat) : (rowO o n).length = n := by simp [rowO]
theorem rowO_succ (o : Nat → Int) (n : Nat) : rowO o (n + 1) = rowO o n ++ [o n] := by simp [rowO, List.range_succ]
theorem rowO_at (o : Nat → Int) {n c : Nat} (h : c < n) : (rowO o n)[c]? = some (o c) := by simp [rowO, h]

theorem ints_on {w w1 : World} {v : Value} {L : List Int} (h : Ints w v L) (hb : Below w.heap.size w w1) : Ints w1 v L := by
  rcases h with h | ⟨g, c, rfl, hg, hc⟩
  · exact .inl h
  · exact .inr ⟨g, c, rfl, Nat.lt_of_lt_of_le hg hb.size, fun j x hx => (hb.cell (p := ⟨g, j, none⟩) hg).trans (hc j x hx)⟩
theorem own_num {w : World} {B : Nat} {e : TypeId} {g n cap c : Nat} {o : Nat → Int} (h : w.ownsRow B e 1 (.slice (some ⟨g, 0, none⟩) n cap) n ((rowO o n).map (Value.int .i64))) (hc : c < n) : w.cell? ⟨g, c, none⟩ = some (.int .i64 (o c)) := by
  have := h.cells (g := g) rfl c (.int .i64 (o c)) (by rw [List.getElem?_map, rowO_at o hc]; rfl)
  have hadd : (⟨g, 0, none⟩ : Addr).add c = ⟨g, c, none⟩ := by unfold Addr.add; split <;> simp_all
  rwa [hadd] at this
theorem own_int {w : World} {B : Nat} {e : TypeId} {g n cap j : Nat} {L : List Int} {x : Int} (h : w.ownsRow B e 1 (.slice (some ⟨g, 0, none⟩) n cap) n (L.map (Value.int .i64))) (hx : L[j]? = some x) : w.cell? ⟨g, j, none⟩ = some (.int .i64 x) := by
  have := h.cells (g := g) rfl j (.int .i64 x) (by rw [List.getElem?_map, hx]; rfl)
  have hadd : (⟨g, 0, none⟩ : Addr).add j = ⟨g, j, none⟩ := by unfold Addr.add; split <;> simp_all
  rwa [hadd] at this
/-- A row of Booleans. -/
def rowB (o : Nat → Bool) (n : Nat) : List Value := (List.range n).map fun j => .bool (o j)
theorem rowB_len (o : Nat → Bool) (n : Nat) : (rowB o n).length = n := by simp [rowB]
theorem rowB_at (o : Nat → Bool) {n c : Nat} (h : c < n) : (rowB o n)[c]? = some (.bool (o c)) := by simp [rowB, h]
theorem rowB_eq {o o' : Nat → Bool} {n : Nat} (h : ∀ j, o j = o' j) : rowB o n = rowB o' n := by
  have : o = o' := funext h
  rw [this]
theorem rowB_none (n : Nat) : List.replicate n (Value.bool false) = rowB (fun _ => false) n := by
  unfold rowB
  rw [List.map_const', List.length_range]
theorem rowB_set {o o' : Nat → Bool} {n c : Nat} (h : ∀ j, o' j = (o j || decide (j = c))) : (rowB o n).set c (.bool true) = rowB o' n := by
  apply List.ext_getElem?
  intro j
  rw [List.getElem?_set]
  by_cases hj : j < n
  · rw [rowB_at _ hj, rowB_at _ hj, h]
    by_cases e : c = j
    · subst e
      rw [if_pos rfl, if_pos (by rw [rowB_len]; exact hj)]
      simp
    · rw [if_neg e]
      have : ¬ j = c := fun k => e k.symm
      simp [this]
  · have h1 : ∀ o : Nat → Bool, (rowB o n)[j]? = none := fun o => List.getElem?_eq_none_iff.2 (by rw [rowB_len]; omega)
    rw [h1, h1]
    split
    · rw [if_neg (by rw [rowB_len]; omega)]
    · rfl

theorem rowO_put {o o' : Nat → Int} {n c : Nat} {x : Int} (hx : o' c = x) (h : ∀ j, j ≠ c → o' j = o j) : ((rowO o n).map (Value.int .i64)).set c (.int .i64 x) = (rowO o' n).map (Value.int .i64) := by
  apply List.ext_getElem?
  intro j
  rw [List.getElem?_set, List.getElem?_map, List.getElem?_map]
  by_cases hj : j < n
  · rw [rowO_at _ hj, rowO_at _ hj]
    by_cases e : c = j
    · subst e
      rw [if_pos rfl, if_pos (by simpa [rowO_len] using hj), hx]
      rfl
    · rw [if_neg e, h j (fun k => e k.symm)]
  · have h1 : ∀ o : Nat → Int, (rowO o n)[j]? = none := fun o => List.getElem?_eq_none_iff.2 (by rw [rowO_len]; omega)
    rw [h1, h1]
    split
    · rw [if_neg (by simp [rowO_len]; omega)]; rfl
    · rfl
theorem rowO_const0 (x : Int) (n : Nat) : List.replicate n (Value.int .i64 x) = (rowO (fun _ => x) n).map (Value.int .i64) := by
  unfold rowO
  rw [List.map_const', List.length_range, List.map_replicate]
theorem rowO_same {o o' : Nat → Int} {n : Nat} (h : ∀ c, c < n → o c = o' c) : rowO o n = rowO o' n := List.map_congr_left fun c hc => h c (List.mem_range.1 hc)
theorem own_bool {w : World} {B : Nat} {e : TypeId} {g n cap c : Nat} {o : Nat → Bool} (h : w.ownsRow B e 1 (.slice (some ⟨g, 0, none⟩) n cap) n (rowB o n)) (hc : c < n) : w.cell? ⟨g, c, none⟩ = some (.bool (o c)) := by
  have := h.cells (g := g) rfl c (.bool (o c)) (rowB_at o hc)
  have hadd : (⟨g, 0, none⟩ : Addr).add c = ⟨g, c, none⟩ := by unfold Addr.add; split <;> simp_all
  rwa [hadd] at this

end Go.Proofs.YtlkhecdlmbhiaaaDoor

