/-
  THE LAW FnHomes: cells of a drawn map are of one component exactly if there are steps between them; the components' counts add up; a list is enough for itself and for none. A tied card: where the listed variable holds what its initialiser laid.
-/
import Derived.Test.YtieipekhckambaaDoorDrawSome
import Derived.Test.YtieipekhckambaaDoorArgBytes
import Derived.Test.YtieipekhckambaaDoorHomeSum
import Derived.Test.YtieipekhckambaaDoorHomesI
import Derived.Test.YtieipekhckambaaDoorStepsToI
import Derived.Deep.CutRange
import Derived.Deep.DeepCutAuto
import Derived.Deep.RegionHeld3
import Derived.Test.YtieipekhckambaaDoorArgCopy
import Derived.IntWalk
import Derived.Lib.SmallJoins
import Derived.Test.YtieipekhckambaaDoorCards
import Derived.Test.YtieipekhckambaaDoorTie
import Derived.SevenTiedAt
namespace Go.Proofs.YtieipekhckambaaDoor.fnHomes
set_option maxRecDepth 4096
open Go.ChangeShapes Go.WideShapes Go.ChangeAt Go.RowKit Go.Joins
open Go.ChangeMaps (open_string shut_string)

theorem bigYes (N g : Nat) (v : Value) (w : World) (hN : N ≤ maxLen) (hc : CodeB w v N g) (h : 1048576 < N) : Calls Tryd.prog 8 #[v] w fun e w' => e = .returned (.bool true) ∧ w = w' := by
  obtain ⟨a, c, rfl, _⟩ := hc
  have hN2 : N ≤ 9223372036854775807 := by unfold maxLen at hN; omega
  have hd : (1048576 : Int) < (N : Int) := by omega
  go_enter Tryd.func8, Tryd.ntmps8
  go_wp2
  go_ret
  exact ⟨rfl, rfl⟩
theorem bigNo (N g : Nat) (v : Value) (w : World) (hc : CodeB w v N g) (h : N ≤ 1048576) : Calls Tryd.prog 8 #[v] w fun e w' => e = .returned (.bool false) ∧ w = w' := by
  obtain ⟨a, c, rfl, _⟩ := hc
  have hd : ¬ (1048576 : Int) < (N : Int) := by omega
  go_enter Tryd.func8, Tryd.ntmps8
  go_wp2
  go_ret
  exact ⟨rfl, rfl⟩

theorem freeL_free {W H : Int} {C : ByteArray} {x : Int} (h : x ∈ freeL W H C) : freeV W H C x = true := by
  unfold freeL picks at h
  obtain ⟨n, hn, rfl⟩ := List.mem_map.1 h
  exact (List.mem_filter.1 hn).2

structure Fs (W H : Int) (C : ByteArray) (G : Nat) (w wx : World) : Prop where
  below : Below w.heap.size w wx
  grid : wx.heap[G]? = some (.cells #[.int .i64 W, .int .i64 H, .string C] 25 (0, 0))
theorem Fs.on {W H : Int} {C : ByteArray} {G : Nat} {w wx wy : World} (h : Fs W H C G w wx) (hb : Below wx.heap.size wx wy) : Fs W H C G w wy :=
  ⟨h.below.trans (hb.mono h.below.size), (hb.block _ (Array.getElem?_eq_some_iff.1 h.grid).1).trans h.grid⟩
theorem Fs.cells {W H : Int} {C : ByteArray} {G : Nat} {w wx : World} (h : Fs W H C G w wx) : wx.cell? ⟨G, 0, none⟩ = some (.int .i64 W) ∧ wx.cell? ⟨G, 1, none⟩ = some (.int .i64 H) ∧ wx.cell? ⟨G, 2, none⟩ = some (.string C) := by
  refine ⟨?_, ?_, ?_⟩ <;> rw [cell_of_row _ _ _ _ _ _ h.grid] <;> rfl

/-- What lies in the law's own memory: the map's box, the homes and the list. -/
structure Hs (W H : Int) (C : ByteArray) (G : Nat) (w : World) (ah : Option Addr) (ch : Nat) (R : List Int) (av : Option Addr) (cv : Nat) (L : List Int) (wx : World) : Prop where
  fs : Fs W H C G w wx
  homes : wx.ownsRow 0 3 1 (.slice ah R.length ch) R.length (R.map (Value.int .i64))
  list : wx.ownsRow 0 3 1 (.slice av L.length cv) L.length (L.map (Value.int .i64))
theorem Hs.on {W H : Int} {C : ByteArray} {G : Nat} {w wx wy : World} {ah av : Option Addr} {ch cv : Nat} {R L : List Int} (h : Hs W H C G w ah ch R av cv L wx) (hb : Below wx.heap.size wx wy) : Hs W H C G w ah ch R av cv L wy :=
  ⟨h.fs.on hb, own_below h.homes hb (Nat.zero_le _), own_below h.list hb (Nat.zero_le _)⟩
theorem Hs.drew {W H : Int} {C : ByteArray} {G : Nat} {w wx : World} {ah av : Option Addr} {ch cv : Nat} {R L : List Int} (h : Hs W H C G w ah ch R av cv L wx) : Hs W H C G w ah ch R av cv L wx.drew := h.on (Below.refl wx.heap.size wx).drew
theorem Hs.at {wx : World} {a : Option Addr} {c : Nat} {R : List Int} {k : Nat} {x : Int} (h : wx.ownsRow 0 3 1 (.slice a R.length c) R.length (R.map (Value.int .i64))) (hx : R[k]? = some x) : ∃ g, a = some ⟨g, 0, none⟩ := by
  rcases h.2 with ⟨_, h0⟩ | ⟨gl, cap', cur, h, _⟩
  · rw [List.eq_nil_of_length_eq_zero h0] at hx; simp at hx
  · injection h with h1 _ _
    exact ⟨gl, h1⟩

/-- What is held while a test of a round is made: the cells that are read, and all that lies there. -/
theorem Hs.held {W H : Int} {C : ByteArray} {G : Nat} {w wr wx : World} {av : Option Addr} {gh ch cv k : Nat} {R L : List Int} {x : Int} (h : Hs W H C G w (some ⟨gh, 0, none⟩) ch R av cv L wr) (hx : R[k]? = some x) (hb : Below wr.heap.size wr wx) :
    wx.cell? ⟨G, 0, none⟩ = some (.int .i64 W) ∧ wx.cell? ⟨G, 1, none⟩ = some (.int .i64 H) ∧ wx.cell? ⟨G, 2, none⟩ = some (.string C) ∧ wx.cell? ⟨gh, k, none⟩ = some (.int .i64 x) ∧ Hs W H C G w (some ⟨gh, 0, none⟩) ch R av cv L wx := by
  have h2 := h.on hb
  obtain ⟨c0, c1, c2⟩ := h2.fs.cells
  exact ⟨c0, c1, c2, own_int h2.homes hx, h2⟩

theorem Hs.held2 {W H : Int} {C : ByteArray} {G : Nat} {w wr wx : World} {ah : Option Addr} {gl ch cv k m : Nat} {R L : List Int} {x y : Int} (h : Hs W H C G w ah ch R (some ⟨gl, 0, none⟩) cv L wr) (hx : L[k]? = some x) (hy : L[m]? = some y) (hb : Below wr.heap.size wr wx) :
    wx.cell? ⟨G, 0, none⟩ = some (.int .i64 W) ∧ wx.cell? ⟨G, 1, none⟩ = some (.int .i64 H) ∧ wx.cell? ⟨G, 2, none⟩ = some (.string C) ∧ wx.cell? ⟨gl, k, none⟩ = some (.int .i64 x) ∧ wx.cell? ⟨gl, m, none⟩ = some (.int .i64 y) ∧ Hs W H C G w ah ch R (some ⟨gl, 0, none⟩) cv L wx := by
  have h2 := h.on hb
  obtain ⟨c0, c1, c2⟩ := h2.fs.cells
  exact ⟨c0, c1, c2, own_int h2.list hx, own_int h2.list hy, h2⟩

theorem Hs.held0 {W H : Int} {C : ByteArray} {G : Nat} {w wr wx : World} {ah av : Option Addr} {ch cv : Nat} {R L : List Int} (h : Hs W H C G w ah ch R av cv L wr) (hb : Below wr.heap.size wr wx) :
    wx.cell? ⟨G, 0, none⟩ = some (.int .i64 W) ∧ wx.cell? ⟨G, 1, none⟩ = some (.int .i64 H) ∧ wx.cell? ⟨G, 2, none⟩ = some (.string C) ∧ Hs W H C G w ah ch R av cv L wx := by
  have h2 := h.on hb
  obtain ⟨c0, c1, c2⟩ := h2.fs.cells
  exact ⟨c0, c1, c2, h2⟩
theorem ints_alloc {w : World} {v : Value} {L : List Int} (o : Obj) (h : Ints w v L) : Ints (w.alloc o) v L := ints_on h ((Below.refl _ _).alloc (Nat.le_refl _) o)
theorem ints_none (w : World) : Ints w (.slice none 0 0) [] := Or.inl ⟨rfl, _, _, rfl⟩
theorem carry {w w1 : World} {v : Value} {L : List Int} {Q : Prop} (h : Ints w v L) (hb : Below w.heap.size w w1) (k : Ints w1 v L → Q) : Q := k (ints_on h hb)
theorem ints_drew {w : World} {v : Value} {L : List Int} (h : Ints w v L) : Ints w.drew v L := ints_on h (Below.refl _ _).drew

set_option maxRecDepth 100000 in
set_option maxHeartbeats 4000000 in
theorem walk_in (N : Nat) (v : Value) (hN : N ≤ 1048576) (w : World) (hc : CodeB w v N w.heap.size) (hs : SidesAt w) :
    Calls Tryd.prog 3 #[v] w fun e w' => e = .returned (.bool true) ∧ Below w.heap.size w w' := by
  have HSd := Lib.hid hs
  clear hs
  go_enter Tryd.func3, Tryd.ntmps3
  go_wp2_with fail
  refine (bigNo N _ v w hc hN).mono ?_
  rintro e w' ⟨rfl, rfl⟩
  go_wp2_with fail
  refine (drawSome N v (by omega) w hc).mono ?_
  rintro e w1 ⟨a, b, C, L, P, x, rfl, hG, hL, hown, hB⟩
  obtain ⟨hn1, hn64⟩ := gok_size hG
  have hC : C.size ≤ 1048576 := by omega
  have HL := Lib.hid hL
  have HG := Lib.hid hG
  obtain ⟨av, cv, rfl⟩ := own_form hown
  have hF := (⟨hB.alloc hB.size _, heap_alloc_new w1 _⟩ : Fs a b C w1.heap.size w (w1.alloc (.cells #[.int .i64 a, .int .i64 b, .string C] 25)))
  have hown2 := hown.alloc (.cells #[.int .i64 a, .int .i64 b, .string C] 25)
  clear hown hB hc hL hG
  obtain ⟨c0, c1, c2⟩ := hF.cells
  obtain ⟨R, HR⟩ : ∃ R, Hid (homesL a b C = R) := ⟨_, rfl⟩
  go_wp2_with fail
  generalize w1.alloc (.cells #[.int .i64 a, .int .i64 b, .string C] 25) = w2 at *
  refine (implHomes a b C R hC HR _ (HSd.out.below hF.below)).mono ?_
  rintro e w3 ⟨vh, rfl, hownh, hb⟩
  obtain ⟨ah, ch, rfl⟩ := own_form hownh
  replace hownh := own_base hownh (Nat.zero_le _)
  have hR64 : R.length ≤ 64 := by rw [← HR.out]; exact Nat.le_trans (List.length_filter_le _ _) (freeL_few _ _ _)
  have hL64 : L.length ≤ 64 := by rw [HL.out]; exact Nat.le_trans (List.length_filter_le _ _) (freeL_few _ _ _)
  have hownL := own_base (own_below hown2 hb hF.below.size) (Nat.zero_le _)
  replace hF := hF.on hb
  clear hb hown2 c0 c1 c2
  go_wp2_with fail
  have hH : Hs a b C w1.heap.size w ah ch R av cv L w3 := ⟨hF, hownh, hownL⟩
  clear hF hownh hownL
  go_loopw [6, 7] (fun n i wx => ∃ k : Nat, k ≤ R.length ∧ n = .int .i64 (sumTo a b C L k) ∧ i = .int .i64 k ∧ Hs a b C w1.heap.size w ah ch R av cv L wx) (fun _ i _ => R.length - (intOf i).toNat)
  case atStart => exact ⟨0, Nat.zero_le _, rfl, rfl, hH⟩
  case round =>
    clear hH
    obtain ⟨k, hk, rfl, rfl, hH⟩ := hrel
    by_cases hlt : k < R.length
    · obtain ⟨x, hx⟩ : ∃ x, R[k]? = some x := ⟨_, List.getElem?_eq_getElem hlt⟩
      obtain ⟨gh, rfl⟩ := Hs.at hH.homes hx
      obtain ⟨c0, c1, c2⟩ := hH.fs.cells
      have d0 := own_int hH.homes hx
      have hlt2 : (k : Int) < (R.length : Int) := by omega
      have HX := Lib.hid hx
      have hHd := hH.drew
      have hxR : x ∈ R := List.mem_of_getElem? hx
      have HZ : Hid (homeV a b C x = x) := Lib.hid (homesL_mem (by rw [HR.out]; exact hxR)).1
      clear hH hx hxR
      go_upto_region 9 with fail
      go_cut [35] from 19 to 35 (fun s wx => s = .bool false ∧ Hs a b C w1.heap.size w (some ⟨gh, 0, none⟩) ch R av cv L wx)
      case first =>
        go_region_held3 (fun w' => w'.cell? ⟨w1.heap.size, 0, none⟩ = some (.int .i64 a) ∧ w'.cell? ⟨w1.heap.size, 1, none⟩ = some (.int .i64 b) ∧ w'.cell? ⟨w1.heap.size, 2, none⟩ = some (.string C) ∧ w'.cell? ⟨gh, k, none⟩ = some (.int .i64 x) ∧ Hs a b C w1.heap.size w (some ⟨gh, 0, none⟩) ch R av cv L w')
          (first | exact hS | exact ⟨c0, c1, c2, d0, hHd⟩ | go_keep)
          (first | (go_at_call 11; (try go_split_ands); have hS0 : Hs a b C w1.heap.size w (some ⟨gh, 0, none⟩) ch R av cv L _ := (by assumption); (with_reducible refine (implHomeOf a b C x x hC HZ _ (HSd.out.below hS0.fs.below)).mono ?_); rintro e w5 ⟨rfl, hb⟩; (try go_split_ands); have hS := Hs.held hS0 HX.out hb; clear hb))
        go_wp2_with fail
        go_meet
        exact ⟨by simp, hS.2.2.2.2⟩
      case rest =>
        clear hHd c0 c1 c2 d0
        obtain ⟨rfl, hH⟩ := hcut
        go_upto_region 11 with fail
        obtain ⟨c0, c1, c2⟩ := hH.fs.cells
        have d0 := own_int hH.homes HX.out
        have hHd := hH.drew
        have HZc : Hid (countV a b C x L = (cntHome a b C x L : Nat)) := Lib.hid (countV_home HG.out (by rw [HR.out]; exact List.mem_of_getElem? HX.out))
        have hwx : (Lit.int .i64 x).wf = true := homesL_wf (by rw [HR.out]; exact List.mem_of_getElem? HX.out)
        have hb1 : sumTo a b C L k ≤ 4096 := Nat.le_trans (sumTo_le a b C L k) (Nat.mul_le_mul (by omega : k ≤ 64) hL64)
        have hb2 : cntHome a b C x L ≤ 64 := Nat.le_trans (List.length_filter_le _ _) hL64
        have hw : IntKind.i64.wrap ((sumTo a b C L k : Nat) + (cntHome a b C x L : Nat)) = ((sumTo a b C L k : Nat) : Int) + ((cntHome a b C x L : Nat) : Int) := IntWalk.i64_in _ (by omega)
        clear hH
        go_region_held3 (fun w' => w'.cell? ⟨w1.heap.size, 0, none⟩ = some (.int .i64 a) ∧ w'.cell? ⟨w1.heap.size, 1, none⟩ = some (.int .i64 b) ∧ w'.cell? ⟨w1.heap.size, 2, none⟩ = some (.string C) ∧ w'.cell? ⟨gh, k, none⟩ = some (.int .i64 x) ∧ Hs a b C w1.heap.size w (some ⟨gh, 0, none⟩) ch R av cv L w')
          (first | exact hS | exact ⟨c0, c1, c2, d0, hHd⟩ | (go_split_ands; exact Hs.held (by assumption) HX.out ((Below.refl _ _).alloc (Nat.le_refl _) _)) | go_keep)
          (first
            | ((try go_split_ands); rw [if_pos (by rfl)]; have hS0 : Hs a b C w1.heap.size w (some ⟨gh, 0, none⟩) ch R av cv L _ := (by assumption); refine wp_copy _ _ rfl _ rfl _ L rfl (ints_of_own hS0.list) (by omega) ?_; intro v5 w5 hv5 hb; have hS := Hs.held hS0 HX.out hb; clear hb)
            | (go_at_call 12; (try go_split_ands); have hS0 : Hs a b C w1.heap.size w (some ⟨gh, 0, none⟩) ch R av cv L _ := (by assumption); (with_reducible refine (implCountIn a b C x L _ _ hC (by omega) HZc hwx _ (by assumption) (HSd.out.below hS0.fs.below)).mono ?_); rintro e w6 ⟨rfl, hb⟩; (try go_split_ands); have hS := Hs.held hS0 HX.out hb; clear hb))
        have HS := Lib.hid hS.2.2.2.2
        have hk64 : (k : Int) ≤ 64 := by omega
        have HLT := Lib.hid hlt
        clear hS hw c0 c1 c2 d0 hHd
        go_wp2_with fail
        go_roundw
        case rel => exact ⟨k + 1, HLT.out, by rw [sumTo_step (by rw [HR.out]; exact HX.out)]; simp, by go_num, HS.out⟩
        case measure => have h9 := HLT.out; simp [intOf]; omega
    · obtain rfl : k = R.length := by omega
      have hsum : sumTo a b C L R.length = L.length := by
        have h1 := sumTo_all (W := a) (H := b) (C := C) (L := L) (fun y hy => by
          rw [HL.out] at hy
          exact freeL_free (List.mem_filter.1 hy).1)
        rwa [HR.out] at h1
      rw [hsum]
      clear hsum
      go_wp2_with fail
      clear hk hlt
      go_loopw [8] (fun i wx => ∃ k : Nat, k ≤ L.length ∧ i = .int .i64 k ∧ Hs a b C w1.heap.size w ah ch R av cv L wx) (fun i _ => L.length - (intOf i).toNat)
      case atStart => exact ⟨0, Nat.zero_le _, rfl, hH⟩
      case round =>
        clear hH
        obtain ⟨k, hk, rfl, hH⟩ := hrel
        by_cases hlt : k < L.length
        · obtain ⟨x, hx⟩ : ∃ x, L[k]? = some x := ⟨_, List.getElem?_eq_getElem hlt⟩
          obtain ⟨gl, rfl⟩ := Hs.at hH.list hx
          have hlt2 : (k : Int) < (L.length : Int) := by omega
          have HX := Lib.hid hx
          have HLT := Lib.hid hlt
          clear hx
          go_wp2_with fail
          go_loopw [9] (fun i wx => ∃ m : Nat, m ≤ L.length ∧ i = .int .i64 m ∧ Hs a b C w1.heap.size w ah ch R (some ⟨gl, 0, none⟩) cv L wx) (fun i _ => L.length - (intOf i).toNat)
          case atStart => exact ⟨0, Nat.zero_le _, rfl, hH⟩
          case round =>
            clear hH
            obtain ⟨m, hm, rfl, hH⟩ := hrel
            by_cases hltm : m < L.length
            · obtain ⟨y, hy⟩ : ∃ y, L[m]? = some y := ⟨_, List.getElem?_eq_getElem hltm⟩
              have hltm2 : (m : Int) < (L.length : Int) := by omega
              have HY := Lib.hid hy
              have HLTm := Lib.hid hltm
              have HS := Lib.hid hH
              clear hy
              obtain ⟨zx, HZx⟩ : ∃ z, Hid (homeV a b C x = z) := ⟨_, rfl⟩
              obtain ⟨zy, HZy⟩ : ∃ z, Hid (homeV a b C y = z) := ⟨_, rfl⟩
              obtain ⟨d, HD⟩ : ∃ z, Hid (stepsToV a b C x y = z) := ⟨_, rfl⟩
              have hall : ∀ {u : Int} {j : Nat}, L[j]? = some u → freeV a b C u = true := fun {u j} hj => by
                have hu := List.mem_of_getElem? hj
                rw [HL.out] at hu
                exact freeL_free (List.mem_filter.1 hu).1
              have HI : Hid (zx = zy ↔ 0 ≤ d) := Lib.hid (by rw [← HZx.out, ← HZy.out, ← HD.out]; exact (by
                have fx := hall HX.out
                have fy := hall HY.out
                obtain ⟨_, nx, ex, _⟩ := free_in fx
                obtain ⟨_, ny, ey, _⟩ := free_in fy
                rw [ex] at fx ⊢
                rw [ey] at fy ⊢
                exact home_iff fx fy))
              have HE : Hid ((zx == zy) = decide (0 ≤ d)) := Lib.hid (by rw [Bool.eq_iff_iff, beq_iff_eq, decide_eq_true_eq]; exact HI.out)
              clear hall
              have hHd := hH.drew
              obtain ⟨c0, c1, c2⟩ := hH.fs.cells
              have d0 := own_int hH.list HX.out
              have d1 := own_int hH.list HY.out
              clear hH HS
              go_upto_region 18 with fail
              go_cut [83] from 53 to 83 (fun s wx => s = .bool false ∧ Hs a b C w1.heap.size w ah ch R (some ⟨gl, 0, none⟩) cv L wx)
              case first =>
                go_region_held3 (fun w' => w'.cell? ⟨w1.heap.size, 0, none⟩ = some (.int .i64 a) ∧ w'.cell? ⟨w1.heap.size, 1, none⟩ = some (.int .i64 b) ∧ w'.cell? ⟨w1.heap.size, 2, none⟩ = some (.string C) ∧ w'.cell? ⟨gl, k, none⟩ = some (.int .i64 x) ∧ w'.cell? ⟨gl, m, none⟩ = some (.int .i64 y) ∧ Hs a b C w1.heap.size w ah ch R (some ⟨gl, 0, none⟩) cv L w')
                  (first | exact hS | exact ⟨c0, c1, c2, d0, d1, hHd⟩ | go_keep)
                  (first
                    | (go_at_call 13; (try go_split_ands); have hS0 : Hs a b C w1.heap.size w ah ch R (some ⟨gl, 0, none⟩) cv L _ := (by assumption); (with_reducible refine (implStepsTo a b C x y d hC HD _ (HSd.out.below hS0.fs.below)).mono ?_); rintro e w5 ⟨rfl, hb⟩; (try go_split_ands); have hS := Hs.held2 hS0 HX.out HY.out hb; clear hb)
                    | (go_at_call 11; (try go_split_ands); have hS0 : Hs a b C w1.heap.size w ah ch R (some ⟨gl, 0, none⟩) cv L _ := (by assumption); (with_reducible refine (implHomeOf a b C x zx hC HZx _ (HSd.out.below hS0.fs.below)).mono ?_); rintro e w5 ⟨rfl, hb⟩; (try go_split_ands); have hS := Hs.held2 hS0 HX.out HY.out hb; clear hb)
                    | (go_at_call 11; (try go_split_ands); have hS0 : Hs a b C w1.heap.size w ah ch R (some ⟨gl, 0, none⟩) cv L _ := (by assumption); (with_reducible refine (implHomeOf a b C y zy hC HZy _ (HSd.out.below hS0.fs.below)).mono ?_); rintro e w5 ⟨rfl, hb⟩; (try go_split_ands); have hS := Hs.held2 hS0 HX.out HY.out hb; clear hb))
                all_goals
                  go_wp2_with fail
                  go_meet
                  exact ⟨by simp [HE.out], hS.2.2.2.2.2⟩
              case rest =>
                clear c0 c1 c2 d0 d1 hHd
                obtain ⟨rfl, hH⟩ := hcut
                have hm64 : (m : Int) ≤ 64 := by omega
                go_wp2_with fail
                go_roundw
                case rel => exact ⟨m + 1, HLTm.out, by go_num, hH⟩
                case measure => have h9 := HLTm.out; simp [intOf]; omega
            · obtain rfl : m = L.length := by omega
              have hk64 : (k : Int) ≤ 64 := by omega
              go_wp2_with fail
              go_roundw
              case rel => exact ⟨k + 1, HLT.out, by go_num, hH⟩
              case measure => have h9 := HLT.out; simp [intOf]; omega
        · obtain rfl : k = L.length := by omega
          have hall : ∀ y ∈ L, freeV a b C y = true := fun y hy => by
            rw [HL.out] at hy
            exact freeL_free (List.mem_filter.1 hy).1
          have HE1 : Hid (enoughV a b C L L = true) := Lib.hid (enough_same HG.out hall)
          have HE2 : Hid (enoughV a b C L [] = true) := Lib.hid (enough_none HG.out hall)
          have hHd := hH.drew
          obtain ⟨c0, c1, c2⟩ := hH.fs.cells
          clear hall hH
          go_upto_region 20 with fail
          go_region_held3 (fun w' => w'.cell? ⟨w1.heap.size, 0, none⟩ = some (.int .i64 a) ∧ w'.cell? ⟨w1.heap.size, 1, none⟩ = some (.int .i64 b) ∧ w'.cell? ⟨w1.heap.size, 2, none⟩ = some (.string C) ∧ Hs a b C w1.heap.size w ah ch R av cv L w')
            (first | exact hS | exact ⟨c0, c1, c2, hHd⟩ | (go_split_ands; exact Hs.held0 (by assumption) ((Below.refl _ _).alloc (Nat.le_refl _) _)) | go_keep)
            (first
              | ((try go_split_ands); rw [if_pos (by rfl)]; have hS0 : Hs a b C w1.heap.size w ah ch R av cv L _ := (by assumption); refine wp_copy _ _ rfl _ rfl _ L rfl (ints_of_own hS0.list) (by omega) ?_; intro v6 w6 hv6 hb; refine carry (v := v5) (L := L) ?_ hb ?_; (focus ((repeat (with_reducible (first | assumption | refine ints_drew ?_ | refine ints_alloc _ ?_))); done)); intro hv56; have hS := Hs.held0 hS0 hb; clear hb)
              | ((try go_split_ands); rw [if_pos (by rfl)]; have hS0 : Hs a b C w1.heap.size w ah ch R av cv L _ := (by assumption); refine wp_copy _ _ rfl _ rfl _ L rfl (ints_of_own hS0.list) (by omega) ?_; intro v5 w5 hv5 hb; have hS := Hs.held0 hS0 hb; clear hb)
              | (go_at_call 14; (try go_split_ands); have hS0 : Hs a b C w1.heap.size w ah ch R av cv L _ := (by assumption); (with_reducible refine (implEnough a b C L L true v5 v6 hC (by omega) (by omega) HE1 _ (by assumption) (by assumption) (HSd.out.below hS0.fs.below)).mono ?_); rintro e w7 ⟨rfl, hb⟩; (try go_split_ands); have hS := Hs.held0 hS0 hb; clear hb)
              | (go_at_call 14; (try go_split_ands); have hS0 : Hs a b C w1.heap.size w ah ch R av cv L _ := (by assumption); (with_reducible refine (implEnough a b C L [] true _ (.slice none 0 0) hC (by omega) (by simp) HE2 _ (by assumption) (ints_none _) (HSd.out.below hS0.fs.below)).mono ?_); rintro e w8 ⟨rfl, hb⟩; (try go_split_ands); have hS := Hs.held0 hS0 hb; clear hb))
          all_goals
            go_wp2_with fail
            go_ret
            exact ⟨by simp, hS.2.2.2.fs.below⟩

set_option maxRecDepth 100000 in
theorem walk_big (N : Nat) (v : Value) (hN : N ≤ maxLen) (w : World) (hc : CodeB w v N w.heap.size) (h : 1048576 < N) :
    Calls Tryd.prog 3 #[v] w fun e w' => e = .returned (.bool true) ∧ Below w.heap.size w w' := by
  go_enter Tryd.func3, Tryd.ntmps3
  go_wp2_with fail
  refine (bigYes N _ v w hN hc h).mono ?_
  rintro e w' ⟨rfl, rfl⟩
  go_wp2_with fail
  go_ret
  exact ⟨rfl, Below.refl _ _⟩

theorem walkL (v : Value) (N : Nat) (w : World) (hc : CodeB w v N w.heap.size) (hN : N ≤ maxLen) (hl : laidMetH Tryd.prog Rows.fnHomesRow.laid w) :
    Calls Tryd.prog 3 #[v] w fun e w' => e = .returned (.bool true) ∧ Below w.heap.size w w' := by
  rcases Nat.lt_or_ge 1048576 N with h | h
  · exact walk_big N v hN w hc h
  · exact walk_in N v h w hc (sides_of_laid hl)
-- LIFT
set_option maxRecDepth 100000 in
theorem lifted (os : Os) (started : os.Started) (H : Type) (enc : TypeId × Value → H) :
    ReturnsInHanded {} Tryd.checked os 3 .any (fun w args => (Rows.fnHomesSpec.pre enc Tryd.prog Tryd.f3 [] false w args ∧ laidMetH Tryd.prog Rows.fnHomesRow.laid w) ∧ sizedMet enc Tryd.prog Tryd.f3 (OpenSpec.ofChange Rows.fnHomesSpec) false w args)
      (Rows.fnHomesSpec.post enc Tryd.prog Tryd.f3 false true false false) := by
  refine returnsInHanded_of_change_and (C := Tryd.checked) (X := fun w _ => laidMetH Tryd.prog Rows.fnHomesRow.laid w) (fun _ _ _ hh h => h.of_heap hh) own started (by kernel_rfl) Tryd.func3
    (ChangeSpec.witness_shaped (enc := enc) (C := Tryd.checked) (os := os) (X := fun w _ => laidMetH Tryd.prog Rows.fnHomesRow.laid w) false (World.doorLaid Tryd.prog 400 os) #[.slice none 0 0] 8 rfl (World.shaped_of_RefB (by kernel_rfl) (by kernel_rfl)) (by kernel_rfl) (by kernel_rfl) (by kernel_rfl) (sides_met os _)) ?_
  intro W base args ds gs before hval0 hW _ hsz0 hL _
  have hsz : (DataW.weightsEach Tryd.prog (Tryd.f3.params.toList ++ Rows.fnHomesSpec.plain.varTypes Tryd.prog) (ds ++ gs)).all (· ≤ reachBytes) = true := hsz0
  clear hsz0
  have hval : ∀ (j : Nat) t v, Tryd.f3.params[j]? = some t → args[j]? = some v → Value.okWide Tryd.prog W .any base t v := hval0
  have hW' := hW
  obtain ⟨p, q, hA0, hV, rfl, hfz, hnd⟩ := hW
  have hA : DataW.TrodAll enc Tryd.prog W 0 (fun _ => true) true Tryd.f3.params.toList args.toList ds p := hA0
  rw [Tryd.params3] at hA hval hsz
  obtain ⟨v0, vs0, d0, ds0, p0, q0, hargs, rfl, rfl, h0, r0⟩ := trodAll_cons hA
  obtain ⟨rfl, rfl, rfl⟩ := trodAll_nil r0
  obtain rfl : args = #[v0] := by cases args; simp_all
  have hs0 := sides_of_laid hL
  obtain ⟨rfl, _⟩ := sides_vars hs0 hs0 hV
  obtain ⟨L0, w0, l0, again0⟩ := open_arg_bytes (hval 0 22 v0 rfl rfl) h0
  clear hA0 hval0 hsz
  simp only [List.append_nil] at hW'
  refine (walkL v0 L0 W w0 l0 hL).mono fun e W' ⟨he, hg⟩ => ?_
  subst he
  obtain ⟨_, hvs⟩ := sides_vars hs0 (hs0.below hg) hV
  exact ⟨_, rfl, post_of_below (pa := p0 ++ ([])) (pv := q) hW' (fun _ _ _ => (trodAll_cons_mk (shut_bool Tryd.underlying4 _) trodAll_mk0)) (fun sp hsp => (trodAll_cons_mk (again0 W' hg sp (fun p hp => hsp p (by simp [hp]))) trodAll_mk0)) (fun sp _ => hvs sp) (by simp)
    hg (ok_one (by kernel_rfl) rfl (okWide_bool_mk Tryd.underlying4 _))⟩

theorem said : Rows.FnHomesSaid :=
  OpenClaim.holds_of_wide 3 Tryd.f3 rfl rfl rfl rfl rfl rfl rfl ⟨rfl, rfl, rfl, rfl, rfl⟩ rfl rfl rfl rfl rfl (by kernel_rfl) Tryd.func3 (by kernel_rfl)
    (of_decide_eq_true (by kernel_rfl)) (by unfold Func.isWrapper; first | (rw [if_pos (by decide +kernel)]; kernel_rfl) | (rw [if_neg (by decide +kernel)]; exact ⟨rfl, rfl⟩))
    (fun os started H enc _ => lifted os started H enc)

theorem plain (f : FuncId) (fn : Func) (hf : Tryd.pinned.checked.prog.funcNamed "loop.example/g00961/laws.FnHomes" = some f) (hfn : Tryd.pinned.checked.prog.funcs[f]? = some fn) :
    Rows.fnHomesCard.stood.looks = Tryd.pinned.checked.prog.looks [] ∧ ∀ (j : Nat) t, fn.params[j]? = some t → Tryd.pinned.checked.prog.wantsStandIn t = false := by
  obtain rfl : f = 3 := Option.some.inj ((show Tryd.prog.funcNamed "loop.example/g00961/laws.FnHomes" = some 3 by kernel_rfl).symm.trans hf) |>.symm
  obtain rfl : fn = Tryd.f3 := (Option.some.inj (Tryd.func3.symm.trans hfn)).symm
  refine ⟨by kernel_rfl, fun j t ht => ?_⟩
  rw [Tryd.params3] at ht
  have hm : t ∈ [22] := by simpa using Array.mem_of_getElem? ht
  have hall : ([22].all fun u => !Tryd.prog.wantsStandIn u) = true := by kernel_rfl
  exact (show Tryd.prog.wantsStandIn t = false by simpa using List.all_eq_true.1 hall t hm)

theorem proved : Rows.FnHomesCardSaid :=
  Claim7.holds_tied_plain_at .later [] _ _ _ _ said (fun _ h => by cases h) (by kernel_rfl) (fun _ h => by cases h) fnHomes_row_tie rfl ⟨rfl, rfl⟩ (by kernel_rfl) rfl plain (by kernel_rfl)

end Go.Proofs.YtieipekhckambaaDoor.fnHomes
