/-
  CONTRACT of spec.TimeNet. No law is proved here.
  CONTRACT of spec.FlowSize. No law is proved here.
  CONTRACT of spec.ReachedBy. No law is proved here.
-/
import Derived.Test.YtlkhecdlmbhiaaaDoorZCA34
import Derived.Test.YtlkhecdlmbhiaaaDoorZCA35
import Derived.Test.YtlkhecdlmbhiaaaDoorZCA36
import Derived.Test.YtlkhecdlmbhiaaaDoorZCA37
import Derived.Test.YtlkhecdlmbhiaaaDoorZCA25
import Derived.Test.YtlkhecdlmbhiaaaDoorZCA27
import Derived.BigQuiet
import Derived.Deep.QuietTactic
namespace Go.Proofs.YtlkhecdlmbhiaaaDoor
set_option maxRecDepth 4096
open Go.ChangeShapes Go.WideShapes Go.ChangeAt Go.RowKit
theorem specTimeNet (W H : Int) (C : ByteArray) (S G : List Int) (T : Int) (strict : Bool) (vs vg : Value) (N : Int) (A : List ArcD) (b : Bool) (hC : C.size ≤ 1048576) (hS : S.length ≤ 2000000) (hG : G.length ≤ 2000000) (HN : Hid (timeNV W H C S G T strict = N)) (HA : Hid (timeAV W H C S G T strict = A)) (HB : Hid (askV W H C S G T = b)) (w : World) (hs : Ints w vs S) (hg : Ints w vg G) :
    Calls Tryd.prog 16 #[.agg #[.int .i64 W, .int .i64 H, .string C], vs, vg, .int .i64 T, .bool strict] w (TimeBack w N A b) :=
  timeParts.all timePartA timePartB timePartC timePartD W H C S G T strict vs vg N A b hC hS hG HN HA HB w hs hg

end Go.Proofs.YtlkhecdlmbhiaaaDoor

namespace Go.Proofs.YtlkhecdlmbhiaaaDoor
set_option maxRecDepth 4096
open Go.ChangeShapes Go.WideShapes Go.ChangeAt Go.RowKit

theorem specFlowSize (N : Int) (A : List ArcD) (F : List Int) (v vf : Value) (z : Int) (hAl : A.length ≤ 2000000) (hFl : F.length ≤ 2000000) (HZ : Hid (flowSizeV N A F = z)) (w : World) (hv : Arcs w v A) (hf : Ints w vf F) :
    Calls Tryd.prog 84 #[.agg #[.int .i64 N, v], vf] w (Made w (.int .i64 z)) := by
  have hB := Below.refl (w.alloc (.cells #[.int .i64 N, v] 32)).heap.size (w.alloc (.cells #[.int .i64 N, v] 32))
  obtain ⟨c0, c1⟩ := net_cells hB
  have HVV := Lib.hid hv
  have HFF := Lib.hid hf
  clear hv hf
  cases hk : flowOkV N A F with
  | false =>
    have HK := Lib.hid hk
    have e : z = -1 := by rw [← HZ.out]; exact if_neg (by rw [hk]; simp)
    subst e
    clear hk
    go_enter Tryd.func84, Tryd.ntmps84
    go_wp2_with fail
    refine (specFlowOk N A F v vf false hAl hFl HK _ (arcs_on HVV.out (below_box hB)) (ints_on HFF.out (below_box hB))).mono ?_
    rintro e w1 ⟨rfl, hb⟩
    replace hB := next_below hB hb
    clear hb c0 c1
    go_wp2_with fail
    go_ret
    exact ⟨rfl, below_box hB⟩
  | true =>
    have HK := Lib.hid hk
    obtain ⟨n, rfl, h2, h15, hok, hA, hF, hP⟩ := flow_facts hk
    have e : netO (A.zip F) 0 = z := by rw [← HZ.out]; exact (if_pos hk).symm
    have HE := Lib.hid e
    have HOK := Lib.hid hok
    have HP := Lib.hid hP
    have HL := Lib.hid hF
    obtain ⟨R, HR⟩ : ∃ R, Hid (rowO (netO (A.zip F)) n = R) := ⟨_, rfl⟩
    have hRl : R.length = n := by rw [← HR.out, rowO_len]
    clear hk e hok hP hF HZ
    go_enter Tryd.func84, Tryd.ntmps84
    go_wp2_with fail
    refine (specFlowOk n A F v vf true hAl hFl HK _ (arcs_on HVV.out (below_box hB)) (ints_on HFF.out (below_box hB))).mono ?_
    rintro e w1 ⟨rfl, hb⟩
    replace hB := next_below hB hb
    obtain ⟨c0, c1⟩ := net_cells hB
    clear hb
    go_wp2_with fail
    refine (specOut n A F R _ _ h15 HOK.out hA HL.out HP.out HR _ (arcs_on HVV.out (below_box hB)) (ints_on HFF.out (below_box hB))).mono ?_
    rintro e w5 ⟨vo, rfl, hown, hb⟩
    replace hB := next_below hB hb
    obtain ⟨ao, co, rfl, HO⟩ := ints_form (ints_of_own hown)
    have hn0 : 0 < n := by omega
    rw [hRl] at HO ⊢
    rcases HO with h0 | ⟨go, rfl, hgo, hco⟩
    · omega
    · have d0 := hco 0 z (by rw [← HR.out, rowO_at _ hn0, HE.out])
      have hn1 : (0 : Int) < (n : Int) := by omega
      clear hb hown c0 c1 hco hRl
      go_wp2_with fail
      go_ret
      exact ⟨rfl, below_box hB⟩

end Go.Proofs.YtlkhecdlmbhiaaaDoor

namespace Go.Proofs.YtlkhecdlmbhiaaaDoor
set_option maxRecDepth 4096
open Go.ChangeShapes Go.WideShapes Go.ChangeAt Go.RowKit

/-- The memory while nodes are met: the set's row, and all else as it was. -/
structure RMem (n G : Nat) (A : List ArcD) (av : Option Addr) (cv : Nat) (w : World) (o : Nat → Bool) (wr : World) : Prop where
  row : wr.ownsRow (w.heap.size + 1) 4 1 (.slice (some ⟨G, 0, none⟩) n n) n (rowB o n)
  below : Below (w.alloc (.cells #[.int .i64 (n : Int), .slice av A.length cv] 32)).heap.size (w.alloc (.cells #[.int .i64 (n : Int), .slice av A.length cv] 32)) wr
theorem RMem.alloc {n G : Nat} {A : List ArcD} {av : Option Addr} {cv : Nat} {w wr : World} {o : Nat → Bool} (h : RMem n G A av cv w o wr) (b : Obj) : RMem n G A av cv w o (wr.alloc b) :=
  ⟨h.row.alloc b, h.below.alloc h.below.size b⟩
theorem RMem.drew {n G : Nat} {A : List ArcD} {av : Option Addr} {cv : Nat} {w wr : World} {o : Nat → Bool} (h : RMem n G A av cv w o wr) : RMem n G A av cv w o wr.drew := ⟨h.row, h.below.drew⟩
theorem RMem.drewN {n G : Nat} {A : List ArcD} {av : Option Addr} {cv : Nat} {w wr : World} {o : Nat → Bool} (h : RMem n G A av cv w o wr) (m : Nat) : RMem n G A av cv w o (wr.drewN m) := ⟨h.row, below_drewN h.below m⟩
theorem closed_mk {o : Nat → Bool} {x : ArcD} {y : Int} {a t : Nat} (ha : x.f = a) (ht : x.t = t) (h1 : o a = true → y < x.r → o t = true) (h2 : o t = true → 0 < y → o a = true) : closedAt o (x, y) := by
  unfold closedAt
  simp only
  rw [ha, ht]
  exact ⟨h1, h2⟩
theorem arc_after0 {G q i : Nat} {wr : World} {u : Value} (h : G ≠ wr.heap.size) (r c : Int) (a t : Nat) : (((wr.alloc (.cells #[.int .i64 a, .int .i64 t, .int .i64 r, .int .i64 c] 72)).drewN q).setCell ⟨G, i, none⟩ u).cell? ⟨wr.heap.size, 0, none⟩ = some (.int .i64 a) := by
  rw [cell_of_row _ _ _ _ _ _ ((heap_setCell_other ((wr.alloc (.cells #[.int .i64 a, .int .i64 t, .int .i64 r, .int .i64 c] 72)).drewN q) ⟨G, i, none⟩ wr.heap.size u (fun e => h e.symm)).trans (heap_alloc_new wr _))]
  rfl
theorem arc_after1 {G q i : Nat} {wr : World} {u : Value} (h : G ≠ wr.heap.size) (r c : Int) (a t : Nat) : (((wr.alloc (.cells #[.int .i64 a, .int .i64 t, .int .i64 r, .int .i64 c] 72)).drewN q).setCell ⟨G, i, none⟩ u).cell? ⟨wr.heap.size, 1, none⟩ = some (.int .i64 t) := by
  rw [cell_of_row _ _ _ _ _ _ ((heap_setCell_other ((wr.alloc (.cells #[.int .i64 a, .int .i64 t, .int .i64 r, .int .i64 c] 72)).drewN q) ⟨G, i, none⟩ wr.heap.size u (fun e => h e.symm)).trans (heap_alloc_new wr _))]
  rfl
theorem RMem.add {n G : Nat} {A : List ArcD} {av : Option Addr} {cv : Nat} {w wr : World} {o : Nat → Bool} (h : RMem n G A av cv w o wr) (c : Nat) : RMem n G A av cv w (addO o c) (wr.setCell ⟨G, c, none⟩ (.bool true)) := by
  obtain ⟨h1, h2⟩ := add_row (c := c) h.row
  have hb := (h.row.lt G rfl).1
  exact ⟨h1, h.below.grown h2 h.below.size (fun j hj => by cases hj; simp; omega)⟩

set_option maxHeartbeats 2000000 in
theorem specReach_in (n : Nat) (A : List ArcD) (F : List Int) (v vf : Value) (hk : flowOkV n A F = true) (w : World) (hAl : A.length ≤ 2000000) (hFl : F.length ≤ 2000000) (hv : Arcs w v A) (hf : Ints w vf F) :
    Calls Tryd.prog 85 #[.agg #[.int .i64 (n : Int), v], vf] w (BoolsBack w (reachedB A F) n) := by
  obtain ⟨i0, hi, hz0, hz1, hz2⟩ := info_parts Tryd.infoBool
  obtain ⟨n', hn', _, _, hok, hA, hF, hP⟩ := flow_facts hk
  have hnn : n' = n := by omega
  subst hnn
  clear hn'
  have hB := Below.refl (w.alloc (.cells #[.int .i64 (n' : Int), v] 32)).heap.size (w.alloc (.cells #[.int .i64 (n' : Int), v] 32))
  obtain ⟨c0, c1⟩ := net_cells hB
  obtain ⟨av, cv, rfl, HV⟩ := arcs_form hv
  obtain ⟨af, cf, rfl, HF⟩ := ints_form hf
  have HVV := Lib.hid hv
  have HFF := Lib.hid hf
  have HVh := Lib.hid HV
  have HFh := Lib.hid HF
  have HK := Lib.hid hk
  have HOK := Lib.hid hok
  have HLF := Lib.hid hF
  have hn0 : (0 : Int) < (n' : Int) := by omega
  have hn1 : 0 < n' := by omega
  clear HV hv HF hf hok hF hP hk
  go_enter Tryd.func85, Tryd.ntmps85
  go_wp2_with fail
  refine (specFlowOk n' A F _ _ true hAl hFl HK _ (arcs_on HVV.out (below_box hB)) (ints_on HFF.out (below_box hB))).mono ?_
  rintro e w1 ⟨rfl, hb⟩
  replace hB := next_below hB hb
  obtain ⟨c0, c1⟩ := net_cells hB
  have hs1 := hB.size
  rw [World.size_alloc] at hs1
  clear hb
  go_wp2_with (at_make; refine wpList_make_full _ rfl (.tmp 15) (.tmp 15) 35 rfl (w.heap.size + 1) 4 i0 (.bool false) 1 Tryd.underlying35 hi hz0 hz1 .i64 .i64 n' n' n' rfl rfl rfl rfl (by rw [hz2]; omega) (by unfold maxLen; omega) hs1 ?_; intro w2 hrow hg2; have hrow0 := made_rowB hrow; have hB2 := hB.grown hg2 hB.size (fun j hj => (by cases hj)); have f0 := hrow0.frozenAt 0; have d0 := own_bool hrow0 hn1; have HR1 := Lib.hid (add_row (c := 0) hrow0); have HB2 := Lib.hid hB2; clear hrow hrow0 hg2 hB2)
  have HM := Lib.hid (show RMem n' w1.heap.size A av cv w (addO (fun _ => false) 0) _ from ⟨HR1.out.1, HB2.out.grown HR1.out.2 HB2.out.size (fun j hj => by cases hj; simp; omega)⟩)
  clear HR1 HB2 f0 d0 c0 c1 hB
  generalize w1.heap.size = G at HM
  go_loopw [6] (fun m wr => ∃ (b : Bool) (o : Nat → Bool), m = .bool b ∧ RMem n' G A av cv w o wr ∧ Good (A.zip F) o ∧ (b = false → ∀ p ∈ A.zip F, closedAt o p)) (fun m wr => 2 * noes wr G + yesN m)
  case atStart => exact ⟨true, _, rfl, HM.out, good_start _, fun h => (by cases h)⟩
  case round =>
    clear HM
    obtain ⟨b, o0, rfl, hM, hG0, hcl⟩ := hrel
    have hno := noes_row hM.row
    cases b with
    | false =>
      have HE := Lib.hid (good_is (netOk_of HK.out) hG0 (hcl rfl))
      have HM := Lib.hid hM
      clear hM hcl hno
      go_wp2_with fail
      go_ret
      refine ⟨_, rfl, ?_, below_box HM.out.below⟩
      have := own_base HM.out.row (Nat.le_succ _)
      rwa [rowB_eq HE.out] at this
    | true =>
      have HN0 := Lib.hid hno
      have HG0 := Lib.hid hG0
      have HM := Lib.hid hM
      clear hM hno hG0 hcl
      go_wp2_with fail
      go_loopw [6, 7] (fun m i wq => ∃ (b : Bool) (k : Nat) (o : Nat → Bool), k ≤ F.length ∧ m = .bool b ∧ i = .int .i64 k ∧ RMem n' G A av cv w o wq ∧ Good (A.zip F) o ∧ Hid (Pass (A.zip F) n' k o0 o b)) (fun _ i _ => F.length - (intOf i).toNat)
      case atStart => exact ⟨false, 0, o0, Nat.zero_le _, rfl, rfl, HM.out, HG0.out, Lib.hid ⟨fun _ => ⟨rfl, by simp⟩, fun h => (by cases h)⟩⟩
      case round =>
        clear HM
        obtain ⟨b, k, o, hk, rfl, rfl, hM, hG, HPs⟩ := hrel
        obtain ⟨c0, c1⟩ := net_cells hM.below
        by_cases hlt : k < F.length
        · have hltA : k < A.length := by have := HLF.out; omega
          obtain ⟨y, hy⟩ : ∃ y, F[k]? = some y := ⟨_, List.getElem?_eq_getElem hlt⟩
          obtain ⟨x, hx⟩ : ∃ x, A[k]? = some x := ⟨_, List.getElem?_eq_getElem hltA⟩
          obtain ⟨⟨hf0, hf1⟩, ⟨ht0, ht1⟩, hne, _, _⟩ := arcOk_out (HOK.out x (List.mem_of_getElem? hx))
          obtain ⟨a, ha⟩ : ∃ a : Nat, x.f = a := ⟨x.f.toNat, by omega⟩
          obtain ⟨t, ht⟩ : ∃ t : Nat, x.t = t := ⟨x.t.toNat, by omega⟩
          have han : a < n' := by omega
          have htn : t < n' := by omega
          have HZ := Lib.hid (zip_at hx hy)
          rcases HVh.out with h0 | ⟨g, rfl, hgl, hc⟩
          · omega
          · rcases HFh.out with h0 | ⟨gf, rfl, hgf, hcf⟩
            · omega
            · have hb0 := below_box hM.below
              have e0 := (hb0.cell (p := ⟨g, _, none⟩) hgl).trans (hc k x hx).1
              have e1 := (hb0.cell (p := ⟨g, _, none⟩) hgl).trans (hc k x hx).2.1
              have e2 := (hb0.cell (p := ⟨g, _, none⟩) hgl).trans (hc k x hx).2.2.1
              have e3 := (hb0.cell (p := ⟨g, _, none⟩) hgl).trans (hc k x hx).2.2.2
              have hMa := hM.alloc (.cells #[.int .i64 x.f, .int .i64 x.t, .int .i64 x.r, .int .i64 x.c] 72)
              have d1 := own_bool hMa.row han
              have d2 := own_bool hMa.row htn
              have d3 := ((below_box hMa.below).cell (p := ⟨gf, _, none⟩) hgf).trans (hcf k y hy)
              have hlt2 : (k : Int) < (F.length : Int) := by omega
              have hlt3 : (k : Int) < (A.length : Int) := by omega
              have han2 : (a : Int) < (n' : Int) := by omega
              have htn2 : (t : Int) < (n' : Int) := by omega
              rw [ha] at e0 hMa d1 d2 d3
              rw [ht] at e1 hMa d1 d2 d3
              have HMa := Lib.hid hMa
              have hMl := (hM.row.lt G rfl).2
              clear hc hcf hx hy hb0 hM hMa
              cases hoa : o a with
              | true =>
                rw [hoa] at d1
                cases hot : o t with
                | true =>
                  rw [hot] at d2
                  have HC := Lib.hid (closed_mk (y := y) ha ht (fun _ _ => hot) (fun _ _ => hoa))
                  clear hoa hot
                  go_wp2_with fail
                  go_quiet (fail)
                  go_wp2_with fail
                  go_roundw
                  case rel => exact ⟨b, k + 1, o, by omega, rfl, by go_num, HMa.out.drewN _, hG, Lib.hid (HPs.out.skip HZ.out HC.out)⟩
                  case measure => simp [intOf]; omega
                | false =>
                  rw [hot] at d2
                  by_cases hr : y < x.r
                  · have HGo := Lib.hid (hG.fwd (List.mem_of_getElem? HZ.out) ha ht hoa hr)
                    have HPo := Lib.hid (HPs.out.found htn hot)
                    have f2 := HMa.out.row.frozenAt t
                    have hGw : G ≠ wr.heap.size := by have := hMl; omega
                    have d1' : ∀ q, (((wr.alloc (.cells #[.int .i64 a, .int .i64 t, .int .i64 x.r, .int .i64 x.c] 72)).drewN q).setCell ⟨G, t, none⟩ (.bool true)).cell? ⟨G, a, none⟩ = some (.bool true) := fun q => by
                      rw [own_bool ((HMa.out.drewN q).add t).row han, addO_old hoa]
                    have d2' : ∀ q, (((wr.alloc (.cells #[.int .i64 a, .int .i64 t, .int .i64 x.r, .int .i64 x.c] 72)).drewN q).setCell ⟨G, t, none⟩ (.bool true)).cell? ⟨G, t, none⟩ = some (.bool true) := fun q => by
                      rw [own_bool ((HMa.out.drewN q).add t).row htn, addO_self]
                    have l0 := fun q => arc_after0 (wr := wr) (q := q) (i := t) (u := .bool true) hGw x.r x.c a t
                    have l1 := fun q => arc_after1 (wr := wr) (q := q) (i := t) (u := .bool true) hGw x.r x.c a t
                    clear hoa hot hG HPs hGw
                    go_wp2_with fail
                    go_quiet (fail)
                    go_wp2_with fail
                    go_roundw
                    case rel => exact ⟨true, k + 1, addO o t, by omega, rfl, by go_num, (HMa.out.drewN _).add t, HGo.out, HPo⟩
                    case measure => simp [intOf]; omega
                  · have HC := Lib.hid (closed_mk (o := o) (y := y) ha ht (fun _ h => absurd h hr) (fun h _ => (by rw [hot] at h; cases h)))
                    clear hoa hot
                    go_wp2_with fail
                    go_quiet (fail)
                    go_wp2_with fail
                    go_roundw
                    case rel => exact ⟨b, k + 1, o, by omega, rfl, by go_num, HMa.out.drewN _, hG, Lib.hid (HPs.out.skip HZ.out HC.out)⟩
                    case measure => simp [intOf]; omega
              | false =>
                rw [hoa] at d1
                cases hot : o t with
                | true =>
                  rw [hot] at d2
                  by_cases hr : 0 < y
                  · have HGo := Lib.hid (hG.bwd (List.mem_of_getElem? HZ.out) ha ht hot hr)
                    have HPo := Lib.hid (HPs.out.found han hoa)
                    have f1 := HMa.out.row.frozenAt a
                    clear hoa hot hG HPs
                    go_wp2_with fail
                    go_quiet (fail)
                    go_wp2_with fail
                    go_roundw
                    case rel => exact ⟨true, k + 1, addO o a, by omega, rfl, by go_num, (HMa.out.drewN _).add a, HGo.out, HPo⟩
                    case measure => simp [intOf]; omega
                  · have HC := Lib.hid (closed_mk (o := o) (y := y) ha ht (fun h _ => (by rw [hoa] at h; cases h)) (fun _ h => absurd h hr))
                    clear hoa hot
                    go_wp2_with fail
                    go_quiet (fail)
                    go_wp2_with fail
                    go_roundw
                    case rel => exact ⟨b, k + 1, o, by omega, rfl, by go_num, HMa.out.drewN _, hG, Lib.hid (HPs.out.skip HZ.out HC.out)⟩
                    case measure => simp [intOf]; omega
                | false =>
                  rw [hot] at d2
                  have HC := Lib.hid (closed_mk (o := o) (y := y) ha ht (fun h _ => (by rw [hoa] at h; cases h)) (fun h _ => (by rw [hot] at h; cases h)))
                  clear hoa hot
                  go_wp2_with fail
                  go_quiet (fail)
                  go_wp2_with fail
                  go_roundw
                  case rel => exact ⟨b, k + 1, o, by omega, rfl, by go_num, HMa.out.drewN _, hG, Lib.hid (HPs.out.skip HZ.out HC.out)⟩
                  case measure => simp [intOf]; omega
        · obtain rfl : k = F.length := by omega
          have HO := Lib.hid hM
          have hno := noes_row hM.row
          have hps := HPs.out
          clear hM
          go_wp2_with fail
          go_roundw
          case rel =>
            refine ⟨b, o, rfl, HO.out, hG, fun hb p hp => (hps.1 hb).2 p ?_⟩
            rwa [List.take_of_length_le (by rw [List.length_zip]; omega)]
          case measure =>
            rw [hno, HN0.out]
            cases b with
            | false =>
              rw [(hps.1 rfl).1]
              simp [yesN]
            | true =>
              have := hps.2 rfl
              simp [yesN]
              omega

theorem specReached (N : Int) (A : List ArcD) (F : List Int) (v vf : Value) (m : Nat) (HM : Hid (reachedN N A F = m)) (w : World) (hAl : A.length ≤ 2000000) (hFl : F.length ≤ 2000000) (hv : Arcs w v A) (hf : Ints w vf F) :
    Calls Tryd.prog 85 #[.agg #[.int .i64 N, v], vf] w (BoolsBack w (reachedB A F) m) := by
  have h1 := HM.out
  unfold reachedN at h1
  cases hk : flowOkV N A F with
  | true =>
    rw [if_pos hk] at h1
    obtain ⟨n, rfl, _⟩ := flow_facts hk
    have e : m = n := by omega
    subst e
    exact specReach_in m A F v vf hk w hAl hFl hv hf
  | false =>
    rw [if_neg (by rw [hk]; simp)] at h1
    subst h1
    have hB := Below.refl (w.alloc (.cells #[.int .i64 N, v] 32)).heap.size (w.alloc (.cells #[.int .i64 N, v] 32))
    obtain ⟨c0, c1⟩ := net_cells hB
    have HVV := Lib.hid hv
    have HFF := Lib.hid hf
    have HK := Lib.hid hk
    clear hv hf hk
    go_enter Tryd.func85, Tryd.ntmps85
    go_wp2_with fail
    refine (specFlowOk N A F v vf false hAl hFl HK _ (arcs_on HVV.out (below_box hB)) (ints_on HFF.out (below_box hB))).mono ?_
    rintro e w1 ⟨rfl, hb⟩
    replace hB := next_below hB hb
    have hs := hB.size
    rw [World.size_alloc] at hs
    clear hb c0 c1
    go_wp2_with fail
    go_ret
    exact ⟨_, rfl, World.ownsRow_made (base := w.heap.size) (e := 4) (size := 1) w1 #[] 0 (by omega) (by decide) rfl, below_box (hB.alloc hB.size _)⟩

end Go.Proofs.YtlkhecdlmbhiaaaDoor

