/-
  CONTRACT of the program's formOk. No law is proved here.
  Where the units of given ways over each arc are a flow, each of their steps is an arc, the flow has as many units as starts, and its ways are the given ones. Plain facts; no statement is proved here.
  The form of a plan, in two ways of speaking. Plain facts; no statement is proved here.
  CONTRACT of the program's within, as it is. No law is proved here.
-/
import Derived.Test.YtnbbhdbcapfbkaaDoorZFF13
import Derived.BigQuiet
import Derived.Deep.QuietTactic
import Derived.Test.YtnbbhdbcapfbkaaDoorZFF00
namespace Go.Proofs.YtnbbhdbcapfbkaaDoor
set_option maxRecDepth 4096
open Go.ChangeShapes Go.WideShapes Go.ChangeAt Go.RowKit

set_option maxHeartbeats 2000000 in
theorem implForm (vS v : Value) (S : List Int) (Ws : List (List Int)) (T : Nat) (b : Bool) (hT : T ≤ 20) (hS : S.length ≤ 2000000) (hW2 : totW Ws ≤ 2000000) (HF : Hid (formV S T Ws = b)) (w : World) (hs : Ints w vS S) (hv : WaysAt w v Ws) :
    Calls Tryd.prog 24 #[vS, .int .i64 T, v] w (Made w (.bool b)) := by
  obtain ⟨as1, cs, rfl, HS⟩ := ints_form hs
  obtain ⟨av, cv, rfl, HV⟩ := hv
  have HSh := Lib.hid HS
  have HVh := Lib.hid HV
  have HTh := Lib.hid hW2
  clear HV hW2 HS hs
  by_cases hl : Ws.length = S.length
  · have hle : ((Ws.length : Int) != (S.length : Int)) = false := by rw [bne_eq_false_iff_eq]; omega
    have HL := Lib.hid hl
    clear hl
    go_enter Tryd.func24, Tryd.ntmps24
    go_wp2
    go_loopw [16] (fun i wr => ∃ j : Nat, j ≤ Ws.length ∧ i = .int .i64 j ∧ Hid (∀ k, k < j → okI S T Ws k = true) ∧ Below w.heap.size w wr) (fun i _ => Ws.length - (intOf i).toNat)
    case atStart => exact ⟨0, Nat.zero_le _, rfl, Lib.hid fun k hk => absurd hk (by omega), Below.refl _ _⟩
    case round =>
      obtain ⟨j, hj, rfl, HK, hB⟩ := hrel
      by_cases hlt : j < Ws.length
      · have hlt2 : (j : Int) < (Ws.length : Int) := by omega
        have hltS : (j : Int) < (S.length : Int) := by have := HL.out; omega
        obtain ⟨L, hx⟩ : ∃ L, Ws[j]? = some L := ⟨_, List.getElem?_eq_getElem hlt⟩
        obtain ⟨c, hc0⟩ : ∃ c, S[j]? = some c := ⟨_, List.getElem?_eq_getElem (by omega)⟩
        rcases HVh.out with h0 | ⟨g, rfl, hg, hc⟩
        · omega
        · rcases HSh.out with h0 | ⟨gs, rfl, hgs, hcs⟩
          · omega
          · obtain ⟨u, d0, hI⟩ := hc j L hx
            have d1 := (hB.cell (p := ⟨g, j, none⟩) hg).trans d0
            have dc := (hB.cell (p := ⟨gs, j, none⟩) hgs).trans (hcs j c hc0)
            obtain ⟨au, cu, rfl, HI⟩ := ints_form hI
            have HIh := Lib.hid HI
            have hLb := totW_one hx
            have hLb2 : L.length ≤ 2000000 := by have := HTh.out; omega
            have HOK : Hid (okI S T Ws j = (decide (L.length = T + 1) && decide (L[0]? = some c))) := Lib.hid (okI_at hx hc0)
            have HBB := Lib.hid hB
            have hb1 := (Below.refl wr.heap.size wr).alloc (Nat.le_refl _) (.cells #[.slice au L.length cu] 48)
            have d2 : (wr.alloc (.cells #[.slice au L.length cu] 48)).cell? ⟨wr.heap.size, 0, none⟩ = some (.slice au L.length cu) := by
              rw [cell_of_row _ _ _ _ _ _ (heap_alloc_new wr _)]; rfl
            have HBW := Lib.hid (HBB.out.trans (hb1.mono HBB.out.size))
            have dc2 : (wr.alloc (.cells #[.slice au L.length cu] 48)).cell? ⟨gs, j, none⟩ = some (.int .i64 c) := (HBW.out.cell (p := ⟨gs, j, none⟩) hgs).trans (hcs j c hc0)
            have hwr : IntKind.i64.wrap ((T : Int) + 1) = (T : Int) + 1 := IntWalk.i64_in _ (by omega)
            have HD0 := Lib.hid hc
            clear hI HI hc hcs hx hLb d0 hB hb1 hc0
            by_cases hlen : L.length = T + 1
            · obtain ⟨x, hx⟩ : ∃ x, L[0]? = some x := ⟨_, List.getElem?_eq_getElem (by omega)⟩
              have hln : ((L.length : Int) != (T : Int) + 1) = false := by
                rw [bne_eq_false_iff_eq]; omega
              rcases HIh.out with h0 | ⟨q, rfl, hq, hqc⟩
              · omega
              · have dx := (HBW.out.cell (p := ⟨q, 0, none⟩) hq).trans (hqc 0 x hx)
                have h0L : (0 : Int) < (L.length : Int) := by omega
                have HLN := Lib.hid hlen
                have HX := Lib.hid hx
                clear hqc hx hlen
                by_cases e : x = c
                · subst e
                  have hxx : (x != x) = false := by simp
                  go_wp2
                  go_quiet (fail)
                  go_wp2
                  go_roundw
                  case rel => exact ⟨j + 1, by omega, by go_num, Lib.hid fun k hk => (by
                    rcases Nat.lt_succ_iff_lt_or_eq.1 hk with h | h
                    · exact HK.out k h
                    · rw [h, HOK.out, HX.out, HLN.out]; simp), (by first | exact HBW.out | exact below_drewN HBW.out _)⟩
                  case measure => simp [intOf]; omega
                · have hxy : (x != c) = true := by simpa using e
                  go_wp2
                  go_quiet (fail)
                  go_wp2
                  have e2 : b = false := by
                    rw [← HF.out]
                    refine form_no hlt ?_
                    rw [HOK.out, HX.out]
                    simp [e]
                  subst e2
                  go_ret
                  exact ⟨rfl, (by first | exact HBW.out | exact below_drewN HBW.out _)⟩
            · have hln : ((L.length : Int) != (T : Int) + 1) = true := by
                rw [bne_iff_ne]; omega
              have HLN := Lib.hid hlen
              clear hlen
              go_wp2
              go_quiet (fail)
              go_wp2
              have e2 : b = false := by
                rw [← HF.out]
                refine form_no hlt ?_
                rw [HOK.out, decide_eq_false HLN.out]
                rfl
              subst e2
              go_ret
              exact ⟨rfl, (by first | exact HBW.out | exact below_drewN HBW.out _)⟩
      · obtain rfl : j = Ws.length := by omega
        have hnl : ¬ (Ws.length : Int) < (Ws.length : Int) := by omega
        have e : b = true := by rw [← HF.out]; exact form_yes HL.out HK.out
        subst e
        go_wp2
        go_ret
        exact ⟨rfl, hB⟩
  · have hle : ((Ws.length : Int) != (S.length : Int)) = true := by rw [bne_iff_ne]; omega
    have e : b = false := by rw [← HF.out]; exact form_len hl
    subst e
    go_enter Tryd.func24, Tryd.ntmps24
    go_wp2
    go_ret
    exact ⟨rfl, Below.refl _ _⟩

end Go.Proofs.YtnbbhdbcapfbkaaDoor

namespace Go.Proofs.YtnbbhdbcapfbkaaDoor
set_option maxRecDepth 4096

theorem sums_eq {α : Type} {f g : α → Nat} : ∀ {L : List α}, (∀ w ∈ L, f w ≤ g w) → (L.map f).sum = (L.map g).sum → ∀ w ∈ L, f w = g w
  | [], _, _, _, h => by cases h
  | a :: L, h, e, w, hw => by
    have h1 := h a (List.mem_cons_self ..)
    have key : ∀ {L : List α}, (∀ w ∈ L, f w ≤ g w) → (L.map f).sum ≤ (L.map g).sum := fun {L} => by
      induction L with
      | nil => exact fun _ => Nat.le_refl _
      | cons b L ih =>
        intro h
        have := ih fun w hw => h w (List.mem_cons_of_mem _ hw)
        have := h b (List.mem_cons_self ..)
        simp only [List.map_cons, List.sum_cons]
        omega
    have h2 := key (L := L) fun w hw => h w (List.mem_cons_of_mem _ hw)
    simp only [List.map_cons, List.sum_cons] at e
    rcases List.mem_cons.1 hw with rfl | hw
    · omega
    · exact sums_eq (fun w hw => h w (List.mem_cons_of_mem _ hw)) (by omega) w hw

section
variable {W H : Int} {C : ByteArray} {S G : List Int} {T : Nat} {Ws : List (List Int)}
theorem net_dst (hT : NetT (mapG W H C) (S.map (numG W H C))) : Dst (netG W H C S G T false) := hT.dst
/-! ### which hops are arcs -/
theorem hop_self {c : Int} {t : Nat} (hT : T ≤ 20) (hc : freeV W H C c = true) (ht : t ≤ T) : isHop (netG W H C S G T false) (ndV W H C c t, ndV W H C c t + 1) = true := by
  rw [nd_free hc (by omega)]
  exact isHop_iff.2 ⟨_, arc_self (numG_lt hc) ht, rfl⟩
theorem hop_start {c : Int} (hd : AskOkD W H C S G T) (hc : c ∈ S) : isHop (netG W H C S G T false) (0, ndV W H C c 0) = true := by
  rw [nd_free (hd.sf c hc) (by omega)]
  exact isHop_iff.2 ⟨_, mem_timeA.2 (.inl ⟨numG W H C c, List.mem_map_of_mem hc, rfl⟩), rfl⟩
theorem hop_free {c d : Int} {t : Nat} (hT : T ≤ 20) (hc : freeV W H C c = true) (ht : t < T) (h : isHop (netG W H C S G T false) (ndV W H C c t + 1, ndV W H C d (t + 1)) = true) : freeV W H C d = true := by
  obtain ⟨x, hx, e⟩ := isHop_iff.1 h
  rw [nd_free hc (by omega)] at e
  have e1 : x.f = (inN (mapG W H C).F (numG W H C c) t + 1 : Nat) := congrArg Prod.fst e
  have e2 : x.t = ndV W H C d (t + 1) := congrArg Prod.snd e
  rcases from_out (numG_lt hc) hx e1 with ⟨_, j, _, h2, _⟩ | ⟨h2, _⟩
  · cases hd : freeV W H C d with
    | true => rfl
    | false =>
      rw [e2, nd_no hd] at h2
      omega
  · omega
theorem hop_end {c : Int} (hT : T ≤ 20) (hc : freeV W H C c = true) : (G.contains c = true → isHop (netG W H C S G T false) (ndV W H C c T + 1, 1) = true) ∧ (G.contains c = false → isHop (netG W H C S G T false) (ndV W H C c T + 1, 2) = true) := by
  have hx : (⟨(inN (mapG W H C).F (numG W H C c) T + 1 : Nat), (if G.contains (cellG W H C (numG W H C c)) = true then 1 else 2 : Nat), 1, 0⟩ : ArcD) ∈ netG W H C S G T false := mem_timeA.2 (.inr (.inr (.inl ⟨_, numG_lt hc, rfl⟩)))
  rw [cellG_num hc] at hx
  rw [nd_free hc (by omega)]
  constructor
  · intro h
    rw [h] at hx
    exact isHop_iff.2 ⟨_, hx, rfl⟩
  · intro h
    rw [h] at hx
    exact isHop_iff.2 ⟨_, hx, rfl⟩
theorem hop_last : isHop (netG W H C S G T false) (2, 1) = true := isHop_iff.2 ⟨_, mem_timeA.2 (.inr (.inr (.inr rfl))), rfl⟩

/-- The ways are as many as the starts, begin there, and have cells for the times 0 to T. -/
def FormP (S : List Int) (T : Nat) (Ws : List (List Int)) : Prop := Ws.length = S.length ∧ ∀ (i : Nat) w c, Ws[i]? = some w → S[i]? = some c → w.length = T + 1 ∧ w[0]? = some c
theorem form_mem (hf : FormP S T Ws) {w : List Int} (hw : w ∈ Ws) : w.length = T + 1 ∧ ∃ c ∈ S, w[0]? = some c := by
  obtain ⟨i, hi, rfl⟩ := List.getElem_of_mem hw
  have h1 : S[i]? = some (S[i]'(by have := hf.1; omega)) := List.getElem?_eq_getElem _
  obtain ⟨h2, h3⟩ := hf.2 i _ _ (List.getElem?_eq_getElem hi) h1
  exact ⟨h2, _, List.mem_of_getElem? h1, h3⟩
theorem hopsW_T {w : List Int} (h : 0 < w.length) : hopsW W H C G w = ((0 : Int), ndV W H C (w[0]) 0) :: hopsT W H C G 0 w := by
  cases w with
  | nil => simp at h
  | cons c L => rfl
theorem outC_all (A : List ArcD) (v : Int) : outC A (hopsAll W H C G Ws) v = (Ws.map fun w => outC A (hopsW W H C G w) v).sum := by
  unfold outC hopsAll
  rw [List.countP_flatMap]
  rfl
theorem inC_all (A : List ArcD) (v : Int) : inC A (hopsAll W H C G Ws) v = (Ws.map fun w => inC A (hopsW W H C G w) v).sum := by
  unfold inC hopsAll
  rw [List.countP_flatMap]
  rfl
theorem mem_all {w : List Int} {h : Int × Int} (hw : w ∈ Ws) (hh : h ∈ hopsW W H C G w) : h ∈ hopsAll W H C G Ws := List.mem_flatMap.2 ⟨w, hw, hh⟩

variable (hd : AskOkD W H C S G T) (hT : NetT (mapG W H C) (S.map (numG W H C))) (hf : FormP S T Ws) (ok : flowOkV (nodesG W H C T false : Nat) (netG W H C S G T false) (unitsL (netG W H C S G T false) (hopsAll W H C G Ws)) = true)
include hd hT hf ok
/-- From a free cell each way steps over an arc. -/
theorem step_arc {w : List Int} (hw : w ∈ Ws) {t : Nat} {c d : Int} (ht : t < T) (hc : freeV W H C c = true) (h : w[t]? = some c) (h' : w[t + 1]? = some d) : isHop (netG W H C S G T false) (ndV W H C c t + 1, ndV W H C d (t + 1)) = true := by
  have h20 := hd.t20
  have hself := hop_self (S := S) (G := G) (t := t) h20 hc (by omega)
  obtain ⟨hn, _, _, hz⟩ := flowOk_out ok
  have hv := nd_free hc (t := t) (by omega)
  have h3 := inN_ge (mapG W H C).F (numG W H C c) t
  have hN : ((inN (mapG W H C).F (numG W H C c) t + 1 : Nat) : Int) < (nodesG W H C T false : Nat) := by
    obtain ⟨x, hx, e⟩ := isHop_iff.1 hself
    have e2 : x.t = ndV W H C c t + 1 := congrArg Prod.snd e
    have := (arcOk_out ((netOk_out hn).2.2 x hx)).2.1
    omega
  have h0 := hz (inN (mapG W H C).F (numG W H C c) t + 1) (by omega) hN
  rw [netO_split, out_units (net_dst hT), in_units (net_dst hT), outC_all, inC_all] at h0
  have hv1 : ((inN (mapG W H C).F (numG W H C c) t + 1 : Nat) : Int) = ndV W H C c t + 1 := by omega
  rw [hv1] at h0
  have hle : ∀ u ∈ Ws, outC (netG W H C S G T false) (hopsW W H C G u) (ndV W H C c t + 1) ≤ inC (netG W H C S G T false) (hopsW W H C G u) (ndV W H C c t + 1) := fun u hu => by
    obtain ⟨hl, _⟩ := form_mem hf hu
    rw [hopsW_T (by omega)]
    have h1 := hops_le (G := G) hc (by omega) hself (L := u) (u := 0) (by omega)
    have e1 : ¬ (0 : Int) = ndV W H C c t + 1 := by omega
    have e2 : ¬ ndV W H C (u[0]) 0 = ndV W H C c t + 1 := by
      rcases nd_odd (W := W) (H := H) (C := C) (u[0]) (t := 0) (by omega) with ⟨_, k⟩ | ⟨_, n, k⟩
      · omega
      · rw [k, hv]
        unfold inN
        omega
    unfold outC inC at h1 ⊢
    simp only [List.countP_cons, e1, e2, decide_false, Bool.false_and, Bool.false_eq_true, if_false, Nat.add_zero]
    exact h1
  have heq := sums_eq hle (by omega) w hw
  obtain ⟨hl, _⟩ := form_mem hf hw
  have hin : 0 < inC (netG W H C S G T false) (hopsW W H C G w) (ndV W H C c t + 1) := by
    unfold inC
    rw [List.countP_pos_iff]
    refine ⟨(ndV W H C c t, ndV W H C c t + 1), ?_, ?_⟩
    · rw [hopsW_T (by omega)]
      have := hops_self (W := W) (H := H) (C := C) (G := G) (t := 0) h
      rw [Nat.zero_add] at this
      exact List.mem_cons_of_mem _ this
    · rw [hself]
      simp
  rw [← heq] at hin
  unfold outC at hin
  rw [List.countP_pos_iff] at hin
  obtain ⟨k, hk, hp⟩ := hin
  rw [Bool.and_eq_true, decide_eq_true_eq] at hp
  obtain ⟨hp1, hp2⟩ := hp
  rw [hopsW_T (by omega)] at hk
  rcases List.mem_cons.1 hk with e | hk
  · rw [e] at hp1
    dsimp only at hp1
    omega
  · rcases hops_mem hk with ⟨i, a, ha, rfl⟩ | ⟨i, a, b, ha, hb, rfl⟩ | ⟨i, a, ha, hl2, hk⟩
    · dsimp only at hp1
      have := (List.getElem?_eq_some_iff.1 ha).1
      rcases nd_odd (W := W) (H := H) (C := C) a (t := 0 + i) (by omega) with ⟨_, k⟩ | ⟨_, n, k⟩
      · omega
      · rw [k, hv] at hp1
        unfold inN at hp1
        omega
    · dsimp only at hp1
      have := (List.getElem?_eq_some_iff.1 ha).1
      rw [Nat.zero_add] at hp1 hp2
      obtain ⟨rfl, rfl⟩ := nd_eq hc (by omega) (by omega) (by omega : ndV W H C a i = ndV W H C c t)
      rw [hb] at h'
      cases h'
      exact hp2
    · rw [Nat.zero_add] at hk
      have key : k.1 = ndV W H C a i + 1 → False := fun e => by
        obtain ⟨_, rfl⟩ := nd_eq hc (by omega) (by omega) (by omega : ndV W H C a i = ndV W H C c t)
        omega
      rcases hk with ⟨_, rfl⟩ | ⟨_, rfl | rfl⟩
      · exact absurd rfl key
      · exact absurd rfl key
      · dsimp only at hp1
        omega
theorem cells_free {w : List Int} (hw : w ∈ Ws) : ∀ (t : Nat) (c : Int), w[t]? = some c → freeV W H C c = true := by
  obtain ⟨hl, c0, hc0, h0⟩ := form_mem hf hw
  intro t
  induction t with
  | zero =>
    intro c h
    rw [h0] at h
    cases h
    exact hd.sf c0 hc0
  | succ t ih =>
    intro d h'
    have hlt := (List.getElem?_eq_some_iff.1 h').1
    have h : w[t]? = some (w[t]'(by omega)) := List.getElem?_eq_getElem _
    exact hop_free hd.t20 (ih _ h) (by omega) (step_arc hd hT hf ok hw (by omega) (ih _ h) h h')
theorem hops_arc : ∀ h ∈ hopsAll W H C G Ws, isHop (netG W H C S G T false) h = true := by
  intro h hh
  have h20 := hd.t20
  obtain ⟨w, hw, hh⟩ := List.mem_flatMap.1 hh
  obtain ⟨hl, c0, hc0, h0⟩ := form_mem hf hw
  rw [hopsW_T (by omega)] at hh
  rcases List.mem_cons.1 hh with rfl | hh
  · obtain ⟨_, e⟩ := List.getElem?_eq_some_iff.1 h0
    rw [e]
    exact hop_start hd hc0
  · rcases hops_mem hh with ⟨i, a, ha, rfl⟩ | ⟨i, a, b, ha, hb, rfl⟩ | ⟨i, a, ha, hl2, hk⟩
    · have := (List.getElem?_eq_some_iff.1 ha).1
      rw [Nat.zero_add]
      exact hop_self h20 (cells_free hd hT hf ok hw i a ha) (by omega)
    · have := (List.getElem?_eq_some_iff.1 hb).1
      rw [Nat.zero_add]
      exact step_arc hd hT hf ok hw (by omega) (cells_free hd hT hf ok hw i a ha) ha hb
    · have hi : i = T := by omega
      subst hi
      rw [Nat.zero_add] at hk
      have he := hop_end (S := S) (G := G) h20 (cells_free hd hT hf ok hw i a ha)
      rcases hk with ⟨hg, rfl⟩ | ⟨hg, rfl | rfl⟩
      · exact he.1 hg
      · exact he.2 hg
      · exact hop_last
/-- The flow has as many units as starts. -/
theorem units_size : netO ((netG W H C S G T false).zip (unitsL (netG W H C S G T false) (hopsAll W H C G Ws))) 0 = (S.length : Int) := by
  rw [netO_split, out_units (net_dst hT), in_units (net_dst hT)]
  have h20 := hd.t20
  have hin : inC (netG W H C S G T false) (hopsAll W H C G Ws) ((0 : Nat) : Int) = 0 := by
    unfold inC
    rw [List.countP_eq_zero]
    intro h _ e
    rw [Bool.and_eq_true, decide_eq_true_eq] at e
    obtain ⟨e1, e2⟩ := e
    obtain ⟨x, hx, rfl⟩ := isHop_iff.1 e2
    have e1 : x.t = 0 := e1
    rcases mem_timeA.1 hx with ⟨j, _, rfl⟩ | ⟨u, j, _, _, hx⟩ | ⟨j, _, rfl⟩ | rfl
    · have := inN_ge (mapG W H C).F j 0
      dsimp only at e1
      omega
    · have := cellA_to hx
      omega
    · dsimp only at e1
      split at e1 <;> omega
    · dsimp only at e1
      omega
  have hone : ∀ w ∈ Ws, outC (netG W H C S G T false) (hopsW W H C G w) ((0 : Nat) : Int) = 1 := fun w hw => by
    obtain ⟨hl, c0, hc0, h0⟩ := form_mem hf hw
    have ha := hops_arc hd hT hf ok
    rw [hopsW_T (by omega)]
    have h1 : isHop (netG W H C S G T false) (0, ndV W H C (w[0]) 0) = true := ha _ (mem_all hw (by rw [hopsW_T (by omega)]; exact List.mem_cons_self ..))
    unfold outC
    rw [List.countP_cons, h1, List.countP_eq_zero.2]
    · simp
    · intro h hh e
      rw [Bool.and_eq_true, decide_eq_true_eq] at e
      have e1 : h.1 = 0 := e.1
      rcases hops_mem hh with ⟨i, a, hia, rfl⟩ | ⟨i, a, b, hia, _, rfl⟩ | ⟨i, a, hia, hl2, hk⟩
      · have := (List.getElem?_eq_some_iff.1 hia).1
        have := nd_free (cells_free hd hT hf ok hw i a hia) (t := 0 + i) (by omega)
        have := inN_ge (mapG W H C).F (numG W H C a) (0 + i)
        dsimp only at e1
        omega
      · have := (List.getElem?_eq_some_iff.1 hia).1
        have := nd_free (cells_free hd hT hf ok hw i a hia) (t := 0 + i) (by omega)
        have := inN_ge (mapG W H C).F (numG W H C a) (0 + i)
        dsimp only at e1
        omega
      · have := nd_free (cells_free hd hT hf ok hw i a hia) (t := 0 + i) (by omega)
        have := inN_ge (mapG W H C).F (numG W H C a) (0 + i)
        rcases hk with ⟨_, rfl⟩ | ⟨_, rfl | rfl⟩ <;> (dsimp only at e1; omega)
  rw [hin, outC_all, List.map_congr_left hone]
  have h1 := hf.1
  simp only [List.map_const', List.sum_replicate_nat, Nat.mul_one]
  omega
/-- The flow's ways are the given ones. -/
theorem units_back : Ws = S.map (wayG W H C (netG W H C S G T false) (unitsL (netG W H C S G T false) (hopsAll W H C G Ws)) T) := by
  have h20 := hd.t20
  have ha := hops_arc hd hT hf ok
  have hrun : ∀ w ∈ Ws, ∀ h ∈ hopsW W H C G w, Runs ((netG W H C S G T false).zip (unitsL (netG W H C S G T false) (hopsAll W H C G Ws))) h.1 h.2 := fun w hw h hh => runs_units (mem_all hw hh) (ha h (mem_all hw hh))
  have key : ∀ w ∈ Ws, ∀ d t c, t + d = T → w[t]? = some c → (wayK (mapG W H C) (netG W H C S G T false) (unitsL (netG W H C S G T false) (hopsAll W H C G Ws)) T d (numG W H C c)).map (cellG W H C) = w.drop t := by
    intro w hw d
    have hl := (form_mem hf hw).1
    induction d with
    | zero =>
      intro t c ht h
      obtain ⟨hi, e⟩ := List.getElem?_eq_some_iff.1 h
      have hc := cells_free hd hT hf ok hw t c h
      rw [List.drop_eq_getElem_cons hi, e, List.drop_of_length_le (by omega)]
      simp [wayK, cellG_num hc]
    | succ d ih =>
      intro t c ht h
      obtain ⟨hi, e⟩ := List.getElem?_eq_some_iff.1 h
      have hc := cells_free hd hT hf ok hw t c h
      have h' : w[t + 1]? = some (w[t + 1]'(by omega)) := List.getElem?_eq_getElem _
      have hc' := cells_free hd hT hf ok hw (t + 1) _ h'
      have r1 := hrun w hw (ndV W H C c t, ndV W H C c t + 1) (by
        rw [hopsW_T (by omega)]
        have := hops_self (W := W) (H := H) (C := C) (G := G) (t := 0) h
        rw [Nat.zero_add] at this
        exact List.mem_cons_of_mem _ this)
      have r2 := hrun w hw (ndV W H C c t + 1, ndV W H C (w[t + 1]) (t + 1)) (by
        rw [hopsW_T (by omega)]
        have := hops_step (W := W) (H := H) (C := C) (G := G) (t := 0) h h'
        rw [Nat.zero_add] at this
        exact List.mem_cons_of_mem _ this)
      dsimp only at r1 r2
      rw [nd_free hc (by omega)] at r1 r2
      rw [nd_free hc' (by omega)] at r2
      have hn := nextK_eq hT ok (numG_lt hc) (by omega : t < T) (numG_lt hc') r1 r2
      rw [wayK, List.map_cons, show T - (d + 1) = t by omega]
      rw [show nextK (mapG W H C) (netG W H C S G T false) (unitsL (netG W H C S G T false) (hopsAll W H C G Ws)) t (numG W H C c) = numG W H C (w[t + 1]) from hn, ih (t + 1) _ (by omega) h', cellG_num hc, List.drop_eq_getElem_cons hi, e]
  apply List.ext_getElem?
  intro i
  by_cases hi : i < Ws.length
  · have h1 : Ws[i]? = some Ws[i] := List.getElem?_eq_getElem hi
    have h2 : S[i]? = some (S[i]'(by have := hf.1; omega)) := List.getElem?_eq_getElem _
    rw [List.getElem?_map, h1, h2]
    obtain ⟨_, h3⟩ := hf.2 i _ _ h1 h2
    have := key _ (List.mem_of_getElem? h1) T 0 _ (by omega) h3
    rw [List.drop_zero] at this
    unfold wayG
    rw [Option.map_some, this]
  · have := hf.1
    rw [List.getElem?_eq_none (by omega), List.getElem?_eq_none (by simp; omega)]
end

end Go.Proofs.YtnbbhdbcapfbkaaDoor

namespace Go.Proofs.YtnbbhdbcapfbkaaDoor
set_option maxRecDepth 4096
open Go.ChangeShapes Go.WideShapes Go.ChangeAt Go.RowKit

section
variable {S : List Int} {T : Nat} {Ws : List (List Int)}
theorem formV_iff : formV S T Ws = true ↔ FormP S T Ws := by
  unfold formV FormP
  rw [Bool.and_eq_true, decide_eq_true_eq, List.all_eq_true]
  constructor
  · rintro ⟨h1, h2⟩
    refine ⟨h1, fun i w c hw hc => ?_⟩
    have := h2 i (List.mem_range.2 (List.getElem?_eq_some_iff.1 hw).1)
    rw [okI_at hw hc, Bool.and_eq_true, decide_eq_true_eq, decide_eq_true_eq] at this
    exact this
  · rintro ⟨h1, h2⟩
    refine ⟨h1, fun i hi => ?_⟩
    have hi := List.mem_range.1 hi
    have hw : Ws[i]? = some Ws[i] := List.getElem?_eq_getElem hi
    have hc : S[i]? = some (S[i]'(by omega)) := List.getElem?_eq_getElem _
    have := h2 i _ _ hw hc
    rw [okI_at hw hc, this.1, this.2]
    simp
end

end Go.Proofs.YtnbbhdbcapfbkaaDoor

namespace Go.Proofs.YtnbbhdbcapfbkaaDoor
set_option maxRecDepth 4096
open Go.ChangeShapes Go.WideShapes Go.ChangeAt Go.RowKit

theorem implRange (x lo hi : Int) (b : Bool) (HB : Hid ((decide (lo ≤ x) && decide (x ≤ hi)) = b)) (w : World) :
    Calls Tryd.prog 49 #[.int .i64 x, .int .i64 lo, .int .i64 hi] w fun e w' => e = .returned (.bool b) ∧ w = w' := by
  by_cases h1 : lo ≤ x
  · by_cases h2 : x ≤ hi
    · have e : b = true := by rw [← HB.out]; simp [h1, h2]
      subst e
      clear HB
      go_enter Tryd.func49, Tryd.ntmps49
      go_wp2
      go_ret
      exact ⟨rfl, rfl⟩
    · have e : b = false := by rw [← HB.out]; simp [h2]
      subst e
      clear HB
      go_enter Tryd.func49, Tryd.ntmps49
      go_wp2
      go_ret
      exact ⟨rfl, rfl⟩
  · have e : b = false := by rw [← HB.out]; simp [h1]
    subst e
    clear HB
    go_enter Tryd.func49, Tryd.ntmps49
    go_wp2
    go_ret
    exact ⟨rfl, rfl⟩

end Go.Proofs.YtnbbhdbcapfbkaaDoor

