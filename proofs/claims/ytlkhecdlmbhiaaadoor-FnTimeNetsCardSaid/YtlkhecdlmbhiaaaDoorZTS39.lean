/-
  CONTRACT of the program's augmentingPath: a search that is left by a goto. No law is proved here.
-/
import Derived.Test.YtlkhecdlmbhiaaaDoorZTS38
import Derived.WalkMore
import Derived.ScopeJumps
namespace Go.Proofs.YtlkhecdlmbhiaaaDoor
set_option maxRecDepth 4096
open Go.ChangeShapes Go.WideShapes Go.ChangeAt Go.RowKit

def ptrO : Option Nat → Value
  | none => .pointer none
  | some b => ptrV b
def rowP (I : Nat → Option Nat) (n : Nat) : List Value := (List.range n).map fun v => ptrO (I v)
theorem rowP_len (I : Nat → Option Nat) (n : Nat) : (rowP I n).length = n := by simp [rowP]
theorem rowP_at (I : Nat → Option Nat) {n c : Nat} (h : c < n) : (rowP I n)[c]? = some (ptrO (I c)) := by simp [rowP, h]
theorem rowP_none (n : Nat) : List.replicate n (Value.pointer none) = rowP (fun _ => none) n := by
  unfold rowP
  rw [List.map_const', List.length_range]
  rfl
def addI (I : Nat → Option Nat) (t b v : Nat) : Option Nat := if v = t then some b else I v
theorem rowP_set (I : Nat → Option Nat) {n c : Nat} (b : Nat) : (rowP I n).set c (ptrV b) = rowP (addI I c b) n := by
  apply List.ext_getElem?
  intro j
  rw [List.getElem?_set]
  by_cases hj : j < n
  · rw [rowP_at _ hj, rowP_at _ hj]
    unfold addI
    by_cases e : c = j
    · subst e
      rw [if_pos rfl, if_pos (by rw [rowP_len]; exact hj), if_pos rfl]
      rfl
    · rw [if_neg e, if_neg (fun h => e h.symm)]
  · have h1 : ∀ I : Nat → Option Nat, (rowP I n)[j]? = none := fun I => List.getElem?_eq_none_iff.2 (by rw [rowP_len]; omega)
    rw [h1, h1]
    split
    · rw [if_neg (by rw [rowP_len]; omega)]
    · rfl
theorem own_ptrO {w : World} {B : Nat} {e : TypeId} {g n c cap : Nat} {I : Nat → Option Nat} (h : w.ownsRow B e 1 (.slice (some ⟨g, 0, none⟩) n cap) n (rowP I n)) (hc : c < n) : w.cell? ⟨g, c, none⟩ = some (ptrO (I c)) := by
  have := h.cells (g := g) rfl c _ (rowP_at I hc)
  have hadd : (⟨g, 0, none⟩ : Addr).add c = ⟨g, c, none⟩ := by unfold Addr.add; split <;> simp_all
  rwa [hadd] at this
/-- Which nodes were found: node 0, and those with an arc that leads to them. -/
def oI (I : Nat → Option Nat) (v : Nat) : Bool := decide (v = 0) || (I v).isSome
theorem oI_add (I : Nat → Option Nat) (t b : Nat) : oI (addI I t b) = addO (oI I) t := by
  funext v
  unfold oI addI addO
  by_cases e : v = t <;> simp [e]
theorem oI_start : oI (fun _ => none) = addO (fun _ => false) 0 := by
  funext v
  unfold oI addO
  simp
/-- Each arc that leads to a node comes from one that was found before. -/
structure Tree (A : List ArcD) (F : List Int) (X : List (Nat × Nat)) (n : Nat) (I : Nat → Option Nat) (ρ : Nat → Nat) : Prop where
  zero : I 0 = none
  par : ∀ v b, I v = some b → ∃ u, Hop A F X 1 u v b ∧ u < n ∧ (u = 0 ∨ ∃ b', I u = some b') ∧ ρ u < ρ v
def Into (A : List ArcD) (F : List Int) (X : List (Nat × Nat)) (I : Nat → Option Nat) (Q : List Nat) : Prop :=
  I 0 = none ∧ ∀ v b, I v = some b → ∃ u, Hop A F X 1 u v b ∧ u ∈ Q ∧ Q.idxOf u < Q.idxOf v
section
variable {A : List ArcD} {F : List Int} {X : List (Nat × Nat)} {n : Nat} {I : Nat → Option Nat} {Q : List Nat} {P : List (ArcD × Int)} {I' : Nat → Option Nat}
theorem Into.start : Into A F X (fun _ => none) Q := ⟨rfl, fun v b h => by cases h⟩
theorem Into.sink {u t b : Nat} (h : Into A F X I Q) (hu : u ∈ Q) (ht : t ∉ Q) (h0 : t ≠ 0) (hh : Hop A F X 1 u t b) : Into A F X (addI I t b) Q := by
  refine ⟨by unfold addI; rw [if_neg (fun e => h0 e.symm)]; exact h.1, fun v b' hv => ?_⟩
  unfold addI at hv
  by_cases e : v = t
  · rw [if_pos e] at hv
    cases hv
    subst e
    refine ⟨u, hh, hu, ?_⟩
    rw [List.idxOf_eq_length ht]
    exact List.idxOf_lt_length_of_mem hu
  · rw [if_neg e] at hv
    exact h.2 v b' hv
theorem Into.grow {t : Nat} (h : Into A F X I Q) : Into A F X I (Q ++ [t]) := by
  refine ⟨h.1, fun v b hv => ?_⟩
  obtain ⟨u, h1, h2, h3⟩ := h.2 v b hv
  refine ⟨u, h1, List.mem_append_left _ h2, ?_⟩
  rw [List.idxOf_append, List.idxOf_append, if_pos h2]
  split
  · exact h3
  · have := List.idxOf_lt_length_of_mem h2
    omega
theorem Into.tree (h : Into A F X I Q) (hF : Find P n (oI I') Q) (hI : ∀ v b, I' v = some b → ∃ b, I v = some b) : Tree A F X n I (fun v => Q.idxOf v) := by
  refine ⟨h.1, fun v b hv => ?_⟩
  obtain ⟨u, h1, h2, h3⟩ := h.2 v b hv
  obtain ⟨h4, h5⟩ := hF.on u h2
  refine ⟨u, h1, h5, ?_, h3⟩
  unfold oI at h4
  simp only [Bool.or_eq_true, decide_eq_true_eq] at h4
  rcases h4 with h4 | h4
  · exact .inl h4
  · obtain ⟨b', hb'⟩ := Option.isSome_iff_exists.1 h4
    exact .inr (hI u b' hb')
end

/-- The memory of the search. -/
structure SI (w : World) (n : Nat) (I : Nat → Option Nat) (va : Value) (Q : List Nat) (wr : World) : Prop where
  row : wr.ownsRow w.heap.size 107 1 (.slice (some ⟨w.heap.size, 0, none⟩) n n) n (rowP I n)
  lst : wr.ownsRow w.heap.size 3 1 va Q.length ((Q.map Int.ofNat).map (Value.int .i64))
  below : Below w.heap.size w wr
section
variable {w wr : World} {n : Nat} {I : Nat → Option Nat} {va : Value} {Q : List Nat}
theorem SI.mark (h : SI w n I va Q wr) (c b : Nat) : SI w n (addI I c b) va Q (wr.setCell ⟨w.heap.size, c, none⟩ (ptrV b)) := by
  obtain ⟨h1, h2⟩ := h.row.stored c (ptrV b)
  rw [rowP_set] at h1
  exact ⟨h1, h.lst.kept h2 (own_types h.lst h.row (by decide)), h.below.grown h2 h.below.size (fun j hj => by cases hj; exact Nat.le_refl _)⟩
theorem SI.alloc (h : SI w n I va Q wr) (b : Obj) : SI w n I va Q (wr.alloc b) := ⟨h.row.alloc b, h.lst.alloc b, h.below.alloc h.below.size b⟩
theorem SI.app (h : SI w n I va Q wr) {b : Obj} {w6 : World} {v' : Value} {t : Nat} (hown : w6.ownsRow w.heap.size 3 1 v' (Q.length + 1) ((Q.map Int.ofNat).map (Value.int .i64) ++ [(t : Int)].map (Value.int .i64))) (hg : (wr.alloc b).grownBy w6 va.ownBlock) :
    SI w n I v' (Q ++ [t]) w6 := by
  have ha := h.alloc b
  have e1 : (Q ++ [t]).length = Q.length + 1 := by simp
  have e2 : ((Q ++ [t]).map Int.ofNat).map (Value.int .i64) = (Q.map Int.ofNat).map (Value.int .i64) ++ [(t : Int)].map (Value.int .i64) := by simp
  refine ⟨ha.row.kept hg (own_types ha.row ha.lst (by decide)), ?_, ha.below.grown hg ha.below.size (fun j e => (ha.lst.lt j e).1)⟩
  rw [e1, e2]
  exact hown
theorem SI.found (h : SI w n I va Q wr) {c : Nat} (hc : c < n) : wr.cell? ⟨w.heap.size, c, none⟩ = some (ptrO (I c)) := own_ptrO h.row hc
end

theorem made_rowP {w1 : World} {B : Nat} {g n : Nat} (h : w1.ownsRow B 107 1 (.slice (some ⟨g, 0, none⟩) n n) n (madeCells (Value.pointer none).cells (n * 1)).toList) :
    w1.ownsRow B 107 1 (.slice (some ⟨g, 0, none⟩) n n) n (rowP (fun _ => none) n) := by
  have e : (madeCells (Value.pointer none).cells (n * 1)).toList = rowP (fun _ => none) n := by
    rw [Nat.mul_one]
    exact (toList_madeCells_one _ _).trans (rowP_none n)
  rwa [e] at h
theorem ptr_new_at2 {w : World} {m : Nat} (h : w.heap.size = m) (b : Nat) (t : TypeId) : ∀ j u, ([b].map ptrV)[j]? = some u → (w.alloc (.cells #[.pointer (some ⟨b, 0, none⟩)] t)).cell? ((⟨m, 0, none⟩ : Addr).add j) = some u := by
  subst h
  exact ptr_newd w b t
/-- The memory of the way back. -/
structure PI (w : World) (n : Nat) (I : Nat → Option Nat) (vp : Value) (L : List Nat) (wr : World) : Prop where
  row : wr.ownsRow w.heap.size 107 1 (.slice (some ⟨w.heap.size, 0, none⟩) n n) n (rowP I n)
  lst : wr.ownsRow (w.heap.size + 1) 107 1 vp L.length (L.map ptrV)
  below : Below w.heap.size w wr
theorem PI.app {w wr w6 : World} {n b : Nat} {I : Nat → Option Nat} {vp v' : Value} {L : List Nat} {o : Obj} (h : PI w n I vp L wr) (hown : w6.ownsRow (w.heap.size + 1) 107 1 v' (L.length + 1) (L.map ptrV ++ [b].map ptrV)) (hg : (wr.alloc o).grownBy w6 vp.ownBlock) : PI w n I v' (L ++ [b]) w6 := by
  have e1 : (L ++ [b]).length = L.length + 1 := by simp
  have e2 : (L ++ [b]).map ptrV = L.map ptrV ++ [b].map ptrV := by simp
  have hb := h.below.alloc h.below.size o
  refine ⟨(h.row.alloc o).kept hg (.inr fun e => ?_), ?_, hb.grown hg hb.size (fun j e => ?_)⟩
  · have := (h.lst.lt w.heap.size e.symm).1
    omega
  · rw [e1, e2]
    exact hown
  · have := (h.lst.lt j e).1
    omega
/-- A frame of 79 slots, written out. -/
theorem frame79 (xs : List Value) (hl : xs.length = 79) : ({ tmps := xs.toArray, defers := [] } : Act) = (fun f : Nat → Value => ({ tmps := #[f 0, f 1, f 2, f 3, f 4, f 5, f 6, f 7, f 8, f 9, f 10, f 11, f 12, f 13, f 14, f 15, f 16, f 17, f 18, f 19, f 20, f 21, f 22, f 23, f 24, f 25, f 26, f 27, f 28, f 29, f 30, f 31, f 32, f 33, f 34, f 35, f 36, f 37, f 38, f 39, f 40, f 41, f 42, f 43, f 44, f 45, f 46, f 47, f 48, f 49, f 50, f 51, f 52, f 53, f 54, f 55, f 56, f 57, f 58, f 59, f 60, f 61, f 62, f 63, f 64, f 65, f 66, f 67, f 68, f 69, f 70, f 71, f 72, f 73, f 74, f 75, f 76, f 77, f 78], defers := [] } : Act)) (fun i => xs.getD i undef) := by
  have e : xs = (List.range 79).map (fun i => xs.getD i undef) := by
    apply List.ext_getElem?
    intro j
    by_cases hj : j < 79
    · rw [List.getElem?_map, List.getElem?_range hj, List.getElem?_eq_getElem (by omega)]
      simp [List.getD_eq_getElem?_getD, List.getElem?_eq_getElem (show j < xs.length by omega)]
    · rw [List.getElem?_eq_none_iff.2 (by omega), List.getElem?_eq_none_iff.2 (by simp; omega)]
  exact congrArg (fun l : List Value => ({ tmps := l.toArray, defers := [] } : Act)) e

set_option maxHeartbeats 4000000 in
theorem implPath (n : Nat) (A : List ArcD) (F : List Int) (B G : Nat) (S : Nat → Value) (X : List (Nat × Nat)) (hok : flowOkV n A F = true) (w : World) (hR : RN B w G n A F S X) :
    Calls Tryd.prog 38 #[.slice (some ⟨G, 0, none⟩) n n] w fun e w' => ∃ L v', e = .returned v' ∧ w'.ownsRow w.heap.size 107 1 v' L.length (L.map ptrV) ∧ Below w.heap.size w w' ∧
      ((L = [] ∧ v' = .slice none 0 0 ∧ reachedB A F 1 = false) ∨ ∃ ρ, Way A F X 1 ρ L 1 ∧ L.length ≤ n) := by
  obtain ⟨i0, hi, hz0, hz1, hz2⟩ := info_parts Tryd.infoPtr
  obtain ⟨i1, hi1, hz10, hz11, hz12⟩ := info_parts Tryd.info3
  obtain ⟨hn, hF, _, _⟩ := flowOk_out hok
  obtain ⟨⟨hN1, hN2⟩, hA, hokA⟩ := netOk_out hn
  have hn0 : (0 : Int) < (n : Int) := by omega
  have hn1 : 1 < n := by omega
  have HRG := Lib.hid (hR.rg hF hokA)
  have HXL := Lib.hid hR.len
  have HBOX := Lib.hid hR.box
  have HNT := Lib.hid hn
  have HOK := Lib.hid hokA
  have HLF := Lib.hid hF
  clear hn hR hF hokA hok
  generalize hbs : bsL (A.zip X) = bs at HRG
  have HBS := Lib.hid hbs
  clear hbs
  go_enter Tryd.func38, Tryd.ntmps38
  go_wp2_with fail
  obtain ⟨J, HJ⟩ : ∃ J : Act → World → Prop, Hid (J = fun a' wr => ∃ f : Nat → Value, a' = { tmps := #[f 0, f 1, f 2, f 3, f 4, f 5, f 6, f 7, f 8, f 9, f 10, f 11, f 12, f 13, f 14, f 15, f 16, f 17, f 18, f 19, f 20, f 21, f 22, f 23, f 24, f 25, f 26, f 27, f 28, f 29, f 30, f 31, f 32, f 33, f 34, f 35, f 36, f 37, f 38, f 39, f 40, f 41, f 42, f 43, f 44, f 45, f 46, f 47, f 48, f 49, f 50, f 51, f 52, f 53, f 54, f 55, f 56, f 57, f 58, f 59, f 60, f 61, f 62, f 63, f 64, f 65, f 66, f 67, f 68, f 69, f 70, f 71, f 72, f 73, f 74, f 75, f 76, f 77, f 78], defers := [] } ∧ f 3 = .slice (some ⟨w.heap.size, 0, none⟩) n n ∧ ∃ (I : Nat → Option Nat) (ρ : Nat → Nat), Hid (Tree A F X n I ρ) ∧ (∃ b, I 1 = some b) ∧ ρ 1 ≤ n ∧ wr.ownsRow w.heap.size 107 1 (.slice (some ⟨w.heap.size, 0, none⟩) n n) n (rowP I n) ∧ Below w.heap.size w wr) := ⟨_, Lib.hid rfl⟩
  refine wp_scope_jumps 0 J (fun _ _ => 0) rfl ?_ ?_
  · go_wp2_with (at_make; go_loud (refine wpList_make_full _ rfl (.tmp 11) (.tmp 11) 77 rfl w.heap.size 107 i0 (.pointer none) 1 Tryd.underlying77 hi hz0 hz1 .i64 .i64 n n n rfl rfl rfl rfl (by rw [hz2]; omega) (by unfold maxLen; omega) (Nat.le_refl _) ?_); intro w2 hrow hg2; have hB2 := (Below.refl w.heap.size w).grown hg2 (Nat.le_refl _) (fun j hj => (by cases hj)); have HR1 := Lib.hid hrow; have HB2 := Lib.hid hB2; clear hrow hg2 hB2)
    have HS0 : Hid (SI w n (fun _ => none) (.slice (some ⟨w2.heap.size, 0, none⟩) 1 1) [0] (w2.alloc (.cells #[.int .i64 0] 3))) := Lib.hid (by
      refine ⟨(made_rowP HR1.out).alloc _, ?_, HB2.out.alloc HB2.out.size _⟩
      exact World.ownsRow_lit (base := w.heap.size) (e := 3) (size := 1) _ #[.int .i64 0] 1 HB2.out.size (by decide) rfl)
    clear HR1
    go_loopw [4, 5] (fun va i wr => ∃ (k : Nat) (I : Nat → Option Nat) (Q : List Nat), i = .int .i64 k ∧ k ≤ Q.length ∧ Hid (I 1 = none) ∧ Hid (Into A F X I Q) ∧ Hid (Find (A.zip F) n (oI I) Q) ∧ Hid (∀ x ∈ Q.take k, doneL (oI I) (resL (A.zip F) x)) ∧ SI w n I va Q wr) (fun _ i _ => n - (intOf i).toNat)
    case atStart => exact ⟨0, _, [0], rfl, by simp, Lib.hid rfl, Lib.hid Into.start, Lib.hid (by rw [oI_start]; exact Find.start (by omega)), Lib.hid (by simp), by simpa using HS0.out⟩
    case round =>
      clear HS0 HB2
      obtain ⟨k, I, Q, rfl, hk, HI1, HIN, HFD, HDN, hS⟩ := hrel
      obtain ⟨aq, cq, rfl⟩ := own_form hS.lst
      have hQl := HFD.out.len
      by_cases hlt : k < Q.length
      · obtain ⟨u, hu⟩ : ∃ u, Q[k]? = some u := ⟨_, List.getElem?_eq_getElem hlt⟩
        have hun : u < n := (HFD.out.on u (List.mem_of_getElem? hu)).2
        obtain ⟨gq, cq', hq⟩ := own_at2 hS.lst (by omega)
        injection hq with hq1 _ hq2
        subst hq1 hq2
        have d0 : wr.cell? ⟨gq, k, none⟩ = some (.int .i64 (u : Int)) := own_int hS.lst (by rw [List.getElem?_map, hu]; rfl)
        have d1 := (HRG.out.below hS.below).at_row hun
        obtain ⟨au, cu, hSu⟩ := own_form (HRG.out.own u hun)
        rw [hSu] at d1
        have hlen := HRG.out.len u hun
        have hbl : (bs u).length ≤ 6400 := by
          have := resL_len (A.zip F) u
          have h2 : (A.zip F).length ≤ A.length := by rw [List.length_zip]; omega
          omega
        have hlt2 : (k : Int) < (Q.length : Int) := by omega
        have hun2 : (u : Int) < (n : Int) := by omega
        have HU := Lib.hid hu
        have HSU := Lib.hid hSu
        have HS := Lib.hid hS
        have HLEN := Lib.hid hlen
        clear hu hSu hS hlen
        go_wp2_with fail
        go_loopw [4, 28] (fun va j wq => ∃ (m : Nat) (I' : Nat → Option Nat) (Q' : List Nat), j = .int .i64 m ∧ m ≤ (bs u).length ∧ Q <+: Q' ∧ Hid (I' 1 = none) ∧ Hid (Into A F X I' Q') ∧ Hid (∀ v, oI I v = true → oI I' v = true) ∧ Hid (Find (A.zip F) n (oI I') Q') ∧ Hid (doneL (oI I') ((resL (A.zip F) u).take m)) ∧ SI w n I' va Q' wq) (fun _ j _ => (bs u).length - (intOf j).toNat)
        case atStart => exact ⟨0, I, Q, rfl, Nat.zero_le _, List.prefix_refl _, HI1, HIN, Lib.hid (fun v h => h), HFD, Lib.hid (by rw [List.take_zero]; intro e he; cases he), HS.out⟩
        case round =>
          clear HS d0 d1 HI1 HIN
          obtain ⟨m, I', Q', rfl, hm, hpre, HI1, HIN, HM, HFD', HD', hS⟩ := hrel
          have hRm := HRG.out.below hS.below
          by_cases hmlt : m < (bs u).length
          · obtain ⟨b, hb⟩ : ∃ b, (bs u)[m]? = some b := ⟨_, List.getElem?_eq_getElem hmlt⟩
            obtain ⟨⟨t, z⟩, he⟩ : ∃ e, (resL (A.zip F) u)[m]? = some e := ⟨_, List.getElem?_eq_getElem (by have := HLEN.out; omega)⟩
            have htn : t < n := resL_node HNT.out (List.mem_of_getElem? he)
            have hE := hRm.edge u hun m _ b he hb
            have HEd := Lib.hid hE
            obtain ⟨rb, kc, l', kc', q, h1, h2⟩ := hE
            obtain ⟨_, k1, k2⟩ := boxR_cells h1
            obtain ⟨k3, _, _⟩ := boxR_cells h2
            dsimp only at k1 k3
            obtain ⟨ga, ca, hga⟩ := own_at2 (HRG.out.own u hun) (by omega)
            have hga2 := HSU.out.symm.trans hga
            injection hga2 with hga3 _ hga4
            subst hga3 hga4
            have d0 := own_ptr (by have := hRm.own u hun; rw [hga] at this; exact this) hb
            have d1 := hS.found htn
            have hm2 : (m : Int) < ((bs u).length : Int) := by omega
            have htn2 : (t : Int) < (n : Int) := by omega
            have HE := Lib.hid he
            have HB := Lib.hid hb
            have HS := Lib.hid hS
            have HGA := Lib.hid hga
            have huQ : u ∈ Q' := hpre.subset (List.mem_of_getElem? HU.out)
            have HUQ := Lib.hid huQ
            have HRu : Hid (Res (A.zip F) u) := Lib.hid (HFD'.out.good.res u (HM.out u (HFD.out.on u (List.mem_of_getElem? HU.out)).1))
            clear h1 h2 hb he hga hRm huQ
            cases hz : decide (0 < z) with
            | false =>
              have HZ := Lib.hid hz
              have hD2 : Hid (doneL (oI I') ((resL (A.zip F) u).take (m + 1))) := Lib.hid (done_step HD'.out HE.out (fun h => by have := of_decide_eq_false HZ.out; exact absurd h this))
              clear hz hS
              go_wp2_with (go_at_call 68; refine (implOpen b z false HZ.out _ (by assumption)).mono ?_; rintro e w' ⟨rfl, rfl⟩)
              go_roundw
              case rel => exact ⟨m + 1, I', Q', by go_num, by omega, hpre, HI1, HIN, HM, HFD', hD2, HS.out⟩
              case measure => simp [intOf]; omega
            | true =>
              have HZ := Lib.hid hz
              cases ho : oI I' t with
              | true =>
                have HO := Lib.hid ho
                have hD2 : Hid (doneL (oI I') ((resL (A.zip F) u).take (m + 1))) := Lib.hid (done_step HD'.out HE.out (fun _ => HO.out))
                have hor : t = 0 ∨ ∃ b', I' t = some b' := by
                  unfold oI at ho
                  simp only [Bool.or_eq_true, decide_eq_true_eq] at ho
                  exact ho.imp (fun h => h) (fun h => Option.isSome_iff_exists.1 h)
                clear hz ho hS
                by_cases ht0 : t = 0
                · subst ht0
                  clear hor d1
                  go_wp2_with (first
                    | (go_at_call 68; refine (implOpen b z true HZ.out _ (by assumption)).mono ?_; rintro e w' ⟨rfl, rfl⟩)
                    | (go_at_call 69; refine (implTo b rb (0 : Nat) _ (by assumption) (by assumption)).mono ?_; rintro e w' ⟨rfl, rfl⟩))
                  go_roundw
                  case rel => exact ⟨m + 1, I', Q', by go_num, by omega, hpre, HI1, HIN, HM, HFD', hD2, HS.out⟩
                  case measure => simp [intOf]; omega
                · obtain ⟨b', hb'⟩ := hor.resolve_left ht0
                  rw [hb'] at d1
                  change _ = some (Value.pointer (some ⟨b', 0, none⟩)) at d1
                  have ht1 : ¬ (t : Int) = 0 := by omega
                  clear hb'
                  go_wp2_with (first
                    | (go_at_call 68; refine (implOpen b z true HZ.out _ (by assumption)).mono ?_; rintro e w' ⟨rfl, rfl⟩)
                    | (go_at_call 69; refine (implTo b rb t _ (by assumption) (by assumption)).mono ?_; rintro e w' ⟨rfl, rfl⟩))
                  go_roundw
                  case rel => exact ⟨m + 1, I', Q', by go_num, by omega, hpre, HI1, HIN, HM, HFD', hD2, HS.out⟩
                  case measure => simp [intOf]; omega
              | false =>
                have HO := Lib.hid ho
                have ht0 : t ≠ 0 := by
                  intro e
                  subst e
                  simp [oI] at ho
                have hIt : I' t = none := by
                  unfold oI at ho
                  simp only [Bool.or_eq_false_iff] at ho
                  exact Option.not_isSome_iff_eq_none.1 (by rw [ho.2]; simp)
                rw [hIt] at d1
                change _ = some (Value.pointer none) at d1
                have ht1 : ¬ (t : Int) = 0 := by omega
                have f1 := hS.row.frozenAt t
                have hSm := hS.mark t b
                obtain ⟨rb2, kc2, l2, kc3, q2, h1, h2⟩ := HEd.out.grown (hS.row.stored t (ptrV b)).2 (notBox_own hS.row (by decide))
                obtain ⟨_, _, k4⟩ := boxR_cells h1
                obtain ⟨k5, _, _⟩ := boxR_cells h2
                dsimp only at k5
                unfold ptrV at k4 k5 hSm
                change SI w n (addI I' t b) _ Q' (wr.setCell ⟨w.heap.size, t, none⟩ (.pointer (some ⟨b, 0, none⟩))) at hSm
                have HSm := Lib.hid hSm
                obtain ⟨aq', cq', hq'⟩ := own_form hSm.lst
                subst hq'
                have hHs : (wr.setCell ⟨w.heap.size, t, none⟩ (.pointer (some ⟨b, 0, none⟩))).heap.size = wr.heap.size := by simp [World.setCell]
                have HHs := Lib.hid hHs
                have hwr : w.heap.size ≤ wr.heap.size := hS.below.size
                have hQ' := HFD'.out.len
                have HHOP : Hid (Hop A F X 1 u t b) := Lib.hid (hop_of HLF.out HXL.out HOK.out HE.out (by rw [HBS.out]; exact HB.out) (of_decide_eq_true HZ.out))
                have HNQ : Hid (t ∉ Q') := Lib.hid (fun h => by have := (HFD'.out.on t h).1; rw [HO.out] at this; cases this)
                clear hz ho hS h1 h2 hHs hSm hIt
                by_cases hs : t = 1
                · subst hs
                  go_wp2_with (first
                    | (go_at_call 68; refine (implOpen b z true HZ.out _ (by assumption)).mono ?_; rintro e w' ⟨rfl, rfl⟩)
                    | (go_at_call 69; refine (implTo b _ (1 : Nat) _ (by assumption) (by assumption)).mono ?_; rintro e w' ⟨rfl, rfl⟩))
                  go_step3
                  show (0 : Nat) = 0 ∧ J _ _
                  refine ⟨rfl, ?_⟩
                  rw [HJ.out]
                  refine ⟨fun i => List.getD _ i undef, frame79 _ rfl, rfl, addI I' 1 b, fun v => Q'.idxOf v, Lib.hid ((HIN.out.sink HUQ.out HNQ.out (by decide) HHOP.out).tree HFD'.out (fun v b' h => ?_)), ⟨b, by simp [addI]⟩, Nat.le_trans List.idxOf_le_length HFD'.out.len, HSm.out.row, HSm.out.below⟩
                  unfold addI
                  by_cases e : v = 1
                  · exact ⟨b, by rw [if_pos e]⟩
                  · exact ⟨b', by rw [if_neg e]; exact h⟩
                · have hs1 : ¬ (t : Int) = 1 := by omega
                  go_wp2_with (first
                    | (go_at_call 68; refine (implOpen b z true HZ.out _ (by assumption)).mono ?_; rintro e w' ⟨rfl, rfl⟩)
                    | (go_at_call 69; refine (implTo b _ t _ (by assumption) (by assumption)).mono ?_; rintro e w' ⟨rfl, rfl⟩)
                    | (at_builtin; go_loud (refine wpList_append_own _ rfl _ _ 26 rfl w.heap.size 3 i1 (.int .i64 0) 1 8 Tryd.underlying26 hi1 hz10 hz11 hz12 rfl (by decide) _ _ _ rfl (HSm.out.lst.alloc _) ⟨wr.heap.size, 0, none⟩ 1 1 ([(t : Int)].map (Value.int .i64)) rfl rfl (int_new_at2 HHs.out _ _) (ints_one _) (by unfold maxLen; omega) (by omega) (by simp [HHs.out]; omega) ?_); intro v' w6 hown6 hgrow _; have hS6 := HSm.out.app hown6 hgrow; have HS6 := Lib.hid hS6; clear hown6 hgrow hS6))
                  go_roundw
                  case rel =>
                    have hoa : ∀ v, oI I' v = true → oI (addI I' t b) v = true := fun v h => by rw [oI_add]; exact addO_old h
                    refine ⟨m + 1, addI I' t b, Q' ++ [t], by go_num, by omega, hpre.trans (List.prefix_append _ _), Lib.hid ?_, Lib.hid (HIN.out.sink HUQ.out HNQ.out ht0 HHOP.out).grow, Lib.hid (fun v h => hoa v (HM.out v h)), Lib.hid ?_, Lib.hid (done_step (done_mono HD'.out hoa) HE.out (fun _ => by rw [oI_add]; exact addO_self _ _)), HS6.out⟩
                    · unfold addI
                      rw [if_neg (fun e => hs e.symm)]
                      exact HI1.out
                    · rw [oI_add]
                      exact HFD'.out.add htn HO.out (resL_res HNT.out (List.mem_of_getElem? HE.out) (of_decide_eq_true HZ.out) HRu.out)
                  case measure => simp [intOf]; omega
          · obtain rfl : m = (bs u).length := by omega
            have HS := Lib.hid hS
            have hkQ : k + 1 ≤ Q'.length := by have := hpre.length_le; omega
            have HPRE := Lib.hid hpre
            have hw1 : IntKind.i64.wrap ((k : Int) + 1) = (k : Int) + 1 := IntWalk.i64_in _ (by omega)
            clear hS hpre hRm
            go_wp2_with fail
            go_roundw
            case rel => exact ⟨k + 1, I', Q', by go_num, hkQ, HI1, HIN, HFD', Lib.hid (by
              have hD : doneL (oI I') (resL (A.zip F) u) := by
                have := HD'.out
                rwa [HLEN.out, List.take_length] at this
              obtain ⟨T, hT⟩ := HPRE.out
              intro x hx
              rw [← hT, List.take_append_of_le_length (by omega)] at hx
              obtain ⟨hi, hh⟩ := List.getElem?_eq_some_iff.1 HU.out
              rw [List.take_succ_eq_append_getElem hi] at hx
              rcases List.mem_append.1 hx with h | h
              · exact done_mono (HDN.out x h) HM.out
              · rw [List.mem_singleton.1 h, hh]
                exact hD), HS.out⟩
            case measure => simp [intOf]; omega
      · obtain rfl : k = Q.length := by omega
        have HE : Hid (∀ v, oI I v = reachedB A F v) := Lib.hid (HFD.out.is HNT.out (by simpa using HDN.out))
        have HS := Lib.hid hS
        clear hS
        go_wp2_with fail
        simp only [Exit.jump]
        go_ret
        refine ⟨[], _, rfl, World.ownsRow_nil _ _ _ _, HS.out.below, .inl ⟨rfl, rfl, ?_⟩⟩
        rw [← HE.out 1]
        unfold oI
        rw [HI1.out]
        rfl
  · intro a' wr hJ
    rw [HJ.out] at hJ
    obtain ⟨f, rfl, h3, I, ρ, HT, hI1, hρ, hrow, hB⟩ := hJ
    rw [h3]
    clear h3
    clear HJ
    have HP0 : Hid (PI w n I (.slice none 0 0) [] wr) := Lib.hid ⟨hrow, World.ownsRow_nil _ _ _ _, hB⟩
    clear hrow hB
    go_wp2_with fail
    go_loopw [8, 9] (fun vp i wq => ∃ (v : Nat) (L0 : List Nat), i = .int .i64 v ∧ v < n ∧ (v = 0 ∨ ∃ b, I v = some b) ∧ Hid (∀ L, Way A F X 1 ρ L v → Way A F X 1 ρ (L0 ++ L) 1) ∧ L0.length + ρ v ≤ ρ 1 ∧ PI w n I vp L0 wq) (fun _ i _ => ρ (intOf i).toNat)
    case atStart => exact ⟨1, [], rfl, hn1, .inr hI1, Lib.hid (fun L h => h), by simp, HP0.out⟩
    case round =>
      clear HP0
      obtain ⟨v, L0, rfl, hv, hIv, HWY, hlen, hP⟩ := hrel
      by_cases h0 : v = 0
      · subst h0
        have HP := Lib.hid hP
        clear hP
        go_wp2_with fail
        simp only [Exit.jump]
        go_ret
        exact ⟨L0, _, rfl, own_base HP.out.lst (by omega), HP.out.below, .inr ⟨ρ, by simpa using HWY.out [] rfl, by omega⟩⟩
      · obtain ⟨b, hb⟩ := hIv.resolve_left h0
        obtain ⟨u, hop, hun, hIu, hρu⟩ := HT.out.par v b hb
        obtain ⟨l, kc, q, hbx⟩ := (HBOX.out.below hP.below).hop hop
        obtain ⟨k1, _, _⟩ := boxR_cells hbx
        have d0 := own_ptrO hP.row hv
        rw [hb] at d0
        change _ = some (Value.pointer (some ⟨b, 0, none⟩)) at d0
        have hv2 : (v : Int) < (n : Int) := by omega
        have hv0 : ¬ (v : Int) = 0 := by omega
        have HOP := Lib.hid hop
        have HBV := Lib.hid hb
        have HP := Lib.hid hP
        have hwr : w.heap.size + 1 ≤ wr.heap.size := (hP.row.lt _ rfl).2
        obtain ⟨ap, cp, hap⟩ := own_form hP.lst
        subst hap
        clear hP hop hbx hb
        go_wp2_with (at_builtin; go_loud (refine wpList_append_own _ rfl _ _ 77 rfl (w.heap.size + 1) 107 i0 (.pointer none) 1 8 Tryd.underlying77 hi hz0 hz1 hz2 rfl (by decide) _ _ _ rfl (HP.out.lst.alloc _) ⟨wr.heap.size, 0, none⟩ 1 1 ([b].map ptrV) rfl rfl (ptr_new_at2 rfl _ _) (ptrs_one _) (by unfold maxLen; omega) (by omega) (by simp; omega) ?_); intro v' w6 hown6 hgrow _; have hP6 := HP.out.app hown6 hgrow; have d6 := own_ptrO hP6.row hv; rw [HBV.out] at d6; change _ = some (Value.pointer (some ⟨b, 0, none⟩)) at d6; obtain ⟨l6, kc6, q6, hbx6⟩ := (HBOX.out.below hP6.below).hop HOP.out; obtain ⟨k6, _, _⟩ := boxR_cells hbx6; have HP6 := Lib.hid hP6; clear hown6 hgrow hP6 hbx6)
        go_roundw
        case rel =>
          refine ⟨u, L0 ++ [b], by go_num, hun, hIu, Lib.hid (fun L hL => ?_), by simp; omega, HP6.out⟩
          rw [List.append_assoc]
          exact HWY.out (b :: L) ⟨u, HOP.out, hρu, hL⟩
        case measure => simp [intOf]; omega

end Go.Proofs.YtlkhecdlmbhiaaaDoor

