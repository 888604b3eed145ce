/-
  THE LAW FnPriced: prices show that the cheapest flow of a drawn network is the cheapest one; a drawn flow of the same size costs no less, and as much just when it has prices. For every input.
-/
import Derived.Test.YtobflidianlomaaSpecSize
import Derived.Test.YtobflidianlomaaCostI
import Derived.Test.YtobflidianlomaaDrawP
import Derived.Test.YtobflidianlomaaCheapsI
import Derived.Test.YtobflidianlomaaPriceOkI
import Derived.Test.YtobflidianlomaaArgBytes
import Derived.Test.YtobflidianlomaaArgCopy
import Derived.Deep.CutRange
import Derived.Deep.DeepCutAuto
import Derived.Deep.RegionHeld3
import Derived.IntWalk
import Derived.Lib.SmallJoins
namespace Go.Proofs.Ytobflidianlomaa.fnPriced
set_option maxRecDepth 4096
open Go.ChangeShapes Go.WideShapes Go.ChangeAt Go.RowKit Go.Joins

theorem bigYes (N g : Nat) (B : Nat → Int) (v : Value) (w : World) (hN : N ≤ maxLen) (hc : CodeF w v N B g) (h : 1048576 < N) : Calls Try.prog 7 #[v] w fun e w' => e = .returned (.bool true) ∧ w = w' := by
  obtain ⟨a, c, rfl, _⟩ := hc
  have hN2 : N ≤ 9223372036854775807 := by unfold maxLen at hN; omega
  have hd : (1048576 : Int) < (N : Int) := by omega
  go_enter Try.func7, Try.ntmps7
  go_wp2
  go_ret
  exact ⟨rfl, rfl⟩
theorem bigNo (N g : Nat) (B : Nat → Int) (v : Value) (w : World) (hc : CodeF w v N B g) (h : N ≤ 1048576) : Calls Try.prog 7 #[v] w fun e w' => e = .returned (.bool false) ∧ w = w' := by
  obtain ⟨a, c, rfl, _⟩ := hc
  have hd : ¬ (1048576 : Int) < (N : Int) := by omega
  go_enter Try.func7, Try.ntmps7
  go_wp2
  go_ret
  exact ⟨rfl, rfl⟩


theorem push_le {n : Nat} {A : List ArcD} : ∀ (k : Nat) {F : List Int}, flowOkV n A F = true → netO (A.zip (pushB A n k F)) 0 ≤ netO (A.zip F) 0 + (k : Int)
  | 0, F, _ => by simp [pushB]
  | k + 1, F, h => by
    unfold pushB
    by_cases h1 : (searchB (A.zip F) (n + 1) 0 startQ).o 1 = true
    · rw [if_pos h1]
      obtain ⟨h2, h3⟩ := push_one h h1
      have := push_le k h2
      omega
    · rw [if_neg h1]
      omega
theorem pushed_le {n : Nat} {A : List ArcD} (h : netOkV n A = true) (k : Nat) : netO (A.zip (pushedV A n k)) 0 ≤ (k : Int) := by
  have := push_le k (zero_ok h)
  rw [netO_zero] at this
  unfold pushedV
  omega

/-- What lies in the law's own memory. -/
structure Q1 (M : Nat) (A : List ArcD) (w : World) (X : Nat) (na vf : Value) (F : List Int) (vg : Value) (G : List Int) (wx : World) : Prop where
  below : Below w.heap.size w wx
  boxn : wx.heap[X]? = some (.cells #[.int .i64 (M : Int), na] 26)
  arcn : Arcs wx na A
  flow : Ints wx vf F
  best : Ints wx vg G
structure Q2 (M : Nat) (A : List ArcD) (w : World) (X : Nat) (na vf : Value) (F : List Int) (vg : Value) (G : List Int) (vp : Value) (P : List Int) (wx : World) : Prop where
  one : Q1 M A w X na vf F vg G wx
  price : Ints wx vp P
section
variable {M X : Nat} {A : List ArcD} {w wx wy : World} {na vf vg vp : Value} {F G P : List Int}
theorem Q1.on (h : Q1 M A w X na vf F vg G wx) (hb : Below wx.heap.size wx wy) : Q1 M A w X na vf F vg G wy :=
  ⟨h.below.trans (hb.mono h.below.size), (hb.block _ (Array.getElem?_eq_some_iff.1 h.boxn).1).trans h.boxn, arcs_on h.arcn hb, ints_on h.flow hb, ints_on h.best hb⟩
theorem Q1.cells (h : Q1 M A w X na vf F vg G wx) : wx.cell? ⟨X, 0, none⟩ = some (.int .i64 (M : Int)) ∧ wx.cell? ⟨X, 1, none⟩ = some na :=
  ⟨(cell_of_row wx X 0 _ _ _ h.boxn).trans rfl, (cell_of_row wx X 1 _ _ _ h.boxn).trans rfl⟩
theorem Q1.held (h : Q1 M A w X na vf F vg G wx) (hb : Below wx.heap.size wx wy) : wy.cell? ⟨X, 0, none⟩ = some (.int .i64 (M : Int)) ∧ wy.cell? ⟨X, 1, none⟩ = some na ∧ Q1 M A w X na vf F vg G wy :=
  have h2 := h.on hb
  ⟨h2.cells.1, h2.cells.2, h2⟩
theorem Q2.on (h : Q2 M A w X na vf F vg G vp P wx) (hb : Below wx.heap.size wx wy) : Q2 M A w X na vf F vg G vp P wy := ⟨h.one.on hb, ints_on h.price hb⟩
theorem Q2.held (h : Q2 M A w X na vf F vg G vp P wx) (hb : Below wx.heap.size wx wy) : wy.cell? ⟨X, 0, none⟩ = some (.int .i64 (M : Int)) ∧ wy.cell? ⟨X, 1, none⟩ = some na ∧ Q2 M A w X na vf F vg G vp P wy :=
  have h2 := h.on hb
  ⟨h2.one.cells.1, h2.one.cells.2, h2⟩
end
theorem carry {w w1 : World} {v : Value} {L : List Int} {Q : Prop} (h : Ints w v L) (hb : Below w.heap.size w w1) (k : Ints w1 v L → Q) : Q := k (ints_on h hb)
theorem ints_drew {w : World} {v : Value} {L : List Int} (h : Ints w v L) : Ints w.drew v L := ints_on h (Below.refl w.heap.size w).drew
theorem ints_alloc {w : World} {v : Value} {L : List Int} (o : Obj) (h : Ints w v L) : Ints (w.alloc o) v L := ints_on h ((Below.refl w.heap.size w).alloc (Nat.le_refl _) o)

set_option maxRecDepth 100000 in
set_option maxHeartbeats 8000000 in
theorem walk_in (N : Nat) (B : Nat → Int) (v : Value) (hN : N ≤ 1048576) (w : World) (hc : CodeF w v N B w.heap.size) :
    Calls Try.prog 3 #[v] w fun e w' => e = .returned (.bool true) ∧ Below w.heap.size w w' := by
  have HC := Lib.hid hc
  obtain ⟨hnet, hA18⟩ := dp_ok N B
  obtain ⟨hflow, hsize⟩ := pushed_ok hnet (dpK N B)
  have hF : flowOkV (dpM N B) (dpA N B) (dpF N B) = true := hflow
  have hs0 : 0 ≤ netO ((dpA N B).zip (dpF N B)) 0 := hsize
  have hs1 : netO ((dpA N B).zip (dpF N B)) 0 ≤ (dpK N B : Int) := pushed_le hnet (dpK N B)
  have hk8 : dpK N B ≤ 8 := by
    have := (rightP N B (startD N B)).2.few_in N B (n := 9) (by omega)
    unfold dpK
    omega
  obtain ⟨k, hk⟩ : ∃ k : Nat, netO ((dpA N B).zip (dpF N B)) 0 = (k : Int) := ⟨(netO ((dpA N B).zip (dpF N B)) 0).toNat, by omega⟩
  have hk16 : k ≤ 16 := by omega
  obtain ⟨G, hG⟩ : ∃ G, cheapF (dpA N B) (dpM N B) k = some G := by
    obtain ⟨g1, g2⟩ := most_ok hnet
    have h1 := stop_most g1 g2 hF
    have h2 := (most_is g1 g2).1
    have h3 := cheap_iff hnet k
    rw [decide_eq_true (by omega)] at h3
    exact Option.isSome_iff_exists.1 h3
  obtain ⟨hGok, _, _⟩ := cheap_ok hnet hG
  obtain ⟨π, hπ⟩ := cheap_pot hnet hG
  have hcy := cheap_yes ((cheapO_is hnet hk16).trans hG)
  obtain ⟨hle, hpo⟩ := cheap_least hnet hG hF hk
  have HSZ : Hid (flowSizeV (dpM N B) (dpA N B) (dpF N B) = (k : Int)) := Lib.hid (by unfold flowSizeV; rw [if_pos hF]; exact hk)
  have HCL : Hid (cheapL (dpM N B) (dpA N B) (k : Int) = G) := Lib.hid hcy.1
  have HCC : Hid (cheapC (dpM N B) (dpA N B) (k : Int) = costO ((dpA N B).zip G)) := Lib.hid hcy.2.1
  have HCB : Hid (cheapB (dpM N B) (dpA N B) (k : Int) = true) := Lib.hid hcy.2.2
  have HFC : Hid (flowCostV (dpM N B) (dpA N B) (dpF N B) = costO ((dpA N B).zip (dpF N B))) := Lib.hid (by unfold flowCostV; rw [if_pos hF])
  obtain ⟨P, hP⟩ : ∃ P, pricesV (dpM N B) (dpA N B) G = P := ⟨_, rfl⟩
  have hPr := (prices_is hGok hπ).symm.trans hP
  have HPV := Lib.hid hP
  have HPB : Hid (priceOk (dpM N B) (dpA N B) G = true) := Lib.hid (priceOk_iff.2 ⟨hGok, _, hπ⟩)
  have HPO : Hid (pricesOkV (dpM N B) (dpA N B) G P = true) := Lib.hid (by rw [← hPr]; exact prices_ok hGok hπ)
  have HPF := Lib.hid hpo
  have hPl : P.length ≤ 1500 := by
    rw [← hPr, rowO_len]
    have := (netOk_out hnet).1
    omega
  have hFl : (dpF N B).length ≤ 18 := by have := (flowOk_out hF).2.1; omega
  have hGl : G.length ≤ 18 := by have := (flowOk_out hGok).2.1; omega
  clear hflow hsize hs0 hs1 hk8 hk hG hGok hπ hcy hpo hP hPr hnet hF
  go_enter Try.func3, Try.ntmps3
  go_wp2_with fail
  refine (bigNo N _ B v w hc hN).mono ?_
  rintro e w' ⟨rfl, rfl⟩
  clear hc
  go_wp2_with fail
  refine (drawP N B v w (by omega) HC.out).mono ?_
  rintro e w1 ⟨na, vf, rfl, ha, hf, hb⟩
  obtain ⟨an, cn, rfl, _⟩ := arcs_form ha
  obtain ⟨af, cf, rfl, _⟩ := ints_form hf
  have hb2 := (Below.refl w1.heap.size w1).alloc (Nat.le_refl _) (.cells #[.int .i64 (dpM N B : Int), .slice an (dpA N B).length cn] 26)
  have HB2 := Lib.hid (hb.trans (hb2.mono hb.size))
  have HA2 := Lib.hid (arcs_on ha hb2)
  have HF2 := Lib.hid (ints_on hf hb2)
  have HX2 := Lib.hid (heap_alloc_new w1 (.cells #[.int .i64 (dpM N B : Int), .slice an (dpA N B).length cn] 26))
  clear ha hf hb hb2 HC
  go_upto_region 4 with fail
  generalize w1.alloc (.cells #[.int .i64 (dpM N B : Int), .slice an (dpA N B).length cn] 26) = w2 at HB2 HA2 HF2 HX2 ⊢
  generalize w1.heap.size = X at HX2 ⊢
  generalize dpF N B = F at *
  generalize dpA N B = A at *
  generalize dpM N B = M at *
  generalize hcf : costO (A.zip F) = c at *
  generalize hcg : costO (A.zip G) = y at *
  clear hcf hcg
  have c0 : w2.cell? ⟨X, 0, none⟩ = some (.int .i64 (M : Int)) := (cell_of_row w2 X 0 _ _ _ HX2.out).trans rfl
  have c1 : w2.cell? ⟨X, 1, none⟩ = some (.slice an A.length cn) := (cell_of_row w2 X 1 _ _ _ HX2.out).trans rfl
  go_wp2_with fail
  refine (specFlowSize M A F _ _ (k : Int) (by omega) (by omega) HSZ _ HA2.out HF2.out).mono ?_
  rintro e w3 ⟨rfl, hb⟩
  have HB3 := Lib.hid (HB2.out.trans (hb.mono HB2.out.size))
  have HA3 := Lib.hid (arcs_on HA2.out hb)
  have HF3 := Lib.hid (ints_on HF2.out hb)
  have HX3 := Lib.hid ((hb.block _ (Array.getElem?_eq_some_iff.1 HX2.out).1).trans HX2.out)
  clear hb c0 c1 HB2 HA2 HF2 HX2
  have c0 : w3.cell? ⟨X, 0, none⟩ = some (.int .i64 (M : Int)) := (cell_of_row w3 X 0 _ _ _ HX3.out).trans rfl
  have c1 : w3.cell? ⟨X, 1, none⟩ = some (.slice an A.length cn) := (cell_of_row w3 X 1 _ _ _ HX3.out).trans rfl
  go_wp2_with fail
  refine (implCheap M A (k : Int) _ G y true (by omega) HCL HCC HCB _ HA3.out).mono ?_
  rintro e w4 ⟨vg, rfl, howng, hb⟩
  have hQ1 : Q1 M A w X (.slice an A.length cn) (.slice af F.length cf) F vg G w4 := ⟨HB3.out.trans (hb.mono HB3.out.size), (hb.block _ (Array.getElem?_eq_some_iff.1 HX3.out).1).trans HX3.out, arcs_on HA3.out hb, ints_on HF3.out hb, ints_of_own howng⟩
  obtain ⟨ag, cg, rfl⟩ := own_form howng
  have HQ1 := Lib.hid hQ1
  clear hb howng hQ1 c0 c1 HB3 HA3 HF3 HX3
  go_upto_region 6 with fail
  have hS4 := HQ1.out.held (Below.refl w4.heap.size w4).drew
  go_cut [9, 10] from 29 to 36 (fun u b wx => b = .bool true ∧ ∃ ap cp, u = .slice ap P.length cp ∧ Q2 M A w X (.slice an A.length cn) (.slice af F.length cf) F (.slice ag G.length cg) G (.slice ap P.length cp) P wx)
  case first =>
    go_region_held3 (fun w' => w'.cell? ⟨X, 0, none⟩ = some (.int .i64 (M : Int)) ∧ w'.cell? ⟨X, 1, none⟩ = some (.slice an A.length cn) ∧ Q1 M A w X (.slice an A.length cn) (.slice af F.length cf) F (.slice ag G.length cg) G w')
      (first | exact hS | exact hS4 | (go_split_ands; exact Q1.held (by assumption) ((Below.refl _ _).alloc (Nat.le_refl _) _)) | go_keep)
      (first
        | ((try go_split_ands); rw [if_pos (by rfl)]; have hS0 : Q1 M A w X (.slice an A.length cn) (.slice af F.length cf) F (.slice ag G.length cg) G _ := (by assumption); refine wp_copy _ _ rfl _ rfl _ G rfl hS0.best (by omega) ?_; intro v5 w5 hv5 hb; have hS := Q1.held hS0 hb; clear hb)
        | (go_at_call 11; (try go_split_ands); have hS0 : Q1 M A w X (.slice an A.length cn) (.slice af F.length cf) F (.slice ag G.length cg) G _ := (by assumption); (with_reducible refine (implPrices M A G P _ _ true (by omega) (by omega) HPV HPB _ hS0.arcn (by assumption)).mono ?_); rintro e w6 ⟨vp, rfl, hownp, hb⟩; have hvp := ints_of_own hownp; (try go_split_ands); have hS := Q1.held hS0 hb; clear hb))
    all_goals
      obtain ⟨ap, cp, rfl⟩ := own_form hownp
      go_wp2_with fail
      go_meet
      exact ⟨rfl, ap, cp, rfl, hS.2.2, hvp⟩
  case rest =>
    obtain ⟨rfl, ap, cp, rfl, hQ2⟩ := hcut
    have HQ2 := Lib.hid hQ2
    clear hQ2 HQ1 hS4
    go_upto_region 7 with fail
    have hS4 := HQ2.out.held (Below.refl _ _).drew
    go_cut [11] from 37 to 41 (fun u wx => u = .int .i64 c ∧ Q2 M A w X (.slice an A.length cn) (.slice af F.length cf) F (.slice ag G.length cg) G (.slice ap P.length cp) P wx)
    case first =>
      go_region_held3 (fun w' => w'.cell? ⟨X, 0, none⟩ = some (.int .i64 (M : Int)) ∧ w'.cell? ⟨X, 1, none⟩ = some (.slice an A.length cn) ∧ Q2 M A w X (.slice an A.length cn) (.slice af F.length cf) F (.slice ag G.length cg) G (.slice ap P.length cp) P w')
        (first | exact hS | exact hS4 | (go_split_ands; exact Q2.held (by assumption) ((Below.refl _ _).alloc (Nat.le_refl _) _)) | go_keep)
        (first
          | ((try go_split_ands); rw [if_pos (by rfl)]; have hS0 : Q2 M A w X (.slice an A.length cn) (.slice af F.length cf) F (.slice ag G.length cg) G (.slice ap P.length cp) P _ := (by assumption); refine wp_copy _ _ rfl _ rfl _ F rfl hS0.one.flow (by omega) ?_; intro v7 w7 hv7 hb; have hS := Q2.held hS0 hb; clear hb)
          | (go_at_call 12; (try go_split_ands); have hS0 : Q2 M A w X (.slice an A.length cn) (.slice af F.length cf) F (.slice ag G.length cg) G (.slice ap P.length cp) P _ := (by assumption); (with_reducible refine (implFlowCost M A F _ _ c (by omega) (by omega) HFC _ hS0.one.arcn (by assumption)).mono ?_); rintro e w8 ⟨rfl, hb⟩; (try go_split_ands); have hS := Q2.held hS0 hb; clear hb))
      all_goals
        go_wp2_with fail
        go_meet
        exact ⟨rfl, hS.2.2⟩
    case rest =>
      obtain ⟨rfl, hQ2⟩ := hcut
      have HQ3 := Lib.hid hQ2
      clear hQ2 HQ2 hS4
      go_upto_region 8 with fail
      have hS4 := HQ3.out.held (Below.refl _ _).drew
      obtain ⟨bq, HBQ⟩ : ∃ bq, Hid (priceOk M A F = bq) := ⟨_, rfl⟩
      have hbq : bq = decide (c = y) := HBQ.out.symm.trans HPF.out
      have hge : y ≤ c := hle
      by_cases hcy : c = y
      · obtain rfl : bq = true := by rw [hbq]; exact decide_eq_true hcy
        subst hcy
        have hyy : (c == c) = true := by simp
        clear hbq hle
        go_region_held3 (fun w' => w'.cell? ⟨X, 0, none⟩ = some (.int .i64 (M : Int)) ∧ w'.cell? ⟨X, 1, none⟩ = some (.slice an A.length cn) ∧ Q2 M A w X (.slice an A.length cn) (.slice af F.length cf) F (.slice ag G.length cg) G (.slice ap P.length cp) P w')
          (first | exact hS | exact hS4 | (go_split_ands; exact Q2.held (by assumption) ((Below.refl _ _).alloc (Nat.le_refl _) _)) | go_keep)
          (first
            | ((try go_split_ands); rw [if_pos (by rfl)]; have hS0 : Q2 M A w X (.slice an A.length cn) (.slice af F.length cf) F (.slice ag G.length cg) G (.slice ap P.length cp) P _ := (by assumption); refine wp_copy _ _ rfl _ rfl _ G rfl hS0.one.best (by omega) ?_; intro vI wI hvI hb; refine carry (v := vC) (L := P) ?_ hb ?_; (focus ((repeat (with_reducible (first | assumption | refine ints_drew ?_ | refine ints_alloc _ ?_))); done)); intro hvCI; have hS := Q2.held hS0 hb; clear hb)
            | ((try go_split_ands); rw [if_pos (by rfl)]; have hS0 : Q2 M A w X (.slice an A.length cn) (.slice af F.length cf) F (.slice ag G.length cg) G (.slice ap P.length cp) P _ := (by assumption); refine wp_copy _ _ rfl _ rfl _ P rfl hS0.price (by omega) ?_; intro vC wC hvC hb; refine carry (v := vI) (L := G) ?_ hb ?_; (focus ((repeat (with_reducible (first | assumption | refine ints_drew ?_ | refine ints_alloc _ ?_))); done)); intro hvIC; have hS := Q2.held hS0 hb; clear hb)
            | ((try go_split_ands); rw [if_pos (by rfl)]; have hS0 : Q2 M A w X (.slice an A.length cn) (.slice af F.length cf) F (.slice ag G.length cg) G (.slice ap P.length cp) P _ := (by assumption); refine wp_copy _ _ rfl _ rfl _ P rfl hS0.price (by omega) ?_; intro vC wC hvC hb; have hS := Q2.held hS0 hb; clear hb)
            | ((try go_split_ands); rw [if_pos (by rfl)]; have hS0 : Q2 M A w X (.slice an A.length cn) (.slice af F.length cf) F (.slice ag G.length cg) G (.slice ap P.length cp) P _ := (by assumption); refine wp_copy _ _ rfl _ rfl _ G rfl hS0.one.best (by omega) ?_; intro vI wI hvI hb; have hS := Q2.held hS0 hb; clear hb)
            | ((try go_split_ands); rw [if_pos (by rfl)]; have hS0 : Q2 M A w X (.slice an A.length cn) (.slice af F.length cf) F (.slice ag G.length cg) G (.slice ap P.length cp) P _ := (by assumption); refine wp_copy _ _ rfl _ rfl _ F rfl hS0.one.flow (by omega) ?_; intro vS wS hvS hb; have hS := Q2.held hS0 hb; clear hb)
            | (go_at_call 13; (try go_split_ands); have hS0 : Q2 M A w X (.slice an A.length cn) (.slice af F.length cf) F (.slice ag G.length cg) G (.slice ap P.length cp) P _ := (by assumption); (with_reducible refine (implPricesOk M A G P _ _ _ true (by omega) (by omega) (by omega) HPO _ hS0.one.arcn (by assumption) (by assumption)).mono ?_); rintro e wc ⟨rfl, hb⟩; (try go_split_ands); have hS := Q2.held hS0 hb; clear hb)
            | (go_at_call 14; (try go_split_ands); have hS0 : Q2 M A w X (.slice an A.length cn) (.slice af F.length cf) F (.slice ag G.length cg) G (.slice ap P.length cp) P _ := (by assumption); (with_reducible refine (implNoneCheaper M A G _ _ true (by omega) (by omega) HPB _ hS0.one.arcn (by assumption)).mono ?_); rintro e wc ⟨rfl, hb⟩; (try go_split_ands); have hS := Q2.held hS0 hb; clear hb)
            | (go_at_call 14; (try go_split_ands); have hS0 : Q2 M A w X (.slice an A.length cn) (.slice af F.length cf) F (.slice ag G.length cg) G (.slice ap P.length cp) P _ := (by assumption); (with_reducible refine (implNoneCheaper M A F _ _ true (by omega) (by omega) HBQ _ hS0.one.arcn (by assumption)).mono ?_); rintro e wc ⟨rfl, hb⟩; (try go_split_ands); have hS := Q2.held hS0 hb; clear hb))
        all_goals
          go_wp2_with fail
          go_ret
          exact ⟨by simp, hS.2.2.one.below⟩
      · obtain rfl : bq = false := by rw [hbq]; exact decide_eq_false hcy
        have hyy : (c == y) = false := by simpa using hcy
        clear hbq hle
        go_region_held3 (fun w' => w'.cell? ⟨X, 0, none⟩ = some (.int .i64 (M : Int)) ∧ w'.cell? ⟨X, 1, none⟩ = some (.slice an A.length cn) ∧ Q2 M A w X (.slice an A.length cn) (.slice af F.length cf) F (.slice ag G.length cg) G (.slice ap P.length cp) P w')
          (first | exact hS | exact hS4 | (go_split_ands; exact Q2.held (by assumption) ((Below.refl _ _).alloc (Nat.le_refl _) _)) | go_keep)
          (first
            | ((try go_split_ands); rw [if_pos (by rfl)]; have hS0 : Q2 M A w X (.slice an A.length cn) (.slice af F.length cf) F (.slice ag G.length cg) G (.slice ap P.length cp) P _ := (by assumption); refine wp_copy _ _ rfl _ rfl _ G rfl hS0.one.best (by omega) ?_; intro vI wI hvI hb; refine carry (v := vC) (L := P) ?_ hb ?_; (focus ((repeat (with_reducible (first | assumption | refine ints_drew ?_ | refine ints_alloc _ ?_))); done)); intro hvCI; have hS := Q2.held hS0 hb; clear hb)
            | ((try go_split_ands); rw [if_pos (by rfl)]; have hS0 : Q2 M A w X (.slice an A.length cn) (.slice af F.length cf) F (.slice ag G.length cg) G (.slice ap P.length cp) P _ := (by assumption); refine wp_copy _ _ rfl _ rfl _ P rfl hS0.price (by omega) ?_; intro vC wC hvC hb; refine carry (v := vI) (L := G) ?_ hb ?_; (focus ((repeat (with_reducible (first | assumption | refine ints_drew ?_ | refine ints_alloc _ ?_))); done)); intro hvIC; have hS := Q2.held hS0 hb; clear hb)
            | ((try go_split_ands); rw [if_pos (by rfl)]; have hS0 : Q2 M A w X (.slice an A.length cn) (.slice af F.length cf) F (.slice ag G.length cg) G (.slice ap P.length cp) P _ := (by assumption); refine wp_copy _ _ rfl _ rfl _ P rfl hS0.price (by omega) ?_; intro vC wC hvC hb; have hS := Q2.held hS0 hb; clear hb)
            | ((try go_split_ands); rw [if_pos (by rfl)]; have hS0 : Q2 M A w X (.slice an A.length cn) (.slice af F.length cf) F (.slice ag G.length cg) G (.slice ap P.length cp) P _ := (by assumption); refine wp_copy _ _ rfl _ rfl _ G rfl hS0.one.best (by omega) ?_; intro vI wI hvI hb; have hS := Q2.held hS0 hb; clear hb)
            | ((try go_split_ands); rw [if_pos (by rfl)]; have hS0 : Q2 M A w X (.slice an A.length cn) (.slice af F.length cf) F (.slice ag G.length cg) G (.slice ap P.length cp) P _ := (by assumption); refine wp_copy _ _ rfl _ rfl _ F rfl hS0.one.flow (by omega) ?_; intro vS wS hvS hb; have hS := Q2.held hS0 hb; clear hb)
            | (go_at_call 13; (try go_split_ands); have hS0 : Q2 M A w X (.slice an A.length cn) (.slice af F.length cf) F (.slice ag G.length cg) G (.slice ap P.length cp) P _ := (by assumption); (with_reducible refine (implPricesOk M A G P _ _ _ true (by omega) (by omega) (by omega) HPO _ hS0.one.arcn (by assumption) (by assumption)).mono ?_); rintro e wc ⟨rfl, hb⟩; (try go_split_ands); have hS := Q2.held hS0 hb; clear hb)
            | (go_at_call 14; (try go_split_ands); have hS0 : Q2 M A w X (.slice an A.length cn) (.slice af F.length cf) F (.slice ag G.length cg) G (.slice ap P.length cp) P _ := (by assumption); (with_reducible refine (implNoneCheaper M A G _ _ true (by omega) (by omega) HPB _ hS0.one.arcn (by assumption)).mono ?_); rintro e wc ⟨rfl, hb⟩; (try go_split_ands); have hS := Q2.held hS0 hb; clear hb)
            | (go_at_call 14; (try go_split_ands); have hS0 : Q2 M A w X (.slice an A.length cn) (.slice af F.length cf) F (.slice ag G.length cg) G (.slice ap P.length cp) P _ := (by assumption); (with_reducible refine (implNoneCheaper M A F _ _ false (by omega) (by omega) HBQ _ hS0.one.arcn (by assumption)).mono ?_); rintro e wc ⟨rfl, hb⟩; (try go_split_ands); have hS := Q2.held hS0 hb; clear hb))
        all_goals
          go_wp2_with fail
          go_ret
          exact ⟨by simp, hS.2.2.one.below⟩

theorem walk_big (N : Nat) (B : Nat → Int) (v : Value) (hN : N ≤ maxLen) (w : World) (hc : CodeF w v N B w.heap.size) (h : 1048576 < N) :
    Calls Try.prog 3 #[v] w fun e w' => e = .returned (.bool true) ∧ Below w.heap.size w w' := by
  go_enter Try.func3, Try.ntmps3
  go_wp2_with fail
  refine (bigYes N _ B v w hN hc h).mono ?_
  rintro e w' ⟨rfl, rfl⟩
  go_wp2_with fail
  go_ret
  exact ⟨rfl, Below.refl _ _⟩

theorem walk (v : Value) (N : Nat) (w : World) (hc : CodeB w v N w.heap.size) (hN : N ≤ maxLen) :
    Calls Try.prog 3 #[v] w fun e w' => e = .returned (.bool true) ∧ Below w.heap.size w w' := by
  obtain ⟨B, hF⟩ := code_of hc
  rcases Nat.lt_or_ge 1048576 N with h | h
  · exact walk_big N B v hN w hF h
  · exact walk_in N B v h w hF
-- LIFT
set_option maxRecDepth 100000 in
theorem lifted (os : Os) (started : os.Started) (H : Type) (enc : TypeId × Value → H) :
    ReturnsInHanded {} Try.checked os 3 .any (Rows.fnPricedSpec.pre6 enc Try.prog Try.f3 Rows.fnPricedRow.domain false) (Rows.fnPricedSpec.post enc Try.prog Try.f3 false true false false) := by
  refine returnsInHanded_of_change (C := Try.checked) own started (by kernel_rfl) Try.func3
    (ChangeSpec.witness6 (enc := enc) (C := Try.checked) false ⟨#[], #[.slice none 0 0], []⟩ 8 (by kernel_rfl) (by kernel_rfl) (by kernel_rfl) (by kernel_rfl)) ?_
  intro W base args ds gs before hval0 hW hcnd _
  have hval : ∀ (j : Nat) t v, Try.f3.params[j]? = some t → args[j]? = some v → Value.okWide Try.prog W .any base t v := hval0
  have hW' := hW
  obtain ⟨p, q, hA0, hV, rfl, hfz, hnd⟩ := hW
  have hA : DataW.TrodAll enc Try.prog W 0 (fun _ => true) true Try.f3.params.toList args.toList ds p := hA0
  rw [Try.params3] at hA hval
  obtain ⟨v0, vs0, d0, ds0, p0, q0, hargs, rfl, rfl, h0, r0⟩ := trodAll_cons hA
  obtain ⟨rfl, rfl, rfl⟩ := trodAll_nil r0
  obtain rfl : args = #[v0] := by cases args; simp_all
  obtain ⟨rfl, rfl⟩ := trodVars_none hV
  obtain ⟨L0, w0, l0, again0⟩ := open_arg_bytes (hval 0 22 v0 rfl rfl) h0
  clear hA0 hval0
  simp only [List.append_nil] at hW'
  refine (walk v0 L0 W w0 l0).mono fun e W' ⟨he, hg⟩ => ?_
  subst he
  exact ⟨_, rfl, post_of_below (pa := p0 ++ ([])) (pv := []) hW' (fun _ _ _ => (trodAll_cons_mk (shut_bool Try.underlying4 _) trodAll_mk0)) (fun sp hsp => (trodAll_cons_mk (again0 W' hg sp (fun p hp => hsp p (by simp [hp]))) trodAll_mk0)) (fun _ _ => rfl) (by simp)
    hg (ok_one (by kernel_rfl) rfl (okWide_bool_mk Try.underlying4 _))⟩

theorem over : Rows.fnPricedRow.holds Try.pinned (OpenSpec.ofChange Rows.fnPricedSpec) :=
  OpenClaim.holds_of_wide 3 Try.f3 rfl rfl rfl rfl rfl rfl rfl ⟨rfl, rfl, rfl, rfl, rfl⟩ rfl rfl rfl rfl rfl (by kernel_rfl) Try.func3 (by kernel_rfl)
    (of_decide_eq_true (by kernel_rfl)) (by unfold Func.isWrapper; first | (rw [if_pos (by decide +kernel)]; kernel_rfl) | (rw [if_neg (by decide +kernel)]; exact ⟨rfl, rfl⟩))
    (fun os started H enc _ => lifted os started H enc)

theorem proved : Rows.FnPricedSaid :=
  over

end Go.Proofs.Ytobflidianlomaa.fnPriced
