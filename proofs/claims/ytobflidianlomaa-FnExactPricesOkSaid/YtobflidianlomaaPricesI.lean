/-
  CONTRACTS of the program's leastOf, pricesInto and lowerPrices. No law is proved here.
  CONTRACT of the program's lowerPrices. No law is proved here.
  CONTRACTS of the program's PricesOf and NoneCheaper. No law is proved here.
-/
import Derived.Test.YtobflidianlomaaPriceV
import Derived.Test.YtobflidianlomaaResP
import Derived.Test.YtobflidianlomaaDijI
import Derived.Deep.DeepAppendRoom
import Derived.Deep.RegionLaw
namespace Go.Proofs.Ytobflidianlomaa
set_option maxRecDepth 4096
open Go.ChangeShapes Go.WideShapes Go.ChangeAt Go.RowKit

theorem leastL_take {L : List Int} {k : Nat} {y : Int} (h : L[k]? = some y) (x : Int) : leastL x (L.take (k + 1)) = min (leastL x (L.take k)) y := by
  obtain ⟨hi, h2⟩ := List.getElem?_eq_some_iff.1 h
  rw [List.take_succ_eq_append_getElem hi, h2]
  exact leastL_snoc _ _ _
theorem min_if (x y : Int) : (if y < x then y else x) = min x y := by
  by_cases h : y < x
  · rw [if_pos h]; omega
  · rw [if_neg h]; omega

theorem implLeastOf (x : Int) (L : List Int) (v : Value) (hL : L.length ≤ 2000000) (w : World) (hv : Ints w v L) :
    Calls Try.prog 57 #[.int .i64 x, v] w fun e w' => e = .returned (.int .i64 (leastL x L)) ∧ w = w' := by
  obtain ⟨av, cv, rfl, HV⟩ := ints_form hv
  have HC : Hid (∀ (j : Nat) (y : Int), L[j]? = some y → ∃ g, av = some ⟨g, 0, none⟩ ∧ w.cell? ⟨g, j, none⟩ = some (.int .i64 y)) := Lib.hid fun j y hj => by
    rcases HV with h0 | ⟨g, rfl, _, hc⟩
    · have := (List.getElem?_eq_some_iff.1 hj).1
      omega
    · exact ⟨g, rfl, hc j y hj⟩
  clear hv HV
  go_enter Try.func57, Try.ntmps57
  go_wp2_with fail
  go_loopw [0, 9] (fun vx i wr => ∃ (k : Nat) (y : Int), i = .int .i64 k ∧ k ≤ L.length ∧ vx = .int .i64 y ∧ Hid (y = leastL x (L.take k)) ∧ wr = w) (fun _ i _ => L.length - (intOf i).toNat)
  case atStart => exact ⟨0, x, rfl, Nat.zero_le _, rfl, Lib.hid rfl, rfl⟩
  case round =>
    obtain ⟨k, y, rfl, hk, rfl, HY, rfl⟩ := hrel
    by_cases hlt : k < L.length
    · obtain ⟨z, hz⟩ : ∃ z, L[k]? = some z := ⟨_, List.getElem?_eq_getElem hlt⟩
      obtain ⟨g, rfl, hc⟩ := HC.out k z hz
      have hlt2 : (k : Int) < (L.length : Int) := by omega
      have HZ := Lib.hid hz
      have HM := Lib.hid (min_if y z)
      clear hz
      go_wp2_with fail
      go_roundw
      case rel => exact ⟨k + 1, _, by go_num, by omega, rfl, Lib.hid (by rw [leastL_take HZ.out, ← HY.out]; exact min_if _ _), by trivial⟩
      case measure => simp [intOf]; omega
    · obtain rfl : k = L.length := by omega
      have e : y = leastL x L := by rw [HY.out, List.take_length]
      subst e
      go_wp2_with fail
      go_ret
      exact ⟨rfl, rfl⟩

/-- append where the call's own row has room, as a step of a region that draws its order. -/
theorem step_append_spare {P : Program} {ops : Array Oper} {o : Oper} {a : Act} {w : World} {K : Act → World → Prop} {Q : Exit → Act → World → Prop} {E : Prop} (hgd : o.guard = none) (s x : Operand) (t : TypeId)
    (ho : o.op = .call { callee := .builtin .append, args := #[s, x], argTypes := #[t, t] })
    (base : Nat) (e : TypeId) (i : TypeInfo) (size : Nat) (ht : P.underlying t = some (.slice e)) (hi : P.info? e = some i) (hsize : i.size = size)
    (g n cap : Nat) (xs : List Value) (hs : a.eval s = .slice (some ⟨g, 0, none⟩) n cap) (hown : w.ownsRow base e size (.slice (some ⟨g, 0, none⟩) n cap) n xs)
    (ad : Addr) (m c : Nat) (news : List Value) (hx : a.eval x = .slice (some ad) m c) (hl : news.length = m * size) (hnews : ∀ j u, news[j]? = some u → w.cell? (ad.add j) = some u) (h1 : ∀ u ∈ news, u.oneCell' = true)
    (hroom : n + m ≤ cap)
    (h : ∀ w', w'.ownsRow base e size (.slice (some ⟨g, 0, none⟩) (n + m) cap) (n + m) (xs ++ news) → w.grownBy w' (some g) → K (a.put o.dst (.slice (some ⟨g, 0, none⟩) (n + m) cap)) w') :
    if Region.wanted o (yielded ops a.tmps) = true then Oper.wp P o a w K Q else E := by
  have hw : Region.wanted o (yielded ops a.tmps) = true := by simp [Region.wanted, hgd]
  rw [if_pos hw]
  exact wp_append_own_spare w s x t ho base e i size ht hi hsize g n cap xs hs hown ad m c news hx hl hnews h1 hroom h

/-- The memory of the rounds: the numbers, and the list that serves each node. -/
structure PL (w0 : World) (n g h cap : Nat) (D : Nat → Int) (xs : List Int) (wr : World) : Prop where
  row : wr.ownsRow w0.heap.size 3 1 (.slice (some ⟨g, 0, none⟩) n n) n ((rowO D n).map (Value.int .i64))
  lst : wr.ownsRow w0.heap.size 3 1 (.slice (some ⟨h, 0, none⟩) xs.length cap) xs.length (xs.map (Value.int .i64))
  ne : g ≠ h
  below : Below w0.heap.size w0 wr
section
variable {w0 wr : World} {n g h cap : Nat} {D : Nat → Int} {xs : List Int}
theorem PL.drewN (k : PL w0 n g h cap D xs wr) (m : Nat) : PL w0 n g h cap D xs (wr.drewN m) := ⟨k.row, k.lst, k.ne, ⟨k.below.os, k.below.tape, k.below.output, k.below.size, k.below.block⟩⟩
theorem PL.alloc (k : PL w0 n g h cap D xs wr) (b : Obj) : PL w0 n g h cap D xs (wr.alloc b) := ⟨k.row.alloc b, k.lst.alloc b, k.ne, k.below.alloc k.below.size b⟩
theorem PL.drew (k : PL w0 n g h cap D xs wr) : PL w0 n g h cap D xs wr.drew := ⟨k.row, k.lst, k.ne, k.below.drew⟩
theorem PL.at (k : PL w0 n g h cap D xs wr) {c : Nat} (hc : c < n) : wr.cell? ⟨g, c, none⟩ = some (.int .i64 (D c)) := own_num k.row hc
theorem PL.app (k : PL w0 n g h cap D xs wr) {w6 : World} {x : Int} (hown : w6.ownsRow w0.heap.size 3 1 (.slice (some ⟨h, 0, none⟩) (xs.length + 1) cap) (xs.length + 1) (xs.map (Value.int .i64) ++ [x].map (Value.int .i64))) (hg : wr.grownBy w6 (some h)) : PL w0 n g h cap D (xs ++ [x]) w6 := by
  have e1 : (xs ++ [x]).length = xs.length + 1 := by simp
  have e2 : (xs ++ [x]).map (Value.int .i64) = xs.map (Value.int .i64) ++ [x].map (Value.int .i64) := by simp
  refine ⟨k.row.kept hg (.inr fun e => k.ne (Option.some.inj e)), ?_, k.ne, k.below.grown hg k.below.size (fun j e => (k.lst.lt j e).1)⟩
  rw [e1, e2]
  exact hown
theorem PL.clear (k : PL w0 n g h cap D xs wr) : PL w0 n g h cap D [] wr := by
  refine ⟨k.row, ⟨rfl, ?_⟩, k.ne, k.below⟩
  rcases k.lst.2 with ⟨h0, _⟩ | ⟨q, cap', cur, hv, hb, hh, _, hm, hs, _⟩
  · cases h0
  · cases hv
    exact .inr ⟨_, _, cur, rfl, hb, hh, Nat.zero_le _, hm, hs, by simp⟩
theorem PL.put (k : PL w0 n g h cap D xs wr) (t : Nat) (x : Int) : PL w0 n g h cap (putD D t x) xs (wr.setCell ⟨g, t, none⟩ (.int .i64 x)) := by
  obtain ⟨h1, h2⟩ := k.row.stored t (.int .i64 x)
  rw [rowO_put (o' := putD D t x) (putD_at D t x) (fun j e => putD_ne x e)] at h1
  exact ⟨h1, k.lst.kept h2 (.inr fun e => k.ne (Option.some.inj e).symm), k.ne, k.below.grown h2 k.below.size (fun j e => by cases e; exact (k.row.lt _ rfl).1)⟩
theorem PL.ints (k : PL w0 n g h cap D xs wr) : Ints wr (.slice (some ⟨h, 0, none⟩) xs.length cap) xs := ints_of_own k.lst
end
section
variable {B G n : Nat} {w : World} {A : List ArcD} {F : List Int} {S : Nat → Value} {X : List (Nat × Nat)}
/-- The step into v at a place of v's slice: its two blocks. -/
theorem RN.stepI (h : RN B w G n A F S X) (hF : F.length = A.length) (hok : ∀ x ∈ A, arcOk (n : Int) x = true) {v j u : Nat} {z k : Int} (he : (rowI (A.zip F) v)[j]? = some (u, z, k)) :
    ∃ (b c : Nat) (z' k' : Int), (bsL (A.zip X) v)[j]? = some b ∧ w.heap[b]? = some (boxR v z' k' (some ⟨c, 0, none⟩)) ∧ w.heap[c]? = some (boxR u z k (some ⟨b, 0, none⟩)) := by
  have hj := (List.getElem?_eq_some_iff.1 he).1
  have hlen := rowI_box_len hF h.len v
  obtain ⟨b, hb⟩ : ∃ b, (bsL (A.zip X) v)[j]? = some b := ⟨_, List.getElem?_eq_getElem (by omega)⟩
  obtain ⟨i, x, y, c, d, h1, h2, h3, h4⟩ := rowI_box_at hF h.len he hb
  obtain ⟨b1, b2⟩ := h.box.box i x y c d h1 h2 h3
  obtain ⟨⟨hf0, _⟩, ⟨ht0, _⟩, hne, _⟩ := arcOk_out (hok _ (List.mem_of_getElem? h1))
  rcases h4 with ⟨rfl, h5, h6⟩ | ⟨rfl, h5, h6⟩
  · injection h6 with h7 h8
    injection h8 with h8 h9
    subst h8 h9
    refine ⟨b, d, x.r - z, x.c, hb, ?_, ?_⟩
    · rw [← h5]; exact b1
    · rw [h7, Int.toNat_of_nonneg ht0]; exact b2
  · injection h6 with h7 h8
    injection h8 with h8 h9
    subst h8 h9
    refine ⟨b, c, y, -x.c, hb, ?_, ?_⟩
    · rw [← h5]; exact b2
    · rw [h7, Int.toNat_of_nonneg hf0]; exact b1
end
theorem int_newdr (w : World) (x : Int) (t : TypeId) : ∀ j u, ([x].map (Value.int .i64))[j]? = some u → (w.drew.alloc (.cells #[.int .i64 x] t)).cell? ((⟨w.heap.size, 0, none⟩ : Addr).add j) = some u := int_new w.drew x t

set_option maxHeartbeats 4000000 in
theorem implInto (n : Nat) (A : List ArcD) (F : List Int) (B G : Nat) (S : Nat → Value) (X : List (Nat × Nat)) (D : Nat → Int) (g h cap v : Nat) (hn : netOkV n A = true) (hF : F.length = A.length) (hcap : A.length ≤ cap) (hD : ∀ c, c < n → -10000000000 ≤ D c ∧ D c ≤ 0) (hv : v < n) (w0 w : World) (hR : RN B w0 G n A F S X) (hP : PL w0 n g h cap D [] w) :
    Calls Try.prog 58 #[.slice (some ⟨G, 0, none⟩) n n, .int .i64 v, .slice (some ⟨g, 0, none⟩) n n, .slice (some ⟨h, 0, none⟩) 0 cap] w fun e w' =>
      e = .returned (.slice (some ⟨h, 0, none⟩) (costI D (rowI (A.zip F) v)).length cap) ∧ PL w0 n g h cap D (costI D (rowI (A.zip F) v)) w' := by
  obtain ⟨i1, hi1, hz10, hz11, hz12⟩ := info_parts Try.info3
  obtain ⟨_, hA3, hok⟩ := netOk_out hn
  have HFT := Lib.hid (fit_of (F := F) hn)
  have hrl : (rowI (A.zip F) v).length ≤ A.length := by
    have h1 := rowI_len (P := A.zip F) (fun p hp => (arcOk_out (hok _ (zip_arc hp))).2.2.1) v
    rw [List.length_zip] at h1
    omega
  have HOK := Lib.hid hok
  have HR := Lib.hid hR
  have HLF := Lib.hid hF
  have HD := Lib.hid hD
  have HP := Lib.hid hP
  have d3 := (hR.below hP.below).at_row hv
  obtain ⟨au, cu, hSu⟩ := own_form (hR.own v hv)
  rw [hSu] at d3
  have hlen := rowI_box_len hF hR.len v
  have HSV := Lib.hid hSu
  have hvn2 : (v : Int) < (n : Int) := by omega
  obtain ⟨m, hm⟩ : ∃ m, m = (bsL (A.zip X) v).length := ⟨_, rfl⟩
  rw [← hm] at d3 hlen
  rw [← hlen] at hrl
  have hmb : m ≤ 3200 := by omega
  have HLEN := Lib.hid hlen
  have HM := Lib.hid hm
  clear hn hok hR hF hD hP hSu hlen hm
  go_enter Try.func58, Try.ntmps58
  go_wp2_with fail
  go_loopw [3, 17] (fun vl i wr => ∃ k : Nat, i = .int .i64 k ∧ k ≤ m ∧ vl = .slice (some ⟨h, 0, none⟩) (costI D ((rowI (A.zip F) v).take k)).length cap ∧ PL w0 n g h cap D (costI D ((rowI (A.zip F) v).take k)) wr) (fun _ i _ => m - (intOf i).toNat)
  case atStart => exact ⟨0, rfl, Nat.zero_le _, rfl, by rw [List.take_zero]; exact HP.out⟩
  case round =>
    clear HP d3
    obtain ⟨k, rfl, hk, rfl, hP⟩ := hrel
    have HP := Lib.hid hP
    clear hP
    by_cases hlt : k < m
    · obtain ⟨⟨u, z, kc⟩, he⟩ : ∃ e, (rowI (A.zip F) v)[k]? = some e := ⟨_, List.getElem?_eq_getElem (by have := HLEN.out; omega)⟩
      have hem := List.mem_of_getElem? he
      obtain ⟨hun, hkc1, hkc2⟩ := rowI_bd HFT.out hem
      simp only at hun hkc1 hkc2
      have hRm := HR.out.below HP.out.below
      obtain ⟨b, c, z', k', hb, h1, h2⟩ := hRm.stepI HLF.out HOK.out he
      obtain ⟨ga, ca, hga⟩ := own_at2 (hRm.own v hv) (by rw [← HM.out]; omega)
      have hga2 := HSV.out.symm.trans hga
      injection hga2 with hga3 _ hga4
      subst hga3 hga4
      have d0 := own_ptr (by have := hRm.own v hv; rw [hga] at this; exact this) hb
      obtain ⟨_, _, c3⟩ := boxR_cells h1
      have f0 : wr.cell? ⟨c, 0, none⟩ = some (.int .i64 (u : Int)) := box_cell h2 rfl
      have f1 : wr.cell? ⟨c, 1, none⟩ = some (.int .i64 z) := box_cell h2 rfl
      have f2 : wr.cell? ⟨c, 2, none⟩ = some (.int .i64 kc) := box_cell h2 rfl
      have d4 := HP.out.at hun
      have hbd := HD.out u hun
      have hkm2 : (k : Int) < (m : Int) := by omega
      have hun2 : (u : Int) < (n : Int) := by omega
      have hw2 : IntKind.i64.wrap (D u + kc) = D u + kc := IntWalk.i64_in _ (by omega)
      have hcl := costI_len D ((rowI (A.zip F) v).take k)
      rw [List.length_take] at hcl
      have HE := Lib.hid he
      clear he hem h1 h2 hb hga hRm hbd
      cases hz : decide (0 < z) with
      | false =>
        have HZ := Lib.hid hz
        have e2 := costI_off (D := D) HE.out hz
        have HE2 := Lib.hid e2
        clear hz e2 hcl
        go_wp2_with (go_at_call 41; refine (implOpen c z false HZ.out _ (by assumption)).mono ?_; rintro e w9 ⟨rfl, rfl⟩)
        go_roundw
        case rel => exact ⟨k + 1, by go_num, by omega, by rw [HE2.out], by rw [HE2.out]; exact HP.out⟩
        case measure => simp [intOf]; omega
      | true =>
        have HZ := Lib.hid hz
        have e2 := costI_on (D := D) HE.out hz
        have HE2 := Lib.hid e2
        have HCL := Lib.hid (show (costI D ((rowI (A.zip F) v).take k)).length + 1 ≤ cap by omega)
        generalize costI D ((rowI (A.zip F) v).take k) = L at HP HE2 HCL ⊢
        clear hz e2 hcl
        go_wp2_with (go_at_call 41; refine (implOpen c z true HZ.out _ (by assumption)).mono ?_; rintro e w9 ⟨rfl, rfl⟩)
        go_region_law (refine step_append_spare rfl (.tmp 27) (.tmp 40) 27 rfl w0.heap.size 3 i1 1 Try.underlying27 hi1 hz11 h L.length cap (L.map (Value.int .i64)) (by simp [Act.eval]) (HP.out.drew.alloc _).lst ⟨wr.heap.size, 0, none⟩ 1 1 ([D u + kc].map (Value.int .i64)) (by simp [Act.eval]) rfl (int_newdr _ _ _) (ints_one _) HCL.out ?_; intro w6 hown6 hgrow6; have HP6 := Lib.hid ((HP.out.drew.alloc _).app hown6 hgrow6); clear hown6 hgrow6)
        all_goals
          go_wp2_with fail
          go_roundw
          case rel => exact ⟨k + 1, by go_num, by omega, by rw [HE2.out, List.length_append]; rfl, by rw [HE2.out]; exact HP6.out⟩
          case measure => simp [intOf]; omega
    · obtain rfl : k = m := by omega
      have e : (rowI (A.zip F) v).take k = rowI (A.zip F) v := by rw [HLEN.out, List.take_length]
      rw [e] at HP ⊢
      go_wp2_with fail
      go_ret
      exact ⟨rfl, HP.out⟩

end Go.Proofs.Ytobflidianlomaa

namespace Go.Proofs.Ytobflidianlomaa
set_option maxRecDepth 4096
open Go.ChangeShapes Go.WideShapes Go.ChangeAt Go.RowKit

set_option maxHeartbeats 4000000 in
theorem implLower (n K : Nat) (A : List ArcD) (F : List Int) (B G : Nat) (S : Nat → Value) (X : List (Nat × Nat)) (D : Nat → Int) (g h cap : Nat) (hn : netOkV n A = true) (hF : F.length = A.length) (hcap : A.length ≤ cap) (hD : FC (A.zip F) n K D) (hK : K ≤ 80000000) (w0 w : World) (hR : RN B w0 G n A F S X) (hP : PL w0 n g h cap D [] w) :
    Calls Try.prog 40 #[.slice (some ⟨G, 0, none⟩) n n, .slice (some ⟨g, 0, none⟩) n n, .slice (some ⟨h, 0, none⟩) 0 cap] w fun e w' =>
      e = .returned (.bool (fellK (A.zip F) D n)) ∧ PL w0 n g h cap (passK (A.zip F) D n) [] w' := by
  obtain ⟨⟨hN1, hN2⟩, hA3, hok⟩ := netOk_out hn
  have hn15 : n ≤ 1500 := by omega
  have HFT := Lib.hid (fit_of (F := F) hn)
  have HN := Lib.hid hn
  have HR := Lib.hid hR
  have HLF := Lib.hid hF
  have HD := Lib.hid hD
  have HP := Lib.hid hP
  have HRL : Hid (∀ v, (rowI (A.zip F) v).length ≤ 3200) := Lib.hid fun v => by
    have h1 := rowI_len (P := A.zip F) (fun p hp => (arcOk_out (hok _ (zip_arc hp))).2.2.1) v
    rw [List.length_zip] at h1
    omega
  clear hn hok hR hF hD hP hN1 hN2
  go_enter Try.func40, Try.ntmps40
  go_wp2_with fail
  go_loopw [7, 12] (fun vl i wr => ∃ k : Nat, i = .int .i64 k ∧ k ≤ n ∧ vl = .bool (fellK (A.zip F) D k) ∧ PL w0 n g h cap (passK (A.zip F) D k) [] wr) (fun _ i _ => n - (intOf i).toNat)
  case atStart => exact ⟨0, rfl, Nat.zero_le _, rfl, HP.out⟩
  case round =>
    clear HP
    obtain ⟨k, rfl, hk, rfl, hP⟩ := hrel
    have HP := Lib.hid hP
    clear hP
    by_cases hlt : k < n
    · have d4 := HP.out.at hlt
      have hfc := passK_fc HFT.out HD.out k
      have HB : Hid (∀ c, c < n → -10000000000 ≤ passK (A.zip F) D k c ∧ passK (A.zip F) D k c ≤ 0) := Lib.hid fun c hc => hfc.bd HFT.out (by omega) hc
      have hkm2 : (k : Int) < (n : Int) := by omega
      have HFE : Hid (fellK (A.zip F) D (k + 1) = (fellK (A.zip F) D k || decide (nextV (A.zip F) (passK (A.zip F) D k) k < passK (A.zip F) D k k))) := Lib.hid rfl
      have HPE : Hid (passK (A.zip F) D (k + 1) = putD (passK (A.zip F) D k) k (nextV (A.zip F) (passK (A.zip F) D k) k)) := Lib.hid rfl
      have HNE : Hid (nextV (A.zip F) (passK (A.zip F) D k) k = leastL (passK (A.zip F) D k k) (costI (passK (A.zip F) D k) (rowI (A.zip F) k))) := Lib.hid rfl
      have hcl := costI_len (passK (A.zip F) D k) (rowI (A.zip F) k)
      have hcl2 : (costI (passK (A.zip F) D k) (rowI (A.zip F) k)).length ≤ 2000000 := by have := HRL.out k; omega
      clear hfc hcl
      generalize passK (A.zip F) D k = E at HP HB HFE HPE HNE hcl2 d4
      generalize fellK (A.zip F) D k = b at HFE ⊢
      generalize hy : nextV (A.zip F) E k = y at HFE HPE HNE
      generalize hx : E k = x at HFE HNE d4
      have HY := Lib.hid hy
      have HX := Lib.hid hx
      clear hy hx
      cases b
      all_goals
        go_wp2_with (first
          | (go_at_call 58; refine (implInto n A F B G S X E g h cap k HN.out HLF.out hcap HB.out hlt w0 _ HR.out HP.out).mono ?_; rintro e w5 ⟨rfl, hP5⟩; have HP5 := Lib.hid hP5; clear hP5)
          | (go_at_call 57; refine (implLeastOf x (costI E (rowI (A.zip F) k)) _ hcl2 _ HP5.out.ints).mono ?_; rintro e w6 ⟨rfl, rfl⟩; rw [← HNE.out]; have f5 := HP5.out.row.frozenAt k; have d5 := HP5.out.at hlt; have hP6 := HP5.out.clear.put k y; have d6 := hP6.at hlt; rw [putD_at] at d6; have HP6 := Lib.hid hP6; clear hP6))
        go_roundw
        case rel => exact ⟨k + 1, by go_num, by omega, by rw [HFE.out]; rfl, by rw [HPE.out]; exact HP6.out⟩
        case measure => simp [intOf]; omega
    · obtain rfl : k = n := by omega
      go_wp2_with fail
      go_ret
      exact ⟨rfl, HP.out⟩

end Go.Proofs.Ytobflidianlomaa

namespace Go.Proofs.Ytobflidianlomaa
set_option maxRecDepth 4096
open Go.ChangeShapes Go.WideShapes Go.ChangeAt Go.RowKit

theorem own_zeros {w0 w : World} {g n : Nat} (h : w.ownsRow w0.heap.size 3 1 (.slice (some ⟨g, 0, none⟩) n n) n (madeCells (Value.int .i64 0).cells (n * 1)).toList) : w.ownsRow w0.heap.size 3 1 (.slice (some ⟨g, 0, none⟩) n n) n ((rowO (fun _ => 0) n).map (Value.int .i64)) := by
  have e : (madeCells (Value.int .i64 0).cells (n * 1)).toList = (rowO (fun _ => 0) n).map (Value.int .i64) := by
    rw [Nat.mul_one, ← rowO_const0]
    exact toList_madeCells_one _ _
  rw [e] at h
  exact h
theorem priceOk_flow {N : Int} {A : List ArcD} {F : List Int} (h : flowOkV N A F = false) : priceOk N A F = false := by
  cases hb : priceOk N A F with
  | false => rfl
  | true => rw [(priceOk_iff.1 hb).1] at h; cases h
theorem priceOk_none {N : Int} {A : List ArcD} {F : List Int} (h : ¬ ∃ π, PotC (A.zip F) π) : priceOk N A F = false := by
  cases hb : priceOk N A F with
  | false => rfl
  | true => exact absurd (priceOk_iff.1 hb).2 h

set_option maxHeartbeats 4000000 in
theorem implPrices (N : Int) (A : List ArcD) (F R : List Int) (v vf : Value) (b : Bool) (hA : A.length ≤ 2000000) (hF : F.length ≤ 2000000) (HR : Hid (pricesV N A F = R)) (HB : Hid (priceOk N A F = b)) (w : World) (hv : Arcs w v A) (hf : Ints w vf F) :
    Calls Try.prog 11 #[.agg #[.int .i64 N, v], vf] w (PriceBack w R b) := by
  have hB := Below.refl (w.alloc (.cells #[.int .i64 N, v] 26)).heap.size (w.alloc (.cells #[.int .i64 N, v] 26))
  obtain ⟨c0, c1⟩ := net_cells hB
  have HVV := Lib.hid hv
  have HFF := Lib.hid hf
  clear hv hf
  cases hk : flowOkV N A F with
  | false =>
    have HK := Lib.hid hk
    have e1 : b = false := by rw [← HB.out]; exact priceOk_flow hk
    have e2 : R = [] := by rw [← HR.out]; exact prices_no (priceOk_flow hk)
    subst e1 e2
    clear hk
    go_enter Try.func11, Try.ntmps11
    go_wp2_with fail
    refine (implFlowOk N A F v vf false hA hF HK _ (arcs_on HVV.out (below_box hB)) (ints_on HFF.out (below_box hB))).mono ?_
    rintro e w1 ⟨rfl, hb⟩
    replace hB := next_below hB hb
    clear hb c0 c1
    go_wp2_with fail
    go_ret2
    exact ⟨_, rfl, World.ownsRow_nil _ _ _ _, below_box hB⟩
  | true =>
    have HK := Lib.hid hk
    obtain ⟨n, rfl, h2, h15, hok, hA3, hFl, hPt⟩ := flow_facts hk
    have HOK := Lib.hid hok
    have HPT := Lib.hid hPt
    have HL := Lib.hid hFl
    have HN := Lib.hid ((flowOk_out hk).1)
    have HFT := Lib.hid (fit_of (F := F) ((flowOk_out hk).1))
    obtain ⟨i0, hi, hz0, hz1, hz2⟩ := info_parts Try.info3
    obtain ⟨av, cv, rfl, HV⟩ := arcs_form HVV.out
    clear hk hok hFl hPt HV
    go_enter Try.func11, Try.ntmps11
    go_wp2_with fail
    refine (implFlowOk n A F _ vf true hA hF HK _ (arcs_on HVV.out (below_box hB)) (ints_on HFF.out (below_box hB))).mono ?_
    rintro e w1 ⟨rfl, hb⟩
    replace hB := next_below hB hb
    obtain ⟨c0, c1⟩ := net_cells hB
    clear hb
    go_wp2_with fail
    refine (implResidual n A F _ vf h15 HOK.out hA3 HL.out HPT.out _ (arcs_on HVV.out (below_box hB)) (ints_on HFF.out (below_box hB))).mono ?_
    rintro e w2 ⟨G, S, X, rfl, hRN, hb⟩
    replace hB := next_below hB hb
    have HRN := Lib.hid hRN
    clear hb c0 c1 hRN
    go_upto_region 4 with fail
    obtain ⟨c0, c1⟩ := net_cells hB
    obtain ⟨wa, run1, row1, g1⟩ := run_make_full (P := Try.prog) w2.drew w2.heap.size 27 3 i0 (.int .i64 0) 1 Try.underlying27 hi hz0 hz1 .i64 .i64 n (by rw [hz2]; omega) (by unfold maxLen; omega) (Nat.le_refl _)
    have ha : w2.heap.size ≤ wa.heap.size := g1.size
    obtain ⟨wb, run2, row2, g2⟩ := run_make_own (P := Try.prog) wa w2.heap.size 27 3 i0 (.int .i64 0) 1 Try.underlying27 hi hz0 hz1 .i64 .i64 A.length (by rw [hz2]; omega) (by unfold maxLen; omega) ha
    obtain ⟨wd, run3, row3, g3⟩ := run_make_own (P := Try.prog) w2.drew w2.heap.size 27 3 i0 (.int .i64 0) 1 Try.underlying27 hi hz0 hz1 .i64 .i64 A.length (by rw [hz2]; omega) (by unfold maxLen; omega) (Nat.le_refl _)
    have hd : w2.heap.size ≤ wd.heap.size := g3.size
    obtain ⟨we, run4, row4, g4⟩ := run_make_full (P := Try.prog) wd w2.heap.size 27 3 i0 (.int .i64 0) 1 Try.underlying27 hi hz0 hz1 .i64 .i64 n (by rw [hz2]; omega) (by unfold maxLen; omega) hd
    have hb0 : Below w2.heap.size w2 w2.drew := (Below.refl w2.heap.size w2).drew
    have hba := hb0.grown g1 (Nat.le_refl _) (fun j hj => by cases hj)
    have hbb := hba.grown g2 ha (fun j hj => by cases hj)
    have hbd := hb0.grown g3 (Nat.le_refl _) (fun j hj => by cases hj)
    have hbe := hbd.grown g4 hd (fun j hj => by cases hj)
    have HP1 : Hid (PL w2 n w2.heap.size wa.heap.size A.length (fun _ => 0) [] wb) := Lib.hid ⟨(own_zeros row1).kept g2 (.inr (fun e => by cases e)), row2, Nat.ne_of_lt (row1.lt _ rfl).2, hbb⟩
    have HP2 : Hid (PL w2 n wd.heap.size w2.heap.size A.length (fun _ => 0) [] we) := Lib.hid ⟨own_zeros row4, row3.kept g4 (.inr (fun e => by cases e)), (Nat.ne_of_lt (row3.lt _ rfl).2).symm, hbe⟩
    obtain ⟨a0, a1⟩ := net_cells (next_below hB hba)
    obtain ⟨d0, d1⟩ := net_cells (next_below hB hbd)
    have HBX := Lib.hid hB
    clear row1 row2 row3 row4 g1 g2 g3 g4 hba hbb hbd hbe hb0 ha hd hB
    go_cut [7, 8] from 16 to 22 (fun vp vl wx => ∃ g h, vp = .slice (some ⟨g, 0, none⟩) n n ∧ vl = .slice (some ⟨h, 0, none⟩) 0 A.length ∧ PL w2 n g h A.length (fun _ => 0) [] wx)
    case first =>
      go_region
      all_goals
        go_wp2_with fail
        go_meet
        first | exact ⟨_, _, rfl, rfl, HP1.out⟩ | exact ⟨_, _, rfl, rfl, HP2.out⟩
    case rest =>
      clear c0 c1 a0 a1 d0 d1 run1 run2 run3 run4 HP1 HP2
      obtain ⟨g, h, rfl, rfl, hP⟩ := hcut
      have HP := Lib.hid hP
      obtain ⟨c0, c1⟩ := net_cells (next_below HBX.out hP.below)
      clear hP
      go_wp2_with fail
      go_loopw [25] (fun i wr => ∃ (k : Nat) (D : Nat → Int), i = .int .i64 k ∧ k ≤ n ∧ Hid (FC (A.zip F) n (k * n) D) ∧ Hid (LevC (A.zip F) n k D) ∧ Hid (k = n → ¬ ∃ π, PotC (A.zip F) π) ∧ PL w2 n g h A.length D [] wr) (fun i _ => n - (intOf i).toNat)
      case atStart => exact ⟨0, _, rfl, Nat.zero_le _, Lib.hid (by rw [Nat.zero_mul]; exact FC.start), Lib.hid levC_start, Lib.hid (fun e => by omega), HP.out⟩
      case round =>
        clear HP c0 c1
        obtain ⟨k, D, rfl, hk, HFC, HLV, HNO, hP⟩ := hrel
        have HP := Lib.hid hP
        clear hP
        by_cases hlt : k < n
        · have hlt2 : (k : Int) < (n : Int) := by omega
          have hkn : k * n ≤ 1500 * 1500 := Nat.mul_le_mul (by omega) h15
          cases hfe : fellK (A.zip F) D n with
          | false =>
            have HFE := Lib.hid hfe
            clear hfe
            have hpot := passK_pot HFT.out HFE.out
            have e1 : b = true := by rw [← HB.out]; exact priceOk_iff.2 ⟨HK.out, _, hpot⟩
            have e2 : R = rowO D n := by
              rw [← HR.out, prices_is HK.out hpot]
              exact rowO_same fun c hc => (pot_price HFC.out hpot hc).symm
            have e3 := passK_same D n HFE.out
            have HE3 := Lib.hid e3
            subst e1 e2
            clear hpot e3
            go_wp2_with (go_at_call 40; refine (implLower n (k * n) A F _ G S X D g h A.length HN.out HL.out (Nat.le_refl _) HFC.out (by omega) w2 _ HRN.out HP.out).mono ?_; rintro e w5 ⟨rfl, hP5⟩; rw [HFE.out]; rw [HE3.out] at hP5; have HP5 := Lib.hid hP5; clear hP5)
            go_ret2
            have hwb := HBX.out.size
            rw [World.size_alloc] at hwb
            refine ⟨_, rfl, ?_, below_box (next_below HBX.out HP5.out.below)⟩
            rw [rowO_len]
            exact own_base HP5.out.row (by omega)
          | true =>
            have HFE := Lib.hid hfe
            clear hfe
            go_wp2_with (go_at_call 40; refine (implLower n (k * n) A F _ G S X D g h A.length HN.out HL.out (Nat.le_refl _) HFC.out (by omega) w2 _ HRN.out HP.out).mono ?_; rintro e w5 ⟨rfl, hP5⟩; rw [HFE.out]; have HP5 := Lib.hid hP5; clear hP5)
            go_roundw
            case rel =>
              refine ⟨k + 1, _, by go_num, by omega, Lib.hid (by rw [Nat.succ_mul]; exact passK_fc HFT.out HFC.out n), Lib.hid (passK_lev HFT.out HFC.out HLV.out), Lib.hid (fun e => ?_), HP5.out⟩
              refine passK_none HFT.out HFC.out ?_ HFE.out
              rw [show n - 1 = k by omega]
              exact HLV.out
            case measure => simp [intOf]; omega
        · obtain rfl : k = n := by omega
          have e0 := priceOk_none (N := (k : Int)) (HNO.out rfl)
          have e1 : b = false := by rw [← HB.out]; exact e0
          have e2 : R = [] := by rw [← HR.out]; exact prices_no e0
          subst e1 e2
          clear e0
          go_wp2_with fail
          go_ret2
          exact ⟨_, rfl, World.ownsRow_nil _ _ _ _, below_box (next_below HBX.out HP.out.below)⟩

theorem implNoneCheaper (N : Int) (A : List ArcD) (F : List Int) (v vf : Value) (b : Bool) (hA : A.length ≤ 2000000) (hF : F.length ≤ 2000000) (HB : Hid (priceOk N A F = b)) (w : World) (hv : Arcs w v A) (hf : Ints w vf F) :
    Calls Try.prog 14 #[.agg #[.int .i64 N, v], vf] w (Made w (.bool b)) := by
  have hB := Below.refl (w.alloc (.cells #[.int .i64 N, v] 26)).heap.size (w.alloc (.cells #[.int .i64 N, v] 26))
  obtain ⟨c0, c1⟩ := net_cells hB
  have HVV := Lib.hid hv
  have HFF := Lib.hid hf
  clear hv hf
  go_enter Try.func14, Try.ntmps14
  go_wp2_with fail
  refine (implPrices N A F _ v vf b hA hF (Lib.hid rfl) HB _ (arcs_on HVV.out (below_box hB)) (ints_on HFF.out (below_box hB))).mono ?_
  rintro e w1 ⟨vr, rfl, _, hb⟩
  replace hB := next_below hB hb
  clear hb c0 c1
  go_wp2_with fail
  go_ret
  exact ⟨rfl, below_box hB⟩

end Go.Proofs.Ytobflidianlomaa

