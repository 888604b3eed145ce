/-
  CONTRACT of spec.l11Copy. No law is proved here.
-/
import Derived.Test.YtkndlpcpkfgneaaLevelI
import Derived.Test.YtkndlpcpkfgneaaAllR
import Derived.Test.YtkndlpcpkfgneaaAppRow
import Derived.Test.YtkndlpcpkfgneaaSpecOnce
namespace Go.Proofs.Ytkndlpcpkfgneaa
set_option maxRecDepth 4096
open Go.ChangeShapes Go.WideShapes Go.ChangeAt Go.RowKit

theorem way_newC (w : World) (u : Value) (t : TypeId) : ∀ j x, [u][j]? = some x → (w.alloc (.cells #[u] t)).cell? ((⟨w.heap.size, 0, none⟩ : Addr).add j) = some x := by
  intro j x h
  have hadd : (⟨w.heap.size, 0, none⟩ : Addr).add j = ⟨w.heap.size, j, none⟩ := by unfold Addr.add; split <;> simp_all
  rw [hadd, World.cell?_alloc_mark]
  simpa using h
/-- Ways came back, each in memory of its own. -/
def OutBack (w : World) (Ws : List (List Int)) (e : Ending) (w' : World) : Prop :=
  ∃ v vs, e = .returned v ∧ OutW w' w.heap.size v vs Ws ∧ Below w.heap.size w w'

set_option maxHeartbeats 2000000 in
theorem specCopy (v : Value) (Ws : List (List Int)) (hW : Ws.length ≤ 2000000) (hT : totW Ws ≤ 2000000) (w : World) (hv : WaysAt w v Ws) :
    Calls Try.prog 19 #[v] w (OutBack w Ws) := by
  obtain ⟨i0, hi, hz0, hz1, hz2⟩ := info_parts Try.infoWay
  have HVV := Lib.hid hv
  have HTh := Lib.hid hT
  have HO0 := Lib.hid (own_made0 w 39)
  have HB0 := Lib.hid ((Below.refl w.heap.size w).alloc (Nat.le_refl _) (.cells #[] 39))
  obtain ⟨av, cv, rfl, _⟩ := hv
  clear hT
  go_enter Try.func19, Try.ntmps19
  go_wp2_with fail
  go_loopw [3, 4] (fun s i wr => ∃ (k : Nat) (vs : List Value), k ≤ Ws.length ∧ i = .int .i64 k ∧ vs.length = k ∧ wr.ownsRow w.heap.size 39 1 s k vs ∧ AllR wr w.heap.size vs (Ws.take k) ∧ Below w.heap.size w wr) (fun _ i _ => Ws.length - (intOf i).toNat)
  case atStart => exact ⟨0, [], Nat.zero_le _, rfl, rfl, HO0.out, .nil, HB0.out⟩
  case round =>
    obtain ⟨k, vs, hk, rfl, hvl, hown, hall, hbe⟩ := hrel
    have HO := Lib.hid hown
    have HB := Lib.hid hbe
    have HA := Lib.hid hall
    have HVL := Lib.hid hvl
    clear hown hbe hall hvl
    by_cases hlt : k < Ws.length
    · have hlt2 : (k : Int) < (Ws.length : Int) := by omega
      obtain ⟨L, hx⟩ : ∃ L, Ws[k]? = some L := ⟨_, List.getElem?_eq_getElem hlt⟩
      have hLb := totW_one hx
      have hLb2 : L.length ≤ 2000000 := by have := HTh.out; omega
      have hb1 := (Below.refl wr.heap.size wr).alloc (Nat.le_refl _) (.cells #[] 3)
      have HBW := Lib.hid (HB.out.trans (hb1.mono HB.out.size))
      obtain ⟨g, au, c, e, hg, u, bu, rfl, d1, hI⟩ := way_at (waysAt_on HVV.out HBW.out) hx
      injection e with e1 e2 e3
      subst e1 e3
      have HI := Lib.hid (argI_of_ints hI)
      have hts : Ws.take (k + 1) = Ws.take k ++ [L] := by
        obtain ⟨h1, h2⟩ := List.getElem?_eq_some_iff.1 hx
        rw [List.take_succ_eq_append_getElem h1, h2]
      have HTS := Lib.hid hts
      have hbs := HB.out.size
      clear hx e2 hI hLb hb1 hts
      go_wp2_with (at_builtin; first
        | (refine wpList_app rfl _ _ rfl wr.heap.size _ _ [] L rfl rfl (by exact own_made0 wr 3) HI.out (by simp; omega) (by simp) ?_; intro v' w2 hown2 hgr2; have hb2 : Below wr.heap.size wr w2 := ((Below.refl _ _).alloc (Nat.le_refl _) _).grown hgr2 (by simp) (fun j hj => by cases hj; exact Nat.le_refl _); rw [List.nil_append] at hown2; have HB2 := Lib.hid hb2; have HA2 := Lib.hid (HA.out.snoc hown2 hb2 hbs); have HO2 := Lib.hid (own_below HO.out hb2 hbs); obtain ⟨a2, c2, rfl⟩ := own_form hown2; clear hown2 hgr2 hb2)
        | (have hb3 := (Below.refl w2.heap.size w2).alloc (Nat.le_refl _) (.cells #[.slice a2 L.length c2] 39); have HA3 := Lib.hid (HA2.out.on hb3); have HO3 := Lib.hid (own_below HO2.out hb3 (Nat.le_trans hbs HB2.out.size)); have HB3 := Lib.hid (HB2.out.trans (hb3.mono HB2.out.size)); clear hb3; refine wpList_append_own _ rfl _ _ 24 rfl w.heap.size 39 i0 (.agg #[.slice none 0 0]) 1 24 Try.underlying24 hi hz0 hz1 hz2 rfl (by decide) _ _ _ rfl HO3.out ⟨w2.heap.size, 0, none⟩ 1 1 [.slice a2 L.length c2] rfl rfl (way_newC _ _ _) (by simp [Value.oneCell']) (by unfold maxLen; omega) (by omega) (by have := HB3.out.size; omega) ?_; intro v' w6 hown6 hgr6 _; have HA6 := Lib.hid (HA3.out.kinds HO3.out (by decide) hgr6); have HB6 := Lib.hid ((HB.out.trans (HB3.out.mono hbs)).grown hgr6 (by have := HB3.out.size; omega) (fun j hj => (HO3.out.lt j hj).1)); have HO6 := Lib.hid hown6; clear hown6 hgr6))
      go_roundw
      case rel => exact ⟨k + 1, vs ++ [.slice a2 L.length c2], by omega, by go_num, by rw [List.length_append, HVL.out]; rfl, HO6.out, by rw [HTS.out]; exact HA6.out, HB6.out⟩
      case measure => simp [intOf]; omega
    · obtain rfl : k = Ws.length := by omega
      have hnl : ¬ (Ws.length : Int) < (Ws.length : Int) := by omega
      have ha := HA.out
      rw [List.take_length] at ha
      have HAA := Lib.hid ha
      have HO2 : Hid (wr.ownsRow w.heap.size 39 1 _ vs.length vs) := Lib.hid (by rw [HVL.out]; exact HO.out)
      clear ha
      go_wp2_with fail
      go_ret
      exact ⟨_, vs, rfl, ⟨HO2.out, HAA.out⟩, HB.out⟩

end Go.Proofs.Ytkndlpcpkfgneaa
