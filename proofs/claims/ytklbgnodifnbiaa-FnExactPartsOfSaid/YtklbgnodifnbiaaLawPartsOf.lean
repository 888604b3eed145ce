/-
  THE LAW FnExactPartsOf: at every line the program's PartsOf answers as its model, and its answer owns its memory. No condition.
-/
import Derived.Test.YtklbgnodifnbiaaParts
import Derived.Test.YtklbgnodifnbiaaStrs
namespace Go.Proofs.Ytklbgnodifnbiaa.fnExactPartsOf
open Go.ChangeShapes Go.WideShapes Go.ChangeAt Go.RowKit
open Go.ChangeMaps (open_string shut_string)

theorem specAny (s : ByteArray) (L : List ByteArray) (b : Bool) (w : World) (HP : Hid (partsOf s = (L, b))) :
    Calls Try.prog 11 #[.string s] w (TextsBack w L b) := by
  by_cases h : 600 < s.size
  · exact specParts_long s L b w h HP
  · exact specParts s L b w h HP
theorem implAny (s : ByteArray) (L : List ByteArray) (b : Bool) (w : World) (HP : Hid (partsOf s = (L, b))) :
    Calls Try.prog 12 #[.string s] w (TextsBack w L b) := by
  by_cases h : 600 < s.size
  · exact implParts_long s L b w h HP
  · exact implParts s L b w h HP

theorem parts_few {s : ByteArray} {L : List ByteArray} {b : Bool} (h : partsOf s = (L, b)) : L.length ≤ 12 := by
  unfold partsOf at h
  split at h
  · obtain ⟨rfl, _⟩ := Prod.mk.inj h; simp
  · split at h
    · obtain ⟨rfl, _⟩ := Prod.mk.inj h; simp
    · split at h
      · obtain ⟨rfl, _⟩ := Prod.mk.inj h; simp
      · obtain ⟨rfl, _⟩ := Prod.mk.inj h; omega

theorem mark1 (v : Value) (B n : Nat) (xs : List Value) (w : World) (hown : w.ownsRow B 9 1 v n xs) (hn : n ≤ 12) (hB : B ≤ w.heap.size) :
    Calls Try.prog 14 #[v, .int .i64 1] w (Marked w B 9 v 1 n) :=
  markTexts v B 1 n xs w hown (by omega) (by omega) hB
theorem held1 (v : Value) (n : Nat) (w : World) (h : Texts w v (marks 1 n)) (hn : n ≤ 12) :
    Calls Try.prog 15 #[v, .int .i64 1] w (Made w (.int .i64 ((1 + n : Nat) : Int))) :=
  heldTexts v 1 n w h (by omega) (by omega)

theorem own_marks {w : World} {B : Nat} {T : TypeId} {v : Value} {n : Nat} (h : w.ownsRow B T 1 v n ((marks 1 n).map Value.string)) : w.ownsRow B T 1 v (marks 1 n).length ((marks 1 n).map Value.string) := by
  rw [length_marks]
  exact h

set_option maxHeartbeats 1000000 in
theorem walk (a0 : ByteArray) (_w0 : a0.size ≤ maxLen) (w : World) :
    Calls Try.prog 5 #[.string a0] w fun e w' => e = .returned (.bool true) ∧ Below w.heap.size w w' := by
  by_cases h1 : (1048576 : Int) < a0.size
  · go_enter Try.func5, Try.ntmps5
    go_wp2
    go_ret
    exact ⟨rfl, Below.refl _ _⟩
  · obtain ⟨L, b, HP⟩ : ∃ L b, Hid (partsOf a0 = (L, b)) := ⟨_, _, rfl⟩
    have hfew := parts_few HP.out
    go_enter Try.func5, Try.ntmps5
    go_wp2_with fail
    refine (specAny _ L b _ HP).mono ?_
    rintro e w1 ⟨v0, rfl, hown0, hb1⟩
    go_wp2_with fail
    refine (implAny _ L b _ HP).mono ?_
    rintro e w2 ⟨v1, rfl, hown1, hb2⟩
    have hown0a := own_below hown0 hb2 hb1.size
    go_wp2_with fail
    refine (eqTexts _ _ L _ (texts_of_own hown1) (texts_of_own hown0a) (by omega)).mono ?_
    rintro e w3 ⟨rfl, n3, rfl⟩
    go_wp2_with fail
    refine (mark1 v1 w1.heap.size L.length _ (w2.drewN n3) hown1 hfew hb2.size).mono ?_
    rintro e w4 ⟨rfl, hown4, hgr4⟩
    have hs2 := hb2.size
    have hs4 : w2.heap.size ≤ w4.heap.size := hgr4.size
    have hb4 : Below w.heap.size w w4 := ((hb1.trans (hb2.mono hb1.size)).trans (below_drewN (Below.refl _ _) n3)).grown hgr4 (Nat.le_trans hb1.size hs2) (fun j hj => Nat.le_trans hb1.size (hown1.lt j hj).1)
    have hown0b : w4.ownsRow w.heap.size 9 1 v0 L.length (L.map Value.string) := World.ownsRow.kept (w := w2.drewN n3) hown0a hgr4 (own_apart hown0 hown1)
    clear hgr4
    go_wp2_with fail
    refine (held1 v1 L.length _ (texts_of_own (own_marks hown4)) hfew).mono ?_
    rintro e w5 ⟨rfl, hb5⟩
    have hown4a := own_below hown4 hb5 (Nat.le_trans hs2 hs4)
    have hown0c := own_below hown0b hb5 hb4.size
    have hs5 := hb5.size
    have hb5a := hb4.trans (hb5.mono hb4.size)
    clear hb5 hown4 hown0b
    go_wp2_with fail
    refine (implAny _ L b _ HP).mono ?_
    rintro e w6 ⟨v2, rfl, hown2, hb6⟩
    have hown4b := own_below hown4a hb6 (Nat.le_trans (Nat.le_trans hs2 hs4) hs5)
    have hown0d := own_below hown0c hb6 hb5a.size
    have hb6a := hb5a.trans (hb6.mono hb5a.size)
    go_wp2_with fail
    refine (eqTexts _ _ L _ (texts_of_own hown2) (texts_of_own hown0d) (by omega)).mono ?_
    rintro e w7 ⟨rfl, n7, rfl⟩
    go_wp2_with fail
    refine (held1 v1 L.length (w6.drewN n7) (texts_of_own (w := w6.drewN n7) (own_marks hown4b)) hfew).mono ?_
    rintro e w8 ⟨rfl, hb8⟩
    go_wp2
    go_ret
    exact ⟨rfl, (below_drewN hb6a n7).trans (hb8.mono hb6a.size)⟩
-- LIFT
set_option maxRecDepth 100000 in
theorem lifted (os : Os) (started : os.Started) (H : Type) (enc : TypeId × Value → H) :
    ReturnsInHanded {} Try.checked os 5 .any (Rows.fnExactPartsOfSpec.pre6 enc Try.prog Try.f5 Rows.fnExactPartsOfRow.domain false) (Rows.fnExactPartsOfSpec.post enc Try.prog Try.f5 false true false false) := by
  refine returnsInHanded_of_change (C := Try.checked) own started (by kernel_rfl) Try.func5
    (ChangeSpec.witness6 (enc := enc) (C := Try.checked) false ⟨#[], #[.string ByteArray.empty], []⟩ 8 (by kernel_rfl) (by kernel_rfl) (by kernel_rfl) (by kernel_rfl)) ?_
  intro W base args ds gs before hval0 hW hcnd _
  have hval : ∀ (j : Nat) t v, Try.f5.params[j]? = some t → args[j]? = some v → Value.okWide Try.prog W .any base t v := hval0
  have hW' := hW
  obtain ⟨p, q, hA0, hV, rfl, hfz, hnd⟩ := hW
  have hA : DataW.TrodAll enc Try.prog W 0 (fun _ => true) true Try.f5.params.toList args.toList ds p := hA0
  rw [Try.params5] at hA hval
  obtain ⟨v0, vs0, d0, ds0, p0, q0, hargs, rfl, rfl, h0, r0⟩ := trodAll_cons hA
  obtain ⟨rfl, rfl, rfl⟩ := trodAll_nil r0
  obtain rfl : args = #[v0] := by cases args; simp_all
  obtain ⟨rfl, rfl⟩ := trodVars_none hV
  obtain ⟨a0, rfl, rfl, rfl, w0⟩ := open_string Try.underlying9 (hval 0 9 v0 rfl rfl) h0
  clear hA0 hval0
  simp only [List.append_nil] at hW'
  refine (walk a0 w0 W).mono fun e W' ⟨he, hg⟩ => ?_
  subst he
  exact ⟨_, rfl, post_of_below (pa := []) (pv := []) hW' (fun _ _ _ => (trodAll_cons_mk (shut_bool Try.underlying4 _) trodAll_mk0)) (fun sp _ => (trodAll_cons_mk (shut_string Try.underlying9 w0) trodAll_mk0)) (fun _ _ => rfl) rfl
    hg (ok_one (by kernel_rfl) rfl (okWide_bool_mk Try.underlying4 _))⟩

theorem over : Rows.fnExactPartsOfRow.holds Try.pinned (OpenSpec.ofChange Rows.fnExactPartsOfSpec) :=
  OpenClaim.holds_of_wide 5 Try.f5 rfl rfl rfl rfl rfl rfl rfl ⟨rfl, rfl, rfl, rfl, rfl⟩ rfl rfl rfl rfl rfl (by kernel_rfl) Try.func5 (by kernel_rfl)
    (of_decide_eq_true (by kernel_rfl)) (by unfold Func.isWrapper; first | (rw [if_pos (by decide +kernel)]; kernel_rfl) | (rw [if_neg (by decide +kernel)]; exact ⟨rfl, rfl⟩))
    (fun os started H enc _ => lifted os started H enc)

theorem proved : Rows.FnExactPartsOfSaid :=
  over

end Go.Proofs.Ytklbgnodifnbiaa.fnExactPartsOf
