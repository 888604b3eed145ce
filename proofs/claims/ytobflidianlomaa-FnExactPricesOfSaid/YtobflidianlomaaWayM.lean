/-
  A way through the residual network, as a list of blocks; what flows along it changes the flow. Plain facts; no statement is proved here.
-/
import Derived.Test.YtobflidianlomaaPushM
namespace Go.Proofs.Ytobflidianlomaa
set_option maxRecDepth 4096

/-- Block b is the arc from u to v, and U units more can go there. X: the blocks of an arc's two directions. -/
def Hop (A : List ArcD) (F : List Int) (X : List (Nat × Nat)) (U : Int) (u v b : Nat) : Prop :=
  ∃ (i : Nat) (x : ArcD) (y : Int) (c d : Nat), A[i]? = some x ∧ F[i]? = some y ∧ X[i]? = some (c, d) ∧
    ((b = c ∧ x.f = (u : Int) ∧ x.t = (v : Int) ∧ y + U ≤ x.r) ∨ (b = d ∧ x.t = (u : Int) ∧ x.f = (v : Int) ∧ U ≤ y))
/-- The blocks lead back from v to node 0, the ranks fall. -/
def Way (A : List ArcD) (F : List Int) (X : List (Nat × Nat)) (U : Int) (ρ : Nat → Nat) : List Nat → Nat → Prop
  | [], v => v = 0
  | b :: L, v => ∃ u, Hop A F X U u v b ∧ ρ u < ρ v ∧ Way A F X U ρ L u
def LeftAt (A : List ArcD) (F : List Int) (X : List (Nat × Nat)) (b : Nat) (l : Int) : Prop :=
  ∃ (i : Nat) (x : ArcD) (y : Int) (c d : Nat), A[i]? = some x ∧ F[i]? = some y ∧ X[i]? = some (c, d) ∧ ((b = c ∧ l = x.r - y) ∨ (b = d ∧ l = y))
section
variable {A : List ArcD} {F : List Int} {X : List (Nat × Nat)} {U : Int} {ρ : Nat → Nat}
theorem Hop.left {u v b : Nat} (h : Hop A F X U u v b) : ∃ l, LeftAt A F X b l ∧ U ≤ l := by
  obtain ⟨i, x, y, c, d, hx, hy, hc, ⟨h1, _, _, h2⟩ | ⟨h1, _, _, h2⟩⟩ := h
  · exact ⟨_, ⟨i, x, y, c, d, hx, hy, hc, .inl ⟨h1, rfl⟩⟩, by omega⟩
  · exact ⟨_, ⟨i, x, y, c, d, hx, hy, hc, .inr ⟨h1, rfl⟩⟩, h2⟩
theorem Hop.raise {U' : Int} {u v b : Nat} (h : Hop A F X U u v b) (hl : ∀ l, LeftAt A F X b l → U' ≤ l) : Hop A F X U' u v b := by
  obtain ⟨i, x, y, c, d, hx, hy, hc, ⟨h1, h2, h3, _⟩ | ⟨h1, h2, h3, _⟩⟩ := h
  · have := hl _ ⟨i, x, y, c, d, hx, hy, hc, .inl ⟨h1, rfl⟩⟩
    exact ⟨i, x, y, c, d, hx, hy, hc, .inl ⟨h1, h2, h3, by omega⟩⟩
  · exact ⟨i, x, y, c, d, hx, hy, hc, .inr ⟨h1, h2, h3, hl _ ⟨i, x, y, c, d, hx, hy, hc, .inr ⟨h1, rfl⟩⟩⟩⟩
theorem Way.raise {U' : Int} : ∀ {L : List Nat} {v : Nat}, Way A F X U ρ L v → (∀ b ∈ L, ∀ l, LeftAt A F X b l → U' ≤ l) → Way A F X U' ρ L v
  | [], _, h, _ => h
  | b :: _, _, ⟨u, h1, h2, h3⟩, hl => ⟨u, h1.raise (hl b (List.mem_cons_self ..)), h2, h3.raise fun b' hb => hl b' (List.mem_cons_of_mem _ hb)⟩
theorem Way.at : ∀ {L : List Nat} {v b : Nat}, Way A F X U ρ L v → b ∈ L → ∃ u w, Hop A F X U u w b
  | [], _, _, _, hb => by cases hb
  | b' :: _, v, b, ⟨u, h1, _, h3⟩, hb => by
    rcases List.mem_cons.1 hb with rfl | hb
    · exact ⟨_, _, h1⟩
    · exact h3.at hb
theorem Way.drop : ∀ {L : List Nat} {v : Nat} (k : Nat), Way A F X U ρ L v → ∃ u, Way A F X U ρ (L.drop k) u
  | _, v, 0, h => ⟨v, by simpa using h⟩
  | [], v, k + 1, h => ⟨v, by simpa using h⟩
  | b :: L, v, k + 1, ⟨u, _, _, h3⟩ => by simpa using h3.drop k
/-- A change of an arc between nodes of higher rank leaves the way as it is. -/
theorem Way.other {i u v : Nat} {x : ArcD} (δ : Int) (hx : A[i]? = some x) (hd : (x.f = (u : Int) ∧ x.t = (v : Int)) ∨ (x.t = (u : Int) ∧ x.f = (v : Int))) (hr : ρ u < ρ v) :
    ∀ {L : List Nat} {w : Nat}, Way A F X U ρ L w → ρ w ≤ ρ u → Way A (bump F i δ) X U ρ L w
  | [], _, h, _ => h
  | b :: L, w, ⟨u', ⟨j, x', y', c, d, hx', hy', hc, hh⟩, h2, h3⟩, hw => by
    refine ⟨u', ⟨j, x', y', c, d, hx', ?_, hc, hh⟩, h2, h3.other δ hx hd hr (by omega)⟩
    rw [bump_ne]
    · exact hy'
    · intro e
      subst e
      rw [hx] at hx'
      have e2 := Option.some.inj hx'
      subst e2
      have hcase : (w = v ∧ u' = u) ∨ (w = u ∧ u' = v) := by
        rcases hd with ⟨a1, a2⟩ | ⟨a1, a2⟩ <;> rcases hh with ⟨_, b1, b2, _⟩ | ⟨_, b1, b2, _⟩ <;> omega
      rcases hcase with ⟨rfl, rfl⟩ | ⟨rfl, rfl⟩ <;> omega

/-- While the units go back: they stand at v; L is what is left of the way. -/
structure AInv (A : List ArcD) (F₀ : List Int) (X : List (Nat × Nat)) (U : Int) (ρ : Nat → Nat) (L : List Nat) (v : Nat) (F : List Int) : Prop where
  way : Way A F X U ρ L v
  len : F.length = A.length
  room : ∀ p ∈ A.zip F, 0 ≤ p.2 ∧ p.2 ≤ p.1.r
  bal : ∀ u : Nat, netO (A.zip F) u = netO (A.zip F₀) u + (if u = v then U else 0) - (if u = 1 then U else 0)
theorem AInv.start {L : List Nat} (h : Way A F X U ρ L 1) (hl : F.length = A.length) (hr : ∀ p ∈ A.zip F, 0 ≤ p.2 ∧ p.2 ≤ p.1.r) : AInv A F X U ρ L 1 F :=
  ⟨h, hl, hr, fun u => by split <;> omega⟩
theorem AInv.step {F₀ : List Int} {b v : Nat} {L : List Nat} (h : AInv A F₀ X U ρ (b :: L) v F) (hU : 0 ≤ U) :
    ∃ (i : Nat) (x : ArcD) (y : Int) (c d u : Nat), A[i]? = some x ∧ F[i]? = some y ∧ X[i]? = some (c, d) ∧ 0 ≤ y ∧ y ≤ x.r ∧
      ((b = c ∧ y + U ≤ x.r ∧ AInv A F₀ X U ρ L u (bump F i U)) ∨ (b = d ∧ U ≤ y ∧ AInv A F₀ X U ρ L u (bump F i (-U)))) := by
  obtain ⟨⟨u, ⟨i, x, y, c, d, hx, hy, hc, hh⟩, hr, hw⟩, hl, hroom, hbal⟩ := h
  have hyr := hroom (x, y) (List.mem_of_getElem? (zip_at hx hy))
  simp only at hyr
  refine ⟨i, x, y, c, d, u, hx, hy, hc, hyr.1, hyr.2, ?_⟩
  rcases hh with ⟨a0, a1, a2, a3⟩ | ⟨a0, a1, a2, a3⟩
  · refine .inl ⟨a0, a3, hw.other U hx (.inl ⟨a1, a2⟩) hr (Nat.le_refl _), by rw [bump_len]; exact hl, room_bump hx hy hroom (by omega), fun w => ?_⟩
    rw [netO_bump U w hx hy, hbal w]
    unfold outAt
    rw [a1, a2]
    by_cases e1 : w = u <;> by_cases e2 : w = v <;> simp [e1, e2] <;> omega
  · refine .inr ⟨a0, a3, hw.other (-U) hx (.inr ⟨a1, a2⟩) hr (Nat.le_refl _), by rw [bump_len]; exact hl, room_bump hx hy hroom (by omega), fun w => ?_⟩
    rw [netO_bump (-U) w hx hy, hbal w]
    unfold outAt
    rw [a1, a2]
    by_cases e1 : w = u <;> by_cases e2 : w = v <;> simp [e1, e2] <;> omega
theorem AInv.done {F₀ : List Int} {N : Int} {v : Nat} (h : AInv A F₀ X U ρ [] v F) (h0 : flowOkV N A F₀ = true) : flowOkV N A F = true ∧ netO (A.zip F) 0 = netO (A.zip F₀) 0 + U := by
  obtain ⟨hw, hl, hroom, hbal⟩ := h
  obtain ⟨hk, _, _, hs⟩ := flowOk_out h0
  have e : v = 0 := hw
  subst e
  refine ⟨flowOk_mk hk hl hroom fun w hw2 hn => ?_, ?_⟩
  · rw [hbal w, hs w hw2 hn, if_neg (by omega), if_neg (by omega)]
    rfl
  · rw [hbal 0]
    simp
end

end Go.Proofs.Ytobflidianlomaa
