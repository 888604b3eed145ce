/-
  THE LAW FnTimeNets: a region of its walk (A).
-/
import Derived.Test.YtlkhecdlmbhiaaaDoorZTS43
namespace Go.Proofs.YtlkhecdlmbhiaaaDoor.fnTimeNets
set_option maxRecDepth 4096
open Go.ChangeShapes Go.WideShapes Go.ChangeAt Go.RowKit Go.Joins
open Go.ChangeMaps (open_string shut_string)

set_option maxRecDepth 100000 in
set_option maxHeartbeats 60000000 in
theorem netsPartA : netsParts.a := by
  delta netsParts
  intro N v hN w HSd zz1 w1 a b C S G hD s5 k5 s6 k6 w2 X w3 P hP12 gp kp x hPx HT t ht4 zz2 zz3 hC hS5 hG5 HS3 HC N0 A0 HN0 HA0 HB0 HN0' HA0' hS0 N1 A1 HN1 HA1 HN1' HA1' hl0 hl1 z HZ0 HZ1 hz0 hz1 zz4 zz5 zz6 zz7
  go_region_held3 (fun w' => w'.cell? ⟨X, 0, none⟩ = some (.int .i64 a) ∧ w'.cell? ⟨X, 1, none⟩ = some (.int .i64 b) ∧ w'.cell? ⟨X, 2, none⟩ = some (.string C) ∧ Below w3.heap.size w3 w')
    (first | with_reducible exact hS | with_reducible exact hS0 | (go_split_ands; (with_reducible refine gh_alloc HC ?_ _); with_reducible assumption) | (go_split_ands; (with_reducible refine gh_adrew HC ?_ _); with_reducible assumption) | (go_split_ands; ((with_reducible refine gh_store HC ?_ ?_ _ _) <;> first | (with_reducible assumption) | omega | (simp; done) | (simp; omega))))
    (first
      | ((try go_split_ands); rw [if_pos (by rfl)]; refine wp_copy _ _ rfl _ rfl _ G rfl (ints_on HT.out.d (by with_reducible assumption)) (by omega) ?_; intro v11 w11 hv11 hb; refine carry (v := v10) (L := S) ?_ hb ?_; (focus ((repeat (with_reducible (first | assumption | refine ints_drew ?_ | refine ints_alloc _ ?_))); done)); intro hv10b; (try (have hq11 := row_on (o := (.cells #[.int .i64 0, .slice none 0 0] 32 (0, 0))) hb (by (repeat (with_reducible (first | exact heap_alloc_new _ (.cells #[.int .i64 0, .slice none 0 0] 32) | assumption | apply row_alloc | apply row_drew)))))); have hB0 := gh_chain (w := w3) (by with_reducible assumption) hb; have hz11 := hB0.size; have hS := gh_of HC hB0; clear hb hB0)
      | ((try go_split_ands); rw [if_pos (by rfl)]; refine wp_copy _ _ rfl _ rfl _ S rfl (ints_on HT.out.s (by with_reducible assumption)) (by omega) ?_; intro v10 w10 hv10 hb; (try (have hq10 := row_on (o := (.cells #[.int .i64 0, .slice none 0 0] 32 (0, 0))) hb (by (repeat (with_reducible (first | exact heap_alloc_new _ (.cells #[.int .i64 0, .slice none 0 0] 32) | assumption | apply row_alloc | apply row_drew)))))); have hB0 := gh_chain (w := w3) (by with_reducible assumption) hb; have hz10 := hB0.size; have hS := gh_of HC hB0; clear hb hB0)
      | (go_at_call 9; (try go_split_ands); (with_reducible refine (implTimeNet a b C S G t false v10 v11 N0 A0 true hC (by omega) (by omega) HN0 HA0 HB0 _ (by repeat (with_reducible (first | assumption | refine ints_drew ?_ | refine ints_alloc _ ?_))) (by repeat (with_reducible (first | assumption | refine ints_drew ?_ | refine ints_alloc _ ?_))) (HS3.out.below (by with_reducible assumption))).mono ?_); rintro e w12 ⟨vn, rfl, hown, hb⟩; obtain ⟨an, cn, rfl⟩ := own_form hown; (try (have hqq := box_call hb hown (by (repeat (with_reducible (first | exact heap_alloc_new _ (.cells #[.int .i64 0, .slice none 0 0] 32) | assumption | apply row_alloc | apply row_drew)))); obtain ⟨e0, e1, f0, f1⟩ := two_row hqq.1; (try simp only [World.size_alloc] at e0); (try simp only [World.size_alloc] at e1); (try simp only [World.size_alloc] at f0); (try simp only [World.size_alloc] at f1); (try simp only [World.size_alloc] at hqq))); have HAA := Lib.hid (arcs_of_own hown); have hBB := gh_chain (w := w3) (by with_reducible assumption) hb; have hzz := hBB.size; have hS := gh_of HC hBB; clear hb hown))
  all_goals
    go_wp2_with fail
    go_meet
    first
      | exact ⟨_, an, cn, rfl, rfl, ⟨heap_alloc_new w12 _, arcs_on HAA.out ((Below.refl _ _).alloc (Nat.le_refl _) _)⟩, hBB.alloc hBB.size _⟩
      | exact ⟨_, an, cn, rfl, rfl, ⟨(hqq.2 _ _).1, (hqq.2 _ _).2⟩, (hBB.setCell (by first | omega | (simp; done) | (simp; omega)) _).setCell (by first | omega | (simp; done) | (simp; omega)) _⟩

end Go.Proofs.YtlkhecdlmbhiaaaDoor.fnTimeNets

