/- shlaw3.alive answers true. -/
import Derived.Test.YtmlpekoombikaabRefFlat1
import Derived.Test.YtmlpekoombikaabFlats1
namespace Go.Proofs.Ytmlpekoombikaab
set_option maxRecDepth 100000
open Go.RowKit
set_option linter.unusedVariables false
set_option linter.unusedSimpArgs false

theorem al3_new (w : World) : Calls Try.prog 14 #[.int .i64 2] w fun e w' => ∃ g, e = .returned (.slice (some ⟨g, 0, none⟩) 2 2) ∧ ISl w' (some ⟨g, 0, none⟩) [0, 0] ∧ Below w.heap.size w w' :=
  (flatNew_any 2 w (by decide)).mono fun e w' ⟨g, h1, h2, _, h3⟩ => ⟨g, h1, h2.sl, h3⟩
theorem al3_do1 (w : World) (g : Nat) (h : ISl w (some ⟨g, 0, none⟩) [0, 0]) : Calls Try.prog 9 #[.slice (some ⟨g, 0, none⟩) 2 2, .agg #[.int .i64 2, .int .i64 1, .int .i64 7]] w fun e w' => ∃ g, e = .returned (.tuple #[.slice (some ⟨g, 0, none⟩) 2 2, .int .i64 0, .int .i64 0]) ∧ ISl w' (some ⟨g, 0, none⟩) [0, 7] ∧ Below w.heap.size w w' :=
  (flatDo_walk (some ⟨g, 0, none⟩) 2 [0, 0] ⟨2, 1, 7⟩ w (by decide) h (by decide)).mono fun e w' ⟨g, h1, h2, _, h3⟩ => ⟨g, h1, h2.sl, h3⟩
theorem al3_do2 (w : World) (g : Nat) (h : ISl w (some ⟨g, 0, none⟩) [0, 7]) : Calls Try.prog 9 #[.slice (some ⟨g, 0, none⟩) 2 2, .agg #[.int .i64 3, .int .i64 1, .int .i64 250]] w fun e w' => ∃ g, e = .returned (.tuple #[.slice (some ⟨g, 0, none⟩) 2 2, .int .i64 7, .int .i64 0]) ∧ w'.cell? ⟨g, 1, none⟩ = some (.int .i64 1) ∧ g < w'.heap.size ∧ Below w.heap.size w w' :=
  (flatDo_walk (some ⟨g, 0, none⟩) 2 [0, 7] ⟨3, 1, 250⟩ w (by decide) h (by decide)).mono fun e w' ⟨g, h1, h2, _, h3⟩ => ⟨g, h1, h2.cell 1 (by decide), h2.lt, h3⟩
theorem al3_play (w : World) (b : Nat) (c0 : w.cell? ⟨b, 0, none⟩ = some (.int .i64 0)) (c1 : w.cell? ⟨b, 1, none⟩ = some (.int .i64 1)) (c2 : w.cell? ⟨b, 2, none⟩ = some (.int .i64 0)) (c3 : w.cell? ⟨b, 3, none⟩ = some (.int .i64 0)) (c4 : w.cell? ⟨b, 4, none⟩ = some (.int .i64 1)) :
    Calls Try.prog 12 #[.int .i64 1, .slice (some ⟨b, 0, none⟩) 1 1] w fun e w' => ∃ g, e = .returned (.tuple #[.slice (some ⟨g, 0, none⟩) 1 1, .int .i64 0]) ∧ Below w.heap.size w w' :=
  (play_walk 1 1 (some ⟨b, 0, none⟩) [⟨0, ⟨1, 0, 0⟩, 1⟩] w (by decide) (by decide) (fun _ => ⟨b, 0, rfl, fun i hi => by
    match i, hi with
    | 0, _ => exact ⟨c0, c1, c2, c3, c4⟩⟩)).mono fun e w' ⟨g, h1, _, h3⟩ => ⟨g, h1, h3⟩

set_option maxHeartbeats 2000000 in
theorem flatAlive_any (w : World) : Calls Try.prog 15 #[] w fun e w' => e = .returned (.bool true) ∧ Below w.heap.size w w' := by
  go_enter Try.func15, Try.ntmps15
  go_wp2_with (first | (go_at_call 14; refine (al3_new _).mono ?_; rintro e w1 ⟨g1, rfl, hS1, hb1⟩) | (go_at_call_of 9 (Value.slice (some (Addr.mk g1 0 none)) 2 2); refine (al3_do1 _ g1 hS1).mono ?_; rintro e w2 ⟨g2, rfl, hS2, hb2⟩) | (go_at_call_of 9 (Value.slice (some (Addr.mk g2 0 none)) 2 2); refine (al3_do2 _ g2 hS2).mono ?_; rintro e w3 ⟨g3, rfl, hc3, hl3, hb3⟩) | (go_at_call 12; refine (al3_play _ _ (by simp) (by simp) (by simp) (by simp) (by simp)).mono ?_; rintro e w4 ⟨g4, rfl, hb4⟩; have hc4 : w4.cell? ⟨g3, 1, none⟩ = some (.int .i64 1) := ia_keep (ia_keep hc3 (ia_alloc _ _)) hb4))
  go_ret
  exact ⟨rfl, ia_below ((ia_below (ia_below hb1 hb2) hb3).alloc (ia_below (ia_below hb1 hb2) hb3).size _) hb4⟩
end Go.Proofs.Ytmlpekoombikaab
