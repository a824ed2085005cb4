/- shlaw2.alive answers true. -/
import Derived.Test.YtfgemnlbbipbcaaRefNet
namespace Go.Proofs.Ytfgemnlbbipbcaa
open Go.RowKit
set_option linter.unusedVariables false
set_option linter.unusedSimpArgs false

theorem one_bsl {w : World} {g x : Nat} (hx : x < 256) (h : w.cell? ⟨g, 0, none⟩ = some (.int .u8 (x : Nat))) : BSl w (some ⟨g, 0, none⟩) [x] :=
  ⟨fun i hi => by match i, hi with | 0, _ => exact hx, fun _ => ⟨g, 0, rfl, fun i hi => by match i, hi with | 0, _ => exact h⟩⟩
theorem FV.cell {w : World} {a : Option Addr} {n c : Nat} {xs : List Nat} (h : FV w (.slice a n c) xs) (h0 : 0 < xs.length) : ∃ b off, a = some ⟨b, off, none⟩ ∧ w.cell? ⟨b, off, none⟩ = some (.int .u8 (xs.getD 0 0 : Nat)) := by
  obtain ⟨a', c', e, _, _, _, _, h6⟩ := h
  cases e
  obtain ⟨b, off, e1, e2⟩ := h6 (by intro e; subst e; simp at h0)
  exact ⟨b, off, e1, e2 0 h0⟩
theorem al_send1 (w : World) (g : Nat) (h : w.cell? ⟨g, 0, none⟩ = some (.int .u8 1)) :
    Calls Try.prog 22 #[.slice none 0 0, .slice (some ⟨g, 0, none⟩) 1 1] w fun e w' => ∃ a c, e = .returned (.slice a 1 c) ∧ LS w' a [[1]] ∧ Below w.heap.size w w' :=
  (send_any none (some ⟨g, 0, none⟩) 0 1 [] [1] w (by decide) (by decide) (LS.nil _ _) (one_bsl (by decide) h)).mono fun e w' ⟨a, c, h1, _, _, h2, h3⟩ => ⟨a, c, h1, h2, h3⟩
theorem al_send2 (w : World) (a : Option Addr) (c g : Nat) (hl : LS w a [[1]]) (h : w.cell? ⟨g, 0, none⟩ = some (.int .u8 2)) :
    Calls Try.prog 22 #[.slice a 1 c, .slice (some ⟨g, 0, none⟩) 1 1] w fun e w' => ∃ a c, e = .returned (.slice a 2 c) ∧ 2 ≤ c ∧ c ≤ maxLen ∧ LS w' a [[1], [2]] ∧ Below w.heap.size w w' :=
  (send_any a (some ⟨g, 0, none⟩) c 1 [[1]] [2] w (by decide) (by decide) hl (one_bsl (by decide) h)).mono fun e w' ⟨a, c, h1, h4, h5, h2, h3⟩ => ⟨a, c, h1, h4, h5, h2, h3⟩
theorem al_take (w : World) (a : Option Addr) (c : Nat) (hc : 2 ≤ c) (hm : c ≤ maxLen) (hl : LS w a [[1], [2]]) :
    Calls Try.prog 24 #[.slice a 2 c, .int .i64 0] w fun e w' => ∃ a' c' g, e = .returned (.tuple #[.slice a' 1 c', .slice (some ⟨g, 0, none⟩) 1 1, .int .i64 0]) ∧ w'.cell? ⟨g, 0, none⟩ = some (.int .u8 1) ∧ Below w.heap.size w w' :=
  (take_ok a c 0 [[1], [2]] w (by decide) hc hm hl (by decide)).mono fun e w' ⟨a', c', g, h1, _, _, h2, h3, h4⟩ => ⟨a', c', g, h1, by
    obtain ⟨b, off, e1, e2⟩ := FV.cell h3 (by decide)
    cases e1
    exact e2, h4⟩
theorem al_twice (w : World) (a : Option Addr) (c : Nat) (hl : LS w a [[1], [2]]) :
    Calls Try.prog 26 #[.slice a 2 c, .int .i64 1] w fun e w' => ∃ a' c', e = .returned (.tuple #[.slice a' 3 c', .int .i64 0]) ∧ Below w.heap.size w w' :=
  (twice_ok a c 1 [[1], [2]] w (by decide) hl (by decide)).mono fun e w' ⟨a', c', h1, _, _, h2, h3⟩ => ⟨a', c', h1, h3⟩
theorem al_spoil (w : World) (a : Option Addr) (c : Nat) (hl : LS w a [[1], [2]]) :
    Calls Try.prog 27 #[.slice a 2 c, .int .i64 0, .int .i64 1] w fun e w' => ∃ g b off cc, e = .returned (.tuple #[.slice (some ⟨g, 0, none⟩) 2 2, .int .i64 0]) ∧ w'.cell? ⟨g, 0, none⟩ = some (.slice (some ⟨b, off, none⟩) 1 cc) ∧ w'.cell? ⟨b, off, none⟩ = some (.int .u8 3) ∧ Below w.heap.size w w' :=
  (spoil_ok a c 0 1 [[1], [2]] w (by decide) hl (by decide) (by decide) (by decide)).mono fun e w' ⟨g, h1, h2, _, h3⟩ => by
    obtain ⟨u, hu, hF⟩ := h2.cell 0 (by decide)
    obtain ⟨a1, c1, rfl, r⟩ := id hF
    obtain ⟨b, off, e1, e2⟩ := FV.cell hF (by decide)
    subst e1
    exact ⟨g, b, off, c1, h1, hu, e2, h3⟩
theorem al_own (w : World) (a : Option Addr) (c : Nat) (hl : LS w a [[1], [2]]) :
    Calls Try.prog 21 #[.slice a 2 c] w fun e w' => ∃ g, e = .returned (.slice (some ⟨g, 0, none⟩) 2 2) ∧ Below w.heap.size w w' :=
  (own_any a c [[1], [2]] w (by decide) hl).mono fun e w' ⟨g, h1, h2, _, h3⟩ => ⟨g, h1, h3⟩
theorem lt_of_cell {w : World} {b o : Nat} {v : Value} (h : w.cell? ⟨b, o, none⟩ = some v) : b < w.heap.size := World.block_lt_of_cell? w _ h
theorem below_al {w w1 w2 : World} (h : Below w.heap.size w w1) (k : Below w1.heap.size w1 w2) : Below w.heap.size w w2 := h.trans (k.mono h.size)

set_option maxHeartbeats 2000000 in
theorem netAlive_any (w : World) : Calls Try.prog 28 #[] w fun e w' => e = .returned (.bool true) ∧ Below w.heap.size w w' := by
  go_enter Try.func28, Try.ntmps28
  go_wp2_with (first | (go_at_call_of 22 (Value.slice none 0 0); refine (al_send1 _ _ (by go_cell)).mono ?_; rintro e w1 ⟨a1, c1, rfl, hL1, hb1⟩) | (go_at_call 22; refine (al_send2 _ a1 c1 _ (hL1.below ((Below.refl _ _).alloc (Nat.le_refl _) _)) (by go_cell)).mono ?_; rintro e w2 ⟨a2, c2, rfl, hc2, hm2, hL2, hb2⟩) | (go_at_call 24; refine (al_take _ a2 c2 hc2 hm2 hL2).mono ?_; rintro e w3 ⟨a3, c3, g3, rfl, h3, hb3⟩; have hL3 := hL2.below hb3) | (go_at_call 26; refine (al_twice _ a2 c2 hL3).mono ?_; rintro e w4 ⟨a4, c4, rfl, hb4⟩; have hL4 := hL3.below hb4; have h4 := gcell hb4 h3) | (go_at_call 27; refine (al_spoil _ a2 c2 hL4).mono ?_; rintro e w5 ⟨g5, b5, o5, c5, rfl, h51, h52, hb5⟩; have hL5 := hL4.below hb5; have h5 := gcell hb5 h4) | (go_at_call 21; refine (al_own _ a2 c2 hL5).mono ?_; rintro e w6 ⟨g6, rfl, hb6⟩))
  go_ret
  refine ⟨rfl, ?_⟩
  have g0 : Below w.heap.size w (w.alloc (.cells #[.int .u8 1] 5)) := (Below.refl _ _).alloc (Nat.le_refl _) _
  have g1 := below_al g0 hb1
  have g2 := below_al (g1.alloc g1.size _) hb2
  exact below_al (below_al (below_al (below_al g2 hb3) hb4) hb5) hb6
end Go.Proofs.Ytfgemnlbbipbcaa
