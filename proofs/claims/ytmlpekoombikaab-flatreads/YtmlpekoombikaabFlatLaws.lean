/- shlaw3.FlatReads answers true, for every input. -/
import Derived.Test.YtmlpekoombikaabFlatAlive
namespace Go.Proofs.Ytmlpekoombikaab
set_option maxRecDepth 100000
open Go.RowKit
set_option linter.unusedVariables false
set_option linter.unusedSimpArgs false

def loadV (xs : List Int) (o : Int) : Int := if flatW xs.length ⟨1, o, 0⟩ = 0 then xs.getD o.toNat 0 else 0
theorem load_any (a : Option Addr) (cap n : Nat) (xs : List Int) (o : Int) (w : World) (hn : n * 8 ≤ 140737488351232) (hl : xs.length = n) (hs : ISl w a xs) :
    Calls Try.prog 9 #[.slice a n cap, .agg #[.int .i64 1, .int .i64 o, .int .i64 0]] w fun e w' => ∃ u, e = .returned (.tuple #[u, .int .i64 (loadV xs o), .int .i64 (flatW n ⟨1, o, 0⟩)]) ∧ Below w.heap.size w w' := by
  subst hl
  unfold loadV
  by_cases h : flatW xs.length ⟨1, o, 0⟩ = 0
  · rw [if_pos h, h]
    exact (flatDo_walk a cap xs ⟨1, o, 0⟩ w hn hs h).mono fun e w' ⟨g, h1, h2, _, h3⟩ => ⟨_, h1, h3⟩
  · rw [if_neg h]
    exact (flatDo_err_walk a xs.length cap ⟨1, o, 0⟩ w (by omega) h).mono fun e w' ⟨h1, h3⟩ => ⟨_, h1, h3⟩
theorem store_any (a : Option Addr) (cap : Nat) (xs : List Int) (line v : Int) (w : World) (hn : xs.length * 8 ≤ 140737488351232) (hs : ISl w a xs) (h : flatW xs.length ⟨2, line, v⟩ = 0) :
    Calls Try.prog 9 #[.slice a xs.length cap, .agg #[.int .i64 2, .int .i64 line, .int .i64 v]] w fun e w' => ∃ g, e = .returned (.tuple #[.slice (some ⟨g, 0, none⟩) xs.length xs.length, .int .i64 0, .int .i64 0]) ∧ ISl w' (some ⟨g, 0, none⟩) (xs.set line.toNat v) ∧ Below w.heap.size w w' :=
  (flatDo_walk a cap xs ⟨2, line, v⟩ w hn hs h).mono fun e w' ⟨g, h1, h2, _, h3⟩ => ⟨g, h1, h2.sl, h3⟩

set_option maxHeartbeats 2000000 in
theorem flatReads_walk (a : Option Addr) (cap : Nat) (line v other : Int) (xs : List Int) (w : World) (hn : xs.length * 8 ≤ 140737488351232) (hs : ISl w a xs) :
    Calls Try.prog 4 #[.slice a xs.length cap, .int .i64 line, .int .i64 v, .int .i64 other] w fun e w' => e = .returned (.bool true) ∧ Below w.heap.size w w' := by
  have HS : Hid (ISl w a xs) := hs
  clear hs
  by_cases h : flatW xs.length ⟨2, line, v⟩ = 0
  · obtain ⟨q1, q2, q3, q4, q5, q6⟩ := flatW_ok h
    simp only at q1 q2 q3 q4 q5 q6
    have kS := fun W (hS : ISl W a xs) => store_any a cap xs line v W hn hS h
    have e1 : (xs.set line.toNat v).length = xs.length := by simp
    have e2 : loadV (xs.set line.toNat v) line = v := by
      unfold loadV
      rw [e1, flatW_0 (by simp) (by simp only; omega), if_pos rfl]
      simp [List.getD, show line.toNat < xs.length by omega]
    have e3 : flatW xs.length ⟨1, line, 0⟩ = 0 := flatW_0 (by simp) (by simp only; omega)
    have kL := fun W g (hS : ISl W (some ⟨g, 0, none⟩) (xs.set line.toNat v)) => load_any (some ⟨g, 0, none⟩) xs.length xs.length (xs.set line.toNat v) line W hn e1 hS
    have kO := fun W (hS : ISl W a xs) => load_any a cap xs.length xs other W hn rfl hS
    have kP := fun W g (hS : ISl W (some ⟨g, 0, none⟩) (xs.set line.toNat v)) => load_any (some ⟨g, 0, none⟩) xs.length xs.length (xs.set line.toNat v) other W hn e1 hS
    rw [e2, e3] at kL
    have hne : other ≠ line → loadV (xs.set line.toNat v) other = loadV xs other := fun hne => by
      unfold loadV
      rw [e1]
      by_cases hf : flatW xs.length ⟨1, other, 0⟩ = 0
      · have := flatW_ok hf
        simp only at this
        rw [if_pos hf, if_pos hf]
        simp [List.getD, List.getElem?_set_ne (show line.toNat ≠ other.toNat by omega)]
      · rw [if_neg hf, if_neg hf]
    obtain ⟨A, hA⟩ : ∃ A, A = loadV xs other := ⟨_, rfl⟩
    obtain ⟨B, hB⟩ : ∃ B, B = loadV (xs.set line.toNat v) other := ⟨_, rfl⟩
    obtain ⟨E, hE⟩ : ∃ E, E = flatW xs.length ⟨1, other, 0⟩ := ⟨_, rfl⟩
    rw [← hA, ← hE] at kO
    rw [← hB, ← hE] at kP
    rw [← hA, ← hB] at hne
    obtain ⟨T, hT⟩ : ∃ T, T = xs.set line.toNat v := ⟨_, rfl⟩
    rw [← hT] at kS kL kP
    clear e1 e2 e3 hA hB hE hT h
    by_cases ho : other = line
    · have ho' : (other == line) = true := by simpa using ho
      have HO : Hid _ := ho
      clear hne ho
      go_enter Try.func4, Try.ntmps4
      go_wp2_with (fail)
      go_at_call 15; refine (flatAlive_any _).mono ?_; rintro e w1 ⟨rfl, hb1⟩
      go_wp2_with (fail)
      go_at_call 9; refine (kS _ (HS.out.below hb1)).mono ?_; rintro e w2 ⟨g2, rfl, hS2, hb2⟩
      go_wp2_with (fail)
      go_at_call 9; refine (kL _ _ hS2).mono ?_; rintro e w3 ⟨u3, rfl, hb3⟩
      go_wp2_with (fail)
      go_at_call 9; refine (kO _ (HS.out.below (ia_below (ia_below hb1 hb2) hb3))).mono ?_; rintro e w4 ⟨u4, rfl, hb4⟩
      go_wp2_with (fail)
      go_at_call 9; refine (kP _ _ ((hS2.below hb3).below hb4)).mono ?_; rintro e w5 ⟨u5, rfl, hb5⟩
      go_wp2
      go_ret
      exact ⟨by simp, ia_below (ia_below (ia_below (ia_below hb1 hb2) hb3) hb4) hb5⟩
    · have ho' : (other == line) = false := by simpa using ho
      obtain rfl := hne ho
      clear ho
      go_enter Try.func4, Try.ntmps4
      go_wp2_with (fail)
      go_at_call 15; refine (flatAlive_any _).mono ?_; rintro e w1 ⟨rfl, hb1⟩
      go_wp2_with (fail)
      go_at_call 9; refine (kS _ (HS.out.below hb1)).mono ?_; rintro e w2 ⟨g2, rfl, hS2, hb2⟩
      go_wp2_with (fail)
      go_at_call 9; refine (kL _ _ hS2).mono ?_; rintro e w3 ⟨u3, rfl, hb3⟩
      go_wp2_with (fail)
      go_at_call 9; refine (kO _ (HS.out.below (ia_below (ia_below hb1 hb2) hb3))).mono ?_; rintro e w4 ⟨u4, rfl, hb4⟩
      go_wp2_with (fail)
      go_at_call 9; refine (kP _ _ ((hS2.below hb3).below hb4)).mono ?_; rintro e w5 ⟨u5, rfl, hb5⟩
      go_wp2
      go_ret
      exact ⟨by simp, ia_below (ia_below (ia_below (ia_below hb1 hb2) hb3) hb4) hb5⟩
  · have kE := fun W => flatDo_err_walk a xs.length cap ⟨2, line, v⟩ W (by omega) h
    obtain ⟨E, hE⟩ : ∃ E, E = flatW xs.length ⟨2, line, v⟩ := ⟨_, rfl⟩
    rw [← hE] at kE h
    have hne : (E != 0) = true := by simpa using h
    clear hE h
    go_enter Try.func4, Try.ntmps4
    go_wp2_with (fail)
    go_at_call 15; refine (flatAlive_any _).mono ?_; rintro e w1 ⟨rfl, hb1⟩
    go_wp2_with (fail)
    go_at_call 9; refine (kE _).mono ?_; rintro e w2 ⟨rfl, hb2⟩
    go_wp2
    go_ret
    exact ⟨rfl, ia_below hb1 hb2⟩
end Go.Proofs.Ytmlpekoombikaab
