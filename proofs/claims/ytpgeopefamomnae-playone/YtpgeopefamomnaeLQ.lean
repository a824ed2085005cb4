/- LawPlayOne. -/
import Derived.Test.YtpgeopefamomnaeYB
set_option linter.unusedSimpArgs false
set_option linter.unusedSectionVars false
namespace Go.Proofs.Ytpgeopefamomnae
open Go.RowKit
set_option linter.unusedVariables false
set_option linter.unusedSimpArgs false
set_option maxRecDepth 100000
def alive9T (xs : List AV) (l0 : List (Nat × OS)) : Ans := match xs, l0 with
  | [], [] => some (True, Vb true, [])
  | _, _ => none
theorem alive9_does : Does Try.prog 5 alive9T := ⟨⟨_, Try.func5, by decide, rfl⟩, fun xs l0 p v objs h hp => by
  unfold alive9T at h
  split at h
  · cases h
    exact alive9_ok
  · cases h⟩
def tabP1 : Canon := orT 5 alive9T (orT 6 stepsT9 (orT 7 rplayT tab0))
theorem tabP1_ok : Sound Try.prog tabP1 := ((tab0_ok.or rplay_does).or steps9_does).or alive9_does
def ksP1 : List FuncId := [5, 6, 7]
/-- What Steps comes to. -/
theorem steps_cases (c : Cfg) (l : List SStep) : ((stepsRes c l).2 ≠ 0 ∧ (stepsRes c l).1 = ⟨SChip.zero, [], []⟩) ∨ ((newF c).2 = 0 ∧ l.length ≤ 300 ∧ stepsRes c l = (runF c l, 0)) := by
  unfold stepsRes
  by_cases h : (newF c).2 ≠ 0
  · rw [if_pos h]
    exact .inl ⟨h, rfl⟩
  rw [if_neg h]
  by_cases h2 : 300 < l.length
  · rw [if_pos h2]
    exact .inl ⟨by decide, rfl⟩
  · rw [if_neg h2]
    exact .inr ⟨by omega, by omega, rfl⟩
set_option maxHeartbeats 4000000
theorem pone_bad {a b : Int} {l : List SStep} (hb : ∀ s ∈ l, s.bit < 9223372036854775808) (h : (stepsRes ⟨a, b⟩ (stepsR (R stepD l))).2 ≠ 0) (hd : (stepsRes ⟨a, b⟩ (stepsR (R stepD l))).1 = ⟨SChip.zero, [], []⟩) : FunOK Try.prog 3 [.agg [I a, I b], Ro (R stepD l)] (hOf []) (Vb true) (hOf []) := by
  refine fun_deep (pins := []) (l0 := []) (objs := []) (base := 0) (xx_ok tabP1_ok ksP1) mixed Try.func3 rfl (Nat.le_of_ble_eq_true rfl) rfl rfl ?_
  have hx : ¬ (((stepsRes ⟨a, b⟩ (stepsR (R stepD l))).2 != 0) = false) := by simpa using h
  repeat' ((conv => whnf); first | exact trivial | (with_reducible refine ap_of ?_; kernel_rfl) | (with_reducible refine ds_of ?_; kernel_rfl) | (with_reducible refine eq_of ?_; kernel_rfl) | exact rfl | (intro h; exact absurd h (by decide)) | (intro h; with_reducible exact absurd h hx) | intro _ | apply And.intro)
  all_goals clear hx
  all_goals first
    | exact ⟨l, rfl, hb⟩
    | (rw [hd]; rfl)
    | rfl
    | trace_state
theorem pone_ok {a b : Int} {l : List SStep} (hb : ∀ s ∈ l, s.bit < 9223372036854775808) (h : stepsRes ⟨a, b⟩ (stepsR (R stepD l)) = (runF ⟨a, b⟩ l, 0)) (hN : (newF ⟨a, b⟩).2 = 0) (hl : l.length ≤ 300) : FunOK Try.prog 3 [.agg [I a, I b], Ro (R stepD l)] (hOf []) (Vb true) (hOf []) := by
  refine fun_deep (pins := []) (l0 := []) (objs := []) (base := 0) (xx_ok tabP1_ok ksP1) mixed Try.func3 rfl (Nat.le_of_ble_eq_true rfl) rfl rfl ?_
  have hx : ¬ (((stepsRes ⟨a, b⟩ (stepsR (R stepD l))).2 != 0) = true) := by rw [h]; simp
  obtain ⟨n, L, V', e1, e2, X, P, ha, hd⟩ := run_xi hN l
  have hp := (plays_play P).1
  have hL4 := X.l4
  simp only at e2
  rw [← e2] at hp
  repeat' ((conv => whnf); first | exact trivial | (with_reducible refine ap_of ?_; kernel_rfl) | (with_reducible refine ds_of ?_; kernel_rfl) | (with_reducible refine eq_of ?_; kernel_rfl) | exact rfl | (intro h; exact absurd h (by decide)) | (intro h; with_reducible exact absurd h hx) | intro _ | apply And.intro)
  all_goals clear hx
  all_goals try rw [h]
  all_goals first
    | exact ⟨l, rfl, hb⟩
    | exact ⟨L, e2, by omega⟩
    | exact ⟨(runF ⟨a, b⟩ l).done, rfl, by omega⟩
    | (show Vb (decide ((playF b (donesR (R dnD (runF ⟨a, b⟩ l).done))).2 < 0)) = Vb true
       rw [donesR_rows, hp]
       rfl)
    | rfl
    | trace_state
theorem pone_any (c : Cfg) (l : List SStep) (hb : ∀ s ∈ l, s.bit < 9223372036854775808) : FunOK Try.prog 3 [.agg (cfgC c), Ro (R stepD l)] (hOf []) (Vb true) (hOf []) := by
  rcases steps_cases c l with ⟨h1, h2⟩ | ⟨h1, h2, h3⟩
  · rw [← stepsR_rows l] at h1 h2
    exact pone_bad (a := c.cores) (b := c.lines) hb h1 h2
  · rw [← stepsR_rows l] at h3
    exact pone_ok (a := c.cores) (b := c.lines) hb (by rw [h3, stepsR_rows]) h1 h2
end Go.Proofs.Ytpgeopefamomnae

