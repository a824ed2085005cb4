/- POrder. -/
import Derived.Test.YtpgeopefamomnaeYB
set_option linter.unusedSimpArgs false
set_option linter.unusedSectionVars false
namespace Go.Proofs.Ytpgeopefamomnae
open Go.RowKit
set_option linter.unusedVariables false
set_option linter.unusedSimpArgs false
set_option maxRecDepth 100000
theorem run_more (t : SRun) : ∀ l : List SStep, ∃ a d, (l.foldl goStep t).ans = t.ans ++ a ∧ (l.foldl goStep t).done = t.done ++ d
  | [] => ⟨[], [], by simp, by simp⟩
  | s :: r => by
    obtain ⟨a, d, h1, h2⟩ := run_more (goStep t s) r
    refine ⟨[⟨(doF t.chip s).2.2, ((doF t.chip s).2.1.length : Nat)⟩] ++ a, (doF t.chip s).2.1 ++ d, ?_, ?_⟩
    · show (r.foldl goStep (goStep t s)).ans = _
      rw [h1]
      simp [goStep]
    · show (r.foldl goStep (goStep t s)).done = _
      rw [h2]
      simp [goStep]
theorem run_parts (c : Cfg) (l : List SStep) (n : Nat) : ∃ a d, (runF c l).ans = (runF c (l.take n)).ans ++ a ∧ (runF c l).done = (runF c (l.take n)).done ++ d := by
  obtain ⟨a, d, h1, h2⟩ := run_more (runF c (l.take n)) (l.drop n)
  have e : runF c l = (l.drop n).foldl goStep (runF c (l.take n)) := by
    unfold runF
    rw [← List.foldl_append, List.take_append_drop]
  exact ⟨a, d, by rw [e]; exact h1, by rw [e]; exact h2⟩
/-- What waits at core p. -/
def waitsF (x : SChip) (p : Int) : List SOp := if 0 ≤ p ∧ p < x.cores.length ∧ (x.core p.toNat).wait.kind ≠ 0 then [(x.core p.toNat).wait] else []
theorem waits_same {x y : SChip} {p : Int} (hl : y.cores.length = x.cores.length) (hc : 0 ≤ p → p < x.cores.length → y.core p.toNat = x.core p.toNat) : waitsF y p = waitsF x p := by
  unfold waitsF
  rw [hl]
  by_cases h0 : 0 ≤ p
  · by_cases h1 : p < x.cores.length
    · rw [hc h0 h1]
    · rw [if_neg (by simp [h1]), if_neg (by simp [h1])]
  · rw [if_neg (by simp [h0]), if_neg (by simp [h0])]
theorem waits_some {x : SChip} {p : Int} (h0 : 0 ≤ p) (h1 : p < x.cores.length) (h2 : (x.core p.toNat).wait.kind ≠ 0) : waitsF x p = [(x.core p.toNat).wait] := if_pos ⟨h0, h1, h2⟩
theorem waits_none {x : SChip} {p : Int} (h2 : (x.core p.toNat).wait.kind = 0) : waitsF x p = [] := if_neg (fun h => h.2.2 h2)
def opsOf (ds : List SDone) (p : Int) : List SOp := (ofF ds p).map fun d => d.op
theorem opsOf_app (a b : List SDone) (p : Int) : opsOf (a ++ b) p = opsOf a p ++ opsOf b p := by
  unfold opsOf ofF
  rw [List.filter_append, List.map_append]
theorem opsOf_nil (p : Int) : opsOf [] p = [] := rfl
theorem opsOf_one (d : SDone) (p : Int) : opsOf [d] p = if d.core = p then [d.op] else [] := by
  unfold opsOf ofF
  by_cases h : d.core = p
  · rw [if_pos h, List.filter_cons, if_pos (by simpa using h)]
    rfl
  · rw [if_neg h, List.filter_cons, if_neg (by simpa using h)]
    rfl
theorem core_set {x : SChip} {q : Nat} {k : SCore} {hm : List SEntry} {fs : List (List Nat)} (p : Nat) (h : p < x.cores.length) : (⟨x.cores.set q k, hm, fs⟩ : SChip).core p = if p = q then k else x.core p := by
  unfold SChip.core
  by_cases e : p = q
  · subst e
    rw [if_pos rfl]
    exact getD_set_self h
  · rw [if_neg e]
    exact getD_set_ne e
theorem waits_set {x : SChip} {q : Nat} {k : SCore} {hm : List SEntry} {fs : List (List Nat)} {p : Int} (h : 0 ≤ p → p < x.cores.length → p.toNat ≠ q) : waitsF ⟨x.cores.set q k, hm, fs⟩ p = waitsF x p := by
  refine waits_same (by simp) (fun a b => ?_)
  rw [core_set _ (by omega), if_neg (h a b)]
def beginsP (s : SStep) (p : Int) : List SOp := if s.kind = 1 ∧ s.node = p then [s.op] else []
theorem order_begin {x : SChip} {s : SStep} {p : Int} (h0 : 0 ≤ s.node) (h1 : s.node < x.cores.length) (h : (beginF (x.core s.node.toNat) s.node x.cores.length s.op).2.2.2 = 0) {hm : List SEntry} {fs : List (List Nat)} :
    waitsF x p ++ (if s.node = p then [s.op] else []) = opsOf (beginF (x.core s.node.toNat) s.node x.cores.length s.op).2.2.1 p ++ waitsF ⟨x.cores.set s.node.toNat (beginF (x.core s.node.toNat) s.node x.cores.length s.op).1, hm, fs⟩ p := by
  unfold beginF at h ⊢
  by_cases c1 : s.op.kind < 1 ∨ 4 < s.op.kind
  · rw [if_pos c1] at h; simp at h
  rw [if_neg c1] at h ⊢
  by_cases c2 : s.op.line < 0 ∨ ((x.core s.node.toNat).lines.length : Int) ≤ s.op.line ∨ s.op.value < 0 ∨ 255 < s.op.value
  · rw [if_pos c2] at h; simp at h
  rw [if_neg c2] at h ⊢
  by_cases c3 : (x.core s.node.toNat).wait.kind ≠ 0 ∨ 65535 ≤ ((x.core s.node.toNat).line s.op.line.toNat).serial
  · rw [if_pos c3] at h; simp at h
  rw [if_neg c3] at h ⊢
  have w0 : (x.core s.node.toNat).wait.kind = 0 := Classical.byContradiction fun e => c3 (.inl e)
  by_cases e : s.node = p
  · subst e
    rw [waits_none w0, if_pos rfl]
    by_cases c4 : (beginL ((x.core s.node.toNat).line s.op.line.toNat) s.op).2.1 = 0
    · rw [if_pos c4, opsOf_one, if_pos rfl, waits_none]
      · rfl
      · rw [core_set _ (by omega), if_pos rfl]
        exact w0
    · rw [if_neg c4, opsOf_nil, waits_some h0 (by simpa using h1)]
      · rw [core_set _ (by omega), if_pos rfl]
      · rw [core_set _ (by omega), if_pos rfl]
        show s.op.kind ≠ 0
        omega
  · rw [if_neg e]
    by_cases c4 : (beginL ((x.core s.node.toNat).line s.op.line.toNat) s.op).2.1 = 0
    · rw [if_pos c4, opsOf_one, if_neg e, waits_set (fun a b => by omega)]
      simp
    · rw [if_neg c4, opsOf_nil, waits_set (fun a b => by omega)]
      simp
theorem order_hear {n L : Nat} {V : Nat → Int} {x : SChip} (X : XI n L x V) {m : Msg} {p : Int} (h0 : 0 ≤ m.to) (h1 : m.to < x.cores.length) {hm : List SEntry} {fs : List (List Nat)} :
    waitsF x p = opsOf (hearF (x.core m.to.toNat) m.to x.cores.length m).2.2 p ++ waitsF ⟨x.cores.set m.to.toNat (hearF (x.core m.to.toNat) m.to x.cores.length m).1, hm, fs⟩ p := by
  have hn := X.nc
  have hW := X.wi m.to.toNat (by omega)
  unfold hearF
  by_cases c1 : m.line < 0 ∨ ((x.core m.to.toNat).lines.length : Int) ≤ m.line
  · rw [if_pos c1, opsOf_nil]
    refine (waits_same (x := x) (y := ⟨x.cores.set m.to.toNat (x.core m.to.toNat), hm, fs⟩) (by simp) (fun a b => ?_)).symm
    rw [core_set _ (by omega)]
    by_cases e : p.toNat = m.to.toNat
    · rw [if_pos e, e]
    · rw [if_neg e]
  rw [if_neg c1]
  have hw := @hear_want ((x.core m.to.toNat).line m.line.toNat) (x.core m.to.toNat).wait m
  simp only []
  cases hd : (hearL ((x.core m.to.toNat).line m.line.toNat) (x.core m.to.toNat).wait m).2.2 with
  | none =>
    show waitsF x p = opsOf [] p ++ waitsF ⟨x.cores.set m.to.toNat ⟨_, (x.core m.to.toNat).wait⟩, hm, fs⟩ p
    rw [opsOf_nil]
    unfold waitsF
    rw [show (⟨x.cores.set m.to.toNat ⟨(x.core m.to.toNat).lines.set m.line.toNat (hearL ((x.core m.to.toNat).line m.line.toNat) (x.core m.to.toNat).wait m).1, (x.core m.to.toNat).wait⟩, hm, fs⟩ : SChip).cores.length = x.cores.length from by simp]
    by_cases a : 0 ≤ p ∧ p < x.cores.length
    · rw [core_set _ (by omega)]
      by_cases e : p.toNat = m.to.toNat
      · rw [if_pos e, e]
        rfl
      · rw [if_neg e]
        rfl
    · rw [if_neg (fun h => a ⟨h.1, h.2.1⟩), if_neg (fun h => a ⟨h.1, h.2.1⟩)]
      rfl
  | some v =>
    have hk : (x.core m.to.toNat).wait.kind ≠ 0 := by
      have := (hW.some m.line.toNat (by omega) (hw.2 (by rw [hd]; simp)).1).2.1
      omega
    show waitsF x p = opsOf [⟨m.to, (x.core m.to.toNat).wait, v⟩] p ++ waitsF ⟨x.cores.set m.to.toNat ⟨_, SOp.zero⟩, hm, fs⟩ p
    rw [opsOf_one]
    by_cases e : m.to = p
    · subst e
      rw [if_pos rfl, waits_some h0 h1 hk, waits_none]
      · rfl
      · rw [core_set _ (by omega), if_pos rfl]
        rfl
    · rw [if_neg e, waits_set (fun a b => by omega)]
      rfl
theorem order_do {n L : Nat} {V : Nat → Int} {x : SChip} (X : XI n L x V) {s : SStep} (h : (doF x s).2.2 = 0) (p : Int) : waitsF x p ++ beginsP s p = opsOf (doF x s).2.1 p ++ waitsF (doF x s).1 p := by
  have hcfg := cfg_eq X
  have hn := X.nc
  by_cases k1 : s.kind = 1
  · unfold doF at h ⊢
    rw [if_pos k1] at h ⊢
    by_cases c1 : s.node < 0 ∨ (x.cores.length : Int) ≤ s.node
    · rw [if_pos c1] at h; simp at h
    rw [if_neg c1] at h ⊢
    by_cases c2 : (beginF (x.core s.node.toNat) s.node x.cores.length s.op).2.2.2 ≠ 0
    · rw [if_pos c2] at h; exact absurd h c2
    rw [if_neg c2] at h ⊢
    unfold beginsP
    rw [show (if s.kind = 1 ∧ s.node = p then [s.op] else []) = (if s.node = p then [s.op] else []) from by simp [k1]]
    exact order_begin (by omega) (by omega) (by omega)
  have hb : beginsP s p = [] := if_neg (fun h => k1 h.1)
  rw [hb, List.append_nil]
  unfold doF at h ⊢
  rw [if_neg k1] at h ⊢
  by_cases k6 : s.kind = 6
  · rw [if_pos k6] at h ⊢
    by_cases c1 : s.node < 0 ∨ (x.cores.length : Int) < s.node
    · rw [if_pos c1] at h; simp at h
    rw [if_neg c1] at h ⊢
    by_cases c2 : s.node < x.cores.length
    · rw [if_pos c2]; rfl
    · rw [if_neg c2]; rfl
  rw [if_neg k6] at h ⊢
  by_cases c1 : s.kind < 2 ∨ 5 < s.kind
  · rw [if_pos c1] at h; simp at h
  rw [if_neg c1] at h ⊢
  by_cases c2 : s.n < 0 ∨ (x.frames.length : Int) ≤ s.n
  · rw [if_pos c2] at h; simp at h
  rw [if_neg c2] at h ⊢
  by_cases k4 : s.kind = 4
  · rw [if_pos k4]; rfl
  rw [if_neg k4] at h ⊢
  by_cases k5 : s.kind = 5
  · rw [if_pos k5] at h ⊢
    by_cases c3 : (parseF x.cfg (x.frames.getD s.n.toNat [])).2 ≠ 0
    · rw [if_pos c3] at h; simp at h
    rw [if_neg c3] at h ⊢
    by_cases c4 : s.bit < 0 ∨ 8 * ((x.frames.getD s.n.toNat []).length : Int) ≤ s.bit
    · rw [if_pos c4] at h; simp at h
    rw [if_neg c4]; rfl
  rw [if_neg k5] at h ⊢
  by_cases k3 : s.kind = 3
  · rw [if_pos k3]; rfl
  rw [if_neg k3] at h ⊢
  by_cases c5 : (parseF x.cfg (x.frames.getD s.n.toNat [])).2 ≠ 0
  · rw [if_pos c5]; rfl
  rw [if_neg c5] at h ⊢
  by_cases c6 : (parseF x.cfg (x.frames.getD s.n.toNat [])).1.to = x.cores.length
  · rw [if_pos c6]; rfl
  rw [if_neg c6]
  have hwr : wrongF x.cfg (parseF x.cfg (x.frames.getD s.n.toNat [])).1 = 0 := parse_wrong (c := x.cfg) (b := x.frames.getD s.n.toNat []) (by
    have : (parseF x.cfg (x.frames.getD s.n.toNat [])).2 = 0 := Classical.byContradiction c5
    rw [← this])
  have ho := (wrong_out hwr).2.2.1
  rw [hcfg] at ho c6 ⊢
  simp only at ho
  rw [hn] at c6
  exact order_hear X (by omega) (by omega)
/-- What core p began, of the first k steps. -/
def begunF (l : List SStep) (av : List SAns) (p : Int) : Nat → List SOp
  | 0 => []
  | k + 1 => begunF l av p k ++ (if (l.getD k SStep.zero).kind = 1 ∧ (l.getD k SStep.zero).node = p ∧ (av.getD k ⟨0, 0⟩).err = 0 then [(l.getD k SStep.zero).op] else [])
theorem begunF_len (l : List SStep) (av : List SAns) (p : Int) : ∀ k, (begunF l av p k).length ≤ k
  | 0 => Nat.le_refl 0
  | k + 1 => by
    have := begunF_len l av p k
    unfold begunF
    rw [List.length_append]
    split <;> simp <;> omega
theorem getD_mid {α : Type} (a : List α) (x : α) (b : List α) (k : Nat) (h : a.length = k) (d : α) : ((a ++ [x]) ++ b).getD k d = x := by
  subst h
  simp [List.getD]
theorem begun_is {c : Cfg} (h : (newF c).2 = 0) (l : List SStep) (p : Int) : ∀ k, k ≤ l.length → begunF l (runF c l).ans p k = opsOf (runF c (l.take k)).done p ++ waitsF (runF c (l.take k)).chip p
  | 0, _ => by
    obtain ⟨n, L, h1, h2, X⟩ := xi_new h
    show [] = opsOf [] p ++ waitsF (newF c).1 p
    have hw : waitsF (newF c).1 p = [] := by
      unfold newF at h ⊢
      by_cases c1 : c.cores < 1 ∨ 4 < c.cores ∨ c.lines < 1 ∨ 4 < c.lines
      · rw [if_pos c1] at h; simp at h
      rw [if_neg c1]
      refine waits_none ?_
      show (SChip.core ⟨List.replicate c.cores.toNat _, _, _⟩ p.toNat).wait.kind = 0
      unfold SChip.core
      by_cases e : p.toNat < c.cores.toNat
      · simp [List.getD, e, SOp.zero]
      · simp [List.getD, e, SCore.zero, SOp.zero]
    rw [hw, opsOf_nil]
    rfl
  | k + 1, hk => by
    have ih := begun_is h l p k (by omega)
    obtain ⟨n, L, V, h1, h2, X, P, ha, hd⟩ := run_xi h (l.take k)
    rw [List.length_take, Nat.min_eq_left (by omega)] at ha
    have hst := runF_step c l k SStep.zero (by omega)
    have hans : ((runF c l).ans.getD k ⟨0, 0⟩).err = (doF (runF c (l.take k)).chip (l.getD k SStep.zero)).2.2 := by
      obtain ⟨av, dv, e1, e2⟩ := run_parts c l (k + 1)
      rw [e1, hst]
      exact congrArg SAns.err (getD_mid _ _ av k ha ⟨0, 0⟩)
    unfold begunF
    rw [ih, hans, hst]
    show _ = opsOf ((runF c (l.take k)).done ++ (doF (runF c (l.take k)).chip (l.getD k SStep.zero)).2.1) p ++ waitsF (if (doF (runF c (l.take k)).chip (l.getD k SStep.zero)).2.2 = 0 then (doF (runF c (l.take k)).chip (l.getD k SStep.zero)).1 else (runF c (l.take k)).chip) p
    by_cases e : (doF (runF c (l.take k)).chip (l.getD k SStep.zero)).2.2 = 0
    · rw [if_pos e, opsOf_app, List.append_assoc, List.append_assoc, ← order_do X e p]
      unfold beginsP
      simp only [e, and_true]
    · rw [if_neg e, if_neg (fun h => e h.2.2), ((do1 (runF c (l.take k)).chip (l.getD k SStep.zero)).1 e).2]
      simp
theorem waits_len (x : SChip) (p : Int) : (waitsF x p).length ≤ 1 := by
  unfold waitsF
  split <;> simp
/-- What the law asks. -/
theorem order_law {c : Cfg} (h : (newF c).2 = 0) (l : List SStep) (p : Int) : ∃ w, begunF l (runF c l).ans p l.length = opsOf (runF c l).done p ++ w ∧ w.length ≤ 1 := by
  have := begun_is h l p l.length (Nat.le_refl _)
  rw [List.take_of_length_le (Nat.le_refl _)] at this
  exact ⟨_, this, waits_len _ _⟩
end Go.Proofs.Ytpgeopefamomnae

