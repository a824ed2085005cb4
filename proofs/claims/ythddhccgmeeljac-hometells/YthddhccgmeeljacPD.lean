/- The invariant is kept by what cores begin. -/
import Derived.Test.YthddhccgmeeljacPC
set_option linter.unusedSimpArgs false
namespace Go.Proofs.Ythddhccgmeeljac
set_option maxRecDepth 100000
set_option linter.unusedVariables false

/-- What begins and is done at once. -/
theorem begin_done {l : SLine} {o : SOp} (hk : 1 ≤ o.kind ∧ o.kind ≤ 4) (h : (beginL l o).2.1 = 0) :
    (o.kind = 4 ∧ l.state ≠ 2 ∧ beginL l o = ({ l with state := 0, value := 0 }, 0, 0)) ∨ (o.kind = 1 ∧ (l.state = 1 ∨ l.state = 2) ∧ beginL l o = (l, 0, l.value)) ∨ ((o.kind = 2 ∨ o.kind = 3) ∧ l.state = 2 ∧ beginL l o = ({ l with value := (tellF l.value o).1 }, 0, (tellF l.value o).2)) := by
  unfold beginL at h ⊢
  by_cases h4 : o.kind = 4
  · by_cases hs : l.state = 2
    · simp [h4, hs] at h
    · simp [h4, hs]
  · by_cases h1 : o.kind = 1
    · by_cases hs : l.state = 1 ∨ l.state = 2
      · simp [h1, hs]
      · simp [h1, hs] at h
    · by_cases hs : l.state = 2
      · simp [h4, h1, hs]; omega
      · simp [h4, h1, hs] at h
/-- What begins and waits. -/
theorem begin_wants {l : SLine} {o : SOp} (hk : 1 ≤ o.kind ∧ o.kind ≤ 4) (h : (beginL l o).2.1 ≠ 0) :
    (o.kind = 4 ∧ l.state = 2 ∧ beginL l o = ({ l with state := 3, want := 3, serial := l.serial + 1 }, 3, 0)) ∨ (o.kind = 1 ∧ l.state ≠ 1 ∧ l.state ≠ 2 ∧ beginL l o = ({ l with want := 1, serial := l.serial + 1 }, 1, 0)) ∨ ((o.kind = 2 ∨ o.kind = 3) ∧ l.state ≠ 2 ∧ beginL l o = ({ l with want := 2, serial := l.serial + 1 }, 2, 0)) := by
  unfold beginL at h ⊢
  by_cases h4 : o.kind = 4
  · by_cases hs : l.state = 2
    · simp [h4, hs]
    · simp [h4, hs] at h
  · by_cases h1 : o.kind = 1
    · by_cases hs : l.state = 1 ∨ l.state = 2
      · simp [h1, hs] at h
      · simp [h1, hs]; omega
    · by_cases hs : l.state = 2
      · simp [h4, h1, hs] at h
      · simp [h4, h1, hs]; omega
/-- Where somebody has the line's value there is no copy. -/
theorem CI.nocopy {n : Nat} {c : Nat → SLine} {e : SEntry} {V : Int} (hn : n ≤ 4) (I : CI n c e V) {p q : Nat} (hp : p < n) (hq : q < n) (h : (c p).state = 2) : (c q).state ≠ 1 := by
  intro hc
  have hh : holds (c p) (lastF e p) := .inl h
  have hph := I.ph
  have hcp := (I.copy q hq hc).2
  have hne : q ≠ p := by intro e; subst e; omega
  rcases (by omega : e.phase = 0 ∨ e.phase = 1 ∨ e.phase = 2 ∨ e.phase = 3) with h0 | h0 | h0 | h0
  · have a := (I.idle h0 p hp).2 hh
    have b := I.os (by omega) q (by omega)
    grind
  · have a := ((I.fetch h0).2.2 p hp).1.1 hh
    have b := I.os (by omega) q (by omega)
    grind
  · exact absurd hh ((I.clear h0).2.2 p hp).1
  · have a := ((I.grant h0).2 p hp).1.1 hh
    have b := ((I.grant h0).2 q hq).2
    grind
set_option maxHeartbeats 1000000 in
theorem ci_done {n : Nat} {c : Nat → SLine} {e : SEntry} {V : Int} {p : Nat} {o : SOp} (hn : n ≤ 4) (I : CI n c e V) (hp : p < n) (hw : (c p).want = 0) (hk : 1 ≤ o.kind ∧ o.kind ≤ 4) (h : (beginL (c p) o).2.1 = 0) : CI n (updL c p (beginL (c p) o).1) e (tellF V o).1 ∧ (beginL (c p) o).2.2 = (tellF V o).2 := by
  rcases begin_done hk h with ⟨h1, h2, h3⟩ | ⟨h1, h2, h3⟩ | ⟨h1, h2, h3⟩
  · rw [h3]
    have hT : tellF V o = (V, 0) := by simp [tellF, h1]
    rw [hT]
    refine ⟨?_, rfl⟩
    obtain ⟨nlen, st, wn, lv, w1, w2, gs, sr, ph, ow, fr, sh, nd, shn, os, idle, fetch, clear, need, grant, req, tk, copy, val, valF, valH⟩ := I
    constructor <;> (try assumption)
    all_goals (simp only [updL, holds] at *; grind)
  · rw [h3, updL_same]
    have hT : tellF V o = (V, V) := by simp [tellF, h1]
    rw [hT]
    refine ⟨I, ?_⟩
    rcases h2 with h2 | h2
    · exact (I.copy p hp h2).1
    · exact I.val p hp (.inl h2)
  · rw [h3]
    have hV : (c p).value = V := I.val p hp (.inl h2)
    rw [hV]
    refine ⟨?_, rfl⟩
    generalize (tellF V o).1 = V'
    have hno := fun q hq => I.nocopy hn hp (q := q) hq h2
    have hone := fun q hq => I.one hp (q := q) hq (.inl h2)
    have hgv : e.phase = 1 → e.owner = p ∧ (c p).gave ≠ e.turn := fun h0 => ((I.fetch h0).2.2 p hp).1.1 (.inl h2)
    obtain ⟨nlen, st, wn, lv, w1, w2, gs, sr, ph, ow, fr, sh, nd, shn, os, idle, fetch, clear, need, grant, req, tk, copy, val, valF, valH⟩ := I
    constructor <;> (try assumption)
    all_goals (simp only [updL, holds] at *; grind)
set_option maxHeartbeats 1000000 in
theorem mi_done {n : Nat} {c : Nat → SLine} {e : SEntry} {V : Int} {p : Nat} {o : SOp} {x : Msg} (I : CI n c e V) (hp : p < n) (hw : (c p).want = 0) (hk : 1 ≤ o.kind ∧ o.kind ≤ 4) (h : (beginL (c p) o).2.1 = 0) (hx : MI n c e x) : MI n (updL c p (beginL (c p) o).1) e x := by
  obtain ⟨h1, h2, h3, h4, h5, h6, h7, h8, h9⟩ := hx
  rcases begin_done hk h with ⟨k1, k2, k3⟩ | ⟨k1, k2, k3⟩ | ⟨k1, k2, k3⟩
  · rw [k3]
    constructor
    all_goals first | (simp only [updL] at *; grind) | grind
  · rw [k3, updL_same]
    exact ⟨h1, h2, h3, h4, h5, h6, h7, h8, h9⟩
  · rw [k3]
    constructor
    all_goals first | (simp only [updL] at *; grind) | grind
set_option maxHeartbeats 1000000 in
theorem ci_wants {n : Nat} {c : Nat → SLine} {e : SEntry} {V : Int} {p : Nat} {o : SOp} (hn : n ≤ 4) (I : CI n c e V) (hp : p < n) (hw : (c p).want = 0) (hk : 1 ≤ o.kind ∧ o.kind ≤ 4) (h : (beginL (c p) o).2.1 ≠ 0) : CI n (updL c p (beginL (c p) o).1) e V := by
  obtain ⟨nlen, st, wn, lv, w1, w2, gs, sr, ph, ow, fr, sh, nd, shn, os, idle, fetch, clear, need, grant, req, tk, copy, val, valF, valH⟩ := I
  rcases begin_wants hk h with ⟨h1, h2, h3⟩ | ⟨h1, h2, h4, h3⟩ | ⟨h1, h2, h3⟩
  all_goals
    rw [h3]
    constructor <;> (try assumption)
    all_goals (simp only [updL, holds] at *; grind)
set_option maxHeartbeats 1000000 in
theorem mi_wants {n : Nat} {c : Nat → SLine} {e : SEntry} {V : Int} {p : Nat} {o : SOp} {x : Msg} (I : CI n c e V) (hp : p < n) (hw : (c p).want = 0) (hk : 1 ≤ o.kind ∧ o.kind ≤ 4) (h : (beginL (c p) o).2.1 ≠ 0) (hx : MI n c e x) : MI n (updL c p (beginL (c p) o).1) e x := by
  obtain ⟨h1, h2, h3, h4, h5, h6, h7, h8, h9⟩ := hx
  have g1 := I.gs p hp
  have g2 := fun h0 => (I.fetch h0).2.2 p hp
  have g3 := fun h0 => I.idle h0 p hp
  have g4 := fun h0 => (I.grant h0).2 p hp
  have g5 := I.sr p hp
  have g6 := I.lv p hp
  rcases begin_wants hk h with ⟨k1, k2, k3⟩ | ⟨k1, k2, k4, k3⟩ | ⟨k1, k2, k3⟩
  all_goals
    rw [k3]
    constructor
    all_goals first | (simp only [updL, holds] at *; grind) | grind
/-- What begins, and what wants then: 1 for a load, 2 for a store or an add, 3 for what is given back. -/
theorem begin_kind {l : SLine} {o : SOp} (hk : 1 ≤ o.kind ∧ o.kind ≤ 4) (h : (beginL l o).2.1 ≠ 0) : (beginL l o).1.want = (beginL l o).2.1 ∧ (beginL l o).1.serial = l.serial + 1 ∧ ((beginL l o).2.1 = 1 ↔ o.kind = 1) ∧ ((beginL l o).2.1 = 3 ↔ o.kind = 4) := by
  rcases begin_wants hk h with ⟨k1, k2, k3⟩ | ⟨k1, k2, k4, k3⟩ | ⟨k1, k2, k3⟩ <;> rw [k3] <;> simp <;> omega
end Go.Proofs.Ythddhccgmeeljac
