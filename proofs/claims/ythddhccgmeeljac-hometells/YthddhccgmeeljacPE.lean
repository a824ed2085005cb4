/- The invariant is kept by what the home does. -/
import Derived.Test.YthddhccgmeeljacPD
set_option linter.unusedSimpArgs false
namespace Go.Proofs.Ythddhccgmeeljac
set_option maxRecDepth 100000
set_option linter.unusedVariables false

theorem getD_set {l : List Int} {p : Nat} {s : Int} (h : p < l.length) (q : Nat) : (l.set p s).getD q 0 = if q = p then s else l.getD q 0 := by
  by_cases e : q = p
  · subst e; simp [List.getD, h]
  · simp [List.getD, List.getElem?_set_ne (Ne.symm e), e]
/-- What the home says in its phase. -/
theorem mi_says {n : Nat} {c : Nat → SLine} {e : SEntry} {V : Int} {line id : Int} {x : Msg} (I : CI n c e V) (hx : x ∈ saysF e line id) : MI n c e x := by
  unfold saysF at hx
  by_cases h1 : e.phase = 1
  · rw [if_pos h1] at hx
    simp only [List.mem_singleton] at hx
    subst hx
    constructor <;> simp only [saysTo] <;> grind
  · rw [if_neg h1] at hx
    by_cases h2 : e.phase = 2
    · rw [if_pos h2] at hx
      simp only [List.mem_map, List.mem_filter] at hx
      obtain ⟨p, ⟨_, hp⟩, rfl⟩ := hx
      constructor <;> simp only [saysTo] <;> grind
    · rw [if_neg h2] at hx
      by_cases h3 : e.phase = 3
      · rw [if_pos h3] at hx
        simp only [List.mem_singleton] at hx
        subst hx
        have r := I.req (by omega)
        have s := I.sr
        constructor <;> simp <;> grind
      · rw [if_neg h3] at hx
        simp at hx

/-- An asking is taken up: the entry ahead of its phase. -/
def takeUp (e : SEntry) (p : Nat) (m : Msg) : SEntry := { e with last := e.last.set p m.serial, forr := p, serial := m.serial, alone := decide (m.kind = 2), turn := e.turn + 1 }
set_option maxHeartbeats 2000000 in
theorem ci_takeUp {n : Nat} {c : Nat → SLine} {e : SEntry} {V : Int} {p : Nat} {m : Msg} (hn : n ≤ 4) (I : CI n c e V) (hm : MI n c e m) (hp : p < n) (hk : m.kind = 1 ∨ m.kind = 2) (hf : m.frm = p) (h0 : e.phase = 0) (hs : lastF e p < m.serial) : CI n c (nextF (takeUp e p m)) V := by
  have h1 := hm.get hk p hp hf
  have h2 : m.serial = (c p).serial ∧ (c p).want = m.kind := by omega
  obtain ⟨h3, h4⟩ := h2
  have hst : (c p).state = 0 ∨ (c p).state = 1 := by have a := I.w1 p hp; have b := I.w2 p hp; omega
  have hnh : ¬ holds (c p) (lastF e p) := by unfold holds; omega
  have hop : e.owner ≠ p := fun h => hnh ((I.idle h0 p hp).1 h)
  have hlast : ∀ q, (e.last.set p m.serial).getD q 0 = if q = p then m.serial else e.last.getD q 0 := getD_set (by rw [I.nlen]; exact hp)
  have hll : (e.last.set p m.serial).length = n := by rw [List.length_set]; exact I.nlen
  have hsr : ∀ q, q < n → 0 ≤ (e.last.set p m.serial).getD q 0 ∧ (e.last.set p m.serial).getD q 0 ≤ (c q).serial := by
    intro q hq
    have := I.sr q hq
    unfold lastF at this hs
    rw [hlast q]
    have := I.sr p hp
    unfold lastF at this
    split
    · rename_i e; subst e; omega
    · assumption
  have hho : ∀ q, q < n → (holds (c q) ((e.last.set p m.serial).getD q 0) ↔ holds (c q) (lastF e q)) := by
    intro q hq
    rw [hlast q]
    split
    · rename_i e; subst e; unfold holds; constructor <;> intro h <;> omega
    · rfl
  have hlp : (e.last.set p m.serial).getD p 0 = m.serial := by rw [hlast p, if_pos rfl]
  have hreq : ∀ q : Nat, q < n → (q : Int) = p → (e.last.set p m.serial).getD q 0 = m.serial ∧ (c q).seen < e.turn + 1 ∧ (c q).serial = m.serial ∧ (c q).want = if decide (m.kind = 2) = true then 2 else 1 := by
    intro q hq e1
    have e2 : q = p := by omega
    subst e2
    have := I.gs q hq
    refine ⟨hlp, by omega, by omega, ?_⟩
    rcases hk with hk | hk <;> simp [hk, h4]
  have htk : ∀ q : Nat, q < n → ((c q).want = 1 ∨ (c q).want = 2) → (e.last.set p m.serial).getD q 0 < (c q).serial ∨ ((p : Int) = q ∧ (c q).serial = m.serial ∧ (c q).seen < e.turn + 1) := by
    intro q hq hw
    by_cases e1 : q = p
    · subst e1
      have := I.gs q hq
      exact .inr ⟨rfl, h3.symm, by omega⟩
    · rw [hlast q, if_neg e1]
      rcases I.tk q hq hw with h | h
      · exact .inl h
      · exact absurd h0 h.1
  have hnd := has_need' (e := takeUp e p m) I.sh.1 I.sh.2 (by simp [takeUp]) (by simp [takeUp]; omega)
  have hnz := fun (h : ∀ q : Nat, q < 4 → hasF (needF (takeUp e p m)) q = false) => has_none' hnd.1.1 hnd.1.2 h
  have hz := fun (h : needF (takeUp e p m) = 0) (q : Nat) (hq : q < 4) => (by rw [h]; exact has_zero' hq : hasF (needF (takeUp e p m)) q = false)
  obtain ⟨nlen, st, wn, lv, w1, w2, gs, sr, ph, ow, fr, sh, nd, shn, os, idle, fetch, clear, need, grant, req, tk, copy, val, valF, valH⟩ := I
  have idle' := idle h0
  clear tk
  unfold nextF
  by_cases ho : 0 ≤ e.owner
  · have ho' : 0 ≤ (takeUp e p m).owner := ho
    rw [if_pos ho']
    clear hnd hnz hz fetch clear need grant req
    constructor
    all_goals (simp only [takeUp, lastF, holds] at *; grind)
  · have ho' : ¬ 0 ≤ (takeUp e p m).owner := ho
    rw [if_neg ho']
    have hz1 : e.owner = -1 := by omega
    generalize hN : needF (takeUp e p m) = N at *
    obtain ⟨hnd1, hnd2⟩ := hnd
    clear fetch clear need grant req
    by_cases hN0 : N = 0
    · have hz' := hz hN0
      rw [if_pos hN0]
      clear hz hnz
      constructor
      all_goals (simp only [takeUp, lastF, holds] at *; grind)
    · rw [if_neg hN0]
      clear hz
      constructor
      all_goals (simp only [takeUp, lastF, holds] at *; grind)
set_option maxHeartbeats 1000000 in
theorem mi_takeUp {n : Nat} {c : Nat → SLine} {e : SEntry} {V : Int} {p : Nat} {m x : Msg} (hn : n ≤ 4) (I : CI n c e V) (hm : MI n c e m) (hp : p < n) (hk : m.kind = 1 ∨ m.kind = 2) (hf : m.frm = p) (h0 : e.phase = 0) (hs : lastF e p < m.serial) (hx : MI n c e x) : MI n c (nextF (takeUp e p m)) x := by
  have h1 := hm.get hk p hp hf
  have h2 : m.serial = (c p).serial ∧ (c p).want = m.kind := by omega
  obtain ⟨h3, h4⟩ := h2
  have hlast : ∀ q, (e.last.set p m.serial).getD q 0 = if q = p then m.serial else e.last.getD q 0 := getD_set (by rw [I.nlen]; exact hp)
  have g := I.gs
  have hm1 : ∀ q, q < n → e.last.getD q 0 ≤ (e.last.set p m.serial).getD q 0 := by
    intro q hq
    rw [hlast q]
    unfold lastF at hs
    split
    · rename_i e; subst e; omega
    · omega
  clear hlast
  obtain ⟨x1, x2, x3, x4, x5, x6, x7, x8, x9⟩ := hx
  have hl : (nextF (takeUp e p m)).last = e.last.set p m.serial ∧ (nextF (takeUp e p m)).owner = e.owner ∧ (nextF (takeUp e p m)).turn = e.turn + 1 ∧ (nextF (takeUp e p m)).forr = p := by
    unfold nextF; split <;> simp [takeUp]
  obtain ⟨l1, l2, l3, l4⟩ := hl
  have hlp : ∀ q : Nat, q < n → (q : Int) = p → (c q).serial ≤ (e.last.set p m.serial).getD q 0 := by
    intro q hq e1
    have e2 : q = p := by omega
    subst e2
    rw [getD_set (by rw [I.nlen]; exact hp), if_pos rfl]
    omega
  generalize nextF (takeUp e p m) = f at *
  constructor
  all_goals (simp only [lastF, l1, l2, l3, l4] at *; grind)
/-- MsgPut. -/
def putL (e : SEntry) (p : Nat) (m : Msg) : SEntry := if lastF e p < m.serial then (if e.owner = p then { e with last := e.last.set p m.serial, value := m.value, owner := -1 } else { e with last := e.last.set p m.serial }) else e
set_option maxHeartbeats 2000000 in
theorem ci_put {n : Nat} {c : Nat → SLine} {e : SEntry} {V : Int} {p : Nat} {m : Msg} (hn : n ≤ 4) (I : CI n c e V) (hm : MI n c e m) (hp : p < n) (hk : m.kind = 3) (hf : m.frm = p) (h0 : e.phase = 0) : CI n c (putL e p m) V := by
  unfold putL
  by_cases hs : lastF e p < m.serial
  · rw [if_pos hs]
    have h1 := hm.put hk p hp hf
    have hlast : ∀ q, (e.last.set p m.serial).getD q 0 = if q = p then m.serial else e.last.getD q 0 := getD_set (by rw [I.nlen]; exact hp)
    have hll : (e.last.set p m.serial).length = n := by rw [List.length_set]; exact I.nlen
    have hlp : (e.last.set p m.serial).getD p 0 = m.serial := by rw [hlast p, if_pos rfl]
    have hlo : ∀ q, q ≠ p → (e.last.set p m.serial).getD q 0 = e.last.getD q 0 := fun q hq => by rw [hlast q, if_neg hq]
    have hid := I.idle h0
    have hsr : ∀ q, q < n → 0 ≤ (e.last.set p m.serial).getD q 0 ∧ (e.last.set p m.serial).getD q 0 ≤ (c q).serial := by
      intro q hq
      have := I.sr q hq
      unfold lastF at this hs
      by_cases e1 : q = p
      · subst e1; rw [hlp]; omega
      · rw [hlo q e1]; exact this
    have htk : ∀ q : Nat, q < n → ((c q).want = 1 ∨ (c q).want = 2) → (e.last.set p m.serial).getD q 0 < (c q).serial := by
      intro q hq hw
      have k := I.tk q hq hw
      by_cases e1 : q = p
      · subst e1
        rw [hlp]
        rcases h1.2 with h2 | h2 | h2
        · omega
        · omega
        · omega
      · rw [hlo q e1]
        rcases k with h | h
        · exact h
        · exact absurd h0 h.1
    by_cases ho : e.owner = p
    · rw [if_pos ho]
      have hh := (hid p hp).1 ho
      have hst := I.lv p hp
      have h2 : m.serial = (c p).serial ∧ (c p).want = 3 ∧ m.value = (c p).value := by
        rcases h1.2 with h2 | h2 | h2
        · omega
        · exact h2
        · omega
      obtain ⟨h3, h4, h5⟩ := h2
      have hV := I.val p hp hh
      have hho : ∀ q, q < n → ¬ holds (c q) ((e.last.set p m.serial).getD q 0) := by
        intro q hq hc
        by_cases e1 : q = p
        · subst e1; rw [hlp] at hc; unfold holds at hc; omega
        · rw [hlo q e1] at hc; have := (hid q hq).2 hc; omega
      clear hlast hid
      obtain ⟨nlen, st, wn, lv, w1, w2, gs, sr, ph, ow, fr, sh, nd, shn, os, idle, fetch, clear, need, grant, req, tk, copy, val, valF, valH⟩ := I
      clear tk
      constructor <;> (try assumption)
      all_goals (simp only [lastF] at *; grind)
    · rw [if_neg ho]
      have hnh : ¬ holds (c p) (lastF e p) := fun h => ho ((hid p hp).2 h)
      have hho : ∀ q, q < n → (holds (c q) ((e.last.set p m.serial).getD q 0) ↔ holds (c q) (lastF e q)) := by
        intro q hq
        by_cases e1 : q = p
        · subst e1; rw [hlp]; unfold holds at hnh ⊢; constructor <;> intro h <;> omega
        · rw [hlo q e1]; rfl
      clear hlast
      obtain ⟨nlen, st, wn, lv, w1, w2, gs, sr, ph, ow, fr, sh, nd, shn, os, idle, fetch, clear, need, grant, req, tk, copy, val, valF, valH⟩ := I
      clear tk
      constructor <;> (try assumption)
      all_goals (simp only [lastF] at *; grind)
  · rw [if_neg hs]; exact I
set_option maxHeartbeats 1000000 in
theorem mi_put {n : Nat} {c : Nat → SLine} {e : SEntry} {V : Int} {p : Nat} {m x : Msg} (I : CI n c e V) (hp : p < n) (h0 : e.phase = 0) (hx : MI n c e x) : MI n c (putL e p m) x := by
  unfold putL
  by_cases hs : lastF e p < m.serial
  · rw [if_pos hs]
    have hlast : ∀ q, (e.last.set p m.serial).getD q 0 = if q = p then m.serial else e.last.getD q 0 := getD_set (by rw [I.nlen]; exact hp)
    have hm1 : ∀ q, q < n → e.last.getD q 0 ≤ (e.last.set p m.serial).getD q 0 := by
      intro q hq
      rw [hlast q]
      unfold lastF at hs
      split
      · rename_i e; subst e; omega
      · omega
    have ow := I.ow
    obtain ⟨x1, x2, x3, x4, x5, x6, x7, x8, x9⟩ := hx
    clear hlast
    by_cases ho : e.owner = p
    · rw [if_pos ho]
      constructor
      all_goals (simp only [lastF] at *; grind)
    · rw [if_neg ho]
      constructor
      all_goals (simp only [lastF] at *; grind)
  · rw [if_neg hs]; exact hx
theorem mi_takenSay {n : Nat} {c : Nat → SLine} {e : SEntry} {V : Int} {p : Nat} {m : Msg} {line id : Int} (I : CI n c e V) (hp : p < n) : MI n c (putL e p m) { kind := 11, frm := id, to := p, line := line, serial := m.serial, turn := 0, value := 0, alone := false } := by
  have hle : m.serial ≤ lastF (putL e p m) p := by
    unfold putL
    by_cases hs : lastF e p < m.serial
    · rw [if_pos hs]
      have hlp : (e.last.set p m.serial).getD p 0 = m.serial := by rw [getD_set (by rw [I.nlen]; exact hp), if_pos rfl]
      split <;> simp only [lastF, hlp] <;> omega
    · rw [if_neg hs]; omega
  constructor <;> simp
  intro q hq e1
  have : q = p := by omega
  subst this
  exact hle
end Go.Proofs.Ythddhccgmeeljac
