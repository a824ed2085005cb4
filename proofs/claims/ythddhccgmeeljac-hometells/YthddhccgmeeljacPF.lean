/- The invariant is kept by what the home does: MsgData, MsgGone, MsgThanks. -/
import Derived.Test.YthddhccgmeeljacPE
set_option linter.unusedSimpArgs false
namespace Go.Proofs.Ythddhccgmeeljac
set_option maxRecDepth 100000
set_option linter.unusedVariables false

/-- MsgData comes: the entry ahead of its phase. -/
def dataL (e : SEntry) (p : Nat) (m : Msg) : SEntry := { e with sharers := if e.alone = false ∧ hasF e.sharers p = false then e.sharers + bitF p else e.sharers, value := m.value, owner := -1 }
theorem data_next {n : Nat} {c : Nat → SLine} {e : SEntry} {V : Int} {p : Nat} {m : Msg} (hn : n ≤ 4) (I : CI n c e V) (hp : p < n) (h0 : e.phase = 1) (ho : e.owner = p) : nextF (dataL e p m) = { dataL e p m with need := 0, phase := 3 } ∧ (0 ≤ (dataL e p m).sharers ∧ (dataL e p m).sharers < 16) ∧ ∀ q : Nat, q < 4 → hasF (dataL e p m).sharers q = (decide (q = p) && !e.alone) := by
  have os := I.os (by omega)
  have hz := os p (by omega)
  have hsh : (0 ≤ (dataL e p m).sharers ∧ (dataL e p m).sharers < 16) ∧ ∀ q : Nat, q < 4 → hasF (dataL e p m).sharers q = (decide (q = p) && !e.alone) := by
    cases ha : e.alone
    · have hs : (dataL e p m).sharers = e.sharers + bitF p := by simp [dataL, ha, hz]
      rw [hs]
      refine ⟨(has_add' I.sh.1 I.sh.2 (by omega) (by omega : p < 4) hz).2, fun q hq => ?_⟩
      rw [(has_add' I.sh.1 I.sh.2 (by omega) hq hz).1, os q hq]
      simp
    · have hs : (dataL e p m).sharers = e.sharers := by simp [dataL, ha]
      rw [hs]
      refine ⟨I.sh, fun q hq => ?_⟩
      rw [os q hq]
      simp
  refine ⟨?_, hsh⟩
  have hnd := has_need' (e := dataL e p m) hsh.1.1 hsh.1.2 I.fr.1 (by have := I.fr.2; simp only [dataL]; omega)
  have hN : needF (dataL e p m) = 0 := has_none' hnd.1.1 hnd.1.2 fun q hq => by
    rw [hnd.2 q hq, hsh.2 q hq]
    simp only [dataL]
    cases e.alone <;> simp
  unfold nextF
  rw [if_neg (by simp [dataL]), hN]
  rfl
set_option maxHeartbeats 2000000 in
theorem ci_data {n : Nat} {c : Nat → SLine} {e : SEntry} {V : Int} {p : Nat} {m : Msg} (hn : n ≤ 4) (I : CI n c e V) (hm : MI n c e m) (hp : p < n) (hk : m.kind = 9) (hf : m.frm = p) (h0 : e.phase = 1) (ht : m.turn = e.turn) (ho : e.owner = p) : CI n c (nextF (dataL e p m)) V := by
  obtain ⟨e1, e2, e3⟩ := data_next (m := m) hn I hp h0 ho
  rw [e1]
  have h1 := hm.data hk p hp hf
  have h2 := I.gs p hp
  have hg : (c p).gave = e.turn ∧ m.value = (c p).given := by omega
  have hV := I.valF h0 p hp ho hg.1
  have hno : ∀ q, q < n → ¬ holds (c q) (lastF e q) := by
    intro q hq hh
    have := ((I.fetch h0).2.2 q hq).1.1 hh
    have e4 : q = p := by omega
    subst e4
    omega
  have hal := ((I.fetch h0).2.2 p hp).2.2 ho hg.1
  have hof := (I.fetch h0).2.1
  have hreq := I.req (by omega)
  have os := I.os (by omega)
  have hcp : ∀ q, q < n → (c q).state = 1 → (c q).value = V ∧ q = p ∧ e.alone = false := by
    intro q hq hc
    have a := I.copy q hq hc
    have b := os q (by omega)
    have e4 : q = p := by
      rcases a.2 with h | h | h
      · rw [b] at h; cases h
      · omega
      · omega
    subst e4
    refine ⟨a.1, rfl, ?_⟩
    cases ha : e.alone
    · rfl
    · exact absurd hc (hal ha)
  obtain ⟨nlen, st, wn, lv, w1, w2, gs, sr, ph, ow, fr, sh, nd, shn, os', idle, fetch, clear, need, grant, req, tk, copy, val, valF, valH⟩ := I
  have hl : lastF { dataL e p m with need := 0, phase := 3 } = lastF e := rfl
  clear fetch clear need grant req idle e1 copy
  generalize hS : (dataL e p m).sharers = S at *
  have hS' : ({ dataL e p m with need := 0, phase := 3 } : SEntry) = { e with sharers := S, value := m.value, owner := -1, need := 0, phase := 3 } := by rw [← hS]; rfl
  rw [hS'] at hl ⊢
  constructor <;> (try assumption)
  all_goals (simp only [hl] at *; grind)
set_option maxHeartbeats 1000000 in
theorem mi_dataHome {n : Nat} {c : Nat → SLine} {e : SEntry} {V : Int} {p : Nat} {m x : Msg} (hn : n ≤ 4) (I : CI n c e V) (hm : MI n c e m) (hp : p < n) (hk : m.kind = 9) (hf : m.frm = p) (h0 : e.phase = 1) (ht : m.turn = e.turn) (ho : e.owner = p) (hx : MI n c e x) : MI n c (nextF (dataL e p m)) x := by
  obtain ⟨e1, e2, e3⟩ := data_next (m := m) hn I hp h0 ho
  rw [e1]
  have h1 := hm.data hk p hp hf
  have h2 := I.gs p hp
  have hg : (c p).gave = e.turn := by omega
  have hq : ∀ q : Nat, q < n → e.owner = q → e.turn ≤ (c q).seen := by
    intro q hq e4
    have e5 : q = p := by omega
    subst e5
    omega
  have hl : lastF { dataL e p m with need := 0, phase := 3 } = lastF e := rfl
  generalize hS : (dataL e p m).sharers = S at *
  have hS' : ({ dataL e p m with need := 0, phase := 3 } : SEntry) = { e with sharers := S, value := m.value, owner := -1, need := 0, phase := 3 } := by rw [← hS]; rfl
  rw [hS'] at hl ⊢
  clear e1
  obtain ⟨x1, x2, x3, x4, x5, x6, x7, x8, x9⟩ := hx
  constructor
  all_goals first | (simp only [hl] at *; grind) | grind

/-- MsgGone comes: the entry ahead of its phase. -/
def goneL (e : SEntry) (p : Nat) : SEntry := { e with need := e.need - bitF p, sharers := if hasF e.sharers p = true then e.sharers - bitF p else e.sharers }
theorem gone_sets {n : Nat} {c : Nat → SLine} {e : SEntry} {V : Int} {p : Nat} (hn : n ≤ 4) (I : CI n c e V) (hp : p < n) (h0 : e.phase = 2) (hN : hasF e.need p = true) :
    (0 ≤ (goneL e p).sharers ∧ (goneL e p).sharers < 16) ∧ (0 ≤ (goneL e p).need ∧ (goneL e p).need < 16) ∧ (∀ q : Nat, q < 4 → hasF (goneL e p).sharers q = (decide (q ≠ p) && hasF e.sharers q)) ∧ (∀ q : Nat, q < 4 → hasF (goneL e p).need q = (decide (q ≠ p) && hasF e.need q)) := by
  have hs := (I.need h0 p (by omega) hN).2.1
  have es : (goneL e p).sharers = e.sharers - bitF p := by simp [goneL, hs]
  have en : (goneL e p).need = e.need - bitF p := rfl
  rw [es, en]
  exact ⟨(has_sub' I.sh.1 I.sh.2 (by omega) (by omega : p < 4) hs).2, (has_sub' I.nd.1 I.nd.2 (by omega) (by omega : p < 4) hN).2, fun q hq => (has_sub' I.sh.1 I.sh.2 (by omega) hq hs).1, fun q hq => (has_sub' I.nd.1 I.nd.2 (by omega) hq hN).1⟩
theorem gone_next {n : Nat} {c : Nat → SLine} {e : SEntry} {V : Int} {p : Nat} (hn : n ≤ 4) (I : CI n c e V) (hp : p < n) (h0 : e.phase = 2) (hN : hasF e.need p = true) (hz : ¬ 0 < (goneL e p).need) : nextF (goneL e p) = { goneL e p with need := 0, phase := 3 } := by
  obtain ⟨s1, s2, s3, s4⟩ := gone_sets hn I hp h0 hN
  have hnd := has_need' (e := goneL e p) s1.1 s1.2 I.fr.1 (by have := I.fr.2; simp only [goneL]; omega)
  have hz0 : (goneL e p).need = 0 := by omega
  have hN0 : needF (goneL e p) = 0 := has_none' hnd.1.1 hnd.1.2 fun q hq => by
    rw [hnd.2 q hq, s3 q hq]
    have h1 := s4 q hq
    rw [hz0, has_zero' hq] at h1
    have h2 : q < n → hasF e.sharers q = true → hasF e.need q = true ∨ (q : Int) = e.forr := fun hqn => ((I.clear h0).2.2 q hqn).2.1
    have h3 : n ≤ q → hasF e.sharers q = false := fun h => I.shn q h hq
    have h4 : (goneL e p).forr = e.forr := rfl
    rw [h4]
    grind
  unfold nextF
  have ho := (I.clear h0).1
  rw [if_neg (by simp [goneL, ho]), hN0]
  rfl
set_option maxHeartbeats 2000000 in
theorem ci_gone {n : Nat} {c : Nat → SLine} {e : SEntry} {V : Int} {p : Nat} {m : Msg} (hn : n ≤ 4) (I : CI n c e V) (hm : MI n c e m) (hp : p < n) (hk : m.kind = 8) (hf : m.frm = p) (h0 : e.phase = 2) (ht : m.turn = e.turn) (hN : hasF e.need p = true) : CI n c (if 0 < (goneL e p).need then goneL e p else nextF (goneL e p)) V := by
  have h1 := hm.gone hk p hp hf
  have hst := ((I.clear h0).2.2 p hp).2.2 hN (by omega)
  obtain ⟨s1, s2, s3, s4⟩ := gone_sets hn I hp h0 hN
  have cl := I.clear h0
  have nd' := I.need h0
  have rq := I.req (by omega)
  by_cases hz : 0 < (goneL e p).need
  · rw [if_pos hz]
    have hl : lastF (goneL e p) = lastF e := rfl
    obtain ⟨nlen, st, wn, lv, w1, w2, gs, sr, ph, ow, fr, sh, nd, shn, os', idle, fetch, clear, need, grant, req, tk, copy, val, valF, valH⟩ := I
    generalize hS : (goneL e p).sharers = S at *
    generalize hD : (goneL e p).need = D at *
    have hS' : goneL e p = { e with sharers := S, need := D } := by rw [← hS, ← hD]; rfl
    rw [hS'] at hl ⊢
    clear hS hD hS' fetch grant idle
    constructor <;> (try assumption)
    all_goals (simp only [hl] at *; grind)
  · rw [if_neg hz, gone_next hn I hp h0 hN hz]
    have hz0 : (goneL e p).need = 0 := by omega
    have hnb : ∀ q : Nat, q < 4 → (decide (q ≠ p) && hasF e.need q) = false := fun q hq => by rw [← s4 q hq, hz0]; exact has_zero' hq
    have hl : lastF { goneL e p with need := 0, phase := 3 } = lastF e := rfl
    obtain ⟨nlen, st, wn, lv, w1, w2, gs, sr, ph, ow, fr, sh, nd, shn, os', idle, fetch, clear, need, grant, req, tk, copy, val, valF, valH⟩ := I
    clear hz s4
    generalize hS : (goneL e p).sharers = S at *
    have hS' : ({ goneL e p with need := 0, phase := 3 } : SEntry) = { e with sharers := S, need := 0, phase := 3 } := by rw [← hS]; rfl
    rw [hS'] at hl ⊢
    clear hS hS' fetch grant idle clear
    constructor <;> (try assumption)
    all_goals (simp only [hl] at *; grind)
set_option maxHeartbeats 1000000 in
theorem mi_goneHome {n : Nat} {c : Nat → SLine} {e : SEntry} {V : Int} {p : Nat} {m x : Msg} (hn : n ≤ 4) (I : CI n c e V) (hm : MI n c e m) (hp : p < n) (hk : m.kind = 8) (hf : m.frm = p) (h0 : e.phase = 2) (ht : m.turn = e.turn) (hN : hasF e.need p = true) (hx : MI n c e x) : MI n c (if 0 < (goneL e p).need then goneL e p else nextF (goneL e p)) x := by
  have h1 := hm.gone hk p hp hf
  obtain ⟨s1, s2, s3, s4⟩ := gone_sets hn I hp h0 hN
  obtain ⟨x1, x2, x3, x4, x5, x6, x7, x8, x9⟩ := hx
  by_cases hz : 0 < (goneL e p).need
  · rw [if_pos hz]
    have hl : lastF (goneL e p) = lastF e := rfl
    generalize hS : (goneL e p).sharers = S at *
    generalize hD : (goneL e p).need = D at *
    have hS' : goneL e p = { e with sharers := S, need := D } := by rw [← hS, ← hD]; rfl
    rw [hS'] at hl ⊢
    clear hS hD hS'
    constructor
    all_goals first | (simp only [hl] at *; grind) | grind
  · rw [if_neg hz, gone_next hn I hp h0 hN hz]
    have hz0 : (goneL e p).need = 0 := by omega
    have hnb : ∀ q : Nat, q < 4 → (decide (q ≠ p) && hasF e.need q) = false := fun q hq => by rw [← s4 q hq, hz0]; exact has_zero' hq
    have hl : lastF { goneL e p with need := 0, phase := 3 } = lastF e := rfl
    clear hz s4
    generalize hS : (goneL e p).sharers = S at *
    have hS' : ({ goneL e p with need := 0, phase := 3 } : SEntry) = { e with sharers := S, need := 0, phase := 3 } := by rw [← hS]; rfl
    rw [hS'] at hl ⊢
    clear hS hS'
    constructor
    all_goals first | (simp only [hl] at *; grind) | grind

/-- MsgThanks comes. -/
def thanksL (e : SEntry) (p : Nat) : SEntry :=
  if e.alone = true then { e with owner := e.forr, sharers := 0, phase := 0, forr := 0, serial := 0, alone := false }
  else { e with sharers := if hasF e.sharers p = false then e.sharers + bitF p else e.sharers, phase := 0, forr := 0, serial := 0, alone := false }
theorem thanks_sets {n : Nat} {c : Nat → SLine} {e : SEntry} {V : Int} {p : Nat} (hn : n ≤ 4) (I : CI n c e V) (hp : p < n) : ∃ S, (if hasF e.sharers p = false then e.sharers + bitF p else e.sharers) = S ∧ (0 ≤ S ∧ S < 16) ∧ ∀ q : Nat, q < 4 → hasF S q = (decide (q = p) || hasF e.sharers q) := by
  by_cases h : hasF e.sharers p = false
  · rw [if_pos h]
    exact ⟨_, rfl, (has_add' I.sh.1 I.sh.2 (by omega) (by omega : p < 4) h).2, fun q hq => (has_add' I.sh.1 I.sh.2 (by omega) hq h).1⟩
  · rw [if_neg h]
    refine ⟨_, rfl, I.sh, fun q hq => ?_⟩
    by_cases e1 : q = p
    · subst e1; simp_all
    · simp [e1]
set_option maxHeartbeats 2000000 in
theorem ci_thanks {n : Nat} {c : Nat → SLine} {e : SEntry} {V : Int} {p : Nat} {m : Msg} (hn : n ≤ 4) (I : CI n c e V) (hm : MI n c e m) (hp : p < n) (hk : m.kind = 10) (hf : m.frm = p) (h0 : e.phase = 3) (ht : m.turn = e.turn) (hfor : e.forr = p) : CI n c (thanksL e p) V := by
  have h1 := hm.thanks hk p hp hf
  have h2 := I.gs p hp
  have hseen : (c p).seen = e.turn := by omega
  have gr := I.grant h0
  have htk : ∀ q : Nat, q < n → ((c q).want = 1 ∨ (c q).want = 2) → lastF e q < (c q).serial := by
    intro q hq hw
    rcases I.tk q hq hw with h | h
    · exact h
    · have e1 : q = p := by omega
      subst e1
      omega
  unfold thanksL
  by_cases ha : e.alone = true
  · rw [if_pos ha]
    have hz : ∀ q : Nat, q < 4 → hasF 0 q = false := fun q hq => has_zero' hq
    have hl : lastF { e with owner := e.forr, sharers := 0, phase := 0, forr := 0, serial := 0, alone := false } = lastF e := rfl
    have hnc : ∀ q, q < n → (c q).state ≠ 1 := by
      intro q hq hc
      have a := (I.copy q hq hc).2
      have b := (gr.2 q hq)
      have hh := (gr.2 p hp).1.2 ⟨by omega, hseen, ha⟩
      by_cases e1 : q = p
      · subst e1; unfold holds at hh; omega
      · grind
    obtain ⟨nlen, st, wn, lv, w1, w2, gs, sr, ph, ow, fr, sh, nd, shn, os', idle, fetch, clear, need, grant, req, tk, copy, val, valF, valH⟩ := I
    clear fetch clear need tk
    constructor <;> (try assumption)
    all_goals (simp only [hl] at *; grind)
  · rw [if_neg ha]
    obtain ⟨S, hS, s1, s2⟩ := thanks_sets hn I hp
    rw [hS]
    have hl : lastF { e with sharers := S, phase := 0, forr := 0, serial := 0, alone := false } = lastF e := rfl
    have hnh : ∀ q, q < n → ¬ holds (c q) (lastF e q) := fun q hq hh => ha ((gr.2 q hq).1.1 hh).2.2
    obtain ⟨nlen, st, wn, lv, w1, w2, gs, sr, ph, ow, fr, sh, nd, shn, os', idle, fetch, clear, need, grant, req, tk, copy, val, valF, valH⟩ := I
    clear hS fetch clear need tk
    constructor <;> (try assumption)
    all_goals (simp only [hl] at *; grind)
set_option maxHeartbeats 1000000 in
theorem mi_thanksHome {n : Nat} {c : Nat → SLine} {e : SEntry} {V : Int} {p : Nat} {m x : Msg} (hn : n ≤ 4) (I : CI n c e V) (hm : MI n c e m) (hp : p < n) (hk : m.kind = 10) (hf : m.frm = p) (h0 : e.phase = 3) (ht : m.turn = e.turn) (hfor : e.forr = p) (hx : MI n c e x) : MI n c (thanksL e p) x := by
  have h1 := hm.thanks hk p hp hf
  have h2 := I.gs p hp
  have hseen : (c p).seen = e.turn := by omega
  have gr := I.grant h0
  have rq := I.req (by omega) p hp hfor.symm
  have hfo : (thanksL e p).last = e.last ∧ (thanksL e p).phase = 0 ∧ (thanksL e p).turn = e.turn ∧ ((thanksL e p).owner = e.owner ∨ (thanksL e p).owner = p) := by
    unfold thanksL; split <;> simp [hfor]
  obtain ⟨f1, f2, f3, f4⟩ := hfo
  have hl : lastF (thanksL e p) = lastF e := by funext q; unfold lastF; rw [f1]
  have hwn := I.wn p hp
  have hll : lastF e p = e.serial := rq.1
  have hrq : e.serial < (c p).serial ∨ (c p).want = 0 := by
    rcases rq.2 with r | r
    · exact r.2.2
    · omega
  have hsr := I.sr
  obtain ⟨x1, x2, x3, x4, x5, x6, x7, x8, x9⟩ := hx
  have hgr : ∀ q : Nat, q < n → e.forr = q → e.turn ≤ (c q).seen ∧ (e.serial < (c q).serial ∨ (c q).want = 0) := by
    intro q hq e4
    have e5 : q = p := by omega
    subst e5
    exact ⟨by omega, hrq⟩
  generalize thanksL e p = f at *
  constructor
  all_goals first | (simp only [hl, f2, f3] at *; grind) | grind
end Go.Proofs.Ythddhccgmeeljac
