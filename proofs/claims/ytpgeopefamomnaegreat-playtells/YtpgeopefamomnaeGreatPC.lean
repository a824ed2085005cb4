/- Inv Inv1 Inv2 Inv3 Inv4. -/
import Derived.Test.YtpgeopefamomnaeGreatPA
set_option linter.unusedSimpArgs false
set_option linter.unusedSectionVars false
namespace Go.Proofs.YtpgeopefamomnaeGreat
set_option maxRecDepth 100000
set_option linter.unusedVariables false
theorem has_add' {S : Int} (h0 : 0 ≤ S) (h1 : S < 16) {p q : Nat} (hp : p < 4) (hq : q < 4) (h : hasF S p = false) : hasF (S + bitF p) q = (decide (q = p) || hasF S q) ∧ 0 ≤ S + bitF p ∧ S + bitF p < 16 := by
  have hS : S = ((⟨S.toNat, by omega⟩ : Fin 16) : Nat) := by simp; omega
  rw [hS] at h ⊢
  have := has_add ⟨S.toNat, by omega⟩ ⟨p, hp⟩ ⟨q, hq⟩ h
  simpa using this
theorem has_sub' {S : Int} (h0 : 0 ≤ S) (h1 : S < 16) {p q : Nat} (hp : p < 4) (hq : q < 4) (h : hasF S p = true) : hasF (S - bitF p) q = (decide (q ≠ p) && hasF S q) ∧ 0 ≤ S - bitF p ∧ S - bitF p < 16 := by
  have hS : S = ((⟨S.toNat, by omega⟩ : Fin 16) : Nat) := by simp; omega
  rw [hS] at h ⊢
  have := has_sub ⟨S.toNat, by omega⟩ ⟨p, hp⟩ ⟨q, hq⟩ h
  simpa using this
theorem has_none' {S : Int} (h0 : 0 ≤ S) (h1 : S < 16) (h : ∀ q : Nat, q < 4 → hasF S q = false) : S = 0 := by
  have hS : S = ((⟨S.toNat, by omega⟩ : Fin 16) : Nat) := by simp; omega
  have h2 : S.toNat = 0 := has_none ⟨S.toNat, by omega⟩ fun q => by rw [← hS]; exact h q q.isLt
  omega
theorem has_zero' {q : Nat} (hq : q < 4) : hasF 0 q = false := has_zero ⟨q, hq⟩
theorem has_need' {e : SEntry} (h0 : 0 ≤ e.sharers) (h1 : e.sharers < 16) (f0 : 0 ≤ e.forr) (f1 : e.forr < 4) : (0 ≤ needF e ∧ needF e < 16) ∧ ∀ q : Nat, q < 4 → hasF (needF e) q = (e.alone && decide ((q : Int) ≠ e.forr) && hasF e.sharers q) := by
  have hS : e.sharers = ((⟨e.sharers.toNat, by omega⟩ : Fin 16) : Nat) := by simp; omega
  have hF : e.forr = ((⟨e.forr.toNat, by omega⟩ : Fin 4) : Nat) := by simp; omega
  have hN : needF e = needB e.alone ((⟨e.forr.toNat, by omega⟩ : Fin 4) : Nat) ((⟨e.sharers.toNat, by omega⟩ : Fin 16) : Nat) 0 + needB e.alone ((⟨e.forr.toNat, by omega⟩ : Fin 4) : Nat) ((⟨e.sharers.toNat, by omega⟩ : Fin 16) : Nat) 1 + needB e.alone ((⟨e.forr.toNat, by omega⟩ : Fin 4) : Nat) ((⟨e.sharers.toNat, by omega⟩ : Fin 16) : Nat) 2 + needB e.alone ((⟨e.forr.toNat, by omega⟩ : Fin 4) : Nat) ((⟨e.sharers.toNat, by omega⟩ : Fin 16) : Nat) 3 := by
    rw [← hS, ← hF]; rfl
  rw [hN]
  refine ⟨need_lt _ _ _, fun q hq => ?_⟩
  have := has_need e.alone ⟨e.forr.toNat, by omega⟩ ⟨e.sharers.toNat, by omega⟩ ⟨q, hq⟩
  rw [show ((⟨q, hq⟩ : Fin 4) : Nat) = q from rfl] at this
  rw [this, ← hS]
  congr 2
  rw [decide_eq_decide]
  constructor
  · intro h e1; apply h; apply Fin.ext; simp; omega
  · intro h e1; apply h; have e2 : q = e.forr.toNat := congrArg Fin.val e1; omega

/-- p has the line's value: alone, or leaving and not taken back yet. -/
def holds (l : SLine) (last : Int) : Prop := l.state = 2 ∨ (l.state = 3 ∧ last < l.serial)

/-- Cores' lines and the home's entry; V is the line's value. -/
structure CI (n : Nat) (c : Nat → SLine) (e : SEntry) (V : Int) : Prop where
  nlen : e.last.length = n
  st : ∀ p, p < n → 0 ≤ (c p).state ∧ (c p).state ≤ 3
  wn : ∀ p, p < n → 0 ≤ (c p).want ∧ (c p).want ≤ 3
  lv : ∀ p, p < n → ((c p).state = 3 ↔ (c p).want = 3)
  w1 : ∀ p, p < n → (c p).want = 1 → (c p).state = 0
  w2 : ∀ p, p < n → (c p).want = 2 → (c p).state = 0 ∨ (c p).state = 1
  gs : ∀ p, p < n → 0 ≤ (c p).gave ∧ (c p).gave ≤ (c p).seen ∧ (c p).seen ≤ e.turn
  sr : ∀ p, p < n → 0 ≤ lastF e p ∧ lastF e p ≤ (c p).serial
  ph : 0 ≤ e.phase ∧ e.phase ≤ 3
  ow : -1 ≤ e.owner ∧ e.owner < n
  fr : 0 ≤ e.forr ∧ e.forr < n
  sh : 0 ≤ e.sharers ∧ e.sharers < 16
  nd : 0 ≤ e.need ∧ e.need < 16
  shn : ∀ q, n ≤ q → q < 4 → hasF e.sharers q = false
  os : 0 ≤ e.owner → ∀ p, p < 4 → hasF e.sharers p = false
  idle : e.phase = 0 → ∀ p, p < n → (e.owner = p ↔ holds (c p) (lastF e p))
  fetch : e.phase = 1 → 0 ≤ e.owner ∧ e.owner ≠ e.forr ∧ ∀ p, p < n → (holds (c p) (lastF e p) ↔ e.owner = p ∧ (c p).gave ≠ e.turn) ∧ (e.owner = p → (c p).gave ≠ e.turn → (c p).seen < e.turn) ∧ (e.owner = p → (c p).gave = e.turn → e.alone = true → (c p).state ≠ 1)
  clear : e.phase = 2 → e.owner = -1 ∧ e.alone = true ∧ ∀ p, p < n → ¬ holds (c p) (lastF e p) ∧ (hasF e.sharers p = true → hasF e.need p = true ∨ (p : Int) = e.forr) ∧ (hasF e.need p = true → e.turn ≤ (c p).seen → (c p).state ≠ 1)
  need : e.phase = 2 → ∀ p, p < 4 → hasF e.need p = true → p < n ∧ hasF e.sharers p = true ∧ (p : Int) ≠ e.forr
  grant : e.phase = 3 → e.owner = -1 ∧ ∀ p, p < n → (holds (c p) (lastF e p) ↔ (p : Int) = e.forr ∧ (c p).seen = e.turn ∧ e.alone = true) ∧ (e.alone = true → hasF e.sharers p = true → (p : Int) = e.forr)
  req : e.phase ≠ 0 → ∀ p, p < n → (p : Int) = e.forr → lastF e p = e.serial ∧ ((e.phase = 3 ∧ (c p).seen = e.turn ∧ (e.serial < (c p).serial ∨ (c p).want = 0)) ∨ ((c p).seen < e.turn ∧ (c p).serial = e.serial ∧ (c p).want = if e.alone = true then 2 else 1))
  tk : ∀ p, p < n → ((c p).want = 1 ∨ (c p).want = 2) → lastF e p < (c p).serial ∨ (e.phase ≠ 0 ∧ e.forr = p ∧ (c p).serial = e.serial ∧ (c p).seen < e.turn)
  copy : ∀ p, p < n → (c p).state = 1 → (c p).value = V ∧ (hasF e.sharers p = true ∨ (e.phase = 1 ∧ e.owner = p ∧ (c p).gave = e.turn) ∨ (e.phase = 3 ∧ e.forr = p ∧ (c p).seen = e.turn))
  val : ∀ p, p < n → holds (c p) (lastF e p) → (c p).value = V
  valF : e.phase = 1 → ∀ p, p < n → e.owner = p → (c p).gave = e.turn → (c p).given = V
  valH : e.phase ≠ 1 → (∀ p, p < n → ¬ holds (c p) (lastF e p)) → e.value = V

/-- A message that is on the way. -/
structure MI (n : Nat) (c : Nat → SLine) (e : SEntry) (m : Msg) : Prop where
  get : m.kind = 1 ∨ m.kind = 2 → ∀ p, p < n → m.frm = p → m.serial ≤ (c p).serial ∧ (m.serial ≤ lastF e p ∨ (m.serial = (c p).serial ∧ (c p).want = m.kind))
  put : m.kind = 3 → ∀ p, p < n → m.frm = p → m.serial ≤ (c p).serial ∧ (m.serial ≤ lastF e p ∨ (m.serial = (c p).serial ∧ (c p).want = 3 ∧ m.value = (c p).value) ∨ ((m.serial < (c p).serial ∨ (c p).want = 0) ∧ (e.owner ≠ p ∨ (e.phase = 1 ∧ (c p).gave = e.turn)) ∧ (e.phase = 0 ∨ e.forr ≠ p)))
  inv : m.kind = 4 → ∀ p, p < n → m.to = p → m.turn ≤ e.turn ∧ (m.turn ≤ (c p).seen ∨ (m.turn = e.turn ∧ e.phase = 2 ∧ hasF e.need p = true))
  fetch : m.kind = 5 ∨ m.kind = 6 → ∀ p, p < n → m.to = p → m.turn ≤ (c p).seen ∨ (m.turn = e.turn ∧ e.phase = 1 ∧ e.owner = p ∧ (m.kind = 6 ↔ e.alone = true))
  grant : m.kind = 7 → ∀ p, p < n → m.to = p → m.serial ≤ (c p).serial ∧ ((m.turn ≤ (c p).seen ∧ (m.serial < (c p).serial ∨ ((c p).want ≠ 1 ∧ (c p).want ≠ 2))) ∨ (m.turn = e.turn ∧ e.phase = 3 ∧ e.forr = p ∧ m.serial = e.serial ∧ m.value = e.value ∧ m.alone = e.alone))
  gone : m.kind = 8 → ∀ p, p < n → m.frm = p → m.turn ≤ (c p).seen
  data : m.kind = 9 → ∀ p, p < n → m.frm = p → m.turn < (c p).gave ∨ (m.turn = (c p).gave ∧ m.value = (c p).given)
  thanks : m.kind = 10 → ∀ p, p < n → m.frm = p → m.turn ≤ (c p).seen
  taken : m.kind = 11 → ∀ p, p < n → m.to = p → m.serial ≤ lastF e p

def updL (c : Nat → SLine) (p : Nat) (l : SLine) : Nat → SLine := fun q => if q = p then l else c q
theorem upd_at {c : Nat → SLine} {p : Nat} {l : SLine} : updL c p l p = l := if_pos rfl
/-- Where somebody has the line's value nobody else has, and there is no copy. -/
theorem CI.one {n : Nat} {c : Nat → SLine} {e : SEntry} {V : Int} (I : CI n c e V) {p q : Nat} (hp : p < n) (hq : q < n) (h : holds (c p) (lastF e p)) (k : holds (c q) (lastF e q)) : p = q := by
  have hph := I.ph
  rcases (by omega : e.phase = 0 ∨ e.phase = 1 ∨ e.phase = 2 ∨ e.phase = 3) with h0 | h0 | h0 | h0
  · have a := (I.idle h0 p hp).2 h
    have b := (I.idle h0 q hq).2 k
    omega
  · have a := (((I.fetch h0).2.2 p hp).1.1 h).1
    have b := (((I.fetch h0).2.2 q hq).1.1 k).1
    omega
  · exact absurd h ((I.clear h0).2.2 p hp).1
  · have a := (((I.grant h0).2 p hp).1.1 h).1
    have b := (((I.grant h0).2 q hq).1.1 k).1
    omega
end Go.Proofs.YtpgeopefamomnaeGreat

namespace Go.Proofs.YtpgeopefamomnaeGreat
set_option maxRecDepth 100000
set_option linter.unusedVariables false
theorem updL_same {c : Nat → SLine} {p : Nat} : updL c p (c p) = c := by funext q; unfold updL; split <;> simp_all
/-- What a core's line may say of itself at any time. -/
theorem mi_asks {n : Nat} {c : Nat → SLine} {e : SEntry} {V : Int} {p : Nat} {home line : Int} (I : CI n c e V) (hp : p < n) (hw : (c p).want ≠ 0) : MI n c e (asksF (c p) p home line) := by
  have h1 := I.wn p hp
  have h2 := I.lv p hp
  constructor <;> simp only [asksF] <;> grind
/-- The message that a core says. -/
def coreSays (p : Nat) (home line : Int) (x : Int × Int × Int) : Msg := { kind := x.1, frm := p, to := home, line := line, serial := 0, turn := x.2.1, value := x.2.2, alone := false }

set_option maxHeartbeats 1000000 in
/-- MsgInv is heard. -/
theorem ci_inv {n : Nat} {c : Nat → SLine} {e : SEntry} {V : Int} {p : Nat} {w : SOp} {m : Msg} (hn : n ≤ 4) (I : CI n c e V) (hm : MI n c e m) (hp : p < n) (hk : m.kind = 4) (ht : m.to = p) : CI n (updL c p (hearL (c p) w m).1) e V := by
  have h0 := hm.inv hk p hp ht
  by_cases hs : (c p).seen < m.turn
  · have hc : (hearL (c p) w m).1 = if (c p).state = 1 then { c p with seen := m.turn, state := 0, value := 0 } else { c p with seen := m.turn } := by simp [hearL, hk, hs]
    rw [hc]
    obtain ⟨nlen, st, wn, lv, w1, w2, gs, sr, ph, ow, fr, sh, nd, shn, os, idle, fetch, clear, need, grant, req, tk, copy, val, valF, valH⟩ := I
    constructor <;> (try assumption)
    all_goals (simp only [updL, holds] at *; grind)
  · have hc : (hearL (c p) w m).1 = c p := by simp [hearL, hk, hs]
    rw [hc, updL_same]; exact I
set_option maxHeartbeats 1000000 in
theorem mi_inv {n : Nat} {c : Nat → SLine} {e : SEntry} {V : Int} {p : Nat} {w : SOp} {m x : Msg} (I : CI n c e V) (hm : MI n c e m) (hp : p < n) (hk : m.kind = 4) (ht : m.to = p) (hx : MI n c e x) : MI n (updL c p (hearL (c p) w m).1) e x := by
  have h0 := hm.inv hk p hp ht
  by_cases hs : (c p).seen < m.turn
  · have hc : (hearL (c p) w m).1 = if (c p).state = 1 then { c p with seen := m.turn, state := 0, value := 0 } else { c p with seen := m.turn } := by simp [hearL, hk, hs]
    rw [hc]
    have l1 := I.lv p hp
    obtain ⟨h1, h2, h3, h4, h5, h6, h7, h8, h9⟩ := hx
    constructor
    all_goals first | (simp only [updL] at *; grind) | grind
  · have hc : (hearL (c p) w m).1 = c p := by simp [hearL, hk, hs]
    rw [hc, updL_same]; exact hx
theorem mi_gone {n : Nat} {c : Nat → SLine} {e : SEntry} {p : Nat} {w : SOp} {home line : Int} {m : Msg} (hk : m.kind = 4) : MI n (updL c p (hearL (c p) w m).1) e (coreSays p home line (8, m.turn, 0)) := by
  have hc : (hearL (c p) w m).1 = if (c p).seen < m.turn then (if (c p).state = 1 then { c p with seen := m.turn, state := 0, value := 0 } else { c p with seen := m.turn }) else c p := by simp [hearL, hk]
  rw [hc]
  constructor <;> simp only [coreSays, updL] <;> grind

/-- What a line does that is asked for. -/
theorem hear_fetch_again {l : SLine} {w : SOp} {m : Msg} (hk : m.kind = 5 ∨ m.kind = 6) (hg : 0 < m.turn ∧ m.turn = l.gave) : hearL l w m = (l, some (9, l.gave, l.given), none) := by
  rw [hearL, if_neg (by omega), if_pos hk, if_pos hg]
theorem hear_fetch_none {l : SLine} {w : SOp} {m : Msg} (hk : m.kind = 5 ∨ m.kind = 6) (hg : ¬ (0 < m.turn ∧ m.turn = l.gave)) (hs : m.turn ≤ l.seen ∨ (l.state ≠ 2 ∧ l.state ≠ 3)) : hearL l w m = (l, none, none) := by
  rw [hearL, if_neg (by omega), if_pos hk, if_neg hg, if_pos hs]
def givenL (l : SLine) (m : Msg) : SLine :=
  if l.want = 3 then { l with gave := m.turn, seen := m.turn, given := l.value, state := 0, value := 0, want := 0 } else if m.kind = 6 then { l with gave := m.turn, seen := m.turn, given := l.value, state := 0, value := 0 } else { l with gave := m.turn, seen := m.turn, given := l.value, state := 1 }
theorem hear_fetch_given {l : SLine} {w : SOp} {m : Msg} (hk : m.kind = 5 ∨ m.kind = 6) (hg : ¬ (0 < m.turn ∧ m.turn = l.gave)) (hs : ¬ (m.turn ≤ l.seen ∨ (l.state ≠ 2 ∧ l.state ≠ 3))) : hearL l w m = (givenL l m, some (9, m.turn, l.value), if l.want = 3 then some 0 else none) := by
  rw [hearL, if_neg (by omega), if_pos hk, if_neg hg, if_neg hs, givenL]
  split
  · rfl
  · split <;> rfl
set_option maxHeartbeats 1000000 in
/-- MsgFetchS, MsgFetchX: the line is given. -/
theorem ci_given {n : Nat} {c : Nat → SLine} {e : SEntry} {V : Int} {p : Nat} {m : Msg} (hn : n ≤ 4) (I : CI n c e V) (hm : MI n c e m) (hp : p < n) (hk : m.kind = 5 ∨ m.kind = 6) (ht : m.to = p) (hs : ¬ (m.turn ≤ (c p).seen ∨ ((c p).state ≠ 2 ∧ (c p).state ≠ 3))) : CI n (updL c p (givenL (c p) m)) e V := by
  have h0 := hm.fetch hk p hp ht
  have f1 : m.turn = e.turn ∧ e.phase = 1 ∧ e.owner = p ∧ (m.kind = 6 ↔ e.alone = true) := by
    rcases h0 with h | h
    · exact absurd (Or.inl h) hs
    · exact h
  obtain ⟨f1, f2, f3, f4⟩ := f1
  unfold givenL
  obtain ⟨nlen, st, wn, lv, w1, w2, gs, sr, ph, ow, fr, sh, nd, shn, os, idle, fetch, clear, need, grant, req, tk, copy, val, valF, valH⟩ := I
  have f5 := (fetch f2).2.2 p hp
  have f6 := (fetch f2).2.1
  have f7 := os (by omega)
  constructor <;> (try assumption)
  all_goals (simp only [updL, holds] at *; grind)
set_option maxHeartbeats 1000000 in
theorem mi_given {n : Nat} {c : Nat → SLine} {e : SEntry} {V : Int} {p : Nat} {m x : Msg} (hn : n ≤ 4) (I : CI n c e V) (hm : MI n c e m) (hp : p < n) (hk : m.kind = 5 ∨ m.kind = 6) (ht : m.to = p) (hs : ¬ (m.turn ≤ (c p).seen ∨ ((c p).state ≠ 2 ∧ (c p).state ≠ 3))) (hx : MI n c e x) : MI n (updL c p (givenL (c p) m)) e x := by
  have h0 := hm.fetch hk p hp ht
  have f1 : m.turn = e.turn ∧ e.phase = 1 ∧ e.owner = p ∧ (m.kind = 6 ↔ e.alone = true) := by
    rcases h0 with h | h
    · exact absurd (Or.inl h) hs
    · exact h
  obtain ⟨f1, f2, f3, f4⟩ := f1
  unfold givenL
  have l1 := I.lv p hp
  have l2 := I.w1 p hp
  have l3 := I.w2 p hp
  have l4 := I.gs p hp
  have l5 := (I.fetch f2).2.2 p hp
  have l6 := (I.fetch f2).2.1
  obtain ⟨h1, h2, h3, h4, h5, h6, h7, h8, h9⟩ := hx
  constructor
  all_goals (simp only [updL, holds] at *; grind)
theorem mi_data {n : Nat} {c : Nat → SLine} {e : SEntry} {p : Nat} {home line : Int} {m : Msg} : MI n (updL c p (givenL (c p) m)) e (coreSays p home line (9, m.turn, (c p).value)) := by
  unfold givenL
  constructor <;> simp only [coreSays, updL] <;> grind
theorem mi_again {n : Nat} {c : Nat → SLine} {e : SEntry} {p : Nat} {home line : Int} : MI n c e (coreSays p home line (9, (c p).gave, (c p).given)) := by
  constructor <;> simp only [coreSays] <;> grind

/-- MsgGrant. -/
theorem hear_grant_above {l : SLine} {w : SOp} {m : Msg} (hk : m.kind = 7) (h : l.serial < m.serial) : hearL l w m = (l, none, none) := by
  rw [hearL, if_neg (by omega), if_neg (by omega), if_pos hk, if_pos h]
theorem hear_grant_old {l : SLine} {w : SOp} {m : Msg} (hk : m.kind = 7) (h : ¬ l.serial < m.serial) (h2 : m.serial < l.serial ∨ (m.alone = true ∧ l.want ≠ 2) ∨ (m.alone = false ∧ l.want ≠ 1)) : hearL l w m = (l, some (10, m.turn, 0), none) := by
  rw [hearL, if_neg (by omega), if_neg (by omega), if_pos hk, if_neg h, if_pos h2]
def grantedL (l : SLine) (w : SOp) (m : Msg) : SLine := { l with value := (tellF m.value w).1, want := 0, seen := m.turn, state := if m.alone = true then 2 else 1 }
theorem hear_grant_new {l : SLine} {w : SOp} {m : Msg} (hk : m.kind = 7) (h : ¬ l.serial < m.serial) (h2 : ¬ (m.serial < l.serial ∨ (m.alone = true ∧ l.want ≠ 2) ∨ (m.alone = false ∧ l.want ≠ 1))) : hearL l w m = (grantedL l w m, some (10, m.turn, 0), some (tellF m.value w).2) := by
  rw [hearL, if_neg (by omega), if_neg (by omega), if_pos hk, if_neg h, if_neg h2, grantedL]
theorem grant_now {n : Nat} {c : Nat → SLine} {e : SEntry} {V : Int} {p : Nat} {m : Msg} (I : CI n c e V) (hm : MI n c e m) (hp : p < n) (hk : m.kind = 7) (ht : m.to = p) (h : ¬ (c p).serial < m.serial) (h2 : ¬ (m.serial < (c p).serial ∨ (m.alone = true ∧ (c p).want ≠ 2) ∨ (m.alone = false ∧ (c p).want ≠ 1))) :
    m.turn = e.turn ∧ e.phase = 3 ∧ e.forr = p ∧ m.serial = e.serial ∧ m.value = e.value ∧ m.alone = e.alone ∧ (c p).seen < e.turn ∧ e.value = V ∧ m.serial = (c p).serial ∧ (c p).want = (if m.alone = true then 2 else 1) := by
  have h0 := hm.grant hk p hp ht
  have w := I.wn p hp
  have hw : (c p).want = (if m.alone = true then 2 else 1) := by cases ha : m.alone <;> simp_all
  have f : m.turn = e.turn ∧ e.phase = 3 ∧ e.forr = p ∧ m.serial = e.serial ∧ m.value = e.value ∧ m.alone = e.alone := by
    rcases h0.2 with h3 | h3
    · exfalso
      cases ha : m.alone <;> simp_all <;> omega
    · exact h3
  obtain ⟨f1, f2, f3, f4, f5, f6⟩ := f
  have r := I.req (by omega) p hp f3.symm
  have hseen : (c p).seen < e.turn := by
    rcases r.2 with r2 | r2
    · exfalso
      cases ha : m.alone <;> simp_all <;> omega
    · exact r2.1
  refine ⟨f1, f2, f3, f4, f5, f6, hseen, I.valH (by omega) fun q hq hh => ?_, by omega, hw⟩
  have := ((I.grant f2).2 q hq).1.1 hh
  have e1 : q = p := by omega
  subst e1
  omega
set_option maxHeartbeats 1000000 in
theorem ci_granted {n : Nat} {c : Nat → SLine} {e : SEntry} {V : Int} {p : Nat} {w : SOp} {m : Msg} (hn : n ≤ 4) (I : CI n c e V) (hm : MI n c e m) (hp : p < n) (hk : m.kind = 7) (ht : m.to = p) (hw : (c p).want = 1 → w.kind = 1) (h : ¬ (c p).serial < m.serial) (h2 : ¬ (m.serial < (c p).serial ∨ (m.alone = true ∧ (c p).want ≠ 2) ∨ (m.alone = false ∧ (c p).want ≠ 1))) : CI n (updL c p (grantedL (c p) w m)) e (tellF V w).1 := by
  obtain ⟨f1, f2, f3, f4, f5, f6, f7, f8, f9, f10⟩ := grant_now I hm hp hk ht h h2
  have hv : m.value = V := by omega
  have hT : m.alone = false → (tellF V w).1 = V := by
    intro ha
    have : w.kind = 1 := hw (by rw [f10, ha]; rfl)
    simp [tellF, this]
  unfold grantedL
  rw [hv]
  generalize (tellF V w).1 = V' at *
  obtain ⟨nlen, st, wn, lv, w1, w2, gs, sr, ph, ow, fr, sh, nd, shn, os, idle, fetch, clear, need, grant, req, tk, copy, val, valF, valH⟩ := I
  have g1 := (grant f2).1
  have g2 := (grant f2).2
  have r := req (by omega) p hp f3.symm
  constructor <;> (try assumption)
  all_goals (simp only [updL, holds] at *; grind)
set_option maxHeartbeats 1000000 in
theorem mi_granted {n : Nat} {c : Nat → SLine} {e : SEntry} {V : Int} {p : Nat} {w : SOp} {m x : Msg} (I : CI n c e V) (hm : MI n c e m) (hp : p < n) (hk : m.kind = 7) (ht : m.to = p) (h : ¬ (c p).serial < m.serial) (h2 : ¬ (m.serial < (c p).serial ∨ (m.alone = true ∧ (c p).want ≠ 2) ∨ (m.alone = false ∧ (c p).want ≠ 1))) (hx : MI n c e x) : MI n (updL c p (grantedL (c p) w m)) e x := by
  obtain ⟨f1, f2, f3, f4, f5, f6, f7, f8, f9, f10⟩ := grant_now I hm hp hk ht h h2
  have r := I.req (by omega) p hp f3.symm
  have l1 := I.gs p hp
  unfold grantedL
  obtain ⟨h1, h2, h3, h4, h5, h6, h7, h8, h9⟩ := hx
  constructor
  all_goals first | (simp only [updL] at *; grind) | grind
theorem mi_thanks_new {n : Nat} {c : Nat → SLine} {e : SEntry} {p : Nat} {w : SOp} {home line : Int} {m : Msg} : MI n (updL c p (grantedL (c p) w m)) e (coreSays p home line (10, m.turn, 0)) := by
  unfold grantedL
  constructor <;> simp only [coreSays, updL] <;> grind
theorem mi_thanks_old {n : Nat} {c : Nat → SLine} {e : SEntry} {V : Int} {p : Nat} {home line : Int} {m : Msg} (I : CI n c e V) (hm : MI n c e m) (hp : p < n) (hk : m.kind = 7) (ht : m.to = p) (h2 : m.serial < (c p).serial ∨ (m.alone = true ∧ (c p).want ≠ 2) ∨ (m.alone = false ∧ (c p).want ≠ 1)) : MI n c e (coreSays p home line (10, m.turn, 0)) := by
  have h0 := hm.grant hk p hp ht
  have r := fun (h : e.phase = 3) (h' : e.forr = p) => I.req (by omega) p hp h'.symm
  constructor <;> simp only [coreSays] <;> grind

/-- MsgTaken. -/
theorem hear_taken {l : SLine} {w : SOp} {m : Msg} (hk : m.kind = 11) (h : l.want = 3 ∧ m.serial = l.serial) : hearL l w m = ({ l with state := 0, value := 0, want := 0 }, none, some 0) := by
  rw [hearL, if_neg (by omega), if_neg (by omega), if_neg (by omega), if_pos hk, if_pos h]
theorem hear_taken_none {l : SLine} {w : SOp} {m : Msg} (hk : m.kind = 11) (h : ¬ (l.want = 3 ∧ m.serial = l.serial)) : hearL l w m = (l, none, none) := by
  rw [hearL, if_neg (by omega), if_neg (by omega), if_neg (by omega), if_pos hk, if_neg h]
set_option maxHeartbeats 1000000 in
theorem ci_taken {n : Nat} {c : Nat → SLine} {e : SEntry} {V : Int} {p : Nat} {m : Msg} (hn : n ≤ 4) (I : CI n c e V) (hm : MI n c e m) (hp : p < n) (hk : m.kind = 11) (ht : m.to = p) (h : (c p).want = 3 ∧ m.serial = (c p).serial) : CI n (updL c p { c p with state := 0, value := 0, want := 0 }) e V := by
  have h0 := hm.taken hk p hp ht
  obtain ⟨nlen, st, wn, lv, w1, w2, gs, sr, ph, ow, fr, sh, nd, shn, os, idle, fetch, clear, need, grant, req, tk, copy, val, valF, valH⟩ := I
  constructor <;> (try assumption)
  all_goals (simp only [updL, holds] at *; grind)
set_option maxHeartbeats 1000000 in
theorem mi_taken {n : Nat} {c : Nat → SLine} {e : SEntry} {V : Int} {p : Nat} {m x : Msg} (I : CI n c e V) (hm : MI n c e m) (hp : p < n) (hk : m.kind = 11) (ht : m.to = p) (h : (c p).want = 3 ∧ m.serial = (c p).serial) (hx : MI n c e x) : MI n (updL c p { c p with state := 0, value := 0, want := 0 }) e x := by
  have h0 := hm.taken hk p hp ht
  obtain ⟨h1, h2, h3, h4, h5, h6, h7, h8, h9⟩ := hx
  constructor
  all_goals first | (simp only [updL] at *; grind) | grind
theorem hear_other {l : SLine} {w : SOp} {m : Msg} (h4 : m.kind ≠ 4) (h5 : m.kind ≠ 5) (h6 : m.kind ≠ 6) (h7 : m.kind ≠ 7) (h11 : m.kind ≠ 11) : hearL l w m = (l, none, none) := by
  rw [hearL, if_neg h4, if_neg (by omega), if_neg h7, if_neg h11]
end Go.Proofs.YtpgeopefamomnaeGreat

namespace Go.Proofs.YtpgeopefamomnaeGreat
set_option maxRecDepth 100000
set_option linter.unusedVariables false
/-- What begins and is done at once. -/
theorem begin_done {l : SLine} {o : SOp} (hk : 1 ≤ o.kind ∧ o.kind ≤ 4) (h : (beginL l o).2.1 = 0) :
    (o.kind = 4 ∧ l.state ≠ 2 ∧ beginL l o = ({ l with state := 0, value := 0 }, 0, 0)) ∨ (o.kind = 1 ∧ (l.state = 1 ∨ l.state = 2) ∧ beginL l o = (l, 0, l.value)) ∨ ((o.kind = 2 ∨ o.kind = 3) ∧ l.state = 2 ∧ beginL l o = ({ l with value := (tellF l.value o).1 }, 0, (tellF l.value o).2)) := by
  unfold beginL at h ⊢
  by_cases h4 : o.kind = 4
  · by_cases hs : l.state = 2
    · simp [h4, hs] at h
    · simp [h4, hs]
  · by_cases h1 : o.kind = 1
    · by_cases hs : l.state = 1 ∨ l.state = 2
      · simp [h1, hs]
      · simp [h1, hs] at h
    · by_cases hs : l.state = 2
      · simp [h4, h1, hs]; omega
      · simp [h4, h1, hs] at h
/-- What begins and waits. -/
theorem begin_wants {l : SLine} {o : SOp} (hk : 1 ≤ o.kind ∧ o.kind ≤ 4) (h : (beginL l o).2.1 ≠ 0) :
    (o.kind = 4 ∧ l.state = 2 ∧ beginL l o = ({ l with state := 3, want := 3, serial := l.serial + 1 }, 3, 0)) ∨ (o.kind = 1 ∧ l.state ≠ 1 ∧ l.state ≠ 2 ∧ beginL l o = ({ l with want := 1, serial := l.serial + 1 }, 1, 0)) ∨ ((o.kind = 2 ∨ o.kind = 3) ∧ l.state ≠ 2 ∧ beginL l o = ({ l with want := 2, serial := l.serial + 1 }, 2, 0)) := by
  unfold beginL at h ⊢
  by_cases h4 : o.kind = 4
  · by_cases hs : l.state = 2
    · simp [h4, hs]
    · simp [h4, hs] at h
  · by_cases h1 : o.kind = 1
    · by_cases hs : l.state = 1 ∨ l.state = 2
      · simp [h1, hs] at h
      · simp [h1, hs]; omega
    · by_cases hs : l.state = 2
      · simp [h4, h1, hs] at h
      · simp [h4, h1, hs]; omega
/-- Where somebody has the line's value there is no copy. -/
theorem CI.nocopy {n : Nat} {c : Nat → SLine} {e : SEntry} {V : Int} (hn : n ≤ 4) (I : CI n c e V) {p q : Nat} (hp : p < n) (hq : q < n) (h : (c p).state = 2) : (c q).state ≠ 1 := by
  intro hc
  have hh : holds (c p) (lastF e p) := .inl h
  have hph := I.ph
  have hcp := (I.copy q hq hc).2
  have hne : q ≠ p := by intro e; subst e; omega
  rcases (by omega : e.phase = 0 ∨ e.phase = 1 ∨ e.phase = 2 ∨ e.phase = 3) with h0 | h0 | h0 | h0
  · have a := (I.idle h0 p hp).2 hh
    have b := I.os (by omega) q (by omega)
    grind
  · have a := ((I.fetch h0).2.2 p hp).1.1 hh
    have b := I.os (by omega) q (by omega)
    grind
  · exact absurd hh ((I.clear h0).2.2 p hp).1
  · have a := ((I.grant h0).2 p hp).1.1 hh
    have b := ((I.grant h0).2 q hq).2
    grind
set_option maxHeartbeats 1000000 in
theorem ci_done {n : Nat} {c : Nat → SLine} {e : SEntry} {V : Int} {p : Nat} {o : SOp} (hn : n ≤ 4) (I : CI n c e V) (hp : p < n) (hw : (c p).want = 0) (hk : 1 ≤ o.kind ∧ o.kind ≤ 4) (h : (beginL (c p) o).2.1 = 0) : CI n (updL c p (beginL (c p) o).1) e (tellF V o).1 ∧ (beginL (c p) o).2.2 = (tellF V o).2 := by
  rcases begin_done hk h with ⟨h1, h2, h3⟩ | ⟨h1, h2, h3⟩ | ⟨h1, h2, h3⟩
  · rw [h3]
    have hT : tellF V o = (V, 0) := by simp [tellF, h1]
    rw [hT]
    refine ⟨?_, rfl⟩
    obtain ⟨nlen, st, wn, lv, w1, w2, gs, sr, ph, ow, fr, sh, nd, shn, os, idle, fetch, clear, need, grant, req, tk, copy, val, valF, valH⟩ := I
    constructor <;> (try assumption)
    all_goals (simp only [updL, holds] at *; grind)
  · rw [h3, updL_same]
    have hT : tellF V o = (V, V) := by simp [tellF, h1]
    rw [hT]
    refine ⟨I, ?_⟩
    rcases h2 with h2 | h2
    · exact (I.copy p hp h2).1
    · exact I.val p hp (.inl h2)
  · rw [h3]
    have hV : (c p).value = V := I.val p hp (.inl h2)
    rw [hV]
    refine ⟨?_, rfl⟩
    generalize (tellF V o).1 = V'
    have hno := fun q hq => I.nocopy hn hp (q := q) hq h2
    have hone := fun q hq => I.one hp (q := q) hq (.inl h2)
    have hgv : e.phase = 1 → e.owner = p ∧ (c p).gave ≠ e.turn := fun h0 => ((I.fetch h0).2.2 p hp).1.1 (.inl h2)
    obtain ⟨nlen, st, wn, lv, w1, w2, gs, sr, ph, ow, fr, sh, nd, shn, os, idle, fetch, clear, need, grant, req, tk, copy, val, valF, valH⟩ := I
    constructor <;> (try assumption)
    all_goals (simp only [updL, holds] at *; grind)
set_option maxHeartbeats 1000000 in
theorem mi_done {n : Nat} {c : Nat → SLine} {e : SEntry} {V : Int} {p : Nat} {o : SOp} {x : Msg} (I : CI n c e V) (hp : p < n) (hw : (c p).want = 0) (hk : 1 ≤ o.kind ∧ o.kind ≤ 4) (h : (beginL (c p) o).2.1 = 0) (hx : MI n c e x) : MI n (updL c p (beginL (c p) o).1) e x := by
  obtain ⟨h1, h2, h3, h4, h5, h6, h7, h8, h9⟩ := hx
  rcases begin_done hk h with ⟨k1, k2, k3⟩ | ⟨k1, k2, k3⟩ | ⟨k1, k2, k3⟩
  · rw [k3]
    constructor
    all_goals first | (simp only [updL] at *; grind) | grind
  · rw [k3, updL_same]
    exact ⟨h1, h2, h3, h4, h5, h6, h7, h8, h9⟩
  · rw [k3]
    constructor
    all_goals first | (simp only [updL] at *; grind) | grind
set_option maxHeartbeats 1000000 in
theorem ci_wants {n : Nat} {c : Nat → SLine} {e : SEntry} {V : Int} {p : Nat} {o : SOp} (hn : n ≤ 4) (I : CI n c e V) (hp : p < n) (hw : (c p).want = 0) (hk : 1 ≤ o.kind ∧ o.kind ≤ 4) (h : (beginL (c p) o).2.1 ≠ 0) : CI n (updL c p (beginL (c p) o).1) e V := by
  obtain ⟨nlen, st, wn, lv, w1, w2, gs, sr, ph, ow, fr, sh, nd, shn, os, idle, fetch, clear, need, grant, req, tk, copy, val, valF, valH⟩ := I
  rcases begin_wants hk h with ⟨h1, h2, h3⟩ | ⟨h1, h2, h4, h3⟩ | ⟨h1, h2, h3⟩
  all_goals
    rw [h3]
    constructor <;> (try assumption)
    all_goals (simp only [updL, holds] at *; grind)
set_option maxHeartbeats 1000000 in
theorem mi_wants {n : Nat} {c : Nat → SLine} {e : SEntry} {V : Int} {p : Nat} {o : SOp} {x : Msg} (I : CI n c e V) (hp : p < n) (hw : (c p).want = 0) (hk : 1 ≤ o.kind ∧ o.kind ≤ 4) (h : (beginL (c p) o).2.1 ≠ 0) (hx : MI n c e x) : MI n (updL c p (beginL (c p) o).1) e x := by
  obtain ⟨h1, h2, h3, h4, h5, h6, h7, h8, h9⟩ := hx
  have g1 := I.gs p hp
  have g2 := fun h0 => (I.fetch h0).2.2 p hp
  have g3 := fun h0 => I.idle h0 p hp
  have g4 := fun h0 => (I.grant h0).2 p hp
  have g5 := I.sr p hp
  have g6 := I.lv p hp
  rcases begin_wants hk h with ⟨k1, k2, k3⟩ | ⟨k1, k2, k4, k3⟩ | ⟨k1, k2, k3⟩
  all_goals
    rw [k3]
    constructor
    all_goals first | (simp only [updL, holds] at *; grind) | grind
/-- What begins, and what wants then: 1 for a load, 2 for a store or an add, 3 for what is given back. -/
theorem begin_kind {l : SLine} {o : SOp} (hk : 1 ≤ o.kind ∧ o.kind ≤ 4) (h : (beginL l o).2.1 ≠ 0) : (beginL l o).1.want = (beginL l o).2.1 ∧ (beginL l o).1.serial = l.serial + 1 ∧ ((beginL l o).2.1 = 1 ↔ o.kind = 1) ∧ ((beginL l o).2.1 = 3 ↔ o.kind = 4) := by
  rcases begin_wants hk h with ⟨k1, k2, k3⟩ | ⟨k1, k2, k4, k3⟩ | ⟨k1, k2, k3⟩ <;> rw [k3] <;> simp <;> omega
end Go.Proofs.YtpgeopefamomnaeGreat

namespace Go.Proofs.YtpgeopefamomnaeGreat
set_option maxRecDepth 100000
set_option linter.unusedVariables false
theorem getD_set {l : List Int} {p : Nat} {s : Int} (h : p < l.length) (q : Nat) : (l.set p s).getD q 0 = if q = p then s else l.getD q 0 := by
  by_cases e : q = p
  · subst e; simp [List.getD, h]
  · simp [List.getD, List.getElem?_set_ne (Ne.symm e), e]
/-- What the home says in its phase. -/
theorem mi_says {n : Nat} {c : Nat → SLine} {e : SEntry} {V : Int} {line id : Int} {x : Msg} (I : CI n c e V) (hx : x ∈ saysF e line id) : MI n c e x := by
  unfold saysF at hx
  by_cases h1 : e.phase = 1
  · rw [if_pos h1] at hx
    simp only [List.mem_singleton] at hx
    subst hx
    constructor <;> simp only [saysTo] <;> grind
  · rw [if_neg h1] at hx
    by_cases h2 : e.phase = 2
    · rw [if_pos h2] at hx
      simp only [List.mem_map, List.mem_filter] at hx
      obtain ⟨p, ⟨_, hp⟩, rfl⟩ := hx
      constructor <;> simp only [saysTo] <;> grind
    · rw [if_neg h2] at hx
      by_cases h3 : e.phase = 3
      · rw [if_pos h3] at hx
        simp only [List.mem_singleton] at hx
        subst hx
        have r := I.req (by omega)
        have s := I.sr
        constructor <;> simp <;> grind
      · rw [if_neg h3] at hx
        simp at hx

/-- An asking is taken up: the entry ahead of its phase. -/
def takeUp (e : SEntry) (p : Nat) (m : Msg) : SEntry := { e with last := e.last.set p m.serial, forr := p, serial := m.serial, alone := decide (m.kind = 2), turn := e.turn + 1 }
set_option maxHeartbeats 2000000 in
theorem ci_takeUp {n : Nat} {c : Nat → SLine} {e : SEntry} {V : Int} {p : Nat} {m : Msg} (hn : n ≤ 4) (I : CI n c e V) (hm : MI n c e m) (hp : p < n) (hk : m.kind = 1 ∨ m.kind = 2) (hf : m.frm = p) (h0 : e.phase = 0) (hs : lastF e p < m.serial) : CI n c (nextF (takeUp e p m)) V := by
  have h1 := hm.get hk p hp hf
  have h2 : m.serial = (c p).serial ∧ (c p).want = m.kind := by omega
  obtain ⟨h3, h4⟩ := h2
  have hst : (c p).state = 0 ∨ (c p).state = 1 := by have a := I.w1 p hp; have b := I.w2 p hp; omega
  have hnh : ¬ holds (c p) (lastF e p) := by unfold holds; omega
  have hop : e.owner ≠ p := fun h => hnh ((I.idle h0 p hp).1 h)
  have hlast : ∀ q, (e.last.set p m.serial).getD q 0 = if q = p then m.serial else e.last.getD q 0 := getD_set (by rw [I.nlen]; exact hp)
  have hll : (e.last.set p m.serial).length = n := by rw [List.length_set]; exact I.nlen
  have hsr : ∀ q, q < n → 0 ≤ (e.last.set p m.serial).getD q 0 ∧ (e.last.set p m.serial).getD q 0 ≤ (c q).serial := by
    intro q hq
    have := I.sr q hq
    unfold lastF at this hs
    rw [hlast q]
    have := I.sr p hp
    unfold lastF at this
    split
    · rename_i e; subst e; omega
    · assumption
  have hho : ∀ q, q < n → (holds (c q) ((e.last.set p m.serial).getD q 0) ↔ holds (c q) (lastF e q)) := by
    intro q hq
    rw [hlast q]
    split
    · rename_i e; subst e; unfold holds; constructor <;> intro h <;> omega
    · rfl
  have hlp : (e.last.set p m.serial).getD p 0 = m.serial := by rw [hlast p, if_pos rfl]
  have hreq : ∀ q : Nat, q < n → (q : Int) = p → (e.last.set p m.serial).getD q 0 = m.serial ∧ (c q).seen < e.turn + 1 ∧ (c q).serial = m.serial ∧ (c q).want = if decide (m.kind = 2) = true then 2 else 1 := by
    intro q hq e1
    have e2 : q = p := by omega
    subst e2
    have := I.gs q hq
    refine ⟨hlp, by omega, by omega, ?_⟩
    rcases hk with hk | hk <;> simp [hk, h4]
  have htk : ∀ q : Nat, q < n → ((c q).want = 1 ∨ (c q).want = 2) → (e.last.set p m.serial).getD q 0 < (c q).serial ∨ ((p : Int) = q ∧ (c q).serial = m.serial ∧ (c q).seen < e.turn + 1) := by
    intro q hq hw
    by_cases e1 : q = p
    · subst e1
      have := I.gs q hq
      exact .inr ⟨rfl, h3.symm, by omega⟩
    · rw [hlast q, if_neg e1]
      rcases I.tk q hq hw with h | h
      · exact .inl h
      · exact absurd h0 h.1
  have hnd := has_need' (e := takeUp e p m) I.sh.1 I.sh.2 (by simp [takeUp]) (by simp [takeUp]; omega)
  have hnz := fun (h : ∀ q : Nat, q < 4 → hasF (needF (takeUp e p m)) q = false) => has_none' hnd.1.1 hnd.1.2 h
  have hz := fun (h : needF (takeUp e p m) = 0) (q : Nat) (hq : q < 4) => (by rw [h]; exact has_zero' hq : hasF (needF (takeUp e p m)) q = false)
  obtain ⟨nlen, st, wn, lv, w1, w2, gs, sr, ph, ow, fr, sh, nd, shn, os, idle, fetch, clear, need, grant, req, tk, copy, val, valF, valH⟩ := I
  have idle' := idle h0
  clear tk
  unfold nextF
  by_cases ho : 0 ≤ e.owner
  · have ho' : 0 ≤ (takeUp e p m).owner := ho
    rw [if_pos ho']
    clear hnd hnz hz fetch clear need grant req
    constructor
    all_goals (simp only [takeUp, lastF, holds] at *; grind)
  · have ho' : ¬ 0 ≤ (takeUp e p m).owner := ho
    rw [if_neg ho']
    have hz1 : e.owner = -1 := by omega
    generalize hN : needF (takeUp e p m) = N at *
    obtain ⟨hnd1, hnd2⟩ := hnd
    clear fetch clear need grant req
    by_cases hN0 : N = 0
    · have hz' := hz hN0
      rw [if_pos hN0]
      clear hz hnz
      constructor
      all_goals (simp only [takeUp, lastF, holds] at *; grind)
    · rw [if_neg hN0]
      clear hz
      constructor
      all_goals (simp only [takeUp, lastF, holds] at *; grind)
set_option maxHeartbeats 1000000 in
theorem mi_takeUp {n : Nat} {c : Nat → SLine} {e : SEntry} {V : Int} {p : Nat} {m x : Msg} (hn : n ≤ 4) (I : CI n c e V) (hm : MI n c e m) (hp : p < n) (hk : m.kind = 1 ∨ m.kind = 2) (hf : m.frm = p) (h0 : e.phase = 0) (hs : lastF e p < m.serial) (hx : MI n c e x) : MI n c (nextF (takeUp e p m)) x := by
  have h1 := hm.get hk p hp hf
  have h2 : m.serial = (c p).serial ∧ (c p).want = m.kind := by omega
  obtain ⟨h3, h4⟩ := h2
  have hlast : ∀ q, (e.last.set p m.serial).getD q 0 = if q = p then m.serial else e.last.getD q 0 := getD_set (by rw [I.nlen]; exact hp)
  have g := I.gs
  have hm1 : ∀ q, q < n → e.last.getD q 0 ≤ (e.last.set p m.serial).getD q 0 := by
    intro q hq
    rw [hlast q]
    unfold lastF at hs
    split
    · rename_i e; subst e; omega
    · omega
  clear hlast
  obtain ⟨x1, x2, x3, x4, x5, x6, x7, x8, x9⟩ := hx
  have hl : (nextF (takeUp e p m)).last = e.last.set p m.serial ∧ (nextF (takeUp e p m)).owner = e.owner ∧ (nextF (takeUp e p m)).turn = e.turn + 1 ∧ (nextF (takeUp e p m)).forr = p := by
    unfold nextF; split <;> simp [takeUp]
  obtain ⟨l1, l2, l3, l4⟩ := hl
  have hlp : ∀ q : Nat, q < n → (q : Int) = p → (c q).serial ≤ (e.last.set p m.serial).getD q 0 := by
    intro q hq e1
    have e2 : q = p := by omega
    subst e2
    rw [getD_set (by rw [I.nlen]; exact hp), if_pos rfl]
    omega
  generalize nextF (takeUp e p m) = f at *
  constructor
  all_goals (simp only [lastF, l1, l2, l3, l4] at *; grind)
/-- MsgPut. -/
def putL (e : SEntry) (p : Nat) (m : Msg) : SEntry := if lastF e p < m.serial then (if e.owner = p then { e with last := e.last.set p m.serial, value := m.value, owner := -1 } else { e with last := e.last.set p m.serial }) else e
set_option maxHeartbeats 2000000 in
theorem ci_put {n : Nat} {c : Nat → SLine} {e : SEntry} {V : Int} {p : Nat} {m : Msg} (hn : n ≤ 4) (I : CI n c e V) (hm : MI n c e m) (hp : p < n) (hk : m.kind = 3) (hf : m.frm = p) (h0 : e.phase = 0) : CI n c (putL e p m) V := by
  unfold putL
  by_cases hs : lastF e p < m.serial
  · rw [if_pos hs]
    have h1 := hm.put hk p hp hf
    have hlast : ∀ q, (e.last.set p m.serial).getD q 0 = if q = p then m.serial else e.last.getD q 0 := getD_set (by rw [I.nlen]; exact hp)
    have hll : (e.last.set p m.serial).length = n := by rw [List.length_set]; exact I.nlen
    have hlp : (e.last.set p m.serial).getD p 0 = m.serial := by rw [hlast p, if_pos rfl]
    have hlo : ∀ q, q ≠ p → (e.last.set p m.serial).getD q 0 = e.last.getD q 0 := fun q hq => by rw [hlast q, if_neg hq]
    have hid := I.idle h0
    have hsr : ∀ q, q < n → 0 ≤ (e.last.set p m.serial).getD q 0 ∧ (e.last.set p m.serial).getD q 0 ≤ (c q).serial := by
      intro q hq
      have := I.sr q hq
      unfold lastF at this hs
      by_cases e1 : q = p
      · subst e1; rw [hlp]; omega
      · rw [hlo q e1]; exact this
    have htk : ∀ q : Nat, q < n → ((c q).want = 1 ∨ (c q).want = 2) → (e.last.set p m.serial).getD q 0 < (c q).serial := by
      intro q hq hw
      have k := I.tk q hq hw
      by_cases e1 : q = p
      · subst e1
        rw [hlp]
        rcases h1.2 with h2 | h2 | h2
        · omega
        · omega
        · omega
      · rw [hlo q e1]
        rcases k with h | h
        · exact h
        · exact absurd h0 h.1
    by_cases ho : e.owner = p
    · rw [if_pos ho]
      have hh := (hid p hp).1 ho
      have hst := I.lv p hp
      have h2 : m.serial = (c p).serial ∧ (c p).want = 3 ∧ m.value = (c p).value := by
        rcases h1.2 with h2 | h2 | h2
        · omega
        · exact h2
        · omega
      obtain ⟨h3, h4, h5⟩ := h2
      have hV := I.val p hp hh
      have hho : ∀ q, q < n → ¬ holds (c q) ((e.last.set p m.serial).getD q 0) := by
        intro q hq hc
        by_cases e1 : q = p
        · subst e1; rw [hlp] at hc; unfold holds at hc; omega
        · rw [hlo q e1] at hc; have := (hid q hq).2 hc; omega
      clear hlast hid
      obtain ⟨nlen, st, wn, lv, w1, w2, gs, sr, ph, ow, fr, sh, nd, shn, os, idle, fetch, clear, need, grant, req, tk, copy, val, valF, valH⟩ := I
      clear tk
      constructor <;> (try assumption)
      all_goals (simp only [lastF] at *; grind)
    · rw [if_neg ho]
      have hnh : ¬ holds (c p) (lastF e p) := fun h => ho ((hid p hp).2 h)
      have hho : ∀ q, q < n → (holds (c q) ((e.last.set p m.serial).getD q 0) ↔ holds (c q) (lastF e q)) := by
        intro q hq
        by_cases e1 : q = p
        · subst e1; rw [hlp]; unfold holds at hnh ⊢; constructor <;> intro h <;> omega
        · rw [hlo q e1]; rfl
      clear hlast
      obtain ⟨nlen, st, wn, lv, w1, w2, gs, sr, ph, ow, fr, sh, nd, shn, os, idle, fetch, clear, need, grant, req, tk, copy, val, valF, valH⟩ := I
      clear tk
      constructor <;> (try assumption)
      all_goals (simp only [lastF] at *; grind)
  · rw [if_neg hs]; exact I
set_option maxHeartbeats 1000000 in
theorem mi_put {n : Nat} {c : Nat → SLine} {e : SEntry} {V : Int} {p : Nat} {m x : Msg} (I : CI n c e V) (hp : p < n) (h0 : e.phase = 0) (hx : MI n c e x) : MI n c (putL e p m) x := by
  unfold putL
  by_cases hs : lastF e p < m.serial
  · rw [if_pos hs]
    have hlast : ∀ q, (e.last.set p m.serial).getD q 0 = if q = p then m.serial else e.last.getD q 0 := getD_set (by rw [I.nlen]; exact hp)
    have hm1 : ∀ q, q < n → e.last.getD q 0 ≤ (e.last.set p m.serial).getD q 0 := by
      intro q hq
      rw [hlast q]
      unfold lastF at hs
      split
      · rename_i e; subst e; omega
      · omega
    have ow := I.ow
    obtain ⟨x1, x2, x3, x4, x5, x6, x7, x8, x9⟩ := hx
    clear hlast
    by_cases ho : e.owner = p
    · rw [if_pos ho]
      constructor
      all_goals (simp only [lastF] at *; grind)
    · rw [if_neg ho]
      constructor
      all_goals (simp only [lastF] at *; grind)
  · rw [if_neg hs]; exact hx
theorem mi_takenSay {n : Nat} {c : Nat → SLine} {e : SEntry} {V : Int} {p : Nat} {m : Msg} {line id : Int} (I : CI n c e V) (hp : p < n) : MI n c (putL e p m) { kind := 11, frm := id, to := p, line := line, serial := m.serial, turn := 0, value := 0, alone := false } := by
  have hle : m.serial ≤ lastF (putL e p m) p := by
    unfold putL
    by_cases hs : lastF e p < m.serial
    · rw [if_pos hs]
      have hlp : (e.last.set p m.serial).getD p 0 = m.serial := by rw [getD_set (by rw [I.nlen]; exact hp), if_pos rfl]
      split <;> simp only [lastF, hlp] <;> omega
    · rw [if_neg hs]; omega
  constructor <;> simp
  intro q hq e1
  have : q = p := by omega
  subst this
  exact hle
end Go.Proofs.YtpgeopefamomnaeGreat

namespace Go.Proofs.YtpgeopefamomnaeGreat
set_option maxRecDepth 100000
set_option linter.unusedVariables false
/-- MsgData comes: the entry ahead of its phase. -/
def dataL (e : SEntry) (p : Nat) (m : Msg) : SEntry := { e with sharers := if e.alone = false ∧ hasF e.sharers p = false then e.sharers + bitF p else e.sharers, value := m.value, owner := -1 }
theorem data_next {n : Nat} {c : Nat → SLine} {e : SEntry} {V : Int} {p : Nat} {m : Msg} (hn : n ≤ 4) (I : CI n c e V) (hp : p < n) (h0 : e.phase = 1) (ho : e.owner = p) : nextF (dataL e p m) = { dataL e p m with need := 0, phase := 3 } ∧ (0 ≤ (dataL e p m).sharers ∧ (dataL e p m).sharers < 16) ∧ ∀ q : Nat, q < 4 → hasF (dataL e p m).sharers q = (decide (q = p) && !e.alone) := by
  have os := I.os (by omega)
  have hz := os p (by omega)
  have hsh : (0 ≤ (dataL e p m).sharers ∧ (dataL e p m).sharers < 16) ∧ ∀ q : Nat, q < 4 → hasF (dataL e p m).sharers q = (decide (q = p) && !e.alone) := by
    cases ha : e.alone
    · have hs : (dataL e p m).sharers = e.sharers + bitF p := by simp [dataL, ha, hz]
      rw [hs]
      refine ⟨(has_add' I.sh.1 I.sh.2 (by omega) (by omega : p < 4) hz).2, fun q hq => ?_⟩
      rw [(has_add' I.sh.1 I.sh.2 (by omega) hq hz).1, os q hq]
      simp
    · have hs : (dataL e p m).sharers = e.sharers := by simp [dataL, ha]
      rw [hs]
      refine ⟨I.sh, fun q hq => ?_⟩
      rw [os q hq]
      simp
  refine ⟨?_, hsh⟩
  have hnd := has_need' (e := dataL e p m) hsh.1.1 hsh.1.2 I.fr.1 (by have := I.fr.2; simp only [dataL]; omega)
  have hN : needF (dataL e p m) = 0 := has_none' hnd.1.1 hnd.1.2 fun q hq => by
    rw [hnd.2 q hq, hsh.2 q hq]
    simp only [dataL]
    cases e.alone <;> simp
  unfold nextF
  rw [if_neg (by simp [dataL]), hN]
  rfl
set_option maxHeartbeats 2000000 in
theorem ci_data {n : Nat} {c : Nat → SLine} {e : SEntry} {V : Int} {p : Nat} {m : Msg} (hn : n ≤ 4) (I : CI n c e V) (hm : MI n c e m) (hp : p < n) (hk : m.kind = 9) (hf : m.frm = p) (h0 : e.phase = 1) (ht : m.turn = e.turn) (ho : e.owner = p) : CI n c (nextF (dataL e p m)) V := by
  obtain ⟨e1, e2, e3⟩ := data_next (m := m) hn I hp h0 ho
  rw [e1]
  have h1 := hm.data hk p hp hf
  have h2 := I.gs p hp
  have hg : (c p).gave = e.turn ∧ m.value = (c p).given := by omega
  have hV := I.valF h0 p hp ho hg.1
  have hno : ∀ q, q < n → ¬ holds (c q) (lastF e q) := by
    intro q hq hh
    have := ((I.fetch h0).2.2 q hq).1.1 hh
    have e4 : q = p := by omega
    subst e4
    omega
  have hal := ((I.fetch h0).2.2 p hp).2.2 ho hg.1
  have hof := (I.fetch h0).2.1
  have hreq := I.req (by omega)
  have os := I.os (by omega)
  have hcp : ∀ q, q < n → (c q).state = 1 → (c q).value = V ∧ q = p ∧ e.alone = false := by
    intro q hq hc
    have a := I.copy q hq hc
    have b := os q (by omega)
    have e4 : q = p := by
      rcases a.2 with h | h | h
      · rw [b] at h; cases h
      · omega
      · omega
    subst e4
    refine ⟨a.1, rfl, ?_⟩
    cases ha : e.alone
    · rfl
    · exact absurd hc (hal ha)
  obtain ⟨nlen, st, wn, lv, w1, w2, gs, sr, ph, ow, fr, sh, nd, shn, os', idle, fetch, clear, need, grant, req, tk, copy, val, valF, valH⟩ := I
  have hl : lastF { dataL e p m with need := 0, phase := 3 } = lastF e := rfl
  clear fetch clear need grant req idle e1 copy
  generalize hS : (dataL e p m).sharers = S at *
  have hS' : ({ dataL e p m with need := 0, phase := 3 } : SEntry) = { e with sharers := S, value := m.value, owner := -1, need := 0, phase := 3 } := by rw [← hS]; rfl
  rw [hS'] at hl ⊢
  constructor <;> (try assumption)
  all_goals (simp only [hl] at *; grind)
set_option maxHeartbeats 1000000 in
theorem mi_dataHome {n : Nat} {c : Nat → SLine} {e : SEntry} {V : Int} {p : Nat} {m x : Msg} (hn : n ≤ 4) (I : CI n c e V) (hm : MI n c e m) (hp : p < n) (hk : m.kind = 9) (hf : m.frm = p) (h0 : e.phase = 1) (ht : m.turn = e.turn) (ho : e.owner = p) (hx : MI n c e x) : MI n c (nextF (dataL e p m)) x := by
  obtain ⟨e1, e2, e3⟩ := data_next (m := m) hn I hp h0 ho
  rw [e1]
  have h1 := hm.data hk p hp hf
  have h2 := I.gs p hp
  have hg : (c p).gave = e.turn := by omega
  have hq : ∀ q : Nat, q < n → e.owner = q → e.turn ≤ (c q).seen := by
    intro q hq e4
    have e5 : q = p := by omega
    subst e5
    omega
  have hl : lastF { dataL e p m with need := 0, phase := 3 } = lastF e := rfl
  generalize hS : (dataL e p m).sharers = S at *
  have hS' : ({ dataL e p m with need := 0, phase := 3 } : SEntry) = { e with sharers := S, value := m.value, owner := -1, need := 0, phase := 3 } := by rw [← hS]; rfl
  rw [hS'] at hl ⊢
  clear e1
  obtain ⟨x1, x2, x3, x4, x5, x6, x7, x8, x9⟩ := hx
  constructor
  all_goals first | (simp only [hl] at *; grind) | grind

/-- MsgGone comes: the entry ahead of its phase. -/
def goneL (e : SEntry) (p : Nat) : SEntry := { e with need := e.need - bitF p, sharers := if hasF e.sharers p = true then e.sharers - bitF p else e.sharers }
theorem gone_sets {n : Nat} {c : Nat → SLine} {e : SEntry} {V : Int} {p : Nat} (hn : n ≤ 4) (I : CI n c e V) (hp : p < n) (h0 : e.phase = 2) (hN : hasF e.need p = true) :
    (0 ≤ (goneL e p).sharers ∧ (goneL e p).sharers < 16) ∧ (0 ≤ (goneL e p).need ∧ (goneL e p).need < 16) ∧ (∀ q : Nat, q < 4 → hasF (goneL e p).sharers q = (decide (q ≠ p) && hasF e.sharers q)) ∧ (∀ q : Nat, q < 4 → hasF (goneL e p).need q = (decide (q ≠ p) && hasF e.need q)) := by
  have hs := (I.need h0 p (by omega) hN).2.1
  have es : (goneL e p).sharers = e.sharers - bitF p := by simp [goneL, hs]
  have en : (goneL e p).need = e.need - bitF p := rfl
  rw [es, en]
  exact ⟨(has_sub' I.sh.1 I.sh.2 (by omega) (by omega : p < 4) hs).2, (has_sub' I.nd.1 I.nd.2 (by omega) (by omega : p < 4) hN).2, fun q hq => (has_sub' I.sh.1 I.sh.2 (by omega) hq hs).1, fun q hq => (has_sub' I.nd.1 I.nd.2 (by omega) hq hN).1⟩
theorem gone_next {n : Nat} {c : Nat → SLine} {e : SEntry} {V : Int} {p : Nat} (hn : n ≤ 4) (I : CI n c e V) (hp : p < n) (h0 : e.phase = 2) (hN : hasF e.need p = true) (hz : ¬ 0 < (goneL e p).need) : nextF (goneL e p) = { goneL e p with need := 0, phase := 3 } := by
  obtain ⟨s1, s2, s3, s4⟩ := gone_sets hn I hp h0 hN
  have hnd := has_need' (e := goneL e p) s1.1 s1.2 I.fr.1 (by have := I.fr.2; simp only [goneL]; omega)
  have hz0 : (goneL e p).need = 0 := by omega
  have hN0 : needF (goneL e p) = 0 := has_none' hnd.1.1 hnd.1.2 fun q hq => by
    rw [hnd.2 q hq, s3 q hq]
    have h1 := s4 q hq
    rw [hz0, has_zero' hq] at h1
    have h2 : q < n → hasF e.sharers q = true → hasF e.need q = true ∨ (q : Int) = e.forr := fun hqn => ((I.clear h0).2.2 q hqn).2.1
    have h3 : n ≤ q → hasF e.sharers q = false := fun h => I.shn q h hq
    have h4 : (goneL e p).forr = e.forr := rfl
    rw [h4]
    grind
  unfold nextF
  have ho := (I.clear h0).1
  rw [if_neg (by simp [goneL, ho]), hN0]
  rfl
set_option maxHeartbeats 2000000 in
theorem ci_gone {n : Nat} {c : Nat → SLine} {e : SEntry} {V : Int} {p : Nat} {m : Msg} (hn : n ≤ 4) (I : CI n c e V) (hm : MI n c e m) (hp : p < n) (hk : m.kind = 8) (hf : m.frm = p) (h0 : e.phase = 2) (ht : m.turn = e.turn) (hN : hasF e.need p = true) : CI n c (if 0 < (goneL e p).need then goneL e p else nextF (goneL e p)) V := by
  have h1 := hm.gone hk p hp hf
  have hst := ((I.clear h0).2.2 p hp).2.2 hN (by omega)
  obtain ⟨s1, s2, s3, s4⟩ := gone_sets hn I hp h0 hN
  have cl := I.clear h0
  have nd' := I.need h0
  have rq := I.req (by omega)
  by_cases hz : 0 < (goneL e p).need
  · rw [if_pos hz]
    have hl : lastF (goneL e p) = lastF e := rfl
    obtain ⟨nlen, st, wn, lv, w1, w2, gs, sr, ph, ow, fr, sh, nd, shn, os', idle, fetch, clear, need, grant, req, tk, copy, val, valF, valH⟩ := I
    generalize hS : (goneL e p).sharers = S at *
    generalize hD : (goneL e p).need = D at *
    have hS' : goneL e p = { e with sharers := S, need := D } := by rw [← hS, ← hD]; rfl
    rw [hS'] at hl ⊢
    clear hS hD hS' fetch grant idle
    constructor <;> (try assumption)
    all_goals (simp only [hl] at *; grind)
  · rw [if_neg hz, gone_next hn I hp h0 hN hz]
    have hz0 : (goneL e p).need = 0 := by omega
    have hnb : ∀ q : Nat, q < 4 → (decide (q ≠ p) && hasF e.need q) = false := fun q hq => by rw [← s4 q hq, hz0]; exact has_zero' hq
    have hl : lastF { goneL e p with need := 0, phase := 3 } = lastF e := rfl
    obtain ⟨nlen, st, wn, lv, w1, w2, gs, sr, ph, ow, fr, sh, nd, shn, os', idle, fetch, clear, need, grant, req, tk, copy, val, valF, valH⟩ := I
    clear hz s4
    generalize hS : (goneL e p).sharers = S at *
    have hS' : ({ goneL e p with need := 0, phase := 3 } : SEntry) = { e with sharers := S, need := 0, phase := 3 } := by rw [← hS]; rfl
    rw [hS'] at hl ⊢
    clear hS hS' fetch grant idle clear
    constructor <;> (try assumption)
    all_goals (simp only [hl] at *; grind)
set_option maxHeartbeats 1000000 in
theorem mi_goneHome {n : Nat} {c : Nat → SLine} {e : SEntry} {V : Int} {p : Nat} {m x : Msg} (hn : n ≤ 4) (I : CI n c e V) (hm : MI n c e m) (hp : p < n) (hk : m.kind = 8) (hf : m.frm = p) (h0 : e.phase = 2) (ht : m.turn = e.turn) (hN : hasF e.need p = true) (hx : MI n c e x) : MI n c (if 0 < (goneL e p).need then goneL e p else nextF (goneL e p)) x := by
  have h1 := hm.gone hk p hp hf
  obtain ⟨s1, s2, s3, s4⟩ := gone_sets hn I hp h0 hN
  obtain ⟨x1, x2, x3, x4, x5, x6, x7, x8, x9⟩ := hx
  by_cases hz : 0 < (goneL e p).need
  · rw [if_pos hz]
    have hl : lastF (goneL e p) = lastF e := rfl
    generalize hS : (goneL e p).sharers = S at *
    generalize hD : (goneL e p).need = D at *
    have hS' : goneL e p = { e with sharers := S, need := D } := by rw [← hS, ← hD]; rfl
    rw [hS'] at hl ⊢
    clear hS hD hS'
    constructor
    all_goals first | (simp only [hl] at *; grind) | grind
  · rw [if_neg hz, gone_next hn I hp h0 hN hz]
    have hz0 : (goneL e p).need = 0 := by omega
    have hnb : ∀ q : Nat, q < 4 → (decide (q ≠ p) && hasF e.need q) = false := fun q hq => by rw [← s4 q hq, hz0]; exact has_zero' hq
    have hl : lastF { goneL e p with need := 0, phase := 3 } = lastF e := rfl
    clear hz s4
    generalize hS : (goneL e p).sharers = S at *
    have hS' : ({ goneL e p with need := 0, phase := 3 } : SEntry) = { e with sharers := S, need := 0, phase := 3 } := by rw [← hS]; rfl
    rw [hS'] at hl ⊢
    clear hS hS'
    constructor
    all_goals first | (simp only [hl] at *; grind) | grind

/-- MsgThanks comes. -/
def thanksL (e : SEntry) (p : Nat) : SEntry :=
  if e.alone = true then { e with owner := e.forr, sharers := 0, phase := 0, forr := 0, serial := 0, alone := false }
  else { e with sharers := if hasF e.sharers p = false then e.sharers + bitF p else e.sharers, phase := 0, forr := 0, serial := 0, alone := false }
theorem thanks_sets {n : Nat} {c : Nat → SLine} {e : SEntry} {V : Int} {p : Nat} (hn : n ≤ 4) (I : CI n c e V) (hp : p < n) : ∃ S, (if hasF e.sharers p = false then e.sharers + bitF p else e.sharers) = S ∧ (0 ≤ S ∧ S < 16) ∧ ∀ q : Nat, q < 4 → hasF S q = (decide (q = p) || hasF e.sharers q) := by
  by_cases h : hasF e.sharers p = false
  · rw [if_pos h]
    exact ⟨_, rfl, (has_add' I.sh.1 I.sh.2 (by omega) (by omega : p < 4) h).2, fun q hq => (has_add' I.sh.1 I.sh.2 (by omega) hq h).1⟩
  · rw [if_neg h]
    refine ⟨_, rfl, I.sh, fun q hq => ?_⟩
    by_cases e1 : q = p
    · subst e1; simp_all
    · simp [e1]
set_option maxHeartbeats 2000000 in
theorem ci_thanks {n : Nat} {c : Nat → SLine} {e : SEntry} {V : Int} {p : Nat} {m : Msg} (hn : n ≤ 4) (I : CI n c e V) (hm : MI n c e m) (hp : p < n) (hk : m.kind = 10) (hf : m.frm = p) (h0 : e.phase = 3) (ht : m.turn = e.turn) (hfor : e.forr = p) : CI n c (thanksL e p) V := by
  have h1 := hm.thanks hk p hp hf
  have h2 := I.gs p hp
  have hseen : (c p).seen = e.turn := by omega
  have gr := I.grant h0
  have htk : ∀ q : Nat, q < n → ((c q).want = 1 ∨ (c q).want = 2) → lastF e q < (c q).serial := by
    intro q hq hw
    rcases I.tk q hq hw with h | h
    · exact h
    · have e1 : q = p := by omega
      subst e1
      omega
  unfold thanksL
  by_cases ha : e.alone = true
  · rw [if_pos ha]
    have hz : ∀ q : Nat, q < 4 → hasF 0 q = false := fun q hq => has_zero' hq
    have hl : lastF { e with owner := e.forr, sharers := 0, phase := 0, forr := 0, serial := 0, alone := false } = lastF e := rfl
    have hnc : ∀ q, q < n → (c q).state ≠ 1 := by
      intro q hq hc
      have a := (I.copy q hq hc).2
      have b := (gr.2 q hq)
      have hh := (gr.2 p hp).1.2 ⟨by omega, hseen, ha⟩
      by_cases e1 : q = p
      · subst e1; unfold holds at hh; omega
      · grind
    obtain ⟨nlen, st, wn, lv, w1, w2, gs, sr, ph, ow, fr, sh, nd, shn, os', idle, fetch, clear, need, grant, req, tk, copy, val, valF, valH⟩ := I
    clear fetch clear need tk
    constructor <;> (try assumption)
    all_goals (simp only [hl] at *; grind)
  · rw [if_neg ha]
    obtain ⟨S, hS, s1, s2⟩ := thanks_sets hn I hp
    rw [hS]
    have hl : lastF { e with sharers := S, phase := 0, forr := 0, serial := 0, alone := false } = lastF e := rfl
    have hnh : ∀ q, q < n → ¬ holds (c q) (lastF e q) := fun q hq hh => ha ((gr.2 q hq).1.1 hh).2.2
    obtain ⟨nlen, st, wn, lv, w1, w2, gs, sr, ph, ow, fr, sh, nd, shn, os', idle, fetch, clear, need, grant, req, tk, copy, val, valF, valH⟩ := I
    clear hS fetch clear need tk
    constructor <;> (try assumption)
    all_goals (simp only [hl] at *; grind)
set_option maxHeartbeats 1000000 in
theorem mi_thanksHome {n : Nat} {c : Nat → SLine} {e : SEntry} {V : Int} {p : Nat} {m x : Msg} (hn : n ≤ 4) (I : CI n c e V) (hm : MI n c e m) (hp : p < n) (hk : m.kind = 10) (hf : m.frm = p) (h0 : e.phase = 3) (ht : m.turn = e.turn) (hfor : e.forr = p) (hx : MI n c e x) : MI n c (thanksL e p) x := by
  have h1 := hm.thanks hk p hp hf
  have h2 := I.gs p hp
  have hseen : (c p).seen = e.turn := by omega
  have gr := I.grant h0
  have rq := I.req (by omega) p hp hfor.symm
  have hfo : (thanksL e p).last = e.last ∧ (thanksL e p).phase = 0 ∧ (thanksL e p).turn = e.turn ∧ ((thanksL e p).owner = e.owner ∨ (thanksL e p).owner = p) := by
    unfold thanksL; split <;> simp [hfor]
  obtain ⟨f1, f2, f3, f4⟩ := hfo
  have hl : lastF (thanksL e p) = lastF e := by funext q; unfold lastF; rw [f1]
  have hwn := I.wn p hp
  have hll : lastF e p = e.serial := rq.1
  have hrq : e.serial < (c p).serial ∨ (c p).want = 0 := by
    rcases rq.2 with r | r
    · exact r.2.2
    · omega
  have hsr := I.sr
  obtain ⟨x1, x2, x3, x4, x5, x6, x7, x8, x9⟩ := hx
  have hgr : ∀ q : Nat, q < n → e.forr = q → e.turn ≤ (c q).seen ∧ (e.serial < (c q).serial ∨ (c q).want = 0) := by
    intro q hq e4
    have e5 : q = p := by omega
    subst e5
    exact ⟨by omega, hrq⟩
  generalize thanksL e p = f at *
  constructor
  all_goals first | (simp only [hl, f2, f3] at *; grind) | grind
end Go.Proofs.YtpgeopefamomnaeGreat

