/- What holds of a line and all that is on the way of it, whatever steps there were: the invariant, and that each thing that happens keeps it. No program in it. -/
import Derived.Test.YtpgeopefamomnacGreatPA
set_option linter.unusedSimpArgs false
namespace Go.Proofs.YtpgeopefamomnacGreat
set_option maxRecDepth 100000
set_option linter.unusedVariables false

theorem has_add' {S : Int} (h0 : 0 ≤ S) (h1 : S < 16) {p q : Nat} (hp : p < 4) (hq : q < 4) (h : hasF S p = false) : hasF (S + bitF p) q = (decide (q = p) || hasF S q) ∧ 0 ≤ S + bitF p ∧ S + bitF p < 16 := by
  have hS : S = ((⟨S.toNat, by omega⟩ : Fin 16) : Nat) := by simp; omega
  rw [hS] at h ⊢
  have := has_add ⟨S.toNat, by omega⟩ ⟨p, hp⟩ ⟨q, hq⟩ h
  simpa using this
theorem has_sub' {S : Int} (h0 : 0 ≤ S) (h1 : S < 16) {p q : Nat} (hp : p < 4) (hq : q < 4) (h : hasF S p = true) : hasF (S - bitF p) q = (decide (q ≠ p) && hasF S q) ∧ 0 ≤ S - bitF p ∧ S - bitF p < 16 := by
  have hS : S = ((⟨S.toNat, by omega⟩ : Fin 16) : Nat) := by simp; omega
  rw [hS] at h ⊢
  have := has_sub ⟨S.toNat, by omega⟩ ⟨p, hp⟩ ⟨q, hq⟩ h
  simpa using this
theorem has_none' {S : Int} (h0 : 0 ≤ S) (h1 : S < 16) (h : ∀ q : Nat, q < 4 → hasF S q = false) : S = 0 := by
  have hS : S = ((⟨S.toNat, by omega⟩ : Fin 16) : Nat) := by simp; omega
  have h2 : S.toNat = 0 := has_none ⟨S.toNat, by omega⟩ fun q => by rw [← hS]; exact h q q.isLt
  omega
theorem has_zero' {q : Nat} (hq : q < 4) : hasF 0 q = false := has_zero ⟨q, hq⟩
theorem has_need' {e : SEntry} (h0 : 0 ≤ e.sharers) (h1 : e.sharers < 16) (f0 : 0 ≤ e.forr) (f1 : e.forr < 4) : (0 ≤ needF e ∧ needF e < 16) ∧ ∀ q : Nat, q < 4 → hasF (needF e) q = (e.alone && decide ((q : Int) ≠ e.forr) && hasF e.sharers q) := by
  have hS : e.sharers = ((⟨e.sharers.toNat, by omega⟩ : Fin 16) : Nat) := by simp; omega
  have hF : e.forr = ((⟨e.forr.toNat, by omega⟩ : Fin 4) : Nat) := by simp; omega
  have hN : needF e = needB e.alone ((⟨e.forr.toNat, by omega⟩ : Fin 4) : Nat) ((⟨e.sharers.toNat, by omega⟩ : Fin 16) : Nat) 0 + needB e.alone ((⟨e.forr.toNat, by omega⟩ : Fin 4) : Nat) ((⟨e.sharers.toNat, by omega⟩ : Fin 16) : Nat) 1 + needB e.alone ((⟨e.forr.toNat, by omega⟩ : Fin 4) : Nat) ((⟨e.sharers.toNat, by omega⟩ : Fin 16) : Nat) 2 + needB e.alone ((⟨e.forr.toNat, by omega⟩ : Fin 4) : Nat) ((⟨e.sharers.toNat, by omega⟩ : Fin 16) : Nat) 3 := by
    rw [← hS, ← hF]; rfl
  rw [hN]
  refine ⟨need_lt _ _ _, fun q hq => ?_⟩
  have := has_need e.alone ⟨e.forr.toNat, by omega⟩ ⟨e.sharers.toNat, by omega⟩ ⟨q, hq⟩
  rw [show ((⟨q, hq⟩ : Fin 4) : Nat) = q from rfl] at this
  rw [this, ← hS]
  congr 2
  rw [decide_eq_decide]
  constructor
  · intro h e1; apply h; apply Fin.ext; simp; omega
  · intro h e1; apply h; have e2 : q = e.forr.toNat := congrArg Fin.val e1; omega

/-- p has the line's value: alone, or leaving and not taken back yet. -/
def holds (l : SLine) (last : Int) : Prop := l.state = 2 ∨ (l.state = 3 ∧ last < l.serial)

/-- Cores' lines and the home's entry; V is the line's value. -/
structure CI (n : Nat) (c : Nat → SLine) (e : SEntry) (V : Int) : Prop where
  nlen : e.last.length = n
  st : ∀ p, p < n → 0 ≤ (c p).state ∧ (c p).state ≤ 3
  wn : ∀ p, p < n → 0 ≤ (c p).want ∧ (c p).want ≤ 3
  lv : ∀ p, p < n → ((c p).state = 3 ↔ (c p).want = 3)
  w1 : ∀ p, p < n → (c p).want = 1 → (c p).state = 0
  w2 : ∀ p, p < n → (c p).want = 2 → (c p).state = 0 ∨ (c p).state = 1
  gs : ∀ p, p < n → 0 ≤ (c p).gave ∧ (c p).gave ≤ (c p).seen ∧ (c p).seen ≤ e.turn
  sr : ∀ p, p < n → 0 ≤ lastF e p ∧ lastF e p ≤ (c p).serial
  ph : 0 ≤ e.phase ∧ e.phase ≤ 3
  ow : -1 ≤ e.owner ∧ e.owner < n
  fr : 0 ≤ e.forr ∧ e.forr < n
  sh : 0 ≤ e.sharers ∧ e.sharers < 16
  nd : 0 ≤ e.need ∧ e.need < 16
  shn : ∀ q, n ≤ q → q < 4 → hasF e.sharers q = false
  os : 0 ≤ e.owner → ∀ p, p < 4 → hasF e.sharers p = false
  idle : e.phase = 0 → ∀ p, p < n → (e.owner = p ↔ holds (c p) (lastF e p))
  fetch : e.phase = 1 → 0 ≤ e.owner ∧ e.owner ≠ e.forr ∧ ∀ p, p < n → (holds (c p) (lastF e p) ↔ e.owner = p ∧ (c p).gave ≠ e.turn) ∧ (e.owner = p → (c p).gave ≠ e.turn → (c p).seen < e.turn) ∧ (e.owner = p → (c p).gave = e.turn → e.alone = true → (c p).state ≠ 1)
  clear : e.phase = 2 → e.owner = -1 ∧ e.alone = true ∧ ∀ p, p < n → ¬ holds (c p) (lastF e p) ∧ (hasF e.sharers p = true → hasF e.need p = true ∨ (p : Int) = e.forr) ∧ (hasF e.need p = true → e.turn ≤ (c p).seen → (c p).state ≠ 1)
  need : e.phase = 2 → ∀ p, p < 4 → hasF e.need p = true → p < n ∧ hasF e.sharers p = true ∧ (p : Int) ≠ e.forr
  grant : e.phase = 3 → e.owner = -1 ∧ ∀ p, p < n → (holds (c p) (lastF e p) ↔ (p : Int) = e.forr ∧ (c p).seen = e.turn ∧ e.alone = true) ∧ (e.alone = true → hasF e.sharers p = true → (p : Int) = e.forr)
  req : e.phase ≠ 0 → ∀ p, p < n → (p : Int) = e.forr → lastF e p = e.serial ∧ ((e.phase = 3 ∧ (c p).seen = e.turn ∧ (e.serial < (c p).serial ∨ (c p).want = 0)) ∨ ((c p).seen < e.turn ∧ (c p).serial = e.serial ∧ (c p).want = if e.alone = true then 2 else 1))
  tk : ∀ p, p < n → ((c p).want = 1 ∨ (c p).want = 2) → lastF e p < (c p).serial ∨ (e.phase ≠ 0 ∧ e.forr = p ∧ (c p).serial = e.serial ∧ (c p).seen < e.turn)
  copy : ∀ p, p < n → (c p).state = 1 → (c p).value = V ∧ (hasF e.sharers p = true ∨ (e.phase = 1 ∧ e.owner = p ∧ (c p).gave = e.turn) ∨ (e.phase = 3 ∧ e.forr = p ∧ (c p).seen = e.turn))
  val : ∀ p, p < n → holds (c p) (lastF e p) → (c p).value = V
  valF : e.phase = 1 → ∀ p, p < n → e.owner = p → (c p).gave = e.turn → (c p).given = V
  valH : e.phase ≠ 1 → (∀ p, p < n → ¬ holds (c p) (lastF e p)) → e.value = V

/-- A message that is on the way. -/
structure MI (n : Nat) (c : Nat → SLine) (e : SEntry) (m : Msg) : Prop where
  get : m.kind = 1 ∨ m.kind = 2 → ∀ p, p < n → m.frm = p → m.serial ≤ (c p).serial ∧ (m.serial ≤ lastF e p ∨ (m.serial = (c p).serial ∧ (c p).want = m.kind))
  put : m.kind = 3 → ∀ p, p < n → m.frm = p → m.serial ≤ (c p).serial ∧ (m.serial ≤ lastF e p ∨ (m.serial = (c p).serial ∧ (c p).want = 3 ∧ m.value = (c p).value) ∨ ((m.serial < (c p).serial ∨ (c p).want = 0) ∧ (e.owner ≠ p ∨ (e.phase = 1 ∧ (c p).gave = e.turn)) ∧ (e.phase = 0 ∨ e.forr ≠ p)))
  inv : m.kind = 4 → ∀ p, p < n → m.to = p → m.turn ≤ e.turn ∧ (m.turn ≤ (c p).seen ∨ (m.turn = e.turn ∧ e.phase = 2 ∧ hasF e.need p = true))
  fetch : m.kind = 5 ∨ m.kind = 6 → ∀ p, p < n → m.to = p → m.turn ≤ (c p).seen ∨ (m.turn = e.turn ∧ e.phase = 1 ∧ e.owner = p ∧ (m.kind = 6 ↔ e.alone = true))
  grant : m.kind = 7 → ∀ p, p < n → m.to = p → m.serial ≤ (c p).serial ∧ ((m.turn ≤ (c p).seen ∧ (m.serial < (c p).serial ∨ ((c p).want ≠ 1 ∧ (c p).want ≠ 2))) ∨ (m.turn = e.turn ∧ e.phase = 3 ∧ e.forr = p ∧ m.serial = e.serial ∧ m.value = e.value ∧ m.alone = e.alone))
  gone : m.kind = 8 → ∀ p, p < n → m.frm = p → m.turn ≤ (c p).seen
  data : m.kind = 9 → ∀ p, p < n → m.frm = p → m.turn < (c p).gave ∨ (m.turn = (c p).gave ∧ m.value = (c p).given)
  thanks : m.kind = 10 → ∀ p, p < n → m.frm = p → m.turn ≤ (c p).seen
  taken : m.kind = 11 → ∀ p, p < n → m.to = p → m.serial ≤ lastF e p

def updL (c : Nat → SLine) (p : Nat) (l : SLine) : Nat → SLine := fun q => if q = p then l else c q
theorem upd_at {c : Nat → SLine} {p : Nat} {l : SLine} : updL c p l p = l := if_pos rfl
theorem updL_ne {c : Nat → SLine} {p q : Nat} {l : SLine} (h : q ≠ p) : updL c p l q = c q := if_neg h

/-- Where somebody has the line's value nobody else has, and there is no copy. -/
theorem CI.one {n : Nat} {c : Nat → SLine} {e : SEntry} {V : Int} (I : CI n c e V) {p q : Nat} (hp : p < n) (hq : q < n) (h : holds (c p) (lastF e p)) (k : holds (c q) (lastF e q)) : p = q := by
  have hph := I.ph
  rcases (by omega : e.phase = 0 ∨ e.phase = 1 ∨ e.phase = 2 ∨ e.phase = 3) with h0 | h0 | h0 | h0
  · have a := (I.idle h0 p hp).2 h
    have b := (I.idle h0 q hq).2 k
    omega
  · have a := (((I.fetch h0).2.2 p hp).1.1 h).1
    have b := (((I.fetch h0).2.2 q hq).1.1 k).1
    omega
  · exact absurd h ((I.clear h0).2.2 p hp).1
  · have a := (((I.grant h0).2 p hp).1.1 h).1
    have b := (((I.grant h0).2 q hq).1.1 k).1
    omega
end Go.Proofs.YtpgeopefamomnacGreat

/- The invariant is kept by what cores do. -/
namespace Go.Proofs.YtpgeopefamomnacGreat
set_option maxRecDepth 100000
set_option linter.unusedVariables false

theorem updL_same {c : Nat → SLine} {p : Nat} : updL c p (c p) = c := by funext q; unfold updL; split <;> simp_all
/-- What a core's line may say of itself at any time. -/
theorem mi_asks {n : Nat} {c : Nat → SLine} {e : SEntry} {V : Int} {p : Nat} {home line : Int} (I : CI n c e V) (hp : p < n) (hw : (c p).want ≠ 0) : MI n c e (asksF (c p) p home line) := by
  have h1 := I.wn p hp
  have h2 := I.lv p hp
  constructor <;> simp only [asksF] <;> grind
/-- The message that a core says. -/
def coreSays (p : Nat) (home line : Int) (x : Int × Int × Int) : Msg := { kind := x.1, frm := p, to := home, line := line, serial := 0, turn := x.2.1, value := x.2.2, alone := false }

set_option maxHeartbeats 1000000 in
/-- MsgInv is heard. -/
theorem ci_inv {n : Nat} {c : Nat → SLine} {e : SEntry} {V : Int} {p : Nat} {w : SOp} {m : Msg} (hn : n ≤ 4) (I : CI n c e V) (hm : MI n c e m) (hp : p < n) (hk : m.kind = 4) (ht : m.to = p) : CI n (updL c p (hearL (c p) w m).1) e V := by
  have h0 := hm.inv hk p hp ht
  by_cases hs : (c p).seen < m.turn
  · have hc : (hearL (c p) w m).1 = if (c p).state = 1 then { c p with seen := m.turn, state := 0, value := 0 } else { c p with seen := m.turn } := by simp [hearL, hk, hs]
    rw [hc]
    obtain ⟨nlen, st, wn, lv, w1, w2, gs, sr, ph, ow, fr, sh, nd, shn, os, idle, fetch, clear, need, grant, req, tk, copy, val, valF, valH⟩ := I
    constructor <;> (try assumption)
    all_goals (simp only [updL, holds] at *; grind)
  · have hc : (hearL (c p) w m).1 = c p := by simp [hearL, hk, hs]
    rw [hc, updL_same]; exact I
set_option maxHeartbeats 1000000 in
theorem mi_inv {n : Nat} {c : Nat → SLine} {e : SEntry} {V : Int} {p : Nat} {w : SOp} {m x : Msg} (I : CI n c e V) (hm : MI n c e m) (hp : p < n) (hk : m.kind = 4) (ht : m.to = p) (hx : MI n c e x) : MI n (updL c p (hearL (c p) w m).1) e x := by
  have h0 := hm.inv hk p hp ht
  by_cases hs : (c p).seen < m.turn
  · have hc : (hearL (c p) w m).1 = if (c p).state = 1 then { c p with seen := m.turn, state := 0, value := 0 } else { c p with seen := m.turn } := by simp [hearL, hk, hs]
    rw [hc]
    have l1 := I.lv p hp
    obtain ⟨h1, h2, h3, h4, h5, h6, h7, h8, h9⟩ := hx
    constructor
    all_goals first | (simp only [updL] at *; grind) | grind
  · have hc : (hearL (c p) w m).1 = c p := by simp [hearL, hk, hs]
    rw [hc, updL_same]; exact hx
theorem mi_gone {n : Nat} {c : Nat → SLine} {e : SEntry} {p : Nat} {w : SOp} {home line : Int} {m : Msg} (hk : m.kind = 4) : MI n (updL c p (hearL (c p) w m).1) e (coreSays p home line (8, m.turn, 0)) := by
  have hc : (hearL (c p) w m).1 = if (c p).seen < m.turn then (if (c p).state = 1 then { c p with seen := m.turn, state := 0, value := 0 } else { c p with seen := m.turn }) else c p := by simp [hearL, hk]
  rw [hc]
  constructor <;> simp only [coreSays, updL] <;> grind

/-- What a line does that is asked for. -/
theorem hear_fetch_again {l : SLine} {w : SOp} {m : Msg} (hk : m.kind = 5 ∨ m.kind = 6) (hg : 0 < m.turn ∧ m.turn = l.gave) : hearL l w m = (l, some (9, l.gave, l.given), none) := by
  rw [hearL, if_neg (by omega), if_pos hk, if_pos hg]
theorem hear_fetch_none {l : SLine} {w : SOp} {m : Msg} (hk : m.kind = 5 ∨ m.kind = 6) (hg : ¬ (0 < m.turn ∧ m.turn = l.gave)) (hs : m.turn ≤ l.seen ∨ (l.state ≠ 2 ∧ l.state ≠ 3)) : hearL l w m = (l, none, none) := by
  rw [hearL, if_neg (by omega), if_pos hk, if_neg hg, if_pos hs]
def givenL (l : SLine) (m : Msg) : SLine :=
  if l.want = 3 then { l with gave := m.turn, seen := m.turn, given := l.value, state := 0, value := 0, want := 0 } else if m.kind = 6 then { l with gave := m.turn, seen := m.turn, given := l.value, state := 0, value := 0 } else { l with gave := m.turn, seen := m.turn, given := l.value, state := 1 }
theorem hear_fetch_given {l : SLine} {w : SOp} {m : Msg} (hk : m.kind = 5 ∨ m.kind = 6) (hg : ¬ (0 < m.turn ∧ m.turn = l.gave)) (hs : ¬ (m.turn ≤ l.seen ∨ (l.state ≠ 2 ∧ l.state ≠ 3))) : hearL l w m = (givenL l m, some (9, m.turn, l.value), if l.want = 3 then some 0 else none) := by
  rw [hearL, if_neg (by omega), if_pos hk, if_neg hg, if_neg hs, givenL]
  split
  · rfl
  · split <;> rfl
set_option maxHeartbeats 1000000 in
/-- MsgFetchS, MsgFetchX: the line is given. -/
theorem ci_given {n : Nat} {c : Nat → SLine} {e : SEntry} {V : Int} {p : Nat} {m : Msg} (hn : n ≤ 4) (I : CI n c e V) (hm : MI n c e m) (hp : p < n) (hk : m.kind = 5 ∨ m.kind = 6) (ht : m.to = p) (hs : ¬ (m.turn ≤ (c p).seen ∨ ((c p).state ≠ 2 ∧ (c p).state ≠ 3))) : CI n (updL c p (givenL (c p) m)) e V := by
  have h0 := hm.fetch hk p hp ht
  have f1 : m.turn = e.turn ∧ e.phase = 1 ∧ e.owner = p ∧ (m.kind = 6 ↔ e.alone = true) := by
    rcases h0 with h | h
    · exact absurd (Or.inl h) hs
    · exact h
  obtain ⟨f1, f2, f3, f4⟩ := f1
  unfold givenL
  obtain ⟨nlen, st, wn, lv, w1, w2, gs, sr, ph, ow, fr, sh, nd, shn, os, idle, fetch, clear, need, grant, req, tk, copy, val, valF, valH⟩ := I
  have f5 := (fetch f2).2.2 p hp
  have f6 := (fetch f2).2.1
  have f7 := os (by omega)
  constructor <;> (try assumption)
  all_goals (simp only [updL, holds] at *; grind)
set_option maxHeartbeats 1000000 in
theorem mi_given {n : Nat} {c : Nat → SLine} {e : SEntry} {V : Int} {p : Nat} {m x : Msg} (hn : n ≤ 4) (I : CI n c e V) (hm : MI n c e m) (hp : p < n) (hk : m.kind = 5 ∨ m.kind = 6) (ht : m.to = p) (hs : ¬ (m.turn ≤ (c p).seen ∨ ((c p).state ≠ 2 ∧ (c p).state ≠ 3))) (hx : MI n c e x) : MI n (updL c p (givenL (c p) m)) e x := by
  have h0 := hm.fetch hk p hp ht
  have f1 : m.turn = e.turn ∧ e.phase = 1 ∧ e.owner = p ∧ (m.kind = 6 ↔ e.alone = true) := by
    rcases h0 with h | h
    · exact absurd (Or.inl h) hs
    · exact h
  obtain ⟨f1, f2, f3, f4⟩ := f1
  unfold givenL
  have l1 := I.lv p hp
  have l2 := I.w1 p hp
  have l3 := I.w2 p hp
  have l4 := I.gs p hp
  have l5 := (I.fetch f2).2.2 p hp
  have l6 := (I.fetch f2).2.1
  obtain ⟨h1, h2, h3, h4, h5, h6, h7, h8, h9⟩ := hx
  constructor
  all_goals (simp only [updL, holds] at *; grind)
theorem mi_data {n : Nat} {c : Nat → SLine} {e : SEntry} {p : Nat} {home line : Int} {m : Msg} : MI n (updL c p (givenL (c p) m)) e (coreSays p home line (9, m.turn, (c p).value)) := by
  unfold givenL
  constructor <;> simp only [coreSays, updL] <;> grind
theorem mi_again {n : Nat} {c : Nat → SLine} {e : SEntry} {p : Nat} {home line : Int} : MI n c e (coreSays p home line (9, (c p).gave, (c p).given)) := by
  constructor <;> simp only [coreSays] <;> grind

/-- MsgGrant. -/
theorem hear_grant_above {l : SLine} {w : SOp} {m : Msg} (hk : m.kind = 7) (h : l.serial < m.serial) : hearL l w m = (l, none, none) := by
  rw [hearL, if_neg (by omega), if_neg (by omega), if_pos hk, if_pos h]
theorem hear_grant_old {l : SLine} {w : SOp} {m : Msg} (hk : m.kind = 7) (h : ¬ l.serial < m.serial) (h2 : m.serial < l.serial ∨ (m.alone = true ∧ l.want ≠ 2) ∨ (m.alone = false ∧ l.want ≠ 1)) : hearL l w m = (l, some (10, m.turn, 0), none) := by
  rw [hearL, if_neg (by omega), if_neg (by omega), if_pos hk, if_neg h, if_pos h2]
def grantedL (l : SLine) (w : SOp) (m : Msg) : SLine := { l with value := (tellF m.value w).1, want := 0, seen := m.turn, state := if m.alone = true then 2 else 1 }
theorem hear_grant_new {l : SLine} {w : SOp} {m : Msg} (hk : m.kind = 7) (h : ¬ l.serial < m.serial) (h2 : ¬ (m.serial < l.serial ∨ (m.alone = true ∧ l.want ≠ 2) ∨ (m.alone = false ∧ l.want ≠ 1))) : hearL l w m = (grantedL l w m, some (10, m.turn, 0), some (tellF m.value w).2) := by
  rw [hearL, if_neg (by omega), if_neg (by omega), if_pos hk, if_neg h, if_neg h2, grantedL]
theorem grant_now {n : Nat} {c : Nat → SLine} {e : SEntry} {V : Int} {p : Nat} {m : Msg} (I : CI n c e V) (hm : MI n c e m) (hp : p < n) (hk : m.kind = 7) (ht : m.to = p) (h : ¬ (c p).serial < m.serial) (h2 : ¬ (m.serial < (c p).serial ∨ (m.alone = true ∧ (c p).want ≠ 2) ∨ (m.alone = false ∧ (c p).want ≠ 1))) :
    m.turn = e.turn ∧ e.phase = 3 ∧ e.forr = p ∧ m.serial = e.serial ∧ m.value = e.value ∧ m.alone = e.alone ∧ (c p).seen < e.turn ∧ e.value = V ∧ m.serial = (c p).serial ∧ (c p).want = (if m.alone = true then 2 else 1) := by
  have h0 := hm.grant hk p hp ht
  have w := I.wn p hp
  have hw : (c p).want = (if m.alone = true then 2 else 1) := by cases ha : m.alone <;> simp_all
  have f : m.turn = e.turn ∧ e.phase = 3 ∧ e.forr = p ∧ m.serial = e.serial ∧ m.value = e.value ∧ m.alone = e.alone := by
    rcases h0.2 with h3 | h3
    · exfalso
      cases ha : m.alone <;> simp_all <;> omega
    · exact h3
  obtain ⟨f1, f2, f3, f4, f5, f6⟩ := f
  have r := I.req (by omega) p hp f3.symm
  have hseen : (c p).seen < e.turn := by
    rcases r.2 with r2 | r2
    · exfalso
      cases ha : m.alone <;> simp_all <;> omega
    · exact r2.1
  refine ⟨f1, f2, f3, f4, f5, f6, hseen, I.valH (by omega) fun q hq hh => ?_, by omega, hw⟩
  have := ((I.grant f2).2 q hq).1.1 hh
  have e1 : q = p := by omega
  subst e1
  omega
set_option maxHeartbeats 1000000 in
theorem ci_granted {n : Nat} {c : Nat → SLine} {e : SEntry} {V : Int} {p : Nat} {w : SOp} {m : Msg} (hn : n ≤ 4) (I : CI n c e V) (hm : MI n c e m) (hp : p < n) (hk : m.kind = 7) (ht : m.to = p) (hw : (c p).want = 1 → w.kind = 1) (h : ¬ (c p).serial < m.serial) (h2 : ¬ (m.serial < (c p).serial ∨ (m.alone = true ∧ (c p).want ≠ 2) ∨ (m.alone = false ∧ (c p).want ≠ 1))) : CI n (updL c p (grantedL (c p) w m)) e (tellF V w).1 := by
  obtain ⟨f1, f2, f3, f4, f5, f6, f7, f8, f9, f10⟩ := grant_now I hm hp hk ht h h2
  have hv : m.value = V := by omega
  have hT : m.alone = false → (tellF V w).1 = V := by
    intro ha
    have : w.kind = 1 := hw (by rw [f10, ha]; rfl)
    simp [tellF, this]
  unfold grantedL
  rw [hv]
  generalize (tellF V w).1 = V' at *
  obtain ⟨nlen, st, wn, lv, w1, w2, gs, sr, ph, ow, fr, sh, nd, shn, os, idle, fetch, clear, need, grant, req, tk, copy, val, valF, valH⟩ := I
  have g1 := (grant f2).1
  have g2 := (grant f2).2
  have r := req (by omega) p hp f3.symm
  constructor <;> (try assumption)
  all_goals (simp only [updL, holds] at *; grind)
set_option maxHeartbeats 1000000 in
theorem mi_granted {n : Nat} {c : Nat → SLine} {e : SEntry} {V : Int} {p : Nat} {w : SOp} {m x : Msg} (I : CI n c e V) (hm : MI n c e m) (hp : p < n) (hk : m.kind = 7) (ht : m.to = p) (h : ¬ (c p).serial < m.serial) (h2 : ¬ (m.serial < (c p).serial ∨ (m.alone = true ∧ (c p).want ≠ 2) ∨ (m.alone = false ∧ (c p).want ≠ 1))) (hx : MI n c e x) : MI n (updL c p (grantedL (c p) w m)) e x := by
  obtain ⟨f1, f2, f3, f4, f5, f6, f7, f8, f9, f10⟩ := grant_now I hm hp hk ht h h2
  have r := I.req (by omega) p hp f3.symm
  have l1 := I.gs p hp
  unfold grantedL
  obtain ⟨h1, h2, h3, h4, h5, h6, h7, h8, h9⟩ := hx
  constructor
  all_goals first | (simp only [updL] at *; grind) | grind
theorem mi_thanks_new {n : Nat} {c : Nat → SLine} {e : SEntry} {p : Nat} {w : SOp} {home line : Int} {m : Msg} : MI n (updL c p (grantedL (c p) w m)) e (coreSays p home line (10, m.turn, 0)) := by
  unfold grantedL
  constructor <;> simp only [coreSays, updL] <;> grind
theorem mi_thanks_old {n : Nat} {c : Nat → SLine} {e : SEntry} {V : Int} {p : Nat} {home line : Int} {m : Msg} (I : CI n c e V) (hm : MI n c e m) (hp : p < n) (hk : m.kind = 7) (ht : m.to = p) (h2 : m.serial < (c p).serial ∨ (m.alone = true ∧ (c p).want ≠ 2) ∨ (m.alone = false ∧ (c p).want ≠ 1)) : MI n c e (coreSays p home line (10, m.turn, 0)) := by
  have h0 := hm.grant hk p hp ht
  have r := fun (h : e.phase = 3) (h' : e.forr = p) => I.req (by omega) p hp h'.symm
  constructor <;> simp only [coreSays] <;> grind

/-- MsgTaken. -/
theorem hear_taken {l : SLine} {w : SOp} {m : Msg} (hk : m.kind = 11) (h : l.want = 3 ∧ m.serial = l.serial) : hearL l w m = ({ l with state := 0, value := 0, want := 0 }, none, some 0) := by
  rw [hearL, if_neg (by omega), if_neg (by omega), if_neg (by omega), if_pos hk, if_pos h]
theorem hear_taken_none {l : SLine} {w : SOp} {m : Msg} (hk : m.kind = 11) (h : ¬ (l.want = 3 ∧ m.serial = l.serial)) : hearL l w m = (l, none, none) := by
  rw [hearL, if_neg (by omega), if_neg (by omega), if_neg (by omega), if_pos hk, if_neg h]
set_option maxHeartbeats 1000000 in
theorem ci_taken {n : Nat} {c : Nat → SLine} {e : SEntry} {V : Int} {p : Nat} {m : Msg} (hn : n ≤ 4) (I : CI n c e V) (hm : MI n c e m) (hp : p < n) (hk : m.kind = 11) (ht : m.to = p) (h : (c p).want = 3 ∧ m.serial = (c p).serial) : CI n (updL c p { c p with state := 0, value := 0, want := 0 }) e V := by
  have h0 := hm.taken hk p hp ht
  obtain ⟨nlen, st, wn, lv, w1, w2, gs, sr, ph, ow, fr, sh, nd, shn, os, idle, fetch, clear, need, grant, req, tk, copy, val, valF, valH⟩ := I
  constructor <;> (try assumption)
  all_goals (simp only [updL, holds] at *; grind)
set_option maxHeartbeats 1000000 in
theorem mi_taken {n : Nat} {c : Nat → SLine} {e : SEntry} {V : Int} {p : Nat} {m x : Msg} (I : CI n c e V) (hm : MI n c e m) (hp : p < n) (hk : m.kind = 11) (ht : m.to = p) (h : (c p).want = 3 ∧ m.serial = (c p).serial) (hx : MI n c e x) : MI n (updL c p { c p with state := 0, value := 0, want := 0 }) e x := by
  have h0 := hm.taken hk p hp ht
  obtain ⟨h1, h2, h3, h4, h5, h6, h7, h8, h9⟩ := hx
  constructor
  all_goals first | (simp only [updL] at *; grind) | grind
theorem hear_other {l : SLine} {w : SOp} {m : Msg} (h4 : m.kind ≠ 4) (h5 : m.kind ≠ 5) (h6 : m.kind ≠ 6) (h7 : m.kind ≠ 7) (h11 : m.kind ≠ 11) : hearL l w m = (l, none, none) := by
  rw [hearL, if_neg h4, if_neg (by omega), if_neg h7, if_neg h11]
end Go.Proofs.YtpgeopefamomnacGreat

/- The invariant is kept by what cores begin. -/
namespace Go.Proofs.YtpgeopefamomnacGreat
set_option maxRecDepth 100000
set_option linter.unusedVariables false

/-- What begins and is done at once. -/
theorem begin_done {l : SLine} {o : SOp} (hk : 1 ≤ o.kind ∧ o.kind ≤ 4) (h : (beginL l o).2.1 = 0) :
    (o.kind = 4 ∧ l.state ≠ 2 ∧ beginL l o = ({ l with state := 0, value := 0 }, 0, 0)) ∨ (o.kind = 1 ∧ (l.state = 1 ∨ l.state = 2) ∧ beginL l o = (l, 0, l.value)) ∨ ((o.kind = 2 ∨ o.kind = 3) ∧ l.state = 2 ∧ beginL l o = ({ l with value := (tellF l.value o).1 }, 0, (tellF l.value o).2)) := by
  unfold beginL at h ⊢
  by_cases h4 : o.kind = 4
  · by_cases hs : l.state = 2
    · simp [h4, hs] at h
    · simp [h4, hs]
  · by_cases h1 : o.kind = 1
    · by_cases hs : l.state = 1 ∨ l.state = 2
      · simp [h1, hs]
      · simp [h1, hs] at h
    · by_cases hs : l.state = 2
      · simp [h4, h1, hs]; omega
      · simp [h4, h1, hs] at h
/-- What begins and waits. -/
theorem begin_wants {l : SLine} {o : SOp} (hk : 1 ≤ o.kind ∧ o.kind ≤ 4) (h : (beginL l o).2.1 ≠ 0) :
    (o.kind = 4 ∧ l.state = 2 ∧ beginL l o = ({ l with state := 3, want := 3, serial := l.serial + 1 }, 3, 0)) ∨ (o.kind = 1 ∧ l.state ≠ 1 ∧ l.state ≠ 2 ∧ beginL l o = ({ l with want := 1, serial := l.serial + 1 }, 1, 0)) ∨ ((o.kind = 2 ∨ o.kind = 3) ∧ l.state ≠ 2 ∧ beginL l o = ({ l with want := 2, serial := l.serial + 1 }, 2, 0)) := by
  unfold beginL at h ⊢
  by_cases h4 : o.kind = 4
  · by_cases hs : l.state = 2
    · simp [h4, hs]
    · simp [h4, hs] at h
  · by_cases h1 : o.kind = 1
    · by_cases hs : l.state = 1 ∨ l.state = 2
      · simp [h1, hs] at h
      · simp [h1, hs]; omega
    · by_cases hs : l.state = 2
      · simp [h4, h1, hs] at h
      · simp [h4, h1, hs]; omega
/-- Where somebody has the line's value there is no copy. -/
theorem CI.nocopy {n : Nat} {c : Nat → SLine} {e : SEntry} {V : Int} (hn : n ≤ 4) (I : CI n c e V) {p q : Nat} (hp : p < n) (hq : q < n) (h : (c p).state = 2) : (c q).state ≠ 1 := by
  intro hc
  have hh : holds (c p) (lastF e p) := .inl h
  have hph := I.ph
  have hcp := (I.copy q hq hc).2
  have hne : q ≠ p := by intro e; subst e; omega
  rcases (by omega : e.phase = 0 ∨ e.phase = 1 ∨ e.phase = 2 ∨ e.phase = 3) with h0 | h0 | h0 | h0
  · have a := (I.idle h0 p hp).2 hh
    have b := I.os (by omega) q (by omega)
    grind
  · have a := ((I.fetch h0).2.2 p hp).1.1 hh
    have b := I.os (by omega) q (by omega)
    grind
  · exact absurd hh ((I.clear h0).2.2 p hp).1
  · have a := ((I.grant h0).2 p hp).1.1 hh
    have b := ((I.grant h0).2 q hq).2
    grind
set_option maxHeartbeats 1000000 in
theorem ci_done {n : Nat} {c : Nat → SLine} {e : SEntry} {V : Int} {p : Nat} {o : SOp} (hn : n ≤ 4) (I : CI n c e V) (hp : p < n) (hw : (c p).want = 0) (hk : 1 ≤ o.kind ∧ o.kind ≤ 4) (h : (beginL (c p) o).2.1 = 0) : CI n (updL c p (beginL (c p) o).1) e (tellF V o).1 ∧ (beginL (c p) o).2.2 = (tellF V o).2 := by
  rcases begin_done hk h with ⟨h1, h2, h3⟩ | ⟨h1, h2, h3⟩ | ⟨h1, h2, h3⟩
  · rw [h3]
    have hT : tellF V o = (V, 0) := by simp [tellF, h1]
    rw [hT]
    refine ⟨?_, rfl⟩
    obtain ⟨nlen, st, wn, lv, w1, w2, gs, sr, ph, ow, fr, sh, nd, shn, os, idle, fetch, clear, need, grant, req, tk, copy, val, valF, valH⟩ := I
    constructor <;> (try assumption)
    all_goals (simp only [updL, holds] at *; grind)
  · rw [h3, updL_same]
    have hT : tellF V o = (V, V) := by simp [tellF, h1]
    rw [hT]
    refine ⟨I, ?_⟩
    rcases h2 with h2 | h2
    · exact (I.copy p hp h2).1
    · exact I.val p hp (.inl h2)
  · rw [h3]
    have hV : (c p).value = V := I.val p hp (.inl h2)
    rw [hV]
    refine ⟨?_, rfl⟩
    generalize (tellF V o).1 = V'
    have hno := fun q hq => I.nocopy hn hp (q := q) hq h2
    have hone := fun q hq => I.one hp (q := q) hq (.inl h2)
    have hgv : e.phase = 1 → e.owner = p ∧ (c p).gave ≠ e.turn := fun h0 => ((I.fetch h0).2.2 p hp).1.1 (.inl h2)
    obtain ⟨nlen, st, wn, lv, w1, w2, gs, sr, ph, ow, fr, sh, nd, shn, os, idle, fetch, clear, need, grant, req, tk, copy, val, valF, valH⟩ := I
    constructor <;> (try assumption)
    all_goals (simp only [updL, holds] at *; grind)
set_option maxHeartbeats 1000000 in
theorem mi_done {n : Nat} {c : Nat → SLine} {e : SEntry} {V : Int} {p : Nat} {o : SOp} {x : Msg} (I : CI n c e V) (hp : p < n) (hw : (c p).want = 0) (hk : 1 ≤ o.kind ∧ o.kind ≤ 4) (h : (beginL (c p) o).2.1 = 0) (hx : MI n c e x) : MI n (updL c p (beginL (c p) o).1) e x := by
  obtain ⟨h1, h2, h3, h4, h5, h6, h7, h8, h9⟩ := hx
  rcases begin_done hk h with ⟨k1, k2, k3⟩ | ⟨k1, k2, k3⟩ | ⟨k1, k2, k3⟩
  · rw [k3]
    constructor
    all_goals first | (simp only [updL] at *; grind) | grind
  · rw [k3, updL_same]
    exact ⟨h1, h2, h3, h4, h5, h6, h7, h8, h9⟩
  · rw [k3]
    constructor
    all_goals first | (simp only [updL] at *; grind) | grind
set_option maxHeartbeats 1000000 in
theorem ci_wants {n : Nat} {c : Nat → SLine} {e : SEntry} {V : Int} {p : Nat} {o : SOp} (hn : n ≤ 4) (I : CI n c e V) (hp : p < n) (hw : (c p).want = 0) (hk : 1 ≤ o.kind ∧ o.kind ≤ 4) (h : (beginL (c p) o).2.1 ≠ 0) : CI n (updL c p (beginL (c p) o).1) e V := by
  obtain ⟨nlen, st, wn, lv, w1, w2, gs, sr, ph, ow, fr, sh, nd, shn, os, idle, fetch, clear, need, grant, req, tk, copy, val, valF, valH⟩ := I
  rcases begin_wants hk h with ⟨h1, h2, h3⟩ | ⟨h1, h2, h4, h3⟩ | ⟨h1, h2, h3⟩
  all_goals
    rw [h3]
    constructor <;> (try assumption)
    all_goals (simp only [updL, holds] at *; grind)
set_option maxHeartbeats 1000000 in
theorem mi_wants {n : Nat} {c : Nat → SLine} {e : SEntry} {V : Int} {p : Nat} {o : SOp} {x : Msg} (I : CI n c e V) (hp : p < n) (hw : (c p).want = 0) (hk : 1 ≤ o.kind ∧ o.kind ≤ 4) (h : (beginL (c p) o).2.1 ≠ 0) (hx : MI n c e x) : MI n (updL c p (beginL (c p) o).1) e x := by
  obtain ⟨h1, h2, h3, h4, h5, h6, h7, h8, h9⟩ := hx
  have g1 := I.gs p hp
  have g2 := fun h0 => (I.fetch h0).2.2 p hp
  have g3 := fun h0 => I.idle h0 p hp
  have g4 := fun h0 => (I.grant h0).2 p hp
  have g5 := I.sr p hp
  have g6 := I.lv p hp
  rcases begin_wants hk h with ⟨k1, k2, k3⟩ | ⟨k1, k2, k4, k3⟩ | ⟨k1, k2, k3⟩
  all_goals
    rw [k3]
    constructor
    all_goals first | (simp only [updL, holds] at *; grind) | grind
/-- What begins, and what wants then: 1 for a load, 2 for a store or an add, 3 for what is given back. -/
theorem begin_kind {l : SLine} {o : SOp} (hk : 1 ≤ o.kind ∧ o.kind ≤ 4) (h : (beginL l o).2.1 ≠ 0) : (beginL l o).1.want = (beginL l o).2.1 ∧ (beginL l o).1.serial = l.serial + 1 ∧ ((beginL l o).2.1 = 1 ↔ o.kind = 1) ∧ ((beginL l o).2.1 = 3 ↔ o.kind = 4) := by
  rcases begin_wants hk h with ⟨k1, k2, k3⟩ | ⟨k1, k2, k4, k3⟩ | ⟨k1, k2, k3⟩ <;> rw [k3] <;> simp <;> omega
end Go.Proofs.YtpgeopefamomnacGreat
