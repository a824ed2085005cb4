/- Types Proto. -/

set_option linter.unusedSimpArgs false
set_option linter.unusedSectionVars false
namespace Go.Proofs.YtpgeopefamomnaeGreat
set_option maxRecDepth 100000
structure Cfg where
  cores : Int
  lines : Int
structure Msg where
  kind : Int
  frm : Int
  to : Int
  line : Int
  serial : Int
  turn : Int
  value : Int
  alone : Bool
end Go.Proofs.YtpgeopefamomnaeGreat

namespace Go.Proofs.YtpgeopefamomnaeGreat
set_option maxRecDepth 100000
set_option linter.unusedVariables false
structure SLine where
  state : Int
  value : Int
  want : Int
  serial : Int
  seen : Int
  gave : Int
  given : Int
structure SOp where
  kind : Int
  line : Int
  value : Int
structure SDone where
  core : Int
  op : SOp
  value : Int
structure SEntry where
  value : Int
  owner : Int
  sharers : Int
  phase : Int
  forr : Int
  serial : Int
  alone : Bool
  turn : Int
  need : Int
  last : List Int

/-- An operation on a value: the value then, and what is told. -/
def tellF (v : Int) (o : SOp) : Int × Int :=
  if o.kind = 1 then (v, v) else if o.kind = 2 then (o.value, 0) else if o.kind = 3 then ((v + o.value) % 256, v) else (v, 0)
/-- Whether k is in a set. -/
def hasF (s : Int) (k : Nat) : Bool := decide (s / 2 ^ k % 2 = 1)
def bitF (k : Nat) : Int := 2 ^ k
def needOne (e : SEntry) (p : Nat) : Int := if e.alone = true ∧ (p : Int) ≠ e.forr ∧ hasF e.sharers p = true then bitF p else 0
def needF (e : SEntry) : Int := needOne e 0 + needOne e 1 + needOne e 2 + needOne e 3
def nextF (e : SEntry) : SEntry :=
  if 0 ≤ e.owner then { e with need := 0, phase := 1 } else { e with need := needF e, phase := if needF e = 0 then 3 else 2 }
def lastF (e : SEntry) (p : Nat) : Int := e.last.getD p 0

/-- What a line asks with. -/
def asksF (l : SLine) (id home line : Int) : Msg := { kind := l.want, frm := id, to := home, line := line, serial := l.serial, turn := 0, value := if l.want = 3 then l.value else 0, alone := false }
/-- What a line begins: 0: it is done (what is told behind it); else what it wants. -/
def beginL (l : SLine) (o : SOp) : SLine × Int × Int :=
  if o.kind = 4 then (if l.state = 2 then ({ l with state := 3, want := 3, serial := l.serial + 1 }, 3, 0) else ({ l with state := 0, value := 0 }, 0, 0))
  else if o.kind = 1 then (if l.state = 1 ∨ l.state = 2 then (l, 0, l.value) else ({ l with want := 1, serial := l.serial + 1 }, 1, 0))
  else (if l.state = 2 then ({ l with value := (tellF l.value o).1 }, 0, (tellF l.value o).2) else ({ l with want := 2, serial := l.serial + 1 }, 2, 0))
/-- What a core's line hears: the line then; what it says (kind, turn, value); whether what waits is done, and what it tells. -/
def hearL (l : SLine) (w : SOp) (m : Msg) : SLine × Option (Int × Int × Int) × Option Int :=
  if m.kind = 4 then
    ((if l.seen < m.turn then (if l.state = 1 then { l with seen := m.turn, state := 0, value := 0 } else { l with seen := m.turn }) else l), some (8, m.turn, 0), none)
  else if m.kind = 5 ∨ m.kind = 6 then
    if 0 < m.turn ∧ m.turn = l.gave then (l, some (9, l.gave, l.given), none)
    else if m.turn ≤ l.seen ∨ (l.state ≠ 2 ∧ l.state ≠ 3) then (l, none, none)
    else if l.want = 3 then ({ l with gave := m.turn, seen := m.turn, given := l.value, state := 0, value := 0, want := 0 }, some (9, m.turn, l.value), some 0)
    else if m.kind = 6 then ({ l with gave := m.turn, seen := m.turn, given := l.value, state := 0, value := 0 }, some (9, m.turn, l.value), none)
    else ({ l with gave := m.turn, seen := m.turn, given := l.value, state := 1 }, some (9, m.turn, l.value), none)
  else if m.kind = 7 then
    if l.serial < m.serial then (l, none, none)
    else if m.serial < l.serial ∨ (m.alone = true ∧ l.want ≠ 2) ∨ (m.alone = false ∧ l.want ≠ 1) then (l, some (10, m.turn, 0), none)
    else ({ l with value := (tellF m.value w).1, want := 0, seen := m.turn, state := if m.alone = true then 2 else 1 }, some (10, m.turn, 0), some (tellF m.value w).2)
  else if m.kind = 11 then
    if l.want = 3 ∧ m.serial = l.serial then ({ l with state := 0, value := 0, want := 0 }, none, some 0) else (l, none, none)
  else (l, none, none)

/-- What an entry says in its phase. -/
def saysTo (e : SEntry) (line id : Int) (kind : Int) (to : Int) : Msg := { kind := kind, frm := id, to := to, line := line, serial := 0, turn := e.turn, value := 0, alone := false }
def saysF (e : SEntry) (line id : Int) : List Msg :=
  if e.phase = 1 then [saysTo e line id (if e.alone = true then 6 else 5) e.owner]
  else if e.phase = 2 then ([0, 1, 2, 3].filter (fun p => hasF e.need p)).map (fun p => saysTo e line id 4 (p : Nat))
  else if e.phase = 3 then [{ kind := 7, frm := id, to := e.forr, line := line, serial := e.serial, turn := e.turn, value := e.value, alone := e.alone }]
  else []
/-- What an entry hears of core p, and what it says. -/
def homeL (e : SEntry) (line id : Int) (p : Nat) (m : Msg) : SEntry × List Msg :=
  if m.kind = 1 ∨ m.kind = 2 then
    if e.phase ≠ 0 ∨ m.serial ≤ lastF e p ∨ 65535 ≤ e.turn then (e, [])
    else
      let f := nextF { e with last := e.last.set p m.serial, forr := p, serial := m.serial, alone := decide (m.kind = 2), turn := e.turn + 1 }
      (f, saysF f line id)
  else if m.kind = 3 then
    if e.phase ≠ 0 then (e, [])
    else
      ((if lastF e p < m.serial then (if e.owner = p then { e with last := e.last.set p m.serial, value := m.value, owner := -1 } else { e with last := e.last.set p m.serial }) else e),
        [{ kind := 11, frm := id, to := p, line := line, serial := m.serial, turn := 0, value := 0, alone := false }])
  else if m.kind = 9 then
    if e.phase ≠ 1 ∨ m.turn ≠ e.turn ∨ e.owner ≠ p then (e, [])
    else
      let f := nextF { e with sharers := if e.alone = false ∧ hasF e.sharers p = false then e.sharers + bitF p else e.sharers, value := m.value, owner := -1 }
      (f, saysF f line id)
  else if m.kind = 8 then
    if e.phase ≠ 2 ∨ m.turn ≠ e.turn ∨ hasF e.need p = false then (e, [])
    else
      let g := { e with need := e.need - bitF p, sharers := if hasF e.sharers p = true then e.sharers - bitF p else e.sharers }
      if 0 < g.need then (g, []) else (nextF g, saysF (nextF g) line id)
  else if m.kind = 10 then
    if e.phase ≠ 3 ∨ m.turn ≠ e.turn ∨ e.forr ≠ p then (e, [])
    else
      ((if e.alone = true then { e with owner := e.forr, sharers := 0, phase := 0, forr := 0, serial := 0, alone := false }
        else { e with sharers := if hasF e.sharers p = false then e.sharers + bitF p else e.sharers, phase := 0, forr := 0, serial := 0, alone := false }), [])
  else (e, [])

def flatDo (m : List Int) (o : SOp) : List Int × Int × Int :=
  if o.kind < 1 ∨ 4 < o.kind then ([], 0, 1)
  else if o.line < 0 ∨ (m.length : Int) ≤ o.line ∨ o.value < 0 ∨ 255 < o.value then ([], 0, 3)
  else (m.set o.line.toNat (tellF (m.getD o.line.toNat 0) o).1, (tellF (m.getD o.line.toNat 0) o).2, 0)

theorem has_add : ∀ (s : Fin 16) (p q : Fin 4), hasF (s : Nat) p = false → (hasF ((s : Nat) + bitF p) q = (decide (q = p) || hasF (s : Nat) q) ∧ 0 ≤ ((s : Nat) : Int) + bitF p ∧ ((s : Nat) : Int) + bitF p < 16) := by decide
theorem has_sub : ∀ (s : Fin 16) (p q : Fin 4), hasF (s : Nat) p = true → (hasF ((s : Nat) - bitF p) q = (decide (q ≠ p) && hasF (s : Nat) q) ∧ 0 ≤ ((s : Nat) : Int) - bitF p ∧ ((s : Nat) : Int) - bitF p < 16) := by decide
theorem has_none : ∀ (s : Fin 16), (∀ q : Fin 4, hasF (s : Nat) q = false) → (s : Nat) = 0 := by decide
theorem has_zero : ∀ q : Fin 4, hasF 0 q = false := by decide
def needB (a : Bool) (f : Int) (s : Int) (p : Nat) : Int := if a = true ∧ (p : Int) ≠ f ∧ hasF s p = true then bitF p else 0
theorem has_need : ∀ (a : Bool) (f : Fin 4) (s : Fin 16) (q : Fin 4), hasF (needB a (f : Nat) (s : Nat) 0 + needB a (f : Nat) (s : Nat) 1 + needB a (f : Nat) (s : Nat) 2 + needB a (f : Nat) (s : Nat) 3) q = (a && decide (q ≠ f) && hasF (s : Nat) q) := by decide
theorem need_lt : ∀ (a : Bool) (f : Fin 4) (s : Fin 16), 0 ≤ needB a (f : Nat) (s : Nat) 0 + needB a (f : Nat) (s : Nat) 1 + needB a (f : Nat) (s : Nat) 2 + needB a (f : Nat) (s : Nat) 3 ∧ needB a (f : Nat) (s : Nat) 0 + needB a (f : Nat) (s : Nat) 1 + needB a (f : Nat) (s : Nat) 2 + needB a (f : Nat) (s : Nat) 3 < 16 := by decide
end Go.Proofs.YtpgeopefamomnaeGreat

