/- DTell DHear DHome0. -/
import Derived.Test.YtpgeopefamomnaeRA
import Derived.Test.YtpgeopefamomnaePG
import Derived.Test.YtpgeopefamomnaeRE
set_option linter.unusedSimpArgs false
set_option linter.unusedSectionVars false
namespace Go.Proofs.Ytpgeopefamomnae
open Go.RowKit
set_option linter.unusedVariables false
set_option maxRecDepth 100000
def intsR (es : Row) : List Int := es.map fun u => (u.getD 0 dz).toI
theorem intsR_rows (m : List Int) : intsR (rowsI m) = m := by
  unfold intsR rowsI
  rw [List.map_map]
  simp [Function.comp_def, DV.toI]
/-- One row that holds v at i. -/
def one (n i : Nat) (v : Int) : List Int := (List.replicate n 0).set i v
end Go.Proofs.Ytpgeopefamomnae

namespace Go.Proofs.Ytpgeopefamomnae
open Go.RowKit
set_option linter.unusedVariables false
set_option maxRecDepth 100000
def dnD (d : SDone) : List DV := doneD d.core d.op d.value
def hearV (L : Row) (w : SOp) (id home : Int) (m : Msg) (r : SLine × Option (Int × Int × Int) × Option Int) : AV := .tup [.agg (coreC (L.set m.line.toNat (lineD r.1)) (if r.2.2.isSome = true then SOp.zero else w)), Ro (R msgD ((r.2.1.map (coreMsg id home m.line)).toList)), Ro (R dnD ((r.2.2.map (fun v => (⟨id, w, v⟩ : SDone))).toList))]
end Go.Proofs.Ytpgeopefamomnae

namespace Go.Proofs.Ytpgeopefamomnae
open Go.RowKit
set_option linter.unusedVariables false
set_option maxRecDepth 100000
theorem toR_row (es : Row) : (DV.row es).toR = es := rfl
theorem typed_int1 {X : DV} {x : Int} (h : X = J x) : typed (I 0) X = .d X := by rw [h]; rfl
theorem rowsI_one (l : List Int) (u : List DV) (h : u ∈ rowsI l) : u.length = 1 := by
  simp [rowsI] at h
  obtain ⟨a, _, rfl⟩ := h
  rfl
theorem rowsI_set (l : List Int) (i : Nat) (x : Int) : (rowsI l).set i [J x] = rowsI (l.set i x) := by simp [rowsI, List.map_set]
theorem next_last (e : SEntry) (l : List Int) : nextF { e with last := l } = { nextF e with last := l } := by
  unfold nextF
  by_cases h : 0 ≤ e.owner
  · rw [if_pos h, if_pos h]
  · rw [if_neg h, if_neg h]
    rfl
def entX (e : SEntry) (es : Row) : List DV := [J e.value, J e.owner, J e.sharers, J e.phase, J e.forr, J e.serial, .bool e.alone, J e.turn, J e.need, .row es]
theorem ansH {A : AV} {L : Row} {i : Nat} {X r : SEntry × List Msg} (e : SEntry) (es : Row) (ms : List Msg) (hr : X = r) (hb : X = (e, ms)) (hA : A = AV.tup [Ro (L.set i (entX e es)), Ro (R msgD ms)]) (h : es = rowsI e.last) : A = AV.tup [Ro (L.set i (entD r.1)), Ro (R msgD r.2)] := by
  subst h
  subst hr
  rw [hb, hA]
  rfl
theorem sub_rng {s : Int} {p : Nat} (h0 : 0 ≤ s) (h1 : s < 16) (hp : p < 4) (h : hasF s p = true) : 0 ≤ s - bitF p ∧ s - bitF p < 16 := by
  obtain ⟨a, rfl⟩ := Int.eq_ofNat_of_zero_le h0
  exact (has_sub ⟨a, by omega⟩ ⟨p, hp⟩ ⟨p, hp⟩ h).2
theorem bne_t {a b : Int} (h : (a != b) = true) : b ≠ a := by
  intro e
  subst e
  simp at h
theorem bne_f {a b : Int} (h : (a != b) = false) : b = a := by
  have h1 : a = b := by simpa using h
  exact h1.symm
theorem bne_f2 {a b : Int} (h : ((a != b) == false) = true) : a = b := by simpa using h
section
variable {v o s ph f sr t n frm to ln serial turn value line id : Int} {al ma : Bool} {la : List Int} {p : Nat}
theorem home_get (k : Int) (hk : k = 1 ∨ k = 2) (h1 : ph = 0) (h2 : la.getD p 0 < serial) (h3 : t < 65535) : homeL ⟨v, o, s, ph, f, sr, al, t, n, la⟩ line id p ⟨k, frm, to, ln, serial, turn, value, ma⟩ = ({ nextF ⟨v, o, s, ph, p, serial, decide (k = 2), t + 1, n, []⟩ with last := la.set p serial }, saysF (nextF ⟨v, o, s, ph, p, serial, decide (k = 2), t + 1, n, []⟩) line id) := by
  unfold homeL lastF
  rw [if_pos (show _ ∨ _ from hk), if_neg (by show ¬ (ph ≠ 0 ∨ serial ≤ la.getD p 0 ∨ 65535 ≤ t); omega)]
  have h := next_last ⟨v, o, s, ph, p, serial, decide (k = 2), t + 1, n, []⟩ (la.set p serial)
  show (nextF { (⟨v, o, s, ph, p, serial, decide (k = 2), t + 1, n, []⟩ : SEntry) with last := la.set p serial }, saysF (nextF { (⟨v, o, s, ph, p, serial, decide (k = 2), t + 1, n, []⟩ : SEntry) with last := la.set p serial }) line id) = _
  rw [h]
  rfl
theorem home_put (h1 : ph = 0) : homeL ⟨v, o, s, ph, f, sr, al, t, n, la⟩ line id p ⟨3, frm, to, ln, serial, turn, value, ma⟩ = (if la.getD p 0 < serial then (if o = p then ⟨value, -1, s, ph, f, sr, al, t, n, la.set p serial⟩ else ⟨v, o, s, ph, f, sr, al, t, n, la.set p serial⟩) else ⟨v, o, s, ph, f, sr, al, t, n, la⟩, [{ kind := 11, frm := id, to := p, line := line, serial := serial, turn := 0, value := 0, alone := false }]) := by
  unfold homeL lastF
  rw [if_neg (by simp), if_pos rfl, if_neg (by show ¬ ph ≠ 0; omega)]
theorem home_data (h1 : ph = 1) (h2 : turn = t) (h3 : o = p) : homeL ⟨v, o, s, ph, f, sr, al, t, n, la⟩ line id p ⟨9, frm, to, ln, serial, turn, value, ma⟩ = ({ nextF ⟨value, -1, if al = false ∧ hasF s p = false then s + bitF p else s, ph, f, sr, al, t, n, []⟩ with last := la }, saysF (nextF ⟨value, -1, if al = false ∧ hasF s p = false then s + bitF p else s, ph, f, sr, al, t, n, []⟩) line id) := by
  unfold homeL
  rw [if_neg (by simp), if_neg (by simp), if_pos rfl, if_neg (by show ¬ (ph ≠ 1 ∨ turn ≠ t ∨ o ≠ p); omega)]
  have h := next_last ⟨value, -1, if al = false ∧ hasF s p = false then s + bitF p else s, ph, f, sr, al, t, n, []⟩ la
  show (nextF { (⟨value, -1, if al = false ∧ hasF s p = false then s + bitF p else s, ph, f, sr, al, t, n, []⟩ : SEntry) with last := la }, saysF (nextF { (⟨value, -1, if al = false ∧ hasF s p = false then s + bitF p else s, ph, f, sr, al, t, n, []⟩ : SEntry) with last := la }) line id) = _
  rw [h]
  rfl
theorem home_gone (h1 : ph = 2) (h2 : turn = t) (h3 : hasF n p = true) : homeL ⟨v, o, s, ph, f, sr, al, t, n, la⟩ line id p ⟨8, frm, to, ln, serial, turn, value, ma⟩ = if 0 < n - bitF p then (⟨v, o, if hasF s p = true then s - bitF p else s, ph, f, sr, al, t, n - bitF p, la⟩, []) else ({ nextF ⟨v, o, if hasF s p = true then s - bitF p else s, ph, f, sr, al, t, n - bitF p, []⟩ with last := la }, saysF (nextF ⟨v, o, if hasF s p = true then s - bitF p else s, ph, f, sr, al, t, n - bitF p, []⟩) line id) := by
  unfold homeL
  rw [if_neg (by simp), if_neg (by simp), if_neg (by simp), if_pos rfl, if_neg (by show ¬ (ph ≠ 2 ∨ turn ≠ t ∨ hasF n p = false); rw [h3]; simp; omega)]
  show (if 0 < n - bitF p then _ else _) = _
  congr 1
  have h := next_last ⟨v, o, if hasF s p = true then s - bitF p else s, ph, f, sr, al, t, n - bitF p, []⟩ la
  show (nextF { (⟨v, o, if hasF s p = true then s - bitF p else s, ph, f, sr, al, t, n - bitF p, []⟩ : SEntry) with last := la }, saysF (nextF { (⟨v, o, if hasF s p = true then s - bitF p else s, ph, f, sr, al, t, n - bitF p, []⟩ : SEntry) with last := la }) line id) = _
  rw [h]
  rfl
theorem home_thanks (h1 : ph = 3) (h2 : turn = t) (h3 : f = p) : homeL ⟨v, o, s, ph, f, sr, al, t, n, la⟩ line id p ⟨10, frm, to, ln, serial, turn, value, ma⟩ = (if al = true then ⟨v, f, 0, 0, 0, 0, false, t, n, la⟩ else ⟨v, o, if hasF s p = false then s + bitF p else s, 0, 0, 0, false, t, n, la⟩, []) := by
  unfold homeL
  rw [if_neg (by simp), if_neg (by simp), if_neg (by simp), if_neg (by simp), if_pos rfl, if_neg (by show ¬ (ph ≠ 3 ∨ turn ≠ t ∨ f ≠ p); omega)]
end
end Go.Proofs.Ytpgeopefamomnae

