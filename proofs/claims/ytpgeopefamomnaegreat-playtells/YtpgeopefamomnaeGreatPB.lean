/- Math Sumsb Wrongsb Parsesb Parseb Bytesb Turnb Factsb. -/
import Derived.Laws.BitsAllLaws
import Derived.WalkKit
import Derived.WalkSpells
import Derived.WalkLawsBesides
import Derived.Test.YtpgeopefamomnaeGreatProg
import Derived.Test.YtpgeopefamomnaeGreatPA
import Derived.Deep.QuietTactic
import Derived.BigQuiet
import Derived.StillTail
import Derived.Handy
import Derived.Deep.RegionHeld3
import Derived.Deep.DrawnRows
import Derived.Laws.CopyOwn
set_option linter.unusedSimpArgs false
set_option linter.unusedSectionVars false
namespace Go.Proofs.YtpgeopefamomnaeGreat
set_option maxRecDepth 100000
open Go
set_option linter.unusedVariables false
theorem wrap_i64 (n : Int) (h0 : 0 ≤ n) (h1 : n < 9223372036854775808) : IntKind.i64.wrap n = n := by
  simp [IntKind.wrap, IntKind.bits, IntKind.signed]; omega
theorem ofInt_i64 (a : Nat) (ha : a < 9223372036854775808) : (BitVec.ofInt IntKind.i64.bits (a : Int)).toNat = a := by
  show (BitVec.ofInt 64 (a : Int)).toNat = a
  simp; omega
theorem and_i64 (a b : Nat) (ha : a < 9223372036854775808) (hb : b < 9223372036854775808) : bits .and .i64 (a : Int) (b : Int) = ((a &&& b : Nat) : Int) := by
  unfold bits
  simp only [BitVec.toNat_and]
  rw [ofInt_i64 a ha, ofInt_i64 b hb, wrap_i64 _ (by omega)]
  have : a &&& b ≤ a := Nat.and_le_left
  omega
theorem or_i64 (a b : Nat) (ha : a < 9223372036854775808) (hb : b < 9223372036854775808) : bits .or .i64 (a : Int) (b : Int) = ((a ||| b : Nat) : Int) := by
  unfold bits
  simp only [BitVec.toNat_or]
  rw [ofInt_i64 a ha, ofInt_i64 b hb, wrap_i64 _ (by omega)]
  have : a ||| b < 2 ^ 63 := Nat.or_lt_two_pow (by omega) (by omega)
  omega
theorem xor_i64 (a b : Nat) (ha : a < 9223372036854775808) (hb : b < 9223372036854775808) : bits .xor .i64 (a : Int) (b : Int) = ((a ^^^ b : Nat) : Int) := by
  unfold bits
  simp only [BitVec.toNat_xor]
  rw [ofInt_i64 a ha, ofInt_i64 b hb, wrap_i64 _ (by omega)]
  have : a ^^^ b < 2 ^ 63 := Nat.xor_lt_two_pow (by omega) (by omega)
  omega
/-- One bit of the sum. -/
def cstep (s b : Nat) : Nat := if s / 32768 = b then s * 2 % 65536 else (s * 2 % 65536) ^^^ 4129
/-- k bits of x, from the highest one on. -/
def cbits : Nat → Nat → Nat → Nat
  | s, _, 0 => s
  | s, x, k + 1 => cbits (cstep s (x / 2 ^ k % 2)) x k
def cbyte (s x : Nat) : Nat := cbits s x 8
def csum (s : Nat) (l : List Nat) : Nat := l.foldl cbyte s
theorem cstep_bd (s b : Nat) : cstep s b < 65536 := by
  unfold cstep
  have : (s * 2 % 65536) ^^^ 4129 < 2 ^ 16 := Nat.xor_lt_two_pow (by omega) (by omega)
  split <;> omega
theorem cbits_bd (k : Nat) : ∀ s x, s < 65536 → cbits s x k < 65536 := by
  induction k with
  | zero => intro s x h; exact h
  | succ k ih => intro s x h; exact ih _ _ (cstep_bd _ _)
theorem cbyte_bd (s x : Nat) (h : s < 65536) : cbyte s x < 65536 := cbits_bd 8 s x h
theorem csum_bd (l : List Nat) : ∀ s, s < 65536 → csum s l < 65536 := by
  induction l with
  | nil => intro s h; exact h
  | cons x l ih => intro s h; exact ih _ (cbyte_bd _ _ h)
theorem xor_odd (a : Nat) : (a ^^^ 4129) % 2 = (a + 1) % 2 := by
  have := Nat.xor_mod_two_pow (a := a) (b := 4129) (n := 1)
  simp at this
  rw [this]
  have h : a % 2 = 0 ∨ a % 2 = 1 := by omega
  rcases h with h | h <;> rw [h] <;> simp <;> omega
theorem xor_cancel {a b c : Nat} (h : a ^^^ c = b ^^^ c) : a = b := by
  have := congrArg (· ^^^ c) h
  simpa [Nat.xor_assoc] using this
theorem cstep_inj {s t b : Nat} (hs : s < 65536) (ht : t < 65536) (hb : b < 2) (h : cstep s b = cstep t b) : s = t := by
  unfold cstep at h
  have o1 := xor_odd (s * 2 % 65536)
  have o2 := xor_odd (t * 2 % 65536)
  by_cases h1 : s / 32768 = b <;> by_cases h2 : t / 32768 = b
  · rw [if_pos h1, if_pos h2] at h; omega
  · rw [if_pos h1, if_neg h2] at h; omega
  · rw [if_neg h1, if_pos h2] at h; omega
  · rw [if_neg h1, if_neg h2] at h
    have := xor_cancel h
    omega
theorem cstep_ne {s b c : Nat} (hs : s < 65536) (hb : b < 2) (hc : c < 2) (hbc : b ≠ c) : cstep s b ≠ cstep s c := by
  intro h
  unfold cstep at h
  have o1 := xor_odd (s * 2 % 65536)
  by_cases h1 : s / 32768 = b <;> by_cases h2 : s / 32768 = c
  · omega
  · rw [if_pos h1, if_neg h2] at h; omega
  · rw [if_neg h1, if_pos h2] at h; omega
  · omega
theorem cbits_inj (k : Nat) : ∀ s t x, s < 65536 → t < 65536 → cbits s x k = cbits t x k → s = t := by
  induction k with
  | zero => intro s t x _ _ h; exact h
  | succ k ih => intro s t x hs ht h; exact cstep_inj hs ht (by omega) (ih _ _ x (cstep_bd _ _) (cstep_bd _ _) h)
theorem cbits_ne (k : Nat) : ∀ s x y, s < 65536 → (∃ j, j < k ∧ x / 2 ^ j % 2 ≠ y / 2 ^ j % 2 ∧ ∀ i, i < k → i ≠ j → x / 2 ^ i % 2 = y / 2 ^ i % 2) → cbits s x k ≠ cbits s y k := by
  have same : ∀ k s x y, (∀ i, i < k → x / 2 ^ i % 2 = y / 2 ^ i % 2) → cbits s x k = cbits s y k := by
    intro k
    induction k with
    | zero => intro s x y _; rfl
    | succ k ih => intro s x y h; unfold cbits; rw [h k (by omega)]; exact ih _ _ _ fun i hi => h i (by omega)
  induction k with
  | zero => intro s x y _ ⟨j, hj, _⟩; omega
  | succ k ih =>
    intro s x y hs ⟨j, hj, hd, he⟩
    unfold cbits
    by_cases hjk : j = k
    · subst hjk
      rw [same j _ x y fun i hi => he i (by omega) (by omega)]
      intro h
      exact cstep_ne hs (by omega) (by omega) hd (cbits_inj _ _ _ _ (cstep_bd _ _) (cstep_bd _ _) h)
    · rw [he k (by omega) (by omega)]
      exact ih _ _ _ (cstep_bd _ _) ⟨j, by omega, hd, fun i hi => he i (by omega)⟩
theorem csum_inj (l : List Nat) : ∀ s t, s < 65536 → t < 65536 → csum s l = csum t l → s = t := by
  induction l with
  | nil => intro s t _ _ h; exact h
  | cons x l ih => intro s t hs ht h; exact cbits_inj 8 _ _ x hs ht (ih _ _ (cbyte_bd _ _ hs) (cbyte_bd _ _ ht) h)
/-- One byte turned in one bit gives another sum. -/
theorem csum_ne (l r : List Nat) (s x y : Nat) (hs : s < 65536) (h : cbyte (csum s l) x ≠ cbyte (csum s l) y) : csum s (l ++ x :: r) ≠ csum s (l ++ y :: r) := by
  intro e
  unfold csum at e
  simp only [List.foldl_append, List.foldl_cons] at e
  exact h (csum_inj r _ _ (cbyte_bd _ _ (csum_bd l s hs)) (cbyte_bd _ _ (csum_bd l s hs)) e)
end Go.Proofs.YtpgeopefamomnaeGreat

namespace Go.Proofs.YtpgeopefamomnaeGreat
set_option maxRecDepth 100000
open Go.RowKit
set_option linter.unusedVariables false
theorem and_mask16 (s : Nat) (hs : s < 65536) : bits .and .i64 ((s : Int) * 2) 65535 = ((s * 2 % 65536 : Nat) : Int) := by
  have := and_i64 (s * 2) 65535 (by omega) (by omega)
  rw [Int.natCast_mul] at this
  rw [show ((2 : Nat) : Int) = 2 from rfl, show ((65535 : Nat) : Int) = 65535 from rfl] at this
  rw [this, Nat.and_two_pow_sub_one_eq_mod (s * 2) 16]
theorem and_one (n : Nat) (h : n < 9223372036854775808) : bits .and .i64 (n : Int) 1 = ((n % 2 : Nat) : Int) := by
  have := and_i64 n 1 h (by omega)
  rw [show ((1 : Nat) : Int) = 1 from rfl] at this
  rw [this, nat_mask1]
/-- A slice of bytes of which cell i holds the i-th number of xs. -/
def BRow (w : World) (b off : Nat) (xs : List Nat) : Prop := ∀ i, i < xs.length → w.cell? ⟨b, off + i, none⟩ = some (.int .u8 (xs.getD i 0 : Nat))
def isBytes (xs : List Nat) : Prop := ∀ i, i < xs.length → xs.getD i 0 < 256
theorem csum_snoc (s : Nat) (xs : List Nat) (k : Nat) (h : k < xs.length) : csum s (xs.take (k + 1)) = cbyte (csum s (xs.take k)) (xs.getD k 0) := by
  rw [List.take_succ_eq_append_getElem h]
  unfold csum
  rw [List.foldl_append]
  simp [List.getD, h]
end Go.Proofs.YtpgeopefamomnaeGreat

namespace Go.Proofs.YtpgeopefamomnaeGreat
set_option maxRecDepth 100000
open Go.RowKit
set_option linter.unusedVariables false
def Cfg.val (c : Cfg) : Value := .agg #[.int .i64 c.cores, .int .i64 c.lines]
def Msg.val (m : Msg) : Value := .agg #[.int .i64 m.kind, .int .i64 m.frm, .int .i64 m.to, .int .i64 m.line, .int .i64 m.serial, .int .i64 m.turn, .int .i64 m.value, .bool m.alone]
def upB (n m : Int) : Bool := decide (0 ≤ n) && decide (n ≤ m)
def rangeB (c : Cfg) (m : Msg) : Bool :=
  upB m.frm c.cores && (upB m.to c.cores && (decide (0 ≤ m.line) && (decide (m.line < c.lines) && (upB m.serial 65535 && (upB m.turn 65535 && upB m.value 255)))))
def wrongF (c : Cfg) (m : Msg) : Int :=
  if m.kind < 1 ∨ 11 < m.kind then 1 else if rangeB c m = false then 3 else if (m.frm == c.cores) = (m.to == c.cores) then 6 else 0
theorem wrong_1 {c : Cfg} {m : Msg} (h : m.kind < 1 ∨ 11 < m.kind) : wrongF c m = 1 := by unfold wrongF; rw [if_pos h]
theorem wrong_2 {c : Cfg} {m : Msg} (h : 1 ≤ m.kind ∧ m.kind ≤ 11) (h1 : (!rangeB c m) = true) : wrongF c m = 3 := by
  unfold wrongF; rw [if_neg (by omega), if_pos (by simpa using h1)]
theorem wrong_3 {c : Cfg} {m : Msg} (h : 1 ≤ m.kind ∧ m.kind ≤ 11) (h1 : (!rangeB c m) = false) (h2 : ((m.frm == c.cores) == (m.to == c.cores)) = true) : wrongF c m = 6 := by
  unfold wrongF; rw [if_neg (by omega), if_neg (by simpa using h1), if_pos (by simpa using h2)]
theorem wrong_4 {c : Cfg} {m : Msg} (h : 1 ≤ m.kind ∧ m.kind ≤ 11) (h1 : (!rangeB c m) = false) (h2 : ((m.frm == c.cores) == (m.to == c.cores)) = false) : wrongF c m = 0 := by
  unfold wrongF; rw [if_neg (by omega), if_neg (by simpa using h1), if_neg (by simpa using h2)]
end Go.Proofs.YtpgeopefamomnaeGreat

namespace Go.Proofs.YtpgeopefamomnaeGreat
set_option maxRecDepth 100000
open Go.RowKit
set_option linter.unusedVariables false
theorem or_pair (x y : Nat) (hx : x < 256) (hy : y < 256) : bits .or .i64 ((x : Int) * 256) (y : Int) = ((x * 256 + y : Nat) : Int) := by
  have := or_i64 (x * 256) y (by omega) (by omega)
  rw [Int.natCast_mul] at this
  rw [show ((256 : Nat) : Int) = 256 from rfl] at this
  rw [this, nat_join 8 (x * 256) y (by omega) (by omega)]
/-- The message that twelve bytes hold. -/
def readF (xs : List Nat) : Msg := { kind := (xs.getD 0 0 : Nat), frm := (xs.getD 1 0 / 16 : Nat), to := (xs.getD 1 0 % 16 : Nat), line := (xs.getD 2 0 : Nat), serial := (xs.getD 3 0 * 256 + xs.getD 4 0 : Nat), turn := (xs.getD 5 0 * 256 + xs.getD 6 0 : Nat), value := (xs.getD 7 0 : Nat), alone := ((xs.getD 8 0 : Nat) : Int) == 1 }
theorem and15_u8 (x : Nat) (hx : x < 256) : bits .and .u8 (x : Int) 15 = ((x % 16 : Nat) : Int) := by
  have := u8_and_nat x 15 hx (by omega)
  rw [show ((15 : Nat) : Int) = 15 from rfl] at this
  rw [this, nat_mask4]
end Go.Proofs.YtpgeopefamomnaeGreat

namespace Go.Proofs.YtpgeopefamomnaeGreat
set_option maxRecDepth 100000
open Go.RowKit
set_option linter.unusedVariables false
def Msg.zero : Msg := { kind := 0, frm := 0, to := 0, line := 0, serial := 0, turn := 0, value := 0, alone := false }
def sumBad (xs : List Nat) : Bool := (csum 65535 (xs.take 10) : Int) != ((xs.getD 10 0 * 256 + xs.getD 11 0 : Nat) : Int)
def parseF (c : Cfg) (xs : List Nat) : Msg × Int :=
  if xs.length ≠ 12 then (Msg.zero, 2)
  else if sumBad xs = true then (Msg.zero, 7)
  else if 1 < xs.getD 8 0 ∨ xs.getD 9 0 ≠ 0 then (Msg.zero, 2)
  else if wrongF c (readF xs) ≠ 0 then (Msg.zero, wrongF c (readF xs))
  else (readF xs, 0)
theorem parseF_short {c : Cfg} {xs : List Nat} (h : xs.length ≠ 12) : parseF c xs = (Msg.zero, 2) := by unfold parseF; rw [if_pos h]
end Go.Proofs.YtpgeopefamomnaeGreat

namespace Go.Proofs.YtpgeopefamomnaeGreat
set_option maxRecDepth 100000
open Go.RowKit
set_option linter.unusedVariables false
def flagN (b : Bool) : Nat := if b then 1 else 0
theorem nodes_val (f t : Nat) (hf : f < 16) (ht : t < 16) : bits .or .i64 (bits .and .i64 (f : Int) 15 * 16) (bits .and .i64 (t : Int) 15) = ((f * 16 + t : Nat) : Int) := by
  have h1 := and_i64 f 15 (by omega) (by omega)
  have h2 := and_i64 t 15 (by omega) (by omega)
  rw [show ((15 : Nat) : Int) = 15 from rfl] at h1 h2
  rw [h1, h2, nat_mask4, nat_mask4, Nat.mod_eq_of_lt hf, Nat.mod_eq_of_lt ht]
  have h3 := or_i64 (f * 16) t (by omega) (by omega)
  rw [Int.natCast_mul, show ((16 : Nat) : Int) = 16 from rfl] at h3
  rw [h3, nat_join 4 (f * 16) t (by omega) (by omega)]
end Go.Proofs.YtpgeopefamomnaeGreat

namespace Go.Proofs.YtpgeopefamomnaeGreat
set_option maxRecDepth 100000
open Go.RowKit
set_option linter.unusedVariables false
def u8s (xs : List Nat) : List Value := xs.map fun x => .int .u8 (x : Nat)
theorem u8s_get (xs : List Nat) (i : Nat) (h : i < xs.length) : (u8s xs)[i]? = some (.int .u8 (xs.getD i 0 : Nat)) := by
  simp [u8s, List.getD, h]
/-- Block g is a row of its own: the bytes xs and no more. -/
def Own (w : World) (g : Nat) (xs : List Nat) : Prop := w.heap[g]? = some (.cells (u8s xs).toArray 5 (0, 0))
theorem Own.row {w : World} {g : Nat} {xs : List Nat} (h : Own w g xs) : BRow w g 0 xs := fun i hi => by
  unfold Own at h
  have := u8s_get xs i hi
  simp only [World.cell?, h, Nat.zero_add]
  simpa using this
theorem Own.set {w : World} {g k y : Nat} {xs : List Nat} (h : Own w g xs) : Own (w.setCell ⟨g, k, none⟩ (.int .u8 (y : Nat))) g (xs.set k y) := by
  unfold Own at *
  obtain ⟨hlt, hv⟩ := Array.getElem?_eq_some_iff.1 h
  simp only [World.setCell]
  rw [Array.getElem?_modify, if_pos rfl, h]
  simp [u8s, List.map_set]
theorem xor_val (x j : Nat) (hx : x < 256) (h0 : 0 ≤ (j : Int)) (h1 : j < 8) : bits .xor .u8 (x : Int) (2 ^ j % 256) = ((x ^^^ 2 ^ j : Nat) : Int) := by
  have hp : 2 ^ j < 256 := Nat.lt_of_lt_of_le (Nat.pow_lt_pow_right (by omega) h1) (by decide)
  have := u8_xor_nat x (2 ^ j) hx hp
  rw [← this]
  congr 1
  rw [show ((2 : Int) ^ j) = ((2 ^ j : Nat) : Int) by simp]
  generalize 2 ^ j = p at hp
  omega
def turnF (xs : List Nat) (bit : Int) : List Nat :=
  if 0 ≤ bit ∧ bit / 8 < xs.length then xs.set (bit / 8).toNat (xs.getD (bit / 8).toNat 0 ^^^ 2 ^ (bit % 8).toNat) else xs
end Go.Proofs.YtpgeopefamomnaeGreat

namespace Go.Proofs.YtpgeopefamomnaeGreat
set_option maxRecDepth 100000
open Go.RowKit
set_option linter.unusedVariables false
structure Fit (m : Msg) : Prop where
  kind0 : 0 ≤ m.kind
  kind1 : m.kind < 256
  frm0 : 0 ≤ m.frm
  frm1 : m.frm < 16
  to0 : 0 ≤ m.to
  to1 : m.to < 16
  line0 : 0 ≤ m.line
  line1 : m.line < 256
  serial0 : 0 ≤ m.serial
  serial1 : m.serial < 65536
  turn0 : 0 ≤ m.turn
  turn1 : m.turn < 65536
  value0 : 0 ≤ m.value
  value1 : m.value < 256
def headF (m : Msg) : List Nat := [m.kind.toNat, m.frm.toNat * 16 + m.to.toNat, m.line.toNat, m.serial.toNat / 256, m.serial.toNat % 256, m.turn.toNat / 256, m.turn.toNat % 256, m.value.toNat, flagN m.alone, 0]
def bytesF (m : Msg) : List Nat := headF m ++ [csum 65535 (headF m) / 256, csum 65535 (headF m) % 256]
theorem bytesF_length (m : Msg) : (bytesF m).length = 12 := rfl
theorem flagN_lt (b : Bool) : flagN b < 2 := by cases b <;> decide
theorem bytesF_isBytes (m : Msg) (h : Fit m) : isBytes (bytesF m) := by
  have := csum_bd (headF m) 65535 (by omega)
  have hf := flagN_lt m.alone
  obtain ⟨h1, h2, h3, h4, h5, h6, h7, h8, h9, h10, h11, h12, h13, h14⟩ := h
  intro i hi
  match i, hi with
  | 0, _ => show m.kind.toNat < 256; omega
  | 1, _ => show m.frm.toNat * 16 + m.to.toNat < 256; omega
  | 2, _ => show m.line.toNat < 256; omega
  | 3, _ => show m.serial.toNat / 256 < 256; omega
  | 4, _ => show m.serial.toNat % 256 < 256; omega
  | 5, _ => show m.turn.toNat / 256 < 256; omega
  | 6, _ => show m.turn.toNat % 256 < 256; omega
  | 7, _ => show m.value.toNat < 256; omega
  | 8, _ => show flagN m.alone < 256; omega
  | 9, _ => show 0 < 256; omega
  | 10, _ => show csum 65535 (headF m) / 256 < 256; omega
  | 11, _ => show csum 65535 (headF m) % 256 < 256; omega
theorem readF_bytesF (m : Msg) (h : Fit m) : readF (bytesF m) = m := by
  obtain ⟨kind, frm, to, line, serial, turn, value, alone⟩ := m
  obtain ⟨h1, h2, h3, h4, h5, h6, h7, h8, h9, h10, h11, h12, h13, h14⟩ := h
  simp only at h1 h2 h3 h4 h5 h6 h7 h8 h9 h10 h11 h12 h13 h14
  have e : readF (bytesF ⟨kind, frm, to, line, serial, turn, value, alone⟩) = { kind := (kind.toNat : Nat), frm := ((frm.toNat * 16 + to.toNat) / 16 : Nat), to := ((frm.toNat * 16 + to.toNat) % 16 : Nat), line := (line.toNat : Nat), serial := (serial.toNat / 256 * 256 + serial.toNat % 256 : Nat), turn := (turn.toNat / 256 * 256 + turn.toNat % 256 : Nat), value := (value.toNat : Nat), alone := ((flagN alone : Nat) : Int) == 1 } := rfl
  rw [e]
  congr 1
  any_goals omega
  cases alone <;> rfl
theorem sumBad_bytesF (m : Msg) : sumBad (bytesF m) = false := by
  have : sumBad (bytesF m) = ((csum 65535 (headF m) : Int) != ((csum 65535 (headF m) / 256 * 256 + csum 65535 (headF m) % 256 : Nat) : Int)) := rfl
  rw [this]
  simp only [bne_eq_false_iff_eq]
  omega
theorem parse_bytesF (c : Cfg) (m : Msg) (h : Fit m) (hw : wrongF c m = 0) : parseF c (bytesF m) = (m, 0) := by
  unfold parseF
  rw [if_neg (by simp [bytesF_length]), sumBad_bytesF, if_neg (by simp), readF_bytesF m h, hw]
  rw [if_neg (by
    show ¬ (1 < flagN m.alone ∨ 0 ≠ 0)
    have := flagN_lt m.alone
    omega)]
  simp
theorem bit_ne (x j : Nat) : ∃ i, i = j ∧ x / 2 ^ i % 2 ≠ (x ^^^ 2 ^ j) / 2 ^ i % 2 ∧ ∀ i, i ≠ j → x / 2 ^ i % 2 = (x ^^^ 2 ^ j) / 2 ^ i % 2 := by
  have key : ∀ i, ((x ^^^ 2 ^ j) / 2 ^ i % 2 = 1) ↔ ((x / 2 ^ i % 2 = 1) ↔ ¬ i = j) := by
    intro i
    have h1 : (x ^^^ 2 ^ j).testBit i = (x.testBit i ^^ (2 ^ j).testBit i) := Nat.testBit_xor ..
    rw [Nat.testBit_two_pow] at h1
    rw [Nat.testBit_eq_decide_div_mod_eq, Nat.testBit_eq_decide_div_mod_eq] at h1
    by_cases hij : i = j
    · subst hij
      by_cases hx : x / 2 ^ i % 2 = 1 <;> simp [hx] at h1 ⊢ <;> omega
    · by_cases hx : x / 2 ^ i % 2 = 1
      · simp [hx, hij, Ne.symm hij] at h1 ⊢; omega
      · simp [hx, hij, Ne.symm hij] at h1 ⊢; omega
  refine ⟨j, rfl, fun e => ?_, fun i hi => ?_⟩
  · have := key j
    simp at this
    omega
  · have := key i
    simp [hi] at this
    omega
theorem cbyte_ne (s x j : Nat) (hs : s < 65536) (hj : j < 8) : cbyte s x ≠ cbyte s (x ^^^ 2 ^ j) := by
  obtain ⟨i, rfl, h1, h2⟩ := bit_ne x j
  exact cbits_ne 8 s x (x ^^^ 2 ^ i) hs ⟨i, hj, h1, fun k _ hk => h2 k hk⟩
theorem xor_ne (x j : Nat) : x ^^^ 2 ^ j ≠ x := by
  intro h
  obtain ⟨i, rfl, h1, _⟩ := bit_ne x j
  rw [h] at h1
  exact h1 rfl
theorem xor_lt (x j : Nat) (hx : x < 256) (hj : j < 8) : x ^^^ 2 ^ j < 256 := by
  have hp : 2 ^ j < 256 := Nat.lt_of_lt_of_le (Nat.pow_lt_pow_right (by omega) hj) (by decide)
  exact Nat.xor_lt_two_pow (n := 8) hx hp
/-- One bit of a frame turned: its sum isn't that of its bytes. -/
theorem sumBad_turn (m : Msg) (bit : Int) (h0 : 0 ≤ bit) (h1 : bit < 96) : sumBad (turnF (bytesF m) bit) = true := by
  have hlen := bytesF_length m
  have hc : 0 ≤ bit ∧ bit / 8 < (bytesF m).length := by rw [hlen]; omega
  unfold turnF
  rw [if_pos hc]
  obtain ⟨k, hk⟩ : ∃ k, k = (bit / 8).toNat := ⟨_, rfl⟩
  obtain ⟨j, hj⟩ : ∃ j, j = (bit % 8).toNat := ⟨_, rfl⟩
  rw [← hk, ← hj]
  have hj8 : j < 8 := by omega
  have hk12 : k < 12 := by omega
  have hsb := csum_bd (headF m) 65535 (by omega)
  unfold sumBad
  rw [bne_iff_ne]
  by_cases hk10 : k < 10
  · have e1 : ((bytesF m).set k ((bytesF m).getD k 0 ^^^ 2 ^ j)).take 10 = (headF m).set k ((headF m).getD k 0 ^^^ 2 ^ j) := by
      match k, hk10 with
      | 0, _ => rfl
      | 1, _ => rfl
      | 2, _ => rfl
      | 3, _ => rfl
      | 4, _ => rfl
      | 5, _ => rfl
      | 6, _ => rfl
      | 7, _ => rfl
      | 8, _ => rfl
      | 9, _ => rfl
    have e2 : ((bytesF m).set k ((bytesF m).getD k 0 ^^^ 2 ^ j)).getD 10 0 = csum 65535 (headF m) / 256 := by
      match k, hk10 with
      | 0, _ => rfl
      | 1, _ => rfl
      | 2, _ => rfl
      | 3, _ => rfl
      | 4, _ => rfl
      | 5, _ => rfl
      | 6, _ => rfl
      | 7, _ => rfl
      | 8, _ => rfl
      | 9, _ => rfl
    have e3 : ((bytesF m).set k ((bytesF m).getD k 0 ^^^ 2 ^ j)).getD 11 0 = csum 65535 (headF m) % 256 := by
      match k, hk10 with
      | 0, _ => rfl
      | 1, _ => rfl
      | 2, _ => rfl
      | 3, _ => rfl
      | 4, _ => rfl
      | 5, _ => rfl
      | 6, _ => rfl
      | 7, _ => rfl
      | 8, _ => rfl
      | 9, _ => rfl
    rw [e1, e2, e3]
    have hne : csum 65535 ((headF m).set k ((headF m).getD k 0 ^^^ 2 ^ j)) ≠ csum 65535 (headF m) := by
      have hkl : k < (headF m).length := hk10
      have hsplit : headF m = (headF m).take k ++ (headF m).getD k 0 :: (headF m).drop (k + 1) := by
        simp [List.getD, hkl]
      have hset : (headF m).set k ((headF m).getD k 0 ^^^ 2 ^ j) = (headF m).take k ++ ((headF m).getD k 0 ^^^ 2 ^ j) :: (headF m).drop (k + 1) := List.set_eq_take_append_cons_drop .. |>.trans (by rw [if_pos hkl])
      rw [hset]
      conv => rhs; rw [hsplit]
      exact csum_ne _ _ _ _ _ (by omega) (cbyte_ne _ _ _ (csum_bd _ _ (by omega)) hj8).symm
    omega
  · by_cases hk10 : k = 10
    · subst hk10
      have e1 : ((bytesF m).set 10 ((bytesF m).getD 10 0 ^^^ 2 ^ j)).take 10 = headF m := rfl
      have e2 : ((bytesF m).set 10 ((bytesF m).getD 10 0 ^^^ 2 ^ j)).getD 10 0 = (csum 65535 (headF m) / 256) ^^^ 2 ^ j := rfl
      have e3 : ((bytesF m).set 10 ((bytesF m).getD 10 0 ^^^ 2 ^ j)).getD 11 0 = csum 65535 (headF m) % 256 := rfl
      rw [e1, e2, e3]
      have := xor_ne (csum 65535 (headF m) / 256) j
      omega
    · obtain rfl : k = 11 := by omega
      have e1 : ((bytesF m).set 11 ((bytesF m).getD 11 0 ^^^ 2 ^ j)).take 10 = headF m := rfl
      have e2 : ((bytesF m).set 11 ((bytesF m).getD 11 0 ^^^ 2 ^ j)).getD 10 0 = csum 65535 (headF m) / 256 := rfl
      have e3 : ((bytesF m).set 11 ((bytesF m).getD 11 0 ^^^ 2 ^ j)).getD 11 0 = (csum 65535 (headF m) % 256) ^^^ 2 ^ j := rfl
      rw [e1, e2, e3]
      have := xor_ne (csum 65535 (headF m) % 256) j
      omega
theorem turnF_length (xs : List Nat) (bit : Int) : (turnF xs bit).length = xs.length := by unfold turnF; split <;> simp
theorem turnF_isBytes (xs : List Nat) (bit : Int) (h : isBytes xs) : isBytes (turnF xs bit) := by
  unfold turnF
  split
  · rename_i hc
    intro i hi
    have hk : (bit / 8).toNat < xs.length := by omega
    have hi' : i < xs.length := by simpa using hi
    by_cases hik : i = (bit / 8).toNat
    · subst hik
      simp only [List.getD, List.getElem?_set_self hk]
      exact xor_lt _ _ (h _ hk) (by omega)
    · simp only [List.getD, List.getElem?_set_ne (Ne.symm hik)]
      exact h i hi'
  · exact h
theorem parse_turn (c : Cfg) (m : Msg) (bit : Int) (h0 : 0 ≤ bit) (h1 : bit < 96) : parseF c (turnF (bytesF m) bit) = (Msg.zero, 7) := by
  unfold parseF
  rw [if_neg (by rw [turnF_length, bytesF_length]; simp), if_pos (sumBad_turn m bit h0 h1)]
theorem fit_of_wrong {c : Cfg} {m : Msg} (h : wrongF c m = 0) (h1 : c.cores ≤ 4) (h2 : c.lines ≤ 4) : Fit m := by
  unfold wrongF at h
  split at h
  · omega
  · split at h
    · omega
    · rename_i hk hr
      have hr' : rangeB c m = true := by simpa using hr
      simp only [rangeB, upB, Bool.and_eq_true, decide_eq_true_eq] at hr'
      constructor <;> omega
end Go.Proofs.YtpgeopefamomnaeGreat

