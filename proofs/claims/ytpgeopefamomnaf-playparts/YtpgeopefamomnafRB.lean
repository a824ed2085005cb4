/- DRef2 DRef3 DRef4 DRef5. -/
import Derived.Test.YtpgeopefamomnafRA
import Derived.Test.YtpgeopefamomnafPB
set_option linter.unusedSimpArgs false
set_option linter.unusedSectionVars false
namespace Go.Proofs.Ytpgeopefamomnaf
open Go.RowKit
set_option linter.unusedVariables false
set_option maxRecDepth 100000
def byteD (n : Nat) : List DV := [.int .u8 n]
def rowB (b : List Nat) : Row := R byteD b
theorem rowB_len (b : List Nat) : (rowB b).length = b.length := R_len _ _
theorem rowB_get {b : List Nat} {k : Nat} (h : k < b.length) : (rowB b).getD k [] = [.int .u8 (b.getD k 0 : Nat)] := R_get byteD 0 h
/-- The first bits of a byte, added to the sum. -/
def cpre (s x : Nat) : Nat → Nat
  | 0 => s
  | t + 1 => cstep (cpre s x t) (x / 2 ^ (7 - t) % 2)
theorem cpre_all (s x : Nat) : cpre s x 8 = cbyte s x := rfl
theorem cpre_bd (s x : Nat) (hs : s < 65536) : ∀ t, cpre s x t < 65536
  | 0 => hs
  | t + 1 => cstep_bd _ _
theorem shr_one (x n : Nat) (hn : n ≤ 7) (hx : x < 256) : IntKind.i64.wrap ((BitVec.ofInt IntKind.i64.bits ((x : Int).fdiv (2 ^ (min n IntKind.i64.bits))) &&& BitVec.ofInt IntKind.i64.bits 1).toNat : Int) = ((x / 2 ^ n % 2 : Nat) : Int) := by
  have e : (x : Int).fdiv (2 ^ (min n IntKind.i64.bits)) = ((x / 2 ^ n : Nat) : Int) := by
    rw [show min n IntKind.i64.bits = n from by show min n 64 = n; omega, Int.fdiv_eq_ediv_of_nonneg _ (Int.le_of_lt (Int.pow_pos (by decide)))]
    simp
  rw [e]
  have := and_one (x / 2 ^ n) (by have := Nat.div_le_self x (2 ^ n); omega)
  exact this
theorem xor_w (a : Nat) (ha : a < 65536) : IntKind.i64.wrap ((BitVec.ofInt IntKind.i64.bits (a : Int) ^^^ BitVec.ofInt IntKind.i64.bits 4129).toNat : Int) = ((a ^^^ 4129 : Nat) : Int) := xor_i64 a 4129 (by omega) (by omega)
theorem u8_i64 (x : Nat) (hx : x < 256) : IntKind.i64.wrap (x : Int) = x := wrap_in (by omega) (by omega)
def bitE (y : Int) (n : Int) : Int := IntKind.i64.wrap ((BitVec.ofInt IntKind.i64.bits ((IntKind.i64.wrap y).fdiv (2 ^ (min n.toNat IntKind.i64.bits))) &&& BitVec.ofInt IntKind.i64.bits 1).toNat : Int)
theorem bitE_eq {x t : Nat} {y : Int} (hx : x < 256) (ht : t < 8) (hy : y = x) : bitE y (7 - (t : Int)) = ((x / 2 ^ (7 - t) % 2 : Nat) : Int) := by
  subst hy
  unfold bitE
  rw [u8_i64 x hx, show (7 - (t : Int)).toNat = 7 - t by omega]
  exact shr_one x (7 - t) (by omega) hx
end Go.Proofs.Ytpgeopefamomnaf

namespace Go.Proofs.Ytpgeopefamomnaf
open Go.RowKit
set_option linter.unusedVariables false
set_option maxRecDepth 100000
theorem rowB_back {b : List Nat} (hb : isBytes b) : (rowB b).map (fun e => (byteOf e).toNat) = b := by
  refine List.ext_getElem (by simp [rowB, R]) fun i h1 h2 => ?_
  have h3 : i < b.length := h2
  have := hb i h3
  simp [List.getD, h3] at this
  simp [rowB, R, byteD, byteOf, DV.toI]
  omega
theorem u8_in {x : Int} (h0 : 0 ≤ x) (h1 : x < 256) : IntKind.u8.wrap x = x := by
  simp only [IntKind.wrap, IntKind.bits, IntKind.signed]
  simp
  omega
theorem head_bytes (m : Msg) (hm : Fit m) : isBytes (headF m) := fun i hi => by
  have h := bytesF_isBytes m hm i (by have : (headF m).length = 10 := rfl; have := bytesF_length m; omega)
  have e : (bytesF m).getD i 0 = (headF m).getD i 0 := by
    unfold bytesF
    simp [List.getD, List.getElem?_append_left hi]
  rwa [e] at h
end Go.Proofs.Ytpgeopefamomnaf

namespace Go.Proofs.Ytpgeopefamomnaf
open Go.RowKit
set_option linter.unusedVariables false
set_option maxRecDepth 100000
def cfgC (c : Cfg) : List CV := [I c.cores, I c.lines]
end Go.Proofs.Ytpgeopefamomnaf

namespace Go.Proofs.Ytpgeopefamomnaf
open Go.RowKit
set_option linter.unusedVariables false
set_option maxRecDepth 100000
theorem pf_sum {c : Cfg} {b : List Nat} (hl : b.length = 12) (h : sumBad b = true) : parseF c b = (Msg.zero, 7) := by
  unfold parseF; rw [if_neg (by simp [hl]), if_pos h]
theorem pf_form {c : Cfg} {b : List Nat} (hl : b.length = 12) (h : sumBad b = false) (h2 : 1 < b.getD 8 0 ∨ b.getD 9 0 ≠ 0) : parseF c b = (Msg.zero, 2) := by
  unfold parseF; rw [if_neg (by simp [hl]), if_neg (by simp [h]), if_pos h2]
theorem pf_wrong {c : Cfg} {b : List Nat} (hl : b.length = 12) (h : sumBad b = false) (h2 : b.getD 8 0 ≤ 1) (h3 : b.getD 9 0 = 0) (h4 : (wrongF c (readF b) != 0) = true) : parseF c b = (Msg.zero, wrongF c (readF b)) := by
  unfold parseF; rw [if_neg (by simp [hl]), if_neg (by simp [h]), if_neg (by omega), if_pos (by simpa using h4)]
theorem pf_ok {c : Cfg} {b : List Nat} (hl : b.length = 12) (h : sumBad b = false) (h2 : b.getD 8 0 ≤ 1) (h3 : b.getD 9 0 = 0) (h4 : (wrongF c (readF b) != 0) = false) : parseF c b = (readF b, 0) := by
  unfold parseF; rw [if_neg (by simp [hl]), if_neg (by simp [h]), if_neg (by omega), if_neg (by simpa using h4)]
theorem w_byte {x : Nat} (h : x < 256) : IntKind.i64.wrap (x : Int) = x := wrap_in (by omega) (by omega)
theorem isB_ten {b0 b1 b2 b3 b4 b5 b6 b7 b8 b9 b10 b11 : Nat} (hb : isBytes [b0, b1, b2, b3, b4, b5, b6, b7, b8, b9, b10, b11]) : isBytes [b0, b1, b2, b3, b4, b5, b6, b7, b8, b9] := fun i hi => by
  have h := hb i (Nat.lt_trans hi (Nat.le_of_ble_eq_true rfl))
  have e : ([b0, b1, b2, b3, b4, b5, b6, b7, b8, b9] : List Nat).getD i 0 = ([b0, b1, b2, b3, b4, b5, b6, b7, b8, b9, b10, b11] : List Nat).getD i 0 := by
    match i, hi with
    | 0, _ => rfl
    | 1, _ => rfl
    | 2, _ => rfl
    | 3, _ => rfl
    | 4, _ => rfl
    | 5, _ => rfl
    | 6, _ => rfl
    | 7, _ => rfl
    | 8, _ => rfl
    | 9, _ => rfl
  rw [e]
  exact h
end Go.Proofs.Ytpgeopefamomnaf

