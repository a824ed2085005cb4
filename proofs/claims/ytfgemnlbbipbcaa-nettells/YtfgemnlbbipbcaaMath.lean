/- Plain mathematics of the sum of chapter 1 (no walk): one step of it is one to one, and unlike bits give unlike sums. -/
import Derived.Laws.BitsAllLaws
namespace Go.Proofs.Ytfgemnlbbipbcaa
open Go
set_option linter.unusedVariables false

theorem wrap_i64 (n : Int) (h0 : 0 ≤ n) (h1 : n < 9223372036854775808) : IntKind.i64.wrap n = n := by
  simp [IntKind.wrap, IntKind.bits, IntKind.signed]; omega
theorem ofInt_i64 (a : Nat) (ha : a < 9223372036854775808) : (BitVec.ofInt IntKind.i64.bits (a : Int)).toNat = a := by
  show (BitVec.ofInt 64 (a : Int)).toNat = a
  simp; omega
theorem and_i64 (a b : Nat) (ha : a < 9223372036854775808) (hb : b < 9223372036854775808) : bits .and .i64 (a : Int) (b : Int) = ((a &&& b : Nat) : Int) := by
  unfold bits
  simp only [BitVec.toNat_and]
  rw [ofInt_i64 a ha, ofInt_i64 b hb, wrap_i64 _ (by omega)]
  have : a &&& b ≤ a := Nat.and_le_left
  omega
theorem or_i64 (a b : Nat) (ha : a < 9223372036854775808) (hb : b < 9223372036854775808) : bits .or .i64 (a : Int) (b : Int) = ((a ||| b : Nat) : Int) := by
  unfold bits
  simp only [BitVec.toNat_or]
  rw [ofInt_i64 a ha, ofInt_i64 b hb, wrap_i64 _ (by omega)]
  have : a ||| b < 2 ^ 63 := Nat.or_lt_two_pow (by omega) (by omega)
  omega
theorem xor_i64 (a b : Nat) (ha : a < 9223372036854775808) (hb : b < 9223372036854775808) : bits .xor .i64 (a : Int) (b : Int) = ((a ^^^ b : Nat) : Int) := by
  unfold bits
  simp only [BitVec.toNat_xor]
  rw [ofInt_i64 a ha, ofInt_i64 b hb, wrap_i64 _ (by omega)]
  have : a ^^^ b < 2 ^ 63 := Nat.xor_lt_two_pow (by omega) (by omega)
  omega

/-- One bit of the sum. -/
def cstep (s b : Nat) : Nat := if s / 32768 = b then s * 2 % 65536 else (s * 2 % 65536) ^^^ 4129
/-- k bits of x, from the highest one on. -/
def cbits : Nat → Nat → Nat → Nat
  | s, _, 0 => s
  | s, x, k + 1 => cbits (cstep s (x / 2 ^ k % 2)) x k
def cbyte (s x : Nat) : Nat := cbits s x 8
def csum (s : Nat) (l : List Nat) : Nat := l.foldl cbyte s

theorem cstep_bd (s b : Nat) : cstep s b < 65536 := by
  unfold cstep
  have : (s * 2 % 65536) ^^^ 4129 < 2 ^ 16 := Nat.xor_lt_two_pow (by omega) (by omega)
  split <;> omega
theorem cbits_bd (k : Nat) : ∀ s x, s < 65536 → cbits s x k < 65536 := by
  induction k with
  | zero => intro s x h; exact h
  | succ k ih => intro s x h; exact ih _ _ (cstep_bd _ _)
theorem cbyte_bd (s x : Nat) (h : s < 65536) : cbyte s x < 65536 := cbits_bd 8 s x h
theorem csum_bd (l : List Nat) : ∀ s, s < 65536 → csum s l < 65536 := by
  induction l with
  | nil => intro s h; exact h
  | cons x l ih => intro s h; exact ih _ (cbyte_bd _ _ h)
theorem xor_odd (a : Nat) : (a ^^^ 4129) % 2 = (a + 1) % 2 := by
  have := Nat.xor_mod_two_pow (a := a) (b := 4129) (n := 1)
  simp at this
  rw [this]
  have h : a % 2 = 0 ∨ a % 2 = 1 := by omega
  rcases h with h | h <;> rw [h] <;> simp <;> omega
theorem xor_cancel {a b c : Nat} (h : a ^^^ c = b ^^^ c) : a = b := by
  have := congrArg (· ^^^ c) h
  simpa [Nat.xor_assoc] using this
theorem cstep_inj {s t b : Nat} (hs : s < 65536) (ht : t < 65536) (hb : b < 2) (h : cstep s b = cstep t b) : s = t := by
  unfold cstep at h
  have o1 := xor_odd (s * 2 % 65536)
  have o2 := xor_odd (t * 2 % 65536)
  by_cases h1 : s / 32768 = b <;> by_cases h2 : t / 32768 = b
  · rw [if_pos h1, if_pos h2] at h; omega
  · rw [if_pos h1, if_neg h2] at h; omega
  · rw [if_neg h1, if_pos h2] at h; omega
  · rw [if_neg h1, if_neg h2] at h
    have := xor_cancel h
    omega
theorem cstep_ne {s b c : Nat} (hs : s < 65536) (hb : b < 2) (hc : c < 2) (hbc : b ≠ c) : cstep s b ≠ cstep s c := by
  intro h
  unfold cstep at h
  have o1 := xor_odd (s * 2 % 65536)
  by_cases h1 : s / 32768 = b <;> by_cases h2 : s / 32768 = c
  · omega
  · rw [if_pos h1, if_neg h2] at h; omega
  · rw [if_neg h1, if_pos h2] at h; omega
  · omega
theorem cbits_inj (k : Nat) : ∀ s t x, s < 65536 → t < 65536 → cbits s x k = cbits t x k → s = t := by
  induction k with
  | zero => intro s t x _ _ h; exact h
  | succ k ih => intro s t x hs ht h; exact cstep_inj hs ht (by omega) (ih _ _ x (cstep_bd _ _) (cstep_bd _ _) h)
theorem cbits_ne (k : Nat) : ∀ s x y, s < 65536 → (∃ j, j < k ∧ x / 2 ^ j % 2 ≠ y / 2 ^ j % 2 ∧ ∀ i, i < k → i ≠ j → x / 2 ^ i % 2 = y / 2 ^ i % 2) → cbits s x k ≠ cbits s y k := by
  have same : ∀ k s x y, (∀ i, i < k → x / 2 ^ i % 2 = y / 2 ^ i % 2) → cbits s x k = cbits s y k := by
    intro k
    induction k with
    | zero => intro s x y _; rfl
    | succ k ih => intro s x y h; unfold cbits; rw [h k (by omega)]; exact ih _ _ _ fun i hi => h i (by omega)
  induction k with
  | zero => intro s x y _ ⟨j, hj, _⟩; omega
  | succ k ih =>
    intro s x y hs ⟨j, hj, hd, he⟩
    unfold cbits
    by_cases hjk : j = k
    · subst hjk
      rw [same j _ x y fun i hi => he i (by omega) (by omega)]
      intro h
      exact cstep_ne hs (by omega) (by omega) hd (cbits_inj _ _ _ _ (cstep_bd _ _) (cstep_bd _ _) h)
    · rw [he k (by omega) (by omega)]
      exact ih _ _ _ (cstep_bd _ _) ⟨j, by omega, hd, fun i hi => he i (by omega)⟩
theorem csum_inj (l : List Nat) : ∀ s t, s < 65536 → t < 65536 → csum s l = csum t l → s = t := by
  induction l with
  | nil => intro s t _ _ h; exact h
  | cons x l ih => intro s t hs ht h; exact cbits_inj 8 _ _ x hs ht (ih _ _ (cbyte_bd _ _ hs) (cbyte_bd _ _ ht) h)
/-- One byte turned in one bit gives another sum. -/
theorem csum_ne (l r : List Nat) (s x y : Nat) (hs : s < 65536) (h : cbyte (csum s l) x ≠ cbyte (csum s l) y) : csum s (l ++ x :: r) ≠ csum s (l ++ y :: r) := by
  intro e
  unfold csum at e
  simp only [List.foldl_append, List.foldl_cons] at e
  exact h (csum_inj r _ _ (cbyte_bd _ _ (csum_bd l s hs)) (cbyte_bd _ _ (csum_bd l s hs)) e)
end Go.Proofs.Ytfgemnlbbipbcaa
