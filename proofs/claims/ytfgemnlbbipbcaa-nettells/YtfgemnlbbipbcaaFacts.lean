/- Plain facts of frames (no walk): a message's bytes hold it; a frame that is read is its message's; one bit turned is found. -/
import Derived.Test.YtfgemnlbbipbcaaBytes
import Derived.Test.YtfgemnlbbipbcaaTurn
namespace Go.Proofs.Ytfgemnlbbipbcaa
open Go.RowKit
set_option linter.unusedVariables false

structure Fit (m : Msg) : Prop where
  kind0 : 0 ≤ m.kind
  kind1 : m.kind < 256
  frm0 : 0 ≤ m.frm
  frm1 : m.frm < 16
  to0 : 0 ≤ m.to
  to1 : m.to < 16
  line0 : 0 ≤ m.line
  line1 : m.line < 256
  serial0 : 0 ≤ m.serial
  serial1 : m.serial < 65536
  turn0 : 0 ≤ m.turn
  turn1 : m.turn < 65536
  value0 : 0 ≤ m.value
  value1 : m.value < 256

def headF (m : Msg) : List Nat := [m.kind.toNat, m.frm.toNat * 16 + m.to.toNat, m.line.toNat, m.serial.toNat / 256, m.serial.toNat % 256, m.turn.toNat / 256, m.turn.toNat % 256, m.value.toNat, flagN m.alone, 0]
def bytesF (m : Msg) : List Nat := headF m ++ [csum 65535 (headF m) / 256, csum 65535 (headF m) % 256]

theorem bytesF_length (m : Msg) : (bytesF m).length = 12 := rfl
theorem flagN_lt (b : Bool) : flagN b < 2 := by cases b <;> decide
theorem bytesF_isBytes (m : Msg) (h : Fit m) : isBytes (bytesF m) := by
  have := csum_bd (headF m) 65535 (by omega)
  have hf := flagN_lt m.alone
  obtain ⟨h1, h2, h3, h4, h5, h6, h7, h8, h9, h10, h11, h12, h13, h14⟩ := h
  intro i hi
  match i, hi with
  | 0, _ => show m.kind.toNat < 256; omega
  | 1, _ => show m.frm.toNat * 16 + m.to.toNat < 256; omega
  | 2, _ => show m.line.toNat < 256; omega
  | 3, _ => show m.serial.toNat / 256 < 256; omega
  | 4, _ => show m.serial.toNat % 256 < 256; omega
  | 5, _ => show m.turn.toNat / 256 < 256; omega
  | 6, _ => show m.turn.toNat % 256 < 256; omega
  | 7, _ => show m.value.toNat < 256; omega
  | 8, _ => show flagN m.alone < 256; omega
  | 9, _ => show 0 < 256; omega
  | 10, _ => show csum 65535 (headF m) / 256 < 256; omega
  | 11, _ => show csum 65535 (headF m) % 256 < 256; omega

theorem msg_val (m : Msg) : m.val = msgV m.kind m.frm m.to m.line m.serial m.turn m.value m.alone := rfl

theorem bytes_any (m : Msg) (h : Fit m) (w : World) :
    Calls Try.prog 17 #[m.val] w fun e w' => e = .returned (.slice (some ⟨w.heap.size + 1, 0, none⟩) 12 12) ∧ BRow w' (w.heap.size + 1) 0 (bytesF m) ∧ Below w.heap.size w w' := by
  have hs := csum_bd (headF m) 65535 (by omega)
  obtain ⟨h1, h2, h3, h4, h5, h6, h7, h8, h9, h10, h11, h12, h13, h14⟩ := h
  have := bytes_walk m.kind.toNat m.frm.toNat m.to.toNat m.line.toNat m.serial.toNat m.turn.toNat m.value.toNat m.alone (m.frm.toNat * 16 + m.to.toNat) (m.serial.toNat / 256) (m.serial.toNat % 256) (m.turn.toNat / 256) (m.turn.toNat % 256) (flagN m.alone) (csum 65535 (headF m) / 256) (csum 65535 (headF m) % 256) (csum 65535 (headF m)) w
    (by omega) (by omega) (by omega) (by omega) (by omega) rfl (by omega) (by omega) (by omega) (by omega) rfl rfl (by omega) (by omega)
  rw [msg_val]
  rw [Int.toNat_of_nonneg h1, Int.toNat_of_nonneg h3, Int.toNat_of_nonneg h5, Int.toNat_of_nonneg h7, Int.toNat_of_nonneg h9, Int.toNat_of_nonneg h11, Int.toNat_of_nonneg h13] at this
  exact this

theorem readF_bytesF (m : Msg) (h : Fit m) : readF (bytesF m) = m := by
  obtain ⟨kind, frm, to, line, serial, turn, value, alone⟩ := m
  obtain ⟨h1, h2, h3, h4, h5, h6, h7, h8, h9, h10, h11, h12, h13, h14⟩ := h
  simp only at h1 h2 h3 h4 h5 h6 h7 h8 h9 h10 h11 h12 h13 h14
  have e : readF (bytesF ⟨kind, frm, to, line, serial, turn, value, alone⟩) = { kind := (kind.toNat : Nat), frm := ((frm.toNat * 16 + to.toNat) / 16 : Nat), to := ((frm.toNat * 16 + to.toNat) % 16 : Nat), line := (line.toNat : Nat), serial := (serial.toNat / 256 * 256 + serial.toNat % 256 : Nat), turn := (turn.toNat / 256 * 256 + turn.toNat % 256 : Nat), value := (value.toNat : Nat), alone := ((flagN alone : Nat) : Int) == 1 } := rfl
  rw [e]
  congr 1
  any_goals omega
  cases alone <;> rfl

theorem sumBad_bytesF (m : Msg) : sumBad (bytesF m) = false := by
  have : sumBad (bytesF m) = ((csum 65535 (headF m) : Int) != ((csum 65535 (headF m) / 256 * 256 + csum 65535 (headF m) % 256 : Nat) : Int)) := rfl
  rw [this]
  simp only [bne_eq_false_iff_eq]
  omega
theorem parse_bytesF (c : Cfg) (m : Msg) (h : Fit m) (hw : wrongF c m = 0) : parseF c (bytesF m) = (m, 0) := by
  unfold parseF
  rw [if_neg (by simp [bytesF_length]), sumBad_bytesF, if_neg (by simp), readF_bytesF m h, hw]
  rw [if_neg (by
    show ¬ (1 < flagN m.alone ∨ 0 ≠ 0)
    have := flagN_lt m.alone
    omega)]
  simp

theorem bit_ne (x j : Nat) : ∃ i, i = j ∧ x / 2 ^ i % 2 ≠ (x ^^^ 2 ^ j) / 2 ^ i % 2 ∧ ∀ i, i ≠ j → x / 2 ^ i % 2 = (x ^^^ 2 ^ j) / 2 ^ i % 2 := by
  have key : ∀ i, ((x ^^^ 2 ^ j) / 2 ^ i % 2 = 1) ↔ ((x / 2 ^ i % 2 = 1) ↔ ¬ i = j) := by
    intro i
    have h1 : (x ^^^ 2 ^ j).testBit i = (x.testBit i ^^ (2 ^ j).testBit i) := Nat.testBit_xor ..
    rw [Nat.testBit_two_pow] at h1
    rw [Nat.testBit_eq_decide_div_mod_eq, Nat.testBit_eq_decide_div_mod_eq] at h1
    by_cases hij : i = j
    · subst hij
      by_cases hx : x / 2 ^ i % 2 = 1 <;> simp [hx] at h1 ⊢ <;> omega
    · by_cases hx : x / 2 ^ i % 2 = 1
      · simp [hx, hij, Ne.symm hij] at h1 ⊢; omega
      · simp [hx, hij, Ne.symm hij] at h1 ⊢; omega
  refine ⟨j, rfl, fun e => ?_, fun i hi => ?_⟩
  · have := key j
    simp at this
    omega
  · have := key i
    simp [hi] at this
    omega
theorem cbyte_ne (s x j : Nat) (hs : s < 65536) (hj : j < 8) : cbyte s x ≠ cbyte s (x ^^^ 2 ^ j) := by
  obtain ⟨i, rfl, h1, h2⟩ := bit_ne x j
  exact cbits_ne 8 s x (x ^^^ 2 ^ i) hs ⟨i, hj, h1, fun k _ hk => h2 k hk⟩
theorem xor_ne (x j : Nat) : x ^^^ 2 ^ j ≠ x := by
  intro h
  obtain ⟨i, rfl, h1, _⟩ := bit_ne x j
  rw [h] at h1
  exact h1 rfl
theorem xor_lt (x j : Nat) (hx : x < 256) (hj : j < 8) : x ^^^ 2 ^ j < 256 := by
  have hp : 2 ^ j < 256 := Nat.lt_of_lt_of_le (Nat.pow_lt_pow_right (by omega) hj) (by decide)
  exact Nat.xor_lt_two_pow (n := 8) hx hp

/-- One bit of a frame turned: its sum isn't that of its bytes. -/
theorem sumBad_turn (m : Msg) (bit : Int) (h0 : 0 ≤ bit) (h1 : bit < 96) : sumBad (turnF (bytesF m) bit) = true := by
  have hlen := bytesF_length m
  have hc : 0 ≤ bit ∧ bit / 8 < (bytesF m).length := by rw [hlen]; omega
  unfold turnF
  rw [if_pos hc]
  obtain ⟨k, hk⟩ : ∃ k, k = (bit / 8).toNat := ⟨_, rfl⟩
  obtain ⟨j, hj⟩ : ∃ j, j = (bit % 8).toNat := ⟨_, rfl⟩
  rw [← hk, ← hj]
  have hj8 : j < 8 := by omega
  have hk12 : k < 12 := by omega
  have hsb := csum_bd (headF m) 65535 (by omega)
  unfold sumBad
  rw [bne_iff_ne]
  by_cases hk10 : k < 10
  · have e1 : ((bytesF m).set k ((bytesF m).getD k 0 ^^^ 2 ^ j)).take 10 = (headF m).set k ((headF m).getD k 0 ^^^ 2 ^ j) := by
      match k, hk10 with
      | 0, _ => rfl
      | 1, _ => rfl
      | 2, _ => rfl
      | 3, _ => rfl
      | 4, _ => rfl
      | 5, _ => rfl
      | 6, _ => rfl
      | 7, _ => rfl
      | 8, _ => rfl
      | 9, _ => rfl
    have e2 : ((bytesF m).set k ((bytesF m).getD k 0 ^^^ 2 ^ j)).getD 10 0 = csum 65535 (headF m) / 256 := by
      match k, hk10 with
      | 0, _ => rfl
      | 1, _ => rfl
      | 2, _ => rfl
      | 3, _ => rfl
      | 4, _ => rfl
      | 5, _ => rfl
      | 6, _ => rfl
      | 7, _ => rfl
      | 8, _ => rfl
      | 9, _ => rfl
    have e3 : ((bytesF m).set k ((bytesF m).getD k 0 ^^^ 2 ^ j)).getD 11 0 = csum 65535 (headF m) % 256 := by
      match k, hk10 with
      | 0, _ => rfl
      | 1, _ => rfl
      | 2, _ => rfl
      | 3, _ => rfl
      | 4, _ => rfl
      | 5, _ => rfl
      | 6, _ => rfl
      | 7, _ => rfl
      | 8, _ => rfl
      | 9, _ => rfl
    rw [e1, e2, e3]
    have hne : csum 65535 ((headF m).set k ((headF m).getD k 0 ^^^ 2 ^ j)) ≠ csum 65535 (headF m) := by
      have hkl : k < (headF m).length := hk10
      have hsplit : headF m = (headF m).take k ++ (headF m).getD k 0 :: (headF m).drop (k + 1) := by
        simp [List.getD, hkl]
      have hset : (headF m).set k ((headF m).getD k 0 ^^^ 2 ^ j) = (headF m).take k ++ ((headF m).getD k 0 ^^^ 2 ^ j) :: (headF m).drop (k + 1) := List.set_eq_take_append_cons_drop .. |>.trans (by rw [if_pos hkl])
      rw [hset]
      conv => rhs; rw [hsplit]
      exact csum_ne _ _ _ _ _ (by omega) (cbyte_ne _ _ _ (csum_bd _ _ (by omega)) hj8).symm
    omega
  · by_cases hk10 : k = 10
    · subst hk10
      have e1 : ((bytesF m).set 10 ((bytesF m).getD 10 0 ^^^ 2 ^ j)).take 10 = headF m := rfl
      have e2 : ((bytesF m).set 10 ((bytesF m).getD 10 0 ^^^ 2 ^ j)).getD 10 0 = (csum 65535 (headF m) / 256) ^^^ 2 ^ j := rfl
      have e3 : ((bytesF m).set 10 ((bytesF m).getD 10 0 ^^^ 2 ^ j)).getD 11 0 = csum 65535 (headF m) % 256 := rfl
      rw [e1, e2, e3]
      have := xor_ne (csum 65535 (headF m) / 256) j
      omega
    · obtain rfl : k = 11 := by omega
      have e1 : ((bytesF m).set 11 ((bytesF m).getD 11 0 ^^^ 2 ^ j)).take 10 = headF m := rfl
      have e2 : ((bytesF m).set 11 ((bytesF m).getD 11 0 ^^^ 2 ^ j)).getD 10 0 = csum 65535 (headF m) / 256 := rfl
      have e3 : ((bytesF m).set 11 ((bytesF m).getD 11 0 ^^^ 2 ^ j)).getD 11 0 = (csum 65535 (headF m) % 256) ^^^ 2 ^ j := rfl
      rw [e1, e2, e3]
      have := xor_ne (csum 65535 (headF m) % 256) j
      omega
theorem turnF_length (xs : List Nat) (bit : Int) : (turnF xs bit).length = xs.length := by unfold turnF; split <;> simp
theorem turnF_in {xs : List Nat} {bit : Int} (h : 0 ≤ bit ∧ bit / 8 < xs.length) : turnF xs bit = xs.set (bit / 8).toNat (xs.getD (bit / 8).toNat 0 ^^^ 2 ^ (bit % 8).toNat) := by unfold turnF; rw [if_pos h]
theorem turnF_turnF (xs : List Nat) (bit : Int) : turnF (turnF xs bit) bit = xs := by
  by_cases h : 0 ≤ bit ∧ bit / 8 < xs.length
  · have h' : 0 ≤ bit ∧ bit / 8 < (turnF xs bit).length := by rw [turnF_length]; exact h
    rw [turnF_in h', turnF_in h]
    have hk : (bit / 8).toNat < xs.length := by omega
    simp only [List.set_set]
    rw [show (xs.set (bit / 8).toNat (xs.getD (bit / 8).toNat 0 ^^^ 2 ^ (bit % 8).toNat)).getD (bit / 8).toNat 0 = xs.getD (bit / 8).toNat 0 ^^^ 2 ^ (bit % 8).toNat by simp [List.getD, hk]]
    rw [Nat.xor_assoc, Nat.xor_self, Nat.xor_zero]
    simp [List.getD, hk]
  · have e : turnF xs bit = xs := by unfold turnF; rw [if_neg h]
    rw [e, e]
theorem turnF_isBytes (xs : List Nat) (bit : Int) (h : isBytes xs) : isBytes (turnF xs bit) := by
  unfold turnF
  split
  · rename_i hc
    intro i hi
    have hk : (bit / 8).toNat < xs.length := by omega
    have hi' : i < xs.length := by simpa using hi
    by_cases hik : i = (bit / 8).toNat
    · subst hik
      simp only [List.getD, List.getElem?_set_self hk]
      exact xor_lt _ _ (h _ hk) (by omega)
    · simp only [List.getD, List.getElem?_set_ne (Ne.symm hik)]
      exact h i hi'
  · exact h
theorem parse_turn (c : Cfg) (m : Msg) (bit : Int) (h0 : 0 ≤ bit) (h1 : bit < 96) : parseF c (turnF (bytesF m) bit) = (Msg.zero, 7) := by
  unfold parseF
  rw [if_neg (by rw [turnF_length, bytesF_length]; simp), if_pos (sumBad_turn m bit h0 h1)]
end Go.Proofs.Ytfgemnlbbipbcaa
