/- What frame.sumBit, frame.sumByte and frame.Sum answer: the sum of Math, for any bytes. -/
import Derived.Test.YtfgemnlbbipbcaaProg
import Derived.Test.YtfgemnlbbipbcaaMath
import Derived.WalkKit
import Derived.WalkSpells
import Derived.WalkLawsBesides
namespace Go.Proofs.Ytfgemnlbbipbcaa
open Go.RowKit
set_option linter.unusedVariables false

theorem ret_int {k : IntKind} {a b : Int} (h : a = b) : Ending.returned (.int k a) = .returned (.int k b) := by rw [h]

theorem and_mask16 (s : Nat) (hs : s < 65536) : bits .and .i64 ((s : Int) * 2) 65535 = ((s * 2 % 65536 : Nat) : Int) := by
  have := and_i64 (s * 2) 65535 (by omega) (by omega)
  rw [Int.natCast_mul] at this
  rw [show ((2 : Nat) : Int) = 2 from rfl, show ((65535 : Nat) : Int) = 65535 from rfl] at this
  rw [this, Nat.and_two_pow_sub_one_eq_mod (s * 2) 16]

theorem sumBit_any (s b : Nat) (w : World) (hs : s < 65536) (hb : b < 2) :
    Calls Try.prog 40 #[.int .i64 s, .int .i64 b] w fun e w' => e = .returned (.int .i64 (cstep s b)) ∧ w' = w := by
  have hs1 : (s : Int) ≤ 65535 := by omega
  have hm := and_mask16 s hs
  have hx := xor_i64 (s * 2 % 65536) 4129 (by omega) (by omega)
  by_cases h : s / 32768 = b
  · have ht : (((s : Int) / 32768) != (b : Int)) = false := by simp; omega
    have H : Hid (cstep s b = s * 2 % 65536) := by unfold Hid cstep; rw [if_pos h]
    clear h
    go_enter Try.func40, Try.ntmps40
    go_wp2
    go_ret
    exact ⟨ret_int (by rw [H.out]; omega), rfl⟩
  · have ht : (((s : Int) / 32768) != (b : Int)) = true := by simp; omega
    have H : Hid (cstep s b = (s * 2 % 65536) ^^^ 4129) := by unfold Hid cstep; rw [if_neg h]
    clear h
    go_enter Try.func40, Try.ntmps40
    go_wp2
    go_ret
    exact ⟨ret_int (by rw [H.out, ← hx]; rfl), rfl⟩

theorem and_one (n : Nat) (h : n < 9223372036854775808) : bits .and .i64 (n : Int) 1 = ((n % 2 : Nat) : Int) := by
  have := and_i64 n 1 h (by omega)
  rw [show ((1 : Nat) : Int) = 1 from rfl] at this
  rw [this, nat_mask1]

theorem sumByte_any (s x : Nat) (w : World) (hs : s < 65536) (hx : x < 256) :
    Calls Try.prog 30 #[.int .i64 s, .int .u8 x] w fun e w' => e = .returned (.int .i64 (cbyte s x)) ∧ w' = w := by
  go_enter Try.func30, Try.ntmps30
  go_wp2
  go_loop [0, 5] (fun t i => ∃ k q : Nat, k ≤ 8 ∧ i = .int .i64 ((k : Int) - 1) ∧ t = .int .i64 q ∧ q < 65536 ∧ Hid (cbits q x k = cbyte s x)) (fun _ i => (intOf i + 1).toNat)
  case atStart => exact ⟨8, s, by omega, rfl, rfl, hs, rfl⟩
  case round =>
    obtain ⟨k, q, hk, rfl, rfl, hq, H⟩ := hrel
    by_cases hlt : k = 0
    · subst hlt
      go_wp2
      go_ret
      exact ⟨ret_int (by rw [← H.out]; rfl), rfl⟩
    · obtain ⟨j, rfl⟩ : ∃ j, k = j + 1 := ⟨k - 1, by omega⟩
      have hj : ((j + 1 : Nat) : Int) - 1 = (j : Int) := by omega
      have hj8 : (j : Int) ≤ 7 := by omega
      have hx' : (x : Int) ≤ 255 := by omega
      have hd : (x : Int) / 2 ^ j = ((x / 2 ^ j : Nat) : Int) := by simp
      have ha := and_one (x / 2 ^ j) (by have := Nat.div_le_self x (2 ^ j); omega)
      rw [← hd] at ha
      obtain ⟨b, hb⟩ : ∃ b : Nat, b = x / 2 ^ j % 2 := ⟨_, rfl⟩
      have hb2 : b < 2 := by omega
      rw [← hb] at ha
      have HB : Hid _ := hb
      rw [hj]
      clear hd hj hlt hb
      go_wp2_with (go_at_call 40; refine (sumBit_any q b _ hq hb2).mono ?_; rintro e w' ⟨rfl, rfl⟩)
      go_round
      case rel => exact ⟨j, _, by omega, by go_num, rfl, cstep_bd _ _, by have := H.out; unfold Hid; rw [← this, HB.out]; rfl⟩
      case measure => simp [intOf]

/-- A slice of bytes of which cell i holds the i-th number of xs. -/
def BRow (w : World) (b off : Nat) (xs : List Nat) : Prop := ∀ i, i < xs.length → w.cell? ⟨b, off + i, none⟩ = some (.int .u8 (xs.getD i 0 : Nat))
def isBytes (xs : List Nat) : Prop := ∀ i, i < xs.length → xs.getD i 0 < 256

theorem csum_snoc (s : Nat) (xs : List Nat) (k : Nat) (h : k < xs.length) : csum s (xs.take (k + 1)) = cbyte (csum s (xs.take k)) (xs.getD k 0) := by
  rw [List.take_succ_eq_append_getElem h]
  unfold csum
  rw [List.foldl_append]
  simp [List.getD, h]

theorem sum_any (b off cap : Nat) (xs : List Nat) (w : World) (hl : xs.length ≤ maxLen) (hc : BRow w b off xs) (hx : isBytes xs) :
    Calls Try.prog 11 #[.slice (some ⟨b, off, none⟩) xs.length cap] w fun e w' => e = .returned (.int .i64 (csum 65535 xs)) ∧ w' = w := by
  unfold maxLen at hl
  go_enter Try.func11, Try.ntmps11
  go_wp2
  go_loop [3, 8] (fun t i => ∃ k q : Nat, k ≤ xs.length ∧ i = .int .i64 k ∧ t = .int .i64 q ∧ q < 65536 ∧ Hid (csum 65535 (xs.take k) = q)) (fun _ i => xs.length - (intOf i).toNat)
  case atStart => exact ⟨0, 65535, by omega, rfl, rfl, by omega, rfl⟩
  case round =>
    obtain ⟨k, q, hk, rfl, rfl, hq, H⟩ := hrel
    by_cases hlt : k < xs.length
    · have hck := hc k hlt
      have hxk := hx k hlt
      have HS : Hid _ := csum_snoc 65535 xs k hlt
      obtain ⟨x, hx0⟩ : ∃ x : Nat, x = xs.getD k 0 := ⟨_, rfl⟩
      rw [← hx0] at hck hxk HS
      clear hx0 hc hx
      go_wp2_with (go_at_call 30; refine (sumByte_any q x _ hq hxk).mono ?_; rintro e w' ⟨rfl, rfl⟩)
      go_round
      case rel => exact ⟨k + 1, _, by omega, by go_num, rfl, cbyte_bd _ _ hq, by unfold Hid; rw [HS.out, H.out]⟩
      case measure => simp [intOf]; omega
    · go_wp2
      go_ret
      exact ⟨ret_int (by rw [← H.out, List.take_of_length_le (by omega)]), rfl⟩
theorem sum_empty (a : Option Addr) (cap : Nat) (w : World) :
    Calls Try.prog 11 #[.slice a 0 cap] w fun e w' => e = .returned (.int .i64 (csum 65535 [])) ∧ w' = w := by
  go_enter Try.func11, Try.ntmps11
  go_wp2
  refine wp_loop_rounds 1 ?_; rw [rounds_succ]
  go_wp2
  go_ret
  exact ⟨rfl, rfl⟩
end Go.Proofs.Ytfgemnlbbipbcaa
