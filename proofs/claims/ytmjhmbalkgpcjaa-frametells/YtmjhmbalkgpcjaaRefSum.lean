/- What shref1.Sum answers: the same sum. -/
import Derived.Test.YtmjhmbalkgpcjaaParse
namespace Go.Proofs.Ytmjhmbalkgpcjaa
open Go.RowKit
set_option linter.unusedVariables false
set_option linter.unusedSimpArgs false

set_option maxHeartbeats 1000000 in
theorem rsum_any (b off cap : Nat) (xs : List Nat) (w : World) (hl : xs.length ≤ maxLen) (hc : BRow w b off xs) (hx : isBytes xs) :
    Calls Try.prog 9 #[.slice (some ⟨b, off, none⟩) xs.length cap] w fun e w' => e = .returned (.int .i64 (csum 65535 xs)) ∧ w' = w := by
  unfold maxLen at hl
  go_enter Try.func9, Try.ntmps9
  go_wp2
  go_loop [3, 11] (fun t i => ∃ k q : Nat, k ≤ xs.length ∧ i = .int .i64 k ∧ t = .int .i64 q ∧ q < 65536 ∧ Hid (csum 65535 (xs.take k) = q)) (fun _ i => xs.length - (intOf i).toNat)
  case atStart => exact ⟨0, 65535, by omega, rfl, rfl, by omega, rfl⟩
  case round =>
    obtain ⟨k, q, hk, rfl, rfl, hq, H⟩ := hrel
    by_cases hlt : k < xs.length
    · have hck := hc k hlt
      have hxk := hx k hlt
      have HS : Hid _ := csum_snoc 65535 xs k hlt
      obtain ⟨x, hx0⟩ : ∃ x : Nat, x = xs.getD k 0 := ⟨_, rfl⟩
      rw [← hx0] at hck hxk HS
      clear hx0 hc hx
      go_wp2
      go_loop [3, 6] (fun t i => ∃ j p : Nat, j ≤ 8 ∧ i = .int .i64 ((j : Int) - 1) ∧ t = .int .i64 p ∧ p < 65536 ∧ Hid (cbits p x j = cbyte q x)) (fun _ i => (intOf i + 1).toNat)
      case atStart => exact ⟨8, q, by omega, rfl, rfl, hq, rfl⟩
      case round =>
        obtain ⟨j, p, hj, rfl, rfl, hp, H2⟩ := hrel
        by_cases hj0 : j = 0
        · subst hj0
          go_wp2
          go_round
          case rel => exact ⟨k + 1, p, by omega, by go_num, rfl, hp, by have := H2.out; unfold Hid; rw [HS.out, H.out, ← this]; rfl⟩
          case measure => simp [intOf]; omega
        · obtain ⟨i, rfl⟩ : ∃ i, j = i + 1 := ⟨j - 1, by omega⟩
          have hji : ((i + 1 : Nat) : Int) - 1 = (i : Int) := by omega
          have hi8 : (i : Int) ≤ 7 := by omega
          have hx' : (x : Int) ≤ 255 := by omega
          have hp' : (p : Int) ≤ 65535 := by omega
          have hd : (x : Int) / 2 ^ i = ((x / 2 ^ i : Nat) : Int) := by simp
          have ha := and_one (x / 2 ^ i) (by have := Nat.div_le_self x (2 ^ i); omega)
          rw [← hd] at ha
          obtain ⟨bt, hb⟩ : ∃ bt : Nat, bt = x / 2 ^ i % 2 := ⟨_, rfl⟩
          have hb2 : bt < 2 := by omega
          rw [← hb] at ha
          have HB : Hid _ := hb
          have hxo := xor_i64 (p * 2 % 65536) 4129 (by omega) (by omega)
          obtain ⟨d, hd2⟩ : ∃ d : Nat, d = p * 2 % 65536 := ⟨_, rfl⟩
          rw [← hd2] at hxo
          have hm : (p : Int) * 2 % 65536 = d := by omega
          have HD : Hid _ := hd2
          rw [hji]
          clear hd hji hj0 hb hd2
          by_cases hq2 : p / 32768 = bt
          · have ht : (((p : Int) / 32768) != (bt : Int)) = false := by simp; omega
            have HC : Hid (cstep p bt = d) := by unfold Hid cstep; rw [if_pos hq2, HD.out]
            clear hq2
            go_wp2
            go_round
            case rel => exact ⟨i, cstep p bt, by omega, by go_num, congrArg (Value.int .i64) (by rw [HC.out]; omega), cstep_bd _ _, by have := H2.out; unfold Hid; rw [← this, HB.out]; rfl⟩
            case measure => simp [intOf]
          · have ht : (((p : Int) / 32768) != (bt : Int)) = true := by simp; omega
            have HC : Hid (cstep p bt = d ^^^ 4129) := by unfold Hid cstep; rw [if_neg hq2, HD.out]
            clear hq2
            go_wp2
            go_round
            case rel => exact ⟨i, cstep p bt, by omega, by go_num, congrArg (Value.int .i64) (by rw [HC.out, ← hxo]; rfl), cstep_bd _ _, by have := H2.out; unfold Hid; rw [← this, HB.out]; rfl⟩
            case measure => simp [intOf]
    · go_wp2
      go_ret
      exact ⟨ret_int (by rw [← H.out, List.take_of_length_le (by omega)]), rfl⟩
theorem rsum_empty (a : Option Addr) (cap : Nat) (w : World) :
    Calls Try.prog 9 #[.slice a 0 cap] w fun e w' => e = .returned (.int .i64 (csum 65535 [])) ∧ w' = w := by
  go_enter Try.func9, Try.ntmps9
  go_wp2
  refine wp_loop_rounds 1 ?_; rw [rounds_succ]
  go_wp2
  go_ret
  exact ⟨rfl, rfl⟩
end Go.Proofs.Ytmjhmbalkgpcjaa
