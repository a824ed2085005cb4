/- What shref1.Play answers. -/
import Derived.Test.YtmlpekoombikaabRefFlat
namespace Go.Proofs.Ytmlpekoombikaab
set_option maxRecDepth 100000
open Go.RowKit
set_option linter.unusedVariables false
set_option linter.unusedSimpArgs false

theorem rep_take (n k : Nat) (h : k ≤ n) : (List.replicate n (0 : Int)).take k = List.replicate k 0 := by
  rw [List.take_replicate, Nat.min_eq_left h]
theorem rep_snoc (k : Nat) : i64s (List.replicate (k + 1) 0) = i64s (List.replicate k 0) ++ [.int .i64 0] := by
  rw [List.replicate_succ']
  simp [i64s]

set_option maxHeartbeats 4000000 in
theorem rplay_walk (n cap : Nat) (a : Option Addr) (l : List SDone) (w : World) (hn : n ≤ 100) (hl : l.length ≤ 140737488351232) (hs : DSl w a l) :
    Calls Try.prog 13 #[.int .i64 (n : Int), .slice a l.length cap] w fun e w' => ∃ a' c', e = .returned (.tuple #[.slice a' n c', .int .i64 (playFrom (List.replicate n 0) 0 l).2]) ∧ ISl w' a' (playFrom (List.replicate n 0) 0 l).1 ∧ Below w.heap.size w w' := by
  obtain ⟨i0, hi, hz0, hz1, hz2⟩ := info_parts Try.infoInt
  have HS : Hid (DSl w a l) := hs
  clear hs
  go_enter Try.func13, Try.ntmps13
  go_wp2
  go_loopw [6, 14] (fun v i wr => ∃ k : Nat, k ≤ n ∧ i = .int .i64 k ∧ wr.ownsRow w.heap.size 3 1 v k (i64s (List.replicate k 0)) ∧ Below w.heap.size w wr) (fun _ i _ => n - (intOf i).toNat)
  case atStart => exact ⟨0, Nat.zero_le _, rfl, World.ownsRow_nil _ _ _ _, Below.refl _ _⟩
  case round =>
    obtain ⟨k, hk, rfl, hown, hbel⟩ := hrel
    have hbs := hbel.size
    by_cases hlt : k < n
    · have HSN : Hid _ := rep_snoc k
      go_wp2_with (at_builtin; refine wpList_append_own _ rfl _ _ 22 rfl w.heap.size 3 i0 (.int .i64 0) 1 8 Try.underlying22 hi hz0 hz1 hz2 rfl (by decide) _ _ _ rfl (hown.alloc _) ⟨wr.heap.size, 0, none⟩ 1 1 [.int .i64 0] rfl rfl (ia_new _ _ _) (ia_one _ _) (by unfold maxLen; omega) (by omega) (by simp; omega) ?_; intro v' w1 h1 h2 _; have R := ia_step hbel hown HSN.out h1 h2; clear h1 h2 hown)
      go_roundw
      case rel => exact ⟨k + 1, by omega, by go_num, R.1, R.2⟩
      case measure => simp [intOf]; omega
    · have ek : k = n := by omega
      subst ek
      obtain ⟨a0, c0, rfl, _, _, hS0⟩ := owns_ISl (xs := List.replicate k 0) (by simpa using hown) (isInts_zero k)
      rw [List.length_replicate]
      have HS0 : Hid (ISl wr a0 (List.replicate k 0)) := hS0
      clear hS0 hown
      go_wp2
      go_loopw [6, 22] (fun v i w2 => ∃ (j : Nat) (xs : List Int) (a1 : Option Addr) (c1 : Nat), j ≤ l.length ∧ i = .int .i64 j ∧ v = .slice a1 k c1 ∧ xs.length = k ∧ ISl w2 a1 xs ∧ Hid (playFrom (List.replicate k 0) 0 l = playFrom xs j (l.drop j)) ∧ Below w.heap.size w w2) (fun _ i _ => l.length - (intOf i).toNat)
      case atStart => exact ⟨0, _, a0, c0, Nat.zero_le _, rfl, rfl, by simp, HS0.out, rfl, hbel⟩
      case round =>
        obtain ⟨j, xs, a1, c1', hj, rfl, rfl, hxl, hX, HP, hbel2⟩ := hrel
        by_cases hlt : j < l.length
        · obtain ⟨b, off, rfl, hbw, c0, c1, c2, c3, c4⟩ := (HS.out.below hbel2).at j hlt
          have hd := drop_at hlt
          obtain ⟨⟨core, o, val⟩, hd0⟩ : ∃ d : SDone, d = l.getD j SDone.zero := ⟨_, rfl⟩
          rw [← hd0] at c0 c1 c2 c3 c4 hd
          have HD : Hid _ := hd
          obtain ⟨kd, ln, vl⟩ := o
          simp only at c0 c1 c2 c3 c4
          have HX : Hid (ISl wr a1 xs) := hX
          have HL : Hid _ := hxl
          clear hd0 hd hX hxl
          have HP1 : Hid (playFrom (List.replicate k 0) 0 l = if (flatDo xs ⟨kd, ln, vl⟩).2.2 ≠ 0 ∨ (flatDo xs ⟨kd, ln, vl⟩).2.1 ≠ val then (xs, (j : Int)) else playFrom (flatDo xs ⟨kd, ln, vl⟩).1 ((j + 1 : Nat) : Int) (l.drop (j + 1))) := by
            unfold Hid
            rw [HP.out, HD.out]
            rfl
          clear HP
          by_cases hw : flatW k ⟨kd, ln, vl⟩ = 0
          · have hw' : flatW xs.length ⟨kd, ln, vl⟩ = 0 := by rw [HL.out]; exact hw
            have kE := fun W (hS : ISl W a1 xs) => rdo_sl a1 c1' xs ⟨kd, ln, vl⟩ W (by rw [HL.out]; omega) hS hw'
            rw [HL.out] at kE
            simp only at kE
            have HP2 : Hid _ := HP1.out
            unfold Hid at HP2
            rw [flatDo_ok hw'] at HP2
            simp only at HP2
            obtain ⟨y, hy⟩ : ∃ y, y = (tellF (xs.getD ln.toNat 0) ⟨kd, ln, vl⟩).1 := ⟨_, rfl⟩
            obtain ⟨t, ht⟩ : ∃ t, t = (tellF (xs.getD ln.toNat 0) ⟨kd, ln, vl⟩).2 := ⟨_, rfl⟩
            rw [← hy, ← ht] at kE HP2
            have HQ : Hid _ := HP2
            clear hy ht HP2 HP1 hw hw'
            by_cases hv : t = val
            · subst hv
              go_wp2_with (go_at_call 10; refine (kE _ (HX.out.below ((Below.refl _ _).alloc (Nat.le_refl _) _))).mono ?_; rintro e w3 ⟨a3, c3', rfl, hS3, hb3⟩; obtain ⟨hcc, hff⟩ := bcellI hb3; have hz : wr.heap.size < w3.heap.size := by { have := hb3.size; simp at this; omega })
              go_roundw
              case rel =>
                refine ⟨j + 1, _, a3, c3', by omega, by go_num, rfl, ?_, hS3, ?_, ?_⟩
                · rw [List.length_set]; exact HL.out
                · have := HQ.out
                  rw [if_neg (by simp)] at this
                  exact this
                · exact ia_below (hbel2.alloc hbel2.size _) hb3
              case measure => simp [intOf]; omega
            · have hv' : (t != val) = true := by simpa using hv
              go_wp2_with (go_at_call 10; refine (kE _ (HX.out.below ((Below.refl _ _).alloc (Nat.le_refl _) _))).mono ?_; rintro e w3 ⟨a3, c3', rfl, hS3, hb3⟩; obtain ⟨hcc, hff⟩ := bcellI hb3; have hz : wr.heap.size < w3.heap.size := by { have := hb3.size; simp at this; omega })
              go_ret2
              have := HQ.out
              rw [if_pos (.inr hv)] at this
              rw [this]
              exact ⟨_, _, rfl, (HX.out.below ((Below.refl _ _).alloc (Nat.le_refl _) _)).below hb3, ia_below (hbel2.alloc hbel2.size _) hb3⟩
          · have kE := fun W => rdo_err a1 k c1' ⟨kd, ln, vl⟩ W (by omega) hw
            have hw' : flatW xs.length ⟨kd, ln, vl⟩ ≠ 0 := by rw [HL.out]; exact hw
            have hne : (flatW k ⟨kd, ln, vl⟩ != 0) = true := by simpa using hw
            go_wp2_with (go_at_call 10; refine (kE _).mono ?_; rintro e w3 ⟨rfl, hb3⟩)
            go_ret2
            have := HP1.out
            rw [if_pos (.inl (by rw [flatDo_err]; exact hw'))] at this
            rw [this]
            exact ⟨_, _, rfl, (HX.out.below ((Below.refl _ _).alloc (Nat.le_refl _) _)).below hb3, ia_below (hbel2.alloc hbel2.size _) hb3⟩
        · go_wp2
          go_ret2
          have := HP.out
          rw [List.drop_of_length_le (by omega)] at this
          rw [this]
          exact ⟨_, _, rfl, hX, hbel2⟩

set_option maxHeartbeats 4000000 in
theorem rplay_neg (m : Int) (cap : Nat) (a : Option Addr) (l : List SDone) (w : World) (hm : m < 0) (hl : l.length ≤ 140737488351232) (hs : DSl w a l) :
    Calls Try.prog 13 #[.int .i64 m, .slice a l.length cap] w fun e w' => ∃ a' c', e = .returned (.tuple #[.slice a' 0 c', .int .i64 (playFrom [] 0 l).2]) ∧ ISl w' a' (playFrom [] 0 l).1 ∧ Below w.heap.size w w' := by
  have HS : Hid (DSl w a l) := hs
  clear hs
  go_enter Try.func13, Try.ntmps13
  go_wp2
  go_loopw [6, 14] (fun v i wr => i = .int .i64 0 ∧ v = .slice none 0 0 ∧ wr = w) (fun _ i _ => 0)
  case atStart => exact ⟨rfl, rfl, rfl⟩
  case round =>
    obtain ⟨rfl, rfl, rfl⟩ := hrel
    go_wp2
    by_cases hx : l = []
    · subst hx
      go_loopw [6, 22] (fun v i w2 => i = .int .i64 0 ∧ v = .slice none 0 0 ∧ w2 = wr) (fun _ i _ => 0)
      case atStart => exact ⟨rfl, rfl, rfl⟩
      case round =>
        obtain ⟨rfl, rfl, rfl⟩ := hrel
        go_wp2
        go_ret2
        exact ⟨none, 0, rfl, ISl.nil _ _, Below.refl _ _⟩
    · have hlt : 0 < l.length := by
        rcases Nat.eq_zero_or_pos l.length with h | h
        · exact absurd (List.eq_nil_of_length_eq_zero h) hx
        · exact h
      obtain ⟨b, off, rfl, hbw, c0, c1, c2, c3, c4⟩ := HS.out.at 0 hlt
      have hd := drop_at hlt
      rw [List.drop_zero] at hd
      obtain ⟨⟨core, o, val⟩, hd0⟩ : ∃ d : SDone, d = l.getD 0 SDone.zero := ⟨_, rfl⟩
      rw [← hd0] at c0 c1 c2 c3 c4 hd
      have HD : Hid _ := hd
      obtain ⟨kd, ln, vl⟩ := o
      simp only [Nat.zero_mul, Nat.add_zero] at c0 c1 c2 c3 c4
      clear hd0 hd
      have hw : flatW 0 ⟨kd, ln, vl⟩ ≠ 0 := fun h => by have := flatW_ok h; simp only at this; omega
      have hP : playFrom [] 0 l = ([], 0) := by
        rw [HD.out]
        unfold playFrom
        rw [if_pos (.inl (by rw [flatDo_err]; exact hw))]
      have HP0 : Hid _ := hP
      have HN : Hid (0 < l.length) := hlt
      have kE := fun W => rdo_err none 0 0 ⟨kd, ln, vl⟩ W (by omega) hw
      have hne : (flatW 0 ⟨kd, ln, vl⟩ != 0) = true := by simpa using hw
      clear hw hP
      go_loopw [6, 22] (fun v i w2 => i = .int .i64 0 ∧ v = .slice none 0 0 ∧ w2 = wr) (fun _ i _ => 0)
      case atStart => exact ⟨rfl, rfl, rfl⟩
      case round =>
        obtain ⟨rfl, rfl, rfl⟩ := hrel
        have hlt := HN.out
        go_wp2_with (go_at_call 10; refine (kE _).mono ?_; rintro e w2 ⟨rfl, hb2⟩)
        go_ret2
        rw [HP0.out]
        exact ⟨none, 0, rfl, ISl.nil _ _, ia_below ((Below.refl _ _).alloc (Nat.le_refl _) _) hb2⟩
end Go.Proofs.Ytmlpekoombikaab
