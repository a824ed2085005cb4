/- What flat.Play answers. -/
import Derived.Test.YtmlpekoombikaabFlats
import Derived.Test.YtmlpekoombikaabFlats1b
namespace Go.Proofs.Ytmlpekoombikaab
set_option maxRecDepth 100000
open Go.RowKit
set_option linter.unusedVariables false
set_option linter.unusedSimpArgs false

set_option maxHeartbeats 2000000 in
theorem play_walk (n cap : Nat) (a : Option Addr) (l : List SDone) (w : World) (hn : n ≤ 100) (hl : l.length ≤ 140737488351232) (hs : DSl w a l) :
    Calls Try.prog 12 #[.int .i64 (n : Int), .slice a l.length cap] w fun e w' => ∃ g, e = .returned (.tuple #[.slice (some ⟨g, 0, none⟩) n n, .int .i64 (playFrom (List.replicate n 0) 0 l).2]) ∧ IOwn w' g (playFrom (List.replicate n 0) 0 l).1 ∧ Below w.heap.size w w' := by
  have HS : Hid (DSl w a l) := hs
  clear hs
  go_enter Try.func12, Try.ntmps12
  go_wp2_with (go_at_call 14; refine (flatNew_any n _ hn).mono ?_; rintro e w1 ⟨g, rfl, hO, hg, hb1⟩; have HO : Hid (IOwn w1 g (List.replicate n 0)) := hO; clear hO)
  go_loopw [16] (fun i wr => ∃ (k : Nat) (xs : List Int), k ≤ l.length ∧ i = .int .i64 k ∧ xs.length = n ∧ IOwn wr g xs ∧ Hid (playFrom (List.replicate n 0) 0 l = playFrom xs k (l.drop k)) ∧ Below w.heap.size w wr) (fun i _ => l.length - (intOf i).toNat)
  case atStart => exact ⟨0, _, Nat.zero_le _, rfl, by simp, HO.out, rfl, hb1⟩
  case round =>
    obtain ⟨k, xs, hk, rfl, hxl, hX, HP, hbel⟩ := hrel
    by_cases hlt : k < l.length
    · obtain ⟨b, off, rfl, hbw, c0, c1, c2, c3, c4⟩ := (HS.out.below hbel).at k hlt
      have hd := drop_at hlt
      obtain ⟨⟨core, o, val⟩, hd0⟩ : ∃ d : SDone, d = l.getD k SDone.zero := ⟨_, rfl⟩
      rw [← hd0] at c0 c1 c2 c3 c4 hd
      have HD : Hid _ := hd
      obtain ⟨kd, ln, vl⟩ := o
      simp only at c0 c1 c2 c3 c4
      have HX : Hid (IOwn wr g xs) := hX
      have HL : Hid _ := hxl
      clear hd0 hd hX hxl
      have HP1 : Hid (playFrom (List.replicate n 0) 0 l = if (flatDo xs ⟨kd, ln, vl⟩).2.2 ≠ 0 ∨ (flatDo xs ⟨kd, ln, vl⟩).2.1 ≠ val then (xs, (k : Int)) else playFrom (flatDo xs ⟨kd, ln, vl⟩).1 ((k + 1 : Nat) : Int) (l.drop (k + 1))) := by
        unfold Hid
        rw [HP.out, HD.out]
        rfl
      clear HP
      by_cases hw : flatW n ⟨kd, ln, vl⟩ = 0
      · have hw' : flatW xs.length ⟨kd, ln, vl⟩ = 0 := by rw [HL.out]; exact hw
        have kE := fun W (hS : ISl W (some ⟨g, 0, none⟩) xs) => effect_ok (some ⟨g, 0, none⟩) n xs ⟨kd, ln, vl⟩ W (by rw [HL.out]; omega) hS hw'
        rw [HL.out] at kE
        obtain ⟨q1, q2, q3, q4, q5, q6⟩ := flatW_ok hw
        simp only at q1 q2 q3 q4 q5 q6 kE
        have hbd := tell_bd (o := ⟨kd, ln, vl⟩) (HX.out.1 ln.toNat (by rw [HL.out]; omega)) q5 q6
        have HP2 : Hid _ := HP1.out
        unfold Hid at HP2
        rw [flatDo_ok hw'] at HP2
        simp only at HP2
        obtain ⟨y, hy⟩ : ∃ y, y = (tellF (xs.getD ln.toNat 0) ⟨kd, ln, vl⟩).1 := ⟨_, rfl⟩
        obtain ⟨t, ht⟩ : ∃ t, t = (tellF (xs.getD ln.toNat 0) ⟨kd, ln, vl⟩).2 := ⟨_, rfl⟩
        rw [← hy, ← ht] at kE HP2
        rw [← hy] at hbd
        have HB : Hid _ := hbd
        have HQ : Hid _ := HP2
        clear hy ht hbd HP2 HP1 hw hw'
        have hgw : g < wr.heap.size := HX.out.lt
        by_cases hv : t = val
        · subst hv
          have hcl := HX.out.cell ln.toNat (by rw [HL.out]; omega)
          have hfr := HX.out.free ln.toNat
          go_wp2_with (go_at_call 29; refine (kE _ (HX.out.sl.below ((Below.refl _ _).alloc (Nat.le_refl _) _))).mono ?_; rintro e w2 ⟨rfl, hb2⟩; obtain ⟨hcc, hff⟩ := bcellI hb2; have hz : wr.heap.size < w2.heap.size := by { have := hb2.size; simp at this; omega })
          go_roundw
          case rel =>
            refine ⟨k + 1, _, by omega, by go_num, ?_, ((HX.out.below ((Below.refl _ _).alloc (Nat.le_refl _) _)).below hb2).set HB.out, ?_, ?_⟩
            · rw [List.length_set]; exact HL.out
            · have := HQ.out
              rw [if_neg (by simp)] at this
              exact this
            · exact (ia_below (hbel.alloc hbel.size _) hb2).setCell (by exact hg) _
          case measure => simp [intOf]; omega
        · have hv' : (t != val) = true := by simpa using hv
          go_wp2_with (go_at_call 29; refine (kE _ (HX.out.sl.below ((Below.refl _ _).alloc (Nat.le_refl _) _))).mono ?_; rintro e w2 ⟨rfl, hb2⟩; obtain ⟨hcc, hff⟩ := bcellI hb2; have hz : wr.heap.size < w2.heap.size := by { have := hb2.size; simp at this; omega })
          go_ret2
          have := HQ.out
          rw [if_pos (.inr hv)] at this
          rw [this]
          exact ⟨g, rfl, (HX.out.below ((Below.refl _ _).alloc (Nat.le_refl _) _)).below hb2, ia_below (hbel.alloc hbel.size _) hb2⟩
      · have kE := fun W => effect_no (some ⟨g, 0, none⟩) n n ⟨kd, ln, vl⟩ W (by omega) hw
        have hw' : flatW xs.length ⟨kd, ln, vl⟩ ≠ 0 := by rw [HL.out]; exact hw
        go_wp2_with (go_at_call 29; refine (kE _).mono ?_; rintro e w2 ⟨rfl, hb2⟩)
        go_ret2
        have := HP1.out
        rw [if_pos (.inl (by rw [flatDo_err]; exact hw'))] at this
        rw [this]
        exact ⟨g, rfl, (HX.out.below ((Below.refl _ _).alloc (Nat.le_refl _) _)).below hb2, ia_below (hbel.alloc hbel.size _) hb2⟩
    · go_wp2
      go_ret2
      have := HP.out
      rw [List.drop_of_length_le (by omega)] at this
      rw [this]
      exact ⟨g, rfl, hX, hbel⟩

set_option maxHeartbeats 2000000 in
theorem play_neg (n : Int) (cap : Nat) (a : Option Addr) (l : List SDone) (w : World) (hn : n < 0) (hl : l.length ≤ 140737488351232) (hs : DSl w a l) :
    Calls Try.prog 12 #[.int .i64 n, .slice a l.length cap] w fun e w' => e = .returned (.tuple #[.slice none 0 0, .int .i64 (playFrom [] 0 l).2]) ∧ (playFrom [] 0 l).1 = [] ∧ Below w.heap.size w w' := by
  have hp := playFrom_length l [] 0
  have hp0 := List.eq_nil_of_length_eq_zero (l := (playFrom [] 0 l).1) (by simpa using hp)
  clear hp
  by_cases hx : l = []
  · subst hx
    go_enter Try.func12, Try.ntmps12
    go_wp2_with (go_at_call 14; refine (flatNew_neg n _ hn).mono ?_; rintro e w1 ⟨rfl, rfl⟩)
    go_loopw [16] (fun i wr => i = .int .i64 0 ∧ wr = w) (fun i _ => 0)
    case atStart => exact ⟨rfl, rfl⟩
    case round =>
      obtain ⟨rfl, rfl⟩ := hrel
      go_wp2
      go_ret2
      exact ⟨rfl, rfl, Below.refl _ _⟩
  · have hlt : 0 < l.length := by
      rcases Nat.eq_zero_or_pos l.length with h | h
      · exact absurd (List.eq_nil_of_length_eq_zero h) hx
      · exact h
    obtain ⟨b, off, rfl, hbw, c0, c1, c2, c3, c4⟩ := hs.at 0 hlt
    have hd := drop_at hlt
    rw [List.drop_zero] at hd
    obtain ⟨⟨core, o, val⟩, hd0⟩ : ∃ d : SDone, d = l.getD 0 SDone.zero := ⟨_, rfl⟩
    rw [← hd0] at c0 c1 c2 c3 c4 hd
    have HD : Hid _ := hd
    obtain ⟨kd, ln, vl⟩ := o
    simp only [Nat.zero_mul, Nat.add_zero] at c0 c1 c2 c3 c4
    clear hd0 hd hs
    have hw : flatW 0 ⟨kd, ln, vl⟩ ≠ 0 := fun h => by have := flatW_ok h; simp only at this; omega
    have hP : playFrom [] 0 l = ([], 0) := by
      rw [HD.out]
      unfold playFrom
      rw [if_pos (.inl (by rw [flatDo_err]; exact hw))]
    rw [hP]
    have HN : Hid (0 < l.length) := hlt
    have kE := fun W => effect_no none 0 0 ⟨kd, ln, vl⟩ W (by omega) hw
    have hne : (flatW 0 ⟨kd, ln, vl⟩ != 0) = true := by simpa using hw
    clear hw hP hp0
    go_enter Try.func12, Try.ntmps12
    go_wp2_with (go_at_call 14; refine (flatNew_neg n _ hn).mono ?_; rintro e w1 ⟨rfl, rfl⟩)
    go_loopw [16] (fun i wr => i = .int .i64 0 ∧ wr = w) (fun i _ => 0)
    case atStart => exact ⟨rfl, rfl⟩
    case round =>
      obtain ⟨rfl, rfl⟩ := hrel
      have hlt := HN.out
      go_wp2_with (go_at_call 29; refine (kE _).mono ?_; rintro e w2 ⟨rfl, hb2⟩)
      go_ret2
      exact ⟨rfl, trivial, ia_below ((Below.refl _ _).alloc (Nat.le_refl _) _) hb2⟩
end Go.Proofs.Ytmlpekoombikaab
