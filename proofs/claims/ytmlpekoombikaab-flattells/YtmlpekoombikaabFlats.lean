/- What package flat's own functions answer: New, Wrong, effect, Do. -/
import Derived.Test.YtmlpekoombikaabFlatsb
namespace Go.Proofs.Ytmlpekoombikaab
set_option maxRecDepth 100000
open Go.RowKit
set_option linter.unusedVariables false
set_option linter.unusedSimpArgs false

set_option maxHeartbeats 1000000 in
theorem wrongf_any (n : Nat) (o : SOp) (w : World) (hn : n ≤ 140737488351232) :
    Calls Try.prog 46 #[.int .i64 n, o.val] w fun e w' => e = .returned (.int .i64 (flatW n o)) ∧ Below w.heap.size w w' := by
  obtain ⟨k, l, v⟩ := o
  unfold SOp.val
  by_cases h1 : k < 1 ∨ 4 < k
  · rw [flatW_1 h1]
    rcases h1 with h1 | h1
    all_goals
      go_enter Try.func46, Try.ntmps46
      go_wp2
      go_ret
      exact ⟨rfl, (Below.refl _ _).alloc (Nat.le_refl _) _⟩
  · have h1a : 1 ≤ k ∧ k ≤ 4 := by omega
    obtain ⟨h1b, h1c⟩ := h1a
    clear h1
    by_cases h2 : l < 0 ∨ (n : Int) ≤ l
    · rw [flatW_3 (by exact ⟨h1b, h1c⟩) (by simp only; omega)]
      rcases h2 with h2 | h2
      · go_enter Try.func46, Try.ntmps46
        go_wp2
        go_ret
        exact ⟨rfl, (Below.refl _ _).alloc (Nat.le_refl _) _⟩
      · have h3 : 0 ≤ l := by omega
        go_enter Try.func46, Try.ntmps46
        go_wp2
        go_ret
        exact ⟨rfl, (Below.refl _ _).alloc (Nat.le_refl _) _⟩
    · have h2a : 0 ≤ l := by omega
      have h2b : l < n := by omega
      clear h2
      by_cases h3 : v < 0 ∨ 255 < v
      · rw [flatW_3 (by exact ⟨h1b, h1c⟩) (by simp only; omega)]
        rcases h3 with h3 | h3
        all_goals
          go_enter Try.func46, Try.ntmps46
          go_wp2
          go_ret
          exact ⟨rfl, (Below.refl _ _).alloc (Nat.le_refl _) _⟩
      · rw [flatW_0 (by exact ⟨h1b, h1c⟩) (by simp only; omega)]
        have h3a : 0 ≤ v := by omega
        have h3b : v ≤ 255 := by omega
        clear h3
        go_enter Try.func46, Try.ntmps46
        go_wp2
        go_ret
        exact ⟨rfl, (Below.refl _ _).alloc (Nat.le_refl _) _⟩

set_option maxHeartbeats 1000000 in
theorem effect_no (a : Option Addr) (n cap : Nat) (o : SOp) (w : World) (hn : n ≤ 140737488351232) (h : flatW n o ≠ 0) :
    Calls Try.prog 29 #[.slice a n cap, o.val] w fun e w' => e = .returned (.tuple #[.int .i64 0, .int .i64 0, .int .i64 (flatW n o)]) ∧ Below w.heap.size w w' := by
  have hw := fun W => wrongf_any n o W hn
  obtain ⟨k, l, v⟩ := o
  unfold SOp.val at *
  obtain ⟨e, he⟩ : ∃ e, e = flatW n ⟨k, l, v⟩ := ⟨_, rfl⟩
  rw [← he] at hw h ⊢
  clear he
  have hne : (e != 0) = true := by simpa using h
  go_enter Try.func29, Try.ntmps29
  go_wp2_with (go_at_call 46; refine (hw _).mono ?_; rintro e' w1 ⟨rfl, hb⟩)
  go_ret3
  exact ⟨rfl, ia_below ((Below.refl _ _).alloc (Nat.le_refl _) _) hb⟩
set_option maxHeartbeats 1000000 in
theorem effect_ok (a : Option Addr) (cap : Nat) (xs : List Int) (o : SOp) (w : World) (hn : xs.length ≤ 140737488351232) (hs : ISl w a xs) (h : flatW xs.length o = 0) :
    Calls Try.prog 29 #[.slice a xs.length cap, o.val] w fun e w' => e = .returned (.tuple #[.int .i64 (tellF (xs.getD o.line.toNat 0) o).1, .int .i64 (tellF (xs.getD o.line.toNat 0) o).2, .int .i64 0]) ∧ Below w.heap.size w w' := by
  have hw := fun W => wrongf_any xs.length o W hn
  rw [h] at hw
  obtain ⟨q1, q2, q3, q4, q5, q6⟩ := flatW_ok h
  obtain ⟨k, l, v⟩ := o
  unfold SOp.val at *
  simp only at q1 q2 q3 q4 q5 q6 ⊢
  obtain ⟨b, off, rfl, hc, hbw⟩ := hs.at l.toNat (by omega)
  have hx := hs.1 l.toNat (by omega)
  obtain ⟨x, hx0⟩ : ∃ x, x = xs.getD l.toNat 0 := ⟨_, rfl⟩
  rw [← hx0] at hc hx ⊢
  clear hx0 hs h
  obtain ⟨n, hn0⟩ : ∃ n, n = xs.length := ⟨_, rfl⟩
  rw [← hn0] at hw hn q4 ⊢
  clear hn0
  by_cases k1 : k = 1
  · subst k1
    go_enter Try.func29, Try.ntmps29
    go_wp2_with (go_at_call 46; refine (hw _).mono ?_; rintro e' w1 ⟨rfl, hb⟩; obtain ⟨hcc, hff⟩ := bcellI hb)
    go_ret3
    exact ⟨by simp [tellF], ia_below ((Below.refl _ _).alloc (Nat.le_refl _) _) hb⟩
  · have d1 : (k == 1) = false := by simpa using k1
    by_cases k2 : k = 2
    · subst k2
      go_enter Try.func29, Try.ntmps29
      go_wp2_with (go_at_call 46; refine (hw _).mono ?_; rintro e' w1 ⟨rfl, hb⟩; obtain ⟨hcc, hff⟩ := bcellI hb)
      go_ret3
      exact ⟨by simp [tellF], ia_below ((Below.refl _ _).alloc (Nat.le_refl _) _) hb⟩
    · have d2 : (k == 2) = false := by simpa using k2
      by_cases k3 : k = 3
      · subst k3
        go_enter Try.func29, Try.ntmps29
        go_wp2_with (go_at_call 46; refine (hw _).mono ?_; rintro e' w1 ⟨rfl, hb⟩; obtain ⟨hcc, hff⟩ := bcellI hb)
        go_ret3
        exact ⟨fret_3 (by simp [tellF, and255, wrap_mod256]) rfl rfl, ia_below ((Below.refl _ _).alloc (Nat.le_refl _) _) hb⟩
      · have d3 : (k == 3) = false := by simpa using k3
        have k4 : k = 4 := by omega
        subst k4
        go_enter Try.func29, Try.ntmps29
        go_wp2_with (go_at_call 46; refine (hw _).mono ?_; rintro e' w1 ⟨rfl, hb⟩; obtain ⟨hcc, hff⟩ := bcellI hb)
        go_ret3
        exact ⟨by simp [tellF], ia_below ((Below.refl _ _).alloc (Nat.le_refl _) _) hb⟩

set_option maxHeartbeats 1000000 in
theorem flatNew_any (n : Nat) (w : World) (hn : n ≤ 100) :
    Calls Try.prog 14 #[.int .i64 (n : Int)] w fun e w' => ∃ g, e = .returned (.slice (some ⟨g, 0, none⟩) n n) ∧ IOwn w' g (List.replicate n 0) ∧ w.heap.size ≤ g ∧ Below w.heap.size w w' := by
  obtain ⟨Z, hZ, hO, hmk⟩ := make_int w n (by omega)
  have HO : Hid _ := hO
  clear hZ hO
  go_enter Try.func14, Try.ntmps14
  go_wp2
  go_ret
  exact ⟨_, rfl, HO.out, Nat.le_refl _, (Below.refl _ _).alloc (Nat.le_refl _) _⟩
set_option maxHeartbeats 1000000 in
theorem flatNew_neg (n : Int) (w : World) (hn : n < 0) :
    Calls Try.prog 14 #[.int .i64 n] w fun e w' => e = .returned (.slice none 0 0) ∧ w = w' := by
  go_enter Try.func14, Try.ntmps14
  go_wp2
  go_ret
  exact ⟨rfl, rfl⟩

set_option maxHeartbeats 1000000 in
theorem flatDo_err_walk (a : Option Addr) (n cap : Nat) (o : SOp) (w : World) (hn : n ≤ 140737488351232) (h : flatW n o ≠ 0) :
    Calls Try.prog 9 #[.slice a n cap, o.val] w fun e w' => e = .returned (.tuple #[.slice none 0 0, .int .i64 0, .int .i64 (flatW n o)]) ∧ Below w.heap.size w w' := by
  have hw := fun W => effect_no a n cap o W hn h
  obtain ⟨k, l, v⟩ := o
  unfold SOp.val at *
  obtain ⟨e, he⟩ : ∃ e, e = flatW n ⟨k, l, v⟩ := ⟨_, rfl⟩
  rw [← he] at hw h ⊢
  clear he
  have hne : (e != 0) = true := by simpa using h
  go_enter Try.func9, Try.ntmps9
  go_wp2_with (go_at_call 29; refine (hw _).mono ?_; rintro e' w1 ⟨rfl, hb⟩)
  go_ret3
  exact ⟨rfl, ia_below ((Below.refl _ _).alloc (Nat.le_refl _) _) hb⟩
set_option maxHeartbeats 1000000 in
theorem flatDo_walk (a : Option Addr) (cap : Nat) (xs : List Int) (o : SOp) (w : World) (hn : xs.length * 8 ≤ 140737488351232) (hs : ISl w a xs) (h : flatW xs.length o = 0) :
    Calls Try.prog 9 #[.slice a xs.length cap, o.val] w fun e w' => ∃ g, e = .returned (.tuple #[.slice (some ⟨g, 0, none⟩) xs.length xs.length, .int .i64 (tellF (xs.getD o.line.toNat 0) o).2, .int .i64 0]) ∧ IOwn w' g (xs.set o.line.toNat (tellF (xs.getD o.line.toNat 0) o).1) ∧ w.heap.size ≤ g ∧ Below w.heap.size w w' := by
  have hw := fun W (hS : ISl W a xs) => effect_ok a cap xs o W (by omega) hS h
  obtain ⟨q1, q2, q3, q4, q5, q6⟩ := flatW_ok h
  have hbd := tell_bd (o := o) (hs.1 o.line.toNat (by omega)) q5 q6
  obtain ⟨k, l, v⟩ := o
  unfold SOp.val at *
  simp only at q1 q2 q3 q4 q5 q6 hw hbd ⊢
  obtain ⟨y, hy⟩ : ∃ y, y = (tellF (xs.getD l.toNat 0) ⟨k, l, v⟩).1 := ⟨_, rfl⟩
  obtain ⟨t, ht⟩ : ∃ t, t = (tellF (xs.getD l.toNat 0) ⟨k, l, v⟩).2 := ⟨_, rfl⟩
  rw [← hy, ← ht] at hw
  rw [← hy] at hbd
  rw [← hy, ← ht]
  have HS : Hid (ISl w a xs) := hs
  have HB : Hid _ := hbd
  have mk := fun W => make_int W xs.length (by omega)
  have cp := fun W Z (hZ : Z.size = xs.length) (hS : ISl W a xs) => copy_int W Z 3 a cap xs hZ hS
  have HN : Hid (l.toNat < xs.length) := by unfold Hid; omega
  clear hy ht h hs hbd
  go_enter Try.func9, Try.ntmps9
  go_wp2_with (go_at_call 29; refine (hw _ (HS.out.below ((Below.refl _ _).alloc (Nat.le_refl _) _))).mono ?_; rintro e' w1 ⟨rfl, hb⟩; obtain ⟨hcc, hff⟩ := bcellI hb; have b1 := ia_below ((Below.refl w.heap.size w).alloc (Nat.le_refl _) _) hb; have hz : w.heap.size < w1.heap.size := by { have := hb.size; simp at this; omega }; obtain ⟨Z, hZ, hO, hmk⟩ := mk w1; obtain ⟨A, hA, hcp⟩ := cp w1 Z hZ (HS.out.below b1); have hcell := hA.cell l.toNat HN.out; have hfz := hA.free l.toNat; have HA : Hid (IOwn _ _ xs) := hA; clear hO hZ hA)
  go_ret3
  exact ⟨_, rfl, HA.out.alloc_set HB.out, by omega, b1.alloc (by omega) _⟩
end Go.Proofs.Ytmlpekoombikaab
