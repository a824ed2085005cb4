/- What the document's own Do answers (shref1). -/
import Derived.Test.YtmlpekoombikaabFlats1b
namespace Go.Proofs.Ytmlpekoombikaab
set_option maxRecDepth 100000
open Go.RowKit
set_option linter.unusedVariables false
set_option linter.unusedSimpArgs false

set_option maxHeartbeats 1000000 in
theorem rdo_err (a : Option Addr) (n cap : Nat) (o : SOp) (w : World) (hn : n ≤ 140737488351232) (h : flatW n o ≠ 0) :
    Calls Try.prog 10 #[.slice a n cap, o.val] w fun e w' => e = .returned (.tuple #[.slice none 0 0, .int .i64 0, .int .i64 (flatW n o)]) ∧ Below w.heap.size w w' := by
  obtain ⟨k, l, v⟩ := o
  unfold SOp.val
  by_cases h1 : k < 1 ∨ 4 < k
  · rw [flatW_1 h1]
    clear h
    rcases h1 with h1 | h1
    all_goals
      go_enter Try.func10, Try.ntmps10
      go_wp2
      go_ret3
      exact ⟨rfl, (Below.refl _ _).alloc (Nat.le_refl _) _⟩
  · have h1b : 1 ≤ k := by omega
    have h1c : k ≤ 4 := by omega
    clear h1
    by_cases h2 : l < 0 ∨ (n : Int) ≤ l
    · rw [flatW_3 (by exact ⟨h1b, h1c⟩) (by simp only; omega)]
      clear h
      rcases h2 with h2 | h2
      · go_enter Try.func10, Try.ntmps10
        go_wp2
        go_ret3
        exact ⟨rfl, (Below.refl _ _).alloc (Nat.le_refl _) _⟩
      · have h3 : 0 ≤ l := by omega
        go_enter Try.func10, Try.ntmps10
        go_wp2
        go_ret3
        exact ⟨rfl, (Below.refl _ _).alloc (Nat.le_refl _) _⟩
    · have h2a : 0 ≤ l := by omega
      have h2b : l < n := by omega
      clear h2
      by_cases h3 : v < 0 ∨ 255 < v
      · rw [flatW_3 (by exact ⟨h1b, h1c⟩) (by simp only; omega)]
        clear h
        rcases h3 with h3 | h3
        all_goals
          go_enter Try.func10, Try.ntmps10
          go_wp2
          go_ret3
          exact ⟨rfl, (Below.refl _ _).alloc (Nat.le_refl _) _⟩
      · exact absurd (flatW_0 (by exact ⟨h1b, h1c⟩) (by simp only; omega)) h

theorem set_getD (xs : List Int) (k j : Nat) (y : Int) (hj : j < xs.length) : (xs.set k y).getD j 0 = if j = k then y else xs.getD j 0 := by
  by_cases e : j = k
  · subst e; simp [List.getD, hj]
  · rw [if_neg e]; simp [List.getD, List.getElem?_set_ne (Ne.symm e)]

set_option maxHeartbeats 4000000 in
theorem rdo_walk (a : Option Addr) (cap : Nat) (xs : List Int) (o : SOp) (w : World) (hn : xs.length * 8 ≤ 140737488351232) (hs : ISl w a xs) (h : flatW xs.length o = 0) :
    Calls Try.prog 10 #[.slice a xs.length cap, o.val] w fun e w' => ∃ v, e = .returned (.tuple #[v, .int .i64 (tellF (xs.getD o.line.toNat 0) o).2, .int .i64 0]) ∧ w'.ownsRow w.heap.size 3 1 v xs.length (i64s (xs.set o.line.toNat (tellF (xs.getD o.line.toNat 0) o).1)) ∧ Below w.heap.size w w' := by
  obtain ⟨i0, hi, hz0, hz1, hz2⟩ := info_parts Try.infoInt
  obtain ⟨q1, q2, q3, q4, q5, q6⟩ := flatW_ok h
  obtain ⟨kd, l, v⟩ := o
  unfold SOp.val
  simp only at q1 q2 q3 q4 q5 q6 ⊢
  obtain ⟨ln, rfl⟩ := Int.eq_ofNat_of_zero_le q3
  have q4' : ln < xs.length := by omega
  simp only [Int.toNat_natCast] at *
  obtain ⟨y, hy⟩ : ∃ y, y = (tellF (xs.getD ln 0) ⟨kd, ln, v⟩).1 := ⟨_, rfl⟩
  obtain ⟨t, ht⟩ : ∃ t, t = (tellF (xs.getD ln 0) ⟨kd, ln, v⟩).2 := ⟨_, rfl⟩
  rw [← hy, ← ht]
  have HY : Hid _ := hy
  have HT : Hid _ := ht
  have hTat := set_getD xs ln
  have hTl : (xs.set ln y).length = xs.length := by simp
  obtain ⟨T, hT⟩ : ∃ T, T = xs.set ln y := ⟨_, rfl⟩
  have hTa : ∀ j, j < xs.length → T.getD j 0 = if j = ln then y else xs.getD j 0 := fun j hj => by rw [hT]; exact hTat j y hj
  rw [← hT] at hTl ⊢
  have HTa : Hid _ := hTa
  have HTl : Hid _ := hTl
  obtain ⟨b, off, rfl, hrow⟩ := hs.2 (by intro e; subst e; simp at q4')
  have hbw : b < w.heap.size := World.block_lt_of_cell? w _ (hrow ln q4')
  have HR : Hid (IRow w b off xs) := hrow
  have HI : Hid (isInts xs) := hs.1
  obtain ⟨N, hN⟩ : ∃ N, N = xs.length := ⟨_, rfl⟩
  rw [← hN] at hn q4 q4' ⊢
  have HN : Hid _ := hN
  have t1 : decide (kd < 1) = false := by simp; omega
  have t2 : decide (4 < kd) = false := by simp; omega
  have t3 : decide ((ln : Int) < 0) = false := by simp
  have t4 : decide (N ≤ ln) = false := by simp; omega
  have t5 : decide (v < 0) = false := by simp; omega
  have t6 : decide (255 < v) = false := by simp; omega
  clear hy ht hTat hTl hT hTa hs hrow h hN
  go_enter Try.func10, Try.ntmps10
  go_wp2
  obtain ⟨W0, hW0⟩ : ∃ W0, W0 = w.alloc (.cells #[.int .i64 kd, .int .i64 ln, .int .i64 v] 24) := ⟨_, rfl⟩
  have hB0 : Below w.heap.size w W0 := by rw [hW0]; exact (Below.refl _ _).alloc (Nat.le_refl _) _
  have hz : w.heap.size < W0.heap.size := by rw [hW0]; simp
  have d0 : W0.cell? ⟨w.heap.size, 0, none⟩ = some (.int .i64 kd) := by rw [hW0]; simp
  have d1 : W0.cell? ⟨w.heap.size, 1, none⟩ = some (.int .i64 ln) := by rw [hW0]; simp
  have d2 : W0.cell? ⟨w.heap.size, 2, none⟩ = some (.int .i64 v) := by rw [hW0]; simp
  rw [← hW0]
  have HW : Hid _ := hW0
  clear hW0
  go_loopw [7, 8, 41] (fun v8 td i wr => ∃ k : Nat, k ≤ N ∧ i = .int .i64 k ∧ td = .int .i64 (if ln < k then t else 0) ∧ wr.ownsRow W0.heap.size 3 1 v8 k (i64s (T.take k)) ∧ Below W0.heap.size W0 wr) (fun _ _ i _ => N - (intOf i).toNat)
  case atStart => exact ⟨0, Nat.zero_le _, rfl, by simp, World.ownsRow_nil _ _ _ _, Below.refl _ _⟩
  case round =>
    obtain ⟨k, hk, rfl, rfl, hown, hbel⟩ := hrel
    by_cases hlt : k < N
    · have hck : wr.cell? ⟨b, off + k, none⟩ = some (.int .i64 (xs.getD k 0)) := ((HR.out.below hB0).below hbel) k (by rw [← HN.out]; exact hlt)
      have e0 : wr.cell? ⟨w.heap.size, 0, none⟩ = some (.int .i64 kd) := (hbel.cell (by exact hz)).trans d0
      have e1 : wr.cell? ⟨w.heap.size, 1, none⟩ = some (.int .i64 ln) := (hbel.cell (by exact hz)).trans d1
      have e2 : wr.cell? ⟨w.heap.size, 2, none⟩ = some (.int .i64 v) := (hbel.cell (by exact hz)).trans d2
      have hsn := i64s_snoc T k (by rw [HTl.out, ← HN.out]; exact hlt)
      rw [HTa.out k (by rw [← HN.out]; exact hlt)] at hsn
      have hbs := hbel.size
      by_cases hkl : k = ln
      · rw [if_pos hkl] at hsn
        have hx : (if ln < k then t else 0) = 0 := if_neg (by omega)
        have hx' : (if ln < k + 1 then t else 0) = t := if_pos (by omega)
        rw [hx]
        have HX' : Hid _ := hx'
        have HY' := HY.out
        have HT' := HT.out
        rw [← hkl] at HY' HT'
        have hek : ((k : Int) == (ln : Int)) = true := by simp [hkl]
        obtain ⟨x, hx0⟩ : ∃ x : Int, x = xs.getD k 0 := ⟨_, rfl⟩
        rw [← hx0] at hck HY' HT'
        have HSN : Hid _ := hsn
        clear hx hx' hkl hx0 hsn
        by_cases k1 : kd = 1
        · have f1 : (kd == 1) = true := by simpa using k1
          have f2 : (kd == 2) = false := by simp; omega
          have f3 : (kd == 3) = false := by simp; omega
          obtain rfl : y = x := by rw [HY']; simp [tellF, k1]
          obtain rfl : t = y := by rw [HT']; simp [tellF, k1]
          clear HY' HT' k1
          go_wp2_with (at_builtin; refine wpList_append_own _ rfl _ _ 22 rfl W0.heap.size 3 i0 (.int .i64 0) 1 8 Try.underlying22 hi hz0 hz1 hz2 rfl (by decide) _ _ _ rfl (hown.alloc _) ⟨wr.heap.size, 0, none⟩ 1 1 [.int .i64 (t)] rfl rfl (ia_new _ _ _) (ia_one _ _) (by unfold maxLen; omega) (by omega) (by simp; omega) ?_; intro v' w1 h1 h2 _; have R := ia_step hbel hown HSN.out h1 h2; clear h1 h2 hown hck)
          go_roundw
          case rel => exact ⟨k + 1, by omega, by go_num, by rw [HX'.out], R.1, R.2⟩
          case measure => simp [intOf]; omega
        · by_cases k2 : kd = 2
          · have f1 : (kd == 1) = false := by simp; omega
            have f2 : (kd == 2) = true := by simpa using k2
            have f3 : (kd == 3) = false := by simp; omega
            obtain rfl : y = v := by rw [HY']; simp [tellF, k1, k2]
            obtain rfl : t = 0 := by rw [HT']; simp [tellF, k1, k2]
            clear HY' HT' k1 k2
            go_wp2_with (at_builtin; refine wpList_append_own _ rfl _ _ 22 rfl W0.heap.size 3 i0 (.int .i64 0) 1 8 Try.underlying22 hi hz0 hz1 hz2 rfl (by decide) _ _ _ rfl (hown.alloc _) ⟨wr.heap.size, 0, none⟩ 1 1 [.int .i64 (y)] rfl rfl (ia_new _ _ _) (ia_one _ _) (by unfold maxLen; omega) (by omega) (by simp; omega) ?_; intro v' w1 h1 h2 _; have R := ia_step hbel hown HSN.out h1 h2; clear h1 h2 hown hck)
            go_roundw
            case rel => exact ⟨k + 1, by omega, by go_num, by rw [HX'.out], R.1, R.2⟩
            case measure => simp [intOf]; omega
          · by_cases k3 : kd = 3
            · have f1 : (kd == 1) = false := by simp; omega
              have f2 : (kd == 2) = false := by simp; omega
              have f3 : (kd == 3) = true := by simpa using k3
              have hy3 : y = (wrap64 ((wrap64 (x + v)).tmod 256 + 256)).tmod 256 := by rw [HY', rem256w, wrap_mod256]; simp [tellF, k1, k2, k3]
              obtain rfl : t = x := by rw [HT']; simp [tellF, k1, k2, k3]
              rw [hy3] at HSN
              clear HY' HT' k1 k2 k3 hy3
              go_wp2_with (at_builtin; refine wpList_append_own _ rfl _ _ 22 rfl W0.heap.size 3 i0 (.int .i64 0) 1 8 Try.underlying22 hi hz0 hz1 hz2 rfl (by decide) _ _ _ rfl (hown.alloc _) ⟨wr.heap.size, 0, none⟩ 1 1 [.int .i64 ((wrap64 ((wrap64 (t + v)).tmod 256 + 256)).tmod 256)] rfl rfl (ia_new _ _ _) (ia_one _ _) (by unfold maxLen; omega) (by omega) (by simp; omega) ?_; intro v' w1 h1 h2 _; have R := ia_step hbel hown HSN.out h1 h2; clear h1 h2 hown hck)
              go_roundw
              case rel => exact ⟨k + 1, by omega, by go_num, by rw [HX'.out], R.1, R.2⟩
              case measure => simp [intOf]; omega
            · have f1 : (kd == 1) = false := by simp; omega
              have f2 : (kd == 2) = false := by simp; omega
              have f3 : (kd == 3) = false := by simp; omega
              obtain rfl : y = x := by rw [HY']; simp [tellF, k1, k2, k3]
              obtain rfl : t = 0 := by rw [HT']; simp [tellF, k1, k2, k3]
              clear HY' HT' k1 k2 k3
              go_wp2_with (at_builtin; refine wpList_append_own _ rfl _ _ 22 rfl W0.heap.size 3 i0 (.int .i64 0) 1 8 Try.underlying22 hi hz0 hz1 hz2 rfl (by decide) _ _ _ rfl (hown.alloc _) ⟨wr.heap.size, 0, none⟩ 1 1 [.int .i64 (y)] rfl rfl (ia_new _ _ _) (ia_one _ _) (by unfold maxLen; omega) (by omega) (by simp; omega) ?_; intro v' w1 h1 h2 _; have R := ia_step hbel hown HSN.out h1 h2; clear h1 h2 hown hck)
              go_roundw
              case rel => exact ⟨k + 1, by omega, by go_num, by rw [HX'.out], R.1, R.2⟩
              case measure => simp [intOf]; omega
      · rw [if_neg hkl] at hsn
        have hx' : (if ln < k + 1 then t else 0) = if ln < k then t else 0 := by
          by_cases e : ln < k
          · rw [if_pos e, if_pos (by omega)]
          · rw [if_neg e, if_neg (by omega)]
        have HX' : Hid _ := hx'
        obtain ⟨td, htd⟩ : ∃ td : Int, td = if ln < k then t else 0 := ⟨_, rfl⟩
        rw [← htd] at HX' ⊢
        have hek : ((k : Int) == (ln : Int)) = false := by simp; omega
        obtain ⟨x, hx0⟩ : ∃ x : Int, x = xs.getD k 0 := ⟨_, rfl⟩
        rw [← hx0] at hck hsn
        have HSN : Hid _ := hsn
        clear hx' hkl hx0 hsn htd
        go_wp2_with (at_builtin; refine wpList_append_own _ rfl _ _ 22 rfl W0.heap.size 3 i0 (.int .i64 0) 1 8 Try.underlying22 hi hz0 hz1 hz2 rfl (by decide) _ _ _ rfl (hown.alloc _) ⟨wr.heap.size, 0, none⟩ 1 1 [.int .i64 (x)] rfl rfl (ia_new _ _ _) (ia_one _ _) (by unfold maxLen; omega) (by omega) (by simp; omega) ?_; intro v' w1 h1 h2 _; have R := ia_step hbel hown HSN.out h1 h2; clear h1 h2 hown hck)
        go_roundw
        case rel => exact ⟨k + 1, by omega, by go_num, by rw [HX'.out], R.1, R.2⟩
        case measure => simp [intOf]; omega
    · have ek : k = N := by omega
      subst ek
      rw [List.take_of_length_le (by rw [HTl.out, ← HN.out]; exact Nat.le_refl _)] at hown
      rw [if_pos q4']
      have hbB := ia_below hB0 hbel
      clear d0 d1 d2
      go_wp2
      go_ret3
      exact ⟨_, rfl, ia_owns_mono hown (by omega), hbB⟩
theorem rdo_sl (a : Option Addr) (cap : Nat) (xs : List Int) (o : SOp) (w : World) (hn : xs.length * 8 ≤ 140737488351232) (hs : ISl w a xs) (h : flatW xs.length o = 0) :
    Calls Try.prog 10 #[.slice a xs.length cap, o.val] w fun e w' => ∃ a' c', e = .returned (.tuple #[.slice a' xs.length c', .int .i64 (tellF (xs.getD o.line.toNat 0) o).2, .int .i64 0]) ∧ ISl w' a' (xs.set o.line.toNat (tellF (xs.getD o.line.toNat 0) o).1) ∧ Below w.heap.size w w' := by
  obtain ⟨q1, q2, q3, q4, q5, q6⟩ := flatW_ok h
  have hbd := tell_bd (o := o) (hs.1 o.line.toNat (by omega)) q5 q6
  refine (rdo_walk a cap xs o w hn hs h).mono fun e w' ⟨v, h1, h2, h3⟩ => ?_
  obtain ⟨a', c', rfl, _, _, h4⟩ := owns_ISl (xs := xs.set o.line.toNat (tellF (xs.getD o.line.toNat 0) o).1) (by rw [List.length_set]; exact h2) (isInts_set hs.1 hbd)
  rw [List.length_set] at h1
  exact ⟨a', c', h1, h4, h3⟩
end Go.Proofs.Ytmlpekoombikaab
