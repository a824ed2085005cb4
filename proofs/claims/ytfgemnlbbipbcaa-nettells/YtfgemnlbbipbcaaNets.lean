/- What package net's own functions answer: ownFrame, has, hasBit, Own. -/
import Derived.Test.YtfgemnlbbipbcaaFrames
namespace Go.Proofs.Ytfgemnlbbipbcaa
open Go.RowKit
set_option linter.unusedVariables false
set_option linter.unusedSimpArgs false

theorem Try.infoSl : (Try.prog.info? 26).map (fun i => (i.zero, i.size, i.bytes)) = some (some (.slice none 0 0), 1, 24) := by kernel_rfl
theorem madeCells_nil (n : Nat) : madeCells (Value.slice none 0 0).cells n = (List.replicate n (Value.slice none 0 0)).toArray := by
  apply Array.ext
  · simp [madeCells]
  · intro i h1 h2
    simp [madeCells, Value.cells, Nat.mod_one]
theorem FV.nil (w : World) : FV w (.slice none 0 0) [] := ⟨none, 0, rfl, by simp, by decide, by simp, fun i hi => by simp at hi, fun h => absurd rfl h⟩
theorem make_fr (w : World) (n : Nat) (hn : n * 24 ≤ 140737488355328) : ∃ Z : List Value, LOwn (w.alloc (.cells Z.toArray 26)) w.heap.size (List.replicate n []) ∧
    (Instr.makeSlice 38 (.int .i64 n) (.int .i64 n)).run Try.prog w = .ok (.slice (some ⟨w.heap.size, 0, none⟩) n n) (w.alloc (.cells Z.toArray 26)) := by
  obtain ⟨i0, hi, hz0, hz1, hz2⟩ := info_parts Try.infoSl
  have := run_make (P := Try.prog) w 38 26 i0 (.slice none 0 0) Try.underlying38 hi hz0 .i64 .i64 n n (by omega) (by omega) (by rw [hz2]; omega) (by omega)
  rw [hz1] at this
  simp only [Int.toNat_natCast, Nat.mul_one] at this
  rw [madeCells_nil] at this
  refine ⟨_, ⟨_, heap_alloc_new _ _, by simp, fun i v xs hv hx => ?_⟩, this⟩
  rw [List.getElem?_replicate] at hv hx
  split at hv
  · rename_i h
    rw [if_pos h] at hx
    cases hv; cases hx
    exact FV.nil _
  · cases hv
theorem LOwn.free {w : World} {g : Nat} {ls : List (List Nat)} (h : LOwn w g ls) (i : Nat) : w.frozen? ⟨g, i, none⟩ = false := by
  obtain ⟨us, h1, h2⟩ := h
  simp [World.frozen?, h1]
theorem LOwn.cell {w : World} {g : Nat} {ls : List (List Nat)} (h : LOwn w g ls) (i : Nat) (hi : i < ls.length) : ∃ u, w.cell? ⟨g, i, none⟩ = some u ∧ FV w u ls[i] := by
  obtain ⟨b, off, u, e, h1, h2⟩ := h.ls.at i hi
  cases e
  rw [Nat.zero_add] at h1
  exact ⟨u, h1, h2⟩

set_option maxHeartbeats 1000000 in
theorem ownFrame_any (a : Option Addr) (cap : Nat) (xs : List Nat) (w : World) (hl : xs.length ≤ 140737488351232) (hs : BSl w a xs) :
    Calls Try.prog 36 #[.slice a xs.length cap] w fun e w' => ∃ g, e = .returned (.slice (some ⟨g, 0, none⟩) xs.length xs.length) ∧ FV w' (.slice (some ⟨g, 0, none⟩) xs.length xs.length) xs ∧ Below w.heap.size w w' := by
  obtain ⟨Z, hZ, hmk⟩ := make_u8 w xs.length (by omega)
  obtain ⟨A, hA, hcp⟩ := copy_u8 w Z 3 a cap xs hZ hs
  have HZ : Hid _ := hZ
  have HA : Hid _ := hA
  clear hZ hA
  have hown : Own (w.alloc (.cells A 5)) w.heap.size xs := by unfold Own; rw [HA.out]; exact heap_alloc_new _ _
  have HO : Hid _ := hown
  clear hown
  go_enter Try.func36, Try.ntmps36
  go_wp2
  go_ret
  exact ⟨_, rfl, FV.of_own HO.out hl hs.1, (Below.refl _ _).alloc (Nat.le_refl _) _⟩

theorem has_any (a : Option Addr) (cap m : Nat) (n : Int) (w : World) (hm : m ≤ maxLen) :
    Calls Try.prog 37 #[.slice a m cap, .int .i64 n] w fun e w' => e = .returned (.bool (decide (0 ≤ n ∧ n < m))) ∧ w' = w := by
  by_cases h0 : 0 ≤ n
  · by_cases h1 : n < m
    · go_enter Try.func37, Try.ntmps37
      go_wp2
      go_ret
      simp [h0, h1]
    · go_enter Try.func37, Try.ntmps37
      go_wp2
      go_ret
      simp [h0, h1]
  · have h1 : n < 0 := by omega
    go_enter Try.func37, Try.ntmps37
    go_wp2
    go_ret
    simp; omega
theorem hasBit_any (a : Option Addr) (cap m : Nat) (n : Int) (w : World) (hm : m ≤ maxLen) (hn : n ≤ 9223372036854775807) :
    Calls Try.prog 38 #[.slice a m cap, .int .i64 n] w fun e w' => e = .returned (.bool (decide (0 ≤ n ∧ n / 8 < m))) ∧ w' = w := by
  by_cases h0 : 0 ≤ n
  · by_cases h1 : n / 8 < m
    · go_enter Try.func38, Try.ntmps38
      go_wp2
      go_ret
      simp [h0, h1]
    · go_enter Try.func38, Try.ntmps38
      go_wp2
      go_ret
      simp [h0, h1]
  · have h1 : n < 0 := by omega
    go_enter Try.func38, Try.ntmps38
    go_wp2
    go_ret
    simp; omega

set_option maxHeartbeats 1000000 in
theorem own_any (a : Option Addr) (cap : Nat) (ls : List (List Nat)) (w : World) (hl : ls.length * 24 ≤ 140737488351232) (hs : LS w a ls) :
    Calls Try.prog 21 #[.slice a ls.length cap] w fun e w' => ∃ g, e = .returned (.slice (some ⟨g, 0, none⟩) ls.length ls.length) ∧ LOwn w' g ls ∧ w.heap.size ≤ g ∧ Below w.heap.size w w' := by
  obtain ⟨Z, hZ, hmk⟩ := make_fr w ls.length (by omega)
  have HZ : Hid _ := hZ
  have HS : Hid (LS w a ls) := hs
  clear hZ hs
  go_enter Try.func21, Try.ntmps21
  go_wp2
  go_loopw [11] (fun i wr => ∃ k : Nat, k ≤ ls.length ∧ i = .int .i64 k ∧ (∃ ms, LOwn wr w.heap.size ms ∧ ms.length = ls.length ∧ ∀ j, j < k → ms[j]? = ls[j]?) ∧ Below w.heap.size w wr) (fun i _ => ls.length - (intOf i).toNat)
  case atStart => exact ⟨0, Nat.zero_le _, rfl, ⟨_, HZ.out, by simp, fun j hj => by omega⟩, (Below.refl _ _).alloc (Nat.le_refl _) _⟩
  case round =>
    obtain ⟨k, hk, rfl, ⟨ms, hms, hml, hmj⟩, hbel⟩ := hrel
    by_cases hlt : k < ls.length
    · obtain ⟨b, off, u, rfl, hcu, au, cu, rfl, huc, hum, hul, hbu⟩ := (HS.out.below hbel).at k hlt
      have kO := ownFrame_any au cu ls[k] wr hul hbu
      obtain ⟨x, hx0⟩ : ∃ x, x = ls[k] := ⟨_, rfl⟩
      rw [← hx0] at kO hcu huc hul hbu
      have HX : Hid _ := hx0
      have HMS : Hid (LOwn wr w.heap.size ms) := hms
      have HML : Hid _ := hml
      have HMJ : Hid _ := hmj
      clear hx0 hms hml hmj
      go_wp2_with (go_at_call 36; refine kO.mono ?_; rintro e w1 ⟨g1, rfl, hF, hb1⟩; have hO1 := HMS.out.below hb1; have hfz := hO1.free k; obtain ⟨u1, hcell, _⟩ := hO1.cell k (by rw [HML.out]; exact hlt))
      go_roundw
      case rel =>
        refine ⟨k + 1, by omega, by go_num, ⟨_, hO1.set hF, by simpa using HML.out, fun j hj => ?_⟩, (hbel.trans (hb1.mono hbel.size)).setCell (by exact Nat.le_refl _) _⟩
        by_cases e : j = k
        · subst e
          rw [List.getElem?_set_self (by rw [HML.out]; exact hlt), HX.out]
          exact (List.getElem?_eq_getElem hlt).symm
        · rw [List.getElem?_set_ne (Ne.symm e)]
          exact HMJ.out j (by omega)
      case measure => simp [intOf]; omega
    · go_wp2
      go_ret
      have ek : k = ls.length := by omega
      subst ek
      obtain rfl : ms = ls := List.ext_getElem? fun j => by
        by_cases hj : j < ls.length
        · exact hmj j hj
        · rw [List.getElem?_eq_none (by omega), List.getElem?_eq_none (by omega)]
      exact ⟨_, rfl, hms, Nat.le_refl _, hbel⟩
end Go.Proofs.Ytfgemnlbbipbcaa
