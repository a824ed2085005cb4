/- The calls of FrameTells for any slice of bytes: frame's and the document's own answer, one value each. -/
import Derived.Test.YtmjhmbalkgpcjaaRefParse2
import Derived.Test.YtmjhmbalkgpcjaaRefBytes
import Derived.Test.YtmjhmbalkgpcjaaTurns
namespace Go.Proofs.Ytmjhmbalkgpcjaa
open Go.RowKit
set_option linter.unusedVariables false
set_option linter.unusedSimpArgs false

theorem rparse_any (c : Cfg) (b off cap : Nat) (xs : List Nat) (w : World) (hcap : xs.length ≤ cap) (hcm : cap ≤ maxLen) (hc : BRow w b off xs) (hx : isBytes xs) :
    Calls Try.prog 13 #[c.val, .slice (some ⟨b, off, none⟩) xs.length cap] w fun e w' => e = .returned (.tuple #[(parseF c xs).1.val, .int .i64 (parseF c xs).2]) ∧ Below w.heap.size w w' := by
  by_cases hn : xs.length = 12
  · have ks := fun w' (hb : Below w.heap.size w w') => rsum_take b off cap 10 xs w' (by omega) (by decide) (hc.below hb) hx
    have kw := fun w => rwrong_any c (readF xs) w
    match xs, hn with
    | [x0, x1, x2, x3, x4, x5, x6, x7, x8, x9, x10, x11], _ =>
      have c0 : w.cell? ⟨b, off, none⟩ = some (.int .u8 x0) := hc 0 (by simp)
      have c1 : w.cell? ⟨b, off + 1, none⟩ = some (.int .u8 x1) := hc 1 (by simp)
      have c2 : w.cell? ⟨b, off + 2, none⟩ = some (.int .u8 x2) := hc 2 (by simp)
      have c3 : w.cell? ⟨b, off + 3, none⟩ = some (.int .u8 x3) := hc 3 (by simp)
      have c4 : w.cell? ⟨b, off + 4, none⟩ = some (.int .u8 x4) := hc 4 (by simp)
      have c5 : w.cell? ⟨b, off + 5, none⟩ = some (.int .u8 x5) := hc 5 (by simp)
      have c6 : w.cell? ⟨b, off + 6, none⟩ = some (.int .u8 x6) := hc 6 (by simp)
      have c7 : w.cell? ⟨b, off + 7, none⟩ = some (.int .u8 x7) := hc 7 (by simp)
      have c8 : w.cell? ⟨b, off + 8, none⟩ = some (.int .u8 x8) := hc 8 (by simp)
      have c9 : w.cell? ⟨b, off + 9, none⟩ = some (.int .u8 x9) := hc 9 (by simp)
      have c10 : w.cell? ⟨b, off + 10, none⟩ = some (.int .u8 x10) := hc 10 (by simp)
      have c11 : w.cell? ⟨b, off + 11, none⟩ = some (.int .u8 x11) := hc 11 (by simp)
      have d0 : x0 < 256 := hx 0 (by simp)
      have d1 : x1 < 256 := hx 1 (by simp)
      have d2 : x2 < 256 := hx 2 (by simp)
      have d3 : x3 < 256 := hx 3 (by simp)
      have d4 : x4 < 256 := hx 4 (by simp)
      have d5 : x5 < 256 := hx 5 (by simp)
      have d6 : x6 < 256 := hx 6 (by simp)
      have d7 : x7 < 256 := hx 7 (by simp)
      have d8 : x8 < 256 := hx 8 (by simp)
      have d9 : x9 < 256 := hx 9 (by simp)
      have d10 : x10 < 256 := hx 10 (by simp)
      have d11 : x11 < 256 := hx 11 (by simp)
      have hcap' : 12 ≤ cap := hcap
      have hsb : sumBad [x0, x1, x2, x3, x4, x5, x6, x7, x8, x9, x10, x11] = ((csum 65535 (List.take 10 [x0, x1, x2, x3, x4, x5, x6, x7, x8, x9, x10, x11]) : Int) != 256 * (x10 : Int) + x11) := by
        have : sumBad [x0, x1, x2, x3, x4, x5, x6, x7, x8, x9, x10, x11] = ((csum 65535 (List.take 10 [x0, x1, x2, x3, x4, x5, x6, x7, x8, x9, x10, x11]) : Int) != ((x10 * 256 + x11 : Nat) : Int)) := rfl
        rw [this]
        congr 1
        omega
      have hrd : (readF [x0, x1, x2, x3, x4, x5, x6, x7, x8, x9, x10, x11]).val = .agg #[.int .i64 ((x0 : Int)), .int .i64 ((x1 : Int) / 16), .int .i64 ((x1 : Int) % 16), .int .i64 ((x2 : Int)), .int .i64 (256 * (x3 : Int) + (x4 : Int)), .int .i64 (256 * (x5 : Int) + (x6 : Int)), .int .i64 ((x7 : Int)), .bool ((x8 : Int) == 1)] := by
        show Value.agg #[.int .i64 ((x0 : Int)), .int .i64 ((x1 / 16 : Nat) : Int), .int .i64 ((x1 % 16 : Nat) : Int), .int .i64 ((x2 : Int)), .int .i64 ((x3 * 256 + x4 : Nat) : Int), .int .i64 ((x5 * 256 + x6 : Nat) : Int), .int .i64 ((x7 : Int)), .bool ((x8 : Int) == 1)] = _
        rw [show ((x1 / 16 : Nat) : Int) = (x1 : Int) / 16 by omega, show ((x1 % 16 : Nat) : Int) = (x1 : Int) % 16 by omega, show ((x3 * 256 + x4 : Nat) : Int) = 256 * (x3 : Int) + x4 by omega, show ((x5 * 256 + x6 : Nat) : Int) = 256 * (x5 : Int) + x6 by omega]
      by_cases hs : sumBad [x0, x1, x2, x3, x4, x5, x6, x7, x8, x9, x10, x11] = true
      · have e : parseF c [x0, x1, x2, x3, x4, x5, x6, x7, x8, x9, x10, x11] = (Msg.zero, 7) := by unfold parseF; rw [if_neg (by simp), if_pos hs]
        rw [e]
        rw [hsb] at hs
        exact rparse_sum c b off cap x0 x1 x2 x3 x4 x5 x6 x7 x8 x9 x10 x11 _ w hcap' hcm c0 c1 c2 c3 c4 c5 c6 c7 c8 c9 c10 c11 d0 d1 d2 d3 d4 d5 d6 d7 d8 d9 d10 d11 ks hs
      · have hs' := hs
        rw [hsb] at hs'
        have hs2 := eq_false_of_ne_true hs'
        by_cases hf : 1 < x8 ∨ x9 ≠ 0
        · have e : parseF c [x0, x1, x2, x3, x4, x5, x6, x7, x8, x9, x10, x11] = (Msg.zero, 2) := by unfold parseF; rw [if_neg (by simp), if_neg hs]; exact if_pos hf
          rw [e]
          exact rparse_form c b off cap x0 x1 x2 x3 x4 x5 x6 x7 x8 x9 x10 x11 _ w hcap' hcm c0 c1 c2 c3 c4 c5 c6 c7 c8 c9 c10 c11 d0 d1 d2 d3 d4 d5 d6 d7 d8 d9 d10 d11 ks hs2 hf
        · have e0 : parseF c [x0, x1, x2, x3, x4, x5, x6, x7, x8, x9, x10, x11] = if wrongF c (readF [x0, x1, x2, x3, x4, x5, x6, x7, x8, x9, x10, x11]) ≠ 0 then (Msg.zero, wrongF c (readF [x0, x1, x2, x3, x4, x5, x6, x7, x8, x9, x10, x11])) else (readF [x0, x1, x2, x3, x4, x5, x6, x7, x8, x9, x10, x11], 0) := by
            unfold parseF
            rw [if_neg (by simp), if_neg hs]
            exact if_neg hf
          rw [e0]
          rw [hrd] at kw
          by_cases hw : wrongF c (readF [x0, x1, x2, x3, x4, x5, x6, x7, x8, x9, x10, x11]) = 0
          · rw [if_neg (by simpa using hw)]
            rw [hw] at kw
            rw [hrd]
            exact rparse_ok c b off cap x0 x1 x2 x3 x4 x5 x6 x7 x8 x9 x10 x11 _ w hcap' hcm c0 c1 c2 c3 c4 c5 c6 c7 c8 c9 c10 c11 d0 d1 d2 d3 d4 d5 d6 d7 d8 d9 d10 d11 ks hs2 (by omega) (by omega) 0 rfl kw
          · rw [if_pos hw]
            exact rparse_bad c b off cap x0 x1 x2 x3 x4 x5 x6 x7 x8 x9 x10 x11 _ w hcap' hcm c0 c1 c2 c3 c4 c5 c6 c7 c8 c9 c10 c11 d0 d1 d2 d3 d4 d5 d6 d7 d8 d9 d10 d11 ks hs2 (by omega) (by omega) _ hw kw
  · rw [parseF_short hn]
    exact rparse_short c _ _ cap w hn

theorem rparse_sl (c : Cfg) (a : Option Addr) (cap : Nat) (xs : List Nat) (w : World) (hcap : xs.length ≤ cap) (hcm : cap ≤ maxLen) (h : BSl w a xs) :
    Calls Try.prog 13 #[c.val, .slice a xs.length cap] w fun e w' => e = .returned (.tuple #[(parseF c xs).1.val, .int .i64 (parseF c xs).2]) ∧ Below w.heap.size w w' := by
  by_cases hx : xs = []
  · subst hx
    rw [parseF_short (by simp)]
    exact rparse_short c a 0 cap w (by decide)
  · obtain ⟨b, off, rfl, hrow⟩ := h.2 hx
    exact rparse_any c b off cap xs w hcap hcm hrow h.1
theorem sum_sl (a : Option Addr) (cap : Nat) (xs : List Nat) (w : World) (hl : xs.length ≤ maxLen) (h : BSl w a xs) :
    Calls Try.prog 8 #[.slice a xs.length cap] w fun e w' => e = .returned (.int .i64 (csum 65535 xs)) ∧ w' = w := by
  by_cases hx : xs = []
  · subst hx; exact sum_empty a cap w
  · obtain ⟨b, off, rfl, hrow⟩ := h.2 hx
    exact sum_any b off cap xs w hl hrow h.1
theorem rsum_sl (a : Option Addr) (cap : Nat) (xs : List Nat) (w : World) (hl : xs.length ≤ maxLen) (h : BSl w a xs) :
    Calls Try.prog 9 #[.slice a xs.length cap] w fun e w' => e = .returned (.int .i64 (csum 65535 xs)) ∧ w' = w := by
  by_cases hx : xs = []
  · subst hx; exact rsum_empty a cap w
  · obtain ⟨b, off, rfl, hrow⟩ := h.2 hx
    exact rsum_any b off cap xs w hl hrow h.1
theorem turned_empty (a : Option Addr) (cap : Nat) (bit : Int) (w : World) :
    Calls Try.prog 11 #[.slice a 0 cap, .int .i64 bit] w fun e w' => e = .returned (.slice none 0 0) ∧ w' = w := by
  go_enter Try.func11, Try.ntmps11
  go_wp2
  refine wp_loop_rounds 1 ?_; rw [rounds_succ]
  go_wp2
  go_ret
  exact ⟨rfl, rfl⟩
/-- Both: a slice whose bytes are those with the bit turned. -/
theorem turn_sl (a : Option Addr) (cap : Nat) (xs : List Nat) (bit : Int) (w : World) (hl : xs.length ≤ 140737488351232) (hb2 : bit ≤ 9223372036854775807) (h : BSl w a xs) :
    Calls Try.prog 10 #[.slice a xs.length cap, .int .i64 bit] w fun e w' => ∃ a' cap', e = .returned (.slice a' xs.length cap') ∧ BSl w' a' (turnF xs bit) ∧ Below w.heap.size w w' :=
  (turn_walk a cap xs bit w hl hb2 h).mono fun e w' ⟨h1, h2, h3⟩ => ⟨_, _, h1, ⟨turnF_isBytes xs bit h.1, fun _ => ⟨_, 0, rfl, h2.row⟩⟩, h3⟩
theorem turned_sl (a : Option Addr) (cap : Nat) (xs : List Nat) (bit : Int) (w : World) (hl : xs.length ≤ 140737488351232) (hb1 : -9223372036854775808 ≤ bit) (hb2 : bit ≤ 9223372036854775807) (h : BSl w a xs) :
    Calls Try.prog 11 #[.slice a xs.length cap, .int .i64 bit] w fun e w' => ∃ a' cap', e = .returned (.slice a' xs.length cap') ∧ BSl w' a' (turnF xs bit) ∧ Below w.heap.size w w' := by
  by_cases hx : xs = []
  · subst hx
    refine (turned_empty a cap bit w).mono fun e w' ⟨h1, h2⟩ => ⟨none, 0, h1, ⟨turnF_isBytes [] bit h.1, fun hne => absurd (List.eq_nil_of_length_eq_zero (turnF_length [] bit)) hne⟩, ?_⟩
    rw [h2]; exact Below.refl _ _
  · obtain ⟨b, off, rfl, hrow⟩ := h.2 hx
    have hpos : 0 < xs.length := List.length_pos_iff.2 hx
    have hbw : b < w.heap.size := block_lt_of_cell (hrow 0 hpos)
    refine (turned_walk b off cap xs bit w hl hb1 hb2 h.1 hrow hbw).mono fun e w' ⟨v, h1, h2, h3⟩ => ?_
    have h2' : w'.ownsRow w.heap.size 5 1 v (turnF xs bit).length (u8s (turnF xs bit)) := by rw [turnF_length]; exact h2
    obtain ⟨a', cap', hv, _, _, hB⟩ := owns_BSl h2' (turnF_isBytes xs bit h.1)
    rw [turnF_length] at hv
    exact ⟨a', cap', by rw [h1, hv], hB, h3⟩
theorem rbytes_at (m : Msg) (h : Fit m) (w : World) :
    Calls Try.prog 15 #[m.val] w fun e w' => ∃ a cap, e = .returned (.slice a 12 cap) ∧ BSl w' a (bytesF m) ∧ Below w.heap.size w w' := by
  have hby := bytesF_isBytes m h
  obtain ⟨h1, h2, h3, h4, h5, h6, h7, h8, h9, h10, h11, h12, h13, h14⟩ := h
  have hH : isBytes (headF m) := fun i hi => by
    have hi' : i < 10 := hi
    have := hby i (by rw [bytesF_length]; omega)
    unfold bytesF at this
    simpa [List.getD, List.getElem?_append_left (show i < (headF m).length from hi)] using this
  have := rbytes_walk m.kind.toNat m.frm.toNat m.to.toNat m.line.toNat m.serial.toNat m.turn.toNat m.value.toNat m.alone (m.frm.toNat * 16 + m.to.toNat) (m.serial.toNat / 256) (m.serial.toNat % 256) (m.turn.toNat / 256) (m.turn.toNat % 256) (flagN m.alone) (csum 65535 (headF m)) (headF m) w
    (by omega) (by omega) (by omega) (by omega) (by omega) (by omega) (by omega) (by omega) (by omega) rfl rfl hH rfl
  rw [Int.toNat_of_nonneg h1, Int.toNat_of_nonneg h3, Int.toNat_of_nonneg h5, Int.toNat_of_nonneg h7, Int.toNat_of_nonneg h9, Int.toNat_of_nonneg h11, Int.toNat_of_nonneg h13] at this
  rw [msg_val]
  refine this.mono fun e w' ⟨v, e1, e2, e3⟩ => ?_
  obtain ⟨a, cap, hv, _, _, hB⟩ := owns_BSl (xs := bytesF m) e2 hby
  exact ⟨a, cap, by rw [e1, hv]; rfl, hB, e3⟩
end Go.Proofs.Ytmjhmbalkgpcjaa
