/- shlaw1.FrameTurns answers true, for every input: what is sent is read, and a frame that is read is its message's. -/
import Derived.Test.YtmjhmbalkgpcjaaSpoilt
namespace Go.Proofs.Ytmjhmbalkgpcjaa
open Go.RowKit
set_option linter.unusedVariables false
set_option linter.unusedSimpArgs false

theorem conv_sl (w : World) (a : Option Addr) (cap : Nat) (xs : List Nat) (h : BSl w a xs) : (convert 26 9 (.slice a xs.length cap)).run Try.prog w = .ok (.string (strOf xs)) w := by
  by_cases hx : xs = []
  · subst hx
    rw [List.length_nil, run_convert_bytes_string w 26 9 5 _ 0 cap Try.underlying26 Try.underlying5 Try.underlying9]
    cases a <;> simp [Conv.bytesToString, loadCells]
    all_goals rfl
  · obtain ⟨b, off, rfl, hrow⟩ := h.2 hx
    exact run_convert_bytes_arg w 26 5 Try.underlying26 Try.underlying5 b off xs.length cap (xs.map fun (x : Nat) => (x : Int)) (by simp) (fun i hi => by
      rw [hrow i hi]
      simp [List.getD, hi]) 9 Try.underlying9
theorem parse_sl (c : Cfg) (a : Option Addr) (cap : Nat) (xs : List Nat) (w : World) (hcap : xs.length ≤ cap) (hcm : cap ≤ maxLen) (h : BSl w a xs) :
    Calls Try.prog 12 #[c.val, .slice a xs.length cap] w fun e w' => e = .returned (.tuple #[(parseF c xs).1.val, .int .i64 (parseF c xs).2]) ∧ Below w.heap.size w w' := by
  by_cases hx : xs = []
  · subst hx
    exact parse_empty c a cap w
  · obtain ⟨b, off, rfl, hrow⟩ := h.2 hx
    exact parse_any c b off cap xs w hcap hcm hrow h.1

theorem readF_fit (xs : List Nat) (hn : xs.length = 12) (h : isBytes xs) : Fit (readF xs) := by
  have h0 := h 0 (by omega)
  have h1 := h 1 (by omega)
  have h2 := h 2 (by omega)
  have h3 := h 3 (by omega)
  have h4 := h 4 (by omega)
  have h5 := h 5 (by omega)
  have h6 := h 6 (by omega)
  have h7 := h 7 (by omega)
  constructor <;> simp only [readF] <;> omega
theorem bytesF_readF (xs : List Nat) (hn : xs.length = 12) (h : isBytes xs) (hs : sumBad xs = false) (h8 : xs.getD 8 0 ≤ 1) (h9 : xs.getD 9 0 = 0) : bytesF (readF xs) = xs := by
  have hb : ∀ i, i < 12 → xs.getD i 0 < 256 := fun i hi => h i (by omega)
  match xs, hn with
  | [x0, x1, x2, x3, x4, x5, x6, x7, x8, x9, x10, x11], _ =>
    have b0 : x0 < 256 := hb 0 (by decide)
    have b1 : x1 < 256 := hb 1 (by decide)
    have b2 : x2 < 256 := hb 2 (by decide)
    have b3 : x3 < 256 := hb 3 (by decide)
    have b4 : x4 < 256 := hb 4 (by decide)
    have b5 : x5 < 256 := hb 5 (by decide)
    have b6 : x6 < 256 := hb 6 (by decide)
    have b7 : x7 < 256 := hb 7 (by decide)
    have b10 : x10 < 256 := hb 10 (by decide)
    have b11 : x11 < 256 := hb 11 (by decide)
    have e9 : x9 = 0 := h9
    have e8 : x8 ≤ 1 := h8
    subst e9
    have hs' : ((csum 65535 [x0, x1, x2, x3, x4, x5, x6, x7, x8, 0] : Int) != ((x10 * 256 + x11 : Nat) : Int)) = false := hs
    have hs2 : csum 65535 [x0, x1, x2, x3, x4, x5, x6, x7, x8, 0] = x10 * 256 + x11 := by
      simp only [bne_eq_false_iff_eq] at hs'
      omega
    have ef : flagN ((x8 : Int) == 1) = x8 := by
      have : x8 = 0 ∨ x8 = 1 := by omega
      rcases this with rfl | rfl <;> rfl
    have eh : headF (readF [x0, x1, x2, x3, x4, x5, x6, x7, x8, 0, x10, x11]) = [x0, x1, x2, x3, x4, x5, x6, x7, x8, 0] := by
      show [((x0 : Nat) : Int).toNat, (((x1 / 16 : Nat) : Int)).toNat * 16 + (((x1 % 16 : Nat) : Int)).toNat, ((x2 : Nat) : Int).toNat, (((x3 * 256 + x4 : Nat) : Int)).toNat / 256, (((x3 * 256 + x4 : Nat) : Int)).toNat % 256, (((x5 * 256 + x6 : Nat) : Int)).toNat / 256, (((x5 * 256 + x6 : Nat) : Int)).toNat % 256, ((x7 : Nat) : Int).toNat, flagN ((x8 : Int) == 1), 0] = _
      rw [ef]
      simp only [Int.toNat_natCast]
      rw [show x1 / 16 * 16 + x1 % 16 = x1 by omega, show (x3 * 256 + x4) / 256 = x3 by omega, show (x3 * 256 + x4) % 256 = x4 by omega, show (x5 * 256 + x6) / 256 = x5 by omega, show (x5 * 256 + x6) % 256 = x6 by omega]
    unfold bytesF
    rw [eh, hs2, show (x10 * 256 + x11) / 256 = x10 by omega, show (x10 * 256 + x11) % 256 = x11 by omega]
    rfl
/-- What a frame's reading is: nothing, and why; or its message, of which it is the frame. -/
theorem parse_cases (c : Cfg) (xs : List Nat) (h : isBytes xs) :
    ((parseF c xs).2 ≠ 0 ∧ (parseF c xs).1 = Msg.zero) ∨ ((parseF c xs).2 = 0 ∧ xs.length = 12 ∧ Fit (parseF c xs).1 ∧ bytesF (parseF c xs).1 = xs) := by
  by_cases hn : xs.length = 12
  · by_cases hs : sumBad xs = true
    · have e : parseF c xs = (Msg.zero, 7) := by unfold parseF; rw [if_neg (by simpa using hn), if_pos hs]
      rw [e]; exact .inl ⟨by decide, rfl⟩
    · by_cases hf : 1 < xs.getD 8 0 ∨ xs.getD 9 0 ≠ 0
      · have e : parseF c xs = (Msg.zero, 2) := by unfold parseF; rw [if_neg (by simpa using hn), if_neg hs, if_pos hf]
        rw [e]; exact .inl ⟨by decide, rfl⟩
      · by_cases hw : wrongF c (readF xs) ≠ 0
        · have e : parseF c xs = (Msg.zero, wrongF c (readF xs)) := by unfold parseF; rw [if_neg (by simpa using hn), if_neg hs, if_neg hf, if_pos hw]
          rw [e]; exact .inl ⟨hw, rfl⟩
        · have e : parseF c xs = (readF xs, 0) := by unfold parseF; rw [if_neg (by simpa using hn), if_neg hs, if_neg hf, if_neg hw]
          rw [e]; exact .inr ⟨rfl, hn, readF_fit xs hn h, bytesF_readF xs hn h (by simpa using hs) (by omega) (by omega)⟩
  · rw [parseF_short hn]; exact .inl ⟨by decide, rfl⟩

theorem turns_not (c : Cfg) (m : Msg) (a : Option Addr) (len cap : Nat) (w : World) (hn : ¬ (1 ≤ c.cores ∧ c.cores ≤ 4 ∧ 1 ≤ c.lines ∧ c.lines ≤ 4)) :
    Calls Try.prog 4 #[c.val, m.val, .slice a len cap] w fun e w' => e = .returned (.bool true) ∧ Below w.heap.size w w' := by
  have kA := fun w => alive_any w
  have kW := fun w => wrong_any c m w
  obtain ⟨cores, lines⟩ := c
  obtain ⟨kind, frm, to, line, serial, turn, value, alone⟩ := m
  unfold Cfg.val Msg.val at *
  simp only at hn
  have HN : Hid _ := hn
  clear hn
  go_enter Try.func4, Try.ntmps4
  go_wp2_with (first | (go_at_call 16; refine (kA _).mono ?_; rintro e w1 ⟨rfl, hb1⟩; obtain ⟨hc1, hf1⟩ := bcell hb1; obtain ⟨z1, y1⟩ := size2' hb1) | (go_at_call 6; fail))
  all_goals first
    | (exfalso; refine HN.out ?_; (repeat' apply And.intro) <;> omega)
    | (go_ret; exact ⟨rfl, below_b1 hb1⟩)

theorem below_b2' {w w1 w2 : World} {o1 o2 : Obj} (hb1 : Below ((w.alloc o1).alloc o2).heap.size ((w.alloc o1).alloc o2) w1) (hb2 : Below w1.heap.size w1 w2) : Below ((w.alloc o1).alloc o2).heap.size ((w.alloc o1).alloc o2) w2 := below_on hb1 hb1.size hb2
theorem gr_alloc_drew (w : World) (o : Obj) : Below w.heap.size w (w.alloc o).drew := Below.drew (gr_alloc w o)
theorem below_w5 {w W w5 : World} {g : Nat} {v0 v1 v2 v3 v4 v5 v6 v7 : Value} (h : Below w.heap.size w W) (hg : w.heap.size ≤ g)
    (hb5 : Below ((((((((W.setCell ⟨g, 0, none⟩ v0).setCell ⟨g, 1, none⟩ v1).setCell ⟨g, 2, none⟩ v2).setCell ⟨g, 3, none⟩ v3).setCell ⟨g, 4, none⟩ v4).setCell ⟨g, 5, none⟩ v5).setCell ⟨g, 6, none⟩ v6).setCell ⟨g, 7, none⟩ v7).heap.size ((((((((W.setCell ⟨g, 0, none⟩ v0).setCell ⟨g, 1, none⟩ v1).setCell ⟨g, 2, none⟩ v2).setCell ⟨g, 3, none⟩ v3).setCell ⟨g, 4, none⟩ v4).setCell ⟨g, 5, none⟩ v5).setCell ⟨g, 6, none⟩ v6).setCell ⟨g, 7, none⟩ v7) w5) : Below w.heap.size w w5 :=
  below_on (below_set8 h hg) (below_set8 h hg).size hb5
end Go.Proofs.Ytmjhmbalkgpcjaa
