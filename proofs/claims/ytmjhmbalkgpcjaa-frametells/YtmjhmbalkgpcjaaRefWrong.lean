/- What shref1.Wrong answers: the same as frame.Wrong. -/
import Derived.Test.YtmjhmbalkgpcjaaParse
namespace Go.Proofs.Ytmjhmbalkgpcjaa
open Go.RowKit
set_option linter.unusedVariables false
set_option linter.unusedSimpArgs false

theorem range_iff (c : Cfg) (m : Msg) : rangeB c m = true ↔ (0 ≤ m.frm ∧ m.frm ≤ c.cores) ∧ (0 ≤ m.to ∧ m.to ≤ c.cores) ∧ 0 ≤ m.line ∧ m.line < c.lines ∧ (0 ≤ m.serial ∧ m.serial ≤ 65535) ∧ (0 ≤ m.turn ∧ m.turn ≤ 65535) ∧ (0 ≤ m.value ∧ m.value ≤ 255) := by
  simp [rangeB, upB]
theorem wrong_range {c : Cfg} {m : Msg} (h : 1 ≤ m.kind ∧ m.kind ≤ 11) (h1 : ¬ ((0 ≤ m.frm ∧ m.frm ≤ c.cores) ∧ (0 ≤ m.to ∧ m.to ≤ c.cores) ∧ 0 ≤ m.line ∧ m.line < c.lines ∧ (0 ≤ m.serial ∧ m.serial ≤ 65535) ∧ (0 ≤ m.turn ∧ m.turn ≤ 65535) ∧ (0 ≤ m.value ∧ m.value ≤ 255))) : wrongF c m = 3 := by
  refine wrong_2 h ?_
  rw [← range_iff] at h1
  simpa using h1

set_option maxHeartbeats 2000000 in
theorem rwrong_kind (c : Cfg) (m : Msg) (w : World) (hk : m.kind < 1 ∨ 11 < m.kind) :
    Calls Try.prog 7 #[c.val, m.val] w fun e w' => e = .returned (.int .i64 (wrongF c m)) ∧ Below w.heap.size w w' := by
  rw [wrong_1 hk]
  obtain ⟨cores, lines⟩ := c
  obtain ⟨kind, frm, to, line, serial, turn, value, alone⟩ := m
  unfold Cfg.val Msg.val
  simp only at hk
  rcases hk with hk | hk
  · go_enter Try.func7, Try.ntmps7
    go_wp2
    go_ret
    exact ⟨rfl, below2 _ _ _⟩
  · have hk' : 1 ≤ kind := by omega
    go_enter Try.func7, Try.ntmps7
    go_wp2
    go_ret
    exact ⟨rfl, below2 _ _ _⟩

set_option maxHeartbeats 4000000 in
theorem rwrong_line (c : Cfg) (m : Msg) (w : World) (hk1 : 1 ≤ m.kind) (hk2 : m.kind ≤ 11) (hl : m.line < 0 ∨ c.lines ≤ m.line) :
    Calls Try.prog 7 #[c.val, m.val] w fun e w' => e = .returned (.int .i64 3) ∧ Below w.heap.size w w' := by
  obtain ⟨cores, lines⟩ := c
  obtain ⟨kind, frm, to, line, serial, turn, value, alone⟩ := m
  unfold Cfg.val Msg.val
  simp only at hk1 hk2 hl
  go_enter Try.func7, Try.ntmps7
  go_wp2
  refine wp_loop_rounds 1 ?_
  rw [rounds_succ]
  rcases hl with hl | hl
  · go_wp2
    all_goals (go_ret; exact ⟨rfl, by go_grown⟩)
  · by_cases hl0 : 0 ≤ line
    · go_wp2
      all_goals (go_ret; exact ⟨rfl, by go_grown⟩)
    · have hl1 : line < 0 := by omega
      clear hl hl0
      go_wp2
      all_goals (go_ret; exact ⟨rfl, by go_grown⟩)

set_option maxHeartbeats 4000000 in
theorem rwrong_0 (c : Cfg) (m : Msg) (w : World) (hk1 : 1 ≤ m.kind) (hk2 : m.kind ≤ 11) (hl1 : 0 ≤ m.line) (hl2 : m.line < c.lines)  (hb : m.frm < 0 ∨ c.cores < m.frm) :
    Calls Try.prog 7 #[c.val, m.val] w fun e w' => e = .returned (.int .i64 3) ∧ Below w.heap.size w w' := by
  obtain ⟨cores, lines⟩ := c
  obtain ⟨kind, frm, to, line, serial, turn, value, alone⟩ := m
  unfold Cfg.val Msg.val
  simp only at hk1 hk2 hl1 hl2 hb 
  go_enter Try.func7, Try.ntmps7
  go_wp2
  refine wp_loop_rounds 1 ?_
  rw [rounds_succ]
  by_cases hb0 : frm < 0
  · clear hb
    go_wp2
    go_ret
    exact ⟨rfl, by go_grown⟩
  · have hb1 : 0 ≤ frm := by omega
    have hb2 : cores < frm := by omega
    clear hb hb0
    go_wp2
    go_ret
    exact ⟨rfl, by go_grown⟩

set_option maxHeartbeats 4000000 in
theorem rwrong_1 (c : Cfg) (m : Msg) (w : World) (hk1 : 1 ≤ m.kind) (hk2 : m.kind ≤ 11) (hl1 : 0 ≤ m.line) (hl2 : m.line < c.lines) (a0 : 0 ≤ m.frm) (b0 : m.frm ≤ c.cores) (hb : m.to < 0 ∨ c.cores < m.to) :
    Calls Try.prog 7 #[c.val, m.val] w fun e w' => e = .returned (.int .i64 3) ∧ Below w.heap.size w w' := by
  obtain ⟨cores, lines⟩ := c
  obtain ⟨kind, frm, to, line, serial, turn, value, alone⟩ := m
  unfold Cfg.val Msg.val
  simp only at hk1 hk2 hl1 hl2 hb a0 b0
  go_enter Try.func7, Try.ntmps7
  go_wp2
  refine wp_loop_rounds 2 ?_
  rw [rounds_succ]
  go_wp2
  rw [rounds_succ]
  by_cases hb0 : to < 0
  · clear hb
    go_wp2
    go_ret
    exact ⟨rfl, by go_grown⟩
  · have hb1 : 0 ≤ to := by omega
    have hb2 : cores < to := by omega
    clear hb hb0
    go_wp2
    go_ret
    exact ⟨rfl, by go_grown⟩

set_option maxHeartbeats 4000000 in
theorem rwrong_2 (c : Cfg) (m : Msg) (w : World) (hk1 : 1 ≤ m.kind) (hk2 : m.kind ≤ 11) (hl1 : 0 ≤ m.line) (hl2 : m.line < c.lines) (a0 : 0 ≤ m.frm) (b0 : m.frm ≤ c.cores) (a1 : 0 ≤ m.to) (b1 : m.to ≤ c.cores) (hb : m.serial < 0 ∨ 65535 < m.serial) :
    Calls Try.prog 7 #[c.val, m.val] w fun e w' => e = .returned (.int .i64 3) ∧ Below w.heap.size w w' := by
  obtain ⟨cores, lines⟩ := c
  obtain ⟨kind, frm, to, line, serial, turn, value, alone⟩ := m
  unfold Cfg.val Msg.val
  simp only at hk1 hk2 hl1 hl2 hb a0 b0 a1 b1
  go_enter Try.func7, Try.ntmps7
  go_wp2
  refine wp_loop_rounds 3 ?_
  rw [rounds_succ]
  go_wp2
  rw [rounds_succ]
  go_wp2
  rw [rounds_succ]
  by_cases hb0 : serial < 0
  · clear hb
    go_wp2
    go_ret
    exact ⟨rfl, by go_grown⟩
  · have hb1 : 0 ≤ serial := by omega
    have hb2 : 65535 < serial := by omega
    clear hb hb0
    go_wp2
    go_ret
    exact ⟨rfl, by go_grown⟩

set_option maxHeartbeats 4000000 in
theorem rwrong_3 (c : Cfg) (m : Msg) (w : World) (hk1 : 1 ≤ m.kind) (hk2 : m.kind ≤ 11) (hl1 : 0 ≤ m.line) (hl2 : m.line < c.lines) (a0 : 0 ≤ m.frm) (b0 : m.frm ≤ c.cores) (a1 : 0 ≤ m.to) (b1 : m.to ≤ c.cores) (a2 : 0 ≤ m.serial) (b2 : m.serial ≤ 65535) (hb : m.turn < 0 ∨ 65535 < m.turn) :
    Calls Try.prog 7 #[c.val, m.val] w fun e w' => e = .returned (.int .i64 3) ∧ Below w.heap.size w w' := by
  obtain ⟨cores, lines⟩ := c
  obtain ⟨kind, frm, to, line, serial, turn, value, alone⟩ := m
  unfold Cfg.val Msg.val
  simp only at hk1 hk2 hl1 hl2 hb a0 b0 a1 b1 a2 b2
  go_enter Try.func7, Try.ntmps7
  go_wp2
  refine wp_loop_rounds 4 ?_
  rw [rounds_succ]
  go_wp2
  rw [rounds_succ]
  go_wp2
  rw [rounds_succ]
  go_wp2
  rw [rounds_succ]
  by_cases hb0 : turn < 0
  · clear hb
    go_wp2
    go_ret
    exact ⟨rfl, by go_grown⟩
  · have hb1 : 0 ≤ turn := by omega
    have hb2 : 65535 < turn := by omega
    clear hb hb0
    go_wp2
    go_ret
    exact ⟨rfl, by go_grown⟩

set_option maxHeartbeats 4000000 in
theorem rwrong_4 (c : Cfg) (m : Msg) (w : World) (hk1 : 1 ≤ m.kind) (hk2 : m.kind ≤ 11) (hl1 : 0 ≤ m.line) (hl2 : m.line < c.lines) (a0 : 0 ≤ m.frm) (b0 : m.frm ≤ c.cores) (a1 : 0 ≤ m.to) (b1 : m.to ≤ c.cores) (a2 : 0 ≤ m.serial) (b2 : m.serial ≤ 65535) (a3 : 0 ≤ m.turn) (b3 : m.turn ≤ 65535) (hb : m.value < 0 ∨ 255 < m.value) :
    Calls Try.prog 7 #[c.val, m.val] w fun e w' => e = .returned (.int .i64 3) ∧ Below w.heap.size w w' := by
  obtain ⟨cores, lines⟩ := c
  obtain ⟨kind, frm, to, line, serial, turn, value, alone⟩ := m
  unfold Cfg.val Msg.val
  simp only at hk1 hk2 hl1 hl2 hb a0 b0 a1 b1 a2 b2 a3 b3
  go_enter Try.func7, Try.ntmps7
  go_wp2
  refine wp_loop_rounds 5 ?_
  rw [rounds_succ]
  go_wp2
  rw [rounds_succ]
  go_wp2
  rw [rounds_succ]
  go_wp2
  rw [rounds_succ]
  go_wp2
  rw [rounds_succ]
  by_cases hb0 : value < 0
  · clear hb
    go_wp2
    go_ret
    exact ⟨rfl, by go_grown⟩
  · have hb1 : 0 ≤ value := by omega
    have hb2 : 255 < value := by omega
    clear hb hb0
    go_wp2
    go_ret
    exact ⟨rfl, by go_grown⟩

set_option maxHeartbeats 8000000 in
theorem rwrong_in (c : Cfg) (m : Msg) (w : World) (hk1 : 1 ≤ m.kind) (hk2 : m.kind ≤ 11) (hl1 : 0 ≤ m.line) (hl2 : m.line < c.lines) (a0 : 0 ≤ m.frm) (b0 : m.frm ≤ c.cores) (a1 : 0 ≤ m.to) (b1 : m.to ≤ c.cores) (a2 : 0 ≤ m.serial) (b2 : m.serial ≤ 65535) (a3 : 0 ≤ m.turn) (b3 : m.turn ≤ 65535) (a4 : 0 ≤ m.value) (b4 : m.value ≤ 255) (r1 r2 : Bool) (hr1 : (m.frm == c.cores) = r1) (hr2 : (m.to == c.cores) = r2) :
    Calls Try.prog 7 #[c.val, m.val] w fun e w' => e = .returned (.int .i64 (if r1 = r2 then 6 else 0)) ∧ Below w.heap.size w w' := by
  obtain ⟨cores, lines⟩ := c
  obtain ⟨kind, frm, to, line, serial, turn, value, alone⟩ := m
  unfold Cfg.val Msg.val
  simp only at hk1 hk2 hl1 hl2 a0 b0 a1 b1 a2 b2 a3 b3 a4 b4 hr1 hr2
  have hr3 : (frm != cores) = !r1 := by simp [bne, hr1]
  have hr4 : (to != cores) = !r2 := by simp [bne, hr2]
  cases r1 <;> cases r2
  all_goals
    simp only [Bool.not_true, Bool.not_false] at hr3 hr4
    go_enter Try.func7, Try.ntmps7
    go_wp2
    refine wp_loop_rounds 6 ?_
    rw [rounds_succ]
    go_wp2
    rw [rounds_succ]
    go_wp2
    rw [rounds_succ]
    go_wp2
    rw [rounds_succ]
    go_wp2
    rw [rounds_succ]
    go_wp2
    rw [rounds_succ]
    go_wp2
    go_ret
    exact ⟨rfl, by go_grown⟩

theorem rwrong_any (c : Cfg) (m : Msg) (w : World) :
    Calls Try.prog 7 #[c.val, m.val] w fun e w' => e = .returned (.int .i64 (wrongF c m)) ∧ Below w.heap.size w w' := by
  by_cases hk : 1 ≤ m.kind ∧ m.kind ≤ 11
  · obtain ⟨k1, k2⟩ := hk
    by_cases hr : (0 ≤ m.frm ∧ m.frm ≤ c.cores) ∧ (0 ≤ m.to ∧ m.to ≤ c.cores) ∧ 0 ≤ m.line ∧ m.line < c.lines ∧ (0 ≤ m.serial ∧ m.serial ≤ 65535) ∧ (0 ≤ m.turn ∧ m.turn ≤ 65535) ∧ (0 ≤ m.value ∧ m.value ≤ 255)
    · have hrb := (range_iff c m).2 hr
      obtain ⟨⟨a0, b0⟩, ⟨a1, b1⟩, l1, l2, ⟨a2, b2⟩, ⟨a3, b3⟩, a4, b4⟩ := hr
      have e : wrongF c m = if (m.frm == c.cores) = (m.to == c.cores) then 6 else 0 := by
        unfold wrongF
        rw [if_neg (by omega), if_neg (by simp [hrb])]
      rw [e]
      exact rwrong_in c m w k1 k2 l1 l2 a0 b0 a1 b1 a2 b2 a3 b3 a4 b4 _ _ rfl rfl
    · rw [wrong_range ⟨k1, k2⟩ hr]
      by_cases hl : m.line < 0 ∨ c.lines ≤ m.line
      · exact rwrong_line c m w k1 k2 hl
      · have l1 : 0 ≤ m.line := by omega
        have l2 : m.line < c.lines := by omega
        by_cases h0 : m.frm < 0 ∨ c.cores < m.frm
        · exact rwrong_0 c m w k1 k2 l1 l2 h0
        · by_cases h1 : m.to < 0 ∨ c.cores < m.to
          · exact rwrong_1 c m w k1 k2 l1 l2 (by omega) (by omega) h1
          · by_cases h2 : m.serial < 0 ∨ 65535 < m.serial
            · exact rwrong_2 c m w k1 k2 l1 l2 (by omega) (by omega) (by omega) (by omega) h2
            · by_cases h3 : m.turn < 0 ∨ 65535 < m.turn
              · exact rwrong_3 c m w k1 k2 l1 l2 (by omega) (by omega) (by omega) (by omega) (by omega) (by omega) h3
              · exact rwrong_4 c m w k1 k2 l1 l2 (by omega) (by omega) (by omega) (by omega) (by omega) (by omega) (by omega) (by omega) (by omega)
  · exact rwrong_kind c m w (by omega)
end Go.Proofs.Ytmjhmbalkgpcjaa
