/- What frame.upTo, frame.inRange and frame.Wrong answer, for any config and message. -/
import Derived.Test.YtfgemnlbbipbcaaProg
import Derived.WalkKit
import Derived.WalkSpells
import Derived.WalkLawsBesides
namespace Go.Proofs.Ytfgemnlbbipbcaa
open Go.RowKit
set_option linter.unusedVariables false

structure Cfg where
  cores : Int
  lines : Int
structure Msg where
  kind : Int
  frm : Int
  to : Int
  line : Int
  serial : Int
  turn : Int
  value : Int
  alone : Bool
def Cfg.val (c : Cfg) : Value := .agg #[.int .i64 c.cores, .int .i64 c.lines]
def Msg.val (m : Msg) : Value := .agg #[.int .i64 m.kind, .int .i64 m.frm, .int .i64 m.to, .int .i64 m.line, .int .i64 m.serial, .int .i64 m.turn, .int .i64 m.value, .bool m.alone]

theorem bcell {W w1 : World} (hb : Below W.heap.size W w1) : (∀ b o, b < W.heap.size → w1.cell? ⟨b, o, none⟩ = W.cell? ⟨b, o, none⟩) ∧ (∀ b o, b < W.heap.size → w1.frozen? ⟨b, o, none⟩ = W.frozen? ⟨b, o, none⟩) :=
  ⟨fun b o h => hb.cell (p := ⟨b, o, none⟩) h, fun b o h => hb.frozen (p := ⟨b, o, none⟩) h⟩

def upB (n m : Int) : Bool := decide (0 ≤ n) && decide (n ≤ m)
def rangeB (c : Cfg) (m : Msg) : Bool :=
  upB m.frm c.cores && (upB m.to c.cores && (decide (0 ≤ m.line) && (decide (m.line < c.lines) && (upB m.serial 65535 && (upB m.turn 65535 && upB m.value 255)))))
def wrongF (c : Cfg) (m : Msg) : Int :=
  if m.kind < 1 ∨ 11 < m.kind then 1 else if rangeB c m = false then 3 else if (m.frm == c.cores) = (m.to == c.cores) then 6 else 0

theorem ret_bool {a b : Bool} (h : a = b) : Ending.returned (.bool a) = .returned (.bool b) := by rw [h]

theorem upTo_any (n m : Int) (w : World) :
    Calls Try.prog 39 #[.int .i64 n, .int .i64 m] w fun e w' => e = .returned (.bool (upB n m)) ∧ w' = w := by
  go_enter Try.func39, Try.ntmps39
  go_wp2
  all_goals go_ret
  all_goals exact ⟨ret_bool (by simp [upB, *] <;> omega), rfl⟩

theorem inRange_any (c : Cfg) (m : Msg) (w : World) :
    Calls Try.prog 29 #[c.val, m.val] w fun e w' => e = .returned (.bool (rangeB c m)) ∧ Below w.heap.size w w' := by
  obtain ⟨cores, lines⟩ := c
  obtain ⟨kind, frm, to, line, serial, turn, value, alone⟩ := m
  unfold Cfg.val Msg.val
  go_enter Try.func29, Try.ntmps29
  go_wp2_with (go_at_call 39; refine (upTo_any _ _ _).mono ?_; rintro e w' ⟨rfl, rfl⟩)
  all_goals go_ret
  all_goals exact ⟨ret_bool (by first | (simp [rangeB, *]; done) | (simp [rangeB, *]; omega)), ((Below.refl _ _).alloc (Nat.le_refl _) _).alloc (by simp) _⟩

theorem ret_int' {k : IntKind} {a b : Int} (h : a = b) : Ending.returned (.int k b) = .returned (.int k a) := by rw [h]
theorem wrong_1 {c : Cfg} {m : Msg} (h : m.kind < 1 ∨ 11 < m.kind) : wrongF c m = 1 := by unfold wrongF; rw [if_pos h]
theorem wrong_2 {c : Cfg} {m : Msg} (h : 1 ≤ m.kind ∧ m.kind ≤ 11) (h1 : (!rangeB c m) = true) : wrongF c m = 3 := by
  unfold wrongF; rw [if_neg (by omega), if_pos (by simpa using h1)]
theorem wrong_3 {c : Cfg} {m : Msg} (h : 1 ≤ m.kind ∧ m.kind ≤ 11) (h1 : (!rangeB c m) = false) (h2 : ((m.frm == c.cores) == (m.to == c.cores)) = true) : wrongF c m = 6 := by
  unfold wrongF; rw [if_neg (by omega), if_neg (by simpa using h1), if_pos (by simpa using h2)]
theorem wrong_4 {c : Cfg} {m : Msg} (h : 1 ≤ m.kind ∧ m.kind ≤ 11) (h1 : (!rangeB c m) = false) (h2 : ((m.frm == c.cores) == (m.to == c.cores)) = false) : wrongF c m = 0 := by
  unfold wrongF; rw [if_neg (by omega), if_neg (by simpa using h1), if_neg (by simpa using h2)]

theorem wrong_any (c : Cfg) (m : Msg) (w : World) :
    Calls Try.prog 9 #[c.val, m.val] w fun e w' => e = .returned (.int .i64 (wrongF c m)) ∧ Below w.heap.size w w' := by
  have hr := fun w => inRange_any c m w
  have hb : ∀ b, rangeB c m = b → Hid (rangeB c m = b) := fun _ h => h
  obtain ⟨r, hr0⟩ : ∃ r, rangeB c m = r := ⟨_, rfl⟩
  rw [hr0] at hr
  have H := hb _ hr0
  clear hb hr0
  obtain ⟨cores, lines⟩ := c
  obtain ⟨kind, frm, to, line, serial, turn, value, alone⟩ := m
  unfold Cfg.val Msg.val at *
  go_enter Try.func9, Try.ntmps9
  go_wp2_with (go_at_call 29; refine (hr _).mono ?_; rintro e w' ⟨rfl, hbel⟩; obtain ⟨hc, hf⟩ := bcell hbel)
  all_goals go_ret
  · exact ⟨ret_int' (wrong_1 (by assumption)), ((Below.refl _ _).alloc (Nat.le_refl _) _).alloc (by simp) _⟩
  · exact ⟨ret_int' (wrong_2 (by assumption) (by rw [H.out]; assumption)), (((Below.refl _ _).alloc (Nat.le_refl _) _).alloc (by simp) _).trans (hbel.mono (by simp; omega))⟩
  · exact ⟨ret_int' (wrong_3 (by assumption) (by rw [H.out]; assumption) (by assumption)), (((Below.refl _ _).alloc (Nat.le_refl _) _).alloc (by simp) _).trans (hbel.mono (by simp; omega))⟩
  · exact ⟨ret_int' (wrong_4 (by assumption) (by rw [H.out]; assumption) (by assumption)), (((Below.refl _ _).alloc (Nat.le_refl _) _).alloc (by simp) _).trans (hbel.mono (by simp; omega))⟩
  · exact ⟨ret_int' (wrong_1 (Or.inl (by assumption))), ((Below.refl _ _).alloc (Nat.le_refl _) _).alloc (by simp) _⟩
end Go.Proofs.Ytfgemnlbbipbcaa
