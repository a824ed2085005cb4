/- shlaw1.FrameSpoilt answers true, for every input: one bit turned of a message's frame is found, and turned back it is the frame. -/
import Derived.Test.YtmjhmbalkgpcjaaAlive
import Derived.Laws.BytesArg
namespace Go.Proofs.Ytmjhmbalkgpcjaa
open Go.RowKit
set_option linter.unusedVariables false
set_option linter.unusedSimpArgs false

def strOf (Y : List Nat) : ByteArray := strOfNums (Y.map fun (x : Nat) => (x : Int))
theorem conv_row (w : World) (g : Nat) (Y : List Nat) (hn : Y.length = 12) (h : BRow w g 0 Y) : (convert 26 9 (.slice (some ⟨g, 0, none⟩) 12 12)).run Try.prog w = .ok (.string (strOf Y)) w :=
  run_convert_bytes_arg w 26 5 Try.underlying26 Try.underlying5 g 0 12 12 (Y.map fun (x : Nat) => (x : Int)) (by simpa using hn) (fun i hi => by
    rw [h i (by omega)]
    simp [List.getD, show i < Y.length by omega]) 9 Try.underlying9

theorem fit_of_wrong {c : Cfg} {m : Msg} (h : wrongF c m = 0) (h1 : c.cores ≤ 4) (h2 : c.lines ≤ 4) : Fit m := by
  unfold wrongF at h
  split at h
  · omega
  · split at h
    · omega
    · rename_i hk hr
      have hr' : rangeB c m = true := by simpa using hr
      simp only [rangeB, upB, Bool.and_eq_true, decide_eq_true_eq] at hr'
      constructor <;> omega

theorem below_b1 {w w1 : World} {o1 o2 : Obj} (hb1 : Below ((w.alloc o1).alloc o2).heap.size ((w.alloc o1).alloc o2) w1) : Below w.heap.size w w1 := below_on (below2 w o1 o2) (below2 w o1 o2).size hb1
theorem below_b2 {w w1 w2 : World} {o1 o2 : Obj} (hb1 : Below ((w.alloc o1).alloc o2).heap.size ((w.alloc o1).alloc o2) w1) (hb2 : Below w1.heap.size w1 w2) : Below w.heap.size w w2 := below_on (below_b1 hb1) (below_b1 hb1).size hb2

theorem below_b4 {w w1 w2 w3 w4 w5 : World} {o1 o2 : Obj} (hb1 : Below ((w.alloc o1).alloc o2).heap.size ((w.alloc o1).alloc o2) w1) (hb2 : Below w1.heap.size w1 w2) (hb3 : Below w2.heap.size w2 w3) (hb4 : Below w3.heap.size w3 w4) (hb5 : Below w4.heap.size w4 w5) : Below ((w.alloc o1).alloc o2).heap.size ((w.alloc o1).alloc o2) w5 := by
  have g2 := below_on hb1 hb1.size hb2
  have g3 := below_on g2 g2.size hb3
  have g4 := below_on g3 g3.size hb4
  exact below_on g4 g4.size hb5
theorem below_b5 {w w1 w2 w3 w4 w5 W : World} {o1 o2 o3 : Obj} (hb1 : Below ((w.alloc o1).alloc o2).heap.size ((w.alloc o1).alloc o2) w1) (hb2 : Below w1.heap.size w1 w2) (hb3 : Below w2.heap.size w2 w3) (hb4 : Below w3.heap.size w3 w4) (hb5 : Below w4.heap.size w4 w5) (hG : Gr (w5.alloc o3).drew W) : Below w.heap.size w W := by
  have g2 := below_b2 hb1 hb2
  have g3 := below_on g2 g2.size hb3
  have g4 := below_on g3 g3.size hb4
  have g5 := below_on g4 g4.size hb5
  have g6 := (g5.alloc g5.size o3).drew
  exact below_on g6 g6.size hG

/-- Not a case: true at once. -/
theorem spoilt_not (c : Cfg) (m : Msg) (bit : Int) (w : World) (hn : ¬ (1 ≤ c.cores ∧ c.cores ≤ 4 ∧ 1 ≤ c.lines ∧ c.lines ≤ 4 ∧ wrongF c m = 0 ∧ 0 ≤ bit ∧ bit < 96)) :
    Calls Try.prog 5 #[c.val, m.val, .int .i64 bit] w fun e w' => e = .returned (.bool true) ∧ Below w.heap.size w w' := by
  have kA := fun w => alive_any w
  have kW := fun w => wrong_any c m w
  obtain ⟨g, hg⟩ : ∃ g, g = wrongF c m := ⟨_, rfl⟩
  rw [← hg] at hn kW
  clear hg
  obtain ⟨cores, lines⟩ := c
  obtain ⟨kind, frm, to, line, serial, turn, value, alone⟩ := m
  unfold Cfg.val Msg.val at *
  simp only at hn
  have HN : Hid _ := hn
  clear hn
  go_enter Try.func5, Try.ntmps5
  go_wp2_with (first | (go_at_call 16; refine (kA _).mono ?_; rintro e w1 ⟨rfl, hb1⟩; obtain ⟨hc1, hf1⟩ := bcell hb1; obtain ⟨z1, y1⟩ := size2' hb1) | (go_at_call 6; refine (kW _).mono ?_; rintro e w2 ⟨rfl, hb2⟩))
  all_goals first
    | (exfalso; refine HN.out ?_; (repeat' apply And.intro) <;> omega)
    | (go_ret; exact ⟨rfl, below_b1 hb1⟩)
    | (go_ret; exact ⟨rfl, below_b2 hb1 hb2⟩)

set_option maxHeartbeats 2000000 in
theorem spoilt_good (c : Cfg) (m : Msg) (bit : Int) (w : World) (h1 : 1 ≤ c.cores) (h2 : c.cores ≤ 4) (h3 : 1 ≤ c.lines) (h4 : c.lines ≤ 4) (h5 : wrongF c m = 0) (h6 : 0 ≤ bit) (h7 : bit < 96) :
    Calls Try.prog 5 #[c.val, m.val, .int .i64 bit] w fun e w' => e = .returned (.bool true) ∧ Below w.heap.size w w' := by
  have hfit := fit_of_wrong h5 h2 h4
  have kA := fun w => alive_any w
  have kW := fun w => wrong_any c m w
  rw [h5] at kW
  obtain ⟨Y, eY⟩ : ∃ Y, Y = bytesF m := ⟨_, rfl⟩
  obtain ⟨Z, eZ⟩ : ∃ Z, Z = turnF (bytesF m) bit := ⟨_, rfl⟩
  have bY : isBytes Y := by rw [eY]; exact bytesF_isBytes m hfit
  have bZ : isBytes Z := by rw [eZ]; exact turnF_isBytes _ _ (bytesF_isBytes m hfit)
  have nY : Y.length = 12 := by rw [eY]; rfl
  have nZ : Z.length = 12 := by rw [eZ, turnF_length]; rfl
  have kB := fun w => bytes_at m hfit w
  have kT := fun w g (h : BRow w g 0 Y) => turn_at g Y bit w nY bY (by omega) h
  have kP := fun w g (h : BRow w g 0 Z) => parse_at c g Z w nZ bZ h
  have kT' := fun w g (h : BRow w g 0 Z) => turn_at g Z bit w nZ bZ (by omega) h
  have eYZ : turnF Z bit = Y := by rw [eZ, eY, turnF_turnF]
  rw [← eY] at kB
  rw [show turnF Y bit = Z by rw [eY, eZ]] at kT
  rw [show parseF c Z = (Msg.zero, 7) by rw [eZ]; exact parse_turn c m bit h6 h7] at kP
  rw [eYZ] at kT'
  clear eY eZ bY bZ nZ eYZ hfit h5
  obtain ⟨cores, lines⟩ := c
  obtain ⟨kind, frm, to, line, serial, turn, value, alone⟩ := m
  unfold Cfg.val Msg.val at *
  unfold Msg.zero at kP
  simp only at h1 h2 h3 h4
  go_enter Try.func5, Try.ntmps5
  go_wp2_with (first | (go_at_call 16; refine (kA _).mono ?_; rintro e w1 ⟨rfl, hb1⟩; obtain ⟨hc1, hf1⟩ := bcell hb1; obtain ⟨z1, y1⟩ := size2' hb1) | (go_at_call 6; refine (kW _).mono ?_; rintro e w2 ⟨rfl, hb2⟩; obtain ⟨hc2, hf2⟩ := bcell hb2; obtain ⟨z2, y2⟩ := size3' z1 hb2) | (go_at_call 14; refine (kB _).mono ?_; rintro e w3 ⟨g1, rfl, hY, hb3⟩; obtain ⟨hc3, hf3⟩ := bcell hb3; obtain ⟨z3, y3⟩ := size3' z2 hb3) | (go_at_call 10; refine (kT _ _ hY).mono ?_; rintro e w4 ⟨g2, rfl, hZ, hb4⟩; obtain ⟨hc4, hf4⟩ := bcell hb4; obtain ⟨z4, y4⟩ := size3' z3 hb4) | (go_at_call 12; refine (kP _ _ hZ).mono ?_; rintro e w5 ⟨rfl, hb5⟩; obtain ⟨hc5, hf5⟩ := bcell hb5; obtain ⟨z5, y5⟩ := size3' z4 hb5; have hZ5 := hZ.below hb5))
  have hB5 := below_b4 hb1 hb2 hb3 hb4 hb5
  obtain ⟨hcA, hfA⟩ := bcell hB5
  clear hc1 hf1 hc2 hf2 hc3 hf3 hc4 hf4 hc5 hf5 kA kW kP kT hZ hY
  refine wp_region_free 12 [] (by kernel_rfl) (by kernel_rfl) (by kernel_rfl) ?_
  dsimp only [List.take, List.drop]
  refine freeOK_step (fun v _ => v = .int .i64 7) (stable_eq _) rfl ?_ ?_
  · intro σ W hG hd
    refine ⟨?_⟩
    simp only [putAll, Act.put, List.nil_append, List.cons_append, List.setIfInBounds_toArray, List.set_cons_zero, List.set_cons_succ]
    go_wp2
    exact stepPost_mk (Gr.refl _) rfl rfl
  refine freeOK_step (fun v _ => v = .bool true) (stable_eq _) rfl ?_ ?_
  · intro σ W hG hd
    have e0 : σ 0 = .int .i64 7 := hd ⟨0, .data⟩ (by simp) rfl (fun v _ => v = .int .i64 7) rfl
    refine ⟨?_⟩
    simp only [putAll, Act.put, List.nil_append, List.cons_append, List.setIfInBounds_toArray, List.set_cons_zero, List.set_cons_succ, e0]
    go_wp2
    exact stepPost_mk (Gr.refl _) rfl rfl
  refine freeOK_step (fun v _ => v = .bool true) (stable_eq _) rfl ?_ ?_
  · intro σ W hG hd
    have e1 : σ 1 = .bool true := hd ⟨1, .data⟩ (by simp) rfl (fun v _ => v = .bool true) rfl
    refine ⟨?_⟩
    simp only [putAll, Act.put, List.nil_append, List.cons_append, List.setIfInBounds_toArray, List.set_cons_zero, List.set_cons_succ, e1]
    go_wp2
    exact stepPost_mk (Gr.refl _) rfl rfl
  refine freeOK_step (fun v _ => v = .slice (some ⟨g2, 0, none⟩) 12 12) (stable_eq _) rfl ?_ ?_
  · intro σ W hG hd
    have e2 : σ 2 = .bool true := hd ⟨2, .guard⟩ (by simp) rfl (fun v _ => v = .bool true) rfl
    refine ⟨?_⟩
    simp only [putAll, Act.put, List.nil_append, List.cons_append, List.setIfInBounds_toArray, List.set_cons_zero, List.set_cons_succ, e2]
    go_wp2
    exact stepPost_mk (Gr.refl _) rfl rfl
  refine freeOK_step (fun v _ => v = .int .i64 bit) (stable_eq _) rfl ?_ ?_
  · intro σ W hG hd
    have e2 : σ 2 = .bool true := hd ⟨2, .guard⟩ (by simp) rfl (fun v _ => v = .bool true) rfl
    refine ⟨?_⟩
    simp only [putAll, Act.put, List.nil_append, List.cons_append, List.setIfInBounds_toArray, List.set_cons_zero, List.set_cons_succ, e2]
    go_wp2
    exact stepPost_mk (Gr.refl _) rfl rfl
  refine freeOK_step (fun v w => ∃ g, v = .slice (some ⟨g, 0, none⟩) 12 12 ∧ BRow w g 0 Y) (fun _ _ _ hG ⟨g, h1, h2⟩ => ⟨g, h1, h2.below hG⟩) rfl ?_ ?_
  · intro σ W hG hd
    have e3 : σ 3 = .slice (some ⟨g2, 0, none⟩) 12 12 := hd ⟨3, .data⟩ (by simp) rfl (fun v _ => v = .slice (some ⟨g2, 0, none⟩) 12 12) rfl
    have e4 : σ 4 = .int .i64 bit := hd ⟨4, .data⟩ (by simp) rfl (fun v _ => v = .int .i64 bit) rfl
    have e2 : σ 2 = .bool true := hd ⟨2, .guard⟩ (by simp) rfl (fun v _ => v = .bool true) rfl
    have hZW : BRow W g2 0 Z := (hZ5.below (by go_grown)).below hG
    refine ⟨?_⟩
    simp only [putAll, Act.put, List.nil_append, List.cons_append, List.setIfInBounds_toArray, List.set_cons_zero, List.set_cons_succ, e3, e4, e2]
    go_wp2_with (go_at_call 10; refine (kT' _ _ hZW).mono ?_; rintro e w3 ⟨g3, rfl, hY3, hb3⟩)
    exact stepPost_mk hb3 rfl ⟨g3, rfl, hY3⟩
  refine freeOK_step (fun v _ => v = .string (strOf Y)) (stable_eq _) rfl ?_ ?_
  · intro σ W hG hd
    have h5 : ∃ g, σ 5 = .slice (some ⟨g, 0, none⟩) 12 12 ∧ BRow W g 0 Y := hd ⟨5, .data⟩ (by simp) rfl (fun v w => ∃ g, v = .slice (some ⟨g, 0, none⟩) 12 12 ∧ BRow w g 0 Y) rfl
    obtain ⟨g5, e5, hY5⟩ := h5
    have e2 : σ 2 = .bool true := hd ⟨2, .guard⟩ (by simp) rfl (fun v _ => v = .bool true) rfl
    have hcv := conv_row W g5 Y nY hY5
    refine ⟨?_⟩
    simp only [putAll, Act.put, List.nil_append, List.cons_append, List.setIfInBounds_toArray, List.set_cons_zero, List.set_cons_succ, e5, e2]
    go_wp2
    exact stepPost_mk (Gr.refl _) rfl rfl
  refine freeOK_step (fun v _ => v = .agg #[.int .i64 kind, .int .i64 frm, .int .i64 to, .int .i64 line, .int .i64 serial, .int .i64 turn, .int .i64 value, .bool alone]) (stable_eq _) rfl ?_ ?_
  · intro σ W hG hd
    have e2 : σ 2 = .bool true := hd ⟨2, .guard⟩ (by simp) rfl (fun v _ => v = .bool true) rfl
    have q0 := gcell hG (a := ⟨w.heap.size + 1, 0, none⟩) (v := .int .i64 kind) (by go_cell)
    have q1 := gcell hG (a := ⟨w.heap.size + 1, 1, none⟩) (v := .int .i64 frm) (by go_cell)
    have q2 := gcell hG (a := ⟨w.heap.size + 1, 2, none⟩) (v := .int .i64 to) (by go_cell)
    have q3 := gcell hG (a := ⟨w.heap.size + 1, 3, none⟩) (v := .int .i64 line) (by go_cell)
    have q4 := gcell hG (a := ⟨w.heap.size + 1, 4, none⟩) (v := .int .i64 serial) (by go_cell)
    have q5 := gcell hG (a := ⟨w.heap.size + 1, 5, none⟩) (v := .int .i64 turn) (by go_cell)
    have q6 := gcell hG (a := ⟨w.heap.size + 1, 6, none⟩) (v := .int .i64 value) (by go_cell)
    have q7 := gcell hG (a := ⟨w.heap.size + 1, 7, none⟩) (v := .bool alone) (by go_cell)
    refine ⟨?_⟩
    simp only [putAll, Act.put, List.nil_append, List.cons_append, List.setIfInBounds_toArray, List.set_cons_zero, List.set_cons_succ, e2]
    go_wp2
    exact stepPost_mk (Gr.refl _) rfl rfl
  refine freeOK_step (fun v w => ∃ g, v = .slice (some ⟨g, 0, none⟩) 12 12 ∧ BRow w g 0 Y) (fun _ _ _ hG ⟨g, h1, h2⟩ => ⟨g, h1, h2.below hG⟩) rfl ?_ ?_
  · intro σ W hG hd
    have e7 : σ 7 = .agg #[.int .i64 kind, .int .i64 frm, .int .i64 to, .int .i64 line, .int .i64 serial, .int .i64 turn, .int .i64 value, .bool alone] := hd ⟨7, .data⟩ (by simp) rfl (fun v _ => v = .agg #[.int .i64 kind, .int .i64 frm, .int .i64 to, .int .i64 line, .int .i64 serial, .int .i64 turn, .int .i64 value, .bool alone]) rfl
    have e2 : σ 2 = .bool true := hd ⟨2, .guard⟩ (by simp) rfl (fun v _ => v = .bool true) rfl
    refine ⟨?_⟩
    simp only [putAll, Act.put, List.nil_append, List.cons_append, List.setIfInBounds_toArray, List.set_cons_zero, List.set_cons_succ, e7, e2]
    go_wp2_with (go_at_call 14; refine (kB _).mono ?_; rintro e w3 ⟨g3, rfl, hY3, hb3⟩)
    exact stepPost_mk hb3 rfl ⟨g3, rfl, hY3⟩
  refine freeOK_step (fun v _ => v = .string (strOf Y)) (stable_eq _) rfl ?_ ?_
  · intro σ W hG hd
    have h8 : ∃ g, σ 8 = .slice (some ⟨g, 0, none⟩) 12 12 ∧ BRow W g 0 Y := hd ⟨8, .data⟩ (by simp) rfl (fun v w => ∃ g, v = .slice (some ⟨g, 0, none⟩) 12 12 ∧ BRow w g 0 Y) rfl
    obtain ⟨g8, e8, hY8⟩ := h8
    have e2 : σ 2 = .bool true := hd ⟨2, .guard⟩ (by simp) rfl (fun v _ => v = .bool true) rfl
    have hcv := conv_row W g8 Y nY hY8
    refine ⟨?_⟩
    simp only [putAll, Act.put, List.nil_append, List.cons_append, List.setIfInBounds_toArray, List.set_cons_zero, List.set_cons_succ, e8, e2]
    go_wp2
    exact stepPost_mk (Gr.refl _) rfl rfl
  refine freeOK_step (fun v _ => v = .bool true) (stable_eq _) rfl ?_ ?_
  · intro σ W hG hd
    have e6 : σ 6 = .string (strOf Y) := hd ⟨6, .data⟩ (by simp) rfl (fun v _ => v = .string (strOf Y)) rfl
    have e9 : σ 9 = .string (strOf Y) := hd ⟨9, .data⟩ (by simp) rfl (fun v _ => v = .string (strOf Y)) rfl
    have e2 : σ 2 = .bool true := hd ⟨2, .guard⟩ (by simp) rfl (fun v _ => v = .bool true) rfl
    refine ⟨?_⟩
    simp only [putAll, Act.put, List.nil_append, List.cons_append, List.setIfInBounds_toArray, List.set_cons_zero, List.set_cons_succ, e6, e9, e2]
    go_wp2
    exact stepPost_mk (Gr.refl _) rfl rfl
  refine freeOK_step (fun v _ => v = .bool true) (stable_eq _) rfl ?_ ?_
  · intro σ W hG hd
    have e2 : σ 2 = .bool true := hd ⟨2, .data⟩ (by simp) rfl (fun v _ => v = .bool true) rfl
    have e10 : σ 10 = .bool true := hd ⟨10, .data⟩ (by simp) rfl (fun v _ => v = .bool true) rfl
    refine ⟨?_⟩
    simp only [putAll, Act.put, List.nil_append, List.cons_append, List.setIfInBounds_toArray, List.set_cons_zero, List.set_cons_succ, e2, e10]
    go_wp2
    exact stepPost_mk (Gr.refl _) rfl rfl
  refine freeOK_done fun σ W hG hR => ?_
  have e0 : σ 0 = .int .i64 7 := hR 0 (fun v _ => v = .int .i64 7) rfl
  have e1 : σ 1 = .bool true := hR 1 (fun v _ => v = .bool true) rfl
  have e2 : σ 2 = .bool true := hR 2 (fun v _ => v = .bool true) rfl
  have e3 : σ 3 = .slice (some ⟨g2, 0, none⟩) 12 12 := hR 3 (fun v _ => v = .slice (some ⟨g2, 0, none⟩) 12 12) rfl
  have e4 : σ 4 = .int .i64 bit := hR 4 (fun v _ => v = .int .i64 bit) rfl
  have h5 : ∃ g, σ 5 = .slice (some ⟨g, 0, none⟩) 12 12 ∧ BRow W g 0 Y := hR 5 (fun v w => ∃ g, v = .slice (some ⟨g, 0, none⟩) 12 12 ∧ BRow w g 0 Y) rfl
  obtain ⟨g5, e5, _⟩ := h5
  have e6 : σ 6 = .string (strOf Y) := hR 6 (fun v _ => v = .string (strOf Y)) rfl
  have e7 : σ 7 = .agg #[.int .i64 kind, .int .i64 frm, .int .i64 to, .int .i64 line, .int .i64 serial, .int .i64 turn, .int .i64 value, .bool alone] := hR 7 (fun v _ => v = .agg #[.int .i64 kind, .int .i64 frm, .int .i64 to, .int .i64 line, .int .i64 serial, .int .i64 turn, .int .i64 value, .bool alone]) rfl
  have h8 : ∃ g, σ 8 = .slice (some ⟨g, 0, none⟩) 12 12 ∧ BRow W g 0 Y := hR 8 (fun v w => ∃ g, v = .slice (some ⟨g, 0, none⟩) 12 12 ∧ BRow w g 0 Y) rfl
  obtain ⟨g8, e8, _⟩ := h8
  have e9 : σ 9 = .string (strOf Y) := hR 9 (fun v _ => v = .string (strOf Y)) rfl
  have e10 : σ 10 = .bool true := hR 10 (fun v _ => v = .bool true) rfl
  have e11 : σ 11 = .bool true := hR 11 (fun v _ => v = .bool true) rfl
  refine ⟨?_⟩
  simp only [putAll, Act.put, List.nil_append, List.cons_append, List.setIfInBounds_toArray, List.set_cons_zero, List.set_cons_succ, e0, e1, e2, e3, e4, e5, e6, e7, e8, e9, e10, e11]
  clear hR e0 e1 e2 e3 e4 e5 e6 e7 e8 e9 e10 e11
  go_wp2
  refine NP.normal ?_
  go_wp2
  go_ret
  exact ⟨rfl, below_b5 hb1 hb2 hb3 hb4 hb5 hG⟩
end Go.Proofs.Ytmjhmbalkgpcjaa
