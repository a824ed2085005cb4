/- FrameTurns, where the message is one. -/
import Derived.Test.YtmjhmbalkgpcjaaTurns
namespace Go.Proofs.Ytmjhmbalkgpcjaa
open Go.RowKit
set_option linter.unusedVariables false
set_option linter.unusedSimpArgs false

set_option maxHeartbeats 4000000 in
theorem turns_good_no (c : Cfg) (m : Msg) (a : Option Addr) (cap : Nat) (xs : List Nat) (w : World) (h1 : 1 ≤ c.cores) (h2 : c.cores ≤ 4) (h3 : 1 ≤ c.lines) (h4 : c.lines ≤ 4) (h5 : wrongF c m = 0)
    (hcap : xs.length ≤ cap) (hcm : cap ≤ maxLen) (hS : BSl w a xs) (h6 : (parseF c xs).2 ≠ 0) (h7 : (parseF c xs).1 = Msg.zero) :
    Calls Try.prog 4 #[c.val, m.val, .slice a xs.length cap] w fun e w' => e = .returned (.bool true) ∧ Below w.heap.size w w' := by
  have kA := fun w => alive_any w
  have kW := fun w => wrong_any c m w
  have kS := fun w (h : BSl w a xs) => parse_sl c a cap xs w hcap hcm h
  rw [h7] at kS
  obtain ⟨E, eE⟩ : ∃ E, E = (parseF c xs).2 := ⟨_, rfl⟩
  rw [← eE] at kS h6
  have hE : (E != 0) = true := by simpa using h6
  have hE2 : (E == 0) = false := by simpa using h6
  clear h6 h7 eE
  have hfit := fit_of_wrong h5 h2 h4
  rw [h5] at kW
  obtain ⟨Y, eY⟩ : ∃ Y, Y = bytesF m := ⟨_, rfl⟩
  have bY : isBytes Y := by rw [eY]; exact bytesF_isBytes m hfit
  have nY : Y.length = 12 := by rw [eY]; rfl
  have kB := fun w => bytes_at m hfit w
  have kP := fun w g (h : BRow w g 0 Y) => parse_at c g Y w nY bY h
  rw [← eY] at kB
  rw [show parseF c Y = (m, 0) by rw [eY]; exact parse_bytesF c m hfit h5] at kP
  clear eY bY nY hfit h5
  obtain ⟨cores, lines⟩ := c
  obtain ⟨kind, frm, to, line, serial, turn, value, alone⟩ := m
  unfold Cfg.val Msg.val at *
  simp only at h1 h2 h3 h4
  unfold Msg.zero at kS
  go_enter Try.func4, Try.ntmps4
  go_wp2_with (first | (go_at_call 16; refine (kA _).mono ?_; rintro e w1 ⟨rfl, hb1⟩; obtain ⟨hc1, hf1⟩ := bcell hb1; obtain ⟨z1, y1⟩ := size2' hb1) | (go_at_call 6; refine (kW _).mono ?_; rintro e w2 ⟨rfl, hb2⟩; obtain ⟨hc2, hf2⟩ := bcell hb2; obtain ⟨z2, y2⟩ := size3' z1 hb2))
  have hB2 := below_b2' hb1 hb2
  have hS2 := hS.below (below_b2 hb1 hb2)
  obtain ⟨hcA, hfA⟩ := bcell hB2
  clear hc1 hf1 hc2 hf2 kA kW
  refine wp_region_free 8 [6] (by kernel_rfl) (by kernel_rfl) (by kernel_rfl) ?_
  dsimp only [List.take, List.drop]
  refine freeOK_step (fun v _ => v = .agg #[.int .i64 cores, .int .i64 lines]) (stable_eq _) rfl ?_ ?_
  · intro σ W hG hd
    have qc0 := gcell hG (a := ⟨w.heap.size, 0, none⟩) (v := .int .i64 cores) (by go_cell)
    have qc1 := gcell hG (a := ⟨w.heap.size, 1, none⟩) (v := .int .i64 lines) (by go_cell)
    refine ⟨?_⟩
    dsimp only [putAll]
    go_wp2
    exact stepPost_mk (Gr.refl _) rfl rfl
  dsimp only [List.nil_append, List.cons_append]
  refine freeOK_step (fun v _ => v = .agg #[.int .i64 kind, .int .i64 frm, .int .i64 to, .int .i64 line, .int .i64 serial, .int .i64 turn, .int .i64 value, .bool alone]) (stable_eq _) rfl ?_ ?_
  · intro σ W hG hd
    have qm0 := gcell hG (a := ⟨w.heap.size + 1, 0, none⟩) (v := .int .i64 kind) (by go_cell)
    have qm1 := gcell hG (a := ⟨w.heap.size + 1, 1, none⟩) (v := .int .i64 frm) (by go_cell)
    have qm2 := gcell hG (a := ⟨w.heap.size + 1, 2, none⟩) (v := .int .i64 to) (by go_cell)
    have qm3 := gcell hG (a := ⟨w.heap.size + 1, 3, none⟩) (v := .int .i64 line) (by go_cell)
    have qm4 := gcell hG (a := ⟨w.heap.size + 1, 4, none⟩) (v := .int .i64 serial) (by go_cell)
    have qm5 := gcell hG (a := ⟨w.heap.size + 1, 5, none⟩) (v := .int .i64 turn) (by go_cell)
    have qm6 := gcell hG (a := ⟨w.heap.size + 1, 6, none⟩) (v := .int .i64 value) (by go_cell)
    have qm7 := gcell hG (a := ⟨w.heap.size + 1, 7, none⟩) (v := .bool alone) (by go_cell)
    refine ⟨?_⟩
    simp only [putAll, Act.put, List.nil_append, List.cons_append, List.setIfInBounds_toArray, List.set_cons_zero, List.set_cons_succ]
    go_wp2
    exact stepPost_mk (Gr.refl _) rfl rfl
  dsimp only [List.nil_append, List.cons_append]
  refine freeOK_step (fun v w => ∃ g, v = .slice (some ⟨g, 0, none⟩) 12 12 ∧ BRow w g 0 Y) (fun _ _ _ hG ⟨g, h1, h2⟩ => ⟨g, h1, h2.below hG⟩) rfl ?_ ?_
  · intro σ W hG hd
    have e1 : σ 1 = .agg #[.int .i64 kind, .int .i64 frm, .int .i64 to, .int .i64 line, .int .i64 serial, .int .i64 turn, .int .i64 value, .bool alone] := hd ⟨1, .data⟩ (by simp) rfl (fun v _ => v = .agg #[.int .i64 kind, .int .i64 frm, .int .i64 to, .int .i64 line, .int .i64 serial, .int .i64 turn, .int .i64 value, .bool alone]) rfl
    refine ⟨?_⟩
    simp only [putAll, Act.put, List.nil_append, List.cons_append, List.setIfInBounds_toArray, List.set_cons_zero, List.set_cons_succ, e1]
    go_wp2_with (go_at_call 14; refine (kB _).mono ?_; rintro e w3 ⟨g3, rfl, hY3, hb3⟩)
    exact stepPost_mk hb3 rfl ⟨g3, rfl, hY3⟩
  dsimp only [List.nil_append, List.cons_append]
  refine freeOK_step (fun v _ => v = .tuple #[.agg #[.int .i64 kind, .int .i64 frm, .int .i64 to, .int .i64 line, .int .i64 serial, .int .i64 turn, .int .i64 value, .bool alone], .int .i64 0]) (stable_eq _) rfl ?_ ?_
  · intro σ W hG hd
    have e0 : σ 0 = .agg #[.int .i64 cores, .int .i64 lines] := hd ⟨0, .data⟩ (by simp) rfl (fun v _ => v = .agg #[.int .i64 cores, .int .i64 lines]) rfl
    have h2 : ∃ g, σ 2 = .slice (some ⟨g, 0, none⟩) 12 12 ∧ BRow W g 0 Y := hd ⟨2, .data⟩ (by simp) rfl (fun v w => ∃ g, v = .slice (some ⟨g, 0, none⟩) 12 12 ∧ BRow w g 0 Y) rfl
    obtain ⟨g2, e2, hY2⟩ := h2
    refine ⟨?_⟩
    simp only [putAll, Act.put, List.nil_append, List.cons_append, List.setIfInBounds_toArray, List.set_cons_zero, List.set_cons_succ, e0, e2]
    go_wp2_with (go_at_call 12; refine (kP _ _ hY2).mono ?_; rintro e w3 ⟨rfl, hb3⟩)
    exact stepPost_mk hb3 rfl rfl
  dsimp only [List.nil_append, List.cons_append]
  refine freeOK_step (fun v _ => v = .tuple #[.agg #[.int .i64 kind, .int .i64 frm, .int .i64 to, .int .i64 line, .int .i64 serial, .int .i64 turn, .int .i64 value, .bool alone], .int .i64 0]) (stable_eq _) rfl ?_ ?_
  · intro σ W hG hd
    have e3 : σ 3 = .tuple #[.agg #[.int .i64 kind, .int .i64 frm, .int .i64 to, .int .i64 line, .int .i64 serial, .int .i64 turn, .int .i64 value, .bool alone], .int .i64 0] := hd ⟨3, .data⟩ (by simp) rfl (fun v _ => v = .tuple #[.agg #[.int .i64 kind, .int .i64 frm, .int .i64 to, .int .i64 line, .int .i64 serial, .int .i64 turn, .int .i64 value, .bool alone], .int .i64 0]) rfl
    refine ⟨?_⟩
    simp only [putAll, Act.put, List.nil_append, List.cons_append, List.setIfInBounds_toArray, List.set_cons_zero, List.set_cons_succ, e3]
    go_wp2
    exact stepPost_mk (Gr.refl _) rfl rfl
  dsimp only [List.nil_append, List.cons_append]
  refine freeOK_step (fun v _ => v = .agg #[.int .i64 kind, .int .i64 frm, .int .i64 to, .int .i64 line, .int .i64 serial, .int .i64 turn, .int .i64 value, .bool alone]) (stable_eq _) rfl ?_ ?_
  · intro σ W hG hd
    have e4 : σ 4 = .tuple #[.agg #[.int .i64 kind, .int .i64 frm, .int .i64 to, .int .i64 line, .int .i64 serial, .int .i64 turn, .int .i64 value, .bool alone], .int .i64 0] := hd ⟨4, .data⟩ (by simp) rfl (fun v _ => v = .tuple #[.agg #[.int .i64 kind, .int .i64 frm, .int .i64 to, .int .i64 line, .int .i64 serial, .int .i64 turn, .int .i64 value, .bool alone], .int .i64 0]) rfl
    refine ⟨?_⟩
    simp only [putAll, Act.put, List.nil_append, List.cons_append, List.setIfInBounds_toArray, List.set_cons_zero, List.set_cons_succ, e4]
    go_wp2
    exact stepPost_mk (Gr.refl _) rfl rfl
  dsimp only [List.nil_append, List.cons_append]
  refine freeOK_pure (fun v _ => v = .int .i64 0) (stable_eq _) rfl ?_ ?_
  · intro σ W hG hd
    have e4 : σ 4 = .tuple #[.agg #[.int .i64 kind, .int .i64 frm, .int .i64 to, .int .i64 line, .int .i64 serial, .int .i64 turn, .int .i64 value, .bool alone], .int .i64 0] := hd ⟨4, .data⟩ (by simp) rfl (fun v _ => v = .tuple #[.agg #[.int .i64 kind, .int .i64 frm, .int .i64 to, .int .i64 line, .int .i64 serial, .int .i64 turn, .int .i64 value, .bool alone], .int .i64 0]) rfl
    simp only [putAll, Act.put, List.nil_append, List.cons_append, List.setIfInBounds_toArray, List.set_cons_zero, List.set_cons_succ, e4]
    exact ⟨_, Or.inl ⟨rfl, fun w => rfl⟩, rfl⟩
  dsimp only [List.nil_append, List.cons_append]
  refine freeOK_step (Box (w2.heap.size) #[.int .i64 0, .int .i64 0, .int .i64 0, .int .i64 0, .int .i64 0, .int .i64 0, .int .i64 0, .bool false] 25) (box_stable _ _ _) rfl ?_ ?_
  · intro σ W hG hd
    refine ⟨?_⟩
    simp only [putAll, Act.put, List.nil_append, List.cons_append, List.setIfInBounds_toArray, List.set_cons_zero, List.set_cons_succ]
    go_wp2
    exact stepPost_mk (gr_alloc _ _) rfl (box_alloc (Nat.le_trans (by simp) (Below.size hG)))
  dsimp only [List.nil_append, List.cons_append]
  refine freeOK_done fun σ W hG hR => ?_
  have e0 : σ 0 = .agg #[.int .i64 cores, .int .i64 lines] := hR 0 (fun v _ => v = .agg #[.int .i64 cores, .int .i64 lines]) rfl
  have e1 : σ 1 = .agg #[.int .i64 kind, .int .i64 frm, .int .i64 to, .int .i64 line, .int .i64 serial, .int .i64 turn, .int .i64 value, .bool alone] := hR 1 (fun v _ => v = .agg #[.int .i64 kind, .int .i64 frm, .int .i64 to, .int .i64 line, .int .i64 serial, .int .i64 turn, .int .i64 value, .bool alone]) rfl
  have h2 : ∃ g, σ 2 = .slice (some ⟨g, 0, none⟩) 12 12 ∧ BRow W g 0 Y := hR 2 (fun v w => ∃ g, v = .slice (some ⟨g, 0, none⟩) 12 12 ∧ BRow w g 0 Y) rfl
  obtain ⟨g2, e2, hT2⟩ := h2
  have e3 : σ 3 = .tuple #[.agg #[.int .i64 kind, .int .i64 frm, .int .i64 to, .int .i64 line, .int .i64 serial, .int .i64 turn, .int .i64 value, .bool alone], .int .i64 0] := hR 3 (fun v _ => v = .tuple #[.agg #[.int .i64 kind, .int .i64 frm, .int .i64 to, .int .i64 line, .int .i64 serial, .int .i64 turn, .int .i64 value, .bool alone], .int .i64 0]) rfl
  have e4 : σ 4 = .tuple #[.agg #[.int .i64 kind, .int .i64 frm, .int .i64 to, .int .i64 line, .int .i64 serial, .int .i64 turn, .int .i64 value, .bool alone], .int .i64 0] := hR 4 (fun v _ => v = .tuple #[.agg #[.int .i64 kind, .int .i64 frm, .int .i64 to, .int .i64 line, .int .i64 serial, .int .i64 turn, .int .i64 value, .bool alone], .int .i64 0]) rfl
  have e5 : σ 5 = .agg #[.int .i64 kind, .int .i64 frm, .int .i64 to, .int .i64 line, .int .i64 serial, .int .i64 turn, .int .i64 value, .bool alone] := hR 5 (fun v _ => v = .agg #[.int .i64 kind, .int .i64 frm, .int .i64 to, .int .i64 line, .int .i64 serial, .int .i64 turn, .int .i64 value, .bool alone]) rfl
  have e6 : σ 6 = .int .i64 0 := hR 6 (fun v _ => v = .int .i64 0) rfl
  have h7 : Box (w2.heap.size) #[.int .i64 0, .int .i64 0, .int .i64 0, .int .i64 0, .int .i64 0, .int .i64 0, .int .i64 0, .bool false] 25 (σ 7) W := hR 7 (Box (w2.heap.size) #[.int .i64 0, .int .i64 0, .int .i64 0, .int .i64 0, .int .i64 0, .int .i64 0, .int .i64 0, .bool false] 25) rfl
  obtain ⟨g7, e7, hB7, hbox7⟩ := h7
  have b0 : W.cell? ⟨g7, 0, none⟩ = some (.int .i64 0) := (cell_of_heap hbox7 0).trans rfl
  have b1 : W.cell? ⟨g7, 1, none⟩ = some (.int .i64 0) := (cell_of_heap hbox7 1).trans rfl
  have b2 : W.cell? ⟨g7, 2, none⟩ = some (.int .i64 0) := (cell_of_heap hbox7 2).trans rfl
  have b3 : W.cell? ⟨g7, 3, none⟩ = some (.int .i64 0) := (cell_of_heap hbox7 3).trans rfl
  have b4 : W.cell? ⟨g7, 4, none⟩ = some (.int .i64 0) := (cell_of_heap hbox7 4).trans rfl
  have b5 : W.cell? ⟨g7, 5, none⟩ = some (.int .i64 0) := (cell_of_heap hbox7 5).trans rfl
  have b6 : W.cell? ⟨g7, 6, none⟩ = some (.int .i64 0) := (cell_of_heap hbox7 6).trans rfl
  have b7 : W.cell? ⟨g7, 7, none⟩ = some (.bool false) := (cell_of_heap hbox7 7).trans rfl
  have f0 : W.frozen? ⟨g7, 0, none⟩ = false := free_of_heap hbox7 0
  have f1 : W.frozen? ⟨g7, 1, none⟩ = false := free_of_heap hbox7 1
  have f2 : W.frozen? ⟨g7, 2, none⟩ = false := free_of_heap hbox7 2
  have f3 : W.frozen? ⟨g7, 3, none⟩ = false := free_of_heap hbox7 3
  have f4 : W.frozen? ⟨g7, 4, none⟩ = false := free_of_heap hbox7 4
  have f5 : W.frozen? ⟨g7, 5, none⟩ = false := free_of_heap hbox7 5
  have f6 : W.frozen? ⟨g7, 6, none⟩ = false := free_of_heap hbox7 6
  have f7 : W.frozen? ⟨g7, 7, none⟩ = false := free_of_heap hbox7 7
  have qc0 := gcell hG (a := ⟨w.heap.size, 0, none⟩) (v := .int .i64 cores) (by go_cell)
  have qc1 := gcell hG (a := ⟨w.heap.size, 1, none⟩) (v := .int .i64 lines) (by go_cell)
  have qm0 := gcell hG (a := ⟨w.heap.size + 1, 0, none⟩) (v := .int .i64 kind) (by go_cell)
  have qm1 := gcell hG (a := ⟨w.heap.size + 1, 1, none⟩) (v := .int .i64 frm) (by go_cell)
  have qm2 := gcell hG (a := ⟨w.heap.size + 1, 2, none⟩) (v := .int .i64 to) (by go_cell)
  have qm3 := gcell hG (a := ⟨w.heap.size + 1, 3, none⟩) (v := .int .i64 line) (by go_cell)
  have qm4 := gcell hG (a := ⟨w.heap.size + 1, 4, none⟩) (v := .int .i64 serial) (by go_cell)
  have qm5 := gcell hG (a := ⟨w.heap.size + 1, 5, none⟩) (v := .int .i64 turn) (by go_cell)
  have qm6 := gcell hG (a := ⟨w.heap.size + 1, 6, none⟩) (v := .int .i64 value) (by go_cell)
  have qm7 := gcell hG (a := ⟨w.heap.size + 1, 7, none⟩) (v := .bool alone) (by go_cell)
  have n1 : w.heap.size ≠ g7 := by omega
  have n2 : w.heap.size + 1 ≠ g7 := by omega
  have gl : g7 < W.heap.size := block_lt_of_cell b0
  clear hbox7 hT2
  refine ⟨?_⟩
  simp only [putAll, Act.put, List.nil_append, List.cons_append, List.setIfInBounds_toArray, List.set_cons_zero, List.set_cons_succ, e0, e1, e2, e3, e4, e5, e6, e7]
  clear hR e0 e1 e2 e3 e4 e5 e6 e7
  have hBW : Below w.heap.size w W := below_on (below_b2 hb1 hb2).drew (below_b2 hb1 hb2).size hG
  go_wp2
  refine NP.normal ?_
  go_wp2_with (first | (go_at_call 12; refine (kS _ (hS.below (below_set8 hBW (by omega)))).mono ?_; rintro e w5 ⟨rfl, hb5⟩; have hW5 := below_w5 hBW (by omega) hb5; have z5 := hb5.size))
  refine wp_region_free 19 [] (by kernel_rfl) (by kernel_rfl) (by kernel_rfl) ?_
  dsimp only [List.take, List.drop]
  refine freeOK_step (fun v _ => v = .int .i64 E) (stable_eq _) rfl ?_ ?_
  · intro σ W hG hd
    refine ⟨?_⟩
    dsimp only [putAll]
    go_wp2
    exact stepPost_mk (Gr.refl _) rfl rfl
  dsimp only [List.nil_append, List.cons_append]
  refine freeOK_step (fun v _ => v = .bool true) (stable_eq _) rfl ?_ ?_
  · intro σ W hG hd
    have e0 : σ 0 = .int .i64 E := hd ⟨0, .data⟩ (by simp) rfl (fun v _ => v = .int .i64 E) rfl
    refine ⟨?_⟩
    simp only [putAll, Act.put, List.nil_append, List.cons_append, List.setIfInBounds_toArray, List.set_cons_zero, List.set_cons_succ, e0]
    go_wp2
    exact stepPost_mk (Gr.refl _) rfl rfl
  dsimp only [List.nil_append, List.cons_append]
  refine freeOK_step (fun v _ => v = .bool true) (stable_eq _) rfl ?_ ?_
  · intro σ W hG hd
    have e1 : σ 1 = .bool true := hd ⟨1, .data⟩ (by simp) rfl (fun v _ => v = .bool true) rfl
    refine ⟨?_⟩
    simp only [putAll, Act.put, List.nil_append, List.cons_append, List.setIfInBounds_toArray, List.set_cons_zero, List.set_cons_succ, e1]
    go_wp2
    exact stepPost_mk (Gr.refl _) rfl rfl
  dsimp only [List.nil_append, List.cons_append]
  refine freeOK_step (fun v _ => v = .agg #[.int .i64 0, .int .i64 0, .int .i64 0, .int .i64 0, .int .i64 0, .int .i64 0, .int .i64 0, .bool false]) (stable_eq _) rfl ?_ ?_
  · intro σ W hG hd
    have e2 : σ 2 = .bool true := hd ⟨2, .guard⟩ (by simp) rfl (fun v _ => v = .bool true) rfl
    have qx0 := gcell hG (a := ⟨w5.heap.size, 0, none⟩) (v := .int .i64 0) (by go_cell)
    have qx1 := gcell hG (a := ⟨w5.heap.size, 1, none⟩) (v := .int .i64 0) (by go_cell)
    have qx2 := gcell hG (a := ⟨w5.heap.size, 2, none⟩) (v := .int .i64 0) (by go_cell)
    have qx3 := gcell hG (a := ⟨w5.heap.size, 3, none⟩) (v := .int .i64 0) (by go_cell)
    have qx4 := gcell hG (a := ⟨w5.heap.size, 4, none⟩) (v := .int .i64 0) (by go_cell)
    have qx5 := gcell hG (a := ⟨w5.heap.size, 5, none⟩) (v := .int .i64 0) (by go_cell)
    have qx6 := gcell hG (a := ⟨w5.heap.size, 6, none⟩) (v := .int .i64 0) (by go_cell)
    have qx7 := gcell hG (a := ⟨w5.heap.size, 7, none⟩) (v := .bool false) (by go_cell)
    refine ⟨?_⟩
    simp only [putAll, Act.put, List.nil_append, List.cons_append, List.setIfInBounds_toArray, List.set_cons_zero, List.set_cons_succ, e2]
    go_wp2
    exact stepPost_mk (Gr.refl _) rfl rfl
  dsimp only [List.nil_append, List.cons_append]
  refine freeOK_step (fun v _ => v = .agg #[.int .i64 0, .int .i64 0, .int .i64 0, .int .i64 0, .int .i64 0, .int .i64 0, .int .i64 0, .bool false]) (stable_eq _) rfl ?_ ?_
  · intro σ W hG hd
    have e2 : σ 2 = .bool true := hd ⟨2, .guard⟩ (by simp) rfl (fun v _ => v = .bool true) rfl
    refine ⟨?_⟩
    simp only [putAll, Act.put, List.nil_append, List.cons_append, List.setIfInBounds_toArray, List.set_cons_zero, List.set_cons_succ, e2]
    go_wp2
    exact stepPost_mk (Gr.refl _) rfl rfl
  dsimp only [List.nil_append, List.cons_append]
  refine freeOK_step (fun v _ => v = .bool true) (stable_eq _) rfl ?_ ?_
  · intro σ W hG hd
    have e3 : σ 3 = .agg #[.int .i64 0, .int .i64 0, .int .i64 0, .int .i64 0, .int .i64 0, .int .i64 0, .int .i64 0, .bool false] := hd ⟨3, .data⟩ (by simp) rfl (fun v _ => v = .agg #[.int .i64 0, .int .i64 0, .int .i64 0, .int .i64 0, .int .i64 0, .int .i64 0, .int .i64 0, .bool false]) rfl
    have e4 : σ 4 = .agg #[.int .i64 0, .int .i64 0, .int .i64 0, .int .i64 0, .int .i64 0, .int .i64 0, .int .i64 0, .bool false] := hd ⟨4, .data⟩ (by simp) rfl (fun v _ => v = .agg #[.int .i64 0, .int .i64 0, .int .i64 0, .int .i64 0, .int .i64 0, .int .i64 0, .int .i64 0, .bool false]) rfl
    have e2 : σ 2 = .bool true := hd ⟨2, .guard⟩ (by simp) rfl (fun v _ => v = .bool true) rfl
    refine ⟨?_⟩
    simp only [putAll, Act.put, List.nil_append, List.cons_append, List.setIfInBounds_toArray, List.set_cons_zero, List.set_cons_succ, e3, e4, e2]
    go_wp2
    exact stepPost_mk (Gr.refl _) rfl rfl
  dsimp only [List.nil_append, List.cons_append]
  refine freeOK_step (fun v _ => v = .bool true) (stable_eq _) rfl ?_ ?_
  · intro σ W hG hd
    have e2 : σ 2 = .bool true := hd ⟨2, .data⟩ (by simp) rfl (fun v _ => v = .bool true) rfl
    have e5 : σ 5 = .bool true := hd ⟨5, .data⟩ (by simp) rfl (fun v _ => v = .bool true) rfl
    refine ⟨?_⟩
    simp only [putAll, Act.put, List.nil_append, List.cons_append, List.setIfInBounds_toArray, List.set_cons_zero, List.set_cons_succ, e2, e5]
    go_wp2
    exact stepPost_mk (Gr.refl _) rfl rfl
  dsimp only [List.nil_append, List.cons_append]
  refine freeOK_step (fun v _ => v = .bool true) (stable_eq _) rfl ?_ ?_
  · intro σ W hG hd
    have e6 : σ 6 = .bool true := hd ⟨6, .data⟩ (by simp) rfl (fun v _ => v = .bool true) rfl
    refine ⟨?_⟩
    simp only [putAll, Act.put, List.nil_append, List.cons_append, List.setIfInBounds_toArray, List.set_cons_zero, List.set_cons_succ, e6]
    go_wp2
    exact stepPost_mk (Gr.refl _) rfl rfl
  dsimp only [List.nil_append, List.cons_append]
  refine freeOK_step (fun v _ => v = undef) (stable_eq _) rfl ?_ ?_
  · intro σ W hG hd
    have e7 : σ 7 = .bool true := hd ⟨7, .guard⟩ (by simp) rfl (fun v _ => v = .bool true) rfl
    refine ⟨?_⟩
    simp only [putAll, Act.put, List.nil_append, List.cons_append, List.setIfInBounds_toArray, List.set_cons_zero, List.set_cons_succ, e7]
    go_wp2
    exact stepPost_mk (Gr.refl _) rfl rfl
  dsimp only [List.nil_append, List.cons_append]
  refine freeOK_step (fun v _ => v = undef) (stable_eq _) rfl ?_ ?_
  · intro σ W hG hd
    have e7 : σ 7 = .bool true := hd ⟨7, .guard⟩ (by simp) rfl (fun v _ => v = .bool true) rfl
    refine ⟨?_⟩
    simp only [putAll, Act.put, List.nil_append, List.cons_append, List.setIfInBounds_toArray, List.set_cons_zero, List.set_cons_succ, e7]
    go_wp2
    exact stepPost_mk (Gr.refl _) rfl rfl
  dsimp only [List.nil_append, List.cons_append]
  refine freeOK_step (fun v _ => v = undef) (stable_eq _) rfl ?_ ?_
  · intro σ W hG hd
    have e7 : σ 7 = .bool true := hd ⟨7, .guard⟩ (by simp) rfl (fun v _ => v = .bool true) rfl
    refine ⟨?_⟩
    simp only [putAll, Act.put, List.nil_append, List.cons_append, List.setIfInBounds_toArray, List.set_cons_zero, List.set_cons_succ, e7]
    go_wp2
    exact stepPost_mk (Gr.refl _) rfl rfl
  dsimp only [List.nil_append, List.cons_append]
  refine freeOK_step (fun v _ => v = undef) (stable_eq _) rfl ?_ ?_
  · intro σ W hG hd
    have e10 : σ 10 = undef := hd ⟨10, .guard⟩ (by simp) rfl (fun v _ => v = undef) rfl
    refine ⟨?_⟩
    simp only [putAll, Act.put, List.nil_append, List.cons_append, List.setIfInBounds_toArray, List.set_cons_zero, List.set_cons_succ, e10]
    go_wp2
    exact stepPost_mk (Gr.refl _) rfl rfl
  dsimp only [List.nil_append, List.cons_append]
  refine freeOK_step (fun v _ => v = undef) (stable_eq _) rfl ?_ ?_
  · intro σ W hG hd
    have e10 : σ 10 = undef := hd ⟨10, .guard⟩ (by simp) rfl (fun v _ => v = undef) rfl
    refine ⟨?_⟩
    simp only [putAll, Act.put, List.nil_append, List.cons_append, List.setIfInBounds_toArray, List.set_cons_zero, List.set_cons_succ, e10]
    go_wp2
    exact stepPost_mk (Gr.refl _) rfl rfl
  dsimp only [List.nil_append, List.cons_append]
  refine freeOK_step (fun v _ => v = undef) (stable_eq _) rfl ?_ ?_
  · intro σ W hG hd
    have e10 : σ 10 = undef := hd ⟨10, .guard⟩ (by simp) rfl (fun v _ => v = undef) rfl
    refine ⟨?_⟩
    simp only [putAll, Act.put, List.nil_append, List.cons_append, List.setIfInBounds_toArray, List.set_cons_zero, List.set_cons_succ, e10]
    go_wp2
    exact stepPost_mk (Gr.refl _) rfl rfl
  dsimp only [List.nil_append, List.cons_append]
  refine freeOK_step (fun v _ => v = undef) (stable_eq _) rfl ?_ ?_
  · intro σ W hG hd
    have e10 : σ 10 = undef := hd ⟨10, .guard⟩ (by simp) rfl (fun v _ => v = undef) rfl
    refine ⟨?_⟩
    simp only [putAll, Act.put, List.nil_append, List.cons_append, List.setIfInBounds_toArray, List.set_cons_zero, List.set_cons_succ, e10]
    go_wp2
    exact stepPost_mk (Gr.refl _) rfl rfl
  dsimp only [List.nil_append, List.cons_append]
  refine freeOK_step (fun v _ => v = undef) (stable_eq _) rfl ?_ ?_
  · intro σ W hG hd
    have e10 : σ 10 = undef := hd ⟨10, .guard⟩ (by simp) rfl (fun v _ => v = undef) rfl
    refine ⟨?_⟩
    simp only [putAll, Act.put, List.nil_append, List.cons_append, List.setIfInBounds_toArray, List.set_cons_zero, List.set_cons_succ, e10]
    go_wp2
    exact stepPost_mk (Gr.refl _) rfl rfl
  dsimp only [List.nil_append, List.cons_append]
  refine freeOK_step (fun v _ => v = undef) (stable_eq _) rfl ?_ ?_
  · intro σ W hG hd
    have e10 : σ 10 = undef := hd ⟨10, .guard⟩ (by simp) rfl (fun v _ => v = undef) rfl
    refine ⟨?_⟩
    simp only [putAll, Act.put, List.nil_append, List.cons_append, List.setIfInBounds_toArray, List.set_cons_zero, List.set_cons_succ, e10]
    go_wp2
    exact stepPost_mk (Gr.refl _) rfl rfl
  dsimp only [List.nil_append, List.cons_append]
  refine freeOK_step (fun v _ => v = undef) (stable_eq _) rfl ?_ ?_
  · intro σ W hG hd
    have e7 : σ 7 = .bool true := hd ⟨7, .guard⟩ (by simp) rfl (fun v _ => v = .bool true) rfl
    refine ⟨?_⟩
    simp only [putAll, Act.put, List.nil_append, List.cons_append, List.setIfInBounds_toArray, List.set_cons_zero, List.set_cons_succ, e7]
    go_wp2
    exact stepPost_mk (Gr.refl _) rfl rfl
  dsimp only [List.nil_append, List.cons_append]
  refine freeOK_step (fun v _ => v = .bool true) (stable_eq _) rfl ?_ ?_
  · intro σ W hG hd
    have e7 : σ 7 = .bool true := hd ⟨7, .data⟩ (by simp) rfl (fun v _ => v = .bool true) rfl
    refine ⟨?_⟩
    simp only [putAll, Act.put, List.nil_append, List.cons_append, List.setIfInBounds_toArray, List.set_cons_zero, List.set_cons_succ, e7]
    go_wp2
    exact stepPost_mk (Gr.refl _) rfl rfl
  dsimp only [List.nil_append, List.cons_append]
  refine freeOK_done fun σ W hG hR => ?_
  have e0 : σ 0 = .int .i64 E := hR 0 (fun v _ => v = .int .i64 E) rfl
  have e1 : σ 1 = .bool true := hR 1 (fun v _ => v = .bool true) rfl
  have e2 : σ 2 = .bool true := hR 2 (fun v _ => v = .bool true) rfl
  have e3 : σ 3 = .agg #[.int .i64 0, .int .i64 0, .int .i64 0, .int .i64 0, .int .i64 0, .int .i64 0, .int .i64 0, .bool false] := hR 3 (fun v _ => v = .agg #[.int .i64 0, .int .i64 0, .int .i64 0, .int .i64 0, .int .i64 0, .int .i64 0, .int .i64 0, .bool false]) rfl
  have e4 : σ 4 = .agg #[.int .i64 0, .int .i64 0, .int .i64 0, .int .i64 0, .int .i64 0, .int .i64 0, .int .i64 0, .bool false] := hR 4 (fun v _ => v = .agg #[.int .i64 0, .int .i64 0, .int .i64 0, .int .i64 0, .int .i64 0, .int .i64 0, .int .i64 0, .bool false]) rfl
  have e5 : σ 5 = .bool true := hR 5 (fun v _ => v = .bool true) rfl
  have e6 : σ 6 = .bool true := hR 6 (fun v _ => v = .bool true) rfl
  have e7 : σ 7 = .bool true := hR 7 (fun v _ => v = .bool true) rfl
  have e8 : σ 8 = undef := hR 8 (fun v _ => v = undef) rfl
  have e9 : σ 9 = undef := hR 9 (fun v _ => v = undef) rfl
  have e10 : σ 10 = undef := hR 10 (fun v _ => v = undef) rfl
  have e11 : σ 11 = undef := hR 11 (fun v _ => v = undef) rfl
  have e12 : σ 12 = undef := hR 12 (fun v _ => v = undef) rfl
  have e13 : σ 13 = undef := hR 13 (fun v _ => v = undef) rfl
  have e14 : σ 14 = undef := hR 14 (fun v _ => v = undef) rfl
  have e15 : σ 15 = undef := hR 15 (fun v _ => v = undef) rfl
  have e16 : σ 16 = undef := hR 16 (fun v _ => v = undef) rfl
  have e17 : σ 17 = undef := hR 17 (fun v _ => v = undef) rfl
  have e18 : σ 18 = .bool true := hR 18 (fun v _ => v = .bool true) rfl
  refine ⟨?_⟩
  simp only [putAll, Act.put, List.nil_append, List.cons_append, List.setIfInBounds_toArray, List.set_cons_zero, List.set_cons_succ, e0, e1, e2, e3, e4, e5, e6, e7, e8, e9, e10, e11, e12, e13, e14, e15, e16, e17, e18]
  clear hR e0 e1 e2 e3 e4 e5 e6 e7 e8 e9 e10 e11 e12 e13 e14 e15 e16 e17 e18
  go_wp2
  refine NP.normal ?_
  go_wp2
  go_ret
  exact ⟨rfl, below_on (Below.drew (hW5.alloc hW5.size _)) (Below.drew (hW5.alloc hW5.size _)).size hG⟩

set_option maxHeartbeats 4000000 in
theorem turns_good_yes (c : Cfg) (m : Msg) (a : Option Addr) (cap : Nat) (xs : List Nat) (w : World) (h1 : 1 ≤ c.cores) (h2 : c.cores ≤ 4) (h3 : 1 ≤ c.lines) (h4 : c.lines ≤ 4) (h5 : wrongF c m = 0)
    (hcap : xs.length ≤ cap) (hcm : cap ≤ maxLen) (hS : BSl w a xs) (h6 : (parseF c xs).2 = 0) (nX : xs.length = 12) (h7 : Fit (parseF c xs).1) (h8 : bytesF (parseF c xs).1 = xs) :
    Calls Try.prog 4 #[c.val, m.val, .slice a xs.length cap] w fun e w' => e = .returned (.bool true) ∧ Below w.heap.size w w' := by
  have kA := fun w => alive_any w
  have kW := fun w => wrong_any c m w
  have kS := fun w (h : BSl w a xs) => parse_sl c a cap xs w hcap hcm h
  rw [h6] at kS
  have kX := fun w => bytes_at (parseF c xs).1 h7 w
  rw [h8] at kX
  obtain ⟨x, ex⟩ : ∃ x, x = (parseF c xs).1 := ⟨_, rfl⟩
  rw [← ex] at kS kX
  clear h6 h7 h8 ex
  have hfit := fit_of_wrong h5 h2 h4
  rw [h5] at kW
  obtain ⟨Y, eY⟩ : ∃ Y, Y = bytesF m := ⟨_, rfl⟩
  have bY : isBytes Y := by rw [eY]; exact bytesF_isBytes m hfit
  have nY : Y.length = 12 := by rw [eY]; rfl
  have kB := fun w => bytes_at m hfit w
  have kP := fun w g (h : BRow w g 0 Y) => parse_at c g Y w nY bY h
  rw [← eY] at kB
  rw [show parseF c Y = (m, 0) by rw [eY]; exact parse_bytesF c m hfit h5] at kP
  clear eY bY nY hfit h5
  obtain ⟨cores, lines⟩ := c
  obtain ⟨kind, frm, to, line, serial, turn, value, alone⟩ := m
  obtain ⟨xkind, xfrm, xto, xline, xserial, xturn, xvalue, xalone⟩ := x
  unfold Cfg.val Msg.val at *
  simp only at h1 h2 h3 h4
  rw [nX] at kS ⊢
  go_enter Try.func4, Try.ntmps4
  go_wp2_with (first | (go_at_call 16; refine (kA _).mono ?_; rintro e w1 ⟨rfl, hb1⟩; obtain ⟨hc1, hf1⟩ := bcell hb1; obtain ⟨z1, y1⟩ := size2' hb1) | (go_at_call 6; refine (kW _).mono ?_; rintro e w2 ⟨rfl, hb2⟩; obtain ⟨hc2, hf2⟩ := bcell hb2; obtain ⟨z2, y2⟩ := size3' z1 hb2))
  have hB2 := below_b2' hb1 hb2
  have hS2 := hS.below (below_b2 hb1 hb2)
  obtain ⟨hcA, hfA⟩ := bcell hB2
  clear hc1 hf1 hc2 hf2 kA kW
  refine wp_region_free 8 [6] (by kernel_rfl) (by kernel_rfl) (by kernel_rfl) ?_
  dsimp only [List.take, List.drop]
  refine freeOK_step (fun v _ => v = .agg #[.int .i64 cores, .int .i64 lines]) (stable_eq _) rfl ?_ ?_
  · intro σ W hG hd
    have qc0 := gcell hG (a := ⟨w.heap.size, 0, none⟩) (v := .int .i64 cores) (by go_cell)
    have qc1 := gcell hG (a := ⟨w.heap.size, 1, none⟩) (v := .int .i64 lines) (by go_cell)
    refine ⟨?_⟩
    dsimp only [putAll]
    go_wp2
    exact stepPost_mk (Gr.refl _) rfl rfl
  dsimp only [List.nil_append, List.cons_append]
  refine freeOK_step (fun v _ => v = .agg #[.int .i64 kind, .int .i64 frm, .int .i64 to, .int .i64 line, .int .i64 serial, .int .i64 turn, .int .i64 value, .bool alone]) (stable_eq _) rfl ?_ ?_
  · intro σ W hG hd
    have qm0 := gcell hG (a := ⟨w.heap.size + 1, 0, none⟩) (v := .int .i64 kind) (by go_cell)
    have qm1 := gcell hG (a := ⟨w.heap.size + 1, 1, none⟩) (v := .int .i64 frm) (by go_cell)
    have qm2 := gcell hG (a := ⟨w.heap.size + 1, 2, none⟩) (v := .int .i64 to) (by go_cell)
    have qm3 := gcell hG (a := ⟨w.heap.size + 1, 3, none⟩) (v := .int .i64 line) (by go_cell)
    have qm4 := gcell hG (a := ⟨w.heap.size + 1, 4, none⟩) (v := .int .i64 serial) (by go_cell)
    have qm5 := gcell hG (a := ⟨w.heap.size + 1, 5, none⟩) (v := .int .i64 turn) (by go_cell)
    have qm6 := gcell hG (a := ⟨w.heap.size + 1, 6, none⟩) (v := .int .i64 value) (by go_cell)
    have qm7 := gcell hG (a := ⟨w.heap.size + 1, 7, none⟩) (v := .bool alone) (by go_cell)
    refine ⟨?_⟩
    simp only [putAll, Act.put, List.nil_append, List.cons_append, List.setIfInBounds_toArray, List.set_cons_zero, List.set_cons_succ]
    go_wp2
    exact stepPost_mk (Gr.refl _) rfl rfl
  dsimp only [List.nil_append, List.cons_append]
  refine freeOK_step (fun v w => ∃ g, v = .slice (some ⟨g, 0, none⟩) 12 12 ∧ BRow w g 0 Y) (fun _ _ _ hG ⟨g, h1, h2⟩ => ⟨g, h1, h2.below hG⟩) rfl ?_ ?_
  · intro σ W hG hd
    have e1 : σ 1 = .agg #[.int .i64 kind, .int .i64 frm, .int .i64 to, .int .i64 line, .int .i64 serial, .int .i64 turn, .int .i64 value, .bool alone] := hd ⟨1, .data⟩ (by simp) rfl (fun v _ => v = .agg #[.int .i64 kind, .int .i64 frm, .int .i64 to, .int .i64 line, .int .i64 serial, .int .i64 turn, .int .i64 value, .bool alone]) rfl
    refine ⟨?_⟩
    simp only [putAll, Act.put, List.nil_append, List.cons_append, List.setIfInBounds_toArray, List.set_cons_zero, List.set_cons_succ, e1]
    go_wp2_with (go_at_call 14; refine (kB _).mono ?_; rintro e w3 ⟨g3, rfl, hY3, hb3⟩)
    exact stepPost_mk hb3 rfl ⟨g3, rfl, hY3⟩
  dsimp only [List.nil_append, List.cons_append]
  refine freeOK_step (fun v _ => v = .tuple #[.agg #[.int .i64 kind, .int .i64 frm, .int .i64 to, .int .i64 line, .int .i64 serial, .int .i64 turn, .int .i64 value, .bool alone], .int .i64 0]) (stable_eq _) rfl ?_ ?_
  · intro σ W hG hd
    have e0 : σ 0 = .agg #[.int .i64 cores, .int .i64 lines] := hd ⟨0, .data⟩ (by simp) rfl (fun v _ => v = .agg #[.int .i64 cores, .int .i64 lines]) rfl
    have h2 : ∃ g, σ 2 = .slice (some ⟨g, 0, none⟩) 12 12 ∧ BRow W g 0 Y := hd ⟨2, .data⟩ (by simp) rfl (fun v w => ∃ g, v = .slice (some ⟨g, 0, none⟩) 12 12 ∧ BRow w g 0 Y) rfl
    obtain ⟨g2, e2, hY2⟩ := h2
    refine ⟨?_⟩
    simp only [putAll, Act.put, List.nil_append, List.cons_append, List.setIfInBounds_toArray, List.set_cons_zero, List.set_cons_succ, e0, e2]
    go_wp2_with (go_at_call 12; refine (kP _ _ hY2).mono ?_; rintro e w3 ⟨rfl, hb3⟩)
    exact stepPost_mk hb3 rfl rfl
  dsimp only [List.nil_append, List.cons_append]
  refine freeOK_step (fun v _ => v = .tuple #[.agg #[.int .i64 kind, .int .i64 frm, .int .i64 to, .int .i64 line, .int .i64 serial, .int .i64 turn, .int .i64 value, .bool alone], .int .i64 0]) (stable_eq _) rfl ?_ ?_
  · intro σ W hG hd
    have e3 : σ 3 = .tuple #[.agg #[.int .i64 kind, .int .i64 frm, .int .i64 to, .int .i64 line, .int .i64 serial, .int .i64 turn, .int .i64 value, .bool alone], .int .i64 0] := hd ⟨3, .data⟩ (by simp) rfl (fun v _ => v = .tuple #[.agg #[.int .i64 kind, .int .i64 frm, .int .i64 to, .int .i64 line, .int .i64 serial, .int .i64 turn, .int .i64 value, .bool alone], .int .i64 0]) rfl
    refine ⟨?_⟩
    simp only [putAll, Act.put, List.nil_append, List.cons_append, List.setIfInBounds_toArray, List.set_cons_zero, List.set_cons_succ, e3]
    go_wp2
    exact stepPost_mk (Gr.refl _) rfl rfl
  dsimp only [List.nil_append, List.cons_append]
  refine freeOK_step (fun v _ => v = .agg #[.int .i64 kind, .int .i64 frm, .int .i64 to, .int .i64 line, .int .i64 serial, .int .i64 turn, .int .i64 value, .bool alone]) (stable_eq _) rfl ?_ ?_
  · intro σ W hG hd
    have e4 : σ 4 = .tuple #[.agg #[.int .i64 kind, .int .i64 frm, .int .i64 to, .int .i64 line, .int .i64 serial, .int .i64 turn, .int .i64 value, .bool alone], .int .i64 0] := hd ⟨4, .data⟩ (by simp) rfl (fun v _ => v = .tuple #[.agg #[.int .i64 kind, .int .i64 frm, .int .i64 to, .int .i64 line, .int .i64 serial, .int .i64 turn, .int .i64 value, .bool alone], .int .i64 0]) rfl
    refine ⟨?_⟩
    simp only [putAll, Act.put, List.nil_append, List.cons_append, List.setIfInBounds_toArray, List.set_cons_zero, List.set_cons_succ, e4]
    go_wp2
    exact stepPost_mk (Gr.refl _) rfl rfl
  dsimp only [List.nil_append, List.cons_append]
  refine freeOK_pure (fun v _ => v = .int .i64 0) (stable_eq _) rfl ?_ ?_
  · intro σ W hG hd
    have e4 : σ 4 = .tuple #[.agg #[.int .i64 kind, .int .i64 frm, .int .i64 to, .int .i64 line, .int .i64 serial, .int .i64 turn, .int .i64 value, .bool alone], .int .i64 0] := hd ⟨4, .data⟩ (by simp) rfl (fun v _ => v = .tuple #[.agg #[.int .i64 kind, .int .i64 frm, .int .i64 to, .int .i64 line, .int .i64 serial, .int .i64 turn, .int .i64 value, .bool alone], .int .i64 0]) rfl
    simp only [putAll, Act.put, List.nil_append, List.cons_append, List.setIfInBounds_toArray, List.set_cons_zero, List.set_cons_succ, e4]
    exact ⟨_, Or.inl ⟨rfl, fun w => rfl⟩, rfl⟩
  dsimp only [List.nil_append, List.cons_append]
  refine freeOK_step (Box (w2.heap.size) #[.int .i64 0, .int .i64 0, .int .i64 0, .int .i64 0, .int .i64 0, .int .i64 0, .int .i64 0, .bool false] 25) (box_stable _ _ _) rfl ?_ ?_
  · intro σ W hG hd
    refine ⟨?_⟩
    simp only [putAll, Act.put, List.nil_append, List.cons_append, List.setIfInBounds_toArray, List.set_cons_zero, List.set_cons_succ]
    go_wp2
    exact stepPost_mk (gr_alloc _ _) rfl (box_alloc (Nat.le_trans (by simp) (Below.size hG)))
  dsimp only [List.nil_append, List.cons_append]
  refine freeOK_done fun σ W hG hR => ?_
  have e0 : σ 0 = .agg #[.int .i64 cores, .int .i64 lines] := hR 0 (fun v _ => v = .agg #[.int .i64 cores, .int .i64 lines]) rfl
  have e1 : σ 1 = .agg #[.int .i64 kind, .int .i64 frm, .int .i64 to, .int .i64 line, .int .i64 serial, .int .i64 turn, .int .i64 value, .bool alone] := hR 1 (fun v _ => v = .agg #[.int .i64 kind, .int .i64 frm, .int .i64 to, .int .i64 line, .int .i64 serial, .int .i64 turn, .int .i64 value, .bool alone]) rfl
  have h2 : ∃ g, σ 2 = .slice (some ⟨g, 0, none⟩) 12 12 ∧ BRow W g 0 Y := hR 2 (fun v w => ∃ g, v = .slice (some ⟨g, 0, none⟩) 12 12 ∧ BRow w g 0 Y) rfl
  obtain ⟨g2, e2, hT2⟩ := h2
  have e3 : σ 3 = .tuple #[.agg #[.int .i64 kind, .int .i64 frm, .int .i64 to, .int .i64 line, .int .i64 serial, .int .i64 turn, .int .i64 value, .bool alone], .int .i64 0] := hR 3 (fun v _ => v = .tuple #[.agg #[.int .i64 kind, .int .i64 frm, .int .i64 to, .int .i64 line, .int .i64 serial, .int .i64 turn, .int .i64 value, .bool alone], .int .i64 0]) rfl
  have e4 : σ 4 = .tuple #[.agg #[.int .i64 kind, .int .i64 frm, .int .i64 to, .int .i64 line, .int .i64 serial, .int .i64 turn, .int .i64 value, .bool alone], .int .i64 0] := hR 4 (fun v _ => v = .tuple #[.agg #[.int .i64 kind, .int .i64 frm, .int .i64 to, .int .i64 line, .int .i64 serial, .int .i64 turn, .int .i64 value, .bool alone], .int .i64 0]) rfl
  have e5 : σ 5 = .agg #[.int .i64 kind, .int .i64 frm, .int .i64 to, .int .i64 line, .int .i64 serial, .int .i64 turn, .int .i64 value, .bool alone] := hR 5 (fun v _ => v = .agg #[.int .i64 kind, .int .i64 frm, .int .i64 to, .int .i64 line, .int .i64 serial, .int .i64 turn, .int .i64 value, .bool alone]) rfl
  have e6 : σ 6 = .int .i64 0 := hR 6 (fun v _ => v = .int .i64 0) rfl
  have h7 : Box (w2.heap.size) #[.int .i64 0, .int .i64 0, .int .i64 0, .int .i64 0, .int .i64 0, .int .i64 0, .int .i64 0, .bool false] 25 (σ 7) W := hR 7 (Box (w2.heap.size) #[.int .i64 0, .int .i64 0, .int .i64 0, .int .i64 0, .int .i64 0, .int .i64 0, .int .i64 0, .bool false] 25) rfl
  obtain ⟨g7, e7, hB7, hbox7⟩ := h7
  have b0 : W.cell? ⟨g7, 0, none⟩ = some (.int .i64 0) := (cell_of_heap hbox7 0).trans rfl
  have b1 : W.cell? ⟨g7, 1, none⟩ = some (.int .i64 0) := (cell_of_heap hbox7 1).trans rfl
  have b2 : W.cell? ⟨g7, 2, none⟩ = some (.int .i64 0) := (cell_of_heap hbox7 2).trans rfl
  have b3 : W.cell? ⟨g7, 3, none⟩ = some (.int .i64 0) := (cell_of_heap hbox7 3).trans rfl
  have b4 : W.cell? ⟨g7, 4, none⟩ = some (.int .i64 0) := (cell_of_heap hbox7 4).trans rfl
  have b5 : W.cell? ⟨g7, 5, none⟩ = some (.int .i64 0) := (cell_of_heap hbox7 5).trans rfl
  have b6 : W.cell? ⟨g7, 6, none⟩ = some (.int .i64 0) := (cell_of_heap hbox7 6).trans rfl
  have b7 : W.cell? ⟨g7, 7, none⟩ = some (.bool false) := (cell_of_heap hbox7 7).trans rfl
  have f0 : W.frozen? ⟨g7, 0, none⟩ = false := free_of_heap hbox7 0
  have f1 : W.frozen? ⟨g7, 1, none⟩ = false := free_of_heap hbox7 1
  have f2 : W.frozen? ⟨g7, 2, none⟩ = false := free_of_heap hbox7 2
  have f3 : W.frozen? ⟨g7, 3, none⟩ = false := free_of_heap hbox7 3
  have f4 : W.frozen? ⟨g7, 4, none⟩ = false := free_of_heap hbox7 4
  have f5 : W.frozen? ⟨g7, 5, none⟩ = false := free_of_heap hbox7 5
  have f6 : W.frozen? ⟨g7, 6, none⟩ = false := free_of_heap hbox7 6
  have f7 : W.frozen? ⟨g7, 7, none⟩ = false := free_of_heap hbox7 7
  have qc0 := gcell hG (a := ⟨w.heap.size, 0, none⟩) (v := .int .i64 cores) (by go_cell)
  have qc1 := gcell hG (a := ⟨w.heap.size, 1, none⟩) (v := .int .i64 lines) (by go_cell)
  have qm0 := gcell hG (a := ⟨w.heap.size + 1, 0, none⟩) (v := .int .i64 kind) (by go_cell)
  have qm1 := gcell hG (a := ⟨w.heap.size + 1, 1, none⟩) (v := .int .i64 frm) (by go_cell)
  have qm2 := gcell hG (a := ⟨w.heap.size + 1, 2, none⟩) (v := .int .i64 to) (by go_cell)
  have qm3 := gcell hG (a := ⟨w.heap.size + 1, 3, none⟩) (v := .int .i64 line) (by go_cell)
  have qm4 := gcell hG (a := ⟨w.heap.size + 1, 4, none⟩) (v := .int .i64 serial) (by go_cell)
  have qm5 := gcell hG (a := ⟨w.heap.size + 1, 5, none⟩) (v := .int .i64 turn) (by go_cell)
  have qm6 := gcell hG (a := ⟨w.heap.size + 1, 6, none⟩) (v := .int .i64 value) (by go_cell)
  have qm7 := gcell hG (a := ⟨w.heap.size + 1, 7, none⟩) (v := .bool alone) (by go_cell)
  have n1 : w.heap.size ≠ g7 := by omega
  have n2 : w.heap.size + 1 ≠ g7 := by omega
  have gl : g7 < W.heap.size := block_lt_of_cell b0
  clear hbox7 hT2
  refine ⟨?_⟩
  simp only [putAll, Act.put, List.nil_append, List.cons_append, List.setIfInBounds_toArray, List.set_cons_zero, List.set_cons_succ, e0, e1, e2, e3, e4, e5, e6, e7]
  clear hR e0 e1 e2 e3 e4 e5 e6 e7
  have hBW : Below w.heap.size w W := below_on (below_b2 hb1 hb2).drew (below_b2 hb1 hb2).size hG
  go_wp2
  refine NP.normal ?_
  go_wp2_with (first | (go_at_call 12; refine (kS _ (hS.below (below_set8 hBW (by omega)))).mono ?_; rintro e w5 ⟨rfl, hb5⟩; have hW5 := below_w5 hBW (by omega) hb5; have z5 := hb5.size))
  have hSN := (hS.below hW5).below (gr_alloc_drew w5 (.cells #[.int .i64 xkind, .int .i64 xfrm, .int .i64 xto, .int .i64 xline, .int .i64 xserial, .int .i64 xturn, .int .i64 xvalue, .bool xalone] 25))
  refine wp_region_free 19 [] (by kernel_rfl) (by kernel_rfl) (by kernel_rfl) ?_
  dsimp only [List.take, List.drop]
  refine freeOK_step (fun v _ => v = .int .i64 0) (stable_eq _) rfl ?_ ?_
  · intro σ W hG hd
    refine ⟨?_⟩
    dsimp only [putAll]
    go_wp2
    exact stepPost_mk (Gr.refl _) rfl rfl
  dsimp only [List.nil_append, List.cons_append]
  refine freeOK_step (fun v _ => v = .bool false) (stable_eq _) rfl ?_ ?_
  · intro σ W hG hd
    have e0 : σ 0 = .int .i64 0 := hd ⟨0, .data⟩ (by simp) rfl (fun v _ => v = .int .i64 0) rfl
    refine ⟨?_⟩
    simp only [putAll, Act.put, List.nil_append, List.cons_append, List.setIfInBounds_toArray, List.set_cons_zero, List.set_cons_succ, e0]
    go_wp2
    exact stepPost_mk (Gr.refl _) rfl rfl
  dsimp only [List.nil_append, List.cons_append]
  refine freeOK_step (fun v _ => v = .bool false) (stable_eq _) rfl ?_ ?_
  · intro σ W hG hd
    have e1 : σ 1 = .bool false := hd ⟨1, .data⟩ (by simp) rfl (fun v _ => v = .bool false) rfl
    refine ⟨?_⟩
    simp only [putAll, Act.put, List.nil_append, List.cons_append, List.setIfInBounds_toArray, List.set_cons_zero, List.set_cons_succ, e1]
    go_wp2
    exact stepPost_mk (Gr.refl _) rfl rfl
  dsimp only [List.nil_append, List.cons_append]
  refine freeOK_step (fun v _ => v = undef) (stable_eq _) rfl ?_ ?_
  · intro σ W hG hd
    have e2 : σ 2 = .bool false := hd ⟨2, .guard⟩ (by simp) rfl (fun v _ => v = .bool false) rfl
    refine ⟨?_⟩
    simp only [putAll, Act.put, List.nil_append, List.cons_append, List.setIfInBounds_toArray, List.set_cons_zero, List.set_cons_succ, e2]
    go_wp2
    exact stepPost_mk (Gr.refl _) rfl rfl
  dsimp only [List.nil_append, List.cons_append]
  refine freeOK_step (fun v _ => v = undef) (stable_eq _) rfl ?_ ?_
  · intro σ W hG hd
    have e2 : σ 2 = .bool false := hd ⟨2, .guard⟩ (by simp) rfl (fun v _ => v = .bool false) rfl
    refine ⟨?_⟩
    simp only [putAll, Act.put, List.nil_append, List.cons_append, List.setIfInBounds_toArray, List.set_cons_zero, List.set_cons_succ, e2]
    go_wp2
    exact stepPost_mk (Gr.refl _) rfl rfl
  dsimp only [List.nil_append, List.cons_append]
  refine freeOK_step (fun v _ => v = undef) (stable_eq _) rfl ?_ ?_
  · intro σ W hG hd
    have e2 : σ 2 = .bool false := hd ⟨2, .guard⟩ (by simp) rfl (fun v _ => v = .bool false) rfl
    refine ⟨?_⟩
    simp only [putAll, Act.put, List.nil_append, List.cons_append, List.setIfInBounds_toArray, List.set_cons_zero, List.set_cons_succ, e2]
    go_wp2
    exact stepPost_mk (Gr.refl _) rfl rfl
  dsimp only [List.nil_append, List.cons_append]
  refine freeOK_step (fun v _ => v = .bool false) (stable_eq _) rfl ?_ ?_
  · intro σ W hG hd
    have e2 : σ 2 = .bool false := hd ⟨2, .data⟩ (by simp) rfl (fun v _ => v = .bool false) rfl
    refine ⟨?_⟩
    simp only [putAll, Act.put, List.nil_append, List.cons_append, List.setIfInBounds_toArray, List.set_cons_zero, List.set_cons_succ, e2]
    go_wp2
    exact stepPost_mk (Gr.refl _) rfl rfl
  dsimp only [List.nil_append, List.cons_append]
  refine freeOK_step (fun v _ => v = .bool false) (stable_eq _) rfl ?_ ?_
  · intro σ W hG hd
    have e6 : σ 6 = .bool false := hd ⟨6, .data⟩ (by simp) rfl (fun v _ => v = .bool false) rfl
    refine ⟨?_⟩
    simp only [putAll, Act.put, List.nil_append, List.cons_append, List.setIfInBounds_toArray, List.set_cons_zero, List.set_cons_succ, e6]
    go_wp2
    exact stepPost_mk (Gr.refl _) rfl rfl
  dsimp only [List.nil_append, List.cons_append]
  refine freeOK_step (fun v _ => v = .int .i64 0) (stable_eq _) rfl ?_ ?_
  · intro σ W hG hd
    have e7 : σ 7 = .bool false := hd ⟨7, .guard⟩ (by simp) rfl (fun v _ => v = .bool false) rfl
    refine ⟨?_⟩
    simp only [putAll, Act.put, List.nil_append, List.cons_append, List.setIfInBounds_toArray, List.set_cons_zero, List.set_cons_succ, e7]
    go_wp2
    exact stepPost_mk (Gr.refl _) rfl rfl
  dsimp only [List.nil_append, List.cons_append]
  refine freeOK_step (fun v _ => v = .bool true) (stable_eq _) rfl ?_ ?_
  · intro σ W hG hd
    have e8 : σ 8 = .int .i64 0 := hd ⟨8, .data⟩ (by simp) rfl (fun v _ => v = .int .i64 0) rfl
    have e7 : σ 7 = .bool false := hd ⟨7, .guard⟩ (by simp) rfl (fun v _ => v = .bool false) rfl
    refine ⟨?_⟩
    simp only [putAll, Act.put, List.nil_append, List.cons_append, List.setIfInBounds_toArray, List.set_cons_zero, List.set_cons_succ, e8, e7]
    go_wp2
    exact stepPost_mk (Gr.refl _) rfl rfl
  dsimp only [List.nil_append, List.cons_append]
  refine freeOK_step (fun v _ => v = .bool true) (stable_eq _) rfl ?_ ?_
  · intro σ W hG hd
    have e9 : σ 9 = .bool true := hd ⟨9, .data⟩ (by simp) rfl (fun v _ => v = .bool true) rfl
    have e7 : σ 7 = .bool false := hd ⟨7, .guard⟩ (by simp) rfl (fun v _ => v = .bool false) rfl
    refine ⟨?_⟩
    simp only [putAll, Act.put, List.nil_append, List.cons_append, List.setIfInBounds_toArray, List.set_cons_zero, List.set_cons_succ, e9, e7]
    go_wp2
    exact stepPost_mk (Gr.refl _) rfl rfl
  dsimp only [List.nil_append, List.cons_append]
  refine freeOK_step (fun v _ => v = .agg #[.int .i64 xkind, .int .i64 xfrm, .int .i64 xto, .int .i64 xline, .int .i64 xserial, .int .i64 xturn, .int .i64 xvalue, .bool xalone]) (stable_eq _) rfl ?_ ?_
  · intro σ W hG hd
    have e10 : σ 10 = .bool true := hd ⟨10, .guard⟩ (by simp) rfl (fun v _ => v = .bool true) rfl
    have qx0 := gcell hG (a := ⟨w5.heap.size, 0, none⟩) (v := .int .i64 xkind) (by go_cell)
    have qx1 := gcell hG (a := ⟨w5.heap.size, 1, none⟩) (v := .int .i64 xfrm) (by go_cell)
    have qx2 := gcell hG (a := ⟨w5.heap.size, 2, none⟩) (v := .int .i64 xto) (by go_cell)
    have qx3 := gcell hG (a := ⟨w5.heap.size, 3, none⟩) (v := .int .i64 xline) (by go_cell)
    have qx4 := gcell hG (a := ⟨w5.heap.size, 4, none⟩) (v := .int .i64 xserial) (by go_cell)
    have qx5 := gcell hG (a := ⟨w5.heap.size, 5, none⟩) (v := .int .i64 xturn) (by go_cell)
    have qx6 := gcell hG (a := ⟨w5.heap.size, 6, none⟩) (v := .int .i64 xvalue) (by go_cell)
    have qx7 := gcell hG (a := ⟨w5.heap.size, 7, none⟩) (v := .bool xalone) (by go_cell)
    refine ⟨?_⟩
    simp only [putAll, Act.put, List.nil_append, List.cons_append, List.setIfInBounds_toArray, List.set_cons_zero, List.set_cons_succ, e10]
    go_wp2
    exact stepPost_mk (Gr.refl _) rfl rfl
  dsimp only [List.nil_append, List.cons_append]
  refine freeOK_step (fun v w => ∃ g, v = .slice (some ⟨g, 0, none⟩) 12 12 ∧ BRow w g 0 xs) (fun _ _ _ hG ⟨g, h1, h2⟩ => ⟨g, h1, h2.below hG⟩) rfl ?_ ?_
  · intro σ W hG hd
    have e11 : σ 11 = .agg #[.int .i64 xkind, .int .i64 xfrm, .int .i64 xto, .int .i64 xline, .int .i64 xserial, .int .i64 xturn, .int .i64 xvalue, .bool xalone] := hd ⟨11, .data⟩ (by simp) rfl (fun v _ => v = .agg #[.int .i64 xkind, .int .i64 xfrm, .int .i64 xto, .int .i64 xline, .int .i64 xserial, .int .i64 xturn, .int .i64 xvalue, .bool xalone]) rfl
    have e10 : σ 10 = .bool true := hd ⟨10, .guard⟩ (by simp) rfl (fun v _ => v = .bool true) rfl
    refine ⟨?_⟩
    simp only [putAll, Act.put, List.nil_append, List.cons_append, List.setIfInBounds_toArray, List.set_cons_zero, List.set_cons_succ, e11, e10]
    go_wp2_with (go_at_call 14; refine (kX _).mono ?_; rintro e w3 ⟨g3, rfl, hY3, hb3⟩)
    exact stepPost_mk hb3 rfl ⟨g3, rfl, hY3⟩
  dsimp only [List.nil_append, List.cons_append]
  refine freeOK_step (fun v _ => v = .string (strOf xs)) (stable_eq _) rfl ?_ ?_
  · intro σ W hG hd
    have h12 : ∃ g, σ 12 = .slice (some ⟨g, 0, none⟩) 12 12 ∧ BRow W g 0 xs := hd ⟨12, .data⟩ (by simp) rfl (fun v w => ∃ g, v = .slice (some ⟨g, 0, none⟩) 12 12 ∧ BRow w g 0 xs) rfl
    obtain ⟨g12, e12, hY12⟩ := h12
    have e10 : σ 10 = .bool true := hd ⟨10, .guard⟩ (by simp) rfl (fun v _ => v = .bool true) rfl
    have hcv := conv_row W g12 xs nX hY12
    refine ⟨?_⟩
    simp only [putAll, Act.put, List.nil_append, List.cons_append, List.setIfInBounds_toArray, List.set_cons_zero, List.set_cons_succ, e12, e10]
    go_wp2
    exact stepPost_mk (Gr.refl _) rfl rfl
  dsimp only [List.nil_append, List.cons_append]
  refine freeOK_step (fun v _ => v = .slice a 12 cap) (stable_eq _) rfl ?_ ?_
  · intro σ W hG hd
    have e10 : σ 10 = .bool true := hd ⟨10, .guard⟩ (by simp) rfl (fun v _ => v = .bool true) rfl
    refine ⟨?_⟩
    simp only [putAll, Act.put, List.nil_append, List.cons_append, List.setIfInBounds_toArray, List.set_cons_zero, List.set_cons_succ, e10]
    go_wp2
    exact stepPost_mk (Gr.refl _) rfl rfl
  dsimp only [List.nil_append, List.cons_append]
  refine freeOK_step (fun v _ => v = .string (strOf xs)) (stable_eq _) rfl ?_ ?_
  · intro σ W hG hd
    have e14 : σ 14 = .slice a 12 cap := hd ⟨14, .data⟩ (by simp) rfl (fun v _ => v = .slice a 12 cap) rfl
    have e10 : σ 10 = .bool true := hd ⟨10, .guard⟩ (by simp) rfl (fun v _ => v = .bool true) rfl
    have hcv := conv_sl W a cap xs (hSN.below hG)
    rw [nX] at hcv
    refine ⟨?_⟩
    simp only [putAll, Act.put, List.nil_append, List.cons_append, List.setIfInBounds_toArray, List.set_cons_zero, List.set_cons_succ, e14, e10]
    go_wp2
    exact stepPost_mk (Gr.refl _) rfl rfl
  dsimp only [List.nil_append, List.cons_append]
  refine freeOK_step (fun v _ => v = .bool true) (stable_eq _) rfl ?_ ?_
  · intro σ W hG hd
    have e13 : σ 13 = .string (strOf xs) := hd ⟨13, .data⟩ (by simp) rfl (fun v _ => v = .string (strOf xs)) rfl
    have e15 : σ 15 = .string (strOf xs) := hd ⟨15, .data⟩ (by simp) rfl (fun v _ => v = .string (strOf xs)) rfl
    have e10 : σ 10 = .bool true := hd ⟨10, .guard⟩ (by simp) rfl (fun v _ => v = .bool true) rfl
    refine ⟨?_⟩
    simp only [putAll, Act.put, List.nil_append, List.cons_append, List.setIfInBounds_toArray, List.set_cons_zero, List.set_cons_succ, e13, e15, e10]
    go_wp2
    exact stepPost_mk (Gr.refl _) rfl rfl
  dsimp only [List.nil_append, List.cons_append]
  refine freeOK_step (fun v _ => v = .bool true) (stable_eq _) rfl ?_ ?_
  · intro σ W hG hd
    have e10 : σ 10 = .bool true := hd ⟨10, .data⟩ (by simp) rfl (fun v _ => v = .bool true) rfl
    have e16 : σ 16 = .bool true := hd ⟨16, .data⟩ (by simp) rfl (fun v _ => v = .bool true) rfl
    have e7 : σ 7 = .bool false := hd ⟨7, .guard⟩ (by simp) rfl (fun v _ => v = .bool false) rfl
    refine ⟨?_⟩
    simp only [putAll, Act.put, List.nil_append, List.cons_append, List.setIfInBounds_toArray, List.set_cons_zero, List.set_cons_succ, e10, e16, e7]
    go_wp2
    exact stepPost_mk (Gr.refl _) rfl rfl
  dsimp only [List.nil_append, List.cons_append]
  refine freeOK_step (fun v _ => v = .bool true) (stable_eq _) rfl ?_ ?_
  · intro σ W hG hd
    have e7 : σ 7 = .bool false := hd ⟨7, .data⟩ (by simp) rfl (fun v _ => v = .bool false) rfl
    have e17 : σ 17 = .bool true := hd ⟨17, .data⟩ (by simp) rfl (fun v _ => v = .bool true) rfl
    refine ⟨?_⟩
    simp only [putAll, Act.put, List.nil_append, List.cons_append, List.setIfInBounds_toArray, List.set_cons_zero, List.set_cons_succ, e7, e17]
    go_wp2
    exact stepPost_mk (Gr.refl _) rfl rfl
  dsimp only [List.nil_append, List.cons_append]
  refine freeOK_done fun σ W hG hR => ?_
  have e0 : σ 0 = .int .i64 0 := hR 0 (fun v _ => v = .int .i64 0) rfl
  have e1 : σ 1 = .bool false := hR 1 (fun v _ => v = .bool false) rfl
  have e2 : σ 2 = .bool false := hR 2 (fun v _ => v = .bool false) rfl
  have e3 : σ 3 = undef := hR 3 (fun v _ => v = undef) rfl
  have e4 : σ 4 = undef := hR 4 (fun v _ => v = undef) rfl
  have e5 : σ 5 = undef := hR 5 (fun v _ => v = undef) rfl
  have e6 : σ 6 = .bool false := hR 6 (fun v _ => v = .bool false) rfl
  have e7 : σ 7 = .bool false := hR 7 (fun v _ => v = .bool false) rfl
  have e8 : σ 8 = .int .i64 0 := hR 8 (fun v _ => v = .int .i64 0) rfl
  have e9 : σ 9 = .bool true := hR 9 (fun v _ => v = .bool true) rfl
  have e10 : σ 10 = .bool true := hR 10 (fun v _ => v = .bool true) rfl
  have e11 : σ 11 = .agg #[.int .i64 xkind, .int .i64 xfrm, .int .i64 xto, .int .i64 xline, .int .i64 xserial, .int .i64 xturn, .int .i64 xvalue, .bool xalone] := hR 11 (fun v _ => v = .agg #[.int .i64 xkind, .int .i64 xfrm, .int .i64 xto, .int .i64 xline, .int .i64 xserial, .int .i64 xturn, .int .i64 xvalue, .bool xalone]) rfl
  have h12 : ∃ g, σ 12 = .slice (some ⟨g, 0, none⟩) 12 12 ∧ BRow W g 0 xs := hR 12 (fun v w => ∃ g, v = .slice (some ⟨g, 0, none⟩) 12 12 ∧ BRow w g 0 xs) rfl
  obtain ⟨g12, e12, hT12⟩ := h12
  have e13 : σ 13 = .string (strOf xs) := hR 13 (fun v _ => v = .string (strOf xs)) rfl
  have e14 : σ 14 = .slice a 12 cap := hR 14 (fun v _ => v = .slice a 12 cap) rfl
  have e15 : σ 15 = .string (strOf xs) := hR 15 (fun v _ => v = .string (strOf xs)) rfl
  have e16 : σ 16 = .bool true := hR 16 (fun v _ => v = .bool true) rfl
  have e17 : σ 17 = .bool true := hR 17 (fun v _ => v = .bool true) rfl
  have e18 : σ 18 = .bool true := hR 18 (fun v _ => v = .bool true) rfl
  refine ⟨?_⟩
  simp only [putAll, Act.put, List.nil_append, List.cons_append, List.setIfInBounds_toArray, List.set_cons_zero, List.set_cons_succ, e0, e1, e2, e3, e4, e5, e6, e7, e8, e9, e10, e11, e12, e13, e14, e15, e16, e17, e18]
  clear hR e0 e1 e2 e3 e4 e5 e6 e7 e8 e9 e10 e11 e12 e13 e14 e15 e16 e17 e18
  go_wp2
  refine NP.normal ?_
  go_wp2
  go_ret
  exact ⟨rfl, below_on (Below.drew (hW5.alloc hW5.size _)) (Below.drew (hW5.alloc hW5.size _)).size hG⟩
end Go.Proofs.Ytmjhmbalkgpcjaa
