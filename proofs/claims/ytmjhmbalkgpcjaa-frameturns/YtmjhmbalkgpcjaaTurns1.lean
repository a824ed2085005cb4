/- FrameTurns, where the message is none. -/
import Derived.Test.YtmjhmbalkgpcjaaTurns
namespace Go.Proofs.Ytmjhmbalkgpcjaa
open Go.RowKit
set_option linter.unusedVariables false
set_option linter.unusedSimpArgs false

set_option maxHeartbeats 4000000 in
theorem turns_bad_no (c : Cfg) (m : Msg) (a : Option Addr) (cap : Nat) (xs : List Nat) (w : World) (h1 : 1 ≤ c.cores) (h2 : c.cores ≤ 4) (h3 : 1 ≤ c.lines) (h4 : c.lines ≤ 4) (h5 : wrongF c m ≠ 0)
    (hcap : xs.length ≤ cap) (hcm : cap ≤ maxLen) (hS : BSl w a xs) (h6 : (parseF c xs).2 ≠ 0) (h7 : (parseF c xs).1 = Msg.zero) :
    Calls Try.prog 4 #[c.val, m.val, .slice a xs.length cap] w fun e w' => e = .returned (.bool true) ∧ Below w.heap.size w w' := by
  have kA := fun w => alive_any w
  have kW := fun w => wrong_any c m w
  have kS := fun w (h : BSl w a xs) => parse_sl c a cap xs w hcap hcm h
  rw [h7] at kS
  obtain ⟨E, eE⟩ : ∃ E, E = (parseF c xs).2 := ⟨_, rfl⟩
  rw [← eE] at kS h6
  have hE : (E != 0) = true := by simpa using h6
  have hE2 : (E == 0) = false := by simpa using h6
  clear h6 h7 eE
  obtain ⟨G, eG⟩ : ∃ G, G = wrongF c m := ⟨_, rfl⟩
  rw [← eG] at kW h5
  have hG0 : (G == 0) = false := by simpa using h5
  clear eG h5
  obtain ⟨cores, lines⟩ := c
  obtain ⟨kind, frm, to, line, serial, turn, value, alone⟩ := m
  unfold Cfg.val Msg.val at *
  simp only at h1 h2 h3 h4
  unfold Msg.zero at kS
  go_enter Try.func4, Try.ntmps4
  go_wp2_with (first | (go_at_call 16; refine (kA _).mono ?_; rintro e w1 ⟨rfl, hb1⟩; obtain ⟨hc1, hf1⟩ := bcell hb1; obtain ⟨z1, y1⟩ := size2' hb1) | (go_at_call 6; refine (kW _).mono ?_; rintro e w2 ⟨rfl, hb2⟩; obtain ⟨hc2, hf2⟩ := bcell hb2; obtain ⟨z2, y2⟩ := size3' z1 hb2) | (go_at_call 12; refine (kS _ (hS.below (below_b2 hb1 hb2))).mono ?_; rintro e w5 ⟨rfl, hb5⟩; obtain ⟨hc5, hf5⟩ := bcell hb5; obtain ⟨z5, y5⟩ := size3' z2 hb5))
  refine wp_region_free 19 [] (by kernel_rfl) (by kernel_rfl) (by kernel_rfl) ?_
  dsimp only [List.take, List.drop]
  refine freeOK_step (fun v _ => v = .int .i64 E) (stable_eq _) rfl ?_ ?_
  · intro σ W hG hd
    refine ⟨?_⟩
    dsimp only [putAll]
    go_wp2
    exact stepPost_mk (Gr.refl _) rfl rfl
  dsimp only [List.nil_append, List.cons_append]
  refine freeOK_step (fun v _ => v = .bool true) (stable_eq _) rfl ?_ ?_
  · intro σ W hG hd
    have e0 : σ 0 = .int .i64 E := hd ⟨0, .data⟩ (by simp) rfl (fun v _ => v = .int .i64 E) rfl
    refine ⟨?_⟩
    simp only [putAll, Act.put, List.nil_append, List.cons_append, List.setIfInBounds_toArray, List.set_cons_zero, List.set_cons_succ, e0]
    go_wp2
    exact stepPost_mk (Gr.refl _) rfl rfl
  dsimp only [List.nil_append, List.cons_append]
  refine freeOK_step (fun v _ => v = .bool true) (stable_eq _) rfl ?_ ?_
  · intro σ W hG hd
    have e1 : σ 1 = .bool true := hd ⟨1, .data⟩ (by simp) rfl (fun v _ => v = .bool true) rfl
    refine ⟨?_⟩
    simp only [putAll, Act.put, List.nil_append, List.cons_append, List.setIfInBounds_toArray, List.set_cons_zero, List.set_cons_succ, e1]
    go_wp2
    exact stepPost_mk (Gr.refl _) rfl rfl
  dsimp only [List.nil_append, List.cons_append]
  refine freeOK_step (fun v _ => v = .agg #[.int .i64 0, .int .i64 0, .int .i64 0, .int .i64 0, .int .i64 0, .int .i64 0, .int .i64 0, .bool false]) (stable_eq _) rfl ?_ ?_
  · intro σ W hG hd
    have e2 : σ 2 = .bool true := hd ⟨2, .guard⟩ (by simp) rfl (fun v _ => v = .bool true) rfl
    have qx0 := gcell hG (a := ⟨w5.heap.size, 0, none⟩) (v := .int .i64 0) (by go_cell)
    have qx1 := gcell hG (a := ⟨w5.heap.size, 1, none⟩) (v := .int .i64 0) (by go_cell)
    have qx2 := gcell hG (a := ⟨w5.heap.size, 2, none⟩) (v := .int .i64 0) (by go_cell)
    have qx3 := gcell hG (a := ⟨w5.heap.size, 3, none⟩) (v := .int .i64 0) (by go_cell)
    have qx4 := gcell hG (a := ⟨w5.heap.size, 4, none⟩) (v := .int .i64 0) (by go_cell)
    have qx5 := gcell hG (a := ⟨w5.heap.size, 5, none⟩) (v := .int .i64 0) (by go_cell)
    have qx6 := gcell hG (a := ⟨w5.heap.size, 6, none⟩) (v := .int .i64 0) (by go_cell)
    have qx7 := gcell hG (a := ⟨w5.heap.size, 7, none⟩) (v := .bool false) (by go_cell)
    refine ⟨?_⟩
    simp only [putAll, Act.put, List.nil_append, List.cons_append, List.setIfInBounds_toArray, List.set_cons_zero, List.set_cons_succ, e2]
    go_wp2
    exact stepPost_mk (Gr.refl _) rfl rfl
  dsimp only [List.nil_append, List.cons_append]
  refine freeOK_step (fun v _ => v = .agg #[.int .i64 0, .int .i64 0, .int .i64 0, .int .i64 0, .int .i64 0, .int .i64 0, .int .i64 0, .bool false]) (stable_eq _) rfl ?_ ?_
  · intro σ W hG hd
    have e2 : σ 2 = .bool true := hd ⟨2, .guard⟩ (by simp) rfl (fun v _ => v = .bool true) rfl
    refine ⟨?_⟩
    simp only [putAll, Act.put, List.nil_append, List.cons_append, List.setIfInBounds_toArray, List.set_cons_zero, List.set_cons_succ, e2]
    go_wp2
    exact stepPost_mk (Gr.refl _) rfl rfl
  dsimp only [List.nil_append, List.cons_append]
  refine freeOK_step (fun v _ => v = .bool true) (stable_eq _) rfl ?_ ?_
  · intro σ W hG hd
    have e3 : σ 3 = .agg #[.int .i64 0, .int .i64 0, .int .i64 0, .int .i64 0, .int .i64 0, .int .i64 0, .int .i64 0, .bool false] := hd ⟨3, .data⟩ (by simp) rfl (fun v _ => v = .agg #[.int .i64 0, .int .i64 0, .int .i64 0, .int .i64 0, .int .i64 0, .int .i64 0, .int .i64 0, .bool false]) rfl
    have e4 : σ 4 = .agg #[.int .i64 0, .int .i64 0, .int .i64 0, .int .i64 0, .int .i64 0, .int .i64 0, .int .i64 0, .bool false] := hd ⟨4, .data⟩ (by simp) rfl (fun v _ => v = .agg #[.int .i64 0, .int .i64 0, .int .i64 0, .int .i64 0, .int .i64 0, .int .i64 0, .int .i64 0, .bool false]) rfl
    have e2 : σ 2 = .bool true := hd ⟨2, .guard⟩ (by simp) rfl (fun v _ => v = .bool true) rfl
    refine ⟨?_⟩
    simp only [putAll, Act.put, List.nil_append, List.cons_append, List.setIfInBounds_toArray, List.set_cons_zero, List.set_cons_succ, e3, e4, e2]
    go_wp2
    exact stepPost_mk (Gr.refl _) rfl rfl
  dsimp only [List.nil_append, List.cons_append]
  refine freeOK_step (fun v _ => v = .bool true) (stable_eq _) rfl ?_ ?_
  · intro σ W hG hd
    have e2 : σ 2 = .bool true := hd ⟨2, .data⟩ (by simp) rfl (fun v _ => v = .bool true) rfl
    have e5 : σ 5 = .bool true := hd ⟨5, .data⟩ (by simp) rfl (fun v _ => v = .bool true) rfl
    refine ⟨?_⟩
    simp only [putAll, Act.put, List.nil_append, List.cons_append, List.setIfInBounds_toArray, List.set_cons_zero, List.set_cons_succ, e2, e5]
    go_wp2
    exact stepPost_mk (Gr.refl _) rfl rfl
  dsimp only [List.nil_append, List.cons_append]
  refine freeOK_step (fun v _ => v = .bool true) (stable_eq _) rfl ?_ ?_
  · intro σ W hG hd
    have e6 : σ 6 = .bool true := hd ⟨6, .data⟩ (by simp) rfl (fun v _ => v = .bool true) rfl
    refine ⟨?_⟩
    simp only [putAll, Act.put, List.nil_append, List.cons_append, List.setIfInBounds_toArray, List.set_cons_zero, List.set_cons_succ, e6]
    go_wp2
    exact stepPost_mk (Gr.refl _) rfl rfl
  dsimp only [List.nil_append, List.cons_append]
  refine freeOK_step (fun v _ => v = undef) (stable_eq _) rfl ?_ ?_
  · intro σ W hG hd
    have e7 : σ 7 = .bool true := hd ⟨7, .guard⟩ (by simp) rfl (fun v _ => v = .bool true) rfl
    refine ⟨?_⟩
    simp only [putAll, Act.put, List.nil_append, List.cons_append, List.setIfInBounds_toArray, List.set_cons_zero, List.set_cons_succ, e7]
    go_wp2
    exact stepPost_mk (Gr.refl _) rfl rfl
  dsimp only [List.nil_append, List.cons_append]
  refine freeOK_step (fun v _ => v = undef) (stable_eq _) rfl ?_ ?_
  · intro σ W hG hd
    have e7 : σ 7 = .bool true := hd ⟨7, .guard⟩ (by simp) rfl (fun v _ => v = .bool true) rfl
    refine ⟨?_⟩
    simp only [putAll, Act.put, List.nil_append, List.cons_append, List.setIfInBounds_toArray, List.set_cons_zero, List.set_cons_succ, e7]
    go_wp2
    exact stepPost_mk (Gr.refl _) rfl rfl
  dsimp only [List.nil_append, List.cons_append]
  refine freeOK_step (fun v _ => v = undef) (stable_eq _) rfl ?_ ?_
  · intro σ W hG hd
    have e7 : σ 7 = .bool true := hd ⟨7, .guard⟩ (by simp) rfl (fun v _ => v = .bool true) rfl
    refine ⟨?_⟩
    simp only [putAll, Act.put, List.nil_append, List.cons_append, List.setIfInBounds_toArray, List.set_cons_zero, List.set_cons_succ, e7]
    go_wp2
    exact stepPost_mk (Gr.refl _) rfl rfl
  dsimp only [List.nil_append, List.cons_append]
  refine freeOK_step (fun v _ => v = undef) (stable_eq _) rfl ?_ ?_
  · intro σ W hG hd
    have e10 : σ 10 = undef := hd ⟨10, .guard⟩ (by simp) rfl (fun v _ => v = undef) rfl
    refine ⟨?_⟩
    simp only [putAll, Act.put, List.nil_append, List.cons_append, List.setIfInBounds_toArray, List.set_cons_zero, List.set_cons_succ, e10]
    go_wp2
    exact stepPost_mk (Gr.refl _) rfl rfl
  dsimp only [List.nil_append, List.cons_append]
  refine freeOK_step (fun v _ => v = undef) (stable_eq _) rfl ?_ ?_
  · intro σ W hG hd
    have e10 : σ 10 = undef := hd ⟨10, .guard⟩ (by simp) rfl (fun v _ => v = undef) rfl
    refine ⟨?_⟩
    simp only [putAll, Act.put, List.nil_append, List.cons_append, List.setIfInBounds_toArray, List.set_cons_zero, List.set_cons_succ, e10]
    go_wp2
    exact stepPost_mk (Gr.refl _) rfl rfl
  dsimp only [List.nil_append, List.cons_append]
  refine freeOK_step (fun v _ => v = undef) (stable_eq _) rfl ?_ ?_
  · intro σ W hG hd
    have e10 : σ 10 = undef := hd ⟨10, .guard⟩ (by simp) rfl (fun v _ => v = undef) rfl
    refine ⟨?_⟩
    simp only [putAll, Act.put, List.nil_append, List.cons_append, List.setIfInBounds_toArray, List.set_cons_zero, List.set_cons_succ, e10]
    go_wp2
    exact stepPost_mk (Gr.refl _) rfl rfl
  dsimp only [List.nil_append, List.cons_append]
  refine freeOK_step (fun v _ => v = undef) (stable_eq _) rfl ?_ ?_
  · intro σ W hG hd
    have e10 : σ 10 = undef := hd ⟨10, .guard⟩ (by simp) rfl (fun v _ => v = undef) rfl
    refine ⟨?_⟩
    simp only [putAll, Act.put, List.nil_append, List.cons_append, List.setIfInBounds_toArray, List.set_cons_zero, List.set_cons_succ, e10]
    go_wp2
    exact stepPost_mk (Gr.refl _) rfl rfl
  dsimp only [List.nil_append, List.cons_append]
  refine freeOK_step (fun v _ => v = undef) (stable_eq _) rfl ?_ ?_
  · intro σ W hG hd
    have e10 : σ 10 = undef := hd ⟨10, .guard⟩ (by simp) rfl (fun v _ => v = undef) rfl
    refine ⟨?_⟩
    simp only [putAll, Act.put, List.nil_append, List.cons_append, List.setIfInBounds_toArray, List.set_cons_zero, List.set_cons_succ, e10]
    go_wp2
    exact stepPost_mk (Gr.refl _) rfl rfl
  dsimp only [List.nil_append, List.cons_append]
  refine freeOK_step (fun v _ => v = undef) (stable_eq _) rfl ?_ ?_
  · intro σ W hG hd
    have e10 : σ 10 = undef := hd ⟨10, .guard⟩ (by simp) rfl (fun v _ => v = undef) rfl
    refine ⟨?_⟩
    simp only [putAll, Act.put, List.nil_append, List.cons_append, List.setIfInBounds_toArray, List.set_cons_zero, List.set_cons_succ, e10]
    go_wp2
    exact stepPost_mk (Gr.refl _) rfl rfl
  dsimp only [List.nil_append, List.cons_append]
  refine freeOK_step (fun v _ => v = undef) (stable_eq _) rfl ?_ ?_
  · intro σ W hG hd
    have e7 : σ 7 = .bool true := hd ⟨7, .guard⟩ (by simp) rfl (fun v _ => v = .bool true) rfl
    refine ⟨?_⟩
    simp only [putAll, Act.put, List.nil_append, List.cons_append, List.setIfInBounds_toArray, List.set_cons_zero, List.set_cons_succ, e7]
    go_wp2
    exact stepPost_mk (Gr.refl _) rfl rfl
  dsimp only [List.nil_append, List.cons_append]
  refine freeOK_step (fun v _ => v = .bool true) (stable_eq _) rfl ?_ ?_
  · intro σ W hG hd
    have e7 : σ 7 = .bool true := hd ⟨7, .data⟩ (by simp) rfl (fun v _ => v = .bool true) rfl
    refine ⟨?_⟩
    simp only [putAll, Act.put, List.nil_append, List.cons_append, List.setIfInBounds_toArray, List.set_cons_zero, List.set_cons_succ, e7]
    go_wp2
    exact stepPost_mk (Gr.refl _) rfl rfl
  dsimp only [List.nil_append, List.cons_append]
  refine freeOK_done fun σ W hG hR => ?_
  have e0 : σ 0 = .int .i64 E := hR 0 (fun v _ => v = .int .i64 E) rfl
  have e1 : σ 1 = .bool true := hR 1 (fun v _ => v = .bool true) rfl
  have e2 : σ 2 = .bool true := hR 2 (fun v _ => v = .bool true) rfl
  have e3 : σ 3 = .agg #[.int .i64 0, .int .i64 0, .int .i64 0, .int .i64 0, .int .i64 0, .int .i64 0, .int .i64 0, .bool false] := hR 3 (fun v _ => v = .agg #[.int .i64 0, .int .i64 0, .int .i64 0, .int .i64 0, .int .i64 0, .int .i64 0, .int .i64 0, .bool false]) rfl
  have e4 : σ 4 = .agg #[.int .i64 0, .int .i64 0, .int .i64 0, .int .i64 0, .int .i64 0, .int .i64 0, .int .i64 0, .bool false] := hR 4 (fun v _ => v = .agg #[.int .i64 0, .int .i64 0, .int .i64 0, .int .i64 0, .int .i64 0, .int .i64 0, .int .i64 0, .bool false]) rfl
  have e5 : σ 5 = .bool true := hR 5 (fun v _ => v = .bool true) rfl
  have e6 : σ 6 = .bool true := hR 6 (fun v _ => v = .bool true) rfl
  have e7 : σ 7 = .bool true := hR 7 (fun v _ => v = .bool true) rfl
  have e8 : σ 8 = undef := hR 8 (fun v _ => v = undef) rfl
  have e9 : σ 9 = undef := hR 9 (fun v _ => v = undef) rfl
  have e10 : σ 10 = undef := hR 10 (fun v _ => v = undef) rfl
  have e11 : σ 11 = undef := hR 11 (fun v _ => v = undef) rfl
  have e12 : σ 12 = undef := hR 12 (fun v _ => v = undef) rfl
  have e13 : σ 13 = undef := hR 13 (fun v _ => v = undef) rfl
  have e14 : σ 14 = undef := hR 14 (fun v _ => v = undef) rfl
  have e15 : σ 15 = undef := hR 15 (fun v _ => v = undef) rfl
  have e16 : σ 16 = undef := hR 16 (fun v _ => v = undef) rfl
  have e17 : σ 17 = undef := hR 17 (fun v _ => v = undef) rfl
  have e18 : σ 18 = .bool true := hR 18 (fun v _ => v = .bool true) rfl
  refine ⟨?_⟩
  simp only [putAll, Act.put, List.nil_append, List.cons_append, List.setIfInBounds_toArray, List.set_cons_zero, List.set_cons_succ, e0, e1, e2, e3, e4, e5, e6, e7, e8, e9, e10, e11, e12, e13, e14, e15, e16, e17, e18]
  clear hR e0 e1 e2 e3 e4 e5 e6 e7 e8 e9 e10 e11 e12 e13 e14 e15 e16 e17 e18
  go_wp2
  refine NP.normal ?_
  go_wp2
  go_ret
  exact ⟨rfl, below_on (Below.drew ((below_on (below_b2 hb1 hb2) (below_b2 hb1 hb2).size hb5).alloc (below_on (below_b2 hb1 hb2) (below_b2 hb1 hb2).size hb5).size _)) (Below.drew ((below_on (below_b2 hb1 hb2) (below_b2 hb1 hb2).size hb5).alloc (below_on (below_b2 hb1 hb2) (below_b2 hb1 hb2).size hb5).size _)).size hG⟩

set_option maxHeartbeats 4000000 in
theorem turns_bad_yes (c : Cfg) (m : Msg) (a : Option Addr) (cap : Nat) (xs : List Nat) (w : World) (h1 : 1 ≤ c.cores) (h2 : c.cores ≤ 4) (h3 : 1 ≤ c.lines) (h4 : c.lines ≤ 4) (h5 : wrongF c m ≠ 0)
    (hcap : xs.length ≤ cap) (hcm : cap ≤ maxLen) (hS : BSl w a xs) (h6 : (parseF c xs).2 = 0) (nX : xs.length = 12) (h7 : Fit (parseF c xs).1) (h8 : bytesF (parseF c xs).1 = xs) :
    Calls Try.prog 4 #[c.val, m.val, .slice a xs.length cap] w fun e w' => e = .returned (.bool true) ∧ Below w.heap.size w w' := by
  have kA := fun w => alive_any w
  have kW := fun w => wrong_any c m w
  have kS := fun w (h : BSl w a xs) => parse_sl c a cap xs w hcap hcm h
  rw [h6] at kS
  have kX := fun w => bytes_at (parseF c xs).1 h7 w
  rw [h8] at kX
  obtain ⟨x, ex⟩ : ∃ x, x = (parseF c xs).1 := ⟨_, rfl⟩
  rw [← ex] at kS kX
  clear h6 h7 h8 ex
  obtain ⟨G, eG⟩ : ∃ G, G = wrongF c m := ⟨_, rfl⟩
  rw [← eG] at kW h5
  have hG0 : (G == 0) = false := by simpa using h5
  clear eG h5
  obtain ⟨cores, lines⟩ := c
  obtain ⟨kind, frm, to, line, serial, turn, value, alone⟩ := m
  obtain ⟨xkind, xfrm, xto, xline, xserial, xturn, xvalue, xalone⟩ := x
  unfold Cfg.val Msg.val at *
  simp only at h1 h2 h3 h4
  rw [nX] at kS ⊢
  go_enter Try.func4, Try.ntmps4
  go_wp2_with (first | (go_at_call 16; refine (kA _).mono ?_; rintro e w1 ⟨rfl, hb1⟩; obtain ⟨hc1, hf1⟩ := bcell hb1; obtain ⟨z1, y1⟩ := size2' hb1) | (go_at_call 6; refine (kW _).mono ?_; rintro e w2 ⟨rfl, hb2⟩; obtain ⟨hc2, hf2⟩ := bcell hb2; obtain ⟨z2, y2⟩ := size3' z1 hb2) | (go_at_call 12; refine (kS _ (hS.below (below_b2 hb1 hb2))).mono ?_; rintro e w5 ⟨rfl, hb5⟩; obtain ⟨hc5, hf5⟩ := bcell hb5; obtain ⟨z5, y5⟩ := size3' z2 hb5))
  have hSN := (hS.below (below_on (below_b2 hb1 hb2) (below_b2 hb1 hb2).size hb5)).below (gr_alloc_drew w5 (.cells #[.int .i64 xkind, .int .i64 xfrm, .int .i64 xto, .int .i64 xline, .int .i64 xserial, .int .i64 xturn, .int .i64 xvalue, .bool xalone] 25))
  refine wp_region_free 19 [] (by kernel_rfl) (by kernel_rfl) (by kernel_rfl) ?_
  dsimp only [List.take, List.drop]
  refine freeOK_step (fun v _ => v = .int .i64 0) (stable_eq _) rfl ?_ ?_
  · intro σ W hG hd
    refine ⟨?_⟩
    dsimp only [putAll]
    go_wp2
    exact stepPost_mk (Gr.refl _) rfl rfl
  dsimp only [List.nil_append, List.cons_append]
  refine freeOK_step (fun v _ => v = .bool false) (stable_eq _) rfl ?_ ?_
  · intro σ W hG hd
    have e0 : σ 0 = .int .i64 0 := hd ⟨0, .data⟩ (by simp) rfl (fun v _ => v = .int .i64 0) rfl
    refine ⟨?_⟩
    simp only [putAll, Act.put, List.nil_append, List.cons_append, List.setIfInBounds_toArray, List.set_cons_zero, List.set_cons_succ, e0]
    go_wp2
    exact stepPost_mk (Gr.refl _) rfl rfl
  dsimp only [List.nil_append, List.cons_append]
  refine freeOK_step (fun v _ => v = .bool false) (stable_eq _) rfl ?_ ?_
  · intro σ W hG hd
    have e1 : σ 1 = .bool false := hd ⟨1, .data⟩ (by simp) rfl (fun v _ => v = .bool false) rfl
    refine ⟨?_⟩
    simp only [putAll, Act.put, List.nil_append, List.cons_append, List.setIfInBounds_toArray, List.set_cons_zero, List.set_cons_succ, e1]
    go_wp2
    exact stepPost_mk (Gr.refl _) rfl rfl
  dsimp only [List.nil_append, List.cons_append]
  refine freeOK_step (fun v _ => v = undef) (stable_eq _) rfl ?_ ?_
  · intro σ W hG hd
    have e2 : σ 2 = .bool false := hd ⟨2, .guard⟩ (by simp) rfl (fun v _ => v = .bool false) rfl
    refine ⟨?_⟩
    simp only [putAll, Act.put, List.nil_append, List.cons_append, List.setIfInBounds_toArray, List.set_cons_zero, List.set_cons_succ, e2]
    go_wp2
    exact stepPost_mk (Gr.refl _) rfl rfl
  dsimp only [List.nil_append, List.cons_append]
  refine freeOK_step (fun v _ => v = undef) (stable_eq _) rfl ?_ ?_
  · intro σ W hG hd
    have e2 : σ 2 = .bool false := hd ⟨2, .guard⟩ (by simp) rfl (fun v _ => v = .bool false) rfl
    refine ⟨?_⟩
    simp only [putAll, Act.put, List.nil_append, List.cons_append, List.setIfInBounds_toArray, List.set_cons_zero, List.set_cons_succ, e2]
    go_wp2
    exact stepPost_mk (Gr.refl _) rfl rfl
  dsimp only [List.nil_append, List.cons_append]
  refine freeOK_step (fun v _ => v = undef) (stable_eq _) rfl ?_ ?_
  · intro σ W hG hd
    have e2 : σ 2 = .bool false := hd ⟨2, .guard⟩ (by simp) rfl (fun v _ => v = .bool false) rfl
    refine ⟨?_⟩
    simp only [putAll, Act.put, List.nil_append, List.cons_append, List.setIfInBounds_toArray, List.set_cons_zero, List.set_cons_succ, e2]
    go_wp2
    exact stepPost_mk (Gr.refl _) rfl rfl
  dsimp only [List.nil_append, List.cons_append]
  refine freeOK_step (fun v _ => v = .bool false) (stable_eq _) rfl ?_ ?_
  · intro σ W hG hd
    have e2 : σ 2 = .bool false := hd ⟨2, .data⟩ (by simp) rfl (fun v _ => v = .bool false) rfl
    refine ⟨?_⟩
    simp only [putAll, Act.put, List.nil_append, List.cons_append, List.setIfInBounds_toArray, List.set_cons_zero, List.set_cons_succ, e2]
    go_wp2
    exact stepPost_mk (Gr.refl _) rfl rfl
  dsimp only [List.nil_append, List.cons_append]
  refine freeOK_step (fun v _ => v = .bool false) (stable_eq _) rfl ?_ ?_
  · intro σ W hG hd
    have e6 : σ 6 = .bool false := hd ⟨6, .data⟩ (by simp) rfl (fun v _ => v = .bool false) rfl
    refine ⟨?_⟩
    simp only [putAll, Act.put, List.nil_append, List.cons_append, List.setIfInBounds_toArray, List.set_cons_zero, List.set_cons_succ, e6]
    go_wp2
    exact stepPost_mk (Gr.refl _) rfl rfl
  dsimp only [List.nil_append, List.cons_append]
  refine freeOK_step (fun v _ => v = .int .i64 0) (stable_eq _) rfl ?_ ?_
  · intro σ W hG hd
    have e7 : σ 7 = .bool false := hd ⟨7, .guard⟩ (by simp) rfl (fun v _ => v = .bool false) rfl
    refine ⟨?_⟩
    simp only [putAll, Act.put, List.nil_append, List.cons_append, List.setIfInBounds_toArray, List.set_cons_zero, List.set_cons_succ, e7]
    go_wp2
    exact stepPost_mk (Gr.refl _) rfl rfl
  dsimp only [List.nil_append, List.cons_append]
  refine freeOK_step (fun v _ => v = .bool true) (stable_eq _) rfl ?_ ?_
  · intro σ W hG hd
    have e8 : σ 8 = .int .i64 0 := hd ⟨8, .data⟩ (by simp) rfl (fun v _ => v = .int .i64 0) rfl
    have e7 : σ 7 = .bool false := hd ⟨7, .guard⟩ (by simp) rfl (fun v _ => v = .bool false) rfl
    refine ⟨?_⟩
    simp only [putAll, Act.put, List.nil_append, List.cons_append, List.setIfInBounds_toArray, List.set_cons_zero, List.set_cons_succ, e8, e7]
    go_wp2
    exact stepPost_mk (Gr.refl _) rfl rfl
  dsimp only [List.nil_append, List.cons_append]
  refine freeOK_step (fun v _ => v = .bool true) (stable_eq _) rfl ?_ ?_
  · intro σ W hG hd
    have e9 : σ 9 = .bool true := hd ⟨9, .data⟩ (by simp) rfl (fun v _ => v = .bool true) rfl
    have e7 : σ 7 = .bool false := hd ⟨7, .guard⟩ (by simp) rfl (fun v _ => v = .bool false) rfl
    refine ⟨?_⟩
    simp only [putAll, Act.put, List.nil_append, List.cons_append, List.setIfInBounds_toArray, List.set_cons_zero, List.set_cons_succ, e9, e7]
    go_wp2
    exact stepPost_mk (Gr.refl _) rfl rfl
  dsimp only [List.nil_append, List.cons_append]
  refine freeOK_step (fun v _ => v = .agg #[.int .i64 xkind, .int .i64 xfrm, .int .i64 xto, .int .i64 xline, .int .i64 xserial, .int .i64 xturn, .int .i64 xvalue, .bool xalone]) (stable_eq _) rfl ?_ ?_
  · intro σ W hG hd
    have e10 : σ 10 = .bool true := hd ⟨10, .guard⟩ (by simp) rfl (fun v _ => v = .bool true) rfl
    have qx0 := gcell hG (a := ⟨w5.heap.size, 0, none⟩) (v := .int .i64 xkind) (by go_cell)
    have qx1 := gcell hG (a := ⟨w5.heap.size, 1, none⟩) (v := .int .i64 xfrm) (by go_cell)
    have qx2 := gcell hG (a := ⟨w5.heap.size, 2, none⟩) (v := .int .i64 xto) (by go_cell)
    have qx3 := gcell hG (a := ⟨w5.heap.size, 3, none⟩) (v := .int .i64 xline) (by go_cell)
    have qx4 := gcell hG (a := ⟨w5.heap.size, 4, none⟩) (v := .int .i64 xserial) (by go_cell)
    have qx5 := gcell hG (a := ⟨w5.heap.size, 5, none⟩) (v := .int .i64 xturn) (by go_cell)
    have qx6 := gcell hG (a := ⟨w5.heap.size, 6, none⟩) (v := .int .i64 xvalue) (by go_cell)
    have qx7 := gcell hG (a := ⟨w5.heap.size, 7, none⟩) (v := .bool xalone) (by go_cell)
    refine ⟨?_⟩
    simp only [putAll, Act.put, List.nil_append, List.cons_append, List.setIfInBounds_toArray, List.set_cons_zero, List.set_cons_succ, e10]
    go_wp2
    exact stepPost_mk (Gr.refl _) rfl rfl
  dsimp only [List.nil_append, List.cons_append]
  refine freeOK_step (fun v w => ∃ g, v = .slice (some ⟨g, 0, none⟩) 12 12 ∧ BRow w g 0 xs) (fun _ _ _ hG ⟨g, h1, h2⟩ => ⟨g, h1, h2.below hG⟩) rfl ?_ ?_
  · intro σ W hG hd
    have e11 : σ 11 = .agg #[.int .i64 xkind, .int .i64 xfrm, .int .i64 xto, .int .i64 xline, .int .i64 xserial, .int .i64 xturn, .int .i64 xvalue, .bool xalone] := hd ⟨11, .data⟩ (by simp) rfl (fun v _ => v = .agg #[.int .i64 xkind, .int .i64 xfrm, .int .i64 xto, .int .i64 xline, .int .i64 xserial, .int .i64 xturn, .int .i64 xvalue, .bool xalone]) rfl
    have e10 : σ 10 = .bool true := hd ⟨10, .guard⟩ (by simp) rfl (fun v _ => v = .bool true) rfl
    refine ⟨?_⟩
    simp only [putAll, Act.put, List.nil_append, List.cons_append, List.setIfInBounds_toArray, List.set_cons_zero, List.set_cons_succ, e11, e10]
    go_wp2_with (go_at_call 14; refine (kX _).mono ?_; rintro e w3 ⟨g3, rfl, hY3, hb3⟩)
    exact stepPost_mk hb3 rfl ⟨g3, rfl, hY3⟩
  dsimp only [List.nil_append, List.cons_append]
  refine freeOK_step (fun v _ => v = .string (strOf xs)) (stable_eq _) rfl ?_ ?_
  · intro σ W hG hd
    have h12 : ∃ g, σ 12 = .slice (some ⟨g, 0, none⟩) 12 12 ∧ BRow W g 0 xs := hd ⟨12, .data⟩ (by simp) rfl (fun v w => ∃ g, v = .slice (some ⟨g, 0, none⟩) 12 12 ∧ BRow w g 0 xs) rfl
    obtain ⟨g12, e12, hY12⟩ := h12
    have e10 : σ 10 = .bool true := hd ⟨10, .guard⟩ (by simp) rfl (fun v _ => v = .bool true) rfl
    have hcv := conv_row W g12 xs nX hY12
    refine ⟨?_⟩
    simp only [putAll, Act.put, List.nil_append, List.cons_append, List.setIfInBounds_toArray, List.set_cons_zero, List.set_cons_succ, e12, e10]
    go_wp2
    exact stepPost_mk (Gr.refl _) rfl rfl
  dsimp only [List.nil_append, List.cons_append]
  refine freeOK_step (fun v _ => v = .slice a 12 cap) (stable_eq _) rfl ?_ ?_
  · intro σ W hG hd
    have e10 : σ 10 = .bool true := hd ⟨10, .guard⟩ (by simp) rfl (fun v _ => v = .bool true) rfl
    refine ⟨?_⟩
    simp only [putAll, Act.put, List.nil_append, List.cons_append, List.setIfInBounds_toArray, List.set_cons_zero, List.set_cons_succ, e10]
    go_wp2
    exact stepPost_mk (Gr.refl _) rfl rfl
  dsimp only [List.nil_append, List.cons_append]
  refine freeOK_step (fun v _ => v = .string (strOf xs)) (stable_eq _) rfl ?_ ?_
  · intro σ W hG hd
    have e14 : σ 14 = .slice a 12 cap := hd ⟨14, .data⟩ (by simp) rfl (fun v _ => v = .slice a 12 cap) rfl
    have e10 : σ 10 = .bool true := hd ⟨10, .guard⟩ (by simp) rfl (fun v _ => v = .bool true) rfl
    have hcv := conv_sl W a cap xs (hSN.below hG)
    rw [nX] at hcv
    refine ⟨?_⟩
    simp only [putAll, Act.put, List.nil_append, List.cons_append, List.setIfInBounds_toArray, List.set_cons_zero, List.set_cons_succ, e14, e10]
    go_wp2
    exact stepPost_mk (Gr.refl _) rfl rfl
  dsimp only [List.nil_append, List.cons_append]
  refine freeOK_step (fun v _ => v = .bool true) (stable_eq _) rfl ?_ ?_
  · intro σ W hG hd
    have e13 : σ 13 = .string (strOf xs) := hd ⟨13, .data⟩ (by simp) rfl (fun v _ => v = .string (strOf xs)) rfl
    have e15 : σ 15 = .string (strOf xs) := hd ⟨15, .data⟩ (by simp) rfl (fun v _ => v = .string (strOf xs)) rfl
    have e10 : σ 10 = .bool true := hd ⟨10, .guard⟩ (by simp) rfl (fun v _ => v = .bool true) rfl
    refine ⟨?_⟩
    simp only [putAll, Act.put, List.nil_append, List.cons_append, List.setIfInBounds_toArray, List.set_cons_zero, List.set_cons_succ, e13, e15, e10]
    go_wp2
    exact stepPost_mk (Gr.refl _) rfl rfl
  dsimp only [List.nil_append, List.cons_append]
  refine freeOK_step (fun v _ => v = .bool true) (stable_eq _) rfl ?_ ?_
  · intro σ W hG hd
    have e10 : σ 10 = .bool true := hd ⟨10, .data⟩ (by simp) rfl (fun v _ => v = .bool true) rfl
    have e16 : σ 16 = .bool true := hd ⟨16, .data⟩ (by simp) rfl (fun v _ => v = .bool true) rfl
    have e7 : σ 7 = .bool false := hd ⟨7, .guard⟩ (by simp) rfl (fun v _ => v = .bool false) rfl
    refine ⟨?_⟩
    simp only [putAll, Act.put, List.nil_append, List.cons_append, List.setIfInBounds_toArray, List.set_cons_zero, List.set_cons_succ, e10, e16, e7]
    go_wp2
    exact stepPost_mk (Gr.refl _) rfl rfl
  dsimp only [List.nil_append, List.cons_append]
  refine freeOK_step (fun v _ => v = .bool true) (stable_eq _) rfl ?_ ?_
  · intro σ W hG hd
    have e7 : σ 7 = .bool false := hd ⟨7, .data⟩ (by simp) rfl (fun v _ => v = .bool false) rfl
    have e17 : σ 17 = .bool true := hd ⟨17, .data⟩ (by simp) rfl (fun v _ => v = .bool true) rfl
    refine ⟨?_⟩
    simp only [putAll, Act.put, List.nil_append, List.cons_append, List.setIfInBounds_toArray, List.set_cons_zero, List.set_cons_succ, e7, e17]
    go_wp2
    exact stepPost_mk (Gr.refl _) rfl rfl
  dsimp only [List.nil_append, List.cons_append]
  refine freeOK_done fun σ W hG hR => ?_
  have e0 : σ 0 = .int .i64 0 := hR 0 (fun v _ => v = .int .i64 0) rfl
  have e1 : σ 1 = .bool false := hR 1 (fun v _ => v = .bool false) rfl
  have e2 : σ 2 = .bool false := hR 2 (fun v _ => v = .bool false) rfl
  have e3 : σ 3 = undef := hR 3 (fun v _ => v = undef) rfl
  have e4 : σ 4 = undef := hR 4 (fun v _ => v = undef) rfl
  have e5 : σ 5 = undef := hR 5 (fun v _ => v = undef) rfl
  have e6 : σ 6 = .bool false := hR 6 (fun v _ => v = .bool false) rfl
  have e7 : σ 7 = .bool false := hR 7 (fun v _ => v = .bool false) rfl
  have e8 : σ 8 = .int .i64 0 := hR 8 (fun v _ => v = .int .i64 0) rfl
  have e9 : σ 9 = .bool true := hR 9 (fun v _ => v = .bool true) rfl
  have e10 : σ 10 = .bool true := hR 10 (fun v _ => v = .bool true) rfl
  have e11 : σ 11 = .agg #[.int .i64 xkind, .int .i64 xfrm, .int .i64 xto, .int .i64 xline, .int .i64 xserial, .int .i64 xturn, .int .i64 xvalue, .bool xalone] := hR 11 (fun v _ => v = .agg #[.int .i64 xkind, .int .i64 xfrm, .int .i64 xto, .int .i64 xline, .int .i64 xserial, .int .i64 xturn, .int .i64 xvalue, .bool xalone]) rfl
  have h12 : ∃ g, σ 12 = .slice (some ⟨g, 0, none⟩) 12 12 ∧ BRow W g 0 xs := hR 12 (fun v w => ∃ g, v = .slice (some ⟨g, 0, none⟩) 12 12 ∧ BRow w g 0 xs) rfl
  obtain ⟨g12, e12, hT12⟩ := h12
  have e13 : σ 13 = .string (strOf xs) := hR 13 (fun v _ => v = .string (strOf xs)) rfl
  have e14 : σ 14 = .slice a 12 cap := hR 14 (fun v _ => v = .slice a 12 cap) rfl
  have e15 : σ 15 = .string (strOf xs) := hR 15 (fun v _ => v = .string (strOf xs)) rfl
  have e16 : σ 16 = .bool true := hR 16 (fun v _ => v = .bool true) rfl
  have e17 : σ 17 = .bool true := hR 17 (fun v _ => v = .bool true) rfl
  have e18 : σ 18 = .bool true := hR 18 (fun v _ => v = .bool true) rfl
  refine ⟨?_⟩
  simp only [putAll, Act.put, List.nil_append, List.cons_append, List.setIfInBounds_toArray, List.set_cons_zero, List.set_cons_succ, e0, e1, e2, e3, e4, e5, e6, e7, e8, e9, e10, e11, e12, e13, e14, e15, e16, e17, e18]
  clear hR e0 e1 e2 e3 e4 e5 e6 e7 e8 e9 e10 e11 e12 e13 e14 e15 e16 e17 e18
  go_wp2
  refine NP.normal ?_
  go_wp2
  go_ret
  exact ⟨rfl, below_on (Below.drew ((below_on (below_b2 hb1 hb2) (below_b2 hb1 hb2).size hb5).alloc (below_on (below_b2 hb1 hb2) (below_b2 hb1 hb2).size hb5).size _)) (Below.drew ((below_on (below_b2 hb1 hb2) (below_b2 hb1 hb2).size hb5).alloc (below_on (below_b2 hb1 hb2) (below_b2 hb1 hb2).size hb5).size _)).size hG⟩
end Go.Proofs.Ytmjhmbalkgpcjaa
