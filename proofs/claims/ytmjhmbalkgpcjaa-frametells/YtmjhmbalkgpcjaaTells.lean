/- shlaw1.FrameTells answers true, for every input. -/
import Derived.Test.YtmjhmbalkgpcjaaRefAll
namespace Go.Proofs.Ytmjhmbalkgpcjaa
open Go.RowKit
set_option linter.unusedVariables false
set_option linter.unusedSimpArgs false

theorem lt_alloc {w w' : World} {o : Obj} (hb : Below (w.alloc o).heap.size (w.alloc o) w') : w.heap.size < w'.heap.size := by
  have := hb.size; simp at this; omega

set_option maxRecDepth 100000 in
set_option maxHeartbeats 8000000 in
theorem tells_bad (c : Cfg) (m : Msg) (a : Option Addr) (cap : Nat) (xs : List Nat) (bit : Int) (w : World) (hl : xs.length ≤ 140737488351232) (hb1 : -9223372036854775808 ≤ bit) (hb2 : bit ≤ 9223372036854775807)
    (hcap : xs.length ≤ cap) (hcm : cap ≤ maxLen) (hS : BSl w a xs) (h4 : wrongF ⟨4, 4⟩ m ≠ 0) :
    Calls Try.prog 3 #[c.val, m.val, .slice a xs.length cap, .int .i64 bit] w fun e w' => e = .returned (.bool true) ∧ Below w.heap.size w w' := by
  have kW := fun w => wrong_any c m w
  have kRW := fun w => rwrong_any c m w
  obtain ⟨g, eg⟩ : ∃ g, g = wrongF c m := ⟨_, rfl⟩
  rw [← eg] at kW kRW
  have hlm : xs.length ≤ maxLen := by unfold maxLen; omega
  have kSu := fun w (h : BSl w a xs) => sum_sl a cap xs w hlm h
  have kRS := fun w (h : BSl w a xs) => rsum_sl a cap xs w hlm h
  obtain ⟨s, es⟩ : ∃ s, s = csum 65535 xs := ⟨_, rfl⟩
  rw [← es] at kSu kRS
  have kT := fun w (h : BSl w a xs) => turn_sl a cap xs bit w hl hb2 h
  have kRT := fun w (h : BSl w a xs) => turned_sl a cap xs bit w hl hb1 hb2 h
  obtain ⟨T, eT⟩ : ∃ T, T = turnF xs bit := ⟨_, rfl⟩
  have nT : T.length = xs.length := by rw [eT]; exact turnF_length xs bit
  rw [← eT] at kT kRT
  have kP := fun w (h : BSl w a xs) => parse_sl c a cap xs w hcap hcm h
  have kRP := fun w (h : BSl w a xs) => rparse_sl c a cap xs w hcap hcm h
  obtain ⟨x, ex⟩ : ∃ x, x = (parseF c xs).1 := ⟨_, rfl⟩
  obtain ⟨E, eE⟩ : ∃ E, E = (parseF c xs).2 := ⟨_, rfl⟩
  rw [← ex, ← eE] at kP kRP
  have k4 := fun w => rwrong_any ⟨4, 4⟩ m w
  obtain ⟨G, eG⟩ : ∃ G, G = wrongF ⟨4, 4⟩ m := ⟨_, rfl⟩
  rw [← eG] at k4 h4
  have hG1 : (G != 0) = true := by simpa using h4
  clear eG
  clear h4 eg es eT ex eE hlm
  obtain ⟨cores, lines⟩ := c
  obtain ⟨kind, frm, to, line, serial, turn, value, alone⟩ := m
  obtain ⟨xkind, xfrm, xto, xline, xserial, xturn, xvalue, xalone⟩ := x
  unfold Cfg.val Msg.val at *
  have HN : Hid _ := nT
  clear nT
  have hS2 : BSl ((w.alloc (.cells #[.int .i64 cores, .int .i64 lines] 23)).alloc (.cells #[.int .i64 kind, .int .i64 frm, .int .i64 to, .int .i64 line, .int .i64 serial, .int .i64 turn, .int .i64 value, .bool alone] 25)).drew a xs := hS.below (Below.drew (below2 _ _ _))
  go_enter Try.func3, Try.ntmps3
  go_wp2
  refine wp_region_free 24 [] (by kernel_rfl) (by kernel_rfl) (by kernel_rfl) ?_
  dsimp only [List.take, List.drop]
  refine freeOK_step (fun v _ => v = .agg #[.int .i64 cores, .int .i64 lines]) (stable_eq _) rfl ?_ ?_
  · intro σ W hG hd
    have qc0 := gcell hG (a := ⟨w.heap.size, 0, none⟩) (v := .int .i64 cores) (by go_cell)
    have qc1 := gcell hG (a := ⟨w.heap.size, 1, none⟩) (v := .int .i64 lines) (by go_cell)
    refine ⟨?_⟩
    dsimp only [putAll]
    go_wp2
    exact stepPost_mk (Gr.refl _) rfl rfl
  dsimp only [List.nil_append, List.cons_append]
  refine freeOK_step (fun v _ => v = .agg #[.int .i64 kind, .int .i64 frm, .int .i64 to, .int .i64 line, .int .i64 serial, .int .i64 turn, .int .i64 value, .bool alone]) (stable_eq _) rfl ?_ ?_
  · intro σ W hG hd
    have qm0 := gcell hG (a := ⟨w.heap.size + 1, 0, none⟩) (v := .int .i64 kind) (by go_cell)
    have qm1 := gcell hG (a := ⟨w.heap.size + 1, 1, none⟩) (v := .int .i64 frm) (by go_cell)
    have qm2 := gcell hG (a := ⟨w.heap.size + 1, 2, none⟩) (v := .int .i64 to) (by go_cell)
    have qm3 := gcell hG (a := ⟨w.heap.size + 1, 3, none⟩) (v := .int .i64 line) (by go_cell)
    have qm4 := gcell hG (a := ⟨w.heap.size + 1, 4, none⟩) (v := .int .i64 serial) (by go_cell)
    have qm5 := gcell hG (a := ⟨w.heap.size + 1, 5, none⟩) (v := .int .i64 turn) (by go_cell)
    have qm6 := gcell hG (a := ⟨w.heap.size + 1, 6, none⟩) (v := .int .i64 value) (by go_cell)
    have qm7 := gcell hG (a := ⟨w.heap.size + 1, 7, none⟩) (v := .bool alone) (by go_cell)
    refine ⟨?_⟩
    simp only [putAll, Act.put, List.nil_append, List.cons_append, List.setIfInBounds_toArray, List.set_cons_zero, List.set_cons_succ]
    go_wp2
    exact stepPost_mk (Gr.refl _) rfl rfl
  dsimp only [List.nil_append, List.cons_append]
  refine freeOK_step (fun v _ => v = .int .i64 g) (stable_eq _) rfl ?_ ?_
  · intro σ W hG hd
    have e0 : σ 0 = .agg #[.int .i64 cores, .int .i64 lines] := hd ⟨0, .data⟩ (by simp) rfl (fun v _ => v = .agg #[.int .i64 cores, .int .i64 lines]) rfl
    have e1 : σ 1 = .agg #[.int .i64 kind, .int .i64 frm, .int .i64 to, .int .i64 line, .int .i64 serial, .int .i64 turn, .int .i64 value, .bool alone] := hd ⟨1, .data⟩ (by simp) rfl (fun v _ => v = .agg #[.int .i64 kind, .int .i64 frm, .int .i64 to, .int .i64 line, .int .i64 serial, .int .i64 turn, .int .i64 value, .bool alone]) rfl
    refine ⟨?_⟩
    simp only [putAll, Act.put, List.nil_append, List.cons_append, List.setIfInBounds_toArray, List.set_cons_zero, List.set_cons_succ, e0, e1]
    go_wp2_with (go_at_call 6; refine (kW _).mono ?_; rintro e w3 ⟨rfl, hb3⟩)
    exact stepPost_mk hb3 rfl rfl
  dsimp only [List.nil_append, List.cons_append]
  refine freeOK_step (fun v _ => v = .agg #[.int .i64 cores, .int .i64 lines]) (stable_eq _) rfl ?_ ?_
  · intro σ W hG hd
    have qc0 := gcell hG (a := ⟨w.heap.size, 0, none⟩) (v := .int .i64 cores) (by go_cell)
    have qc1 := gcell hG (a := ⟨w.heap.size, 1, none⟩) (v := .int .i64 lines) (by go_cell)
    refine ⟨?_⟩
    simp only [putAll, Act.put, List.nil_append, List.cons_append, List.setIfInBounds_toArray, List.set_cons_zero, List.set_cons_succ]
    go_wp2
    exact stepPost_mk (Gr.refl _) rfl rfl
  dsimp only [List.nil_append, List.cons_append]
  refine freeOK_step (fun v _ => v = .agg #[.int .i64 kind, .int .i64 frm, .int .i64 to, .int .i64 line, .int .i64 serial, .int .i64 turn, .int .i64 value, .bool alone]) (stable_eq _) rfl ?_ ?_
  · intro σ W hG hd
    have qm0 := gcell hG (a := ⟨w.heap.size + 1, 0, none⟩) (v := .int .i64 kind) (by go_cell)
    have qm1 := gcell hG (a := ⟨w.heap.size + 1, 1, none⟩) (v := .int .i64 frm) (by go_cell)
    have qm2 := gcell hG (a := ⟨w.heap.size + 1, 2, none⟩) (v := .int .i64 to) (by go_cell)
    have qm3 := gcell hG (a := ⟨w.heap.size + 1, 3, none⟩) (v := .int .i64 line) (by go_cell)
    have qm4 := gcell hG (a := ⟨w.heap.size + 1, 4, none⟩) (v := .int .i64 serial) (by go_cell)
    have qm5 := gcell hG (a := ⟨w.heap.size + 1, 5, none⟩) (v := .int .i64 turn) (by go_cell)
    have qm6 := gcell hG (a := ⟨w.heap.size + 1, 6, none⟩) (v := .int .i64 value) (by go_cell)
    have qm7 := gcell hG (a := ⟨w.heap.size + 1, 7, none⟩) (v := .bool alone) (by go_cell)
    refine ⟨?_⟩
    simp only [putAll, Act.put, List.nil_append, List.cons_append, List.setIfInBounds_toArray, List.set_cons_zero, List.set_cons_succ]
    go_wp2
    exact stepPost_mk (Gr.refl _) rfl rfl
  dsimp only [List.nil_append, List.cons_append]
  refine freeOK_step (fun v _ => v = .int .i64 g) (stable_eq _) rfl ?_ ?_
  · intro σ W hG hd
    have e3 : σ 3 = .agg #[.int .i64 cores, .int .i64 lines] := hd ⟨3, .data⟩ (by simp) rfl (fun v _ => v = .agg #[.int .i64 cores, .int .i64 lines]) rfl
    have e4 : σ 4 = .agg #[.int .i64 kind, .int .i64 frm, .int .i64 to, .int .i64 line, .int .i64 serial, .int .i64 turn, .int .i64 value, .bool alone] := hd ⟨4, .data⟩ (by simp) rfl (fun v _ => v = .agg #[.int .i64 kind, .int .i64 frm, .int .i64 to, .int .i64 line, .int .i64 serial, .int .i64 turn, .int .i64 value, .bool alone]) rfl
    refine ⟨?_⟩
    simp only [putAll, Act.put, List.nil_append, List.cons_append, List.setIfInBounds_toArray, List.set_cons_zero, List.set_cons_succ, e3, e4]
    go_wp2_with (go_at_call 7; refine (kRW _).mono ?_; rintro e w3 ⟨rfl, hb3⟩)
    exact stepPost_mk hb3 rfl rfl
  dsimp only [List.nil_append, List.cons_append]
  refine freeOK_step (fun v _ => v = .bool false) (stable_eq _) rfl ?_ ?_
  · intro σ W hG hd
    have e2 : σ 2 = .int .i64 g := hd ⟨2, .data⟩ (by simp) rfl (fun v _ => v = .int .i64 g) rfl
    have e5 : σ 5 = .int .i64 g := hd ⟨5, .data⟩ (by simp) rfl (fun v _ => v = .int .i64 g) rfl
    refine ⟨?_⟩
    simp only [putAll, Act.put, List.nil_append, List.cons_append, List.setIfInBounds_toArray, List.set_cons_zero, List.set_cons_succ, e2, e5]
    go_wp2
    exact stepPost_mk (Gr.refl _) rfl rfl
  dsimp only [List.nil_append, List.cons_append]
  refine freeOK_step (fun v _ => v = .bool false) (stable_eq _) rfl ?_ ?_
  · intro σ W hG hd
    have e6 : σ 6 = .bool false := hd ⟨6, .data⟩ (by simp) rfl (fun v _ => v = .bool false) rfl
    refine ⟨?_⟩
    simp only [putAll, Act.put, List.nil_append, List.cons_append, List.setIfInBounds_toArray, List.set_cons_zero, List.set_cons_succ, e6]
    go_wp2
    exact stepPost_mk (Gr.refl _) rfl rfl
  dsimp only [List.nil_append, List.cons_append]
  refine freeOK_step (fun v _ => v = .slice a xs.length cap) (stable_eq _) rfl ?_ ?_
  · intro σ W hG hd
    have e7 : σ 7 = .bool false := hd ⟨7, .guard⟩ (by simp) rfl (fun v _ => v = .bool false) rfl
    refine ⟨?_⟩
    simp only [putAll, Act.put, List.nil_append, List.cons_append, List.setIfInBounds_toArray, List.set_cons_zero, List.set_cons_succ, e7]
    go_wp2
    exact stepPost_mk (Gr.refl _) rfl rfl
  dsimp only [List.nil_append, List.cons_append]
  refine freeOK_step (fun v _ => v = .int .i64 s) (stable_eq _) rfl ?_ ?_
  · intro σ W hG hd
    have e8 : σ 8 = .slice a xs.length cap := hd ⟨8, .data⟩ (by simp) rfl (fun v _ => v = .slice a xs.length cap) rfl
    have e7 : σ 7 = .bool false := hd ⟨7, .guard⟩ (by simp) rfl (fun v _ => v = .bool false) rfl
    have hSW : BSl W a xs := hS2.below hG
    refine ⟨?_⟩
    simp only [putAll, Act.put, List.nil_append, List.cons_append, List.setIfInBounds_toArray, List.set_cons_zero, List.set_cons_succ, e8, e7]
    go_wp2_with (go_at_call 8; refine (kSu _ hSW).mono ?_; rintro e w3 ⟨rfl, rfl⟩)
    exact stepPost_mk (Gr.refl _) rfl rfl
  dsimp only [List.nil_append, List.cons_append]
  refine freeOK_step (fun v _ => v = .slice a xs.length cap) (stable_eq _) rfl ?_ ?_
  · intro σ W hG hd
    have e7 : σ 7 = .bool false := hd ⟨7, .guard⟩ (by simp) rfl (fun v _ => v = .bool false) rfl
    refine ⟨?_⟩
    simp only [putAll, Act.put, List.nil_append, List.cons_append, List.setIfInBounds_toArray, List.set_cons_zero, List.set_cons_succ, e7]
    go_wp2
    exact stepPost_mk (Gr.refl _) rfl rfl
  dsimp only [List.nil_append, List.cons_append]
  refine freeOK_step (fun v _ => v = .int .i64 s) (stable_eq _) rfl ?_ ?_
  · intro σ W hG hd
    have e10 : σ 10 = .slice a xs.length cap := hd ⟨10, .data⟩ (by simp) rfl (fun v _ => v = .slice a xs.length cap) rfl
    have e7 : σ 7 = .bool false := hd ⟨7, .guard⟩ (by simp) rfl (fun v _ => v = .bool false) rfl
    have hSW : BSl W a xs := hS2.below hG
    refine ⟨?_⟩
    simp only [putAll, Act.put, List.nil_append, List.cons_append, List.setIfInBounds_toArray, List.set_cons_zero, List.set_cons_succ, e10, e7]
    go_wp2_with (go_at_call 9; refine (kRS _ hSW).mono ?_; rintro e w3 ⟨rfl, rfl⟩)
    exact stepPost_mk (Gr.refl _) rfl rfl
  dsimp only [List.nil_append, List.cons_append]
  refine freeOK_step (fun v _ => v = .bool false) (stable_eq _) rfl ?_ ?_
  · intro σ W hG hd
    have e9 : σ 9 = .int .i64 s := hd ⟨9, .data⟩ (by simp) rfl (fun v _ => v = .int .i64 s) rfl
    have e11 : σ 11 = .int .i64 s := hd ⟨11, .data⟩ (by simp) rfl (fun v _ => v = .int .i64 s) rfl
    have e7 : σ 7 = .bool false := hd ⟨7, .guard⟩ (by simp) rfl (fun v _ => v = .bool false) rfl
    refine ⟨?_⟩
    simp only [putAll, Act.put, List.nil_append, List.cons_append, List.setIfInBounds_toArray, List.set_cons_zero, List.set_cons_succ, e9, e11, e7]
    go_wp2
    exact stepPost_mk (Gr.refl _) rfl rfl
  dsimp only [List.nil_append, List.cons_append]
  refine freeOK_step (fun v _ => v = .bool false) (stable_eq _) rfl ?_ ?_
  · intro σ W hG hd
    have e7 : σ 7 = .bool false := hd ⟨7, .data⟩ (by simp) rfl (fun v _ => v = .bool false) rfl
    have e12 : σ 12 = .bool false := hd ⟨12, .data⟩ (by simp) rfl (fun v _ => v = .bool false) rfl
    refine ⟨?_⟩
    simp only [putAll, Act.put, List.nil_append, List.cons_append, List.setIfInBounds_toArray, List.set_cons_zero, List.set_cons_succ, e7, e12]
    go_wp2
    exact stepPost_mk (Gr.refl _) rfl rfl
  dsimp only [List.nil_append, List.cons_append]
  refine freeOK_step (fun v _ => v = .bool false) (stable_eq _) rfl ?_ ?_
  · intro σ W hG hd
    have e13 : σ 13 = .bool false := hd ⟨13, .data⟩ (by simp) rfl (fun v _ => v = .bool false) rfl
    refine ⟨?_⟩
    simp only [putAll, Act.put, List.nil_append, List.cons_append, List.setIfInBounds_toArray, List.set_cons_zero, List.set_cons_succ, e13]
    go_wp2
    exact stepPost_mk (Gr.refl _) rfl rfl
  dsimp only [List.nil_append, List.cons_append]
  refine freeOK_step (fun v _ => v = .slice a xs.length cap) (stable_eq _) rfl ?_ ?_
  · intro σ W hG hd
    have e14 : σ 14 = .bool false := hd ⟨14, .guard⟩ (by simp) rfl (fun v _ => v = .bool false) rfl
    refine ⟨?_⟩
    simp only [putAll, Act.put, List.nil_append, List.cons_append, List.setIfInBounds_toArray, List.set_cons_zero, List.set_cons_succ, e14]
    go_wp2
    exact stepPost_mk (Gr.refl _) rfl rfl
  dsimp only [List.nil_append, List.cons_append]
  refine freeOK_step (fun v _ => v = .int .i64 bit) (stable_eq _) rfl ?_ ?_
  · intro σ W hG hd
    have e14 : σ 14 = .bool false := hd ⟨14, .guard⟩ (by simp) rfl (fun v _ => v = .bool false) rfl
    refine ⟨?_⟩
    simp only [putAll, Act.put, List.nil_append, List.cons_append, List.setIfInBounds_toArray, List.set_cons_zero, List.set_cons_succ, e14]
    go_wp2
    exact stepPost_mk (Gr.refl _) rfl rfl
  dsimp only [List.nil_append, List.cons_append]
  refine freeOK_step (fun v w => ∃ a' cap', v = .slice a' xs.length cap' ∧ BSl w a' T) (fun _ _ _ hG ⟨a', cap', h1, h2⟩ => ⟨a', cap', h1, h2.below hG⟩) rfl ?_ ?_
  · intro σ W hG hd
    have e15 : σ 15 = .slice a xs.length cap := hd ⟨15, .data⟩ (by simp) rfl (fun v _ => v = .slice a xs.length cap) rfl
    have e16 : σ 16 = .int .i64 bit := hd ⟨16, .data⟩ (by simp) rfl (fun v _ => v = .int .i64 bit) rfl
    have e14 : σ 14 = .bool false := hd ⟨14, .guard⟩ (by simp) rfl (fun v _ => v = .bool false) rfl
    have hSW : BSl W a xs := hS2.below hG
    refine ⟨?_⟩
    simp only [putAll, Act.put, List.nil_append, List.cons_append, List.setIfInBounds_toArray, List.set_cons_zero, List.set_cons_succ, e15, e16, e14]
    go_wp2_with (go_at_call 10; refine (kT _ hSW).mono ?_; rintro e w3 ⟨a3, cap3, rfl, hY3, hb3⟩)
    exact stepPost_mk hb3 rfl ⟨a3, cap3, rfl, hY3⟩
  dsimp only [List.nil_append, List.cons_append]
  refine freeOK_step (fun v _ => v = .string (strOf T)) (stable_eq _) rfl ?_ ?_
  · intro σ W hG hd
    have h17 : ∃ a' cap', σ 17 = .slice a' xs.length cap' ∧ BSl W a' T := hd ⟨17, .data⟩ (by simp) rfl (fun v w => ∃ a' cap', v = .slice a' xs.length cap' ∧ BSl w a' T) rfl
    obtain ⟨a17, cap17, e17, hY17⟩ := h17
    have e14 : σ 14 = .bool false := hd ⟨14, .guard⟩ (by simp) rfl (fun v _ => v = .bool false) rfl
    have hcv := conv_sl W a17 cap17 T hY17
    rw [HN.out] at hcv
    refine ⟨?_⟩
    simp only [putAll, Act.put, List.nil_append, List.cons_append, List.setIfInBounds_toArray, List.set_cons_zero, List.set_cons_succ, e17, e14]
    go_wp2
    exact stepPost_mk (Gr.refl _) rfl rfl
  dsimp only [List.nil_append, List.cons_append]
  refine freeOK_step (fun v _ => v = .slice a xs.length cap) (stable_eq _) rfl ?_ ?_
  · intro σ W hG hd
    have e14 : σ 14 = .bool false := hd ⟨14, .guard⟩ (by simp) rfl (fun v _ => v = .bool false) rfl
    refine ⟨?_⟩
    simp only [putAll, Act.put, List.nil_append, List.cons_append, List.setIfInBounds_toArray, List.set_cons_zero, List.set_cons_succ, e14]
    go_wp2
    exact stepPost_mk (Gr.refl _) rfl rfl
  dsimp only [List.nil_append, List.cons_append]
  refine freeOK_step (fun v _ => v = .int .i64 bit) (stable_eq _) rfl ?_ ?_
  · intro σ W hG hd
    have e14 : σ 14 = .bool false := hd ⟨14, .guard⟩ (by simp) rfl (fun v _ => v = .bool false) rfl
    refine ⟨?_⟩
    simp only [putAll, Act.put, List.nil_append, List.cons_append, List.setIfInBounds_toArray, List.set_cons_zero, List.set_cons_succ, e14]
    go_wp2
    exact stepPost_mk (Gr.refl _) rfl rfl
  dsimp only [List.nil_append, List.cons_append]
  refine freeOK_step (fun v w => ∃ a' cap', v = .slice a' xs.length cap' ∧ BSl w a' T) (fun _ _ _ hG ⟨a', cap', h1, h2⟩ => ⟨a', cap', h1, h2.below hG⟩) rfl ?_ ?_
  · intro σ W hG hd
    have e19 : σ 19 = .slice a xs.length cap := hd ⟨19, .data⟩ (by simp) rfl (fun v _ => v = .slice a xs.length cap) rfl
    have e20 : σ 20 = .int .i64 bit := hd ⟨20, .data⟩ (by simp) rfl (fun v _ => v = .int .i64 bit) rfl
    have e14 : σ 14 = .bool false := hd ⟨14, .guard⟩ (by simp) rfl (fun v _ => v = .bool false) rfl
    have hSW : BSl W a xs := hS2.below hG
    refine ⟨?_⟩
    simp only [putAll, Act.put, List.nil_append, List.cons_append, List.setIfInBounds_toArray, List.set_cons_zero, List.set_cons_succ, e19, e20, e14]
    go_wp2_with (go_at_call 11; refine (kRT _ hSW).mono ?_; rintro e w3 ⟨a3, cap3, rfl, hY3, hb3⟩)
    exact stepPost_mk hb3 rfl ⟨a3, cap3, rfl, hY3⟩
  dsimp only [List.nil_append, List.cons_append]
  refine freeOK_step (fun v _ => v = .string (strOf T)) (stable_eq _) rfl ?_ ?_
  · intro σ W hG hd
    have h21 : ∃ a' cap', σ 21 = .slice a' xs.length cap' ∧ BSl W a' T := hd ⟨21, .data⟩ (by simp) rfl (fun v w => ∃ a' cap', v = .slice a' xs.length cap' ∧ BSl w a' T) rfl
    obtain ⟨a21, cap21, e21, hY21⟩ := h21
    have e14 : σ 14 = .bool false := hd ⟨14, .guard⟩ (by simp) rfl (fun v _ => v = .bool false) rfl
    have hcv := conv_sl W a21 cap21 T hY21
    rw [HN.out] at hcv
    refine ⟨?_⟩
    simp only [putAll, Act.put, List.nil_append, List.cons_append, List.setIfInBounds_toArray, List.set_cons_zero, List.set_cons_succ, e21, e14]
    go_wp2
    exact stepPost_mk (Gr.refl _) rfl rfl
  dsimp only [List.nil_append, List.cons_append]
  refine freeOK_step (fun v _ => v = .bool false) (stable_eq _) rfl ?_ ?_
  · intro σ W hG hd
    have e18 : σ 18 = .string (strOf T) := hd ⟨18, .data⟩ (by simp) rfl (fun v _ => v = .string (strOf T)) rfl
    have e22 : σ 22 = .string (strOf T) := hd ⟨22, .data⟩ (by simp) rfl (fun v _ => v = .string (strOf T)) rfl
    have e14 : σ 14 = .bool false := hd ⟨14, .guard⟩ (by simp) rfl (fun v _ => v = .bool false) rfl
    refine ⟨?_⟩
    simp only [putAll, Act.put, List.nil_append, List.cons_append, List.setIfInBounds_toArray, List.set_cons_zero, List.set_cons_succ, e18, e22, e14]
    go_wp2
    exact stepPost_mk (Gr.refl _) rfl rfl
  dsimp only [List.nil_append, List.cons_append]
  refine freeOK_done fun σ W hG hR => ?_
  have e0 : σ 0 = .agg #[.int .i64 cores, .int .i64 lines] := hR 0 (fun v _ => v = .agg #[.int .i64 cores, .int .i64 lines]) rfl
  have e1 : σ 1 = .agg #[.int .i64 kind, .int .i64 frm, .int .i64 to, .int .i64 line, .int .i64 serial, .int .i64 turn, .int .i64 value, .bool alone] := hR 1 (fun v _ => v = .agg #[.int .i64 kind, .int .i64 frm, .int .i64 to, .int .i64 line, .int .i64 serial, .int .i64 turn, .int .i64 value, .bool alone]) rfl
  have e2 : σ 2 = .int .i64 g := hR 2 (fun v _ => v = .int .i64 g) rfl
  have e3 : σ 3 = .agg #[.int .i64 cores, .int .i64 lines] := hR 3 (fun v _ => v = .agg #[.int .i64 cores, .int .i64 lines]) rfl
  have e4 : σ 4 = .agg #[.int .i64 kind, .int .i64 frm, .int .i64 to, .int .i64 line, .int .i64 serial, .int .i64 turn, .int .i64 value, .bool alone] := hR 4 (fun v _ => v = .agg #[.int .i64 kind, .int .i64 frm, .int .i64 to, .int .i64 line, .int .i64 serial, .int .i64 turn, .int .i64 value, .bool alone]) rfl
  have e5 : σ 5 = .int .i64 g := hR 5 (fun v _ => v = .int .i64 g) rfl
  have e6 : σ 6 = .bool false := hR 6 (fun v _ => v = .bool false) rfl
  have e7 : σ 7 = .bool false := hR 7 (fun v _ => v = .bool false) rfl
  have e8 : σ 8 = .slice a xs.length cap := hR 8 (fun v _ => v = .slice a xs.length cap) rfl
  have e9 : σ 9 = .int .i64 s := hR 9 (fun v _ => v = .int .i64 s) rfl
  have e10 : σ 10 = .slice a xs.length cap := hR 10 (fun v _ => v = .slice a xs.length cap) rfl
  have e11 : σ 11 = .int .i64 s := hR 11 (fun v _ => v = .int .i64 s) rfl
  have e12 : σ 12 = .bool false := hR 12 (fun v _ => v = .bool false) rfl
  have e13 : σ 13 = .bool false := hR 13 (fun v _ => v = .bool false) rfl
  have e14 : σ 14 = .bool false := hR 14 (fun v _ => v = .bool false) rfl
  have e15 : σ 15 = .slice a xs.length cap := hR 15 (fun v _ => v = .slice a xs.length cap) rfl
  have e16 : σ 16 = .int .i64 bit := hR 16 (fun v _ => v = .int .i64 bit) rfl
  have h17 : ∃ a' cap', σ 17 = .slice a' xs.length cap' ∧ BSl W a' T := hR 17 (fun v w => ∃ a' cap', v = .slice a' xs.length cap' ∧ BSl w a' T) rfl
  obtain ⟨a17, cap17, e17, hT17⟩ := h17
  have e18 : σ 18 = .string (strOf T) := hR 18 (fun v _ => v = .string (strOf T)) rfl
  have e19 : σ 19 = .slice a xs.length cap := hR 19 (fun v _ => v = .slice a xs.length cap) rfl
  have e20 : σ 20 = .int .i64 bit := hR 20 (fun v _ => v = .int .i64 bit) rfl
  have h21 : ∃ a' cap', σ 21 = .slice a' xs.length cap' ∧ BSl W a' T := hR 21 (fun v w => ∃ a' cap', v = .slice a' xs.length cap' ∧ BSl w a' T) rfl
  obtain ⟨a21, cap21, e21, hT21⟩ := h21
  have e22 : σ 22 = .string (strOf T) := hR 22 (fun v _ => v = .string (strOf T)) rfl
  have e23 : σ 23 = .bool false := hR 23 (fun v _ => v = .bool false) rfl
  have qc0 := gcell hG (a := ⟨w.heap.size, 0, none⟩) (v := .int .i64 cores) (by go_cell)
  have qc1 := gcell hG (a := ⟨w.heap.size, 1, none⟩) (v := .int .i64 lines) (by go_cell)
  have qm0 := gcell hG (a := ⟨w.heap.size + 1, 0, none⟩) (v := .int .i64 kind) (by go_cell)
  have qm1 := gcell hG (a := ⟨w.heap.size + 1, 1, none⟩) (v := .int .i64 frm) (by go_cell)
  have qm2 := gcell hG (a := ⟨w.heap.size + 1, 2, none⟩) (v := .int .i64 to) (by go_cell)
  have qm3 := gcell hG (a := ⟨w.heap.size + 1, 3, none⟩) (v := .int .i64 line) (by go_cell)
  have qm4 := gcell hG (a := ⟨w.heap.size + 1, 4, none⟩) (v := .int .i64 serial) (by go_cell)
  have qm5 := gcell hG (a := ⟨w.heap.size + 1, 5, none⟩) (v := .int .i64 turn) (by go_cell)
  have qm6 := gcell hG (a := ⟨w.heap.size + 1, 6, none⟩) (v := .int .i64 value) (by go_cell)
  have qm7 := gcell hG (a := ⟨w.heap.size + 1, 7, none⟩) (v := .bool alone) (by go_cell)
  have sz1 : w.heap.size + 1 < W.heap.size := block_lt_of_cell qm0
  have sz0 : w.heap.size < W.heap.size := by omega
  clear hT17 hT21
  refine ⟨?_⟩
  simp only [putAll, Act.put, List.nil_append, List.cons_append, List.setIfInBounds_toArray, List.set_cons_zero, List.set_cons_succ, e0, e1, e2, e3, e4, e5, e6, e7, e8, e9, e10, e11, e12, e13, e14, e15, e16, e17, e18, e19, e20, e21, e22, e23]
  clear hR e0 e1 e2 e3 e4 e5 e6 e7 e8 e9 e10 e11 e12 e13 e14 e15 e16 e17 e18 e19 e20 e21 e22 e23
  have hBW : Below w.heap.size w W := below_on (Below.drew (below2 _ _ _)) (Below.drew (below2 _ _ _)).size hG
  have hSW := hS.below hBW
  clear hS2 kW kRW kSu kRS kT kRT
  go_wp2
  refine NP.normal ?_
  go_wp2_with (first | (go_at_call 12; refine (kP _ hSW).mono ?_; rintro e w5 ⟨rfl, hb5⟩; obtain ⟨hc5, hf5⟩ := bcell hb5; obtain ⟨z5, y5⟩ := size3' sz1 hb5; have hW5 := below_on hBW hBW.size hb5; have hW5' := hW5.alloc hW5.size (.cells #[.int .i64 xkind, .int .i64 xfrm, .int .i64 xto, .int .i64 xline, .int .i64 xserial, .int .i64 xturn, .int .i64 xvalue, .bool xalone] 25); have hS5 := hS.below hW5') | (go_at_call 13; refine (kRP _ hS5).mono ?_; rintro e w6 ⟨rfl, hb6⟩; obtain ⟨hc6, hf6⟩ := bcell hb6; obtain ⟨z6, y6⟩ := size4' z5 (by go_size) hb6; have zx : w5.heap.size < w6.heap.size := lt_alloc hb6; have hW6 := below_on hW5' hW5'.size hb6))
  refine wp_region_free 13 [] (by kernel_rfl) (by kernel_rfl) (by kernel_rfl) ?_
  dsimp only [List.take, List.drop]
  refine freeOK_step (fun v _ => v = .agg #[.int .i64 4, .int .i64 4]) (stable_eq _) rfl ?_ ?_
  · intro σ W hG hd
    refine ⟨?_⟩
    dsimp only [putAll]
    go_wp2
    exact stepPost_mk (Gr.refl _) rfl rfl
  dsimp only [List.nil_append, List.cons_append]
  refine freeOK_step (fun v _ => v = .agg #[.int .i64 kind, .int .i64 frm, .int .i64 to, .int .i64 line, .int .i64 serial, .int .i64 turn, .int .i64 value, .bool alone]) (stable_eq _) rfl ?_ ?_
  · intro σ W hG hd
    have qm0 := gcell hG (a := ⟨w.heap.size + 1, 0, none⟩) (v := .int .i64 kind) (by go_cell)
    have qm1 := gcell hG (a := ⟨w.heap.size + 1, 1, none⟩) (v := .int .i64 frm) (by go_cell)
    have qm2 := gcell hG (a := ⟨w.heap.size + 1, 2, none⟩) (v := .int .i64 to) (by go_cell)
    have qm3 := gcell hG (a := ⟨w.heap.size + 1, 3, none⟩) (v := .int .i64 line) (by go_cell)
    have qm4 := gcell hG (a := ⟨w.heap.size + 1, 4, none⟩) (v := .int .i64 serial) (by go_cell)
    have qm5 := gcell hG (a := ⟨w.heap.size + 1, 5, none⟩) (v := .int .i64 turn) (by go_cell)
    have qm6 := gcell hG (a := ⟨w.heap.size + 1, 6, none⟩) (v := .int .i64 value) (by go_cell)
    have qm7 := gcell hG (a := ⟨w.heap.size + 1, 7, none⟩) (v := .bool alone) (by go_cell)
    refine ⟨?_⟩
    simp only [putAll, Act.put, List.nil_append, List.cons_append, List.setIfInBounds_toArray, List.set_cons_zero, List.set_cons_succ]
    go_wp2
    exact stepPost_mk (Gr.refl _) rfl rfl
  dsimp only [List.nil_append, List.cons_append]
  refine freeOK_step (fun v _ => v = .int .i64 G) (stable_eq _) rfl ?_ ?_
  · intro σ W hG hd
    have e0 : σ 0 = .agg #[.int .i64 4, .int .i64 4] := hd ⟨0, .data⟩ (by simp) rfl (fun v _ => v = .agg #[.int .i64 4, .int .i64 4]) rfl
    have e1 : σ 1 = .agg #[.int .i64 kind, .int .i64 frm, .int .i64 to, .int .i64 line, .int .i64 serial, .int .i64 turn, .int .i64 value, .bool alone] := hd ⟨1, .data⟩ (by simp) rfl (fun v _ => v = .agg #[.int .i64 kind, .int .i64 frm, .int .i64 to, .int .i64 line, .int .i64 serial, .int .i64 turn, .int .i64 value, .bool alone]) rfl
    refine ⟨?_⟩
    simp only [putAll, Act.put, List.nil_append, List.cons_append, List.setIfInBounds_toArray, List.set_cons_zero, List.set_cons_succ, e0, e1]
    go_wp2_with (go_at_call 7; refine (k4 _).mono ?_; rintro e w3 ⟨rfl, hb3⟩)
    exact stepPost_mk hb3 rfl rfl
  dsimp only [List.nil_append, List.cons_append]
  refine freeOK_step (fun v _ => v = .bool true) (stable_eq _) rfl ?_ ?_
  · intro σ W hG hd
    have e2 : σ 2 = .int .i64 G := hd ⟨2, .data⟩ (by simp) rfl (fun v _ => v = .int .i64 G) rfl
    refine ⟨?_⟩
    simp only [putAll, Act.put, List.nil_append, List.cons_append, List.setIfInBounds_toArray, List.set_cons_zero, List.set_cons_succ, e2]
    go_wp2
    exact stepPost_mk (Gr.refl _) rfl rfl
  dsimp only [List.nil_append, List.cons_append]
  refine freeOK_step (fun v _ => v = .bool true) (stable_eq _) rfl ?_ ?_
  · intro σ W hG hd
    have e3 : σ 3 = .bool true := hd ⟨3, .data⟩ (by simp) rfl (fun v _ => v = .bool true) rfl
    refine ⟨?_⟩
    simp only [putAll, Act.put, List.nil_append, List.cons_append, List.setIfInBounds_toArray, List.set_cons_zero, List.set_cons_succ, e3]
    go_wp2
    exact stepPost_mk (Gr.refl _) rfl rfl
  dsimp only [List.nil_append, List.cons_append]
  refine freeOK_step (fun v _ => v = undef) (stable_eq _) rfl ?_ ?_
  · intro σ W hG hd
    have e4 : σ 4 = .bool true := hd ⟨4, .guard⟩ (by simp) rfl (fun v _ => v = .bool true) rfl
    refine ⟨?_⟩
    simp only [putAll, Act.put, List.nil_append, List.cons_append, List.setIfInBounds_toArray, List.set_cons_zero, List.set_cons_succ, e4]
    go_wp2
    exact stepPost_mk (Gr.refl _) rfl rfl
  dsimp only [List.nil_append, List.cons_append]
  refine freeOK_step (fun v _ => v = undef) (stable_eq _) rfl ?_ ?_
  · intro σ W hG hd
    have e4 : σ 4 = .bool true := hd ⟨4, .guard⟩ (by simp) rfl (fun v _ => v = .bool true) rfl
    refine ⟨?_⟩
    simp only [putAll, Act.put, List.nil_append, List.cons_append, List.setIfInBounds_toArray, List.set_cons_zero, List.set_cons_succ, e4]
    go_wp2
    exact stepPost_mk (Gr.refl _) rfl rfl
  dsimp only [List.nil_append, List.cons_append]
  refine freeOK_step (fun v _ => v = undef) (stable_eq _) rfl ?_ ?_
  · intro σ W hG hd
    have e4 : σ 4 = .bool true := hd ⟨4, .guard⟩ (by simp) rfl (fun v _ => v = .bool true) rfl
    refine ⟨?_⟩
    simp only [putAll, Act.put, List.nil_append, List.cons_append, List.setIfInBounds_toArray, List.set_cons_zero, List.set_cons_succ, e4]
    go_wp2
    exact stepPost_mk (Gr.refl _) rfl rfl
  dsimp only [List.nil_append, List.cons_append]
  refine freeOK_step (fun v _ => v = undef) (stable_eq _) rfl ?_ ?_
  · intro σ W hG hd
    have e4 : σ 4 = .bool true := hd ⟨4, .guard⟩ (by simp) rfl (fun v _ => v = .bool true) rfl
    refine ⟨?_⟩
    simp only [putAll, Act.put, List.nil_append, List.cons_append, List.setIfInBounds_toArray, List.set_cons_zero, List.set_cons_succ, e4]
    go_wp2
    exact stepPost_mk (Gr.refl _) rfl rfl
  dsimp only [List.nil_append, List.cons_append]
  refine freeOK_step (fun v _ => v = undef) (stable_eq _) rfl ?_ ?_
  · intro σ W hG hd
    have e4 : σ 4 = .bool true := hd ⟨4, .guard⟩ (by simp) rfl (fun v _ => v = .bool true) rfl
    refine ⟨?_⟩
    simp only [putAll, Act.put, List.nil_append, List.cons_append, List.setIfInBounds_toArray, List.set_cons_zero, List.set_cons_succ, e4]
    go_wp2
    exact stepPost_mk (Gr.refl _) rfl rfl
  dsimp only [List.nil_append, List.cons_append]
  refine freeOK_step (fun v _ => v = undef) (stable_eq _) rfl ?_ ?_
  · intro σ W hG hd
    have e4 : σ 4 = .bool true := hd ⟨4, .guard⟩ (by simp) rfl (fun v _ => v = .bool true) rfl
    refine ⟨?_⟩
    simp only [putAll, Act.put, List.nil_append, List.cons_append, List.setIfInBounds_toArray, List.set_cons_zero, List.set_cons_succ, e4]
    go_wp2
    exact stepPost_mk (Gr.refl _) rfl rfl
  dsimp only [List.nil_append, List.cons_append]
  refine freeOK_step (fun v _ => v = undef) (stable_eq _) rfl ?_ ?_
  · intro σ W hG hd
    have e4 : σ 4 = .bool true := hd ⟨4, .guard⟩ (by simp) rfl (fun v _ => v = .bool true) rfl
    refine ⟨?_⟩
    simp only [putAll, Act.put, List.nil_append, List.cons_append, List.setIfInBounds_toArray, List.set_cons_zero, List.set_cons_succ, e4]
    go_wp2
    exact stepPost_mk (Gr.refl _) rfl rfl
  dsimp only [List.nil_append, List.cons_append]
  refine freeOK_step (fun v _ => v = .bool true) (stable_eq _) rfl ?_ ?_
  · intro σ W hG hd
    have e4 : σ 4 = .bool true := hd ⟨4, .data⟩ (by simp) rfl (fun v _ => v = .bool true) rfl
    refine ⟨?_⟩
    simp only [putAll, Act.put, List.nil_append, List.cons_append, List.setIfInBounds_toArray, List.set_cons_zero, List.set_cons_succ, e4]
    go_wp2
    exact stepPost_mk (Gr.refl _) rfl rfl
  dsimp only [List.nil_append, List.cons_append]
  refine freeOK_done fun σ W hG hR => ?_
  have e0 : σ 0 = .agg #[.int .i64 4, .int .i64 4] := hR 0 (fun v _ => v = .agg #[.int .i64 4, .int .i64 4]) rfl
  have e1 : σ 1 = .agg #[.int .i64 kind, .int .i64 frm, .int .i64 to, .int .i64 line, .int .i64 serial, .int .i64 turn, .int .i64 value, .bool alone] := hR 1 (fun v _ => v = .agg #[.int .i64 kind, .int .i64 frm, .int .i64 to, .int .i64 line, .int .i64 serial, .int .i64 turn, .int .i64 value, .bool alone]) rfl
  have e2 : σ 2 = .int .i64 G := hR 2 (fun v _ => v = .int .i64 G) rfl
  have e3 : σ 3 = .bool true := hR 3 (fun v _ => v = .bool true) rfl
  have e4 : σ 4 = .bool true := hR 4 (fun v _ => v = .bool true) rfl
  have e5 : σ 5 = undef := hR 5 (fun v _ => v = undef) rfl
  have e6 : σ 6 = undef := hR 6 (fun v _ => v = undef) rfl
  have e7 : σ 7 = undef := hR 7 (fun v _ => v = undef) rfl
  have e8 : σ 8 = undef := hR 8 (fun v _ => v = undef) rfl
  have e9 : σ 9 = undef := hR 9 (fun v _ => v = undef) rfl
  have e10 : σ 10 = undef := hR 10 (fun v _ => v = undef) rfl
  have e11 : σ 11 = undef := hR 11 (fun v _ => v = undef) rfl
  have e12 : σ 12 = .bool true := hR 12 (fun v _ => v = .bool true) rfl
  refine ⟨?_⟩
  simp only [putAll, Act.put, List.nil_append, List.cons_append, List.setIfInBounds_toArray, List.set_cons_zero, List.set_cons_succ, e0, e1, e2, e3, e4, e5, e6, e7, e8, e9, e10, e11, e12]
  clear hR e0 e1 e2 e3 e4 e5 e6 e7 e8 e9 e10 e11 e12
  go_wp2
  refine NP.normal ?_
  go_wp2
  go_ret
  exact ⟨rfl, below_on (Below.drew (hW6.alloc hW6.size _)) (Below.drew (hW6.alloc hW6.size _)).size hG⟩

set_option maxRecDepth 100000 in
set_option maxHeartbeats 8000000 in
theorem tells_good (c : Cfg) (m : Msg) (a : Option Addr) (cap : Nat) (xs : List Nat) (bit : Int) (w : World) (hl : xs.length ≤ 140737488351232) (hb1 : -9223372036854775808 ≤ bit) (hb2 : bit ≤ 9223372036854775807)
    (hcap : xs.length ≤ cap) (hcm : cap ≤ maxLen) (hS : BSl w a xs) (h4 : wrongF ⟨4, 4⟩ m = 0) :
    Calls Try.prog 3 #[c.val, m.val, .slice a xs.length cap, .int .i64 bit] w fun e w' => e = .returned (.bool true) ∧ Below w.heap.size w w' := by
  have kW := fun w => wrong_any c m w
  have kRW := fun w => rwrong_any c m w
  obtain ⟨g, eg⟩ : ∃ g, g = wrongF c m := ⟨_, rfl⟩
  rw [← eg] at kW kRW
  have hlm : xs.length ≤ maxLen := by unfold maxLen; omega
  have kSu := fun w (h : BSl w a xs) => sum_sl a cap xs w hlm h
  have kRS := fun w (h : BSl w a xs) => rsum_sl a cap xs w hlm h
  obtain ⟨s, es⟩ : ∃ s, s = csum 65535 xs := ⟨_, rfl⟩
  rw [← es] at kSu kRS
  have kT := fun w (h : BSl w a xs) => turn_sl a cap xs bit w hl hb2 h
  have kRT := fun w (h : BSl w a xs) => turned_sl a cap xs bit w hl hb1 hb2 h
  obtain ⟨T, eT⟩ : ∃ T, T = turnF xs bit := ⟨_, rfl⟩
  have nT : T.length = xs.length := by rw [eT]; exact turnF_length xs bit
  rw [← eT] at kT kRT
  have kP := fun w (h : BSl w a xs) => parse_sl c a cap xs w hcap hcm h
  have kRP := fun w (h : BSl w a xs) => rparse_sl c a cap xs w hcap hcm h
  obtain ⟨x, ex⟩ : ∃ x, x = (parseF c xs).1 := ⟨_, rfl⟩
  obtain ⟨E, eE⟩ : ∃ E, E = (parseF c xs).2 := ⟨_, rfl⟩
  rw [← ex, ← eE] at kP kRP
  have k4 := fun w => rwrong_any ⟨4, 4⟩ m w
  have hfit := fit_of_wrong h4 (by decide) (by decide)
  rw [h4] at k4
  have kB := fun w => bytes_at m hfit w
  have kRB := fun w => rbytes_at m hfit w
  obtain ⟨Y, eY⟩ : ∃ Y, Y = bytesF m := ⟨_, rfl⟩
  have nY : Y.length = 12 := by rw [eY]; rfl
  rw [← eY] at kB kRB
  clear hfit eY
  clear h4 eg es eT ex eE hlm
  obtain ⟨cores, lines⟩ := c
  obtain ⟨kind, frm, to, line, serial, turn, value, alone⟩ := m
  obtain ⟨xkind, xfrm, xto, xline, xserial, xturn, xvalue, xalone⟩ := x
  unfold Cfg.val Msg.val at *
  have HN : Hid _ := nT
  clear nT
  have hS2 : BSl ((w.alloc (.cells #[.int .i64 cores, .int .i64 lines] 23)).alloc (.cells #[.int .i64 kind, .int .i64 frm, .int .i64 to, .int .i64 line, .int .i64 serial, .int .i64 turn, .int .i64 value, .bool alone] 25)).drew a xs := hS.below (Below.drew (below2 _ _ _))
  go_enter Try.func3, Try.ntmps3
  go_wp2
  refine wp_region_free 24 [] (by kernel_rfl) (by kernel_rfl) (by kernel_rfl) ?_
  dsimp only [List.take, List.drop]
  refine freeOK_step (fun v _ => v = .agg #[.int .i64 cores, .int .i64 lines]) (stable_eq _) rfl ?_ ?_
  · intro σ W hG hd
    have qc0 := gcell hG (a := ⟨w.heap.size, 0, none⟩) (v := .int .i64 cores) (by go_cell)
    have qc1 := gcell hG (a := ⟨w.heap.size, 1, none⟩) (v := .int .i64 lines) (by go_cell)
    refine ⟨?_⟩
    dsimp only [putAll]
    go_wp2
    exact stepPost_mk (Gr.refl _) rfl rfl
  dsimp only [List.nil_append, List.cons_append]
  refine freeOK_step (fun v _ => v = .agg #[.int .i64 kind, .int .i64 frm, .int .i64 to, .int .i64 line, .int .i64 serial, .int .i64 turn, .int .i64 value, .bool alone]) (stable_eq _) rfl ?_ ?_
  · intro σ W hG hd
    have qm0 := gcell hG (a := ⟨w.heap.size + 1, 0, none⟩) (v := .int .i64 kind) (by go_cell)
    have qm1 := gcell hG (a := ⟨w.heap.size + 1, 1, none⟩) (v := .int .i64 frm) (by go_cell)
    have qm2 := gcell hG (a := ⟨w.heap.size + 1, 2, none⟩) (v := .int .i64 to) (by go_cell)
    have qm3 := gcell hG (a := ⟨w.heap.size + 1, 3, none⟩) (v := .int .i64 line) (by go_cell)
    have qm4 := gcell hG (a := ⟨w.heap.size + 1, 4, none⟩) (v := .int .i64 serial) (by go_cell)
    have qm5 := gcell hG (a := ⟨w.heap.size + 1, 5, none⟩) (v := .int .i64 turn) (by go_cell)
    have qm6 := gcell hG (a := ⟨w.heap.size + 1, 6, none⟩) (v := .int .i64 value) (by go_cell)
    have qm7 := gcell hG (a := ⟨w.heap.size + 1, 7, none⟩) (v := .bool alone) (by go_cell)
    refine ⟨?_⟩
    simp only [putAll, Act.put, List.nil_append, List.cons_append, List.setIfInBounds_toArray, List.set_cons_zero, List.set_cons_succ]
    go_wp2
    exact stepPost_mk (Gr.refl _) rfl rfl
  dsimp only [List.nil_append, List.cons_append]
  refine freeOK_step (fun v _ => v = .int .i64 g) (stable_eq _) rfl ?_ ?_
  · intro σ W hG hd
    have e0 : σ 0 = .agg #[.int .i64 cores, .int .i64 lines] := hd ⟨0, .data⟩ (by simp) rfl (fun v _ => v = .agg #[.int .i64 cores, .int .i64 lines]) rfl
    have e1 : σ 1 = .agg #[.int .i64 kind, .int .i64 frm, .int .i64 to, .int .i64 line, .int .i64 serial, .int .i64 turn, .int .i64 value, .bool alone] := hd ⟨1, .data⟩ (by simp) rfl (fun v _ => v = .agg #[.int .i64 kind, .int .i64 frm, .int .i64 to, .int .i64 line, .int .i64 serial, .int .i64 turn, .int .i64 value, .bool alone]) rfl
    refine ⟨?_⟩
    simp only [putAll, Act.put, List.nil_append, List.cons_append, List.setIfInBounds_toArray, List.set_cons_zero, List.set_cons_succ, e0, e1]
    go_wp2_with (go_at_call 6; refine (kW _).mono ?_; rintro e w3 ⟨rfl, hb3⟩)
    exact stepPost_mk hb3 rfl rfl
  dsimp only [List.nil_append, List.cons_append]
  refine freeOK_step (fun v _ => v = .agg #[.int .i64 cores, .int .i64 lines]) (stable_eq _) rfl ?_ ?_
  · intro σ W hG hd
    have qc0 := gcell hG (a := ⟨w.heap.size, 0, none⟩) (v := .int .i64 cores) (by go_cell)
    have qc1 := gcell hG (a := ⟨w.heap.size, 1, none⟩) (v := .int .i64 lines) (by go_cell)
    refine ⟨?_⟩
    simp only [putAll, Act.put, List.nil_append, List.cons_append, List.setIfInBounds_toArray, List.set_cons_zero, List.set_cons_succ]
    go_wp2
    exact stepPost_mk (Gr.refl _) rfl rfl
  dsimp only [List.nil_append, List.cons_append]
  refine freeOK_step (fun v _ => v = .agg #[.int .i64 kind, .int .i64 frm, .int .i64 to, .int .i64 line, .int .i64 serial, .int .i64 turn, .int .i64 value, .bool alone]) (stable_eq _) rfl ?_ ?_
  · intro σ W hG hd
    have qm0 := gcell hG (a := ⟨w.heap.size + 1, 0, none⟩) (v := .int .i64 kind) (by go_cell)
    have qm1 := gcell hG (a := ⟨w.heap.size + 1, 1, none⟩) (v := .int .i64 frm) (by go_cell)
    have qm2 := gcell hG (a := ⟨w.heap.size + 1, 2, none⟩) (v := .int .i64 to) (by go_cell)
    have qm3 := gcell hG (a := ⟨w.heap.size + 1, 3, none⟩) (v := .int .i64 line) (by go_cell)
    have qm4 := gcell hG (a := ⟨w.heap.size + 1, 4, none⟩) (v := .int .i64 serial) (by go_cell)
    have qm5 := gcell hG (a := ⟨w.heap.size + 1, 5, none⟩) (v := .int .i64 turn) (by go_cell)
    have qm6 := gcell hG (a := ⟨w.heap.size + 1, 6, none⟩) (v := .int .i64 value) (by go_cell)
    have qm7 := gcell hG (a := ⟨w.heap.size + 1, 7, none⟩) (v := .bool alone) (by go_cell)
    refine ⟨?_⟩
    simp only [putAll, Act.put, List.nil_append, List.cons_append, List.setIfInBounds_toArray, List.set_cons_zero, List.set_cons_succ]
    go_wp2
    exact stepPost_mk (Gr.refl _) rfl rfl
  dsimp only [List.nil_append, List.cons_append]
  refine freeOK_step (fun v _ => v = .int .i64 g) (stable_eq _) rfl ?_ ?_
  · intro σ W hG hd
    have e3 : σ 3 = .agg #[.int .i64 cores, .int .i64 lines] := hd ⟨3, .data⟩ (by simp) rfl (fun v _ => v = .agg #[.int .i64 cores, .int .i64 lines]) rfl
    have e4 : σ 4 = .agg #[.int .i64 kind, .int .i64 frm, .int .i64 to, .int .i64 line, .int .i64 serial, .int .i64 turn, .int .i64 value, .bool alone] := hd ⟨4, .data⟩ (by simp) rfl (fun v _ => v = .agg #[.int .i64 kind, .int .i64 frm, .int .i64 to, .int .i64 line, .int .i64 serial, .int .i64 turn, .int .i64 value, .bool alone]) rfl
    refine ⟨?_⟩
    simp only [putAll, Act.put, List.nil_append, List.cons_append, List.setIfInBounds_toArray, List.set_cons_zero, List.set_cons_succ, e3, e4]
    go_wp2_with (go_at_call 7; refine (kRW _).mono ?_; rintro e w3 ⟨rfl, hb3⟩)
    exact stepPost_mk hb3 rfl rfl
  dsimp only [List.nil_append, List.cons_append]
  refine freeOK_step (fun v _ => v = .bool false) (stable_eq _) rfl ?_ ?_
  · intro σ W hG hd
    have e2 : σ 2 = .int .i64 g := hd ⟨2, .data⟩ (by simp) rfl (fun v _ => v = .int .i64 g) rfl
    have e5 : σ 5 = .int .i64 g := hd ⟨5, .data⟩ (by simp) rfl (fun v _ => v = .int .i64 g) rfl
    refine ⟨?_⟩
    simp only [putAll, Act.put, List.nil_append, List.cons_append, List.setIfInBounds_toArray, List.set_cons_zero, List.set_cons_succ, e2, e5]
    go_wp2
    exact stepPost_mk (Gr.refl _) rfl rfl
  dsimp only [List.nil_append, List.cons_append]
  refine freeOK_step (fun v _ => v = .bool false) (stable_eq _) rfl ?_ ?_
  · intro σ W hG hd
    have e6 : σ 6 = .bool false := hd ⟨6, .data⟩ (by simp) rfl (fun v _ => v = .bool false) rfl
    refine ⟨?_⟩
    simp only [putAll, Act.put, List.nil_append, List.cons_append, List.setIfInBounds_toArray, List.set_cons_zero, List.set_cons_succ, e6]
    go_wp2
    exact stepPost_mk (Gr.refl _) rfl rfl
  dsimp only [List.nil_append, List.cons_append]
  refine freeOK_step (fun v _ => v = .slice a xs.length cap) (stable_eq _) rfl ?_ ?_
  · intro σ W hG hd
    have e7 : σ 7 = .bool false := hd ⟨7, .guard⟩ (by simp) rfl (fun v _ => v = .bool false) rfl
    refine ⟨?_⟩
    simp only [putAll, Act.put, List.nil_append, List.cons_append, List.setIfInBounds_toArray, List.set_cons_zero, List.set_cons_succ, e7]
    go_wp2
    exact stepPost_mk (Gr.refl _) rfl rfl
  dsimp only [List.nil_append, List.cons_append]
  refine freeOK_step (fun v _ => v = .int .i64 s) (stable_eq _) rfl ?_ ?_
  · intro σ W hG hd
    have e8 : σ 8 = .slice a xs.length cap := hd ⟨8, .data⟩ (by simp) rfl (fun v _ => v = .slice a xs.length cap) rfl
    have e7 : σ 7 = .bool false := hd ⟨7, .guard⟩ (by simp) rfl (fun v _ => v = .bool false) rfl
    have hSW : BSl W a xs := hS2.below hG
    refine ⟨?_⟩
    simp only [putAll, Act.put, List.nil_append, List.cons_append, List.setIfInBounds_toArray, List.set_cons_zero, List.set_cons_succ, e8, e7]
    go_wp2_with (go_at_call 8; refine (kSu _ hSW).mono ?_; rintro e w3 ⟨rfl, rfl⟩)
    exact stepPost_mk (Gr.refl _) rfl rfl
  dsimp only [List.nil_append, List.cons_append]
  refine freeOK_step (fun v _ => v = .slice a xs.length cap) (stable_eq _) rfl ?_ ?_
  · intro σ W hG hd
    have e7 : σ 7 = .bool false := hd ⟨7, .guard⟩ (by simp) rfl (fun v _ => v = .bool false) rfl
    refine ⟨?_⟩
    simp only [putAll, Act.put, List.nil_append, List.cons_append, List.setIfInBounds_toArray, List.set_cons_zero, List.set_cons_succ, e7]
    go_wp2
    exact stepPost_mk (Gr.refl _) rfl rfl
  dsimp only [List.nil_append, List.cons_append]
  refine freeOK_step (fun v _ => v = .int .i64 s) (stable_eq _) rfl ?_ ?_
  · intro σ W hG hd
    have e10 : σ 10 = .slice a xs.length cap := hd ⟨10, .data⟩ (by simp) rfl (fun v _ => v = .slice a xs.length cap) rfl
    have e7 : σ 7 = .bool false := hd ⟨7, .guard⟩ (by simp) rfl (fun v _ => v = .bool false) rfl
    have hSW : BSl W a xs := hS2.below hG
    refine ⟨?_⟩
    simp only [putAll, Act.put, List.nil_append, List.cons_append, List.setIfInBounds_toArray, List.set_cons_zero, List.set_cons_succ, e10, e7]
    go_wp2_with (go_at_call 9; refine (kRS _ hSW).mono ?_; rintro e w3 ⟨rfl, rfl⟩)
    exact stepPost_mk (Gr.refl _) rfl rfl
  dsimp only [List.nil_append, List.cons_append]
  refine freeOK_step (fun v _ => v = .bool false) (stable_eq _) rfl ?_ ?_
  · intro σ W hG hd
    have e9 : σ 9 = .int .i64 s := hd ⟨9, .data⟩ (by simp) rfl (fun v _ => v = .int .i64 s) rfl
    have e11 : σ 11 = .int .i64 s := hd ⟨11, .data⟩ (by simp) rfl (fun v _ => v = .int .i64 s) rfl
    have e7 : σ 7 = .bool false := hd ⟨7, .guard⟩ (by simp) rfl (fun v _ => v = .bool false) rfl
    refine ⟨?_⟩
    simp only [putAll, Act.put, List.nil_append, List.cons_append, List.setIfInBounds_toArray, List.set_cons_zero, List.set_cons_succ, e9, e11, e7]
    go_wp2
    exact stepPost_mk (Gr.refl _) rfl rfl
  dsimp only [List.nil_append, List.cons_append]
  refine freeOK_step (fun v _ => v = .bool false) (stable_eq _) rfl ?_ ?_
  · intro σ W hG hd
    have e7 : σ 7 = .bool false := hd ⟨7, .data⟩ (by simp) rfl (fun v _ => v = .bool false) rfl
    have e12 : σ 12 = .bool false := hd ⟨12, .data⟩ (by simp) rfl (fun v _ => v = .bool false) rfl
    refine ⟨?_⟩
    simp only [putAll, Act.put, List.nil_append, List.cons_append, List.setIfInBounds_toArray, List.set_cons_zero, List.set_cons_succ, e7, e12]
    go_wp2
    exact stepPost_mk (Gr.refl _) rfl rfl
  dsimp only [List.nil_append, List.cons_append]
  refine freeOK_step (fun v _ => v = .bool false) (stable_eq _) rfl ?_ ?_
  · intro σ W hG hd
    have e13 : σ 13 = .bool false := hd ⟨13, .data⟩ (by simp) rfl (fun v _ => v = .bool false) rfl
    refine ⟨?_⟩
    simp only [putAll, Act.put, List.nil_append, List.cons_append, List.setIfInBounds_toArray, List.set_cons_zero, List.set_cons_succ, e13]
    go_wp2
    exact stepPost_mk (Gr.refl _) rfl rfl
  dsimp only [List.nil_append, List.cons_append]
  refine freeOK_step (fun v _ => v = .slice a xs.length cap) (stable_eq _) rfl ?_ ?_
  · intro σ W hG hd
    have e14 : σ 14 = .bool false := hd ⟨14, .guard⟩ (by simp) rfl (fun v _ => v = .bool false) rfl
    refine ⟨?_⟩
    simp only [putAll, Act.put, List.nil_append, List.cons_append, List.setIfInBounds_toArray, List.set_cons_zero, List.set_cons_succ, e14]
    go_wp2
    exact stepPost_mk (Gr.refl _) rfl rfl
  dsimp only [List.nil_append, List.cons_append]
  refine freeOK_step (fun v _ => v = .int .i64 bit) (stable_eq _) rfl ?_ ?_
  · intro σ W hG hd
    have e14 : σ 14 = .bool false := hd ⟨14, .guard⟩ (by simp) rfl (fun v _ => v = .bool false) rfl
    refine ⟨?_⟩
    simp only [putAll, Act.put, List.nil_append, List.cons_append, List.setIfInBounds_toArray, List.set_cons_zero, List.set_cons_succ, e14]
    go_wp2
    exact stepPost_mk (Gr.refl _) rfl rfl
  dsimp only [List.nil_append, List.cons_append]
  refine freeOK_step (fun v w => ∃ a' cap', v = .slice a' xs.length cap' ∧ BSl w a' T) (fun _ _ _ hG ⟨a', cap', h1, h2⟩ => ⟨a', cap', h1, h2.below hG⟩) rfl ?_ ?_
  · intro σ W hG hd
    have e15 : σ 15 = .slice a xs.length cap := hd ⟨15, .data⟩ (by simp) rfl (fun v _ => v = .slice a xs.length cap) rfl
    have e16 : σ 16 = .int .i64 bit := hd ⟨16, .data⟩ (by simp) rfl (fun v _ => v = .int .i64 bit) rfl
    have e14 : σ 14 = .bool false := hd ⟨14, .guard⟩ (by simp) rfl (fun v _ => v = .bool false) rfl
    have hSW : BSl W a xs := hS2.below hG
    refine ⟨?_⟩
    simp only [putAll, Act.put, List.nil_append, List.cons_append, List.setIfInBounds_toArray, List.set_cons_zero, List.set_cons_succ, e15, e16, e14]
    go_wp2_with (go_at_call 10; refine (kT _ hSW).mono ?_; rintro e w3 ⟨a3, cap3, rfl, hY3, hb3⟩)
    exact stepPost_mk hb3 rfl ⟨a3, cap3, rfl, hY3⟩
  dsimp only [List.nil_append, List.cons_append]
  refine freeOK_step (fun v _ => v = .string (strOf T)) (stable_eq _) rfl ?_ ?_
  · intro σ W hG hd
    have h17 : ∃ a' cap', σ 17 = .slice a' xs.length cap' ∧ BSl W a' T := hd ⟨17, .data⟩ (by simp) rfl (fun v w => ∃ a' cap', v = .slice a' xs.length cap' ∧ BSl w a' T) rfl
    obtain ⟨a17, cap17, e17, hY17⟩ := h17
    have e14 : σ 14 = .bool false := hd ⟨14, .guard⟩ (by simp) rfl (fun v _ => v = .bool false) rfl
    have hcv := conv_sl W a17 cap17 T hY17
    rw [HN.out] at hcv
    refine ⟨?_⟩
    simp only [putAll, Act.put, List.nil_append, List.cons_append, List.setIfInBounds_toArray, List.set_cons_zero, List.set_cons_succ, e17, e14]
    go_wp2
    exact stepPost_mk (Gr.refl _) rfl rfl
  dsimp only [List.nil_append, List.cons_append]
  refine freeOK_step (fun v _ => v = .slice a xs.length cap) (stable_eq _) rfl ?_ ?_
  · intro σ W hG hd
    have e14 : σ 14 = .bool false := hd ⟨14, .guard⟩ (by simp) rfl (fun v _ => v = .bool false) rfl
    refine ⟨?_⟩
    simp only [putAll, Act.put, List.nil_append, List.cons_append, List.setIfInBounds_toArray, List.set_cons_zero, List.set_cons_succ, e14]
    go_wp2
    exact stepPost_mk (Gr.refl _) rfl rfl
  dsimp only [List.nil_append, List.cons_append]
  refine freeOK_step (fun v _ => v = .int .i64 bit) (stable_eq _) rfl ?_ ?_
  · intro σ W hG hd
    have e14 : σ 14 = .bool false := hd ⟨14, .guard⟩ (by simp) rfl (fun v _ => v = .bool false) rfl
    refine ⟨?_⟩
    simp only [putAll, Act.put, List.nil_append, List.cons_append, List.setIfInBounds_toArray, List.set_cons_zero, List.set_cons_succ, e14]
    go_wp2
    exact stepPost_mk (Gr.refl _) rfl rfl
  dsimp only [List.nil_append, List.cons_append]
  refine freeOK_step (fun v w => ∃ a' cap', v = .slice a' xs.length cap' ∧ BSl w a' T) (fun _ _ _ hG ⟨a', cap', h1, h2⟩ => ⟨a', cap', h1, h2.below hG⟩) rfl ?_ ?_
  · intro σ W hG hd
    have e19 : σ 19 = .slice a xs.length cap := hd ⟨19, .data⟩ (by simp) rfl (fun v _ => v = .slice a xs.length cap) rfl
    have e20 : σ 20 = .int .i64 bit := hd ⟨20, .data⟩ (by simp) rfl (fun v _ => v = .int .i64 bit) rfl
    have e14 : σ 14 = .bool false := hd ⟨14, .guard⟩ (by simp) rfl (fun v _ => v = .bool false) rfl
    have hSW : BSl W a xs := hS2.below hG
    refine ⟨?_⟩
    simp only [putAll, Act.put, List.nil_append, List.cons_append, List.setIfInBounds_toArray, List.set_cons_zero, List.set_cons_succ, e19, e20, e14]
    go_wp2_with (go_at_call 11; refine (kRT _ hSW).mono ?_; rintro e w3 ⟨a3, cap3, rfl, hY3, hb3⟩)
    exact stepPost_mk hb3 rfl ⟨a3, cap3, rfl, hY3⟩
  dsimp only [List.nil_append, List.cons_append]
  refine freeOK_step (fun v _ => v = .string (strOf T)) (stable_eq _) rfl ?_ ?_
  · intro σ W hG hd
    have h21 : ∃ a' cap', σ 21 = .slice a' xs.length cap' ∧ BSl W a' T := hd ⟨21, .data⟩ (by simp) rfl (fun v w => ∃ a' cap', v = .slice a' xs.length cap' ∧ BSl w a' T) rfl
    obtain ⟨a21, cap21, e21, hY21⟩ := h21
    have e14 : σ 14 = .bool false := hd ⟨14, .guard⟩ (by simp) rfl (fun v _ => v = .bool false) rfl
    have hcv := conv_sl W a21 cap21 T hY21
    rw [HN.out] at hcv
    refine ⟨?_⟩
    simp only [putAll, Act.put, List.nil_append, List.cons_append, List.setIfInBounds_toArray, List.set_cons_zero, List.set_cons_succ, e21, e14]
    go_wp2
    exact stepPost_mk (Gr.refl _) rfl rfl
  dsimp only [List.nil_append, List.cons_append]
  refine freeOK_step (fun v _ => v = .bool false) (stable_eq _) rfl ?_ ?_
  · intro σ W hG hd
    have e18 : σ 18 = .string (strOf T) := hd ⟨18, .data⟩ (by simp) rfl (fun v _ => v = .string (strOf T)) rfl
    have e22 : σ 22 = .string (strOf T) := hd ⟨22, .data⟩ (by simp) rfl (fun v _ => v = .string (strOf T)) rfl
    have e14 : σ 14 = .bool false := hd ⟨14, .guard⟩ (by simp) rfl (fun v _ => v = .bool false) rfl
    refine ⟨?_⟩
    simp only [putAll, Act.put, List.nil_append, List.cons_append, List.setIfInBounds_toArray, List.set_cons_zero, List.set_cons_succ, e18, e22, e14]
    go_wp2
    exact stepPost_mk (Gr.refl _) rfl rfl
  dsimp only [List.nil_append, List.cons_append]
  refine freeOK_done fun σ W hG hR => ?_
  have e0 : σ 0 = .agg #[.int .i64 cores, .int .i64 lines] := hR 0 (fun v _ => v = .agg #[.int .i64 cores, .int .i64 lines]) rfl
  have e1 : σ 1 = .agg #[.int .i64 kind, .int .i64 frm, .int .i64 to, .int .i64 line, .int .i64 serial, .int .i64 turn, .int .i64 value, .bool alone] := hR 1 (fun v _ => v = .agg #[.int .i64 kind, .int .i64 frm, .int .i64 to, .int .i64 line, .int .i64 serial, .int .i64 turn, .int .i64 value, .bool alone]) rfl
  have e2 : σ 2 = .int .i64 g := hR 2 (fun v _ => v = .int .i64 g) rfl
  have e3 : σ 3 = .agg #[.int .i64 cores, .int .i64 lines] := hR 3 (fun v _ => v = .agg #[.int .i64 cores, .int .i64 lines]) rfl
  have e4 : σ 4 = .agg #[.int .i64 kind, .int .i64 frm, .int .i64 to, .int .i64 line, .int .i64 serial, .int .i64 turn, .int .i64 value, .bool alone] := hR 4 (fun v _ => v = .agg #[.int .i64 kind, .int .i64 frm, .int .i64 to, .int .i64 line, .int .i64 serial, .int .i64 turn, .int .i64 value, .bool alone]) rfl
  have e5 : σ 5 = .int .i64 g := hR 5 (fun v _ => v = .int .i64 g) rfl
  have e6 : σ 6 = .bool false := hR 6 (fun v _ => v = .bool false) rfl
  have e7 : σ 7 = .bool false := hR 7 (fun v _ => v = .bool false) rfl
  have e8 : σ 8 = .slice a xs.length cap := hR 8 (fun v _ => v = .slice a xs.length cap) rfl
  have e9 : σ 9 = .int .i64 s := hR 9 (fun v _ => v = .int .i64 s) rfl
  have e10 : σ 10 = .slice a xs.length cap := hR 10 (fun v _ => v = .slice a xs.length cap) rfl
  have e11 : σ 11 = .int .i64 s := hR 11 (fun v _ => v = .int .i64 s) rfl
  have e12 : σ 12 = .bool false := hR 12 (fun v _ => v = .bool false) rfl
  have e13 : σ 13 = .bool false := hR 13 (fun v _ => v = .bool false) rfl
  have e14 : σ 14 = .bool false := hR 14 (fun v _ => v = .bool false) rfl
  have e15 : σ 15 = .slice a xs.length cap := hR 15 (fun v _ => v = .slice a xs.length cap) rfl
  have e16 : σ 16 = .int .i64 bit := hR 16 (fun v _ => v = .int .i64 bit) rfl
  have h17 : ∃ a' cap', σ 17 = .slice a' xs.length cap' ∧ BSl W a' T := hR 17 (fun v w => ∃ a' cap', v = .slice a' xs.length cap' ∧ BSl w a' T) rfl
  obtain ⟨a17, cap17, e17, hT17⟩ := h17
  have e18 : σ 18 = .string (strOf T) := hR 18 (fun v _ => v = .string (strOf T)) rfl
  have e19 : σ 19 = .slice a xs.length cap := hR 19 (fun v _ => v = .slice a xs.length cap) rfl
  have e20 : σ 20 = .int .i64 bit := hR 20 (fun v _ => v = .int .i64 bit) rfl
  have h21 : ∃ a' cap', σ 21 = .slice a' xs.length cap' ∧ BSl W a' T := hR 21 (fun v w => ∃ a' cap', v = .slice a' xs.length cap' ∧ BSl w a' T) rfl
  obtain ⟨a21, cap21, e21, hT21⟩ := h21
  have e22 : σ 22 = .string (strOf T) := hR 22 (fun v _ => v = .string (strOf T)) rfl
  have e23 : σ 23 = .bool false := hR 23 (fun v _ => v = .bool false) rfl
  have qc0 := gcell hG (a := ⟨w.heap.size, 0, none⟩) (v := .int .i64 cores) (by go_cell)
  have qc1 := gcell hG (a := ⟨w.heap.size, 1, none⟩) (v := .int .i64 lines) (by go_cell)
  have qm0 := gcell hG (a := ⟨w.heap.size + 1, 0, none⟩) (v := .int .i64 kind) (by go_cell)
  have qm1 := gcell hG (a := ⟨w.heap.size + 1, 1, none⟩) (v := .int .i64 frm) (by go_cell)
  have qm2 := gcell hG (a := ⟨w.heap.size + 1, 2, none⟩) (v := .int .i64 to) (by go_cell)
  have qm3 := gcell hG (a := ⟨w.heap.size + 1, 3, none⟩) (v := .int .i64 line) (by go_cell)
  have qm4 := gcell hG (a := ⟨w.heap.size + 1, 4, none⟩) (v := .int .i64 serial) (by go_cell)
  have qm5 := gcell hG (a := ⟨w.heap.size + 1, 5, none⟩) (v := .int .i64 turn) (by go_cell)
  have qm6 := gcell hG (a := ⟨w.heap.size + 1, 6, none⟩) (v := .int .i64 value) (by go_cell)
  have qm7 := gcell hG (a := ⟨w.heap.size + 1, 7, none⟩) (v := .bool alone) (by go_cell)
  have sz1 : w.heap.size + 1 < W.heap.size := block_lt_of_cell qm0
  have sz0 : w.heap.size < W.heap.size := by omega
  clear hT17 hT21
  refine ⟨?_⟩
  simp only [putAll, Act.put, List.nil_append, List.cons_append, List.setIfInBounds_toArray, List.set_cons_zero, List.set_cons_succ, e0, e1, e2, e3, e4, e5, e6, e7, e8, e9, e10, e11, e12, e13, e14, e15, e16, e17, e18, e19, e20, e21, e22, e23]
  clear hR e0 e1 e2 e3 e4 e5 e6 e7 e8 e9 e10 e11 e12 e13 e14 e15 e16 e17 e18 e19 e20 e21 e22 e23
  have hBW : Below w.heap.size w W := below_on (Below.drew (below2 _ _ _)) (Below.drew (below2 _ _ _)).size hG
  have hSW := hS.below hBW
  clear hS2 kW kRW kSu kRS kT kRT
  go_wp2
  refine NP.normal ?_
  go_wp2_with (first | (go_at_call 12; refine (kP _ hSW).mono ?_; rintro e w5 ⟨rfl, hb5⟩; obtain ⟨hc5, hf5⟩ := bcell hb5; obtain ⟨z5, y5⟩ := size3' sz1 hb5; have hW5 := below_on hBW hBW.size hb5; have hW5' := hW5.alloc hW5.size (.cells #[.int .i64 xkind, .int .i64 xfrm, .int .i64 xto, .int .i64 xline, .int .i64 xserial, .int .i64 xturn, .int .i64 xvalue, .bool xalone] 25); have hS5 := hS.below hW5') | (go_at_call 13; refine (kRP _ hS5).mono ?_; rintro e w6 ⟨rfl, hb6⟩; obtain ⟨hc6, hf6⟩ := bcell hb6; obtain ⟨z6, y6⟩ := size4' z5 (by go_size) hb6; have zx : w5.heap.size < w6.heap.size := lt_alloc hb6; have hW6 := below_on hW5' hW5'.size hb6))
  refine wp_region_free 13 [] (by kernel_rfl) (by kernel_rfl) (by kernel_rfl) ?_
  dsimp only [List.take, List.drop]
  refine freeOK_step (fun v _ => v = .agg #[.int .i64 4, .int .i64 4]) (stable_eq _) rfl ?_ ?_
  · intro σ W hG hd
    refine ⟨?_⟩
    dsimp only [putAll]
    go_wp2
    exact stepPost_mk (Gr.refl _) rfl rfl
  dsimp only [List.nil_append, List.cons_append]
  refine freeOK_step (fun v _ => v = .agg #[.int .i64 kind, .int .i64 frm, .int .i64 to, .int .i64 line, .int .i64 serial, .int .i64 turn, .int .i64 value, .bool alone]) (stable_eq _) rfl ?_ ?_
  · intro σ W hG hd
    have qm0 := gcell hG (a := ⟨w.heap.size + 1, 0, none⟩) (v := .int .i64 kind) (by go_cell)
    have qm1 := gcell hG (a := ⟨w.heap.size + 1, 1, none⟩) (v := .int .i64 frm) (by go_cell)
    have qm2 := gcell hG (a := ⟨w.heap.size + 1, 2, none⟩) (v := .int .i64 to) (by go_cell)
    have qm3 := gcell hG (a := ⟨w.heap.size + 1, 3, none⟩) (v := .int .i64 line) (by go_cell)
    have qm4 := gcell hG (a := ⟨w.heap.size + 1, 4, none⟩) (v := .int .i64 serial) (by go_cell)
    have qm5 := gcell hG (a := ⟨w.heap.size + 1, 5, none⟩) (v := .int .i64 turn) (by go_cell)
    have qm6 := gcell hG (a := ⟨w.heap.size + 1, 6, none⟩) (v := .int .i64 value) (by go_cell)
    have qm7 := gcell hG (a := ⟨w.heap.size + 1, 7, none⟩) (v := .bool alone) (by go_cell)
    refine ⟨?_⟩
    simp only [putAll, Act.put, List.nil_append, List.cons_append, List.setIfInBounds_toArray, List.set_cons_zero, List.set_cons_succ]
    go_wp2
    exact stepPost_mk (Gr.refl _) rfl rfl
  dsimp only [List.nil_append, List.cons_append]
  refine freeOK_step (fun v _ => v = .int .i64 0) (stable_eq _) rfl ?_ ?_
  · intro σ W hG hd
    have e0 : σ 0 = .agg #[.int .i64 4, .int .i64 4] := hd ⟨0, .data⟩ (by simp) rfl (fun v _ => v = .agg #[.int .i64 4, .int .i64 4]) rfl
    have e1 : σ 1 = .agg #[.int .i64 kind, .int .i64 frm, .int .i64 to, .int .i64 line, .int .i64 serial, .int .i64 turn, .int .i64 value, .bool alone] := hd ⟨1, .data⟩ (by simp) rfl (fun v _ => v = .agg #[.int .i64 kind, .int .i64 frm, .int .i64 to, .int .i64 line, .int .i64 serial, .int .i64 turn, .int .i64 value, .bool alone]) rfl
    refine ⟨?_⟩
    simp only [putAll, Act.put, List.nil_append, List.cons_append, List.setIfInBounds_toArray, List.set_cons_zero, List.set_cons_succ, e0, e1]
    go_wp2_with (go_at_call 7; refine (k4 _).mono ?_; rintro e w3 ⟨rfl, hb3⟩)
    exact stepPost_mk hb3 rfl rfl
  dsimp only [List.nil_append, List.cons_append]
  refine freeOK_step (fun v _ => v = .bool false) (stable_eq _) rfl ?_ ?_
  · intro σ W hG hd
    have e2 : σ 2 = .int .i64 0 := hd ⟨2, .data⟩ (by simp) rfl (fun v _ => v = .int .i64 0) rfl
    refine ⟨?_⟩
    simp only [putAll, Act.put, List.nil_append, List.cons_append, List.setIfInBounds_toArray, List.set_cons_zero, List.set_cons_succ, e2]
    go_wp2
    exact stepPost_mk (Gr.refl _) rfl rfl
  dsimp only [List.nil_append, List.cons_append]
  refine freeOK_step (fun v _ => v = .bool false) (stable_eq _) rfl ?_ ?_
  · intro σ W hG hd
    have e3 : σ 3 = .bool false := hd ⟨3, .data⟩ (by simp) rfl (fun v _ => v = .bool false) rfl
    refine ⟨?_⟩
    simp only [putAll, Act.put, List.nil_append, List.cons_append, List.setIfInBounds_toArray, List.set_cons_zero, List.set_cons_succ, e3]
    go_wp2
    exact stepPost_mk (Gr.refl _) rfl rfl
  dsimp only [List.nil_append, List.cons_append]
  refine freeOK_step (fun v _ => v = .agg #[.int .i64 kind, .int .i64 frm, .int .i64 to, .int .i64 line, .int .i64 serial, .int .i64 turn, .int .i64 value, .bool alone]) (stable_eq _) rfl ?_ ?_
  · intro σ W hG hd
    have e4 : σ 4 = .bool false := hd ⟨4, .guard⟩ (by simp) rfl (fun v _ => v = .bool false) rfl
    have qm0 := gcell hG (a := ⟨w.heap.size + 1, 0, none⟩) (v := .int .i64 kind) (by go_cell)
    have qm1 := gcell hG (a := ⟨w.heap.size + 1, 1, none⟩) (v := .int .i64 frm) (by go_cell)
    have qm2 := gcell hG (a := ⟨w.heap.size + 1, 2, none⟩) (v := .int .i64 to) (by go_cell)
    have qm3 := gcell hG (a := ⟨w.heap.size + 1, 3, none⟩) (v := .int .i64 line) (by go_cell)
    have qm4 := gcell hG (a := ⟨w.heap.size + 1, 4, none⟩) (v := .int .i64 serial) (by go_cell)
    have qm5 := gcell hG (a := ⟨w.heap.size + 1, 5, none⟩) (v := .int .i64 turn) (by go_cell)
    have qm6 := gcell hG (a := ⟨w.heap.size + 1, 6, none⟩) (v := .int .i64 value) (by go_cell)
    have qm7 := gcell hG (a := ⟨w.heap.size + 1, 7, none⟩) (v := .bool alone) (by go_cell)
    refine ⟨?_⟩
    simp only [putAll, Act.put, List.nil_append, List.cons_append, List.setIfInBounds_toArray, List.set_cons_zero, List.set_cons_succ, e4]
    go_wp2
    exact stepPost_mk (Gr.refl _) rfl rfl
  dsimp only [List.nil_append, List.cons_append]
  refine freeOK_step (fun v w => ∃ g, v = .slice (some ⟨g, 0, none⟩) 12 12 ∧ BRow w g 0 Y) (fun _ _ _ hG ⟨g, h1, h2⟩ => ⟨g, h1, h2.below hG⟩) rfl ?_ ?_
  · intro σ W hG hd
    have e5 : σ 5 = .agg #[.int .i64 kind, .int .i64 frm, .int .i64 to, .int .i64 line, .int .i64 serial, .int .i64 turn, .int .i64 value, .bool alone] := hd ⟨5, .data⟩ (by simp) rfl (fun v _ => v = .agg #[.int .i64 kind, .int .i64 frm, .int .i64 to, .int .i64 line, .int .i64 serial, .int .i64 turn, .int .i64 value, .bool alone]) rfl
    have e4 : σ 4 = .bool false := hd ⟨4, .guard⟩ (by simp) rfl (fun v _ => v = .bool false) rfl
    refine ⟨?_⟩
    simp only [putAll, Act.put, List.nil_append, List.cons_append, List.setIfInBounds_toArray, List.set_cons_zero, List.set_cons_succ, e5, e4]
    go_wp2_with (go_at_call 14; refine (kB _).mono ?_; rintro e w3 ⟨g3, rfl, hY3, hb3⟩)
    exact stepPost_mk hb3 rfl ⟨g3, rfl, hY3⟩
  dsimp only [List.nil_append, List.cons_append]
  refine freeOK_step (fun v _ => v = .string (strOf Y)) (stable_eq _) rfl ?_ ?_
  · intro σ W hG hd
    have h6 : ∃ g, σ 6 = .slice (some ⟨g, 0, none⟩) 12 12 ∧ BRow W g 0 Y := hd ⟨6, .data⟩ (by simp) rfl (fun v w => ∃ g, v = .slice (some ⟨g, 0, none⟩) 12 12 ∧ BRow w g 0 Y) rfl
    obtain ⟨g6, e6, hY6⟩ := h6
    have e4 : σ 4 = .bool false := hd ⟨4, .guard⟩ (by simp) rfl (fun v _ => v = .bool false) rfl
    have hcv := conv_row W g6 Y nY hY6
    refine ⟨?_⟩
    simp only [putAll, Act.put, List.nil_append, List.cons_append, List.setIfInBounds_toArray, List.set_cons_zero, List.set_cons_succ, e6, e4]
    go_wp2
    exact stepPost_mk (Gr.refl _) rfl rfl
  dsimp only [List.nil_append, List.cons_append]
  refine freeOK_step (fun v _ => v = .agg #[.int .i64 kind, .int .i64 frm, .int .i64 to, .int .i64 line, .int .i64 serial, .int .i64 turn, .int .i64 value, .bool alone]) (stable_eq _) rfl ?_ ?_
  · intro σ W hG hd
    have e4 : σ 4 = .bool false := hd ⟨4, .guard⟩ (by simp) rfl (fun v _ => v = .bool false) rfl
    have qm0 := gcell hG (a := ⟨w.heap.size + 1, 0, none⟩) (v := .int .i64 kind) (by go_cell)
    have qm1 := gcell hG (a := ⟨w.heap.size + 1, 1, none⟩) (v := .int .i64 frm) (by go_cell)
    have qm2 := gcell hG (a := ⟨w.heap.size + 1, 2, none⟩) (v := .int .i64 to) (by go_cell)
    have qm3 := gcell hG (a := ⟨w.heap.size + 1, 3, none⟩) (v := .int .i64 line) (by go_cell)
    have qm4 := gcell hG (a := ⟨w.heap.size + 1, 4, none⟩) (v := .int .i64 serial) (by go_cell)
    have qm5 := gcell hG (a := ⟨w.heap.size + 1, 5, none⟩) (v := .int .i64 turn) (by go_cell)
    have qm6 := gcell hG (a := ⟨w.heap.size + 1, 6, none⟩) (v := .int .i64 value) (by go_cell)
    have qm7 := gcell hG (a := ⟨w.heap.size + 1, 7, none⟩) (v := .bool alone) (by go_cell)
    refine ⟨?_⟩
    simp only [putAll, Act.put, List.nil_append, List.cons_append, List.setIfInBounds_toArray, List.set_cons_zero, List.set_cons_succ, e4]
    go_wp2
    exact stepPost_mk (Gr.refl _) rfl rfl
  dsimp only [List.nil_append, List.cons_append]
  refine freeOK_step (fun v w => ∃ a' cap', v = .slice a' 12 cap' ∧ BSl w a' Y) (fun _ _ _ hG ⟨a', cap', h1, h2⟩ => ⟨a', cap', h1, h2.below hG⟩) rfl ?_ ?_
  · intro σ W hG hd
    have e8 : σ 8 = .agg #[.int .i64 kind, .int .i64 frm, .int .i64 to, .int .i64 line, .int .i64 serial, .int .i64 turn, .int .i64 value, .bool alone] := hd ⟨8, .data⟩ (by simp) rfl (fun v _ => v = .agg #[.int .i64 kind, .int .i64 frm, .int .i64 to, .int .i64 line, .int .i64 serial, .int .i64 turn, .int .i64 value, .bool alone]) rfl
    have e4 : σ 4 = .bool false := hd ⟨4, .guard⟩ (by simp) rfl (fun v _ => v = .bool false) rfl
    refine ⟨?_⟩
    simp only [putAll, Act.put, List.nil_append, List.cons_append, List.setIfInBounds_toArray, List.set_cons_zero, List.set_cons_succ, e8, e4]
    go_wp2_with (go_at_call 15; refine (kRB _).mono ?_; rintro e w3 ⟨a3, cap3, rfl, hY3, hb3⟩)
    exact stepPost_mk hb3 rfl ⟨a3, cap3, rfl, hY3⟩
  dsimp only [List.nil_append, List.cons_append]
  refine freeOK_step (fun v _ => v = .string (strOf Y)) (stable_eq _) rfl ?_ ?_
  · intro σ W hG hd
    have h9 : ∃ a' cap', σ 9 = .slice a' 12 cap' ∧ BSl W a' Y := hd ⟨9, .data⟩ (by simp) rfl (fun v w => ∃ a' cap', v = .slice a' 12 cap' ∧ BSl w a' Y) rfl
    obtain ⟨a9, cap9, e9, hY9⟩ := h9
    have e4 : σ 4 = .bool false := hd ⟨4, .guard⟩ (by simp) rfl (fun v _ => v = .bool false) rfl
    have hcv := conv_sl W a9 cap9 Y hY9
    rw [nY] at hcv
    refine ⟨?_⟩
    simp only [putAll, Act.put, List.nil_append, List.cons_append, List.setIfInBounds_toArray, List.set_cons_zero, List.set_cons_succ, e9, e4]
    go_wp2
    exact stepPost_mk (Gr.refl _) rfl rfl
  dsimp only [List.nil_append, List.cons_append]
  refine freeOK_step (fun v _ => v = .bool true) (stable_eq _) rfl ?_ ?_
  · intro σ W hG hd
    have e7 : σ 7 = .string (strOf Y) := hd ⟨7, .data⟩ (by simp) rfl (fun v _ => v = .string (strOf Y)) rfl
    have e10 : σ 10 = .string (strOf Y) := hd ⟨10, .data⟩ (by simp) rfl (fun v _ => v = .string (strOf Y)) rfl
    have e4 : σ 4 = .bool false := hd ⟨4, .guard⟩ (by simp) rfl (fun v _ => v = .bool false) rfl
    refine ⟨?_⟩
    simp only [putAll, Act.put, List.nil_append, List.cons_append, List.setIfInBounds_toArray, List.set_cons_zero, List.set_cons_succ, e7, e10, e4]
    go_wp2
    exact stepPost_mk (Gr.refl _) rfl rfl
  dsimp only [List.nil_append, List.cons_append]
  refine freeOK_step (fun v _ => v = .bool true) (stable_eq _) rfl ?_ ?_
  · intro σ W hG hd
    have e4 : σ 4 = .bool false := hd ⟨4, .data⟩ (by simp) rfl (fun v _ => v = .bool false) rfl
    have e11 : σ 11 = .bool true := hd ⟨11, .data⟩ (by simp) rfl (fun v _ => v = .bool true) rfl
    refine ⟨?_⟩
    simp only [putAll, Act.put, List.nil_append, List.cons_append, List.setIfInBounds_toArray, List.set_cons_zero, List.set_cons_succ, e4, e11]
    go_wp2
    exact stepPost_mk (Gr.refl _) rfl rfl
  dsimp only [List.nil_append, List.cons_append]
  refine freeOK_done fun σ W hG hR => ?_
  have e0 : σ 0 = .agg #[.int .i64 4, .int .i64 4] := hR 0 (fun v _ => v = .agg #[.int .i64 4, .int .i64 4]) rfl
  have e1 : σ 1 = .agg #[.int .i64 kind, .int .i64 frm, .int .i64 to, .int .i64 line, .int .i64 serial, .int .i64 turn, .int .i64 value, .bool alone] := hR 1 (fun v _ => v = .agg #[.int .i64 kind, .int .i64 frm, .int .i64 to, .int .i64 line, .int .i64 serial, .int .i64 turn, .int .i64 value, .bool alone]) rfl
  have e2 : σ 2 = .int .i64 0 := hR 2 (fun v _ => v = .int .i64 0) rfl
  have e3 : σ 3 = .bool false := hR 3 (fun v _ => v = .bool false) rfl
  have e4 : σ 4 = .bool false := hR 4 (fun v _ => v = .bool false) rfl
  have e5 : σ 5 = .agg #[.int .i64 kind, .int .i64 frm, .int .i64 to, .int .i64 line, .int .i64 serial, .int .i64 turn, .int .i64 value, .bool alone] := hR 5 (fun v _ => v = .agg #[.int .i64 kind, .int .i64 frm, .int .i64 to, .int .i64 line, .int .i64 serial, .int .i64 turn, .int .i64 value, .bool alone]) rfl
  have h6 : ∃ g, σ 6 = .slice (some ⟨g, 0, none⟩) 12 12 ∧ BRow W g 0 Y := hR 6 (fun v w => ∃ g, v = .slice (some ⟨g, 0, none⟩) 12 12 ∧ BRow w g 0 Y) rfl
  obtain ⟨g6, e6, hT6⟩ := h6
  have e7 : σ 7 = .string (strOf Y) := hR 7 (fun v _ => v = .string (strOf Y)) rfl
  have e8 : σ 8 = .agg #[.int .i64 kind, .int .i64 frm, .int .i64 to, .int .i64 line, .int .i64 serial, .int .i64 turn, .int .i64 value, .bool alone] := hR 8 (fun v _ => v = .agg #[.int .i64 kind, .int .i64 frm, .int .i64 to, .int .i64 line, .int .i64 serial, .int .i64 turn, .int .i64 value, .bool alone]) rfl
  have h9 : ∃ a' cap', σ 9 = .slice a' 12 cap' ∧ BSl W a' Y := hR 9 (fun v w => ∃ a' cap', v = .slice a' 12 cap' ∧ BSl w a' Y) rfl
  obtain ⟨a9, cap9, e9, hT9⟩ := h9
  have e10 : σ 10 = .string (strOf Y) := hR 10 (fun v _ => v = .string (strOf Y)) rfl
  have e11 : σ 11 = .bool true := hR 11 (fun v _ => v = .bool true) rfl
  have e12 : σ 12 = .bool true := hR 12 (fun v _ => v = .bool true) rfl
  refine ⟨?_⟩
  simp only [putAll, Act.put, List.nil_append, List.cons_append, List.setIfInBounds_toArray, List.set_cons_zero, List.set_cons_succ, e0, e1, e2, e3, e4, e5, e6, e7, e8, e9, e10, e11, e12]
  clear hR e0 e1 e2 e3 e4 e5 e6 e7 e8 e9 e10 e11 e12
  go_wp2
  refine NP.normal ?_
  go_wp2
  go_ret
  exact ⟨rfl, below_on (Below.drew (hW6.alloc hW6.size _)) (Below.drew (hW6.alloc hW6.size _)).size hG⟩
end Go.Proofs.Ytmjhmbalkgpcjaa
