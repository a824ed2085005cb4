/- shref1.Parse, where the frame's form is right. -/
import Derived.Test.YtmjhmbalkgpcjaaRefParse
namespace Go.Proofs.Ytmjhmbalkgpcjaa
open Go.RowKit
set_option linter.unusedVariables false
set_option linter.unusedSimpArgs false

theorem gfree {w0 W : World} (hG : Gr w0 W) {a : Addr} (h : a.block < w0.heap.size) : W.frozen? a = w0.frozen? a := Below.frozen hG h
theorem below_w5' {w W w5 : World} {g : Nat} {v0 v1 v2 v3 v4 v5 v6 v7 : Value} (h : Below w.heap.size w W) (hg : w.heap.size ≤ g)
    (hb5 : Below ((((((((W.setCell ⟨g, 0, none⟩ v0).setCell ⟨g, 1, none⟩ v1).setCell ⟨g, 2, none⟩ v2).setCell ⟨g, 3, none⟩ v3).setCell ⟨g, 4, none⟩ v4).setCell ⟨g, 5, none⟩ v5).setCell ⟨g, 6, none⟩ v6).setCell ⟨g, 7, none⟩ v7).heap.size ((((((((W.setCell ⟨g, 0, none⟩ v0).setCell ⟨g, 1, none⟩ v1).setCell ⟨g, 2, none⟩ v2).setCell ⟨g, 3, none⟩ v3).setCell ⟨g, 4, none⟩ v4).setCell ⟨g, 5, none⟩ v5).setCell ⟨g, 6, none⟩ v6).setCell ⟨g, 7, none⟩ v7) w5) : Below w.heap.size w w5 :=
  below_on (below_set8 h hg) (below_set8 h hg).size hb5

set_option maxRecDepth 100000 in
set_option maxHeartbeats 8000000 in
theorem rparse_ok (c : Cfg) (b off cap x0 x1 x2 x3 x4 x5 x6 x7 x8 x9 x10 x11 s : Nat) (w : World) (hcap : 12 ≤ cap) (hcm : cap ≤ maxLen) (c0 : w.cell? ⟨b, off, none⟩ = some (.int .u8 x0)) (c1 : w.cell? ⟨b, off + 1, none⟩ = some (.int .u8 x1)) (c2 : w.cell? ⟨b, off + 2, none⟩ = some (.int .u8 x2)) (c3 : w.cell? ⟨b, off + 3, none⟩ = some (.int .u8 x3)) (c4 : w.cell? ⟨b, off + 4, none⟩ = some (.int .u8 x4)) (c5 : w.cell? ⟨b, off + 5, none⟩ = some (.int .u8 x5)) (c6 : w.cell? ⟨b, off + 6, none⟩ = some (.int .u8 x6)) (c7 : w.cell? ⟨b, off + 7, none⟩ = some (.int .u8 x7)) (c8 : w.cell? ⟨b, off + 8, none⟩ = some (.int .u8 x8)) (c9 : w.cell? ⟨b, off + 9, none⟩ = some (.int .u8 x9)) (c10 : w.cell? ⟨b, off + 10, none⟩ = some (.int .u8 x10)) (c11 : w.cell? ⟨b, off + 11, none⟩ = some (.int .u8 x11)) (d0 : x0 < 256) (d1 : x1 < 256) (d2 : x2 < 256) (d3 : x3 < 256) (d4 : x4 < 256) (d5 : x5 < 256) (d6 : x6 < 256) (d7 : x7 < 256) (d8 : x8 < 256) (d9 : x9 < 256) (d10 : x10 < 256) (d11 : x11 < 256)
    (ks : ∀ w', Below w.heap.size w w' → Calls Try.prog 9 #[.slice (some ⟨b, off, none⟩) 10 cap] w' fun e w'' => e = .returned (.int .i64 s) ∧ w'' = w') (hs : ((s : Int) != 256 * (x10 : Int) + x11) = false) (h8 : (x8 : Int) ≤ 1) (h9 : (x9 : Int) ≤ 0) (G : Int) (hG0 : G = 0)
    (kw : ∀ w, Calls Try.prog 7 #[c.val, .agg #[.int .i64 ((x0 : Int)), .int .i64 ((x1 : Int) / 16), .int .i64 ((x1 : Int) % 16), .int .i64 ((x2 : Int)), .int .i64 (256 * (x3 : Int) + (x4 : Int)), .int .i64 (256 * (x5 : Int) + (x6 : Int)), .int .i64 ((x7 : Int)), .bool ((x8 : Int) == 1)]] w fun e w' => e = .returned (.int .i64 G) ∧ Below w.heap.size w w') :
    Calls Try.prog 13 #[c.val, .slice (some ⟨b, off, none⟩) 12 cap] w fun e w' => e = .returned (.tuple #[.agg #[.int .i64 ((x0 : Int)), .int .i64 ((x1 : Int) / 16), .int .i64 ((x1 : Int) % 16), .int .i64 ((x2 : Int)), .int .i64 (256 * (x3 : Int) + (x4 : Int)), .int .i64 (256 * (x5 : Int) + (x6 : Int)), .int .i64 ((x7 : Int)), .bool ((x8 : Int) == 1)], .int .i64 0]) ∧ Below w.heap.size w w' := by
  obtain ⟨cores, lines⟩ := c
  unfold Cfg.val at kw ⊢
  unfold maxLen at hcm
  have hb : b < w.heap.size := block_lt_of_cell c0
  have c0' : ((w.alloc (.cells #[.int .i64 cores, .int .i64 lines] 23)).alloc (.cells #[.int .i64 0, .int .i64 0, .int .i64 0, .int .i64 0, .int .i64 0, .int .i64 0, .int .i64 0, .bool false] 25)).cell? ⟨b, off, none⟩ = some (.int .u8 x0) := cell2a c0
  have c1' : ((w.alloc (.cells #[.int .i64 cores, .int .i64 lines] 23)).alloc (.cells #[.int .i64 0, .int .i64 0, .int .i64 0, .int .i64 0, .int .i64 0, .int .i64 0, .int .i64 0, .bool false] 25)).cell? ⟨b, off + 1, none⟩ = some (.int .u8 x1) := cell2a c1
  have c2' : ((w.alloc (.cells #[.int .i64 cores, .int .i64 lines] 23)).alloc (.cells #[.int .i64 0, .int .i64 0, .int .i64 0, .int .i64 0, .int .i64 0, .int .i64 0, .int .i64 0, .bool false] 25)).cell? ⟨b, off + 2, none⟩ = some (.int .u8 x2) := cell2a c2
  have c3' : ((w.alloc (.cells #[.int .i64 cores, .int .i64 lines] 23)).alloc (.cells #[.int .i64 0, .int .i64 0, .int .i64 0, .int .i64 0, .int .i64 0, .int .i64 0, .int .i64 0, .bool false] 25)).cell? ⟨b, off + 3, none⟩ = some (.int .u8 x3) := cell2a c3
  have c4' : ((w.alloc (.cells #[.int .i64 cores, .int .i64 lines] 23)).alloc (.cells #[.int .i64 0, .int .i64 0, .int .i64 0, .int .i64 0, .int .i64 0, .int .i64 0, .int .i64 0, .bool false] 25)).cell? ⟨b, off + 4, none⟩ = some (.int .u8 x4) := cell2a c4
  have c5' : ((w.alloc (.cells #[.int .i64 cores, .int .i64 lines] 23)).alloc (.cells #[.int .i64 0, .int .i64 0, .int .i64 0, .int .i64 0, .int .i64 0, .int .i64 0, .int .i64 0, .bool false] 25)).cell? ⟨b, off + 5, none⟩ = some (.int .u8 x5) := cell2a c5
  have c6' : ((w.alloc (.cells #[.int .i64 cores, .int .i64 lines] 23)).alloc (.cells #[.int .i64 0, .int .i64 0, .int .i64 0, .int .i64 0, .int .i64 0, .int .i64 0, .int .i64 0, .bool false] 25)).cell? ⟨b, off + 6, none⟩ = some (.int .u8 x6) := cell2a c6
  have c7' : ((w.alloc (.cells #[.int .i64 cores, .int .i64 lines] 23)).alloc (.cells #[.int .i64 0, .int .i64 0, .int .i64 0, .int .i64 0, .int .i64 0, .int .i64 0, .int .i64 0, .bool false] 25)).cell? ⟨b, off + 7, none⟩ = some (.int .u8 x7) := cell2a c7
  have c8' : ((w.alloc (.cells #[.int .i64 cores, .int .i64 lines] 23)).alloc (.cells #[.int .i64 0, .int .i64 0, .int .i64 0, .int .i64 0, .int .i64 0, .int .i64 0, .int .i64 0, .bool false] 25)).cell? ⟨b, off + 8, none⟩ = some (.int .u8 x8) := cell2a c8
  have c9' : ((w.alloc (.cells #[.int .i64 cores, .int .i64 lines] 23)).alloc (.cells #[.int .i64 0, .int .i64 0, .int .i64 0, .int .i64 0, .int .i64 0, .int .i64 0, .int .i64 0, .bool false] 25)).cell? ⟨b, off + 9, none⟩ = some (.int .u8 x9) := cell2a c9
  have c10' : ((w.alloc (.cells #[.int .i64 cores, .int .i64 lines] 23)).alloc (.cells #[.int .i64 0, .int .i64 0, .int .i64 0, .int .i64 0, .int .i64 0, .int .i64 0, .int .i64 0, .bool false] 25)).cell? ⟨b, off + 10, none⟩ = some (.int .u8 x10) := cell2a c10
  have c11' : ((w.alloc (.cells #[.int .i64 cores, .int .i64 lines] 23)).alloc (.cells #[.int .i64 0, .int .i64 0, .int .i64 0, .int .i64 0, .int .i64 0, .int .i64 0, .int .i64 0, .bool false] 25)).cell? ⟨b, off + 11, none⟩ = some (.int .u8 x11) := cell2a c11
  have d0' : (x0 : Int) ≤ 255 := by omega
  have d1' : (x1 : Int) ≤ 255 := by omega
  have d2' : (x2 : Int) ≤ 255 := by omega
  have d3' : (x3 : Int) ≤ 255 := by omega
  have d4' : (x4 : Int) ≤ 255 := by omega
  have d5' : (x5 : Int) ≤ 255 := by omega
  have d6' : (x6 : Int) ≤ 255 := by omega
  have d7' : (x7 : Int) ≤ 255 := by omega
  have d8' : (x8 : Int) ≤ 255 := by omega
  have d9' : (x9 : Int) ≤ 255 := by omega
  have d10' : (x10 : Int) ≤ 255 := by omega
  have d11' : (x11 : Int) ≤ 255 := by omega
  subst hG0
  go_enter Try.func13, Try.ntmps13
  go_wp2
  go_quiet ((go_at_call 9; exact Calls.quiet_of_same (ks _ (below_drewN (below2 _ _ _) _))))
  go_wp2
  · clear ks
    refine wp_region_free 48 [] (by kernel_rfl) (by kernel_rfl) (by kernel_rfl) ?_
    dsimp only [List.take, List.drop]
    refine freeOK_step (fun v _ => v = .slice (some ⟨b, off, none⟩) 12 cap) (stable_eq _) rfl ?_ ?_
    · intro σ W hG hd
      refine ⟨?_⟩
      dsimp only [putAll]
      go_wp2
      exact stepPost_mk (Gr.refl _) rfl rfl
    dsimp only [List.nil_append, List.cons_append]
    refine freeOK_step (fun v _ => v = .pointer (some ⟨b, off, none⟩)) (stable_eq _) rfl ?_ ?_
    · intro σ W hG hd
      have e0 : σ 0 = .slice (some ⟨b, off, none⟩) 12 cap := hd ⟨0, .data⟩ (by simp) rfl (fun v _ => v = .slice (some ⟨b, off, none⟩) 12 cap) rfl
      refine ⟨?_⟩
      simp only [putAll, Act.put, List.nil_append, List.cons_append, List.setIfInBounds_toArray, List.set_cons_zero, List.set_cons_succ, e0]
      go_wp2
      exact stepPost_mk (Gr.refl _) rfl rfl
    dsimp only [List.nil_append, List.cons_append]
    refine freeOK_step (fun v _ => v = .int .u8 x0) (stable_eq _) rfl ?_ ?_
    · intro σ W hG hd
      have e1 : σ 1 = .pointer (some ⟨b, off, none⟩) := hd ⟨1, .data⟩ (by simp) rfl (fun v _ => v = .pointer (some ⟨b, off, none⟩)) rfl
      have q := gcell hG (a := ⟨b, off, none⟩) (v := .int .u8 x0) c0'
      refine ⟨?_⟩
      simp only [putAll, Act.put, List.nil_append, List.cons_append, List.setIfInBounds_toArray, List.set_cons_zero, List.set_cons_succ, e1]
      go_wp2
      exact stepPost_mk (Gr.refl _) rfl rfl
    dsimp only [List.nil_append, List.cons_append]
    refine freeOK_step (fun v _ => v = .int .i64 ((x0 : Int))) (stable_eq _) rfl ?_ ?_
    · intro σ W hG hd
      have e2 : σ 2 = .int .u8 x0 := hd ⟨2, .data⟩ (by simp) rfl (fun v _ => v = .int .u8 x0) rfl
      refine ⟨?_⟩
      simp only [putAll, Act.put, List.nil_append, List.cons_append, List.setIfInBounds_toArray, List.set_cons_zero, List.set_cons_succ, e2]
      go_wp2
      exact stepPost_mk (Gr.refl _) rfl rfl
    dsimp only [List.nil_append, List.cons_append]
    refine freeOK_step (fun v _ => v = .slice (some ⟨b, off, none⟩) 12 cap) (stable_eq _) rfl ?_ ?_
    · intro σ W hG hd
      refine ⟨?_⟩
      simp only [putAll, Act.put, List.nil_append, List.cons_append, List.setIfInBounds_toArray, List.set_cons_zero, List.set_cons_succ]
      go_wp2
      exact stepPost_mk (Gr.refl _) rfl rfl
    dsimp only [List.nil_append, List.cons_append]
    refine freeOK_step (fun v _ => v = .pointer (some ⟨b, off + 1, none⟩)) (stable_eq _) rfl ?_ ?_
    · intro σ W hG hd
      have e4 : σ 4 = .slice (some ⟨b, off, none⟩) 12 cap := hd ⟨4, .data⟩ (by simp) rfl (fun v _ => v = .slice (some ⟨b, off, none⟩) 12 cap) rfl
      refine ⟨?_⟩
      simp only [putAll, Act.put, List.nil_append, List.cons_append, List.setIfInBounds_toArray, List.set_cons_zero, List.set_cons_succ, e4]
      go_wp2
      exact stepPost_mk (Gr.refl _) rfl rfl
    dsimp only [List.nil_append, List.cons_append]
    refine freeOK_step (fun v _ => v = .int .u8 x1) (stable_eq _) rfl ?_ ?_
    · intro σ W hG hd
      have e5 : σ 5 = .pointer (some ⟨b, off + 1, none⟩) := hd ⟨5, .data⟩ (by simp) rfl (fun v _ => v = .pointer (some ⟨b, off + 1, none⟩)) rfl
      have q := gcell hG (a := ⟨b, off + 1, none⟩) (v := .int .u8 x1) c1'
      refine ⟨?_⟩
      simp only [putAll, Act.put, List.nil_append, List.cons_append, List.setIfInBounds_toArray, List.set_cons_zero, List.set_cons_succ, e5]
      go_wp2
      exact stepPost_mk (Gr.refl _) rfl rfl
    dsimp only [List.nil_append, List.cons_append]
    refine freeOK_step (fun v _ => v = .int .i64 ((x1 : Int))) (stable_eq _) rfl ?_ ?_
    · intro σ W hG hd
      have e6 : σ 6 = .int .u8 x1 := hd ⟨6, .data⟩ (by simp) rfl (fun v _ => v = .int .u8 x1) rfl
      refine ⟨?_⟩
      simp only [putAll, Act.put, List.nil_append, List.cons_append, List.setIfInBounds_toArray, List.set_cons_zero, List.set_cons_succ, e6]
      go_wp2
      exact stepPost_mk (Gr.refl _) rfl rfl
    dsimp only [List.nil_append, List.cons_append]
    refine freeOK_step (fun v _ => v = .int .i64 ((x1 : Int) / 16)) (stable_eq _) rfl ?_ ?_
    · intro σ W hG hd
      have e7 : σ 7 = .int .i64 ((x1 : Int)) := hd ⟨7, .data⟩ (by simp) rfl (fun v _ => v = .int .i64 ((x1 : Int))) rfl
      refine ⟨?_⟩
      simp only [putAll, Act.put, List.nil_append, List.cons_append, List.setIfInBounds_toArray, List.set_cons_zero, List.set_cons_succ, e7]
      go_wp2
      exact stepPost_mk (Gr.refl _) rfl rfl
    dsimp only [List.nil_append, List.cons_append]
    refine freeOK_step (fun v _ => v = .slice (some ⟨b, off, none⟩) 12 cap) (stable_eq _) rfl ?_ ?_
    · intro σ W hG hd
      refine ⟨?_⟩
      simp only [putAll, Act.put, List.nil_append, List.cons_append, List.setIfInBounds_toArray, List.set_cons_zero, List.set_cons_succ]
      go_wp2
      exact stepPost_mk (Gr.refl _) rfl rfl
    dsimp only [List.nil_append, List.cons_append]
    refine freeOK_step (fun v _ => v = .pointer (some ⟨b, off + 1, none⟩)) (stable_eq _) rfl ?_ ?_
    · intro σ W hG hd
      have e9 : σ 9 = .slice (some ⟨b, off, none⟩) 12 cap := hd ⟨9, .data⟩ (by simp) rfl (fun v _ => v = .slice (some ⟨b, off, none⟩) 12 cap) rfl
      refine ⟨?_⟩
      simp only [putAll, Act.put, List.nil_append, List.cons_append, List.setIfInBounds_toArray, List.set_cons_zero, List.set_cons_succ, e9]
      go_wp2
      exact stepPost_mk (Gr.refl _) rfl rfl
    dsimp only [List.nil_append, List.cons_append]
    refine freeOK_step (fun v _ => v = .int .u8 x1) (stable_eq _) rfl ?_ ?_
    · intro σ W hG hd
      have e10 : σ 10 = .pointer (some ⟨b, off + 1, none⟩) := hd ⟨10, .data⟩ (by simp) rfl (fun v _ => v = .pointer (some ⟨b, off + 1, none⟩)) rfl
      have q := gcell hG (a := ⟨b, off + 1, none⟩) (v := .int .u8 x1) c1'
      refine ⟨?_⟩
      simp only [putAll, Act.put, List.nil_append, List.cons_append, List.setIfInBounds_toArray, List.set_cons_zero, List.set_cons_succ, e10]
      go_wp2
      exact stepPost_mk (Gr.refl _) rfl rfl
    dsimp only [List.nil_append, List.cons_append]
    refine freeOK_step (fun v _ => v = .int .i64 ((x1 : Int))) (stable_eq _) rfl ?_ ?_
    · intro σ W hG hd
      have e11 : σ 11 = .int .u8 x1 := hd ⟨11, .data⟩ (by simp) rfl (fun v _ => v = .int .u8 x1) rfl
      refine ⟨?_⟩
      simp only [putAll, Act.put, List.nil_append, List.cons_append, List.setIfInBounds_toArray, List.set_cons_zero, List.set_cons_succ, e11]
      go_wp2
      exact stepPost_mk (Gr.refl _) rfl rfl
    dsimp only [List.nil_append, List.cons_append]
    refine freeOK_step (fun v _ => v = .int .i64 ((x1 : Int) % 16)) (stable_eq _) rfl ?_ ?_
    · intro σ W hG hd
      have e12 : σ 12 = .int .i64 ((x1 : Int)) := hd ⟨12, .data⟩ (by simp) rfl (fun v _ => v = .int .i64 ((x1 : Int))) rfl
      refine ⟨?_⟩
      simp only [putAll, Act.put, List.nil_append, List.cons_append, List.setIfInBounds_toArray, List.set_cons_zero, List.set_cons_succ, e12]
      go_wp2
      exact stepPost_mk (Gr.refl _) rfl rfl
    dsimp only [List.nil_append, List.cons_append]
    refine freeOK_step (fun v _ => v = .slice (some ⟨b, off, none⟩) 12 cap) (stable_eq _) rfl ?_ ?_
    · intro σ W hG hd
      refine ⟨?_⟩
      simp only [putAll, Act.put, List.nil_append, List.cons_append, List.setIfInBounds_toArray, List.set_cons_zero, List.set_cons_succ]
      go_wp2
      exact stepPost_mk (Gr.refl _) rfl rfl
    dsimp only [List.nil_append, List.cons_append]
    refine freeOK_step (fun v _ => v = .pointer (some ⟨b, off + 2, none⟩)) (stable_eq _) rfl ?_ ?_
    · intro σ W hG hd
      have e14 : σ 14 = .slice (some ⟨b, off, none⟩) 12 cap := hd ⟨14, .data⟩ (by simp) rfl (fun v _ => v = .slice (some ⟨b, off, none⟩) 12 cap) rfl
      refine ⟨?_⟩
      simp only [putAll, Act.put, List.nil_append, List.cons_append, List.setIfInBounds_toArray, List.set_cons_zero, List.set_cons_succ, e14]
      go_wp2
      exact stepPost_mk (Gr.refl _) rfl rfl
    dsimp only [List.nil_append, List.cons_append]
    refine freeOK_step (fun v _ => v = .int .u8 x2) (stable_eq _) rfl ?_ ?_
    · intro σ W hG hd
      have e15 : σ 15 = .pointer (some ⟨b, off + 2, none⟩) := hd ⟨15, .data⟩ (by simp) rfl (fun v _ => v = .pointer (some ⟨b, off + 2, none⟩)) rfl
      have q := gcell hG (a := ⟨b, off + 2, none⟩) (v := .int .u8 x2) c2'
      refine ⟨?_⟩
      simp only [putAll, Act.put, List.nil_append, List.cons_append, List.setIfInBounds_toArray, List.set_cons_zero, List.set_cons_succ, e15]
      go_wp2
      exact stepPost_mk (Gr.refl _) rfl rfl
    dsimp only [List.nil_append, List.cons_append]
    refine freeOK_step (fun v _ => v = .int .i64 ((x2 : Int))) (stable_eq _) rfl ?_ ?_
    · intro σ W hG hd
      have e16 : σ 16 = .int .u8 x2 := hd ⟨16, .data⟩ (by simp) rfl (fun v _ => v = .int .u8 x2) rfl
      refine ⟨?_⟩
      simp only [putAll, Act.put, List.nil_append, List.cons_append, List.setIfInBounds_toArray, List.set_cons_zero, List.set_cons_succ, e16]
      go_wp2
      exact stepPost_mk (Gr.refl _) rfl rfl
    dsimp only [List.nil_append, List.cons_append]
    refine freeOK_step (fun v _ => v = .slice (some ⟨b, off, none⟩) 12 cap) (stable_eq _) rfl ?_ ?_
    · intro σ W hG hd
      refine ⟨?_⟩
      simp only [putAll, Act.put, List.nil_append, List.cons_append, List.setIfInBounds_toArray, List.set_cons_zero, List.set_cons_succ]
      go_wp2
      exact stepPost_mk (Gr.refl _) rfl rfl
    dsimp only [List.nil_append, List.cons_append]
    refine freeOK_step (fun v _ => v = .pointer (some ⟨b, off + 3, none⟩)) (stable_eq _) rfl ?_ ?_
    · intro σ W hG hd
      have e18 : σ 18 = .slice (some ⟨b, off, none⟩) 12 cap := hd ⟨18, .data⟩ (by simp) rfl (fun v _ => v = .slice (some ⟨b, off, none⟩) 12 cap) rfl
      refine ⟨?_⟩
      simp only [putAll, Act.put, List.nil_append, List.cons_append, List.setIfInBounds_toArray, List.set_cons_zero, List.set_cons_succ, e18]
      go_wp2
      exact stepPost_mk (Gr.refl _) rfl rfl
    dsimp only [List.nil_append, List.cons_append]
    refine freeOK_step (fun v _ => v = .int .u8 x3) (stable_eq _) rfl ?_ ?_
    · intro σ W hG hd
      have e19 : σ 19 = .pointer (some ⟨b, off + 3, none⟩) := hd ⟨19, .data⟩ (by simp) rfl (fun v _ => v = .pointer (some ⟨b, off + 3, none⟩)) rfl
      have q := gcell hG (a := ⟨b, off + 3, none⟩) (v := .int .u8 x3) c3'
      refine ⟨?_⟩
      simp only [putAll, Act.put, List.nil_append, List.cons_append, List.setIfInBounds_toArray, List.set_cons_zero, List.set_cons_succ, e19]
      go_wp2
      exact stepPost_mk (Gr.refl _) rfl rfl
    dsimp only [List.nil_append, List.cons_append]
    refine freeOK_step (fun v _ => v = .int .i64 ((x3 : Int))) (stable_eq _) rfl ?_ ?_
    · intro σ W hG hd
      have e20 : σ 20 = .int .u8 x3 := hd ⟨20, .data⟩ (by simp) rfl (fun v _ => v = .int .u8 x3) rfl
      refine ⟨?_⟩
      simp only [putAll, Act.put, List.nil_append, List.cons_append, List.setIfInBounds_toArray, List.set_cons_zero, List.set_cons_succ, e20]
      go_wp2
      exact stepPost_mk (Gr.refl _) rfl rfl
    dsimp only [List.nil_append, List.cons_append]
    refine freeOK_step (fun v _ => v = .int .i64 (256 * (x3 : Int))) (stable_eq _) rfl ?_ ?_
    · intro σ W hG hd
      have e21 : σ 21 = .int .i64 ((x3 : Int)) := hd ⟨21, .data⟩ (by simp) rfl (fun v _ => v = .int .i64 ((x3 : Int))) rfl
      refine ⟨?_⟩
      simp only [putAll, Act.put, List.nil_append, List.cons_append, List.setIfInBounds_toArray, List.set_cons_zero, List.set_cons_succ, e21]
      go_wp2
      exact stepPost_mk (Gr.refl _) rfl rfl
    dsimp only [List.nil_append, List.cons_append]
    refine freeOK_step (fun v _ => v = .slice (some ⟨b, off, none⟩) 12 cap) (stable_eq _) rfl ?_ ?_
    · intro σ W hG hd
      refine ⟨?_⟩
      simp only [putAll, Act.put, List.nil_append, List.cons_append, List.setIfInBounds_toArray, List.set_cons_zero, List.set_cons_succ]
      go_wp2
      exact stepPost_mk (Gr.refl _) rfl rfl
    dsimp only [List.nil_append, List.cons_append]
    refine freeOK_step (fun v _ => v = .pointer (some ⟨b, off + 4, none⟩)) (stable_eq _) rfl ?_ ?_
    · intro σ W hG hd
      have e23 : σ 23 = .slice (some ⟨b, off, none⟩) 12 cap := hd ⟨23, .data⟩ (by simp) rfl (fun v _ => v = .slice (some ⟨b, off, none⟩) 12 cap) rfl
      refine ⟨?_⟩
      simp only [putAll, Act.put, List.nil_append, List.cons_append, List.setIfInBounds_toArray, List.set_cons_zero, List.set_cons_succ, e23]
      go_wp2
      exact stepPost_mk (Gr.refl _) rfl rfl
    dsimp only [List.nil_append, List.cons_append]
    refine freeOK_step (fun v _ => v = .int .u8 x4) (stable_eq _) rfl ?_ ?_
    · intro σ W hG hd
      have e24 : σ 24 = .pointer (some ⟨b, off + 4, none⟩) := hd ⟨24, .data⟩ (by simp) rfl (fun v _ => v = .pointer (some ⟨b, off + 4, none⟩)) rfl
      have q := gcell hG (a := ⟨b, off + 4, none⟩) (v := .int .u8 x4) c4'
      refine ⟨?_⟩
      simp only [putAll, Act.put, List.nil_append, List.cons_append, List.setIfInBounds_toArray, List.set_cons_zero, List.set_cons_succ, e24]
      go_wp2
      exact stepPost_mk (Gr.refl _) rfl rfl
    dsimp only [List.nil_append, List.cons_append]
    refine freeOK_step (fun v _ => v = .int .i64 ((x4 : Int))) (stable_eq _) rfl ?_ ?_
    · intro σ W hG hd
      have e25 : σ 25 = .int .u8 x4 := hd ⟨25, .data⟩ (by simp) rfl (fun v _ => v = .int .u8 x4) rfl
      refine ⟨?_⟩
      simp only [putAll, Act.put, List.nil_append, List.cons_append, List.setIfInBounds_toArray, List.set_cons_zero, List.set_cons_succ, e25]
      go_wp2
      exact stepPost_mk (Gr.refl _) rfl rfl
    dsimp only [List.nil_append, List.cons_append]
    refine freeOK_step (fun v _ => v = .int .i64 (256 * (x3 : Int) + (x4 : Int))) (stable_eq _) rfl ?_ ?_
    · intro σ W hG hd
      have e22 : σ 22 = .int .i64 (256 * (x3 : Int)) := hd ⟨22, .data⟩ (by simp) rfl (fun v _ => v = .int .i64 (256 * (x3 : Int))) rfl
      have e26 : σ 26 = .int .i64 ((x4 : Int)) := hd ⟨26, .data⟩ (by simp) rfl (fun v _ => v = .int .i64 ((x4 : Int))) rfl
      refine ⟨?_⟩
      simp only [putAll, Act.put, List.nil_append, List.cons_append, List.setIfInBounds_toArray, List.set_cons_zero, List.set_cons_succ, e22, e26]
      go_wp2
      exact stepPost_mk (Gr.refl _) rfl rfl
    dsimp only [List.nil_append, List.cons_append]
    refine freeOK_step (fun v _ => v = .slice (some ⟨b, off, none⟩) 12 cap) (stable_eq _) rfl ?_ ?_
    · intro σ W hG hd
      refine ⟨?_⟩
      simp only [putAll, Act.put, List.nil_append, List.cons_append, List.setIfInBounds_toArray, List.set_cons_zero, List.set_cons_succ]
      go_wp2
      exact stepPost_mk (Gr.refl _) rfl rfl
    dsimp only [List.nil_append, List.cons_append]
    refine freeOK_step (fun v _ => v = .pointer (some ⟨b, off + 5, none⟩)) (stable_eq _) rfl ?_ ?_
    · intro σ W hG hd
      have e28 : σ 28 = .slice (some ⟨b, off, none⟩) 12 cap := hd ⟨28, .data⟩ (by simp) rfl (fun v _ => v = .slice (some ⟨b, off, none⟩) 12 cap) rfl
      refine ⟨?_⟩
      simp only [putAll, Act.put, List.nil_append, List.cons_append, List.setIfInBounds_toArray, List.set_cons_zero, List.set_cons_succ, e28]
      go_wp2
      exact stepPost_mk (Gr.refl _) rfl rfl
    dsimp only [List.nil_append, List.cons_append]
    refine freeOK_step (fun v _ => v = .int .u8 x5) (stable_eq _) rfl ?_ ?_
    · intro σ W hG hd
      have e29 : σ 29 = .pointer (some ⟨b, off + 5, none⟩) := hd ⟨29, .data⟩ (by simp) rfl (fun v _ => v = .pointer (some ⟨b, off + 5, none⟩)) rfl
      have q := gcell hG (a := ⟨b, off + 5, none⟩) (v := .int .u8 x5) c5'
      refine ⟨?_⟩
      simp only [putAll, Act.put, List.nil_append, List.cons_append, List.setIfInBounds_toArray, List.set_cons_zero, List.set_cons_succ, e29]
      go_wp2
      exact stepPost_mk (Gr.refl _) rfl rfl
    dsimp only [List.nil_append, List.cons_append]
    refine freeOK_step (fun v _ => v = .int .i64 ((x5 : Int))) (stable_eq _) rfl ?_ ?_
    · intro σ W hG hd
      have e30 : σ 30 = .int .u8 x5 := hd ⟨30, .data⟩ (by simp) rfl (fun v _ => v = .int .u8 x5) rfl
      refine ⟨?_⟩
      simp only [putAll, Act.put, List.nil_append, List.cons_append, List.setIfInBounds_toArray, List.set_cons_zero, List.set_cons_succ, e30]
      go_wp2
      exact stepPost_mk (Gr.refl _) rfl rfl
    dsimp only [List.nil_append, List.cons_append]
    refine freeOK_step (fun v _ => v = .int .i64 (256 * (x5 : Int))) (stable_eq _) rfl ?_ ?_
    · intro σ W hG hd
      have e31 : σ 31 = .int .i64 ((x5 : Int)) := hd ⟨31, .data⟩ (by simp) rfl (fun v _ => v = .int .i64 ((x5 : Int))) rfl
      refine ⟨?_⟩
      simp only [putAll, Act.put, List.nil_append, List.cons_append, List.setIfInBounds_toArray, List.set_cons_zero, List.set_cons_succ, e31]
      go_wp2
      exact stepPost_mk (Gr.refl _) rfl rfl
    dsimp only [List.nil_append, List.cons_append]
    refine freeOK_step (fun v _ => v = .slice (some ⟨b, off, none⟩) 12 cap) (stable_eq _) rfl ?_ ?_
    · intro σ W hG hd
      refine ⟨?_⟩
      simp only [putAll, Act.put, List.nil_append, List.cons_append, List.setIfInBounds_toArray, List.set_cons_zero, List.set_cons_succ]
      go_wp2
      exact stepPost_mk (Gr.refl _) rfl rfl
    dsimp only [List.nil_append, List.cons_append]
    refine freeOK_step (fun v _ => v = .pointer (some ⟨b, off + 6, none⟩)) (stable_eq _) rfl ?_ ?_
    · intro σ W hG hd
      have e33 : σ 33 = .slice (some ⟨b, off, none⟩) 12 cap := hd ⟨33, .data⟩ (by simp) rfl (fun v _ => v = .slice (some ⟨b, off, none⟩) 12 cap) rfl
      refine ⟨?_⟩
      simp only [putAll, Act.put, List.nil_append, List.cons_append, List.setIfInBounds_toArray, List.set_cons_zero, List.set_cons_succ, e33]
      go_wp2
      exact stepPost_mk (Gr.refl _) rfl rfl
    dsimp only [List.nil_append, List.cons_append]
    refine freeOK_step (fun v _ => v = .int .u8 x6) (stable_eq _) rfl ?_ ?_
    · intro σ W hG hd
      have e34 : σ 34 = .pointer (some ⟨b, off + 6, none⟩) := hd ⟨34, .data⟩ (by simp) rfl (fun v _ => v = .pointer (some ⟨b, off + 6, none⟩)) rfl
      have q := gcell hG (a := ⟨b, off + 6, none⟩) (v := .int .u8 x6) c6'
      refine ⟨?_⟩
      simp only [putAll, Act.put, List.nil_append, List.cons_append, List.setIfInBounds_toArray, List.set_cons_zero, List.set_cons_succ, e34]
      go_wp2
      exact stepPost_mk (Gr.refl _) rfl rfl
    dsimp only [List.nil_append, List.cons_append]
    refine freeOK_step (fun v _ => v = .int .i64 ((x6 : Int))) (stable_eq _) rfl ?_ ?_
    · intro σ W hG hd
      have e35 : σ 35 = .int .u8 x6 := hd ⟨35, .data⟩ (by simp) rfl (fun v _ => v = .int .u8 x6) rfl
      refine ⟨?_⟩
      simp only [putAll, Act.put, List.nil_append, List.cons_append, List.setIfInBounds_toArray, List.set_cons_zero, List.set_cons_succ, e35]
      go_wp2
      exact stepPost_mk (Gr.refl _) rfl rfl
    dsimp only [List.nil_append, List.cons_append]
    refine freeOK_step (fun v _ => v = .int .i64 (256 * (x5 : Int) + (x6 : Int))) (stable_eq _) rfl ?_ ?_
    · intro σ W hG hd
      have e32 : σ 32 = .int .i64 (256 * (x5 : Int)) := hd ⟨32, .data⟩ (by simp) rfl (fun v _ => v = .int .i64 (256 * (x5 : Int))) rfl
      have e36 : σ 36 = .int .i64 ((x6 : Int)) := hd ⟨36, .data⟩ (by simp) rfl (fun v _ => v = .int .i64 ((x6 : Int))) rfl
      refine ⟨?_⟩
      simp only [putAll, Act.put, List.nil_append, List.cons_append, List.setIfInBounds_toArray, List.set_cons_zero, List.set_cons_succ, e32, e36]
      go_wp2
      exact stepPost_mk (Gr.refl _) rfl rfl
    dsimp only [List.nil_append, List.cons_append]
    refine freeOK_step (fun v _ => v = .slice (some ⟨b, off, none⟩) 12 cap) (stable_eq _) rfl ?_ ?_
    · intro σ W hG hd
      refine ⟨?_⟩
      simp only [putAll, Act.put, List.nil_append, List.cons_append, List.setIfInBounds_toArray, List.set_cons_zero, List.set_cons_succ]
      go_wp2
      exact stepPost_mk (Gr.refl _) rfl rfl
    dsimp only [List.nil_append, List.cons_append]
    refine freeOK_step (fun v _ => v = .pointer (some ⟨b, off + 7, none⟩)) (stable_eq _) rfl ?_ ?_
    · intro σ W hG hd
      have e38 : σ 38 = .slice (some ⟨b, off, none⟩) 12 cap := hd ⟨38, .data⟩ (by simp) rfl (fun v _ => v = .slice (some ⟨b, off, none⟩) 12 cap) rfl
      refine ⟨?_⟩
      simp only [putAll, Act.put, List.nil_append, List.cons_append, List.setIfInBounds_toArray, List.set_cons_zero, List.set_cons_succ, e38]
      go_wp2
      exact stepPost_mk (Gr.refl _) rfl rfl
    dsimp only [List.nil_append, List.cons_append]
    refine freeOK_step (fun v _ => v = .int .u8 x7) (stable_eq _) rfl ?_ ?_
    · intro σ W hG hd
      have e39 : σ 39 = .pointer (some ⟨b, off + 7, none⟩) := hd ⟨39, .data⟩ (by simp) rfl (fun v _ => v = .pointer (some ⟨b, off + 7, none⟩)) rfl
      have q := gcell hG (a := ⟨b, off + 7, none⟩) (v := .int .u8 x7) c7'
      refine ⟨?_⟩
      simp only [putAll, Act.put, List.nil_append, List.cons_append, List.setIfInBounds_toArray, List.set_cons_zero, List.set_cons_succ, e39]
      go_wp2
      exact stepPost_mk (Gr.refl _) rfl rfl
    dsimp only [List.nil_append, List.cons_append]
    refine freeOK_step (fun v _ => v = .int .i64 ((x7 : Int))) (stable_eq _) rfl ?_ ?_
    · intro σ W hG hd
      have e40 : σ 40 = .int .u8 x7 := hd ⟨40, .data⟩ (by simp) rfl (fun v _ => v = .int .u8 x7) rfl
      refine ⟨?_⟩
      simp only [putAll, Act.put, List.nil_append, List.cons_append, List.setIfInBounds_toArray, List.set_cons_zero, List.set_cons_succ, e40]
      go_wp2
      exact stepPost_mk (Gr.refl _) rfl rfl
    dsimp only [List.nil_append, List.cons_append]
    refine freeOK_step (fun v _ => v = .slice (some ⟨b, off, none⟩) 12 cap) (stable_eq _) rfl ?_ ?_
    · intro σ W hG hd
      refine ⟨?_⟩
      simp only [putAll, Act.put, List.nil_append, List.cons_append, List.setIfInBounds_toArray, List.set_cons_zero, List.set_cons_succ]
      go_wp2
      exact stepPost_mk (Gr.refl _) rfl rfl
    dsimp only [List.nil_append, List.cons_append]
    refine freeOK_step (fun v _ => v = .pointer (some ⟨b, off + 8, none⟩)) (stable_eq _) rfl ?_ ?_
    · intro σ W hG hd
      have e42 : σ 42 = .slice (some ⟨b, off, none⟩) 12 cap := hd ⟨42, .data⟩ (by simp) rfl (fun v _ => v = .slice (some ⟨b, off, none⟩) 12 cap) rfl
      refine ⟨?_⟩
      simp only [putAll, Act.put, List.nil_append, List.cons_append, List.setIfInBounds_toArray, List.set_cons_zero, List.set_cons_succ, e42]
      go_wp2
      exact stepPost_mk (Gr.refl _) rfl rfl
    dsimp only [List.nil_append, List.cons_append]
    refine freeOK_step (fun v _ => v = .int .u8 x8) (stable_eq _) rfl ?_ ?_
    · intro σ W hG hd
      have e43 : σ 43 = .pointer (some ⟨b, off + 8, none⟩) := hd ⟨43, .data⟩ (by simp) rfl (fun v _ => v = .pointer (some ⟨b, off + 8, none⟩)) rfl
      have q := gcell hG (a := ⟨b, off + 8, none⟩) (v := .int .u8 x8) c8'
      refine ⟨?_⟩
      simp only [putAll, Act.put, List.nil_append, List.cons_append, List.setIfInBounds_toArray, List.set_cons_zero, List.set_cons_succ, e43]
      go_wp2
      exact stepPost_mk (Gr.refl _) rfl rfl
    dsimp only [List.nil_append, List.cons_append]
    refine freeOK_step (fun v _ => v = .bool ((x8 : Int) == 1)) (stable_eq _) rfl ?_ ?_
    · intro σ W hG hd
      have e44 : σ 44 = .int .u8 x8 := hd ⟨44, .data⟩ (by simp) rfl (fun v _ => v = .int .u8 x8) rfl
      refine ⟨?_⟩
      simp only [putAll, Act.put, List.nil_append, List.cons_append, List.setIfInBounds_toArray, List.set_cons_zero, List.set_cons_succ, e44]
      go_wp2
      exact stepPost_mk (Gr.refl _) rfl rfl
    dsimp only [List.nil_append, List.cons_append]
    refine freeOK_step (fun v _ => v = .agg #[.int .i64 ((x0 : Int)), .int .i64 ((x1 : Int) / 16), .int .i64 ((x1 : Int) % 16), .int .i64 ((x2 : Int)), .int .i64 (256 * (x3 : Int) + (x4 : Int)), .int .i64 (256 * (x5 : Int) + (x6 : Int)), .int .i64 ((x7 : Int)), .bool ((x8 : Int) == 1)]) (stable_eq _) rfl ?_ ?_
    · intro σ W hG hd
      have e3 : σ 3 = .int .i64 ((x0 : Int)) := hd ⟨3, .data⟩ (by simp) rfl (fun v _ => v = .int .i64 ((x0 : Int))) rfl
      have e8 : σ 8 = .int .i64 ((x1 : Int) / 16) := hd ⟨8, .data⟩ (by simp) rfl (fun v _ => v = .int .i64 ((x1 : Int) / 16)) rfl
      have e13 : σ 13 = .int .i64 ((x1 : Int) % 16) := hd ⟨13, .data⟩ (by simp) rfl (fun v _ => v = .int .i64 ((x1 : Int) % 16)) rfl
      have e17 : σ 17 = .int .i64 ((x2 : Int)) := hd ⟨17, .data⟩ (by simp) rfl (fun v _ => v = .int .i64 ((x2 : Int))) rfl
      have e27 : σ 27 = .int .i64 (256 * (x3 : Int) + (x4 : Int)) := hd ⟨27, .data⟩ (by simp) rfl (fun v _ => v = .int .i64 (256 * (x3 : Int) + (x4 : Int))) rfl
      have e37 : σ 37 = .int .i64 (256 * (x5 : Int) + (x6 : Int)) := hd ⟨37, .data⟩ (by simp) rfl (fun v _ => v = .int .i64 (256 * (x5 : Int) + (x6 : Int))) rfl
      have e41 : σ 41 = .int .i64 ((x7 : Int)) := hd ⟨41, .data⟩ (by simp) rfl (fun v _ => v = .int .i64 ((x7 : Int))) rfl
      have e45 : σ 45 = .bool ((x8 : Int) == 1) := hd ⟨45, .data⟩ (by simp) rfl (fun v _ => v = .bool ((x8 : Int) == 1)) rfl
      refine ⟨?_⟩
      simp only [putAll, Act.put, List.nil_append, List.cons_append, List.setIfInBounds_toArray, List.set_cons_zero, List.set_cons_succ, e3, e8, e13, e17, e27, e37, e41, e45]
      go_wp2
      exact stepPost_mk (Gr.refl _) rfl rfl
    dsimp only [List.nil_append, List.cons_append]
    refine freeOK_step (Box (w.heap.size + 2) #[.int .i64 0, .int .i64 0, .int .i64 0, .int .i64 0, .int .i64 0, .int .i64 0, .int .i64 0, .bool false] 25) (box_stable _ _ _) rfl ?_ ?_
    · intro σ W hG hd
      refine ⟨?_⟩
      simp only [putAll, Act.put, List.nil_append, List.cons_append, List.setIfInBounds_toArray, List.set_cons_zero, List.set_cons_succ]
      go_wp2
      exact stepPost_mk (gr_alloc _ _) rfl (box_alloc (Nat.le_trans (by simp) (Below.size hG)))
    dsimp only [List.nil_append, List.cons_append]
    refine freeOK_done fun σ W hG hR => ?_
    have e0 : σ 0 = .slice (some ⟨b, off, none⟩) 12 cap := hR 0 (fun v _ => v = .slice (some ⟨b, off, none⟩) 12 cap) rfl
    have e1 : σ 1 = .pointer (some ⟨b, off, none⟩) := hR 1 (fun v _ => v = .pointer (some ⟨b, off, none⟩)) rfl
    have e2 : σ 2 = .int .u8 x0 := hR 2 (fun v _ => v = .int .u8 x0) rfl
    have e3 : σ 3 = .int .i64 ((x0 : Int)) := hR 3 (fun v _ => v = .int .i64 ((x0 : Int))) rfl
    have e4 : σ 4 = .slice (some ⟨b, off, none⟩) 12 cap := hR 4 (fun v _ => v = .slice (some ⟨b, off, none⟩) 12 cap) rfl
    have e5 : σ 5 = .pointer (some ⟨b, off + 1, none⟩) := hR 5 (fun v _ => v = .pointer (some ⟨b, off + 1, none⟩)) rfl
    have e6 : σ 6 = .int .u8 x1 := hR 6 (fun v _ => v = .int .u8 x1) rfl
    have e7 : σ 7 = .int .i64 ((x1 : Int)) := hR 7 (fun v _ => v = .int .i64 ((x1 : Int))) rfl
    have e8 : σ 8 = .int .i64 ((x1 : Int) / 16) := hR 8 (fun v _ => v = .int .i64 ((x1 : Int) / 16)) rfl
    have e9 : σ 9 = .slice (some ⟨b, off, none⟩) 12 cap := hR 9 (fun v _ => v = .slice (some ⟨b, off, none⟩) 12 cap) rfl
    have e10 : σ 10 = .pointer (some ⟨b, off + 1, none⟩) := hR 10 (fun v _ => v = .pointer (some ⟨b, off + 1, none⟩)) rfl
    have e11 : σ 11 = .int .u8 x1 := hR 11 (fun v _ => v = .int .u8 x1) rfl
    have e12 : σ 12 = .int .i64 ((x1 : Int)) := hR 12 (fun v _ => v = .int .i64 ((x1 : Int))) rfl
    have e13 : σ 13 = .int .i64 ((x1 : Int) % 16) := hR 13 (fun v _ => v = .int .i64 ((x1 : Int) % 16)) rfl
    have e14 : σ 14 = .slice (some ⟨b, off, none⟩) 12 cap := hR 14 (fun v _ => v = .slice (some ⟨b, off, none⟩) 12 cap) rfl
    have e15 : σ 15 = .pointer (some ⟨b, off + 2, none⟩) := hR 15 (fun v _ => v = .pointer (some ⟨b, off + 2, none⟩)) rfl
    have e16 : σ 16 = .int .u8 x2 := hR 16 (fun v _ => v = .int .u8 x2) rfl
    have e17 : σ 17 = .int .i64 ((x2 : Int)) := hR 17 (fun v _ => v = .int .i64 ((x2 : Int))) rfl
    have e18 : σ 18 = .slice (some ⟨b, off, none⟩) 12 cap := hR 18 (fun v _ => v = .slice (some ⟨b, off, none⟩) 12 cap) rfl
    have e19 : σ 19 = .pointer (some ⟨b, off + 3, none⟩) := hR 19 (fun v _ => v = .pointer (some ⟨b, off + 3, none⟩)) rfl
    have e20 : σ 20 = .int .u8 x3 := hR 20 (fun v _ => v = .int .u8 x3) rfl
    have e21 : σ 21 = .int .i64 ((x3 : Int)) := hR 21 (fun v _ => v = .int .i64 ((x3 : Int))) rfl
    have e22 : σ 22 = .int .i64 (256 * (x3 : Int)) := hR 22 (fun v _ => v = .int .i64 (256 * (x3 : Int))) rfl
    have e23 : σ 23 = .slice (some ⟨b, off, none⟩) 12 cap := hR 23 (fun v _ => v = .slice (some ⟨b, off, none⟩) 12 cap) rfl
    have e24 : σ 24 = .pointer (some ⟨b, off + 4, none⟩) := hR 24 (fun v _ => v = .pointer (some ⟨b, off + 4, none⟩)) rfl
    have e25 : σ 25 = .int .u8 x4 := hR 25 (fun v _ => v = .int .u8 x4) rfl
    have e26 : σ 26 = .int .i64 ((x4 : Int)) := hR 26 (fun v _ => v = .int .i64 ((x4 : Int))) rfl
    have e27 : σ 27 = .int .i64 (256 * (x3 : Int) + (x4 : Int)) := hR 27 (fun v _ => v = .int .i64 (256 * (x3 : Int) + (x4 : Int))) rfl
    have e28 : σ 28 = .slice (some ⟨b, off, none⟩) 12 cap := hR 28 (fun v _ => v = .slice (some ⟨b, off, none⟩) 12 cap) rfl
    have e29 : σ 29 = .pointer (some ⟨b, off + 5, none⟩) := hR 29 (fun v _ => v = .pointer (some ⟨b, off + 5, none⟩)) rfl
    have e30 : σ 30 = .int .u8 x5 := hR 30 (fun v _ => v = .int .u8 x5) rfl
    have e31 : σ 31 = .int .i64 ((x5 : Int)) := hR 31 (fun v _ => v = .int .i64 ((x5 : Int))) rfl
    have e32 : σ 32 = .int .i64 (256 * (x5 : Int)) := hR 32 (fun v _ => v = .int .i64 (256 * (x5 : Int))) rfl
    have e33 : σ 33 = .slice (some ⟨b, off, none⟩) 12 cap := hR 33 (fun v _ => v = .slice (some ⟨b, off, none⟩) 12 cap) rfl
    have e34 : σ 34 = .pointer (some ⟨b, off + 6, none⟩) := hR 34 (fun v _ => v = .pointer (some ⟨b, off + 6, none⟩)) rfl
    have e35 : σ 35 = .int .u8 x6 := hR 35 (fun v _ => v = .int .u8 x6) rfl
    have e36 : σ 36 = .int .i64 ((x6 : Int)) := hR 36 (fun v _ => v = .int .i64 ((x6 : Int))) rfl
    have e37 : σ 37 = .int .i64 (256 * (x5 : Int) + (x6 : Int)) := hR 37 (fun v _ => v = .int .i64 (256 * (x5 : Int) + (x6 : Int))) rfl
    have e38 : σ 38 = .slice (some ⟨b, off, none⟩) 12 cap := hR 38 (fun v _ => v = .slice (some ⟨b, off, none⟩) 12 cap) rfl
    have e39 : σ 39 = .pointer (some ⟨b, off + 7, none⟩) := hR 39 (fun v _ => v = .pointer (some ⟨b, off + 7, none⟩)) rfl
    have e40 : σ 40 = .int .u8 x7 := hR 40 (fun v _ => v = .int .u8 x7) rfl
    have e41 : σ 41 = .int .i64 ((x7 : Int)) := hR 41 (fun v _ => v = .int .i64 ((x7 : Int))) rfl
    have e42 : σ 42 = .slice (some ⟨b, off, none⟩) 12 cap := hR 42 (fun v _ => v = .slice (some ⟨b, off, none⟩) 12 cap) rfl
    have e43 : σ 43 = .pointer (some ⟨b, off + 8, none⟩) := hR 43 (fun v _ => v = .pointer (some ⟨b, off + 8, none⟩)) rfl
    have e44 : σ 44 = .int .u8 x8 := hR 44 (fun v _ => v = .int .u8 x8) rfl
    have e45 : σ 45 = .bool ((x8 : Int) == 1) := hR 45 (fun v _ => v = .bool ((x8 : Int) == 1)) rfl
    have e46 : σ 46 = .agg #[.int .i64 ((x0 : Int)), .int .i64 ((x1 : Int) / 16), .int .i64 ((x1 : Int) % 16), .int .i64 ((x2 : Int)), .int .i64 (256 * (x3 : Int) + (x4 : Int)), .int .i64 (256 * (x5 : Int) + (x6 : Int)), .int .i64 ((x7 : Int)), .bool ((x8 : Int) == 1)] := hR 46 (fun v _ => v = .agg #[.int .i64 ((x0 : Int)), .int .i64 ((x1 : Int) / 16), .int .i64 ((x1 : Int) % 16), .int .i64 ((x2 : Int)), .int .i64 (256 * (x3 : Int) + (x4 : Int)), .int .i64 (256 * (x5 : Int) + (x6 : Int)), .int .i64 ((x7 : Int)), .bool ((x8 : Int) == 1)]) rfl
    have h47 : Box (w.heap.size + 2) #[.int .i64 0, .int .i64 0, .int .i64 0, .int .i64 0, .int .i64 0, .int .i64 0, .int .i64 0, .bool false] 25 (σ 47) W := hR 47 (Box (w.heap.size + 2) #[.int .i64 0, .int .i64 0, .int .i64 0, .int .i64 0, .int .i64 0, .int .i64 0, .int .i64 0, .bool false] 25) rfl
    obtain ⟨g47, e47, hB47, hbox47⟩ := h47
    have b0 : W.cell? ⟨g47, 0, none⟩ = some (.int .i64 0) := (cell_of_heap hbox47 0).trans rfl
    have b1 : W.cell? ⟨g47, 1, none⟩ = some (.int .i64 0) := (cell_of_heap hbox47 1).trans rfl
    have b2 : W.cell? ⟨g47, 2, none⟩ = some (.int .i64 0) := (cell_of_heap hbox47 2).trans rfl
    have b3 : W.cell? ⟨g47, 3, none⟩ = some (.int .i64 0) := (cell_of_heap hbox47 3).trans rfl
    have b4 : W.cell? ⟨g47, 4, none⟩ = some (.int .i64 0) := (cell_of_heap hbox47 4).trans rfl
    have b5 : W.cell? ⟨g47, 5, none⟩ = some (.int .i64 0) := (cell_of_heap hbox47 5).trans rfl
    have b6 : W.cell? ⟨g47, 6, none⟩ = some (.int .i64 0) := (cell_of_heap hbox47 6).trans rfl
    have b7 : W.cell? ⟨g47, 7, none⟩ = some (.bool false) := (cell_of_heap hbox47 7).trans rfl
    have f0 : W.frozen? ⟨g47, 0, none⟩ = false := free_of_heap hbox47 0
    have f1 : W.frozen? ⟨g47, 1, none⟩ = false := free_of_heap hbox47 1
    have f2 : W.frozen? ⟨g47, 2, none⟩ = false := free_of_heap hbox47 2
    have f3 : W.frozen? ⟨g47, 3, none⟩ = false := free_of_heap hbox47 3
    have f4 : W.frozen? ⟨g47, 4, none⟩ = false := free_of_heap hbox47 4
    have f5 : W.frozen? ⟨g47, 5, none⟩ = false := free_of_heap hbox47 5
    have f6 : W.frozen? ⟨g47, 6, none⟩ = false := free_of_heap hbox47 6
    have f7 : W.frozen? ⟨g47, 7, none⟩ = false := free_of_heap hbox47 7
    have qc0 := gcell hG (a := ⟨w.heap.size, 0, none⟩) (v := .int .i64 cores) (by go_cell)
    have qc1 := gcell hG (a := ⟨w.heap.size, 1, none⟩) (v := .int .i64 lines) (by go_cell)
    have z0 := gcell hG (a := ⟨w.heap.size + 1, 0, none⟩) (v := .int .i64 0) (by go_cell)
    have z1 := gcell hG (a := ⟨w.heap.size + 1, 1, none⟩) (v := .int .i64 0) (by go_cell)
    have z2 := gcell hG (a := ⟨w.heap.size + 1, 2, none⟩) (v := .int .i64 0) (by go_cell)
    have z3 := gcell hG (a := ⟨w.heap.size + 1, 3, none⟩) (v := .int .i64 0) (by go_cell)
    have z4 := gcell hG (a := ⟨w.heap.size + 1, 4, none⟩) (v := .int .i64 0) (by go_cell)
    have z5 := gcell hG (a := ⟨w.heap.size + 1, 5, none⟩) (v := .int .i64 0) (by go_cell)
    have z6 := gcell hG (a := ⟨w.heap.size + 1, 6, none⟩) (v := .int .i64 0) (by go_cell)
    have z7 := gcell hG (a := ⟨w.heap.size + 1, 7, none⟩) (v := .bool false) (by go_cell)
    have u0 : W.frozen? ⟨w.heap.size + 1, 0, none⟩ = false := (gfree hG (by simp)).trans (by simp)
    have u1 : W.frozen? ⟨w.heap.size + 1, 1, none⟩ = false := (gfree hG (by simp)).trans (by simp)
    have u2 : W.frozen? ⟨w.heap.size + 1, 2, none⟩ = false := (gfree hG (by simp)).trans (by simp)
    have u3 : W.frozen? ⟨w.heap.size + 1, 3, none⟩ = false := (gfree hG (by simp)).trans (by simp)
    have u4 : W.frozen? ⟨w.heap.size + 1, 4, none⟩ = false := (gfree hG (by simp)).trans (by simp)
    have u5 : W.frozen? ⟨w.heap.size + 1, 5, none⟩ = false := (gfree hG (by simp)).trans (by simp)
    have u6 : W.frozen? ⟨w.heap.size + 1, 6, none⟩ = false := (gfree hG (by simp)).trans (by simp)
    have u7 : W.frozen? ⟨w.heap.size + 1, 7, none⟩ = false := (gfree hG (by simp)).trans (by simp)
    have gl : g47 < W.heap.size := block_lt_of_cell b0
    have sz1 : w.heap.size + 1 < W.heap.size := block_lt_of_cell z0
    have sz0 : w.heap.size < W.heap.size := by omega
    have n1 : w.heap.size ≠ g47 := by omega
    have n2 : w.heap.size + 1 ≠ g47 := by omega
    clear hbox47
    refine ⟨?_⟩
    simp only [putAll, Act.put, List.nil_append, List.cons_append, List.setIfInBounds_toArray, List.set_cons_zero, List.set_cons_succ, e0, e1, e2, e3, e4, e5, e6, e7, e8, e9, e10, e11, e12, e13, e14, e15, e16, e17, e18, e19, e20, e21, e22, e23, e24, e25, e26, e27, e28, e29, e30, e31, e32, e33, e34, e35, e36, e37, e38, e39, e40, e41, e42, e43, e44, e45, e46, e47]
    clear hR e0 e1 e2 e3 e4 e5 e6 e7 e8 e9 e10 e11 e12 e13 e14 e15 e16 e17 e18 e19 e20 e21 e22 e23 e24 e25 e26 e27 e28 e29 e30 e31 e32 e33 e34 e35 e36 e37 e38 e39 e40 e41 e42 e43 e44 e45 e46 e47
    have hBW : Below w.heap.size w W := below_on (below_drewN (below2 _ _ _) nq).drew (below_drewN (below2 _ _ _) nq).drew.size hG
    go_wp2
    refine NP.normal ?_
    go_wp2_with (go_at_call 7; refine (kw _).mono ?_; rintro e w5 ⟨rfl, hb5⟩; obtain ⟨hc5, hf5⟩ := bcell hb5; have hW5 := below_w5' hBW (by omega) hb5; have zz := hb5.size)
    refine bodyPost_ret (v := .tuple #[.agg #[.int .i64 ((x0 : Int)), .int .i64 ((x1 : Int) / 16), .int .i64 ((x1 : Int) % 16), .int .i64 ((x2 : Int)), .int .i64 (256 * (x3 : Int) + (x4 : Int)), .int .i64 (256 * (x5 : Int) + (x6 : Int)), .int .i64 ((x7 : Int)), .bool ((x8 : Int) == 1)], .int .i64 0]) (by simp [results, Try.results13, go_sem, *]) rfl ⟨rfl, ?_⟩
    iterate 8 (with_reducible refine Below.setCell ?_ (by exact Nat.le_succ _) _)
    exact hW5
end Go.Proofs.Ytmjhmbalkgpcjaa
