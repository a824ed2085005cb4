/- shlaw1.alive answers true. -/
import Derived.Test.YtmjhmbalkgpcjaaFacts
import Derived.Test.YtmjhmbalkgpcjaaFree
namespace Go.Proofs.Ytmjhmbalkgpcjaa
open Go.RowKit
set_option linter.unusedVariables false
set_option linter.unusedSimpArgs false

def c0 : Cfg := { cores := 2, lines := 2 }
def m0 : Msg := { kind := 7, frm := 2, to := 1, line := 1, serial := 300, turn := 7, value := 9, alone := true }
theorem m0_fit : Fit m0 := by constructor <;> decide
theorem m0_wrong : wrongF c0 m0 = 0 := by decide

theorem parse_at (c : Cfg) (g : Nat) (xs : List Nat) (w : World) (hn : xs.length = 12) (hx : isBytes xs) (hc : BRow w g 0 xs) :
    Calls Try.prog 12 #[c.val, .slice (some ⟨g, 0, none⟩) 12 12] w fun e w' => e = .returned (.tuple #[(parseF c xs).1.val, .int .i64 (parseF c xs).2]) ∧ Below w.heap.size w w' := by
  have := parse_any c g 0 12 xs w (by omega) (by decide) hc hx
  rwa [hn] at this
theorem bytes_at (m : Msg) (h : Fit m) (w : World) :
    Calls Try.prog 14 #[m.val] w fun e w' => ∃ g, e = .returned (.slice (some ⟨g, 0, none⟩) 12 12) ∧ BRow w' g 0 (bytesF m) ∧ Below w.heap.size w w' :=
  (bytes_any m h w).mono fun e w' ⟨h1, h2, h3⟩ => ⟨_, h1, h2, h3⟩
theorem turn_at (g : Nat) (xs : List Nat) (bit : Int) (w : World) (hn : xs.length = 12) (hx : isBytes xs) (hb : bit ≤ 9223372036854775807) (hc : BRow w g 0 xs) :
    Calls Try.prog 10 #[.slice (some ⟨g, 0, none⟩) 12 12, .int .i64 bit] w fun e w' => ∃ g', e = .returned (.slice (some ⟨g', 0, none⟩) 12 12) ∧ BRow w' g' 0 (turnF xs bit) ∧ Below w.heap.size w w' := by
  have := turn_walk (some ⟨g, 0, none⟩) 12 xs bit w (by omega) hb ⟨hx, fun _ => ⟨g, 0, rfl, hc⟩⟩
  rw [hn] at this
  exact this.mono fun e w' ⟨h1, h2, h3⟩ => ⟨_, h1, h2.row, h3⟩
theorem sum_one (x : Nat) (hx : x < 256) (g : Nat) (w : World) (hc : w.cell? ⟨g, 0, none⟩ = some (.int .u8 x)) :
    Calls Try.prog 8 #[.slice (some ⟨g, 0, none⟩) 1 1] w fun e w' => e = .returned (.int .i64 (csum 65535 [x])) ∧ w' = w :=
  sum_any g 0 1 [x] w (by show 1 ≤ maxLen; decide) (fun i hi => by match i, hi with | 0, _ => exact hc) (fun i hi => by match i, hi with | 0, _ => exact hx)

theorem size2' {w w' : World} {o1 o2 : Obj} (hb : Below ((w.alloc o1).alloc o2).heap.size ((w.alloc o1).alloc o2) w') : w.heap.size + 1 < w'.heap.size ∧ w.heap.size < w'.heap.size := by
  have := hb.size; simp at this; omega
theorem size3' {w w1 w' : World} (h : w.heap.size + 1 < w1.heap.size) (hb : Below w1.heap.size w1 w') : w.heap.size + 1 < w'.heap.size ∧ w.heap.size < w'.heap.size := by
  have := hb.size; omega
theorem size4' {w w1 w2 w' : World} (h : w.heap.size + 1 < w1.heap.size) (hw : w1.heap.size ≤ w2.heap.size) (hb : Below w2.heap.size w2 w') : w.heap.size + 1 < w'.heap.size ∧ w.heap.size < w'.heap.size := by
  have := hb.size; omega
theorem below_set8 {B : Nat} {w W : World} {g : Nat} {v0 v1 v2 v3 v4 v5 v6 v7 : Value} (h : Below B w W) (hg : B ≤ g) : Below B w ((((((((W.setCell ⟨g, 0, none⟩ v0).setCell ⟨g, 1, none⟩ v1).setCell ⟨g, 2, none⟩ v2).setCell ⟨g, 3, none⟩ v3).setCell ⟨g, 4, none⟩ v4).setCell ⟨g, 5, none⟩ v5).setCell ⟨g, 6, none⟩ v6).setCell ⟨g, 7, none⟩ v7) :=
  (((((((h.setCell (by exact hg) _).setCell (by exact hg) _).setCell (by exact hg) _).setCell (by exact hg) _).setCell (by exact hg) _).setCell (by exact hg) _).setCell (by exact hg) _).setCell (by exact hg) _
theorem below_on {B : Nat} {w W w' : World} (h : Below B w W) (hB : B ≤ W.heap.size) (k : Below W.heap.size W w') : Below B w w' := h.trans (k.mono hB)
theorem alive_below {w w1 w2 W w5 : World} {o1 o2 o3 o4 o5 : Obj} {g : Nat} {v0 v1 v2 v3 v4 v5 v6 v7 : Value}
    (hb1 : Below ((w.alloc o1).alloc o2).heap.size ((w.alloc o1).alloc o2) w1) (hb2 : Below w1.heap.size w1 w2) (hG : Gr (w2.alloc o3).drew W) (hBg : w2.heap.size + 1 ≤ g)
    (hb5 : Below ((((((((W.setCell ⟨g, 0, none⟩ v0).setCell ⟨g, 1, none⟩ v1).setCell ⟨g, 2, none⟩ v2).setCell ⟨g, 3, none⟩ v3).setCell ⟨g, 4, none⟩ v4).setCell ⟨g, 5, none⟩ v5).setCell ⟨g, 6, none⟩ v6).setCell ⟨g, 7, none⟩ v7).heap.size ((((((((W.setCell ⟨g, 0, none⟩ v0).setCell ⟨g, 1, none⟩ v1).setCell ⟨g, 2, none⟩ v2).setCell ⟨g, 3, none⟩ v3).setCell ⟨g, 4, none⟩ v4).setCell ⟨g, 5, none⟩ v5).setCell ⟨g, 6, none⟩ v6).setCell ⟨g, 7, none⟩ v7) w5) :
    Below w.heap.size w ((w5.alloc o4).alloc o5) := by
  have g1 : Below w.heap.size w w1 := below_on (below2 w o1 o2) (below2 w o1 o2).size hb1
  have g2 : Below w.heap.size w w2 := below_on g1 g1.size hb2
  have g3 : Below w.heap.size w (w2.alloc o3).drew := (g2.alloc g2.size o3).drew
  have g4 : Below w.heap.size w W := below_on g3 g3.size hG
  have g5 := below_set8 (v0 := v0) (v1 := v1) (v2 := v2) (v3 := v3) (v4 := v4) (v5 := v5) (v6 := v6) (v7 := v7) g4 (by have := g2.size; omega : w.heap.size ≤ g)
  have g6 : Below w.heap.size w w5 := below_on g5 g5.size hb5
  exact (g6.alloc g6.size o4).alloc (g6.alloc g6.size o4).size o5

set_option maxHeartbeats 2000000 in
theorem alive_any (w : World) : Calls Try.prog 16 #[] w fun e w' => e = .returned (.bool true) ∧ Below w.heap.size w w' := by
  obtain ⟨Y, eY⟩ : ∃ Y, Y = bytesF m0 := ⟨_, rfl⟩
  obtain ⟨Z, eZ⟩ : ∃ Z, Z = turnF (bytesF m0) 5 := ⟨_, rfl⟩
  have bY : isBytes Y := by rw [eY]; exact bytesF_isBytes m0 m0_fit
  have bZ : isBytes Z := by rw [eZ]; exact turnF_isBytes _ _ (bytesF_isBytes m0 m0_fit)
  have nY : Y.length = 12 := by rw [eY]; rfl
  have nZ : Z.length = 12 := by rw [eZ, turnF_length]; rfl
  have kB := fun w => bytes_at m0 m0_fit w
  have kP := fun w g (h : BRow w g 0 Y) => parse_at c0 g Y w nY bY h
  have kT := fun w g (h : BRow w g 0 Y) => turn_at g Y 5 w nY bY (by decide) h
  have kZ := fun w g (h : BRow w g 0 Z) => parse_at c0 g Z w nZ bZ h
  have kW := fun w => wrong_any c0 m0 w
  rw [← eY] at kB
  rw [eY, parse_bytesF c0 m0 m0_fit m0_wrong, ← eY] at kP
  rw [eY, ← eZ, ← eY] at kT
  rw [eZ, parse_turn c0 m0 5 (by decide) (by decide), ← eZ] at kZ
  rw [m0_wrong] at kW
  obtain ⟨s1, e1⟩ : ∃ s, s = csum 65535 [1] := ⟨_, rfl⟩
  obtain ⟨s2, e2⟩ : ∃ s, s = csum 65535 [0] := ⟨_, rfl⟩
  have hne : ((s1 : Int) != (s2 : Int)) = true := by rw [e1, e2]; decide
  have k1 := fun g w h => sum_one 1 (by decide) g w h
  have k2 := fun g w h => sum_one 0 (by decide) g w h
  rw [← e1] at k1
  rw [← e2] at k2
  clear eY eZ bY bZ nY nZ e1 e2
  unfold Cfg.val Msg.val c0 m0 at *
  unfold Msg.zero at kZ
  go_enter Try.func16, Try.ntmps16
  go_wp2_with (first | (go_at_call 14; refine (kB _).mono ?_; rintro e w1 ⟨g1, rfl, hY, hb1⟩; obtain ⟨hc1, hf1⟩ := bcell hb1; obtain ⟨z1, y1⟩ := size2' hb1) | (go_at_call 12; refine (kP _ _ (by assumption)).mono ?_; rintro e w2 ⟨rfl, hb2⟩; obtain ⟨hc2, hf2⟩ := bcell hb2; have hY2 := hY.below hb2; obtain ⟨z2, y2⟩ := size3' z1 hb2))
  have hW0 := hb2.size
  refine wp_region_free 8 [6] (by kernel_rfl) (by kernel_rfl) (by kernel_rfl) ?_
  dsimp only [List.take, List.drop]
  refine freeOK_step (fun v _ => v = .agg #[.int .i64 2, .int .i64 2]) (stable_eq _) rfl ?_ ?_
  · intro σ W hG hd
    have q0 := gcell hG (a := ⟨w.heap.size, 0, none⟩) (v := .int .i64 2) (by go_cell)
    have q1 := gcell hG (a := ⟨w.heap.size, 1, none⟩) (v := .int .i64 2) (by go_cell)
    refine ⟨?_⟩
    dsimp only [putAll]
    go_wp2
    exact stepPost_mk (Gr.refl _) rfl rfl
  refine freeOK_step (fun v _ => v = .slice (some ⟨g1, 0, none⟩) 12 12) (stable_eq _) rfl ?_ ?_
  · intro σ W hG hd
    refine ⟨?_⟩
    simp only [putAll, Act.put, List.nil_append, List.cons_append, List.setIfInBounds_toArray, List.set_cons_zero, List.set_cons_succ]
    go_wp2
    exact stepPost_mk (Gr.refl _) rfl rfl
  refine freeOK_step (fun v w => ∃ g, v = .slice (some ⟨g, 0, none⟩) 12 12 ∧ BRow w g 0 Z) (fun _ _ _ hG ⟨g, h1, h2⟩ => ⟨g, h1, h2.below hG⟩) rfl ?_ ?_
  · intro σ W hG hd
    have e1 : σ 1 = .slice (some ⟨g1, 0, none⟩) 12 12 := hd ⟨1, .data⟩ (by simp) rfl _ rfl
    have hYW : BRow W g1 0 Y := (hY2.below (by go_grown)).below hG
    refine ⟨?_⟩
    simp only [putAll, Act.put, List.nil_append, List.cons_append, List.setIfInBounds_toArray, List.set_cons_zero, List.set_cons_succ, e1]
    go_wp2_with (go_at_call 10; refine (kT _ _ hYW).mono ?_; rintro e w3 ⟨g3, rfl, hZ, hb3⟩)
    exact stepPost_mk hb3 rfl ⟨g3, rfl, hZ⟩
  refine freeOK_step (fun v _ => v = .tuple #[.agg #[.int .i64 0, .int .i64 0, .int .i64 0, .int .i64 0, .int .i64 0, .int .i64 0, .int .i64 0, .bool false], .int .i64 7]) (stable_eq _) rfl ?_ ?_
  · intro σ W hG hd
    have e0 : σ 0 = .agg #[.int .i64 2, .int .i64 2] := hd ⟨0, .data⟩ (by simp) rfl _ rfl
    obtain ⟨g, e2, hZ⟩ : ∃ g, σ 2 = .slice (some ⟨g, 0, none⟩) 12 12 ∧ BRow W g 0 Z := hd ⟨2, .data⟩ (by simp) rfl _ rfl
    refine ⟨?_⟩
    simp only [putAll, Act.put, List.nil_append, List.cons_append, List.setIfInBounds_toArray, List.set_cons_zero, List.set_cons_succ, e0, e2]
    go_wp2_with (go_at_call 12; refine (kZ _ _ hZ).mono ?_; rintro e w3 ⟨rfl, hb3⟩)
    exact stepPost_mk hb3 rfl rfl
  refine freeOK_step (fun v _ => v = .tuple #[.agg #[.int .i64 0, .int .i64 0, .int .i64 0, .int .i64 0, .int .i64 0, .int .i64 0, .int .i64 0, .bool false], .int .i64 7]) (stable_eq _) rfl ?_ ?_
  · intro σ W hG hd
    have e3 : σ 3 = .tuple #[.agg #[.int .i64 0, .int .i64 0, .int .i64 0, .int .i64 0, .int .i64 0, .int .i64 0, .int .i64 0, .bool false], .int .i64 7] := hd ⟨3, .data⟩ (by simp) rfl _ rfl
    refine ⟨?_⟩
    simp only [putAll, Act.put, List.nil_append, List.cons_append, List.setIfInBounds_toArray, List.set_cons_zero, List.set_cons_succ, e3]
    go_wp2
    exact stepPost_mk (Gr.refl _) rfl rfl
  refine freeOK_step (fun v _ => v = .agg #[.int .i64 0, .int .i64 0, .int .i64 0, .int .i64 0, .int .i64 0, .int .i64 0, .int .i64 0, .bool false]) (stable_eq _) rfl ?_ ?_
  · intro σ W hG hd
    have e4 : σ 4 = .tuple #[.agg #[.int .i64 0, .int .i64 0, .int .i64 0, .int .i64 0, .int .i64 0, .int .i64 0, .int .i64 0, .bool false], .int .i64 7] := hd ⟨4, .data⟩ (by simp) rfl _ rfl
    refine ⟨?_⟩
    simp only [putAll, Act.put, List.nil_append, List.cons_append, List.setIfInBounds_toArray, List.set_cons_zero, List.set_cons_succ, e4]
    go_wp2
    exact stepPost_mk (Gr.refl _) rfl rfl
  refine freeOK_pure (fun v _ => v = .int .i64 7) (stable_eq _) rfl ?_ ?_
  · intro σ W hG hd
    have e4 : σ 4 = .tuple #[.agg #[.int .i64 0, .int .i64 0, .int .i64 0, .int .i64 0, .int .i64 0, .int .i64 0, .int .i64 0, .bool false], .int .i64 7] := hd ⟨4, .data⟩ (by simp) rfl _ rfl
    simp only [putAll, Act.put, List.nil_append, List.cons_append, List.setIfInBounds_toArray, List.set_cons_zero, List.set_cons_succ, e4]
    exact ⟨_, Or.inl ⟨rfl, fun w => rfl⟩, rfl⟩
  refine freeOK_step (Box (w2.heap.size + 1) #[.int .i64 0, .int .i64 0, .int .i64 0, .int .i64 0, .int .i64 0, .int .i64 0, .int .i64 0, .bool false] 25) (box_stable _ _ _) rfl ?_ ?_
  · intro σ W hG hd
    refine ⟨?_⟩
    simp only [putAll, Act.put, List.nil_append, List.cons_append, List.setIfInBounds_toArray, List.set_cons_zero, List.set_cons_succ]
    go_wp2
    exact stepPost_mk (gr_alloc _ _) rfl (box_alloc (Nat.le_trans (by simp) (Below.size hG)))
  refine freeOK_done fun σ W hG hR => ?_
  have e0 : σ 0 = .agg #[.int .i64 2, .int .i64 2] := hR 0 _ rfl
  have e1 : σ 1 = .slice (some ⟨g1, 0, none⟩) 12 12 := hR 1 _ rfl
  obtain ⟨g3, e2, _⟩ : ∃ g, σ 2 = .slice (some ⟨g, 0, none⟩) 12 12 ∧ BRow W g 0 Z := hR 2 _ rfl
  have e3 : σ 3 = .tuple #[.agg #[.int .i64 0, .int .i64 0, .int .i64 0, .int .i64 0, .int .i64 0, .int .i64 0, .int .i64 0, .bool false], .int .i64 7] := hR 3 _ rfl
  have e4 : σ 4 = .tuple #[.agg #[.int .i64 0, .int .i64 0, .int .i64 0, .int .i64 0, .int .i64 0, .int .i64 0, .int .i64 0, .bool false], .int .i64 7] := hR 4 _ rfl
  have e5 : σ 5 = .agg #[.int .i64 0, .int .i64 0, .int .i64 0, .int .i64 0, .int .i64 0, .int .i64 0, .int .i64 0, .bool false] := hR 5 _ rfl
  have e6 : σ 6 = .int .i64 7 := hR 6 _ rfl
  obtain ⟨g, e7, hBg, hbox⟩ : Box (w2.heap.size + 1) #[.int .i64 0, .int .i64 0, .int .i64 0, .int .i64 0, .int .i64 0, .int .i64 0, .int .i64 0, .bool false] 25 (σ 7) W := hR 7 _ rfl
  have b0 : W.cell? ⟨g, 0, none⟩ = some (.int .i64 0) := (cell_of_heap hbox 0).trans rfl
  have f0 : W.frozen? ⟨g, 0, none⟩ = false := free_of_heap hbox 0
  have b1 : W.cell? ⟨g, 1, none⟩ = some (.int .i64 0) := (cell_of_heap hbox 1).trans rfl
  have f1 : W.frozen? ⟨g, 1, none⟩ = false := free_of_heap hbox 1
  have b2 : W.cell? ⟨g, 2, none⟩ = some (.int .i64 0) := (cell_of_heap hbox 2).trans rfl
  have f2 : W.frozen? ⟨g, 2, none⟩ = false := free_of_heap hbox 2
  have b3 : W.cell? ⟨g, 3, none⟩ = some (.int .i64 0) := (cell_of_heap hbox 3).trans rfl
  have f3 : W.frozen? ⟨g, 3, none⟩ = false := free_of_heap hbox 3
  have b4 : W.cell? ⟨g, 4, none⟩ = some (.int .i64 0) := (cell_of_heap hbox 4).trans rfl
  have f4 : W.frozen? ⟨g, 4, none⟩ = false := free_of_heap hbox 4
  have b5 : W.cell? ⟨g, 5, none⟩ = some (.int .i64 0) := (cell_of_heap hbox 5).trans rfl
  have f5 : W.frozen? ⟨g, 5, none⟩ = false := free_of_heap hbox 5
  have b6 : W.cell? ⟨g, 6, none⟩ = some (.int .i64 0) := (cell_of_heap hbox 6).trans rfl
  have f6 : W.frozen? ⟨g, 6, none⟩ = false := free_of_heap hbox 6
  have b7 : W.cell? ⟨g, 7, none⟩ = some (.bool false) := (cell_of_heap hbox 7).trans rfl
  have f7 : W.frozen? ⟨g, 7, none⟩ = false := free_of_heap hbox 7
  have c0 := gcell hG (a := ⟨w.heap.size, 0, none⟩) (v := .int .i64 2) (by go_cell)
  have c1 := gcell hG (a := ⟨w.heap.size, 1, none⟩) (v := .int .i64 2) (by go_cell)
  have m0 := gcell hG (a := ⟨w.heap.size + 1, 0, none⟩) (v := .int .i64 7) (by go_cell)
  have x0 := gcell hG (a := ⟨w2.heap.size, 0, none⟩) (v := .int .i64 7) (by go_cell)
  have m1 := gcell hG (a := ⟨w.heap.size + 1, 1, none⟩) (v := .int .i64 2) (by go_cell)
  have x1 := gcell hG (a := ⟨w2.heap.size, 1, none⟩) (v := .int .i64 2) (by go_cell)
  have m2 := gcell hG (a := ⟨w.heap.size + 1, 2, none⟩) (v := .int .i64 1) (by go_cell)
  have x2 := gcell hG (a := ⟨w2.heap.size, 2, none⟩) (v := .int .i64 1) (by go_cell)
  have m3 := gcell hG (a := ⟨w.heap.size + 1, 3, none⟩) (v := .int .i64 1) (by go_cell)
  have x3 := gcell hG (a := ⟨w2.heap.size, 3, none⟩) (v := .int .i64 1) (by go_cell)
  have m4 := gcell hG (a := ⟨w.heap.size + 1, 4, none⟩) (v := .int .i64 300) (by go_cell)
  have x4 := gcell hG (a := ⟨w2.heap.size, 4, none⟩) (v := .int .i64 300) (by go_cell)
  have m5 := gcell hG (a := ⟨w.heap.size + 1, 5, none⟩) (v := .int .i64 7) (by go_cell)
  have x5 := gcell hG (a := ⟨w2.heap.size, 5, none⟩) (v := .int .i64 7) (by go_cell)
  have m6 := gcell hG (a := ⟨w.heap.size + 1, 6, none⟩) (v := .int .i64 9) (by go_cell)
  have x6 := gcell hG (a := ⟨w2.heap.size, 6, none⟩) (v := .int .i64 9) (by go_cell)
  have m7 := gcell hG (a := ⟨w.heap.size + 1, 7, none⟩) (v := .bool true) (by go_cell)
  have x7 := gcell hG (a := ⟨w2.heap.size, 7, none⟩) (v := .bool true) (by go_cell)
  have n1 : w.heap.size ≠ g := by omega
  have n2 : w.heap.size + 1 ≠ g := by omega
  have n3 : w2.heap.size ≠ g := by omega
  have gl : g < W.heap.size := block_lt_of_cell b0
  clear hY hY2 hc1 hf1 hc2 hf2 hbox
  refine ⟨?_⟩
  simp only [putAll, Act.put, List.nil_append, List.cons_append, List.setIfInBounds_toArray, List.set_cons_zero, List.set_cons_succ, e0, e1, e2, e3, e4, e5, e6, e7]
  clear e0 e1 e2 e3 e4 e5 e6 e7 hR
  go_wp2
  refine NP.normal ?_
  go_wp2_with (first | (go_at_call 6; refine (kW _).mono ?_; rintro e w5 ⟨rfl, hb5⟩) | (go_at_call_of 8 (Value.slice (some (Addr.mk w5.heap.size 0 none)) 1 1); refine (k1 _ _ (by go_cell)).mono ?_; rintro e w' ⟨rfl, rfl⟩) | (go_at_call 8; refine (k2 _ _ (by go_cell)).mono ?_; rintro e w' ⟨rfl, rfl⟩))
  go_ret
  exact ⟨rfl, alive_below hb1 hb2 hG hBg hb5⟩
end Go.Proofs.Ytmjhmbalkgpcjaa
