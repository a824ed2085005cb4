/- shlaw3.FlatTells answers true, for every input. -/
import Derived.Test.YtmlpekoombikaabFlatLaws
import Derived.Test.YtmlpekoombikaabFree
namespace Go.Proofs.Ytmlpekoombikaab
set_option maxRecDepth 100000
open Go.RowKit
set_option linter.unusedVariables false
set_option linter.unusedSimpArgs false

theorem gr_drewI {w W : World} (h : Gr w.drew W) : Below w.heap.size w W := Below.trans (below_drewN (Below.refl _ _) 1) h
theorem do_all (a : Option Addr) (cap : Nat) (xs : List Int) (o : SOp) (w : World) (hn : xs.length * 8 ≤ 140737488351232) (hs : ISl w a xs) :
    Calls Try.prog 9 #[.slice a xs.length cap, o.val] w fun e w' => ∃ a' c', e = .returned (.tuple #[.slice a' (flatDo xs o).1.length c', .int .i64 (flatDo xs o).2.1, .int .i64 (flatDo xs o).2.2]) ∧ ISl w' a' (flatDo xs o).1 ∧ Below w.heap.size w w' := by
  by_cases h : flatW xs.length o = 0
  · rw [flatDo_ok h]
    refine (flatDo_walk a cap xs o w hn hs h).mono fun e w' ⟨g, h1, h2, _, h3⟩ => ⟨some ⟨g, 0, none⟩, xs.length, ?_, h2.sl, h3⟩
    rw [List.length_set]; exact h1
  · rw [flatDo_no h]
    exact (flatDo_err_walk a xs.length cap o w (by omega) h).mono fun e w' ⟨h1, h3⟩ => ⟨none, 0, h1, ISl.nil _ _, h3⟩
theorem rdo_all (a : Option Addr) (cap : Nat) (xs : List Int) (o : SOp) (w : World) (hn : xs.length * 8 ≤ 140737488351232) (hs : ISl w a xs) :
    Calls Try.prog 10 #[.slice a xs.length cap, o.val] w fun e w' => ∃ a' c', e = .returned (.tuple #[.slice a' (flatDo xs o).1.length c', .int .i64 (flatDo xs o).2.1, .int .i64 (flatDo xs o).2.2]) ∧ ISl w' a' (flatDo xs o).1 ∧ Below w.heap.size w w' := by
  by_cases h : flatW xs.length o = 0
  · rw [flatDo_ok h]
    refine (rdo_sl a cap xs o w hn hs h).mono fun e w' ⟨a', c', h1, h2, h3⟩ => ⟨a', c', ?_, h2, h3⟩
    rw [List.length_set]; exact h1
  · rw [flatDo_no h]
    exact (rdo_err a xs.length cap o w (by omega) h).mono fun e w' ⟨h1, h3⟩ => ⟨none, 0, h1, ISl.nil _ _, h3⟩
theorem play_all (lines : Int) (cap : Nat) (a : Option Addr) (l : List SDone) (w : World) (hn : lines ≤ 100) (hl : l.length ≤ 140737488351232) (hs : DSl w a l) :
    Calls Try.prog 12 #[.int .i64 lines, .slice a l.length cap] w fun e w' => ∃ a' c', e = .returned (.tuple #[.slice a' (playFrom (List.replicate lines.toNat 0) 0 l).1.length c', .int .i64 (playFrom (List.replicate lines.toNat 0) 0 l).2]) ∧ ISl w' a' (playFrom (List.replicate lines.toNat 0) 0 l).1 ∧ Below w.heap.size w w' := by
  by_cases h : lines < 0
  · rw [show lines.toNat = 0 by omega]
    refine (play_neg lines cap a l w h hl hs).mono fun e w' ⟨h1, h2, h3⟩ => ⟨none, 0, ?_, ?_, h3⟩
    · rw [List.replicate_zero, h2]; exact h1
    · rw [List.replicate_zero, h2]; exact ISl.nil _ _
  · obtain ⟨n, rfl⟩ := Int.eq_ofNat_of_zero_le (show 0 ≤ lines by omega)
    rw [Int.toNat_natCast, playFrom_length, List.length_replicate]
    exact (play_walk n cap a l w (by omega) hl hs).mono fun e w' ⟨g, h1, h2, h3⟩ => ⟨_, _, h1, h2.sl, h3⟩
theorem rplay_all (lines : Int) (cap : Nat) (a : Option Addr) (l : List SDone) (w : World) (hn : lines ≤ 100) (hl : l.length ≤ 140737488351232) (hs : DSl w a l) :
    Calls Try.prog 13 #[.int .i64 lines, .slice a l.length cap] w fun e w' => ∃ a' c', e = .returned (.tuple #[.slice a' (playFrom (List.replicate lines.toNat 0) 0 l).1.length c', .int .i64 (playFrom (List.replicate lines.toNat 0) 0 l).2]) ∧ ISl w' a' (playFrom (List.replicate lines.toNat 0) 0 l).1 ∧ Below w.heap.size w w' := by
  rw [playFrom_length, List.length_replicate]
  by_cases h : lines < 0
  · rw [show lines.toNat = 0 by omega]
    exact rplay_neg lines cap a l w h hl hs
  · obtain ⟨n, rfl⟩ := Int.eq_ofNat_of_zero_le (show 0 ≤ lines by omega)
    rw [Int.toNat_natCast]
    exact rplay_walk n cap a l w (by omega) hl hs
/-- Memory of n noughts. -/
def NewR (n : Nat) (v : Value) (w : World) : Prop := ∃ a c, v = .slice a n c ∧ ISl w a (List.replicate n 0)
theorem newR_stable (n : Nat) : Stable (NewR n) := fun _ _ _ hG ⟨a, c, h1, h2⟩ => ⟨a, c, h1, h2.below hG⟩
theorem new_all (lines : Int) (w : World) (hn : lines ≤ 100) : Calls Try.prog 14 #[.int .i64 lines] w fun e w' => ∃ v, e = .returned v ∧ NewR lines.toNat v w' ∧ Below w.heap.size w w' := by
  by_cases h : lines < 0
  · rw [show lines.toNat = 0 by omega]
    exact (flatNew_neg lines w h).mono fun e w' ⟨h1, h2⟩ => ⟨_, h1, ⟨none, 0, rfl, ISl.nil _ _⟩, h2 ▸ Below.refl _ _⟩
  · obtain ⟨n, rfl⟩ := Int.eq_ofNat_of_zero_le (show 0 ≤ lines by omega)
    rw [Int.toNat_natCast]
    exact (flatNew_any n w (by omega)).mono fun e w' ⟨g, h1, h2, _, h3⟩ => ⟨_, h1, ⟨_, _, rfl, h2.sl⟩, h3⟩
theorem sameInts_yes (a b : Option Addr) (ca cb n : Nat) (xs : List Int) (w : World) (hn : xs.length = n) (hl : n ≤ 140737488351232) (ha : ISl w a xs) (hb : ISl w b xs) :
    Calls Try.prog 11 #[.slice a n ca, .slice b n cb] w fun e w' => e = .returned (.bool true) ∧ Below w.heap.size w w' := by
  subst hn
  have := sameInts_any a b ca cb xs xs w hl hl ha hb
  rwa [decide_eq_true rfl] at this

set_option maxHeartbeats 4000000 in
theorem flatTells_neg (a al : Option Addr) (cap cl : Nat) (lines : Int) (o : SOp) (xs : List Int) (l : List SDone) (w : World) (hn : xs.length * 8 ≤ 140737488351232) (hl : l.length ≤ 140737488351232) (hln : lines ≤ 100) (hneg : lines < 0) (hs : ISl w a xs) (hd : DSl w al l) :
    Calls Try.prog 3 #[.slice a xs.length cap, o.val, .int .i64 lines, .slice al l.length cl] w fun e w' => e = .returned (.bool true) ∧ Below w.heap.size w w' := by
  have HS : Hid (ISl w a xs) := hs
  have HD : Hid (DSl w al l) := hd
  have kA := fun W (h : ISl W a xs) => do_all a cap xs o W hn h
  have kB := fun W (h : ISl W a xs) => rdo_all a cap xs o W hn h
  have kP := fun W (h : DSl W al l) => play_all lines cl al l W hln hl h
  have kR := fun W (h : DSl W al l) => rplay_all lines cl al l W hln hl h
  have kN := fun W => new_all lines W hln
  have hDl : (flatDo xs o).1.length ≤ xs.length := by
    by_cases h : flatW xs.length o = 0
    · rw [flatDo_ok h, List.length_set]; exact Nat.le_refl _
    · rw [flatDo_no h]; simp
  have hMl : (playFrom (List.replicate lines.toNat 0) 0 l).1.length = lines.toNat := by rw [playFrom_length, List.length_replicate]
  obtain ⟨⟨D, tD, eD⟩, hD⟩ : ∃ D, D = flatDo xs o := ⟨_, rfl⟩
  obtain ⟨⟨M, J⟩, hM⟩ : ∃ M, M = playFrom (List.replicate lines.toNat 0) 0 l := ⟨_, rfl⟩
  rw [← hD] at kA kB hDl
  rw [← hM] at kP kR hMl
  simp only at kA kB kP kR hDl hMl
  have kD := fun a1 a2 c1 c2 W (h1 : ISl W a1 D) (h2 : ISl W a2 D) => sameInts_yes a1 a2 c1 c2 D.length D W rfl (by omega) h1 h2
  have kM := fun a1 a2 c1 c2 W (h1 : ISl W a1 M) (h2 : ISl W a2 M) => sameInts_yes a1 a2 c1 c2 M.length M W rfl (by omega) h1 h2
  have kZ := fun a1 a2 c1 c2 W (h1 : ISl W a1 (List.replicate lines.toNat 0)) (h2 : ISl W a2 (List.replicate lines.toNat 0)) => sameInts_yes a1 a2 c1 c2 lines.toNat (List.replicate lines.toNat 0) W (by simp) (by omega) h1 h2
  obtain ⟨n, hn0⟩ : ∃ n, n = lines.toNat := ⟨_, rfl⟩
  rw [← hn0] at kN kZ
  have hn1 : n ≤ 100 := by omega
  have HNN : Hid ((n : Int) = 0) := by unfold Hid; omega
  clear hs hd hD hM hMl hDl hn0
  obtain ⟨kd, ln, vl⟩ := o
  unfold SOp.val at *
  go_enter Try.func3, Try.ntmps3
  go_wp2_with (fail)
  go_at_call 9
  refine (kA _ (HS.out.below (ia_alloc _ _))).mono ?_
  rintro e w1 ⟨a1, c1, rfl, hS1, hb1⟩
  obtain ⟨hcc1, hff1⟩ := bcellI hb1
  have hz1 : w.heap.size < w1.heap.size := by { have := hb1.size; simp at this; omega }
  have hb01 := ia_below (ia_alloc w _) hb1
  go_wp2_with (fail)
  go_at_call 10
  refine (kB _ (HS.out.below hb01)).mono ?_
  rintro e w2 ⟨a2, c2, rfl, hS2, hb2⟩
  have hS12 := hS1.below hb2
  have hb02 := ia_below hb01 hb2
  clear hcc1 hff1 hb1 hS1
  go_wp2_with (fail)
  go_at_call 11
  refine (kD a1 a2 c1 c2 _ hS12 hS2).mono ?_
  rintro e w3 ⟨rfl, hb3⟩
  have hb03 := ia_below hb02 hb3
  clear hb01 hb02 hb2 hb3 hS12 hS2
  go_wp2_with (fail)
  go_at_call 12
  refine (kP _ (HD.out.below hb03)).mono ?_
  rintro e w4 ⟨aP, cP, rfl, hS4, hb4⟩
  have hb04 := ia_below hb03 hb4
  go_wp2_with (fail)
  go_at_call 13
  refine (kR _ (HD.out.below hb04)).mono ?_
  rintro e w5 ⟨aQ, cQ, rfl, hS5, hb5⟩
  have HP : Hid (ISl w5 aP M) := hS4.below hb5
  have HQ : Hid (ISl w5 aQ M) := hS5
  have hb05 := ia_below hb04 hb5
  clear hb03 hb04 hb4 hb5 hS4 hS5
  go_wp2_with (fail)
  refine wp_region_free 16 [] (by kernel_rfl) (by kernel_rfl) (by kernel_rfl) ?_
  dsimp only [List.take, List.drop]
  refine freeOK_step (fun v _ => v = .int .i64 J) (stable_eq _) rfl ?_ ?_
  · intro σ W hG hd
    refine ⟨?_⟩
    dsimp only [putAll]
    go_wp2
    exact stepPost_mk (Gr.refl _) rfl rfl
  dsimp only [List.nil_append, List.cons_append]
  refine freeOK_step (fun v _ => v = .int .i64 J) (stable_eq _) rfl ?_ ?_
  · intro σ W hG hd
    refine ⟨?_⟩
    simp only [putAll, Act.put, List.nil_append, List.cons_append, List.setIfInBounds_toArray, List.set_cons_zero, List.set_cons_succ]
    go_wp2
    exact stepPost_mk (Gr.refl _) rfl rfl
  dsimp only [List.nil_append, List.cons_append]
  refine freeOK_step (fun v _ => v = .bool true) (stable_eq _) rfl ?_ ?_
  · intro σ W hG hd
    have e0 : σ 0 = .int .i64 J := hd ⟨0, .data⟩ (by simp) rfl (fun v _ => v = .int .i64 J) rfl
    have e1 : σ 1 = .int .i64 J := hd ⟨1, .data⟩ (by simp) rfl (fun v _ => v = .int .i64 J) rfl
    refine ⟨?_⟩
    simp only [putAll, Act.put, List.nil_append, List.cons_append, List.setIfInBounds_toArray, List.set_cons_zero, List.set_cons_succ, e0, e1]
    go_wp2
    exact stepPost_mk (Gr.refl _) rfl rfl
  dsimp only [List.nil_append, List.cons_append]
  refine freeOK_step (fun v _ => v = .bool true) (stable_eq _) rfl ?_ ?_
  · intro σ W hG hd
    have e2 : σ 2 = .bool true := hd ⟨2, .data⟩ (by simp) rfl (fun v _ => v = .bool true) rfl
    refine ⟨?_⟩
    simp only [putAll, Act.put, List.nil_append, List.cons_append, List.setIfInBounds_toArray, List.set_cons_zero, List.set_cons_succ, e2]
    go_wp2
    exact stepPost_mk (Gr.refl _) rfl rfl
  dsimp only [List.nil_append, List.cons_append]
  refine freeOK_step (fun v _ => v = .slice aP M.length cP) (stable_eq _) rfl ?_ ?_
  · intro σ W hG hd
    have e3 : σ 3 = .bool true := hd ⟨3, .guard⟩ (by simp) rfl (fun v _ => v = .bool true) rfl
    refine ⟨?_⟩
    simp only [putAll, Act.put, List.nil_append, List.cons_append, List.setIfInBounds_toArray, List.set_cons_zero, List.set_cons_succ, e3]
    go_wp2
    exact stepPost_mk (Gr.refl _) rfl rfl
  dsimp only [List.nil_append, List.cons_append]
  refine freeOK_step (fun v _ => v = .slice aQ M.length cQ) (stable_eq _) rfl ?_ ?_
  · intro σ W hG hd
    have e3 : σ 3 = .bool true := hd ⟨3, .guard⟩ (by simp) rfl (fun v _ => v = .bool true) rfl
    refine ⟨?_⟩
    simp only [putAll, Act.put, List.nil_append, List.cons_append, List.setIfInBounds_toArray, List.set_cons_zero, List.set_cons_succ, e3]
    go_wp2
    exact stepPost_mk (Gr.refl _) rfl rfl
  dsimp only [List.nil_append, List.cons_append]
  refine freeOK_step (fun v _ => v = .bool true) (stable_eq _) rfl ?_ ?_
  · intro σ W hG hd
    have e4 : σ 4 = .slice aP M.length cP := hd ⟨4, .data⟩ (by simp) rfl (fun v _ => v = .slice aP M.length cP) rfl
    have e5 : σ 5 = .slice aQ M.length cQ := hd ⟨5, .data⟩ (by simp) rfl (fun v _ => v = .slice aQ M.length cQ) rfl
    have e3 : σ 3 = .bool true := hd ⟨3, .guard⟩ (by simp) rfl (fun v _ => v = .bool true) rfl
    have q1 := HP.out.below (gr_drewI hG)
    have q2 := HQ.out.below (gr_drewI hG)
    refine ⟨?_⟩
    simp only [putAll, Act.put, List.nil_append, List.cons_append, List.setIfInBounds_toArray, List.set_cons_zero, List.set_cons_succ, e4, e5, e3]
    go_wp2_with (go_at_call 11; refine (kM aP aQ cP cQ _ q1 q2).mono ?_; rintro e w' ⟨rfl, hbn⟩)
    exact stepPost_mk hbn rfl rfl
  dsimp only [List.nil_append, List.cons_append]
  refine freeOK_step (fun v _ => v = .bool true) (stable_eq _) rfl ?_ ?_
  · intro σ W hG hd
    have e3 : σ 3 = .bool true := hd ⟨3, .data⟩ (by simp) rfl (fun v _ => v = .bool true) rfl
    have e6 : σ 6 = .bool true := hd ⟨6, .data⟩ (by simp) rfl (fun v _ => v = .bool true) rfl
    refine ⟨?_⟩
    simp only [putAll, Act.put, List.nil_append, List.cons_append, List.setIfInBounds_toArray, List.set_cons_zero, List.set_cons_succ, e3, e6]
    go_wp2
    exact stepPost_mk (Gr.refl _) rfl rfl
  dsimp only [List.nil_append, List.cons_append]
  refine freeOK_step (fun v _ => v = .bool true) (stable_eq _) rfl ?_ ?_
  · intro σ W hG hd
    have e7 : σ 7 = .bool true := hd ⟨7, .data⟩ (by simp) rfl (fun v _ => v = .bool true) rfl
    refine ⟨?_⟩
    simp only [putAll, Act.put, List.nil_append, List.cons_append, List.setIfInBounds_toArray, List.set_cons_zero, List.set_cons_succ, e7]
    go_wp2
    exact stepPost_mk (Gr.refl _) rfl rfl
  dsimp only [List.nil_append, List.cons_append]
  refine freeOK_step (fun v _ => v = .int .i64 lines) (stable_eq _) rfl ?_ ?_
  · intro σ W hG hd
    have e8 : σ 8 = .bool true := hd ⟨8, .guard⟩ (by simp) rfl (fun v _ => v = .bool true) rfl
    refine ⟨?_⟩
    simp only [putAll, Act.put, List.nil_append, List.cons_append, List.setIfInBounds_toArray, List.set_cons_zero, List.set_cons_succ, e8]
    go_wp2
    exact stepPost_mk (Gr.refl _) rfl rfl
  dsimp only [List.nil_append, List.cons_append]
  refine freeOK_step (NewR n) (newR_stable n) rfl ?_ ?_
  · intro σ W hG hd
    have e9 : σ 9 = .int .i64 lines := hd ⟨9, .data⟩ (by simp) rfl (fun v _ => v = .int .i64 lines) rfl
    have e8 : σ 8 = .bool true := hd ⟨8, .guard⟩ (by simp) rfl (fun v _ => v = .bool true) rfl
    refine ⟨?_⟩
    simp only [putAll, Act.put, List.nil_append, List.cons_append, List.setIfInBounds_toArray, List.set_cons_zero, List.set_cons_succ, e9, e8]
    go_wp2_with (go_at_call 14; refine (kN _).mono ?_; rintro e w' ⟨u, rfl, hu, hbn⟩)
    exact stepPost_mk hbn rfl hu
  dsimp only [List.nil_append, List.cons_append]
  refine freeOK_step (fun v _ => v = .int .i64 lines) (stable_eq _) rfl ?_ ?_
  · intro σ W hG hd
    have e8 : σ 8 = .bool true := hd ⟨8, .guard⟩ (by simp) rfl (fun v _ => v = .bool true) rfl
    refine ⟨?_⟩
    simp only [putAll, Act.put, List.nil_append, List.cons_append, List.setIfInBounds_toArray, List.set_cons_zero, List.set_cons_succ, e8]
    go_wp2
    exact stepPost_mk (Gr.refl _) rfl rfl
  dsimp only [List.nil_append, List.cons_append]
  refine freeOK_step (fun v _ => v = .int .i64 0) (stable_eq _) rfl ?_ ?_
  · intro σ W hG hd
    have e11 : σ 11 = .int .i64 lines := hd ⟨11, .data⟩ (by simp) rfl (fun v _ => v = .int .i64 lines) rfl
    have e8 : σ 8 = .bool true := hd ⟨8, .guard⟩ (by simp) rfl (fun v _ => v = .bool true) rfl
    refine ⟨?_⟩
    simp only [putAll, Act.put, List.nil_append, List.cons_append, List.setIfInBounds_toArray, List.set_cons_zero, List.set_cons_succ, e11, e8]
    go_wp2
    exact stepPost_mk (Gr.refl _) rfl rfl
  dsimp only [List.nil_append, List.cons_append]
  refine freeOK_step (NewR n) (newR_stable n) rfl ?_ ?_
  · intro σ W hG hd
    have e12 : σ 12 = .int .i64 0 := hd ⟨12, .data⟩ (by simp) rfl (fun v _ => v = .int .i64 0) rfl
    have e8 : σ 8 = .bool true := hd ⟨8, .guard⟩ (by simp) rfl (fun v _ => v = .bool true) rfl
    obtain ⟨Z, hZ, hO, hmk⟩ := make_int W n (by omega)
    have HO : Hid (IOwn _ _ (List.replicate n 0)) := hO
    clear hZ hO
    rw [HNN.out] at hmk
    refine ⟨?_⟩
    simp only [putAll, Act.put, List.nil_append, List.cons_append, List.setIfInBounds_toArray, List.set_cons_zero, List.set_cons_succ, e12, e8]
    go_wp2
    exact stepPost_mk (ia_alloc _ _) rfl ⟨_, _, rfl, HO.out.sl⟩
  dsimp only [List.nil_append, List.cons_append]
  refine freeOK_step (fun v _ => v = .bool true) (stable_eq _) rfl ?_ ?_
  · intro σ W hG hd
    have h10 : NewR n (σ 10) W := hd ⟨10, .data⟩ (by simp) rfl (NewR n) rfl
    obtain ⟨a10', c10', e10, hN10⟩ := h10
    have h13 : NewR n (σ 13) W := hd ⟨13, .data⟩ (by simp) rfl (NewR n) rfl
    obtain ⟨a13', c13', e13, hN13⟩ := h13
    have e8 : σ 8 = .bool true := hd ⟨8, .guard⟩ (by simp) rfl (fun v _ => v = .bool true) rfl
    refine ⟨?_⟩
    simp only [putAll, Act.put, List.nil_append, List.cons_append, List.setIfInBounds_toArray, List.set_cons_zero, List.set_cons_succ, e10, e13, e8]
    go_wp2_with (go_at_call 11; refine (kZ _ _ _ _ _ hN10 hN13).mono ?_; rintro e w' ⟨rfl, hbn⟩)
    exact stepPost_mk hbn rfl rfl
  dsimp only [List.nil_append, List.cons_append]
  refine freeOK_step (fun v _ => v = .bool true) (stable_eq _) rfl ?_ ?_
  · intro σ W hG hd
    have e8 : σ 8 = .bool true := hd ⟨8, .data⟩ (by simp) rfl (fun v _ => v = .bool true) rfl
    have e14 : σ 14 = .bool true := hd ⟨14, .data⟩ (by simp) rfl (fun v _ => v = .bool true) rfl
    refine ⟨?_⟩
    simp only [putAll, Act.put, List.nil_append, List.cons_append, List.setIfInBounds_toArray, List.set_cons_zero, List.set_cons_succ, e8, e14]
    go_wp2
    exact stepPost_mk (Gr.refl _) rfl rfl
  dsimp only [List.nil_append, List.cons_append]
  refine freeOK_done fun σ W hG hR => ?_
  have e0 : σ 0 = .int .i64 J := hR 0 (fun v _ => v = .int .i64 J) rfl
  have e1 : σ 1 = .int .i64 J := hR 1 (fun v _ => v = .int .i64 J) rfl
  have e2 : σ 2 = .bool true := hR 2 (fun v _ => v = .bool true) rfl
  have e3 : σ 3 = .bool true := hR 3 (fun v _ => v = .bool true) rfl
  have e4 : σ 4 = .slice aP M.length cP := hR 4 (fun v _ => v = .slice aP M.length cP) rfl
  have e5 : σ 5 = .slice aQ M.length cQ := hR 5 (fun v _ => v = .slice aQ M.length cQ) rfl
  have e6 : σ 6 = .bool true := hR 6 (fun v _ => v = .bool true) rfl
  have e7 : σ 7 = .bool true := hR 7 (fun v _ => v = .bool true) rfl
  have e8 : σ 8 = .bool true := hR 8 (fun v _ => v = .bool true) rfl
  have e9 : σ 9 = .int .i64 lines := hR 9 (fun v _ => v = .int .i64 lines) rfl
  have h10 : NewR n (σ 10) W := hR 10 (NewR n) rfl
  obtain ⟨a10', c10', e10, hN10⟩ := h10
  have e11 : σ 11 = .int .i64 lines := hR 11 (fun v _ => v = .int .i64 lines) rfl
  have e12 : σ 12 = .int .i64 0 := hR 12 (fun v _ => v = .int .i64 0) rfl
  have h13 : NewR n (σ 13) W := hR 13 (NewR n) rfl
  obtain ⟨a13', c13', e13, hN13⟩ := h13
  have e14 : σ 14 = .bool true := hR 14 (fun v _ => v = .bool true) rfl
  have e15 : σ 15 = .bool true := hR 15 (fun v _ => v = .bool true) rfl
  refine ⟨?_⟩
  simp only [putAll, Act.put, List.nil_append, List.cons_append, List.setIfInBounds_toArray, List.set_cons_zero, List.set_cons_succ, e0, e1, e2, e3, e4, e5, e6, e7, e8, e9, e10, e11, e12, e13, e14, e15]
  clear hR e0 e1 e2 e3 e4 e5 e6 e7 e8 e9 e10 e11 e12 e13 e14 e15
  go_wp2
  refine NP.normal ?_
  go_wp2
  go_ret
  exact ⟨rfl, ia_below hb05 (gr_drewI hG)⟩

set_option maxHeartbeats 4000000 in
theorem flatTells_pos (a al : Option Addr) (cap cl : Nat) (lines : Int) (o : SOp) (xs : List Int) (l : List SDone) (w : World) (hn : xs.length * 8 ≤ 140737488351232) (hl : l.length ≤ 140737488351232) (hln : lines ≤ 100) (hneg : 0 ≤ lines) (hs : ISl w a xs) (hd : DSl w al l) :
    Calls Try.prog 3 #[.slice a xs.length cap, o.val, .int .i64 lines, .slice al l.length cl] w fun e w' => e = .returned (.bool true) ∧ Below w.heap.size w w' := by
  have HS : Hid (ISl w a xs) := hs
  have HD : Hid (DSl w al l) := hd
  have kA := fun W (h : ISl W a xs) => do_all a cap xs o W hn h
  have kB := fun W (h : ISl W a xs) => rdo_all a cap xs o W hn h
  have kP := fun W (h : DSl W al l) => play_all lines cl al l W hln hl h
  have kR := fun W (h : DSl W al l) => rplay_all lines cl al l W hln hl h
  have kN := fun W => new_all lines W hln
  have hDl : (flatDo xs o).1.length ≤ xs.length := by
    by_cases h : flatW xs.length o = 0
    · rw [flatDo_ok h, List.length_set]; exact Nat.le_refl _
    · rw [flatDo_no h]; simp
  have hMl : (playFrom (List.replicate lines.toNat 0) 0 l).1.length = lines.toNat := by rw [playFrom_length, List.length_replicate]
  obtain ⟨⟨D, tD, eD⟩, hD⟩ : ∃ D, D = flatDo xs o := ⟨_, rfl⟩
  obtain ⟨⟨M, J⟩, hM⟩ : ∃ M, M = playFrom (List.replicate lines.toNat 0) 0 l := ⟨_, rfl⟩
  rw [← hD] at kA kB hDl
  rw [← hM] at kP kR hMl
  simp only at kA kB kP kR hDl hMl
  have kD := fun a1 a2 c1 c2 W (h1 : ISl W a1 D) (h2 : ISl W a2 D) => sameInts_yes a1 a2 c1 c2 D.length D W rfl (by omega) h1 h2
  have kM := fun a1 a2 c1 c2 W (h1 : ISl W a1 M) (h2 : ISl W a2 M) => sameInts_yes a1 a2 c1 c2 M.length M W rfl (by omega) h1 h2
  have kZ := fun a1 a2 c1 c2 W (h1 : ISl W a1 (List.replicate lines.toNat 0)) (h2 : ISl W a2 (List.replicate lines.toNat 0)) => sameInts_yes a1 a2 c1 c2 lines.toNat (List.replicate lines.toNat 0) W (by simp) (by omega) h1 h2
  obtain ⟨n, hn0⟩ : ∃ n, n = lines.toNat := ⟨_, rfl⟩
  rw [← hn0] at kN kZ
  have hn1 : n ≤ 100 := by omega
  have HNN : Hid ((n : Int) = lines) := by unfold Hid; omega
  clear hs hd hD hM hMl hDl hn0
  obtain ⟨kd, ln, vl⟩ := o
  unfold SOp.val at *
  go_enter Try.func3, Try.ntmps3
  go_wp2_with (fail)
  go_at_call 9
  refine (kA _ (HS.out.below (ia_alloc _ _))).mono ?_
  rintro e w1 ⟨a1, c1, rfl, hS1, hb1⟩
  obtain ⟨hcc1, hff1⟩ := bcellI hb1
  have hz1 : w.heap.size < w1.heap.size := by { have := hb1.size; simp at this; omega }
  have hb01 := ia_below (ia_alloc w _) hb1
  go_wp2_with (fail)
  go_at_call 10
  refine (kB _ (HS.out.below hb01)).mono ?_
  rintro e w2 ⟨a2, c2, rfl, hS2, hb2⟩
  have hS12 := hS1.below hb2
  have hb02 := ia_below hb01 hb2
  clear hcc1 hff1 hb1 hS1
  go_wp2_with (fail)
  go_at_call 11
  refine (kD a1 a2 c1 c2 _ hS12 hS2).mono ?_
  rintro e w3 ⟨rfl, hb3⟩
  have hb03 := ia_below hb02 hb3
  clear hb01 hb02 hb2 hb3 hS12 hS2
  go_wp2_with (fail)
  go_at_call 12
  refine (kP _ (HD.out.below hb03)).mono ?_
  rintro e w4 ⟨aP, cP, rfl, hS4, hb4⟩
  have hb04 := ia_below hb03 hb4
  go_wp2_with (fail)
  go_at_call 13
  refine (kR _ (HD.out.below hb04)).mono ?_
  rintro e w5 ⟨aQ, cQ, rfl, hS5, hb5⟩
  have HP : Hid (ISl w5 aP M) := hS4.below hb5
  have HQ : Hid (ISl w5 aQ M) := hS5
  have hb05 := ia_below hb04 hb5
  clear hb03 hb04 hb4 hb5 hS4 hS5
  go_wp2_with (fail)
  refine wp_region_free 16 [] (by kernel_rfl) (by kernel_rfl) (by kernel_rfl) ?_
  dsimp only [List.take, List.drop]
  refine freeOK_step (fun v _ => v = .int .i64 J) (stable_eq _) rfl ?_ ?_
  · intro σ W hG hd
    refine ⟨?_⟩
    dsimp only [putAll]
    go_wp2
    exact stepPost_mk (Gr.refl _) rfl rfl
  dsimp only [List.nil_append, List.cons_append]
  refine freeOK_step (fun v _ => v = .int .i64 J) (stable_eq _) rfl ?_ ?_
  · intro σ W hG hd
    refine ⟨?_⟩
    simp only [putAll, Act.put, List.nil_append, List.cons_append, List.setIfInBounds_toArray, List.set_cons_zero, List.set_cons_succ]
    go_wp2
    exact stepPost_mk (Gr.refl _) rfl rfl
  dsimp only [List.nil_append, List.cons_append]
  refine freeOK_step (fun v _ => v = .bool true) (stable_eq _) rfl ?_ ?_
  · intro σ W hG hd
    have e0 : σ 0 = .int .i64 J := hd ⟨0, .data⟩ (by simp) rfl (fun v _ => v = .int .i64 J) rfl
    have e1 : σ 1 = .int .i64 J := hd ⟨1, .data⟩ (by simp) rfl (fun v _ => v = .int .i64 J) rfl
    refine ⟨?_⟩
    simp only [putAll, Act.put, List.nil_append, List.cons_append, List.setIfInBounds_toArray, List.set_cons_zero, List.set_cons_succ, e0, e1]
    go_wp2
    exact stepPost_mk (Gr.refl _) rfl rfl
  dsimp only [List.nil_append, List.cons_append]
  refine freeOK_step (fun v _ => v = .bool true) (stable_eq _) rfl ?_ ?_
  · intro σ W hG hd
    have e2 : σ 2 = .bool true := hd ⟨2, .data⟩ (by simp) rfl (fun v _ => v = .bool true) rfl
    refine ⟨?_⟩
    simp only [putAll, Act.put, List.nil_append, List.cons_append, List.setIfInBounds_toArray, List.set_cons_zero, List.set_cons_succ, e2]
    go_wp2
    exact stepPost_mk (Gr.refl _) rfl rfl
  dsimp only [List.nil_append, List.cons_append]
  refine freeOK_step (fun v _ => v = .slice aP M.length cP) (stable_eq _) rfl ?_ ?_
  · intro σ W hG hd
    have e3 : σ 3 = .bool true := hd ⟨3, .guard⟩ (by simp) rfl (fun v _ => v = .bool true) rfl
    refine ⟨?_⟩
    simp only [putAll, Act.put, List.nil_append, List.cons_append, List.setIfInBounds_toArray, List.set_cons_zero, List.set_cons_succ, e3]
    go_wp2
    exact stepPost_mk (Gr.refl _) rfl rfl
  dsimp only [List.nil_append, List.cons_append]
  refine freeOK_step (fun v _ => v = .slice aQ M.length cQ) (stable_eq _) rfl ?_ ?_
  · intro σ W hG hd
    have e3 : σ 3 = .bool true := hd ⟨3, .guard⟩ (by simp) rfl (fun v _ => v = .bool true) rfl
    refine ⟨?_⟩
    simp only [putAll, Act.put, List.nil_append, List.cons_append, List.setIfInBounds_toArray, List.set_cons_zero, List.set_cons_succ, e3]
    go_wp2
    exact stepPost_mk (Gr.refl _) rfl rfl
  dsimp only [List.nil_append, List.cons_append]
  refine freeOK_step (fun v _ => v = .bool true) (stable_eq _) rfl ?_ ?_
  · intro σ W hG hd
    have e4 : σ 4 = .slice aP M.length cP := hd ⟨4, .data⟩ (by simp) rfl (fun v _ => v = .slice aP M.length cP) rfl
    have e5 : σ 5 = .slice aQ M.length cQ := hd ⟨5, .data⟩ (by simp) rfl (fun v _ => v = .slice aQ M.length cQ) rfl
    have e3 : σ 3 = .bool true := hd ⟨3, .guard⟩ (by simp) rfl (fun v _ => v = .bool true) rfl
    have q1 := HP.out.below (gr_drewI hG)
    have q2 := HQ.out.below (gr_drewI hG)
    refine ⟨?_⟩
    simp only [putAll, Act.put, List.nil_append, List.cons_append, List.setIfInBounds_toArray, List.set_cons_zero, List.set_cons_succ, e4, e5, e3]
    go_wp2_with (go_at_call 11; refine (kM aP aQ cP cQ _ q1 q2).mono ?_; rintro e w' ⟨rfl, hbn⟩)
    exact stepPost_mk hbn rfl rfl
  dsimp only [List.nil_append, List.cons_append]
  refine freeOK_step (fun v _ => v = .bool true) (stable_eq _) rfl ?_ ?_
  · intro σ W hG hd
    have e3 : σ 3 = .bool true := hd ⟨3, .data⟩ (by simp) rfl (fun v _ => v = .bool true) rfl
    have e6 : σ 6 = .bool true := hd ⟨6, .data⟩ (by simp) rfl (fun v _ => v = .bool true) rfl
    refine ⟨?_⟩
    simp only [putAll, Act.put, List.nil_append, List.cons_append, List.setIfInBounds_toArray, List.set_cons_zero, List.set_cons_succ, e3, e6]
    go_wp2
    exact stepPost_mk (Gr.refl _) rfl rfl
  dsimp only [List.nil_append, List.cons_append]
  refine freeOK_step (fun v _ => v = .bool true) (stable_eq _) rfl ?_ ?_
  · intro σ W hG hd
    have e7 : σ 7 = .bool true := hd ⟨7, .data⟩ (by simp) rfl (fun v _ => v = .bool true) rfl
    refine ⟨?_⟩
    simp only [putAll, Act.put, List.nil_append, List.cons_append, List.setIfInBounds_toArray, List.set_cons_zero, List.set_cons_succ, e7]
    go_wp2
    exact stepPost_mk (Gr.refl _) rfl rfl
  dsimp only [List.nil_append, List.cons_append]
  refine freeOK_step (fun v _ => v = .int .i64 lines) (stable_eq _) rfl ?_ ?_
  · intro σ W hG hd
    have e8 : σ 8 = .bool true := hd ⟨8, .guard⟩ (by simp) rfl (fun v _ => v = .bool true) rfl
    refine ⟨?_⟩
    simp only [putAll, Act.put, List.nil_append, List.cons_append, List.setIfInBounds_toArray, List.set_cons_zero, List.set_cons_succ, e8]
    go_wp2
    exact stepPost_mk (Gr.refl _) rfl rfl
  dsimp only [List.nil_append, List.cons_append]
  refine freeOK_step (NewR n) (newR_stable n) rfl ?_ ?_
  · intro σ W hG hd
    have e9 : σ 9 = .int .i64 lines := hd ⟨9, .data⟩ (by simp) rfl (fun v _ => v = .int .i64 lines) rfl
    have e8 : σ 8 = .bool true := hd ⟨8, .guard⟩ (by simp) rfl (fun v _ => v = .bool true) rfl
    refine ⟨?_⟩
    simp only [putAll, Act.put, List.nil_append, List.cons_append, List.setIfInBounds_toArray, List.set_cons_zero, List.set_cons_succ, e9, e8]
    go_wp2_with (go_at_call 14; refine (kN _).mono ?_; rintro e w' ⟨u, rfl, hu, hbn⟩)
    exact stepPost_mk hbn rfl hu
  dsimp only [List.nil_append, List.cons_append]
  refine freeOK_step (fun v _ => v = .int .i64 lines) (stable_eq _) rfl ?_ ?_
  · intro σ W hG hd
    have e8 : σ 8 = .bool true := hd ⟨8, .guard⟩ (by simp) rfl (fun v _ => v = .bool true) rfl
    refine ⟨?_⟩
    simp only [putAll, Act.put, List.nil_append, List.cons_append, List.setIfInBounds_toArray, List.set_cons_zero, List.set_cons_succ, e8]
    go_wp2
    exact stepPost_mk (Gr.refl _) rfl rfl
  dsimp only [List.nil_append, List.cons_append]
  refine freeOK_step (fun v _ => v = .int .i64 lines) (stable_eq _) rfl ?_ ?_
  · intro σ W hG hd
    have e11 : σ 11 = .int .i64 lines := hd ⟨11, .data⟩ (by simp) rfl (fun v _ => v = .int .i64 lines) rfl
    have e8 : σ 8 = .bool true := hd ⟨8, .guard⟩ (by simp) rfl (fun v _ => v = .bool true) rfl
    refine ⟨?_⟩
    simp only [putAll, Act.put, List.nil_append, List.cons_append, List.setIfInBounds_toArray, List.set_cons_zero, List.set_cons_succ, e11, e8]
    go_wp2
    exact stepPost_mk (Gr.refl _) rfl rfl
  dsimp only [List.nil_append, List.cons_append]
  refine freeOK_step (NewR n) (newR_stable n) rfl ?_ ?_
  · intro σ W hG hd
    have e12 : σ 12 = .int .i64 lines := hd ⟨12, .data⟩ (by simp) rfl (fun v _ => v = .int .i64 lines) rfl
    have e8 : σ 8 = .bool true := hd ⟨8, .guard⟩ (by simp) rfl (fun v _ => v = .bool true) rfl
    obtain ⟨Z, hZ, hO, hmk⟩ := make_int W n (by omega)
    have HO : Hid (IOwn _ _ (List.replicate n 0)) := hO
    clear hZ hO
    rw [HNN.out] at hmk
    refine ⟨?_⟩
    simp only [putAll, Act.put, List.nil_append, List.cons_append, List.setIfInBounds_toArray, List.set_cons_zero, List.set_cons_succ, e12, e8]
    go_wp2
    exact stepPost_mk (ia_alloc _ _) rfl ⟨_, _, rfl, HO.out.sl⟩
  dsimp only [List.nil_append, List.cons_append]
  refine freeOK_step (fun v _ => v = .bool true) (stable_eq _) rfl ?_ ?_
  · intro σ W hG hd
    have h10 : NewR n (σ 10) W := hd ⟨10, .data⟩ (by simp) rfl (NewR n) rfl
    obtain ⟨a10', c10', e10, hN10⟩ := h10
    have h13 : NewR n (σ 13) W := hd ⟨13, .data⟩ (by simp) rfl (NewR n) rfl
    obtain ⟨a13', c13', e13, hN13⟩ := h13
    have e8 : σ 8 = .bool true := hd ⟨8, .guard⟩ (by simp) rfl (fun v _ => v = .bool true) rfl
    refine ⟨?_⟩
    simp only [putAll, Act.put, List.nil_append, List.cons_append, List.setIfInBounds_toArray, List.set_cons_zero, List.set_cons_succ, e10, e13, e8]
    go_wp2_with (go_at_call 11; refine (kZ _ _ _ _ _ hN10 hN13).mono ?_; rintro e w' ⟨rfl, hbn⟩)
    exact stepPost_mk hbn rfl rfl
  dsimp only [List.nil_append, List.cons_append]
  refine freeOK_step (fun v _ => v = .bool true) (stable_eq _) rfl ?_ ?_
  · intro σ W hG hd
    have e8 : σ 8 = .bool true := hd ⟨8, .data⟩ (by simp) rfl (fun v _ => v = .bool true) rfl
    have e14 : σ 14 = .bool true := hd ⟨14, .data⟩ (by simp) rfl (fun v _ => v = .bool true) rfl
    refine ⟨?_⟩
    simp only [putAll, Act.put, List.nil_append, List.cons_append, List.setIfInBounds_toArray, List.set_cons_zero, List.set_cons_succ, e8, e14]
    go_wp2
    exact stepPost_mk (Gr.refl _) rfl rfl
  dsimp only [List.nil_append, List.cons_append]
  refine freeOK_done fun σ W hG hR => ?_
  have e0 : σ 0 = .int .i64 J := hR 0 (fun v _ => v = .int .i64 J) rfl
  have e1 : σ 1 = .int .i64 J := hR 1 (fun v _ => v = .int .i64 J) rfl
  have e2 : σ 2 = .bool true := hR 2 (fun v _ => v = .bool true) rfl
  have e3 : σ 3 = .bool true := hR 3 (fun v _ => v = .bool true) rfl
  have e4 : σ 4 = .slice aP M.length cP := hR 4 (fun v _ => v = .slice aP M.length cP) rfl
  have e5 : σ 5 = .slice aQ M.length cQ := hR 5 (fun v _ => v = .slice aQ M.length cQ) rfl
  have e6 : σ 6 = .bool true := hR 6 (fun v _ => v = .bool true) rfl
  have e7 : σ 7 = .bool true := hR 7 (fun v _ => v = .bool true) rfl
  have e8 : σ 8 = .bool true := hR 8 (fun v _ => v = .bool true) rfl
  have e9 : σ 9 = .int .i64 lines := hR 9 (fun v _ => v = .int .i64 lines) rfl
  have h10 : NewR n (σ 10) W := hR 10 (NewR n) rfl
  obtain ⟨a10', c10', e10, hN10⟩ := h10
  have e11 : σ 11 = .int .i64 lines := hR 11 (fun v _ => v = .int .i64 lines) rfl
  have e12 : σ 12 = .int .i64 lines := hR 12 (fun v _ => v = .int .i64 lines) rfl
  have h13 : NewR n (σ 13) W := hR 13 (NewR n) rfl
  obtain ⟨a13', c13', e13, hN13⟩ := h13
  have e14 : σ 14 = .bool true := hR 14 (fun v _ => v = .bool true) rfl
  have e15 : σ 15 = .bool true := hR 15 (fun v _ => v = .bool true) rfl
  refine ⟨?_⟩
  simp only [putAll, Act.put, List.nil_append, List.cons_append, List.setIfInBounds_toArray, List.set_cons_zero, List.set_cons_succ, e0, e1, e2, e3, e4, e5, e6, e7, e8, e9, e10, e11, e12, e13, e14, e15]
  clear hR e0 e1 e2 e3 e4 e5 e6 e7 e8 e9 e10 e11 e12 e13 e14 e15
  go_wp2
  refine NP.normal ?_
  go_wp2
  go_ret
  exact ⟨rfl, ia_below hb05 (gr_drewI hG)⟩

theorem flatTells_walk (a al : Option Addr) (cap cl : Nat) (lines : Int) (o : SOp) (xs : List Int) (l : List SDone) (w : World) (hn : xs.length * 8 ≤ 140737488351232) (hl : l.length ≤ 140737488351232) (hs : ISl w a xs) (hd : DSl w al l) :
    Calls Try.prog 3 #[.slice a xs.length cap, o.val, .int .i64 lines, .slice al l.length cl] w fun e w' => e = .returned (.bool true) ∧ Below w.heap.size w w' := by
  by_cases h : lines ≤ 100
  · by_cases h0 : lines < 0
    · exact flatTells_neg a al cap cl lines o xs l w hn hl h h0 hs hd
    · exact flatTells_pos a al cap cl lines o xs l w hn hl h (by omega) hs hd
  · have h' : 100 < lines := by omega
    obtain ⟨kd, ln, vl⟩ := o
    unfold SOp.val
    clear h hs hd
    go_enter Try.func3, Try.ntmps3
    go_wp2
    go_ret
    exact ⟨rfl, ia_alloc _ _⟩
end Go.Proofs.Ytmlpekoombikaab
