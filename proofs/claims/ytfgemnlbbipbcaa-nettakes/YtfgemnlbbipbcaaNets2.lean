/- What net.Take answers. -/
import Derived.Test.YtfgemnlbbipbcaaNets1
import Derived.Test.YtfgemnlbbipbcaaFree
namespace Go.Proofs.Ytfgemnlbbipbcaa
open Go.RowKit
set_option linter.unusedVariables false
set_option linter.unusedSimpArgs false

theorem take_no (a : Option Addr) (cap m : Nat) (n : Int) (w : World) (hm : m ≤ maxLen) (h : ¬ (0 ≤ n ∧ n < m)) :
    Calls Try.prog 24 #[.slice a m cap, .int .i64 n] w fun e w' => e = .returned (.tuple #[.slice none 0 0, .slice none 0 0, .int .i64 5]) ∧ w = w' := by
  have kH := has_no a cap m n w hm h
  clear h
  go_enter Try.func24, Try.ntmps24
  go_wp2_with (go_at_call 37; refine kH.mono ?_; rintro e w1 ⟨rfl, rfl⟩)
  go_ret3
  exact ⟨rfl, rfl⟩

/-- Behind 'append(own, others...)'. -/
theorem take_end {w w2 w3 : World} {g : Nat} {ls ms : List (List Nat)} {us us2 : List Value} {v' : Value} (hg : w2.heap[g]? = some (.cells us.toArray 26 (0, 0))) (hus : FVs w2 us ls) (hus2 : FVs w2 us2 ms) (hwg : w.heap.size ≤ g) (hb : Below w.heap.size w w2)
    (h1 : w3.ownsRow w.heap.size 26 1 v' (ls.length + ms.length) (us ++ us2)) (h2 : w2.grownBy w3 (some g)) :
    (∃ a c, v' = .slice a (ls ++ ms).length c ∧ (ls ++ ms).length ≤ c ∧ c ≤ maxLen ∧ LS w3 a (ls ++ ms)) ∧ Below w.heap.size w w3 := by
  have hv := FVs.grown hg hus h2 (hus.append hus2)
  refine ⟨LRow.sl (base := w.heap.size) ⟨_, by simpa using h1, hv⟩, ?_⟩
  exact hb.grown h2 (by have := hb.size; omega) (fun k hk => by cases hk; exact hwg)
theorem gr_drew {w W : World} (h : Gr w.drew W) : Below w.heap.size w W := ((Below.refl _ _).drew).trans h
/-- Where l[n:] begins: a slice without room stays where it was. -/
theorem cut_at {w : World} {b off n cap : Nat} {ls : List (List Nat)} (h : LS w (some ⟨b, off, none⟩) ls) (hc : ls.length ≤ cap) : ∃ q, (cap = n ∧ q = some ⟨b, off, none⟩ ∨ cap ≠ n ∧ q = some ⟨b, off + n, none⟩) ∧ LS w q (ls.drop n) := by
  by_cases e : cap = n
  · exact ⟨_, .inl ⟨e, rfl⟩, by rw [List.drop_eq_nil_of_le (by omega)]; exact LS.nil _ _⟩
  · exact ⟨_, .inr ⟨e, rfl⟩, h.drop n⟩
theorem erase_split {ls : List (List Nat)} {k : Nat} (h : k < ls.length) : ls.take k ++ ls.drop (k + 1) = ls.eraseIdx k := (List.eraseIdx_eq_take_drop_succ ls k).symm

set_option maxHeartbeats 2000000 in
theorem take_ok (a : Option Addr) (cap k : Nat) (ls : List (List Nat)) (w : World) (hl : ls.length * 24 ≤ 140737488351232) (hcap : ls.length ≤ cap) (hcm : cap ≤ maxLen) (hs : LS w a ls) (hk : k < ls.length) :
    Calls Try.prog 24 #[.slice a ls.length cap, .int .i64 (k : Int)] w fun e w' => ∃ a' c' g, e = .returned (.tuple #[.slice a' (ls.eraseIdx k).length c', .slice (some ⟨g, 0, none⟩) ls[k].length ls[k].length, .int .i64 0]) ∧ (ls.eraseIdx k).length ≤ c' ∧ c' ≤ maxLen ∧ LS w' a' (ls.eraseIdx k) ∧ FV w' (.slice (some ⟨g, 0, none⟩) ls[k].length ls[k].length) ls[k] ∧ Below w.heap.size w w' := by
  obtain ⟨i0, hi, hz0, hz1, hz2⟩ := info_parts Try.infoSl
  have hm : ls.length ≤ maxLen := by omega
  have kH := has_yes a cap ls.length k w hm hk
  obtain ⟨b, off, u, rfl, hcu, au, cu, rfl, huc, hum, hul, hbu⟩ := hs.at k hk
  have k1 := fun W (h : LS W (some ⟨b, off, none⟩) (ls.take k)) => own_any (some ⟨b, off, none⟩) cap (ls.take k) W (by simp; omega) h
  obtain ⟨q, hq, hqs⟩ := cut_at (n := k + 1) (cap := cap) hs (by omega)
  have k2 := fun W (h : LS W q (ls.drop (k + 1))) => own_any q (cap - (k + 1)) (ls.drop (k + 1)) W (by simp; omega) h
  have kF := fun W (h : BSl W au ls[k]) => ownFrame_any au cu ls[k] W hul h
  have hl1 : (ls.take k).length = k := by simp; omega
  have hl2 : (ls.drop (k + 1)).length = ls.length - (k + 1) := by simp
  rw [hl1] at k1
  rw [hl2] at k2
  have H1 : Hid (LS w (some ⟨b, off, none⟩) (ls.take k)) := hs.take k
  have H2 : Hid (LS w q (ls.drop (k + 1))) := hqs
  have HQ : Hid _ := hq
  have eE := erase_split hk
  have HB : Hid (BSl w au ls[k]) := hbu
  obtain ⟨E, hE⟩ : ∃ E, E = ls.eraseIdx k := ⟨_, rfl⟩
  rw [← hE] at eE ⊢
  obtain ⟨x, hx0⟩ : ∃ x, x = ls[k] := ⟨_, rfl⟩
  rw [← hx0] at kF HB hcu hul ⊢
  obtain ⟨N, hN⟩ : ∃ N, N = ls.length := ⟨_, rfl⟩
  rw [← hN] at hl hcap hk hm kH hl2 k2 ⊢
  obtain ⟨T1, hT1⟩ : ∃ T, T = ls.take k := ⟨_, rfl⟩
  obtain ⟨T2, hT2⟩ : ∃ T, T = ls.drop (k + 1) := ⟨_, rfl⟩
  rw [← hT1] at k1 H1 eE hl1
  rw [← hT2] at k2 H2 eE hl2
  have hbw : b < w.heap.size := World.block_lt_of_cell? w _ hcu
  obtain ⟨B, hB⟩ : ∃ B, B = w.heap.size := ⟨_, rfl⟩
  have hB0 : B ≤ w.heap.size := by omega
  have HE : Hid _ := eE
  have HL1 : Hid _ := hl1
  have HL2 : Hid _ := hl2
  have HBB : Hid _ := hB
  clear hq hqs hx0 hN hT1 hT2 hE hs huc hum hbu eE hl1 hl2 hB
  go_enter Try.func24, Try.ntmps24
  go_wp2_with (go_at_call 37; refine kH.mono ?_; rintro e w1 ⟨rfl, rfl⟩)
  refine wp_region_free 9 [] (by kernel_rfl) (by kernel_rfl) (by kernel_rfl) ?_
  dsimp only [List.take, List.drop]
  refine freeOK_step (fun v _ => v = .slice (some ⟨b, off, none⟩) N cap) (stable_eq _) rfl ?_ ?_
  · intro σ W hG hd
    refine ⟨?_⟩
    dsimp only [putAll]
    go_wp2
    exact stepPost_mk (Gr.refl _) rfl rfl
  dsimp only [List.nil_append, List.cons_append]
  refine freeOK_step (fun v _ => v = .int .i64 k) (stable_eq _) rfl ?_ ?_
  · intro σ W hG hd
    refine ⟨?_⟩
    simp only [putAll, Act.put, List.nil_append, List.cons_append, List.setIfInBounds_toArray, List.set_cons_zero, List.set_cons_succ]
    go_wp2
    exact stepPost_mk (Gr.refl _) rfl rfl
  dsimp only [List.nil_append, List.cons_append]
  refine freeOK_step (fun v _ => v = .slice (some ⟨b, off, none⟩) k cap) (stable_eq _) rfl ?_ ?_
  · intro σ W hG hd
    have e0 : σ 0 = .slice (some ⟨b, off, none⟩) N cap := hd ⟨0, .data⟩ (by simp) rfl (fun v _ => v = .slice (some ⟨b, off, none⟩) N cap) rfl
    have e1 : σ 1 = .int .i64 k := hd ⟨1, .data⟩ (by simp) rfl (fun v _ => v = .int .i64 k) rfl
    refine ⟨?_⟩
    simp only [putAll, Act.put, List.nil_append, List.cons_append, List.setIfInBounds_toArray, List.set_cons_zero, List.set_cons_succ, e0, e1]
    go_wp2
    exact stepPost_mk (Gr.refl _) rfl rfl
  dsimp only [List.nil_append, List.cons_append]
  refine freeOK_step (fun v w => ∃ g, v = .slice (some ⟨g, 0, none⟩) (k) (k) ∧ LOwn w g T1 ∧ B ≤ g) (fun _ _ _ hG ⟨g, h1, h2, h3⟩ => ⟨g, h1, h2.below hG, h3⟩) rfl ?_ ?_
  · intro σ W hG hd
    have e2 : σ 2 = .slice (some ⟨b, off, none⟩) k cap := hd ⟨2, .data⟩ (by simp) rfl (fun v _ => v = .slice (some ⟨b, off, none⟩) k cap) rfl
    have hL := H1.out.below (gr_drew hG)
    refine ⟨?_⟩
    simp only [putAll, Act.put, List.nil_append, List.cons_append, List.setIfInBounds_toArray, List.set_cons_zero, List.set_cons_succ, e2]
    go_wp2_with (go_at_call 21; refine (k1 _ hL).mono ?_; rintro e w3 ⟨g3, rfl, hO3, hg3, hb3⟩)
    exact stepPost_mk hb3 rfl ⟨_, rfl, hO3, Nat.le_trans hB0 (Nat.le_trans (Below.size (gr_drew hG)) hg3)⟩
  dsimp only [List.nil_append, List.cons_append]
  refine freeOK_step (fun v _ => v = .slice (some ⟨b, off, none⟩) N cap) (stable_eq _) rfl ?_ ?_
  · intro σ W hG hd
    refine ⟨?_⟩
    simp only [putAll, Act.put, List.nil_append, List.cons_append, List.setIfInBounds_toArray, List.set_cons_zero, List.set_cons_succ]
    go_wp2
    exact stepPost_mk (Gr.refl _) rfl rfl
  dsimp only [List.nil_append, List.cons_append]
  refine freeOK_step (fun v _ => v = .int .i64 k) (stable_eq _) rfl ?_ ?_
  · intro σ W hG hd
    refine ⟨?_⟩
    simp only [putAll, Act.put, List.nil_append, List.cons_append, List.setIfInBounds_toArray, List.set_cons_zero, List.set_cons_succ]
    go_wp2
    exact stepPost_mk (Gr.refl _) rfl rfl
  dsimp only [List.nil_append, List.cons_append]
  refine freeOK_step (fun v _ => v = .int .i64 ((k : Int) + 1)) (stable_eq _) rfl ?_ ?_
  · intro σ W hG hd
    have e5 : σ 5 = .int .i64 k := hd ⟨5, .data⟩ (by simp) rfl (fun v _ => v = .int .i64 k) rfl
    refine ⟨?_⟩
    simp only [putAll, Act.put, List.nil_append, List.cons_append, List.setIfInBounds_toArray, List.set_cons_zero, List.set_cons_succ, e5]
    go_wp2
    exact stepPost_mk (Gr.refl _) rfl rfl
  dsimp only [List.nil_append, List.cons_append]
  refine freeOK_step (fun v _ => v = .slice q (N - (k + 1)) (cap - (k + 1))) (stable_eq _) rfl ?_ ?_
  · intro σ W hG hd
    have e4 : σ 4 = .slice (some ⟨b, off, none⟩) N cap := hd ⟨4, .data⟩ (by simp) rfl (fun v _ => v = .slice (some ⟨b, off, none⟩) N cap) rfl
    have e6 : σ 6 = .int .i64 ((k : Int) + 1) := hd ⟨6, .data⟩ (by simp) rfl (fun v _ => v = .int .i64 ((k : Int) + 1)) rfl
    refine ⟨?_⟩
    simp only [putAll, Act.put, List.nil_append, List.cons_append, List.setIfInBounds_toArray, List.set_cons_zero, List.set_cons_succ, e4, e6]
    rcases HQ.out with ⟨hc, eq⟩ | ⟨hc, eq⟩
    · (go_wp2; exact stepPost_mk (Gr.refl _) rfl rfl)
    · (go_wp2; exact stepPost_mk (Gr.refl _) rfl rfl)
  dsimp only [List.nil_append, List.cons_append]
  refine freeOK_step (fun v w => ∃ g, v = .slice (some ⟨g, 0, none⟩) (N - (k + 1)) (N - (k + 1)) ∧ LOwn w g T2 ∧ B ≤ g) (fun _ _ _ hG ⟨g, h1, h2, h3⟩ => ⟨g, h1, h2.below hG, h3⟩) rfl ?_ ?_
  · intro σ W hG hd
    have e7 : σ 7 = .slice q (N - (k + 1)) (cap - (k + 1)) := hd ⟨7, .data⟩ (by simp) rfl (fun v _ => v = .slice q (N - (k + 1)) (cap - (k + 1))) rfl
    have hL := H2.out.below (gr_drew hG)
    refine ⟨?_⟩
    simp only [putAll, Act.put, List.nil_append, List.cons_append, List.setIfInBounds_toArray, List.set_cons_zero, List.set_cons_succ, e7]
    go_wp2_with (go_at_call 21; refine (k2 _ hL).mono ?_; rintro e w3 ⟨g3, rfl, hO3, hg3, hb3⟩)
    exact stepPost_mk hb3 rfl ⟨_, rfl, hO3, Nat.le_trans hB0 (Nat.le_trans (Below.size (gr_drew hG)) hg3)⟩
  dsimp only [List.nil_append, List.cons_append]
  refine freeOK_done fun σ W hG hR => ?_
  have e0 : σ 0 = .slice (some ⟨b, off, none⟩) N cap := hR 0 (fun v _ => v = .slice (some ⟨b, off, none⟩) N cap) rfl
  have e1 : σ 1 = .int .i64 k := hR 1 (fun v _ => v = .int .i64 k) rfl
  have e2 : σ 2 = .slice (some ⟨b, off, none⟩) k cap := hR 2 (fun v _ => v = .slice (some ⟨b, off, none⟩) k cap) rfl
  have h3 : ∃ g, σ 3 = .slice (some ⟨g, 0, none⟩) (k) (k) ∧ LOwn W g T1 ∧ B ≤ g := hR 3 (fun v w => ∃ g, v = .slice (some ⟨g, 0, none⟩) (k) (k) ∧ LOwn w g T1 ∧ B ≤ g) rfl
  obtain ⟨g3, e3, hO3, hB3⟩ := h3
  have e4 : σ 4 = .slice (some ⟨b, off, none⟩) N cap := hR 4 (fun v _ => v = .slice (some ⟨b, off, none⟩) N cap) rfl
  have e5 : σ 5 = .int .i64 k := hR 5 (fun v _ => v = .int .i64 k) rfl
  have e6 : σ 6 = .int .i64 ((k : Int) + 1) := hR 6 (fun v _ => v = .int .i64 ((k : Int) + 1)) rfl
  have e7 : σ 7 = .slice q (N - (k + 1)) (cap - (k + 1)) := hR 7 (fun v _ => v = .slice q (N - (k + 1)) (cap - (k + 1))) rfl
  have h8 : ∃ g, σ 8 = .slice (some ⟨g, 0, none⟩) (N - (k + 1)) (N - (k + 1)) ∧ LOwn W g T2 ∧ B ≤ g := hR 8 (fun v w => ∃ g, v = .slice (some ⟨g, 0, none⟩) (N - (k + 1)) (N - (k + 1)) ∧ LOwn w g T2 ∧ B ≤ g) rfl
  obtain ⟨g8, e8, hO8, hB8⟩ := h8
  refine ⟨?_⟩
  simp only [putAll, Act.put, List.nil_append, List.cons_append, List.setIfInBounds_toArray, List.set_cons_zero, List.set_cons_succ, e0, e1, e2, e3, e4, e5, e6, e7, e8]
  clear hR e0 e1 e2 e3 e4 e5 e6 e7 e8
  obtain ⟨us, hus1, hus2, hown⟩ := hO3.own (base := w.heap.size) (HBB.out ▸ hB3) (by rw [HL1.out]; omega)
  obtain ⟨vs, hvs1, hvs2⟩ := hO8
  rw [HL1.out] at hown
  have hgw : Below w.heap.size w W := gr_drew hG
  have hsz := hgw.size
  go_wp2_with (at_builtin; refine wpList_append_own _ rfl _ _ 38 rfl w.heap.size 26 i0 (.slice none 0 0) 1 24 Try.underlying38 hi hz0 hz1 hz2 rfl (by decide) _ _ us rfl hown ⟨g8, 0, none⟩ (N - (k + 1)) (N - (k + 1)) vs rfl (by rw [hvs2.1, HL2.out, Nat.mul_one]) (row_src hvs1) hvs2.one (by omega) (by omega) (by omega) ?_; intro v' w3 h1 h2 _; have R := take_end (ls := T1) (ms := T2) hus1 hus2 hvs2 (HBB.out ▸ hB3) hgw (by rw [HL1.out, HL2.out]; exact h1) h2; clear h1 h2; rw [HE.out] at R; obtain ⟨⟨a', c', rfl, q1, q2, q3⟩, q4⟩ := R; obtain ⟨hc3, hf3⟩ := bcell q4)
  refine NP.normal ?_
  go_wp2_with (go_at_call 36; refine (kF _ (HB.out.below q4)).mono ?_; rintro e w4 ⟨g4, rfl, hF, hb4⟩)
  go_ret3
  exact ⟨_, _, _, rfl, q1, q2, q3.below hb4, hF, q4.trans (hb4.mono q4.size)⟩
end Go.Proofs.Ytfgemnlbbipbcaa
