/- What shref1.SameFrames, Send and Take answer. -/
import Derived.Test.YtfgemnlbbipbcaaNets2
import Derived.Lib.SlicesS
namespace Go.Proofs.Ytfgemnlbbipbcaa
open Go.RowKit
set_option linter.unusedVariables false
set_option linter.unusedSimpArgs false

theorem same_len (a b : Option Addr) (ca cb n m : Nat) (w : World) (hn : n ≤ 140737488351232) (hm : m ≤ 140737488351232) (h : n ≠ m) :
    Calls Try.prog 20 #[.slice a n ca, .slice b m cb] w fun e w' => e = .returned (.bool false) ∧ w' = w := by
  have h' : ((n : Int) != (m : Int)) = true := by rw [bne_iff_ne]; omega
  clear h
  go_enter Try.func20, Try.ntmps20
  go_wp2
  go_ret
  exact ⟨rfl, rfl⟩
theorem str_yes (x : List Nat) : ((strOf x).toList == (strOf x).toList) = true := (Lib.bytes_beq_iff _ _).2 rfl
theorem str_no {x y : List Nat} (hx : isBytes x) (hy : isBytes y) (h : x ≠ y) : ((strOf x).toList == (strOf y).toList) = false := (Lib.bytes_beq_false_iff _ _).2 fun e => h (strOf_inj hx hy e)
set_option maxHeartbeats 2000000 in
theorem same_eq (a b : Option Addr) (ca cb : Nat) (ls ms : List (List Nat)) (w : World) (hl : ls.length ≤ 140737488351232) (ha : LS w a ls) (hb : LS w b ms) (hn : ls.length = ms.length) :
    Calls Try.prog 20 #[.slice a ls.length ca, .slice b ms.length cb] w fun e w' => e = .returned (.bool (decide (ls = ms))) ∧ Below w.heap.size w w' := by
  have HA : Hid (LS w a ls) := ha
  have HB : Hid (LS w b ms) := hb
  rw [← hn]
  obtain ⟨d, hd⟩ : ∃ d, d = decide (ls = ms) := ⟨_, rfl⟩
  rw [← hd]
  have HD : Hid _ := hd
  obtain ⟨N, hN⟩ : ∃ N, N = ls.length := ⟨_, rfl⟩
  rw [← hN] at hl ⊢
  have HN : Hid _ := hN
  have HM : Hid _ := hn
  clear ha hb hd hN hn
  go_enter Try.func20, Try.ntmps20
  go_wp2
  go_loopw [13] (fun i wr => ∃ k : Nat, k ≤ N ∧ i = .int .i64 k ∧ (∀ j, j < k → ls[j]? = ms[j]?) ∧ Below w.heap.size w wr) (fun i _ => N - (intOf i).toNat)
  case atStart => exact ⟨0, Nat.zero_le _, rfl, fun j hj => by omega, Below.refl _ _⟩
  case round =>
    obtain ⟨k, hk, rfl, hj, hbel⟩ := hrel
    have HJ : Hid _ := hj
    clear hj
    by_cases hlt : k < N
    · have hk1 : k < ls.length := by rw [← HN.out]; exact hlt
      have hk2 : k < ms.length := by rw [← HM.out, ← HN.out]; exact hlt
      obtain ⟨ba, oa, u, rfl, hcu, au, cu, rfl, _, hum, hul, hbu⟩ := (HA.out.below hbel).at k hk1
      obtain ⟨bb, ob, v, rfl, hcv0, av, cv, rfl, _, hvm, hvl, hbv⟩ := (HB.out.below hbel).at k hk2
      obtain ⟨x, hx0⟩ : ∃ x, x = ls[k] := ⟨_, rfl⟩
      obtain ⟨y, hy0⟩ : ∃ y, y = ms[k] := ⟨_, rfl⟩
      rw [← hx0] at hcu hul hbu
      rw [← hy0] at hcv0 hvl hbv
      have HX : Hid (x = ls[k]) := hx0
      have HY : Hid (y = ms[k]) := hy0
      have HU : Hid (BSl wr au x) := hbu
      have HV : Hid (BSl wr av y) := hbv
      clear hx0 hy0 hbu hbv hum hvm
      by_cases hxy : x = y
      · have hne : ((strOf x).toList == (strOf y).toList) = true := by rw [hxy]; exact str_yes y
        have HXY : Hid (x = y) := hxy
        clear hxy
        go_wp2
        refine wp_region_free 10 [] (by kernel_rfl) (by kernel_rfl) (by kernel_rfl) ?_
        dsimp only [List.take, List.drop]
        refine freeOK_step (fun v _ => v = .slice (some ⟨ba, oa, none⟩) N ca) (stable_eq _) rfl ?_ ?_
        · intro σ W hG hd
          refine ⟨?_⟩
          dsimp only [putAll]
          go_wp2
          exact stepPost_mk (Gr.refl _) rfl rfl
        dsimp only [List.nil_append, List.cons_append]
        refine freeOK_step (fun v _ => v = .int .i64 k) (stable_eq _) rfl ?_ ?_
        · intro σ W hG hd
          refine ⟨?_⟩
          simp only [putAll, Act.put, List.nil_append, List.cons_append, List.setIfInBounds_toArray, List.set_cons_zero, List.set_cons_succ]
          go_wp2
          exact stepPost_mk (Gr.refl _) rfl rfl
        dsimp only [List.nil_append, List.cons_append]
        refine freeOK_step (fun v _ => v = .pointer (some ⟨ba, oa + k, none⟩)) (stable_eq _) rfl ?_ ?_
        · intro σ W hG hd
          have e0 : σ 0 = .slice (some ⟨ba, oa, none⟩) N ca := hd ⟨0, .data⟩ (by simp) rfl (fun v _ => v = .slice (some ⟨ba, oa, none⟩) N ca) rfl
          have e1 : σ 1 = .int .i64 k := hd ⟨1, .data⟩ (by simp) rfl (fun v _ => v = .int .i64 k) rfl
          refine ⟨?_⟩
          simp only [putAll, Act.put, List.nil_append, List.cons_append, List.setIfInBounds_toArray, List.set_cons_zero, List.set_cons_succ, e0, e1]
          go_wp2
          exact stepPost_mk (Gr.refl _) rfl rfl
        dsimp only [List.nil_append, List.cons_append]
        refine freeOK_step (fun v _ => v = .slice au x.length cu) (stable_eq _) rfl ?_ ?_
        · intro σ W hG hd
          have e2 : σ 2 = .pointer (some ⟨ba, oa + k, none⟩) := hd ⟨2, .data⟩ (by simp) rfl (fun v _ => v = .pointer (some ⟨ba, oa + k, none⟩)) rfl
          have q := gcell hG (a := ⟨ba, oa + k, none⟩) (v := .slice au x.length cu) hcu
          refine ⟨?_⟩
          simp only [putAll, Act.put, List.nil_append, List.cons_append, List.setIfInBounds_toArray, List.set_cons_zero, List.set_cons_succ, e2]
          go_wp2
          exact stepPost_mk (Gr.refl _) rfl rfl
        dsimp only [List.nil_append, List.cons_append]
        refine freeOK_step (fun v _ => v = .string (strOf x)) (stable_eq _) rfl ?_ ?_
        · intro σ W hG hd
          have e3 : σ 3 = .slice au x.length cu := hd ⟨3, .data⟩ (by simp) rfl (fun v _ => v = .slice au x.length cu) rfl
          have hcv := conv_sl W au cu x (HU.out.below (gr_drew hG))
          refine ⟨?_⟩
          simp only [putAll, Act.put, List.nil_append, List.cons_append, List.setIfInBounds_toArray, List.set_cons_zero, List.set_cons_succ, e3]
          go_wp2
          exact stepPost_mk (Gr.refl _) rfl rfl
        dsimp only [List.nil_append, List.cons_append]
        refine freeOK_step (fun v _ => v = .slice (some ⟨bb, ob, none⟩) N cb) (stable_eq _) rfl ?_ ?_
        · intro σ W hG hd
          refine ⟨?_⟩
          simp only [putAll, Act.put, List.nil_append, List.cons_append, List.setIfInBounds_toArray, List.set_cons_zero, List.set_cons_succ]
          go_wp2
          exact stepPost_mk (Gr.refl _) rfl rfl
        dsimp only [List.nil_append, List.cons_append]
        refine freeOK_step (fun v _ => v = .int .i64 k) (stable_eq _) rfl ?_ ?_
        · intro σ W hG hd
          refine ⟨?_⟩
          simp only [putAll, Act.put, List.nil_append, List.cons_append, List.setIfInBounds_toArray, List.set_cons_zero, List.set_cons_succ]
          go_wp2
          exact stepPost_mk (Gr.refl _) rfl rfl
        dsimp only [List.nil_append, List.cons_append]
        refine freeOK_step (fun v _ => v = .pointer (some ⟨bb, ob + k, none⟩)) (stable_eq _) rfl ?_ ?_
        · intro σ W hG hd
          have e5 : σ 5 = .slice (some ⟨bb, ob, none⟩) N cb := hd ⟨5, .data⟩ (by simp) rfl (fun v _ => v = .slice (some ⟨bb, ob, none⟩) N cb) rfl
          have e6 : σ 6 = .int .i64 k := hd ⟨6, .data⟩ (by simp) rfl (fun v _ => v = .int .i64 k) rfl
          refine ⟨?_⟩
          simp only [putAll, Act.put, List.nil_append, List.cons_append, List.setIfInBounds_toArray, List.set_cons_zero, List.set_cons_succ, e5, e6]
          go_wp2
          exact stepPost_mk (Gr.refl _) rfl rfl
        dsimp only [List.nil_append, List.cons_append]
        refine freeOK_step (fun v _ => v = .slice av y.length cv) (stable_eq _) rfl ?_ ?_
        · intro σ W hG hd
          have e7 : σ 7 = .pointer (some ⟨bb, ob + k, none⟩) := hd ⟨7, .data⟩ (by simp) rfl (fun v _ => v = .pointer (some ⟨bb, ob + k, none⟩)) rfl
          have q := gcell hG (a := ⟨bb, ob + k, none⟩) (v := .slice av y.length cv) hcv0
          refine ⟨?_⟩
          simp only [putAll, Act.put, List.nil_append, List.cons_append, List.setIfInBounds_toArray, List.set_cons_zero, List.set_cons_succ, e7]
          go_wp2
          exact stepPost_mk (Gr.refl _) rfl rfl
        dsimp only [List.nil_append, List.cons_append]
        refine freeOK_step (fun v _ => v = .string (strOf y)) (stable_eq _) rfl ?_ ?_
        · intro σ W hG hd
          have e8 : σ 8 = .slice av y.length cv := hd ⟨8, .data⟩ (by simp) rfl (fun v _ => v = .slice av y.length cv) rfl
          have hcv := conv_sl W av cv y (HV.out.below (gr_drew hG))
          refine ⟨?_⟩
          simp only [putAll, Act.put, List.nil_append, List.cons_append, List.setIfInBounds_toArray, List.set_cons_zero, List.set_cons_succ, e8]
          go_wp2
          exact stepPost_mk (Gr.refl _) rfl rfl
        dsimp only [List.nil_append, List.cons_append]
        refine freeOK_done fun σ W hG hR => ?_
        have e0 : σ 0 = .slice (some ⟨ba, oa, none⟩) N ca := hR 0 (fun v _ => v = .slice (some ⟨ba, oa, none⟩) N ca) rfl
        have e1 : σ 1 = .int .i64 k := hR 1 (fun v _ => v = .int .i64 k) rfl
        have e2 : σ 2 = .pointer (some ⟨ba, oa + k, none⟩) := hR 2 (fun v _ => v = .pointer (some ⟨ba, oa + k, none⟩)) rfl
        have e3 : σ 3 = .slice au x.length cu := hR 3 (fun v _ => v = .slice au x.length cu) rfl
        have e4 : σ 4 = .string (strOf x) := hR 4 (fun v _ => v = .string (strOf x)) rfl
        have e5 : σ 5 = .slice (some ⟨bb, ob, none⟩) N cb := hR 5 (fun v _ => v = .slice (some ⟨bb, ob, none⟩) N cb) rfl
        have e6 : σ 6 = .int .i64 k := hR 6 (fun v _ => v = .int .i64 k) rfl
        have e7 : σ 7 = .pointer (some ⟨bb, ob + k, none⟩) := hR 7 (fun v _ => v = .pointer (some ⟨bb, ob + k, none⟩)) rfl
        have e8 : σ 8 = .slice av y.length cv := hR 8 (fun v _ => v = .slice av y.length cv) rfl
        have e9 : σ 9 = .string (strOf y) := hR 9 (fun v _ => v = .string (strOf y)) rfl
        refine ⟨?_⟩
        simp only [putAll, Act.put, List.nil_append, List.cons_append, List.setIfInBounds_toArray, List.set_cons_zero, List.set_cons_succ, e0, e1, e2, e3, e4, e5, e6, e7, e8, e9]
        clear hR e0 e1 e2 e3 e4 e5 e6 e7 e8 e9
        go_wp2
        refine NP.normal ?_
        go_wp2
        go_roundw
        case rel =>
          refine ⟨k + 1, by omega, by go_num, fun j hj => ?_, Gr.below hbel hbel.size (gr_drew hG)⟩
          by_cases e : j = k
          · subst e
            rw [List.getElem?_eq_getElem hk1, List.getElem?_eq_getElem hk2, ← HX.out, ← HY.out, HXY.out]
          · exact HJ.out j (by omega)
        case measure => simp [intOf]; omega
      · have hne : ((strOf x).toList == (strOf y).toList) = false := str_no HU.out.1 HV.out.1 hxy
        have HXY : Hid (x ≠ y) := hxy
        clear hxy
        go_wp2
        refine wp_region_free 10 [] (by kernel_rfl) (by kernel_rfl) (by kernel_rfl) ?_
        dsimp only [List.take, List.drop]
        refine freeOK_step (fun v _ => v = .slice (some ⟨ba, oa, none⟩) N ca) (stable_eq _) rfl ?_ ?_
        · intro σ W hG hd
          refine ⟨?_⟩
          dsimp only [putAll]
          go_wp2
          exact stepPost_mk (Gr.refl _) rfl rfl
        dsimp only [List.nil_append, List.cons_append]
        refine freeOK_step (fun v _ => v = .int .i64 k) (stable_eq _) rfl ?_ ?_
        · intro σ W hG hd
          refine ⟨?_⟩
          simp only [putAll, Act.put, List.nil_append, List.cons_append, List.setIfInBounds_toArray, List.set_cons_zero, List.set_cons_succ]
          go_wp2
          exact stepPost_mk (Gr.refl _) rfl rfl
        dsimp only [List.nil_append, List.cons_append]
        refine freeOK_step (fun v _ => v = .pointer (some ⟨ba, oa + k, none⟩)) (stable_eq _) rfl ?_ ?_
        · intro σ W hG hd
          have e0 : σ 0 = .slice (some ⟨ba, oa, none⟩) N ca := hd ⟨0, .data⟩ (by simp) rfl (fun v _ => v = .slice (some ⟨ba, oa, none⟩) N ca) rfl
          have e1 : σ 1 = .int .i64 k := hd ⟨1, .data⟩ (by simp) rfl (fun v _ => v = .int .i64 k) rfl
          refine ⟨?_⟩
          simp only [putAll, Act.put, List.nil_append, List.cons_append, List.setIfInBounds_toArray, List.set_cons_zero, List.set_cons_succ, e0, e1]
          go_wp2
          exact stepPost_mk (Gr.refl _) rfl rfl
        dsimp only [List.nil_append, List.cons_append]
        refine freeOK_step (fun v _ => v = .slice au x.length cu) (stable_eq _) rfl ?_ ?_
        · intro σ W hG hd
          have e2 : σ 2 = .pointer (some ⟨ba, oa + k, none⟩) := hd ⟨2, .data⟩ (by simp) rfl (fun v _ => v = .pointer (some ⟨ba, oa + k, none⟩)) rfl
          have q := gcell hG (a := ⟨ba, oa + k, none⟩) (v := .slice au x.length cu) hcu
          refine ⟨?_⟩
          simp only [putAll, Act.put, List.nil_append, List.cons_append, List.setIfInBounds_toArray, List.set_cons_zero, List.set_cons_succ, e2]
          go_wp2
          exact stepPost_mk (Gr.refl _) rfl rfl
        dsimp only [List.nil_append, List.cons_append]
        refine freeOK_step (fun v _ => v = .string (strOf x)) (stable_eq _) rfl ?_ ?_
        · intro σ W hG hd
          have e3 : σ 3 = .slice au x.length cu := hd ⟨3, .data⟩ (by simp) rfl (fun v _ => v = .slice au x.length cu) rfl
          have hcv := conv_sl W au cu x (HU.out.below (gr_drew hG))
          refine ⟨?_⟩
          simp only [putAll, Act.put, List.nil_append, List.cons_append, List.setIfInBounds_toArray, List.set_cons_zero, List.set_cons_succ, e3]
          go_wp2
          exact stepPost_mk (Gr.refl _) rfl rfl
        dsimp only [List.nil_append, List.cons_append]
        refine freeOK_step (fun v _ => v = .slice (some ⟨bb, ob, none⟩) N cb) (stable_eq _) rfl ?_ ?_
        · intro σ W hG hd
          refine ⟨?_⟩
          simp only [putAll, Act.put, List.nil_append, List.cons_append, List.setIfInBounds_toArray, List.set_cons_zero, List.set_cons_succ]
          go_wp2
          exact stepPost_mk (Gr.refl _) rfl rfl
        dsimp only [List.nil_append, List.cons_append]
        refine freeOK_step (fun v _ => v = .int .i64 k) (stable_eq _) rfl ?_ ?_
        · intro σ W hG hd
          refine ⟨?_⟩
          simp only [putAll, Act.put, List.nil_append, List.cons_append, List.setIfInBounds_toArray, List.set_cons_zero, List.set_cons_succ]
          go_wp2
          exact stepPost_mk (Gr.refl _) rfl rfl
        dsimp only [List.nil_append, List.cons_append]
        refine freeOK_step (fun v _ => v = .pointer (some ⟨bb, ob + k, none⟩)) (stable_eq _) rfl ?_ ?_
        · intro σ W hG hd
          have e5 : σ 5 = .slice (some ⟨bb, ob, none⟩) N cb := hd ⟨5, .data⟩ (by simp) rfl (fun v _ => v = .slice (some ⟨bb, ob, none⟩) N cb) rfl
          have e6 : σ 6 = .int .i64 k := hd ⟨6, .data⟩ (by simp) rfl (fun v _ => v = .int .i64 k) rfl
          refine ⟨?_⟩
          simp only [putAll, Act.put, List.nil_append, List.cons_append, List.setIfInBounds_toArray, List.set_cons_zero, List.set_cons_succ, e5, e6]
          go_wp2
          exact stepPost_mk (Gr.refl _) rfl rfl
        dsimp only [List.nil_append, List.cons_append]
        refine freeOK_step (fun v _ => v = .slice av y.length cv) (stable_eq _) rfl ?_ ?_
        · intro σ W hG hd
          have e7 : σ 7 = .pointer (some ⟨bb, ob + k, none⟩) := hd ⟨7, .data⟩ (by simp) rfl (fun v _ => v = .pointer (some ⟨bb, ob + k, none⟩)) rfl
          have q := gcell hG (a := ⟨bb, ob + k, none⟩) (v := .slice av y.length cv) hcv0
          refine ⟨?_⟩
          simp only [putAll, Act.put, List.nil_append, List.cons_append, List.setIfInBounds_toArray, List.set_cons_zero, List.set_cons_succ, e7]
          go_wp2
          exact stepPost_mk (Gr.refl _) rfl rfl
        dsimp only [List.nil_append, List.cons_append]
        refine freeOK_step (fun v _ => v = .string (strOf y)) (stable_eq _) rfl ?_ ?_
        · intro σ W hG hd
          have e8 : σ 8 = .slice av y.length cv := hd ⟨8, .data⟩ (by simp) rfl (fun v _ => v = .slice av y.length cv) rfl
          have hcv := conv_sl W av cv y (HV.out.below (gr_drew hG))
          refine ⟨?_⟩
          simp only [putAll, Act.put, List.nil_append, List.cons_append, List.setIfInBounds_toArray, List.set_cons_zero, List.set_cons_succ, e8]
          go_wp2
          exact stepPost_mk (Gr.refl _) rfl rfl
        dsimp only [List.nil_append, List.cons_append]
        refine freeOK_done fun σ W hG hR => ?_
        have e0 : σ 0 = .slice (some ⟨ba, oa, none⟩) N ca := hR 0 (fun v _ => v = .slice (some ⟨ba, oa, none⟩) N ca) rfl
        have e1 : σ 1 = .int .i64 k := hR 1 (fun v _ => v = .int .i64 k) rfl
        have e2 : σ 2 = .pointer (some ⟨ba, oa + k, none⟩) := hR 2 (fun v _ => v = .pointer (some ⟨ba, oa + k, none⟩)) rfl
        have e3 : σ 3 = .slice au x.length cu := hR 3 (fun v _ => v = .slice au x.length cu) rfl
        have e4 : σ 4 = .string (strOf x) := hR 4 (fun v _ => v = .string (strOf x)) rfl
        have e5 : σ 5 = .slice (some ⟨bb, ob, none⟩) N cb := hR 5 (fun v _ => v = .slice (some ⟨bb, ob, none⟩) N cb) rfl
        have e6 : σ 6 = .int .i64 k := hR 6 (fun v _ => v = .int .i64 k) rfl
        have e7 : σ 7 = .pointer (some ⟨bb, ob + k, none⟩) := hR 7 (fun v _ => v = .pointer (some ⟨bb, ob + k, none⟩)) rfl
        have e8 : σ 8 = .slice av y.length cv := hR 8 (fun v _ => v = .slice av y.length cv) rfl
        have e9 : σ 9 = .string (strOf y) := hR 9 (fun v _ => v = .string (strOf y)) rfl
        refine ⟨?_⟩
        simp only [putAll, Act.put, List.nil_append, List.cons_append, List.setIfInBounds_toArray, List.set_cons_zero, List.set_cons_succ, e0, e1, e2, e3, e4, e5, e6, e7, e8, e9]
        clear hR e0 e1 e2 e3 e4 e5 e6 e7 e8 e9
        go_wp2
        refine NP.normal ?_
        go_wp2
        go_ret
        refine ⟨?_, Gr.below hbel hbel.size (gr_drew hG)⟩
        have hd : d = false := HD.out.trans (decide_eq_false fun e => HXY.out (by rw [HX.out, HY.out]; simp only [e]))
        rw [hd]
        rfl
    · go_wp2
      go_ret
      refine ⟨?_, hbel⟩
      have h1 := HN.out
      have h2 := HM.out
      have hd : d = true := HD.out.trans (decide_eq_true (List.ext_getElem? fun j => by
        by_cases hj : j < k
        · exact HJ.out j hj
        · rw [List.getElem?_eq_none (by omega), List.getElem?_eq_none (by omega)]))
      rw [hd]
      rfl
theorem same_any (a b : Option Addr) (ca cb : Nat) (ls ms : List (List Nat)) (w : World) (hl : ls.length ≤ 140737488351232) (hm : ms.length ≤ 140737488351232) (ha : LS w a ls) (hb : LS w b ms) :
    Calls Try.prog 20 #[.slice a ls.length ca, .slice b ms.length cb] w fun e w' => e = .returned (.bool (decide (ls = ms))) ∧ Below w.heap.size w w' := by
  by_cases hn : ls.length = ms.length
  · exact same_eq a b ca cb ls ms w hl ha hb hn
  · rw [decide_eq_false (fun e => hn (by rw [e]))]
    exact (same_len a b ca cb _ _ w hl hm hn).mono fun e w' ⟨h1, h2⟩ => ⟨h1, by subst h2; exact Below.refl _ _⟩
end Go.Proofs.Ytfgemnlbbipbcaa
