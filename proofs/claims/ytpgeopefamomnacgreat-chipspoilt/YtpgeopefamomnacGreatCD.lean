/- The developers' core: what is refused, New, Own; and the document's comparing of cores. -/
import Derived.Test.YtpgeopefamomnacGreatCB
import Derived.Test.YtpgeopefamomnacGreatRE
import Derived.Test.YtpgeopefamomnacGreatCA
set_option linter.unusedSimpArgs false
namespace Go.Proofs.YtpgeopefamomnacGreat
open Go.RowKit
set_option linter.unusedVariables false
set_option maxRecDepth 100000

set_option maxHeartbeats 4000000
theorem cown_ok (L : Row) (hu : ∀ u ∈ L, u.length = 7) (hL : L.length < 1000) (w : SOp) : FunOK Tryz.prog 34 [.agg [.d (.row L), I w.kind, I w.line, I w.value]] (hOf []) (.agg (coreC L w)) (hOf []) := by
  refine fun_deep (pins := []) (l0 := []) (objs := []) (base := 0) (xx_ok tab0_ok []) mixed Tryz.func34 rfl (Nat.le_of_ble_eq_true rfl) rfl rfl ?_
  repeat' ((conv => whnf); first | exact trivial | (with_reducible refine ap_of ?_; kernel_rfl) | (with_reducible refine ds_of ?_; kernel_rfl) | (with_reducible refine eq_of ?_; kernel_rfl) | exact rfl | (intro h; exact absurd h (by decide)) | intro _ | apply And.intro)
  all_goals first
    | rfl
    | exact Int.natCast_nonneg _
    | omega
    | exact hu _ (by assumption)
    | (simp; omega)
    | (rw [copyR]; rfl)
    | trace_state
theorem chear_out (L : Row) (hu : ∀ u ∈ L, u.length = 7) (hL : L.length < 1000) (w : SOp) (mk mf mt ml ms mu mv : Int) (ma : Bool) (id home : Int) (h : ml < 0 ∨ (L.length : Int) ≤ ml) : FunOK Tryz.prog 83 [.agg [.d (.row L), I w.kind, I w.line, I w.value], V id, V home, .agg [I mk, I mf, I mt, I ml, I ms, I mu, I mv, .d (.bool ma)]] (hOf []) (.tup [.agg (coreC L w), Ro [], Ro []]) (hOf []) := by
  rcases h with h | h
  · refine fun_deep (pins := []) (l0 := []) (objs := []) (base := 0) (xx_ok tabC1_ok [114]) mixed Tryz.func83 rfl (Nat.le_of_ble_eq_true rfl) rfl rfl ?_
    have hx : ¬ ((decide (ml < 0) == false) = true) := by simp [h]
    repeat' ((conv => whnf); first | exact trivial | (with_reducible refine ap_of ?_; kernel_rfl) | (with_reducible refine ds_of ?_; kernel_rfl) | (with_reducible refine eq_of ?_; kernel_rfl) | exact rfl | (intro h; exact absurd h (by decide)) | (intro h; exact absurd h hx) | intro _ | apply And.intro)
    all_goals first
      | rfl
      | exact Int.natCast_nonneg _
      | omega
      | exact hu _ (by assumption)
      | (simp; omega)
      | (exfalso; simp_all; done)
      | (exfalso; simp_all; omega)
      | (rw [copyR]; rfl)
      | trace_state
  · refine fun_deep (pins := []) (l0 := []) (objs := []) (base := 0) (xx_ok tabC1_ok [114]) mixed Tryz.func83 rfl (Nat.le_of_ble_eq_true rfl) rfl rfl ?_
    have hx : ¬ (decide (ml ≥ (L.length : Int)) = false) := by simp [h]
    repeat' ((conv => whnf); first | exact trivial | (with_reducible refine ap_of ?_; kernel_rfl) | (with_reducible refine ds_of ?_; kernel_rfl) | (with_reducible refine eq_of ?_; kernel_rfl) | exact rfl | (intro h; exact absurd h (by decide)) | (intro h; exact absurd h hx) | intro _ | apply And.intro)
    all_goals first
      | rfl
      | exact Int.natCast_nonneg _
      | omega
      | exact hu _ (by assumption)
      | (simp; omega)
      | (exfalso; simp_all; done)
      | (exfalso; simp_all; omega)
      | (rw [copyR]; rfl)
      | trace_state
theorem rhear_out (L : Row) (w : SOp) (mk mf mt ml ms mu mv : Int) (ma : Bool) (id home : Int) (h : ml < 0 ∨ (L.length : Int) ≤ ml) : FunOK Tryz.prog 33 [.agg [.d (.row L), I w.kind, I w.line, I w.value], V id, V home, .agg [I mk, I mf, I mt, I ml, I ms, I mu, I mv, .d (.bool ma)]] (hOf []) (.tup [.agg (coreC L w), Ro [], Ro []]) (hOf []) := by
  rcases h with h | h
  · refine fun_deep (pins := []) (l0 := []) (objs := []) (base := 0) (xx_ok tabT_ok [49]) mixed Tryz.func33 rfl (Nat.le_of_ble_eq_true rfl) rfl rfl ?_
    have hx : ¬ ((decide (ml < 0) == false) = true) := by simp [h]
    repeat' ((conv => whnf); first | exact trivial | (with_reducible refine ap_of ?_; kernel_rfl) | (with_reducible refine ds_of ?_; kernel_rfl) | (with_reducible refine eq_of ?_; kernel_rfl) | exact rfl | (intro h; exact absurd h (by decide)) | (intro h; exact absurd h hx) | intro _ | apply And.intro)
    all_goals first | rfl | (exfalso; simp_all; done) | (exfalso; simp_all; omega) | trace_state
  · refine fun_deep (pins := []) (l0 := []) (objs := []) (base := 0) (xx_ok tabT_ok [49]) mixed Tryz.func33 rfl (Nat.le_of_ble_eq_true rfl) rfl rfl ?_
    have hx : ¬ (decide (ml ≥ (L.length : Int)) = false) := by simp [h]
    repeat' ((conv => whnf); first | exact trivial | (with_reducible refine ap_of ?_; kernel_rfl) | (with_reducible refine ds_of ?_; kernel_rfl) | (with_reducible refine eq_of ?_; kernel_rfl) | exact rfl | (intro h; exact absurd h (by decide)) | (intro h; exact absurd h hx) | intro _ | apply And.intro)
    all_goals first | rfl | (exfalso; simp_all; done) | (exfalso; simp_all; omega) | trace_state
theorem cnew_ok (n : Nat) (hn : n < 1000) : FunOK Tryz.prog 19 [V n] (hOf []) (.agg (coreC (rowsL (List.replicate n SLine.zero)) SOp.zero)) (hOf []) := by
  refine fun_deep (pins := []) (l0 := []) (objs := []) (base := 0) (xx_ok tab0_ok []) mixed Tryz.func19 rfl (Nat.le_of_ble_eq_true rfl) rfl rfl ?_
  have hr : List.replicate n [J 0, J 0, J 0, J 0, J 0, J 0, J 0] = rowsL (List.replicate n SLine.zero) := by simp [rowsL, lineD, SLine.zero]
  repeat' ((conv => whnf); first | exact trivial | (with_reducible refine ap_of ?_; kernel_rfl) | (with_reducible refine ds_of ?_; kernel_rfl) | (with_reducible refine eq_of ?_; kernel_rfl) | exact rfl | (intro h; exact absurd h (by decide)) | intro _ | apply And.intro)
  all_goals first
    | exact Int.natCast_nonneg _
    | omega
    | (exfalso; simp_all; done)
    | (exfalso; simp_all; omega)
    | (rw [← hr]; rfl)
    | rfl
    | trace_state
theorem sameCore_ok (ls : List SLine) (w : SOp) (hl : ls.length < 1000) : FunOK Tryz.prog 17 [.agg [.d (.row (rowsL ls)), I w.kind, I w.line, I w.value], .agg [.d (.row (rowsL ls)), I w.kind, I w.line, I w.value]] (hOf []) (Vb true) (hOf []) := by
  refine fun_deep (pins := []) (l0 := []) (objs := []) (base := 0) (xx_ok tab0_ok []) mixed Tryz.func17 rfl (Nat.le_of_ble_eq_true rfl) rfl rfl ?_
  repeat' ((conv => whnf); first | exact trivial | (with_reducible refine ap_of ?_; kernel_rfl) | (with_reducible refine ds_of ?_; kernel_rfl) | (with_reducible refine eq_of ?_; kernel_rfl) | exact rfl | (intro h; exact absurd h (by decide)) | intro _ | apply And.intro)
  all_goals first
    | rfl
    | (exfalso; simp_all; done)
    | skip
  (conv => whnf)
  refine loop_keep [2, 3] 40 [] {k : Nat // k ≤ ls.length} (fun k => [(4, Vb false), (22, V ls.length), (23, V k.1)]) (fun k => [(0, .live (.box [.d (.row (rowsL ls)), I w.kind, I w.line, I w.value] 57)), (8, .live (.box [.d (.row (rowsL ls)), I w.kind, I w.line, I w.value] 57))]) (fun k => ls.length - k.1) ⟨0, Nat.zero_le _⟩ ?_
  (conv => whnf)
  refine ⟨?_, ?_⟩
  · repeat' ((conv => whnf); first | exact trivial | exact rfl | apply And.intro)
    all_goals first | exact int_eq (show ((rowsL ls).length : Int) = ls.length by rw [rowsL_len]) | trace_state
  · rintro ⟨k, hk⟩
    have hb := hl
    repeat' ((conv => whnf); first | exact trivial | (with_reducible refine ap_of ?_; kernel_rfl) | (with_reducible refine ds_of ?_; kernel_rfl) | (with_reducible refine eq_of ?_; kernel_rfl) | exact rfl | (intro h; exact absurd h (by decide)) | intro _ | apply And.intro)
    all_goals first
      | (have hlt : k < ls.length := (by have := k_lt (k := k) (n := ls.length) (by assumption); omega)
         first
           | first | exact Int.natCast_nonneg _ | (rw [rowsL_len]; exact Int.ofNat_lt.2 (show (k : Nat) < _ from hlt)) | (rw [show ∀ n : Nat, ((n : Nat) : Int).toNat = n from Int.toNat_natCast, rowsL_get hlt]; first | rfl | exact Nat.le_refl _) | (rw [show ∀ n : Nat, ((n : Nat) : Int).toNat = n from Int.toNat_natCast, rowsL_len]; exact hlt)
           | rfl
           | (exfalso; simp_all; done)
           | ((conv => whnf)
              refine ⟨⟨k + 1, hlt⟩, [], ?_, ?_⟩
              · show ls.length - (k + 1) < ls.length - k
                omega
              · repeat' ((conv => whnf); first | exact trivial | exact rfl | apply And.intro)
                exact succ_eq k (by omega)))
      | (have hke : k = ls.length := (by have := k_ge (k := k) (n := ls.length) (by assumption); omega)
         first | rfl | trace_state)
      | trace_state
end Go.Proofs.YtpgeopefamomnacGreat

/- The developers' core: its timer. -/
namespace Go.Proofs.YtpgeopefamomnacGreat
open Go.RowKit
set_option linter.unusedVariables false
set_option maxRecDepth 100000

set_option maxHeartbeats 4000000 in
theorem ctimer_ok (ls : List SLine) (w : SOp) (id home : Int) (hm : ls.length ≤ 1000000) : FunOK Tryz.prog 69 [.agg (coreC (rowsL ls) w), V id, V home] (hOf []) (Ro (R msgD (tmr id home ls ls.length))) (hOf []) := by
  refine fun_deep (pins := []) (l0 := []) (objs := []) (base := 0) (xx_ok tab0_ok []) mixed Tryz.func69 rfl (Nat.le_of_ble_eq_true rfl) rfl rfl ?_
  repeat' ((conv => whnf); first | exact trivial | (with_reducible refine ap_of ?_; kernel_rfl) | (with_reducible refine ds_of ?_; kernel_rfl) | (with_reducible refine eq_of ?_; kernel_rfl) | exact rfl | (intro h; exact absurd h (by decide)) | intro _ | apply And.intro)
  refine loop_keep [1, 2, 3, 6] 20 [(1, ?_)] {k : Nat // k ≤ ls.length} (fun k => [(7, .c (.own 1)), (12, V ls.length), (13, V k.1)]) (fun k => [(0, .live (.box (coreC (rowsL ls) w) 57)), (8, .live (.row [] 8 49 false)), (1, .live (.row (R msgD (tmr id home ls k.1)) 8 49 false))]) (fun k => ls.length - k.1) ⟨0, Nat.zero_le _⟩ ?_
  rotate_left
  (conv => whnf)
  refine ⟨?_, ?_⟩
  · repeat' ((conv => whnf); first | exact trivial | exact rfl | apply And.intro)
    all_goals first | exact int_eq (show ((rowsL ls).length : Int) = ls.length by rw [rowsL_len]) | trace_state
  · rintro ⟨k, hk⟩
    have hone : ∀ x : Msg, (msgD x).length = 8 := fun _ => rfl
    repeat' ((conv => whnf); first | exact trivial | (with_reducible refine ap_of ?_; kernel_rfl) | (with_reducible refine ds_of ?_; kernel_rfl) | (with_reducible refine eq_of ?_; kernel_rfl) | exact rfl | (intro h; exact absurd h (by decide)) | intro _ | apply And.intro)
    all_goals first
      | (have hlt : k < ls.length := (by have := k_lt (k := k) (n := ls.length) (by assumption); omega)
         have hg : (rowsL ls).getD k [] = lineD (ls.getD k line0) := rowsL_get hlt
         have hw : (((rowsL ls).getD ((k : Nat) : Int).toNat []).getD (0 + 1 + 1) dz).toI = (ls.getD k line0).want := by
           rw [show ∀ n : Nat, ((n : Nat) : Int).toNat = n from Int.toNat_natCast, hg]
           rfl
         first
           | first | exact Int.natCast_nonneg _ | (rw [rowsL_len]; exact Int.ofNat_lt.2 (show (k : Nat) < _ from hlt)) | (rw [show ∀ n : Nat, ((n : Nat) : Int).toNat = n from Int.toNat_natCast, rowsL_get hlt]; first | rfl | exact Nat.le_refl _) | (rw [show ∀ n : Nat, ((n : Nat) : Int).toNat = n from Int.toNat_natCast, rowsL_len]; exact hlt)
           | rfl
           | (rw [R_len]; have := tmr_len id home ls k hk; simp; omega)
           | (refine len_set1 (by assumption) ?_; rfl)
           | (simp; done)
           | (exfalso; simp_all; done)
           | ((conv => whnf)
              refine ⟨⟨k + 1, hlt⟩, [(1, ?_)], ?_, ?_⟩
              rotate_left
              · show ls.length - (k + 1) < ls.length - k
                omega
              · repeat' ((conv => whnf); first | exact trivial | exact rfl | apply And.intro)
                · exact succ_eq k (by omega)
                · refine row_eq ?_
                  rw [tmr_step id home hlt]
                  first
                    | (have h0 : ((ls.getD k line0).want != 0) = false := by rw [← hw]; assumption
                       rw [if_pos (by simpa using h0)]
                       simp only [List.append_nil]
                       done)
                    | (have h0 : ((ls.getD k line0).want != 0) = false := by rw [← hw]; assumption
                       rw [if_pos (by simpa using h0)]
                       rfl)
                    | (have h0 : ((ls.getD k line0).want != 0) = true := by rw [← hw]; assumption
                       have h1 : ((ls.getD k line0).want == 3) = true := by rw [← hw]; assumption
                       rw [if_neg (by simpa using h0), show ∀ n : Nat, ((n : Nat) : Int).toNat = n from Int.toNat_natCast, hg]
                       exact (congrArg (fun x => R msgD (tmr id home ls k) ++ [x]) (ask_row (ls.getD k line0) id home k _ (if_pos (by simpa using h1)).symm)).trans (R_snoc msgD _ _))
                    | (have h0 : ((ls.getD k line0).want != 0) = true := by rw [← hw]; assumption
                       have h1 : ((ls.getD k line0).want == 3) = false := by rw [← hw]; assumption
                       rw [if_neg (by simpa using h0), show ∀ n : Nat, ((n : Nat) : Int).toNat = n from Int.toNat_natCast, hg]
                       exact (congrArg (fun x => R msgD (tmr id home ls k) ++ [x]) (ask_row (ls.getD k line0) id home k _ (if_neg (by simpa using h1)).symm)).trans (R_snoc msgD _ _)))
           | skip)
      | (have hke : k = ls.length := (by have := k_ge (k := k) (n := ls.length) (by assumption); omega)
         subst hke
         first | rfl | trace_state)
      | trace_state
end Go.Proofs.YtpgeopefamomnacGreat
