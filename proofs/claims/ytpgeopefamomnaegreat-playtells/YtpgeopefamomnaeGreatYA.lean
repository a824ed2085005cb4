/- PTab PSteps. -/
import Derived.Test.YtpgeopefamomnaeGreatPI
import Derived.Test.YtpgeopefamomnaeGreatGB
import Derived.Test.YtpgeopefamomnaeGreatGF
import Derived.Test.YtpgeopefamomnaeGreatRT
set_option linter.unusedSimpArgs false
set_option linter.unusedSectionVars false
namespace Go.Proofs.YtpgeopefamomnaeGreat
open Go.RowKit
set_option linter.unusedVariables false
set_option linter.unusedSimpArgs false
set_option maxRecDepth 100000
def playDoT (xs : List AV) (l0 : List (Nat × OS)) : Ans := match xs, l0 with
  | [.agg [.d (.row cr), .d (.row hr), .d (.row fr)], .agg [.d (.int .i64 k), .d (.int .i64 nd), .d (.int .i64 sn), .d (.int .i64 sb), .d (.int .i64 ok), .d (.int .i64 ol), .d (.int .i64 ov)]], [] => some ((∃ x n L V, cr = R coreD x.cores ∧ hr = R entD x.home ∧ fr = framesD x.frames ∧ XI n L x V) ∧ sb < 9223372036854775808, doV (doF ⟨coresR cr, homeR hr, framesR fr⟩ ⟨k, nd, sn, sb, ⟨ok, ol, ov⟩⟩), [])
  | _, _ => none
theorem playDo_does : Does Tryz.prog 55 playDoT := ⟨⟨_, Tryz.func55, by decide, rfl⟩, fun xs l0 p v objs h hp => by
  unfold playDoT at h
  split at h
  · cases h
    obtain ⟨⟨x, n, L, V, rfl, rfl, rfl, X⟩, hsb⟩ := hp
    rw [coresR_rows, homeR_rows, framesR_rows]
    exact cdo_ok X (SStep.mk _ _ _ _ (SOp.mk _ _ _)) hsb
  · cases h⟩
def tabPS : Canon := orT 55 playDoT (orT 32 newT tab0)
theorem tabPS_ok : Sound Tryz.prog tabPS := (tab0_ok.or chnew_does).or playDo_does
def ksPS : List FuncId := [55, 32]
end Go.Proofs.YtpgeopefamomnaeGreat

namespace Go.Proofs.YtpgeopefamomnaeGreat
open Go.RowKit
set_option linter.unusedVariables false
set_option linter.unusedSimpArgs false
set_option maxRecDepth 100000
def ansD (a : SAns) : List DV := [J a.err, J a.done]
def runO (t : SRun) (a b : CV) : OS := .live (.box [.d (.row (R coreD t.chip.cores)), .d (.row (R entD t.chip.home)), .d (.row (framesD t.chip.frames)), a, b] 83)
def baseO (a b : Int) (x0 : SChip) : List (Nat × OS) := [(0, .live (.box [I a, I b] 23)), (8, .live (.box [.nils, .nils, .nils] 29)), (16, .live (.row [] 2 68 false)), (24, .live (.row [] 5 46 false)), (1040, .live (.box [.d (.row (R coreD x0.cores)), .d (.row (R entD x0.home)), .d (.row (framesD x0.frames))] 29))]
set_option maxHeartbeats 8000000
theorem steps_no (a b : Int) (l : List SStep) (h : (newF ⟨a, b⟩).2 ≠ 0) : FunOK Tryz.prog 19 [.agg [I a, I b], Ro (R stepD l)] (hOf []) (.tup [.agg [.d (.row []), .d (.row []), .d (.row [])], Ro [], Ro [], V (newF ⟨a, b⟩).2]) (hOf []) := by
  refine fun_deep (pins := []) (l0 := []) (objs := []) (base := 0) (xx_ok tabPS_ok ksPS) mixed Tryz.func19 rfl (Nat.le_of_ble_eq_true rfl) rfl rfl ?_
  have hx : ¬ (((newF ⟨a, b⟩).2 != 0) = false) := by simpa using h
  repeat' ((conv => whnf); first | exact trivial | (with_reducible refine ap_of ?_; kernel_rfl) | (with_reducible refine ds_of ?_; kernel_rfl) | (with_reducible refine eq_of ?_; kernel_rfl) | exact rfl | (intro h; exact absurd h (by decide)) | (intro h; with_reducible exact absurd h hx) | intro _ | apply And.intro)
  all_goals first | rfl | trace_state
theorem steps_many (a b : Int) (l : List SStep) (h : (newF ⟨a, b⟩).2 = 0) (hl : 300 < l.length) : FunOK Tryz.prog 19 [.agg [I a, I b], Ro (R stepD l)] (hOf []) (.tup [.agg [.d (.row []), .d (.row []), .d (.row [])], Ro [], Ro [], V 4]) (hOf []) := by
  refine fun_deep (pins := []) (l0 := []) (objs := []) (base := 0) (xx_ok tabPS_ok ksPS) mixed Tryz.func19 rfl (Nat.le_of_ble_eq_true rfl) rfl rfl ?_
  have hx : ¬ (((newF ⟨a, b⟩).2 != 0) = true) := by rw [h]; decide
  have hx2 : ¬ (decide (((R stepD l).length : Int) > 300) = false) := by rw [R_len]; simp; omega
  repeat' ((conv => whnf); first | exact trivial | (with_reducible refine ap_of ?_; kernel_rfl) | (with_reducible refine ds_of ?_; kernel_rfl) | (with_reducible refine eq_of ?_; kernel_rfl) | exact rfl | (intro h; exact absurd h (by decide)) | (intro h; with_reducible exact absurd h hx) | (intro h; with_reducible exact absurd h hx2) | intro _ | apply And.intro)
  all_goals first | rfl | trace_state
theorem steps_ok (a b : Int) (l : List SStep) (h : (newF ⟨a, b⟩).2 = 0) (hl : l.length ≤ 300) (hbit : ∀ s ∈ l, s.bit < 9223372036854775808) : FunOK Tryz.prog 19 [.agg [I a, I b], Ro (R stepD l)] (hOf []) (.tup [.agg (chipC (runF ⟨a, b⟩ l).chip), Ro (R ansD (runF ⟨a, b⟩ l).ans), Ro (R dnD (runF ⟨a, b⟩ l).done), V 0]) (hOf []) := by
  refine fun_deep (pins := []) (l0 := []) (objs := []) (base := 0) (xx_ok tabPS_ok ksPS) mixed Tryz.func19 rfl (Nat.le_of_ble_eq_true rfl) rfl rfl ?_
  have hx : ¬ (((newF ⟨a, b⟩).2 != 0) = true) := by rw [h]; decide
  have hx2 : ¬ (decide (((R stepD l).length : Int) > 300) = true) := by rw [R_len]; simp; omega
  repeat' ((conv => whnf); first | exact trivial | (with_reducible refine ap_of ?_; kernel_rfl) | (with_reducible refine ds_of ?_; kernel_rfl) | (with_reducible refine eq_of ?_; kernel_rfl) | exact rfl | (intro h; exact absurd h (by decide)) | (intro h; with_reducible exact absurd h hx) | (intro h; with_reducible exact absurd h hx2) | intro _ | apply And.intro)
  all_goals clear hx hx2
  (conv => whnf)
  refine loop_keep [4, 5, 6, 7, 10, 28] 40 [] {k : Nat // k ≤ l.length} (fun k => [(29, V l.length), (30, V k.1)]) (fun k => match k.1 with | 0 => baseO a b (newF ⟨a, b⟩).1 ++ [(4016, runO (runF ⟨a, b⟩ (l.take 0)) .nils .nils)] | j + 1 => baseO a b (newF ⟨a, b⟩).1 ++ [(4016, runO (runF ⟨a, b⟩ (l.take (j + 1))) (.own 1) (.own 2)), (1, .live (.row (R ansD (runF ⟨a, b⟩ (l.take (j + 1))).ans) 2 68 false)), (2, .live (.row (R dnD (runF ⟨a, b⟩ (l.take (j + 1))).done) 5 46 false))]) (fun k => l.length - k.1) ⟨0, Nat.zero_le _⟩ ?_
  (conv => whnf)
  have hlen : (R stepD l).length = l.length := R_len _ _
  refine ⟨?_, ?_⟩
  · repeat' ((conv => whnf); first | exact trivial | exact rfl | apply And.intro)
    all_goals first | exact int_eq (show ((R stepD l).length : Int) = l.length by rw [hlen]) | trace_state
  · rintro ⟨k, hk⟩
    obtain ⟨n, L, Vx, -, -, X, -, hal, hdl⟩ := run_xi h (l.take k)
    have hst : ∀ (hlt : k < l.length), runF ⟨a, b⟩ (l.take (k + 1)) = goStep (runF ⟨a, b⟩ (l.take k)) (l.getD k SStep.zero) := fun hlt => runF_step _ l k SStep.zero hlt
    rw [List.length_take] at hal hdl
    have hdo := (do1 (runF ⟨a, b⟩ (l.take k)).chip (l.getD k SStep.zero)).2
    have ha4 : (R ansD (runF ⟨a, b⟩ (l.take k)).ans).length ≤ 300 := by rw [R_len]; omega
    have hd4 : (R dnD (runF ⟨a, b⟩ (l.take k)).done).length ≤ 300 := by rw [R_len]; omega
    match k, hk with
    | 0, hk =>
      repeat' ((conv => whnf); first | exact trivial | (with_reducible refine ap_of ?_; kernel_rfl) | (with_reducible refine ds_of ?_; kernel_rfl) | (with_reducible refine eq_of ?_; kernel_rfl) | exact rfl | (intro h; exact absurd h (by decide)) | intro _ | apply And.intro)
      all_goals first
        | (have hlt : 0 < l.length := (by have := k_lt (k := 0) (n := l.length) (by assumption); omega)
           have hki : ((0 : Nat) : Int) < l.length := by omega
           have hg : (R stepD l).getD (0) [] = stepD (l.getD (0) SStep.zero) := R_get stepD SStep.zero hlt
           have hb : (l.getD (0) SStep.zero).bit < 9223372036854775808 := hbit _ (by simp [List.getD, hlt])
           have hD : (doF ⟨coresR (R coreD (runF ⟨a, b⟩ (l.take (0))).chip.cores), homeR (R entD (runF ⟨a, b⟩ (l.take (0))).chip.home), framesR (framesD (runF ⟨a, b⟩ (l.take (0))).chip.frames)⟩ ⟨(((R stepD l).getD ((0 : Nat) : Int).toNat []).getD 0 dz).toI, (((R stepD l).getD ((0 : Nat) : Int).toNat []).getD 1 dz).toI, (((R stepD l).getD ((0 : Nat) : Int).toNat []).getD 2 dz).toI, (((R stepD l).getD ((0 : Nat) : Int).toNat []).getD 3 dz).toI, ⟨(((R stepD l).getD ((0 : Nat) : Int).toNat []).getD 4 dz).toI, (((R stepD l).getD ((0 : Nat) : Int).toNat []).getD 5 dz).toI, (((R stepD l).getD ((0 : Nat) : Int).toNat []).getD 6 dz).toI⟩⟩) = doF (runF ⟨a, b⟩ (l.take (0))).chip (l.getD (0) SStep.zero) := by
             rw [coresR_rows, homeR_rows, framesR_rows, Int.toNat_natCast, hg]
             rfl
           first
             | exact Int.natCast_nonneg _
             | (rw [hlen]; exact hki)
             | (rw [hlen, show ∀ n : Nat, ((n : Nat) : Int).toNat = n from Int.toNat_natCast]; exact hlt)
             | rfl
             | (rw [show ∀ n : Nat, ((n : Nat) : Int).toNat = n from Int.toNat_natCast, hg]; first | rfl | exact Nat.le_refl _ | exact hb)
             | exact ⟨(runF ⟨a, b⟩ (l.take (0))).chip, n, L, Vx, rfl, rfl, rfl, X⟩
             | (refine len_set1 (by assumption) ?_; rfl)
             | exact R_one (f := dnD) (fun _ => rfl) _ _ (by assumption)
             | (simp; done)
             | (refine Nat.le_trans (Nat.add_le_add ha4 (Nat.le_refl _)) ?_; simp; done)
             | (show (R dnD (doF ⟨coresR (R coreD (runF ⟨a, b⟩ (l.take (0))).chip.cores), homeR (R entD (runF ⟨a, b⟩ (l.take (0))).chip.home), framesR (framesD (runF ⟨a, b⟩ (l.take (0))).chip.frames)⟩ ⟨(((R stepD l).getD ((0 : Nat) : Int).toNat []).getD 0 dz).toI, (((R stepD l).getD ((0 : Nat) : Int).toNat []).getD 1 dz).toI, (((R stepD l).getD ((0 : Nat) : Int).toNat []).getD 2 dz).toI, (((R stepD l).getD ((0 : Nat) : Int).toNat []).getD 3 dz).toI, ⟨(((R stepD l).getD ((0 : Nat) : Int).toNat []).getD 4 dz).toI, (((R stepD l).getD ((0 : Nat) : Int).toNat []).getD 5 dz).toI, (((R stepD l).getD ((0 : Nat) : Int).toNat []).getD 6 dz).toI⟩⟩).2.1).length ≤ 1000000000
                rw [hD, R_len]
                omega)
             | (show (R dnD (runF ⟨a, b⟩ (l.take (0))).done).length + (R dnD (doF ⟨coresR (R coreD (runF ⟨a, b⟩ (l.take (0))).chip.cores), homeR (R entD (runF ⟨a, b⟩ (l.take (0))).chip.home), framesR (framesD (runF ⟨a, b⟩ (l.take (0))).chip.frames)⟩ ⟨(((R stepD l).getD ((0 : Nat) : Int).toNat []).getD 0 dz).toI, (((R stepD l).getD ((0 : Nat) : Int).toNat []).getD 1 dz).toI, (((R stepD l).getD ((0 : Nat) : Int).toNat []).getD 2 dz).toI, (((R stepD l).getD ((0 : Nat) : Int).toNat []).getD 3 dz).toI, ⟨(((R stepD l).getD ((0 : Nat) : Int).toNat []).getD 4 dz).toI, (((R stepD l).getD ((0 : Nat) : Int).toNat []).getD 5 dz).toI, (((R stepD l).getD ((0 : Nat) : Int).toNat []).getD 6 dz).toI⟩⟩).2.1).length ≤ 1000000000
                rw [hD, R_len dnD (doF _ _).2.1]
                omega)
             | (have hs := hst hlt
                have h0 : ((doF ⟨coresR (R coreD (runF ⟨a, b⟩ (l.take (0))).chip.cores), homeR (R entD (runF ⟨a, b⟩ (l.take (0))).chip.home), framesR (framesD (runF ⟨a, b⟩ (l.take (0))).chip.frames)⟩ ⟨(((R stepD l).getD ((0 : Nat) : Int).toNat []).getD 0 dz).toI, (((R stepD l).getD ((0 : Nat) : Int).toNat []).getD 1 dz).toI, (((R stepD l).getD ((0 : Nat) : Int).toNat []).getD 2 dz).toI, (((R stepD l).getD ((0 : Nat) : Int).toNat []).getD 3 dz).toI, ⟨(((R stepD l).getD ((0 : Nat) : Int).toNat []).getD 4 dz).toI, (((R stepD l).getD ((0 : Nat) : Int).toNat []).getD 5 dz).toI, (((R stepD l).getD ((0 : Nat) : Int).toNat []).getD 6 dz).toI⟩⟩).2.2 == 0) = true := by assumption
                rw [hD] at h0
                have h0 : (doF (runF ⟨a, b⟩ (l.take (0))).chip (l.getD (0) SStep.zero)).2.2 = 0 := by simpa using h0
                have hc : (goStep (runF ⟨a, b⟩ (l.take (0))) (l.getD (0) SStep.zero)).chip = (doF (runF ⟨a, b⟩ (l.take (0))).chip (l.getD (0) SStep.zero)).1 := if_pos h0
                (conv => whnf)
                refine ⟨⟨0 + 1, hlt⟩, [(1, 42009004080), (2, 42009005048)], ?_, ?_⟩
                · show l.length - (0 + 1) < l.length - (0)
                  omega
                · repeat' ((conv => whnf); first | exact trivial | exact rfl | apply And.intro)
                  all_goals first
                    | exact succ_eq (0) (by omega)
                    | (show OS.live (.box [.d (.row (R coreD (doF ⟨coresR (R coreD (runF ⟨a, b⟩ (l.take (0))).chip.cores), homeR (R entD (runF ⟨a, b⟩ (l.take (0))).chip.home), framesR (framesD (runF ⟨a, b⟩ (l.take (0))).chip.frames)⟩ ⟨(((R stepD l).getD ((0 : Nat) : Int).toNat []).getD 0 dz).toI, (((R stepD l).getD ((0 : Nat) : Int).toNat []).getD 1 dz).toI, (((R stepD l).getD ((0 : Nat) : Int).toNat []).getD 2 dz).toI, (((R stepD l).getD ((0 : Nat) : Int).toNat []).getD 3 dz).toI, ⟨(((R stepD l).getD ((0 : Nat) : Int).toNat []).getD 4 dz).toI, (((R stepD l).getD ((0 : Nat) : Int).toNat []).getD 5 dz).toI, (((R stepD l).getD ((0 : Nat) : Int).toNat []).getD 6 dz).toI⟩⟩).1.cores)), .d (.row (R entD (doF ⟨coresR (R coreD (runF ⟨a, b⟩ (l.take (0))).chip.cores), homeR (R entD (runF ⟨a, b⟩ (l.take (0))).chip.home), framesR (framesD (runF ⟨a, b⟩ (l.take (0))).chip.frames)⟩ ⟨(((R stepD l).getD ((0 : Nat) : Int).toNat []).getD 0 dz).toI, (((R stepD l).getD ((0 : Nat) : Int).toNat []).getD 1 dz).toI, (((R stepD l).getD ((0 : Nat) : Int).toNat []).getD 2 dz).toI, (((R stepD l).getD ((0 : Nat) : Int).toNat []).getD 3 dz).toI, ⟨(((R stepD l).getD ((0 : Nat) : Int).toNat []).getD 4 dz).toI, (((R stepD l).getD ((0 : Nat) : Int).toNat []).getD 5 dz).toI, (((R stepD l).getD ((0 : Nat) : Int).toNat []).getD 6 dz).toI⟩⟩).1.home)), .d (.row (framesD (doF ⟨coresR (R coreD (runF ⟨a, b⟩ (l.take (0))).chip.cores), homeR (R entD (runF ⟨a, b⟩ (l.take (0))).chip.home), framesR (framesD (runF ⟨a, b⟩ (l.take (0))).chip.frames)⟩ ⟨(((R stepD l).getD ((0 : Nat) : Int).toNat []).getD 0 dz).toI, (((R stepD l).getD ((0 : Nat) : Int).toNat []).getD 1 dz).toI, (((R stepD l).getD ((0 : Nat) : Int).toNat []).getD 2 dz).toI, (((R stepD l).getD ((0 : Nat) : Int).toNat []).getD 3 dz).toI, ⟨(((R stepD l).getD ((0 : Nat) : Int).toNat []).getD 4 dz).toI, (((R stepD l).getD ((0 : Nat) : Int).toNat []).getD 5 dz).toI, (((R stepD l).getD ((0 : Nat) : Int).toNat []).getD 6 dz).toI⟩⟩).1.frames)), .own 1, .own 2] 83) = runO (runF ⟨a, b⟩ (l.take (0 + 1))) (.own 1) (.own 2)
                       rw [hD, hs, ← hc]
                       rfl)
                    | (show OS.live (.box [.d (.row (R coreD (doF ⟨coresR (R coreD (runF ⟨a, b⟩ (l.take (0))).chip.cores), homeR (R entD (runF ⟨a, b⟩ (l.take (0))).chip.home), framesR (framesD (runF ⟨a, b⟩ (l.take (0))).chip.frames)⟩ ⟨(((R stepD l).getD ((0 : Nat) : Int).toNat []).getD 0 dz).toI, (((R stepD l).getD ((0 : Nat) : Int).toNat []).getD 1 dz).toI, (((R stepD l).getD ((0 : Nat) : Int).toNat []).getD 2 dz).toI, (((R stepD l).getD ((0 : Nat) : Int).toNat []).getD 3 dz).toI, ⟨(((R stepD l).getD ((0 : Nat) : Int).toNat []).getD 4 dz).toI, (((R stepD l).getD ((0 : Nat) : Int).toNat []).getD 5 dz).toI, (((R stepD l).getD ((0 : Nat) : Int).toNat []).getD 6 dz).toI⟩⟩).1.cores)), .d (.row (R entD (doF ⟨coresR (R coreD (runF ⟨a, b⟩ (l.take (0))).chip.cores), homeR (R entD (runF ⟨a, b⟩ (l.take (0))).chip.home), framesR (framesD (runF ⟨a, b⟩ (l.take (0))).chip.frames)⟩ ⟨(((R stepD l).getD ((0 : Nat) : Int).toNat []).getD 0 dz).toI, (((R stepD l).getD ((0 : Nat) : Int).toNat []).getD 1 dz).toI, (((R stepD l).getD ((0 : Nat) : Int).toNat []).getD 2 dz).toI, (((R stepD l).getD ((0 : Nat) : Int).toNat []).getD 3 dz).toI, ⟨(((R stepD l).getD ((0 : Nat) : Int).toNat []).getD 4 dz).toI, (((R stepD l).getD ((0 : Nat) : Int).toNat []).getD 5 dz).toI, (((R stepD l).getD ((0 : Nat) : Int).toNat []).getD 6 dz).toI⟩⟩).1.home)), .d (.row (framesD (doF ⟨coresR (R coreD (runF ⟨a, b⟩ (l.take (0))).chip.cores), homeR (R entD (runF ⟨a, b⟩ (l.take (0))).chip.home), framesR (framesD (runF ⟨a, b⟩ (l.take (0))).chip.frames)⟩ ⟨(((R stepD l).getD ((0 : Nat) : Int).toNat []).getD 0 dz).toI, (((R stepD l).getD ((0 : Nat) : Int).toNat []).getD 1 dz).toI, (((R stepD l).getD ((0 : Nat) : Int).toNat []).getD 2 dz).toI, (((R stepD l).getD ((0 : Nat) : Int).toNat []).getD 3 dz).toI, ⟨(((R stepD l).getD ((0 : Nat) : Int).toNat []).getD 4 dz).toI, (((R stepD l).getD ((0 : Nat) : Int).toNat []).getD 5 dz).toI, (((R stepD l).getD ((0 : Nat) : Int).toNat []).getD 6 dz).toI⟩⟩).1.frames)), .own _, .own _] 83) = renOS _ (runO (runF ⟨a, b⟩ (l.take (0 + 1))) (.own 1) (.own 2))
                       rw [hD, hs, ← hc]
                       rfl)
                    | (refine row_eq ?_
                       show R ansD (runF ⟨a, b⟩ (l.take (0))).ans ++ [[J (doF ⟨coresR (R coreD (runF ⟨a, b⟩ (l.take (0))).chip.cores), homeR (R entD (runF ⟨a, b⟩ (l.take (0))).chip.home), framesR (framesD (runF ⟨a, b⟩ (l.take (0))).chip.frames)⟩ ⟨(((R stepD l).getD ((0 : Nat) : Int).toNat []).getD 0 dz).toI, (((R stepD l).getD ((0 : Nat) : Int).toNat []).getD 1 dz).toI, (((R stepD l).getD ((0 : Nat) : Int).toNat []).getD 2 dz).toI, (((R stepD l).getD ((0 : Nat) : Int).toNat []).getD 3 dz).toI, ⟨(((R stepD l).getD ((0 : Nat) : Int).toNat []).getD 4 dz).toI, (((R stepD l).getD ((0 : Nat) : Int).toNat []).getD 5 dz).toI, (((R stepD l).getD ((0 : Nat) : Int).toNat []).getD 6 dz).toI⟩⟩).2.2, J ((R dnD (doF ⟨coresR (R coreD (runF ⟨a, b⟩ (l.take (0))).chip.cores), homeR (R entD (runF ⟨a, b⟩ (l.take (0))).chip.home), framesR (framesD (runF ⟨a, b⟩ (l.take (0))).chip.frames)⟩ ⟨(((R stepD l).getD ((0 : Nat) : Int).toNat []).getD 0 dz).toI, (((R stepD l).getD ((0 : Nat) : Int).toNat []).getD 1 dz).toI, (((R stepD l).getD ((0 : Nat) : Int).toNat []).getD 2 dz).toI, (((R stepD l).getD ((0 : Nat) : Int).toNat []).getD 3 dz).toI, ⟨(((R stepD l).getD ((0 : Nat) : Int).toNat []).getD 4 dz).toI, (((R stepD l).getD ((0 : Nat) : Int).toNat []).getD 5 dz).toI, (((R stepD l).getD ((0 : Nat) : Int).toNat []).getD 6 dz).toI⟩⟩).2.1).length : Int)]] = R ansD (runF ⟨a, b⟩ (l.take (0 + 1))).ans
                       rw [hD, hs, R_len]
                       exact R_app ansD (runF ⟨a, b⟩ (l.take (0))).ans [⟨_, _⟩])
                    | (refine row_eq ?_
                       show R dnD (runF ⟨a, b⟩ (l.take (0))).done ++ R dnD (doF ⟨coresR (R coreD (runF ⟨a, b⟩ (l.take (0))).chip.cores), homeR (R entD (runF ⟨a, b⟩ (l.take (0))).chip.home), framesR (framesD (runF ⟨a, b⟩ (l.take (0))).chip.frames)⟩ ⟨(((R stepD l).getD ((0 : Nat) : Int).toNat []).getD 0 dz).toI, (((R stepD l).getD ((0 : Nat) : Int).toNat []).getD 1 dz).toI, (((R stepD l).getD ((0 : Nat) : Int).toNat []).getD 2 dz).toI, (((R stepD l).getD ((0 : Nat) : Int).toNat []).getD 3 dz).toI, ⟨(((R stepD l).getD ((0 : Nat) : Int).toNat []).getD 4 dz).toI, (((R stepD l).getD ((0 : Nat) : Int).toNat []).getD 5 dz).toI, (((R stepD l).getD ((0 : Nat) : Int).toNat []).getD 6 dz).toI⟩⟩).2.1 = R dnD (runF ⟨a, b⟩ (l.take (0 + 1))).done
                       rw [hD, hs]
                       exact R_app dnD (runF ⟨a, b⟩ (l.take (0))).done _)
                    | trace_state)
             | (have hs := hst hlt
                have h0 : ((doF ⟨coresR (R coreD (runF ⟨a, b⟩ (l.take (0))).chip.cores), homeR (R entD (runF ⟨a, b⟩ (l.take (0))).chip.home), framesR (framesD (runF ⟨a, b⟩ (l.take (0))).chip.frames)⟩ ⟨(((R stepD l).getD ((0 : Nat) : Int).toNat []).getD 0 dz).toI, (((R stepD l).getD ((0 : Nat) : Int).toNat []).getD 1 dz).toI, (((R stepD l).getD ((0 : Nat) : Int).toNat []).getD 2 dz).toI, (((R stepD l).getD ((0 : Nat) : Int).toNat []).getD 3 dz).toI, ⟨(((R stepD l).getD ((0 : Nat) : Int).toNat []).getD 4 dz).toI, (((R stepD l).getD ((0 : Nat) : Int).toNat []).getD 5 dz).toI, (((R stepD l).getD ((0 : Nat) : Int).toNat []).getD 6 dz).toI⟩⟩).2.2 == 0) = false := by assumption
                rw [hD] at h0
                have h0 : ¬ (doF (runF ⟨a, b⟩ (l.take (0))).chip (l.getD (0) SStep.zero)).2.2 = 0 := by simpa using h0
                have hc : (goStep (runF ⟨a, b⟩ (l.take (0))) (l.getD (0) SStep.zero)).chip = (runF ⟨a, b⟩ (l.take (0))).chip := if_neg h0
                (conv => whnf)
                refine ⟨⟨0 + 1, hlt⟩, [(1, 42009003080), (2, 42009004048)], ?_, ?_⟩
                · show l.length - (0 + 1) < l.length - (0)
                  omega
                · repeat' ((conv => whnf); first | exact trivial | exact rfl | apply And.intro)
                  all_goals first
                    | exact succ_eq (0) (by omega)
                    | (show OS.live (.box [.d (.row (R coreD (runF ⟨a, b⟩ (l.take (0))).chip.cores)), .d (.row (R entD (runF ⟨a, b⟩ (l.take (0))).chip.home)), .d (.row (framesD (runF ⟨a, b⟩ (l.take (0))).chip.frames)), .own _, .own _] 83) = renOS _ (runO (runF ⟨a, b⟩ (l.take (0 + 1))) (.own 1) (.own 2))
                       rw [hs]
                       unfold runO
                       rw [hc]
                       rfl)
                    | (refine row_eq ?_
                       show R ansD (runF ⟨a, b⟩ (l.take (0))).ans ++ [[J (doF ⟨coresR (R coreD (runF ⟨a, b⟩ (l.take (0))).chip.cores), homeR (R entD (runF ⟨a, b⟩ (l.take (0))).chip.home), framesR (framesD (runF ⟨a, b⟩ (l.take (0))).chip.frames)⟩ ⟨(((R stepD l).getD ((0 : Nat) : Int).toNat []).getD 0 dz).toI, (((R stepD l).getD ((0 : Nat) : Int).toNat []).getD 1 dz).toI, (((R stepD l).getD ((0 : Nat) : Int).toNat []).getD 2 dz).toI, (((R stepD l).getD ((0 : Nat) : Int).toNat []).getD 3 dz).toI, ⟨(((R stepD l).getD ((0 : Nat) : Int).toNat []).getD 4 dz).toI, (((R stepD l).getD ((0 : Nat) : Int).toNat []).getD 5 dz).toI, (((R stepD l).getD ((0 : Nat) : Int).toNat []).getD 6 dz).toI⟩⟩).2.2, J ((R dnD (doF ⟨coresR (R coreD (runF ⟨a, b⟩ (l.take (0))).chip.cores), homeR (R entD (runF ⟨a, b⟩ (l.take (0))).chip.home), framesR (framesD (runF ⟨a, b⟩ (l.take (0))).chip.frames)⟩ ⟨(((R stepD l).getD ((0 : Nat) : Int).toNat []).getD 0 dz).toI, (((R stepD l).getD ((0 : Nat) : Int).toNat []).getD 1 dz).toI, (((R stepD l).getD ((0 : Nat) : Int).toNat []).getD 2 dz).toI, (((R stepD l).getD ((0 : Nat) : Int).toNat []).getD 3 dz).toI, ⟨(((R stepD l).getD ((0 : Nat) : Int).toNat []).getD 4 dz).toI, (((R stepD l).getD ((0 : Nat) : Int).toNat []).getD 5 dz).toI, (((R stepD l).getD ((0 : Nat) : Int).toNat []).getD 6 dz).toI⟩⟩).2.1).length : Int)]] = R ansD (runF ⟨a, b⟩ (l.take (0 + 1))).ans
                       rw [hD, hs, R_len]
                       exact R_app ansD (runF ⟨a, b⟩ (l.take (0))).ans [⟨_, _⟩])
                    | (refine row_eq ?_
                       show R dnD (runF ⟨a, b⟩ (l.take (0))).done ++ R dnD (doF ⟨coresR (R coreD (runF ⟨a, b⟩ (l.take (0))).chip.cores), homeR (R entD (runF ⟨a, b⟩ (l.take (0))).chip.home), framesR (framesD (runF ⟨a, b⟩ (l.take (0))).chip.frames)⟩ ⟨(((R stepD l).getD ((0 : Nat) : Int).toNat []).getD 0 dz).toI, (((R stepD l).getD ((0 : Nat) : Int).toNat []).getD 1 dz).toI, (((R stepD l).getD ((0 : Nat) : Int).toNat []).getD 2 dz).toI, (((R stepD l).getD ((0 : Nat) : Int).toNat []).getD 3 dz).toI, ⟨(((R stepD l).getD ((0 : Nat) : Int).toNat []).getD 4 dz).toI, (((R stepD l).getD ((0 : Nat) : Int).toNat []).getD 5 dz).toI, (((R stepD l).getD ((0 : Nat) : Int).toNat []).getD 6 dz).toI⟩⟩).2.1 = R dnD (runF ⟨a, b⟩ (l.take (0 + 1))).done
                       rw [hD, hs]
                       exact R_app dnD (runF ⟨a, b⟩ (l.take (0))).done _)
                    | trace_state))
        | (have hke : 0 = l.length := (by have := k_ge (k := 0) (n := l.length) (by assumption); omega)
           have hTl : (runF ⟨a, b⟩ (l.take (0))) = runF ⟨a, b⟩ l := by rw [List.take_of_length_le (by omega)]
           first
             | rfl
             | (rw [← hTl]
                first
                  | rfl
                  | (show AV.tup [.agg (chipC (runF ⟨a, b⟩ (l.take (0))).chip), Ro (R ansD (runF ⟨a, b⟩ (l.take (0))).ans), Ro (R dnD (runF ⟨a, b⟩ (l.take (0))).done), V 0] = _
                     rfl)
                  | trace_state))
        | trace_state
    | j + 1, hk =>
      repeat' ((conv => whnf); first | exact trivial | (with_reducible refine ap_of ?_; kernel_rfl) | (with_reducible refine ds_of ?_; kernel_rfl) | (with_reducible refine eq_of ?_; kernel_rfl) | exact rfl | (intro h; exact absurd h (by decide)) | intro _ | apply And.intro)
      all_goals first
        | (have hlt : j + 1 < l.length := (by have := k_lt (k := j + 1) (n := l.length) (by assumption); omega)
           have hki : ((j + 1 : Nat) : Int) < l.length := by omega
           have hg : (R stepD l).getD (j + 1) [] = stepD (l.getD (j + 1) SStep.zero) := R_get stepD SStep.zero hlt
           have hb : (l.getD (j + 1) SStep.zero).bit < 9223372036854775808 := hbit _ (by simp [List.getD, hlt])
           have hD : (doF ⟨coresR (R coreD (runF ⟨a, b⟩ (l.take (j + 1))).chip.cores), homeR (R entD (runF ⟨a, b⟩ (l.take (j + 1))).chip.home), framesR (framesD (runF ⟨a, b⟩ (l.take (j + 1))).chip.frames)⟩ ⟨(((R stepD l).getD ((j + 1 : Nat) : Int).toNat []).getD 0 dz).toI, (((R stepD l).getD ((j + 1 : Nat) : Int).toNat []).getD 1 dz).toI, (((R stepD l).getD ((j + 1 : Nat) : Int).toNat []).getD 2 dz).toI, (((R stepD l).getD ((j + 1 : Nat) : Int).toNat []).getD 3 dz).toI, ⟨(((R stepD l).getD ((j + 1 : Nat) : Int).toNat []).getD 4 dz).toI, (((R stepD l).getD ((j + 1 : Nat) : Int).toNat []).getD 5 dz).toI, (((R stepD l).getD ((j + 1 : Nat) : Int).toNat []).getD 6 dz).toI⟩⟩) = doF (runF ⟨a, b⟩ (l.take (j + 1))).chip (l.getD (j + 1) SStep.zero) := by
             rw [coresR_rows, homeR_rows, framesR_rows, Int.toNat_natCast, hg]
             rfl
           first
             | exact Int.natCast_nonneg _
             | (rw [hlen]; exact hki)
             | (rw [hlen, show ∀ n : Nat, ((n : Nat) : Int).toNat = n from Int.toNat_natCast]; exact hlt)
             | rfl
             | (rw [show ∀ n : Nat, ((n : Nat) : Int).toNat = n from Int.toNat_natCast, hg]; first | rfl | exact Nat.le_refl _ | exact hb)
             | exact ⟨(runF ⟨a, b⟩ (l.take (j + 1))).chip, n, L, Vx, rfl, rfl, rfl, X⟩
             | (refine len_set1 (by assumption) ?_; rfl)
             | exact R_one (f := dnD) (fun _ => rfl) _ _ (by assumption)
             | (simp; done)
             | (refine Nat.le_trans (Nat.add_le_add ha4 (Nat.le_refl _)) ?_; simp; done)
             | (show (R dnD (doF ⟨coresR (R coreD (runF ⟨a, b⟩ (l.take (j + 1))).chip.cores), homeR (R entD (runF ⟨a, b⟩ (l.take (j + 1))).chip.home), framesR (framesD (runF ⟨a, b⟩ (l.take (j + 1))).chip.frames)⟩ ⟨(((R stepD l).getD ((j + 1 : Nat) : Int).toNat []).getD 0 dz).toI, (((R stepD l).getD ((j + 1 : Nat) : Int).toNat []).getD 1 dz).toI, (((R stepD l).getD ((j + 1 : Nat) : Int).toNat []).getD 2 dz).toI, (((R stepD l).getD ((j + 1 : Nat) : Int).toNat []).getD 3 dz).toI, ⟨(((R stepD l).getD ((j + 1 : Nat) : Int).toNat []).getD 4 dz).toI, (((R stepD l).getD ((j + 1 : Nat) : Int).toNat []).getD 5 dz).toI, (((R stepD l).getD ((j + 1 : Nat) : Int).toNat []).getD 6 dz).toI⟩⟩).2.1).length ≤ 1000000000
                rw [hD, R_len]
                omega)
             | (show (R dnD (runF ⟨a, b⟩ (l.take (j + 1))).done).length + (R dnD (doF ⟨coresR (R coreD (runF ⟨a, b⟩ (l.take (j + 1))).chip.cores), homeR (R entD (runF ⟨a, b⟩ (l.take (j + 1))).chip.home), framesR (framesD (runF ⟨a, b⟩ (l.take (j + 1))).chip.frames)⟩ ⟨(((R stepD l).getD ((j + 1 : Nat) : Int).toNat []).getD 0 dz).toI, (((R stepD l).getD ((j + 1 : Nat) : Int).toNat []).getD 1 dz).toI, (((R stepD l).getD ((j + 1 : Nat) : Int).toNat []).getD 2 dz).toI, (((R stepD l).getD ((j + 1 : Nat) : Int).toNat []).getD 3 dz).toI, ⟨(((R stepD l).getD ((j + 1 : Nat) : Int).toNat []).getD 4 dz).toI, (((R stepD l).getD ((j + 1 : Nat) : Int).toNat []).getD 5 dz).toI, (((R stepD l).getD ((j + 1 : Nat) : Int).toNat []).getD 6 dz).toI⟩⟩).2.1).length ≤ 1000000000
                rw [hD, R_len dnD (doF _ _).2.1]
                omega)
             | (have hs := hst hlt
                have h0 : ((doF ⟨coresR (R coreD (runF ⟨a, b⟩ (l.take (j + 1))).chip.cores), homeR (R entD (runF ⟨a, b⟩ (l.take (j + 1))).chip.home), framesR (framesD (runF ⟨a, b⟩ (l.take (j + 1))).chip.frames)⟩ ⟨(((R stepD l).getD ((j + 1 : Nat) : Int).toNat []).getD 0 dz).toI, (((R stepD l).getD ((j + 1 : Nat) : Int).toNat []).getD 1 dz).toI, (((R stepD l).getD ((j + 1 : Nat) : Int).toNat []).getD 2 dz).toI, (((R stepD l).getD ((j + 1 : Nat) : Int).toNat []).getD 3 dz).toI, ⟨(((R stepD l).getD ((j + 1 : Nat) : Int).toNat []).getD 4 dz).toI, (((R stepD l).getD ((j + 1 : Nat) : Int).toNat []).getD 5 dz).toI, (((R stepD l).getD ((j + 1 : Nat) : Int).toNat []).getD 6 dz).toI⟩⟩).2.2 == 0) = true := by assumption
                rw [hD] at h0
                have h0 : (doF (runF ⟨a, b⟩ (l.take (j + 1))).chip (l.getD (j + 1) SStep.zero)).2.2 = 0 := by simpa using h0
                have hc : (goStep (runF ⟨a, b⟩ (l.take (j + 1))) (l.getD (j + 1) SStep.zero)).chip = (doF (runF ⟨a, b⟩ (l.take (j + 1))).chip (l.getD (j + 1) SStep.zero)).1 := if_pos h0
                (conv => whnf)
                refine ⟨⟨j + 1 + 1, hlt⟩, [(1, 42009004080), (2, 42009005048)], ?_, ?_⟩
                · show l.length - (j + 1 + 1) < l.length - (j + 1)
                  omega
                · repeat' ((conv => whnf); first | exact trivial | exact rfl | apply And.intro)
                  all_goals first
                    | exact succ_eq (j + 1) (by omega)
                    | (show OS.live (.box [.d (.row (R coreD (doF ⟨coresR (R coreD (runF ⟨a, b⟩ (l.take (j + 1))).chip.cores), homeR (R entD (runF ⟨a, b⟩ (l.take (j + 1))).chip.home), framesR (framesD (runF ⟨a, b⟩ (l.take (j + 1))).chip.frames)⟩ ⟨(((R stepD l).getD ((j + 1 : Nat) : Int).toNat []).getD 0 dz).toI, (((R stepD l).getD ((j + 1 : Nat) : Int).toNat []).getD 1 dz).toI, (((R stepD l).getD ((j + 1 : Nat) : Int).toNat []).getD 2 dz).toI, (((R stepD l).getD ((j + 1 : Nat) : Int).toNat []).getD 3 dz).toI, ⟨(((R stepD l).getD ((j + 1 : Nat) : Int).toNat []).getD 4 dz).toI, (((R stepD l).getD ((j + 1 : Nat) : Int).toNat []).getD 5 dz).toI, (((R stepD l).getD ((j + 1 : Nat) : Int).toNat []).getD 6 dz).toI⟩⟩).1.cores)), .d (.row (R entD (doF ⟨coresR (R coreD (runF ⟨a, b⟩ (l.take (j + 1))).chip.cores), homeR (R entD (runF ⟨a, b⟩ (l.take (j + 1))).chip.home), framesR (framesD (runF ⟨a, b⟩ (l.take (j + 1))).chip.frames)⟩ ⟨(((R stepD l).getD ((j + 1 : Nat) : Int).toNat []).getD 0 dz).toI, (((R stepD l).getD ((j + 1 : Nat) : Int).toNat []).getD 1 dz).toI, (((R stepD l).getD ((j + 1 : Nat) : Int).toNat []).getD 2 dz).toI, (((R stepD l).getD ((j + 1 : Nat) : Int).toNat []).getD 3 dz).toI, ⟨(((R stepD l).getD ((j + 1 : Nat) : Int).toNat []).getD 4 dz).toI, (((R stepD l).getD ((j + 1 : Nat) : Int).toNat []).getD 5 dz).toI, (((R stepD l).getD ((j + 1 : Nat) : Int).toNat []).getD 6 dz).toI⟩⟩).1.home)), .d (.row (framesD (doF ⟨coresR (R coreD (runF ⟨a, b⟩ (l.take (j + 1))).chip.cores), homeR (R entD (runF ⟨a, b⟩ (l.take (j + 1))).chip.home), framesR (framesD (runF ⟨a, b⟩ (l.take (j + 1))).chip.frames)⟩ ⟨(((R stepD l).getD ((j + 1 : Nat) : Int).toNat []).getD 0 dz).toI, (((R stepD l).getD ((j + 1 : Nat) : Int).toNat []).getD 1 dz).toI, (((R stepD l).getD ((j + 1 : Nat) : Int).toNat []).getD 2 dz).toI, (((R stepD l).getD ((j + 1 : Nat) : Int).toNat []).getD 3 dz).toI, ⟨(((R stepD l).getD ((j + 1 : Nat) : Int).toNat []).getD 4 dz).toI, (((R stepD l).getD ((j + 1 : Nat) : Int).toNat []).getD 5 dz).toI, (((R stepD l).getD ((j + 1 : Nat) : Int).toNat []).getD 6 dz).toI⟩⟩).1.frames)), .own 1, .own 2] 83) = runO (runF ⟨a, b⟩ (l.take (j + 1 + 1))) (.own 1) (.own 2)
                       rw [hD, hs, ← hc]
                       rfl)
                    | (show OS.live (.box [.d (.row (R coreD (doF ⟨coresR (R coreD (runF ⟨a, b⟩ (l.take (j + 1))).chip.cores), homeR (R entD (runF ⟨a, b⟩ (l.take (j + 1))).chip.home), framesR (framesD (runF ⟨a, b⟩ (l.take (j + 1))).chip.frames)⟩ ⟨(((R stepD l).getD ((j + 1 : Nat) : Int).toNat []).getD 0 dz).toI, (((R stepD l).getD ((j + 1 : Nat) : Int).toNat []).getD 1 dz).toI, (((R stepD l).getD ((j + 1 : Nat) : Int).toNat []).getD 2 dz).toI, (((R stepD l).getD ((j + 1 : Nat) : Int).toNat []).getD 3 dz).toI, ⟨(((R stepD l).getD ((j + 1 : Nat) : Int).toNat []).getD 4 dz).toI, (((R stepD l).getD ((j + 1 : Nat) : Int).toNat []).getD 5 dz).toI, (((R stepD l).getD ((j + 1 : Nat) : Int).toNat []).getD 6 dz).toI⟩⟩).1.cores)), .d (.row (R entD (doF ⟨coresR (R coreD (runF ⟨a, b⟩ (l.take (j + 1))).chip.cores), homeR (R entD (runF ⟨a, b⟩ (l.take (j + 1))).chip.home), framesR (framesD (runF ⟨a, b⟩ (l.take (j + 1))).chip.frames)⟩ ⟨(((R stepD l).getD ((j + 1 : Nat) : Int).toNat []).getD 0 dz).toI, (((R stepD l).getD ((j + 1 : Nat) : Int).toNat []).getD 1 dz).toI, (((R stepD l).getD ((j + 1 : Nat) : Int).toNat []).getD 2 dz).toI, (((R stepD l).getD ((j + 1 : Nat) : Int).toNat []).getD 3 dz).toI, ⟨(((R stepD l).getD ((j + 1 : Nat) : Int).toNat []).getD 4 dz).toI, (((R stepD l).getD ((j + 1 : Nat) : Int).toNat []).getD 5 dz).toI, (((R stepD l).getD ((j + 1 : Nat) : Int).toNat []).getD 6 dz).toI⟩⟩).1.home)), .d (.row (framesD (doF ⟨coresR (R coreD (runF ⟨a, b⟩ (l.take (j + 1))).chip.cores), homeR (R entD (runF ⟨a, b⟩ (l.take (j + 1))).chip.home), framesR (framesD (runF ⟨a, b⟩ (l.take (j + 1))).chip.frames)⟩ ⟨(((R stepD l).getD ((j + 1 : Nat) : Int).toNat []).getD 0 dz).toI, (((R stepD l).getD ((j + 1 : Nat) : Int).toNat []).getD 1 dz).toI, (((R stepD l).getD ((j + 1 : Nat) : Int).toNat []).getD 2 dz).toI, (((R stepD l).getD ((j + 1 : Nat) : Int).toNat []).getD 3 dz).toI, ⟨(((R stepD l).getD ((j + 1 : Nat) : Int).toNat []).getD 4 dz).toI, (((R stepD l).getD ((j + 1 : Nat) : Int).toNat []).getD 5 dz).toI, (((R stepD l).getD ((j + 1 : Nat) : Int).toNat []).getD 6 dz).toI⟩⟩).1.frames)), .own _, .own _] 83) = renOS _ (runO (runF ⟨a, b⟩ (l.take (j + 1 + 1))) (.own 1) (.own 2))
                       rw [hD, hs, ← hc]
                       rfl)
                    | (refine row_eq ?_
                       show R ansD (runF ⟨a, b⟩ (l.take (j + 1))).ans ++ [[J (doF ⟨coresR (R coreD (runF ⟨a, b⟩ (l.take (j + 1))).chip.cores), homeR (R entD (runF ⟨a, b⟩ (l.take (j + 1))).chip.home), framesR (framesD (runF ⟨a, b⟩ (l.take (j + 1))).chip.frames)⟩ ⟨(((R stepD l).getD ((j + 1 : Nat) : Int).toNat []).getD 0 dz).toI, (((R stepD l).getD ((j + 1 : Nat) : Int).toNat []).getD 1 dz).toI, (((R stepD l).getD ((j + 1 : Nat) : Int).toNat []).getD 2 dz).toI, (((R stepD l).getD ((j + 1 : Nat) : Int).toNat []).getD 3 dz).toI, ⟨(((R stepD l).getD ((j + 1 : Nat) : Int).toNat []).getD 4 dz).toI, (((R stepD l).getD ((j + 1 : Nat) : Int).toNat []).getD 5 dz).toI, (((R stepD l).getD ((j + 1 : Nat) : Int).toNat []).getD 6 dz).toI⟩⟩).2.2, J ((R dnD (doF ⟨coresR (R coreD (runF ⟨a, b⟩ (l.take (j + 1))).chip.cores), homeR (R entD (runF ⟨a, b⟩ (l.take (j + 1))).chip.home), framesR (framesD (runF ⟨a, b⟩ (l.take (j + 1))).chip.frames)⟩ ⟨(((R stepD l).getD ((j + 1 : Nat) : Int).toNat []).getD 0 dz).toI, (((R stepD l).getD ((j + 1 : Nat) : Int).toNat []).getD 1 dz).toI, (((R stepD l).getD ((j + 1 : Nat) : Int).toNat []).getD 2 dz).toI, (((R stepD l).getD ((j + 1 : Nat) : Int).toNat []).getD 3 dz).toI, ⟨(((R stepD l).getD ((j + 1 : Nat) : Int).toNat []).getD 4 dz).toI, (((R stepD l).getD ((j + 1 : Nat) : Int).toNat []).getD 5 dz).toI, (((R stepD l).getD ((j + 1 : Nat) : Int).toNat []).getD 6 dz).toI⟩⟩).2.1).length : Int)]] = R ansD (runF ⟨a, b⟩ (l.take (j + 1 + 1))).ans
                       rw [hD, hs, R_len]
                       exact R_app ansD (runF ⟨a, b⟩ (l.take (j + 1))).ans [⟨_, _⟩])
                    | (refine row_eq ?_
                       show R dnD (runF ⟨a, b⟩ (l.take (j + 1))).done ++ R dnD (doF ⟨coresR (R coreD (runF ⟨a, b⟩ (l.take (j + 1))).chip.cores), homeR (R entD (runF ⟨a, b⟩ (l.take (j + 1))).chip.home), framesR (framesD (runF ⟨a, b⟩ (l.take (j + 1))).chip.frames)⟩ ⟨(((R stepD l).getD ((j + 1 : Nat) : Int).toNat []).getD 0 dz).toI, (((R stepD l).getD ((j + 1 : Nat) : Int).toNat []).getD 1 dz).toI, (((R stepD l).getD ((j + 1 : Nat) : Int).toNat []).getD 2 dz).toI, (((R stepD l).getD ((j + 1 : Nat) : Int).toNat []).getD 3 dz).toI, ⟨(((R stepD l).getD ((j + 1 : Nat) : Int).toNat []).getD 4 dz).toI, (((R stepD l).getD ((j + 1 : Nat) : Int).toNat []).getD 5 dz).toI, (((R stepD l).getD ((j + 1 : Nat) : Int).toNat []).getD 6 dz).toI⟩⟩).2.1 = R dnD (runF ⟨a, b⟩ (l.take (j + 1 + 1))).done
                       rw [hD, hs]
                       exact R_app dnD (runF ⟨a, b⟩ (l.take (j + 1))).done _)
                    | trace_state)
             | (have hs := hst hlt
                have h0 : ((doF ⟨coresR (R coreD (runF ⟨a, b⟩ (l.take (j + 1))).chip.cores), homeR (R entD (runF ⟨a, b⟩ (l.take (j + 1))).chip.home), framesR (framesD (runF ⟨a, b⟩ (l.take (j + 1))).chip.frames)⟩ ⟨(((R stepD l).getD ((j + 1 : Nat) : Int).toNat []).getD 0 dz).toI, (((R stepD l).getD ((j + 1 : Nat) : Int).toNat []).getD 1 dz).toI, (((R stepD l).getD ((j + 1 : Nat) : Int).toNat []).getD 2 dz).toI, (((R stepD l).getD ((j + 1 : Nat) : Int).toNat []).getD 3 dz).toI, ⟨(((R stepD l).getD ((j + 1 : Nat) : Int).toNat []).getD 4 dz).toI, (((R stepD l).getD ((j + 1 : Nat) : Int).toNat []).getD 5 dz).toI, (((R stepD l).getD ((j + 1 : Nat) : Int).toNat []).getD 6 dz).toI⟩⟩).2.2 == 0) = false := by assumption
                rw [hD] at h0
                have h0 : ¬ (doF (runF ⟨a, b⟩ (l.take (j + 1))).chip (l.getD (j + 1) SStep.zero)).2.2 = 0 := by simpa using h0
                have hc : (goStep (runF ⟨a, b⟩ (l.take (j + 1))) (l.getD (j + 1) SStep.zero)).chip = (runF ⟨a, b⟩ (l.take (j + 1))).chip := if_neg h0
                (conv => whnf)
                refine ⟨⟨j + 1 + 1, hlt⟩, [(1, 42009003080), (2, 42009004048)], ?_, ?_⟩
                · show l.length - (j + 1 + 1) < l.length - (j + 1)
                  omega
                · repeat' ((conv => whnf); first | exact trivial | exact rfl | apply And.intro)
                  all_goals first
                    | exact succ_eq (j + 1) (by omega)
                    | (show OS.live (.box [.d (.row (R coreD (runF ⟨a, b⟩ (l.take (j + 1))).chip.cores)), .d (.row (R entD (runF ⟨a, b⟩ (l.take (j + 1))).chip.home)), .d (.row (framesD (runF ⟨a, b⟩ (l.take (j + 1))).chip.frames)), .own _, .own _] 83) = renOS _ (runO (runF ⟨a, b⟩ (l.take (j + 1 + 1))) (.own 1) (.own 2))
                       rw [hs]
                       unfold runO
                       rw [hc]
                       rfl)
                    | (refine row_eq ?_
                       show R ansD (runF ⟨a, b⟩ (l.take (j + 1))).ans ++ [[J (doF ⟨coresR (R coreD (runF ⟨a, b⟩ (l.take (j + 1))).chip.cores), homeR (R entD (runF ⟨a, b⟩ (l.take (j + 1))).chip.home), framesR (framesD (runF ⟨a, b⟩ (l.take (j + 1))).chip.frames)⟩ ⟨(((R stepD l).getD ((j + 1 : Nat) : Int).toNat []).getD 0 dz).toI, (((R stepD l).getD ((j + 1 : Nat) : Int).toNat []).getD 1 dz).toI, (((R stepD l).getD ((j + 1 : Nat) : Int).toNat []).getD 2 dz).toI, (((R stepD l).getD ((j + 1 : Nat) : Int).toNat []).getD 3 dz).toI, ⟨(((R stepD l).getD ((j + 1 : Nat) : Int).toNat []).getD 4 dz).toI, (((R stepD l).getD ((j + 1 : Nat) : Int).toNat []).getD 5 dz).toI, (((R stepD l).getD ((j + 1 : Nat) : Int).toNat []).getD 6 dz).toI⟩⟩).2.2, J ((R dnD (doF ⟨coresR (R coreD (runF ⟨a, b⟩ (l.take (j + 1))).chip.cores), homeR (R entD (runF ⟨a, b⟩ (l.take (j + 1))).chip.home), framesR (framesD (runF ⟨a, b⟩ (l.take (j + 1))).chip.frames)⟩ ⟨(((R stepD l).getD ((j + 1 : Nat) : Int).toNat []).getD 0 dz).toI, (((R stepD l).getD ((j + 1 : Nat) : Int).toNat []).getD 1 dz).toI, (((R stepD l).getD ((j + 1 : Nat) : Int).toNat []).getD 2 dz).toI, (((R stepD l).getD ((j + 1 : Nat) : Int).toNat []).getD 3 dz).toI, ⟨(((R stepD l).getD ((j + 1 : Nat) : Int).toNat []).getD 4 dz).toI, (((R stepD l).getD ((j + 1 : Nat) : Int).toNat []).getD 5 dz).toI, (((R stepD l).getD ((j + 1 : Nat) : Int).toNat []).getD 6 dz).toI⟩⟩).2.1).length : Int)]] = R ansD (runF ⟨a, b⟩ (l.take (j + 1 + 1))).ans
                       rw [hD, hs, R_len]
                       exact R_app ansD (runF ⟨a, b⟩ (l.take (j + 1))).ans [⟨_, _⟩])
                    | (refine row_eq ?_
                       show R dnD (runF ⟨a, b⟩ (l.take (j + 1))).done ++ R dnD (doF ⟨coresR (R coreD (runF ⟨a, b⟩ (l.take (j + 1))).chip.cores), homeR (R entD (runF ⟨a, b⟩ (l.take (j + 1))).chip.home), framesR (framesD (runF ⟨a, b⟩ (l.take (j + 1))).chip.frames)⟩ ⟨(((R stepD l).getD ((j + 1 : Nat) : Int).toNat []).getD 0 dz).toI, (((R stepD l).getD ((j + 1 : Nat) : Int).toNat []).getD 1 dz).toI, (((R stepD l).getD ((j + 1 : Nat) : Int).toNat []).getD 2 dz).toI, (((R stepD l).getD ((j + 1 : Nat) : Int).toNat []).getD 3 dz).toI, ⟨(((R stepD l).getD ((j + 1 : Nat) : Int).toNat []).getD 4 dz).toI, (((R stepD l).getD ((j + 1 : Nat) : Int).toNat []).getD 5 dz).toI, (((R stepD l).getD ((j + 1 : Nat) : Int).toNat []).getD 6 dz).toI⟩⟩).2.1 = R dnD (runF ⟨a, b⟩ (l.take (j + 1 + 1))).done
                       rw [hD, hs]
                       exact R_app dnD (runF ⟨a, b⟩ (l.take (j + 1))).done _)
                    | trace_state))
        | (have hke : j + 1 = l.length := (by have := k_ge (k := j + 1) (n := l.length) (by assumption); omega)
           have hTl : (runF ⟨a, b⟩ (l.take (j + 1))) = runF ⟨a, b⟩ l := by rw [List.take_of_length_le (by omega)]
           first
             | rfl
             | (rw [← hTl]
                first
                  | rfl
                  | (show AV.tup [.agg (chipC (runF ⟨a, b⟩ (l.take (j + 1))).chip), Ro (R ansD (runF ⟨a, b⟩ (l.take (j + 1))).ans), Ro (R dnD (runF ⟨a, b⟩ (l.take (j + 1))).done), V 0] = _
                     rfl)
                  | trace_state))
        | trace_state
/-- What Steps answers. -/
def stepsRes (c : Cfg) (l : List SStep) : SRun × Int := if (newF c).2 ≠ 0 then (⟨SChip.zero, [], []⟩, (newF c).2) else if 300 < l.length then (⟨SChip.zero, [], []⟩, 4) else (runF c l, 0)
def stepsV (r : SRun × Int) : AV := .tup [.agg (chipC r.1.chip), Ro (R ansD r.1.ans), Ro (R dnD r.1.done), V r.2]
theorem steps_any (a b : Int) (l : List SStep) (hbit : ∀ s ∈ l, s.bit < 9223372036854775808) : FunOK Tryz.prog 19 [.agg [I a, I b], Ro (R stepD l)] (hOf []) (stepsV (stepsRes ⟨a, b⟩ l)) (hOf []) := by
  unfold stepsRes
  by_cases h : (newF ⟨a, b⟩).2 ≠ 0
  · rw [if_pos h]
    exact steps_no a b l h
  rw [if_neg h]
  by_cases h2 : 300 < l.length
  · rw [if_pos h2]
    exact steps_many a b l (by omega) h2
  · rw [if_neg h2]
    exact steps_ok a b l (by omega) (by omega) hbit
def stepsT9 (xs : List AV) (l0 : List (Nat × OS)) : Ans := match xs, l0 with
  | [.agg [.d (.int .i64 a), .d (.int .i64 b)], .c (.d (.row es))], [] => some ((∃ l, es = R stepD l ∧ ∀ s ∈ l, s.bit < 9223372036854775808), stepsV (stepsRes ⟨a, b⟩ (stepsR es)), [])
  | _, _ => none
theorem steps9_does : Does Tryz.prog 19 stepsT9 := ⟨⟨_, Tryz.func19, by decide, rfl⟩, fun xs l0 p v objs h hp => by
  unfold stepsT9 at h
  split at h
  · cases h
    obtain ⟨l, rfl, hb⟩ := hp
    rw [stepsR_rows]
    exact steps_any _ _ l hb
  · cases h⟩
end Go.Proofs.YtpgeopefamomnaeGreat

