/- LawPlayTells. -/
import Derived.Test.YtpgeopefamomnaeGreatYB
import Derived.Test.YtpgeopefamomnaeGreatRF
import Derived.Test.YtpgeopefamomnaeGreatYC
import Derived.Test.YtpgeopefamomnaeGreatGD
set_option linter.unusedSimpArgs false
set_option linter.unusedSectionVars false
namespace Go.Proofs.YtpgeopefamomnaeGreat
open Go.RowKit
set_option linter.unusedVariables false
set_option linter.unusedSimpArgs false
set_option maxRecDepth 100000
def tabP4 : Canon := orT 19 stepsT9 (orT 20 newT (orT 21 doT4 (orT 10 sameT (orT 11 sameDoneT (orT 22 ofT tab0)))))
theorem tabP4_ok : Sound Tryz.prog tabP4 := (((((tab0_ok.or of_does).or sameDone_does).or same_does).or do4_does).or new_does).or steps9_does
def ksP4 : List FuncId := [19, 20, 21, 10, 11, 22]
def boxO (x : SChip) : OS := .live (.box [.d (.row (R coreD x.cores)), .d (.row (R entD x.home)), .d (.row (framesD x.frames))] 29)
set_option maxHeartbeats 8000000
theorem ptells_none {a b : Int} {l : List SStep} {p : Int} (hb : ∀ s ∈ l, s.bit < 9223372036854775808) (hN : (newF ⟨a, b⟩).2 ≠ 0) (h : (stepsRes ⟨a, b⟩ (stepsR (R stepD l))) = (⟨SChip.zero, [], []⟩, (newF ⟨a, b⟩).2)) : FunOK Tryz.prog 6 [.agg [I a, I b], Ro (R stepD l), V p] (hOf []) (Vb true) (hOf []) := by
  refine fun_deep (pins := []) (l0 := []) (objs := []) (base := 0) (xx_ok tabP4_ok ksP4) mixed Tryz.func6 rfl (Nat.le_of_ble_eq_true rfl) rfl rfl ?_
  have hx : ¬ (((newF ⟨a, b⟩).2 != 0) = false) := by simpa using hN
  have hx2 : ¬ ((((stepsRes ⟨a, b⟩ (stepsR (R stepD l))).2 == (newF ⟨a, b⟩).2) == true) = false) := by rw [h]; simp
  have hx3 : ¬ (((((R ansD (stepsRes ⟨a, b⟩ (stepsR (R stepD l))).1.ans).length : Int) == 0) == true) = false) := by rw [h]; show ¬ (((((0 : Nat) : Int) == 0) == true) = false); decide
  repeat' ((conv => whnf); first | exact trivial | (with_reducible refine ap_of ?_; kernel_rfl) | (with_reducible refine ds_of ?_; kernel_rfl) | (with_reducible refine eq_of ?_; kernel_rfl) | exact rfl | (intro h; exact absurd h (by decide)) | (intro h; with_reducible exact absurd h hx) | (intro h; with_reducible exact absurd h hx2) | (intro h; with_reducible exact absurd h hx3) | intro _ | apply And.intro)
  all_goals clear hx hx2 hx3
  all_goals first
    | exact ⟨l, rfl, hb⟩
    | (rw [h]; rfl)
    | rfl
    | trace_state
theorem ptells_many {a b : Int} {l : List SStep} {p : Int} (hb : ∀ s ∈ l, s.bit < 9223372036854775808) (hN : (newF ⟨a, b⟩).2 = 0) (hl : 300 < l.length) (h : (stepsRes ⟨a, b⟩ (stepsR (R stepD l))) = (⟨SChip.zero, [], []⟩, 4)) : FunOK Tryz.prog 6 [.agg [I a, I b], Ro (R stepD l), V p] (hOf []) (Vb true) (hOf []) := by
  refine fun_deep (pins := []) (l0 := []) (objs := []) (base := 0) (xx_ok tabP4_ok ksP4) mixed Tryz.func6 rfl (Nat.le_of_ble_eq_true rfl) rfl rfl ?_
  have hx : ¬ (((newF ⟨a, b⟩).2 != 0) = true) := by rw [hN]; simp
  have hx1 : ¬ (decide (((R stepD l).length : Int) > 300) = false) := by rw [R_len]; simp; omega
  have hx2 : ¬ ((((stepsRes ⟨a, b⟩ (stepsR (R stepD l))).2 == 4) == true) = false) := by rw [h]; simp
  have hx3 : ¬ (((((R ansD (stepsRes ⟨a, b⟩ (stepsR (R stepD l))).1.ans).length : Int) == 0) == true) = false) := by rw [h]; show ¬ (((((0 : Nat) : Int) == 0) == true) = false); decide
  repeat' ((conv => whnf); first | exact trivial | (with_reducible refine ap_of ?_; kernel_rfl) | (with_reducible refine ds_of ?_; kernel_rfl) | (with_reducible refine eq_of ?_; kernel_rfl) | exact rfl | (intro h; exact absurd h (by decide)) | (intro h; with_reducible exact absurd h hx) | (intro h; with_reducible exact absurd h hx1) | (intro h; with_reducible exact absurd h hx2) | (intro h; with_reducible exact absurd h hx3) | intro _ | apply And.intro)
  all_goals clear hx hx1 hx2 hx3
  all_goals first
    | exact ⟨l, rfl, hb⟩
    | (rw [h]; rfl)
    | rfl
    | trace_state
theorem ptells_ok {a b : Int} {l : List SStep} {p : Int} (hb : ∀ s ∈ l, s.bit < 9223372036854775808) (h : (stepsRes ⟨a, b⟩ (stepsR (R stepD l))) = (runF ⟨a, b⟩ l, 0)) (hN : (newF ⟨a, b⟩).2 = 0) (hl : l.length ≤ 300) : FunOK Tryz.prog 6 [.agg [I a, I b], Ro (R stepD l), V p] (hOf []) (Vb true) (hOf []) := by
  refine fun_deep (pins := []) (l0 := []) (objs := []) (base := 0) (xx_ok tabP4_ok ksP4) mixed Tryz.func6 rfl (Nat.le_of_ble_eq_true rfl) rfl rfl ?_
  have hlen : (R stepD l).length = l.length := R_len _ _
  obtain ⟨nn, LL, VV, hc1, hc2, XE, _, ha, hd⟩ := run_xi hN l
  have hal : (R ansD (runF ⟨a, b⟩ l).ans).length = l.length := by rw [R_len]; exact ha
  have hx : ¬ (((newF ⟨a, b⟩).2 != 0) = true) := by rw [hN]; simp
  have hx1 : ¬ (decide (((R stepD l).length : Int) > 300) = true) := by rw [R_len]; simp; omega
  have hx2 : ¬ ((((stepsRes ⟨a, b⟩ (stepsR (R stepD l))).2 != 0) == false) = false) := by rw [h]; simp
  have hx3 : ¬ ((((R ansD (stepsRes ⟨a, b⟩ (stepsR (R stepD l))).1.ans).length : Int) != ((R stepD l).length : Int)) = true) := by
    rw [h, hlen]
    show ¬ ((((R ansD (runF ⟨a, b⟩ l).ans).length : Int) != (l.length : Int)) = true)
    rw [hal]
    simp
  have HE : ∀ k : Nat, k < l.length → ((R ansD (stepsRes ⟨a, b⟩ (stepsR (R stepD l))).1.ans).getD ((k : Nat) : Int).toNat []) = ansD ⟨(doF (runF ⟨a, b⟩ (l.take (k))).chip (l.getD k SStep.zero)).2.2, ((doF (runF ⟨a, b⟩ (l.take (k))).chip (l.getD k SStep.zero)).2.1.length : Nat)⟩ := by
    intro k hk
    obtain ⟨_, _, _, _, _, _, _, hak, _⟩ := run_xi hN (l.take k)
    rw [List.length_take, Nat.min_eq_left (by omega)] at hak
    rw [h, Int.toNat_natCast, R_get ansD ⟨0, 0⟩ (show k < (runF ⟨a, b⟩ l).ans.length by rw [ha]; exact hk)]
    obtain ⟨av, dv, e1, e2⟩ := run_parts ⟨a, b⟩ l (k + 1)
    have hst := runF_step ⟨a, b⟩ l k SStep.zero hk
    show ansD ((runF ⟨a, b⟩ l).ans.getD k ⟨0, 0⟩) = _
    rw [e1, hst]
    exact congrArg ansD (getD_mid _ _ av k hak ⟨0, 0⟩)
  have HM : ∀ l' : List SStep, runF ⟨a, b⟩ (l'.take l'.length) = runF ⟨a, b⟩ l → ∃ x, Mild x ∧ R coreD (stepsRes ⟨a, b⟩ (stepsR (R stepD l))).1.chip.cores = R coreD x.cores ∧ R coreD (runF ⟨a, b⟩ (l'.take l'.length)).chip.cores = R coreD x.cores ∧ R entD (stepsRes ⟨a, b⟩ (stepsR (R stepD l))).1.chip.home = R entD x.home ∧ R entD (runF ⟨a, b⟩ (l'.take l'.length)).chip.home = R entD x.home ∧ framesD (stepsRes ⟨a, b⟩ (stepsR (R stepD l))).1.chip.frames = framesD x.frames ∧ framesD (runF ⟨a, b⟩ (l'.take l'.length)).chip.frames = framesD x.frames := by
    intro l' hT
    rw [hT, h]
    exact ⟨(runF ⟨a, b⟩ l).chip, mild_xi XE, rfl, rfl, rfl, rfl, rfl, rfl⟩
  repeat' ((conv => whnf); first | exact trivial | (with_reducible refine ap_of ?_; kernel_rfl) | (with_reducible refine ds_of ?_; kernel_rfl) | (with_reducible refine eq_of ?_; kernel_rfl) | exact rfl | (intro h; exact absurd h (by decide)) | (intro h; with_reducible exact absurd h hx) | (intro h; with_reducible exact absurd h hx1) | (intro h; with_reducible exact absurd h hx2) | (intro h; with_reducible exact absurd h hx3) | intro _ | apply And.intro)
  all_goals clear hx hx1 hx2 hx3
  all_goals first
    | exact ⟨l, rfl, hb⟩
    | skip
  (conv => whnf)
  refine loop_keep [2, 7, 8, 9, 11, 14, 74] 40 [(1, 6000)] {k : Nat // k ≤ l.length} (fun k => [(13, .c (.own 1)), (75, V l.length), (76, V k.1)]) (fun k => [(1064, boxO (stepsRes ⟨a, b⟩ (stepsR (R stepD l))).1.chip), (2040, boxO (runF ⟨a, b⟩ (l.take k.1)).chip), (6008, .live (.row [] 5 46 false)), (1, .live (.row (R dnD (runF ⟨a, b⟩ (l.take k.1)).done) 5 46 false))]) (fun k => l.length - k.1) ⟨0, Nat.zero_le _⟩ ?_
  (conv => whnf)
  refine ⟨?_, ?_⟩
  · repeat' ((conv => whnf); first | exact trivial | exact rfl | apply And.intro)
    all_goals first | exact int_eq (show ((R stepD l).length : Int) = l.length by rw [hlen]) | trace_state
  · rintro ⟨k, hk⟩
    obtain ⟨n, L, Vx, -, -, X, -, hak, hdk⟩ := run_xi hN (l.take k)
    rw [List.length_take] at hak hdk
    have hdo := (do1 (runF ⟨a, b⟩ (l.take (k))).chip (l.getD k SStep.zero))
    have hd4 : (R dnD (runF ⟨a, b⟩ (l.take k)).done).length ≤ 300 := by rw [R_len]; omega
    repeat' ((conv => whnf); first | exact trivial | (with_reducible refine ap_of ?_; kernel_rfl) | (with_reducible refine ds_of ?_; kernel_rfl) | (with_reducible refine eq_of ?_; kernel_rfl) | exact rfl | (intro h; exact absurd h (by decide)) | intro _ | apply And.intro)
    all_goals first
      | (have hlt : k < l.length := (by have := k_lt (k := k) (n := l.length) (by assumption); omega)
         have hki : (k : Int) < l.length := by omega
         have hg : (R stepD l).getD k [] = stepD (l.getD k SStep.zero) := R_get stepD SStep.zero hlt
         have hE := HE k hlt
         have hs := runF_step ⟨a, b⟩ l k SStep.zero hlt
         have hD : (doF ⟨coresR (R coreD (runF ⟨a, b⟩ (l.take (k))).chip.cores), homeR (R entD (runF ⟨a, b⟩ (l.take (k))).chip.home), framesR (framesD (runF ⟨a, b⟩ (l.take (k))).chip.frames)⟩ ⟨(((R stepD l).getD ((k : Nat) : Int).toNat []).getD 0 dz).toI, (((R stepD l).getD ((k : Nat) : Int).toNat []).getD 1 dz).toI, (((R stepD l).getD ((k : Nat) : Int).toNat []).getD 2 dz).toI, (((R stepD l).getD ((k : Nat) : Int).toNat []).getD 3 dz).toI, ⟨(((R stepD l).getD ((k : Nat) : Int).toNat []).getD 4 dz).toI, (((R stepD l).getD ((k : Nat) : Int).toNat []).getD 5 dz).toI, (((R stepD l).getD ((k : Nat) : Int).toNat []).getD 6 dz).toI⟩⟩) = (doF (runF ⟨a, b⟩ (l.take (k))).chip (l.getD k SStep.zero)) := by
           rw [coresR_rows, homeR_rows, framesR_rows, Int.toNat_natCast, hg]
           rfl
         first
           | exact Int.natCast_nonneg _
           | (rw [hlen]; exact hki)
           | (rw [hlen, show ∀ n : Nat, ((n : Nat) : Int).toNat = n from Int.toNat_natCast]; exact hlt)
           | rfl
           | (rw [show ∀ n : Nat, ((n : Nat) : Int).toNat = n from Int.toNat_natCast, hg]; first | rfl | exact Nat.le_refl _)
           | exact ⟨(runF ⟨a, b⟩ (l.take (k))).chip, n, L, Vx, rfl, rfl, rfl, X⟩
           | (refine len_set1 (by assumption) ?_; rfl)
           | exact R_one (f := dnD) (fun _ => rfl) _ _ (by assumption)
           | (rw [h]
              first
                | (show (k : Int) < ((R ansD (runF ⟨a, b⟩ l).ans).length : Int); rw [hal]; exact hki)
                | (show ((k : Int)).toNat < (R ansD (runF ⟨a, b⟩ l).ans).length; rw [hal, Int.toNat_natCast]; exact hlt))
           | (show ((R ansD (stepsRes ⟨a, b⟩ (stepsR (R stepD l))).1.ans).getD ((k : Nat) : Int).toNat []).length = 2
              rw [hE]
              rfl)
           | (rw [hE]; first | rfl | exact Nat.le_of_ble_eq_true rfl)
           | (have hcc : (!((((R ansD (stepsRes ⟨a, b⟩ (stepsR (R stepD l))).1.ans).getD ((k : Nat) : Int).toNat []).getD 0 dz).toI == (doF ⟨coresR (R coreD (runF ⟨a, b⟩ (l.take (k))).chip.cores), homeR (R entD (runF ⟨a, b⟩ (l.take (k))).chip.home), framesR (framesD (runF ⟨a, b⟩ (l.take (k))).chip.frames)⟩ ⟨(((R stepD l).getD ((k : Nat) : Int).toNat []).getD 0 dz).toI, (((R stepD l).getD ((k : Nat) : Int).toNat []).getD 1 dz).toI, (((R stepD l).getD ((k : Nat) : Int).toNat []).getD 2 dz).toI, (((R stepD l).getD ((k : Nat) : Int).toNat []).getD 3 dz).toI, ⟨(((R stepD l).getD ((k : Nat) : Int).toNat []).getD 4 dz).toI, (((R stepD l).getD ((k : Nat) : Int).toNat []).getD 5 dz).toI, (((R stepD l).getD ((k : Nat) : Int).toNat []).getD 6 dz).toI⟩⟩).2.2 && ((((R ansD (stepsRes ⟨a, b⟩ (stepsR (R stepD l))).1.ans).getD ((k : Nat) : Int).toNat []).getD (0 + 1) dz).toI == ((R dnD (doF ⟨coresR (R coreD (runF ⟨a, b⟩ (l.take (k))).chip.cores), homeR (R entD (runF ⟨a, b⟩ (l.take (k))).chip.home), framesR (framesD (runF ⟨a, b⟩ (l.take (k))).chip.frames)⟩ ⟨(((R stepD l).getD ((k : Nat) : Int).toNat []).getD 0 dz).toI, (((R stepD l).getD ((k : Nat) : Int).toNat []).getD 1 dz).toI, (((R stepD l).getD ((k : Nat) : Int).toNat []).getD 2 dz).toI, (((R stepD l).getD ((k : Nat) : Int).toNat []).getD 3 dz).toI, ⟨(((R stepD l).getD ((k : Nat) : Int).toNat []).getD 4 dz).toI, (((R stepD l).getD ((k : Nat) : Int).toNat []).getD 5 dz).toI, (((R stepD l).getD ((k : Nat) : Int).toNat []).getD 6 dz).toI⟩⟩).2.1).length : Int) && true))) = true := by assumption
              rw [hE, hD, R_len] at hcc
              refine absurd hcc (show ¬ ((!((doF (runF ⟨a, b⟩ (l.take (k))).chip (l.getD k SStep.zero)).2.2 == (doF (runF ⟨a, b⟩ (l.take (k))).chip (l.getD k SStep.zero)).2.2 && ((((doF (runF ⟨a, b⟩ (l.take (k))).chip (l.getD k SStep.zero)).2.1.length : Nat) : Int) == (((doF (runF ⟨a, b⟩ (l.take (k))).chip (l.getD k SStep.zero)).2.1.length : Nat) : Int) && true))) = true) from ?_)
              simp)
           | (show (R dnD (doF ⟨coresR (R coreD (runF ⟨a, b⟩ (l.take (k))).chip.cores), homeR (R entD (runF ⟨a, b⟩ (l.take (k))).chip.home), framesR (framesD (runF ⟨a, b⟩ (l.take (k))).chip.frames)⟩ ⟨(((R stepD l).getD ((k : Nat) : Int).toNat []).getD 0 dz).toI, (((R stepD l).getD ((k : Nat) : Int).toNat []).getD 1 dz).toI, (((R stepD l).getD ((k : Nat) : Int).toNat []).getD 2 dz).toI, (((R stepD l).getD ((k : Nat) : Int).toNat []).getD 3 dz).toI, ⟨(((R stepD l).getD ((k : Nat) : Int).toNat []).getD 4 dz).toI, (((R stepD l).getD ((k : Nat) : Int).toNat []).getD 5 dz).toI, (((R stepD l).getD ((k : Nat) : Int).toNat []).getD 6 dz).toI⟩⟩).2.1).length ≤ _
              rw [hD, R_len]
              omega)
           | (show (R dnD (runF ⟨a, b⟩ (l.take k)).done).length + (R dnD (doF ⟨coresR (R coreD (runF ⟨a, b⟩ (l.take (k))).chip.cores), homeR (R entD (runF ⟨a, b⟩ (l.take (k))).chip.home), framesR (framesD (runF ⟨a, b⟩ (l.take (k))).chip.frames)⟩ ⟨(((R stepD l).getD ((k : Nat) : Int).toNat []).getD 0 dz).toI, (((R stepD l).getD ((k : Nat) : Int).toNat []).getD 1 dz).toI, (((R stepD l).getD ((k : Nat) : Int).toNat []).getD 2 dz).toI, (((R stepD l).getD ((k : Nat) : Int).toNat []).getD 3 dz).toI, ⟨(((R stepD l).getD ((k : Nat) : Int).toNat []).getD 4 dz).toI, (((R stepD l).getD ((k : Nat) : Int).toNat []).getD 5 dz).toI, (((R stepD l).getD ((k : Nat) : Int).toNat []).getD 6 dz).toI⟩⟩).2.1).length ≤ _
              rw [hD, R_len dnD (doF (runF ⟨a, b⟩ (l.take (k))).chip (l.getD k SStep.zero)).2.1]
              omega)
           | (have h0 : ((doF ⟨coresR (R coreD (runF ⟨a, b⟩ (l.take (k))).chip.cores), homeR (R entD (runF ⟨a, b⟩ (l.take (k))).chip.home), framesR (framesD (runF ⟨a, b⟩ (l.take (k))).chip.frames)⟩ ⟨(((R stepD l).getD ((k : Nat) : Int).toNat []).getD 0 dz).toI, (((R stepD l).getD ((k : Nat) : Int).toNat []).getD 1 dz).toI, (((R stepD l).getD ((k : Nat) : Int).toNat []).getD 2 dz).toI, (((R stepD l).getD ((k : Nat) : Int).toNat []).getD 3 dz).toI, ⟨(((R stepD l).getD ((k : Nat) : Int).toNat []).getD 4 dz).toI, (((R stepD l).getD ((k : Nat) : Int).toNat []).getD 5 dz).toI, (((R stepD l).getD ((k : Nat) : Int).toNat []).getD 6 dz).toI⟩⟩).2.2 == 0) = true := by assumption
              rw [hD] at h0
              have h0 : (doF (runF ⟨a, b⟩ (l.take (k))).chip (l.getD k SStep.zero)).2.2 = 0 := by simpa using h0
              have hc : (goStep (runF ⟨a, b⟩ (l.take k)) (l.getD k SStep.zero)).chip = (doF (runF ⟨a, b⟩ (l.take (k))).chip (l.getD k SStep.zero)).1 := if_pos h0
              (conv => whnf)
              refine ⟨⟨k + 1, hlt⟩, [(1, ?_)], ?_, ?_⟩
              rotate_left
              · show l.length - (k + 1) < l.length - k
                omega
              · repeat' ((conv => whnf); first | exact trivial | exact rfl | apply And.intro)
                all_goals first
                  | exact succ_eq k (by omega)
                  | (show OS.live (.box [.d (.row (R coreD (doF ⟨coresR (R coreD (runF ⟨a, b⟩ (l.take (k))).chip.cores), homeR (R entD (runF ⟨a, b⟩ (l.take (k))).chip.home), framesR (framesD (runF ⟨a, b⟩ (l.take (k))).chip.frames)⟩ ⟨(((R stepD l).getD ((k : Nat) : Int).toNat []).getD 0 dz).toI, (((R stepD l).getD ((k : Nat) : Int).toNat []).getD 1 dz).toI, (((R stepD l).getD ((k : Nat) : Int).toNat []).getD 2 dz).toI, (((R stepD l).getD ((k : Nat) : Int).toNat []).getD 3 dz).toI, ⟨(((R stepD l).getD ((k : Nat) : Int).toNat []).getD 4 dz).toI, (((R stepD l).getD ((k : Nat) : Int).toNat []).getD 5 dz).toI, (((R stepD l).getD ((k : Nat) : Int).toNat []).getD 6 dz).toI⟩⟩).1.cores)), .d (.row (R entD (doF ⟨coresR (R coreD (runF ⟨a, b⟩ (l.take (k))).chip.cores), homeR (R entD (runF ⟨a, b⟩ (l.take (k))).chip.home), framesR (framesD (runF ⟨a, b⟩ (l.take (k))).chip.frames)⟩ ⟨(((R stepD l).getD ((k : Nat) : Int).toNat []).getD 0 dz).toI, (((R stepD l).getD ((k : Nat) : Int).toNat []).getD 1 dz).toI, (((R stepD l).getD ((k : Nat) : Int).toNat []).getD 2 dz).toI, (((R stepD l).getD ((k : Nat) : Int).toNat []).getD 3 dz).toI, ⟨(((R stepD l).getD ((k : Nat) : Int).toNat []).getD 4 dz).toI, (((R stepD l).getD ((k : Nat) : Int).toNat []).getD 5 dz).toI, (((R stepD l).getD ((k : Nat) : Int).toNat []).getD 6 dz).toI⟩⟩).1.home)), .d (.row (framesD (doF ⟨coresR (R coreD (runF ⟨a, b⟩ (l.take (k))).chip.cores), homeR (R entD (runF ⟨a, b⟩ (l.take (k))).chip.home), framesR (framesD (runF ⟨a, b⟩ (l.take (k))).chip.frames)⟩ ⟨(((R stepD l).getD ((k : Nat) : Int).toNat []).getD 0 dz).toI, (((R stepD l).getD ((k : Nat) : Int).toNat []).getD 1 dz).toI, (((R stepD l).getD ((k : Nat) : Int).toNat []).getD 2 dz).toI, (((R stepD l).getD ((k : Nat) : Int).toNat []).getD 3 dz).toI, ⟨(((R stepD l).getD ((k : Nat) : Int).toNat []).getD 4 dz).toI, (((R stepD l).getD ((k : Nat) : Int).toNat []).getD 5 dz).toI, (((R stepD l).getD ((k : Nat) : Int).toNat []).getD 6 dz).toI⟩⟩).1.frames))] 29) = renOS _ (boxO (runF ⟨a, b⟩ (l.take (k + 1))).chip)
                     rw [hD, hs, ← hc]
                     rfl)
                  | (refine row_eq ?_
                     show R dnD (runF ⟨a, b⟩ (l.take k)).done ++ R dnD (doF ⟨coresR (R coreD (runF ⟨a, b⟩ (l.take (k))).chip.cores), homeR (R entD (runF ⟨a, b⟩ (l.take (k))).chip.home), framesR (framesD (runF ⟨a, b⟩ (l.take (k))).chip.frames)⟩ ⟨(((R stepD l).getD ((k : Nat) : Int).toNat []).getD 0 dz).toI, (((R stepD l).getD ((k : Nat) : Int).toNat []).getD 1 dz).toI, (((R stepD l).getD ((k : Nat) : Int).toNat []).getD 2 dz).toI, (((R stepD l).getD ((k : Nat) : Int).toNat []).getD 3 dz).toI, ⟨(((R stepD l).getD ((k : Nat) : Int).toNat []).getD 4 dz).toI, (((R stepD l).getD ((k : Nat) : Int).toNat []).getD 5 dz).toI, (((R stepD l).getD ((k : Nat) : Int).toNat []).getD 6 dz).toI⟩⟩).2.1 = R dnD (runF ⟨a, b⟩ (l.take (k + 1))).done
                     rw [hD, hs]
                     exact R_app dnD (runF ⟨a, b⟩ (l.take k)).done _)
                  | trace_state)
           | (have h0 : ((doF ⟨coresR (R coreD (runF ⟨a, b⟩ (l.take (k))).chip.cores), homeR (R entD (runF ⟨a, b⟩ (l.take (k))).chip.home), framesR (framesD (runF ⟨a, b⟩ (l.take (k))).chip.frames)⟩ ⟨(((R stepD l).getD ((k : Nat) : Int).toNat []).getD 0 dz).toI, (((R stepD l).getD ((k : Nat) : Int).toNat []).getD 1 dz).toI, (((R stepD l).getD ((k : Nat) : Int).toNat []).getD 2 dz).toI, (((R stepD l).getD ((k : Nat) : Int).toNat []).getD 3 dz).toI, ⟨(((R stepD l).getD ((k : Nat) : Int).toNat []).getD 4 dz).toI, (((R stepD l).getD ((k : Nat) : Int).toNat []).getD 5 dz).toI, (((R stepD l).getD ((k : Nat) : Int).toNat []).getD 6 dz).toI⟩⟩).2.2 == 0) = false := by assumption
              rw [hD] at h0
              have h0 : ¬ (doF (runF ⟨a, b⟩ (l.take (k))).chip (l.getD k SStep.zero)).2.2 = 0 := by simpa using h0
              have hc : (goStep (runF ⟨a, b⟩ (l.take k)) (l.getD k SStep.zero)).chip = (runF ⟨a, b⟩ (l.take k)).chip := if_neg h0
              have hdn : (goStep (runF ⟨a, b⟩ (l.take k)) (l.getD k SStep.zero)).done = (runF ⟨a, b⟩ (l.take k)).done := by
                show (runF ⟨a, b⟩ (l.take k)).done ++ (doF (runF ⟨a, b⟩ (l.take (k))).chip (l.getD k SStep.zero)).2.1 = _
                rw [(hdo.1 h0).2, List.append_nil]
              (conv => whnf)
              refine ⟨⟨k + 1, hlt⟩, [(1, ?_)], ?_, ?_⟩
              rotate_left
              · show l.length - (k + 1) < l.length - k
                omega
              · repeat' ((conv => whnf); first | exact trivial | exact rfl | apply And.intro)
                all_goals first
                  | exact succ_eq k (by omega)
                  | (show boxO (runF ⟨a, b⟩ (l.take k)).chip = renOS _ (boxO (runF ⟨a, b⟩ (l.take (k + 1))).chip)
                     rw [hs, hc]
                     rfl)
                  | (refine row_eq ?_
                     rw [hs, hdn])
                  | trace_state)
           | trace_state)
      | (have hke : k = l.length := (by have := k_ge (k := k) (n := l.length) (by assumption); omega)
         subst hke
         first
           | ((conv => whnf)
              obtain ⟨m, hm⟩ : ∃ m, m = (runF ⟨a, b⟩ (l.take l.length)).done.length := ⟨_, rfl⟩
              refine loop_keep [2, 7, 9, 11, 13, 104] 80 [(2, 6008)] {k : Nat // k ≤ m} (fun k => [(14, .c (.own 2)), (105, V m), (106, V k.1)]) (fun k => [(1064, boxO (stepsRes ⟨a, b⟩ (stepsR (R stepD l))).1.chip), (2040, boxO (runF ⟨a, b⟩ (l.take l.length)).chip), (1, .live (.row (R dnD (runF ⟨a, b⟩ (l.take l.length)).done) 5 46 false)), (2, .live (.row (R dnD (ofF ((runF ⟨a, b⟩ (l.take l.length)).done.take k.1) p)) 5 46 false))]) (fun k => m - k.1) ⟨0, Nat.zero_le _⟩ ?_
              (conv => whnf)
              refine ⟨?_, ?_⟩
              · repeat' ((conv => whnf); first | exact trivial | exact rfl | apply And.intro)
                all_goals first | exact int_eq (show ((R dnD (runF ⟨a, b⟩ (l.take l.length)).done).length : Int) = m by rw [R_len, hm]) | trace_state
              · rintro ⟨k, hk⟩
                have hml : (R dnD (runF ⟨a, b⟩ (l.take l.length)).done).length = m := by rw [R_len, hm]
                have hm3 : m ≤ 300 := by rw [hm]; omega
                have hol : (R dnD (ofF ((runF ⟨a, b⟩ (l.take l.length)).done.take k) p)).length ≤ 300 := by rw [R_len]; have := ofF_len ((runF ⟨a, b⟩ (l.take l.length)).done.take k) p; rw [List.length_take] at this; omega
                repeat' ((conv => whnf); first | exact trivial | (with_reducible refine ap_of ?_; kernel_rfl) | (with_reducible refine ds_of ?_; kernel_rfl) | (with_reducible refine eq_of ?_; kernel_rfl) | exact rfl | (intro h; exact absurd h (by decide)) | intro _ | apply And.intro)
                all_goals first
                  | (have hlt : k < m := (by have := k_lt (k := k) (n := m) (by assumption); omega)
                     have hki : (k : Int) < m := by omega
                     have hg : (R dnD (runF ⟨a, b⟩ (l.take l.length)).done).getD k [] = dnD ((runF ⟨a, b⟩ (l.take l.length)).done.getD k doneZ) := R_get dnD doneZ (by omega)
                     have hst := ofF_step (runF ⟨a, b⟩ (l.take l.length)).done p k (by omega)
                     first
                       | exact Int.natCast_nonneg _
                       | (rw [hml]; exact hki)
                       | (rw [hml, show ∀ n : Nat, ((n : Nat) : Int).toNat = n from Int.toNat_natCast]; exact hlt)
                       | rfl
                       | (rw [show ∀ n : Nat, ((n : Nat) : Int).toNat = n from Int.toNat_natCast, hg]; first | rfl | exact Nat.le_refl _)
                       | (refine Nat.le_trans (Nat.add_le_add hol (Nat.le_refl _)) ?_; simp; done)
                       | (refine len_set1 (by assumption) ?_; rfl)
                       | (have h0 : ((((R dnD (runF ⟨a, b⟩ (l.take l.length)).done).getD ((k : Nat) : Int).toNat []).getD 0 dz).toI == p) = true := by assumption
                          rw [Int.toNat_natCast, hg] at h0
                          have h1 : (((runF ⟨a, b⟩ (l.take l.length)).done.getD k doneZ).core == p) = true := h0
                          (conv => whnf)
                          refine ⟨⟨k + 1, hlt⟩, [(2, ?_)], ?_, ?_⟩
                          rotate_left
                          · show m - (k + 1) < m - k
                            omega
                          · repeat' ((conv => whnf); first | exact trivial | exact rfl | apply And.intro)
                            all_goals first
                              | exact succ_eq k (by omega)
                              | (refine row_eq ?_
                                 rw [hst, if_pos h1, Int.toNat_natCast, hg]
                                 exact R_app dnD _ [_])
                              | trace_state)
                       | (have h0 : ((((R dnD (runF ⟨a, b⟩ (l.take l.length)).done).getD ((k : Nat) : Int).toNat []).getD 0 dz).toI == p) = false := by assumption
                          rw [Int.toNat_natCast, hg] at h0
                          have h1 : ¬ (((runF ⟨a, b⟩ (l.take l.length)).done.getD k doneZ).core == p) = true := by rw [show (((runF ⟨a, b⟩ (l.take l.length)).done.getD k doneZ).core == p) = false from h0]; decide
                          (conv => whnf)
                          refine ⟨⟨k + 1, hlt⟩, [(2, ?_)], ?_, ?_⟩
                          rotate_left
                          · show m - (k + 1) < m - k
                            omega
                          · repeat' ((conv => whnf); first | exact trivial | exact rfl | apply And.intro)
                            all_goals first
                              | exact succ_eq k (by omega)
                              | (refine row_eq ?_
                                 rw [hst, if_neg h1, List.append_nil])
                              | trace_state)
                       | trace_state)
                  | (have hke : k = m := (by have := k_ge (k := k) (n := m) (by assumption); omega)
                     have hT : (runF ⟨a, b⟩ (l.take l.length)) = runF ⟨a, b⟩ l := by rw [List.take_length]
                     first
                       | exact HM l hT
                       | exact ⟨(runF ⟨a, b⟩ l).done, by rw [h], by rw [hT], by omega⟩
                       | exact ⟨(runF ⟨a, b⟩ (l.take l.length)).done, rfl, by omega⟩
                       | exact ⟨ofF (runF ⟨a, b⟩ (l.take l.length)).done p, by rw [donesR_rows], by show R dnD (ofF (List.take k _) p) = _; rw [List.take_of_length_le (by omega)], by have := ofF_len (runF ⟨a, b⟩ (l.take l.length)).done p; omega⟩
                       | rfl
                       | trace_state)
                  | trace_state)
           | trace_state)
      | trace_state
theorem ptells_any (c : Cfg) (l : List SStep) (p : Int) (hb : ∀ s ∈ l, s.bit < 9223372036854775808) : FunOK Tryz.prog 6 [.agg (cfgC c), Ro (R stepD l), V p] (hOf []) (Vb true) (hOf []) := by
  have hs := stepsR_rows l
  by_cases h1 : (newF c).2 = 0
  · by_cases h2 : 300 < l.length
    · refine ptells_many (a := c.cores) (b := c.lines) hb h1 h2 ?_
      rw [hs]
      unfold stepsRes
      rw [if_neg (fun e => e h1), if_pos h2]
    · refine ptells_ok (a := c.cores) (b := c.lines) hb ?_ h1 (by omega)
      rw [hs]
      unfold stepsRes
      rw [if_neg (fun e => e h1), if_neg h2]
  · refine ptells_none (a := c.cores) (b := c.lines) hb h1 ?_
    rw [hs]
    unfold stepsRes
    rw [if_pos h1]
end Go.Proofs.YtpgeopefamomnaeGreat

