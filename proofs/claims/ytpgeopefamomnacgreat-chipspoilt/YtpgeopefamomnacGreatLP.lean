/- The law ChipSpoilt: where nothing is to be shown, on trees. -/
import Derived.Test.YtpgeopefamomnacGreatGE
namespace Go.Proofs.YtpgeopefamomnacGreat
open Go.RowKit
set_option linter.unusedVariables false
set_option linter.unusedSimpArgs false
set_option linter.unusedSectionVars false
set_option maxRecDepth 100000

set_option maxHeartbeats 4000000
/-! ChipSpoilt. -/
theorem chsp_none {ca cb : Int} {l : List SStep} (h : (buildF ⟨ca, cb⟩ l).1.cores = []) (nn bit : Int) : FunOK Tryz.prog 4 [.agg [I ca, I cb], Ro (R stepD l), V nn, V bit] (hOf []) (Vb true) (hOf []) := by
  refine fun_deep (pins := []) (l0 := []) (objs := []) (base := 0) (xx_ok tabL6_ok ksL6) mixed Tryz.func4 rfl (Nat.le_of_ble_eq_true rfl) rfl rfl ?_
  have hx : ¬ (((((R coreD (buildF ⟨ca, cb⟩ (stepsR (R stepD l))).1.cores).length : Int) == 0) == false) = true) := by
    rw [stepsR_rows, h]
    decide
  repeat' ((conv => whnf); first | exact trivial | (with_reducible refine ap_of ?_; kernel_rfl) | (with_reducible refine ds_of ?_; kernel_rfl) | (with_reducible refine eq_of ?_; kernel_rfl) | exact rfl | (intro h; exact absurd h (by decide)) | (intro h; with_reducible exact absurd h hx) | intro _ | apply And.intro)
  all_goals first
    | exact ⟨l, rfl⟩
    | rfl
    | trace_state
theorem chsp_lo {n L : Nat} {ca cb : Int} {l : List SStep} {V' : Nat → Int} (X : XI n L (buildF ⟨ca, cb⟩ l).1 V') (nn bit : Int) (h : nn < 0) : FunOK Tryz.prog 4 [.agg [I ca, I cb], Ro (R stepD l), V nn, V bit] (hOf []) (Vb true) (hOf []) := by
  refine fun_deep (pins := []) (l0 := []) (objs := []) (base := 0) (xx_ok tabL6_ok ksL6) mixed Tryz.func4 rfl (Nat.le_of_ble_eq_true rfl) rfl rfl ?_
  have hx : ¬ ((decide (nn < 0) == false) = true) := by simp; omega
  repeat' ((conv => whnf); first | exact trivial | (with_reducible refine ap_of ?_; kernel_rfl) | (with_reducible refine ds_of ?_; kernel_rfl) | (with_reducible refine eq_of ?_; kernel_rfl) | exact rfl | (intro h; exact absurd h (by decide)) | (intro h; with_reducible exact absurd h hx) | intro _ | apply And.intro)
  all_goals first
    | exact ⟨l, rfl⟩
    | rfl
    | (exfalso; simp_all; done)
    | trace_state
theorem chsp_hi {n L : Nat} {ca cb : Int} {l : List SStep} {V' : Nat → Int} (X : XI n L (buildF ⟨ca, cb⟩ l).1 V') (nn bit : Int) (h0 : 0 ≤ nn) (h : ((buildF ⟨ca, cb⟩ l).1.frames.length : Int) ≤ nn) : FunOK Tryz.prog 4 [.agg [I ca, I cb], Ro (R stepD l), V nn, V bit] (hOf []) (Vb true) (hOf []) := by
  refine fun_deep (pins := []) (l0 := []) (objs := []) (base := 0) (xx_ok tabL6_ok ksL6) mixed Tryz.func4 rfl (Nat.le_of_ble_eq_true rfl) rfl rfl ?_
  have hx : ¬ ((decide (nn < 0) == false) = false) := by simp; omega
  have hx2 : ¬ (decide (nn ≥ ((framesD (buildF ⟨ca, cb⟩ (stepsR (R stepD l))).1.frames).length : Int)) = false) := by rw [stepsR_rows, framesD_len]; simp; omega
  repeat' ((conv => whnf); first | exact trivial | (with_reducible refine ap_of ?_; kernel_rfl) | (with_reducible refine ds_of ?_; kernel_rfl) | (with_reducible refine eq_of ?_; kernel_rfl) | exact rfl | (intro h; exact absurd h (by decide)) | (intro h; with_reducible exact absurd h hx) | (intro h; with_reducible exact absurd h hx2) | intro _ | apply And.intro)
  all_goals first
    | exact ⟨l, rfl⟩
    | rfl
    | (exfalso; simp_all; done)
    | trace_state
section
variable {n L : Nat} {ca cb : Int} {l : List SStep} {V' : Nat → Int} (X : XI n L (buildF ⟨ca, cb⟩ l).1 V') (hca : ca = n) (hcb : cb = L) (i : Nat) (hi : i < (buildF ⟨ca, cb⟩ l).1.frames.length) (bit : Int)
include X hca hcb hi
theorem chsp_p (hp : (parseF ⟨ca, cb⟩ ((buildF ⟨ca, cb⟩ l).1.frames.getD i [])).2 ≠ 0) : FunOK Tryz.prog 4 [.agg [I ca, I cb], Ro (R stepD l), V i, V bit] (hOf []) (Vb true) (hOf []) := by
  refine fun_deep (pins := []) (l0 := []) (objs := []) (base := 0) (xx_ok tabL6_ok ksL6) mixed Tryz.func4 rfl (Nat.le_of_ble_eq_true rfl) rfl rfl ?_
  have hs : stepsR (R stepD l) = l := stepsR_rows l
  have hnc := X.nc
  have hn1 := X.n1
  have hfb := frame_bytes X (getD_mem hi)
  have hlen := framesD_len (buildF ⟨ca, cb⟩ l).1.frames
  have hg : (framesD (buildF ⟨ca, cb⟩ l).1.frames).getD i [] = [.row (rowB ((buildF ⟨ca, cb⟩ l).1.frames.getD i []))] := framesD_get hi
  have hx : ¬ (((((R coreD (buildF ⟨ca, cb⟩ (stepsR (R stepD l))).1.cores).length : Int) == 0) == false) = false) := by
    rw [stepsR_rows, R_len, hnc]
    simp
    omega
  have hx2 : ¬ ((decide ((i : Int) < 0) == false) = false) := by simp
  have hx3 : ¬ (decide ((i : Int) ≥ ((framesD (buildF ⟨ca, cb⟩ (stepsR (R stepD l))).1.frames).length : Int)) = true) := by rw [stepsR_rows, framesD_len]; simp; omega
  have hx4 : ¬ (((parseF ⟨ca, cb⟩ (bytesR (((framesD (buildF ⟨ca, cb⟩ (stepsR (R stepD l))).1.frames).getD ((i : Nat) : Int).toNat []).getD 0 dz).toR)).2 != 0) = false) := by
    rw [hs, Int.toNat_natCast, hg]
    show ¬ (((parseF ⟨ca, cb⟩ (bytesR (rowB ((buildF ⟨ca, cb⟩ l).1.frames.getD i [])))).2 != 0) = false)
    rw [bytesR_rows]
    simpa using hp
  repeat' ((conv => whnf); first | exact trivial | (with_reducible refine ap_of ?_; kernel_rfl) | (with_reducible refine ds_of ?_; kernel_rfl) | (with_reducible refine eq_of ?_; kernel_rfl) | exact rfl | (intro h; exact absurd h (by decide)) | (intro h; with_reducible exact absurd h hx) | (intro h; with_reducible exact absurd h hx2) | (intro h; with_reducible exact absurd h hx3) | (intro h; with_reducible exact absurd h hx4) | intro _ | apply And.intro)
  all_goals clear hx hx2 hx3 hx4
  all_goals try rw [hs] at *
  all_goals first
    | exact ⟨l, rfl⟩
    | rfl
    | exact Int.natCast_nonneg _
    | (rw [hlen]; omega)
    | (rw [hlen, Int.toNat_natCast]; exact hi)
    | (rw [Int.toNat_natCast, hg]; first | rfl | exact Nat.le_refl _ | exact ⟨_, rfl, hfb.1⟩)
    | trace_state
end
end Go.Proofs.YtpgeopefamomnacGreat
