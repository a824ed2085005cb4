/- The law ChipSpoilt, on trees. -/
import Derived.Test.YtpgeopefamomnacGreatLP
namespace Go.Proofs.YtpgeopefamomnacGreat
open Go.RowKit
set_option linter.unusedVariables false
set_option linter.unusedSimpArgs false
set_option linter.unusedSectionVars false
set_option maxRecDepth 100000

set_option maxHeartbeats 4000000
section
variable {n L : Nat} {ca cb : Int} {l : List SStep} {V' : Nat → Int} (X : XI n L (buildF ⟨ca, cb⟩ l).1 V') (hca : ca = n) (hcb : cb = L) (i : Nat) (hi : i < (buildF ⟨ca, cb⟩ l).1.frames.length) (bit : Int)
include X hca hcb hi
theorem chsp_in (hbit : bit < 9223372036854775808) (hp : (parseF ⟨ca, cb⟩ ((buildF ⟨ca, cb⟩ l).1.frames.getD i [])).2 = 0) : FunOK Tryz.prog 4 [.agg [I ca, I cb], Ro (R stepD l), V i, V bit] (hOf []) (Vb true) (hOf []) := by
  refine fun_deep (pins := []) (l0 := []) (objs := []) (base := 0) (xx_ok tabL6_ok ksL6) mixed Tryz.func4 rfl (Nat.le_of_ble_eq_true rfl) rfl rfl ?_
  have hs : stepsR (R stepD l) = l := stepsR_rows l
  have hnc := X.nc
  have hn1 := X.n1
  have hfb := frame_bytes X (getD_mem hi)
  have hlen := framesD_len (buildF ⟨ca, cb⟩ l).1.frames
  have hg : (framesD (buildF ⟨ca, cb⟩ l).1.frames).getD i [] = [.row (rowB ((buildF ⟨ca, cb⟩ l).1.frames.getD i []))] := framesD_get hi
  have hx : ¬ (((((R coreD (buildF ⟨ca, cb⟩ (stepsR (R stepD l))).1.cores).length : Int) == 0) == false) = false) := by
    rw [stepsR_rows, R_len, hnc]
    simp
    omega
  have hx2 : ¬ ((decide ((i : Int) < 0) == false) = false) := by simp
  have hx3 : ¬ (decide ((i : Int) ≥ ((framesD (buildF ⟨ca, cb⟩ (stepsR (R stepD l))).1.frames).length : Int)) = true) := by rw [stepsR_rows, framesD_len]; simp; omega
  have hx4 : ¬ (((parseF ⟨ca, cb⟩ (bytesR (((framesD (buildF ⟨ca, cb⟩ (stepsR (R stepD l))).1.frames).getD ((i : Nat) : Int).toNat []).getD 0 dz).toR)).2 != 0) = true) := by
    rw [hs, Int.toNat_natCast, hg]
    show ¬ (((parseF ⟨ca, cb⟩ (bytesR (rowB ((buildF ⟨ca, cb⟩ l).1.frames.getD i [])))).2 != 0) = true)
    rw [bytesR_rows]
    simpa using hp
  repeat' ((conv => whnf); first | exact trivial | (with_reducible refine ap_of ?_; kernel_rfl) | (with_reducible refine ds_of ?_; kernel_rfl) | (with_reducible refine eq_of ?_; kernel_rfl) | exact rfl | (intro h; exact absurd h (by decide)) | (intro h; with_reducible exact absurd h hx) | (intro h; with_reducible exact absurd h hx2) | (intro h; with_reducible exact absurd h hx3) | (intro h; with_reducible exact absurd h hx4) | intro _ | apply And.intro)
  all_goals clear hx hx2 hx3 hx4
  all_goals simp only [hs, eta_chip] at *
  all_goals generalize (buildF ⟨ca, cb⟩ l).1 = x at *
  all_goals try rw [show (⟨5, 0, (i : Int), bit, ⟨0, 0, 0⟩⟩ : SStep) = spoilS i bit from rfl] at *
  all_goals try rw [show (⟨2, 0, (i : Int), 0, ⟨0, 0, 0⟩⟩ : SStep) = goS i from rfl] at *
  all_goals try rw [show (⟨3, 0, (i : Int), 0, ⟨0, 0, 0⟩⟩ : SStep) = dropS i from rfl] at *
  all_goals first
    | exact ⟨l, rfl⟩
    | rfl
    | exact Int.natCast_nonneg _
    | (rw [hlen]; omega)
    | (rw [hlen, Int.toNat_natCast]; exact hi)
    | (rw [Int.toNat_natCast, hg]; first | rfl | exact Nat.le_refl _ | exact ⟨_, rfl, hfb.1⟩)
    | exact ⟨x, n, L, V', rfl, rfl, rfl, X⟩
    | exact hbit
    | decide
    | skip
  all_goals
    have hd : (doF x (spoilS i bit)).2.2 = 0 := by simpa using ‹((doF x (spoilS i bit)).2.2 != 0) = false›
    obtain ⟨V2, X2, _⟩ := xi_do X hd
    have hp2 : (parseF ⟨n, L⟩ (x.frames.getD i [])).2 = 0 := by rw [hca, hcb] at hp; exact hp
    have hl := spoil_lost X hi hp2 hd
    have hdr := do_drop hi
    have e2 : (doF (doF x (spoilS i bit)).1 (goS i)).2.2 = 0 := by rw [hl, hdr]
    have e3 : (doF (doF x (spoilS i bit)).1 (goS i)).2.1 = [] := by rw [hl, hdr]
    have e4 : (doF x (dropS i)).2.2 = 0 := by rw [hdr]
    first
      | exact ⟨_, n, L, V2, rfl, rfl, rfl, X2⟩
      | exact ⟨_, mild_do X (dropS i), by rw [hl], rfl, by rw [hl], rfl, by rw [hl], rfl⟩
      | exact absurd (by assumption : (((doF (doF x (spoilS i bit)).1 (goS i)).2.2 == 0) == true) = false) (by rw [e2]; decide)
      | exact absurd (by assumption : (((doF x (dropS i)).2.2 == 0) == true) = false) (by rw [e4]; decide)
      | exact absurd (by assumption : ((((R dnD (doF (doF x (spoilS i bit)).1 (goS i)).2.1).length : Int) == 0) == true) = false) (by rw [e3]; decide)
      | trace_state
end
theorem chsp_any (c : Cfg) (l : List SStep) (nn bit : Int) (hb : bit < 9223372036854775808) : FunOK Tryz.prog 4 [.agg (cfgC c), Ro (R stepD l), V nn, V bit] (hOf []) (Vb true) (hOf []) := by
  rcases built c l with ⟨n, L, V', e1, e2, X⟩ | hz
  · by_cases h0 : nn < 0
    · exact chsp_lo (ca := c.cores) (cb := c.lines) X nn bit h0
    by_cases h1 : ((buildF ⟨c.cores, c.lines⟩ l).1.frames.length : Int) ≤ nn
    · exact chsp_hi (ca := c.cores) (cb := c.lines) X nn bit (by omega) h1
    obtain ⟨i, rfl⟩ := Int.eq_ofNat_of_zero_le (show 0 ≤ nn by omega)
    have hi : i < (buildF ⟨c.cores, c.lines⟩ l).1.frames.length := by omega
    by_cases hp : (parseF ⟨c.cores, c.lines⟩ ((buildF ⟨c.cores, c.lines⟩ l).1.frames.getD i [])).2 = 0
    · exact chsp_in (ca := c.cores) (cb := c.lines) X e1 e2 i hi bit hb hp
    · exact chsp_p (ca := c.cores) (cb := c.lines) X e1 e2 i hi bit hp
  · exact chsp_none (ca := c.cores) (cb := c.lines) hz nn bit
end Go.Proofs.YtpgeopefamomnacGreat
