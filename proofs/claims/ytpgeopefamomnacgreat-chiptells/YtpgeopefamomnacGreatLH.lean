/- The law ChipTells, on trees. -/
import Derived.Test.YtpgeopefamomnacGreatGE
namespace Go.Proofs.YtpgeopefamomnacGreat
open Go.RowKit
set_option linter.unusedVariables false
set_option linter.unusedSimpArgs false
set_option linter.unusedSectionVars false
set_option maxRecDepth 100000

set_option maxHeartbeats 4000000
theorem chtells_in {n L : Nat} {ca cb : Int} {l : List SStep} {V' : Nat → Int} (X : XI n L (buildF ⟨ca, cb⟩ l).1 V') (hN : (newF ⟨ca, cb⟩).2 = 0) (MN : Mild (newF ⟨ca, cb⟩).1) (k nd sn sb ok ol ov : Int) (hsb : sb < 9223372036854775808) : FunOK Tryz.prog 3 [.agg [I ca, I cb], Ro (R stepD l), .agg [I k, I nd, I sn, I sb, I ok, I ol, I ov]] (hOf []) (Vb true) (hOf []) := by
  refine fun_deep (pins := []) (l0 := []) (objs := []) (base := 0) (xx_ok tabL6_ok ksL6) mixed Tryz.func3 rfl (Nat.le_of_ble_eq_true rfl) rfl rfl ?_
  have hs : stepsR (R stepD l) = l := stepsR_rows l
  have hx : ¬ (((newF ⟨ca, cb⟩).2 != (newF ⟨ca, cb⟩).2) = true) := by simp
  have hx2 : ¬ (((newF ⟨ca, cb⟩).2 != 0) = true) := by rw [hN]; simp
  have hx3 : ¬ ((((newF ⟨ca, cb⟩).2 != (newF ⟨ca, cb⟩).2) == false) = false) := by simp
  repeat' ((conv => whnf); first | exact trivial | (with_reducible refine ap_of ?_; kernel_rfl) | (with_reducible refine ds_of ?_; kernel_rfl) | (with_reducible refine eq_of ?_; kernel_rfl) | exact rfl | (intro h; exact absurd h (by decide)) | (intro h; exact absurd h hx) | (intro h; exact absurd h hx2) | (intro h; exact absurd h hx3) | intro _ | apply And.intro)
  all_goals clear hx hx2 hx3
  all_goals try simp only [hs, eta_chip] at *
  all_goals generalize (buildF ⟨ca, cb⟩ l).1 = x at *
  all_goals first
    | exact ⟨l, rfl⟩
    | exact ⟨_, MN, rfl, rfl, rfl, rfl, rfl, rfl⟩
    | exact ⟨x, n, L, V', rfl, rfl, rfl, X⟩
    | exact hsb
    | exact ⟨_, mild_do X _, rfl, rfl, rfl, rfl, rfl, rfl⟩
    | exact ⟨_, mild_xi X, rfl, rfl, rfl, rfl, rfl, rfl⟩
    | exact ⟨_, rfl, rfl, Nat.lt_of_le_of_lt (doF_one x _).2 (by decide)⟩
    | rfl
    | (exfalso; simp_all; done)
    | trace_state
theorem chtells_none {ca cb : Int} {l : List SStep} (hN : (newF ⟨ca, cb⟩).2 ≠ 0) (k nd sn sb ok ol ov : Int) : FunOK Tryz.prog 3 [.agg [I ca, I cb], Ro (R stepD l), .agg [I k, I nd, I sn, I sb, I ok, I ol, I ov]] (hOf []) (Vb true) (hOf []) := by
  refine fun_deep (pins := []) (l0 := []) (objs := []) (base := 0) (xx_ok tabL6_ok ksL6) mixed Tryz.func3 rfl (Nat.le_of_ble_eq_true rfl) rfl rfl ?_
  have MN : Mild (newF ⟨ca, cb⟩).1 := by
    have hz : (newF ⟨ca, cb⟩).1 = SChip.zero := by
      unfold newF at hN ⊢
      split
      · rfl
      · rename_i h
        rw [if_neg h] at hN
        exact absurd rfl hN
    rw [hz]
    exact mild_zero
  have hx : ¬ (((newF ⟨ca, cb⟩).2 != (newF ⟨ca, cb⟩).2) = true) := by simp
  have hx2 : ¬ (((newF ⟨ca, cb⟩).2 != 0) = false) := by simp; exact hN
  have hx3 : ¬ ((((newF ⟨ca, cb⟩).2 != (newF ⟨ca, cb⟩).2) == false) = false) := by simp
  repeat' ((conv => whnf); first | exact trivial | (with_reducible refine ap_of ?_; kernel_rfl) | (with_reducible refine ds_of ?_; kernel_rfl) | (with_reducible refine eq_of ?_; kernel_rfl) | exact rfl | (intro h; exact absurd h (by decide)) | (intro h; exact absurd h hx) | (intro h; exact absurd h hx2) | (intro h; exact absurd h hx3) | intro _ | apply And.intro)
  all_goals clear hx hx2 hx3
  all_goals first
    | exact ⟨l, rfl⟩
    | exact ⟨_, MN, rfl, rfl, rfl, rfl, rfl, rfl⟩
    | rfl
    | (exfalso; simp_all; done)
    | trace_state
theorem chtells_any (c : Cfg) (l : List SStep) (s : SStep) (hsb : s.bit < 9223372036854775808) : FunOK Tryz.prog 3 [.agg (cfgC c), Ro (R stepD l), .agg (stepC s)] (hOf []) (Vb true) (hOf []) := by
  by_cases h : (newF c).2 = 0
  · obtain ⟨n, L, V, h1, h2, X, _⟩ := xi_build (l := l) h
    obtain ⟨n', L', e1, e2, XN⟩ := xi_new h
    exact chtells_in (ca := c.cores) (cb := c.lines) X h (mild_xi XN) s.kind s.node s.n s.bit s.op.kind s.op.line s.op.value hsb
  · exact chtells_none (ca := c.cores) (cb := c.lines) h s.kind s.node s.n s.bit s.op.kind s.op.line s.op.value
end Go.Proofs.YtpgeopefamomnacGreat
