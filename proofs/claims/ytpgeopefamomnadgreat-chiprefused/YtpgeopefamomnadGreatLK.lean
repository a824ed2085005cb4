/- LawChipRefused. -/
import Derived.Test.YtpgeopefamomnadGreatGD
set_option linter.unusedSimpArgs false
set_option linter.unusedSectionVars false
namespace Go.Proofs.YtpgeopefamomnadGreat
open Go.RowKit
set_option linter.unusedVariables false
set_option linter.unusedSimpArgs false
set_option maxRecDepth 100000
def tabLR : Canon := orT 4 alive6T tabChip
theorem tabLR_ok : Sound Tryz.prog tabLR := tabChip_ok.or alive6_does
def ksLR : List FuncId := [4, 6, 9, 8, 7, 5]
theorem doF_keeps {n L : Nat} {x : SChip} {V : Nat → Int} (X : XI n L x V) {s : SStep} (h : (doF x s).2.2 = 0) : (doF x s).1.cores.length = x.cores.length ∧ (doF x s).1.home.length = x.home.length ∧ (doF x s).1.frames.length ≤ 40 := by
  obtain ⟨V', X', _⟩ := xi_do X h
  have a := X.nc
  have b := X'.nc
  have c := X.nh
  have d := X'.nh
  exact ⟨by omega, by omega, X'.fl⟩
abbrev doR (x : SChip) (k nd sn sb ok ol ov : Int) : SChip × List SDone × Int := doF ⟨coresR (R coreD x.cores), homeR (R entD x.home), framesR (framesD x.frames)⟩ ⟨k, nd, sn, sb, ⟨ok, ol, ov⟩⟩
theorem doR_eq (x : SChip) (k nd sn sb ok ol ov : Int) : doR x k nd sn sb ok ol ov = doF x ⟨k, nd, sn, sb, ⟨ok, ol, ov⟩⟩ := by unfold doR; rw [eta_chip]
set_option maxHeartbeats 4000000
theorem chref_none {ca cb : Int} {l : List SStep} (h : (buildF ⟨ca, cb⟩ l).1.cores = []) (k nd sn sb ok ol ov : Int) : FunOK Tryz.prog 3 [.agg [I ca, I cb], Ro (R stepD l), .agg [I k, I nd, I sn, I sb, I ok, I ol, I ov]] (hOf []) (Vb true) (hOf []) := by
  refine fun_deep (pins := []) (l0 := []) (objs := []) (base := 0) (xx_ok tabLR_ok ksLR) mixed Tryz.func3 rfl (Nat.le_of_ble_eq_true rfl) rfl rfl ?_
  have hx : ¬ ((((R coreD (buildF ⟨ca, cb⟩ (stepsR (R stepD l))).1.cores).length : Int) == 0) = false) := by
    rw [stepsR_rows, h]
    decide
  repeat' ((conv => whnf); first | exact trivial | (with_reducible refine ap_of ?_; kernel_rfl) | (with_reducible refine ds_of ?_; kernel_rfl) | (with_reducible refine eq_of ?_; kernel_rfl) | exact rfl | (intro h; exact absurd h (by decide)) | (intro h; with_reducible exact absurd h hx) | intro _ | apply And.intro)
  all_goals first
    | exact ⟨l, rfl⟩
    | rfl
    | trace_state
theorem chref_bad {n L : Nat} {ca cb : Int} {l : List SStep} {V' : Nat → Int} (X : XI n L (buildF ⟨ca, cb⟩ (stepsR (R stepD l))).1 V') (k nd sn sb ok ol ov : Int) (hsb : sb < 9223372036854775808) (hd : (doR (buildF ⟨ca, cb⟩ (stepsR (R stepD l))).1 k nd sn sb ok ol ov).2.2 ≠ 0) : FunOK Tryz.prog 3 [.agg [I ca, I cb], Ro (R stepD l), .agg [I k, I nd, I sn, I sb, I ok, I ol, I ov]] (hOf []) (Vb true) (hOf []) := by
  refine fun_deep (pins := []) (l0 := []) (objs := []) (base := 0) (xx_ok tabLR_ok ksLR) mixed Tryz.func3 rfl (Nat.le_of_ble_eq_true rfl) rfl rfl ?_
  have hnc := X.nc
  have hn1 := X.n1
  obtain ⟨e1, e2⟩ := (doF_one _ _).1 hd
  have hx : ¬ ((((R coreD (buildF ⟨ca, cb⟩ (stepsR (R stepD l))).1.cores).length : Int) == 0) = true) := by
    rw [R_len, hnc]
    simp
    omega
  have hx2 : ¬ (((doR (buildF ⟨ca, cb⟩ (stepsR (R stepD l))).1 k nd sn sb ok ol ov).2.2 != 0) = false) := by simpa using hd
  have hx3 : ¬ ((((R dnD (doR (buildF ⟨ca, cb⟩ (stepsR (R stepD l))).1 k nd sn sb ok ol ov).2.1).length : Int) == 0) = false) := by rw [e2]; decide
  repeat' ((conv => whnf); first | exact trivial | (with_reducible refine ap_of ?_; kernel_rfl) | (with_reducible refine ds_of ?_; kernel_rfl) | (with_reducible refine eq_of ?_; kernel_rfl) | exact rfl | (intro h; exact absurd h (by decide)) | (intro h; with_reducible exact absurd h hx) | (intro h; with_reducible exact absurd h hx2) | (intro h; with_reducible exact absurd h hx3) | intro _ | apply And.intro)
  all_goals clear hx hx2 hx3
  all_goals first
    | exact ⟨l, rfl⟩
    | exact ⟨_, n, L, V', rfl, rfl, rfl, X⟩
    | exact hsb
    | exact ⟨SChip.zero, mild_zero, congrArg (fun x => R coreD x.cores) e1, rfl, congrArg (fun x => R entD x.home) e1, rfl, congrArg (fun x => framesD x.frames) e1, rfl⟩
    | rfl
    | (rw [show (doF _ _).2.1 = [] from e2]; rfl)
    | trace_state
theorem chref_good {n L : Nat} {ca cb : Int} {l : List SStep} {V' : Nat → Int} (X : XI n L (buildF ⟨ca, cb⟩ (stepsR (R stepD l))).1 V') (k nd sn sb ok ol ov : Int) (hsb : sb < 9223372036854775808) (hd : (doR (buildF ⟨ca, cb⟩ (stepsR (R stepD l))).1 k nd sn sb ok ol ov).2.2 = 0) : FunOK Tryz.prog 3 [.agg [I ca, I cb], Ro (R stepD l), .agg [I k, I nd, I sn, I sb, I ok, I ol, I ov]] (hOf []) (Vb true) (hOf []) := by
  refine fun_deep (pins := []) (l0 := []) (objs := []) (base := 0) (xx_ok tabLR_ok ksLR) mixed Tryz.func3 rfl (Nat.le_of_ble_eq_true rfl) rfl rfl ?_
  have hnc := X.nc
  have hn1 := X.n1
  have h1 := (doF_one (buildF ⟨ca, cb⟩ (stepsR (R stepD l))).1 ⟨k, nd, sn, sb, ⟨ok, ol, ov⟩⟩).2
  have hd2 := hd
  rw [doR_eq] at hd2
  obtain ⟨k1, k2, k3⟩ := doF_keeps X hd2
  rw [← doR_eq] at h1 k1 k2 k3
  have hx : ¬ ((((R coreD (buildF ⟨ca, cb⟩ (stepsR (R stepD l))).1.cores).length : Int) == 0) = true) := by
    rw [R_len, hnc]
    simp
    omega
  have hx2 : ¬ (((doR (buildF ⟨ca, cb⟩ (stepsR (R stepD l))).1 k nd sn sb ok ol ov).2.2 != 0) = true) := by rw [hd]; decide
  have hx3 : ¬ (((((R coreD (doR (buildF ⟨ca, cb⟩ (stepsR (R stepD l))).1 k nd sn sb ok ol ov).1.cores).length : Int) == ((R coreD (buildF ⟨ca, cb⟩ (stepsR (R stepD l))).1.cores).length : Int)) == true) = false) := by rw [R_len, R_len, k1]; simp
  have hx4 : ¬ (((((R entD (doR (buildF ⟨ca, cb⟩ (stepsR (R stepD l))).1 k nd sn sb ok ol ov).1.home).length : Int) == ((R entD (buildF ⟨ca, cb⟩ (stepsR (R stepD l))).1.home).length : Int)) == true) = false) := by rw [R_len, R_len, k2]; simp
  have hx5 : ¬ ((decide (((framesD (doR (buildF ⟨ca, cb⟩ (stepsR (R stepD l))).1 k nd sn sb ok ol ov).1.frames).length : Int) ≤ 40) == true) = false) := by rw [framesD_len]; simp; omega
  have hx6 : decide (((R dnD (doR (buildF ⟨ca, cb⟩ (stepsR (R stepD l))).1 k nd sn sb ok ol ov).2.1).length : Int) ≤ 1) = true := by rw [R_len]; simp; omega
  repeat' ((conv => whnf); first | exact trivial | (with_reducible refine ap_of ?_; kernel_rfl) | (with_reducible refine ds_of ?_; kernel_rfl) | (with_reducible refine eq_of ?_; kernel_rfl) | exact rfl | (intro h; exact absurd h (by decide)) | (intro h; with_reducible exact absurd h hx) | (intro h; with_reducible exact absurd h hx2) | (intro h; with_reducible exact absurd h hx3) | (intro h; with_reducible exact absurd h hx4) | (intro h; with_reducible exact absurd h hx5) | intro _ | apply And.intro)
  all_goals clear hx hx2 hx3 hx4 hx5
  all_goals first
    | exact ⟨l, rfl⟩
    | exact ⟨_, n, L, V', rfl, rfl, rfl, X⟩
    | exact hsb
    | exact congrArg Vb hx6
    | rfl
    | trace_state
theorem chref_any (c : Cfg) (l : List SStep) (s : SStep) (hsb : s.bit < 9223372036854775808) : FunOK Tryz.prog 3 [.agg (cfgC c), Ro (R stepD l), .agg (stepC s)] (hOf []) (Vb true) (hOf []) := by
  rcases built c l with ⟨n, L, V', e1, e2, X⟩ | hz
  · rw [← stepsR_rows l] at X
    by_cases h : (doR (buildF ⟨c.cores, c.lines⟩ (stepsR (R stepD l))).1 s.kind s.node s.n s.bit s.op.kind s.op.line s.op.value).2.2 = 0
    · exact chref_good (ca := c.cores) (cb := c.lines) X s.kind s.node s.n s.bit s.op.kind s.op.line s.op.value hsb h
    · exact chref_bad (ca := c.cores) (cb := c.lines) X s.kind s.node s.n s.bit s.op.kind s.op.line s.op.value hsb h
  · exact chref_none (ca := c.cores) (cb := c.lines) hz s.kind s.node s.n s.bit s.op.kind s.op.line s.op.value
end Go.Proofs.YtpgeopefamomnadGreat

