/- GDo0 GDo4 GDo6 GDo2. -/
import Derived.Test.YtpgeopefamomnaeGreatGF
import Derived.Test.YtpgeopefamomnaeGreatRT
set_option linter.unusedSimpArgs false
set_option linter.unusedSectionVars false
namespace Go.Proofs.YtpgeopefamomnaeGreat
open Go.RowKit
set_option linter.unusedVariables false
set_option linter.unusedSimpArgs false
set_option maxRecDepth 100000
def tabCD : Canon := orT 46 cownT (orT 90 sendAT (orT 88 beginT (orT 109 cHearT (orT 96 timerT (orT 108 hHearT (orT 97 hTimerT (orT 91 parseT (orT 93 ntakeT (orT 94 ntwiceT (orT 95 nspoilT tab0))))))))))
theorem tabCD_ok : Sound Tryz.prog tabCD := ((((((((((tab0_ok.or nspoil_does).or ntwice_does).or ntake_does).or fparse_does).or hTimer_does).or hHear_does).or cTimer_does).or cHear_does).or cBegin_does).or sendA_does).or cown_does
def ksCD : List FuncId := [46, 90, 88, 109, 96, 108, 97, 91, 93, 94, 95]
section
variable {n L : Nat} {x : SChip} {V' : Nat → Int} (X : XI n L x V')
include X
set_option maxHeartbeats 4000000
theorem cdo_kind (k nd sn sb ok ol ov : Int) (hk : k ≠ 1 ∧ k ≠ 2 ∧ k ≠ 3 ∧ k ≠ 4 ∧ k ≠ 5 ∧ k ≠ 6) : FunOK Tryz.prog 55 [.agg [.d (.row (R coreD x.cores)), .d (.row (R entD x.home)), .d (.row (framesD x.frames))], .agg [I k, I nd, I sn, I sb, I ok, I ol, I ov]] (hOf []) (noC 1) (hOf []) := by
  refine fun_deep (pins := []) (l0 := []) (objs := []) (base := 0) (xx_ok tabCD_ok ksCD) mixed Tryz.func55 rfl (Nat.le_of_ble_eq_true rfl) rfl rfl ?_
  obtain ⟨k1, k2, k3, k4, k5, k6⟩ := hk
  have h1 : ¬ ((k == 1) = true) := by simpa using k1
  have h2 : ¬ ((k == 2) = true) := by simpa using k2
  have h3 : ¬ ((k == 3) = true) := by simpa using k3
  have h4 : ¬ ((k == 4) = true) := by simpa using k4
  have h5 : ¬ ((k == 5) = true) := by simpa using k5
  have h6 : ¬ ((k == 6) = true) := by simpa using k6
  repeat' ((conv => whnf); first | exact trivial | (with_reducible refine ap_of ?_; kernel_rfl) | (with_reducible refine ds_of ?_; kernel_rfl) | (with_reducible refine eq_of ?_; kernel_rfl) | exact rfl | (intro h; exact absurd h (by decide)) | (intro h; exact absurd h h1) | (intro h; exact absurd h h2) | (intro h; exact absurd h h3) | (intro h; exact absurd h h4) | (intro h; exact absurd h h5) | (intro h; exact absurd h h6) | intro _ | apply And.intro)
  all_goals first | exact ⟨x, n, L, V', rfl, rfl, rfl, X⟩ | rfl | trace_state
theorem cdo_1lo (nd sn sb ok ol ov : Int) (h : nd < 0) : FunOK Tryz.prog 55 [.agg [.d (.row (R coreD x.cores)), .d (.row (R entD x.home)), .d (.row (framesD x.frames))], .agg [I 1, I nd, I sn, I sb, I ok, I ol, I ov]] (hOf []) (noC 5) (hOf []) := by
  refine fun_deep (pins := []) (l0 := []) (objs := []) (base := 0) (xx_ok tabCD_ok ksCD) mixed Tryz.func55 rfl (Nat.le_of_ble_eq_true rfl) rfl rfl ?_
  have hx : ¬ ((decide (nd ≥ 0) == true) = true) := by simp; omega
  repeat' ((conv => whnf); first | exact trivial | (with_reducible refine ap_of ?_; kernel_rfl) | (with_reducible refine ds_of ?_; kernel_rfl) | (with_reducible refine eq_of ?_; kernel_rfl) | exact rfl | (intro h; exact absurd h (by decide)) | (intro h; exact absurd h hx) | intro _ | apply And.intro)
  all_goals first | exact ⟨x, n, L, V', rfl, rfl, rfl, X⟩ | rfl | (exfalso; simp_all; done) | (exfalso; simp_all; omega) | trace_state
theorem cdo_1hi (nd sn sb ok ol ov : Int) (h0 : 0 ≤ nd) (h : (x.cores.length : Int) ≤ nd) : FunOK Tryz.prog 55 [.agg [.d (.row (R coreD x.cores)), .d (.row (R entD x.home)), .d (.row (framesD x.frames))], .agg [I 1, I nd, I sn, I sb, I ok, I ol, I ov]] (hOf []) (noC 5) (hOf []) := by
  refine fun_deep (pins := []) (l0 := []) (objs := []) (base := 0) (xx_ok tabCD_ok ksCD) mixed Tryz.func55 rfl (Nat.le_of_ble_eq_true rfl) rfl rfl ?_
  have hlen : (R coreD x.cores).length = x.cores.length := R_len _ _
  have hx : ¬ ((decide (nd ≥ 0) == true) = false) := by simp; omega
  have hx2 : ¬ ((!decide (nd < ((R coreD x.cores).length : Int))) = false) := by rw [hlen]; simp; omega
  repeat' ((conv => whnf); first | exact trivial | (with_reducible refine ap_of ?_; kernel_rfl) | (with_reducible refine ds_of ?_; kernel_rfl) | (with_reducible refine eq_of ?_; kernel_rfl) | exact rfl | (intro h; exact absurd h (by decide)) | (intro h; exact absurd h hx) | (intro h; exact absurd h hx2) | intro _ | apply And.intro)
  all_goals first | exact ⟨x, n, L, V', rfl, rfl, rfl, X⟩ | rfl | (exfalso; simp_all; done) | (exfalso; simp_all; omega) | trace_state
theorem cdo_1in (p : Nat) (hp : p < n) (sn sb ok ol ov : Int) (r : SCore × List Msg × List SDone × Int) (hr : beginF (x.core p) p n ⟨ok, ol, ov⟩ = r) : FunOK Tryz.prog 55 [.agg [.d (.row (R coreD x.cores)), .d (.row (R entD x.home)), .d (.row (framesD x.frames))], .agg [I 1, I p, I sn, I sb, I ok, I ol, I ov]] (hOf []) (doV (if r.2.2.2 ≠ 0 then (SChip.zero, [], r.2.2.2) else (⟨x.cores.set p r.1, x.home, wayF x.frames r.2.1⟩, r.2.2.1, 0))) (hOf []) := by
  refine fun_deep (pins := []) (l0 := []) (objs := []) (base := 0) (xx_ok tabCD_ok ksCD) mixed Tryz.func55 rfl (Nat.le_of_ble_eq_true rfl) rfl rfl ?_
  have hfit := fit_all X.n4 X.l4 (begin_said X hp (o := ⟨ok, ol, ov⟩))
  have hbl := begin_len (x := x) (n := n) (p := p) (o := ⟨ok, ol, ov⟩)
  rw [hr] at hfit hbl
  have hn4 := X.n4
  have hnc := X.nc
  have hpc : p < x.cores.length := by omega
  have hlen : (R coreD x.cores).length = n := by rw [R_len, hnc]
  have hlen2 : p < (R coreD x.cores).length := by omega
  have hleni : (p : Int) < ((R coreD x.cores).length : Int) := by omega
  have hg0 : (R coreD x.cores).getD p [] = coreD (x.core p) := R_get coreD SCore.zero hpc
  have hg : (R coreD x.cores).getD p [] = [.row (rowsL (x.core p).lines), J (x.core p).wait.kind, J (x.core p).wait.line, J (x.core p).wait.value] := hg0
  have hx1 : ¬ ((decide ((p : Int) ≥ 0) == true) = false) := by simp
  have hx2 : ¬ ((!decide ((p : Int) < ((R coreD x.cores).length : Int))) = true) := by simp; omega
  have hone : ∀ u ∈ R coreD x.cores, u.length = 4 := R_one (f := coreD) (fun _ => rfl) _
  have tnc : ((p : Nat) : Int).toNat = p := Int.toNat_natCast p
  repeat' ((conv => whnf); first | exact trivial | (with_reducible refine ap_of ?_; kernel_rfl) | (with_reducible refine ds_of ?_; kernel_rfl) | (with_reducible refine eq_of ?_; kernel_rfl) | exact rfl | (intro h; exact absurd h (by decide)) | (intro h; exact absurd h hx1) | (intro h; exact absurd h hx2) | intro _ | apply And.intro)
  all_goals first
    | exact ⟨x, n, L, V', rfl, rfl, rfl, X⟩
    | exact Int.natCast_nonneg _
    | exact hleni
    | exact hlen2
    | exact hone _ (by assumption)
    | rfl
    | (rw [tnc, hg]; first | rfl | exact Nat.le_refl _)
    | skip
  all_goals simp only [tnc, hg, List.getD_cons_zero, List.getD_cons_succ, DV.toI, Nat.zero_add, toR_row, linesR_rows, hlen] at *
  all_goals clear hx1 hx2 hone tnc
  all_goals try rw [show beginF ⟨(x.core p).lines, ⟨(x.core p).wait.kind, (x.core p).wait.line, (x.core p).wait.value⟩⟩ p n ⟨ok, ol, ov⟩ = r from hr] at *
  all_goals first
    | (exfalso; simp_all; done)
    | (exfalso; simp_all; omega)
    | exact ⟨_, rfl, by have := X.nl p hp; have := X.l4; omega, fun i hi => by
        have hiL : i < L := by have := X.nl p hp; omega
        have h := (X.ci i hiL).sr p hp
        have h2 : (x.core p).lines.getD i SLine.zero = lineAt x i p := rfl
        rw [h2]
        omega⟩
    | exact ⟨_, rfl, short_xi X, X.fl⟩
    | exact ⟨_, rfl, hfit, by omega⟩
    | (rw [if_pos (by simpa using ‹(r.2.2.2 != 0) = true›)]
       rfl)
    | (rw [if_neg (by simpa using ‹(r.2.2.2 != 0) = false›), framesR_rows, msgsR_rows]
       show AV.tup [.agg [.d (.row ((R coreD x.cores).set p (coreD r.1))), .d (.row (R entD x.home)), .d (.row (framesD (wayF x.frames r.2.1)))], Ro (R dnD r.2.2.1), V 0] = _
       rw [R_set]
       rfl)
    | trace_state
end
theorem cdo_1 {n L : Nat} {x : SChip} {V' : Nat → Int} (X : XI n L x V') (s : SStep) (hs : s.kind = 1) : FunOK Tryz.prog 55 [.agg (chipC x), .agg (stepC s)] (hOf []) (doV (doF x s)) (hOf []) := by
  obtain ⟨k, nd, sn, sb, ok, ol, ov⟩ := s
  simp only at hs
  subst hs
  have hnc := X.nc
  unfold doF
  rw [if_pos rfl]
  by_cases h0 : nd < 0
  · rw [if_pos (.inl h0)]
    exact cdo_1lo X nd sn sb ok ol ov h0
  by_cases h1 : (x.cores.length : Int) ≤ nd
  · rw [if_pos (.inr h1)]
    exact cdo_1hi X nd sn sb ok ol ov (by omega) h1
  rw [if_neg (by show ¬ (nd < 0 ∨ (x.cores.length : Int) ≤ nd); omega)]
  obtain ⟨p, rfl⟩ := Int.eq_ofNat_of_zero_le (show 0 ≤ nd by omega)
  rw [hnc]
  exact cdo_1in X p (by omega) sn sb ok ol ov _ rfl
end Go.Proofs.YtpgeopefamomnaeGreat

namespace Go.Proofs.YtpgeopefamomnaeGreat
open Go.RowKit
set_option linter.unusedVariables false
set_option linter.unusedSimpArgs false
set_option maxRecDepth 100000
theorem twiceF_in {fs : List (List Nat)} {i : Nat} (h : i < fs.length) : twiceF fs i = (sendB fs (fs.getD i []), 0) := by
  unfold twiceF
  rw [if_pos ⟨Int.natCast_nonneg _, by omega⟩, Int.toNat_natCast]
section
variable {n L : Nat} {x : SChip} {V' : Nat → Int} (X : XI n L x V')
include X
set_option maxHeartbeats 4000000
theorem cdo_4out (k nd sn sb ok ol ov : Int) (hk : k = 2 ∨ k = 3) (h : ¬ (0 ≤ sn ∧ sn < x.frames.length)) : FunOK Tryz.prog 55 [.agg [.d (.row (R coreD x.cores)), .d (.row (R entD x.home)), .d (.row (framesD x.frames))], .agg [I k, I nd, I sn, I sb, I ok, I ol, I ov]] (hOf []) (noC 5) (hOf []) := by
  have hT : takeF (framesR (framesD x.frames)) sn = ([], [], 5) := by rw [framesR_rows]; exact if_neg h
  have hx : ¬ (((takeF (framesR (framesD x.frames)) sn).2.2 != 0) = false) := by rw [hT]; simp
  have hS := short_xi X
  rcases hk with rfl | rfl
  all_goals
    refine fun_deep (pins := []) (l0 := []) (objs := []) (base := 0) (xx_ok tabCD_ok ksCD) mixed Tryz.func55 rfl (Nat.le_of_ble_eq_true rfl) rfl rfl ?_
    repeat' ((conv => whnf); first | exact trivial | (with_reducible refine ap_of ?_; kernel_rfl) | (with_reducible refine ds_of ?_; kernel_rfl) | (with_reducible refine eq_of ?_; kernel_rfl) | exact rfl | (intro h; exact absurd h (by decide)) | (intro h; exact absurd h hx) | intro _ | apply And.intro)
    all_goals first
      | rfl
      | exact ⟨x, n, L, V', rfl, rfl, rfl, X⟩
      | exact ⟨_, rfl, hS⟩
      | (rw [hT]; rfl)
      | trace_state
theorem cdo_twout (nd sn sb ok ol ov : Int) (h : ¬ (0 ≤ sn ∧ sn < x.frames.length)) : FunOK Tryz.prog 55 [.agg [.d (.row (R coreD x.cores)), .d (.row (R entD x.home)), .d (.row (framesD x.frames))], .agg [I 4, I nd, I sn, I sb, I ok, I ol, I ov]] (hOf []) (noC 5) (hOf []) := by
  have hT : twiceF (framesR (framesD x.frames)) sn = ([], 5) := by rw [framesR_rows]; exact if_neg h
  have hx : ¬ (((twiceF (framesR (framesD x.frames)) sn).2 != 0) = false) := by rw [hT]; simp
  have hS := short_xi X
  refine fun_deep (pins := []) (l0 := []) (objs := []) (base := 0) (xx_ok tabCD_ok ksCD) mixed Tryz.func55 rfl (Nat.le_of_ble_eq_true rfl) rfl rfl ?_
  repeat' ((conv => whnf); first | exact trivial | (with_reducible refine ap_of ?_; kernel_rfl) | (with_reducible refine ds_of ?_; kernel_rfl) | (with_reducible refine eq_of ?_; kernel_rfl) | exact rfl | (intro h; exact absurd h (by decide)) | (intro h; exact absurd h hx) | intro _ | apply And.intro)
  all_goals first
    | rfl
    | exact ⟨x, n, L, V', rfl, rfl, rfl, X⟩
    | exact ⟨_, rfl, hS⟩
    | (rw [hT]; rfl)
    | trace_state
theorem cdo_4in (nd sb ok ol ov : Int) (i : Nat) (h : i < x.frames.length) : FunOK Tryz.prog 55 [.agg [.d (.row (R coreD x.cores)), .d (.row (R entD x.home)), .d (.row (framesD x.frames))], .agg [I 4, I nd, I i, I sb, I ok, I ol, I ov]] (hOf []) (doV (⟨x.cores, x.home, sendB x.frames (x.frames.getD i [])⟩, [], 0)) (hOf []) := by
  have hT : twiceF (framesR (framesD x.frames)) i = (sendB x.frames (x.frames.getD i []), 0) := by rw [framesR_rows]; exact twiceF_in h
  have hx : ¬ (((twiceF (framesR (framesD x.frames)) i).2 != 0) = true) := by rw [hT]; simp
  have hS := short_xi X
  refine fun_deep (pins := []) (l0 := []) (objs := []) (base := 0) (xx_ok tabCD_ok ksCD) mixed Tryz.func55 rfl (Nat.le_of_ble_eq_true rfl) rfl rfl ?_
  repeat' ((conv => whnf); first | exact trivial | (with_reducible refine ap_of ?_; kernel_rfl) | (with_reducible refine ds_of ?_; kernel_rfl) | (with_reducible refine eq_of ?_; kernel_rfl) | exact rfl | (intro h; exact absurd h (by decide)) | (intro h; exact absurd h hx) | intro _ | apply And.intro)
  all_goals first
    | rfl
    | exact ⟨x, n, L, V', rfl, rfl, rfl, X⟩
    | exact ⟨_, rfl, hS⟩
    | (rw [hT]; rfl)
    | trace_state
theorem cdo_3in (nd sb ok ol ov : Int) (i : Nat) (h : i < x.frames.length) : FunOK Tryz.prog 55 [.agg [.d (.row (R coreD x.cores)), .d (.row (R entD x.home)), .d (.row (framesD x.frames))], .agg [I 3, I nd, I i, I sb, I ok, I ol, I ov]] (hOf []) (doV (⟨x.cores, x.home, x.frames.eraseIdx i⟩, [], 0)) (hOf []) := by
  have hT : takeF (framesR (framesD x.frames)) i = (x.frames.eraseIdx i, x.frames.getD i [], 0) := by rw [framesR_rows]; exact takeF_in h
  have hx : ¬ (((takeF (framesR (framesD x.frames)) i).2.2 != 0) = true) := by rw [hT]; simp
  have hS := short_xi X
  refine fun_deep (pins := []) (l0 := []) (objs := []) (base := 0) (xx_ok tabCD_ok ksCD) mixed Tryz.func55 rfl (Nat.le_of_ble_eq_true rfl) rfl rfl ?_
  repeat' ((conv => whnf); first | exact trivial | (with_reducible refine ap_of ?_; kernel_rfl) | (with_reducible refine ds_of ?_; kernel_rfl) | (with_reducible refine eq_of ?_; kernel_rfl) | exact rfl | (intro h; exact absurd h (by decide)) | (intro h; exact absurd h hx) | intro _ | apply And.intro)
  all_goals first
    | rfl
    | exact ⟨x, n, L, V', rfl, rfl, rfl, X⟩
    | exact ⟨_, rfl, hS⟩
    | (rw [hT]; rfl)
    | trace_state
theorem cdo_spout (nd sn sb ok ol ov : Int) (h : ¬ (0 ≤ sn ∧ sn < x.frames.length)) : FunOK Tryz.prog 55 [.agg [.d (.row (R coreD x.cores)), .d (.row (R entD x.home)), .d (.row (framesD x.frames))], .agg [I 5, I nd, I sn, I sb, I ok, I ol, I ov]] (hOf []) (noC 5) (hOf []) := by
  have hS := short_xi X
  have hlen := framesD_len x.frames
  refine fun_deep (pins := []) (l0 := []) (objs := []) (base := 0) (xx_ok tabCD_ok ksCD) mixed Tryz.func55 rfl (Nat.le_of_ble_eq_true rfl) rfl rfl ?_
  by_cases h0 : sn < 0
  · have hx : ¬ ((decide (sn < 0) == false) = true) := by simp; omega
    repeat' ((conv => whnf); first | exact trivial | (with_reducible refine ap_of ?_; kernel_rfl) | (with_reducible refine ds_of ?_; kernel_rfl) | (with_reducible refine eq_of ?_; kernel_rfl) | exact rfl | (intro h; exact absurd h (by decide)) | (intro h; exact absurd h hx) | intro _ | apply And.intro)
    all_goals first
      | rfl
      | exact ⟨x, n, L, V', rfl, rfl, rfl, X⟩
      | (exfalso; simp_all; done)
      | (exfalso; simp_all; omega)
      | trace_state
  · have hx : ¬ ((decide (sn < 0) == false) = false) := by simp; omega
    have hx2 : ¬ (decide (sn ≥ ((framesD x.frames).length : Int)) = false) := by rw [hlen]; simp; omega
    repeat' ((conv => whnf); first | exact trivial | (with_reducible refine ap_of ?_; kernel_rfl) | (with_reducible refine ds_of ?_; kernel_rfl) | (with_reducible refine eq_of ?_; kernel_rfl) | exact rfl | (intro h; exact absurd h (by decide)) | (intro h; exact absurd h hx) | (intro h; exact absurd h hx2) | intro _ | apply And.intro)
    all_goals first
      | rfl
      | exact ⟨x, n, L, V', rfl, rfl, rfl, X⟩
      | (exfalso; simp_all; done)
      | (exfalso; simp_all; omega)
      | trace_state
theorem cdo_5in (nd sb ok ol ov : Int) (i : Nat) (h : i < x.frames.length) (hsb : sb < 9223372036854775808) (e : Int) (he : (parseF ⟨n, L⟩ (x.frames.getD i [])).2 = e) : FunOK Tryz.prog 55 [.agg [.d (.row (R coreD x.cores)), .d (.row (R entD x.home)), .d (.row (framesD x.frames))], .agg [I 5, I nd, I i, I sb, I ok, I ol, I ov]] (hOf []) (doV (if e ≠ 0 then (SChip.zero, [], 6) else if sb < 0 ∨ 8 * ((x.frames.getD i []).length : Int) ≤ sb then (SChip.zero, [], 3) else (⟨x.cores, x.home, x.frames.set i (turnF (x.frames.getD i []) sb)⟩, [], 0))) (hOf []) := by
  have hS := short_xi X
  have hfl := X.fl
  have hb := frame_bytes X (getD_mem h)
  have hbs : ∀ f ∈ x.frames, isBytes f := fun f hf => (frame_bytes X hf).1
  have hnc : (R coreD x.cores).length = n := by rw [R_len, X.nc]
  have hnh : (R entD x.home).length = L := by rw [R_len, X.nh]
  have hlen := framesD_len x.frames
  have hg : (framesD x.frames).getD i [] = [.row (rowB (x.frames.getD i []))] := framesD_get h
  have hx : ¬ ((decide ((i : Int) < 0) == false) = false) := by simp
  have hx2 : ¬ (decide ((i : Int) ≥ ((framesD x.frames).length : Int)) = true) := by rw [hlen]; simp; omega
  have hsp : spoilF x.frames i sb = if 0 ≤ sb ∧ sb < 8 * ((x.frames.getD i []).length : Int) then (x.frames.set i (turnF (x.frames.getD i []) sb), 0) else ([], 3) := by
    unfold spoilF
    rw [if_pos ⟨Int.natCast_nonneg _, by omega⟩, Int.toNat_natCast]
  refine fun_deep (pins := []) (l0 := []) (objs := []) (base := 0) (xx_ok tabCD_ok ksCD) mixed Tryz.func55 rfl (Nat.le_of_ble_eq_true rfl) rfl rfl ?_
  repeat' ((conv => whnf); first | exact trivial | (with_reducible refine ap_of ?_; kernel_rfl) | (with_reducible refine ds_of ?_; kernel_rfl) | (with_reducible refine eq_of ?_; kernel_rfl) | exact rfl | (intro h; exact absurd h (by decide)) | (intro h; exact absurd h hx) | (intro h; exact absurd h hx2) | intro _ | apply And.intro)
  all_goals clear hx hx2
  all_goals first
    | rfl
    | exact ⟨x, n, L, V', rfl, rfl, rfl, X⟩
    | exact Int.natCast_nonneg _
    | (rw [hlen]; omega)
    | (rw [hlen, Int.toNat_natCast]; exact h)
    | exact ⟨_, rfl, hS, hbs, hsb⟩
    | skip
  all_goals try simp only [Int.toNat_natCast, hg, hnc, hnh, framesR_rows, List.getD_cons_zero, toR_row, bytesR_rows, he] at *
  all_goals first
    | rfl
    | exact ⟨_, rfl, hb.1⟩
    | exact Nat.le_refl _
    | (rw [if_pos (by simp_all)]; rfl)
    | skip
  all_goals try rw [hsp] at *
  all_goals
    have he0 : ¬ e ≠ 0 := by simp_all
    by_cases hr : 0 ≤ sb ∧ sb < 8 * ((x.frames.getD i []).length : Int)
  all_goals try rw [if_pos hr] at *
  all_goals try rw [if_neg hr] at *
  all_goals first
    | (exfalso; simp_all; done)
    | (rw [if_neg he0, if_neg (show ¬ (sb < 0 ∨ 8 * ((x.frames.getD i []).length : Int) ≤ sb) by omega)]; rfl)
    | (rw [if_neg he0, if_pos (show (sb < 0 ∨ 8 * ((x.frames.getD i []).length : Int) ≤ sb) by omega)]; rfl)
    | trace_state
theorem cdo_2bad (nd sb ok ol ov : Int) (i : Nat) (h : i < x.frames.length) (he : (parseF ⟨n, L⟩ (x.frames.getD i [])).2 ≠ 0) : FunOK Tryz.prog 55 [.agg [.d (.row (R coreD x.cores)), .d (.row (R entD x.home)), .d (.row (framesD x.frames))], .agg [I 2, I nd, I i, I sb, I ok, I ol, I ov]] (hOf []) (doV (⟨x.cores, x.home, x.frames.eraseIdx i⟩, [], 0)) (hOf []) := by
  have hT : takeF (framesR (framesD x.frames)) i = (x.frames.eraseIdx i, x.frames.getD i [], 0) := by rw [framesR_rows]; exact takeF_in h
  have hx : ¬ (((takeF (framesR (framesD x.frames)) i).2.2 != 0) = true) := by rw [hT]; simp
  have hS := short_xi X
  have hb := frame_bytes X (getD_mem h)
  have hnc : (R coreD x.cores).length = n := by rw [R_len, X.nc]
  have hnh : (R entD x.home).length = L := by rw [R_len, X.nh]
  have hx2 : ¬ (((parseF ⟨((R coreD x.cores).length : Int), ((R entD x.home).length : Int)⟩ (bytesR (rowB (takeF (framesR (framesD x.frames)) i).2.1))).2 == 0) = true) := by
    rw [hT, bytesR_rows, hnc, hnh]
    simpa using he
  refine fun_deep (pins := []) (l0 := []) (objs := []) (base := 0) (xx_ok tabCD_ok ksCD) mixed Tryz.func55 rfl (Nat.le_of_ble_eq_true rfl) rfl rfl ?_
  repeat' ((conv => whnf); first | exact trivial | (with_reducible refine ap_of ?_; kernel_rfl) | (with_reducible refine ds_of ?_; kernel_rfl) | (with_reducible refine eq_of ?_; kernel_rfl) | exact rfl | (intro h; exact absurd h (by decide)) | (intro h; exact absurd h hx) | (intro h; exact absurd h hx2) | intro _ | apply And.intro)
  all_goals first
    | rfl
    | exact ⟨x, n, L, V', rfl, rfl, rfl, X⟩
    | exact ⟨_, rfl, hS⟩
    | (rw [hT]; exact ⟨_, rfl, hb.1⟩)
    | (rw [hT]; rfl)
    | trace_state
end
end Go.Proofs.YtpgeopefamomnaeGreat

namespace Go.Proofs.YtpgeopefamomnaeGreat
open Go.RowKit
set_option linter.unusedVariables false
set_option linter.unusedSimpArgs false
set_option maxRecDepth 100000
theorem htimer_said {n L : Nat} {x : SChip} {V' : Nat → Int} (X : XI n L x V') : ∀ m ∈ homeTimerFrom n 0 x.home, wrongF ⟨n, L⟩ m = 0 := by
  intro m hm
  obtain ⟨j, hj, hy⟩ := mem_homeTimer hm
  have hh := X.nh
  rw [Nat.zero_add] at hy
  exact says_said X (by omega) m hy
theorem htimer_len (id : Int) : ∀ (l : List SEntry) (i : Nat), (homeTimerFrom id i l).length ≤ 4 * l.length
  | [], i => by simp [homeTimerFrom]
  | e :: r, i => by
    have h := says_len e i id
    have h2 := htimer_len id r (i + 1)
    simp only [homeTimerFrom, List.length_append, List.length_cons]
    omega
section
variable {n L : Nat} {x : SChip} {V' : Nat → Int} (X : XI n L x V')
include X
set_option maxHeartbeats 4000000
theorem cdo_6lo (nd sn sb ok ol ov : Int) (h : nd < 0) : FunOK Tryz.prog 55 [.agg [.d (.row (R coreD x.cores)), .d (.row (R entD x.home)), .d (.row (framesD x.frames))], .agg [I 6, I nd, I sn, I sb, I ok, I ol, I ov]] (hOf []) (noC 5) (hOf []) := by
  refine fun_deep (pins := []) (l0 := []) (objs := []) (base := 0) (xx_ok tabCD_ok ksCD) mixed Tryz.func55 rfl (Nat.le_of_ble_eq_true rfl) rfl rfl ?_
  have hx : ¬ ((decide (nd ≥ 0) == true) = true) := by simp; omega
  have hx2 : ¬ ((nd == ((R coreD x.cores).length : Int)) = true) := by simp; omega
  repeat' ((conv => whnf); first | exact trivial | (with_reducible refine ap_of ?_; kernel_rfl) | (with_reducible refine ds_of ?_; kernel_rfl) | (with_reducible refine eq_of ?_; kernel_rfl) | exact rfl | (intro h; exact absurd h (by decide)) | (intro h; exact absurd h hx) | (intro h; exact absurd h hx2) | intro _ | apply And.intro)
  all_goals first | exact ⟨x, n, L, V', rfl, rfl, rfl, X⟩ | rfl | (exfalso; simp_all; done) | (exfalso; simp_all; omega) | trace_state
theorem cdo_6hi (nd sn sb ok ol ov : Int) (h0 : 0 ≤ nd) (h : (x.cores.length : Int) < nd) : FunOK Tryz.prog 55 [.agg [.d (.row (R coreD x.cores)), .d (.row (R entD x.home)), .d (.row (framesD x.frames))], .agg [I 6, I nd, I sn, I sb, I ok, I ol, I ov]] (hOf []) (noC 5) (hOf []) := by
  refine fun_deep (pins := []) (l0 := []) (objs := []) (base := 0) (xx_ok tabCD_ok ksCD) mixed Tryz.func55 rfl (Nat.le_of_ble_eq_true rfl) rfl rfl ?_
  have hlen : (R coreD x.cores).length = x.cores.length := R_len _ _
  have hx : ¬ ((decide (nd ≥ 0) == true) = false) := by simp; omega
  have hx2 : ¬ ((nd == ((R coreD x.cores).length : Int)) = true) := by rw [hlen]; simp; omega
  have hx3 : ¬ (decide (nd < ((R coreD x.cores).length : Int)) = true) := by rw [hlen]; simp; omega
  repeat' ((conv => whnf); first | exact trivial | (with_reducible refine ap_of ?_; kernel_rfl) | (with_reducible refine ds_of ?_; kernel_rfl) | (with_reducible refine eq_of ?_; kernel_rfl) | exact rfl | (intro h; exact absurd h (by decide)) | (intro h; exact absurd h hx) | (intro h; exact absurd h hx2) | (intro h; exact absurd h hx3) | intro _ | apply And.intro)
  all_goals first | exact ⟨x, n, L, V', rfl, rfl, rfl, X⟩ | rfl | (exfalso; simp_all; done) | (exfalso; simp_all; omega) | trace_state
theorem cdo_6core (p : Nat) (hp : p < n) (sn sb ok ol ov : Int) (r : List Msg) (hr : timerF (x.core p) p n = r) : FunOK Tryz.prog 55 [.agg [.d (.row (R coreD x.cores)), .d (.row (R entD x.home)), .d (.row (framesD x.frames))], .agg [I 6, I p, I sn, I sb, I ok, I ol, I ov]] (hOf []) (doV (⟨x.cores, x.home, wayF x.frames r⟩, [], 0)) (hOf []) := by
  refine fun_deep (pins := []) (l0 := []) (objs := []) (base := 0) (xx_ok tabCD_ok ksCD) mixed Tryz.func55 rfl (Nat.le_of_ble_eq_true rfl) rfl rfl ?_
  have hfit := fit_all X.n4 X.l4 (timer_said X hp)
  have hbl := timer_len p n (x.core p).lines 0
  change (timerF (x.core p) p n).length ≤ _ at hbl
  rw [hr] at hfit hbl
  have hnl := X.nl p hp
  have hl4 := X.l4
  have hn4 := X.n4
  have hnc := X.nc
  have hpc : p < x.cores.length := by omega
  have hlen : (R coreD x.cores).length = n := by rw [R_len, hnc]
  have hlen2 : p < (R coreD x.cores).length := by omega
  have hleni : (p : Int) < ((R coreD x.cores).length : Int) := by omega
  have hg0 : (R coreD x.cores).getD p [] = coreD (x.core p) := R_get coreD SCore.zero hpc
  have hg : (R coreD x.cores).getD p [] = [.row (rowsL (x.core p).lines), J (x.core p).wait.kind, J (x.core p).wait.line, J (x.core p).wait.value] := hg0
  have hx1 : ¬ ((decide ((p : Int) ≥ 0) == true) = false) := by simp
  have hx2 : ¬ (decide ((p : Int) < ((R coreD x.cores).length : Int)) = false) := by simp; omega
  have hone : ∀ u ∈ R coreD x.cores, u.length = 4 := R_one (f := coreD) (fun _ => rfl) _
  have tnc : ((p : Nat) : Int).toNat = p := Int.toNat_natCast p
  repeat' ((conv => whnf); first | exact trivial | (with_reducible refine ap_of ?_; kernel_rfl) | (with_reducible refine ds_of ?_; kernel_rfl) | (with_reducible refine eq_of ?_; kernel_rfl) | exact rfl | (intro h; exact absurd h (by decide)) | (intro h; exact absurd h hx1) | (intro h; exact absurd h hx2) | intro _ | apply And.intro)
  all_goals first
    | exact ⟨x, n, L, V', rfl, rfl, rfl, X⟩
    | exact Int.natCast_nonneg _
    | exact hleni
    | exact hlen2
    | exact hone _ (by assumption)
    | rfl
    | (rw [tnc, hg]; first | rfl | exact Nat.le_refl _)
    | skip
  all_goals simp only [tnc, hg, List.getD_cons_zero, List.getD_cons_succ, DV.toI, Nat.zero_add, toR_row, linesR_rows, hlen] at *
  all_goals clear hx1 hx2 hone tnc
  all_goals try rw [show timerF ⟨(x.core p).lines, ⟨(x.core p).wait.kind, (x.core p).wait.line, (x.core p).wait.value⟩⟩ p n = r from hr] at *
  all_goals first
    | (exfalso; simp_all; done)
    | (exfalso; simp_all; omega)
    | exact ⟨_, rfl, by omega⟩
    | exact ⟨_, rfl, short_xi X, X.fl⟩
    | exact ⟨_, rfl, hfit, by omega⟩
    | (rw [framesR_rows, msgsR_rows]
       rfl)
    | trace_state
theorem cdo_6home (sn sb ok ol ov : Int) (r : List Msg) (hr : homeTimerFrom n 0 x.home = r) : FunOK Tryz.prog 55 [.agg [.d (.row (R coreD x.cores)), .d (.row (R entD x.home)), .d (.row (framesD x.frames))], .agg [I 6, I n, I sn, I sb, I ok, I ol, I ov]] (hOf []) (doV (⟨x.cores, x.home, wayF x.frames r⟩, [], 0)) (hOf []) := by
  refine fun_deep (pins := []) (l0 := []) (objs := []) (base := 0) (xx_ok tabCD_ok ksCD) mixed Tryz.func55 rfl (Nat.le_of_ble_eq_true rfl) rfl rfl ?_
  have hfit := fit_all X.n4 X.l4 (htimer_said X)
  have hbl := htimer_len n x.home 0
  rw [hr] at hfit hbl
  have hl4 := X.l4
  have hn4 := X.n4
  have hnc := X.nc
  have hnh := X.nh
  have H := homes_xi X
  have hlen : (R coreD x.cores).length = n := by rw [R_len, hnc]
  have hph : ∀ e ∈ x.home, (0 ≤ e.need ∧ e.need < 16) ∧ 0 ≤ e.phase ∧ e.phase ≤ 3 := by
    intro e he
    obtain ⟨j, hj, rfl⟩ := List.getElem_of_mem he
    have h := (X.ci j (by omega)).ph
    have e1 : x.entry j = x.home[j] := by simp [SChip.entry, List.getD, hj]
    rw [e1] at h
    exact ⟨(H.2 _ he).nd, h⟩
  have hx1 : ¬ ((decide ((n : Int) ≥ 0) == true) = false) := by simp
  have hx2 : ¬ (decide ((n : Int) < ((R coreD x.cores).length : Int)) = true) := by simp; omega
  have hx3 : ¬ (((n : Int) == ((R coreD x.cores).length : Int)) = false) := by rw [hlen]; simp
  repeat' ((conv => whnf); first | exact trivial | (with_reducible refine ap_of ?_; kernel_rfl) | (with_reducible refine ds_of ?_; kernel_rfl) | (with_reducible refine eq_of ?_; kernel_rfl) | exact rfl | (intro h; exact absurd h (by decide)) | (intro h; exact absurd h hx1) | (intro h; exact absurd h hx2) | (intro h; exact absurd h hx3) | intro _ | apply And.intro)
  all_goals clear hx1 hx2 hx3
  all_goals first
    | exact ⟨x, n, L, V', rfl, rfl, rfl, X⟩
    | exact ⟨_, rfl, H.1, H.la, hph⟩
    | rfl
    | skip
  all_goals try simp only [homeR_rows, hr] at *
  all_goals first
    | exact ⟨_, rfl, short_xi X, X.fl⟩
    | exact ⟨_, rfl, hfit, by omega⟩
    | (rw [framesR_rows, msgsR_rows]
       rfl)
    | (exfalso; simp_all; done)
    | trace_state
end
theorem cdo_6 {n L : Nat} {x : SChip} {V' : Nat → Int} (X : XI n L x V') (s : SStep) (hs : s.kind = 6) : FunOK Tryz.prog 55 [.agg (chipC x), .agg (stepC s)] (hOf []) (doV (doF x s)) (hOf []) := by
  obtain ⟨k, nd, sn, sb, ok, ol, ov⟩ := s
  simp only at hs
  subst hs
  have hnc := X.nc
  unfold doF
  rw [if_neg (by show ¬ ((6 : Int) = 1); decide), if_pos rfl]
  by_cases h0 : nd < 0
  · rw [if_pos (.inl h0)]
    exact cdo_6lo X nd sn sb ok ol ov h0
  by_cases h1 : (x.cores.length : Int) < nd
  · rw [if_pos (.inr h1)]
    exact cdo_6hi X nd sn sb ok ol ov (by omega) h1
  rw [if_neg (by show ¬ (nd < 0 ∨ (x.cores.length : Int) < nd); omega)]
  obtain ⟨p, rfl⟩ := Int.eq_ofNat_of_zero_le (show 0 ≤ nd by omega)
  rw [hnc]
  by_cases h2 : p < n
  · rw [if_pos (by show (p : Int) < n; omega)]
    exact cdo_6core X p h2 sn sb ok ol ov _ rfl
  · rw [if_neg (by show ¬ (p : Int) < n; omega)]
    have e : p = n := by omega
    subst e
    exact cdo_6home X sn sb ok ol ov _ rfl
end Go.Proofs.YtpgeopefamomnaeGreat

namespace Go.Proofs.YtpgeopefamomnaeGreat
open Go.RowKit
set_option linter.unusedVariables false
set_option linter.unusedSimpArgs false
set_option maxRecDepth 100000
theorem short_erase {fs : List (List Nat)} (h : Short fs) {i : Nat} : Short (fs.eraseIdx i) := ⟨by have h1 := h.1; have h2 := List.length_eraseIdx_le fs i; omega, fun f hf => h.2 f (List.mem_of_mem_eraseIdx hf)⟩
section
variable {n L : Nat} {x : SChip} {V' : Nat → Int} (X : XI n L x V')
include X
set_option maxHeartbeats 4000000
set_option maxHeartbeats 4000000 in
theorem cdo_2home (nd sb ok ol ov : Int) (i : Nat) (h : i < x.frames.length) (m : Msg) (hm : parseF ⟨n, L⟩ (x.frames.getD i []) = (m, 0)) (ht : m.to = n) (r : List SEntry × List Msg) (hr : homeHearF x.home n m = r) (hfit : ∀ k, k < r.2.length → Fit (r.2.getD k msg0)) (hrl : r.2.length ≤ 1000) (hq : ∃ l, R entD x.home = R entD l ∧ l.length ≤ 1000 ∧ (∀ e ∈ l, e.last.length ≤ 1000) ∧ (0 ≤ m.line → m.line < l.length → HomeOK (l.getD m.line.toNat SEntry.zero))) : FunOK Tryz.prog 55 [.agg [.d (.row (R coreD x.cores)), .d (.row (R entD x.home)), .d (.row (framesD x.frames))], .agg [I 2, I nd, I i, I sb, I ok, I ol, I ov]] (hOf []) (doV (⟨x.cores, r.1, wayF (x.frames.eraseIdx i) r.2⟩, [], 0)) (hOf []) := by
  have hT : takeF (framesR (framesD x.frames)) i = (x.frames.eraseIdx i, x.frames.getD i [], 0) := by rw [framesR_rows]; exact takeF_in h
  have hx : ¬ (((takeF (framesR (framesD x.frames)) i).2.2 != 0) = true) := by rw [hT]; simp
  have hfl := X.fl
  have hb := frame_bytes X (getD_mem h)
  have hnc : (R coreD x.cores).length = n := by rw [R_len, X.nc]
  have hnh : (R entD x.home).length = L := by rw [R_len, X.nh]
  have hP : parseF ⟨((R coreD x.cores).length : Int), ((R entD x.home).length : Int)⟩ (bytesR (rowB (takeF (framesR (framesD x.frames)) i).2.1)) = (m, 0) := by
    rw [hT, bytesR_rows, hnc, hnh]
    exact hm
  have hx2 : ¬ (((parseF ⟨((R coreD x.cores).length : Int), ((R entD x.home).length : Int)⟩ (bytesR (rowB (takeF (framesR (framesD x.frames)) i).2.1))).2 == 0) = false) := by
    rw [hP]
    simp
  have hx3 : ¬ (((parseF ⟨((R coreD x.cores).length : Int), ((R entD x.home).length : Int)⟩ (bytesR (rowB (takeF (framesR (framesD x.frames)) i).2.1))).1.to == ((R coreD x.cores).length : Int)) = false) := by
    rw [hP, hnc]
    simpa using ht
  have hr2 : homeHearF x.home m.to m = r := by rw [ht]; exact hr
  refine fun_deep (pins := []) (l0 := []) (objs := []) (base := 0) (xx_ok tabCD_ok ksCD) mixed Tryz.func55 rfl (Nat.le_of_ble_eq_true rfl) rfl rfl ?_
  repeat' ((conv => whnf); first | exact trivial | (with_reducible refine ap_of ?_; kernel_rfl) | (with_reducible refine ds_of ?_; kernel_rfl) | (with_reducible refine eq_of ?_; kernel_rfl) | exact rfl | (intro h; exact absurd h (by decide)) | (intro h; exact absurd h hx) | (intro h; exact absurd h hx2) | (intro h; exact absurd h hx3) | intro _ | apply And.intro)
  all_goals clear hx hx2 hx3
  all_goals try rw [hP] at *
  all_goals try rw [hT] at *
  all_goals first
    | rfl
    | exact ⟨x, n, L, V', rfl, rfl, rfl, X⟩
    | exact ⟨_, rfl, short_xi X⟩
    | exact ⟨_, rfl, hb.1⟩
    | exact hq
    | skip
  all_goals simp only [homeR_rows, hnc, framesR_rows, msgsR_rows] at *
  all_goals try rw [show homeHearF x.home m.to ⟨m.kind, m.frm, m.to, m.line, m.serial, m.turn, m.value, m.alone⟩ = r from hr2] at *
  all_goals first
    | rfl
    | exact ⟨_, rfl, short_erase (short_xi X), len_erase hfl⟩
    | exact ⟨_, rfl, hfit, hrl⟩
    | trace_state
set_option maxHeartbeats 4000000 in
theorem cdo_2core (nd sb ok ol ov : Int) (i : Nat) (h : i < x.frames.length) (m : Msg) (hm : parseF ⟨n, L⟩ (x.frames.getD i []) = (m, 0)) (p : Nat) (hp : p < n) (ht : m.to = p) (r : SCore × List Msg × List SDone) (hr : hearF (x.core p) p n m = r) (hfit : ∀ k, k < r.2.1.length → Fit (r.2.1.getD k msg0)) (hrl : r.2.1.length ≤ 1000) (hq : ∃ ls, rowsL (x.core p).lines = rowsL ls ∧ ls.length < 1000 ∧ (0 ≤ m.line → m.line < ls.length → ((ls.getD m.line.toNat SLine.zero).want ≠ 0 → (1 ≤ (x.core p).wait.kind ∧ (x.core p).wait.kind ≤ 4) ∧ (0 ≤ (x.core p).wait.line ∧ (x.core p).wait.line < 1000) ∧ 0 ≤ (x.core p).wait.value ∧ (x.core p).wait.value ≤ 255) ∧ 0 ≤ (ls.getD m.line.toNat SLine.zero).gave)) : FunOK Tryz.prog 55 [.agg [.d (.row (R coreD x.cores)), .d (.row (R entD x.home)), .d (.row (framesD x.frames))], .agg [I 2, I nd, I i, I sb, I ok, I ol, I ov]] (hOf []) (doV (⟨x.cores.set p r.1, x.home, wayF (x.frames.eraseIdx i) r.2.1⟩, r.2.2, 0)) (hOf []) := by
  obtain ⟨mk, mf, mt, ml, ms, mu, mv, ma⟩ := m
  simp only at ht hq
  subst ht
  have hT : takeF (framesR (framesD x.frames)) i = (x.frames.eraseIdx i, x.frames.getD i [], 0) := by rw [framesR_rows]; exact takeF_in h
  have hx : ¬ (((takeF (framesR (framesD x.frames)) i).2.2 != 0) = true) := by rw [hT]; simp
  have hfl := X.fl
  have hb := frame_bytes X (getD_mem h)
  have hxc := X.nc
  have hn4 := X.n4
  have hnc : (R coreD x.cores).length = n := by rw [R_len, X.nc]
  have hnh : (R entD x.home).length = L := by rw [R_len, X.nh]
  have hP : parseF ⟨((R coreD x.cores).length : Int), ((R entD x.home).length : Int)⟩ (bytesR (rowB (takeF (framesR (framesD x.frames)) i).2.1)) = (⟨mk, mf, (p : Int), ml, ms, mu, mv, ma⟩, 0) := by
    rw [hT, bytesR_rows, hnc, hnh]
    exact hm
  have hx2 : ¬ (((parseF ⟨((R coreD x.cores).length : Int), ((R entD x.home).length : Int)⟩ (bytesR (rowB (takeF (framesR (framesD x.frames)) i).2.1))).2 == 0) = false) := by
    rw [hP]
    simp
  have hx3 : ¬ (((parseF ⟨((R coreD x.cores).length : Int), ((R entD x.home).length : Int)⟩ (bytesR (rowB (takeF (framesR (framesD x.frames)) i).2.1))).1.to == ((R coreD x.cores).length : Int)) = true) := by
    rw [hP, hnc]
    show ¬ (((p : Int) == (n : Int)) = true)
    simp
    omega
  have hpc : p < x.cores.length := by omega
  have hlen2 : p < (R coreD x.cores).length := by omega
  have hleni : (p : Int) < ((R coreD x.cores).length : Int) := by omega
  have hg0 : (R coreD x.cores).getD p [] = coreD (x.core p) := R_get coreD SCore.zero hpc
  have hg : (R coreD x.cores).getD p [] = [.row (rowsL (x.core p).lines), J (x.core p).wait.kind, J (x.core p).wait.line, J (x.core p).wait.value] := hg0
  have hone : ∀ u ∈ R coreD x.cores, u.length = 4 := R_one (f := coreD) (fun _ => rfl) _
  have tnc : ((p : Nat) : Int).toNat = p := Int.toNat_natCast p
  refine fun_deep (pins := []) (l0 := []) (objs := []) (base := 0) (xx_ok tabCD_ok ksCD) mixed Tryz.func55 rfl (Nat.le_of_ble_eq_true rfl) rfl rfl ?_
  repeat' ((conv => whnf); first | exact trivial | (with_reducible refine ap_of ?_; kernel_rfl) | (with_reducible refine ds_of ?_; kernel_rfl) | (with_reducible refine eq_of ?_; kernel_rfl) | exact rfl | (intro h; exact absurd h (by decide)) | (intro h; exact absurd h hx) | (intro h; exact absurd h hx2) | (intro h; exact absurd h hx3) | intro _ | apply And.intro)
  all_goals clear hx hx2 hx3
  all_goals try rw [hP] at *
  all_goals try rw [hT] at *
  all_goals first
    | rfl
    | exact Int.natCast_nonneg _
    | exact hleni
    | exact hlen2
    | exact hone _ (by assumption)
    | exact ⟨x, n, L, V', rfl, rfl, rfl, X⟩
    | exact ⟨_, rfl, short_xi X⟩
    | exact ⟨_, rfl, hb.1⟩
    | (rw [tnc, hg]; first | rfl | exact Nat.le_refl _ | exact hq)
    | skip
  all_goals simp only [tnc, hg, List.getD_cons_zero, List.getD_cons_succ, DV.toI, Nat.zero_add, toR_row, linesR_rows, hnc, framesR_rows, msgsR_rows] at *
  all_goals try rw [show hearF ⟨(x.core p).lines, ⟨(x.core p).wait.kind, (x.core p).wait.line, (x.core p).wait.value⟩⟩ p n ⟨mk, mf, p, ml, ms, mu, mv, ma⟩ = r from hr] at *
  all_goals first
    | rfl
    | exact hq
    | exact ⟨_, rfl, short_erase (short_xi X), len_erase hfl⟩
    | exact ⟨_, rfl, hfit, hrl⟩
    | (show AV.tup [.agg [.d (.row ((R coreD x.cores).set p (coreD r.1))), .d (.row (R entD x.home)), .d (.row (framesD (wayF (x.frames.eraseIdx i) r.2.1)))], Ro (R dnD r.2.2), V 0] = _
       rw [R_set]
       rfl)
    | trace_state
end
theorem cdo_ok {n L : Nat} {x : SChip} {V' : Nat → Int} (X : XI n L x V') (s : SStep) (hsb : s.bit < 9223372036854775808) : FunOK Tryz.prog 55 [.agg (chipC x), .agg (stepC s)] (hOf []) (doV (doF x s)) (hOf []) := by
  by_cases k1 : s.kind = 1
  · exact cdo_1 X s k1
  by_cases k6 : s.kind = 6
  · exact cdo_6 X s k6
  have hcfg := cfg_eq X
  have hnc := X.nc
  unfold doF
  rw [if_neg k1, if_neg k6]
  obtain ⟨kd, nd, sn, sb, ok, ol, ov⟩ := s
  simp only at k1 k6 hsb ⊢
  by_cases kk : kd < 2 ∨ 5 < kd
  · rw [if_pos kk]
    exact cdo_kind X kd nd sn sb ok ol ov ⟨k1, by omega, by omega, by omega, by omega, k6⟩
  rw [if_neg kk]
  by_cases hn : sn < 0 ∨ (x.frames.length : Int) ≤ sn
  · rw [if_pos hn]
    by_cases k4 : kd = 4
    · subst k4
      exact cdo_twout X nd sn sb ok ol ov (by omega)
    by_cases k5 : kd = 5
    · subst k5
      exact cdo_spout X nd sn sb ok ol ov (by omega)
    exact cdo_4out X kd nd sn sb ok ol ov (by omega) (by omega)
  rw [if_neg hn]
  obtain ⟨i, rfl⟩ := Int.eq_ofNat_of_zero_le (show 0 ≤ sn by omega)
  have hi : i < x.frames.length := by omega
  simp only [Int.ofNat_eq_natCast, Int.toNat_natCast]
  by_cases k4 : kd = 4
  · rw [if_pos k4]
    subst k4
    exact cdo_4in X nd sb ok ol ov i hi
  rw [if_neg k4, hcfg]
  by_cases k5 : kd = 5
  · rw [if_pos k5]
    subst k5
    exact cdo_5in X nd sb ok ol ov i hi hsb _ rfl
  rw [if_neg k5]
  by_cases k3 : kd = 3
  · rw [if_pos k3]
    subst k3
    exact cdo_3in X nd sb ok ol ov i hi
  rw [if_neg k3]
  have k2 : kd = 2 := by omega
  subst k2
  by_cases hp : (parseF ⟨n, L⟩ (x.frames.getD i [])).2 ≠ 0
  · rw [if_pos hp]
    exact cdo_2bad X nd sb ok ol ov i hi hp
  rw [if_neg hp]
  obtain ⟨m, hm⟩ : ∃ m, m = (parseF ⟨n, L⟩ (x.frames.getD i [])).1 := ⟨_, rfl⟩
  have hpm : parseF ⟨n, L⟩ (x.frames.getD i []) = (m, 0) := by
    have : (parseF ⟨n, L⟩ (x.frames.getD i [])).2 = 0 := by omega
    rw [hm, ← this]
  rw [← hm]
  have hw := parse_wrong hpm
  have ho := wrong_out hw
  simp only [] at ho
  have hmi := X.mi _ (getD_mem hi) m (by rw [hcfg]; exact hpm)
  have hl4 := X.l4
  have hnh := X.nh
  rw [hnc]
  by_cases hto : m.to = n
  · rw [if_pos hto]
    have hjL : m.line.toNat < L := by omega
    have hlast := (X.ci m.line.toNat hjL).nlen
    exact cdo_2home X nd sb ok ol ov i hi m hpm hto _ rfl (fit_all X.n4 X.l4 (home_said (p := m.frm.toNat) X (by omega) hw hmi (by omega))) (Nat.le_trans (home_len _ _ _) (by decide)) ⟨x.home, rfl, by omega, (homes_xi X).la, fun _ _ => home_ok2 X hjL⟩
  · rw [if_neg hto]
    obtain ⟨p, hp2⟩ : ∃ p : Nat, m.to = p := ⟨m.to.toNat, by omega⟩
    rw [hp2, Int.toNat_natCast]
    have hpn : p < n := by omega
    have hnl := X.nl p hpn
    exact cdo_2core X nd sb ok ol ov i hi m hpm p hpn hp2 _ rfl (fit_all X.n4 X.l4 (hear_said X hpn hw)) (Nat.le_trans hear_len (by decide)) ⟨_, rfl, by omega, fun _ _ => ⟨fun hz => by
      have WS := (X.wi p hpn).some m.line.toNat (by omega) hz
      have hb := (X.wi p hpn).busy (by omega)
      omega, (core_ok X hpn).gav _ (by omega)⟩⟩
end Go.Proofs.YtpgeopefamomnaeGreat

