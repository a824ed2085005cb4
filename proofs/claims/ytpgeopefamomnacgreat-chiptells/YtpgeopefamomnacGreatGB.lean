/- The developers' chip does a step: tables; a kind that there isn't; an operation that begins. -/
import Derived.Test.YtpgeopefamomnacGreatGA
set_option linter.unusedSimpArgs false
namespace Go.Proofs.YtpgeopefamomnacGreat
open Go.RowKit
set_option linter.unusedVariables false
set_option linter.unusedSimpArgs false
set_option maxRecDepth 100000

theorem cores_xi {n L : Nat} {x : SChip} {V : Nat → Int} (X : XI n L x V) : ∀ c ∈ x.cores, c.lines.length < 1000 := by
  intro c hc
  have hnc := X.nc
  obtain ⟨j, hj, rfl⟩ := List.getElem_of_mem hc
  have h := X.nl j (by omega)
  have hl := X.l4
  have e1 : x.core j = x.cores[j] := by simp [SChip.core, List.getD, hj]
  rw [e1] at h
  omega
theorem short_xi {n L : Nat} {x : SChip} {V : Nat → Int} (X : XI n L x V) : Short x.frames := ⟨Nat.le_trans X.fl (by decide), fun f hf => by rw [good_len (X.good f hf)]; decide⟩
def cownT (xs : List AV) (l0 : List (Nat × OS)) : Ans := match xs, l0 with
  | [.agg [.d (.row cr), .d (.row hr), .d (.row fr)]], [] => some (∃ x n L V, cr = R coreD x.cores ∧ hr = R entD x.home ∧ fr = framesD x.frames ∧ XI n L x V, .agg [.own 0, .d (.row hr), .d (.row fr)], [(0, .live (.row cr 4 57 false))])
  | _, _ => none
theorem cown_does : Does Tryz.prog 14 cownT := ⟨⟨_, Tryz.func14, by decide, rfl⟩, fun xs l0 p v objs h hp => by
  unfold cownT at h
  split at h
  · cases h
    obtain ⟨x, n, L, V, rfl, rfl, rfl, X⟩ := hp
    have H := homes_xi X
    exact cown_chip x.cores x.home x.frames (by have := X.nc; have := X.n4; omega) (cores_xi X) H.1 H.la (short_xi X)
  · cases h⟩
def cownT2 (xs : List AV) (l0 : List (Nat × OS)) : Ans := match xs, l0 with
  | [.agg [.d (.row cr), .d (.row hr), .d (.row fr)]], [] => some (∃ x n L V, cr = R coreD x.cores ∧ hr = R entD x.home ∧ fr = framesD x.frames ∧ XI n L x V, .agg [.d (.row cr), .d (.row hr), .d (.row fr)], [])
  | _, _ => none
theorem cown2_does : Does Tryz.prog 14 cownT2 := ⟨⟨_, Tryz.func14, by decide, rfl⟩, fun xs l0 p v objs h hp => by
  unfold cownT2 at h
  split at h
  · cases h
    obtain ⟨x, n, L, V, rfl, rfl, rfl, X⟩ := hp
    have H := homes_xi X
    exact cown2_chip x.cores x.home x.frames (by have := X.nc; have := X.n4; omega) (cores_xi X) H.1 H.la (short_xi X)
  · cases h⟩
def tabCD : Canon := orT 14 cownT (orT 62 sendAT (orT 60 beginT (orT 83 cHearT (orT 69 timerT (orT 82 hHearT (orT 70 hTimerT (orT 63 parseT (orT 66 ntakeT (orT 67 ntwiceT (orT 68 nspoilT tab0))))))))))
theorem tabCD_ok : Sound Tryz.prog tabCD := ((((((((((tab0_ok.or nspoil_does).or ntwice_does).or ntake_does).or fparse_does).or hTimer_does).or hHear_does).or cTimer_does).or cHear_does).or cBegin_does).or sendA_does).or cown_does
def ksCD : List FuncId := [14, 62, 60, 83, 69, 82, 70, 63, 66, 67, 68]
section
variable {n L : Nat} {x : SChip} {V' : Nat → Int} (X : XI n L x V')
include X
set_option maxHeartbeats 4000000
theorem cdo_kind (k nd sn sb ok ol ov : Int) (hk : k ≠ 1 ∧ k ≠ 2 ∧ k ≠ 3 ∧ k ≠ 4 ∧ k ≠ 5 ∧ k ≠ 6) : FunOK Tryz.prog 11 [.agg [.d (.row (R coreD x.cores)), .d (.row (R entD x.home)), .d (.row (framesD x.frames))], .agg [I k, I nd, I sn, I sb, I ok, I ol, I ov]] (hOf []) (noC 1) (hOf []) := by
  refine fun_deep (pins := []) (l0 := []) (objs := []) (base := 0) (xx_ok tabCD_ok ksCD) mixed Tryz.func11 rfl (Nat.le_of_ble_eq_true rfl) rfl rfl ?_
  obtain ⟨k1, k2, k3, k4, k5, k6⟩ := hk
  have h1 : ¬ ((k == 1) = true) := by simpa using k1
  have h2 : ¬ ((k == 2) = true) := by simpa using k2
  have h3 : ¬ ((k == 3) = true) := by simpa using k3
  have h4 : ¬ ((k == 4) = true) := by simpa using k4
  have h5 : ¬ ((k == 5) = true) := by simpa using k5
  have h6 : ¬ ((k == 6) = true) := by simpa using k6
  repeat' ((conv => whnf); first | exact trivial | (with_reducible refine ap_of ?_; kernel_rfl) | (with_reducible refine ds_of ?_; kernel_rfl) | (with_reducible refine eq_of ?_; kernel_rfl) | exact rfl | (intro h; exact absurd h (by decide)) | (intro h; exact absurd h h1) | (intro h; exact absurd h h2) | (intro h; exact absurd h h3) | (intro h; exact absurd h h4) | (intro h; exact absurd h h5) | (intro h; exact absurd h h6) | intro _ | apply And.intro)
  all_goals first | exact ⟨x, n, L, V', rfl, rfl, rfl, X⟩ | rfl | trace_state
theorem cdo_1lo (nd sn sb ok ol ov : Int) (h : nd < 0) : FunOK Tryz.prog 11 [.agg [.d (.row (R coreD x.cores)), .d (.row (R entD x.home)), .d (.row (framesD x.frames))], .agg [I 1, I nd, I sn, I sb, I ok, I ol, I ov]] (hOf []) (noC 5) (hOf []) := by
  refine fun_deep (pins := []) (l0 := []) (objs := []) (base := 0) (xx_ok tabCD_ok ksCD) mixed Tryz.func11 rfl (Nat.le_of_ble_eq_true rfl) rfl rfl ?_
  have hx : ¬ ((decide (nd ≥ 0) == true) = true) := by simp; omega
  repeat' ((conv => whnf); first | exact trivial | (with_reducible refine ap_of ?_; kernel_rfl) | (with_reducible refine ds_of ?_; kernel_rfl) | (with_reducible refine eq_of ?_; kernel_rfl) | exact rfl | (intro h; exact absurd h (by decide)) | (intro h; exact absurd h hx) | intro _ | apply And.intro)
  all_goals first | exact ⟨x, n, L, V', rfl, rfl, rfl, X⟩ | rfl | (exfalso; simp_all; done) | (exfalso; simp_all; omega) | trace_state
theorem cdo_1hi (nd sn sb ok ol ov : Int) (h0 : 0 ≤ nd) (h : (x.cores.length : Int) ≤ nd) : FunOK Tryz.prog 11 [.agg [.d (.row (R coreD x.cores)), .d (.row (R entD x.home)), .d (.row (framesD x.frames))], .agg [I 1, I nd, I sn, I sb, I ok, I ol, I ov]] (hOf []) (noC 5) (hOf []) := by
  refine fun_deep (pins := []) (l0 := []) (objs := []) (base := 0) (xx_ok tabCD_ok ksCD) mixed Tryz.func11 rfl (Nat.le_of_ble_eq_true rfl) rfl rfl ?_
  have hlen : (R coreD x.cores).length = x.cores.length := R_len _ _
  have hx : ¬ ((decide (nd ≥ 0) == true) = false) := by simp; omega
  have hx2 : ¬ ((!decide (nd < ((R coreD x.cores).length : Int))) = false) := by rw [hlen]; simp; omega
  repeat' ((conv => whnf); first | exact trivial | (with_reducible refine ap_of ?_; kernel_rfl) | (with_reducible refine ds_of ?_; kernel_rfl) | (with_reducible refine eq_of ?_; kernel_rfl) | exact rfl | (intro h; exact absurd h (by decide)) | (intro h; exact absurd h hx) | (intro h; exact absurd h hx2) | intro _ | apply And.intro)
  all_goals first | exact ⟨x, n, L, V', rfl, rfl, rfl, X⟩ | rfl | (exfalso; simp_all; done) | (exfalso; simp_all; omega) | trace_state
theorem cdo_1in (p : Nat) (hp : p < n) (sn sb ok ol ov : Int) (r : SCore × List Msg × List SDone × Int) (hr : beginF (x.core p) p n ⟨ok, ol, ov⟩ = r) : FunOK Tryz.prog 11 [.agg [.d (.row (R coreD x.cores)), .d (.row (R entD x.home)), .d (.row (framesD x.frames))], .agg [I 1, I p, I sn, I sb, I ok, I ol, I ov]] (hOf []) (doV (if r.2.2.2 ≠ 0 then (SChip.zero, [], r.2.2.2) else (⟨x.cores.set p r.1, x.home, wayF x.frames r.2.1⟩, r.2.2.1, 0))) (hOf []) := by
  refine fun_deep (pins := []) (l0 := []) (objs := []) (base := 0) (xx_ok tabCD_ok ksCD) mixed Tryz.func11 rfl (Nat.le_of_ble_eq_true rfl) rfl rfl ?_
  have hfit := fit_all X.n4 X.l4 (begin_said X hp (o := ⟨ok, ol, ov⟩))
  have hbl := begin_len (x := x) (n := n) (p := p) (o := ⟨ok, ol, ov⟩)
  rw [hr] at hfit hbl
  have hn4 := X.n4
  have hnc := X.nc
  have hpc : p < x.cores.length := by omega
  have hlen : (R coreD x.cores).length = n := by rw [R_len, hnc]
  have hlen2 : p < (R coreD x.cores).length := by omega
  have hleni : (p : Int) < ((R coreD x.cores).length : Int) := by omega
  have hg0 : (R coreD x.cores).getD p [] = coreD (x.core p) := R_get coreD SCore.zero hpc
  have hg : (R coreD x.cores).getD p [] = [.row (rowsL (x.core p).lines), J (x.core p).wait.kind, J (x.core p).wait.line, J (x.core p).wait.value] := hg0
  have hx1 : ¬ ((decide ((p : Int) ≥ 0) == true) = false) := by simp
  have hx2 : ¬ ((!decide ((p : Int) < ((R coreD x.cores).length : Int))) = true) := by simp; omega
  have hone : ∀ u ∈ R coreD x.cores, u.length = 4 := R_one (f := coreD) (fun _ => rfl) _
  have tnc : ((p : Nat) : Int).toNat = p := Int.toNat_natCast p
  repeat' ((conv => whnf); first | exact trivial | (with_reducible refine ap_of ?_; kernel_rfl) | (with_reducible refine ds_of ?_; kernel_rfl) | (with_reducible refine eq_of ?_; kernel_rfl) | exact rfl | (intro h; exact absurd h (by decide)) | (intro h; exact absurd h hx1) | (intro h; exact absurd h hx2) | intro _ | apply And.intro)
  all_goals first
    | exact ⟨x, n, L, V', rfl, rfl, rfl, X⟩
    | exact Int.natCast_nonneg _
    | exact hleni
    | exact hlen2
    | exact hone _ (by assumption)
    | rfl
    | (rw [tnc, hg]; first | rfl | exact Nat.le_refl _)
    | skip
  all_goals simp only [tnc, hg, List.getD_cons_zero, List.getD_cons_succ, DV.toI, Nat.zero_add, toR_row, linesR_rows, hlen] at *
  all_goals clear hx1 hx2 hone tnc
  all_goals try rw [show beginF ⟨(x.core p).lines, ⟨(x.core p).wait.kind, (x.core p).wait.line, (x.core p).wait.value⟩⟩ p n ⟨ok, ol, ov⟩ = r from hr] at *
  all_goals first
    | (exfalso; simp_all; done)
    | (exfalso; simp_all; omega)
    | exact ⟨_, rfl, by have := X.nl p hp; have := X.l4; omega, fun i hi => by
        have hiL : i < L := by have := X.nl p hp; omega
        have h := (X.ci i hiL).sr p hp
        have h2 : (x.core p).lines.getD i SLine.zero = lineAt x i p := rfl
        rw [h2]
        omega⟩
    | exact ⟨_, rfl, short_xi X, X.fl⟩
    | exact ⟨_, rfl, hfit, by omega⟩
    | (rw [if_pos (by simpa using ‹(r.2.2.2 != 0) = true›)]
       rfl)
    | (rw [if_neg (by simpa using ‹(r.2.2.2 != 0) = false›), framesR_rows, msgsR_rows]
       show AV.tup [.agg [.d (.row ((R coreD x.cores).set p (coreD r.1))), .d (.row (R entD x.home)), .d (.row (framesD (wayF x.frames r.2.1)))], Ro (R dnD r.2.2.1), V 0] = _
       rw [R_set]
       rfl)
    | trace_state
end
theorem cdo_1 {n L : Nat} {x : SChip} {V' : Nat → Int} (X : XI n L x V') (s : SStep) (hs : s.kind = 1) : FunOK Tryz.prog 11 [.agg (chipC x), .agg (stepC s)] (hOf []) (doV (doF x s)) (hOf []) := by
  obtain ⟨k, nd, sn, sb, ok, ol, ov⟩ := s
  simp only at hs
  subst hs
  have hnc := X.nc
  unfold doF
  rw [if_pos rfl]
  by_cases h0 : nd < 0
  · rw [if_pos (.inl h0)]
    exact cdo_1lo X nd sn sb ok ol ov h0
  by_cases h1 : (x.cores.length : Int) ≤ nd
  · rw [if_pos (.inr h1)]
    exact cdo_1hi X nd sn sb ok ol ov (by omega) h1
  rw [if_neg (by show ¬ (nd < 0 ∨ (x.cores.length : Int) ≤ nd); omega)]
  obtain ⟨p, rfl⟩ := Int.eq_ofNat_of_zero_le (show 0 ≤ nd by omega)
  rw [hnc]
  exact cdo_1in X p (by omega) sn sb ok ol ov _ rfl
end Go.Proofs.YtpgeopefamomnacGreat

/- The developers' chip does a step: a timer. -/
namespace Go.Proofs.YtpgeopefamomnacGreat
open Go.RowKit
set_option linter.unusedVariables false
set_option linter.unusedSimpArgs false
set_option maxRecDepth 100000

theorem fit_of_all {n L : Nat} {M : List Msg} (hn : n ≤ 4) (hL : L ≤ 4) (h : ∀ m ∈ M, wrongF ⟨n, L⟩ m = 0) : ∀ k, k < M.length → Fit (M.getD k msg0) := fit_all hn hL h
theorem htimer_said {n L : Nat} {x : SChip} {V' : Nat → Int} (X : XI n L x V') : ∀ m ∈ homeTimerFrom n 0 x.home, wrongF ⟨n, L⟩ m = 0 := by
  intro m hm
  obtain ⟨j, hj, hy⟩ := mem_homeTimer hm
  have hh := X.nh
  rw [Nat.zero_add] at hy
  exact says_said X (by omega) m hy
theorem htimer_len (id : Int) : ∀ (l : List SEntry) (i : Nat), (homeTimerFrom id i l).length ≤ 4 * l.length
  | [], i => by simp [homeTimerFrom]
  | e :: r, i => by
    have h := says_len e i id
    have h2 := htimer_len id r (i + 1)
    simp only [homeTimerFrom, List.length_append, List.length_cons]
    omega
section
variable {n L : Nat} {x : SChip} {V' : Nat → Int} (X : XI n L x V')
include X
set_option maxHeartbeats 4000000
theorem cdo_6lo (nd sn sb ok ol ov : Int) (h : nd < 0) : FunOK Tryz.prog 11 [.agg [.d (.row (R coreD x.cores)), .d (.row (R entD x.home)), .d (.row (framesD x.frames))], .agg [I 6, I nd, I sn, I sb, I ok, I ol, I ov]] (hOf []) (noC 5) (hOf []) := by
  refine fun_deep (pins := []) (l0 := []) (objs := []) (base := 0) (xx_ok tabCD_ok ksCD) mixed Tryz.func11 rfl (Nat.le_of_ble_eq_true rfl) rfl rfl ?_
  have hx : ¬ ((decide (nd ≥ 0) == true) = true) := by simp; omega
  have hx2 : ¬ ((nd == ((R coreD x.cores).length : Int)) = true) := by simp; omega
  repeat' ((conv => whnf); first | exact trivial | (with_reducible refine ap_of ?_; kernel_rfl) | (with_reducible refine ds_of ?_; kernel_rfl) | (with_reducible refine eq_of ?_; kernel_rfl) | exact rfl | (intro h; exact absurd h (by decide)) | (intro h; exact absurd h hx) | (intro h; exact absurd h hx2) | intro _ | apply And.intro)
  all_goals first | exact ⟨x, n, L, V', rfl, rfl, rfl, X⟩ | rfl | (exfalso; simp_all; done) | (exfalso; simp_all; omega) | trace_state
theorem cdo_6hi (nd sn sb ok ol ov : Int) (h0 : 0 ≤ nd) (h : (x.cores.length : Int) < nd) : FunOK Tryz.prog 11 [.agg [.d (.row (R coreD x.cores)), .d (.row (R entD x.home)), .d (.row (framesD x.frames))], .agg [I 6, I nd, I sn, I sb, I ok, I ol, I ov]] (hOf []) (noC 5) (hOf []) := by
  refine fun_deep (pins := []) (l0 := []) (objs := []) (base := 0) (xx_ok tabCD_ok ksCD) mixed Tryz.func11 rfl (Nat.le_of_ble_eq_true rfl) rfl rfl ?_
  have hlen : (R coreD x.cores).length = x.cores.length := R_len _ _
  have hx : ¬ ((decide (nd ≥ 0) == true) = false) := by simp; omega
  have hx2 : ¬ ((nd == ((R coreD x.cores).length : Int)) = true) := by rw [hlen]; simp; omega
  have hx3 : ¬ (decide (nd < ((R coreD x.cores).length : Int)) = true) := by rw [hlen]; simp; omega
  repeat' ((conv => whnf); first | exact trivial | (with_reducible refine ap_of ?_; kernel_rfl) | (with_reducible refine ds_of ?_; kernel_rfl) | (with_reducible refine eq_of ?_; kernel_rfl) | exact rfl | (intro h; exact absurd h (by decide)) | (intro h; exact absurd h hx) | (intro h; exact absurd h hx2) | (intro h; exact absurd h hx3) | intro _ | apply And.intro)
  all_goals first | exact ⟨x, n, L, V', rfl, rfl, rfl, X⟩ | rfl | (exfalso; simp_all; done) | (exfalso; simp_all; omega) | trace_state
theorem cdo_6core (p : Nat) (hp : p < n) (sn sb ok ol ov : Int) (r : List Msg) (hr : timerF (x.core p) p n = r) : FunOK Tryz.prog 11 [.agg [.d (.row (R coreD x.cores)), .d (.row (R entD x.home)), .d (.row (framesD x.frames))], .agg [I 6, I p, I sn, I sb, I ok, I ol, I ov]] (hOf []) (doV (⟨x.cores, x.home, wayF x.frames r⟩, [], 0)) (hOf []) := by
  refine fun_deep (pins := []) (l0 := []) (objs := []) (base := 0) (xx_ok tabCD_ok ksCD) mixed Tryz.func11 rfl (Nat.le_of_ble_eq_true rfl) rfl rfl ?_
  have hfit := fit_all X.n4 X.l4 (timer_said X hp)
  have hbl := timer_len p n (x.core p).lines 0
  change (timerF (x.core p) p n).length ≤ _ at hbl
  rw [hr] at hfit hbl
  have hnl := X.nl p hp
  have hl4 := X.l4
  have hn4 := X.n4
  have hnc := X.nc
  have hpc : p < x.cores.length := by omega
  have hlen : (R coreD x.cores).length = n := by rw [R_len, hnc]
  have hlen2 : p < (R coreD x.cores).length := by omega
  have hleni : (p : Int) < ((R coreD x.cores).length : Int) := by omega
  have hg0 : (R coreD x.cores).getD p [] = coreD (x.core p) := R_get coreD SCore.zero hpc
  have hg : (R coreD x.cores).getD p [] = [.row (rowsL (x.core p).lines), J (x.core p).wait.kind, J (x.core p).wait.line, J (x.core p).wait.value] := hg0
  have hx1 : ¬ ((decide ((p : Int) ≥ 0) == true) = false) := by simp
  have hx2 : ¬ (decide ((p : Int) < ((R coreD x.cores).length : Int)) = false) := by simp; omega
  have hone : ∀ u ∈ R coreD x.cores, u.length = 4 := R_one (f := coreD) (fun _ => rfl) _
  have tnc : ((p : Nat) : Int).toNat = p := Int.toNat_natCast p
  repeat' ((conv => whnf); first | exact trivial | (with_reducible refine ap_of ?_; kernel_rfl) | (with_reducible refine ds_of ?_; kernel_rfl) | (with_reducible refine eq_of ?_; kernel_rfl) | exact rfl | (intro h; exact absurd h (by decide)) | (intro h; exact absurd h hx1) | (intro h; exact absurd h hx2) | intro _ | apply And.intro)
  all_goals first
    | exact ⟨x, n, L, V', rfl, rfl, rfl, X⟩
    | exact Int.natCast_nonneg _
    | exact hleni
    | exact hlen2
    | exact hone _ (by assumption)
    | rfl
    | (rw [tnc, hg]; first | rfl | exact Nat.le_refl _)
    | skip
  all_goals simp only [tnc, hg, List.getD_cons_zero, List.getD_cons_succ, DV.toI, Nat.zero_add, toR_row, linesR_rows, hlen] at *
  all_goals clear hx1 hx2 hone tnc
  all_goals try rw [show timerF ⟨(x.core p).lines, ⟨(x.core p).wait.kind, (x.core p).wait.line, (x.core p).wait.value⟩⟩ p n = r from hr] at *
  all_goals first
    | (exfalso; simp_all; done)
    | (exfalso; simp_all; omega)
    | exact ⟨_, rfl, by omega⟩
    | exact ⟨_, rfl, short_xi X, X.fl⟩
    | exact ⟨_, rfl, hfit, by omega⟩
    | (rw [framesR_rows, msgsR_rows]
       rfl)
    | trace_state
theorem cdo_6home (sn sb ok ol ov : Int) (r : List Msg) (hr : homeTimerFrom n 0 x.home = r) : FunOK Tryz.prog 11 [.agg [.d (.row (R coreD x.cores)), .d (.row (R entD x.home)), .d (.row (framesD x.frames))], .agg [I 6, I n, I sn, I sb, I ok, I ol, I ov]] (hOf []) (doV (⟨x.cores, x.home, wayF x.frames r⟩, [], 0)) (hOf []) := by
  refine fun_deep (pins := []) (l0 := []) (objs := []) (base := 0) (xx_ok tabCD_ok ksCD) mixed Tryz.func11 rfl (Nat.le_of_ble_eq_true rfl) rfl rfl ?_
  have hfit := fit_all X.n4 X.l4 (htimer_said X)
  have hbl := htimer_len n x.home 0
  rw [hr] at hfit hbl
  have hl4 := X.l4
  have hn4 := X.n4
  have hnc := X.nc
  have hnh := X.nh
  have H := homes_xi X
  have hlen : (R coreD x.cores).length = n := by rw [R_len, hnc]
  have hph : ∀ e ∈ x.home, (0 ≤ e.need ∧ e.need < 16) ∧ 0 ≤ e.phase ∧ e.phase ≤ 3 := by
    intro e he
    obtain ⟨j, hj, rfl⟩ := List.getElem_of_mem he
    have h := (X.ci j (by omega)).ph
    have e1 : x.entry j = x.home[j] := by simp [SChip.entry, List.getD, hj]
    rw [e1] at h
    exact ⟨(H.2 _ he).nd, h⟩
  have hx1 : ¬ ((decide ((n : Int) ≥ 0) == true) = false) := by simp
  have hx2 : ¬ (decide ((n : Int) < ((R coreD x.cores).length : Int)) = true) := by simp; omega
  have hx3 : ¬ (((n : Int) == ((R coreD x.cores).length : Int)) = false) := by rw [hlen]; simp
  repeat' ((conv => whnf); first | exact trivial | (with_reducible refine ap_of ?_; kernel_rfl) | (with_reducible refine ds_of ?_; kernel_rfl) | (with_reducible refine eq_of ?_; kernel_rfl) | exact rfl | (intro h; exact absurd h (by decide)) | (intro h; exact absurd h hx1) | (intro h; exact absurd h hx2) | (intro h; exact absurd h hx3) | intro _ | apply And.intro)
  all_goals clear hx1 hx2 hx3
  all_goals first
    | exact ⟨x, n, L, V', rfl, rfl, rfl, X⟩
    | exact ⟨_, rfl, H.1, H.la, hph⟩
    | rfl
    | skip
  all_goals try simp only [homeR_rows, hr] at *
  all_goals first
    | exact ⟨_, rfl, short_xi X, X.fl⟩
    | exact ⟨_, rfl, hfit, by omega⟩
    | (rw [framesR_rows, msgsR_rows]
       rfl)
    | (exfalso; simp_all; done)
    | trace_state
end
theorem cdo_6 {n L : Nat} {x : SChip} {V' : Nat → Int} (X : XI n L x V') (s : SStep) (hs : s.kind = 6) : FunOK Tryz.prog 11 [.agg (chipC x), .agg (stepC s)] (hOf []) (doV (doF x s)) (hOf []) := by
  obtain ⟨k, nd, sn, sb, ok, ol, ov⟩ := s
  simp only at hs
  subst hs
  have hnc := X.nc
  unfold doF
  rw [if_neg (by show ¬ ((6 : Int) = 1); decide), if_pos rfl]
  by_cases h0 : nd < 0
  · rw [if_pos (.inl h0)]
    exact cdo_6lo X nd sn sb ok ol ov h0
  by_cases h1 : (x.cores.length : Int) < nd
  · rw [if_pos (.inr h1)]
    exact cdo_6hi X nd sn sb ok ol ov (by omega) h1
  rw [if_neg (by show ¬ (nd < 0 ∨ (x.cores.length : Int) < nd); omega)]
  obtain ⟨p, rfl⟩ := Int.eq_ofNat_of_zero_le (show 0 ≤ nd by omega)
  rw [hnc]
  by_cases h2 : p < n
  · rw [if_pos (by show (p : Int) < n; omega)]
    exact cdo_6core X p h2 sn sb ok ol ov _ rfl
  · rw [if_neg (by show ¬ (p : Int) < n; omega)]
    have e : p = n := by omega
    subst e
    exact cdo_6home X sn sb ok ol ov _ rfl
end Go.Proofs.YtpgeopefamomnacGreat
