/- DDo4 DDo2 DDo DBuild BTabs. -/
import Derived.Test.YtpgeopefamomnaeGreatRR
import Derived.Test.YtpgeopefamomnaeGreatPG
set_option linter.unusedSimpArgs false
set_option linter.unusedSectionVars false
namespace Go.Proofs.YtpgeopefamomnaeGreat
open Go.RowKit
set_option linter.unusedVariables false
set_option maxRecDepth 100000
theorem takeF_in {fs : List (List Nat)} {i : Nat} (h : i < fs.length) : takeF fs i = (fs.eraseIdx i, fs.getD i [], 0) := by
  unfold takeF
  rw [if_pos ⟨Int.natCast_nonneg _, by omega⟩, Int.toNat_natCast]
section
variable {n L : Nat} {x : SChip} {V' : Nat → Int} (X : XI n L x V')
include X
set_option maxHeartbeats 4000000
theorem rdo_4out (k nd sn sb ok ol ov : Int) (hk : k = 2 ∨ k = 3 ∨ k = 4 ∨ k = 5) (h : ¬ (0 ≤ sn ∧ sn < x.frames.length)) : FunOK Tryz.prog 21 [.agg [.d (.row (R coreD x.cores)), .d (.row (R entD x.home)), .d (.row (framesD x.frames))], .agg [I k, I nd, I sn, I sb, I ok, I ol, I ov]] (hOf []) (noC 5) (hOf []) := by
  have hT : takeF (framesR (framesD x.frames)) sn = ([], [], 5) := by rw [framesR_rows]; exact if_neg h
  have hx : ¬ (((takeF (framesR (framesD x.frames)) sn).2.2 != 0) = false) := by rw [hT]; simp
  have hfl := X.fl
  rcases hk with rfl | rfl | rfl | rfl
  all_goals
    refine fun_deep (pins := []) (l0 := []) (objs := []) (base := 0) (xx_ok tabDo_ok ksDo) mixed Tryz.func21 rfl (Nat.le_of_ble_eq_true rfl) rfl rfl ?_
    repeat' ((conv => whnf); first | exact trivial | (with_reducible refine ap_of ?_; kernel_rfl) | (with_reducible refine ds_of ?_; kernel_rfl) | (with_reducible refine eq_of ?_; kernel_rfl) | exact rfl | (intro h; exact absurd h (by decide)) | (intro h; exact absurd h hx) | intro _ | apply And.intro)
    all_goals first
      | rfl
      | exact ⟨_, rfl, by omega⟩
      | (rw [hT]; rfl)
      | trace_state
theorem rdo_4in (nd sb ok ol ov : Int) (i : Nat) (h : i < x.frames.length) : FunOK Tryz.prog 21 [.agg [.d (.row (R coreD x.cores)), .d (.row (R entD x.home)), .d (.row (framesD x.frames))], .agg [I 4, I nd, I i, I sb, I ok, I ol, I ov]] (hOf []) (doV (⟨x.cores, x.home, sendB x.frames (x.frames.getD i [])⟩, [], 0)) (hOf []) := by
  have hT : takeF (framesR (framesD x.frames)) i = (x.frames.eraseIdx i, x.frames.getD i [], 0) := by rw [framesR_rows]; exact takeF_in h
  have hx : ¬ (((takeF (framesR (framesD x.frames)) i).2.2 != 0) = true) := by rw [hT]; simp
  have hfl := X.fl
  refine fun_deep (pins := []) (l0 := []) (objs := []) (base := 0) (xx_ok tabDo_ok ksDo) mixed Tryz.func21 rfl (Nat.le_of_ble_eq_true rfl) rfl rfl ?_
  repeat' ((conv => whnf); first | exact trivial | (with_reducible refine ap_of ?_; kernel_rfl) | (with_reducible refine ds_of ?_; kernel_rfl) | (with_reducible refine eq_of ?_; kernel_rfl) | exact rfl | (intro h; exact absurd h (by decide)) | (intro h; exact absurd h hx) | intro _ | apply And.intro)
  all_goals first
    | rfl
    | exact ⟨_, rfl, by omega⟩
    | (rw [framesD_len]; omega)
    | exact R_one (f := frameD) (fun _ => rfl) _ _ (by assumption)
    | (rw [hT, sendB_row]; rfl)
    | trace_state
theorem rdo_3in (nd sb ok ol ov : Int) (i : Nat) (h : i < x.frames.length) : FunOK Tryz.prog 21 [.agg [.d (.row (R coreD x.cores)), .d (.row (R entD x.home)), .d (.row (framesD x.frames))], .agg [I 3, I nd, I i, I sb, I ok, I ol, I ov]] (hOf []) (doV (⟨x.cores, x.home, x.frames.eraseIdx i⟩, [], 0)) (hOf []) := by
  have hT : takeF (framesR (framesD x.frames)) i = (x.frames.eraseIdx i, x.frames.getD i [], 0) := by rw [framesR_rows]; exact takeF_in h
  have hx : ¬ (((takeF (framesR (framesD x.frames)) i).2.2 != 0) = true) := by rw [hT]; simp
  have hfl := X.fl
  refine fun_deep (pins := []) (l0 := []) (objs := []) (base := 0) (xx_ok tabDo_ok ksDo) mixed Tryz.func21 rfl (Nat.le_of_ble_eq_true rfl) rfl rfl ?_
  repeat' ((conv => whnf); first | exact trivial | (with_reducible refine ap_of ?_; kernel_rfl) | (with_reducible refine ds_of ?_; kernel_rfl) | (with_reducible refine eq_of ?_; kernel_rfl) | exact rfl | (intro h; exact absurd h (by decide)) | (intro h; exact absurd h hx) | intro _ | apply And.intro)
  all_goals first
    | rfl
    | exact ⟨_, rfl, by omega⟩
    | (rw [hT]; rfl)
    | trace_state
theorem rdo_5in (nd sb ok ol ov : Int) (i : Nat) (h : i < x.frames.length) (e : Int) (he : (parseF ⟨n, L⟩ (x.frames.getD i [])).2 = e) : FunOK Tryz.prog 21 [.agg [.d (.row (R coreD x.cores)), .d (.row (R entD x.home)), .d (.row (framesD x.frames))], .agg [I 5, I nd, I i, I sb, I ok, I ol, I ov]] (hOf []) (doV (if e ≠ 0 then (SChip.zero, [], 6) else if sb < 0 ∨ 8 * ((x.frames.getD i []).length : Int) ≤ sb then (SChip.zero, [], 3) else (⟨x.cores, x.home, x.frames.set i (turnF (x.frames.getD i []) sb)⟩, [], 0))) (hOf []) := by
  have hT : takeF (framesR (framesD x.frames)) i = (x.frames.eraseIdx i, x.frames.getD i [], 0) := by rw [framesR_rows]; exact takeF_in h
  have hx : ¬ (((takeF (framesR (framesD x.frames)) i).2.2 != 0) = true) := by rw [hT]; simp
  have hfl := X.fl
  have hb := frame_bytes X (getD_mem h)
  have hnc : (R coreD x.cores).length = n := by rw [R_len, X.nc]
  have hnh : (R entD x.home).length = L := by rw [R_len, X.nh]
  have hfi : (framesD x.frames).length = x.frames.length := framesD_len _
  have hone : ∀ u ∈ framesD x.frames, u.length = 1 := R_one (f := frameD) (fun _ => rfl) _
  refine fun_deep (pins := []) (l0 := []) (objs := []) (base := 0) (xx_ok tabDo_ok ksDo) mixed Tryz.func21 rfl (Nat.le_of_ble_eq_true rfl) rfl rfl ?_
  repeat' ((conv => whnf); first | exact trivial | (with_reducible refine ap_of ?_; kernel_rfl) | (with_reducible refine ds_of ?_; kernel_rfl) | (with_reducible refine eq_of ?_; kernel_rfl) | exact rfl | (intro h; exact absurd h (by decide)) | (intro h; exact absurd h hx) | intro _ | apply And.intro)
  all_goals try rw [hT] at *
  all_goals simp only [bytesR_rows, hnc, hnh, he, rowB_len, hb.2, hfi] at *
  all_goals try simp only [show IntKind.i64.wrap (8 * ((12 : Nat) : Int)) = 96 from rfl] at *
  all_goals first
    | rfl
    | assumption
    | exact Int.natCast_nonneg _
    | exact ⟨_, rfl, by omega⟩
    | exact ⟨_, rfl, hb.1⟩
    | (simp; omega)
    | exact ⟨_, rfl, hb.1, by rw [(frame_bytes X (getD_mem h)).2]; decide, by simpa using ‹(decide (sb < 0) == false) = true›, Int.lt_trans (show sb < 96 by simpa using ‹decide (sb ≥ 96) = false›) (by decide)⟩
    | exact hone _ (by assumption)
    | (rw [show ∀ k : Row, (List.replicate 0 [DV.row []] ++ k) = k from fun _ => rfl, framesD_len]; omega)
    | (rw [show ∀ k : Row, (List.replicate 0 [DV.row []] ++ k) = k from fun _ => rfl, framesD_len, Int.toNat_natCast]; exact h)
    | (exact Nat.le_refl _)
    | (rw [if_pos (by simp_all)]; rfl)
    | (rw [if_neg (by simp_all), if_pos (by simp_all; omega)]; rfl)
    | (rw [if_neg (by simp_all), if_pos (by simp_all)]; rfl)
    | (have s0 : 0 ≤ sb := by simpa using ‹(decide (sb < 0) == false) = true›
       have s1 : sb < 96 := by simpa using ‹decide (sb ≥ 96) = false›
       rw [if_neg (by simp_all), if_neg (by omega)]
       show AV.tup [AV.agg [.d (.row (R coreD x.cores)), .d (.row (R entD x.home)), .d (.row ((R frameD x.frames).set ((i : Nat) : Int).toNat (frameD (turnF (x.frames.getD i []) sb))))], Ro [], V 0] = _
       rw [Int.toNat_natCast, R_set]
       rfl)
    | trace_state
theorem rdo_2bad (nd sb ok ol ov : Int) (i : Nat) (h : i < x.frames.length) (he : (parseF ⟨n, L⟩ (x.frames.getD i [])).2 ≠ 0) : FunOK Tryz.prog 21 [.agg [.d (.row (R coreD x.cores)), .d (.row (R entD x.home)), .d (.row (framesD x.frames))], .agg [I 2, I nd, I i, I sb, I ok, I ol, I ov]] (hOf []) (doV (⟨x.cores, x.home, x.frames.eraseIdx i⟩, [], 0)) (hOf []) := by
  have hT : takeF (framesR (framesD x.frames)) i = (x.frames.eraseIdx i, x.frames.getD i [], 0) := by rw [framesR_rows]; exact takeF_in h
  have hx : ¬ (((takeF (framesR (framesD x.frames)) i).2.2 != 0) = true) := by rw [hT]; simp
  have hfl := X.fl
  have hb := frame_bytes X (getD_mem h)
  have hnc : (R coreD x.cores).length = n := by rw [R_len, X.nc]
  have hnh : (R entD x.home).length = L := by rw [R_len, X.nh]
  have hx2 : ¬ (((parseF ⟨((R coreD x.cores).length : Int), ((R entD x.home).length : Int)⟩ (bytesR (rowB (takeF (framesR (framesD x.frames)) i).2.1))).2 != 0) = false) := by
    rw [hT, bytesR_rows, hnc, hnh]
    simpa using he
  refine fun_deep (pins := []) (l0 := []) (objs := []) (base := 0) (xx_ok tabDo_ok ksDo) mixed Tryz.func21 rfl (Nat.le_of_ble_eq_true rfl) rfl rfl ?_
  repeat' ((conv => whnf); first | exact trivial | (with_reducible refine ap_of ?_; kernel_rfl) | (with_reducible refine ds_of ?_; kernel_rfl) | (with_reducible refine eq_of ?_; kernel_rfl) | exact rfl | (intro h; exact absurd h (by decide)) | (intro h; exact absurd h hx) | (intro h; exact absurd h hx2) | intro _ | apply And.intro)
  all_goals first
    | rfl
    | exact ⟨_, rfl, by omega⟩
    | (rw [hT]; exact ⟨_, rfl, hb.1⟩)
    | (rw [hT]; rfl)
    | trace_state
end
end Go.Proofs.YtpgeopefamomnaeGreat

namespace Go.Proofs.YtpgeopefamomnaeGreat
open Go.RowKit
set_option linter.unusedVariables false
set_option maxRecDepth 100000
section
variable {n L : Nat} {x : SChip} {V' : Nat → Int} (X : XI n L x V')
include X
set_option maxHeartbeats 4000000
theorem rdo_2home (nd sb ok ol ov : Int) (i : Nat) (h : i < x.frames.length) (m : Msg) (hm : parseF ⟨n, L⟩ (x.frames.getD i []) = (m, 0)) (ht : m.to = n) (r : List SEntry × List Msg) (hr : homeHearF x.home n m = r) (hfit : ∀ k, k < r.2.length → Fit (r.2.getD k msg0)) (hrl : r.2.length ≤ 1000) (hq : ∃ l, R entD x.home = R entD l ∧ l.length ≤ 1000 ∧ 0 ≤ m.line ∧ m.line < l.length ∧ 0 ≤ m.frm ∧ m.frm < (l.getD m.line.toNat SEntry.zero).last.length ∧ HomeOK (l.getD m.line.toNat SEntry.zero)) : FunOK Tryz.prog 21 [.agg [.d (.row (R coreD x.cores)), .d (.row (R entD x.home)), .d (.row (framesD x.frames))], .agg [I 2, I nd, I i, I sb, I ok, I ol, I ov]] (hOf []) (doV (⟨x.cores, r.1, wayF (x.frames.eraseIdx i) r.2⟩, [], 0)) (hOf []) := by
  have hT : takeF (framesR (framesD x.frames)) i = (x.frames.eraseIdx i, x.frames.getD i [], 0) := by rw [framesR_rows]; exact takeF_in h
  have hx : ¬ (((takeF (framesR (framesD x.frames)) i).2.2 != 0) = true) := by rw [hT]; simp
  have hfl := X.fl
  have hb := frame_bytes X (getD_mem h)
  have hnc : (R coreD x.cores).length = n := by rw [R_len, X.nc]
  have hnh : (R entD x.home).length = L := by rw [R_len, X.nh]
  have hP : parseF ⟨((R coreD x.cores).length : Int), ((R entD x.home).length : Int)⟩ (bytesR (rowB (takeF (framesR (framesD x.frames)) i).2.1)) = (m, 0) := by
    rw [hT, bytesR_rows, hnc, hnh]
    exact hm
  have hx2 : ¬ (((parseF ⟨((R coreD x.cores).length : Int), ((R entD x.home).length : Int)⟩ (bytesR (rowB (takeF (framesR (framesD x.frames)) i).2.1))).2 != 0) = true) := by
    rw [hP]
    simp
  have hx3 : ¬ (((parseF ⟨((R coreD x.cores).length : Int), ((R entD x.home).length : Int)⟩ (bytesR (rowB (takeF (framesR (framesD x.frames)) i).2.1))).1.to == ((R coreD x.cores).length : Int)) = false) := by
    rw [hP, hnc]
    simpa using ht
  refine fun_deep (pins := []) (l0 := []) (objs := []) (base := 0) (xx_ok tabDo_ok ksDo) mixed Tryz.func21 rfl (Nat.le_of_ble_eq_true rfl) rfl rfl ?_
  repeat' ((conv => whnf); first | exact trivial | (with_reducible refine ap_of ?_; kernel_rfl) | (with_reducible refine ds_of ?_; kernel_rfl) | (with_reducible refine eq_of ?_; kernel_rfl) | exact rfl | (intro h; exact absurd h (by decide)) | (intro h; exact absurd h hx) | (intro h; exact absurd h hx2) | (intro h; exact absurd h hx3) | intro _ | apply And.intro)
  all_goals clear hx hx2 hx3
  all_goals try rw [hP] at *
  all_goals try rw [hT] at *
  all_goals first
    | rfl
    | exact ⟨_, rfl, by omega⟩
    | exact ⟨_, rfl, hb.1⟩
    | exact hq
    | skip
  all_goals simp only [homeR_rows, hnc, framesR_rows, msgsR_rows] at *
  all_goals try rw [show homeHearF x.home n ⟨m.kind, m.frm, m.to, m.line, m.serial, m.turn, m.value, m.alone⟩ = r from hr] at *
  all_goals first
    | rfl
    | exact ⟨_, _, rfl, rfl, hfit, Nat.le_trans (len_erase hfl) (by decide), hrl⟩
    | trace_state
theorem rdo_2core (nd sb ok ol ov : Int) (i : Nat) (h : i < x.frames.length) (m : Msg) (hm : parseF ⟨n, L⟩ (x.frames.getD i []) = (m, 0)) (p : Nat) (hp : p < n) (ht : m.to = p) (r : SCore × List Msg × List SDone) (hr : hearF (x.core p) p n m = r) (hfit : ∀ k, k < r.2.1.length → Fit (r.2.1.getD k msg0)) (hrl : r.2.1.length ≤ 1000) (hq : ∃ ls, rowsL (x.core p).lines = rowsL ls ∧ ls.length < 1000 ∧ 0 ≤ m.line ∧ m.line < ls.length ∧ ((ls.getD m.line.toNat SLine.zero).want ≠ 0 → (1 ≤ (x.core p).wait.kind ∧ (x.core p).wait.kind ≤ 4) ∧ (0 ≤ (x.core p).wait.line ∧ (x.core p).wait.line < 1000) ∧ 0 ≤ (x.core p).wait.value ∧ (x.core p).wait.value ≤ 255)) : FunOK Tryz.prog 21 [.agg [.d (.row (R coreD x.cores)), .d (.row (R entD x.home)), .d (.row (framesD x.frames))], .agg [I 2, I nd, I i, I sb, I ok, I ol, I ov]] (hOf []) (doV (⟨x.cores.set p r.1, x.home, wayF (x.frames.eraseIdx i) r.2.1⟩, r.2.2, 0)) (hOf []) := by
  obtain ⟨mk, mf, mt, ml, ms, mu, mv, ma⟩ := m
  simp only at ht hq
  subst ht
  have hT : takeF (framesR (framesD x.frames)) i = (x.frames.eraseIdx i, x.frames.getD i [], 0) := by rw [framesR_rows]; exact takeF_in h
  have hx : ¬ (((takeF (framesR (framesD x.frames)) i).2.2 != 0) = true) := by rw [hT]; simp
  have hfl := X.fl
  have hb := frame_bytes X (getD_mem h)
  have hxc := X.nc
  have hn4 := X.n4
  have hnc : (R coreD x.cores).length = n := by rw [R_len, X.nc]
  have hnh : (R entD x.home).length = L := by rw [R_len, X.nh]
  have hP : parseF ⟨((R coreD x.cores).length : Int), ((R entD x.home).length : Int)⟩ (bytesR (rowB (takeF (framesR (framesD x.frames)) i).2.1)) = (⟨mk, mf, (p : Int), ml, ms, mu, mv, ma⟩, 0) := by
    rw [hT, bytesR_rows, hnc, hnh]
    exact hm
  have hx2 : ¬ (((parseF ⟨((R coreD x.cores).length : Int), ((R entD x.home).length : Int)⟩ (bytesR (rowB (takeF (framesR (framesD x.frames)) i).2.1))).2 != 0) = true) := by
    rw [hP]
    simp
  have hx3 : ¬ (((parseF ⟨((R coreD x.cores).length : Int), ((R entD x.home).length : Int)⟩ (bytesR (rowB (takeF (framesR (framesD x.frames)) i).2.1))).1.to == ((R coreD x.cores).length : Int)) = true) := by
    rw [hP, hnc]
    show ¬ (((p : Int) == (n : Int)) = true)
    simp
    omega
  have hpc : p < x.cores.length := by omega
  have hlen2 : p < (R coreD x.cores).length := by omega
  have hleni : (p : Int) < ((R coreD x.cores).length : Int) := by omega
  have hg0 : (R coreD x.cores).getD p [] = coreD (x.core p) := R_get coreD SCore.zero hpc
  have hg : (R coreD x.cores).getD p [] = [.row (rowsL (x.core p).lines), J (x.core p).wait.kind, J (x.core p).wait.line, J (x.core p).wait.value] := hg0
  have hone : ∀ u ∈ R coreD x.cores, u.length = 4 := R_one (f := coreD) (fun _ => rfl) _
  have tnc : ((p : Nat) : Int).toNat = p := Int.toNat_natCast p
  refine fun_deep (pins := []) (l0 := []) (objs := []) (base := 0) (xx_ok tabDo_ok ksDo) mixed Tryz.func21 rfl (Nat.le_of_ble_eq_true rfl) rfl rfl ?_
  repeat' ((conv => whnf); first | exact trivial | (with_reducible refine ap_of ?_; kernel_rfl) | (with_reducible refine ds_of ?_; kernel_rfl) | (with_reducible refine eq_of ?_; kernel_rfl) | exact rfl | (intro h; exact absurd h (by decide)) | (intro h; exact absurd h hx) | (intro h; exact absurd h hx2) | (intro h; exact absurd h hx3) | intro _ | apply And.intro)
  all_goals clear hx hx2 hx3
  all_goals try rw [hP] at *
  all_goals try rw [hT] at *
  all_goals first
    | rfl
    | exact Int.natCast_nonneg _
    | exact hleni
    | exact hlen2
    | exact hone _ (by assumption)
    | exact ⟨_, rfl, by omega⟩
    | exact ⟨_, rfl, hb.1⟩
    | (rw [tnc, hg]; first | rfl | exact Nat.le_refl _ | exact hq)
    | skip
  all_goals simp only [tnc, hg, List.getD_cons_zero, List.getD_cons_succ, DV.toI, Nat.zero_add, toR_row, linesR_rows, hnc, framesR_rows, msgsR_rows] at *
  all_goals try rw [show hearF ⟨(x.core p).lines, ⟨(x.core p).wait.kind, (x.core p).wait.line, (x.core p).wait.value⟩⟩ p n ⟨mk, mf, p, ml, ms, mu, mv, ma⟩ = r from hr] at *
  all_goals first
    | rfl
    | exact hq
    | (simp; omega)
    | exact ⟨_, _, rfl, rfl, hfit, Nat.le_trans (len_erase hfl) (by decide), hrl⟩
    | (show AV.tup [.agg [.d (.row ((R coreD x.cores).set p (coreD r.1))), .d (.row (R entD x.home)), .d (.row (framesD (wayF (x.frames.eraseIdx i) r.2.1)))], Ro (R dnD r.2.2), V 0] = _
       rw [R_set]
       rfl)
    | trace_state
end
end Go.Proofs.YtpgeopefamomnaeGreat

namespace Go.Proofs.YtpgeopefamomnaeGreat
open Go.RowKit
set_option linter.unusedVariables false
set_option maxRecDepth 100000
set_option maxHeartbeats 4000000 in
theorem rdo_kind (CR HR FR : Row) (k nd sn sb ok ol ov : Int) (hk : k ≠ 1 ∧ k ≠ 2 ∧ k ≠ 3 ∧ k ≠ 4 ∧ k ≠ 5 ∧ k ≠ 6) : FunOK Tryz.prog 21 [.agg [.d (.row CR), .d (.row HR), .d (.row FR)], .agg [I k, I nd, I sn, I sb, I ok, I ol, I ov]] (hOf []) (noC 1) (hOf []) := by
  refine fun_deep (pins := []) (l0 := []) (objs := []) (base := 0) (xx_ok tabDo_ok ksDo) mixed Tryz.func21 rfl (Nat.le_of_ble_eq_true rfl) rfl rfl ?_
  obtain ⟨k1, k2, k3, k4, k5, k6⟩ := hk
  have h1 : ¬ ((k == 1) = true) := by simpa using k1
  have h2 : ¬ ((k == 2) = true) := by simpa using k2
  have h3 : ¬ ((k == 3) = true) := by simpa using k3
  have h4 : ¬ ((k == 4) = true) := by simpa using k4
  have h5 : ¬ ((k == 5) = true) := by simpa using k5
  have h6 : ¬ ((k == 6) = true) := by simpa using k6
  repeat' ((conv => whnf); first | exact trivial | (with_reducible refine ap_of ?_; kernel_rfl) | (with_reducible refine ds_of ?_; kernel_rfl) | (with_reducible refine eq_of ?_; kernel_rfl) | exact rfl | (intro h; exact absurd h (by decide)) | (intro h; exact absurd h h1) | (intro h; exact absurd h h2) | (intro h; exact absurd h h3) | (intro h; exact absurd h h4) | (intro h; exact absurd h h5) | (intro h; exact absurd h h6) | intro _ | apply And.intro)
  all_goals first | rfl | trace_state
theorem rdo4_ok {n L : Nat} {x : SChip} {V' : Nat → Int} (X : XI n L x V') (s : SStep) : FunOK Tryz.prog 21 [.agg (chipC x), .agg (stepC s)] (hOf []) (doV (doF x s)) (hOf []) := by
  by_cases k1 : s.kind = 1
  · exact rdo_1 X s k1
  by_cases k6 : s.kind = 6
  · exact rdo_6 X s k6
  have hcfg := cfg_eq X
  have hnc := X.nc
  unfold doF
  rw [if_neg k1, if_neg k6]
  obtain ⟨kd, nd, sn, sb, ok, ol, ov⟩ := s
  simp only at k1 k6 ⊢
  by_cases kk : kd < 2 ∨ 5 < kd
  · rw [if_pos kk]
    exact rdo_kind _ _ _ kd nd sn sb ok ol ov ⟨k1, by omega, by omega, by omega, by omega, k6⟩
  rw [if_neg kk]
  by_cases hn : sn < 0 ∨ (x.frames.length : Int) ≤ sn
  · rw [if_pos hn]
    exact rdo_4out X kd nd sn sb ok ol ov (by omega) (by omega)
  rw [if_neg hn]
  obtain ⟨i, rfl⟩ := Int.eq_ofNat_of_zero_le (show 0 ≤ sn by omega)
  have hi : i < x.frames.length := by omega
  simp only [Int.ofNat_eq_natCast, Int.toNat_natCast]
  by_cases k4 : kd = 4
  · rw [if_pos k4]
    subst k4
    exact rdo_4in X nd sb ok ol ov i hi
  rw [if_neg k4, hcfg]
  by_cases k5 : kd = 5
  · rw [if_pos k5]
    subst k5
    exact rdo_5in X nd sb ok ol ov i hi _ rfl
  rw [if_neg k5]
  by_cases k3 : kd = 3
  · rw [if_pos k3]
    subst k3
    exact rdo_3in X nd sb ok ol ov i hi
  rw [if_neg k3]
  have k2 : kd = 2 := by omega
  subst k2
  by_cases hp : (parseF ⟨n, L⟩ (x.frames.getD i [])).2 ≠ 0
  · rw [if_pos hp]
    exact rdo_2bad X nd sb ok ol ov i hi hp
  rw [if_neg hp]
  obtain ⟨m, hm⟩ : ∃ m, m = (parseF ⟨n, L⟩ (x.frames.getD i [])).1 := ⟨_, rfl⟩
  have hpm : parseF ⟨n, L⟩ (x.frames.getD i []) = (m, 0) := by
    have : (parseF ⟨n, L⟩ (x.frames.getD i [])).2 = 0 := by omega
    rw [hm, ← this]
  rw [← hm]
  have hw := parse_wrong hpm
  have ho := wrong_out hw
  simp only [] at ho
  have hmi := X.mi _ (getD_mem hi) m (by rw [hcfg]; exact hpm)
  have hl4 := X.l4
  have hnh := X.nh
  rw [hnc]
  by_cases hto : m.to = n
  · rw [if_pos hto]
    have hjL : m.line.toNat < L := by omega
    have hlast := (X.ci m.line.toNat hjL).nlen
    exact rdo_2home X nd sb ok ol ov i hi m hpm hto _ rfl (fit_all X.n4 X.l4 (home_said (p := m.frm.toNat) X (by omega) hw hmi (by omega))) (Nat.le_trans (home_len _ _ _) (by decide)) ⟨x.home, rfl, by omega, by omega, by omega, by omega, by rw [show x.home.getD m.line.toNat SEntry.zero = x.entry m.line.toNat from rfl, hlast]; omega, home_ok2 X hjL⟩
  · rw [if_neg hto]
    obtain ⟨p, hp2⟩ : ∃ p : Nat, m.to = p := ⟨m.to.toNat, by omega⟩
    rw [hp2, Int.toNat_natCast]
    have hpn : p < n := by omega
    have hnl := X.nl p hpn
    exact rdo_2core X nd sb ok ol ov i hi m hpm p hpn hp2 _ rfl (fit_all X.n4 X.l4 (hear_said X hpn hw)) (Nat.le_trans hear_len (by decide)) ⟨_, rfl, by omega, by omega, by omega, fun hz => by
      have WS := (X.wi p hpn).some m.line.toNat (by omega) hz
      have hb := (X.wi p hpn).busy (by omega)
      omega⟩
end Go.Proofs.YtpgeopefamomnaeGreat

namespace Go.Proofs.YtpgeopefamomnaeGreat
open Go.RowKit
set_option linter.unusedVariables false
set_option maxRecDepth 100000
section
variable (c : Cfg)
set_option maxHeartbeats 4000000
theorem rnew_c0 (h : c.cores < 1) : FunOK Tryz.prog 20 [.agg [I c.cores, I c.lines]] (hOf []) (.tup [.agg [.d (.row []), .d (.row []), .d (.row [])], V 3]) (hOf []) := by
  refine fun_deep (pins := []) (l0 := []) (objs := []) (base := 0) (xx_ok tab0_ok []) mixed Tryz.func20 rfl (Nat.le_of_ble_eq_true rfl) rfl rfl ?_
  have hx : ¬ ((decide (c.cores < 1) == false) = true) := by simp [h]
  repeat' ((conv => whnf); first | exact trivial | (with_reducible refine ap_of ?_; kernel_rfl) | (with_reducible refine ds_of ?_; kernel_rfl) | (with_reducible refine eq_of ?_; kernel_rfl) | exact rfl | (intro h; exact absurd h (by decide)) | (intro h; exact absurd h hx) | intro _ | apply And.intro)
  all_goals first | rfl | (exfalso; simp_all; done) | (exfalso; simp_all; omega)
theorem rnew_c4 (h : 4 < c.cores) : FunOK Tryz.prog 20 [.agg [I c.cores, I c.lines]] (hOf []) (.tup [.agg [.d (.row []), .d (.row []), .d (.row [])], V 3]) (hOf []) := by
  refine fun_deep (pins := []) (l0 := []) (objs := []) (base := 0) (xx_ok tab0_ok []) mixed Tryz.func20 rfl (Nat.le_of_ble_eq_true rfl) rfl rfl ?_
  have hx : ¬ ((decide (c.cores > 4) == false) = true) := by simp [h]
  repeat' ((conv => whnf); first | exact trivial | (with_reducible refine ap_of ?_; kernel_rfl) | (with_reducible refine ds_of ?_; kernel_rfl) | (with_reducible refine eq_of ?_; kernel_rfl) | exact rfl | (intro h; exact absurd h (by decide)) | (intro h; exact absurd h hx) | intro _ | apply And.intro)
  all_goals first | rfl | (exfalso; simp_all; done) | (exfalso; simp_all; omega)
theorem rnew_l0 (h : c.lines < 1) : FunOK Tryz.prog 20 [.agg [I c.cores, I c.lines]] (hOf []) (.tup [.agg [.d (.row []), .d (.row []), .d (.row [])], V 3]) (hOf []) := by
  refine fun_deep (pins := []) (l0 := []) (objs := []) (base := 0) (xx_ok tab0_ok []) mixed Tryz.func20 rfl (Nat.le_of_ble_eq_true rfl) rfl rfl ?_
  have hx : ¬ ((decide (c.lines < 1) == false) = true) := by simp [h]
  repeat' ((conv => whnf); first | exact trivial | (with_reducible refine ap_of ?_; kernel_rfl) | (with_reducible refine ds_of ?_; kernel_rfl) | (with_reducible refine eq_of ?_; kernel_rfl) | exact rfl | (intro h; exact absurd h (by decide)) | (intro h; exact absurd h hx) | intro _ | apply And.intro)
  all_goals first | rfl | (exfalso; simp_all; done) | (exfalso; simp_all; omega)
theorem rnew_l4 (h : 4 < c.lines) : FunOK Tryz.prog 20 [.agg [I c.cores, I c.lines]] (hOf []) (.tup [.agg [.d (.row []), .d (.row []), .d (.row [])], V 3]) (hOf []) := by
  refine fun_deep (pins := []) (l0 := []) (objs := []) (base := 0) (xx_ok tab0_ok []) mixed Tryz.func20 rfl (Nat.le_of_ble_eq_true rfl) rfl rfl ?_
  have hx : ¬ (decide (c.lines > 4) = false) := by simp [h]
  repeat' ((conv => whnf); first | exact trivial | (with_reducible refine ap_of ?_; kernel_rfl) | (with_reducible refine ds_of ?_; kernel_rfl) | (with_reducible refine eq_of ?_; kernel_rfl) | exact rfl | (intro h; exact absurd h (by decide)) | (intro h; exact absurd h hx) | intro _ | apply And.intro)
  all_goals first | rfl | (exfalso; simp_all; done) | (exfalso; simp_all; omega)
theorem rnew_any : FunOK Tryz.prog 20 [.agg (cfgC c)] (hOf []) (.tup [.agg (chipC (newF c).1), V (newF c).2]) (hOf []) := by
  unfold newF
  by_cases h0 : c.cores < 1
  · rw [if_pos (.inl h0)]
    exact rnew_c0 c h0
  by_cases h1 : 4 < c.cores
  · rw [if_pos (.inr (.inl h1))]
    exact rnew_c4 c h1
  by_cases h2 : c.lines < 1
  · rw [if_pos (.inr (.inr (.inl h2)))]
    exact rnew_l0 c h2
  by_cases h3 : 4 < c.lines
  · rw [if_pos (.inr (.inr (.inr h3)))]
    exact rnew_l4 c h3
  have h := rnew_ok c (by omega) (by omega) (by omega) (by omega)
  unfold newF at h
  rw [if_neg (by omega)] at h ⊢
  exact h
end
def newT (xs : List AV) (l0 : List (Nat × OS)) : Ans := match xs, l0 with
  | [.agg [.d (.int .i64 a), .d (.int .i64 b)]], [] => some (True, .tup [.agg (chipC (newF ⟨a, b⟩).1), V (newF ⟨a, b⟩).2], [])
  | _, _ => none
theorem new_does : Does Tryz.prog 20 newT := ⟨⟨_, Tryz.func20, by decide, rfl⟩, fun xs l0 p v objs h hp => by
  unfold newT at h
  split at h
  · cases h
    exact rnew_any (Cfg.mk _ _)
  · cases h⟩
def coreOf (u : List DV) : SCore := ⟨linesR (u.getD 0 dz).toR, ⟨toI0 u 1, toI0 u 2, toI0 u 3⟩⟩
def coresR (es : Row) : List SCore := es.map coreOf
theorem coresR_rows (l : List SCore) : coresR (R coreD l) = l := by
  unfold coresR R
  rw [List.map_map]
  exact List.map_id'' (f := coreOf ∘ coreD) (fun c => by
    show (⟨linesR (rowsL c.lines), ⟨c.wait.kind, c.wait.line, c.wait.value⟩⟩ : SCore) = c
    rw [linesR_rows]) l
def doT4 (xs : List AV) (l0 : List (Nat × OS)) : Ans := match xs, l0 with
  | [.agg [.d (.row cr), .d (.row hr), .d (.row fr)], .agg [.d (.int .i64 k), .d (.int .i64 nd), .d (.int .i64 sn), .d (.int .i64 sb), .d (.int .i64 ok), .d (.int .i64 ol), .d (.int .i64 ov)]], [] => some (∃ x n L V, cr = R coreD x.cores ∧ hr = R entD x.home ∧ fr = framesD x.frames ∧ XI n L x V, doV (doF ⟨coresR cr, homeR hr, framesR fr⟩ ⟨k, nd, sn, sb, ⟨ok, ol, ov⟩⟩), [])
  | _, _ => none
theorem do4_does : Does Tryz.prog 21 doT4 := ⟨⟨_, Tryz.func21, by decide, rfl⟩, fun xs l0 p v objs h hp => by
  unfold doT4 at h
  split at h
  · cases h
    obtain ⟨x, n, L, V, rfl, rfl, rfl, X⟩ := hp
    rw [coresR_rows, homeR_rows, framesR_rows]
    exact rdo4_ok X (SStep.mk _ _ _ _ (SOp.mk _ _ _))
  · cases h⟩
def SStep.zero : SStep := ⟨0, 0, 0, 0, SOp.zero⟩
def stepD (s : SStep) : List DV := [J s.kind, J s.node, J s.n, J s.bit, J s.op.kind, J s.op.line, J s.op.value]
end Go.Proofs.YtpgeopefamomnaeGreat

namespace Go.Proofs.YtpgeopefamomnaeGreat
open Go.RowKit
set_option linter.unusedVariables false
set_option linter.unusedSimpArgs false
set_option maxRecDepth 100000
def stepOf (u : List DV) : SStep := ⟨toI0 u 0, toI0 u 1, toI0 u 2, toI0 u 3, ⟨toI0 u 4, toI0 u 5, toI0 u 6⟩⟩
def stepsR (es : Row) : List SStep := es.map stepOf
theorem stepsR_rows (l : List SStep) : stepsR (R stepD l) = l := by
  unfold stepsR R
  rw [List.map_map]
  exact List.map_id'' (f := stepOf ∘ stepD) (fun _ => rfl) l
/-- What a chip is that is built. -/
theorem built (c : Cfg) (l : List SStep) : (∃ (n L : Nat) (V : Nat → Int), c.cores = n ∧ c.lines = L ∧ XI n L (buildF c l).1 V) ∨ (buildF c l).1.cores = [] := by
  by_cases h : (newF c).2 = 0
  · obtain ⟨n, L, V, h1, h2, X, _⟩ := xi_build (l := l) h
    exact .inl ⟨n, L, V, h1, h2, X⟩
  · right
    have hb : buildF c l = ((newF c).1, []) := if_neg h
    rw [hb]
    unfold newF at h ⊢
    by_cases k : c.cores < 1 ∨ 4 < c.cores ∨ c.lines < 1 ∨ 4 < c.lines
    · rw [if_pos k]; rfl
    · rw [if_neg k] at h; exact absurd rfl h
end Go.Proofs.YtpgeopefamomnaeGreat

