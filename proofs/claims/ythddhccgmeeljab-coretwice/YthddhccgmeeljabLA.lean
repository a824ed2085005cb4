/- The law CoreTwice, on trees. -/
import Derived.Test.YthddhccgmeeljabCE
set_option linter.unusedSimpArgs false
namespace Go.Proofs.Ythddhccgmeeljab
open Go.RowKit
set_option linter.unusedVariables false
set_option maxRecDepth 100000

set_option maxHeartbeats 4000000
theorem twice_in {n L : Nat} {ca cb : Int} {l : List SStep} {V' : Nat → Int} (X : XI n L (buildF ⟨ca, cb⟩ l).1 V') (p : Nat) (hp : p < n) (mk mf mt ml ms mu mv : Int) (ma : Bool) : FunOK Try.prog 6 [.agg [I ca, I cb], Ro (R stepD l), V p, .agg [I mk, I mf, I mt, I ml, I ms, I mu, I mv, .d (.bool ma)]] (hOf []) (Vb true) (hOf []) := by
  refine fun_deep (pins := []) (l0 := []) (objs := []) (base := 0) (xx_ok tabL4_ok ksL4) mixed Try.func6 rfl (Nat.le_of_ble_eq_true rfl) rfl rfl ?_
  have tnc : ((p : Nat) : Int).toNat = p := Int.toNat_natCast p
  have hs : stepsR (R stepD l) = l := stepsR_rows l
  have hx : ¬ ((decide ((p : Int) < 0) == false) = false) := by simp
  have hx2 : ¬ (decide ((p : Int) ≥ ((R coreD (buildF ⟨ca, cb⟩ (stepsR (R stepD l))).1.cores).length : Int)) = true) := by
    rw [hs, R_len, X.nc]
    simp
    omega
  repeat' ((conv => whnf); first | exact trivial | (with_reducible refine ap_of ?_; kernel_rfl) | (with_reducible refine ds_of ?_; kernel_rfl) | (with_reducible refine eq_of ?_; kernel_rfl) | exact rfl | (intro h; exact absurd h (by decide)) | (intro h; exact absurd h hx) | (intro h; exact absurd h hx2) | intro _ | apply And.intro)
  all_goals clear hx hx2
  all_goals try rw [hs] at *
  all_goals generalize (buildF ⟨ca, cb⟩ l).1 = x at *
  all_goals clear hs
  all_goals
    have hnc := X.nc
    have hpc : p < x.cores.length := by omega
    have hlen : (R coreD x.cores).length = n := by rw [R_len, hnc]
    have hlen2 : p < (R coreD x.cores).length := by omega
    have hleni : (p : Int) < ((R coreD x.cores).length : Int) := by omega
    have hg0 : (R coreD x.cores).getD p [] = coreD (x.core p) := R_get coreD SCore.zero hpc
    have hg : (R coreD x.cores).getD p [] = [.row (rowsL (x.core p).lines), J (x.core p).wait.kind, J (x.core p).wait.line, J (x.core p).wait.value] := hg0
    have hone : ∀ u ∈ R coreD x.cores, u.length = 4 := R_one (f := coreD) (fun _ => rfl) _
    have K := core_ok X hp
    have H := core_hears K p n ⟨mk, mf, mt, ml, ms, mu, mv, ma⟩
    have T := hearF_twice (k := x.core p) (id := p) (home := n) (m := ⟨mk, mf, mt, ml, ms, mu, mv, ma⟩) K.see
  all_goals first
    | exact ⟨l, rfl⟩
    | exact Int.natCast_nonneg _
    | exact hleni
    | exact hlen2
    | exact hone _ (by assumption)
    | rfl
    | (rw [tnc, hg]; first | rfl | exact Nat.le_refl _)
    | skip
  all_goals simp only [tnc, hg, List.getD_cons_zero, List.getD_cons_succ, DV.toI, Nat.zero_add, toR_row, linesR_rows, hlen] at *
  all_goals first
    | exact ⟨_, rfl, K.len, fun h0 h1 => ⟨K.wai _ (by omega), K.gav _ (by omega)⟩⟩
    | exact ⟨_, rfl, H.1, H.2⟩
    | (exact ⟨_, rfl, congrArg rowsL (congrArg SCore.lines T.1), H.1, congrArg (fun k => k.wait.kind) T.1, congrArg (fun k => k.wait.line) T.1, congrArg (fun k => k.wait.value) T.1⟩)
    | exact (congrArg (fun d : List SDone => Vb (((R dnD d).length : Int) == 0)) T.2).trans rfl
    | trace_state
theorem twice_lo (ca cb pI mk mf mt ml ms mu mv : Int) (ma : Bool) (l : List SStep) (h : pI < 0) : FunOK Try.prog 6 [.agg [I ca, I cb], Ro (R stepD l), V pI, .agg [I mk, I mf, I mt, I ml, I ms, I mu, I mv, .d (.bool ma)]] (hOf []) (Vb true) (hOf []) := by
  refine fun_deep (pins := []) (l0 := []) (objs := []) (base := 0) (xx_ok tabL4_ok ksL4) mixed Try.func6 rfl (Nat.le_of_ble_eq_true rfl) rfl rfl ?_
  have hx : ¬ ((decide (pI < 0) == false) = true) := by simp [h]
  repeat' ((conv => whnf); first | exact trivial | (with_reducible refine ap_of ?_; kernel_rfl) | (with_reducible refine ds_of ?_; kernel_rfl) | (with_reducible refine eq_of ?_; kernel_rfl) | exact rfl | (intro h; exact absurd h (by decide)) | (intro h; exact absurd h hx) | intro _ | apply And.intro)
  all_goals first | rfl | exact ⟨l, rfl⟩ | trace_state
theorem twice_hi (ca cb pI mk mf mt ml ms mu mv : Int) (ma : Bool) (l : List SStep) (h0 : 0 ≤ pI) (h : ((buildF ⟨ca, cb⟩ l).1.cores.length : Int) ≤ pI) : FunOK Try.prog 6 [.agg [I ca, I cb], Ro (R stepD l), V pI, .agg [I mk, I mf, I mt, I ml, I ms, I mu, I mv, .d (.bool ma)]] (hOf []) (Vb true) (hOf []) := by
  refine fun_deep (pins := []) (l0 := []) (objs := []) (base := 0) (xx_ok tabL4_ok ksL4) mixed Try.func6 rfl (Nat.le_of_ble_eq_true rfl) rfl rfl ?_
  have hx : ¬ ((decide (pI < 0) == false) = false) := by simp; omega
  have hx2 : ¬ (decide (pI ≥ ((R coreD (buildF ⟨ca, cb⟩ (stepsR (R stepD l))).1.cores).length : Int)) = false) := by
    rw [stepsR_rows, R_len]
    simpa using h
  repeat' ((conv => whnf); first | exact trivial | (with_reducible refine ap_of ?_; kernel_rfl) | (with_reducible refine ds_of ?_; kernel_rfl) | (with_reducible refine eq_of ?_; kernel_rfl) | exact rfl | (intro h; exact absurd h (by decide)) | (intro h; exact absurd h hx) | (intro h; exact absurd h hx2) | intro _ | apply And.intro)
  all_goals first | rfl | exact ⟨l, rfl⟩ | trace_state
theorem twice_any (c : Cfg) (l : List SStep) (pI : Int) (m : Msg) : FunOK Try.prog 6 [.agg (cfgC c), Ro (R stepD l), V pI, .agg (msgC m)] (hOf []) (Vb true) (hOf []) := by
  by_cases h0 : pI < 0
  · exact twice_lo c.cores c.lines pI m.kind m.frm m.to m.line m.serial m.turn m.value m.alone l h0
  by_cases h1 : ((buildF c l).1.cores.length : Int) ≤ pI
  · exact twice_hi c.cores c.lines pI m.kind m.frm m.to m.line m.serial m.turn m.value m.alone l (by omega) h1
  obtain ⟨p, rfl⟩ := Int.eq_ofNat_of_zero_le (show 0 ≤ pI by omega)
  rcases built c l with ⟨n, L, V', e1, e2, X⟩ | hz
  · exact twice_in (ca := c.cores) (cb := c.lines) X p (by have := X.nc; omega) m.kind m.frm m.to m.line m.serial m.turn m.value m.alone
  · rw [hz] at h1
    exact absurd h1 (by simp)
end Go.Proofs.Ythddhccgmeeljab
