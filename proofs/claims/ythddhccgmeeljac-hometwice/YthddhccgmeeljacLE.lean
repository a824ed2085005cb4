/- The law HomeTwice, on trees. -/
import Derived.Test.YthddhccgmeeljacHD
set_option linter.unusedSimpArgs false
namespace Go.Proofs.Ythddhccgmeeljac
open Go.RowKit
set_option linter.unusedVariables false
set_option linter.unusedSimpArgs false
set_option maxRecDepth 100000

set_option maxHeartbeats 4000000
theorem htwice_in {n L : Nat} {ca cb : Int} {l : List SStep} {V' : Nat → Int} (X : XI n L (buildF ⟨ca, cb⟩ l).1 V') (mk mf mt ml ms mu mv : Int) (ma : Bool) : FunOK Try.prog 4 [.agg [I ca, I cb], Ro (R stepD l), .agg [I mk, I mf, I mt, I ml, I ms, I mu, I mv, .d (.bool ma)]] (hOf []) (Vb true) (hOf []) := by
  refine fun_deep (pins := []) (l0 := []) (objs := []) (base := 0) (xx_ok tabL5_ok ksL5) mixed Try.func4 rfl (Nat.le_of_ble_eq_true rfl) rfl rfl ?_
  have hs : stepsR (R stepD l) = l := stepsR_rows l
  repeat' ((conv => whnf); first | exact trivial | (with_reducible refine ap_of ?_; kernel_rfl) | (with_reducible refine ds_of ?_; kernel_rfl) | (with_reducible refine eq_of ?_; kernel_rfl) | exact rfl | (intro h; exact absurd h (by decide)) | intro _ | apply And.intro)
  all_goals try rw [hs] at *
  all_goals generalize (buildF ⟨ca, cb⟩ l).1 = x at *
  all_goals clear hs
  all_goals
    have hlen : (R coreD x.cores).length = n := by rw [R_len, X.nc]
    have T := homeHear_twice (m := ⟨mk, mf, mt, ml, ms, mu, mv, ma⟩) X
    have H := homes_xi X
    have H2 := H.hear n ⟨mk, mf, mt, ml, ms, mu, mv, ma⟩
  all_goals first
    | exact ⟨l, rfl⟩
    | rfl
    | skip
  all_goals simp only [homeR_rows, hlen] at *
  all_goals first
    | exact ⟨_, rfl, H.1, H.la, H.at _⟩
    | exact ⟨_, rfl, H2.1, H2.la, H2.at _⟩
    | exact ⟨_, rfl, congrArg (R entD) T, H2.1, H2.la⟩
    | rfl
    | trace_state
theorem htwice_none {ca cb : Int} {l : List SStep} (h : (buildF ⟨ca, cb⟩ l).1.cores = []) (mk mf mt ml ms mu mv : Int) (ma : Bool) : FunOK Try.prog 4 [.agg [I ca, I cb], Ro (R stepD l), .agg [I mk, I mf, I mt, I ml, I ms, I mu, I mv, .d (.bool ma)]] (hOf []) (Vb true) (hOf []) := by
  refine fun_deep (pins := []) (l0 := []) (objs := []) (base := 0) (xx_ok tabL5_ok ksL5) mixed Try.func4 rfl (Nat.le_of_ble_eq_true rfl) rfl rfl ?_
  have hx : ¬ ((((R coreD (buildF ⟨ca, cb⟩ (stepsR (R stepD l))).1.cores).length : Int) == 0) = false) := by
    rw [stepsR_rows, h]
    decide
  repeat' ((conv => whnf); first | exact trivial | (with_reducible refine ap_of ?_; kernel_rfl) | (with_reducible refine ds_of ?_; kernel_rfl) | (with_reducible refine eq_of ?_; kernel_rfl) | exact rfl | (intro h; exact absurd h (by decide)) | (intro h; exact absurd h hx) | intro _ | apply And.intro)
  all_goals first
    | exact ⟨l, rfl⟩
    | rfl
    | trace_state
theorem htwice_any (c : Cfg) (l : List SStep) (m : Msg) : FunOK Try.prog 4 [.agg (cfgC c), Ro (R stepD l), .agg (msgC m)] (hOf []) (Vb true) (hOf []) := by
  rcases built c l with ⟨n, L, V', e1, e2, X⟩ | hz
  · exact htwice_in (ca := c.cores) (cb := c.lines) X m.kind m.frm m.to m.line m.serial m.turn m.value m.alone
  · exact htwice_none (ca := c.cores) (cb := c.lines) hz m.kind m.frm m.to m.line m.serial m.turn m.value m.alone
end Go.Proofs.Ythddhccgmeeljac
