/- The document's own answer: a core begins, whatever is asked. -/
import Derived.Test.YtpgeopefamomnacGreatRG
set_option linter.unusedSimpArgs false
namespace Go.Proofs.YtpgeopefamomnacGreat
open Go.RowKit
set_option linter.unusedVariables false
set_option maxRecDepth 100000

def beginV (r : SCore × List Msg × List SDone × Int) : AV := .tup [.agg (coreC (rowsL r.1.lines) r.1.wait), Ro (R msgD r.2.1), Ro (R dnD r.2.2.1), V r.2.2.2]
def noV (e : Int) : AV := .tup [.agg [.d (.row []), I 0, I 0, I 0], Ro [], Ro [], V e]
section
variable (L : Row) (w o : SOp) (id home : Int)
set_option maxHeartbeats 4000000
theorem rbegin_k1 (h : o.kind < 1) : FunOK Tryz.prog 24 [.agg (coreC L w), V id, V home, .agg (opC o)] (hOf []) (noV 1) (hOf []) := by
  refine fun_deep (pins := []) (l0 := []) (objs := []) (base := 0) (xx_ok tabT_ok [49]) mixed Tryz.func24 rfl (Nat.le_of_ble_eq_true rfl) rfl rfl ?_
  have hx : ¬ ((decide (o.kind < 1) == false) = true) := by simp [h]
  repeat' ((conv => whnf); first | exact trivial | (with_reducible refine ap_of ?_; kernel_rfl) | (with_reducible refine ds_of ?_; kernel_rfl) | (with_reducible refine eq_of ?_; kernel_rfl) | exact rfl | (intro h; exact absurd h (by decide)) | (intro h; exact absurd h hx) | intro _ | apply And.intro)
  all_goals first | rfl | (exfalso; simp_all; done) | (exfalso; simp_all; omega)
theorem rbegin_k4 (h : 4 < o.kind) : FunOK Tryz.prog 24 [.agg (coreC L w), V id, V home, .agg (opC o)] (hOf []) (noV 1) (hOf []) := by
  refine fun_deep (pins := []) (l0 := []) (objs := []) (base := 0) (xx_ok tabT_ok [49]) mixed Tryz.func24 rfl (Nat.le_of_ble_eq_true rfl) rfl rfl ?_
  have hx : ¬ (decide (o.kind > 4) = false) := by simp [h]
  repeat' ((conv => whnf); first | exact trivial | (with_reducible refine ap_of ?_; kernel_rfl) | (with_reducible refine ds_of ?_; kernel_rfl) | (with_reducible refine eq_of ?_; kernel_rfl) | exact rfl | (intro h; exact absurd h (by decide)) | (intro h; exact absurd h hx) | intro _ | apply And.intro)
  all_goals first | rfl | (exfalso; simp_all; done) | (exfalso; simp_all; omega)
variable (h1 : 1 ≤ o.kind) (h4 : o.kind ≤ 4)
include h1 h4
theorem rbegin_l0 (h : o.line < 0) : FunOK Tryz.prog 24 [.agg (coreC L w), V id, V home, .agg (opC o)] (hOf []) (noV 3) (hOf []) := by
  refine fun_deep (pins := []) (l0 := []) (objs := []) (base := 0) (xx_ok tabT_ok [49]) mixed Tryz.func24 rfl (Nat.le_of_ble_eq_true rfl) rfl rfl ?_
  have hx : ¬ ((decide (o.line < 0) == false) = true) := by simp [h]
  repeat' ((conv => whnf); first | exact trivial | (with_reducible refine ap_of ?_; kernel_rfl) | (with_reducible refine ds_of ?_; kernel_rfl) | (with_reducible refine eq_of ?_; kernel_rfl) | exact rfl | (intro h; exact absurd h (by decide)) | (intro h; exact absurd h hx) | intro _ | apply And.intro)
  all_goals first | rfl | (exfalso; simp_all; done) | (exfalso; simp_all; omega)
theorem rbegin_l1 (h : (L.length : Int) ≤ o.line) : FunOK Tryz.prog 24 [.agg (coreC L w), V id, V home, .agg (opC o)] (hOf []) (noV 3) (hOf []) := by
  refine fun_deep (pins := []) (l0 := []) (objs := []) (base := 0) (xx_ok tabT_ok [49]) mixed Tryz.func24 rfl (Nat.le_of_ble_eq_true rfl) rfl rfl ?_
  have hx : ¬ ((decide (o.line ≥ (L.length : Int)) == false) = true) := by simp [h]
  repeat' ((conv => whnf); first | exact trivial | (with_reducible refine ap_of ?_; kernel_rfl) | (with_reducible refine ds_of ?_; kernel_rfl) | (with_reducible refine eq_of ?_; kernel_rfl) | exact rfl | (intro h; exact absurd h (by decide)) | (intro h; exact absurd h hx) | intro _ | apply And.intro)
  all_goals first | rfl | (exfalso; simp_all; done) | (exfalso; simp_all; omega)
theorem rbegin_v0 (h : o.value < 0) : FunOK Tryz.prog 24 [.agg (coreC L w), V id, V home, .agg (opC o)] (hOf []) (noV 3) (hOf []) := by
  refine fun_deep (pins := []) (l0 := []) (objs := []) (base := 0) (xx_ok tabT_ok [49]) mixed Tryz.func24 rfl (Nat.le_of_ble_eq_true rfl) rfl rfl ?_
  have hx : ¬ ((decide (o.value < 0) == false) = true) := by simp [h]
  repeat' ((conv => whnf); first | exact trivial | (with_reducible refine ap_of ?_; kernel_rfl) | (with_reducible refine ds_of ?_; kernel_rfl) | (with_reducible refine eq_of ?_; kernel_rfl) | exact rfl | (intro h; exact absurd h (by decide)) | (intro h; exact absurd h hx) | intro _ | apply And.intro)
  all_goals first | rfl | (exfalso; simp_all; done) | (exfalso; simp_all; omega)
theorem rbegin_v1 (h : 255 < o.value) : FunOK Tryz.prog 24 [.agg (coreC L w), V id, V home, .agg (opC o)] (hOf []) (noV 3) (hOf []) := by
  refine fun_deep (pins := []) (l0 := []) (objs := []) (base := 0) (xx_ok tabT_ok [49]) mixed Tryz.func24 rfl (Nat.le_of_ble_eq_true rfl) rfl rfl ?_
  have hx : ¬ (decide (o.value > 255) = false) := by simp [h]
  repeat' ((conv => whnf); first | exact trivial | (with_reducible refine ap_of ?_; kernel_rfl) | (with_reducible refine ds_of ?_; kernel_rfl) | (with_reducible refine eq_of ?_; kernel_rfl) | exact rfl | (intro h; exact absurd h (by decide)) | (intro h; exact absurd h hx) | intro _ | apply And.intro)
  all_goals first | rfl | (exfalso; simp_all; done) | (exfalso; simp_all; omega)
variable (h5 : 0 ≤ o.line) (h6 : o.line < (L.length : Int)) (h7 : 0 ≤ o.value) (h8 : o.value ≤ 255) (l : SLine) (hg : L.getD o.line.toNat [] = lineD l)
include h5 h6 h7 h8 hg
theorem rbegin_w (h : w.kind ≠ 0) : FunOK Tryz.prog 24 [.agg (coreC L w), V id, V home, .agg (opC o)] (hOf []) (noV 8) (hOf []) := by
  refine fun_deep (pins := []) (l0 := []) (objs := []) (base := 0) (xx_ok tabT_ok [49]) mixed Tryz.func24 rfl (Nat.le_of_ble_eq_true rfl) rfl rfl ?_
  have hx : ¬ (((w.kind != 0) == false) = true) := by simp [h]
  have hn : o.line.toNat < L.length := by omega
  repeat' ((conv => whnf); first | exact trivial | (with_reducible refine ap_of ?_; kernel_rfl) | (with_reducible refine ds_of ?_; kernel_rfl) | (with_reducible refine eq_of ?_; kernel_rfl) | exact rfl | (intro h; exact absurd h (by decide)) | (intro h; exact absurd h hx) | intro _ | apply And.intro)
  all_goals first
    | exact h5
    | exact h6
    | exact hn
    | rfl
    | (rw [hg]; first | rfl | exact Nat.le_refl _)
    | (exfalso; simp_all; omega)
    | (exfalso; simp_all; done)
theorem rbegin_s (h : 65535 ≤ l.serial) : FunOK Tryz.prog 24 [.agg (coreC L w), V id, V home, .agg (opC o)] (hOf []) (noV 8) (hOf []) := by
  refine fun_deep (pins := []) (l0 := []) (objs := []) (base := 0) (xx_ok tabT_ok [49]) mixed Tryz.func24 rfl (Nat.le_of_ble_eq_true rfl) rfl rfl ?_
  have hx : ¬ (decide (((L.getD o.line.toNat []).getD (0 + 1 + 1 + 1) dz).toI ≥ 65535) = false) := by rw [hg]; simp [lineD, DV.toI, h]
  have hn : o.line.toNat < L.length := by omega
  repeat' ((conv => whnf); first | exact trivial | (with_reducible refine ap_of ?_; kernel_rfl) | (with_reducible refine ds_of ?_; kernel_rfl) | (with_reducible refine eq_of ?_; kernel_rfl) | exact rfl | (intro h; exact absurd h (by decide)) | (intro h; exact absurd h hx) | intro _ | apply And.intro)
  all_goals first
    | exact h5
    | exact h6
    | exact hn
    | rfl
    | (rw [hg]; first | rfl | exact Nat.le_refl _)
    | (exfalso; simp_all; omega)
    | (exfalso; simp_all; done)
end
theorem rowsL_set (ls : List SLine) (i : Nat) (x : SLine) : (rowsL ls).set i (lineD x) = rowsL (ls.set i x) := by simp [rowsL, List.map_set]
theorem rbegin_any (c : SCore) (id home : Int) (o : SOp) (hL : c.lines.length < 1000) (hs : ∀ i, i < c.lines.length → 0 ≤ (c.line i).serial) : FunOK Tryz.prog 24 [.agg (coreC (rowsL c.lines) c.wait), V id, V home, .agg (opC o)] (hOf []) (beginV (beginF c id home o)) (hOf []) := by
  have hlen : (rowsL c.lines).length = c.lines.length := rowsL_len _
  unfold beginF
  by_cases k1 : o.kind < 1
  · rw [if_pos (.inl k1)]
    exact rbegin_k1 _ _ _ _ _ k1
  by_cases k4 : 4 < o.kind
  · rw [if_pos (.inr k4)]
    exact rbegin_k4 _ _ _ _ _ k4
  rw [if_neg (by omega)]
  have g1 : 1 ≤ o.kind := by omega
  have g4 : o.kind ≤ 4 := by omega
  by_cases l0 : o.line < 0
  · rw [if_pos (.inl l0)]
    exact rbegin_l0 _ _ _ _ _ g1 g4 l0
  by_cases l1 : (c.lines.length : Int) ≤ o.line
  · rw [if_pos (.inr (.inl l1))]
    exact rbegin_l1 _ _ _ _ _ g1 g4 (by rw [hlen]; exact l1)
  by_cases v0 : o.value < 0
  · rw [if_pos (.inr (.inr (.inl v0)))]
    exact rbegin_v0 _ _ _ _ _ g1 g4 v0
  by_cases v1 : 255 < o.value
  · rw [if_pos (.inr (.inr (.inr v1)))]
    exact rbegin_v1 _ _ _ _ _ g1 g4 v1
  rw [if_neg (by omega)]
  have g5 : 0 ≤ o.line := by omega
  have g6 : o.line < ((rowsL c.lines).length : Int) := by rw [hlen]; omega
  have g7 : 0 ≤ o.value := by omega
  have g8 : o.value ≤ 255 := by omega
  have hu : ∀ u ∈ rowsL c.lines, u.length = 7 := rowsL_one _
  have hg : (rowsL c.lines).getD o.line.toNat [] = lineD (c.line o.line.toNat) := rowsL_get (by omega)
  by_cases w0 : c.wait.kind ≠ 0
  · rw [if_pos (.inl w0)]
    exact rbegin_w _ _ _ _ _ g1 g4 g5 g6 g7 g8 _ hg w0
  by_cases s0 : 65535 ≤ (c.line o.line.toNat).serial
  · rw [if_pos (.inr s0)]
    exact rbegin_s _ _ _ _ _ g1 g4 g5 g6 g7 g8 _ hg s0
  rw [if_neg (by omega)]
  have h := rbegin_in (rowsL c.lines) hu (by rw [hlen]; exact hL) (c.line o.line.toNat) c.wait o id home g1 g4 g5 g6 g7 g8 hg (by omega) (hs _ (by omega)) (by omega) _ rfl
  rw [rowsL_set] at h
  by_cases b0 : (beginL (c.line o.line.toNat) o).2.1 = 0
  · rw [if_pos b0] at h
    rw [if_pos b0]
    exact h
  · rw [if_neg b0] at h
    rw [if_neg b0]
    exact h
end Go.Proofs.YtpgeopefamomnacGreat
