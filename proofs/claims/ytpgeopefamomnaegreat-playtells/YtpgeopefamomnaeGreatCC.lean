/- CBegin CBegin2 CRest CTimer CTabs. -/
import Derived.Test.YtpgeopefamomnaeGreatCG
import Derived.Test.YtpgeopefamomnaeGreatRP
import Derived.Test.YtpgeopefamomnaeGreatRE
import Derived.Test.YtpgeopefamomnaeGreatRT
set_option linter.unusedSimpArgs false
set_option linter.unusedSectionVars false
namespace Go.Proofs.YtpgeopefamomnaeGreat
open Go.RowKit
set_option linter.unusedVariables false
set_option maxRecDepth 100000
theorem tell0 (x k l v : Int) : tellF x ⟨k, 0, v⟩ = tellF x ⟨k, l, v⟩ := rfl
set_option maxHeartbeats 8000000 in
theorem cbegin_in (L : Row) (hu : ∀ u ∈ L, u.length = 7) (hL : L.length < 1000) (l : SLine) (w : SOp) (ok ol ov : Int) (id home : Int) (h1 : 1 ≤ ok) (h4 : ok ≤ 4) (h5 : 0 ≤ ol) (h6 : ol < (L.length : Int)) (h7 : 0 ≤ ov) (h8 : ov ≤ 255) (hg : L.getD ol.toNat [] = lineD l) (hw : w.kind = 0) (hs0 : 0 ≤ l.serial) (hs : l.serial < 65535) (r : SLine × Int × Int) (hr : beginL l ⟨ok, ol, ov⟩ = r) : FunOK Tryz.prog 88 [.agg [.d (.row L), I w.kind, I w.line, I w.value], V id, V home, .agg [I ok, I ol, I ov]] (hOf []) (if r.2.1 = 0 then .tup [.agg (coreC (L.set ol.toNat (lineD r.1)) w), Ro [], Ro [doneD id ⟨ok, ol, ov⟩ r.2.2], V 0] else .tup [.agg (coreC (L.set ol.toNat (lineD r.1)) ⟨ok, ol, ov⟩), Ro [msgD (asksF r.1 id home ol)], Ro [], V 0]) (hOf []) := by
  refine fun_deep (pins := []) (l0 := []) (objs := []) (base := 0) (xx_ok tabC1_ok [140]) mixed Tryz.func88 rfl (Nat.le_of_ble_eq_true rfl) rfl rfl ?_
  have hwr : IntKind.i64.wrap (l.serial + 1) = l.serial + 1 := wrap_in (by omega) (by omega)
  have hn : ol.toNat < L.length := by omega
  have hx : ¬ ((decide (ok < 1) == false) = false) := by simp; omega
  have hx2 : ¬ ((decide (ol < 0) == false) = false) := by simp; omega
  have hx3 : ¬ ((decide (ov < 0) == false) = false) := by simp; omega
  have hx4 : ¬ (decide (ok > 4) = true) := by simp; omega
  have hx5 : ¬ (decide (ol ≥ (L.length : Int)) = true) := by simp; omega
  have hx6 : ¬ (decide (ov > 255) = true) := by simp; omega
  have hx7 : ¬ (((w.kind != 0) == false) = false) := by rw [hw]; decide
  repeat' ((conv => whnf); first | exact trivial | (with_reducible refine ap_of ?_; kernel_rfl) | (with_reducible refine ds_of ?_; kernel_rfl) | (with_reducible refine eq_of ?_; kernel_rfl) | exact rfl | (intro h; exact absurd h (by decide)) | (intro h; exact absurd h hx) | (intro h; exact absurd h hx2) | (intro h; exact absurd h hx3) | (intro h; exact absurd h hx4) | (intro h; exact absurd h hx5) | (intro h; exact absurd h hx6) | (intro h; exact absurd h hx7) | intro _ | apply And.intro)
  all_goals clear hx hx2 hx3 hx4 hx5 hx6 hx7
  all_goals first
    | exact h5
    | exact h6
    | exact hn
    | exact hu _ (by assumption)
    | rfl
    | (rw [hg]; first | rfl | exact Nat.le_refl _)
    | (simp; done)
    | (simp; omega)
    | (refine len_set1 (by assumption) ?_; rfl)
    | exact ⟨_, rfl⟩
    | omega
    | skip
  all_goals simp only [hg, lineD, copyR, List.getD_cons_zero, List.getD_cons_succ, DV.toI, DV.toB, DV.toR, Nat.zero_add, hwr] at *
  all_goals first
    | assumption
    | rfl
    | omega
    | exact hu _ (by assumption)
    | (simp; done)
    | (simp; omega)
    | (clear hr; simp_all; done)
    | (exfalso; clear hr; simp_all; done)
    | (exfalso; clear hr; simp_all; omega)
    | (rw [← hr]; clear hr; unfold beginL; simp_all [-Int.not_le, -Int.not_lt, tell0, lineD, coreC, doneD, msgD, asksF, pickE]; done)
    | (have e4 : ok = 4 := by simpa using ‹(ok == 4) = true›
       have n2 : ¬ l.state = 2 := by simpa using ‹(l.state == 2) = false›
       subst e4
       have hb : beginL l ⟨4, ol, ov⟩ = ({ l with state := 0, value := 0 }, 0, 0) := (if_pos rfl).trans (if_neg n2)
       rw [← hr, hb]
       rfl)
    | (have n4 : ¬ ok = 4 := by simpa using ‹(ok == 4) = false›
       by_cases e1 : ok = 1
       · have hs1 : l.state = 1 ∨ l.state = 2 := by
           first
             | exact .inr (by simpa using ‹(l.state == 2) = true›)
             | exact .inl (by simpa using ‹(l.state != 1) = false›)
         subst e1
         have hb : beginL l ⟨1, ol, ov⟩ = (l, 0, l.value) := (if_neg (show ¬ ((1 : Int) = 4) by decide)).trans ((if_pos rfl).trans (if_pos hs1))
         rw [← hr, hb]
         rfl
       · have h2 : l.state = 2 := by
           first
             | exact (by simpa using ‹(l.state == 2) = true›)
             | exact absurd (by simpa using ‹(ok != 1) = false›) e1
         have hb : beginL l ⟨ok, ol, ov⟩ = ({ l with value := (tellF l.value ⟨ok, ol, ov⟩).1 }, 0, (tellF l.value ⟨ok, ol, ov⟩).2) := (if_neg n4).trans ((if_neg e1).trans (if_pos h2))
         rw [← hr, hb]
         rfl)
    | trace_state
end Go.Proofs.YtpgeopefamomnaeGreat

namespace Go.Proofs.YtpgeopefamomnaeGreat
open Go.RowKit
set_option linter.unusedVariables false
set_option maxRecDepth 100000
section
variable (L : Row) (w o : SOp) (id home : Int)
set_option maxHeartbeats 4000000
theorem cbegin_k1 (h : o.kind < 1) : FunOK Tryz.prog 88 [.agg (coreC L w), V id, V home, .agg (opC o)] (hOf []) (noV 1) (hOf []) := by
  refine fun_deep (pins := []) (l0 := []) (objs := []) (base := 0) (xx_ok tabC1_ok [140]) mixed Tryz.func88 rfl (Nat.le_of_ble_eq_true rfl) rfl rfl ?_
  have hx : ¬ ((decide (o.kind < 1) == false) = true) := by simp [h]
  repeat' ((conv => whnf); first | exact trivial | (with_reducible refine ap_of ?_; kernel_rfl) | (with_reducible refine ds_of ?_; kernel_rfl) | (with_reducible refine eq_of ?_; kernel_rfl) | exact rfl | (intro h; exact absurd h (by decide)) | (intro h; exact absurd h hx) | intro _ | apply And.intro)
  all_goals first | rfl | (exfalso; simp_all; done) | (exfalso; simp_all; omega)
theorem cbegin_k4 (h : 4 < o.kind) : FunOK Tryz.prog 88 [.agg (coreC L w), V id, V home, .agg (opC o)] (hOf []) (noV 1) (hOf []) := by
  refine fun_deep (pins := []) (l0 := []) (objs := []) (base := 0) (xx_ok tabC1_ok [140]) mixed Tryz.func88 rfl (Nat.le_of_ble_eq_true rfl) rfl rfl ?_
  have hx : ¬ (decide (o.kind > 4) = false) := by simp [h]
  repeat' ((conv => whnf); first | exact trivial | (with_reducible refine ap_of ?_; kernel_rfl) | (with_reducible refine ds_of ?_; kernel_rfl) | (with_reducible refine eq_of ?_; kernel_rfl) | exact rfl | (intro h; exact absurd h (by decide)) | (intro h; exact absurd h hx) | intro _ | apply And.intro)
  all_goals first | rfl | (exfalso; simp_all; done) | (exfalso; simp_all; omega)
variable (h1 : 1 ≤ o.kind) (h4 : o.kind ≤ 4)
include h1 h4
theorem cbegin_l0 (h : o.line < 0) : FunOK Tryz.prog 88 [.agg (coreC L w), V id, V home, .agg (opC o)] (hOf []) (noV 3) (hOf []) := by
  refine fun_deep (pins := []) (l0 := []) (objs := []) (base := 0) (xx_ok tabC1_ok [140]) mixed Tryz.func88 rfl (Nat.le_of_ble_eq_true rfl) rfl rfl ?_
  have hx : ¬ ((decide (o.line < 0) == false) = true) := by simp [h]
  repeat' ((conv => whnf); first | exact trivial | (with_reducible refine ap_of ?_; kernel_rfl) | (with_reducible refine ds_of ?_; kernel_rfl) | (with_reducible refine eq_of ?_; kernel_rfl) | exact rfl | (intro h; exact absurd h (by decide)) | (intro h; exact absurd h hx) | intro _ | apply And.intro)
  all_goals first | rfl | (exfalso; simp_all; done) | (exfalso; simp_all; omega)
theorem cbegin_l1 (h : (L.length : Int) ≤ o.line) : FunOK Tryz.prog 88 [.agg (coreC L w), V id, V home, .agg (opC o)] (hOf []) (noV 3) (hOf []) := by
  refine fun_deep (pins := []) (l0 := []) (objs := []) (base := 0) (xx_ok tabC1_ok [140]) mixed Tryz.func88 rfl (Nat.le_of_ble_eq_true rfl) rfl rfl ?_
  have hx : ¬ ((decide (o.line ≥ (L.length : Int)) == false) = true) := by simp [h]
  repeat' ((conv => whnf); first | exact trivial | (with_reducible refine ap_of ?_; kernel_rfl) | (with_reducible refine ds_of ?_; kernel_rfl) | (with_reducible refine eq_of ?_; kernel_rfl) | exact rfl | (intro h; exact absurd h (by decide)) | (intro h; exact absurd h hx) | intro _ | apply And.intro)
  all_goals first | rfl | (exfalso; simp_all; done) | (exfalso; simp_all; omega)
theorem cbegin_v0 (h : o.value < 0) : FunOK Tryz.prog 88 [.agg (coreC L w), V id, V home, .agg (opC o)] (hOf []) (noV 3) (hOf []) := by
  refine fun_deep (pins := []) (l0 := []) (objs := []) (base := 0) (xx_ok tabC1_ok [140]) mixed Tryz.func88 rfl (Nat.le_of_ble_eq_true rfl) rfl rfl ?_
  have hx : ¬ ((decide (o.value < 0) == false) = true) := by simp [h]
  repeat' ((conv => whnf); first | exact trivial | (with_reducible refine ap_of ?_; kernel_rfl) | (with_reducible refine ds_of ?_; kernel_rfl) | (with_reducible refine eq_of ?_; kernel_rfl) | exact rfl | (intro h; exact absurd h (by decide)) | (intro h; exact absurd h hx) | intro _ | apply And.intro)
  all_goals first | rfl | (exfalso; simp_all; done) | (exfalso; simp_all; omega)
theorem cbegin_v1 (h : 255 < o.value) : FunOK Tryz.prog 88 [.agg (coreC L w), V id, V home, .agg (opC o)] (hOf []) (noV 3) (hOf []) := by
  refine fun_deep (pins := []) (l0 := []) (objs := []) (base := 0) (xx_ok tabC1_ok [140]) mixed Tryz.func88 rfl (Nat.le_of_ble_eq_true rfl) rfl rfl ?_
  have hx : ¬ (decide (o.value > 255) = false) := by simp [h]
  repeat' ((conv => whnf); first | exact trivial | (with_reducible refine ap_of ?_; kernel_rfl) | (with_reducible refine ds_of ?_; kernel_rfl) | (with_reducible refine eq_of ?_; kernel_rfl) | exact rfl | (intro h; exact absurd h (by decide)) | (intro h; exact absurd h hx) | intro _ | apply And.intro)
  all_goals first | rfl | (exfalso; simp_all; done) | (exfalso; simp_all; omega)
variable (h5 : 0 ≤ o.line) (h6 : o.line < (L.length : Int)) (h7 : 0 ≤ o.value) (h8 : o.value ≤ 255) (l : SLine) (hg : L.getD o.line.toNat [] = lineD l)
include h5 h6 h7 h8 hg
omit hg in
theorem cbegin_w (h : w.kind ≠ 0) : FunOK Tryz.prog 88 [.agg (coreC L w), V id, V home, .agg (opC o)] (hOf []) (noV 8) (hOf []) := by
  refine fun_deep (pins := []) (l0 := []) (objs := []) (base := 0) (xx_ok tabC1_ok [140]) mixed Tryz.func88 rfl (Nat.le_of_ble_eq_true rfl) rfl rfl ?_
  have hx : ¬ (((w.kind != 0) == false) = true) := by simp [h]
  have hn : o.line.toNat < L.length := by omega
  repeat' ((conv => whnf); first | exact trivial | (with_reducible refine ap_of ?_; kernel_rfl) | (with_reducible refine ds_of ?_; kernel_rfl) | (with_reducible refine eq_of ?_; kernel_rfl) | exact rfl | (intro h; exact absurd h (by decide)) | (intro h; exact absurd h hx) | intro _ | apply And.intro)
  all_goals first
    | exact h5
    | exact h6
    | exact hn
    | rfl
    | (exfalso; simp_all; omega)
    | (exfalso; simp_all; done)
theorem cbegin_s (h : 65535 ≤ l.serial) : FunOK Tryz.prog 88 [.agg (coreC L w), V id, V home, .agg (opC o)] (hOf []) (noV 8) (hOf []) := by
  refine fun_deep (pins := []) (l0 := []) (objs := []) (base := 0) (xx_ok tabC1_ok [140]) mixed Tryz.func88 rfl (Nat.le_of_ble_eq_true rfl) rfl rfl ?_
  have hx : ¬ (decide (((L.getD o.line.toNat []).getD (0 + 1 + 1 + 1) dz).toI ≥ 65535) = false) := by rw [hg]; simp [lineD, DV.toI, h]
  have hn : o.line.toNat < L.length := by omega
  repeat' ((conv => whnf); first | exact trivial | (with_reducible refine ap_of ?_; kernel_rfl) | (with_reducible refine ds_of ?_; kernel_rfl) | (with_reducible refine eq_of ?_; kernel_rfl) | exact rfl | (intro h; exact absurd h (by decide)) | (intro h; exact absurd h hx) | intro _ | apply And.intro)
  all_goals first
    | exact h5
    | exact h6
    | exact hn
    | rfl
    | (rw [hg]; first | rfl | exact Nat.le_refl _ | exact Nat.le_of_ble_eq_true rfl)
    | (exfalso; simp_all; omega)
    | (exfalso; simp_all; done)
end
theorem cbegin_any (c : SCore) (id home : Int) (o : SOp) (hL : c.lines.length < 1000) (hs : ∀ i, i < c.lines.length → 0 ≤ (c.line i).serial) : FunOK Tryz.prog 88 [.agg (coreC (rowsL c.lines) c.wait), V id, V home, .agg (opC o)] (hOf []) (beginV (beginF c id home o)) (hOf []) := by
  have hlen : (rowsL c.lines).length = c.lines.length := rowsL_len _
  unfold beginF
  by_cases k1 : o.kind < 1
  · rw [if_pos (.inl k1)]
    exact cbegin_k1 _ _ _ _ _ k1
  by_cases k4 : 4 < o.kind
  · rw [if_pos (.inr k4)]
    exact cbegin_k4 _ _ _ _ _ k4
  rw [if_neg (by omega)]
  have g1 : 1 ≤ o.kind := by omega
  have g4 : o.kind ≤ 4 := by omega
  by_cases l0 : o.line < 0
  · rw [if_pos (.inl l0)]
    exact cbegin_l0 _ _ _ _ _ g1 g4 l0
  by_cases l1 : (c.lines.length : Int) ≤ o.line
  · rw [if_pos (.inr (.inl l1))]
    exact cbegin_l1 _ _ _ _ _ g1 g4 (by rw [hlen]; exact l1)
  by_cases v0 : o.value < 0
  · rw [if_pos (.inr (.inr (.inl v0)))]
    exact cbegin_v0 _ _ _ _ _ g1 g4 v0
  by_cases v1 : 255 < o.value
  · rw [if_pos (.inr (.inr (.inr v1)))]
    exact cbegin_v1 _ _ _ _ _ g1 g4 v1
  rw [if_neg (by omega)]
  have g5 : 0 ≤ o.line := by omega
  have g6 : o.line < ((rowsL c.lines).length : Int) := by rw [hlen]; omega
  have g7 : 0 ≤ o.value := by omega
  have g8 : o.value ≤ 255 := by omega
  have hu : ∀ u ∈ rowsL c.lines, u.length = 7 := rowsL_one _
  have hg : (rowsL c.lines).getD o.line.toNat [] = lineD (c.line o.line.toNat) := rowsL_get (by omega)
  by_cases w0 : c.wait.kind ≠ 0
  · rw [if_pos (.inl w0)]
    exact cbegin_w _ _ _ _ _ g1 g4 g5 g6 g7 g8 w0
  by_cases s0 : 65535 ≤ (c.line o.line.toNat).serial
  · rw [if_pos (.inr s0)]
    exact cbegin_s _ _ _ _ _ g1 g4 g5 g6 g7 g8 _ hg s0
  rw [if_neg (by omega)]
  have h := cbegin_in (rowsL c.lines) hu (by rw [hlen]; exact hL) (c.line o.line.toNat) c.wait o.kind o.line o.value id home g1 g4 g5 g6 g7 g8 hg (by omega) (hs _ (by omega)) (by omega) _ rfl
  rw [rowsL_set] at h
  by_cases b0 : (beginL (c.line o.line.toNat) o).2.1 = 0
  · rw [if_pos b0] at h
    rw [if_pos b0]
    exact h
  · rw [if_neg b0] at h
    rw [if_neg b0]
    exact h
end Go.Proofs.YtpgeopefamomnaeGreat

namespace Go.Proofs.YtpgeopefamomnaeGreat
open Go.RowKit
set_option linter.unusedVariables false
set_option maxRecDepth 100000
set_option maxHeartbeats 4000000
theorem chear_out (L : Row) (hu : ∀ u ∈ L, u.length = 7) (hL : L.length < 1000) (w : SOp) (mk mf mt ml ms mu mv : Int) (ma : Bool) (id home : Int) (h : ml < 0 ∨ (L.length : Int) ≤ ml) : FunOK Tryz.prog 109 [.agg [.d (.row L), I w.kind, I w.line, I w.value], V id, V home, .agg [I mk, I mf, I mt, I ml, I ms, I mu, I mv, .d (.bool ma)]] (hOf []) (.tup [.agg (coreC L w), Ro [], Ro []]) (hOf []) := by
  rcases h with h | h
  · refine fun_deep (pins := []) (l0 := []) (objs := []) (base := 0) (xx_ok tabC1_ok [140]) mixed Tryz.func109 rfl (Nat.le_of_ble_eq_true rfl) rfl rfl ?_
    have hx : ¬ ((decide (ml < 0) == false) = true) := by simp [h]
    repeat' ((conv => whnf); first | exact trivial | (with_reducible refine ap_of ?_; kernel_rfl) | (with_reducible refine ds_of ?_; kernel_rfl) | (with_reducible refine eq_of ?_; kernel_rfl) | exact rfl | (intro h; exact absurd h (by decide)) | (intro h; exact absurd h hx) | intro _ | apply And.intro)
    all_goals first
      | rfl
      | exact Int.natCast_nonneg _
      | omega
      | exact hu _ (by assumption)
      | (simp; omega)
      | (exfalso; simp_all; done)
      | (exfalso; simp_all; omega)
      | (rw [copyR]; rfl)
      | trace_state
  · refine fun_deep (pins := []) (l0 := []) (objs := []) (base := 0) (xx_ok tabC1_ok [140]) mixed Tryz.func109 rfl (Nat.le_of_ble_eq_true rfl) rfl rfl ?_
    have hx : ¬ (decide (ml ≥ (L.length : Int)) = false) := by simp [h]
    repeat' ((conv => whnf); first | exact trivial | (with_reducible refine ap_of ?_; kernel_rfl) | (with_reducible refine ds_of ?_; kernel_rfl) | (with_reducible refine eq_of ?_; kernel_rfl) | exact rfl | (intro h; exact absurd h (by decide)) | (intro h; exact absurd h hx) | intro _ | apply And.intro)
    all_goals first
      | rfl
      | exact Int.natCast_nonneg _
      | omega
      | exact hu _ (by assumption)
      | (simp; omega)
      | (exfalso; simp_all; done)
      | (exfalso; simp_all; omega)
      | (rw [copyR]; rfl)
      | trace_state
theorem cnew_ok (n : Nat) (hn : n < 1000) : FunOK Tryz.prog 53 [V n] (hOf []) (.agg (coreC (rowsL (List.replicate n SLine.zero)) SOp.zero)) (hOf []) := by
  refine fun_deep (pins := []) (l0 := []) (objs := []) (base := 0) (xx_ok tab0_ok []) mixed Tryz.func53 rfl (Nat.le_of_ble_eq_true rfl) rfl rfl ?_
  have hr : List.replicate n [J 0, J 0, J 0, J 0, J 0, J 0, J 0] = rowsL (List.replicate n SLine.zero) := by simp [rowsL, lineD, SLine.zero]
  repeat' ((conv => whnf); first | exact trivial | (with_reducible refine ap_of ?_; kernel_rfl) | (with_reducible refine ds_of ?_; kernel_rfl) | (with_reducible refine eq_of ?_; kernel_rfl) | exact rfl | (intro h; exact absurd h (by decide)) | intro _ | apply And.intro)
  all_goals first
    | exact Int.natCast_nonneg _
    | omega
    | (exfalso; simp_all; done)
    | (exfalso; simp_all; omega)
    | (rw [← hr]; rfl)
    | rfl
    | trace_state
theorem sameCore_ok (ls : List SLine) (w : SOp) (hl : ls.length < 1000) : FunOK Tryz.prog 27 [.agg [.d (.row (rowsL ls)), I w.kind, I w.line, I w.value], .agg [.d (.row (rowsL ls)), I w.kind, I w.line, I w.value]] (hOf []) (Vb true) (hOf []) := by
  refine fun_deep (pins := []) (l0 := []) (objs := []) (base := 0) (xx_ok tab0_ok []) mixed Tryz.func27 rfl (Nat.le_of_ble_eq_true rfl) rfl rfl ?_
  repeat' ((conv => whnf); first | exact trivial | (with_reducible refine ap_of ?_; kernel_rfl) | (with_reducible refine ds_of ?_; kernel_rfl) | (with_reducible refine eq_of ?_; kernel_rfl) | exact rfl | (intro h; exact absurd h (by decide)) | intro _ | apply And.intro)
  all_goals first
    | rfl
    | (exfalso; simp_all; done)
    | skip
  (conv => whnf)
  refine loop_keep [2, 3] 40 [] {k : Nat // k ≤ ls.length} (fun k => [(4, Vb false), (22, V ls.length), (23, V k.1)]) (fun k => [(0, .live (.box [.d (.row (rowsL ls)), I w.kind, I w.line, I w.value] 49)), (8, .live (.box [.d (.row (rowsL ls)), I w.kind, I w.line, I w.value] 49))]) (fun k => ls.length - k.1) ⟨0, Nat.zero_le _⟩ ?_
  (conv => whnf)
  refine ⟨?_, ?_⟩
  · repeat' ((conv => whnf); first | exact trivial | exact rfl | apply And.intro)
    all_goals first | exact int_eq (show ((rowsL ls).length : Int) = ls.length by rw [rowsL_len]) | trace_state
  · rintro ⟨k, hk⟩
    have hb := hl
    repeat' ((conv => whnf); first | exact trivial | (with_reducible refine ap_of ?_; kernel_rfl) | (with_reducible refine ds_of ?_; kernel_rfl) | (with_reducible refine eq_of ?_; kernel_rfl) | exact rfl | (intro h; exact absurd h (by decide)) | intro _ | apply And.intro)
    all_goals first
      | (have hlt : k < ls.length := (by have := k_lt (k := k) (n := ls.length) (by assumption); omega)
         first
           | first | exact Int.natCast_nonneg _ | (rw [rowsL_len]; exact Int.ofNat_lt.2 (show (k : Nat) < _ from hlt)) | (rw [show ∀ n : Nat, ((n : Nat) : Int).toNat = n from Int.toNat_natCast, rowsL_get hlt]; first | rfl | exact Nat.le_refl _) | (rw [show ∀ n : Nat, ((n : Nat) : Int).toNat = n from Int.toNat_natCast, rowsL_len]; exact hlt)
           | rfl
           | (exfalso; simp_all; done)
           | ((conv => whnf)
              refine ⟨⟨k + 1, hlt⟩, [], ?_, ?_⟩
              · show ls.length - (k + 1) < ls.length - k
                omega
              · repeat' ((conv => whnf); first | exact trivial | exact rfl | apply And.intro)
                exact succ_eq k (by omega)))
      | (have hke : k = ls.length := (by have := k_ge (k := k) (n := ls.length) (by assumption); omega)
         first | rfl | trace_state)
      | trace_state
end Go.Proofs.YtpgeopefamomnaeGreat

namespace Go.Proofs.YtpgeopefamomnaeGreat
open Go.RowKit
set_option linter.unusedVariables false
set_option maxRecDepth 100000
set_option maxHeartbeats 4000000 in
theorem ctimer_ok (ls : List SLine) (w : SOp) (id home : Int) (hm : ls.length ≤ 1000000) : FunOK Tryz.prog 96 [.agg (coreC (rowsL ls) w), V id, V home] (hOf []) (Ro (R msgD (tmr id home ls ls.length))) (hOf []) := by
  refine fun_deep (pins := []) (l0 := []) (objs := []) (base := 0) (xx_ok tab0_ok []) mixed Tryz.func96 rfl (Nat.le_of_ble_eq_true rfl) rfl rfl ?_
  repeat' ((conv => whnf); first | exact trivial | (with_reducible refine ap_of ?_; kernel_rfl) | (with_reducible refine ds_of ?_; kernel_rfl) | (with_reducible refine eq_of ?_; kernel_rfl) | exact rfl | (intro h; exact absurd h (by decide)) | intro _ | apply And.intro)
  refine loop_keep [1, 2, 3, 6] 20 [(1, ?_)] {k : Nat // k ≤ ls.length} (fun k => [(7, .c (.own 1)), (12, V ls.length), (13, V k.1)]) (fun k => [(0, .live (.box (coreC (rowsL ls) w) 49)), (8, .live (.row [] 8 98 false)), (1, .live (.row (R msgD (tmr id home ls k.1)) 8 98 false))]) (fun k => ls.length - k.1) ⟨0, Nat.zero_le _⟩ ?_
  rotate_left
  (conv => whnf)
  refine ⟨?_, ?_⟩
  · repeat' ((conv => whnf); first | exact trivial | exact rfl | apply And.intro)
    all_goals first | exact int_eq (show ((rowsL ls).length : Int) = ls.length by rw [rowsL_len]) | trace_state
  · rintro ⟨k, hk⟩
    have hone : ∀ x : Msg, (msgD x).length = 8 := fun _ => rfl
    repeat' ((conv => whnf); first | exact trivial | (with_reducible refine ap_of ?_; kernel_rfl) | (with_reducible refine ds_of ?_; kernel_rfl) | (with_reducible refine eq_of ?_; kernel_rfl) | exact rfl | (intro h; exact absurd h (by decide)) | intro _ | apply And.intro)
    all_goals first
      | (have hlt : k < ls.length := (by have := k_lt (k := k) (n := ls.length) (by assumption); omega)
         have hg : (rowsL ls).getD k [] = lineD (ls.getD k line0) := rowsL_get hlt
         have hw : (((rowsL ls).getD ((k : Nat) : Int).toNat []).getD (0 + 1 + 1) dz).toI = (ls.getD k line0).want := by
           rw [show ∀ n : Nat, ((n : Nat) : Int).toNat = n from Int.toNat_natCast, hg]
           rfl
         first
           | first | exact Int.natCast_nonneg _ | (rw [rowsL_len]; exact Int.ofNat_lt.2 (show (k : Nat) < _ from hlt)) | (rw [show ∀ n : Nat, ((n : Nat) : Int).toNat = n from Int.toNat_natCast, rowsL_get hlt]; first | rfl | exact Nat.le_refl _) | (rw [show ∀ n : Nat, ((n : Nat) : Int).toNat = n from Int.toNat_natCast, rowsL_len]; exact hlt)
           | rfl
           | (rw [R_len]; have := tmr_len id home ls k hk; simp; omega)
           | (refine len_set1 (by assumption) ?_; rfl)
           | (simp; done)
           | (exfalso; simp_all; done)
           | ((conv => whnf)
              refine ⟨⟨k + 1, hlt⟩, [(1, ?_)], ?_, ?_⟩
              rotate_left
              · show ls.length - (k + 1) < ls.length - k
                omega
              · repeat' ((conv => whnf); first | exact trivial | exact rfl | apply And.intro)
                · exact succ_eq k (by omega)
                · refine row_eq ?_
                  rw [tmr_step id home hlt]
                  first
                    | (have h0 : ((ls.getD k line0).want != 0) = false := by rw [← hw]; assumption
                       rw [if_pos (by simpa using h0)]
                       simp only [List.append_nil]
                       done)
                    | (have h0 : ((ls.getD k line0).want != 0) = false := by rw [← hw]; assumption
                       rw [if_pos (by simpa using h0)]
                       rfl)
                    | (have h0 : ((ls.getD k line0).want != 0) = true := by rw [← hw]; assumption
                       have h1 : ((ls.getD k line0).want == 3) = true := by rw [← hw]; assumption
                       rw [if_neg (by simpa using h0), show ∀ n : Nat, ((n : Nat) : Int).toNat = n from Int.toNat_natCast, hg]
                       exact (congrArg (fun x => R msgD (tmr id home ls k) ++ [x]) (ask_row (ls.getD k line0) id home k _ (if_pos (by simpa using h1)).symm)).trans (R_snoc msgD _ _))
                    | (have h0 : ((ls.getD k line0).want != 0) = true := by rw [← hw]; assumption
                       have h1 : ((ls.getD k line0).want == 3) = false := by rw [← hw]; assumption
                       rw [if_neg (by simpa using h0), show ∀ n : Nat, ((n : Nat) : Int).toNat = n from Int.toNat_natCast, hg]
                       exact (congrArg (fun x => R msgD (tmr id home ls k) ++ [x]) (ask_row (ls.getD k line0) id home k _ (if_neg (by simpa using h1)).symm)).trans (R_snoc msgD _ _)))
           | skip)
      | (have hke : k = ls.length := (by have := k_ge (k := k) (n := ls.length) (by assumption); omega)
         subst hke
         first | rfl | trace_state)
      | trace_state
end Go.Proofs.YtpgeopefamomnaeGreat

namespace Go.Proofs.YtpgeopefamomnaeGreat
open Go.RowKit
set_option linter.unusedVariables false
set_option maxRecDepth 100000
theorem chear_core (c : SCore) (id home : Int) (m : Msg) (hL : c.lines.length < 1000) (hwt : 0 ≤ m.line → m.line < c.lines.length → ((c.line m.line.toNat).want ≠ 0 → (1 ≤ c.wait.kind ∧ c.wait.kind ≤ 4) ∧ (0 ≤ c.wait.line ∧ c.wait.line < 1000) ∧ 0 ≤ c.wait.value ∧ c.wait.value ≤ 255) ∧ 0 ≤ (c.line m.line.toNat).gave) : FunOK Tryz.prog 109 [.agg (coreC (rowsL c.lines) c.wait), V id, V home, .agg (msgC m)] (hOf []) (hearVF (hearF c id home m)) (hOf []) := by
  have hlen : (rowsL c.lines).length = c.lines.length := rowsL_len _
  unfold hearF
  by_cases ho : m.line < 0 ∨ (c.lines.length : Int) ≤ m.line
  · rw [if_pos ho]
    exact chear_out (rowsL c.lines) (rowsL_one _) (by rw [hlen]; exact hL) c.wait m.kind m.frm m.to m.line m.serial m.turn m.value m.alone id home (by rw [hlen]; exact ho)
  · rw [if_neg ho]
    have hw := hwt (by omega) (by omega)
    have h := hear_in (rowsL c.lines) (rowsL_one _) (by rw [hlen]; exact hL) (c.line m.line.toNat) c.wait m.kind m.frm m.to m.line m.serial m.turn m.value m.alone id home (by omega) (by rw [hlen]; omega) (rowsL_get (by omega)) hw.1 hw.2 _ rfl
    unfold hearV at h
    rw [rowsL_set] at h
    exact h
def cHearT (xs : List AV) (l0 : List (Nat × OS)) : Ans := match xs, l0 with
  | [.agg [.d (.row es), .d (.int .i64 a), .d (.int .i64 b), .d (.int .i64 d)], .c (.d (.int .i64 id)), .c (.d (.int .i64 home)), .agg [.d (.int .i64 mk), .d (.int .i64 mf), .d (.int .i64 mt), .d (.int .i64 ml), .d (.int .i64 ms), .d (.int .i64 mu), .d (.int .i64 mv), .d (.bool ma)]], [] => some (∃ ls, es = rowsL ls ∧ ls.length < 1000 ∧ (0 ≤ ml → ml < ls.length → ((ls.getD ml.toNat SLine.zero).want ≠ 0 → (1 ≤ a ∧ a ≤ 4) ∧ (0 ≤ b ∧ b < 1000) ∧ 0 ≤ d ∧ d ≤ 255) ∧ 0 ≤ (ls.getD ml.toNat SLine.zero).gave), hearVF (hearF ⟨linesR es, ⟨a, b, d⟩⟩ id home ⟨mk, mf, mt, ml, ms, mu, mv, ma⟩), [])
  | _, _ => none
theorem cHear_does : Does Tryz.prog 109 cHearT := ⟨⟨_, Tryz.func109, by decide, rfl⟩, fun xs l0 p v objs h hp => by
  unfold cHearT at h
  split at h
  · cases h
    obtain ⟨ls, rfl, h1, h2⟩ := hp
    rw [linesR_rows]
    exact chear_core ⟨ls, ⟨_, _, _⟩⟩ _ _ (Msg.mk _ _ _ _ _ _ _ _) h1 h2
  · cases h⟩
theorem cBegin_does : Does Tryz.prog 88 beginT := ⟨⟨_, Tryz.func88, by decide, rfl⟩, fun xs l0 p v objs h hp => by
  unfold beginT at h
  split at h
  · cases h
    obtain ⟨ls, rfl, h1, h2⟩ := hp
    rw [linesR_rows]
    exact cbegin_any ⟨ls, ⟨_, _, _⟩⟩ _ _ (SOp.mk _ _ _) h1 h2
  · cases h⟩
theorem cTimer_does : Does Tryz.prog 96 timerT := ⟨⟨_, Tryz.func96, by decide, rfl⟩, fun xs l0 p v objs h hp => by
  unfold timerT at h
  split at h
  · cases h
    obtain ⟨ls, rfl, h1⟩ := hp
    rw [linesR_rows]
    rename_i a b d id home
    have h2 := ctimer_ok ls ⟨a, b, d⟩ id home h1
    unfold tmr at h2
    rw [List.take_of_length_le (Nat.le_refl _)] at h2
    exact h2
  · cases h⟩
def cNewT (xs : List AV) (l0 : List (Nat × OS)) : Ans := match xs, l0 with
  | [.c (.d (.int .i64 n))], [] => some (0 ≤ n ∧ n < 1000, .agg (coreC (rowsL (List.replicate n.toNat SLine.zero)) SOp.zero), [])
  | _, _ => none
theorem cNew_does : Does Tryz.prog 53 cNewT := ⟨⟨_, Tryz.func53, by decide, rfl⟩, fun xs l0 p v objs h hp => by
  unfold cNewT at h
  split at h
  · cases h
    obtain ⟨h1, h2⟩ := hp
    obtain ⟨k, rfl⟩ := Int.eq_ofNat_of_zero_le h1
    exact cnew_ok k (by omega)
  · cases h⟩
def sameCoreT (xs : List AV) (l0 : List (Nat × OS)) : Ans := match xs, l0 with
  | [.agg [.d (.row es), .d (.int .i64 a), .d (.int .i64 b), .d (.int .i64 d)], .agg [.d (.row es'), .d (.int .i64 a'), .d (.int .i64 b'), .d (.int .i64 d')]], [] => some (∃ ls, es = rowsL ls ∧ es' = rowsL ls ∧ ls.length < 1000 ∧ a' = a ∧ b' = b ∧ d' = d, Vb true, [])
  | _, _ => none
theorem sameCore_does : Does Tryz.prog 27 sameCoreT := ⟨⟨_, Tryz.func27, by decide, rfl⟩, fun xs l0 p v objs h hp => by
  unfold sameCoreT at h
  split at h
  · cases h
    obtain ⟨ls, rfl, rfl, h1, rfl, rfl, rfl⟩ := hp
    exact sameCore_ok ls (SOp.mk _ _ _) h1
  · cases h⟩
/-- What a core of such a chip has. -/
structure CoreOK (k : SCore) : Prop where
  len : k.lines.length < 1000
  ser : ∀ i, i < k.lines.length → 0 ≤ (k.line i).serial
  see : ∀ i, i < k.lines.length → 0 ≤ (k.line i).seen
  gav : ∀ i, i < k.lines.length → 0 ≤ (k.line i).gave
  wai : ∀ i, i < k.lines.length → (k.line i).want ≠ 0 → (1 ≤ k.wait.kind ∧ k.wait.kind ≤ 4) ∧ (0 ≤ k.wait.line ∧ k.wait.line < 1000) ∧ 0 ≤ k.wait.value ∧ k.wait.value ≤ 255
theorem core_ok {n L : Nat} {x : SChip} {V : Nat → Int} (X : XI n L x V) {p : Nat} (hp : p < n) : CoreOK (x.core p) := by
  have hnl := X.nl p hp
  have hl4 := X.l4
  refine ⟨by omega, fun i hi => ?_, fun i hi => ?_, fun i hi => ?_, fun i hi hw => ?_⟩
  · have h := (X.ci i (by omega)).sr p hp
    have e : (x.core p).line i = lineAt x i p := rfl
    rw [e]; omega
  · have h := (X.ci i (by omega)).gs p hp
    have e : (x.core p).line i = lineAt x i p := rfl
    rw [e]; omega
  · have h := (X.ci i (by omega)).gs p hp
    have e : (x.core p).line i = lineAt x i p := rfl
    rw [e]; omega
  · have WS := (X.wi p hp).some i hi hw
    omega
end Go.Proofs.YtpgeopefamomnaeGreat

