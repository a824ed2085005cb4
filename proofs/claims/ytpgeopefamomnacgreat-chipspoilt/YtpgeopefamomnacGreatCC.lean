/- The developers' core begins. -/
import Derived.Test.YtpgeopefamomnacGreatCA
import Derived.Test.YtpgeopefamomnacGreatRQ
set_option linter.unusedSimpArgs false
namespace Go.Proofs.YtpgeopefamomnacGreat
open Go.RowKit
set_option linter.unusedVariables false
set_option maxRecDepth 100000

theorem tell0 (x k l v : Int) : tellF x ⟨k, 0, v⟩ = tellF x ⟨k, l, v⟩ := rfl
set_option maxHeartbeats 8000000 in
theorem cbegin_in (L : Row) (hu : ∀ u ∈ L, u.length = 7) (hL : L.length < 1000) (l : SLine) (w : SOp) (ok ol ov : Int) (id home : Int) (h1 : 1 ≤ ok) (h4 : ok ≤ 4) (h5 : 0 ≤ ol) (h6 : ol < (L.length : Int)) (h7 : 0 ≤ ov) (h8 : ov ≤ 255) (hg : L.getD ol.toNat [] = lineD l) (hw : w.kind = 0) (hs0 : 0 ≤ l.serial) (hs : l.serial < 65535) (r : SLine × Int × Int) (hr : beginL l ⟨ok, ol, ov⟩ = r) : FunOK Tryz.prog 60 [.agg [.d (.row L), I w.kind, I w.line, I w.value], V id, V home, .agg [I ok, I ol, I ov]] (hOf []) (if r.2.1 = 0 then .tup [.agg (coreC (L.set ol.toNat (lineD r.1)) w), Ro [], Ro [doneD id ⟨ok, ol, ov⟩ r.2.2], V 0] else .tup [.agg (coreC (L.set ol.toNat (lineD r.1)) ⟨ok, ol, ov⟩), Ro [msgD (asksF r.1 id home ol)], Ro [], V 0]) (hOf []) := by
  refine fun_deep (pins := []) (l0 := []) (objs := []) (base := 0) (xx_ok tabC1_ok [114]) mixed Tryz.func60 rfl (Nat.le_of_ble_eq_true rfl) rfl rfl ?_
  have hwr : IntKind.i64.wrap (l.serial + 1) = l.serial + 1 := wrap_in (by omega) (by omega)
  have hn : ol.toNat < L.length := by omega
  have hx : ¬ ((decide (ok < 1) == false) = false) := by simp; omega
  have hx2 : ¬ ((decide (ol < 0) == false) = false) := by simp; omega
  have hx3 : ¬ ((decide (ov < 0) == false) = false) := by simp; omega
  have hx4 : ¬ (decide (ok > 4) = true) := by simp; omega
  have hx5 : ¬ (decide (ol ≥ (L.length : Int)) = true) := by simp; omega
  have hx6 : ¬ (decide (ov > 255) = true) := by simp; omega
  have hx7 : ¬ (((w.kind != 0) == false) = false) := by rw [hw]; decide
  repeat' ((conv => whnf); first | exact trivial | (with_reducible refine ap_of ?_; kernel_rfl) | (with_reducible refine ds_of ?_; kernel_rfl) | (with_reducible refine eq_of ?_; kernel_rfl) | exact rfl | (intro h; exact absurd h (by decide)) | (intro h; exact absurd h hx) | (intro h; exact absurd h hx2) | (intro h; exact absurd h hx3) | (intro h; exact absurd h hx4) | (intro h; exact absurd h hx5) | (intro h; exact absurd h hx6) | (intro h; exact absurd h hx7) | intro _ | apply And.intro)
  all_goals clear hx hx2 hx3 hx4 hx5 hx6 hx7
  all_goals first
    | exact h5
    | exact h6
    | exact hn
    | exact hu _ (by assumption)
    | rfl
    | (rw [hg]; first | rfl | exact Nat.le_refl _)
    | (simp; done)
    | (simp; omega)
    | (refine len_set1 (by assumption) ?_; rfl)
    | exact ⟨_, rfl⟩
    | omega
    | skip
  all_goals simp only [hg, lineD, copyR, List.getD_cons_zero, List.getD_cons_succ, DV.toI, DV.toB, DV.toR, Nat.zero_add, hwr] at *
  all_goals first
    | assumption
    | rfl
    | omega
    | exact hu _ (by assumption)
    | (simp; done)
    | (simp; omega)
    | (clear hr; simp_all; done)
    | (exfalso; clear hr; simp_all; done)
    | (exfalso; clear hr; simp_all; omega)
    | (rw [← hr]; clear hr; unfold beginL; simp_all [-Int.not_le, -Int.not_lt, tell0, lineD, coreC, doneD, msgD, asksF, pickE]; done)
    | (have e4 : ok = 4 := by simpa using ‹(ok == 4) = true›
       have n2 : ¬ l.state = 2 := by simpa using ‹(l.state == 2) = false›
       subst e4
       have hb : beginL l ⟨4, ol, ov⟩ = ({ l with state := 0, value := 0 }, 0, 0) := (if_pos rfl).trans (if_neg n2)
       rw [← hr, hb]
       rfl)
    | (have n4 : ¬ ok = 4 := by simpa using ‹(ok == 4) = false›
       by_cases e1 : ok = 1
       · have hs1 : l.state = 1 ∨ l.state = 2 := by
           first
             | exact .inr (by simpa using ‹(l.state == 2) = true›)
             | exact .inl (by simpa using ‹(l.state != 1) = false›)
         subst e1
         have hb : beginL l ⟨1, ol, ov⟩ = (l, 0, l.value) := (if_neg (show ¬ ((1 : Int) = 4) by decide)).trans ((if_pos rfl).trans (if_pos hs1))
         rw [← hr, hb]
         rfl
       · have h2 : l.state = 2 := by
           first
             | exact (by simpa using ‹(l.state == 2) = true›)
             | exact absurd (by simpa using ‹(ok != 1) = false›) e1
         have hb : beginL l ⟨ok, ol, ov⟩ = ({ l with value := (tellF l.value ⟨ok, ol, ov⟩).1 }, 0, (tellF l.value ⟨ok, ol, ov⟩).2) := (if_neg n4).trans ((if_neg e1).trans (if_pos h2))
         rw [← hr, hb]
         rfl)
    | trace_state
end Go.Proofs.YtpgeopefamomnacGreat

/- The developers' core begins, whatever is asked. -/
namespace Go.Proofs.YtpgeopefamomnacGreat
open Go.RowKit
set_option linter.unusedVariables false
set_option maxRecDepth 100000

section
variable (L : Row) (w o : SOp) (id home : Int)
set_option maxHeartbeats 4000000
theorem cbegin_k1 (h : o.kind < 1) : FunOK Tryz.prog 60 [.agg (coreC L w), V id, V home, .agg (opC o)] (hOf []) (noV 1) (hOf []) := by
  refine fun_deep (pins := []) (l0 := []) (objs := []) (base := 0) (xx_ok tabC1_ok [114]) mixed Tryz.func60 rfl (Nat.le_of_ble_eq_true rfl) rfl rfl ?_
  have hx : ¬ ((decide (o.kind < 1) == false) = true) := by simp [h]
  repeat' ((conv => whnf); first | exact trivial | (with_reducible refine ap_of ?_; kernel_rfl) | (with_reducible refine ds_of ?_; kernel_rfl) | (with_reducible refine eq_of ?_; kernel_rfl) | exact rfl | (intro h; exact absurd h (by decide)) | (intro h; exact absurd h hx) | intro _ | apply And.intro)
  all_goals first | rfl | (exfalso; simp_all; done) | (exfalso; simp_all; omega)
theorem cbegin_k4 (h : 4 < o.kind) : FunOK Tryz.prog 60 [.agg (coreC L w), V id, V home, .agg (opC o)] (hOf []) (noV 1) (hOf []) := by
  refine fun_deep (pins := []) (l0 := []) (objs := []) (base := 0) (xx_ok tabC1_ok [114]) mixed Tryz.func60 rfl (Nat.le_of_ble_eq_true rfl) rfl rfl ?_
  have hx : ¬ (decide (o.kind > 4) = false) := by simp [h]
  repeat' ((conv => whnf); first | exact trivial | (with_reducible refine ap_of ?_; kernel_rfl) | (with_reducible refine ds_of ?_; kernel_rfl) | (with_reducible refine eq_of ?_; kernel_rfl) | exact rfl | (intro h; exact absurd h (by decide)) | (intro h; exact absurd h hx) | intro _ | apply And.intro)
  all_goals first | rfl | (exfalso; simp_all; done) | (exfalso; simp_all; omega)
variable (h1 : 1 ≤ o.kind) (h4 : o.kind ≤ 4)
include h1 h4
theorem cbegin_l0 (h : o.line < 0) : FunOK Tryz.prog 60 [.agg (coreC L w), V id, V home, .agg (opC o)] (hOf []) (noV 3) (hOf []) := by
  refine fun_deep (pins := []) (l0 := []) (objs := []) (base := 0) (xx_ok tabC1_ok [114]) mixed Tryz.func60 rfl (Nat.le_of_ble_eq_true rfl) rfl rfl ?_
  have hx : ¬ ((decide (o.line < 0) == false) = true) := by simp [h]
  repeat' ((conv => whnf); first | exact trivial | (with_reducible refine ap_of ?_; kernel_rfl) | (with_reducible refine ds_of ?_; kernel_rfl) | (with_reducible refine eq_of ?_; kernel_rfl) | exact rfl | (intro h; exact absurd h (by decide)) | (intro h; exact absurd h hx) | intro _ | apply And.intro)
  all_goals first | rfl | (exfalso; simp_all; done) | (exfalso; simp_all; omega)
theorem cbegin_l1 (h : (L.length : Int) ≤ o.line) : FunOK Tryz.prog 60 [.agg (coreC L w), V id, V home, .agg (opC o)] (hOf []) (noV 3) (hOf []) := by
  refine fun_deep (pins := []) (l0 := []) (objs := []) (base := 0) (xx_ok tabC1_ok [114]) mixed Tryz.func60 rfl (Nat.le_of_ble_eq_true rfl) rfl rfl ?_
  have hx : ¬ ((decide (o.line ≥ (L.length : Int)) == false) = true) := by simp [h]
  repeat' ((conv => whnf); first | exact trivial | (with_reducible refine ap_of ?_; kernel_rfl) | (with_reducible refine ds_of ?_; kernel_rfl) | (with_reducible refine eq_of ?_; kernel_rfl) | exact rfl | (intro h; exact absurd h (by decide)) | (intro h; exact absurd h hx) | intro _ | apply And.intro)
  all_goals first | rfl | (exfalso; simp_all; done) | (exfalso; simp_all; omega)
theorem cbegin_v0 (h : o.value < 0) : FunOK Tryz.prog 60 [.agg (coreC L w), V id, V home, .agg (opC o)] (hOf []) (noV 3) (hOf []) := by
  refine fun_deep (pins := []) (l0 := []) (objs := []) (base := 0) (xx_ok tabC1_ok [114]) mixed Tryz.func60 rfl (Nat.le_of_ble_eq_true rfl) rfl rfl ?_
  have hx : ¬ ((decide (o.value < 0) == false) = true) := by simp [h]
  repeat' ((conv => whnf); first | exact trivial | (with_reducible refine ap_of ?_; kernel_rfl) | (with_reducible refine ds_of ?_; kernel_rfl) | (with_reducible refine eq_of ?_; kernel_rfl) | exact rfl | (intro h; exact absurd h (by decide)) | (intro h; exact absurd h hx) | intro _ | apply And.intro)
  all_goals first | rfl | (exfalso; simp_all; done) | (exfalso; simp_all; omega)
theorem cbegin_v1 (h : 255 < o.value) : FunOK Tryz.prog 60 [.agg (coreC L w), V id, V home, .agg (opC o)] (hOf []) (noV 3) (hOf []) := by
  refine fun_deep (pins := []) (l0 := []) (objs := []) (base := 0) (xx_ok tabC1_ok [114]) mixed Tryz.func60 rfl (Nat.le_of_ble_eq_true rfl) rfl rfl ?_
  have hx : ¬ (decide (o.value > 255) = false) := by simp [h]
  repeat' ((conv => whnf); first | exact trivial | (with_reducible refine ap_of ?_; kernel_rfl) | (with_reducible refine ds_of ?_; kernel_rfl) | (with_reducible refine eq_of ?_; kernel_rfl) | exact rfl | (intro h; exact absurd h (by decide)) | (intro h; exact absurd h hx) | intro _ | apply And.intro)
  all_goals first | rfl | (exfalso; simp_all; done) | (exfalso; simp_all; omega)
variable (h5 : 0 ≤ o.line) (h6 : o.line < (L.length : Int)) (h7 : 0 ≤ o.value) (h8 : o.value ≤ 255) (l : SLine) (hg : L.getD o.line.toNat [] = lineD l)
include h5 h6 h7 h8 hg
omit hg in
theorem cbegin_w (h : w.kind ≠ 0) : FunOK Tryz.prog 60 [.agg (coreC L w), V id, V home, .agg (opC o)] (hOf []) (noV 8) (hOf []) := by
  refine fun_deep (pins := []) (l0 := []) (objs := []) (base := 0) (xx_ok tabC1_ok [114]) mixed Tryz.func60 rfl (Nat.le_of_ble_eq_true rfl) rfl rfl ?_
  have hx : ¬ (((w.kind != 0) == false) = true) := by simp [h]
  have hn : o.line.toNat < L.length := by omega
  repeat' ((conv => whnf); first | exact trivial | (with_reducible refine ap_of ?_; kernel_rfl) | (with_reducible refine ds_of ?_; kernel_rfl) | (with_reducible refine eq_of ?_; kernel_rfl) | exact rfl | (intro h; exact absurd h (by decide)) | (intro h; exact absurd h hx) | intro _ | apply And.intro)
  all_goals first
    | exact h5
    | exact h6
    | exact hn
    | rfl
    | (exfalso; simp_all; omega)
    | (exfalso; simp_all; done)
theorem cbegin_s (h : 65535 ≤ l.serial) : FunOK Tryz.prog 60 [.agg (coreC L w), V id, V home, .agg (opC o)] (hOf []) (noV 8) (hOf []) := by
  refine fun_deep (pins := []) (l0 := []) (objs := []) (base := 0) (xx_ok tabC1_ok [114]) mixed Tryz.func60 rfl (Nat.le_of_ble_eq_true rfl) rfl rfl ?_
  have hx : ¬ (decide (((L.getD o.line.toNat []).getD (0 + 1 + 1 + 1) dz).toI ≥ 65535) = false) := by rw [hg]; simp [lineD, DV.toI, h]
  have hn : o.line.toNat < L.length := by omega
  repeat' ((conv => whnf); first | exact trivial | (with_reducible refine ap_of ?_; kernel_rfl) | (with_reducible refine ds_of ?_; kernel_rfl) | (with_reducible refine eq_of ?_; kernel_rfl) | exact rfl | (intro h; exact absurd h (by decide)) | (intro h; exact absurd h hx) | intro _ | apply And.intro)
  all_goals first
    | exact h5
    | exact h6
    | exact hn
    | rfl
    | (rw [hg]; first | rfl | exact Nat.le_refl _ | exact Nat.le_of_ble_eq_true rfl)
    | (exfalso; simp_all; omega)
    | (exfalso; simp_all; done)
end
theorem cbegin_any (c : SCore) (id home : Int) (o : SOp) (hL : c.lines.length < 1000) (hs : ∀ i, i < c.lines.length → 0 ≤ (c.line i).serial) : FunOK Tryz.prog 60 [.agg (coreC (rowsL c.lines) c.wait), V id, V home, .agg (opC o)] (hOf []) (beginV (beginF c id home o)) (hOf []) := by
  have hlen : (rowsL c.lines).length = c.lines.length := rowsL_len _
  unfold beginF
  by_cases k1 : o.kind < 1
  · rw [if_pos (.inl k1)]
    exact cbegin_k1 _ _ _ _ _ k1
  by_cases k4 : 4 < o.kind
  · rw [if_pos (.inr k4)]
    exact cbegin_k4 _ _ _ _ _ k4
  rw [if_neg (by omega)]
  have g1 : 1 ≤ o.kind := by omega
  have g4 : o.kind ≤ 4 := by omega
  by_cases l0 : o.line < 0
  · rw [if_pos (.inl l0)]
    exact cbegin_l0 _ _ _ _ _ g1 g4 l0
  by_cases l1 : (c.lines.length : Int) ≤ o.line
  · rw [if_pos (.inr (.inl l1))]
    exact cbegin_l1 _ _ _ _ _ g1 g4 (by rw [hlen]; exact l1)
  by_cases v0 : o.value < 0
  · rw [if_pos (.inr (.inr (.inl v0)))]
    exact cbegin_v0 _ _ _ _ _ g1 g4 v0
  by_cases v1 : 255 < o.value
  · rw [if_pos (.inr (.inr (.inr v1)))]
    exact cbegin_v1 _ _ _ _ _ g1 g4 v1
  rw [if_neg (by omega)]
  have g5 : 0 ≤ o.line := by omega
  have g6 : o.line < ((rowsL c.lines).length : Int) := by rw [hlen]; omega
  have g7 : 0 ≤ o.value := by omega
  have g8 : o.value ≤ 255 := by omega
  have hu : ∀ u ∈ rowsL c.lines, u.length = 7 := rowsL_one _
  have hg : (rowsL c.lines).getD o.line.toNat [] = lineD (c.line o.line.toNat) := rowsL_get (by omega)
  by_cases w0 : c.wait.kind ≠ 0
  · rw [if_pos (.inl w0)]
    exact cbegin_w _ _ _ _ _ g1 g4 g5 g6 g7 g8 w0
  by_cases s0 : 65535 ≤ (c.line o.line.toNat).serial
  · rw [if_pos (.inr s0)]
    exact cbegin_s _ _ _ _ _ g1 g4 g5 g6 g7 g8 _ hg s0
  rw [if_neg (by omega)]
  have h := cbegin_in (rowsL c.lines) hu (by rw [hlen]; exact hL) (c.line o.line.toNat) c.wait o.kind o.line o.value id home g1 g4 g5 g6 g7 g8 hg (by omega) (hs _ (by omega)) (by omega) _ rfl
  rw [rowsL_set] at h
  by_cases b0 : (beginL (c.line o.line.toNat) o).2.1 = 0
  · rw [if_pos b0] at h
    rw [if_pos b0]
    exact h
  · rw [if_neg b0] at h
    rw [if_neg b0]
    exact h
end Go.Proofs.YtpgeopefamomnacGreat
