/- HH1 HH2 HH3 HH8. -/
import Derived.Test.YtpgeopefamomnaeGreatHB
set_option linter.unusedSimpArgs false
set_option linter.unusedSectionVars false
namespace Go.Proofs.YtpgeopefamomnaeGreat
open Go.RowKit
set_option linter.unusedVariables false
set_option linter.unusedSimpArgs false
set_option maxRecDepth 100000
set_option maxHeartbeats 8000000 in
theorem chh1 (l : List SEntry) (hl : l.length ≤ 1000) (hlas : ∀ e ∈ l, e.last.length ≤ 1000) (v o s ph f sr : Int) (al : Bool) (t n : Int) (la : List Int) (p : Nat) (to line serial turn value : Int) (ma : Bool) (id : Int) (h0 : 0 ≤ line) (h1 : line < (l.length : Int)) (h3 : p < la.length) (hg : (R entD l).getD line.toNat [] = entD ⟨v, o, s, ph, f, sr, al, t, n, la⟩) (sh : 0 ≤ s ∧ s < 16) (nd : 0 ≤ n ∧ n < 16) (ow : o < 4) (fo : 0 ≤ f ∧ f < 4) (hla : la.length ≤ 4) (ht : 0 ≤ t) (hso : 0 ≤ o → ph = 1 → True) (r : SEntry × List Msg) (hr : homeL ⟨v, o, s, ph, f, sr, al, t, n, la⟩ line id p ⟨1, (p : Int), to, line, serial, turn, value, ma⟩ = r) : FunOK Tryz.prog 108 [Ro (R entD l), V id, .agg [I 1, I p, I to, I line, I serial, I turn, I value, .d (.bool ma)]] (hOf []) (.tup [Ro ((R entD l).set line.toNat (entD r.1)), Ro (R msgD r.2)]) (hOf []) := by
  refine fun_deep (pins := []) (l0 := []) (objs := []) (base := 0) (xx_ok tabHH_ok ksHH) mixed Tryz.func108 rfl (Nat.le_of_ble_eq_true rfl) rfl rfl ?_
  have hlen : (R entD l).length = l.length := R_len _ _
  have hnl : line.toNat < (R entD l).length := by omega
  have hli : line < ((R entD l).length : Int) := by omega
  have hlr : (((R entD l).getD line.toNat []).getD (0 + 1 + 1 + 1 + 1 + 1 + 1 + 1 + 1 + 1) dz).toR = rowsI la := by rw [hg]; rfl
  have hp4 : p < 4 := by omega
  have h3i : (p : Int) < la.length := by omega
  have hp4i : (p : Int) < 4 := by omega
  have h2 : (0 : Int) ≤ p := Int.natCast_nonneg _
  have hrl : (rowsI la).getD p [] = [.int .i64 (la.getD p 0)] := rowsI_get h3
  have hrn : (rowsI la).length = la.length := rowsI_len la
  have hone : ∀ u ∈ R entD l, u.length = 10 := R_one (f := entD) (fun _ => rfl) l
  have hs : (R entD l).set line.toNat (entD ⟨v, o, s, ph, f, sr, al, t, n, la⟩) = R entD l := by
    rw [← hg]
    have h9 : (R entD l).getD line.toNat [] = (R entD l)[line.toNat] := by simp [List.getD, hnl]
    rw [h9]
    exact List.set_getElem_self hnl
  have hg2 : (R entD l).getD line.toNat [] = [J v, J o, J s, J ph, J f, J sr, .bool al, J t, J n, .row (rowsI la)] := hg
  have tnc : ((p : Nat) : Int).toNat = p := Int.toNat_natCast p
  have same : homeL ⟨v, o, s, ph, f, sr, al, t, n, la⟩ line id p ⟨1, (p : Int), to, line, serial, turn, value, ma⟩ = (⟨v, o, s, ph, f, sr, al, t, n, la⟩, []) → AV.tup [Ro (R entD l), Ro []] = AV.tup [Ro ((R entD l).set line.toNat (entD r.1)), Ro (R msgD r.2)] := fun h => by rw [← hr, h, hs]; rfl
  have hx : ¬ ((!(decide (line < 0) == false)) = true) := by simp; omega
  have hxa : ¬ ((decide (line < 0) == false) = false) := by simp; omega
  have hx2 : ¬ (decide (line ≥ ((R entD l).length : Int)) = true) := by simp; omega
  have hx3 : ¬ ((decide ((p : Int) ≥ 0) == true) = false) := by simp
  have hx4 : ¬ ((!decide ((p : Int) < ((((R entD l).getD line.toNat []).getD (0 + 1 + 1 + 1 + 1 + 1 + 1 + 1 + 1 + 1) dz).toR.length : Int))) = true) := by rw [hlr, hrn]; simp; omega
  repeat' ((conv => whnf); first | exact trivial | (with_reducible refine ap_of ?_; kernel_rfl) | (with_reducible refine ds_of ?_; kernel_rfl) | (with_reducible refine eq_of ?_; kernel_rfl) | exact rfl | (intro h; exact absurd h (by decide)) | (intro h; exact absurd h hxa) | (intro h; exact absurd h hx2) | (intro h; exact absurd h hx3) | (intro h; exact absurd h hx4) | intro _ | apply And.intro)
  all_goals clear hx hxa hx2 hx3 hx4
  all_goals first
    | rfl
    | exact Int.natCast_nonneg _
    | exact h0
    | exact hnl
    | exact hli
    | exact hone _ (by assumption)
    | exact ⟨l, rfl, hl, hlas⟩
    | (rw [hg]; first | rfl | exact Nat.le_refl _ | exact Nat.le_of_ble_eq_true rfl)
    | (rw [hlr, hrn]; omega)
    | (rw [hlr, hrn]; simp; omega)
    | skip
  all_goals simp only [hg2, hlr, copyN, copyR, copyL, hrl, hrn, hlen, List.getD_cons_zero, List.getD_cons_succ, DV.toI, DV.toB, Nat.zero_add, toR_row, tnc, List.getElem_toArray, List.getElem_cons_zero, List.getElem_cons_succ] at *
  all_goals first
    | assumption
    | omega
    | exact rowsI_one _ _ (by assumption)
    | rfl
    | exact typed_int1 rfl
    | (simp; done)
    | (simp; omega)
    | (exfalso; clear same hs hr hg hg2 hlr hrl; simp_all; done)
    | (exfalso; clear same hs hr hg hg2 hlr hrl; simp_all; omega)
    | skip
  all_goals first
    | exact uw fo
    | exact absurd ‹saysF _ _ _ = []› (says_1 _ _ rfl)
    | exact absurd ‹saysF _ _ _ = []› (says_3 _ _ rfl)
    | exact ansH ⟨v, o, s, ph, f, sr, al, t, n, la⟩ (rowsI la) [] hr (no_get 1 (by decide) (Or.inl (b0 (by assumption)))) rfl rfl
    | exact ansH ⟨v, o, s, ph, f, sr, al, t, n, la⟩ (rowsI la) [] hr (no_get 1 (by decide) (Or.inr (Or.inl (lt2 (by assumption))))) rfl rfl
    | exact ansH ⟨v, o, s, ph, f, sr, al, t, n, la⟩ (rowsI la) [] hr (no_get 1 (by decide) (Or.inr (Or.inr (ged (by assumption))))) rfl rfl
    | exact ansH ⟨v, o, s, 1, p, serial, false, IntKind.i64.wrap (t + 1), 0, la.set p serial⟩ ((rowsI la).set p [J serial]) (saysF ⟨v, o, s, 1, p, serial, false, IntKind.i64.wrap (t + 1), 0, []⟩ line id) hr (get_1 1 (by decide) (bne_f2 (by assumption)) (ld (by assumption)) (gef (by assumption)) ht (ged (by assumption))) rfl (rowsI_set _ _ _)
    | exact ansH ⟨v, o, s, 3, p, serial, false, IntKind.i64.wrap (t + 1), 0, la.set p serial⟩ ((rowsI la).set p [J serial]) (saysF ⟨v, o, s, 3, p, serial, false, IntKind.i64.wrap (t + 1), 0, []⟩ line id) hr (get_3 (bne_f2 (by assumption)) (ld (by assumption)) (gef (by assumption)) ht (gef (by assumption))) rfl (rowsI_set _ _ _)
end Go.Proofs.YtpgeopefamomnaeGreat

namespace Go.Proofs.YtpgeopefamomnaeGreat
open Go.RowKit
set_option linter.unusedVariables false
set_option linter.unusedSimpArgs false
set_option maxRecDepth 100000
set_option maxHeartbeats 8000000 in
theorem chh2 (l : List SEntry) (hl : l.length ≤ 1000) (hlas : ∀ e ∈ l, e.last.length ≤ 1000) (v o s ph f sr : Int) (al : Bool) (t n : Int) (la : List Int) (p : Nat) (to line serial turn value : Int) (ma : Bool) (id : Int) (h0 : 0 ≤ line) (h1 : line < (l.length : Int)) (h3 : p < la.length) (hg : (R entD l).getD line.toNat [] = entD ⟨v, o, s, ph, f, sr, al, t, n, la⟩) (sh : 0 ≤ s ∧ s < 16) (nd : 0 ≤ n ∧ n < 16) (ow : o < 4) (fo : 0 ≤ f ∧ f < 4) (hla : la.length ≤ 4) (ht : 0 ≤ t) (hso : 0 ≤ o → ph = 1 → True) (r : SEntry × List Msg) (hr : homeL ⟨v, o, s, ph, f, sr, al, t, n, la⟩ line id p ⟨2, (p : Int), to, line, serial, turn, value, ma⟩ = r) : FunOK Tryz.prog 108 [Ro (R entD l), V id, .agg [I 2, I p, I to, I line, I serial, I turn, I value, .d (.bool ma)]] (hOf []) (.tup [Ro ((R entD l).set line.toNat (entD r.1)), Ro (R msgD r.2)]) (hOf []) := by
  refine fun_deep (pins := []) (l0 := []) (objs := []) (base := 0) (xx_ok tabHH_ok ksHH) mixed Tryz.func108 rfl (Nat.le_of_ble_eq_true rfl) rfl rfl ?_
  have hlen : (R entD l).length = l.length := R_len _ _
  have hnl : line.toNat < (R entD l).length := by omega
  have hli : line < ((R entD l).length : Int) := by omega
  have hlr : (((R entD l).getD line.toNat []).getD (0 + 1 + 1 + 1 + 1 + 1 + 1 + 1 + 1 + 1) dz).toR = rowsI la := by rw [hg]; rfl
  have hp4 : p < 4 := by omega
  have h3i : (p : Int) < la.length := by omega
  have hp4i : (p : Int) < 4 := by omega
  have h2 : (0 : Int) ≤ p := Int.natCast_nonneg _
  have hrl : (rowsI la).getD p [] = [.int .i64 (la.getD p 0)] := rowsI_get h3
  have hrn : (rowsI la).length = la.length := rowsI_len la
  have hone : ∀ u ∈ R entD l, u.length = 10 := R_one (f := entD) (fun _ => rfl) l
  have hs : (R entD l).set line.toNat (entD ⟨v, o, s, ph, f, sr, al, t, n, la⟩) = R entD l := by
    rw [← hg]
    have h9 : (R entD l).getD line.toNat [] = (R entD l)[line.toNat] := by simp [List.getD, hnl]
    rw [h9]
    exact List.set_getElem_self hnl
  have hg2 : (R entD l).getD line.toNat [] = [J v, J o, J s, J ph, J f, J sr, .bool al, J t, J n, .row (rowsI la)] := hg
  have tnc : ((p : Nat) : Int).toNat = p := Int.toNat_natCast p
  have same : homeL ⟨v, o, s, ph, f, sr, al, t, n, la⟩ line id p ⟨2, (p : Int), to, line, serial, turn, value, ma⟩ = (⟨v, o, s, ph, f, sr, al, t, n, la⟩, []) → AV.tup [Ro (R entD l), Ro []] = AV.tup [Ro ((R entD l).set line.toNat (entD r.1)), Ro (R msgD r.2)] := fun h => by rw [← hr, h, hs]; rfl
  have hx : ¬ ((!(decide (line < 0) == false)) = true) := by simp; omega
  have hxa : ¬ ((decide (line < 0) == false) = false) := by simp; omega
  have hx2 : ¬ (decide (line ≥ ((R entD l).length : Int)) = true) := by simp; omega
  have hx3 : ¬ ((decide ((p : Int) ≥ 0) == true) = false) := by simp
  have hx4 : ¬ ((!decide ((p : Int) < ((((R entD l).getD line.toNat []).getD (0 + 1 + 1 + 1 + 1 + 1 + 1 + 1 + 1 + 1) dz).toR.length : Int))) = true) := by rw [hlr, hrn]; simp; omega
  repeat' ((conv => whnf); first | exact trivial | (with_reducible refine ap_of ?_; kernel_rfl) | (with_reducible refine ds_of ?_; kernel_rfl) | (with_reducible refine eq_of ?_; kernel_rfl) | exact rfl | (intro h; exact absurd h (by decide)) | (intro h; exact absurd h hxa) | (intro h; exact absurd h hx2) | (intro h; exact absurd h hx3) | (intro h; exact absurd h hx4) | intro _ | apply And.intro)
  all_goals clear hx hxa hx2 hx3 hx4
  all_goals first
    | rfl
    | exact Int.natCast_nonneg _
    | exact h0
    | exact hnl
    | exact hli
    | exact hone _ (by assumption)
    | exact ⟨l, rfl, hl, hlas⟩
    | (rw [hg]; first | rfl | exact Nat.le_refl _ | exact Nat.le_of_ble_eq_true rfl)
    | (rw [hlr, hrn]; omega)
    | (rw [hlr, hrn]; simp; omega)
    | skip
  all_goals simp only [hg2, hlr, copyN, copyR, copyL, hrl, hrn, hlen, List.getD_cons_zero, List.getD_cons_succ, DV.toI, DV.toB, Nat.zero_add, toR_row, tnc, List.getElem_toArray, List.getElem_cons_zero, List.getElem_cons_succ] at *
  all_goals first
    | assumption
    | omega
    | exact rowsI_one _ _ (by assumption)
    | rfl
    | exact typed_int1 rfl
    | (simp; done)
    | (simp; omega)
    | (exfalso; clear same hs hr hg hg2 hlr hrl; simp_all; done)
    | (exfalso; clear same hs hr hg hg2 hlr hrl; simp_all; omega)
    | skip
  all_goals first
    | exact uw fo
    | exact absurd ‹saysF _ _ _ = []› (says_1 _ _ rfl)
    | exact absurd ‹saysF _ _ _ = []› (says_3 _ _ rfl)
    | exact ansH ⟨v, o, s, ph, f, sr, al, t, n, la⟩ (rowsI la) [] hr (no_get 2 (by decide) (Or.inl (b0 (by assumption)))) rfl rfl
    | exact ansH ⟨v, o, s, ph, f, sr, al, t, n, la⟩ (rowsI la) [] hr (no_get 2 (by decide) (Or.inr (Or.inl (lt2 (by assumption))))) rfl rfl
    | exact ansH ⟨v, o, s, ph, f, sr, al, t, n, la⟩ (rowsI la) [] hr (no_get 2 (by decide) (Or.inr (Or.inr (ged (by assumption))))) rfl rfl
    | exact ansH ⟨v, o, s, 1, p, serial, true, IntKind.i64.wrap (t + 1), 0, la.set p serial⟩ ((rowsI la).set p [J serial]) (saysF ⟨v, o, s, 1, p, serial, true, IntKind.i64.wrap (t + 1), 0, []⟩ line id) hr (get_1 2 (by decide) (bne_f2 (by assumption)) (ld (by assumption)) (gef (by assumption)) ht (ged (by assumption))) rfl (rowsI_set _ _ _)
    | exact (off_rng sh.1 sh.2 h2 hp4i).1
    | exact (off_rng sh.1 sh.2 h2 hp4i).2
    | exact absurd ‹saysF _ _ _ = []› (says_2 _ _ rfl (off_rng sh.1 sh.2 h2 hp4i).1 (off_rng sh.1 sh.2 h2 hp4i).2 (ned (show (offB s p != 0) = true by assumption)))
    | exact ansH ⟨v, o, s, 3, p, serial, true, IntKind.i64.wrap (t + 1), 0, la.set p serial⟩ ((rowsI la).set p [J serial]) (saysF ⟨v, o, s, 3, p, serial, true, IntKind.i64.wrap (t + 1), 0, []⟩ line id) hr (get_x3 (bne_f2 (by assumption)) (ld (by assumption)) (gef (by assumption)) ht (gef (by assumption)) sh.1 sh.2 hp4 (by assumption)) rfl (rowsI_set _ _ _)
    | exact ansH ⟨v, o, s, 2, p, serial, true, IntKind.i64.wrap (t + 1), offB s p, la.set p serial⟩ ((rowsI la).set p [J serial]) (saysF ⟨v, o, s, 2, p, serial, true, IntKind.i64.wrap (t + 1), offB s p, []⟩ line id) hr (get_x2 (bne_f2 (by assumption)) (ld (by assumption)) (gef (by assumption)) ht (gef (by assumption)) sh.1 sh.2 hp4 (by assumption)) rfl (rowsI_set _ _ _)
end Go.Proofs.YtpgeopefamomnaeGreat

namespace Go.Proofs.YtpgeopefamomnaeGreat
open Go.RowKit
set_option linter.unusedVariables false
set_option linter.unusedSimpArgs false
set_option maxRecDepth 100000
set_option maxHeartbeats 8000000 in
theorem chh3 (l : List SEntry) (hl : l.length ≤ 1000) (hlas : ∀ e ∈ l, e.last.length ≤ 1000) (v o s ph f sr : Int) (al : Bool) (t n : Int) (la : List Int) (p : Nat) (to line serial turn value : Int) (ma : Bool) (id : Int) (h0 : 0 ≤ line) (h1 : line < (l.length : Int)) (h3 : p < la.length) (hg : (R entD l).getD line.toNat [] = entD ⟨v, o, s, ph, f, sr, al, t, n, la⟩) (sh : 0 ≤ s ∧ s < 16) (nd : 0 ≤ n ∧ n < 16) (ow : o < 4) (fo : 0 ≤ f ∧ f < 4) (hla : la.length ≤ 4) (ht : 0 ≤ t) (hso : 0 ≤ o → ph = 1 → True) (r : SEntry × List Msg) (hr : homeL ⟨v, o, s, ph, f, sr, al, t, n, la⟩ line id p ⟨3, (p : Int), to, line, serial, turn, value, ma⟩ = r) : FunOK Tryz.prog 108 [Ro (R entD l), V id, .agg [I 3, I p, I to, I line, I serial, I turn, I value, .d (.bool ma)]] (hOf []) (.tup [Ro ((R entD l).set line.toNat (entD r.1)), Ro (R msgD r.2)]) (hOf []) := by
  refine fun_deep (pins := []) (l0 := []) (objs := []) (base := 0) (xx_ok tabHH_ok ksHH) mixed Tryz.func108 rfl (Nat.le_of_ble_eq_true rfl) rfl rfl ?_
  have hlen : (R entD l).length = l.length := R_len _ _
  have hnl : line.toNat < (R entD l).length := by omega
  have hli : line < ((R entD l).length : Int) := by omega
  have hlr : (((R entD l).getD line.toNat []).getD (0 + 1 + 1 + 1 + 1 + 1 + 1 + 1 + 1 + 1) dz).toR = rowsI la := by rw [hg]; rfl
  have hp4 : p < 4 := by omega
  have h3i : (p : Int) < la.length := by omega
  have hp4i : (p : Int) < 4 := by omega
  have h2 : (0 : Int) ≤ p := Int.natCast_nonneg _
  have hrl : (rowsI la).getD p [] = [.int .i64 (la.getD p 0)] := rowsI_get h3
  have hrn : (rowsI la).length = la.length := rowsI_len la
  have hone : ∀ u ∈ R entD l, u.length = 10 := R_one (f := entD) (fun _ => rfl) l
  have hs : (R entD l).set line.toNat (entD ⟨v, o, s, ph, f, sr, al, t, n, la⟩) = R entD l := by
    rw [← hg]
    have h9 : (R entD l).getD line.toNat [] = (R entD l)[line.toNat] := by simp [List.getD, hnl]
    rw [h9]
    exact List.set_getElem_self hnl
  have hg2 : (R entD l).getD line.toNat [] = [J v, J o, J s, J ph, J f, J sr, .bool al, J t, J n, .row (rowsI la)] := hg
  have tnc : ((p : Nat) : Int).toNat = p := Int.toNat_natCast p
  have same : homeL ⟨v, o, s, ph, f, sr, al, t, n, la⟩ line id p ⟨3, (p : Int), to, line, serial, turn, value, ma⟩ = (⟨v, o, s, ph, f, sr, al, t, n, la⟩, []) → AV.tup [Ro (R entD l), Ro []] = AV.tup [Ro ((R entD l).set line.toNat (entD r.1)), Ro (R msgD r.2)] := fun h => by rw [← hr, h, hs]; rfl
  have hx : ¬ ((!(decide (line < 0) == false)) = true) := by simp; omega
  have hxa : ¬ ((decide (line < 0) == false) = false) := by simp; omega
  have hx2 : ¬ (decide (line ≥ ((R entD l).length : Int)) = true) := by simp; omega
  have hx3 : ¬ ((decide ((p : Int) ≥ 0) == true) = false) := by simp
  have hx4 : ¬ ((!decide ((p : Int) < ((((R entD l).getD line.toNat []).getD (0 + 1 + 1 + 1 + 1 + 1 + 1 + 1 + 1 + 1) dz).toR.length : Int))) = true) := by rw [hlr, hrn]; simp; omega
  repeat' ((conv => whnf); first | exact trivial | (with_reducible refine ap_of ?_; kernel_rfl) | (with_reducible refine ds_of ?_; kernel_rfl) | (with_reducible refine eq_of ?_; kernel_rfl) | exact rfl | (intro h; exact absurd h (by decide)) | (intro h; exact absurd h hxa) | (intro h; exact absurd h hx2) | (intro h; exact absurd h hx3) | (intro h; exact absurd h hx4) | intro _ | apply And.intro)
  all_goals clear hx hxa hx2 hx3 hx4
  all_goals first
    | rfl
    | exact Int.natCast_nonneg _
    | exact h0
    | exact hnl
    | exact hli
    | exact hone _ (by assumption)
    | exact ⟨l, rfl, hl, hlas⟩
    | (rw [hg]; first | rfl | exact Nat.le_refl _ | exact Nat.le_of_ble_eq_true rfl)
    | (rw [hlr, hrn]; omega)
    | (rw [hlr, hrn]; simp; omega)
    | skip
  all_goals simp only [hg2, hlr, copyN, copyR, copyL, hrl, hrn, hlen, List.getD_cons_zero, List.getD_cons_succ, DV.toI, DV.toB, Nat.zero_add, toR_row, tnc, List.getElem_toArray, List.getElem_cons_zero, List.getElem_cons_succ] at *
  all_goals first
    | assumption
    | omega
    | exact rowsI_one _ _ (by assumption)
    | rfl
    | exact typed_int1 rfl
    | (simp; done)
    | (simp; omega)
    | (exfalso; clear same hs hr hg hg2 hlr hrl; simp_all; done)
    | (exfalso; clear same hs hr hg hg2 hlr hrl; simp_all; omega)
    | skip
  all_goals first
    | exact ansH ⟨v, o, s, ph, f, sr, al, t, n, la⟩ (rowsI la) [] hr (no_put (ned (by assumption))) rfl rfl
    | (refine lenH_one (by assumption) ?_; rfl)
    | exact ansH ⟨value, -1, s, ph, f, sr, al, t, n, la.set p serial⟩ ((rowsI la).set p [J serial]) [⟨11, id, p, line, serial, 0, 0, false⟩] hr (put_1 (by simpa using ‹(ph != 0) = false›) (gtd (by assumption)) (eqd (by assumption))) rfl (rowsI_set _ _ _)
    | exact ansH ⟨v, o, s, ph, f, sr, al, t, n, la.set p serial⟩ ((rowsI la).set p [J serial]) [⟨11, id, p, line, serial, 0, 0, false⟩] hr (put_2 (by simpa using ‹(ph != 0) = false›) (gtd (by assumption)) (eqf (by assumption))) rfl (rowsI_set _ _ _)
    | exact ansH ⟨v, o, s, ph, f, sr, al, t, n, la⟩ (rowsI la) [⟨11, id, p, line, serial, 0, 0, false⟩] hr (put_3 (by simpa using ‹(ph != 0) = false›) (gtf (by assumption))) rfl rfl
end Go.Proofs.YtpgeopefamomnaeGreat

namespace Go.Proofs.YtpgeopefamomnaeGreat
open Go.RowKit
set_option linter.unusedVariables false
set_option linter.unusedSimpArgs false
set_option maxRecDepth 100000
set_option maxHeartbeats 8000000 in
theorem chh8 (l : List SEntry) (hl : l.length ≤ 1000) (hlas : ∀ e ∈ l, e.last.length ≤ 1000) (v o s ph f sr : Int) (al : Bool) (t n : Int) (la : List Int) (p : Nat) (to line serial turn value : Int) (ma : Bool) (id : Int) (h0 : 0 ≤ line) (h1 : line < (l.length : Int)) (h3 : p < la.length) (hg : (R entD l).getD line.toNat [] = entD ⟨v, o, s, ph, f, sr, al, t, n, la⟩) (sh : 0 ≤ s ∧ s < 16) (nd : 0 ≤ n ∧ n < 16) (ow : o < 4) (fo : 0 ≤ f ∧ f < 4) (hla : la.length ≤ 4) (ht : 0 ≤ t) (hso : 0 ≤ o → ph = 1 → True) (r : SEntry × List Msg) (hr : homeL ⟨v, o, s, ph, f, sr, al, t, n, la⟩ line id p ⟨8, (p : Int), to, line, serial, turn, value, ma⟩ = r) : FunOK Tryz.prog 108 [Ro (R entD l), V id, .agg [I 8, I p, I to, I line, I serial, I turn, I value, .d (.bool ma)]] (hOf []) (.tup [Ro ((R entD l).set line.toNat (entD r.1)), Ro (R msgD r.2)]) (hOf []) := by
  refine fun_deep (pins := []) (l0 := []) (objs := []) (base := 0) (xx_ok tabHH_ok ksHH) mixed Tryz.func108 rfl (Nat.le_of_ble_eq_true rfl) rfl rfl ?_
  have hlen : (R entD l).length = l.length := R_len _ _
  have hnl : line.toNat < (R entD l).length := by omega
  have hli : line < ((R entD l).length : Int) := by omega
  have hlr : (((R entD l).getD line.toNat []).getD (0 + 1 + 1 + 1 + 1 + 1 + 1 + 1 + 1 + 1) dz).toR = rowsI la := by rw [hg]; rfl
  have hp4 : p < 4 := by omega
  have h3i : (p : Int) < la.length := by omega
  have hp4i : (p : Int) < 4 := by omega
  have h2 : (0 : Int) ≤ p := Int.natCast_nonneg _
  have hrl : (rowsI la).getD p [] = [.int .i64 (la.getD p 0)] := rowsI_get h3
  have hrn : (rowsI la).length = la.length := rowsI_len la
  have hone : ∀ u ∈ R entD l, u.length = 10 := R_one (f := entD) (fun _ => rfl) l
  have hs : (R entD l).set line.toNat (entD ⟨v, o, s, ph, f, sr, al, t, n, la⟩) = R entD l := by
    rw [← hg]
    have h9 : (R entD l).getD line.toNat [] = (R entD l)[line.toNat] := by simp [List.getD, hnl]
    rw [h9]
    exact List.set_getElem_self hnl
  have hg2 : (R entD l).getD line.toNat [] = [J v, J o, J s, J ph, J f, J sr, .bool al, J t, J n, .row (rowsI la)] := hg
  have tnc : ((p : Nat) : Int).toNat = p := Int.toNat_natCast p
  have same : homeL ⟨v, o, s, ph, f, sr, al, t, n, la⟩ line id p ⟨8, (p : Int), to, line, serial, turn, value, ma⟩ = (⟨v, o, s, ph, f, sr, al, t, n, la⟩, []) → AV.tup [Ro (R entD l), Ro []] = AV.tup [Ro ((R entD l).set line.toNat (entD r.1)), Ro (R msgD r.2)] := fun h => by rw [← hr, h, hs]; rfl
  have hx : ¬ ((!(decide (line < 0) == false)) = true) := by simp; omega
  have hxa : ¬ ((decide (line < 0) == false) = false) := by simp; omega
  have hx2 : ¬ (decide (line ≥ ((R entD l).length : Int)) = true) := by simp; omega
  have hx3 : ¬ ((decide ((p : Int) ≥ 0) == true) = false) := by simp
  have hx4 : ¬ ((!decide ((p : Int) < ((((R entD l).getD line.toNat []).getD (0 + 1 + 1 + 1 + 1 + 1 + 1 + 1 + 1 + 1) dz).toR.length : Int))) = true) := by rw [hlr, hrn]; simp; omega
  repeat' ((conv => whnf); first | exact trivial | (with_reducible refine ap_of ?_; kernel_rfl) | (with_reducible refine ds_of ?_; kernel_rfl) | (with_reducible refine eq_of ?_; kernel_rfl) | exact rfl | (intro h; exact absurd h (by decide)) | (intro h; exact absurd h hxa) | (intro h; exact absurd h hx2) | (intro h; exact absurd h hx3) | (intro h; exact absurd h hx4) | intro _ | apply And.intro)
  all_goals clear hx hxa hx2 hx3 hx4
  all_goals first
    | rfl
    | exact Int.natCast_nonneg _
    | exact h0
    | exact hnl
    | exact hli
    | exact hone _ (by assumption)
    | exact ⟨l, rfl, hl, hlas⟩
    | (rw [hg]; first | rfl | exact Nat.le_refl _ | exact Nat.le_of_ble_eq_true rfl)
    | (rw [hlr, hrn]; omega)
    | (rw [hlr, hrn]; simp; omega)
    | skip
  all_goals simp only [hg2, hlr, copyN, copyR, copyL, hrl, hrn, hlen, List.getD_cons_zero, List.getD_cons_succ, DV.toI, DV.toB, Nat.zero_add, toR_row, tnc, List.getElem_toArray, List.getElem_cons_zero, List.getElem_cons_succ] at *
  all_goals first
    | assumption
    | omega
    | exact rowsI_one _ _ (by assumption)
    | rfl
    | exact typed_int1 rfl
    | (simp; done)
    | (simp; omega)
    | (exfalso; clear same hs hr hg hg2 hlr hrl; simp_all; done)
    | (exfalso; clear same hs hr hg hg2 hlr hrl; simp_all; omega)
    | skip
  all_goals first
    | exact uw fo
    | exact absurd ‹saysF _ _ _ = []› (says_1 _ _ rfl)
    | exact absurd ‹saysF _ _ _ = []› (says_3 _ _ rfl)
    | exact ansH ⟨v, o, s, ph, f, sr, al, t, n, la⟩ (rowsI la) [] hr (no_gone (Or.inl (pn (by assumption)))) rfl rfl
    | exact ansH ⟨v, o, s, ph, f, sr, al, t, n, la⟩ (rowsI la) [] hr (no_gone (Or.inr (Or.inl (tn (by assumption))))) rfl rfl
    | exact ansH ⟨v, o, s, ph, f, sr, al, t, n, la⟩ (rowsI la) [] hr (no_gone (Or.inr (Or.inr (no_gone2 nd.1 nd.2 hp4 (by assumption))))) rfl rfl
    | exact (off_rng (off_rng sh.1 sh.2 h2 hp4i).1 (off_rng sh.1 sh.2 h2 hp4i).2 fo.1 fo.2).1
    | exact (off_rng (off_rng sh.1 sh.2 h2 hp4i).1 (off_rng sh.1 sh.2 h2 hp4i).2 fo.1 fo.2).2
    | exact absurd ‹saysF _ _ _ = []› (says_2 _ _ rfl (off_rng (off_rng sh.1 sh.2 h2 hp4i).1 (off_rng sh.1 sh.2 h2 hp4i).2 fo.1 fo.2).1 (off_rng (off_rng sh.1 sh.2 h2 hp4i).1 (off_rng sh.1 sh.2 h2 hp4i).2 fo.1 fo.2).2 (ned (show (offB (offB s p) f != 0) = true by assumption)))
    | exact ansH ⟨v, o, offB s p, ph, f, sr, al, t, offB n p, la⟩ (rowsI la) [] hr (gone_w (pe (by assumption)) (te (by assumption)) sh.1 sh.2 nd.1 nd.2 hp4 (by assumption) (by assumption)) rfl rfl
    | exact ansH ⟨v, o, offB s p, 1, f, sr, al, t, 0, la⟩ (rowsI la) (saysF ⟨v, o, offB s p, 1, f, sr, al, t, 0, []⟩ line id) hr (gone_1 (pe (by assumption)) (te (by assumption)) sh.1 sh.2 nd.1 nd.2 hp4 (by assumption) (by assumption) (ged (by assumption))) rfl rfl
    | exact ansH ⟨v, o, offB s p, 3, f, sr, al, t, 0, la⟩ (rowsI la) (saysF ⟨v, o, offB s p, 3, f, sr, al, t, 0, []⟩ line id) hr (gone_3 (pe (by assumption)) (te (by assumption)) sh.1 sh.2 nd.1 nd.2 hp4 (by assumption) (by assumption) (gef (by assumption)) (bfl (by assumption))) rfl rfl
    | exact ansH ⟨v, o, offB s p, 3, f, sr, al, t, 0, la⟩ (rowsI la) (saysF ⟨v, o, offB s p, 3, f, sr, al, t, 0, []⟩ line id) hr (gone_x3 (pe (by assumption)) (te (by assumption)) sh.1 sh.2 nd.1 nd.2 hp4 (by assumption) (by assumption) (gef (by assumption)) (bt (by assumption)) fo.1 fo.2 (by assumption)) rfl rfl
    | exact ansH ⟨v, o, offB s p, 2, f, sr, al, t, offB (offB s p) f, la⟩ (rowsI la) (saysF ⟨v, o, offB s p, 2, f, sr, al, t, offB (offB s p) f, []⟩ line id) hr (gone_x2 (pe (by assumption)) (te (by assumption)) sh.1 sh.2 nd.1 nd.2 hp4 (by assumption) (by assumption) (gef (by assumption)) (bt (by assumption)) fo.1 fo.2 (by assumption)) rfl rfl
end Go.Proofs.YtpgeopefamomnaeGreat

