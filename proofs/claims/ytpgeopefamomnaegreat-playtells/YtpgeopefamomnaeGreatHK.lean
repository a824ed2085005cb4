/- HH9 HH10 HHX. -/
import Derived.Test.YtpgeopefamomnaeGreatHB
set_option linter.unusedSimpArgs false
set_option linter.unusedSectionVars false
namespace Go.Proofs.YtpgeopefamomnaeGreat
open Go.RowKit
set_option linter.unusedVariables false
set_option linter.unusedSimpArgs false
set_option maxRecDepth 100000
set_option maxHeartbeats 8000000 in
theorem chh9 (l : List SEntry) (hl : l.length ≤ 1000) (hlas : ∀ e ∈ l, e.last.length ≤ 1000) (v o s ph f sr : Int) (al : Bool) (t n : Int) (la : List Int) (p : Nat) (to line serial turn value : Int) (ma : Bool) (id : Int) (h0 : 0 ≤ line) (h1 : line < (l.length : Int)) (h3 : p < la.length) (hg : (R entD l).getD line.toNat [] = entD ⟨v, o, s, ph, f, sr, al, t, n, la⟩) (sh : 0 ≤ s ∧ s < 16) (nd : 0 ≤ n ∧ n < 16) (ow : o < 4) (fo : 0 ≤ f ∧ f < 4) (hla : la.length ≤ 4) (ht : 0 ≤ t) (hso : 0 ≤ o → ph = 1 → True) (r : SEntry × List Msg) (hr : homeL ⟨v, o, s, ph, f, sr, al, t, n, la⟩ line id p ⟨9, (p : Int), to, line, serial, turn, value, ma⟩ = r) : FunOK Tryz.prog 108 [Ro (R entD l), V id, .agg [I 9, I p, I to, I line, I serial, I turn, I value, .d (.bool ma)]] (hOf []) (.tup [Ro ((R entD l).set line.toNat (entD r.1)), Ro (R msgD r.2)]) (hOf []) := by
  refine fun_deep (pins := []) (l0 := []) (objs := []) (base := 0) (xx_ok tabHH_ok ksHH) mixed Tryz.func108 rfl (Nat.le_of_ble_eq_true rfl) rfl rfl ?_
  have hlen : (R entD l).length = l.length := R_len _ _
  have hnl : line.toNat < (R entD l).length := by omega
  have hli : line < ((R entD l).length : Int) := by omega
  have hlr : (((R entD l).getD line.toNat []).getD (0 + 1 + 1 + 1 + 1 + 1 + 1 + 1 + 1 + 1) dz).toR = rowsI la := by rw [hg]; rfl
  have hp4 : p < 4 := by omega
  have h3i : (p : Int) < la.length := by omega
  have hp4i : (p : Int) < 4 := by omega
  have h2 : (0 : Int) ≤ p := Int.natCast_nonneg _
  have hrl : (rowsI la).getD p [] = [.int .i64 (la.getD p 0)] := rowsI_get h3
  have hrn : (rowsI la).length = la.length := rowsI_len la
  have hone : ∀ u ∈ R entD l, u.length = 10 := R_one (f := entD) (fun _ => rfl) l
  have hs : (R entD l).set line.toNat (entD ⟨v, o, s, ph, f, sr, al, t, n, la⟩) = R entD l := by
    rw [← hg]
    have h9 : (R entD l).getD line.toNat [] = (R entD l)[line.toNat] := by simp [List.getD, hnl]
    rw [h9]
    exact List.set_getElem_self hnl
  have hg2 : (R entD l).getD line.toNat [] = [J v, J o, J s, J ph, J f, J sr, .bool al, J t, J n, .row (rowsI la)] := hg
  have tnc : ((p : Nat) : Int).toNat = p := Int.toNat_natCast p
  have same : homeL ⟨v, o, s, ph, f, sr, al, t, n, la⟩ line id p ⟨9, (p : Int), to, line, serial, turn, value, ma⟩ = (⟨v, o, s, ph, f, sr, al, t, n, la⟩, []) → AV.tup [Ro (R entD l), Ro []] = AV.tup [Ro ((R entD l).set line.toNat (entD r.1)), Ro (R msgD r.2)] := fun h => by rw [← hr, h, hs]; rfl
  have hx : ¬ ((!(decide (line < 0) == false)) = true) := by simp; omega
  have hxa : ¬ ((decide (line < 0) == false) = false) := by simp; omega
  have hx2 : ¬ (decide (line ≥ ((R entD l).length : Int)) = true) := by simp; omega
  have hx3 : ¬ ((decide ((p : Int) ≥ 0) == true) = false) := by simp
  have hx4 : ¬ ((!decide ((p : Int) < ((((R entD l).getD line.toNat []).getD (0 + 1 + 1 + 1 + 1 + 1 + 1 + 1 + 1 + 1) dz).toR.length : Int))) = true) := by rw [hlr, hrn]; simp; omega
  repeat' ((conv => whnf); first | exact trivial | (with_reducible refine ap_of ?_; kernel_rfl) | (with_reducible refine ds_of ?_; kernel_rfl) | (with_reducible refine eq_of ?_; kernel_rfl) | exact rfl | (intro h; exact absurd h (by decide)) | (intro h; exact absurd h hxa) | (intro h; exact absurd h hx2) | (intro h; exact absurd h hx3) | (intro h; exact absurd h hx4) | intro _ | apply And.intro)
  all_goals clear hx hxa hx2 hx3 hx4
  all_goals first
    | rfl
    | exact Int.natCast_nonneg _
    | exact h0
    | exact hnl
    | exact hli
    | exact hone _ (by assumption)
    | exact ⟨l, rfl, hl, hlas⟩
    | (rw [hg]; first | rfl | exact Nat.le_refl _ | exact Nat.le_of_ble_eq_true rfl)
    | (rw [hlr, hrn]; omega)
    | (rw [hlr, hrn]; simp; omega)
    | skip
  all_goals simp only [hg2, hlr, copyN, copyR, copyL, hrl, hrn, hlen, List.getD_cons_zero, List.getD_cons_succ, DV.toI, DV.toB, Nat.zero_add, toR_row, tnc, List.getElem_toArray, List.getElem_cons_zero, List.getElem_cons_succ] at *
  all_goals first
    | assumption
    | omega
    | exact rowsI_one _ _ (by assumption)
    | rfl
    | exact typed_int1 rfl
    | (simp; done)
    | (simp; omega)
    | (exfalso; clear same hs hr hg hg2 hlr hrl; simp_all; done)
    | (exfalso; clear same hs hr hg hg2 hlr hrl; simp_all; omega)
    | skip
  all_goals first
    | exact uw fo
    | exact absurd ‹saysF _ _ _ = []› (says_1 _ _ rfl)
    | exact absurd ‹saysF _ _ _ = []› (says_3 _ _ rfl)
    | exact ansH ⟨v, o, s, ph, f, sr, al, t, n, la⟩ (rowsI la) [] hr (no_data (Or.inl (pn (by assumption)))) rfl rfl
    | exact ansH ⟨v, o, s, ph, f, sr, al, t, n, la⟩ (rowsI la) [] hr (no_data (Or.inr (Or.inl (tn (by assumption))))) rfl rfl
    | exact ansH ⟨v, o, s, ph, f, sr, al, t, n, la⟩ (rowsI la) [] hr (no_data (Or.inr (Or.inr (bne_t (by assumption))))) rfl rfl
    | exact (off_rng sh.1 sh.2 fo.1 fo.2).1
    | exact (off_rng sh.1 sh.2 fo.1 fo.2).2
    | exact absurd ‹saysF _ _ _ = []› (says_2 _ _ rfl (off_rng sh.1 sh.2 fo.1 fo.2).1 (off_rng sh.1 sh.2 fo.1 fo.2).2 (ned (show (offB s f != 0) = true by assumption)))
    | exact ansH ⟨value, -1, orB s p, 3, f, sr, al, t, 0, la⟩ (rowsI la) (saysF ⟨value, -1, orB s p, 3, f, sr, al, t, 0, []⟩ line id) hr (data_3 (pe (by assumption)) (te (by assumption)) (bne_f (by assumption)) (nt (by assumption)) sh.1 sh.2 hp4) rfl rfl
    | exact ansH ⟨value, -1, s, 3, f, sr, al, t, 0, la⟩ (rowsI la) (saysF ⟨value, -1, s, 3, f, sr, al, t, 0, []⟩ line id) hr (data_x3 (pe (by assumption)) (te (by assumption)) (bne_f (by assumption)) (nfl (by assumption)) sh.1 sh.2 fo.1 fo.2 (by assumption)) rfl rfl
    | exact ansH ⟨value, -1, s, 2, f, sr, al, t, offB s f, la⟩ (rowsI la) (saysF ⟨value, -1, s, 2, f, sr, al, t, offB s f, []⟩ line id) hr (data_x2 (pe (by assumption)) (te (by assumption)) (bne_f (by assumption)) (nfl (by assumption)) sh.1 sh.2 fo.1 fo.2 (by assumption)) rfl rfl
end Go.Proofs.YtpgeopefamomnaeGreat

namespace Go.Proofs.YtpgeopefamomnaeGreat
open Go.RowKit
set_option linter.unusedVariables false
set_option linter.unusedSimpArgs false
set_option maxRecDepth 100000
set_option maxHeartbeats 8000000 in
theorem chh10 (l : List SEntry) (hl : l.length ≤ 1000) (hlas : ∀ e ∈ l, e.last.length ≤ 1000) (v o s ph f sr : Int) (al : Bool) (t n : Int) (la : List Int) (p : Nat) (to line serial turn value : Int) (ma : Bool) (id : Int) (h0 : 0 ≤ line) (h1 : line < (l.length : Int)) (h3 : p < la.length) (hg : (R entD l).getD line.toNat [] = entD ⟨v, o, s, ph, f, sr, al, t, n, la⟩) (sh : 0 ≤ s ∧ s < 16) (nd : 0 ≤ n ∧ n < 16) (ow : o < 4) (fo : 0 ≤ f ∧ f < 4) (hla : la.length ≤ 4) (ht : 0 ≤ t) (hso : 0 ≤ o → ph = 1 → True) (r : SEntry × List Msg) (hr : homeL ⟨v, o, s, ph, f, sr, al, t, n, la⟩ line id p ⟨10, (p : Int), to, line, serial, turn, value, ma⟩ = r) : FunOK Tryz.prog 108 [Ro (R entD l), V id, .agg [I 10, I p, I to, I line, I serial, I turn, I value, .d (.bool ma)]] (hOf []) (.tup [Ro ((R entD l).set line.toNat (entD r.1)), Ro (R msgD r.2)]) (hOf []) := by
  refine fun_deep (pins := []) (l0 := []) (objs := []) (base := 0) (xx_ok tabHH_ok ksHH) mixed Tryz.func108 rfl (Nat.le_of_ble_eq_true rfl) rfl rfl ?_
  have hlen : (R entD l).length = l.length := R_len _ _
  have hnl : line.toNat < (R entD l).length := by omega
  have hli : line < ((R entD l).length : Int) := by omega
  have hlr : (((R entD l).getD line.toNat []).getD (0 + 1 + 1 + 1 + 1 + 1 + 1 + 1 + 1 + 1) dz).toR = rowsI la := by rw [hg]; rfl
  have hp4 : p < 4 := by omega
  have h3i : (p : Int) < la.length := by omega
  have hp4i : (p : Int) < 4 := by omega
  have h2 : (0 : Int) ≤ p := Int.natCast_nonneg _
  have hrl : (rowsI la).getD p [] = [.int .i64 (la.getD p 0)] := rowsI_get h3
  have hrn : (rowsI la).length = la.length := rowsI_len la
  have hone : ∀ u ∈ R entD l, u.length = 10 := R_one (f := entD) (fun _ => rfl) l
  have hs : (R entD l).set line.toNat (entD ⟨v, o, s, ph, f, sr, al, t, n, la⟩) = R entD l := by
    rw [← hg]
    have h9 : (R entD l).getD line.toNat [] = (R entD l)[line.toNat] := by simp [List.getD, hnl]
    rw [h9]
    exact List.set_getElem_self hnl
  have hg2 : (R entD l).getD line.toNat [] = [J v, J o, J s, J ph, J f, J sr, .bool al, J t, J n, .row (rowsI la)] := hg
  have tnc : ((p : Nat) : Int).toNat = p := Int.toNat_natCast p
  have same : homeL ⟨v, o, s, ph, f, sr, al, t, n, la⟩ line id p ⟨10, (p : Int), to, line, serial, turn, value, ma⟩ = (⟨v, o, s, ph, f, sr, al, t, n, la⟩, []) → AV.tup [Ro (R entD l), Ro []] = AV.tup [Ro ((R entD l).set line.toNat (entD r.1)), Ro (R msgD r.2)] := fun h => by rw [← hr, h, hs]; rfl
  have hx : ¬ ((!(decide (line < 0) == false)) = true) := by simp; omega
  have hxa : ¬ ((decide (line < 0) == false) = false) := by simp; omega
  have hx2 : ¬ (decide (line ≥ ((R entD l).length : Int)) = true) := by simp; omega
  have hx3 : ¬ ((decide ((p : Int) ≥ 0) == true) = false) := by simp
  have hx4 : ¬ ((!decide ((p : Int) < ((((R entD l).getD line.toNat []).getD (0 + 1 + 1 + 1 + 1 + 1 + 1 + 1 + 1 + 1) dz).toR.length : Int))) = true) := by rw [hlr, hrn]; simp; omega
  repeat' ((conv => whnf); first | exact trivial | (with_reducible refine ap_of ?_; kernel_rfl) | (with_reducible refine ds_of ?_; kernel_rfl) | (with_reducible refine eq_of ?_; kernel_rfl) | exact rfl | (intro h; exact absurd h (by decide)) | (intro h; exact absurd h hxa) | (intro h; exact absurd h hx2) | (intro h; exact absurd h hx3) | (intro h; exact absurd h hx4) | intro _ | apply And.intro)
  all_goals clear hx hxa hx2 hx3 hx4
  all_goals first
    | rfl
    | exact Int.natCast_nonneg _
    | exact h0
    | exact hnl
    | exact hli
    | exact hone _ (by assumption)
    | exact ⟨l, rfl, hl, hlas⟩
    | (rw [hg]; first | rfl | exact Nat.le_refl _ | exact Nat.le_of_ble_eq_true rfl)
    | (rw [hlr, hrn]; omega)
    | (rw [hlr, hrn]; simp; omega)
    | skip
  all_goals simp only [hg2, hlr, copyN, copyR, copyL, hrl, hrn, hlen, List.getD_cons_zero, List.getD_cons_succ, DV.toI, DV.toB, Nat.zero_add, toR_row, tnc, List.getElem_toArray, List.getElem_cons_zero, List.getElem_cons_succ] at *
  all_goals first
    | assumption
    | omega
    | exact rowsI_one _ _ (by assumption)
    | rfl
    | exact typed_int1 rfl
    | (simp; done)
    | (simp; omega)
    | (exfalso; clear same hs hr hg hg2 hlr hrl; simp_all; done)
    | (exfalso; clear same hs hr hg hg2 hlr hrl; simp_all; omega)
    | skip
  all_goals first
    | exact ansH ⟨v, o, s, ph, f, sr, al, t, n, la⟩ (rowsI la) [] hr (no_thanks (Or.inl (pn (by assumption)))) rfl rfl
    | exact ansH ⟨v, o, s, ph, f, sr, al, t, n, la⟩ (rowsI la) [] hr (no_thanks (Or.inr (Or.inl (tn (by assumption))))) rfl rfl
    | exact ansH ⟨v, o, s, ph, f, sr, al, t, n, la⟩ (rowsI la) [] hr (no_thanks (Or.inr (Or.inr (bne_t (by assumption))))) rfl rfl
    | exact ansH ⟨v, p, 0, 0, 0, 0, false, t, n, la⟩ (rowsI la) [] hr (thanks_a (pe (by assumption)) (te (by assumption)) (bne_f (by assumption)) (by assumption)) rfl rfl
    | exact ansH ⟨v, o, orB s p, 0, 0, 0, false, t, n, la⟩ (rowsI la) [] hr (thanks_b (pe (by assumption)) (te (by assumption)) (bne_f (by assumption)) (by assumption) sh.1 sh.2 hp4) rfl rfl
end Go.Proofs.YtpgeopefamomnaeGreat

namespace Go.Proofs.YtpgeopefamomnaeGreat
open Go.RowKit
set_option linter.unusedVariables false
set_option linter.unusedSimpArgs false
set_option maxRecDepth 100000
set_option maxHeartbeats 8000000 in
theorem chhX (l : List SEntry) (hl : l.length ≤ 1000) (hlas : ∀ e ∈ l, e.last.length ≤ 1000) (v o s ph f sr : Int) (al : Bool) (t n : Int) (la : List Int) (kd : Int) (hk : kd ≠ 1 ∧ kd ≠ 2 ∧ kd ≠ 3 ∧ kd ≠ 8 ∧ kd ≠ 9 ∧ kd ≠ 10) (p : Nat) (to line serial turn value : Int) (ma : Bool) (id : Int) (h0 : 0 ≤ line) (h1 : line < (l.length : Int)) (h3 : p < la.length) (hg : (R entD l).getD line.toNat [] = entD ⟨v, o, s, ph, f, sr, al, t, n, la⟩) (sh : 0 ≤ s ∧ s < 16) (nd : 0 ≤ n ∧ n < 16) (ow : o < 4) (fo : 0 ≤ f ∧ f < 4) (hla : la.length ≤ 4) (ht : 0 ≤ t) (hso : 0 ≤ o → ph = 1 → True) (r : SEntry × List Msg) (hr : homeL ⟨v, o, s, ph, f, sr, al, t, n, la⟩ line id p ⟨kd, (p : Int), to, line, serial, turn, value, ma⟩ = r) : FunOK Tryz.prog 108 [Ro (R entD l), V id, .agg [I kd, I p, I to, I line, I serial, I turn, I value, .d (.bool ma)]] (hOf []) (.tup [Ro ((R entD l).set line.toNat (entD r.1)), Ro (R msgD r.2)]) (hOf []) := by
  refine fun_deep (pins := []) (l0 := []) (objs := []) (base := 0) (xx_ok tabHH_ok ksHH) mixed Tryz.func108 rfl (Nat.le_of_ble_eq_true rfl) rfl rfl ?_
  have hlen : (R entD l).length = l.length := R_len _ _
  have hnl : line.toNat < (R entD l).length := by omega
  have hli : line < ((R entD l).length : Int) := by omega
  have hlr : (((R entD l).getD line.toNat []).getD (0 + 1 + 1 + 1 + 1 + 1 + 1 + 1 + 1 + 1) dz).toR = rowsI la := by rw [hg]; rfl
  have hp4 : p < 4 := by omega
  have h3i : (p : Int) < la.length := by omega
  have hp4i : (p : Int) < 4 := by omega
  have h2 : (0 : Int) ≤ p := Int.natCast_nonneg _
  have hrl : (rowsI la).getD p [] = [.int .i64 (la.getD p 0)] := rowsI_get h3
  have hrn : (rowsI la).length = la.length := rowsI_len la
  have hone : ∀ u ∈ R entD l, u.length = 10 := R_one (f := entD) (fun _ => rfl) l
  have hs : (R entD l).set line.toNat (entD ⟨v, o, s, ph, f, sr, al, t, n, la⟩) = R entD l := by
    rw [← hg]
    have h9 : (R entD l).getD line.toNat [] = (R entD l)[line.toNat] := by simp [List.getD, hnl]
    rw [h9]
    exact List.set_getElem_self hnl
  have hg2 : (R entD l).getD line.toNat [] = [J v, J o, J s, J ph, J f, J sr, .bool al, J t, J n, .row (rowsI la)] := hg
  have tnc : ((p : Nat) : Int).toNat = p := Int.toNat_natCast p
  have same : homeL ⟨v, o, s, ph, f, sr, al, t, n, la⟩ line id p ⟨kd, (p : Int), to, line, serial, turn, value, ma⟩ = (⟨v, o, s, ph, f, sr, al, t, n, la⟩, []) → AV.tup [Ro (R entD l), Ro []] = AV.tup [Ro ((R entD l).set line.toNat (entD r.1)), Ro (R msgD r.2)] := fun h => by rw [← hr, h, hs]; rfl
  have hx : ¬ ((!(decide (line < 0) == false)) = true) := by simp; omega
  have hxa : ¬ ((decide (line < 0) == false) = false) := by simp; omega
  have hx2 : ¬ (decide (line ≥ ((R entD l).length : Int)) = true) := by simp; omega
  have hx3 : ¬ ((decide ((p : Int) ≥ 0) == true) = false) := by simp
  have hx4 : ¬ ((!decide ((p : Int) < ((((R entD l).getD line.toNat []).getD (0 + 1 + 1 + 1 + 1 + 1 + 1 + 1 + 1 + 1) dz).toR.length : Int))) = true) := by rw [hlr, hrn]; simp; omega
  repeat' ((conv => whnf); first | exact trivial | (with_reducible refine ap_of ?_; kernel_rfl) | (with_reducible refine ds_of ?_; kernel_rfl) | (with_reducible refine eq_of ?_; kernel_rfl) | exact rfl | (intro h; exact absurd h (by decide)) | (intro h; exact absurd h hxa) | (intro h; exact absurd h hx2) | (intro h; exact absurd h hx3) | (intro h; exact absurd h hx4) | intro _ | apply And.intro)
  all_goals clear hx hxa hx2 hx3 hx4
  all_goals first
    | rfl
    | exact Int.natCast_nonneg _
    | exact h0
    | exact hnl
    | exact hli
    | exact hone _ (by assumption)
    | exact ⟨l, rfl, hl, hlas⟩
    | (rw [hg]; first | rfl | exact Nat.le_refl _ | exact Nat.le_of_ble_eq_true rfl)
    | (rw [hlr, hrn]; omega)
    | (rw [hlr, hrn]; simp; omega)
    | skip
  all_goals simp only [hg2, hlr, copyN, copyR, copyL, hrl, hrn, hlen, List.getD_cons_zero, List.getD_cons_succ, DV.toI, DV.toB, Nat.zero_add, toR_row, tnc, List.getElem_toArray, List.getElem_cons_zero, List.getElem_cons_succ] at *
  all_goals first
    | assumption
    | omega
    | exact rowsI_one _ _ (by assumption)
    | rfl
    | exact typed_int1 rfl
    | (simp; done)
    | (simp; omega)
    | (exfalso; clear same hs hr hg hg2 hlr hrl; simp_all; done)
    | (exfalso; clear same hs hr hg hg2 hlr hrl; simp_all; omega)
    | skip
  all_goals first
    | exact ansH ⟨v, o, s, ph, f, sr, al, t, n, la⟩ (rowsI la) [] hr (no_kind hk) rfl rfl
end Go.Proofs.YtpgeopefamomnaeGreat

