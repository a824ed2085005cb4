/- DHome9 DHome10 DHomeX. -/
import Derived.Test.YtpgeopefamomnaeGreatRF
set_option linter.unusedSimpArgs false
set_option linter.unusedSectionVars false
namespace Go.Proofs.YtpgeopefamomnaeGreat
open Go.RowKit
set_option linter.unusedVariables false
set_option maxRecDepth 100000
set_option maxHeartbeats 8000000 in
theorem rhh9 (L : Row) (hu : ∀ u ∈ L, u.length = 10) (v o s ph f sr : Int) (al : Bool) (t n : Int) (la : List Int) (p : Nat) (to line serial turn value : Int) (ma : Bool) (id : Int) (hLL : L.length ≤ 1000) (h0 : 0 ≤ line) (h1 : line < (L.length : Int)) (h3 : p < la.length) (hg : L.getD line.toNat [] = entD ⟨v, o, s, ph, f, sr, al, t, n, la⟩) (sh : 0 ≤ s ∧ s < 16) (nd : 0 ≤ n ∧ n < 16) (ow : o < 4) (fo : 0 ≤ f ∧ f < 4) (hla : la.length ≤ 4) (ht : 0 ≤ t) (r : SEntry × List Msg) (hr : homeL ⟨v, o, s, ph, f, sr, al, t, n, la⟩ line id p ⟨9, (p : Int), to, line, serial, turn, value, ma⟩ = r) : FunOK Tryz.prog 44 [Ro L, V id, .agg [I 9, I p, I to, I line, I serial, I turn, I value, .d (.bool ma)]] (hOf []) (.tup [Ro (L.set line.toNat (entD r.1)), Ro (R msgD r.2)]) (hOf []) := by
  refine fun_deep (pins := []) (l0 := []) (objs := []) (base := 0) (xx_ok tabN4_ok [60, 65, 39, 63]) mixed Tryz.func44 rfl (Nat.le_of_ble_eq_true rfl) rfl rfl ?_
  have hnl : line.toNat < L.length := by omega
  have hlr : ((L.getD line.toNat []).getD (0 + 1 + 1 + 1 + 1 + 1 + 1 + 1 + 1 + 1) dz).toR = rowsI la := by rw [hg]; rfl
  have hp4 : p < 4 := by omega
  have h2 : (0 : Int) ≤ p := Int.natCast_nonneg _
  have h3i : (p : Int) < la.length := by omega
  have hrl : (List.replicate 0 [DV.int IntKind.i64 0] ++ rowsI la).getD p [] = [.int .i64 (la.getD p 0)] := by simpa using rowsI_get h3
  have hs : L.set line.toNat (entD ⟨v, o, s, ph, f, sr, al, t, n, la⟩) = L := by
    rw [← hg]
    have h9 : L.getD line.toNat [] = L[line.toNat] := by simp [List.getD, hnl]
    rw [h9]
    exact List.set_getElem_self hnl
  have hg2 : L.getD line.toNat [] = [J v, J o, J s, J ph, J f, J sr, .bool al, J t, J n, .row (rowsI la)] := hg
  have tnc : ((p : Nat) : Int).toNat = p := Int.toNat_natCast p
  have same : homeL ⟨v, o, s, ph, f, sr, al, t, n, la⟩ line id p ⟨9, (p : Int), to, line, serial, turn, value, ma⟩ = (⟨v, o, s, ph, f, sr, al, t, n, la⟩, []) → AV.tup [AV.c (CV.d (DV.row L)), AV.c (CV.d (DV.row []))] = AV.tup [Ro (L.set line.toNat (entD r.1)), Ro (R msgD r.2)] := fun h => by rw [← hr, h, hs]; rfl
  have hfl : (p : Int) < 60 := by omega
  have hx : ¬ ((decide (line < 0) == false) = false) := by simp; omega
  have hx2 : ¬ ((decide (line ≥ (L.length : Int)) == false) = false) := by simp; omega
  have hx3 : ¬ ((decide ((p : Int) < 0) == false) = false) := by simp
  have hx4 : ¬ (decide ((p : Int) ≥ (((L.getD line.toNat []).getD (0 + 1 + 1 + 1 + 1 + 1 + 1 + 1 + 1 + 1) dz).toR.length : Int)) = true) := by rw [hlr, rowsI_len]; simp; omega
  repeat' ((conv => whnf); first | exact trivial | (with_reducible refine ap_of ?_; kernel_rfl) | (with_reducible refine ds_of ?_; kernel_rfl) | (with_reducible refine eq_of ?_; kernel_rfl) | exact rfl | (intro h; exact absurd h (by decide)) | (intro h; exact absurd h hx) | (intro h; exact absurd h hx2) | (intro h; exact absurd h hx3) | (intro h; exact absurd h hx4) | intro _ | apply And.intro)
  all_goals clear hx hx2 hx3 hx4
  all_goals first
    | rfl
    | exact Int.natCast_nonneg _
    | exact h0
    | exact h2
    | exact hfl
    | exact h1
    | exact hnl
    | exact hu _ (by assumption)
    | (exfalso; clear same hs hr; simp_all [entD, rowsI_len, DV.toR]; done)
    | exact next_need _
    | exact (next_need _).1
    | exact (next_need _).2
    | (rw [hg]; first | rfl | exact sh.1 | omega | exact nd.1 | omega | omega | exact fo.1 | omega | exact Nat.le_refl _)
    | (rw [hlr]; simp [rowsI_len]; omega)
    | exact rowsI_one _ _ (by assumption)
    | exact rowsI_one _ _ (hlr ▸ (by assumption))
    | (simp; done)
    | (simp [hlr, rowsI, h3]; done)
    | skip
  all_goals simp only [hg2, hlr, hrl, List.getD_cons_zero, List.getD_cons_succ, DV.toI, DV.toB, Nat.zero_add, toR_row, tnc] at *
  all_goals first
    | assumption
    | omega
    | exact rowsI_one _ _ (by assumption)
    | (simp; done)
    | (simp [rowsI_len]; omega)
    | (rw [hrl]; first | exact Nat.le_refl _ | rfl)
    | (exfalso; clear same hs hr hg hg2 hlr hrl tnc; simp_all [DV.toR, rowsI_len]; done)
    | (exfalso; clear same hs hr hg hg2 hlr hrl tnc; simp_all [DV.toR, rowsI_len]; omega)
    | (refine same ?_; clear same hs hr hg hg2 hlr hrl tnc; unfold homeL lastF; simp_all [DV.toR, rowsI_len]; done)
    | (rw [hrl]; exact typed_int1 rfl)
    | exact typed_int1 rfl
    | skip
  all_goals first
    | (refine same ?_
       have ho : o ≠ (p : Int) := bne_t ‹((p : Int) != o) = true›
       unfold homeL
       rw [if_neg (by simp), if_neg (by simp), if_pos rfl, if_pos (Or.inr (Or.inr ho))])
    | (have ho : o = (p : Int) := bne_f ‹((p : Int) != o) = false›
       clear same hs hg hg2 hlr hrl
       subst ho
       have h4 : ph = 1 := bne_f2 ‹((ph != 1) == false) = true›
       have h5 : turn = t := bne_f2 ‹((turn != t) == false) = true›
       try simp only [Int.toNat_natCast] at *
       first
         | omega
         | (have h6 : hasF s p = false := by simpa using ‹(!hasF s p) = true›
            have h7 := add_rng sh.1 sh.2 hp4 h6
            have h8 : al = false := by simp_all
            rw [wrap16 h7]
            first
              | exact h7.1
              | omega
              | (refine ansH _ (rowsI la) _ hr ((home_data h4 h5 rfl).trans (by rw [if_pos ⟨h8, h6⟩])) ?_ rfl
                 rfl))
         | (refine ansH _ (rowsI la) _ hr ((home_data h4 h5 rfl).trans (by rw [if_neg (by simp_all)])) ?_ rfl
            rfl))
    | skip
  all_goals done
end Go.Proofs.YtpgeopefamomnaeGreat

namespace Go.Proofs.YtpgeopefamomnaeGreat
open Go.RowKit
set_option linter.unusedVariables false
set_option maxRecDepth 100000
set_option maxHeartbeats 8000000 in
theorem rhh10 (L : Row) (hu : ∀ u ∈ L, u.length = 10) (v o s ph f sr : Int) (al : Bool) (t n : Int) (la : List Int) (p : Nat) (to line serial turn value : Int) (ma : Bool) (id : Int) (hLL : L.length ≤ 1000) (h0 : 0 ≤ line) (h1 : line < (L.length : Int)) (h3 : p < la.length) (hg : L.getD line.toNat [] = entD ⟨v, o, s, ph, f, sr, al, t, n, la⟩) (sh : 0 ≤ s ∧ s < 16) (nd : 0 ≤ n ∧ n < 16) (ow : o < 4) (fo : 0 ≤ f ∧ f < 4) (hla : la.length ≤ 4) (ht : 0 ≤ t) (r : SEntry × List Msg) (hr : homeL ⟨v, o, s, ph, f, sr, al, t, n, la⟩ line id p ⟨10, (p : Int), to, line, serial, turn, value, ma⟩ = r) : FunOK Tryz.prog 44 [Ro L, V id, .agg [I 10, I p, I to, I line, I serial, I turn, I value, .d (.bool ma)]] (hOf []) (.tup [Ro (L.set line.toNat (entD r.1)), Ro (R msgD r.2)]) (hOf []) := by
  refine fun_deep (pins := []) (l0 := []) (objs := []) (base := 0) (xx_ok tabN4_ok [60, 65, 39, 63]) mixed Tryz.func44 rfl (Nat.le_of_ble_eq_true rfl) rfl rfl ?_
  have hnl : line.toNat < L.length := by omega
  have hlr : ((L.getD line.toNat []).getD (0 + 1 + 1 + 1 + 1 + 1 + 1 + 1 + 1 + 1) dz).toR = rowsI la := by rw [hg]; rfl
  have hp4 : p < 4 := by omega
  have h2 : (0 : Int) ≤ p := Int.natCast_nonneg _
  have h3i : (p : Int) < la.length := by omega
  have hrl : (List.replicate 0 [DV.int IntKind.i64 0] ++ rowsI la).getD p [] = [.int .i64 (la.getD p 0)] := by simpa using rowsI_get h3
  have hs : L.set line.toNat (entD ⟨v, o, s, ph, f, sr, al, t, n, la⟩) = L := by
    rw [← hg]
    have h9 : L.getD line.toNat [] = L[line.toNat] := by simp [List.getD, hnl]
    rw [h9]
    exact List.set_getElem_self hnl
  have hg2 : L.getD line.toNat [] = [J v, J o, J s, J ph, J f, J sr, .bool al, J t, J n, .row (rowsI la)] := hg
  have tnc : ((p : Nat) : Int).toNat = p := Int.toNat_natCast p
  have same : homeL ⟨v, o, s, ph, f, sr, al, t, n, la⟩ line id p ⟨10, (p : Int), to, line, serial, turn, value, ma⟩ = (⟨v, o, s, ph, f, sr, al, t, n, la⟩, []) → AV.tup [AV.c (CV.d (DV.row L)), AV.c (CV.d (DV.row []))] = AV.tup [Ro (L.set line.toNat (entD r.1)), Ro (R msgD r.2)] := fun h => by rw [← hr, h, hs]; rfl
  have hfl : (p : Int) < 60 := by omega
  have hx : ¬ ((decide (line < 0) == false) = false) := by simp; omega
  have hx2 : ¬ ((decide (line ≥ (L.length : Int)) == false) = false) := by simp; omega
  have hx3 : ¬ ((decide ((p : Int) < 0) == false) = false) := by simp
  have hx4 : ¬ (decide ((p : Int) ≥ (((L.getD line.toNat []).getD (0 + 1 + 1 + 1 + 1 + 1 + 1 + 1 + 1 + 1) dz).toR.length : Int)) = true) := by rw [hlr, rowsI_len]; simp; omega
  repeat' ((conv => whnf); first | exact trivial | (with_reducible refine ap_of ?_; kernel_rfl) | (with_reducible refine ds_of ?_; kernel_rfl) | (with_reducible refine eq_of ?_; kernel_rfl) | exact rfl | (intro h; exact absurd h (by decide)) | (intro h; exact absurd h hx) | (intro h; exact absurd h hx2) | (intro h; exact absurd h hx3) | (intro h; exact absurd h hx4) | intro _ | apply And.intro)
  all_goals clear hx hx2 hx3 hx4
  all_goals first
    | rfl
    | exact Int.natCast_nonneg _
    | exact h0
    | exact h2
    | exact hfl
    | exact h1
    | exact hnl
    | exact hu _ (by assumption)
    | (exfalso; clear same hs hr; simp_all [entD, rowsI_len, DV.toR]; done)
    | exact next_need _
    | exact (next_need _).1
    | exact (next_need _).2
    | (rw [hg]; first | rfl | exact sh.1 | omega | exact nd.1 | omega | omega | exact fo.1 | omega | exact Nat.le_refl _)
    | (rw [hlr]; simp [rowsI_len]; omega)
    | exact rowsI_one _ _ (by assumption)
    | exact rowsI_one _ _ (hlr ▸ (by assumption))
    | (simp; done)
    | (simp [hlr, rowsI, h3]; done)
    | skip
  all_goals simp only [hg2, hlr, hrl, List.getD_cons_zero, List.getD_cons_succ, DV.toI, DV.toB, Nat.zero_add, toR_row, tnc] at *
  all_goals first
    | assumption
    | omega
    | exact rowsI_one _ _ (by assumption)
    | (simp; done)
    | (simp [rowsI_len]; omega)
    | (rw [hrl]; first | exact Nat.le_refl _ | rfl)
    | (exfalso; clear same hs hr hg hg2 hlr hrl tnc; simp_all [DV.toR, rowsI_len]; done)
    | (exfalso; clear same hs hr hg hg2 hlr hrl tnc; simp_all [DV.toR, rowsI_len]; omega)
    | (refine same ?_; clear same hs hr hg hg2 hlr hrl tnc; unfold homeL lastF; simp_all [DV.toR, rowsI_len]; done)
    | (rw [hrl]; exact typed_int1 rfl)
    | exact typed_int1 rfl
    | skip
  all_goals first
    | (refine same ?_
       have ho : f ≠ (p : Int) := bne_t ‹((p : Int) != f) = true›
       unfold homeL
       rw [if_neg (by simp), if_neg (by simp), if_neg (by simp), if_neg (by simp), if_pos rfl, if_pos (Or.inr (Or.inr ho))])
    | (have ho : f = (p : Int) := bne_f ‹((p : Int) != f) = false›
       clear same hs hg hg2 hlr hrl
       subst ho
       have h4 : ph = 3 := bne_f2 ‹((ph != 3) == false) = true›
       have h5 : turn = t := bne_f2 ‹((turn != t) == false) = true›
       try simp only [Int.toNat_natCast] at *
       first
         | omega
         | (refine ansH _ (rowsI la) _ hr ((home_thanks h4 h5 rfl).trans (by rw [if_pos (by assumption)])) ?_ rfl
            rfl)
         | (have h6 : hasF s p = false := by simpa using ‹(!hasF s p) = true›
            have h7 := add_rng sh.1 sh.2 hp4 h6
            rw [wrap16 h7]
            refine ansH _ (rowsI la) _ hr ((home_thanks h4 h5 rfl).trans (by rw [if_neg (by simp_all), if_pos h6])) ?_ rfl
            rfl)
         | (refine ansH _ (rowsI la) _ hr ((home_thanks h4 h5 rfl).trans (by rw [if_neg (by simp_all), if_neg (by simp_all)])) ?_ rfl
            rfl))
    | skip
  all_goals done
end Go.Proofs.YtpgeopefamomnaeGreat

namespace Go.Proofs.YtpgeopefamomnaeGreat
open Go.RowKit
set_option linter.unusedVariables false
set_option maxRecDepth 100000
set_option maxHeartbeats 8000000 in
theorem rhhX (L : Row) (hu : ∀ u ∈ L, u.length = 10) (v o s ph f sr : Int) (al : Bool) (t n : Int) (la : List Int) (kd : Int) (hk : kd ≠ 1 ∧ kd ≠ 2 ∧ kd ≠ 3 ∧ kd ≠ 8 ∧ kd ≠ 9 ∧ kd ≠ 10) (p : Nat) (to line serial turn value : Int) (ma : Bool) (id : Int) (hLL : L.length ≤ 1000) (h0 : 0 ≤ line) (h1 : line < (L.length : Int)) (h3 : p < la.length) (hg : L.getD line.toNat [] = entD ⟨v, o, s, ph, f, sr, al, t, n, la⟩) (sh : 0 ≤ s ∧ s < 16) (nd : 0 ≤ n ∧ n < 16) (ow : o < 4) (fo : 0 ≤ f ∧ f < 4) (hla : la.length ≤ 4) (ht : 0 ≤ t) (r : SEntry × List Msg) (hr : homeL ⟨v, o, s, ph, f, sr, al, t, n, la⟩ line id p ⟨kd, (p : Int), to, line, serial, turn, value, ma⟩ = r) : FunOK Tryz.prog 44 [Ro L, V id, .agg [I kd, I p, I to, I line, I serial, I turn, I value, .d (.bool ma)]] (hOf []) (.tup [Ro (L.set line.toNat (entD r.1)), Ro (R msgD r.2)]) (hOf []) := by
  refine fun_deep (pins := []) (l0 := []) (objs := []) (base := 0) (xx_ok tabN4_ok [60, 65, 39, 63]) mixed Tryz.func44 rfl (Nat.le_of_ble_eq_true rfl) rfl rfl ?_
  have hnl : line.toNat < L.length := by omega
  have hlr : ((L.getD line.toNat []).getD (0 + 1 + 1 + 1 + 1 + 1 + 1 + 1 + 1 + 1) dz).toR = rowsI la := by rw [hg]; rfl
  have hp4 : p < 4 := by omega
  have h2 : (0 : Int) ≤ p := Int.natCast_nonneg _
  have h3i : (p : Int) < la.length := by omega
  have hrl : (List.replicate 0 [DV.int IntKind.i64 0] ++ rowsI la).getD p [] = [.int .i64 (la.getD p 0)] := by simpa using rowsI_get h3
  have hs : L.set line.toNat (entD ⟨v, o, s, ph, f, sr, al, t, n, la⟩) = L := by
    rw [← hg]
    have h9 : L.getD line.toNat [] = L[line.toNat] := by simp [List.getD, hnl]
    rw [h9]
    exact List.set_getElem_self hnl
  have hg2 : L.getD line.toNat [] = [J v, J o, J s, J ph, J f, J sr, .bool al, J t, J n, .row (rowsI la)] := hg
  have tnc : ((p : Nat) : Int).toNat = p := Int.toNat_natCast p
  have same : homeL ⟨v, o, s, ph, f, sr, al, t, n, la⟩ line id p ⟨kd, (p : Int), to, line, serial, turn, value, ma⟩ = (⟨v, o, s, ph, f, sr, al, t, n, la⟩, []) → AV.tup [AV.c (CV.d (DV.row L)), AV.c (CV.d (DV.row []))] = AV.tup [Ro (L.set line.toNat (entD r.1)), Ro (R msgD r.2)] := fun h => by rw [← hr, h, hs]; rfl
  have hfl : (p : Int) < 60 := by omega
  have hx : ¬ ((decide (line < 0) == false) = false) := by simp; omega
  have hx2 : ¬ ((decide (line ≥ (L.length : Int)) == false) = false) := by simp; omega
  have hx3 : ¬ ((decide ((p : Int) < 0) == false) = false) := by simp
  have hx4 : ¬ (decide ((p : Int) ≥ (((L.getD line.toNat []).getD (0 + 1 + 1 + 1 + 1 + 1 + 1 + 1 + 1 + 1) dz).toR.length : Int)) = true) := by rw [hlr, rowsI_len]; simp; omega
  repeat' ((conv => whnf); first | exact trivial | (with_reducible refine ap_of ?_; kernel_rfl) | (with_reducible refine ds_of ?_; kernel_rfl) | (with_reducible refine eq_of ?_; kernel_rfl) | exact rfl | (intro h; exact absurd h (by decide)) | (intro h; exact absurd h hx) | (intro h; exact absurd h hx2) | (intro h; exact absurd h hx3) | (intro h; exact absurd h hx4) | intro _ | apply And.intro)
  all_goals clear hx hx2 hx3 hx4
  all_goals first
    | rfl
    | exact Int.natCast_nonneg _
    | exact h0
    | exact h2
    | exact hfl
    | exact h1
    | exact hnl
    | exact hu _ (by assumption)
    | (exfalso; clear same hs hr; simp_all [entD, rowsI_len, DV.toR]; done)
    | exact next_need _
    | exact (next_need _).1
    | exact (next_need _).2
    | (rw [hg]; first | rfl | exact sh.1 | omega | exact nd.1 | omega | omega | exact fo.1 | omega | exact Nat.le_refl _)
    | (rw [hlr]; simp [rowsI_len]; omega)
    | exact rowsI_one _ _ (by assumption)
    | exact rowsI_one _ _ (hlr ▸ (by assumption))
    | (simp; done)
    | (simp [hlr, rowsI, h3]; done)
    | skip
  all_goals simp only [hg2, hlr, hrl, List.getD_cons_zero, List.getD_cons_succ, DV.toI, DV.toB, Nat.zero_add, toR_row, tnc] at *
  all_goals first
    | assumption
    | omega
    | exact rowsI_one _ _ (by assumption)
    | (simp; done)
    | (simp [rowsI_len]; omega)
    | (rw [hrl]; first | exact Nat.le_refl _ | rfl)
    | (exfalso; clear same hs hr hg hg2 hlr hrl tnc; simp_all [DV.toR, rowsI_len]; done)
    | (exfalso; clear same hs hr hg hg2 hlr hrl tnc; simp_all [DV.toR, rowsI_len]; omega)
    | (refine same ?_; clear same hs hr hg hg2 hlr hrl tnc; unfold homeL lastF; simp_all [DV.toR, rowsI_len]; done)
    | (rw [hrl]; exact typed_int1 rfl)
    | exact typed_int1 rfl
    | skip
  all_goals done
end Go.Proofs.YtpgeopefamomnaeGreat

