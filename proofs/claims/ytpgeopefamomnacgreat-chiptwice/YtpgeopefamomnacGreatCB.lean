/- The developers' core hears. -/
import Derived.Test.YtpgeopefamomnacGreatCA
set_option linter.unusedSimpArgs false
namespace Go.Proofs.YtpgeopefamomnacGreat
open Go.RowKit
set_option linter.unusedVariables false
set_option maxRecDepth 100000

theorem tell_line (x : Int) (w : SOp) : tellF x ⟨w.kind, 0, w.value⟩ = tellF x w := rfl
set_option maxHeartbeats 8000000 in
theorem hear_in (L : Row) (hu : ∀ u ∈ L, u.length = 7) (hL : L.length < 1000) (l : SLine) (w : SOp) (mk mf mt ml ms mu mv : Int) (ma : Bool) (id home : Int) (h5 : 0 ≤ ml) (h6 : ml < (L.length : Int)) (hg : L.getD ml.toNat [] = lineD l) (hwt : l.want ≠ 0 → (1 ≤ w.kind ∧ w.kind ≤ 4) ∧ (0 ≤ w.line ∧ w.line < 1000) ∧ 0 ≤ w.value ∧ w.value ≤ 255) (hgv : 0 ≤ l.gave) (r : SLine × Option (Int × Int × Int) × Option Int) (hr : hearL l w ⟨mk, mf, mt, ml, ms, mu, mv, ma⟩ = r) : FunOK Tryz.prog 83 [.agg [.d (.row L), I w.kind, I w.line, I w.value], V id, V home, .agg [I mk, I mf, I mt, I ml, I ms, I mu, I mv, .d (.bool ma)]] (hOf []) (hearV L w id home ⟨mk, mf, mt, ml, ms, mu, mv, ma⟩ r) (hOf []) := by
  refine fun_deep (pins := []) (l0 := []) (objs := []) (base := 0) (xx_ok tabC1_ok [114]) mixed Tryz.func83 rfl (Nat.le_of_ble_eq_true rfl) rfl rfl ?_
  have hn : ml.toNat < L.length := by omega
  have hs : L.set ml.toNat (lineD l) = L := by
    rw [← hg]
    have h9 : L.getD ml.toNat [] = L[ml.toNat] := by simp [List.getD, hn]
    rw [h9]
    exact List.set_getElem_self hn
  have hx : ¬ ((decide (ml < 0) == false) = false) := by simp; omega
  have hx2 : ¬ (decide (ml ≥ (L.length : Int)) = true) := by simp; omega
  repeat' ((conv => whnf); first | exact trivial | (with_reducible refine ap_of ?_; kernel_rfl) | (with_reducible refine ds_of ?_; kernel_rfl) | (with_reducible refine eq_of ?_; kernel_rfl) | exact rfl | (intro h; exact absurd h (by decide)) | (intro h; exact absurd h hx) | (intro h; exact absurd h hx2) | intro _ | apply And.intro)
  all_goals first
    | exact h5
    | exact h6
    | exact hn
    | exact hu _ (by assumption)
    | rfl
    | (rw [hg]; first | rfl | exact Nat.le_refl _)
    | (simp; done)
    | (simp; omega)
    | skip
  all_goals clear hx hx2
  all_goals first
    | omega
    | (refine len_set1 (by assumption) ?_; rfl)
    | exact ⟨_, rfl⟩
    | skip
  all_goals simp only [hg, lineD, copyR, List.getD_cons_zero, List.getD_cons_succ, DV.toI, DV.toB, DV.toR, Nat.zero_add] at *
  all_goals first
    | assumption
    | rfl
    | omega
    | exact hu _ (by assumption)
    | (simp; done)
    | (simp; omega)
    | (clear hs hr; simp_all; done)
    | (exfalso; clear hs hr; simp_all; done)
    | (exfalso; clear hs hr; simp_all; omega)
    | (rw [← hr]; clear hr; unfold hearL hearV; simp_all [-Int.not_le, -Int.not_lt, tell_line, lineD, coreC, coreMsg, dnD, doneD, msgD, R, pickE, SOp.zero]; done)
    | (rw [← hr]
       clear hr hs
       unfold hearL
       dsimp only
       rw [if_neg (by first | (simp_all; done) | (simp_all; omega)), if_pos (by first | (simp_all; done) | (simp_all; omega))]
       first
         | (rw [if_pos (by first | (simp_all; done) | (simp_all; omega))]
            unfold hearV
            first | rfl | (show AV.tup [.agg [.d (.row (L.set ml.toNat (lineD l))), _, _, _], _, _] = _; rfl))
         | (rw [if_neg (by first | (simp_all; done) | (simp_all; omega)), if_pos (by first | (simp_all; done) | (simp_all; omega))]
            unfold hearV
            first | rfl | (show AV.tup [.agg [.d (.row (L.set ml.toNat (lineD l))), _, _, _], _, _] = _; rfl))
         | (rw [if_neg (by first | (simp_all; done) | (simp_all; omega)), if_neg (by first | (simp_all; done) | (simp_all; omega)), if_pos (by first | (simp_all; done) | (simp_all; omega))]
            unfold hearV
            first | rfl | (show AV.tup [.agg [.d (.row (L.set ml.toNat (lineD l))), _, _, _], _, _] = _; rfl))
         | (rw [if_neg (by first | (simp_all; done) | (simp_all; omega)), if_neg (by first | (simp_all; done) | (simp_all; omega)), if_neg (by first | (simp_all; done) | (simp_all; omega)), if_pos (by first | (simp_all; done) | (simp_all; omega))]
            unfold hearV
            first | rfl | (show AV.tup [.agg [.d (.row (L.set ml.toNat (lineD l))), _, _, _], _, _] = _; rfl))
         | (rw [if_neg (by first | (simp_all; done) | (simp_all; omega)), if_neg (by first | (simp_all; done) | (simp_all; omega)), if_neg (by first | (simp_all; done) | (simp_all; omega)), if_neg (by first | (simp_all; done) | (simp_all; omega))]
            unfold hearV
            first | rfl | (show AV.tup [.agg [.d (.row (L.set ml.toNat (lineD l))), _, _, _], _, _] = _; rfl))
         | fail)
    | (rw [← hr]
       clear hr hs
       unfold hearL
       dsimp only
       rw [if_neg (by first | (simp_all; done) | (simp_all; omega)), if_neg (by first | (simp_all; done) | (simp_all; omega)), if_pos (by first | (simp_all; done) | (simp_all; omega)), if_neg (by first | (simp_all; done) | (simp_all; omega)), if_pos (by first | (simp_all; done) | (simp_all; omega))]
       rfl)
end Go.Proofs.YtpgeopefamomnacGreat
