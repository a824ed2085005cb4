/- The document's own answer: a core hears. -/
import Derived.Test.YtpgeopefamomnacGreatRF
import Derived.Test.YtpgeopefamomnacGreatPG
set_option linter.unusedSimpArgs false
namespace Go.Proofs.YtpgeopefamomnacGreat
open Go.RowKit
set_option linter.unusedVariables false
set_option maxRecDepth 100000

def dnD (d : SDone) : List DV := doneD d.core d.op d.value
def hearV (L : Row) (w : SOp) (id home : Int) (m : Msg) (r : SLine × Option (Int × Int × Int) × Option Int) : AV := .tup [.agg (coreC (L.set m.line.toNat (lineD r.1)) (if r.2.2.isSome = true then SOp.zero else w)), Ro (R msgD ((r.2.1.map (coreMsg id home m.line)).toList)), Ro (R dnD ((r.2.2.map (fun v => (⟨id, w, v⟩ : SDone))).toList))]
set_option maxHeartbeats 4000000 in
theorem rhear_in (L : Row) (hu : ∀ u ∈ L, u.length = 7) (hL : L.length < 1000) (l : SLine) (w : SOp) (m : Msg) (id home : Int) (h5 : 0 ≤ m.line) (h6 : m.line < (L.length : Int)) (hg : L.getD m.line.toNat [] = lineD l) (hwt : l.want ≠ 0 → (1 ≤ w.kind ∧ w.kind ≤ 4) ∧ (0 ≤ w.line ∧ w.line < 1000) ∧ 0 ≤ w.value ∧ w.value ≤ 255) (r : SLine × Option (Int × Int × Int) × Option Int) (hr : hearL l w m = r) : FunOK Tryz.prog 33 [.agg (coreC L w), V id, V home, .agg (msgC m)] (hOf []) (hearV L w id home m r) (hOf []) := by
  refine fun_deep (pins := []) (l0 := []) (objs := []) (base := 0) (xx_ok tabT_ok [49]) mixed Tryz.func33 rfl (Nat.le_of_ble_eq_true rfl) rfl rfl ?_
  have hn : m.line.toNat < L.length := by omega
  have hs : L.set m.line.toNat (lineD l) = L := by
    rw [← hg]
    have h9 : L.getD m.line.toNat [] = L[m.line.toNat] := by simp [List.getD, hn]
    rw [h9]
    exact List.set_getElem_self hn
  repeat' ((conv => whnf); first | exact trivial | (with_reducible refine ap_of ?_; kernel_rfl) | (with_reducible refine ds_of ?_; kernel_rfl) | (with_reducible refine eq_of ?_; kernel_rfl) | exact rfl | (intro h; exact absurd h (by decide)) | intro _ | apply And.intro)
  all_goals first
    | exact h5
    | exact h6
    | exact hn
    | exact hu _ (by assumption)
    | rfl
    | (rw [hg]; first | rfl | exact Nat.le_refl _)
    | (simp; done)
    | (simp; omega)
    | skip
  all_goals simp only [hg, lineD, List.getD_cons_zero, List.getD_cons_succ, DV.toI, DV.toB, DV.toR, Nat.zero_add] at *
  all_goals first
    | assumption
    | omega
    | (simp; omega)
    | (exfalso; clear hs hr; simp_all; done)
    | (exfalso; clear hs hr; simp_all; omega)
    | (clear hs hr; simp_all; done)
    | (rw [← hr]; clear hr; unfold hearL hearV; simp_all [-Int.not_le, -Int.not_lt, lineD, coreC, coreMsg, dnD, doneD, msgD, R, pickE, SOp.zero]; done)
    | skip
end Go.Proofs.YtpgeopefamomnacGreat
