/- COwn CFlat CHear. -/
import Derived.Test.YtpgeopefamomnaeGreatRE
import Derived.Test.YtpgeopefamomnaeGreatRF
set_option linter.unusedSimpArgs false
set_option linter.unusedSectionVars false
namespace Go.Proofs.YtpgeopefamomnaeGreat
open Go.RowKit
set_option linter.unusedVariables false
set_option linter.unusedSimpArgs false
set_option maxRecDepth 100000
set_option maxHeartbeats 4000000
theorem cown_ok (L : Row) (hu : ∀ u ∈ L, u.length = 7) (hL : L.length < 1000) (w : SOp) : FunOK Tryz.prog 68 [.agg [.d (.row L), I w.kind, I w.line, I w.value]] (hOf []) (.agg (coreC L w)) (hOf []) := by
  refine fun_deep (pins := []) (l0 := []) (objs := []) (base := 0) (xx_ok tab0_ok []) mixed Tryz.func68 rfl (Nat.le_of_ble_eq_true rfl) rfl rfl ?_
  repeat' ((conv => whnf); first | exact trivial | (with_reducible refine ap_of ?_; kernel_rfl) | (with_reducible refine ds_of ?_; kernel_rfl) | (with_reducible refine eq_of ?_; kernel_rfl) | exact rfl | (intro h; exact absurd h (by decide)) | intro _ | apply And.intro)
  all_goals first
    | rfl
    | exact Int.natCast_nonneg _
    | omega
    | exact hu _ (by assumption)
    | (simp; omega)
    | (rw [copyR]; rfl)
    | trace_state
def cOwnT (xs : List AV) (l0 : List (Nat × OS)) : Ans := match xs, l0 with
  | [.agg [.d (.row es), .d (.int .i64 a), .d (.int .i64 b), .d (.int .i64 d)]], [] => some ((∀ u ∈ es, u.length = 7) ∧ es.length < 1000, .agg (coreC es ⟨a, b, d⟩), [])
  | _, _ => none
theorem cOwn_does : Does Tryz.prog 68 cOwnT := ⟨⟨_, Tryz.func68, by decide, rfl⟩, fun xs l0 p v objs h hp => by
  unfold cOwnT at h
  split at h
  · cases h
    exact cown_ok _ hp.1 hp.2 (SOp.mk _ _ _)
  · cases h⟩
end Go.Proofs.YtpgeopefamomnaeGreat

namespace Go.Proofs.YtpgeopefamomnaeGreat
open Go.RowKit
set_option linter.unusedVariables false
set_option maxRecDepth 100000
theorem len_one (x : Int) (u : List DV) (h : u ∈ [[J x]]) : u.length = 1 := by rw [List.mem_singleton.1 h]; rfl
set_option maxHeartbeats 4000000 in
theorem flat1_ok (x k v : Int) (h1 : 1 ≤ k) (h4 : k ≤ 4) (h0 : 0 ≤ v) (h2 : v ≤ 255) : FunOK Tryz.prog 140 [Ro [[J x]], .agg [I k, I 0, I v]] (hOf []) (.tup [Ro [[J (tellF x ⟨k, 0, v⟩).1]], V (tellF x ⟨k, 0, v⟩).2, V 0]) (hOf []) := by
  refine fun_deep (pins := []) (l0 := []) (objs := []) (base := 0) (xx_ok tab0_ok []) mixed Tryz.func140 rfl (Nat.le_of_ble_eq_true rfl) rfl rfl ?_
  repeat' ((conv => whnf); first | exact trivial | (with_reducible refine ap_of ?_; kernel_rfl) | (with_reducible refine ds_of ?_; kernel_rfl) | (with_reducible refine eq_of ?_; kernel_rfl) | exact rfl | (intro h; exact absurd h (by decide)) | intro _ | apply And.intro)
  all_goals first
    | rfl
    | (simp; done)
    | (exfalso; simp_all; done)
    | (exfalso; simp_all; omega)
    | exact len_one x _ (by assumption)
    | (rw [show tellF x ⟨k, 0, v⟩ = (x, x) from if_pos (by simpa using ‹(k == 1) = true›)]; rfl)
    | (have n1 : ¬ k = 1 := by simpa using ‹(k == 1) = false›
       first
         | (rw [show tellF x ⟨k, 0, v⟩ = (v, 0) from (if_neg n1).trans (if_pos (by simpa using ‹(k == 2) = true›))]; rfl)
         | (have n2 : ¬ k = 2 := by simpa using ‹(k == 2) = false›
            first
              | (rw [show tellF x ⟨k, 0, v⟩ = ((x + v) % 256, x) from (if_neg n1).trans ((if_neg n2).trans (if_pos (by simpa using ‹(k == 3) = true›))), ← and255]; rfl)
              | (rw [show tellF x ⟨k, 0, v⟩ = (x, 0) from (if_neg n1).trans ((if_neg n2).trans (if_neg (by simpa using ‹(k == 3) = false›)))]; rfl)))
    | trace_state
def flatT1 (xs : List AV) (l0 : List (Nat × OS)) : Ans := match xs, l0 with
  | [.c (.d (.row es)), .agg [.d (.int .i64 k), .d (.int .i64 l), .d (.int .i64 v)]], [] => some ((∃ x, es = [[J x]]) ∧ l = 0 ∧ (1 ≤ k ∧ k ≤ 4) ∧ 0 ≤ v ∧ v ≤ 255, .tup [Ro [[J (tellF ((es.getD 0 []).getD 0 dz).toI ⟨k, 0, v⟩).1]], V (tellF ((es.getD 0 []).getD 0 dz).toI ⟨k, 0, v⟩).2, V 0], [])
  | _, _ => none
theorem flat1_does : Does Tryz.prog 140 flatT1 := ⟨⟨_, Tryz.func140, by decide, rfl⟩, fun xs l0 p v objs h hp => by
  unfold flatT1 at h
  split at h
  · cases h
    obtain ⟨⟨x, rfl⟩, rfl, ⟨h1, h4⟩, h0, h2⟩ := hp
    exact flat1_ok x _ _ h1 h4 h0 h2
  · cases h⟩
def tabC1 : Canon := orT 140 flatT1 tab0
theorem tabC1_ok : Sound Tryz.prog tabC1 := tab0_ok.or flat1_does
end Go.Proofs.YtpgeopefamomnaeGreat

namespace Go.Proofs.YtpgeopefamomnaeGreat
open Go.RowKit
set_option linter.unusedVariables false
set_option maxRecDepth 100000
theorem tell_line (x : Int) (w : SOp) : tellF x ⟨w.kind, 0, w.value⟩ = tellF x w := rfl
set_option maxHeartbeats 8000000 in
theorem hear_in (L : Row) (hu : ∀ u ∈ L, u.length = 7) (hL : L.length < 1000) (l : SLine) (w : SOp) (mk mf mt ml ms mu mv : Int) (ma : Bool) (id home : Int) (h5 : 0 ≤ ml) (h6 : ml < (L.length : Int)) (hg : L.getD ml.toNat [] = lineD l) (hwt : l.want ≠ 0 → (1 ≤ w.kind ∧ w.kind ≤ 4) ∧ (0 ≤ w.line ∧ w.line < 1000) ∧ 0 ≤ w.value ∧ w.value ≤ 255) (hgv : 0 ≤ l.gave) (r : SLine × Option (Int × Int × Int) × Option Int) (hr : hearL l w ⟨mk, mf, mt, ml, ms, mu, mv, ma⟩ = r) : FunOK Tryz.prog 109 [.agg [.d (.row L), I w.kind, I w.line, I w.value], V id, V home, .agg [I mk, I mf, I mt, I ml, I ms, I mu, I mv, .d (.bool ma)]] (hOf []) (hearV L w id home ⟨mk, mf, mt, ml, ms, mu, mv, ma⟩ r) (hOf []) := by
  refine fun_deep (pins := []) (l0 := []) (objs := []) (base := 0) (xx_ok tabC1_ok [140]) mixed Tryz.func109 rfl (Nat.le_of_ble_eq_true rfl) rfl rfl ?_
  have hn : ml.toNat < L.length := by omega
  have hs : L.set ml.toNat (lineD l) = L := by
    rw [← hg]
    have h9 : L.getD ml.toNat [] = L[ml.toNat] := by simp [List.getD, hn]
    rw [h9]
    exact List.set_getElem_self hn
  have hx : ¬ ((decide (ml < 0) == false) = false) := by simp; omega
  have hx2 : ¬ (decide (ml ≥ (L.length : Int)) = true) := by simp; omega
  repeat' ((conv => whnf); first | exact trivial | (with_reducible refine ap_of ?_; kernel_rfl) | (with_reducible refine ds_of ?_; kernel_rfl) | (with_reducible refine eq_of ?_; kernel_rfl) | exact rfl | (intro h; exact absurd h (by decide)) | (intro h; exact absurd h hx) | (intro h; exact absurd h hx2) | intro _ | apply And.intro)
  all_goals first
    | exact h5
    | exact h6
    | exact hn
    | exact hu _ (by assumption)
    | rfl
    | (rw [hg]; first | rfl | exact Nat.le_refl _)
    | (simp; done)
    | (simp; omega)
    | skip
  all_goals clear hx hx2
  all_goals first
    | omega
    | (refine len_set1 (by assumption) ?_; rfl)
    | exact ⟨_, rfl⟩
    | skip
  all_goals simp only [hg, lineD, copyR, List.getD_cons_zero, List.getD_cons_succ, DV.toI, DV.toB, DV.toR, Nat.zero_add] at *
  all_goals first
    | assumption
    | rfl
    | omega
    | exact hu _ (by assumption)
    | (simp; done)
    | (simp; omega)
    | (clear hs hr; simp_all; done)
    | (exfalso; clear hs hr; simp_all; done)
    | (exfalso; clear hs hr; simp_all; omega)
    | (rw [← hr]; clear hr; unfold hearL hearV; simp_all [-Int.not_le, -Int.not_lt, tell_line, lineD, coreC, coreMsg, dnD, doneD, msgD, R, pickE, SOp.zero]; done)
    | (rw [← hr]
       clear hr hs
       unfold hearL
       dsimp only
       rw [if_neg (by first | (simp_all; done) | (simp_all; omega)), if_pos (by first | (simp_all; done) | (simp_all; omega))]
       first
         | (rw [if_pos (by first | (simp_all; done) | (simp_all; omega))]
            unfold hearV
            first | rfl | (show AV.tup [.agg [.d (.row (L.set ml.toNat (lineD l))), _, _, _], _, _] = _; rfl))
         | (rw [if_neg (by first | (simp_all; done) | (simp_all; omega)), if_pos (by first | (simp_all; done) | (simp_all; omega))]
            unfold hearV
            first | rfl | (show AV.tup [.agg [.d (.row (L.set ml.toNat (lineD l))), _, _, _], _, _] = _; rfl))
         | (rw [if_neg (by first | (simp_all; done) | (simp_all; omega)), if_neg (by first | (simp_all; done) | (simp_all; omega)), if_pos (by first | (simp_all; done) | (simp_all; omega))]
            unfold hearV
            first | rfl | (show AV.tup [.agg [.d (.row (L.set ml.toNat (lineD l))), _, _, _], _, _] = _; rfl))
         | (rw [if_neg (by first | (simp_all; done) | (simp_all; omega)), if_neg (by first | (simp_all; done) | (simp_all; omega)), if_neg (by first | (simp_all; done) | (simp_all; omega)), if_pos (by first | (simp_all; done) | (simp_all; omega))]
            unfold hearV
            first | rfl | (show AV.tup [.agg [.d (.row (L.set ml.toNat (lineD l))), _, _, _], _, _] = _; rfl))
         | (rw [if_neg (by first | (simp_all; done) | (simp_all; omega)), if_neg (by first | (simp_all; done) | (simp_all; omega)), if_neg (by first | (simp_all; done) | (simp_all; omega)), if_neg (by first | (simp_all; done) | (simp_all; omega))]
            unfold hearV
            first | rfl | (show AV.tup [.agg [.d (.row (L.set ml.toNat (lineD l))), _, _, _], _, _] = _; rfl))
         | fail)
    | (rw [← hr]
       clear hr hs
       unfold hearL
       dsimp only
       rw [if_neg (by first | (simp_all; done) | (simp_all; omega)), if_neg (by first | (simp_all; done) | (simp_all; omega)), if_pos (by first | (simp_all; done) | (simp_all; omega)), if_neg (by first | (simp_all; done) | (simp_all; omega)), if_pos (by first | (simp_all; done) | (simp_all; omega))]
       rfl)
end Go.Proofs.YtpgeopefamomnaeGreat

