/- Of homes: a copy as a row; the document's hearing of any message. -/
import Derived.Test.YtpgeopefamomnacGreatHD
set_option linter.unusedSimpArgs false
namespace Go.Proofs.YtpgeopefamomnacGreat
open Go.RowKit
set_option linter.unusedVariables false
set_option linter.unusedSimpArgs false
set_option maxRecDepth 100000

set_option maxHeartbeats 4000000 in
theorem hown2_ok (l : List SEntry) (hl : l.length ≤ 1000) (hla : ∀ e ∈ l, e.last.length ≤ 1000) : FunOK Tryz.prog 35 [Ro (R entD l)] (hOf []) (Ro (R entD l)) (hOf []) := by
  refine fun_deep (pins := []) (l0 := []) (objs := []) (base := 0) (xx_ok tab0_ok []) mixed Tryz.func35 rfl (Nat.le_of_ble_eq_true rfl) rfl rfl ?_
  have hlen : (R entD l).length = l.length := R_len _ _
  have hz : List.replicate (((R entD l).length : Int)).toNat entZ = ownR (R entD l) 0 := by
    unfold ownR
    rw [Int.toNat_natCast, List.take_zero]
    rfl
  repeat' ((conv => whnf); first | exact trivial | (with_reducible refine ap_of ?_; kernel_rfl) | (with_reducible refine ds_of ?_; kernel_rfl) | (with_reducible refine eq_of ?_; kernel_rfl) | exact rfl | (intro h; exact absurd h (by decide)) | intro _ | apply And.intro)
  all_goals first
    | exact Int.natCast_nonneg _
    | rfl
    | (rw [hlen]; omega)
    | skip
  (conv => whnf)
  refine loop_keep [2, 3, 9] 40 [] {k : Nat // k ≤ l.length} (fun k => [(10, V l.length), (11, V k.1)]) (fun k => [(0, .live (.row [] 10 64 false)), (1016, .live (.row (ownR (R entD l) k.1) 10 64 false))]) (fun k => l.length - k.1) ⟨0, Nat.zero_le _⟩ ?_
  (conv => whnf)
  refine ⟨?_, ?_⟩
  · repeat' ((conv => whnf); first | exact trivial | exact rfl | apply And.intro)
    all_goals first
      | exact int_eq (show ((R entD l).length : Int) = l.length by rw [hlen])
      | exact row_eq hz
      | trace_state
  · rintro ⟨k, hk⟩
    have hol := ownR_len (R entD l) k (by omega)
    repeat' ((conv => whnf); first | exact trivial | (with_reducible refine ap_of ?_; kernel_rfl) | (with_reducible refine ds_of ?_; kernel_rfl) | (with_reducible refine eq_of ?_; kernel_rfl) | exact rfl | (intro h; exact absurd h (by decide)) | intro _ | apply And.intro)
    all_goals first
      | (have hlt : k < l.length := (by have := k_lt (k := k) (n := l.length) (by assumption); omega)
         have hki : (k : Int) < l.length := by omega
         have hg : (R entD l).getD k [] = entD (l.getD k ⟨0, 0, 0, 0, 0, 0, false, 0, 0, []⟩) := R_get entD _ hlt
         have hgl : (l.getD k ⟨0, 0, 0, 0, 0, 0, false, 0, 0, []⟩).last.length ≤ 1000 := hla _ (by simp [List.getD, hlt])
         have hrl := rowsI_len (l.getD k ⟨0, 0, 0, 0, 0, 0, false, 0, 0, []⟩).last
         have hoz := ownR_get (R entD l) k (by omega)
         first
           | exact Int.natCast_nonneg _
           | (rw [hlen]; exact hki)
           | (rw [hlen, show ∀ n : Nat, ((n : Nat) : Int).toNat = n from Int.toNat_natCast]; exact hlt)
           | (rw [hol, hlen]; exact hki)
           | (rw [hol, hlen, show ∀ n : Nat, ((n : Nat) : Int).toNat = n from Int.toNat_natCast]; exact hlt)
           | rfl
           | (rw [show ∀ n : Nat, ((n : Nat) : Int).toNat = n from Int.toNat_natCast, hg]; first | rfl | exact Nat.le_refl _ | (show (((rowsI _).length : Nat) : Int) ≤ _; rw [hrl]; omega))
           | (rw [show ∀ n : Nat, ((n : Nat) : Int).toNat = n from Int.toNat_natCast, hoz]; first | rfl | exact Nat.le_refl _)
           | (have hm := (by assumption : _ ∈ (((R entD l).getD ((k : Nat) : Int).toNat []).getD (0 + 1 + 1 + 1 + 1 + 1 + 1 + 1 + 1 + 1) dz).toR)
              rw [show ∀ n : Nat, ((n : Nat) : Int).toNat = n from Int.toNat_natCast, hg] at hm
              exact rowI_one _ _ hm)
           | ((conv => whnf)
              refine ⟨⟨k + 1, hlt⟩, [], ?_, ?_⟩
              · show l.length - (k + 1) < l.length - k
                omega
              · repeat' ((conv => whnf); first | exact trivial | exact rfl | apply And.intro)
                · exact succ_eq k (by omega)
                · refine row_eq ?_
                  have key := ownR_set (R entD l) k (by omega)
                  rw [hg] at key
                  refine Eq.trans ?_ key
                  simp only [Int.toNat_natCast, hg, entD, List.getD_cons_zero, List.getD_cons_succ, DV.toI, DV.toB, DV.toR, copyN]
                  rfl)
           | trace_state)
      | (have hke : k = l.length := (by have := k_ge (k := k) (n := l.length) (by assumption); omega)
         subst hke
         first
           | rfl
           | (have hall : ownR (R entD l) l.length = R entD l := by rw [← hlen]; exact ownR_all _
              show Ro (ownR (R entD l) l.length) = _
              rw [hall])
           | trace_state)
      | trace_state
def ownHT2 (xs : List AV) (l0 : List (Nat × OS)) : Ans := match xs, l0 with
  | [.c (.d (.row es))], [] => some (∃ l, es = R entD l ∧ l.length ≤ 1000 ∧ ∀ e ∈ l, e.last.length ≤ 1000, Ro es, [])
  | _, _ => none
theorem ownH2_does : Does Tryz.prog 35 ownHT2 := ⟨⟨_, Tryz.func35, by decide, rfl⟩, fun xs l0 p v objs h hp => by
  unfold ownHT2 at h
  split at h
  · cases h
    obtain ⟨l, rfl, h1, h2⟩ := hp
    exact hown2_ok l h1 h2
  · cases h⟩
set_option maxHeartbeats 4000000
theorem rhh_lo (l : List SEntry) (kd frm to line serial turn value : Int) (ma : Bool) (id : Int) (h : line < 0) : FunOK Tryz.prog 32 [Ro (R entD l), V id, .agg [I kd, I frm, I to, I line, I serial, I turn, I value, .d (.bool ma)]] (hOf []) (.tup [Ro (R entD l), Ro []]) (hOf []) := by
  refine fun_deep (pins := []) (l0 := []) (objs := []) (base := 0) (xx_ok tabN4_ok [51, 54, 28, 52]) mixed Tryz.func32 rfl (Nat.le_of_ble_eq_true rfl) rfl rfl ?_
  have hlen : (R entD l).length = l.length := R_len _ _
  have hx : ¬ ((decide (line < 0) == false) = true) := by simp [h]
  repeat' ((conv => whnf); first | exact trivial | (with_reducible refine ap_of ?_; kernel_rfl) | (with_reducible refine ds_of ?_; kernel_rfl) | (with_reducible refine eq_of ?_; kernel_rfl) | exact rfl | (intro h; exact absurd h (by decide)) | (intro h; exact absurd h hx) | intro _ | apply And.intro)
  all_goals clear hx
  all_goals first
    | rfl
    | (rw [hlen]; omega)
    | omega
    | (rw [hg]; first | rfl | exact Nat.le_refl _ | exact Nat.le_of_ble_eq_true rfl)
    | trace_state
theorem rhh_hi (l : List SEntry) (kd frm to line serial turn value : Int) (ma : Bool) (id : Int) (h0 : 0 ≤ line) (h : (l.length : Int) ≤ line) : FunOK Tryz.prog 32 [Ro (R entD l), V id, .agg [I kd, I frm, I to, I line, I serial, I turn, I value, .d (.bool ma)]] (hOf []) (.tup [Ro (R entD l), Ro []]) (hOf []) := by
  refine fun_deep (pins := []) (l0 := []) (objs := []) (base := 0) (xx_ok tabN4_ok [51, 54, 28, 52]) mixed Tryz.func32 rfl (Nat.le_of_ble_eq_true rfl) rfl rfl ?_
  have hlen : (R entD l).length = l.length := R_len _ _
  have hxa : ¬ ((decide (line < 0) == false) = false) := by simp; omega
  have hx2 : ¬ ((decide (line ≥ ((R entD l).length : Int)) == false) = true) := by rw [hlen]; simp [h]
  repeat' ((conv => whnf); first | exact trivial | (with_reducible refine ap_of ?_; kernel_rfl) | (with_reducible refine ds_of ?_; kernel_rfl) | (with_reducible refine eq_of ?_; kernel_rfl) | exact rfl | (intro h; exact absurd h (by decide)) | (intro h; exact absurd h hxa) | (intro h; exact absurd h hx2) | intro _ | apply And.intro)
  all_goals clear hxa hx2
  all_goals first
    | rfl
    | (rw [hlen]; omega)
    | omega
    | (rw [hg]; first | rfl | exact Nat.le_refl _ | exact Nat.le_of_ble_eq_true rfl)
    | trace_state
theorem rhh_frl (l : List SEntry) (kd frm to line serial turn value : Int) (ma : Bool) (id : Int) (h0 : 0 ≤ line) (h1 : line < (l.length : Int)) (h : frm < 0) : FunOK Tryz.prog 32 [Ro (R entD l), V id, .agg [I kd, I frm, I to, I line, I serial, I turn, I value, .d (.bool ma)]] (hOf []) (.tup [Ro (R entD l), Ro []]) (hOf []) := by
  refine fun_deep (pins := []) (l0 := []) (objs := []) (base := 0) (xx_ok tabN4_ok [51, 54, 28, 52]) mixed Tryz.func32 rfl (Nat.le_of_ble_eq_true rfl) rfl rfl ?_
  have hlen : (R entD l).length = l.length := R_len _ _
  have hnl : line.toNat < l.length := by omega
  have hnl2 : line.toNat < (R entD l).length := by omega
  have hli : line < ((R entD l).length : Int) := by omega
  have hg : (R entD l).getD line.toNat [] = entD (l.getD line.toNat SEntry.zero) := R_get entD SEntry.zero hnl
  have hlr : (((R entD l).getD line.toNat []).getD (0 + 1 + 1 + 1 + 1 + 1 + 1 + 1 + 1 + 1) dz).toR = rowsI (l.getD line.toNat SEntry.zero).last := by rw [hg]; rfl
  have hrn : (rowsI (l.getD line.toNat SEntry.zero).last).length = (l.getD line.toNat SEntry.zero).last.length := rowsI_len _
  have hxa : ¬ ((decide (line < 0) == false) = false) := by simp; omega
  have hx2 : ¬ ((decide (line ≥ ((R entD l).length : Int)) == false) = false) := by simp; omega
  have hx3 : ¬ ((decide (frm < 0) == false) = true) := by simp [h]
  repeat' ((conv => whnf); first | exact trivial | (with_reducible refine ap_of ?_; kernel_rfl) | (with_reducible refine ds_of ?_; kernel_rfl) | (with_reducible refine eq_of ?_; kernel_rfl) | exact rfl | (intro h; exact absurd h (by decide)) | (intro h; exact absurd h hxa) | (intro h; exact absurd h hx2) | (intro h; exact absurd h hx3) | intro _ | apply And.intro)
  all_goals clear hxa hx2 hx3
  all_goals first
    | rfl
    | (rw [hlen]; omega)
    | omega
    | (rw [hg]; first | rfl | exact Nat.le_refl _ | exact Nat.le_of_ble_eq_true rfl)
    | trace_state
theorem rhh_frh (l : List SEntry) (kd frm to line serial turn value : Int) (ma : Bool) (id : Int) (h0 : 0 ≤ line) (h1 : line < (l.length : Int)) (h2 : 0 ≤ frm) (h : ((l.getD line.toNat SEntry.zero).last.length : Int) ≤ frm) : FunOK Tryz.prog 32 [Ro (R entD l), V id, .agg [I kd, I frm, I to, I line, I serial, I turn, I value, .d (.bool ma)]] (hOf []) (.tup [Ro (R entD l), Ro []]) (hOf []) := by
  refine fun_deep (pins := []) (l0 := []) (objs := []) (base := 0) (xx_ok tabN4_ok [51, 54, 28, 52]) mixed Tryz.func32 rfl (Nat.le_of_ble_eq_true rfl) rfl rfl ?_
  have hlen : (R entD l).length = l.length := R_len _ _
  have hnl : line.toNat < l.length := by omega
  have hnl2 : line.toNat < (R entD l).length := by omega
  have hli : line < ((R entD l).length : Int) := by omega
  have hg : (R entD l).getD line.toNat [] = entD (l.getD line.toNat SEntry.zero) := R_get entD SEntry.zero hnl
  have hlr : (((R entD l).getD line.toNat []).getD (0 + 1 + 1 + 1 + 1 + 1 + 1 + 1 + 1 + 1) dz).toR = rowsI (l.getD line.toNat SEntry.zero).last := by rw [hg]; rfl
  have hrn : (rowsI (l.getD line.toNat SEntry.zero).last).length = (l.getD line.toNat SEntry.zero).last.length := rowsI_len _
  have hxa : ¬ ((decide (line < 0) == false) = false) := by simp; omega
  have hx2 : ¬ ((decide (line ≥ ((R entD l).length : Int)) == false) = false) := by simp; omega
  have hx3 : ¬ ((decide (frm < 0) == false) = false) := by simp; omega
  have hx4 : ¬ (decide (frm ≥ ((((R entD l).getD line.toNat []).getD (0 + 1 + 1 + 1 + 1 + 1 + 1 + 1 + 1 + 1) dz).toR.length : Int)) = false) := by rw [hlr, hrn, decide_eq_true (by omega)]; simp
  repeat' ((conv => whnf); first | exact trivial | (with_reducible refine ap_of ?_; kernel_rfl) | (with_reducible refine ds_of ?_; kernel_rfl) | (with_reducible refine eq_of ?_; kernel_rfl) | exact rfl | (intro h; exact absurd h (by decide)) | (intro h; exact absurd h hxa) | (intro h; exact absurd h hx2) | (intro h; exact absurd h hx3) | (intro h; exact absurd h hx4) | intro _ | apply And.intro)
  all_goals clear hxa hx2 hx3 hx4
  all_goals first
    | rfl
    | (rw [hlen]; omega)
    | omega
    | (rw [hg]; first | rfl | exact Nat.le_refl _ | exact Nat.le_of_ble_eq_true rfl)
    | trace_state
theorem rhome_any (l : List SEntry) (id : Int) (m : Msg) (hl : l.length ≤ 1000) (ok : 0 ≤ m.line → m.line < l.length → HomeOK (l.getD m.line.toNat SEntry.zero)) : FunOK Tryz.prog 32 [Ro (R entD l), V id, .agg (msgC m)] (hOf []) (.tup [Ro (R entD (homeHearF l id m).1), Ro (R msgD (homeHearF l id m).2)]) (hOf []) := by
  by_cases ho : m.line < 0 ∨ (l.length : Int) ≤ m.line ∨ m.frm < 0 ∨ ((l.getD m.line.toNat SEntry.zero).last.length : Int) ≤ m.frm
  · have hF : homeHearF l id m = (l, []) := by
      unfold homeHearF
      rw [if_pos ho]
    rw [hF]
    by_cases a : m.line < 0
    · exact rhh_lo l m.kind m.frm m.to m.line m.serial m.turn m.value m.alone id a
    by_cases b : (l.length : Int) ≤ m.line
    · exact rhh_hi l m.kind m.frm m.to m.line m.serial m.turn m.value m.alone id (by omega) b
    by_cases c : m.frm < 0
    · exact rhh_frl l m.kind m.frm m.to m.line m.serial m.turn m.value m.alone id (by omega) (by omega) c
    · exact rhh_frh l m.kind m.frm m.to m.line m.serial m.turn m.value m.alone id (by omega) (by omega) (by omega) (by omega)
  · exact rhomeHear_in l id m hl (by omega) (by omega) (by omega) (by omega) (ok (by omega) (by omega))
theorem rHome_does : Does Tryz.prog 32 hHearT := ⟨⟨_, Tryz.func32, by decide, rfl⟩, fun xs l0 p v objs h hp => by
  unfold hHearT at h
  split at h
  · cases h
    obtain ⟨l, rfl, h1, h2, h3⟩ := hp
    rw [homeR_rows]
    exact rhome_any l _ (Msg.mk _ _ _ _ _ _ _ _) h1 h3
  · cases h⟩
end Go.Proofs.YtpgeopefamomnacGreat
