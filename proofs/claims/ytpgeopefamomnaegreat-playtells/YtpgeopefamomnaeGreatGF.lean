/- GOwn GOwnT GNew. -/
import Derived.Test.YtpgeopefamomnaeGreatFA
import Derived.Test.YtpgeopefamomnaeGreatCG
import Derived.Test.YtpgeopefamomnaeGreatHO
import Derived.Test.YtpgeopefamomnaeGreatHM
import Derived.Test.YtpgeopefamomnaeGreatFT
import Derived.Test.YtpgeopefamomnaeGreatCC
import Derived.Test.YtpgeopefamomnaeGreatHC
import Derived.Test.YtpgeopefamomnaeGreatRT
set_option linter.unusedSimpArgs false
set_option linter.unusedSectionVars false
namespace Go.Proofs.YtpgeopefamomnaeGreat
open Go.RowKit
set_option linter.unusedVariables false
set_option linter.unusedSimpArgs false
set_option maxRecDepth 100000
def coreZ : List DV := [.row [], J 0, J 0, J 0]
def tabCO : Canon := orT 68 cOwnT (orT 69 ownHT2 (orT 70 nownT2 tab0))
theorem tabCO_ok : Sound Tryz.prog tabCO := ((tab0_ok.or nown2_does).or ownH2_does).or cOwn_does
def ksCO : List FuncId := [68, 69, 70]
set_option maxHeartbeats 4000000 in
theorem cown_chip (cs : List SCore) (hm : List SEntry) (fs : List (List Nat)) (hc : cs.length ≤ 1000) (hcl : ∀ c ∈ cs, c.lines.length < 1000) (hh : hm.length ≤ 1000) (hhl : ∀ e ∈ hm, e.last.length ≤ 1000) (hs : Short fs) : FunOK Tryz.prog 46 [.agg [.d (.row (R coreD cs)), .d (.row (R entD hm)), .d (.row (framesD fs))]] (hOf []) (.agg [.own 0, .d (.row (R entD hm)), .d (.row (framesD fs))]) (hOf [(0, .live (.row (R coreD cs) 4 49 false))]) := by
  refine fun_can (pins := []) (l0 := []) (objs := _) (base := 0) (xx_ok tabCO_ok ksCO) mixed Tryz.func46 rfl (Nat.le_of_ble_eq_true rfl) rfl rfl ?_
  have hlen : (R coreD cs).length = cs.length := R_len _ _
  have hz : List.replicate (((R coreD cs).length : Int)).toNat coreZ = padR coreZ (R coreD cs) 0 := by
    unfold padR
    rw [Int.toNat_natCast, List.take_zero]
    rfl
  repeat' ((conv => whnf); first | exact trivial | (with_reducible refine ap_of ?_; kernel_rfl) | (with_reducible refine ds_of ?_; kernel_rfl) | (with_reducible refine eq_of ?_; kernel_rfl) | exact rfl | (intro h; exact absurd h (by decide)) | intro _ | apply And.intro)
  all_goals first
    | exact Int.natCast_nonneg _
    | rfl
    | (rw [hlen]; omega)
    | skip
  (conv => whnf)
  refine loop_keep [1, 2, 3, 11] 40 [] {k : Nat // k ≤ cs.length} (fun k => [(12, V cs.length), (13, V k.1)]) (fun k => [(0, .live (.box [.d (.row (R coreD cs)), .d (.row (R entD hm)), .d (.row (framesD fs))] 29)), (8, .live (.box [.nils, .nils, .nils] 29)), (1024, .live (.row (padR coreZ (R coreD cs) k.1) 4 49 false))]) (fun k => cs.length - k.1) ⟨0, Nat.zero_le _⟩ ?_
  (conv => whnf)
  refine ⟨?_, ?_⟩
  · repeat' ((conv => whnf); first | exact trivial | exact rfl | apply And.intro)
    all_goals first
      | exact int_eq (show ((R coreD cs).length : Int) = cs.length by rw [hlen])
      | exact row_eq hz
      | trace_state
  · rintro ⟨k, hk⟩
    have hol := padR_len coreZ (R coreD cs) k (by omega)
    repeat' ((conv => whnf); first | exact trivial | (with_reducible refine ap_of ?_; kernel_rfl) | (with_reducible refine ds_of ?_; kernel_rfl) | (with_reducible refine eq_of ?_; kernel_rfl) | exact rfl | (intro h; exact absurd h (by decide)) | intro _ | apply And.intro)
    all_goals first
      | (have hlt : k < cs.length := (by have := k_lt (k := k) (n := cs.length) (by assumption); omega)
         have hki : (k : Int) < cs.length := by omega
         have hg0 : (R coreD cs).getD k [] = coreD (cs.getD k SCore.zero) := R_get coreD _ hlt
         have hgl : (cs.getD k SCore.zero).lines.length < 1000 := hcl _ (by simp [List.getD, hlt])
         generalize cs.getD k SCore.zero = c at *
         have hg : (R coreD cs).getD k [] = [.row (rowsL c.lines), J c.wait.kind, J c.wait.line, J c.wait.value] := hg0
         have hoz := padR_get coreZ (R coreD cs) k (by omega)
         have hrl := rowsL_len c.lines
         first
           | exact Int.natCast_nonneg _
           | (rw [hlen]; exact hki)
           | (rw [hlen, show ∀ n : Nat, ((n : Nat) : Int).toNat = n from Int.toNat_natCast]; exact hlt)
           | (rw [hol, hlen]; exact hki)
           | (rw [hol, hlen, show ∀ n : Nat, ((n : Nat) : Int).toNat = n from Int.toNat_natCast]; exact hlt)
           | rfl
           | (rw [show ∀ n : Nat, ((n : Nat) : Int).toNat = n from Int.toNat_natCast, hg]; first | rfl | exact Nat.le_refl _ | exact ⟨rowsL_one _, by rw [hrl]; exact hgl⟩ | exact rowsL_one _ | (show (rowsL c.lines).length < 1000; omega))
           | (rw [show ∀ n : Nat, ((n : Nat) : Int).toNat = n from Int.toNat_natCast, hoz]; first | rfl | exact Nat.le_refl _)
           | (have hm2 := (by assumption : _ ∈ (((R coreD cs).getD ((k : Nat) : Int).toNat []).getD 0 dz).toR)
              rw [show ∀ n : Nat, ((n : Nat) : Int).toNat = n from Int.toNat_natCast, hg] at hm2
              exact rowsL_one _ _ hm2)
           | ((conv => whnf)
              refine ⟨⟨k + 1, hlt⟩, [], ?_, ?_⟩
              · show cs.length - (k + 1) < cs.length - k
                omega
              · repeat' ((conv => whnf); first | exact trivial | exact rfl | apply And.intro)
                · exact succ_eq k (by omega)
                · refine row_eq ?_
                  have key := padR_set coreZ (R coreD cs) k (by omega)
                  rw [hg] at key
                  refine Eq.trans ?_ key
                  simp only [Int.toNat_natCast, hg, List.getD_cons_zero, List.getD_cons_succ, DV.toI, DV.toR]
                  rfl)
           | trace_state)
      | (have hke : k = cs.length := (by have := k_ge (k := k) (n := cs.length) (by assumption); omega)
         subst hke
         have hall : padR coreZ (R coreD cs) cs.length = R coreD cs := by rw [← hlen]; exact padR_all _ _
         first
           | exact ⟨hm, rfl, hh, hhl⟩
           | exact ⟨fs, rfl, hs⟩
           | rfl
           | (show [(0, OS.live (.row (padR coreZ (R coreD cs) cs.length) 4 49 false))] = _
              rw [hall])
           | trace_state)
      | trace_state
end Go.Proofs.YtpgeopefamomnaeGreat

namespace Go.Proofs.YtpgeopefamomnaeGreat
open Go.RowKit
set_option linter.unusedVariables false
set_option linter.unusedSimpArgs false
set_option maxRecDepth 100000
theorem cores_xi {n L : Nat} {x : SChip} {V : Nat → Int} (X : XI n L x V) : ∀ c ∈ x.cores, c.lines.length < 1000 := by
  intro c hc
  have hnc := X.nc
  obtain ⟨j, hj, rfl⟩ := List.getElem_of_mem hc
  have h := X.nl j (by omega)
  have hl := X.l4
  have e1 : x.core j = x.cores[j] := by simp [SChip.core, List.getD, hj]
  rw [e1] at h
  omega
theorem short_xi {n L : Nat} {x : SChip} {V : Nat → Int} (X : XI n L x V) : Short x.frames := ⟨Nat.le_trans X.fl (by decide), fun f hf => by rw [good_len (X.good f hf)]; decide⟩
def cownT (xs : List AV) (l0 : List (Nat × OS)) : Ans := match xs, l0 with
  | [.agg [.d (.row cr), .d (.row hr), .d (.row fr)]], [] => some (∃ x n L V, cr = R coreD x.cores ∧ hr = R entD x.home ∧ fr = framesD x.frames ∧ XI n L x V, .agg [.own 0, .d (.row hr), .d (.row fr)], [(0, .live (.row cr 4 49 false))])
  | _, _ => none
theorem cown_does : Does Tryz.prog 46 cownT := ⟨⟨_, Tryz.func46, by decide, rfl⟩, fun xs l0 p v objs h hp => by
  unfold cownT at h
  split at h
  · cases h
    obtain ⟨x, n, L, V, rfl, rfl, rfl, X⟩ := hp
    have H := homes_xi X
    exact cown_chip x.cores x.home x.frames (by have := X.nc; have := X.n4; omega) (cores_xi X) H.1 H.la (short_xi X)
  · cases h⟩
end Go.Proofs.YtpgeopefamomnaeGreat

namespace Go.Proofs.YtpgeopefamomnaeGreat
open Go.RowKit
set_option linter.unusedVariables false
set_option linter.unusedSimpArgs false
set_option maxRecDepth 100000
def tabCN : Canon := orT 53 cNewT (orT 54 hNewT tab0)
theorem tabCN_ok : Sound Tryz.prog tabCN := (tab0_ok.or hNew_does).or cNew_does
def ksCN : List FuncId := [53, 54]
def freshC (L : Nat) : SCore := ⟨List.replicate L SLine.zero, SOp.zero⟩
theorem newF_in {n L : Nat} (hn : 1 ≤ n ∧ n ≤ 4) (hL : 1 ≤ L ∧ L ≤ 4) : newF ⟨n, L⟩ = (⟨List.replicate n (freshC L), List.replicate L ⟨0, -1, 0, 0, 0, 0, false, 0, 0, List.replicate n 0⟩, []⟩, 0) := by
  unfold newF
  rw [if_neg (by simp only []; omega), Int.toNat_natCast, Int.toNat_natCast]
  rfl
set_option maxHeartbeats 4000000
theorem chnew_no (a b : Int) (h : a < 1 ∨ 4 < a ∨ b < 1 ∨ 4 < b) : FunOK Tryz.prog 32 [.agg [I a, I b]] (hOf []) (.tup [.agg (chipC (newF ⟨a, b⟩).1), V (newF ⟨a, b⟩).2]) (hOf []) := by
  have hN : newF ⟨a, b⟩ = (SChip.zero, 3) := if_pos h
  rw [hN]
  refine fun_deep (pins := []) (l0 := []) (objs := []) (base := 0) (xx_ok tabCN_ok ksCN) mixed Tryz.func32 rfl (Nat.le_of_ble_eq_true rfl) rfl rfl ?_
  rcases (show a < 1 ∨ (1 ≤ a ∧ 4 < a) ∨ (1 ≤ a ∧ a ≤ 4 ∧ b < 1) ∨ (1 ≤ a ∧ a ≤ 4 ∧ 1 ≤ b ∧ 4 < b) by omega) with h | h | h | h
  · have hx : ¬ ((decide (a < 1) == false) = true) := by simp [h]
    repeat' ((conv => whnf); first | exact trivial | (with_reducible refine ap_of ?_; kernel_rfl) | (with_reducible refine ds_of ?_; kernel_rfl) | (with_reducible refine eq_of ?_; kernel_rfl) | exact rfl | (intro h; exact absurd h (by decide)) | (intro h; exact absurd h hx) | intro _ | apply And.intro)
    all_goals first | rfl | (exfalso; simp_all; done) | (exfalso; simp_all; omega) | trace_state
  · have hx : ¬ ((decide (a < 1) == false) = false) := by simp; omega
    have hx2 : ¬ ((decide (a > 4) == false) = true) := by simp; omega
    repeat' ((conv => whnf); first | exact trivial | (with_reducible refine ap_of ?_; kernel_rfl) | (with_reducible refine ds_of ?_; kernel_rfl) | (with_reducible refine eq_of ?_; kernel_rfl) | exact rfl | (intro h; exact absurd h (by decide)) | (intro h; exact absurd h hx) | (intro h; exact absurd h hx2) | intro _ | apply And.intro)
    all_goals first | rfl | (exfalso; simp_all; done) | (exfalso; simp_all; omega) | trace_state
  · have hx : ¬ ((decide (a < 1) == false) = false) := by simp; omega
    have hx2 : ¬ ((decide (a > 4) == false) = false) := by simp; omega
    have hx3 : ¬ ((decide (b < 1) == false) = true) := by simp; omega
    repeat' ((conv => whnf); first | exact trivial | (with_reducible refine ap_of ?_; kernel_rfl) | (with_reducible refine ds_of ?_; kernel_rfl) | (with_reducible refine eq_of ?_; kernel_rfl) | exact rfl | (intro h; exact absurd h (by decide)) | (intro h; exact absurd h hx) | (intro h; exact absurd h hx2) | (intro h; exact absurd h hx3) | intro _ | apply And.intro)
    all_goals first | rfl | (exfalso; simp_all; done) | (exfalso; simp_all; omega) | trace_state
  · have hx : ¬ ((decide (a < 1) == false) = false) := by simp; omega
    have hx2 : ¬ ((decide (a > 4) == false) = false) := by simp; omega
    have hx3 : ¬ ((decide (b < 1) == false) = false) := by simp; omega
    have hx4 : ¬ (decide (b > 4) = false) := by simp; omega
    repeat' ((conv => whnf); first | exact trivial | (with_reducible refine ap_of ?_; kernel_rfl) | (with_reducible refine ds_of ?_; kernel_rfl) | (with_reducible refine eq_of ?_; kernel_rfl) | exact rfl | (intro h; exact absurd h (by decide)) | (intro h; exact absurd h hx) | (intro h; exact absurd h hx2) | (intro h; exact absurd h hx3) | (intro h; exact absurd h hx4) | intro _ | apply And.intro)
    all_goals first | rfl | (exfalso; simp_all; done) | (exfalso; simp_all; omega) | trace_state
theorem chnew_in (n L : Nat) (hn : 1 ≤ n ∧ n ≤ 4) (hL : 1 ≤ L ∧ L ≤ 4) : FunOK Tryz.prog 32 [.agg [I n, I L]] (hOf []) (.tup [.agg (chipC (newF ⟨n, L⟩).1), V (newF ⟨n, L⟩).2]) (hOf []) := by
  rw [newF_in hn hL]
  refine fun_deep (pins := []) (l0 := []) (objs := []) (base := 0) (xx_ok tabCN_ok ksCN) mixed Tryz.func32 rfl (Nat.le_of_ble_eq_true rfl) rfl rfl ?_
  have hx : ¬ ((decide ((n : Int) < 1) == false) = false) := by simp; omega
  have hx2 : ¬ ((decide ((n : Int) > 4) == false) = false) := by simp; omega
  have hx3 : ¬ ((decide ((L : Int) < 1) == false) = false) := by simp; omega
  have hx4 : ¬ (decide ((L : Int) > 4) = true) := by simp; omega
  have hlen : (R coreD (List.replicate n (freshC L))).length = n := by rw [R_len, List.length_replicate]
  have hz : List.replicate ((n : Int)).toNat coreZ = padR coreZ (R coreD (List.replicate n (freshC L))) 0 := by
    unfold padR
    rw [Int.toNat_natCast, List.take_zero, hlen]
    rfl
  repeat' ((conv => whnf); first | exact trivial | (with_reducible refine ap_of ?_; kernel_rfl) | (with_reducible refine ds_of ?_; kernel_rfl) | (with_reducible refine eq_of ?_; kernel_rfl) | exact rfl | (intro h; exact absurd h (by decide)) | (intro h; exact absurd h hx) | (intro h; exact absurd h hx2) | (intro h; exact absurd h hx3) | (intro h; exact absurd h hx4) | intro _ | apply And.intro)
  all_goals clear hx hx2 hx3 hx4
  all_goals first
    | exact Int.natCast_nonneg _
    | rfl
    | omega
    | (exfalso; simp_all; done)
    | skip
  (conv => whnf)
  refine loop_keep [1, 2, 3, 5] 40 [] {k : Nat // k ≤ n} (fun k => [(17, V n), (18, V k.1)]) (fun k => [(0, .live (.box [I n, I L] 23)), (8, .live (.box [.nils, .nils, .nils] 29)), (3016, .live (.row (padR coreZ (R coreD (List.replicate n (freshC L))) k.1) 4 49 false))]) (fun k => n - k.1) ⟨0, Nat.zero_le _⟩ ?_
  (conv => whnf)
  refine ⟨?_, ?_⟩
  · repeat' ((conv => whnf); first | exact trivial | exact rfl | apply And.intro)
    all_goals first
      | exact int_eq (show ((List.replicate ((n : Int)).toNat coreZ).length : Int) = n by rw [List.length_replicate, Int.toNat_natCast])
      | exact row_eq hz
      | trace_state
  · rintro ⟨k, hk⟩
    have hol := padR_len coreZ (R coreD (List.replicate n (freshC L))) k (by omega)
    repeat' ((conv => whnf); first | exact trivial | (with_reducible refine ap_of ?_; kernel_rfl) | (with_reducible refine ds_of ?_; kernel_rfl) | (with_reducible refine eq_of ?_; kernel_rfl) | exact rfl | (intro h; exact absurd h (by decide)) | intro _ | apply And.intro)
    all_goals first
      | (have hlt : k < n := (by have := k_lt (k := k) (n := n) (by assumption); omega)
         have hki : (k : Int) < n := by omega
         have hg : (R coreD (List.replicate n (freshC L))).getD k [] = coreD (freshC L) := by
           rw [R_get coreD SCore.zero (by rw [List.length_replicate]; exact hlt)]
           simp [List.getD, hlt]
         have hoz := padR_get coreZ (R coreD (List.replicate n (freshC L))) k (by omega)
         first
           | exact Int.natCast_nonneg _
           | (rw [hol, hlen]; exact hki)
           | (rw [hol, hlen, show ∀ n : Nat, ((n : Nat) : Int).toNat = n from Int.toNat_natCast]; exact hlt)
           | rfl
           | (rw [show ∀ n : Nat, ((n : Nat) : Int).toNat = n from Int.toNat_natCast, hoz]; first | rfl | exact Nat.le_refl _)
           | omega
           | exact Nat.le_refl _
           | exact ⟨by omega, by omega⟩
           | ((conv => whnf)
              refine ⟨⟨k + 1, hlt⟩, [], ?_, ?_⟩
              · show n - (k + 1) < n - k
                omega
              · repeat' ((conv => whnf); first | exact trivial | exact rfl | apply And.intro)
                · exact succ_eq k (by omega)
                · refine row_eq ?_
                  have key := padR_set coreZ (R coreD (List.replicate n (freshC L))) k (by omega)
                  rw [hg] at key
                  refine Eq.trans ?_ key
                  simp only [Int.toNat_natCast]
                  rfl)
           | trace_state)
      | (have hke : k = n := (by have := k_ge (k := k) (n := n) (by assumption); omega)
         subst hke
         have hall : padR coreZ (R coreD (List.replicate k (freshC L))) k = R coreD (List.replicate k (freshC L)) := by
           have h := padR_all coreZ (R coreD (List.replicate k (freshC L)))
           rw [hlen] at h
           exact h
         first
           | omega
           | exact ⟨by omega, by omega⟩
           | (rw [Int.toNat_natCast, Int.toNat_natCast]
              show AV.tup [AV.agg [.d (.row (padR coreZ (R coreD (List.replicate k (freshC L))) k)), .d (.row (R entD (List.replicate L ⟨0, -1, 0, 0, 0, 0, false, 0, 0, List.replicate k 0⟩))), .d (.row [])], V 0] = _
              rw [hall]
              rfl)
           | rfl
           | trace_state)
      | trace_state
theorem chnew_any (a b : Int) : FunOK Tryz.prog 32 [.agg [I a, I b]] (hOf []) (.tup [.agg (chipC (newF ⟨a, b⟩).1), V (newF ⟨a, b⟩).2]) (hOf []) := by
  by_cases h : a < 1 ∨ 4 < a ∨ b < 1 ∨ 4 < b
  · exact chnew_no a b h
  · obtain ⟨n, rfl⟩ := Int.eq_ofNat_of_zero_le (show 0 ≤ a by omega)
    obtain ⟨L, rfl⟩ := Int.eq_ofNat_of_zero_le (show 0 ≤ b by omega)
    exact chnew_in n L (by omega) (by omega)
theorem chnew_does : Does Tryz.prog 32 newT := ⟨⟨_, Tryz.func32, by decide, rfl⟩, fun xs l0 p v objs h hp => by
  unfold newT at h
  split at h
  · cases h
    exact chnew_any _ _
  · cases h⟩
end Go.Proofs.YtpgeopefamomnaeGreat

