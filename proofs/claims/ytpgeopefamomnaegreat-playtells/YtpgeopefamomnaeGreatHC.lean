/- HHear HSame HNew HTimer HTabs. -/
import Derived.Test.YtpgeopefamomnaeGreatHI
import Derived.Test.YtpgeopefamomnaeGreatHK
import Derived.Test.YtpgeopefamomnaeGreatRP
import Derived.Test.YtpgeopefamomnaeGreatHB
import Derived.Test.YtpgeopefamomnaeGreatRR
import Derived.Test.YtpgeopefamomnaeGreatRT
import Derived.Test.YtpgeopefamomnaeGreatHM
set_option linter.unusedSimpArgs false
set_option linter.unusedSectionVars false
namespace Go.Proofs.YtpgeopefamomnaeGreat
open Go.RowKit
set_option linter.unusedVariables false
set_option linter.unusedSimpArgs false
set_option maxRecDepth 100000
set_option maxHeartbeats 4000000
theorem chh_lo (l : List SEntry) (hl : l.length ≤ 1000) (hlas : ∀ e ∈ l, e.last.length ≤ 1000) (kd frm to line serial turn value : Int) (ma : Bool) (id : Int) (h : line < 0) : FunOK Tryz.prog 108 [Ro (R entD l), V id, .agg [I kd, I frm, I to, I line, I serial, I turn, I value, .d (.bool ma)]] (hOf []) (.tup [Ro (R entD l), Ro []]) (hOf []) := by
  refine fun_deep (pins := []) (l0 := []) (objs := []) (base := 0) (xx_ok tabHH_ok ksHH) mixed Tryz.func108 rfl (Nat.le_of_ble_eq_true rfl) rfl rfl ?_
  have hlen : (R entD l).length = l.length := R_len _ _
  have hx : ¬ ((decide (line < 0) == false) = true) := by simp [h]
  repeat' ((conv => whnf); first | exact trivial | (with_reducible refine ap_of ?_; kernel_rfl) | (with_reducible refine ds_of ?_; kernel_rfl) | (with_reducible refine eq_of ?_; kernel_rfl) | exact rfl | (intro h; exact absurd h (by decide)) | (intro h; exact absurd h hx) | intro _ | apply And.intro)
  all_goals clear hx
  all_goals first
    | exact ⟨l, rfl, hl, hlas⟩
    | rfl
    | (rw [hlen]; omega)
    | omega
    | (rw [hlr, hrn]; omega)
    | exact rowsI_one _ _ (hlr ▸ (by assumption))
    | (rw [hg]; first | rfl | exact Nat.le_refl _ | exact Nat.le_of_ble_eq_true rfl)
    | skip
  all_goals trace_state
theorem chh_hi (l : List SEntry) (hl : l.length ≤ 1000) (hlas : ∀ e ∈ l, e.last.length ≤ 1000) (kd frm to line serial turn value : Int) (ma : Bool) (id : Int) (h : (l.length : Int) ≤ line) : FunOK Tryz.prog 108 [Ro (R entD l), V id, .agg [I kd, I frm, I to, I line, I serial, I turn, I value, .d (.bool ma)]] (hOf []) (.tup [Ro (R entD l), Ro []]) (hOf []) := by
  refine fun_deep (pins := []) (l0 := []) (objs := []) (base := 0) (xx_ok tabHH_ok ksHH) mixed Tryz.func108 rfl (Nat.le_of_ble_eq_true rfl) rfl rfl ?_
  have hlen : (R entD l).length = l.length := R_len _ _
  have hxa : ¬ ((decide (line < 0) == false) = false) := by simp; omega
  have hx2 : ¬ (decide (line ≥ ((R entD l).length : Int)) = false) := by rw [hlen]; simp [h]
  repeat' ((conv => whnf); first | exact trivial | (with_reducible refine ap_of ?_; kernel_rfl) | (with_reducible refine ds_of ?_; kernel_rfl) | (with_reducible refine eq_of ?_; kernel_rfl) | exact rfl | (intro h; exact absurd h (by decide)) | (intro h; exact absurd h hxa) | (intro h; exact absurd h hx2) | intro _ | apply And.intro)
  all_goals clear hxa hx2
  all_goals first
    | exact ⟨l, rfl, hl, hlas⟩
    | rfl
    | (rw [hlen]; omega)
    | omega
    | (rw [hlr, hrn]; omega)
    | exact rowsI_one _ _ (hlr ▸ (by assumption))
    | (rw [hg]; first | rfl | exact Nat.le_refl _ | exact Nat.le_of_ble_eq_true rfl)
    | skip
  all_goals trace_state
theorem chh_frl (l : List SEntry) (hl : l.length ≤ 1000) (hlas : ∀ e ∈ l, e.last.length ≤ 1000) (kd frm to line serial turn value : Int) (ma : Bool) (id : Int) (h0 : 0 ≤ line) (h1 : line < (l.length : Int)) (h : frm < 0) : FunOK Tryz.prog 108 [Ro (R entD l), V id, .agg [I kd, I frm, I to, I line, I serial, I turn, I value, .d (.bool ma)]] (hOf []) (.tup [Ro (R entD l), Ro []]) (hOf []) := by
  refine fun_deep (pins := []) (l0 := []) (objs := []) (base := 0) (xx_ok tabHH_ok ksHH) mixed Tryz.func108 rfl (Nat.le_of_ble_eq_true rfl) rfl rfl ?_
  have hlen : (R entD l).length = l.length := R_len _ _
  have hnl : line.toNat < l.length := by omega
  have hnl2 : line.toNat < (R entD l).length := by omega
  have hli : line < ((R entD l).length : Int) := by omega
  have hg : (R entD l).getD line.toNat [] = entD (l.getD line.toNat SEntry.zero) := R_get entD SEntry.zero hnl
  have hlr : (((R entD l).getD line.toNat []).getD (0 + 1 + 1 + 1 + 1 + 1 + 1 + 1 + 1 + 1) dz).toR = rowsI (l.getD line.toNat SEntry.zero).last := by rw [hg]; rfl
  have hrn : (rowsI (l.getD line.toNat SEntry.zero).last).length = (l.getD line.toNat SEntry.zero).last.length := rowsI_len _
  have hxa : ¬ ((decide (line < 0) == false) = false) := by simp; omega
  have hx2 : ¬ (decide (line ≥ ((R entD l).length : Int)) = true) := by simp; omega
  have hx3 : ¬ ((decide (frm ≥ 0) == true) = true) := by simp; omega
  repeat' ((conv => whnf); first | exact trivial | (with_reducible refine ap_of ?_; kernel_rfl) | (with_reducible refine ds_of ?_; kernel_rfl) | (with_reducible refine eq_of ?_; kernel_rfl) | exact rfl | (intro h; exact absurd h (by decide)) | (intro h; exact absurd h hxa) | (intro h; exact absurd h hx2) | (intro h; exact absurd h hx3) | intro _ | apply And.intro)
  all_goals clear hxa hx2 hx3
  all_goals first
    | exact ⟨l, rfl, hl, hlas⟩
    | rfl
    | (rw [hlen]; omega)
    | omega
    | (rw [hlr, hrn]; omega)
    | exact rowsI_one _ _ (hlr ▸ (by assumption))
    | (rw [hg]; first | rfl | exact Nat.le_refl _ | exact Nat.le_of_ble_eq_true rfl)
    | skip
  all_goals trace_state
theorem chh_frh (l : List SEntry) (hl : l.length ≤ 1000) (hlas : ∀ e ∈ l, e.last.length ≤ 1000) (kd frm to line serial turn value : Int) (ma : Bool) (id : Int) (h0 : 0 ≤ line) (h1 : line < (l.length : Int)) (h2 : 0 ≤ frm) (h : ((l.getD line.toNat SEntry.zero).last.length : Int) ≤ frm) : FunOK Tryz.prog 108 [Ro (R entD l), V id, .agg [I kd, I frm, I to, I line, I serial, I turn, I value, .d (.bool ma)]] (hOf []) (.tup [Ro (R entD l), Ro []]) (hOf []) := by
  refine fun_deep (pins := []) (l0 := []) (objs := []) (base := 0) (xx_ok tabHH_ok ksHH) mixed Tryz.func108 rfl (Nat.le_of_ble_eq_true rfl) rfl rfl ?_
  have hlen : (R entD l).length = l.length := R_len _ _
  have hnl : line.toNat < l.length := by omega
  have hnl2 : line.toNat < (R entD l).length := by omega
  have hli : line < ((R entD l).length : Int) := by omega
  have hg : (R entD l).getD line.toNat [] = entD (l.getD line.toNat SEntry.zero) := R_get entD SEntry.zero hnl
  have hlr : (((R entD l).getD line.toNat []).getD (0 + 1 + 1 + 1 + 1 + 1 + 1 + 1 + 1 + 1) dz).toR = rowsI (l.getD line.toNat SEntry.zero).last := by rw [hg]; rfl
  have hrn : (rowsI (l.getD line.toNat SEntry.zero).last).length = (l.getD line.toNat SEntry.zero).last.length := rowsI_len _
  have hxa : ¬ ((decide (line < 0) == false) = false) := by simp; omega
  have hx2 : ¬ (decide (line ≥ ((R entD l).length : Int)) = true) := by simp; omega
  have hx3 : ¬ ((decide (frm ≥ 0) == true) = false) := by simp; omega
  have hx4 : ¬ ((!decide (frm < ((((R entD l).getD line.toNat []).getD (0 + 1 + 1 + 1 + 1 + 1 + 1 + 1 + 1 + 1) dz).toR.length : Int))) = false) := by rw [hlr, hrn, decide_eq_false (by omega)]; simp
  repeat' ((conv => whnf); first | exact trivial | (with_reducible refine ap_of ?_; kernel_rfl) | (with_reducible refine ds_of ?_; kernel_rfl) | (with_reducible refine eq_of ?_; kernel_rfl) | exact rfl | (intro h; exact absurd h (by decide)) | (intro h; exact absurd h hxa) | (intro h; exact absurd h hx2) | (intro h; exact absurd h hx3) | (intro h; exact absurd h hx4) | intro _ | apply And.intro)
  all_goals clear hxa hx2 hx3 hx4
  all_goals first
    | exact ⟨l, rfl, hl, hlas⟩
    | rfl
    | (rw [hlen]; omega)
    | omega
    | (rw [hlr, hrn]; omega)
    | exact rowsI_one _ _ (hlr ▸ (by assumption))
    | (rw [hg]; first | rfl | exact Nat.le_refl _ | exact Nat.le_of_ble_eq_true rfl)
    | skip
  all_goals trace_state
theorem chh_in (l : List SEntry) (id : Int) (m : Msg) (hl : l.length ≤ 1000) (hlas : ∀ e ∈ l, e.last.length ≤ 1000) (h0 : 0 ≤ m.line) (h1 : m.line < l.length) (h2 : 0 ≤ m.frm) (h3 : m.frm < (l.getD m.line.toNat SEntry.zero).last.length) (ok : HomeOK (l.getD m.line.toNat SEntry.zero)) : FunOK Tryz.prog 108 [Ro (R entD l), V id, .agg (msgC m)] (hOf []) (.tup [Ro (R entD (homeHearF l id m).1), Ro (R msgD (homeHearF l id m).2)]) (hOf []) := by
  have hnl : m.line.toNat < l.length := by omega
  have hg : (R entD l).getD m.line.toNat [] = entD (l.getD m.line.toNat SEntry.zero) := R_get entD SEntry.zero hnl
  have hF : homeHearF l id m = (l.set m.line.toNat (homeL (l.getD m.line.toNat SEntry.zero) m.line id m.frm.toNat m).1, (homeL (l.getD m.line.toNat SEntry.zero) m.line id m.frm.toNat m).2) := by
    unfold homeHearF
    rw [if_neg (by omega)]
  rw [hF]
  generalize l.getD m.line.toNat SEntry.zero = e at *
  obtain ⟨p, hp⟩ := Int.eq_ofNat_of_zero_le h2
  have hpn : m.frm.toNat = p := by omega
  rw [hpn, ← R_set]
  have h3' : p < e.last.length := by omega
  obtain ⟨kd, frm, to, line, serial, turn, value, ma⟩ := m
  simp only at *
  subst hp
  by_cases k1 : kd = 1
  · subst k1
    exact chh1 l hl hlas _ _ _ _ _ _ _ _ _ _ p to line serial turn value ma id h0 h1 h3' hg ok.sh ok.nd ok.ow ok.fo ok.la ok.tu (fun _ _ => trivial) _ rfl
  by_cases k2 : kd = 2
  · subst k2
    exact chh2 l hl hlas _ _ _ _ _ _ _ _ _ _ p to line serial turn value ma id h0 h1 h3' hg ok.sh ok.nd ok.ow ok.fo ok.la ok.tu (fun _ _ => trivial) _ rfl
  by_cases k3 : kd = 3
  · subst k3
    exact chh3 l hl hlas _ _ _ _ _ _ _ _ _ _ p to line serial turn value ma id h0 h1 h3' hg ok.sh ok.nd ok.ow ok.fo ok.la ok.tu (fun _ _ => trivial) _ rfl
  by_cases k8 : kd = 8
  · subst k8
    exact chh8 l hl hlas _ _ _ _ _ _ _ _ _ _ p to line serial turn value ma id h0 h1 h3' hg ok.sh ok.nd ok.ow ok.fo ok.la ok.tu (fun _ _ => trivial) _ rfl
  by_cases k9 : kd = 9
  · subst k9
    exact chh9 l hl hlas _ _ _ _ _ _ _ _ _ _ p to line serial turn value ma id h0 h1 h3' hg ok.sh ok.nd ok.ow ok.fo ok.la ok.tu (fun _ _ => trivial) _ rfl
  by_cases k10 : kd = 10
  · subst k10
    exact chh10 l hl hlas _ _ _ _ _ _ _ _ _ _ p to line serial turn value ma id h0 h1 h3' hg ok.sh ok.nd ok.ow ok.fo ok.la ok.tu (fun _ _ => trivial) _ rfl
  exact chhX l hl hlas _ _ _ _ _ _ _ _ _ _ kd ⟨k1, k2, k3, k8, k9, k10⟩ p to line serial turn value ma id h0 h1 h3' hg ok.sh ok.nd ok.ow ok.fo ok.la ok.tu (fun _ _ => trivial) _ rfl
theorem chear_home (l : List SEntry) (id : Int) (m : Msg) (hl : l.length ≤ 1000) (hlas : ∀ e ∈ l, e.last.length ≤ 1000) (ok : 0 ≤ m.line → m.line < l.length → HomeOK (l.getD m.line.toNat SEntry.zero)) : FunOK Tryz.prog 108 [Ro (R entD l), V id, .agg (msgC m)] (hOf []) (.tup [Ro (R entD (homeHearF l id m).1), Ro (R msgD (homeHearF l id m).2)]) (hOf []) := by
  by_cases ho : m.line < 0 ∨ (l.length : Int) ≤ m.line ∨ m.frm < 0 ∨ ((l.getD m.line.toNat SEntry.zero).last.length : Int) ≤ m.frm
  · have hF : homeHearF l id m = (l, []) := by
      unfold homeHearF
      rw [if_pos ho]
    rw [hF]
    by_cases a : m.line < 0
    · exact chh_lo l hl hlas m.kind m.frm m.to m.line m.serial m.turn m.value m.alone id a
    by_cases b : (l.length : Int) ≤ m.line
    · exact chh_hi l hl hlas m.kind m.frm m.to m.line m.serial m.turn m.value m.alone id b
    by_cases c : m.frm < 0
    · exact chh_frl l hl hlas m.kind m.frm m.to m.line m.serial m.turn m.value m.alone id (by omega) (by omega) c
    · exact chh_frh l hl hlas m.kind m.frm m.to m.line m.serial m.turn m.value m.alone id (by omega) (by omega) (by omega) (by omega)
  · exact chh_in l id m hl hlas (by omega) (by omega) (by omega) (by omega) (ok (by omega) (by omega))
end Go.Proofs.YtpgeopefamomnaeGreat

namespace Go.Proofs.YtpgeopefamomnaeGreat
open Go.RowKit
set_option linter.unusedVariables false
set_option linter.unusedSimpArgs false
set_option maxRecDepth 100000
set_option maxHeartbeats 4000000
theorem sameI_ok (la : List Int) (hl : la.length ≤ 1000) : FunOK Tryz.prog 49 [Ro (rowsI la), Ro (rowsI la)] (hOf []) (Vb true) (hOf []) := by
  refine fun_deep (pins := []) (l0 := []) (objs := []) (base := 0) (xx_ok tab0_ok []) mixed Tryz.func49 rfl (Nat.le_of_ble_eq_true rfl) rfl rfl ?_
  repeat' ((conv => whnf); first | exact trivial | (with_reducible refine ap_of ?_; kernel_rfl) | (with_reducible refine ds_of ?_; kernel_rfl) | (with_reducible refine eq_of ?_; kernel_rfl) | exact rfl | (intro h; exact absurd h (by decide)) | intro _ | apply And.intro)
  all_goals first
    | rfl
    | (exfalso; simp_all; done)
    | skip
  (conv => whnf)
  refine loop_keep [0, 1] 40 [] {k : Nat // k ≤ la.length} (fun k => [(4, Vb false), (12, V la.length), (13, V k.1)]) (fun k => []) (fun k => la.length - k.1) ⟨0, Nat.zero_le _⟩ ?_
  (conv => whnf)
  refine ⟨?_, ?_⟩
  · repeat' ((conv => whnf); first | exact trivial | exact rfl | apply And.intro)
    all_goals first | exact int_eq (show ((rowsI la).length : Int) = la.length by rw [rowsI_len]) | trace_state
  · rintro ⟨k, hk⟩
    repeat' ((conv => whnf); first | exact trivial | (with_reducible refine ap_of ?_; kernel_rfl) | (with_reducible refine ds_of ?_; kernel_rfl) | (with_reducible refine eq_of ?_; kernel_rfl) | exact rfl | (intro h; exact absurd h (by decide)) | intro _ | apply And.intro)
    all_goals first
      | (have hlt : k < la.length := (by have := k_lt (k := k) (n := la.length) (by assumption); omega)
         first
           | first | exact Int.natCast_nonneg _ | (rw [rowsI_len]; exact Int.ofNat_lt.2 (show (k : Nat) < _ from hlt)) | (rw [show ∀ n : Nat, ((n : Nat) : Int).toNat = n from Int.toNat_natCast, rowsI_get hlt]; first | rfl | exact Nat.le_refl _) | (rw [show ∀ n : Nat, ((n : Nat) : Int).toNat = n from Int.toNat_natCast, rowsI_len]; exact hlt)
           | rfl
           | (exfalso; simp_all; done)
           | ((conv => whnf)
              refine ⟨⟨k + 1, hlt⟩, [], ?_, ?_⟩
              · show la.length - (k + 1) < la.length - k
                omega
              · repeat' ((conv => whnf); first | exact trivial | exact rfl | apply And.intro)
                exact succ_eq k (by omega)))
      | (have hke : k = la.length := (by have := k_ge (k := k) (n := la.length) (by assumption); omega)
         first | rfl | trace_state)
      | trace_state
def sameIT (xs : List AV) (l0 : List (Nat × OS)) : Ans := match xs, l0 with
  | [.c (.d (.row a)), .c (.d (.row b))], [] => some (∃ la, a = rowsI la ∧ b = rowsI la ∧ la.length ≤ 1000, Vb true, [])
  | _, _ => none
theorem sameI_does : Does Tryz.prog 49 sameIT := ⟨⟨_, Tryz.func49, by decide, rfl⟩, fun xs l0 p v objs h hp => by
  unfold sameIT at h
  split at h
  · cases h
    obtain ⟨la, rfl, rfl, h1⟩ := hp
    exact sameI_ok la h1
  · cases h⟩
def tabSI : Canon := orT 49 sameIT tab0
theorem tabSI_ok : Sound Tryz.prog tabSI := tab0_ok.or sameI_does
theorem sameHome_ok (l : List SEntry) (hl : l.length ≤ 1000) (hla : ∀ e ∈ l, e.last.length ≤ 1000) : FunOK Tryz.prog 25 [Ro (R entD l), Ro (R entD l)] (hOf []) (Vb true) (hOf []) := by
  refine fun_deep (pins := []) (l0 := []) (objs := []) (base := 0) (xx_ok tabSI_ok [49]) mixed Tryz.func25 rfl (Nat.le_of_ble_eq_true rfl) rfl rfl ?_
  repeat' ((conv => whnf); first | exact trivial | (with_reducible refine ap_of ?_; kernel_rfl) | (with_reducible refine ds_of ?_; kernel_rfl) | (with_reducible refine eq_of ?_; kernel_rfl) | exact rfl | (intro h; exact absurd h (by decide)) | intro _ | apply And.intro)
  all_goals first
    | rfl
    | (exfalso; simp_all; done)
    | skip
  (conv => whnf)
  refine loop_keep [0, 1] 40 [] {k : Nat // k ≤ l.length} (fun k => [(4, Vb false), (14, V l.length), (15, V k.1)]) (fun k => []) (fun k => l.length - k.1) ⟨0, Nat.zero_le _⟩ ?_
  have hlen : (R entD l).length = l.length := R_len _ _
  (conv => whnf)
  refine ⟨?_, ?_⟩
  · repeat' ((conv => whnf); first | exact trivial | exact rfl | apply And.intro)
    all_goals first | exact int_eq (show ((R entD l).length : Int) = l.length by rw [hlen]) | trace_state
  · rintro ⟨k, hk⟩
    repeat' ((conv => whnf); first | exact trivial | (with_reducible refine ap_of ?_; kernel_rfl) | (with_reducible refine ds_of ?_; kernel_rfl) | (with_reducible refine eq_of ?_; kernel_rfl) | exact rfl | (intro h; exact absurd h (by decide)) | intro _ | apply And.intro)
    all_goals first
      | (have hlt : k < l.length := (by have := k_lt (k := k) (n := l.length) (by assumption); omega)
         have hki : (k : Int) < l.length := by omega
         have hg : (R entD l).getD k [] = entD (l.getD k ⟨0, 0, 0, 0, 0, 0, false, 0, 0, []⟩) := R_get entD _ hlt
         have hgl : (l.getD k ⟨0, 0, 0, 0, 0, 0, false, 0, 0, []⟩).last.length ≤ 1000 := hla _ (by simp [List.getD, hlt])
         first
           | exact Int.natCast_nonneg _
           | (rw [hlen]; exact hki)
           | (rw [hlen, show ∀ n : Nat, ((n : Nat) : Int).toNat = n from Int.toNat_natCast]; exact hlt)
           | rfl
           | (rw [show ∀ n : Nat, ((n : Nat) : Int).toNat = n from Int.toNat_natCast, hg]; first | rfl | exact Nat.le_refl _ | exact ⟨_, rfl, rfl, hgl⟩)
           | (exfalso; simp_all; done)
           | ((conv => whnf)
              refine ⟨⟨k + 1, hlt⟩, [], ?_, ?_⟩
              · show l.length - (k + 1) < l.length - k
                omega
              · repeat' ((conv => whnf); first | exact trivial | exact rfl | apply And.intro)
                exact succ_eq k (by omega))
           | trace_state)
      | (have hke : k = l.length := (by have := k_ge (k := k) (n := l.length) (by assumption); omega)
         first | rfl | trace_state)
      | trace_state
def sameHT (xs : List AV) (l0 : List (Nat × OS)) : Ans := match xs, l0 with
  | [.c (.d (.row a)), .c (.d (.row b))], [] => some (∃ l, a = R entD l ∧ b = R entD l ∧ l.length ≤ 1000 ∧ ∀ e ∈ l, e.last.length ≤ 1000, Vb true, [])
  | _, _ => none
theorem sameH_does : Does Tryz.prog 25 sameHT := ⟨⟨_, Tryz.func25, by decide, rfl⟩, fun xs l0 p v objs h hp => by
  unfold sameHT at h
  split at h
  · cases h
    obtain ⟨l, rfl, rfl, h1, h2⟩ := hp
    exact sameHome_ok l h1 h2
  · cases h⟩
end Go.Proofs.YtpgeopefamomnaeGreat

namespace Go.Proofs.YtpgeopefamomnaeGreat
open Go.RowKit
set_option linter.unusedVariables false
set_option linter.unusedSimpArgs false
set_option maxRecDepth 100000
def entN (n : Nat) : List DV := [J 0, J (-1), J 0, J 0, J 0, J 0, .bool false, J 0, J 0, .row (List.replicate n [J 0])]
def newR (n L k : Nat) : Row := List.replicate k (entN n) ++ List.replicate (L - k) entZ
theorem newR_len (n L k : Nat) (h : k ≤ L) : (newR n L k).length = L := by
  unfold newR
  rw [List.length_append, List.length_replicate, List.length_replicate]
  omega
theorem newR_get (n L k : Nat) (h : k < L) : (newR n L k).getD k [] = entZ := by
  unfold newR
  rw [List.getD_eq_getElem?_getD, List.getElem?_append_right (by rw [List.length_replicate]; omega), List.length_replicate, List.getElem?_replicate, if_pos (by omega)]
  rfl
theorem newR_set (n L k : Nat) (h : k < L) : (newR n L k).set k (entN n) = newR n L (k + 1) := by
  unfold newR
  rw [List.set_append_right _ _ (by rw [List.length_replicate]; omega), List.length_replicate, Nat.sub_self, show L - k = (L - (k + 1)) + 1 by omega, List.replicate_succ, List.set_cons_zero, List.replicate_succ', List.append_assoc]
  rfl
theorem newR_all (n L : Nat) : newR n L L = R entD (List.replicate L ⟨0, -1, 0, 0, 0, 0, false, 0, 0, List.replicate n 0⟩) := by
  unfold newR R entD entN rowsI
  simp
set_option maxHeartbeats 4000000 in
theorem hnew_ok (n L : Nat) (hn : n ≤ 4) (hL : 1 ≤ L ∧ L ≤ 4) : FunOK Tryz.prog 54 [V n, V L] (hOf []) (Ro (R entD (List.replicate L ⟨0, -1, 0, 0, 0, 0, false, 0, 0, List.replicate n 0⟩))) (hOf []) := by
  rw [← newR_all]
  refine fun_deep (pins := []) (l0 := []) (objs := []) (base := 0) (xx_ok tab0_ok []) mixed Tryz.func54 rfl (Nat.le_of_ble_eq_true rfl) rfl rfl ?_
  have hm : (if (0 : Int) > (L : Int) then 0 else (L : Int)) = L := by rw [if_neg (by omega)]
  have hmn : (if (0 : Int) > (n : Int) then 0 else (n : Int)) = n := by rw [if_neg (by omega)]
  have hr : 0 ≤ IntKind.i64.wrap (IntKind.i64.wrap (Int.tdiv 2147483647 (L : Int)) - 96) ∧ 4 ≤ IntKind.i64.wrap ((IntKind.i64.wrap (IntKind.i64.wrap (Int.tdiv 2147483647 (L : Int)) - 96)).tdiv 8) := by
    rcases (show L = 1 ∨ L = 2 ∨ L = 3 ∨ L = 4 by omega) with rfl | rfl | rfl | rfl <;> decide
  have hx : ¬ (((if (0 : Int) > (L : Int) then 0 else (L : Int)) == 0) = true) := by
    rw [hm]
    simp
    omega
  have hx2 : ¬ ((decide (IntKind.i64.wrap (IntKind.i64.wrap (Int.tdiv 2147483647 (if (0 : Int) > (L : Int) then 0 else (L : Int))) - 96) < 0) == false) = false) := by
    rw [hm]
    have h1 := hr.1
    simp
    omega
  repeat' ((conv => whnf); first | exact trivial | (with_reducible refine ap_of ?_; kernel_rfl) | (with_reducible refine ds_of ?_; kernel_rfl) | (with_reducible refine eq_of ?_; kernel_rfl) | exact rfl | (intro h; exact absurd h (by decide)) | (intro h; exact absurd h hx) | (intro h; exact absurd h hx2) | intro _ | apply And.intro)
  all_goals clear hx hx2
  all_goals first
    | rfl
    | (rw [hm]; omega)
    | (exfalso; rw [hm, hmn] at *; simp only [decide_eq_true_eq] at *; omega)
    | (exfalso; rw [hm] at *; simp_all; done)
    | skip
  all_goals simp only [hm, hmn]
  (conv => whnf)
  refine loop_keep [0, 4, 5] 40 [] {k : Nat // k ≤ L} (fun k => [(17, V L), (18, V k.1)]) (fun k => [(0, .live (.row [] 10 54 false)), (3008, .live (.row (newR n L k.1) 10 54 false))]) (fun k => L - k.1) ⟨0, Nat.zero_le _⟩ ?_
  (conv => whnf)
  refine ⟨?_, ?_⟩
  · repeat' ((conv => whnf); first | exact trivial | exact rfl | apply And.intro)
    all_goals first
      | exact int_eq (show ((List.replicate ((L : Int)).toNat entZ).length : Int) = L by rw [List.length_replicate, Int.toNat_natCast])
      | exact row_eq (show List.replicate ((L : Int)).toNat entZ = newR n L 0 by rw [Int.toNat_natCast]; rfl)
      | trace_state
  · rintro ⟨k, hk⟩
    have hol := newR_len n L k hk
    repeat' ((conv => whnf); first | exact trivial | (with_reducible refine ap_of ?_; kernel_rfl) | (with_reducible refine ds_of ?_; kernel_rfl) | (with_reducible refine eq_of ?_; kernel_rfl) | exact rfl | (intro h; exact absurd h (by decide)) | intro _ | apply And.intro)
    all_goals first
      | (have hlt : k < L := (by have := k_lt (k := k) (n := L) (by assumption); omega)
         have hki : (k : Int) < L := by omega
         have hoz := newR_get n L k hlt
         first
           | exact Int.natCast_nonneg _
           | rfl
           | exact Nat.le_of_ble_eq_true rfl
           | (rw [hol]; exact hki)
           | (rw [hol, show ∀ n : Nat, ((n : Nat) : Int).toNat = n from Int.toNat_natCast]; exact hlt)
           | (rw [show ∀ n : Nat, ((n : Nat) : Int).toNat = n from Int.toNat_natCast, hoz]; first | rfl | exact Nat.le_refl _)
           | omega
           | ((conv => whnf)
              refine ⟨⟨k + 1, hlt⟩, [], ?_, ?_⟩
              · show L - (k + 1) < L - k
                omega
              · repeat' ((conv => whnf); first | exact trivial | exact rfl | apply And.intro)
                · exact succ_eq k (by omega)
                · refine row_eq ?_
                  have key := newR_set n L k hlt
                  refine Eq.trans ?_ key
                  simp only [Int.toNat_natCast]
                  rfl)
           | trace_state)
      | (have hke : k = L := (by have := k_ge (k := k) (n := L) (by assumption); omega)
         subst hke
         first
           | rfl
           | trace_state)
      | trace_state
end Go.Proofs.YtpgeopefamomnaeGreat

namespace Go.Proofs.YtpgeopefamomnaeGreat
open Go.RowKit
set_option linter.unusedVariables false
set_option linter.unusedSimpArgs false
set_option maxRecDepth 100000
theorem hz64 : ∀ k : Fin 64, hasF 0 k = false := by decide +kernel
theorem speak_no (id at_ : Int) (e : SEntry) (es : Row) (hn : 0 ≤ e.need ∧ e.need < 16) (hne : saysF e at_ id = []) : FunOK Tryz.prog 115 [rcvH] (hOf [(0, actH id at_ e (.own 1) .nils), (1, lastO es)]) (.tup []) (hOf [(0, actH id at_ e (.own 1) .nils), (1, lastO es)]) := by
  refine fun_can (pins := [0, 1]) (l0 := [(0, actH id at_ e (.own 1) .nils), (1, lastO es)]) (objs := _) (base := 2) (xx_ok tab0_ok []) mixed Tryz.func115 rfl (Nat.le_of_ble_eq_true rfl) rfl rfl ?_
  have hx : ¬ ((e.phase == 1) = true) := fun h => says_1 at_ id (by simpa using h) hne
  have hx3 : ¬ ((e.phase == 3) = true) := fun h => says_3 at_ id (by simpa using h) hne
  repeat' ((conv => whnf); first | exact trivial | (with_reducible refine ap_of ?_; kernel_rfl) | (with_reducible refine ds_of ?_; kernel_rfl) | (with_reducible refine eq_of ?_; kernel_rfl) | exact rfl | (intro h; exact absurd h (by decide)) | (intro h; exact absurd h hx) | (intro h; exact absurd h hx3) | intro _ | apply And.intro)
  all_goals first
    | rfl
    | skip
  have hp : e.phase = 2 := by simpa using ‹(e.phase == 2) = true›
  have hz : e.need = 0 := by
    by_cases h : e.need = 0
    · exact h
    · exact absurd hne (says_2 at_ id hp hn.1 hn.2 h)
  (conv => whnf)
  refine loop_keep [0] 40 [] {k : Nat // k ≤ 64} (fun k => [(26, V k.1)]) (fun k => [(0, actH id at_ e (.own 1) .nils), (1, lastO es)]) (fun k => 64 - k.1) ⟨0, Nat.zero_le _⟩ ?_
  (conv => whnf)
  refine ⟨?_, ?_⟩
  · repeat' ((conv => whnf); first | exact trivial | exact rfl | apply And.intro)
    all_goals trace_state
  · rintro ⟨k, hk⟩
    repeat' ((conv => whnf); first | exact trivial | (with_reducible refine ap_of ?_; kernel_rfl) | (with_reducible refine ds_of ?_; kernel_rfl) | (with_reducible refine eq_of ?_; kernel_rfl) | exact rfl | (intro h; exact absurd h (by decide)) | intro _ | apply And.intro)
    all_goals first
      | (have hlt : k < 64 := (by have := k_lt (k := k) (n := 64) (by assumption); omega)
         have hb := has_b hn.1 hn.2 hlt
         have h0 : hasF 0 k = false := hz64 ⟨k, hlt⟩
         rw [hz, h0] at hb
         first
           | rfl
           | exact Int.natCast_nonneg _
           | (exfalso
              have h1 : (andB e.need k != 0) = true := by assumption
              rw [hz, hb] at h1
              cases h1)
           | ((conv => whnf)
              refine ⟨⟨k + 1, hlt⟩, [], ?_, ?_⟩
              · show 64 - (k + 1) < 64 - k
                omega
              · repeat' ((conv => whnf); first | exact trivial | exact rfl | apply And.intro)
                exact succ_eq k (by omega))
           | trace_state)
      | (have hke : k = 64 := (by have := k_ge (k := k) (n := 64) (by assumption); omega)
         subst hke
         first | rfl | trace_state)
      | trace_state
theorem speak_any (id at_ : Int) (e : SEntry) (es : Row) (hn : 0 ≤ e.need ∧ e.need < 16) : FunOK Tryz.prog 115 [rcvH] (hOf [(0, actH id at_ e (.own 1) .nils), (1, lastO es)]) (.tup []) (hOf (spk id at_ e es (saysF e at_ id))) := by
  cases hS : saysF e at_ id with
  | nil => exact speak_no id at_ e es hn hS
  | cons m0 ms => exact speak_ok id at_ e es hn m0 ms hS
def speakT2 (xs : List AV) (l0 : List (Nat × OS)) : Ans := match xs, l0 with
  | [.c (.ptr 0 0 0 13)], [(0, .live (.box [.d (.int .i64 id), .d (.int .i64 at_), .d (.int .i64 v), .d (.int .i64 o), .d (.int .i64 s), .d (.int .i64 ph), .d (.int .i64 f), .d (.int .i64 sr), .d (.bool al), .d (.int .i64 t), .d (.int .i64 n), .own 1, .nils] 163)), (1, .live (.row es 1 3 false))] => some (0 ≤ n ∧ n < 16, .tup [], spk id at_ ⟨v, o, s, ph, f, sr, al, t, n, []⟩ es (saysF ⟨v, o, s, ph, f, sr, al, t, n, []⟩ at_ id))
  | _, _ => none
theorem spk_full (l0 : List (Nat × OS)) (id at_ : Int) (e : SEntry) (es : Row) (A B : OS) (h : l0 = [(0, A), (1, B)]) (ms : List Msg) : fullO l0 (spk id at_ e es ms) = spk id at_ e es ms := by
  subst h
  cases ms <;> rfl
theorem speak2_does : Does Tryz.prog 115 speakT2 := ⟨⟨_, Tryz.func115, by decide, rfl⟩, fun xs l0 p v objs h hp => by
  unfold speakT2 at h
  split at h
  · rename_i id at_ v o s ph f sr al t n es
    cases h
    rw [spk_full _ id at_ ⟨v, o, s, ph, f, sr, al, t, n, []⟩ es _ _ rfl]
    exact speak_any id at_ ⟨v, o, s, ph, f, sr, al, t, n, []⟩ es hp
  · cases h⟩
def tabHT : Canon := orT 115 speakT2 tab0
theorem tabHT_ok : Sound Tryz.prog tabHT := tab0_ok.or speak2_does
def tmH (id : Int) (l : List SEntry) (k : Nat) : List Msg := homeTimerFrom id 0 (l.take k)
theorem tmH_step (id : Int) {l : List SEntry} {k : Nat} (h : k < l.length) : tmH id l (k + 1) = tmH id l k ++ saysF (l.getD k SEntry.zero) (k : Nat) id := by
  unfold tmH
  rw [take_snoc l k SEntry.zero h, htimer_snoc, List.length_take, show min k l.length = k by omega, Nat.zero_add]
theorem tmH_len (id : Int) {l : List SEntry} (hl : l.length ≤ 1000) : ∀ {k : Nat}, k ≤ l.length → (tmH id l k).length ≤ 4000 := by
  intro k hk
  have h : (tmH id l k).length ≤ 4 * k := by
    induction k with
    | zero => exact Nat.le_refl _
    | succ k ih =>
      rw [tmH_step id (by omega), List.length_append]
      have h1 := ih (by omega)
      have h2 := says_len (l.getD k SEntry.zero) (k : Nat) id
      omega
  omega
set_option maxHeartbeats 4000000 in
theorem htimer_ok (l : List SEntry) (id : Int) (hl : l.length ≤ 1000) (hla : ∀ e ∈ l, e.last.length ≤ 1000) (hn : ∀ e ∈ l, (0 ≤ e.need ∧ e.need < 16) ∧ 0 ≤ e.phase ∧ e.phase ≤ 3) : FunOK Tryz.prog 97 [Ro (R entD l), V id] (hOf []) (Ro (R msgD (homeTimerFrom id 0 l))) (hOf []) := by
  have hall : homeTimerFrom id 0 l = tmH id l l.length := by unfold tmH; rw [List.take_of_length_le (Nat.le_refl _)]
  rw [hall]
  refine fun_deep (pins := []) (l0 := []) (objs := []) (base := 0) (xx_ok tabHT_ok [115]) mixed Tryz.func97 rfl (Nat.le_of_ble_eq_true rfl) rfl rfl ?_
  have hlen : (R entD l).length = l.length := R_len _ _
  repeat' ((conv => whnf); first | exact trivial | (with_reducible refine ap_of ?_; kernel_rfl) | (with_reducible refine ds_of ?_; kernel_rfl) | (with_reducible refine eq_of ?_; kernel_rfl) | exact rfl | (intro h; exact absurd h (by decide)) | intro _ | apply And.intro)
  refine loop_keep [0, 1, 4] 20 [(1, ?_)] {k : Nat // k ≤ l.length} (fun k => [(5, .c (.own 1)), (9, V l.length), (10, V k.1)]) (fun k => [(0, .live (.row [] 8 98 false)), (1, .live (.row (R msgD (tmH id l k.1)) 8 98 false))]) (fun k => l.length - k.1) ⟨0, Nat.zero_le _⟩ ?_
  rotate_left
  (conv => whnf)
  refine ⟨?_, ?_⟩
  · repeat' ((conv => whnf); first | exact trivial | exact rfl | apply And.intro)
    all_goals first | exact int_eq (show ((R entD l).length : Int) = l.length by rw [hlen]) | trace_state
  · rintro ⟨k, hk⟩
    repeat' ((conv => whnf); first | exact trivial | (with_reducible refine ap_of ?_; kernel_rfl) | (with_reducible refine ds_of ?_; kernel_rfl) | (with_reducible refine eq_of ?_; kernel_rfl) | exact rfl | (intro h; exact absurd h (by decide)) | intro _ | apply And.intro)
    all_goals try (
      have hlt : k < l.length := (by have := k_lt (k := k) (n := l.length) (by assumption); omega)
      have hki : (k : Int) < l.length := by omega
      have hmem : l.getD k SEntry.zero ∈ l := by simp [List.getD, hlt]
      have hN := hn _ hmem
      have hgl : (l.getD k SEntry.zero).last.length ≤ 1000 := hla _ hmem
      have hS := tmH_step id hlt
      have hg : (R entD l).getD k [] = entD (l.getD k SEntry.zero) := R_get entD _ hlt
      clear hn hla hmem
      generalize l.getD k SEntry.zero = e at *
      obtain ⟨v, o, s, ph, f, sr, al, t, n, la⟩ := e
      have hg2 : (R entD l).getD k [] = [J v, J o, J s, J ph, J f, J sr, .bool al, J t, J n, .row (rowsI la)] := hg
      have hrn : (rowsI la).length = la.length := rowsI_len la
      try simp only [Int.toNat_natCast, hg2])
    all_goals first
      | exact Int.natCast_nonneg _
      | (rw [hlen]; assumption)
      | rfl
      | exact Nat.le_refl _
      | (show (((rowsI la).length : Nat) : Int) ≤ _; rw [hrn]; simp only at hgl; omega)
      | (have hm := (by assumption : _ ∈ (((R entD l).getD ((k : Nat) : Int).toNat []).getD (0 + 1 + 1 + 1 + 1 + 1 + 1 + 1 + 1 + 1) dz).toR)
         rw [show ∀ n : Nat, ((n : Nat) : Int).toNat = n from Int.toNat_natCast, hg] at hm
         exact rowsI_one la _ hm)
      | (have hke : k = l.length := (by have := k_ge (k := k) (n := l.length) (by assumption); omega)
         subst hke
         rfl)
      | skip
    simp only at hN
    have hp4 : ph = 0 ∨ ph = 1 ∨ ph = 2 ∨ ph = 3 := by omega
    have hml : ∀ x : Msg, (msgD x).length = 8 := fun _ => rfl
    have htl : (tmH id l k).length ≤ 4000 := tmH_len id hl (by omega)
    rcases hp4 with rfl | rfl | rfl | rfl
    · repeat' ((conv => whnf); first | exact trivial | (with_reducible refine ap_of ?_; kernel_rfl) | (with_reducible refine ds_of ?_; kernel_rfl) | (with_reducible refine eq_of ?_; kernel_rfl) | exact rfl | (intro h; exact absurd h (by decide)) | intro _ | apply And.intro)
      all_goals first
        | exact hN.1.1
        | exact hN.1.2
        | rfl
        | (simp; done)
        | (simp only [R_len, List.length_cons, List.length_nil]; omega)
        | exact R_one (f := msgD) (fun _ => rfl) _ _ (by assumption)
        | exact absurd (by assumption : _ ∈ ([] : List (List DV))) List.not_mem_nil
        | skip
      all_goals
         ( (conv => whnf)
           refine ⟨⟨k + 1, hlt⟩, [(1, ?_)], ?_, ?_⟩
           rotate_left
           · show l.length - (k + 1) < l.length - k
             omega
           · repeat' ((conv => whnf); first | exact trivial | exact rfl | apply And.intro)
             · exact succ_eq k (by omega)
             · refine row_eq ?_
               rw [hS]
               first
                 | exact R_app msgD _ _
                 | (rw [show saysF _ (k : Int) id = [] from rfl]; simp))
    · cases al
      all_goals repeat' ((conv => whnf); first | exact trivial | (with_reducible refine ap_of ?_; kernel_rfl) | (with_reducible refine ds_of ?_; kernel_rfl) | (with_reducible refine eq_of ?_; kernel_rfl) | exact rfl | (intro h; exact absurd h (by decide)) | intro _ | apply And.intro)
      all_goals first
        | exact hN.1.1
        | exact hN.1.2
        | rfl
        | (simp; done)
        | (simp only [R_len, List.length_cons, List.length_nil]; omega)
        | exact R_one (f := msgD) (fun _ => rfl) _ _ (by assumption)
        | exact absurd (by assumption : _ ∈ ([] : List (List DV))) List.not_mem_nil
        | skip
      all_goals
         ( (conv => whnf)
           refine ⟨⟨k + 1, hlt⟩, [(1, ?_)], ?_, ?_⟩
           rotate_left
           · show l.length - (k + 1) < l.length - k
             omega
           · repeat' ((conv => whnf); first | exact trivial | exact rfl | apply And.intro)
             · exact succ_eq k (by omega)
             · refine row_eq ?_
               rw [hS]
               first
                 | exact R_app msgD _ _
                 | (rw [show saysF _ (k : Int) id = [] from rfl]; simp))
    · have hn15 : n = 0 ∨ n = 1 ∨ n = 2 ∨ n = 3 ∨ n = 4 ∨ n = 5 ∨ n = 6 ∨ n = 7 ∨ n = 8 ∨ n = 9 ∨ n = 10 ∨ n = 11 ∨ n = 12 ∨ n = 13 ∨ n = 14 ∨ n = 15 := by
        omega
      have hsl := says_len ⟨v, o, s, 2, f, sr, al, t, n, []⟩ (k : Nat) id
      rcases hn15 with rfl | rfl | rfl | rfl | rfl | rfl | rfl | rfl | rfl | rfl | rfl | rfl | rfl | rfl | rfl | rfl
      all_goals repeat' ((conv => whnf); first | exact trivial | (with_reducible refine ap_of ?_; kernel_rfl) | (with_reducible refine ds_of ?_; kernel_rfl) | (with_reducible refine eq_of ?_; kernel_rfl) | exact rfl | (intro h; exact absurd h (by decide)) | intro _ | apply And.intro)
      all_goals first
        | exact hN.1.1
        | exact hN.1.2
        | rfl
        | (rw [R_len, R_len]; exact Nat.le_trans (Nat.add_le_add htl hsl) (by decide))
        | (simp; done)
        | (simp only [R_len, List.length_cons, List.length_nil]; omega)
        | exact R_one (f := msgD) (fun _ => rfl) _ _ (by assumption)
        | exact absurd (by assumption : _ ∈ ([] : List (List DV))) List.not_mem_nil
        | skip
      all_goals
         ( (conv => whnf)
           refine ⟨⟨k + 1, hlt⟩, [(1, ?_)], ?_, ?_⟩
           rotate_left
           · show l.length - (k + 1) < l.length - k
             omega
           · repeat' ((conv => whnf); first | exact trivial | exact rfl | apply And.intro)
             · exact succ_eq k (by omega)
             · refine row_eq ?_
               rw [hS]
               first
                 | exact R_app msgD _ _
                 | (rw [show saysF _ (k : Int) id = [] from rfl]; simp))
    · repeat' ((conv => whnf); first | exact trivial | (with_reducible refine ap_of ?_; kernel_rfl) | (with_reducible refine ds_of ?_; kernel_rfl) | (with_reducible refine eq_of ?_; kernel_rfl) | exact rfl | (intro h; exact absurd h (by decide)) | intro _ | apply And.intro)
      all_goals first
        | exact hN.1.1
        | exact hN.1.2
        | rfl
        | (simp; done)
        | (simp only [R_len, List.length_cons, List.length_nil]; omega)
        | exact R_one (f := msgD) (fun _ => rfl) _ _ (by assumption)
        | exact absurd (by assumption : _ ∈ ([] : List (List DV))) List.not_mem_nil
        | skip
      all_goals
         ( (conv => whnf)
           refine ⟨⟨k + 1, hlt⟩, [(1, ?_)], ?_, ?_⟩
           rotate_left
           · show l.length - (k + 1) < l.length - k
             omega
           · repeat' ((conv => whnf); first | exact trivial | exact rfl | apply And.intro)
             · exact succ_eq k (by omega)
             · refine row_eq ?_
               rw [hS]
               first
                 | exact R_app msgD _ _
                 | (rw [show saysF _ (k : Int) id = [] from rfl]; simp))
end Go.Proofs.YtpgeopefamomnaeGreat

namespace Go.Proofs.YtpgeopefamomnaeGreat
open Go.RowKit
set_option linter.unusedVariables false
set_option linter.unusedSimpArgs false
set_option maxRecDepth 100000
def hHearT (xs : List AV) (l0 : List (Nat × OS)) : Ans := match xs, l0 with
  | [.c (.d (.row es)), .c (.d (.int .i64 id)), .agg [.d (.int .i64 mk), .d (.int .i64 mf), .d (.int .i64 mt), .d (.int .i64 ml), .d (.int .i64 ms), .d (.int .i64 mu), .d (.int .i64 mv), .d (.bool ma)]], [] => some (∃ l, es = R entD l ∧ l.length ≤ 1000 ∧ (∀ e ∈ l, e.last.length ≤ 1000) ∧ (0 ≤ ml → ml < l.length → HomeOK (l.getD ml.toNat SEntry.zero)), .tup [Ro (R entD (homeHearF (homeR es) id ⟨mk, mf, mt, ml, ms, mu, mv, ma⟩).1), Ro (R msgD (homeHearF (homeR es) id ⟨mk, mf, mt, ml, ms, mu, mv, ma⟩).2)], [])
  | _, _ => none
theorem hHear_does : Does Tryz.prog 108 hHearT := ⟨⟨_, Tryz.func108, by decide, rfl⟩, fun xs l0 p v objs h hp => by
  unfold hHearT at h
  split at h
  · cases h
    obtain ⟨l, rfl, h1, h2, h3⟩ := hp
    rw [homeR_rows]
    exact chear_home l _ (Msg.mk _ _ _ _ _ _ _ _) h1 h2 h3
  · cases h⟩
def hTimerT (xs : List AV) (l0 : List (Nat × OS)) : Ans := match xs, l0 with
  | [.c (.d (.row es)), .c (.d (.int .i64 id))], [] => some (∃ l, es = R entD l ∧ l.length ≤ 1000 ∧ (∀ e ∈ l, e.last.length ≤ 1000) ∧ (∀ e ∈ l, (0 ≤ e.need ∧ e.need < 16) ∧ 0 ≤ e.phase ∧ e.phase ≤ 3), Ro (R msgD (homeTimerFrom id 0 (homeR es))), [])
  | _, _ => none
theorem hTimer_does : Does Tryz.prog 97 hTimerT := ⟨⟨_, Tryz.func97, by decide, rfl⟩, fun xs l0 p v objs h hp => by
  unfold hTimerT at h
  split at h
  · cases h
    obtain ⟨l, rfl, h1, h2, h3⟩ := hp
    rw [homeR_rows]
    exact htimer_ok l _ h1 h2 h3
  · cases h⟩
def hNewT (xs : List AV) (l0 : List (Nat × OS)) : Ans := match xs, l0 with
  | [.c (.d (.int .i64 n)), .c (.d (.int .i64 k))], [] => some ((0 ≤ n ∧ n ≤ 4) ∧ 1 ≤ k ∧ k ≤ 4, Ro (R entD (List.replicate k.toNat ⟨0, -1, 0, 0, 0, 0, false, 0, 0, List.replicate n.toNat 0⟩)), [])
  | _, _ => none
theorem hNew_does : Does Tryz.prog 54 hNewT := ⟨⟨_, Tryz.func54, by decide, rfl⟩, fun xs l0 p v objs h hp => by
  unfold hNewT at h
  split at h
  · cases h
    obtain ⟨h1, h2⟩ := hp
    obtain ⟨a, rfl⟩ := Int.eq_ofNat_of_zero_le h1.1
    obtain ⟨b, rfl⟩ := Int.eq_ofNat_of_zero_le (Int.le_trans (by decide) h2.1)
    exact hnew_ok a b (by omega) (by omega)
  · cases h⟩
end Go.Proofs.YtpgeopefamomnaeGreat

