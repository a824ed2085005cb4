/- LawPlayParts. -/
import Derived.Test.YtpgeopefamomnafYB
import Derived.Test.YtpgeopefamomnafBB
import Derived.Test.YtpgeopefamomnafYC
set_option linter.unusedSimpArgs false
set_option linter.unusedSectionVars false
namespace Go.Proofs.Ytpgeopefamomnaf
open Go.RowKit
set_option linter.unusedVariables false
set_option linter.unusedSimpArgs false
set_option maxRecDepth 100000
def tabP2 : Canon := orT 4 alive9T (orT 5 stepsT9 (orT 6 sameDoneT tab0))
theorem tabP2_ok : Sound Try.prog tabP2 := ((tab0_ok.or sameDone_does).or steps9_does).or alive9_does
def ksP2 : List FuncId := [4, 5, 6]
theorem R_take {α : Type} (f : α → List DV) (l : List α) (n : Nat) : (R f l).take n = R f (l.take n) := (List.map_take ..).symm
theorem cut_steps (l : List SStep) (n : Nat) : List.take (((n : Nat) : Int).toNat - Int.toNat 0) (List.drop (Int.toNat 0) (R stepD l)) = R stepD (l.take n) := by
  rw [Int.toNat_natCast]
  exact R_take stepD l n
set_option maxHeartbeats 8000000
theorem pparts_lo {a b : Int} {l : List SStep} (hb : ∀ s ∈ l, s.bit < 9223372036854775808) (nn : Int) (h : nn < 0) : FunOK Try.prog 3 [.agg [I a, I b], Ro (R stepD l), V nn] (hOf []) (Vb true) (hOf []) := by
  refine fun_deep (pins := []) (l0 := []) (objs := []) (base := 0) (xx_ok tabP2_ok ksP2) mixed Try.func3 rfl (Nat.le_of_ble_eq_true rfl) rfl rfl ?_
  have hx : ¬ ((decide (nn < 0) == false) = true) := by simp; omega
  repeat' ((conv => whnf); first | exact trivial | (with_reducible refine ap_of ?_; kernel_rfl) | (with_reducible refine ds_of ?_; kernel_rfl) | (with_reducible refine eq_of ?_; kernel_rfl) | exact rfl | (intro h; exact absurd h (by decide)) | (intro h; with_reducible exact absurd h hx) | intro _ | apply And.intro)
  all_goals first | rfl | trace_state
theorem pparts_hi {a b : Int} {l : List SStep} (hb : ∀ s ∈ l, s.bit < 9223372036854775808) (nn : Int) (h0 : 0 ≤ nn) (h : (l.length : Int) < nn) : FunOK Try.prog 3 [.agg [I a, I b], Ro (R stepD l), V nn] (hOf []) (Vb true) (hOf []) := by
  refine fun_deep (pins := []) (l0 := []) (objs := []) (base := 0) (xx_ok tabP2_ok ksP2) mixed Try.func3 rfl (Nat.le_of_ble_eq_true rfl) rfl rfl ?_
  have hx : ¬ ((decide (nn < 0) == false) = false) := by simp; omega
  have hx2 : ¬ (decide (nn > ((R stepD l).length : Int)) = false) := by rw [R_len]; simp; omega
  repeat' ((conv => whnf); first | exact trivial | (with_reducible refine ap_of ?_; kernel_rfl) | (with_reducible refine ds_of ?_; kernel_rfl) | (with_reducible refine eq_of ?_; kernel_rfl) | exact rfl | (intro h; exact absurd h (by decide)) | (intro h; with_reducible exact absurd h hx) | (intro h; with_reducible exact absurd h hx2) | intro _ | apply And.intro)
  all_goals first | rfl | trace_state
theorem pparts_bad {a b : Int} {l : List SStep} (hb : ∀ s ∈ l, s.bit < 9223372036854775808) (n : Nat) (hn : n ≤ l.length) (h : (stepsRes ⟨a, b⟩ (stepsR (R stepD l))).2 ≠ 0) : FunOK Try.prog 3 [.agg [I a, I b], Ro (R stepD l), V n] (hOf []) (Vb true) (hOf []) := by
  refine fun_deep (pins := []) (l0 := []) (objs := []) (base := 0) (xx_ok tabP2_ok ksP2) mixed Try.func3 rfl (Nat.le_of_ble_eq_true rfl) rfl rfl ?_
  have hlen : (R stepD l).length = l.length := R_len _ _
  have hx : ¬ ((decide ((n : Int) < 0) == false) = false) := by simp
  have hx2 : ¬ (decide ((n : Int) > ((R stepD l).length : Int)) = true) := by rw [hlen]; simp; omega
  have hx3 : ¬ ((((stepsRes ⟨a, b⟩ (stepsR (R stepD l))).2 != 0) == false) = true) := by simp; exact h
  repeat' ((conv => whnf); first | exact trivial | (with_reducible refine ap_of ?_; kernel_rfl) | (with_reducible refine ds_of ?_; kernel_rfl) | (with_reducible refine eq_of ?_; kernel_rfl) | exact rfl | (intro h; exact absurd h (by decide)) | (intro h; with_reducible exact absurd h hx) | (intro h; with_reducible exact absurd h hx2) | (intro h; with_reducible exact absurd h hx3) | intro _ | apply And.intro)
  all_goals clear hx hx2 hx3
  all_goals first
    | exact ⟨l, rfl, hb⟩
    | exact ⟨l.take n, cut_steps l n, fun s hs => hb s (List.mem_of_mem_take hs)⟩
    | exact Int.natCast_nonneg _
    | (rw [hlen]; omega)
    | exact R_one (f := stepD) (fun _ => rfl) _ _ (by assumption)
    | (rw [show ((stepsRes ⟨a, b⟩ (stepsR (R stepD l))).2 != 0) = true from by simpa using h]; rfl)
    | rfl
    | trace_state
theorem pparts_ok {a b : Int} {l : List SStep} (hb : ∀ s ∈ l, s.bit < 9223372036854775808) (n : Nat) (hn : n ≤ l.length) (h : stepsRes ⟨a, b⟩ (stepsR (R stepD l)) = (runF ⟨a, b⟩ l, 0)) (h2 : stepsRes ⟨a, b⟩ (stepsR (List.take (((n : Nat) : Int).toNat - Int.toNat 0) (List.drop (Int.toNat 0) (R stepD l)))) = (runF ⟨a, b⟩ (l.take n), 0)) (hN : (newF ⟨a, b⟩).2 = 0) (hl : l.length ≤ 300) : FunOK Try.prog 3 [.agg [I a, I b], Ro (R stepD l), V n] (hOf []) (Vb true) (hOf []) := by
  refine fun_deep (pins := []) (l0 := []) (objs := []) (base := 0) (xx_ok tabP2_ok ksP2) mixed Try.func3 rfl (Nat.le_of_ble_eq_true rfl) rfl rfl ?_
  have hlen : (R stepD l).length = l.length := R_len _ _
  obtain ⟨_, _, _, _, _, _, _, ha1, hd1⟩ := run_xi hN l
  obtain ⟨_, _, _, _, _, _, _, ha2, hd2⟩ := run_xi hN (l.take n)
  obtain ⟨av, dv, hA, hDn⟩ := run_parts ⟨a, b⟩ l n
  rw [List.length_take, Nat.min_eq_left hn] at ha2 hd2
  have hx : ¬ ((decide ((n : Int) < 0) == false) = false) := by simp
  have hx2 : ¬ (decide ((n : Int) > ((R stepD l).length : Int)) = true) := by rw [hlen]; simp; omega
  have hx3 : ¬ ((((stepsRes ⟨a, b⟩ (stepsR (R stepD l))).2 != 0) == false) = false) := by rw [h]; simp
  have hx4 : ¬ (((stepsRes ⟨a, b⟩ (stepsR (List.take (((n : Nat) : Int).toNat - Int.toNat 0) (List.drop (Int.toNat 0) (R stepD l))))).2 != 0) = true) := by rw [h2]; simp
  have hx5 : ¬ ((decide (((R dnD (stepsRes ⟨a, b⟩ (stepsR (List.take (((n : Nat) : Int).toNat - Int.toNat 0) (List.drop (Int.toNat 0) (R stepD l))))).1.done).length : Int) > ((R dnD (stepsRes ⟨a, b⟩ (stepsR (R stepD l))).1.done).length : Int)) == false) = false) := by
    rw [h, h2, R_len, R_len]
    show ¬ ((decide (((runF ⟨a, b⟩ (l.take n)).done.length : Int) > ((runF ⟨a, b⟩ l).done.length : Int)) == false) = false)
    rw [hDn, List.length_append]
    simp
    omega
  have hx6 : ¬ (((((R ansD (stepsRes ⟨a, b⟩ (stepsR (List.take (((n : Nat) : Int).toNat - Int.toNat 0) (List.drop (Int.toNat 0) (R stepD l))))).1.ans).length : Int) != (n : Int)) == false) = false) := by
    rw [h2, R_len]
    show ¬ (((((runF ⟨a, b⟩ (l.take n)).ans.length : Int) != (n : Int)) == false) = false)
    rw [ha2]
    simp
  have hx7 : ¬ (decide (((R ansD (stepsRes ⟨a, b⟩ (stepsR (R stepD l))).1.ans).length : Int) < (n : Int)) = true) := by
    rw [h, R_len]
    show ¬ (decide (((runF ⟨a, b⟩ l).ans.length : Int) < (n : Int)) = true)
    rw [ha1]
    simp
    omega
  have hla : ((R ansD (stepsRes ⟨a, b⟩ (stepsR (R stepD l))).1.ans).length : Int) = l.length := by rw [h, R_len]; show ((runF ⟨a, b⟩ l).ans.length : Int) = _; rw [ha1]
  have hlb : ((R ansD (stepsRes ⟨a, b⟩ (stepsR (List.take (((n : Nat) : Int).toNat - Int.toNat 0) (List.drop (Int.toNat 0) (R stepD l))))).1.ans).length : Int) = n := by rw [h2, R_len]; show ((runF ⟨a, b⟩ (l.take n)).ans.length : Int) = _; rw [ha2]
  have HAK : ∀ k : Nat, k < n → ((R ansD (stepsRes ⟨a, b⟩ (stepsR (R stepD l))).1.ans).getD ((k : Nat) : Int).toNat []) = ansD ((runF ⟨a, b⟩ (l.take n)).ans.getD k ⟨0, 0⟩) := by
    intro k hk
    rw [h, Int.toNat_natCast, R_get ansD ⟨0, 0⟩ (show k < (runF ⟨a, b⟩ l).ans.length by rw [ha1]; omega)]
    show ansD ((runF ⟨a, b⟩ l).ans.getD k ⟨0, 0⟩) = _
    rw [hA]
    have : k < (runF ⟨a, b⟩ (l.take n)).ans.length := by rw [ha2]; exact hk
    simp [List.getD, List.getElem?_append, this]
  have HBK : ∀ k : Nat, k < n → ((R ansD (stepsRes ⟨a, b⟩ (stepsR (List.take (((n : Nat) : Int).toNat - Int.toNat 0) (List.drop (Int.toNat 0) (R stepD l))))).1.ans).getD ((k : Nat) : Int).toNat []) = ansD ((runF ⟨a, b⟩ (l.take n)).ans.getD k ⟨0, 0⟩) := by
    intro k hk
    rw [h2, Int.toNat_natCast]
    exact R_get ansD ⟨0, 0⟩ (by show k < (runF ⟨a, b⟩ (l.take n)).ans.length; rw [ha2]; exact hk)
  have hlfd : ((R dnD (stepsRes ⟨a, b⟩ (stepsR (List.take (((n : Nat) : Int).toNat - Int.toNat 0) (List.drop (Int.toNat 0) (R stepD l))))).1.done).length : Int) ≤ (R dnD (stepsRes ⟨a, b⟩ (stepsR (R stepD l))).1.done).length := by
    rw [h, h2, R_len, R_len]
    show ((runF ⟨a, b⟩ (l.take n)).done.length : Int) ≤ (runF ⟨a, b⟩ l).done.length
    rw [hDn, List.length_append]
    omega
  have HDN : ∃ ms, List.take (((R dnD (stepsRes ⟨a, b⟩ (stepsR (List.take (((n : Nat) : Int).toNat - Int.toNat 0) (List.drop (Int.toNat 0) (R stepD l))))).1.done).length : Int).toNat - Int.toNat 0) (List.drop (Int.toNat 0) (R dnD (stepsRes ⟨a, b⟩ (stepsR (R stepD l))).1.done)) = R dnD ms ∧ R dnD (stepsRes ⟨a, b⟩ (stepsR (List.take (((n : Nat) : Int).toNat - Int.toNat 0) (List.drop (Int.toNat 0) (R stepD l))))).1.done = R dnD ms ∧ ms.length < 1000000 := by
    refine ⟨(runF ⟨a, b⟩ (l.take n)).done, ?_, by rw [h2], by omega⟩
    rw [h, h2, Int.toNat_natCast, R_len]
    show List.take ((runF ⟨a, b⟩ (l.take n)).done.length - 0) (List.drop 0 (R dnD (runF ⟨a, b⟩ l).done)) = _
    rw [hDn]
    unfold R
    simp
  repeat' ((conv => whnf); first | exact trivial | (with_reducible refine ap_of ?_; kernel_rfl) | (with_reducible refine ds_of ?_; kernel_rfl) | (with_reducible refine eq_of ?_; kernel_rfl) | exact rfl | (intro h; exact absurd h (by decide)) | (intro h; with_reducible exact absurd h hx) | (intro h; with_reducible exact absurd h hx2) | (intro h; with_reducible exact absurd h hx3) | (intro h; with_reducible exact absurd h hx4) | (intro h; with_reducible exact absurd h hx5) | (intro h; with_reducible exact absurd h hx6) | (intro h; with_reducible exact absurd h hx7) | intro _ | apply And.intro)
  all_goals clear hx hx2 hx3 hx4 hx5 hx6 hx7
  all_goals first
    | exact ⟨l, rfl, hb⟩
    | exact ⟨l.take n, cut_steps l n, fun s hs => hb s (List.mem_of_mem_take hs)⟩
    | exact Int.natCast_nonneg _
    | (rw [hlen]; omega)
    | exact R_one (f := stepD) (fun _ => rfl) _ _ (by assumption)
    | rfl
    | skip
  (conv => whnf)
  refine loop_keep [8, 9, 12, 13] 40 [] {k : Nat // k ≤ n} (fun k => [(70, V n), (71, V k.1)]) (fun k => []) (fun k => n - k.1) ⟨0, Nat.zero_le _⟩ ?_
  (conv => whnf)
  refine ⟨?_, ?_⟩
  · repeat' ((conv => whnf); first | exact trivial | exact rfl | apply And.intro)
    all_goals first | exact int_eq hlb | trace_state
  · rintro ⟨k, hk⟩
    repeat' ((conv => whnf); first | exact trivial | (with_reducible refine ap_of ?_; kernel_rfl) | (with_reducible refine ds_of ?_; kernel_rfl) | (with_reducible refine eq_of ?_; kernel_rfl) | exact rfl | (intro h; exact absurd h (by decide)) | intro _ | apply And.intro)
    all_goals first
      | (have hlt : k < n := (by have := k_lt (k := k) (n := n) (by assumption); omega)
         have hki : (k : Int) < n := by omega
         have hak := HAK k hlt
         have hbk := HBK k hlt
         first
           | exact Int.natCast_nonneg _
           | (rw [hlb]; exact hki)
           | (refine Int.ofNat_lt.1 ?_
              rw [hlb, Int.toNat_natCast]
              exact hki)
           | (show (k : Int) < ((R ansD (stepsRes ⟨a, b⟩ (stepsR (R stepD l))).1.ans).length : Int)
              rw [hla]
              omega)
           | (refine Int.ofNat_lt.1 (show (((k : Nat) : Int).toNat : Int) < ((R ansD (stepsRes ⟨a, b⟩ (stepsR (R stepD l))).1.ans).length : Int) from ?_)
              rw [hla, Int.toNat_natCast]
              omega)
           | (rw [hak]; first | rfl | exact Nat.le_of_ble_eq_true rfl)
           | (rw [hbk]; first | rfl | exact Nat.le_of_ble_eq_true rfl)
           | rfl
           | (refine len_set1 (by assumption) ?_; rfl)
           | (have hcc : (!((((R ansD (stepsRes ⟨a, b⟩ (stepsR (R stepD l))).1.ans).getD ((k : Nat) : Int).toNat []).getD 0 dz).toI == (((R ansD (stepsRes ⟨a, b⟩ (stepsR (List.take (((n : Nat) : Int).toNat - Int.toNat 0) (List.drop (Int.toNat 0) (R stepD l))))).1.ans).getD ((k : Nat) : Int).toNat []).getD 0 dz).toI && ((((R ansD (stepsRes ⟨a, b⟩ (stepsR (R stepD l))).1.ans).getD ((k : Nat) : Int).toNat []).getD (0 + 1) dz).toI == (((R ansD (stepsRes ⟨a, b⟩ (stepsR (List.take (((n : Nat) : Int).toNat - Int.toNat 0) (List.drop (Int.toNat 0) (R stepD l))))).1.ans).getD ((k : Nat) : Int).toNat []).getD (0 + 1) dz).toI && true))) = true := by assumption
              rw [hak, hbk] at hcc
              refine absurd hcc (show ¬ ((!(((runF ⟨a, b⟩ (l.take n)).ans.getD k ⟨0, 0⟩).err == ((runF ⟨a, b⟩ (l.take n)).ans.getD k ⟨0, 0⟩).err && (((runF ⟨a, b⟩ (l.take n)).ans.getD k ⟨0, 0⟩).done == ((runF ⟨a, b⟩ (l.take n)).ans.getD k ⟨0, 0⟩).done && true))) = true) from ?_)
              simp)
           | ((conv => whnf)
              refine ⟨⟨k + 1, hlt⟩, [], ?_, ?_⟩
              · show n - (k + 1) < n - k
                omega
              · repeat' ((conv => whnf); first | exact trivial | exact rfl | apply And.intro)
                all_goals first
                  | exact succ_eq k (by omega)
                  | rfl
                  | trace_state)
           | trace_state)
      | (have hke : k = n := (by have := k_ge (k := k) (n := n) (by assumption); omega)
         first
           | exact HDN
           | exact Int.natCast_nonneg _
           | exact hlfd
           | exact R_one (f := dnD) (fun _ => rfl) _ _ (by assumption)
           | rfl
           | trace_state)
      | trace_state
theorem pparts_any (c : Cfg) (l : List SStep) (hb : ∀ s ∈ l, s.bit < 9223372036854775808) (nn : Int) : FunOK Try.prog 3 [.agg (cfgC c), Ro (R stepD l), V nn] (hOf []) (Vb true) (hOf []) := by
  by_cases h0 : nn < 0
  · exact pparts_lo (a := c.cores) (b := c.lines) hb nn h0
  by_cases h1 : (l.length : Int) < nn
  · exact pparts_hi (a := c.cores) (b := c.lines) hb nn (by omega) h1
  obtain ⟨n, rfl⟩ := Int.eq_ofNat_of_zero_le (show 0 ≤ nn by omega)
  rcases steps_cases c l with ⟨k1, k2⟩ | ⟨k1, k2, k3⟩
  · rw [← stepsR_rows l] at k1
    exact pparts_bad (a := c.cores) (b := c.lines) hb n (by omega) k1
  · have k4 : stepsRes c (l.take n) = (runF c (l.take n), 0) := by
      unfold stepsRes
      rw [if_neg (by rw [k1]; decide), if_neg (by rw [List.length_take]; omega)]
    rw [← stepsR_rows l] at k3
    exact pparts_ok (a := c.cores) (b := c.lines) hb n (by omega) (by rw [k3, stepsR_rows]) (by rw [cut_steps, stepsR_rows]; exact k4) k1 k2
end Go.Proofs.Ytpgeopefamomnaf

