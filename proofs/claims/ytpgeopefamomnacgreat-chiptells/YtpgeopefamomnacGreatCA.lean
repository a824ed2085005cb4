/- The developers' flat.Do on memory of one line. -/
import Derived.Test.YtpgeopefamomnacGreatRG
set_option linter.unusedSimpArgs false
namespace Go.Proofs.YtpgeopefamomnacGreat
open Go.RowKit
set_option linter.unusedVariables false
set_option maxRecDepth 100000

theorem len_one (x : Int) (u : List DV) (h : u ∈ [[J x]]) : u.length = 1 := by rw [List.mem_singleton.1 h]; rfl
set_option maxHeartbeats 4000000 in
theorem flat1_ok (x k v : Int) (h1 : 1 ≤ k) (h4 : k ≤ 4) (h0 : 0 ≤ v) (h2 : v ≤ 255) : FunOK Tryz.prog 114 [Ro [[J x]], .agg [I k, I 0, I v]] (hOf []) (.tup [Ro [[J (tellF x ⟨k, 0, v⟩).1]], V (tellF x ⟨k, 0, v⟩).2, V 0]) (hOf []) := by
  refine fun_deep (pins := []) (l0 := []) (objs := []) (base := 0) (xx_ok tab0_ok []) mixed Tryz.func114 rfl (Nat.le_of_ble_eq_true rfl) rfl rfl ?_
  repeat' ((conv => whnf); first | exact trivial | (with_reducible refine ap_of ?_; kernel_rfl) | (with_reducible refine ds_of ?_; kernel_rfl) | (with_reducible refine eq_of ?_; kernel_rfl) | exact rfl | (intro h; exact absurd h (by decide)) | intro _ | apply And.intro)
  all_goals first
    | rfl
    | (simp; done)
    | (exfalso; simp_all; done)
    | (exfalso; simp_all; omega)
    | exact len_one x _ (by assumption)
    | (rw [show tellF x ⟨k, 0, v⟩ = (x, x) from if_pos (by simpa using ‹(k == 1) = true›)]; rfl)
    | (have n1 : ¬ k = 1 := by simpa using ‹(k == 1) = false›
       first
         | (rw [show tellF x ⟨k, 0, v⟩ = (v, 0) from (if_neg n1).trans (if_pos (by simpa using ‹(k == 2) = true›))]; rfl)
         | (have n2 : ¬ k = 2 := by simpa using ‹(k == 2) = false›
            first
              | (rw [show tellF x ⟨k, 0, v⟩ = ((x + v) % 256, x) from (if_neg n1).trans ((if_neg n2).trans (if_pos (by simpa using ‹(k == 3) = true›))), ← and255]; rfl)
              | (rw [show tellF x ⟨k, 0, v⟩ = (x, 0) from (if_neg n1).trans ((if_neg n2).trans (if_neg (by simpa using ‹(k == 3) = false›)))]; rfl)))
    | trace_state
def flatT1 (xs : List AV) (l0 : List (Nat × OS)) : Ans := match xs, l0 with
  | [.c (.d (.row es)), .agg [.d (.int .i64 k), .d (.int .i64 l), .d (.int .i64 v)]], [] => some ((∃ x, es = [[J x]]) ∧ l = 0 ∧ (1 ≤ k ∧ k ≤ 4) ∧ 0 ≤ v ∧ v ≤ 255, .tup [Ro [[J (tellF ((es.getD 0 []).getD 0 dz).toI ⟨k, 0, v⟩).1]], V (tellF ((es.getD 0 []).getD 0 dz).toI ⟨k, 0, v⟩).2, V 0], [])
  | _, _ => none
theorem flat1_does : Does Tryz.prog 114 flatT1 := ⟨⟨_, Tryz.func114, by decide, rfl⟩, fun xs l0 p v objs h hp => by
  unfold flatT1 at h
  split at h
  · cases h
    obtain ⟨⟨x, rfl⟩, rfl, ⟨h1, h4⟩, h0, h2⟩ := hp
    exact flat1_ok x _ _ h1 h4 h0 h2
  · cases h⟩
def tabC1 : Canon := orT 114 flatT1 tab0
theorem tabC1_ok : Sound Tryz.prog tabC1 := tab0_ok.or flat1_does
end Go.Proofs.YtpgeopefamomnacGreat
