/- BDone. -/
import Derived.Test.YtpgeopefamomnaeGreatRT
set_option linter.unusedSimpArgs false
set_option linter.unusedSectionVars false
namespace Go.Proofs.YtpgeopefamomnaeGreat
open Go.RowKit
set_option linter.unusedVariables false
set_option linter.unusedSimpArgs false
set_option maxRecDepth 100000
def done0 : SDone := ⟨0, SOp.zero, 0⟩
set_option maxHeartbeats 4000000 in
theorem sameDone_ok (ms : List SDone) (hl : ms.length < 1000000) : FunOK Tryz.prog 11 [Ro (R dnD ms), Ro (R dnD ms)] (hOf []) (Vb true) (hOf []) := by
  refine fun_deep (pins := []) (l0 := []) (objs := []) (base := 0) (xx_ok tab0_ok []) mixed Tryz.func11 rfl (Nat.le_of_ble_eq_true rfl) rfl rfl ?_
  have hlen : (R dnD ms).length = ms.length := R_len _ _
  have hget : ∀ k, k < ms.length → (R dnD ms).getD k [] = dnD (ms.getD k done0) := fun k hk => R_get dnD done0 hk
  repeat' ((conv => whnf); first | exact trivial | (with_reducible refine ap_of ?_; kernel_rfl) | (with_reducible refine ds_of ?_; kernel_rfl) | (with_reducible refine eq_of ?_; kernel_rfl) | exact rfl | (intro h; exact absurd h (by decide)) | intro _ | apply And.intro)
  all_goals first
    | rfl
    | (exfalso; simp_all; done)
    | skip
  (conv => whnf)
  refine loop_keep [0, 1] 40 [] {k : Nat // k ≤ ms.length} (fun k => [(4, Vb false), (12, V ms.length), (13, V k.1)]) (fun k => []) (fun k => ms.length - k.1) ⟨0, Nat.zero_le _⟩ ?_
  (conv => whnf)
  refine ⟨?_, ?_⟩
  · repeat' ((conv => whnf); first | exact trivial | exact rfl | apply And.intro)
    all_goals first | exact int_eq (show ((R dnD ms).length : Int) = ms.length by rw [hlen]) | trace_state
  · rintro ⟨k, hk⟩
    repeat' ((conv => whnf); first | exact trivial | (with_reducible refine ap_of ?_; kernel_rfl) | (with_reducible refine ds_of ?_; kernel_rfl) | (with_reducible refine eq_of ?_; kernel_rfl) | exact rfl | (intro h; exact absurd h (by decide)) | intro _ | apply And.intro)
    all_goals first
      | (have hlt : k < ms.length := (by have := k_lt (k := k) (n := ms.length) (by assumption); omega)
         have hki : (k : Int) < ms.length := by omega
         first
           | exact Int.natCast_nonneg _
           | (rw [hlen]; exact hki)
           | (rw [hlen, show ∀ n : Nat, ((n : Nat) : Int).toNat = n from Int.toNat_natCast]; exact hlt)
           | rfl
           | (rw [show ∀ n : Nat, ((n : Nat) : Int).toNat = n from Int.toNat_natCast, hget k hlt]; first | rfl | exact Nat.le_refl _)
           | (exfalso; clear hget; simp_all; done)
           | ((conv => whnf)
              refine ⟨⟨k + 1, hlt⟩, [], ?_, ?_⟩
              · show ms.length - (k + 1) < ms.length - k
                omega
              · repeat' ((conv => whnf); first | exact trivial | exact rfl | apply And.intro)
                exact succ_eq k (by omega)))
      | (have hke : k = ms.length := (by have := k_ge (k := k) (n := ms.length) (by assumption); omega)
         first | rfl | trace_state)
      | trace_state
def sameDoneT (xs : List AV) (l0 : List (Nat × OS)) : Ans := match xs, l0 with
  | [.c (.d (.row a)), .c (.d (.row b))], [] => some (∃ ms, a = R dnD ms ∧ b = R dnD ms ∧ ms.length < 1000000, Vb true, [])
  | _, _ => none
theorem sameDone_does : Does Tryz.prog 11 sameDoneT := ⟨⟨_, Tryz.func11, by decide, rfl⟩, fun xs l0 p v objs h hp => by
  unfold sameDoneT at h
  split at h
  · cases h
    obtain ⟨ms, rfl, rfl, h1⟩ := hp
    exact sameDone_ok ms h1
  · cases h⟩
end Go.Proofs.YtpgeopefamomnaeGreat

