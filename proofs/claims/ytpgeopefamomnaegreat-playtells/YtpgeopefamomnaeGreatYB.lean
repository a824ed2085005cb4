/- PPlay2. -/
import Derived.Test.YtpgeopefamomnaeGreatYA
set_option linter.unusedSimpArgs false
set_option linter.unusedSectionVars false
namespace Go.Proofs.YtpgeopefamomnaeGreat
open Go.RowKit
set_option linter.unusedVariables false
set_option linter.unusedSimpArgs false
set_option maxRecDepth 100000
def doneZ : SDone := ⟨0, SOp.zero, 0⟩
def ofF (ds : List SDone) (p : Int) : List SDone := ds.filter fun d => d.core == p
theorem ofF_step (ds : List SDone) (p : Int) (k : Nat) (h : k < ds.length) : ofF (ds.take (k + 1)) p = ofF (ds.take k) p ++ (if (ds.getD k doneZ).core == p then [ds.getD k doneZ] else []) := by
  unfold ofF
  rw [take_snoc ds k doneZ h, List.filter_append]
  congr 1
  rw [List.filter_cons]
  split <;> rfl
theorem ofF_len (ds : List SDone) (p : Int) : (ofF ds p).length ≤ ds.length := List.length_filter_le ..
set_option maxHeartbeats 4000000 in
theorem of_ok (ds : List SDone) (p : Int) (hd : ds.length ≤ 100000) : FunOK Tryz.prog 22 [Ro (R dnD ds), V p] (hOf []) (Ro (R dnD (ofF ds p))) (hOf []) := by
  refine fun_deep (pins := []) (l0 := []) (objs := []) (base := 0) (xx_ok tab0_ok []) mixed Tryz.func22 rfl (Nat.le_of_ble_eq_true rfl) rfl rfl ?_
  have hlen : (R dnD ds).length = ds.length := R_len _ _
  repeat' ((conv => whnf); first | exact trivial | (with_reducible refine ap_of ?_; kernel_rfl) | (with_reducible refine ds_of ?_; kernel_rfl) | (with_reducible refine eq_of ?_; kernel_rfl) | exact rfl | (intro h; exact absurd h (by decide)) | intro _ | apply And.intro)
  (conv => whnf)
  refine loop_keep [1, 4, 8] 40 [(1, 1000)] {k : Nat // k ≤ ds.length} (fun k => [(5, .c (.own 1)), (9, V ds.length), (10, V k.1)]) (fun k => [(0, .live (.row [] 5 46 false)), (1, .live (.row (R dnD (ofF (ds.take k.1) p)) 5 46 false))]) (fun k => ds.length - k.1) ⟨0, Nat.zero_le _⟩ ?_
  (conv => whnf)
  refine ⟨?_, ?_⟩
  · repeat' ((conv => whnf); first | exact trivial | exact rfl | apply And.intro)
    all_goals first | exact int_eq (show ((R dnD ds).length : Int) = ds.length by rw [hlen]) | trace_state
  · rintro ⟨k, hk⟩
    have hol : (R dnD (ofF (ds.take k) p)).length ≤ 100000 := by rw [R_len]; have := ofF_len (ds.take k) p; rw [List.length_take] at this; omega
    repeat' ((conv => whnf); first | exact trivial | (with_reducible refine ap_of ?_; kernel_rfl) | (with_reducible refine ds_of ?_; kernel_rfl) | (with_reducible refine eq_of ?_; kernel_rfl) | exact rfl | (intro h; exact absurd h (by decide)) | intro _ | apply And.intro)
    all_goals first
      | (have hlt : k < ds.length := (by have := k_lt (k := k) (n := ds.length) (by assumption); omega)
         have hki : (k : Int) < ds.length := by omega
         have hg : (R dnD ds).getD k [] = dnD (ds.getD k doneZ) := R_get dnD doneZ hlt
         have hst := ofF_step ds p k hlt
         first
           | exact Int.natCast_nonneg _
           | (rw [hlen]; exact hki)
           | (rw [hlen, show ∀ n : Nat, ((n : Nat) : Int).toNat = n from Int.toNat_natCast]; exact hlt)
           | rfl
           | (rw [show ∀ n : Nat, ((n : Nat) : Int).toNat = n from Int.toNat_natCast, hg]; first | rfl | exact Nat.le_refl _)
           | (refine Nat.le_trans (Nat.add_le_add hol (Nat.le_refl _)) ?_; simp; done)
           | (refine len_set1 (by assumption) ?_; rfl)
           | (have h0 : ((((R dnD ds).getD ((k : Nat) : Int).toNat []).getD 0 dz).toI == p) = true := by assumption
              rw [Int.toNat_natCast, hg] at h0
              have h1 : ((ds.getD k doneZ).core == p) = true := h0
              (conv => whnf)
              refine ⟨⟨k + 1, hlt⟩, [(1, ?_)], ?_, ?_⟩
              rotate_left
              · show ds.length - (k + 1) < ds.length - k
                omega
              · repeat' ((conv => whnf); first | exact trivial | exact rfl | apply And.intro)
                · exact succ_eq k (by omega)
                · refine row_eq ?_
                  rw [hst, if_pos h1, Int.toNat_natCast, hg]
                  exact R_app dnD _ [_])
           | (have h0 : ((((R dnD ds).getD ((k : Nat) : Int).toNat []).getD 0 dz).toI == p) = false := by assumption
              rw [Int.toNat_natCast, hg] at h0
              have h1 : ¬ ((ds.getD k doneZ).core == p) = true := by rw [show ((ds.getD k doneZ).core == p) = false from h0]; decide
              (conv => whnf)
              refine ⟨⟨k + 1, hlt⟩, [(1, ?_)], ?_, ?_⟩
              rotate_left
              · show ds.length - (k + 1) < ds.length - k
                omega
              · repeat' ((conv => whnf); first | exact trivial | exact rfl | apply And.intro)
                · exact succ_eq k (by omega)
                · refine row_eq ?_
                  rw [hst, if_neg h1, List.append_nil])
           | trace_state)
      | (have hke : k = ds.length := (by have := k_ge (k := k) (n := ds.length) (by assumption); omega)
         subst hke
         first
           | rfl
           | (show Ro (R dnD (ofF (ds.take ds.length) p)) = _
              rw [List.take_of_length_le (Nat.le_refl _)])
           | trace_state)
      | trace_state
def doneOf (u : List DV) : SDone := ⟨toI0 u 0, ⟨toI0 u 1, toI0 u 2, toI0 u 3⟩, toI0 u 4⟩
def donesR (es : Row) : List SDone := es.map doneOf
theorem donesR_rows (l : List SDone) : donesR (R dnD l) = l := by
  unfold donesR R
  rw [List.map_map]
  exact List.map_id'' (f := doneOf ∘ dnD) (fun _ => rfl) l
def ofT (xs : List AV) (l0 : List (Nat × OS)) : Ans := match xs, l0 with
  | [.c (.d (.row es)), .c (.d (.int .i64 p))], [] => some (∃ ds, es = R dnD ds ∧ ds.length ≤ 100000, Ro (R dnD (ofF (donesR es) p)), [])
  | _, _ => none
theorem of_does : Does Tryz.prog 22 ofT := ⟨⟨_, Tryz.func22, by decide, rfl⟩, fun xs l0 p v objs h hp => by
  unfold ofT at h
  split at h
  · cases h
    obtain ⟨ds, rfl, h1⟩ := hp
    rw [donesR_rows]
    exact of_ok ds _ h1
  · cases h⟩
end Go.Proofs.YtpgeopefamomnaeGreat

