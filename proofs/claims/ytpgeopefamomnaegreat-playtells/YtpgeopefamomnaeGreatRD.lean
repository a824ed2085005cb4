/- DRef6 DRef7. -/
import Derived.Test.YtpgeopefamomnaeGreatRB
import Derived.Test.YtpgeopefamomnaeGreatPG
set_option linter.unusedSimpArgs false
set_option linter.unusedSectionVars false
namespace Go.Proofs.YtpgeopefamomnaeGreat
open Go.RowKit
set_option linter.unusedVariables false
set_option maxRecDepth 100000
def frameD (f : List Nat) : List DV := [.row (rowB f)]
def framesD (fs : List (List Nat)) : List (List DV) := R frameD fs
theorem framesD_len (fs : List (List Nat)) : (framesD fs).length = fs.length := R_len _ _
theorem framesD_get {fs : List (List Nat)} {k : Nat} (h : k < fs.length) : (framesD fs).getD k [] = [.row (rowB (fs.getD k []))] := R_get frameD [] h
def outF (fs : List (List Nat)) (n : Int) (k : Nat) : List (List Nat) := (fs.take k).eraseIdx n.toNat
theorem outF_same {fs : List (List Nat)} {n : Int} (hn : 0 ≤ n) {k : Nat} (h : (k : Int) = n) : outF fs n (k + 1) = outF fs n k := by
  unfold outF
  have hk : n.toNat = k := by omega
  have h1 : (fs.take k).eraseIdx k = fs.take k := List.eraseIdx_of_length_le (by rw [List.length_take]; omega)
  have h2 : (fs.take (k + 1)).eraseIdx k = fs.take k := by
    rw [List.eraseIdx_eq_take_drop_succ, List.take_take, List.drop_eq_nil_of_le (by rw [List.length_take]; omega), List.append_nil]
    congr 1
    omega
  rw [hk, h1, h2]
theorem outF_step {fs : List (List Nat)} {n : Int} (hn : 0 ≤ n) {k : Nat} (hk : k < fs.length) (h : (k : Int) ≠ n) : outF fs n (k + 1) = outF fs n k ++ [fs.getD k []] := by
  unfold outF
  rw [take_snoc fs k [] hk]
  by_cases hlt : n.toNat < k
  · rw [List.eraseIdx_append_of_lt_length (by simp; omega)]
  · rw [List.eraseIdx_of_length_le (by simp; omega), List.eraseIdx_of_length_le (by simp; omega)]
theorem outF_len (fs : List (List Nat)) (n : Int) (k : Nat) : (outF fs n k).length ≤ fs.length := by
  unfold outF
  have h1 := List.length_eraseIdx_le (fs.take k) n.toNat
  rw [List.length_take] at h1
  omega
theorem outF_all (fs : List (List Nat)) (n : Int) : outF fs n fs.length = fs.eraseIdx n.toNat := by unfold outF; rw [List.take_length]
set_option maxHeartbeats 4000000 in
theorem rtake_no (fs : List (List Nat)) (n : Int) (hn : ¬ (0 ≤ n ∧ n < fs.length)) : FunOK Tryz.prog 40 [Ro (framesD fs), V n] (hOf []) (.tup [Ro [], Ro [], V 5]) (hOf []) := by
  refine fun_deep (pins := []) (l0 := []) (objs := []) (base := 0) (xx_ok tab0_ok []) mixed Tryz.func40 rfl (Nat.le_of_ble_eq_true rfl) rfl rfl ?_
  repeat' ((conv => whnf); first | exact trivial | (with_reducible refine ap_of ?_; kernel_rfl) | (with_reducible refine ds_of ?_; kernel_rfl) | (with_reducible refine eq_of ?_; kernel_rfl) | exact rfl | (intro h; exact absurd h (by decide)) | intro _ | apply And.intro)
  all_goals first | rfl | (exfalso; simp_all [framesD_len] <;> omega)
set_option maxHeartbeats 4000000 in
theorem rtake_ok (fs : List (List Nat)) (n : Int) (hn : 0 ≤ n ∧ n < fs.length) (hm : fs.length ≤ 1000000) : FunOK Tryz.prog 40 [Ro (framesD fs), V n] (hOf []) (.tup [Ro (framesD (fs.eraseIdx n.toNat)), Ro (rowB (fs.getD n.toNat [])), V 0]) (hOf []) := by
  refine fun_deep (pins := []) (l0 := []) (objs := []) (base := 0) (xx_ok tab0_ok []) mixed Tryz.func40 rfl (Nat.le_of_ble_eq_true rfl) rfl rfl ?_
  repeat' ((conv => whnf); first | exact trivial | (with_reducible refine ap_of ?_; kernel_rfl) | (with_reducible refine ds_of ?_; kernel_rfl) | (with_reducible refine eq_of ?_; kernel_rfl) | exact rfl | (intro h; exact absurd h (by decide)) | intro _ | apply And.intro)
  all_goals first | rfl | (exfalso; simp_all [framesD_len] <;> omega) | skip
  refine loop_keep [0, 1, 4, 5, 6, 18] 12 [(1, 2000)] {k : Nat // k ≤ fs.length} (fun k => [(7, .c (.own 1)), (19, V fs.length), (20, V k.1)]) (fun k => [(0, .live (.row [] 1 93 false)), (8, .live (.row [] 1 5 false)), (1, .live (.row (framesD (outF fs n k.1)) 1 93 false))]) (fun k => fs.length - k.1) ⟨0, Nat.zero_le _⟩ ?_
  (conv => whnf)
  refine ⟨?_, ?_⟩
  · repeat' ((conv => whnf); first | exact trivial | exact rfl | apply And.intro)
    exact int_eq (show ((framesD fs).length : Int) = fs.length by rw [framesD_len])
  · rintro ⟨k, hk⟩
    have hnl : n.toNat < fs.length := by omega
    repeat' ((conv => whnf); first | exact trivial | (with_reducible refine ap_of ?_; kernel_rfl) | (with_reducible refine ds_of ?_; kernel_rfl) | (with_reducible refine eq_of ?_; kernel_rfl) | exact rfl | (intro h; exact absurd h (by decide)) | intro _ | apply And.intro)
    all_goals first
      | (have hlt : k < fs.length := (by have := k_lt (k := k) (n := fs.length) (by assumption); omega)
         first
           | first | exact Int.natCast_nonneg _ | (rw [framesD_len]; exact Int.ofNat_lt.2 (show (k : Nat) < _ from hlt)) | (rw [show ∀ n : Nat, ((n : Nat) : Int).toNat = n from Int.toNat_natCast, framesD_get hlt]; first | rfl | exact Nat.le_refl _) | (rw [show ∀ n : Nat, ((n : Nat) : Int).toNat = n from Int.toNat_natCast, framesD_len]; exact hlt)
           | rfl
           | (rw [framesD_len]; have := outF_len fs n k; simp; omega)
           | (refine len_set1 (by assumption) ?_; rfl)
           | ((conv => whnf)
              refine ⟨⟨k + 1, hlt⟩, [(1, ?_)], ?_, ?_⟩
              rotate_left
              · show fs.length - (k + 1) < fs.length - k
                omega
              · repeat' ((conv => whnf); first | exact trivial | exact rfl | apply And.intro)
                · exact succ_eq k (by omega)
                · refine row_eq ?_
                  first
                    | (rw [show outF fs n (k + 1) = _ from outF_same hn.1 (by simp_all)]; done)
                    | (rw [show ∀ n : Nat, ((n : Nat) : Int).toNat = n from Int.toNat_natCast, framesD_get hlt]
                       show framesD (outF fs n k) ++ [frameD (fs.getD k [])] = framesD (outF fs n (k + 1))
                       rw [outF_step hn.1 hlt (by simp_all)]
                       exact R_app frameD _ [_])))
      | (have hke : k = fs.length := (by have := k_ge (k := k) (n := fs.length) (by assumption); omega)
         subst hke
         first
           | exact hn.1
           | (rw [framesD_len]; exact hn.2)
           | (rw [framesD_len]; exact hnl)
           | (rw [framesD_get hnl]; first | rfl | exact Nat.le_refl _)
           | rfl
           | (show AV.tup [Ro (framesD (outF fs n fs.length)), Ro (((framesD fs).getD n.toNat []).getD 0 dz).toR, V 0] = _
              rw [framesD_get hnl, outF_all]
              rfl))
end Go.Proofs.YtpgeopefamomnaeGreat

namespace Go.Proofs.YtpgeopefamomnaeGreat
open Go.RowKit
set_option linter.unusedVariables false
set_option maxRecDepth 100000
theorem rsend_ok (es : Row) (b : Row) (hm : es.length ≤ 1000000) (ho : ∀ u ∈ es, u.length = 1) : FunOK Tryz.prog 41 [Ro es, Ro b] (hOf []) (Ro (if 40 ≤ es.length then es else es ++ [[.row b]])) (hOf []) := by
  refine fun_deep (pins := []) (l0 := []) (objs := []) (base := 0) (xx_ok tab0_ok []) mixed Tryz.func41 rfl (Nat.le_of_ble_eq_true rfl) rfl rfl ?_
  repeat' ((conv => whnf); first | exact trivial | (with_reducible refine ap_of ?_; kernel_rfl) | (with_reducible refine ds_of ?_; kernel_rfl) | (with_reducible refine eq_of ?_; kernel_rfl) | exact rfl | (intro h; exact absurd h (by decide)) | intro _ | apply And.intro)
  all_goals first
    | rfl
    | (have h : ¬ 40 ≤ es.length := by have h2 := of_decide_eq_false (by assumption : decide ((es.length : Int) ≥ 40) = false); omega
       rw [if_neg h]
       rfl)
    | (have h : 40 ≤ es.length := by have h2 := of_decide_eq_true (by assumption : decide ((es.length : Int) ≥ 40) = true); omega
       rw [if_pos h])
    | (simp; omega)
    | exact ho _ (by assumption)
    | (refine len_set1 (by assumption) ?_; rfl)
def bytesT (xs : List AV) (l0 : List (Nat × OS)) : Ans := match xs, l0 with
  | [.agg [.d (.int .i64 k), .d (.int .i64 f), .d (.int .i64 t), .d (.int .i64 l), .d (.int .i64 s), .d (.int .i64 u), .d (.int .i64 v), .d (.bool z)]], [] => some (Fit ⟨k, f, t, l, s, u, v, z⟩, Ro (rowB (bytesF ⟨k, f, t, l, s, u, v, z⟩)), [])
  | _, _ => none
theorem bytes_does : Does Tryz.prog 59 bytesT := ⟨⟨_, Tryz.func59, by decide, rfl⟩, fun xs l0 p v objs h hp => by
  unfold bytesT at h
  split at h
  · cases h
    exact rbytes_ok (Msg.mk _ _ _ _ _ _ _ _) hp _ rfl
  · cases h⟩
def sendT (xs : List AV) (l0 : List (Nat × OS)) : Ans := match xs, l0 with
  | [.c (.d (.row fs)), .c (.d (.row b))], [] => some (fs.length ≤ 1000000 ∧ ∀ u ∈ fs, u.length = 1, Ro (if 40 ≤ fs.length then fs else fs ++ [[.row b]]), [])
  | _, _ => none
theorem send_does : Does Tryz.prog 41 sendT := ⟨⟨_, Tryz.func41, by decide, rfl⟩, fun xs l0 p v objs h hp => by
  unfold sendT at h
  split at h
  · cases h
    exact rsend_ok _ _ hp.1 hp.2
  · cases h⟩
def tabY : Canon := orT 59 bytesT (orT 41 sendT tab0)
theorem tabY_ok : Sound Tryz.prog tabY := (tab0_ok.or send_does).or bytes_does
theorem way_step (fs : List (List Nat)) {ms : List Msg} {k : Nat} (d : Msg) (h : k < ms.length) : wayF fs (ms.take (k + 1)) = sendB (wayF fs (ms.take k)) (bytesF (ms.getD k d)) := by
  unfold wayF
  rw [take_snoc ms k d h, List.foldl_append]
  rfl
theorem sendB_row (fs : List (List Nat)) (b : List Nat) : (if 40 ≤ (framesD fs).length then framesD fs else framesD fs ++ [[.row (rowB b)]]) = framesD (sendB fs b) := by
  unfold sendB
  rw [framesD_len]
  split
  · rfl
  · exact R_snoc frameD fs b
theorem sendB_len (fs : List (List Nat)) (b : List Nat) : (sendB fs b).length ≤ fs.length + 1 := by
  unfold sendB
  split <;> simp
theorem way_len (fs : List (List Nat)) (d : Msg) (ms : List Msg) : ∀ k, k ≤ ms.length → (wayF fs (ms.take k)).length ≤ fs.length + k
  | 0, _ => by simp [wayF]
  | k + 1, h => by
    rw [way_step fs d h]
    have := sendB_len (wayF fs (ms.take k)) (bytesF (ms.getD k d))
    have := way_len fs d ms k (by omega)
    omega
def msg0 : Msg := ⟨0, 0, 0, 0, 0, 0, 0, false⟩
set_option maxHeartbeats 4000000 in
theorem rway_ok (fs : List (List Nat)) (ms : List Msg) (hf : ∀ k, k < ms.length → Fit (ms.getD k msg0)) (hm : fs.length ≤ 1000) (hm2 : ms.length ≤ 1000) : FunOK Tryz.prog 37 [Ro (framesD fs), Ro (R msgD ms)] (hOf []) (Ro (framesD (wayF fs ms))) (hOf []) := by
  refine fun_deep (pins := []) (l0 := []) (objs := []) (base := 0) (xx_ok tabY_ok [59, 41]) mixed Tryz.func37 rfl (Nat.le_of_ble_eq_true rfl) rfl rfl ?_
  repeat' ((conv => whnf); first | exact trivial | (with_reducible refine ap_of ?_; kernel_rfl) | (with_reducible refine ds_of ?_; kernel_rfl) | (with_reducible refine eq_of ?_; kernel_rfl) | exact rfl | (intro h; exact absurd h (by decide)) | intro _ | apply And.intro)
  refine loop_keep [4, 7] 12 [] {k : Nat // k ≤ ms.length} (fun k => [(0, Ro (framesD (wayF fs (ms.take k.1)))), (8, V ms.length), (9, V k.1)]) (fun k => [(0, .live (.row [] 1 93 false))]) (fun k => ms.length - k.1) ⟨0, Nat.zero_le _⟩ ?_
  (conv => whnf)
  refine ⟨?_, ?_⟩
  · repeat' ((conv => whnf); first | exact trivial | exact rfl | apply And.intro)
    all_goals first | exact int_eq (show ((R msgD ms).length : Int) = ms.length by rw [R_len]) | trace_state
  · rintro ⟨k, hk⟩
    have hgt : ∀ {k}, k < ms.length → (R msgD ms).getD k [] = msgD (ms.getD k msg0) := fun h => R_get msgD msg0 h
    repeat' ((conv => whnf); first | exact trivial | (with_reducible refine ap_of ?_; kernel_rfl) | (with_reducible refine ds_of ?_; kernel_rfl) | (with_reducible refine eq_of ?_; kernel_rfl) | exact rfl | (intro h; exact absurd h (by decide)) | intro _ | apply And.intro)
    all_goals first
      | (have hlt : k < ms.length := (by have := k_lt (k := k) (n := ms.length) (by assumption); omega)
         first
           | first | exact Int.natCast_nonneg _ | (rw [R_len]; exact Int.ofNat_lt.2 (show (k : Nat) < _ from hlt)) | (rw [show ∀ n : Nat, ((n : Nat) : Int).toNat = n from Int.toNat_natCast, hgt hlt]; first | rfl | exact Nat.le_refl _) | (rw [show ∀ n : Nat, ((n : Nat) : Int).toNat = n from Int.toNat_natCast, R_len]; exact hlt)
           | rfl
           | (rw [show ∀ n : Nat, ((n : Nat) : Int).toNat = n from Int.toNat_natCast, hgt hlt]; exact hf k hlt)
           | (rw [framesD_len]; have := way_len fs msg0 ms k hk; show (wayF fs (ms.take k)).length ≤ _; omega)
           | exact R_one (f := frameD) (fun _ => rfl) _ _ (by assumption)
           | ((conv => whnf)
              refine ⟨⟨k + 1, hlt⟩, [], ?_, ?_⟩
              · show ms.length - (k + 1) < ms.length - k
                omega
              · repeat' ((conv => whnf); first | exact trivial | exact rfl | apply And.intro)
                · refine congrArg (fun r => AV.c (.d (.row r))) ?_
                  rw [way_step fs msg0 hlt, ← sendB_row, show ∀ n : Nat, ((n : Nat) : Int).toNat = n from Int.toNat_natCast, hgt hlt]
                  rfl
                · exact succ_eq k (by omega))
           | skip)
      | (have hke : k = ms.length := (by have := k_ge (k := k) (n := ms.length) (by assumption); omega)
         subst hke
         first | rfl | (show Ro (framesD (wayF fs (ms.take ms.length))) = _; rw [List.take_length]))
end Go.Proofs.YtpgeopefamomnaeGreat

