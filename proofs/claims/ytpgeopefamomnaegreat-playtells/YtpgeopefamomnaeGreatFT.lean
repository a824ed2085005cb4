/- FTurn FTabs FNet2 FNet3 GSend. -/
import Derived.Test.YtpgeopefamomnaeGreatFA
import Derived.Test.YtpgeopefamomnaeGreatRR
set_option linter.unusedSimpArgs false
set_option linter.unusedSectionVars false
namespace Go.Proofs.YtpgeopefamomnaeGreat
open Go.RowKit
set_option linter.unusedVariables false
set_option maxRecDepth 100000
theorem fxor {x j : Nat} (hx : x < 256) (hj : j < 8) : IntKind.u8.wrap ((BitVec.ofInt IntKind.u8.bits (x : Int) ^^^ BitVec.ofInt IntKind.u8.bits (IntKind.u8.wrap (1 * 2 ^ min j IntKind.u8.bits))).toNat : Int) = ((x ^^^ 2 ^ j : Nat) : Int) := by
  have h := xor_val x j hx (by omega) hj
  have e : IntKind.u8.wrap (1 * 2 ^ min j IntKind.u8.bits) = 2 ^ j % 256 := by
    rw [show min j IntKind.u8.bits = j from by show min j 8 = j; omega, Int.one_mul]
    simp only [IntKind.wrap, IntKind.bits, IntKind.signed]
    simp
  rw [e]
  exact h
set_option maxHeartbeats 4000000 in
theorem fturn_ok (b : List Nat) (hb : isBytes b) (hl : b.length ≤ 1000) (bit : Int) (h0 : 0 ≤ bit) (h1 : bit < 100000) : FunOK Tryz.prog 112 [Ro (rowB b), V bit] (hOf []) (Ro (rowB (turnF b bit))) (hOf []) := by
  refine fun_deep (pins := []) (l0 := []) (objs := []) (base := 0) (xx_ok tab0_ok []) mixed Tryz.func112 rfl (Nat.le_of_ble_eq_true rfl) rfl rfl ?_
  have hlen := rowB_len b
  have cp : List.take (List.replicate (((rowB b).length : Int)).toNat [DV.int IntKind.u8 0]).length (rowB b) ++ List.drop (rowB b).length (List.replicate (((rowB b).length : Int)).toNat [DV.int IntKind.u8 0]) = rowB b := copyR _ _
  obtain ⟨q, hq⟩ : ∃ q, q = (bit / 8).toNat := ⟨_, rfl⟩
  obtain ⟨j, hj⟩ : ∃ j, j = (bit % 8).toNat := ⟨_, rfl⟩
  have hj8 : j < 8 := by omega
  have wq : IntKind.i64.wrap (bit.tdiv 8) = (q : Int) := by
    rw [Int.tdiv_eq_ediv_of_nonneg h0, wrap_in (by omega) (by omega)]
    omega
  have wj : bit.tmod 8 = (j : Int) := by
    rw [Int.tmod_eq_emod_of_nonneg h0]
    omega
  have wqn : ((q : Nat) : Int).toNat = q := Int.toNat_natCast q
  have wjn : ((j : Nat) : Int).toNat = j := Int.toNat_natCast j
  have hT : turnF b bit = if q < b.length then b.set q (b.getD q 0 ^^^ 2 ^ j) else b := by
    unfold turnF
    rw [← hq, ← hj]
    by_cases h : q < b.length
    · rw [if_pos h, if_pos (by omega)]
    · rw [if_neg h, if_neg (by omega)]
  repeat' ((conv => whnf); first | exact trivial | (with_reducible refine ap_of ?_; kernel_rfl) | (with_reducible refine ds_of ?_; kernel_rfl) | (with_reducible refine eq_of ?_; kernel_rfl) | exact rfl | (intro h; exact absurd h (by decide)) | intro _ | apply And.intro)
  all_goals try simp only [cp] at *
  all_goals try simp only [wq, wj, wqn, wjn, hlen] at *
  all_goals first
    | exact Int.natCast_nonneg _
    | rfl
    | omega
    | exact rowB_one _ _ (by assumption)
    | skip
  all_goals first
    | (have hk : q < b.length := by have h2 := of_decide_eq_true (by assumption : decide ((q : Int) < (b.length : Int)) = true); omega
       have hg := rowB_get hk
       have hx := hb q hk
       first
         | omega
         | (rw [hg]; first | rfl | exact Nat.le_refl _)
         | (rw [hT, if_pos hk, hg]
            have key := R_set byteD b q (b.getD q 0 ^^^ 2 ^ j)
            show Ro ((R byteD b).set q [DV.int .u8 (IntKind.u8.wrap ((BitVec.ofInt IntKind.u8.bits ((b.getD q 0 : Nat) : Int) ^^^ BitVec.ofInt IntKind.u8.bits (IntKind.u8.wrap (1 * 2 ^ min j IntKind.u8.bits))).toNat : Int))]) = _
            rw [fxor hx hj8]
            exact congrArg Ro key)
         | trace_state)
    | (have hk : ¬ q < b.length := by have h2 := of_decide_eq_false (by assumption : decide ((q : Int) < (b.length : Int)) = false); omega
       rw [hT, if_neg hk])
    | (exfalso; simp_all; done)
    | (exfalso; simp_all; omega)
    | trace_state
end Go.Proofs.YtpgeopefamomnaeGreat

namespace Go.Proofs.YtpgeopefamomnaeGreat
open Go.RowKit
set_option linter.unusedVariables false
set_option linter.unusedSimpArgs false
set_option maxRecDepth 100000
theorem fparse_does : Does Tryz.prog 91 parseT := ⟨⟨_, Tryz.func91, by decide, rfl⟩, fun xs l0 p v objs h hp => by
  unfold parseT at h
  split at h
  · cases h
    obtain ⟨b, rfl, h1⟩ := hp
    rw [bytesR_rows]
    exact fparse_ok (Cfg.mk _ _) b h1 _ rfl
  · cases h⟩
end Go.Proofs.YtpgeopefamomnaeGreat

namespace Go.Proofs.YtpgeopefamomnaeGreat
open Go.RowKit
set_option linter.unusedVariables false
set_option linter.unusedSimpArgs false
set_option maxRecDepth 100000
theorem frame_one (fs : List (List Nat)) (u : List DV) (h : u ∈ framesD fs) : u.length = 1 := R_one (f := frameD) (fun _ => rfl) _ _ h
theorem fbytes_does : Does Tryz.prog 103 bytesT := ⟨⟨_, Tryz.func103, by decide, rfl⟩, fun xs l0 p v objs h hp => by
  unfold bytesT at h
  split at h
  · cases h
    exact fbytes_ok (Msg.mk _ _ _ _ _ _ _ _) hp _ rfl
  · cases h⟩
theorem fturn_does : Does Tryz.prog 112 turnedT := ⟨⟨_, Tryz.func112, by decide, rfl⟩, fun xs l0 p v objs h hp => by
  unfold turnedT at h
  split at h
  · cases h
    obtain ⟨b, rfl, h1, h2, h3, h4⟩ := hp
    rw [bytesR_rows]
    exact fturn_ok b h1 h2 _ h3 h4
  · cases h⟩
def ksNO : List FuncId := [78, 70]
set_option maxHeartbeats 4000000
theorem nsend_ok (fs : List (List Nat)) (b : List Nat) (hs : Short fs) (hb : b.length ≤ 1000) : FunOK Tryz.prog 102 [Ro (framesD fs), Ro (rowB b)] (hOf []) (Ro (framesD (sendB fs b))) (hOf []) := by
  refine fun_deep (pins := []) (l0 := []) (objs := []) (base := 0) (xx_ok tabNO_ok ksNO) mixed Tryz.func102 rfl (Nat.le_of_ble_eq_true rfl) rfl rfl ?_
  have hlen := framesD_len fs
  have h1 := hs.1
  repeat' ((conv => whnf); first | exact trivial | (with_reducible refine ap_of ?_; kernel_rfl) | (with_reducible refine ds_of ?_; kernel_rfl) | (with_reducible refine eq_of ?_; kernel_rfl) | exact rfl | (intro h; exact absurd h (by decide)) | intro _ | apply And.intro)
  all_goals first
    | exact ⟨_, rfl, hs⟩
    | exact ⟨_, rfl, hb⟩
    | exact frame_one _ _ (by assumption)
    | (rw [hlen]; simp; omega)
    | (rw [hlen]; omega)
    | (refine len_set1 (by assumption) ?_; rfl)
    | (have h : ¬ 40 ≤ fs.length := by have h2 := of_decide_eq_false (by assumption : decide (((framesD fs).length : Int) ≥ 40) = false); omega
       rw [show sendB fs b = fs ++ [b] from if_neg h]
       exact congrArg Ro (R_snoc frameD fs b))
    | (have h : 40 ≤ fs.length := by have h2 := of_decide_eq_true (by assumption : decide (((framesD fs).length : Int) ≥ 40) = true); omega
       rw [show sendB fs b = fs from if_pos h])
    | rfl
    | trace_state
def nsendT (xs : List AV) (l0 : List (Nat × OS)) : Ans := match xs, l0 with
  | [.c (.d (.row es)), .c (.d (.row eb))], [] => some ((∃ fs, es = framesD fs ∧ Short fs) ∧ ∃ b, eb = rowB b ∧ b.length ≤ 1000, Ro (framesD (sendB (framesR es) (bytesR eb))), [])
  | _, _ => none
theorem nsend_does : Does Tryz.prog 102 nsendT := ⟨⟨_, Tryz.func102, by decide, rfl⟩, fun xs l0 p v objs h hp => by
  unfold nsendT at h
  split at h
  · cases h
    obtain ⟨⟨fs, rfl, h1⟩, b, rfl, h2⟩ := hp
    rw [framesR_rows, bytesR_rows]
    exact nsend_ok fs b h1 h2
  · cases h⟩
theorem frames_take (fs : List (List Nat)) (i : Nat) : (framesD fs).take i = framesD (fs.take i) := (List.map_take ..).symm
theorem frames_drop (fs : List (List Nat)) (i : Nat) : (framesD fs).drop i = framesD (fs.drop i) := (List.map_drop ..).symm
theorem Short.take {fs : List (List Nat)} (h : Short fs) (i : Nat) : Short (fs.take i) := ⟨by have := h.1; rw [List.length_take]; omega, fun f hf => h.2 f (List.mem_of_mem_take hf)⟩
theorem Short.drop {fs : List (List Nat)} (h : Short fs) (i : Nat) : Short (fs.drop i) := ⟨by have := h.1; rw [List.length_drop]; omega, fun f hf => h.2 f (List.mem_of_mem_drop hf)⟩
theorem Short.get {fs : List (List Nat)} (h : Short fs) {i : Nat} (hi : i < fs.length) : (fs.getD i []).length ≤ 1000 := h.2 _ (by simp [List.getD, hi])
theorem cut1 (fs : List (List Nat)) (i : Nat) : List.take (((i : Nat) : Int).toNat - Int.toNat 0) (List.drop (Int.toNat 0) (framesD fs)) = framesD (fs.take i) := by
  rw [Int.toNat_natCast]
  exact frames_take fs i
theorem cut2 (fs : List (List Nat)) (i : Nat) (hi : i < fs.length) (hm : fs.length ≤ 1000) : List.take (((framesD fs).length : Int).toNat - (IntKind.i64.wrap ((i : Int) + 1)).toNat) (List.drop (IntKind.i64.wrap ((i : Int) + 1)).toNat (framesD fs)) = framesD (fs.drop (i + 1)) := by
  have h : IntKind.i64.wrap ((i : Int) + 1) = ((i + 1 : Nat) : Int) := wrap_in (by omega) (by omega)
  rw [h, Int.toNat_natCast, Int.toNat_natCast, framesD_len, List.take_of_length_le (by rw [List.length_drop, framesD_len]; exact Nat.le_refl _)]
  exact frames_drop fs (i + 1)
theorem ntake_no (fs : List (List Nat)) (n : Int) (h : ¬ (0 ≤ n ∧ n < fs.length)) : FunOK Tryz.prog 93 [Ro (framesD fs), V n] (hOf []) (.tup [Ro [], Ro [], V 5]) (hOf []) := by
  refine fun_deep (pins := []) (l0 := []) (objs := []) (base := 0) (xx_ok tabNO_ok ksNO) mixed Tryz.func93 rfl (Nat.le_of_ble_eq_true rfl) rfl rfl ?_
  have hlen := framesD_len fs
  by_cases h0 : 0 ≤ n
  · have hx : ¬ ((!decide (n < ((framesD fs).length : Int))) = false) := by rw [hlen]; simp; omega
    repeat' ((conv => whnf); first | exact trivial | (with_reducible refine ap_of ?_; kernel_rfl) | (with_reducible refine ds_of ?_; kernel_rfl) | (with_reducible refine eq_of ?_; kernel_rfl) | exact rfl | (intro h; exact absurd h (by decide)) | (intro h; exact absurd h hx) | intro _ | apply And.intro)
    all_goals first | rfl | (exfalso; simp_all; done) | (exfalso; simp_all; omega) | trace_state
  · have hx : ¬ ((decide (n ≥ 0) == true) = true) := by simp; omega
    repeat' ((conv => whnf); first | exact trivial | (with_reducible refine ap_of ?_; kernel_rfl) | (with_reducible refine ds_of ?_; kernel_rfl) | (with_reducible refine eq_of ?_; kernel_rfl) | exact rfl | (intro h; exact absurd h (by decide)) | (intro h; exact absurd h hx) | intro _ | apply And.intro)
    all_goals first | rfl | (exfalso; simp_all; done) | (exfalso; simp_all; omega) | trace_state
theorem ntake_in (fs : List (List Nat)) (i : Nat) (hi : i < fs.length) (hs : Short fs) : FunOK Tryz.prog 93 [Ro (framesD fs), V i] (hOf []) (.tup [Ro (framesD (fs.eraseIdx i)), Ro (rowB (fs.getD i [])), V 0]) (hOf []) := by
  refine fun_deep (pins := []) (l0 := []) (objs := []) (base := 0) (xx_ok tabNO_ok ksNO) mixed Tryz.func93 rfl (Nat.le_of_ble_eq_true rfl) rfl rfl ?_
  have hlen := framesD_len fs
  have h1 := hs.1
  have wi : IntKind.i64.wrap ((i : Int) + 1) = ((i + 1 : Nat) : Int) := wrap_in (by omega) (by omega)
  have hg : (framesD fs).getD i [] = [.row (rowB (fs.getD i []))] := framesD_get hi
  have hx : ¬ ((!decide ((i : Int) < ((framesD fs).length : Int))) = true) := by rw [hlen]; simp; omega
  have hx2 : ¬ ((decide ((i : Int) ≥ 0) == true) = false) := by simp
  repeat' ((conv => whnf); first | exact trivial | (with_reducible refine ap_of ?_; kernel_rfl) | (with_reducible refine ds_of ?_; kernel_rfl) | (with_reducible refine eq_of ?_; kernel_rfl) | exact rfl | (intro h; exact absurd h (by decide)) | (intro h; exact absurd h hx) | (intro h; exact absurd h hx2) | intro _ | apply And.intro)
  all_goals clear hx hx2
  all_goals first
    | exact Int.natCast_nonneg _
    | exact ⟨_, cut1 fs i, hs.take i⟩
    | exact ⟨_, cut2 fs i hi h1, hs.drop (i + 1)⟩
    | exact frame_one _ _ (by assumption)
    | rfl
    | (rw [hlen]; omega)
    | (rw [wi]; omega)
    | (rw [wi, hlen]; omega)
    | (rw [cut1, cut2 fs i hi h1, framesD_len, framesD_len, List.length_take, List.length_drop]; omega)
    | (have hm := (by assumption : _ ∈ List.take _ _)
       exact frame_one _ _ (List.mem_of_mem_drop (List.mem_of_mem_take hm)))
    | (rw [hlen, Int.toNat_natCast]; exact hi)
    | (rw [Int.toNat_natCast, hg]; first | rfl | exact Nat.le_refl _ | exact ⟨_, rfl, hs.get hi⟩)
    | (rw [cut1, cut2 fs i hi h1, Int.toNat_natCast, hg, List.eraseIdx_eq_take_drop_succ]
       rw [show framesD (fs.take i ++ fs.drop (i + 1)) = framesD (fs.take i) ++ framesD (fs.drop (i + 1)) from (R_app frameD _ _).symm]
       rfl)
    | trace_state
theorem ntake_ok (fs : List (List Nat)) (n : Int) (hs : Short fs) : FunOK Tryz.prog 93 [Ro (framesD fs), V n] (hOf []) (.tup [Ro (framesD (takeF fs n).1), Ro (rowB (takeF fs n).2.1), V (takeF fs n).2.2]) (hOf []) := by
  unfold takeF
  by_cases h : 0 ≤ n ∧ n < fs.length
  · rw [if_pos h]
    obtain ⟨i, rfl⟩ := Int.eq_ofNat_of_zero_le h.1
    have hi : i < fs.length := by omega
    exact ntake_in fs i hi hs
  · rw [if_neg h]
    exact ntake_no fs n h
def ntakeT (xs : List AV) (l0 : List (Nat × OS)) : Ans := match xs, l0 with
  | [.c (.d (.row es)), .c (.d (.int .i64 n))], [] => some (∃ fs, es = framesD fs ∧ Short fs, .tup [Ro (framesD (takeF (framesR es) n).1), Ro (rowB (takeF (framesR es) n).2.1), V (takeF (framesR es) n).2.2], [])
  | _, _ => none
theorem ntake_does : Does Tryz.prog 93 ntakeT := ⟨⟨_, Tryz.func93, by decide, rfl⟩, fun xs l0 p v objs h hp => by
  unfold ntakeT at h
  split at h
  · cases h
    obtain ⟨fs, rfl, h1⟩ := hp
    rw [framesR_rows]
    exact ntake_ok fs _ h1
  · cases h⟩
def tabNT : Canon := orT 102 nsendT tabNO
theorem tabNT_ok : Sound Tryz.prog tabNT := tabNO_ok.or nsend_does
theorem ntwice_no (fs : List (List Nat)) (n : Int) (h : ¬ (0 ≤ n ∧ n < fs.length)) : FunOK Tryz.prog 94 [Ro (framesD fs), V n] (hOf []) (.tup [Ro [], V 5]) (hOf []) := by
  refine fun_deep (pins := []) (l0 := []) (objs := []) (base := 0) (xx_ok tabNT_ok [102]) mixed Tryz.func94 rfl (Nat.le_of_ble_eq_true rfl) rfl rfl ?_
  have hlen := framesD_len fs
  by_cases h0 : 0 ≤ n
  · have hx : ¬ ((!decide (n < ((framesD fs).length : Int))) = false) := by rw [hlen]; simp; omega
    repeat' ((conv => whnf); first | exact trivial | (with_reducible refine ap_of ?_; kernel_rfl) | (with_reducible refine ds_of ?_; kernel_rfl) | (with_reducible refine eq_of ?_; kernel_rfl) | exact rfl | (intro h; exact absurd h (by decide)) | (intro h; exact absurd h hx) | intro _ | apply And.intro)
    all_goals first | rfl | (exfalso; simp_all; done) | (exfalso; simp_all; omega) | trace_state
  · have hx : ¬ ((decide (n ≥ 0) == true) = true) := by simp; omega
    repeat' ((conv => whnf); first | exact trivial | (with_reducible refine ap_of ?_; kernel_rfl) | (with_reducible refine ds_of ?_; kernel_rfl) | (with_reducible refine eq_of ?_; kernel_rfl) | exact rfl | (intro h; exact absurd h (by decide)) | (intro h; exact absurd h hx) | intro _ | apply And.intro)
    all_goals first | rfl | (exfalso; simp_all; done) | (exfalso; simp_all; omega) | trace_state
theorem ntwice_in (fs : List (List Nat)) (i : Nat) (hi : i < fs.length) (hs : Short fs) : FunOK Tryz.prog 94 [Ro (framesD fs), V i] (hOf []) (.tup [Ro (framesD (sendB fs (fs.getD i []))), V 0]) (hOf []) := by
  refine fun_deep (pins := []) (l0 := []) (objs := []) (base := 0) (xx_ok tabNT_ok [102]) mixed Tryz.func94 rfl (Nat.le_of_ble_eq_true rfl) rfl rfl ?_
  have hlen := framesD_len fs
  have hg : (framesD fs).getD i [] = [.row (rowB (fs.getD i []))] := framesD_get hi
  have hx : ¬ ((!decide ((i : Int) < ((framesD fs).length : Int))) = true) := by rw [hlen]; simp; omega
  have hx2 : ¬ ((decide ((i : Int) ≥ 0) == true) = false) := by simp
  repeat' ((conv => whnf); first | exact trivial | (with_reducible refine ap_of ?_; kernel_rfl) | (with_reducible refine ds_of ?_; kernel_rfl) | (with_reducible refine eq_of ?_; kernel_rfl) | exact rfl | (intro h; exact absurd h (by decide)) | (intro h; exact absurd h hx) | (intro h; exact absurd h hx2) | intro _ | apply And.intro)
  all_goals clear hx hx2
  all_goals try rw [Int.toNat_natCast]
  all_goals try rw [hg]
  all_goals first
    | exact Int.natCast_nonneg _
    | rfl
    | exact Nat.le_refl _
    | exact ⟨⟨_, rfl, hs⟩, _, rfl, hs.get hi⟩
    | exact ⟨_, rfl, hs⟩
    | exact ⟨_, rfl, hs.get hi⟩
    | (rw [hlen]; omega)
    | (rw [framesR_rows]; show AV.tup [Ro (framesD (sendB fs (bytesR (rowB (fs.getD i []))))), V 0] = _; rw [bytesR_rows])
    | trace_state
def twiceF (fs : List (List Nat)) (n : Int) : List (List Nat) × Int := if 0 ≤ n ∧ n < fs.length then (sendB fs (fs.getD n.toNat []), 0) else ([], 5)
theorem ntwice_ok (fs : List (List Nat)) (n : Int) (hs : Short fs) : FunOK Tryz.prog 94 [Ro (framesD fs), V n] (hOf []) (.tup [Ro (framesD (twiceF fs n).1), V (twiceF fs n).2]) (hOf []) := by
  unfold twiceF
  by_cases h : 0 ≤ n ∧ n < fs.length
  · rw [if_pos h]
    obtain ⟨i, rfl⟩ := Int.eq_ofNat_of_zero_le h.1
    have hi : i < fs.length := by omega
    exact ntwice_in fs i hi hs
  · rw [if_neg h]
    exact ntwice_no fs n h
def ntwiceT (xs : List AV) (l0 : List (Nat × OS)) : Ans := match xs, l0 with
  | [.c (.d (.row es)), .c (.d (.int .i64 n))], [] => some (∃ fs, es = framesD fs ∧ Short fs, .tup [Ro (framesD (twiceF (framesR es) n).1), V (twiceF (framesR es) n).2], [])
  | _, _ => none
theorem ntwice_does : Does Tryz.prog 94 ntwiceT := ⟨⟨_, Tryz.func94, by decide, rfl⟩, fun xs l0 p v objs h hp => by
  unfold ntwiceT at h
  split at h
  · cases h
    obtain ⟨fs, rfl, h1⟩ := hp
    rw [framesR_rows]
    exact ntwice_ok fs _ h1
  · cases h⟩
end Go.Proofs.YtpgeopefamomnaeGreat

namespace Go.Proofs.YtpgeopefamomnaeGreat
open Go.RowKit
set_option linter.unusedVariables false
set_option linter.unusedSimpArgs false
set_option maxRecDepth 100000
def spoilF (fs : List (List Nat)) (n bit : Int) : List (List Nat) × Int := if 0 ≤ n ∧ n < fs.length then (if 0 ≤ bit ∧ bit < 8 * ((fs.getD n.toNat []).length : Int) then (fs.set n.toNat (turnF (fs.getD n.toNat []) bit), 0) else ([], 3)) else ([], 5)
def tabNU : Canon := orT 112 turnedT tabNO
theorem tabNU_ok : Sound Tryz.prog tabNU := tabNO_ok.or fturn_does
def ksNU : List FuncId := [112, 78, 70]
set_option maxHeartbeats 4000000
theorem nspoil_no (fs : List (List Nat)) (n bit : Int) (h : ¬ (0 ≤ n ∧ n < fs.length)) : FunOK Tryz.prog 95 [Ro (framesD fs), V n, V bit] (hOf []) (.tup [Ro [], V 5]) (hOf []) := by
  refine fun_deep (pins := []) (l0 := []) (objs := []) (base := 0) (xx_ok tabNU_ok ksNU) mixed Tryz.func95 rfl (Nat.le_of_ble_eq_true rfl) rfl rfl ?_
  have hlen := framesD_len fs
  by_cases h0 : 0 ≤ n
  · have hx : ¬ ((!decide (n < ((framesD fs).length : Int))) = false) := by rw [hlen]; simp; omega
    repeat' ((conv => whnf); first | exact trivial | (with_reducible refine ap_of ?_; kernel_rfl) | (with_reducible refine ds_of ?_; kernel_rfl) | (with_reducible refine eq_of ?_; kernel_rfl) | exact rfl | (intro h; exact absurd h (by decide)) | (intro h; exact absurd h hx) | intro _ | apply And.intro)
    all_goals first | rfl | (exfalso; simp_all; done) | (exfalso; simp_all; omega) | trace_state
  · have hx : ¬ ((decide (n ≥ 0) == true) = true) := by simp; omega
    repeat' ((conv => whnf); first | exact trivial | (with_reducible refine ap_of ?_; kernel_rfl) | (with_reducible refine ds_of ?_; kernel_rfl) | (with_reducible refine eq_of ?_; kernel_rfl) | exact rfl | (intro h; exact absurd h (by decide)) | (intro h; exact absurd h hx) | intro _ | apply And.intro)
    all_goals first | rfl | (exfalso; simp_all; done) | (exfalso; simp_all; omega) | trace_state
theorem nspoil_out (fs : List (List Nat)) (i : Nat) (bit : Int) (hi : i < fs.length) (h : ¬ (0 ≤ bit ∧ bit < 8 * ((fs.getD i []).length : Int))) (hb1 : bit < 9223372036854775808) : FunOK Tryz.prog 95 [Ro (framesD fs), V i, V bit] (hOf []) (.tup [Ro [], V 3]) (hOf []) := by
  refine fun_deep (pins := []) (l0 := []) (objs := []) (base := 0) (xx_ok tabNU_ok ksNU) mixed Tryz.func95 rfl (Nat.le_of_ble_eq_true rfl) rfl rfl ?_
  have hlen := framesD_len fs
  have hg : (framesD fs).getD i [] = [.row (rowB (fs.getD i []))] := framesD_get hi
  have hx : ¬ ((!decide ((i : Int) < ((framesD fs).length : Int))) = true) := by rw [hlen]; simp; omega
  have hx2 : ¬ ((decide ((i : Int) ≥ 0) == true) = false) := by simp
  by_cases h0 : 0 ≤ bit
  · have wq : IntKind.i64.wrap (bit.tdiv 8) = bit / 8 := by
      rw [Int.tdiv_eq_ediv_of_nonneg h0, wrap_in (by omega) (by omega)]
    have hx3 : ¬ ((!decide (IntKind.i64.wrap (bit.tdiv 8) < ((((framesD fs).getD ((i : Nat) : Int).toNat []).getD 0 dz).toR.length : Int))) = false) := by
      rw [wq, Int.toNat_natCast, hg]
      show ¬ ((!decide (bit / 8 < ((rowB (fs.getD i [])).length : Int))) = false)
      rw [rowB_len, decide_eq_false (by omega)]
      decide
    repeat' ((conv => whnf); first | exact trivial | (with_reducible refine ap_of ?_; kernel_rfl) | (with_reducible refine ds_of ?_; kernel_rfl) | (with_reducible refine eq_of ?_; kernel_rfl) | exact rfl | (intro h; exact absurd h (by decide)) | (intro h; exact absurd h hx) | (intro h; exact absurd h hx2) | (intro h; exact absurd h hx3) | intro _ | apply And.intro)
    all_goals clear hx hx2 hx3
    all_goals first
      | exact Int.natCast_nonneg _
      | rfl
      | (rw [hlen]; omega)
      | (rw [hlen, Int.toNat_natCast]; exact hi)
      | (rw [Int.toNat_natCast, hg]; first | rfl | exact Nat.le_refl _)
      | (exfalso; simp_all; done)
      | (exfalso; simp_all; omega)
      | trace_state
  · have hx3 : ¬ ((decide (bit ≥ 0) == true) = true) := by simp; omega
    repeat' ((conv => whnf); first | exact trivial | (with_reducible refine ap_of ?_; kernel_rfl) | (with_reducible refine ds_of ?_; kernel_rfl) | (with_reducible refine eq_of ?_; kernel_rfl) | exact rfl | (intro h; exact absurd h (by decide)) | (intro h; exact absurd h hx) | (intro h; exact absurd h hx2) | (intro h; exact absurd h hx3) | intro _ | apply And.intro)
    all_goals clear hx hx2 hx3
    all_goals first
      | exact Int.natCast_nonneg _
      | rfl
      | (rw [hlen]; omega)
      | (rw [hlen, Int.toNat_natCast]; exact hi)
      | (rw [Int.toNat_natCast, hg]; first | rfl | exact Nat.le_refl _)
      | (exfalso; simp_all; done)
      | (exfalso; simp_all; omega)
      | trace_state
theorem nspoil_in (fs : List (List Nat)) (i : Nat) (bit : Int) (hi : i < fs.length) (hs : Short fs) (hb : isBytes (fs.getD i [])) (h0 : 0 ≤ bit) (h1 : bit < 8 * ((fs.getD i []).length : Int)) : FunOK Tryz.prog 95 [Ro (framesD fs), V i, V bit] (hOf []) (.tup [Ro (framesD (fs.set i (turnF (fs.getD i []) bit))), V 0]) (hOf []) := by
  refine fun_deep (pins := []) (l0 := []) (objs := []) (base := 0) (xx_ok tabNU_ok ksNU) mixed Tryz.func95 rfl (Nat.le_of_ble_eq_true rfl) rfl rfl ?_
  have hlen := framesD_len fs
  have hgl := hs.get hi
  have hg : (framesD fs).getD i [] = [.row (rowB (fs.getD i []))] := framesD_get hi
  have hx : ¬ ((!decide ((i : Int) < ((framesD fs).length : Int))) = true) := by rw [hlen]; simp; omega
  have hx2 : ¬ ((decide ((i : Int) ≥ 0) == true) = false) := by simp
  have wq : IntKind.i64.wrap (bit.tdiv 8) = bit / 8 := by
    rw [Int.tdiv_eq_ediv_of_nonneg h0, wrap_in (by omega) (by omega)]
  have hx3 : ¬ ((!decide (IntKind.i64.wrap (bit.tdiv 8) < ((((framesD fs).getD ((i : Nat) : Int).toNat []).getD 0 dz).toR.length : Int))) = true) := by
    rw [wq, Int.toNat_natCast, hg]
    show ¬ ((!decide (bit / 8 < ((rowB (fs.getD i [])).length : Int))) = true)
    rw [rowB_len, decide_eq_true (by omega)]
    decide
  have hx4 : ¬ ((decide (bit ≥ 0) == true) = false) := by simp; omega
  repeat' ((conv => whnf); first | exact trivial | (with_reducible refine ap_of ?_; kernel_rfl) | (with_reducible refine ds_of ?_; kernel_rfl) | (with_reducible refine eq_of ?_; kernel_rfl) | exact rfl | (intro h; exact absurd h (by decide)) | (intro h; exact absurd h hx) | (intro h; exact absurd h hx2) | (intro h; exact absurd h hx3) | (intro h; exact absurd h hx4) | intro _ | apply And.intro)
  all_goals clear hx hx2 hx3 hx4
  all_goals try simp only [Int.toNat_natCast, hg] at *
  all_goals first
    | exact Int.natCast_nonneg _
    | rfl
    | exact Nat.le_refl _
    | exact ⟨_, rfl, hs⟩
    | exact ⟨_, rfl, hb, hgl, h0, by omega⟩
    | (rw [hlen]; omega)
    | (rw [hlen]; exact hi)
    | exact hi
    | omega
    | (show AV.tup [Ro ((framesD fs).set i [.row (rowB (turnF (bytesR (rowB (fs.getD i []))) bit))]), V 0] = _
       rw [bytesR_rows]
       have key := R_set frameD fs i (turnF (fs.getD i []) bit)
       exact congrArg (fun r => AV.tup [Ro r, V 0]) key)
    | trace_state
theorem nspoil_ok (fs : List (List Nat)) (n bit : Int) (hs : Short fs) (hb : ∀ f ∈ fs, isBytes f) (hb1 : bit < 9223372036854775808) : FunOK Tryz.prog 95 [Ro (framesD fs), V n, V bit] (hOf []) (.tup [Ro (framesD (spoilF fs n bit).1), V (spoilF fs n bit).2]) (hOf []) := by
  unfold spoilF
  by_cases h : 0 ≤ n ∧ n < fs.length
  · rw [if_pos h]
    obtain ⟨i, rfl⟩ := Int.eq_ofNat_of_zero_le h.1
    have hi : i < fs.length := by omega
    rw [Int.toNat_natCast]
    by_cases h2 : 0 ≤ bit ∧ bit < 8 * ((fs.getD i []).length : Int)
    · rw [if_pos h2]
      exact nspoil_in fs i bit hi hs (hb _ (by simp [List.getD, hi])) h2.1 h2.2
    · rw [if_neg h2]
      exact nspoil_out fs i bit hi h2 hb1
  · rw [if_neg h]
    exact nspoil_no fs n bit h
def nspoilT (xs : List AV) (l0 : List (Nat × OS)) : Ans := match xs, l0 with
  | [.c (.d (.row es)), .c (.d (.int .i64 n)), .c (.d (.int .i64 bit))], [] => some (∃ fs, es = framesD fs ∧ Short fs ∧ (∀ f ∈ fs, isBytes f) ∧ bit < 9223372036854775808, .tup [Ro (framesD (spoilF (framesR es) n bit).1), V (spoilF (framesR es) n bit).2], [])
  | _, _ => none
theorem nspoil_does : Does Tryz.prog 95 nspoilT := ⟨⟨_, Tryz.func95, by decide, rfl⟩, fun xs l0 p v objs h hp => by
  unfold nspoilT at h
  split at h
  · cases h
    obtain ⟨fs, rfl, h1, h2, h3⟩ := hp
    rw [framesR_rows]
    exact nspoil_ok fs _ _ h1 h2 h3
  · cases h⟩
end Go.Proofs.YtpgeopefamomnaeGreat

namespace Go.Proofs.YtpgeopefamomnaeGreat
open Go.RowKit
set_option linter.unusedVariables false
set_option linter.unusedSimpArgs false
set_option maxRecDepth 100000
theorem short_way {fs : List (List Nat)} (h : Short fs) (h4 : fs.length ≤ 40) (ms : List Msg) : Short (wayF fs ms) := by
  refine ⟨Nat.le_trans (len_way h4) (by decide), fun f hf => ?_⟩
  rcases mem_way hf with h1 | ⟨m, _, rfl⟩
  · exact h.2 f h1
  · rw [bytesF_length]; decide
def actK (CR HR FR : Row) (dc : CV) : List (Nat × OS) := [(0, .live (.box [.own 1, .d (.row HR), .d (.row FR), dc] 133)), (1, .live (.row CR 4 49 false))]
abbrev rcvA : AV := .c (.ptr 0 0 0 4)
def tabSe : Canon := orT 103 bytesT (orT 102 nsendT tab0)
theorem tabSe_ok : Sound Tryz.prog tabSe := (tab0_ok.or nsend_does).or fbytes_does
def ksSe : List FuncId := [103, 102]
set_option maxHeartbeats 4000000 in
theorem sendN_ok (CR HR : Row) (fs : List (List Nat)) (ms : List Msg) (hf : ∀ k, k < ms.length → Fit (ms.getD k msg0)) (hs : Short fs) (h4 : fs.length ≤ 40) (hm : ms.length ≤ 1000) : FunOK Tryz.prog 90 [rcvA, Ro (R msgD ms)] (hOf (actK CR HR (framesD fs) .nils)) (.tup []) (hOf (actK CR HR (framesD (wayF fs ms)) .nils)) := by
  refine fun_can (pins := [0, 1]) (l0 := [(0, .live (.box [.own 1, .d (.row HR), .d (.row (framesD fs)), .nils] 133)), (1, .live (.row CR 4 49 false))]) (objs := _) (base := 2) (xx_ok tabSe_ok ksSe) mixed Tryz.func90 rfl (Nat.le_of_ble_eq_true rfl) rfl rfl ?_
  repeat' ((conv => whnf); first | exact trivial | (with_reducible refine ap_of ?_; kernel_rfl) | (with_reducible refine ds_of ?_; kernel_rfl) | (with_reducible refine eq_of ?_; kernel_rfl) | exact rfl | (intro h; exact absurd h (by decide)) | intro _ | apply And.intro)
  refine loop_keep [0, 6] 40 [] {k : Nat // k ≤ ms.length} (fun k => [(7, V ms.length), (8, V k.1)]) (fun k => [(0, .live (.box [.own 1, .d (.row HR), .d (.row (framesD (wayF fs (ms.take k.1)))), .nils] 133)), (1, .live (.row CR 4 49 false))]) (fun k => ms.length - k.1) ⟨0, Nat.zero_le _⟩ ?_
  (conv => whnf)
  refine ⟨?_, ?_⟩
  · repeat' ((conv => whnf); first | exact trivial | exact rfl | apply And.intro)
    all_goals first | exact int_eq (show ((R msgD ms).length : Int) = ms.length by rw [R_len]) | trace_state
  · rintro ⟨k, hk⟩
    have hgt : ∀ {k}, k < ms.length → (R msgD ms).getD k [] = msgD (ms.getD k msg0) := fun h => R_get msgD msg0 h
    have hsw := short_way hs h4 (ms.take k)
    repeat' ((conv => whnf); first | exact trivial | (with_reducible refine ap_of ?_; kernel_rfl) | (with_reducible refine ds_of ?_; kernel_rfl) | (with_reducible refine eq_of ?_; kernel_rfl) | exact rfl | (intro h; exact absurd h (by decide)) | intro _ | apply And.intro)
    all_goals first
      | (have hlt : k < ms.length := (by have := k_lt (k := k) (n := ms.length) (by assumption); omega)
         first
           | first | exact Int.natCast_nonneg _ | (rw [R_len]; exact Int.ofNat_lt.2 (show (k : Nat) < _ from hlt)) | (rw [show ∀ n : Nat, ((n : Nat) : Int).toNat = n from Int.toNat_natCast, hgt hlt]; first | rfl | exact Nat.le_refl _) | (rw [show ∀ n : Nat, ((n : Nat) : Int).toNat = n from Int.toNat_natCast, R_len]; exact hlt)
           | rfl
           | (rw [show ∀ n : Nat, ((n : Nat) : Int).toNat = n from Int.toNat_natCast, hgt hlt]; exact hf k hlt)
           | exact ⟨⟨_, rfl, hsw⟩, _, rfl, by rw [bytesF_length]; decide⟩
           | exact ⟨_, rfl, hsw⟩
           | exact ⟨_, rfl, by rw [bytesF_length]; decide⟩
           | ((conv => whnf)
              refine ⟨⟨k + 1, hlt⟩, [], ?_, ?_⟩
              · show ms.length - (k + 1) < ms.length - k
                omega
              · repeat' ((conv => whnf); first | exact trivial | exact rfl | apply And.intro)
                all_goals first
                  | exact succ_eq k (by omega)
                  | (refine congrArg (fun fs => OS.live (.box [.own 1, .d (.row HR), .d (.row fs), .nils] 133)) (?_ : _ = framesD (wayF fs (ms.take (k + 1))))
                     rw [way_step fs msg0 hlt, show ∀ n : Nat, ((n : Nat) : Int).toNat = n from Int.toNat_natCast, hgt hlt, framesR_rows, bytesR_rows]
                     rfl)
                  | trace_state)
           | trace_state)
      | (have hke : k = ms.length := (by have := k_ge (k := k) (n := ms.length) (by assumption); omega)
         subst hke
         first
           | rfl
           | (rw [List.take_length]; rfl)
           | (show actK CR HR (framesD (wayF fs (ms.take ms.length))) .nils = _; rw [List.take_length])
           | trace_state)
      | trace_state
set_option maxHeartbeats 4000000 in
theorem sendD_ok (CR HR : Row) (dr : Row) (fs : List (List Nat)) (ms : List Msg) (hf : ∀ k, k < ms.length → Fit (ms.getD k msg0)) (hs : Short fs) (h4 : fs.length ≤ 40) (hm : ms.length ≤ 1000) : FunOK Tryz.prog 90 [rcvA, Ro (R msgD ms)] (hOf (actK CR HR (framesD fs) (.d (.row dr)))) (.tup []) (hOf (actK CR HR (framesD (wayF fs ms)) (.d (.row dr)))) := by
  refine fun_can (pins := [0, 1]) (l0 := [(0, .live (.box [.own 1, .d (.row HR), .d (.row (framesD fs)), (.d (.row dr))] 133)), (1, .live (.row CR 4 49 false))]) (objs := _) (base := 2) (xx_ok tabSe_ok ksSe) mixed Tryz.func90 rfl (Nat.le_of_ble_eq_true rfl) rfl rfl ?_
  repeat' ((conv => whnf); first | exact trivial | (with_reducible refine ap_of ?_; kernel_rfl) | (with_reducible refine ds_of ?_; kernel_rfl) | (with_reducible refine eq_of ?_; kernel_rfl) | exact rfl | (intro h; exact absurd h (by decide)) | intro _ | apply And.intro)
  refine loop_keep [0, 6] 40 [] {k : Nat // k ≤ ms.length} (fun k => [(7, V ms.length), (8, V k.1)]) (fun k => [(0, .live (.box [.own 1, .d (.row HR), .d (.row (framesD (wayF fs (ms.take k.1)))), (.d (.row dr))] 133)), (1, .live (.row CR 4 49 false))]) (fun k => ms.length - k.1) ⟨0, Nat.zero_le _⟩ ?_
  (conv => whnf)
  refine ⟨?_, ?_⟩
  · repeat' ((conv => whnf); first | exact trivial | exact rfl | apply And.intro)
    all_goals first | exact int_eq (show ((R msgD ms).length : Int) = ms.length by rw [R_len]) | trace_state
  · rintro ⟨k, hk⟩
    have hgt : ∀ {k}, k < ms.length → (R msgD ms).getD k [] = msgD (ms.getD k msg0) := fun h => R_get msgD msg0 h
    have hsw := short_way hs h4 (ms.take k)
    repeat' ((conv => whnf); first | exact trivial | (with_reducible refine ap_of ?_; kernel_rfl) | (with_reducible refine ds_of ?_; kernel_rfl) | (with_reducible refine eq_of ?_; kernel_rfl) | exact rfl | (intro h; exact absurd h (by decide)) | intro _ | apply And.intro)
    all_goals first
      | (have hlt : k < ms.length := (by have := k_lt (k := k) (n := ms.length) (by assumption); omega)
         first
           | first | exact Int.natCast_nonneg _ | (rw [R_len]; exact Int.ofNat_lt.2 (show (k : Nat) < _ from hlt)) | (rw [show ∀ n : Nat, ((n : Nat) : Int).toNat = n from Int.toNat_natCast, hgt hlt]; first | rfl | exact Nat.le_refl _) | (rw [show ∀ n : Nat, ((n : Nat) : Int).toNat = n from Int.toNat_natCast, R_len]; exact hlt)
           | rfl
           | (rw [show ∀ n : Nat, ((n : Nat) : Int).toNat = n from Int.toNat_natCast, hgt hlt]; exact hf k hlt)
           | exact ⟨⟨_, rfl, hsw⟩, _, rfl, by rw [bytesF_length]; decide⟩
           | exact ⟨_, rfl, hsw⟩
           | exact ⟨_, rfl, by rw [bytesF_length]; decide⟩
           | ((conv => whnf)
              refine ⟨⟨k + 1, hlt⟩, [], ?_, ?_⟩
              · show ms.length - (k + 1) < ms.length - k
                omega
              · repeat' ((conv => whnf); first | exact trivial | exact rfl | apply And.intro)
                all_goals first
                  | exact succ_eq k (by omega)
                  | (refine congrArg (fun fs => OS.live (.box [.own 1, .d (.row HR), .d (.row fs), (.d (.row dr))] 133)) (?_ : _ = framesD (wayF fs (ms.take (k + 1))))
                     rw [way_step fs msg0 hlt, show ∀ n : Nat, ((n : Nat) : Int).toNat = n from Int.toNat_natCast, hgt hlt, framesR_rows, bytesR_rows]
                     rfl)
                  | trace_state)
           | trace_state)
      | (have hke : k = ms.length := (by have := k_ge (k := k) (n := ms.length) (by assumption); omega)
         subst hke
         first
           | rfl
           | (rw [List.take_length]; rfl)
           | (show actK CR HR (framesD (wayF fs (ms.take ms.length))) (.d (.row dr)) = _; rw [List.take_length])
           | trace_state)
      | trace_state
def sendAT (xs : List AV) (l0 : List (Nat × OS)) : Ans := match xs, l0 with
  | [.c (.ptr 0 0 0 4), .c (.d (.row ms))], [(0, .live (.box [.own 1, .d (.row HR), .d (.row FR), dc] 133)), (1, .live (.row CR 4 49 false))] => match dc with
    | .nils => some ((∃ fs, FR = framesD fs ∧ Short fs ∧ fs.length ≤ 40) ∧ ∃ M, ms = R msgD M ∧ (∀ k, k < M.length → Fit (M.getD k msg0)) ∧ M.length ≤ 1000, .tup [], actK CR HR (framesD (wayF (framesR FR) (msgsR ms))) .nils)
    | .d (.row dr) => some ((∃ fs, FR = framesD fs ∧ Short fs ∧ fs.length ≤ 40) ∧ ∃ M, ms = R msgD M ∧ (∀ k, k < M.length → Fit (M.getD k msg0)) ∧ M.length ≤ 1000, .tup [], actK CR HR (framesD (wayF (framesR FR) (msgsR ms))) (.d (.row dr)))
    | _ => none
  | _, _ => none
theorem sendA_does : Does Tryz.prog 90 sendAT := ⟨⟨_, Tryz.func90, by decide, rfl⟩, fun xs l0 p v objs h hp => by
  unfold sendAT at h
  split at h
  · split at h
    · cases h
      obtain ⟨⟨fs, rfl, h1, h2⟩, M, rfl, h3, h4⟩ := hp
      rw [framesR_rows, msgsR_rows]
      exact sendN_ok _ _ fs M h3 h1 h2 h4
    · cases h
      obtain ⟨⟨fs, rfl, h1, h2⟩, M, rfl, h3, h4⟩ := hp
      rw [framesR_rows, msgsR_rows]
      exact sendD_ok _ _ _ fs M h3 h1 h2 h4
    · cases h
  · cases h⟩
end Go.Proofs.YtpgeopefamomnaeGreat

