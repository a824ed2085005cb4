/- DRef8 DRef10 DRef11 DRef9. -/
import Derived.Test.YtpgeopefamomnaeGreatRD
import Derived.Test.YtpgeopefamomnaeGreatPA
import Derived.Test.YtpgeopefamomnaeGreatPG
set_option linter.unusedSimpArgs false
set_option linter.unusedSectionVars false
namespace Go.Proofs.YtpgeopefamomnaeGreat
open Go.RowKit
set_option linter.unusedVariables false
set_option maxRecDepth 100000
def Vb (b : Bool) : AV := .c (.d (.bool b))
theorem bool_eq {x y : Bool} (h : x = y) : Vb x = Vb y := by rw [h]
theorem half (s : Int) (hs : 0 ≤ s) (hs2 : s < 65536) (k : Nat) : IntKind.i64.wrap ((s / 2 ^ k).tdiv 2) = s / 2 ^ (k + 1) ∧ 0 ≤ s / 2 ^ k ∧ s / 2 ^ k < 65536 := by
  have h0 : 0 ≤ s / 2 ^ k := Int.ediv_nonneg hs (Int.pow_nonneg (by decide))
  have h1 : s / 2 ^ k ≤ s := Int.ediv_le_self _ hs
  refine ⟨?_, h0, by omega⟩
  rw [Int.tdiv_eq_ediv_of_nonneg h0, wrap_in (by omega) (by omega), Int.pow_succ, Int.ediv_ediv_of_nonneg (Int.pow_nonneg (by decide))]
set_option maxHeartbeats 4000000 in
theorem rhas_ok (s : Int) (hs : 0 ≤ s) (hs2 : s < 65536) (n : Nat) (hn : n < 60) (r : Bool) (hr : hasF s n = r) : FunOK Tryz.prog 60 [V s, V (n : Nat)] (hOf []) (Vb r) (hOf []) := by
  refine fun_deep (pins := []) (l0 := []) (objs := []) (base := 0) (xx_ok tab0_ok []) mixed Tryz.func60 rfl (Nat.le_of_ble_eq_true rfl) rfl rfl ?_
  repeat' ((conv => whnf); first | exact trivial | (with_reducible refine ap_of ?_; kernel_rfl) | (with_reducible refine ds_of ?_; kernel_rfl) | (with_reducible refine eq_of ?_; kernel_rfl) | exact rfl | (intro h; exact absurd h (by decide)) | intro _ | apply And.intro)
  refine loop_keep [4] 8 [] {k : Nat // k ≤ n} (fun k => [(0, V (s / 2 ^ k.1)), (5, V (n : Nat)), (6, V k.1)]) (fun k => []) (fun k => n - k.1) ⟨0, Nat.zero_le _⟩ ?_
  (conv => whnf)
  refine ⟨?_, ?_⟩
  · repeat' ((conv => whnf); first | exact trivial | exact rfl | apply And.intro)
    exact int_eq (show s = s / 2 ^ 0 by simp)
  · rintro ⟨k, hk⟩
    repeat' ((conv => whnf); first | exact trivial | (with_reducible refine ap_of ?_; kernel_rfl) | (with_reducible refine ds_of ?_; kernel_rfl) | (with_reducible refine eq_of ?_; kernel_rfl) | exact rfl | (intro h; exact absurd h (by decide)) | intro _ | apply And.intro)
    all_goals first
      | rfl
      | (have hlt : k < n := (by have := k_lt (k := k) (n := n) (by assumption); omega)
         (conv => whnf)
         refine ⟨⟨k + 1, hlt⟩, [], ?_, ?_⟩
         · show n - (k + 1) < n - k
           omega
         · repeat' ((conv => whnf); first | exact trivial | exact rfl | apply And.intro)
           · exact int_eq (half s hs hs2 k).1
           · exact succ_eq k (by omega))
      | (have hke : k = n := (by have := k_ge (k := k) (n := n) (by assumption); omega)
         subst hke
         rw [← hr]
         refine bool_eq ?_
         unfold hasF
         rw [show ((s / 2 ^ k).tmod 2) = s / 2 ^ k % 2 from Int.tmod_eq_emod_of_nonneg (half s hs hs2 k).2.1]
         exact (Bool.beq_eq_decide_eq _ _))
theorem twice (k : Nat) (h : k < 60) : IntKind.i64.wrap (2 * bitF k) = bitF (k + 1) := by
  unfold bitF
  have h1 : (2 : Int) ^ k ≤ 2 ^ 59 := by
    have := Nat.pow_le_pow_right (n := 2) (by decide) (show k ≤ 59 by omega)
    exact_mod_cast this
  have h2 : (0 : Int) ≤ 2 ^ k := Int.pow_nonneg (by decide)
  rw [wrap_in (by omega) (by omega), Int.pow_succ]
  omega
set_option maxHeartbeats 4000000 in
theorem rbit_ok (n : Nat) (hn : n < 60) : FunOK Tryz.prog 65 [V (n : Nat)] (hOf []) (V (bitF n)) (hOf []) := by
  refine fun_deep (pins := []) (l0 := []) (objs := []) (base := 0) (xx_ok tab0_ok []) mixed Tryz.func65 rfl (Nat.le_of_ble_eq_true rfl) rfl rfl ?_
  repeat' ((conv => whnf); first | exact trivial | (with_reducible refine ap_of ?_; kernel_rfl) | (with_reducible refine ds_of ?_; kernel_rfl) | (with_reducible refine eq_of ?_; kernel_rfl) | exact rfl | (intro h; exact absurd h (by decide)) | intro _ | apply And.intro)
  refine loop_keep [2] 8 [] {k : Nat // k ≤ n} (fun k => [(3, V (bitF k.1)), (4, V (n : Nat)), (5, V k.1)]) (fun k => []) (fun k => n - k.1) ⟨0, Nat.zero_le _⟩ ?_
  (conv => whnf)
  refine ⟨?_, ?_⟩
  · repeat' ((conv => whnf); first | exact trivial | exact rfl | apply And.intro)
    all_goals exact int_eq rfl
  · rintro ⟨k, hk⟩
    repeat' ((conv => whnf); first | exact trivial | (with_reducible refine ap_of ?_; kernel_rfl) | (with_reducible refine ds_of ?_; kernel_rfl) | (with_reducible refine eq_of ?_; kernel_rfl) | exact rfl | (intro h; exact absurd h (by decide)) | intro _ | apply And.intro)
    all_goals first
      | rfl
      | (have hlt : k < n := (by have := k_lt (k := k) (n := n) (by assumption); omega)
         (conv => whnf)
         refine ⟨⟨k + 1, hlt⟩, [], ?_, ?_⟩
         · show n - (k + 1) < n - k
           omega
         · repeat' ((conv => whnf); first | exact trivial | exact rfl | apply And.intro)
           · exact int_eq (twice k (by omega))
           · exact succ_eq k (by omega))
      | (have hke : k = n := (by have := k_ge (k := k) (n := n) (by assumption); omega)
         subst hke
         rfl)
end Go.Proofs.YtpgeopefamomnaeGreat

namespace Go.Proofs.YtpgeopefamomnaeGreat
open Go.RowKit
set_option linter.unusedVariables false
set_option maxRecDepth 100000
/-- An entry's cells; its last row by itself (most functions pass it on). -/
def entR (e : SEntry) (es : Row) : List CV := [I e.value, I e.owner, I e.sharers, I e.phase, I e.forr, I e.serial, .d (.bool e.alone), I e.turn, I e.need, .d (.row es)]
def entD (e : SEntry) : List DV := [J e.value, J e.owner, J e.sharers, J e.phase, J e.forr, J e.serial, .bool e.alone, J e.turn, J e.need, .row (rowsI e.last)]
def hasT (xs : List AV) (l0 : List (Nat × OS)) : Ans := match xs, l0 with
  | [.c (.d (.int .i64 s)), .c (.d (.int .i64 k))], [] => some ((0 ≤ s ∧ s < 65536) ∧ 0 ≤ k ∧ k < 60, Vb (hasF s k.toNat), [])
  | _, _ => none
theorem has_does : Does Tryz.prog 60 hasT := ⟨⟨_, Tryz.func60, by decide, rfl⟩, fun xs l0 p v objs h hp => by
  unfold hasT at h
  split at h
  · cases h
    obtain ⟨⟨h1, h2⟩, h3, h4⟩ := hp
    obtain ⟨n, rfl⟩ := Int.eq_ofNat_of_zero_le h3
    exact rhas_ok _ h1 h2 n (by omega) _ rfl
  · cases h⟩
def bitT (xs : List AV) (l0 : List (Nat × OS)) : Ans := match xs, l0 with
  | [.c (.d (.int .i64 k))], [] => some (0 ≤ k ∧ k < 60, V (bitF k.toNat), [])
  | _, _ => none
theorem bit_does : Does Tryz.prog 65 bitT := ⟨⟨_, Tryz.func65, by decide, rfl⟩, fun xs l0 p v objs h hp => by
  unfold bitT at h
  split at h
  · cases h
    obtain ⟨h3, h4⟩ := hp
    obtain ⟨n, rfl⟩ := Int.eq_ofNat_of_zero_le h3
    exact rbit_ok n (by omega)
  · cases h⟩
def tabH : Canon := orT 65 bitT (orT 60 hasT tab0)
theorem tabH_ok : Sound Tryz.prog tabH := (tab0_ok.or has_does).or bit_does
def clr (e : SEntry) (line id : Int) (k : Nat) : List Msg := ((List.range k).filter (fun p => hasF e.need p)).map (fun p => saysTo e line id 4 (p : Nat))
theorem clr_step (e : SEntry) (line id : Int) (k : Nat) : clr e line id (k + 1) = clr e line id k ++ (if hasF e.need k = true then [saysTo e line id 4 (k : Nat)] else []) := by
  unfold clr
  rw [List.range_succ, List.filter_append, List.map_append]
  congr 1
  by_cases h : hasF e.need k = true <;> simp [h]
theorem clr_len (e : SEntry) (line id : Int) (k : Nat) : (clr e line id k).length ≤ k := by
  unfold clr
  rw [List.length_map]
  have := List.length_filter_le (fun p => hasF e.need p) (List.range k)
  rw [List.length_range] at this
  exact this
set_option maxHeartbeats 4000000 in
theorem rsays_ok (e : SEntry) (es : Row) (line id : Int) (hn : 0 ≤ e.need ∧ e.need < 65536) (r : List Msg) (hr : saysF e line id = r) : FunOK Tryz.prog 39 [.agg (entR e es), V line, V id] (hOf []) (Ro (R msgD r)) (hOf []) := by
  refine fun_deep (pins := []) (l0 := []) (objs := []) (base := 0) (xx_ok tabH_ok [60, 65]) mixed Tryz.func39 rfl (Nat.le_of_ble_eq_true rfl) rfl rfl ?_
  repeat' ((conv => whnf); first | exact trivial | (with_reducible refine ap_of ?_; kernel_rfl) | (with_reducible refine ds_of ?_; kernel_rfl) | (with_reducible refine eq_of ?_; kernel_rfl) | exact rfl | (intro h; exact absurd h (by decide)) | intro _ | apply And.intro)
  all_goals first
    | rfl
    | (simp; done)
    | (refine len_set1 (by assumption) ?_; rfl)
    | (have h1 : e.phase = 1 := by simp_all
       unfold saysF at hr
       rw [if_pos h1] at hr
       subst hr
       first
         | (rw [show e.alone = true by assumption]; rfl)
         | (rw [show e.alone = false by assumption]; rfl))
    | (have h1 : ¬ e.phase = 1 := by simp_all
       have h2 : ¬ e.phase = 2 := by simp_all
       have h3 : e.phase = 3 := by simp_all
       unfold saysF at hr
       rw [if_neg h1, if_neg h2, if_pos h3] at hr
       subst hr
       rfl)
    | (have h1 : ¬ e.phase = 1 := by simp_all
       have h2 : ¬ e.phase = 2 := by simp_all
       have h3 : ¬ e.phase = 3 := by simp_all
       unfold saysF at hr
       rw [if_neg h1, if_neg h2, if_neg h3] at hr
       subst hr
       rfl)
    | skip
  · refine loop_keep [3, 6, 8] 12 [(1, ?_)] {x : Nat × Int × Int // x.1 ≤ 4} (fun x => [(7, .c (.own 1)), (32, V x.1.1)]) (fun x => [(0, .live (.box (entR e es) 54)), (8, .live (.row [] 8 98 false)), (2040, .live (.box [I x.1.2.1, I id, I x.1.2.2, I line, I 0, I e.turn, I 0, .d (.bool false)] 98)), (1, .live (.row (R msgD (clr e line id x.1.1)) 8 98 false))]) (fun x => 4 - x.1.1) ⟨(0, 0, 0), Nat.zero_le _⟩ ?_
    rotate_left
    (conv => whnf)
    refine ⟨?_, ?_⟩
    · repeat' ((conv => whnf); first | exact trivial | exact rfl | apply And.intro)
    · rintro ⟨⟨k, kd, to⟩, hk⟩
      have hk' : k ≤ 4 := hk
      repeat' ((conv => whnf); first | exact trivial | (with_reducible refine ap_of ?_; kernel_rfl) | (with_reducible refine ds_of ?_; kernel_rfl) | (with_reducible refine eq_of ?_; kernel_rfl) | exact rfl | (intro h; exact absurd h (by decide)) | intro _ | apply And.intro)
      all_goals first
        | (have hlt : k < 4 := (by have := k_lt (k := k) (n := 4) (by assumption); omega)
           first
             | exact hn.1
             | exact hn.2
             | exact Int.natCast_nonneg _
             | (show ((k : Nat) : Int) < 60; omega)
             | rfl
             | (rw [R_len]; have := clr_len e line id k; simp; omega)
             | (refine len_set1 (by assumption) ?_; rfl)
             | ((conv => whnf)
                refine ⟨⟨(k + 1, 4, (k : Nat)), hlt⟩, [(1, ?_)], ?_, ?_⟩
                rotate_left
                · show 4 - (k + 1) < 4 - k
                  omega
                · repeat' ((conv => whnf); first | exact trivial | exact rfl | apply And.intro)
                  · exact succ_eq k (by omega)
                  · refine row_eq ?_
                    have h0 : hasF e.need k = true := by
                      rw [show k = ((k : Nat) : Int).toNat from (Int.toNat_natCast k).symm]
                      assumption
                    rw [clr_step, if_pos h0]
                    exact R_snoc msgD _ (saysTo e line id 4 (k : Nat)))
             | ((conv => whnf)
                refine ⟨⟨(k + 1, kd, to), hlt⟩, [(1, ?_)], ?_, ?_⟩
                rotate_left
                · show 4 - (k + 1) < 4 - k
                  omega
                · repeat' ((conv => whnf); first | exact trivial | exact rfl | apply And.intro)
                  · exact succ_eq k (by omega)
                  · refine row_eq ?_
                    have h0 : hasF e.need k = false := by
                      rw [show k = ((k : Nat) : Int).toNat from (Int.toNat_natCast k).symm]
                      assumption
                    rw [clr_step, if_neg (by rw [h0]; decide), List.append_nil])
             | skip)
        | (have hke : k = 4 := (by have := k_ge (k := k) (n := 4) (by assumption); omega)
           subst hke
           first
             | rfl
             | (have h1 : ¬ e.phase = 1 := by simp_all
                have h2 : e.phase = 2 := by simp_all
                unfold saysF at hr
                rw [if_neg h1, if_pos h2] at hr
                subst hr
                rfl))
        | skip
def saysT (xs : List AV) (l0 : List (Nat × OS)) : Ans := match xs, l0 with
  | [.agg [.d (.int .i64 v), .d (.int .i64 o), .d (.int .i64 s), .d (.int .i64 ph), .d (.int .i64 f), .d (.int .i64 sr), .d (.bool al), .d (.int .i64 t), .d (.int .i64 n), .d (.row es)], .c (.d (.int .i64 line)), .c (.d (.int .i64 id))], [] => some (0 ≤ n ∧ n < 65536, Ro (R msgD (saysF ⟨v, o, s, ph, f, sr, al, t, n, []⟩ line id)), [])
  | _, _ => none
theorem says_does : Does Tryz.prog 39 saysT := ⟨⟨_, Tryz.func39, by decide, rfl⟩, fun xs l0 p v objs h hp => by
  unfold saysT at h
  split at h
  · cases h
    exact rsays_ok (SEntry.mk _ _ _ _ _ _ _ _ _ _) _ _ _ hp _ rfl
  · cases h⟩
end Go.Proofs.YtpgeopefamomnaeGreat

namespace Go.Proofs.YtpgeopefamomnaeGreat
open Go.RowKit
set_option linter.unusedVariables false
set_option maxRecDepth 100000
def ndF (e : SEntry) : Nat → Int
  | 0 => 0
  | k + 1 => ndF e k + needOne e k
theorem nd_4 (e : SEntry) : ndF e 4 = needF e := by
  simp only [ndF, needF]
  omega
theorem one_bd (e : SEntry) (p : Nat) : 0 ≤ needOne e p ∧ needOne e p ≤ bitF p := by
  have h : (0 : Int) ≤ bitF p := Int.pow_nonneg (by decide)
  unfold needOne
  split <;> omega
theorem nd_bd (e : SEntry) : ∀ k, 0 ≤ ndF e k ∧ ndF e k + 1 ≤ bitF k
  | 0 => by simp [ndF, bitF]
  | k + 1 => by
    have h1 := nd_bd e k
    have h2 := one_bd e k
    have h3 : bitF (k + 1) = bitF k * 2 := Int.pow_succ 2 k
    simp only [ndF]
    omega
def midE (e : SEntry) (k : Nat) : SEntry := { e with need := ndF e k, phase := if ndF e k = 0 then 3 else 2 }
theorem mid_no (e : SEntry) (k : Nat) (h : ¬ (e.alone = true ∧ (k : Int) ≠ e.forr ∧ hasF e.sharers k = true)) : midE e (k + 1) = midE e k := by
  have h1 : needOne e k = 0 := if_neg h
  simp only [midE, ndF, h1, Int.add_zero]
theorem mid_yes (e : SEntry) (k : Nat) (hk : k < 4) (h : e.alone = true ∧ (k : Int) ≠ e.forr ∧ hasF e.sharers k = true) : midE e (k + 1) = { e with need := IntKind.i64.wrap (ndF e k + bitF k), phase := 2 } := by
  have h1 : needOne e k = bitF k := if_pos h
  have h2 := nd_bd e k
  have h3 : bitF k ≤ 8 := by
    match k, hk with
    | 0, _ => decide
    | 1, _ => decide
    | 2, _ => decide
    | 3, _ => decide
  have h4 : 0 < bitF k := by omega
  simp only [midE, ndF, h1]
  rw [wrap_in (by omega) (by omega), if_neg (by omega)]
theorem nmid_end (e : SEntry) (h : ¬ 0 ≤ e.owner) : midE e 4 = nextF e := by
  unfold nextF midE
  rw [if_neg h, nd_4]
def ent0C : List CV := [I 0, I 0, I 0, I 0, I 0, I 0, .d (.bool false), I 0, I 0, .nils]
set_option maxHeartbeats 4000000 in
theorem rnext_ok (e : SEntry) (es : Row) (hs : 0 ≤ e.sharers ∧ e.sharers < 65536) : FunOK Tryz.prog 63 [.agg (entR e es)] (hOf []) (.agg (entR (nextF e) es)) (hOf []) := by
  refine fun_deep (pins := []) (l0 := []) (objs := []) (base := 0) (xx_ok tabH_ok [60, 65]) mixed Tryz.func63 rfl (Nat.le_of_ble_eq_true rfl) rfl rfl ?_
  repeat' ((conv => whnf); first | exact trivial | (with_reducible refine ap_of ?_; kernel_rfl) | (with_reducible refine ds_of ?_; kernel_rfl) | (with_reducible refine eq_of ?_; kernel_rfl) | exact rfl | (intro h; exact absurd h (by decide)) | intro _ | apply And.intro)
  all_goals first
    | rfl
    | (have h : 0 ≤ e.owner := by simp_all
       unfold nextF
       rw [if_pos h]
       rfl)
    | skip
  have hno : ¬ 0 ≤ e.owner := by simp_all
  refine loop_keep [1, 2] 12 [] {k : Nat // k ≤ 4} (fun k => [(11, V k.1)]) (fun k => [(0, .live (.box (entR (midE e k.1) es) 54)), (8, .live (.box ent0C 54))]) (fun k => 4 - k.1) ⟨0, Nat.zero_le _⟩ ?_
  (conv => whnf)
  refine ⟨?_, ?_⟩
  · repeat' ((conv => whnf); first | exact trivial | exact rfl | apply And.intro)
  · rintro ⟨k, hk⟩
    repeat' ((conv => whnf); first | exact trivial | (with_reducible refine ap_of ?_; kernel_rfl) | (with_reducible refine ds_of ?_; kernel_rfl) | (with_reducible refine eq_of ?_; kernel_rfl) | exact rfl | (intro h; exact absurd h (by decide)) | intro _ | apply And.intro)
    all_goals first
      | (have hlt : k < 4 := (by have := k_lt (k := k) (n := 4) (by assumption); omega)
         first
           | exact hs.1
           | exact hs.2
           | exact Int.natCast_nonneg _
           | (show ((k : Nat) : Int) < 60; omega)
           | rfl
           | ((conv => whnf)
              refine ⟨⟨k + 1, hlt⟩, [], ?_, ?_⟩
              · show 4 - (k + 1) < 4 - k
                omega
              · repeat' ((conv => whnf); first | exact trivial | exact rfl | apply And.intro)
                · exact succ_eq k (by omega)
                · refine congrArg (fun e => OS.live (.box (entR e es) 54)) (?_ : _ = midE e (k + 1))
                  refine (mid_no e k ?_).symm
                  simp_all [midE]
                  done)
           | skip)
      | (have hke : k = 4 := (by have := k_ge (k := k) (n := 4) (by assumption); omega)
         subst hke
         first
           | rfl
           | (rw [← nmid_end e hno]; rfl))
      | skip
    have hlt : k < 4 := (by have := k_lt (k := k) (n := 4) (by assumption); omega)
    have hy : e.alone = true ∧ (k : Int) ≠ e.forr ∧ hasF e.sharers k = true := by
      simp_all [midE]
    (conv => whnf)
    refine ⟨⟨k + 1, hlt⟩, [], ?_, ?_⟩
    · show 4 - (k + 1) < 4 - k
      omega
    · repeat' ((conv => whnf); first | exact trivial | exact rfl | apply And.intro)
      · exact succ_eq k (by omega)
      · show OS.live (.box (entR { e with need := IntKind.i64.wrap (ndF e k + bitF k), phase := 2 } es) 54) = OS.live (.box (entR (midE e (k + 1)) es) 54)
        rw [mid_yes e k hlt hy]
def nextT (xs : List AV) (l0 : List (Nat × OS)) : Ans := match xs, l0 with
  | [.agg [.d (.int .i64 v), .d (.int .i64 o), .d (.int .i64 s), .d (.int .i64 ph), .d (.int .i64 f), .d (.int .i64 sr), .d (.bool al), .d (.int .i64 t), .d (.int .i64 n), .d (.row es)]], [] => some (0 ≤ s ∧ s < 65536, .agg (entR (nextF ⟨v, o, s, ph, f, sr, al, t, n, []⟩) es), [])
  | _, _ => none
theorem next_does : Does Tryz.prog 63 nextT := ⟨⟨_, Tryz.func63, by decide, rfl⟩, fun xs l0 p v objs h hp => by
  unfold nextT at h
  split at h
  · cases h
    exact rnext_ok (SEntry.mk _ _ _ _ _ _ _ _ _ _) _ hp
  · cases h⟩
def tabN4 : Canon := orT 63 nextT (orT 39 saysT tabH)
theorem tabN4_ok : Sound Tryz.prog tabN4 := (tabH_ok.or says_does).or next_does
end Go.Proofs.YtpgeopefamomnaeGreat

namespace Go.Proofs.YtpgeopefamomnaeGreat
open Go.RowKit
set_option linter.unusedVariables false
set_option maxRecDepth 100000
theorem timer_snoc (id home : Int) (l : SLine) : ∀ (a : List SLine) (i : Nat), timerFrom id home i (a ++ [l]) = timerFrom id home i a ++ (if l.want = 0 then [] else [asksF l id home ((i + a.length : Nat) : Int)])
  | [], i => by simp [timerFrom]
  | b :: r, i => by
    rw [List.cons_append]
    unfold timerFrom
    rw [timer_snoc id home l r (i + 1), List.append_assoc]
    simp only [List.length_cons]
    rw [show i + 1 + r.length = i + (r.length + 1) by omega]
def tmr (id home : Int) (ls : List SLine) (k : Nat) : List Msg := timerFrom id home 0 (ls.take k)
theorem tmr_step (id home : Int) {ls : List SLine} {k : Nat} (h : k < ls.length) : tmr id home ls (k + 1) = tmr id home ls k ++ (if (ls.getD k line0).want = 0 then [] else [asksF (ls.getD k line0) id home (k : Nat)]) := by
  unfold tmr
  rw [take_snoc ls k line0 h, timer_snoc, List.length_take, show 0 + min k ls.length = k by omega]
theorem tmr_len (id home : Int) (ls : List SLine) : ∀ k, k ≤ ls.length → (tmr id home ls k).length ≤ k
  | 0, _ => by simp [tmr, timerFrom]
  | k + 1, h => by
    rw [tmr_step id home h, List.length_append]
    have := tmr_len id home ls k (by omega)
    split <;> simp <;> omega
theorem ask_row (l : SLine) (id home : Int) (k : Nat) (v : Int) (hv : v = if l.want = 3 then l.value else 0) : [J l.want, J id, J home, J (k : Nat), J l.serial, J 0, J v, .bool false] = msgD (asksF l id home (k : Nat)) := by
  subst hv
  rfl
set_option maxHeartbeats 4000000 in
theorem rtimer_ok (ls : List SLine) (w : SOp) (id home : Int) (hm : ls.length ≤ 1000000) : FunOK Tryz.prog 38 [.agg (coreC (rowsL ls) w), V id, V home] (hOf []) (Ro (R msgD (tmr id home ls ls.length))) (hOf []) := by
  refine fun_deep (pins := []) (l0 := []) (objs := []) (base := 0) (xx_ok tab0_ok []) mixed Tryz.func38 rfl (Nat.le_of_ble_eq_true rfl) rfl rfl ?_
  repeat' ((conv => whnf); first | exact trivial | (with_reducible refine ap_of ?_; kernel_rfl) | (with_reducible refine ds_of ?_; kernel_rfl) | (with_reducible refine eq_of ?_; kernel_rfl) | exact rfl | (intro h; exact absurd h (by decide)) | intro _ | apply And.intro)
  refine loop_keep [1, 2, 6, 11] 12 [(1, ?_)] {k : Nat // k ≤ ls.length} (fun k => [(7, .c (.own 1)), (12, V ls.length), (13, V k.1)]) (fun k => [(0, .live (.box (coreC (rowsL ls) w) 49)), (8, .live (.row [] 8 98 false)), (1, .live (.row (R msgD (tmr id home ls k.1)) 8 98 false))]) (fun k => ls.length - k.1) ⟨0, Nat.zero_le _⟩ ?_
  rotate_left
  (conv => whnf)
  refine ⟨?_, ?_⟩
  · repeat' ((conv => whnf); first | exact trivial | exact rfl | apply And.intro)
    all_goals first | exact int_eq (show ((rowsL ls).length : Int) = ls.length by rw [rowsL_len]) | trace_state
  · rintro ⟨k, hk⟩
    have hone : ∀ x : Msg, (msgD x).length = 8 := fun _ => rfl
    repeat' ((conv => whnf); first | exact trivial | (with_reducible refine ap_of ?_; kernel_rfl) | (with_reducible refine ds_of ?_; kernel_rfl) | (with_reducible refine eq_of ?_; kernel_rfl) | exact rfl | (intro h; exact absurd h (by decide)) | intro _ | apply And.intro)
    all_goals first
      | (have hlt : k < ls.length := (by have := k_lt (k := k) (n := ls.length) (by assumption); omega)
         have hg : (rowsL ls).getD k [] = lineD (ls.getD k line0) := rowsL_get hlt
         have hw : (((rowsL ls).getD ((k : Nat) : Int).toNat []).getD (0 + 1 + 1) dz).toI = (ls.getD k line0).want := by
           rw [show ∀ n : Nat, ((n : Nat) : Int).toNat = n from Int.toNat_natCast, hg]
           rfl
         first
           | first | exact Int.natCast_nonneg _ | (rw [rowsL_len]; exact Int.ofNat_lt.2 (show (k : Nat) < _ from hlt)) | (rw [show ∀ n : Nat, ((n : Nat) : Int).toNat = n from Int.toNat_natCast, rowsL_get hlt]; first | rfl | exact Nat.le_refl _) | (rw [show ∀ n : Nat, ((n : Nat) : Int).toNat = n from Int.toNat_natCast, rowsL_len]; exact hlt)
           | rfl
           | (rw [R_len]; have := tmr_len id home ls k hk; simp; omega)
           | (refine len_set1 (by assumption) ?_; rfl)
           | ((conv => whnf)
              refine ⟨⟨k + 1, hlt⟩, [(1, ?_)], ?_, ?_⟩
              rotate_left
              · show ls.length - (k + 1) < ls.length - k
                omega
              · repeat' ((conv => whnf); first | exact trivial | exact rfl | apply And.intro)
                · exact succ_eq k (by omega)
                · refine row_eq ?_
                  rw [tmr_step id home hlt]
                  first
                    | (have h0 : ((ls.getD k line0).want != 0) = false := by rw [← hw]; assumption
                       rw [if_pos (by simpa using h0), List.append_nil]
                       done)
                    | (have h0 : ((ls.getD k line0).want != 0) = true := by rw [← hw]; assumption
                       have h1 : ((ls.getD k line0).want == 3) = true := by rw [← hw]; assumption
                       rw [if_neg (by simpa using h0), show ∀ n : Nat, ((n : Nat) : Int).toNat = n from Int.toNat_natCast, hg]
                       exact (congrArg (fun x => R msgD (tmr id home ls k) ++ [x]) (ask_row (ls.getD k line0) id home k _ (if_pos (by simpa using h1)).symm)).trans (R_snoc msgD _ _))
                    | (have h0 : ((ls.getD k line0).want != 0) = true := by rw [← hw]; assumption
                       have h1 : ((ls.getD k line0).want == 3) = false := by rw [← hw]; assumption
                       rw [if_neg (by simpa using h0), show ∀ n : Nat, ((n : Nat) : Int).toNat = n from Int.toNat_natCast, hg]
                       exact (congrArg (fun x => R msgD (tmr id home ls k) ++ [x]) (ask_row (ls.getD k line0) id home k _ (if_neg (by simpa using h1)).symm)).trans (R_snoc msgD _ _)))
           | skip)
      | (have hke : k = ls.length := (by have := k_ge (k := k) (n := ls.length) (by assumption); omega)
         subst hke
         rfl)
end Go.Proofs.YtpgeopefamomnaeGreat

