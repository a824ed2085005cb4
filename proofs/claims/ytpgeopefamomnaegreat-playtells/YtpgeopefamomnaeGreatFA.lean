/- FSum FNet FParse FBytes FRead. -/
import Derived.Test.YtpgeopefamomnaeGreatRB
import Derived.Test.YtpgeopefamomnaeGreatRD
set_option linter.unusedSimpArgs false
set_option linter.unusedSectionVars false
namespace Go.Proofs.YtpgeopefamomnaeGreat
open Go.RowKit
set_option linter.unusedVariables false
set_option maxRecDepth 100000
abbrev B8 (x : Int) : AV := .c (.d (.int .u8 x))
theorem ftop_eq (A : Nat) : (A : Int).fdiv (2 ^ min (Int.toNat 15) IntKind.i64.bits) = ((A / 32768 : Nat) : Int) := by
  rw [show min (Int.toNat 15) IntKind.i64.bits = 15 from rfl, Int.fdiv_eq_ediv_of_nonneg _ (by decide)]
  rfl
theorem fdbl_eq {A : Nat} (hA : A < 65536) : IntKind.i64.wrap ((BitVec.ofInt IntKind.i64.bits (IntKind.i64.wrap ((A : Int) * 2 ^ min (Int.toNat 1) IntKind.i64.bits)) &&& BitVec.ofInt IntKind.i64.bits 65535).toNat : Int) = ((A * 2 % 65536 : Nat) : Int) := by
  have h := and_mask16 A hA
  rw [show (2 : Int) ^ min (Int.toNat 1) IntKind.i64.bits = 2 from rfl, wrap_in (x := (A : Int) * 2) (by omega) (by omega)]
  exact h
theorem fsum_yes {A x t : Nat} {y : Int} (hA : A < 65536) (hx : x < 256) (ht : t < 8) (hy : y = x) (h : ((A : Int).fdiv (2 ^ min (Int.toNat 15) IntKind.i64.bits) != bitE y (7 - (t : Int))) = true) :
    IntKind.i64.wrap ((BitVec.ofInt IntKind.i64.bits (IntKind.i64.wrap ((BitVec.ofInt IntKind.i64.bits (IntKind.i64.wrap ((A : Int) * 2 ^ min (Int.toNat 1) IntKind.i64.bits)) &&& BitVec.ofInt IntKind.i64.bits 65535).toNat : Int)) ^^^ BitVec.ofInt IntKind.i64.bits 4129).toNat : Int) = ((cstep A (x / 2 ^ (7 - t) % 2) : Nat) : Int) := by
  rw [bitE_eq hx ht hy, ftop_eq] at h
  have h : A / 32768 ≠ x / 2 ^ (7 - t) % 2 := fun e => by rw [e] at h; simp at h
  rw [fdbl_eq hA, xor_w _ (by omega)]
  unfold cstep
  rw [if_neg h]
theorem fsum_no {A x t : Nat} {y : Int} (hA : A < 65536) (hx : x < 256) (ht : t < 8) (hy : y = x) (h : ((A : Int).fdiv (2 ^ min (Int.toNat 15) IntKind.i64.bits) != bitE y (7 - (t : Int))) = false) :
    IntKind.i64.wrap ((BitVec.ofInt IntKind.i64.bits (IntKind.i64.wrap ((A : Int) * 2 ^ min (Int.toNat 1) IntKind.i64.bits)) &&& BitVec.ofInt IntKind.i64.bits 65535).toNat : Int) = ((cstep A (x / 2 ^ (7 - t) % 2) : Nat) : Int) := by
  rw [bitE_eq hx ht hy, ftop_eq] at h
  have h : A / 32768 = x / 2 ^ (7 - t) % 2 := by
    simp only [bne_eq_false_iff_eq] at h
    exact_mod_cast h
  rw [fdbl_eq hA]
  unfold cstep
  rw [if_pos h]
set_option maxHeartbeats 4000000 in
theorem fsumByte_ok (s x : Nat) (hs : s < 65536) (hx : x < 256) : FunOK Tryz.prog 123 [V s, B8 x] (hOf []) (V (cbyte s x : Nat)) (hOf []) := by
  rw [← cpre_all]
  refine fun_deep (pins := []) (l0 := []) (objs := []) (base := 0) (xx_ok tab0_ok []) mixed Tryz.func123 rfl (Nat.le_of_ble_eq_true rfl) rfl rfl ?_
  repeat' ((conv => whnf); first | exact trivial | (with_reducible refine ap_of ?_; kernel_rfl) | (with_reducible refine ds_of ?_; kernel_rfl) | (with_reducible refine eq_of ?_; kernel_rfl) | exact rfl | (intro h; exact absurd h (by decide)) | intro _ | apply And.intro)
  refine loop_keep [1, 4] 10 [] {t : Nat // t ≤ 8} (fun t => [(0, V (cpre s x t.1 : Nat)), (5, V (7 - (t.1 : Int)))]) (fun t => []) (fun t => 8 - t.1) ⟨0, Nat.zero_le _⟩ ?_
  (conv => whnf)
  refine ⟨?_, ?_⟩
  · repeat' ((conv => whnf); first | exact trivial | exact rfl | apply And.intro)
  · rintro ⟨t, ht⟩
    have hc := cpre_bd s x hs t
    repeat' ((conv => whnf); first | exact trivial | (with_reducible refine ap_of ?_; kernel_rfl) | (with_reducible refine ds_of ?_; kernel_rfl) | (with_reducible refine eq_of ?_; kernel_rfl) | exact rfl | (intro h; exact absurd h (by decide)) | intro _ | apply And.intro)
    all_goals first
      | decide
      | (show (0 : Int) ≤ 7 - (t : Int); simp_all; done)
      | (have ht8 : t < 8 := by simp_all <;> omega
         (conv => whnf)
         refine ⟨⟨t + 1, ht8⟩, [], ?_, ?_⟩
         · show 8 - (t + 1) < 8 - t
           omega
         · repeat' ((conv => whnf); first | exact trivial | exact rfl | apply And.intro)
           · exact int_eq (by first | exact fsum_yes hc hx ht8 rfl ‹_› | exact fsum_no hc hx ht8 rfl ‹_›)
           · exact int_eq ((wrap_in (x := 7 - (t : Int) - 1) (by omega) (by omega)).trans (by show 7 - (t : Int) - 1 = 7 - ((t + 1 : Nat) : Int); omega)))
      | (have ht8 : t = 8 := by simp_all <;> omega
         subst ht8
         rfl)
      | trace_state
def sumByteT (xs : List AV) (l0 : List (Nat × OS)) : Ans := match xs, l0 with
  | [.c (.d (.int .i64 s)), .c (.d (.int .u8 x))], [] => some ((0 ≤ s ∧ s < 65536) ∧ 0 ≤ x ∧ x < 256, V (cbyte s.toNat x.toNat : Nat), [])
  | _, _ => none
theorem sumByte_does : Does Tryz.prog 123 sumByteT := ⟨⟨_, Tryz.func123, by decide, rfl⟩, fun xs l0 p v objs h hp => by
  unfold sumByteT at h
  split at h
  · cases h
    obtain ⟨⟨h1, h2⟩, h3, h4⟩ := hp
    obtain ⟨a, rfl⟩ := Int.eq_ofNat_of_zero_le h1
    obtain ⟨b, rfl⟩ := Int.eq_ofNat_of_zero_le h3
    exact fsumByte_ok a b (by omega) (by omega)
  · cases h⟩
def tabFB : Canon := orT 123 sumByteT tab0
theorem tabFB_ok : Sound Tryz.prog tabFB := tab0_ok.or sumByte_does
set_option maxHeartbeats 4000000 in
theorem fsum_ok (b : List Nat) (hb : isBytes b) : FunOK Tryz.prog 104 [Ro (rowB b)] (hOf []) (V (csum 65535 b : Nat)) (hOf []) := by
  refine fun_bnd fun hbnd => ?_
  have hbnd : (rowB b).length ≤ maxLen := hbnd.1
  rw [rowB_len] at hbnd
  unfold maxLen at hbnd
  refine fun_deep (pins := []) (l0 := []) (objs := []) (base := 0) (xx_ok tabFB_ok [123]) mixed Tryz.func104 rfl (Nat.le_of_ble_eq_true rfl) rfl rfl ?_
  repeat' ((conv => whnf); first | exact trivial | (with_reducible refine ap_of ?_; kernel_rfl) | (with_reducible refine ds_of ?_; kernel_rfl) | (with_reducible refine eq_of ?_; kernel_rfl) | exact rfl | (intro h; exact absurd h (by decide)) | intro _ | apply And.intro)
  refine loop_keep [2, 6, 7] 10 [] {k : Nat // k ≤ b.length} (fun k => [(3, V (csum 65535 (b.take k.1) : Nat)), (8, V k.1)]) (fun k => []) (fun k => b.length - k.1) ⟨0, Nat.zero_le _⟩ ?_
  (conv => whnf)
  refine ⟨?_, ?_⟩
  · repeat' ((conv => whnf); first | exact trivial | exact rfl | apply And.intro)
  · rintro ⟨k, hk⟩
    repeat' ((conv => whnf); first | exact trivial | (with_reducible refine ap_of ?_; kernel_rfl) | (with_reducible refine ds_of ?_; kernel_rfl) | (with_reducible refine eq_of ?_; kernel_rfl) | exact rfl | (intro h; exact absurd h (by decide)) | intro _ | apply And.intro)
    all_goals first
      | (have hlt : k < b.length := by simp_all [rowB_len]
         have hs := csum_bd (b.take k) 65535 (by omega)
         have hx := hb k hlt
         have hsn := csum_snoc 65535 b k hlt
         have hx2 : (((rowB b).getD ((k : Int)).toNat []).getD 0 dz).toI = ((b.getD k 0 : Nat) : Int) := by
           rw [Int.toNat_natCast, rowB_get hlt]; rfl
         have hx3 : 0 ≤ (((rowB b).getD ((k : Int)).toNat []).getD 0 dz).toI ∧ (((rowB b).getD ((k : Int)).toNat []).getD 0 dz).toI < 256 := by rw [hx2]; omega
         have hs3 : (0 : Int) ≤ (csum 65535 (b.take k) : Nat) ∧ ((csum 65535 (b.take k) : Nat) : Int) < 65536 := by omega
         generalize hcs : csum 65535 (b.take k) = cs at *
         first
           | (with_reducible exact hs3.1)
           | (with_reducible exact hs3.2)
           | (with_reducible exact hx3.1)
           | (with_reducible exact hx3.2)
           | first | exact Int.natCast_nonneg _ | (rw [rowB_len]; exact Int.ofNat_lt.2 (show (k : Nat) < _ from hlt)) | (rw [show ∀ n : Nat, ((n : Nat) : Int).toNat = n from Int.toNat_natCast, rowB_get hlt]; first | rfl | exact Nat.le_refl _) | (rw [show ∀ n : Nat, ((n : Nat) : Int).toNat = n from Int.toNat_natCast, rowB_len]; exact hlt)
           | rfl
           | ((conv => whnf)
              refine ⟨⟨k + 1, hlt⟩, [], ?_, ?_⟩
              · show b.length - (k + 1) < b.length - k
                omega
              · repeat' ((conv => whnf); first | exact trivial | exact rfl | apply And.intro)
                · refine int_eq ?_
                  rw [hsn, hx2]
                  rfl
                · exact succ_eq k (by omega)))
      | (have he : b.length ≤ k := by simp_all [rowB_len]
         have hke : k = b.length := Nat.le_antisymm hk he
         subst hke
         first
           | rfl
           | exact int_eq (by rw [List.take_of_length_le (Nat.le_refl _)]))
      | trace_state
def fsumT (xs : List AV) (l0 : List (Nat × OS)) : Ans := match xs, l0 with
  | [.c (.d (.row es))], [] => some ((∃ b, es = rowB b ∧ isBytes b), V (csum 65535 (es.map fun e => (byteOf e).toNat) : Nat), [])
  | _, _ => none
theorem fsum_does : Does Tryz.prog 104 fsumT := ⟨⟨_, Tryz.func104, by decide, rfl⟩, fun xs l0 p v objs h hp => by
  unfold fsumT at h
  split at h
  · cases h
    obtain ⟨b, rfl, hb⟩ := hp
    rw [rowB_back hb]
    exact fsum_ok b hb
  · cases h⟩
def tabFS : Canon := orT 104 fsumT tab0
theorem tabFS_ok : Sound Tryz.prog tabFS := tab0_ok.or fsum_does
end Go.Proofs.YtpgeopefamomnaeGreat

namespace Go.Proofs.YtpgeopefamomnaeGreat
open Go.RowKit
set_option linter.unusedVariables false
set_option linter.unusedSimpArgs false
set_option maxRecDepth 100000
/-- The first k of es, then z. -/
def padR (z : List DV) (es : Row) (k : Nat) : Row := es.take k ++ List.replicate (es.length - k) z
theorem padR_len (z : List DV) (es : Row) (k : Nat) (h : k ≤ es.length) : (padR z es k).length = es.length := by
  unfold padR
  rw [List.length_append, List.length_take, List.length_replicate]
  omega
theorem padR_get (z : List DV) (es : Row) (k : Nat) (h : k < es.length) : (padR z es k).getD k [] = z := by
  unfold padR
  rw [List.getD_eq_getElem?_getD, List.getElem?_append_right (by rw [List.length_take]; omega), List.length_take, List.getElem?_replicate, if_pos (by omega)]
  rfl
theorem padR_set (z : List DV) (es : Row) (k : Nat) (h : k < es.length) : (padR z es k).set k (es.getD k []) = padR z es (k + 1) := by
  unfold padR
  rw [take_snoc es k [] h, List.set_append_right _ _ (by rw [List.length_take]; omega), List.length_take, show k - min k es.length = 0 by omega, show es.length - k = (es.length - (k + 1)) + 1 by omega, List.replicate_succ, List.set_cons_zero, List.append_assoc]
  rfl
theorem padR_all (z : List DV) (es : Row) : padR z es es.length = es := by
  unfold padR
  rw [List.take_of_length_le (Nat.le_refl _), Nat.sub_self]
  simp
theorem rowB_one (b : List Nat) (u : List DV) (h : u ∈ rowB b) : u.length = 1 := R_one (f := byteD) (fun _ => rfl) _ _ h
set_option maxHeartbeats 4000000 in
theorem nownFrame_ok (b : List Nat) (hl : b.length ≤ 1000) : FunOK Tryz.prog 78 [Ro (rowB b)] (hOf []) (Ro (rowB b)) (hOf []) := by
  refine fun_deep (pins := []) (l0 := []) (objs := []) (base := 0) (xx_ok tab0_ok []) mixed Tryz.func78 rfl (Nat.le_of_ble_eq_true rfl) rfl rfl ?_
  have hlen := rowB_len b
  repeat' ((conv => whnf); first | exact trivial | (with_reducible refine ap_of ?_; kernel_rfl) | (with_reducible refine ds_of ?_; kernel_rfl) | (with_reducible refine eq_of ?_; kernel_rfl) | exact rfl | (intro h; exact absurd h (by decide)) | intro _ | apply And.intro)
  all_goals first
    | exact Int.natCast_nonneg _
    | rfl
    | (rw [hlen]; omega)
    | exact rowB_one _ _ (by assumption)
    | exact congrArg Ro (copyR _ _)
    | trace_state
def ownFT (xs : List AV) (l0 : List (Nat × OS)) : Ans := match xs, l0 with
  | [.c (.d (.row es))], [] => some (∃ b, es = rowB b ∧ b.length ≤ 1000, Ro es, [])
  | _, _ => none
theorem ownF_does : Does Tryz.prog 78 ownFT := ⟨⟨_, Tryz.func78, by decide, rfl⟩, fun xs l0 p v objs h hp => by
  unfold ownFT at h
  split at h
  · cases h
    obtain ⟨b, rfl, h1⟩ := hp
    exact nownFrame_ok b h1
  · cases h⟩
def tabOF : Canon := orT 78 ownFT tab0
theorem tabOF_ok : Sound Tryz.prog tabOF := tab0_ok.or ownF_does
set_option maxHeartbeats 4000000 in
theorem nown_ok (fs : List (List Nat)) (hl : fs.length ≤ 1000) (hf : ∀ f ∈ fs, f.length ≤ 1000) : FunOK Tryz.prog 70 [Ro (framesD fs)] (hOf []) (.c (.own 0)) (hOf [(0, .live (.row (framesD fs) 1 93 false))]) := by
  refine fun_can (pins := []) (l0 := []) (objs := _) (base := 0) (xx_ok tabOF_ok [78]) mixed Tryz.func70 rfl (Nat.le_of_ble_eq_true rfl) rfl rfl ?_
  have hlen : (framesD fs).length = fs.length := framesD_len _
  have hz : List.replicate (((framesD fs).length : Int)).toNat [DV.row []] = padR [.row []] (framesD fs) 0 := by
    unfold padR
    rw [Int.toNat_natCast, List.take_zero]
    rfl
  repeat' ((conv => whnf); first | exact trivial | (with_reducible refine ap_of ?_; kernel_rfl) | (with_reducible refine ds_of ?_; kernel_rfl) | (with_reducible refine eq_of ?_; kernel_rfl) | exact rfl | (intro h; exact absurd h (by decide)) | intro _ | apply And.intro)
  all_goals first
    | exact Int.natCast_nonneg _
    | rfl
    | (rw [hlen]; omega)
    | skip
  (conv => whnf)
  refine loop_keep [2, 3, 9] 40 [] {k : Nat // k ≤ fs.length} (fun k => [(10, V fs.length), (11, V k.1)]) (fun k => [(0, .live (.row [] 1 93 false)), (1016, .live (.row (padR [.row []] (framesD fs) k.1) 1 93 false))]) (fun k => fs.length - k.1) ⟨0, Nat.zero_le _⟩ ?_
  (conv => whnf)
  refine ⟨?_, ?_⟩
  · repeat' ((conv => whnf); first | exact trivial | exact rfl | apply And.intro)
    all_goals first
      | exact int_eq (show ((framesD fs).length : Int) = fs.length by rw [hlen])
      | exact row_eq hz
      | trace_state
  · rintro ⟨k, hk⟩
    have hol := padR_len [.row []] (framesD fs) k (by omega)
    repeat' ((conv => whnf); first | exact trivial | (with_reducible refine ap_of ?_; kernel_rfl) | (with_reducible refine ds_of ?_; kernel_rfl) | (with_reducible refine eq_of ?_; kernel_rfl) | exact rfl | (intro h; exact absurd h (by decide)) | intro _ | apply And.intro)
    all_goals first
      | (have hlt : k < fs.length := (by have := k_lt (k := k) (n := fs.length) (by assumption); omega)
         have hki : (k : Int) < fs.length := by omega
         have hg : (framesD fs).getD k [] = [.row (rowB (fs.getD k []))] := framesD_get hlt
         have hgl : (fs.getD k []).length ≤ 1000 := hf _ (by simp [List.getD, hlt])
         have hoz := padR_get [.row []] (framesD fs) k (by omega)
         have hrl := rowB_len (fs.getD k [])
         first
           | exact Int.natCast_nonneg _
           | (rw [hlen]; exact hki)
           | (rw [hlen, show ∀ n : Nat, ((n : Nat) : Int).toNat = n from Int.toNat_natCast]; exact hlt)
           | (rw [hol, hlen]; exact hki)
           | (rw [hol, hlen, show ∀ n : Nat, ((n : Nat) : Int).toNat = n from Int.toNat_natCast]; exact hlt)
           | rfl
           | (rw [show ∀ n : Nat, ((n : Nat) : Int).toNat = n from Int.toNat_natCast, hg]; first | rfl | exact Nat.le_refl _ | exact ⟨_, rfl, hgl⟩)
           | (rw [show ∀ n : Nat, ((n : Nat) : Int).toNat = n from Int.toNat_natCast, hoz]; first | rfl | exact Nat.le_refl _)
           | ((conv => whnf)
              refine ⟨⟨k + 1, hlt⟩, [], ?_, ?_⟩
              · show fs.length - (k + 1) < fs.length - k
                omega
              · repeat' ((conv => whnf); first | exact trivial | exact rfl | apply And.intro)
                · exact succ_eq k (by omega)
                · refine row_eq ?_
                  have key := padR_set [.row []] (framesD fs) k (by omega)
                  rw [hg] at key
                  refine Eq.trans ?_ key
                  simp only [Int.toNat_natCast, hg, List.getD_cons_zero, DV.toR]
                  rfl)
           | trace_state)
      | (have hke : k = fs.length := (by have := k_ge (k := k) (n := fs.length) (by assumption); omega)
         subst hke
         first
           | rfl
           | (have hall : padR [.row []] (framesD fs) fs.length = framesD fs := by rw [← hlen]; exact padR_all _ _
              show [(0, OS.live (.row (padR [.row []] (framesD fs) fs.length) 1 93 false))] = _
              rw [hall])
           | trace_state)
      | trace_state
set_option maxHeartbeats 4000000 in
theorem nown2_ok (fs : List (List Nat)) (hl : fs.length ≤ 1000) (hf : ∀ f ∈ fs, f.length ≤ 1000) : FunOK Tryz.prog 70 [Ro (framesD fs)] (hOf []) (Ro (framesD fs)) (hOf []) := by
  refine fun_deep (pins := []) (l0 := []) (objs := _) (base := 0) (xx_ok tabOF_ok [78]) mixed Tryz.func70 rfl (Nat.le_of_ble_eq_true rfl) rfl rfl ?_
  have hlen : (framesD fs).length = fs.length := framesD_len _
  have hz : List.replicate (((framesD fs).length : Int)).toNat [DV.row []] = padR [.row []] (framesD fs) 0 := by
    unfold padR
    rw [Int.toNat_natCast, List.take_zero]
    rfl
  repeat' ((conv => whnf); first | exact trivial | (with_reducible refine ap_of ?_; kernel_rfl) | (with_reducible refine ds_of ?_; kernel_rfl) | (with_reducible refine eq_of ?_; kernel_rfl) | exact rfl | (intro h; exact absurd h (by decide)) | intro _ | apply And.intro)
  all_goals first
    | exact Int.natCast_nonneg _
    | rfl
    | (rw [hlen]; omega)
    | skip
  (conv => whnf)
  refine loop_keep [2, 3, 9] 40 [] {k : Nat // k ≤ fs.length} (fun k => [(10, V fs.length), (11, V k.1)]) (fun k => [(0, .live (.row [] 1 93 false)), (1016, .live (.row (padR [.row []] (framesD fs) k.1) 1 93 false))]) (fun k => fs.length - k.1) ⟨0, Nat.zero_le _⟩ ?_
  (conv => whnf)
  refine ⟨?_, ?_⟩
  · repeat' ((conv => whnf); first | exact trivial | exact rfl | apply And.intro)
    all_goals first
      | exact int_eq (show ((framesD fs).length : Int) = fs.length by rw [hlen])
      | exact row_eq hz
      | trace_state
  · rintro ⟨k, hk⟩
    have hol := padR_len [.row []] (framesD fs) k (by omega)
    repeat' ((conv => whnf); first | exact trivial | (with_reducible refine ap_of ?_; kernel_rfl) | (with_reducible refine ds_of ?_; kernel_rfl) | (with_reducible refine eq_of ?_; kernel_rfl) | exact rfl | (intro h; exact absurd h (by decide)) | intro _ | apply And.intro)
    all_goals first
      | (have hlt : k < fs.length := (by have := k_lt (k := k) (n := fs.length) (by assumption); omega)
         have hki : (k : Int) < fs.length := by omega
         have hg : (framesD fs).getD k [] = [.row (rowB (fs.getD k []))] := framesD_get hlt
         have hgl : (fs.getD k []).length ≤ 1000 := hf _ (by simp [List.getD, hlt])
         have hoz := padR_get [.row []] (framesD fs) k (by omega)
         have hrl := rowB_len (fs.getD k [])
         first
           | exact Int.natCast_nonneg _
           | (rw [hlen]; exact hki)
           | (rw [hlen, show ∀ n : Nat, ((n : Nat) : Int).toNat = n from Int.toNat_natCast]; exact hlt)
           | (rw [hol, hlen]; exact hki)
           | (rw [hol, hlen, show ∀ n : Nat, ((n : Nat) : Int).toNat = n from Int.toNat_natCast]; exact hlt)
           | rfl
           | (rw [show ∀ n : Nat, ((n : Nat) : Int).toNat = n from Int.toNat_natCast, hg]; first | rfl | exact Nat.le_refl _ | exact ⟨_, rfl, hgl⟩)
           | (rw [show ∀ n : Nat, ((n : Nat) : Int).toNat = n from Int.toNat_natCast, hoz]; first | rfl | exact Nat.le_refl _)
           | ((conv => whnf)
              refine ⟨⟨k + 1, hlt⟩, [], ?_, ?_⟩
              · show fs.length - (k + 1) < fs.length - k
                omega
              · repeat' ((conv => whnf); first | exact trivial | exact rfl | apply And.intro)
                · exact succ_eq k (by omega)
                · refine row_eq ?_
                  have key := padR_set [.row []] (framesD fs) k (by omega)
                  rw [hg] at key
                  refine Eq.trans ?_ key
                  simp only [Int.toNat_natCast, hg, List.getD_cons_zero, DV.toR]
                  rfl)
           | trace_state)
      | (have hke : k = fs.length := (by have := k_ge (k := k) (n := fs.length) (by assumption); omega)
         subst hke
         first
           | rfl
           | (have hall : padR [.row []] (framesD fs) fs.length = framesD fs := by rw [← hlen]; exact padR_all _ _
              show Ro (padR [.row []] (framesD fs) fs.length) = _
              rw [hall])
           | trace_state)
      | trace_state
/-- Frames of a length. -/
def Short (fs : List (List Nat)) : Prop := fs.length ≤ 1000 ∧ ∀ f ∈ fs, f.length ≤ 1000
def nownT (xs : List AV) (l0 : List (Nat × OS)) : Ans := match xs, l0 with
  | [.c (.d (.row es))], [] => some (∃ fs, es = framesD fs ∧ Short fs, .c (.own 0), [(0, .live (.row es 1 93 false))])
  | _, _ => none
theorem nown_does : Does Tryz.prog 70 nownT := ⟨⟨_, Tryz.func70, by decide, rfl⟩, fun xs l0 p v objs h hp => by
  unfold nownT at h
  split at h
  · cases h
    obtain ⟨fs, rfl, h1⟩ := hp
    exact nown_ok fs h1.1 h1.2
  · cases h⟩
def nownT2 (xs : List AV) (l0 : List (Nat × OS)) : Ans := match xs, l0 with
  | [.c (.d (.row es))], [] => some (∃ fs, es = framesD fs ∧ Short fs, Ro es, [])
  | _, _ => none
theorem nown2_does : Does Tryz.prog 70 nownT2 := ⟨⟨_, Tryz.func70, by decide, rfl⟩, fun xs l0 p v objs h hp => by
  unfold nownT2 at h
  split at h
  · cases h
    obtain ⟨fs, rfl, h1⟩ := hp
    exact nown2_ok fs h1.1 h1.2
  · cases h⟩
def tabNO : Canon := orT 78 ownFT (orT 70 nownT tab0)
theorem tabNO_ok : Sound Tryz.prog tabNO := (tab0_ok.or nown_does).or ownF_does
end Go.Proofs.YtpgeopefamomnaeGreat

namespace Go.Proofs.YtpgeopefamomnaeGreat
open Go.RowKit
set_option linter.unusedVariables false
set_option maxRecDepth 100000
theorem range_iff (c : Cfg) (m : Msg) : rangeB c m = true ↔ (0 ≤ m.frm ∧ m.frm ≤ c.cores) ∧ (0 ≤ m.to ∧ m.to ≤ c.cores) ∧ (0 ≤ m.line ∧ m.line < c.lines) ∧ (0 ≤ m.serial ∧ m.serial ≤ 65535) ∧ (0 ≤ m.turn ∧ m.turn ≤ 65535) ∧ 0 ≤ m.value ∧ m.value ≤ 255 := by
  simp only [rangeB, upB, Bool.and_eq_true, decide_eq_true_eq]
  constructor
  · intro h; omega
  · intro h; omega
theorem range_bad {c : Cfg} {m : Msg} (h : ¬ ((0 ≤ m.frm ∧ m.frm ≤ c.cores) ∧ (0 ≤ m.to ∧ m.to ≤ c.cores) ∧ (0 ≤ m.line ∧ m.line < c.lines) ∧ (0 ≤ m.serial ∧ m.serial ≤ 65535) ∧ (0 ≤ m.turn ∧ m.turn ≤ 65535) ∧ 0 ≤ m.value ∧ m.value ≤ 255)) : (!rangeB c m) = true := by
  rw [← range_iff] at h
  simpa using h
theorem range_good {c : Cfg} {m : Msg} (h : (0 ≤ m.frm ∧ m.frm ≤ c.cores) ∧ (0 ≤ m.to ∧ m.to ≤ c.cores) ∧ (0 ≤ m.line ∧ m.line < c.lines) ∧ (0 ≤ m.serial ∧ m.serial ≤ 65535) ∧ (0 ≤ m.turn ∧ m.turn ≤ 65535) ∧ 0 ≤ m.value ∧ m.value ≤ 255) : (!rangeB c m) = false := by
  rw [← range_iff] at h
  simp [h]
set_option maxHeartbeats 4000000 in
theorem fwrong_ok (c : Cfg) (m : Msg) : FunOK Tryz.prog 107 [.agg (cfgC c), .agg (msgC m)] (hOf []) (V (wrongF c m)) (hOf []) := by
  refine fun_deep (pins := []) (l0 := []) (objs := []) (base := 0) (xx_ok tab0_ok []) mixed Tryz.func107 rfl (Nat.le_of_ble_eq_true rfl) rfl rfl ?_
  repeat' ((conv => whnf); first | exact trivial | (with_reducible refine ap_of ?_; kernel_rfl) | (with_reducible refine ds_of ?_; kernel_rfl) | (with_reducible refine eq_of ?_; kernel_rfl) | exact rfl | (intro h; exact absurd h (by decide)) | intro _ | apply And.intro)
  all_goals first | rfl | skip
  all_goals
    refine int_eq (Eq.symm ?_)
    simp only [beq_iff_eq, Bool.not_eq_true', Bool.not_eq_false', decide_eq_true_eq, decide_eq_false_iff_not, beq_eq_false_iff_ne, ne_eq, Bool.not_eq_true, Bool.not_eq_false] at *
    first
      | exact wrong_1 (by omega)
      | exact wrong_2 (by omega) (range_bad (by omega))
      | exact wrong_3 (by omega) (range_good (by omega)) (by assumption)
      | exact wrong_4 (by omega) (range_good (by omega)) (by assumption)
      | exact wrong_3 (by omega) (range_good (by omega)) (by simp_all)
      | exact wrong_4 (by omega) (range_good (by omega)) (by simp_all)
      | trace_state
def fwrongT (xs : List AV) (l0 : List (Nat × OS)) : Ans := match xs, l0 with
  | [.agg [.d (.int .i64 a), .d (.int .i64 b)], .agg [.d (.int .i64 k), .d (.int .i64 f), .d (.int .i64 t), .d (.int .i64 l), .d (.int .i64 s), .d (.int .i64 u), .d (.int .i64 v), .d (.bool z)]], [] => some (True, V (wrongF ⟨a, b⟩ ⟨k, f, t, l, s, u, v, z⟩), [])
  | _, _ => none
theorem fwrong_does : Does Tryz.prog 107 fwrongT := ⟨⟨_, Tryz.func107, by decide, rfl⟩, fun xs l0 p v objs h hp => by
  unfold fwrongT at h
  split at h
  · cases h
    exact fwrong_ok (Cfg.mk _ _) (Msg.mk _ _ _ _ _ _ _ _)
  · cases h⟩
def tabFW : Canon := orT 107 fwrongT tabFS
theorem tabFW_ok : Sound Tryz.prog tabFW := tabFS_ok.or fwrong_does
end Go.Proofs.YtpgeopefamomnaeGreat

namespace Go.Proofs.YtpgeopefamomnaeGreat
open Go.RowKit
set_option linter.unusedVariables false
set_option maxRecDepth 100000
theorem len_set3 {u z x y v : List DV} {n : Nat} (h : u ∈ (((List.replicate 3 z).set 0 x).set 1 y).set 2 v) (hx : x.length = n) (hy : y.length = n) (hv : v.length = n) : u.length = n := by
  have h : u = x ∨ u = y ∨ u = v := by simpa using h
  rcases h with h | h | h
  · rw [h]; exact hx
  · rw [h]; exact hy
  · rw [h]; exact hv
theorem u8_mod (x : Int) : IntKind.u8.wrap x = x % 256 := by
  simp only [IntKind.wrap, IntKind.bits, IntKind.signed]
  simp
theorem fhi8 {x : Int} (h0 : 0 ≤ x) (h1 : x < 65536) : IntKind.u8.wrap (x.fdiv (2 ^ min (Int.toNat 8) IntKind.i64.bits)) = ((x.toNat / 256 : Nat) : Int) := by
  rw [show (2 : Int) ^ min (Int.toNat 8) IntKind.i64.bits = 256 from rfl, Int.fdiv_eq_ediv_of_nonneg _ (by decide), u8_mod]
  omega
theorem flo8 {x : Int} (h0 : 0 ≤ x) : IntKind.u8.wrap x = ((x.toNat % 256 : Nat) : Int) := by
  rw [u8_mod]
  omega
theorem fnodes {f t : Int} (hf : 0 ≤ f ∧ f < 16) (ht : 0 ≤ t ∧ t < 16) : IntKind.u8.wrap (IntKind.i64.wrap ((BitVec.ofInt IntKind.i64.bits (IntKind.i64.wrap (IntKind.i64.wrap ((BitVec.ofInt IntKind.i64.bits f &&& BitVec.ofInt IntKind.i64.bits 15).toNat : Int) * 2 ^ min (Int.toNat 4) IntKind.i64.bits)) ||| BitVec.ofInt IntKind.i64.bits (IntKind.i64.wrap ((BitVec.ofInt IntKind.i64.bits t &&& BitVec.ofInt IntKind.i64.bits 15).toNat : Int))).toNat : Int)) = ((f.toNat * 16 + t.toNat : Nat) : Int) := by
  obtain ⟨a, rfl⟩ := Int.eq_ofNat_of_zero_le hf.1
  obtain ⟨b, rfl⟩ := Int.eq_ofNat_of_zero_le ht.1
  have h := nodes_val a b (by omega) (by omega)
  have ha : IntKind.i64.wrap ((BitVec.ofInt IntKind.i64.bits (a : Int) &&& BitVec.ofInt IntKind.i64.bits 15).toNat : Int) = ((a % 16 : Nat) : Int) := by
    have h2 := and_i64 a 15 (by omega) (by omega)
    rw [show a &&& 15 = a % 16 from Nat.and_two_pow_sub_one_eq_mod a 4] at h2
    exact h2
  have h3 : IntKind.i64.wrap (IntKind.i64.wrap ((BitVec.ofInt IntKind.i64.bits (a : Int) &&& BitVec.ofInt IntKind.i64.bits 15).toNat : Int) * 2 ^ min (Int.toNat 4) IntKind.i64.bits) = IntKind.i64.wrap ((BitVec.ofInt IntKind.i64.bits (a : Int) &&& BitVec.ofInt IntKind.i64.bits 15).toNat : Int) * 16 := by
    rw [ha, show (2 : Int) ^ min (Int.toNat 4) IntKind.i64.bits = 16 from rfl, wrap_in (by omega) (by omega)]
  rw [h3, u8_mod]
  have h4 : IntKind.i64.wrap ((BitVec.ofInt IntKind.i64.bits (IntKind.i64.wrap ((BitVec.ofInt IntKind.i64.bits (a : Int) &&& BitVec.ofInt IntKind.i64.bits 15).toNat : Int) * 16) ||| BitVec.ofInt IntKind.i64.bits (IntKind.i64.wrap ((BitVec.ofInt IntKind.i64.bits (b : Int) &&& BitVec.ofInt IntKind.i64.bits 15).toNat : Int))).toNat : Int) = ((a * 16 + b : Nat) : Int) := h
  rw [h4]
  omega
def nodesR (m : Msg) : Int := IntKind.u8.wrap (IntKind.i64.wrap ((BitVec.ofInt IntKind.i64.bits (IntKind.i64.wrap (IntKind.i64.wrap ((BitVec.ofInt IntKind.i64.bits m.frm &&& BitVec.ofInt IntKind.i64.bits 15).toNat : Int) * 2 ^ min (Int.toNat 4) IntKind.i64.bits)) ||| BitVec.ofInt IntKind.i64.bits (IntKind.i64.wrap ((BitVec.ofInt IntKind.i64.bits m.to &&& BitVec.ofInt IntKind.i64.bits 15).toNat : Int))).toNat : Int))
theorem raw10 (m : Msg) (hm : Fit m) (a : Int) (ha : a = (flagN m.alone : Nat)) : ([[.int .u8 (IntKind.u8.wrap m.kind)], [.int .u8 (nodesR m)], [.int .u8 (IntKind.u8.wrap m.line)], [.int .u8 (IntKind.u8.wrap (m.serial.fdiv (2 ^ min (Int.toNat 8) IntKind.i64.bits)))], [.int .u8 (IntKind.u8.wrap m.serial)], [.int .u8 (IntKind.u8.wrap (m.turn.fdiv (2 ^ min (Int.toNat 8) IntKind.i64.bits)))], [.int .u8 (IntKind.u8.wrap m.turn)], [.int .u8 (IntKind.u8.wrap m.value)], [.int .u8 a], [.int .u8 0]] : Row) = rowB (headF m) := by
  obtain ⟨h1, h2, h3, h4, h5, h6, h7, h8, h9, h10, h11, h12, h13, h14⟩ := hm
  have e1 : IntKind.u8.wrap m.kind = ((m.kind.toNat : Nat) : Int) := by rw [u8_in (by omega) (by omega)]; omega
  have e2 : nodesR m = ((m.frm.toNat * 16 + m.to.toNat : Nat) : Int) := fnodes (by omega) (by omega)
  have e3 : IntKind.u8.wrap m.line = ((m.line.toNat : Nat) : Int) := by rw [u8_in (by omega) (by omega)]; omega
  have e4 : IntKind.u8.wrap m.value = ((m.value.toNat : Nat) : Int) := by rw [u8_in (by omega) (by omega)]; omega
  rw [e1, e2, e3, e4, fhi8 (x := m.serial) (by omega) (by omega), flo8 (x := m.serial) (by omega), fhi8 (x := m.turn) (by omega) (by omega), flo8 (x := m.turn) (by omega), ha]
  rfl
theorem fsum2 {s : Nat} (hs : s < 65536) : IntKind.u8.wrap ((s : Int).fdiv (2 ^ min (Int.toNat 8) IntKind.i64.bits)) = ((s / 256 : Nat) : Int) ∧ IntKind.u8.wrap (s : Int) = ((s % 256 : Nat) : Int) := ⟨fhi8 (by omega) (by omega), flo8 (by omega)⟩
theorem raw_end {m : Msg} (hm : Fit m) {X : Row} (hX : X = rowB (headF m)) : AV.c (.d (.row (X ++ ((List.replicate 2 [DV.int IntKind.u8 0]).set 0 [DV.int IntKind.u8 (IntKind.u8.wrap (((csum 65535 (List.map (fun e => (byteOf e).toNat) X) : Nat) : Int).fdiv (2 ^ min (Int.toNat 8) IntKind.i64.bits)))]).set 1 [DV.int IntKind.u8 (IntKind.u8.wrap ((csum 65535 (List.map (fun e => (byteOf e).toNat) X) : Nat) : Int))]))) = Ro (rowB (bytesF m)) := by
  subst hX
  have hs := csum_bd (headF m) 65535 (by omega)
  rw [rowB_back (head_bytes m hm), (fsum2 hs).1, (fsum2 hs).2]
  exact congrArg (fun r => AV.c (.d (.row r))) (R_app byteD (headF m) [csum 65535 (headF m) / 256, csum 65535 (headF m) % 256])
set_option maxHeartbeats 4000000 in
theorem fbytes_ok (m : Msg) (hm : Fit m) (r : List Nat) (hr : bytesF m = r) : FunOK Tryz.prog 103 [.agg (msgC m)] (hOf []) (Ro (rowB r)) (hOf []) := by
  refine fun_deep (pins := []) (l0 := []) (objs := []) (base := 0) (xb_ok tabFS_ok [104] [104]) mixed Tryz.func103 rfl (Nat.le_of_ble_eq_true rfl) rfl rfl ?_
  repeat' ((conv => whnf); first | exact trivial | (with_reducible refine ap_of ?_; kernel_rfl) | (with_reducible refine ds_of ?_; kernel_rfl) | (with_reducible refine eq_of ?_; kernel_rfl) | exact rfl | (intro h; exact absurd h (by decide)) | intro _ | apply And.intro)
  all_goals first
    | decide
    | (refine len_set3 (by assumption) ?_ ?_ ?_ <;> rfl)
    | (refine len_set2 (by assumption) ?_ ?_ <;> rfl)
    | (simp; done)
    | skip
  all_goals
    have ha1 : m.alone = true → (1 : Int) = (flagN m.alone : Nat) := fun h => by rw [h]; rfl
    have ha0 : m.alone = false → (0 : Int) = (flagN m.alone : Nat) := fun h => by rw [h]; rfl
    first
      | exact ⟨headF m, raw10 m hm 1 (ha1 (by assumption)), head_bytes m hm⟩
      | exact ⟨headF m, raw10 m hm 0 (ha0 (by assumption)), head_bytes m hm⟩
      | (rw [← hr]; refine raw_end hm ?_; exact raw10 m hm 1 (ha1 (by assumption)))
      | (rw [← hr]; refine raw_end hm ?_; exact raw10 m hm 0 (ha0 (by assumption)))
      | trace_state
end Go.Proofs.YtpgeopefamomnaeGreat

namespace Go.Proofs.YtpgeopefamomnaeGreat
open Go.RowKit
set_option linter.unusedVariables false
set_option maxRecDepth 100000
theorem fp2 {x y : Nat} (hx : x < 256) (hy : y < 256) : IntKind.i64.wrap ((BitVec.ofInt IntKind.i64.bits (IntKind.i64.wrap (IntKind.i64.wrap (x : Int) * 2 ^ min (Int.toNat 8) IntKind.i64.bits)) ||| BitVec.ofInt IntKind.i64.bits (IntKind.i64.wrap (y : Int))).toNat : Int) = ((x * 256 + y : Nat) : Int) := by
  rw [w_byte hx, w_byte hy, show (2 : Int) ^ min (Int.toNat 8) IntKind.i64.bits = 256 from rfl, wrap_in (x := (x : Int) * 256) (by omega) (by omega)]
  exact or_pair x y hx hy
theorem fhi {x : Nat} (hx : x < 256) : IntKind.i64.wrap ((x : Int).fdiv (2 ^ min (Int.toNat 4) IntKind.u8.bits)) = ((x / 16 : Nat) : Int) := by
  rw [show (2 : Int) ^ min (Int.toNat 4) IntKind.u8.bits = 16 from rfl, Int.fdiv_eq_ediv_of_nonneg _ (by decide), wrap_in (by omega) (by omega)]
  rfl
theorem flo {x : Nat} (hx : x < 256) : IntKind.i64.wrap (IntKind.u8.wrap ((BitVec.ofInt IntKind.u8.bits (x : Int) &&& BitVec.ofInt IntKind.u8.bits 15).toNat : Int)) = ((x % 16 : Nat) : Int) := by
  have h : IntKind.u8.wrap ((BitVec.ofInt IntKind.u8.bits (x : Int) &&& BitVec.ofInt IntKind.u8.bits 15).toNat : Int) = ((x % 16 : Nat) : Int) := and15_u8 x hx
  rw [h, wrap_in (by omega) (by omega)]
theorem fraw_eq {b0 b1 b2 b3 b4 b5 b6 b7 b8 b9 b10 b11 : Nat} (hb : isBytes [b0, b1, b2, b3, b4, b5, b6, b7, b8, b9, b10, b11]) : ({ kind := IntKind.i64.wrap (b0 : Int), frm := IntKind.i64.wrap ((b1 : Int).fdiv (2 ^ min (Int.toNat 4) IntKind.u8.bits)), to := IntKind.i64.wrap (IntKind.u8.wrap ((BitVec.ofInt IntKind.u8.bits (b1 : Int) &&& BitVec.ofInt IntKind.u8.bits 15).toNat : Int)), line := IntKind.i64.wrap (b2 : Int), serial := IntKind.i64.wrap ((BitVec.ofInt IntKind.i64.bits (IntKind.i64.wrap (IntKind.i64.wrap (b3 : Int) * 2 ^ min (Int.toNat 8) IntKind.i64.bits)) ||| BitVec.ofInt IntKind.i64.bits (IntKind.i64.wrap (b4 : Int))).toNat : Int), turn := IntKind.i64.wrap ((BitVec.ofInt IntKind.i64.bits (IntKind.i64.wrap (IntKind.i64.wrap (b5 : Int) * 2 ^ min (Int.toNat 8) IntKind.i64.bits)) ||| BitVec.ofInt IntKind.i64.bits (IntKind.i64.wrap (b6 : Int))).toNat : Int), value := IntKind.i64.wrap (b7 : Int), alone := (b8 : Int) == 1 } : Msg) = readF [b0, b1, b2, b3, b4, b5, b6, b7, b8, b9, b10, b11] := by
  have h0 : b0 < 256 := hb 0 (Nat.le_of_ble_eq_true rfl)
  have h1 : b1 < 256 := hb 1 (Nat.le_of_ble_eq_true rfl)
  have h2 : b2 < 256 := hb 2 (Nat.le_of_ble_eq_true rfl)
  have h7 : b7 < 256 := hb 7 (Nat.le_of_ble_eq_true rfl)
  rw [fp2 (x := b3) (y := b4) (hb 3 (Nat.le_of_ble_eq_true rfl)) (hb 4 (Nat.le_of_ble_eq_true rfl)), fp2 (x := b5) (y := b6) (hb 5 (Nat.le_of_ble_eq_true rfl)) (hb 6 (Nat.le_of_ble_eq_true rfl)), fhi h1, flo h1, w_byte h0, w_byte h2, w_byte h7]
  rfl
theorem fsum_is {b0 b1 b2 b3 b4 b5 b6 b7 b8 b9 b10 b11 : Nat} (hb : isBytes [b0, b1, b2, b3, b4, b5, b6, b7, b8, b9, b10, b11]) {x : Bool} (h : (((csum 65535 (List.map (fun e => (byteOf e).toNat) (List.take (Int.toNat 10 - Int.toNat 0) (List.drop (Int.toNat 0) (rowB [b0, b1, b2, b3, b4, b5, b6, b7, b8, b9, b10, b11])))) : Nat) : Int) != IntKind.i64.wrap ((BitVec.ofInt IntKind.i64.bits (IntKind.i64.wrap (IntKind.i64.wrap (b10 : Int) * 2 ^ min (Int.toNat 8) IntKind.i64.bits)) ||| BitVec.ofInt IntKind.i64.bits (IntKind.i64.wrap (b11 : Int))).toNat : Int)) = x) : sumBad [b0, b1, b2, b3, b4, b5, b6, b7, b8, b9, b10, b11] = x := by
  have e1 : List.map (fun e => (byteOf e).toNat) (List.take (Int.toNat 10 - Int.toNat 0) (List.drop (Int.toNat 0) (rowB [b0, b1, b2, b3, b4, b5, b6, b7, b8, b9, b10, b11]))) = [b0, b1, b2, b3, b4, b5, b6, b7, b8, b9] := rowB_back (isB_ten hb)
  rw [e1, fp2 (x := b10) (y := b11) (hb 10 (Nat.le_of_ble_eq_true rfl)) (hb 11 (Nat.le_of_ble_eq_true rfl))] at h
  exact h
set_option maxHeartbeats 4000000 in
theorem fparse_ok (c : Cfg) (b : List Nat) (hb : isBytes b) (r : Msg × Int) (hr : parseF c b = r) : FunOK Tryz.prog 91 [.agg (cfgC c), Ro (rowB b)] (hOf []) (.tup [.agg (msgC r.1), V r.2]) (hOf []) := by
  refine fun_deep (pins := []) (l0 := []) (objs := []) (base := 0) (xb_ok tabFW_ok [104] [104, 107]) mixed Tryz.func91 rfl (Nat.le_of_ble_eq_true rfl) rfl rfl ?_
  by_cases hl : b.length = 12
  · match b, hl with
    | [b0, b1, b2, b3, b4, b5, b6, b7, b8, b9, b10, b11], _ =>
      repeat' ((conv => whnf); first | exact trivial | (with_reducible refine ap_of ?_; kernel_rfl) | (with_reducible refine ds_of ?_; kernel_rfl) | (with_reducible refine eq_of ?_; kernel_rfl) | exact rfl | (intro h; exact absurd h (by decide)) | intro _ | apply And.intro)
      all_goals first | rfl | decide | exact Nat.le_refl _ | exact (by decide : (10 : Int) ≤ ((12 : Nat) : Int)) | exact (by decide : (0 : Nat) < 12) | exact (by decide : (1 : Nat) < 12) | exact (by decide : (2 : Nat) < 12) | exact (by decide : (3 : Nat) < 12) | exact (by decide : (4 : Nat) < 12) | exact (by decide : (5 : Nat) < 12) | exact (by decide : (6 : Nat) < 12) | exact (by decide : (7 : Nat) < 12) | exact (by decide : (8 : Nat) < 12) | exact (by decide : (9 : Nat) < 12) | exact (by decide : (10 : Nat) < 12) | exact (by decide : (11 : Nat) < 12) | exact (by decide : (0 : Int) < ((12 : Nat) : Int)) | exact (by decide : (1 : Int) < ((12 : Nat) : Int)) | exact (by decide : (2 : Int) < ((12 : Nat) : Int)) | exact (by decide : (3 : Int) < ((12 : Nat) : Int)) | exact (by decide : (4 : Int) < ((12 : Nat) : Int)) | exact (by decide : (5 : Int) < ((12 : Nat) : Int)) | exact (by decide : (6 : Int) < ((12 : Nat) : Int)) | exact (by decide : (7 : Int) < ((12 : Nat) : Int)) | exact (by decide : (8 : Int) < ((12 : Nat) : Int)) | exact (by decide : (9 : Int) < ((12 : Nat) : Int)) | exact (by decide : (10 : Int) < ((12 : Nat) : Int)) | exact (by decide : (11 : Int) < ((12 : Nat) : Int)) | skip
      · rename_i a
        exact absurd (show (((12 : Nat) : Int) != 12) = true from a) (by decide)
      · rename_i u hu
        obtain ⟨x, _, rfl⟩ := List.mem_map.1 hu
        rfl
      · exact ⟨[b0, b1, b2, b3, b4, b5, b6, b7, b8, b9], rfl, isB_ten hb⟩
      · rename_i a
        rw [← hr, pf_sum rfl (fsum_is hb a)]
        rfl
      · rename_i _ a _ _ _ _ a9
        have a9' : ((b9 : Int) != 0) = true := a9
        have a9'' : b9 ≠ 0 := by simpa using a9'
        rw [← hr, pf_form rfl (fsum_is hb a) (.inr a9'')]
        rfl
      · rename_i _ a a8 _ _ _ a9 aw
        have a8' : ¬ (1 : Int) < (b8 : Int) := of_decide_eq_false (eq_of_beq a8)
        have a9' : ((b9 : Int) != 0) = false := a9
        have a9'' : b9 = 0 := by simpa using a9'
        have aw' := Eq.trans (congrArg (fun m => wrongF c m != 0) (fraw_eq hb).symm) aw
        rw [← hr, pf_wrong rfl (fsum_is hb a) (by show b8 ≤ 1; omega) a9'' aw', ← fraw_eq hb]
        rfl
      · rename_i _ a a8 _ _ _ a9 aw
        have a8' : ¬ (1 : Int) < (b8 : Int) := of_decide_eq_false (eq_of_beq a8)
        have a9' : ((b9 : Int) != 0) = false := a9
        have a9'' : b9 = 0 := by simpa using a9'
        have aw' := Eq.trans (congrArg (fun m => wrongF c m != 0) (fraw_eq hb).symm) aw
        rw [← hr, pf_ok rfl (fsum_is hb a) (by show b8 ≤ 1; omega) a9'' aw', ← fraw_eq hb]
        rfl
      · rename_i _ a a8 _ _ _ _
        have a8' : (1 : Int) < (b8 : Int) := Classical.byContradiction fun hn => by
          have e : decide ((1 : Int) < (b8 : Int)) = false := decide_eq_false hn
          have a8'' : (decide ((1 : Int) < (b8 : Int)) == false) = false := a8
          rw [e] at a8''
          exact absurd a8'' (by decide)
        rw [← hr, pf_form rfl (fsum_is hb a) (.inl (by show 1 < b8; omega))]
        rfl
  · have hl2 : ¬ (rowB b).length = 12 := by rw [rowB_len]; exact hl
    rw [parseF_short hl] at hr
    subst hr
    repeat' ((conv => whnf); first | exact trivial | (with_reducible refine ap_of ?_; kernel_rfl) | (with_reducible refine ds_of ?_; kernel_rfl) | (with_reducible refine eq_of ?_; kernel_rfl) | exact rfl | (intro h; exact absurd h (by decide)) | intro _ | apply And.intro)
    all_goals first | rfl | (exfalso; simp_all <;> omega) | skip
end Go.Proofs.YtpgeopefamomnaeGreat

