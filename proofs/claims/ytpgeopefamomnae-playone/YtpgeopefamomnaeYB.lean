/- PPlay2 PPlayB PAlive. -/
import Derived.Test.YtpgeopefamomnaeYA
import Derived.Test.YtpgeopefamomnaeRF
set_option linter.unusedSimpArgs false
set_option linter.unusedSectionVars false
namespace Go.Proofs.Ytpgeopefamomnae
open Go.RowKit
set_option linter.unusedVariables false
set_option linter.unusedSimpArgs false
set_option maxRecDepth 100000
def doneZ : SDone := ⟨0, SOp.zero, 0⟩
def ofF (ds : List SDone) (p : Int) : List SDone := ds.filter fun d => d.core == p
theorem ofF_step (ds : List SDone) (p : Int) (k : Nat) (h : k < ds.length) : ofF (ds.take (k + 1)) p = ofF (ds.take k) p ++ (if (ds.getD k doneZ).core == p then [ds.getD k doneZ] else []) := by
  unfold ofF
  rw [take_snoc ds k doneZ h, List.filter_append]
  congr 1
  rw [List.filter_cons]
  split <;> rfl
theorem ofF_len (ds : List SDone) (p : Int) : (ofF ds p).length ≤ ds.length := List.length_filter_le ..
set_option maxHeartbeats 4000000 in
theorem of_ok (ds : List SDone) (p : Int) (hd : ds.length ≤ 100000) : FunOK Try.prog 8 [Ro (R dnD ds), V p] (hOf []) (Ro (R dnD (ofF ds p))) (hOf []) := by
  refine fun_deep (pins := []) (l0 := []) (objs := []) (base := 0) (xx_ok tab0_ok []) mixed Try.func8 rfl (Nat.le_of_ble_eq_true rfl) rfl rfl ?_
  have hlen : (R dnD ds).length = ds.length := R_len _ _
  repeat' ((conv => whnf); first | exact trivial | (with_reducible refine ap_of ?_; kernel_rfl) | (with_reducible refine ds_of ?_; kernel_rfl) | (with_reducible refine eq_of ?_; kernel_rfl) | exact rfl | (intro h; exact absurd h (by decide)) | intro _ | apply And.intro)
  (conv => whnf)
  refine loop_keep [1, 4, 8] 40 [(1, 1000)] {k : Nat // k ≤ ds.length} (fun k => [(5, .c (.own 1)), (9, V ds.length), (10, V k.1)]) (fun k => [(0, .live (.row [] 5 49 false)), (1, .live (.row (R dnD (ofF (ds.take k.1) p)) 5 49 false))]) (fun k => ds.length - k.1) ⟨0, Nat.zero_le _⟩ ?_
  (conv => whnf)
  refine ⟨?_, ?_⟩
  · repeat' ((conv => whnf); first | exact trivial | exact rfl | apply And.intro)
    all_goals first | exact int_eq (show ((R dnD ds).length : Int) = ds.length by rw [hlen]) | trace_state
  · rintro ⟨k, hk⟩
    have hol : (R dnD (ofF (ds.take k) p)).length ≤ 100000 := by rw [R_len]; have := ofF_len (ds.take k) p; rw [List.length_take] at this; omega
    repeat' ((conv => whnf); first | exact trivial | (with_reducible refine ap_of ?_; kernel_rfl) | (with_reducible refine ds_of ?_; kernel_rfl) | (with_reducible refine eq_of ?_; kernel_rfl) | exact rfl | (intro h; exact absurd h (by decide)) | intro _ | apply And.intro)
    all_goals first
      | (have hlt : k < ds.length := (by have := k_lt (k := k) (n := ds.length) (by assumption); omega)
         have hki : (k : Int) < ds.length := by omega
         have hg : (R dnD ds).getD k [] = dnD (ds.getD k doneZ) := R_get dnD doneZ hlt
         have hst := ofF_step ds p k hlt
         first
           | exact Int.natCast_nonneg _
           | (rw [hlen]; exact hki)
           | (rw [hlen, show ∀ n : Nat, ((n : Nat) : Int).toNat = n from Int.toNat_natCast]; exact hlt)
           | rfl
           | (rw [show ∀ n : Nat, ((n : Nat) : Int).toNat = n from Int.toNat_natCast, hg]; first | rfl | exact Nat.le_refl _)
           | (refine Nat.le_trans (Nat.add_le_add hol (Nat.le_refl _)) ?_; simp; done)
           | (refine len_set1 (by assumption) ?_; rfl)
           | (have h0 : ((((R dnD ds).getD ((k : Nat) : Int).toNat []).getD 0 dz).toI == p) = true := by assumption
              rw [Int.toNat_natCast, hg] at h0
              have h1 : ((ds.getD k doneZ).core == p) = true := h0
              (conv => whnf)
              refine ⟨⟨k + 1, hlt⟩, [(1, ?_)], ?_, ?_⟩
              rotate_left
              · show ds.length - (k + 1) < ds.length - k
                omega
              · repeat' ((conv => whnf); first | exact trivial | exact rfl | apply And.intro)
                · exact succ_eq k (by omega)
                · refine row_eq ?_
                  rw [hst, if_pos h1, Int.toNat_natCast, hg]
                  exact R_app dnD _ [_])
           | (have h0 : ((((R dnD ds).getD ((k : Nat) : Int).toNat []).getD 0 dz).toI == p) = false := by assumption
              rw [Int.toNat_natCast, hg] at h0
              have h1 : ¬ ((ds.getD k doneZ).core == p) = true := by rw [show ((ds.getD k doneZ).core == p) = false from h0]; decide
              (conv => whnf)
              refine ⟨⟨k + 1, hlt⟩, [(1, ?_)], ?_, ?_⟩
              rotate_left
              · show ds.length - (k + 1) < ds.length - k
                omega
              · repeat' ((conv => whnf); first | exact trivial | exact rfl | apply And.intro)
                · exact succ_eq k (by omega)
                · refine row_eq ?_
                  rw [hst, if_neg h1, List.append_nil])
           | trace_state)
      | (have hke : k = ds.length := (by have := k_ge (k := k) (n := ds.length) (by assumption); omega)
         subst hke
         first
           | rfl
           | (show Ro (R dnD (ofF (ds.take ds.length) p)) = _
              rw [List.take_of_length_le (Nat.le_refl _)])
           | trace_state)
      | trace_state
def doneOf (u : List DV) : SDone := ⟨toI0 u 0, ⟨toI0 u 1, toI0 u 2, toI0 u 3⟩, toI0 u 4⟩
def donesR (es : Row) : List SDone := es.map doneOf
theorem donesR_rows (l : List SDone) : donesR (R dnD l) = l := by
  unfold donesR R
  rw [List.map_map]
  exact List.map_id'' (f := doneOf ∘ dnD) (fun _ => rfl) l
def ofT (xs : List AV) (l0 : List (Nat × OS)) : Ans := match xs, l0 with
  | [.c (.d (.row es)), .c (.d (.int .i64 p))], [] => some (∃ ds, es = R dnD ds ∧ ds.length ≤ 100000, Ro (R dnD (ofF (donesR es) p)), [])
  | _, _ => none
theorem of_does : Does Try.prog 8 ofT := ⟨⟨_, Try.func8, by decide, rfl⟩, fun xs l0 p v objs h hp => by
  unfold ofT at h
  split at h
  · cases h
    obtain ⟨ds, rfl, h1⟩ := hp
    rw [donesR_rows]
    exact of_ok ds _ h1
  · cases h⟩
end Go.Proofs.Ytpgeopefamomnae

namespace Go.Proofs.Ytpgeopefamomnae
open Go.RowKit
set_option linter.unusedVariables false
set_option linter.unusedSimpArgs false
set_option maxRecDepth 100000
def memAt (m : List Int) (ds : List SDone) (k : Nat) : List Int := (ds.take k).foldl (fun m d => (flatDo m d.op).1) m
theorem memAt_step (m : List Int) (ds : List SDone) (k : Nat) (d : SDone) (h : k < ds.length) : memAt m ds (k + 1) = (flatDo (memAt m ds k) (ds.getD k d).op).1 := by
  unfold memAt
  rw [take_snoc ds k d h, List.foldl_append]
  rfl
theorem drop_step {α : Type} (l : List α) (k : Nat) (d : α) (h : k < l.length) : l.drop k = l.getD k d :: l.drop (k + 1) := by
  rw [List.drop_eq_getElem_cons h]
  simp [List.getD, h]
theorem flat_len1 (m : List Int) (o : SOp) : (flatDo m o).1.length ≤ m.length := by
  unfold flatDo
  (repeat' split) <;> simp
theorem memAt_len (m : List Int) (ds : List SDone) : ∀ k, k ≤ ds.length → (memAt m ds k).length ≤ m.length
  | 0, _ => Nat.le_refl _
  | k + 1, h => by
    rw [memAt_step m ds k ⟨0, SOp.zero, 0⟩ (by omega)]
    exact Nat.le_trans (flat_len1 _ _) (memAt_len m ds k (by omega))
theorem zero_row (k : Nat) : rowsI (List.replicate k 0) ++ (List.replicate 1 [J 0]).set 0 [J 0] = rowsI (List.replicate (k + 1) 0) := by
  rw [List.replicate_succ' (n := k)]
  simp [rowsI]
set_option maxHeartbeats 8000000
theorem rplay_ok (L : Nat) (ds : List SDone) (hL : L ≤ 1000) (hd : ds.length ≤ 100000) : FunOK Try.prog 7 [V L, Ro (R dnD ds)] (hOf []) (.tup [RI (playF L ds).1, V (playF L ds).2]) (hOf []) := by
  refine fun_deep (pins := []) (l0 := []) (objs := []) (base := 0) (xx_ok tabD_ok [11]) mixed Try.func7 rfl (Nat.le_of_ble_eq_true rfl) rfl rfl ?_
  have hm : (if (0 : Int) > (L : Int) then 0 else (L : Int)) = L := by rw [if_neg (by omega)]
  have hlen : (R dnD ds).length = ds.length := R_len _ _
  repeat' ((conv => whnf); first | exact trivial | (with_reducible refine ap_of ?_; kernel_rfl) | (with_reducible refine ds_of ?_; kernel_rfl) | (with_reducible refine eq_of ?_; kernel_rfl) | exact rfl | (intro h; exact absurd h (by decide)) | intro _ | apply And.intro)
  all_goals try simp only [hm]
  (conv => whnf)
  refine loop_keep [1, 4, 5] 40 [(1, 1000)] {k : Nat // k ≤ L} (fun k => [(6, .c (.own 1)), (13, V L), (14, V k.1)]) (fun k => [(0, .live (.row [] 1 3 false)), (1, .live (.row (rowsI (List.replicate k.1 0)) 1 3 false))]) (fun k => L - k.1) ⟨0, Nat.zero_le _⟩ ?_
  (conv => whnf)
  refine ⟨?_, ?_⟩
  · repeat' ((conv => whnf); first | exact trivial | exact rfl | apply And.intro)
    all_goals first | exact int_eq hm | trace_state
  · rintro ⟨k, hk⟩
    have hrl : (rowsI (List.replicate k 0)).length ≤ 1000 := by rw [rowsI_len, List.length_replicate]; omega
    repeat' ((conv => whnf); first | exact trivial | (with_reducible refine ap_of ?_; kernel_rfl) | (with_reducible refine ds_of ?_; kernel_rfl) | (with_reducible refine eq_of ?_; kernel_rfl) | exact rfl | (intro h; exact absurd h (by decide)) | intro _ | apply And.intro)
    all_goals first
      | (have hlt : k < L := (by have := k_lt (k := k) (n := L) (by assumption); omega)
         first
           | rfl
           | (refine Nat.le_trans (Nat.add_le_add hrl (Nat.le_refl _)) ?_; simp; done)
           | (refine len_set1 (by assumption) ?_; rfl)
           | ((conv => whnf)
              refine ⟨⟨k + 1, hlt⟩, [(1, ?_)], ?_, ?_⟩
              rotate_left
              · show L - (k + 1) < L - k
                omega
              · repeat' ((conv => whnf); first | exact trivial | exact rfl | apply And.intro)
                · exact succ_eq k (by omega)
                · exact row_eq (zero_row k)))
      | skip
    have hke : k = L := (by have := k_ge (k := k) (n := L) (by assumption); omega)
    subst hke
    have hz : (memZ k : List Int) = List.replicate k 0 := by unfold memZ; rw [Int.toNat_natCast]
    have hzl : (memZ k).length = k := by rw [hz, List.length_replicate]
    (conv => whnf)
    refine loop_keep [20] 80 [] {i : Nat // i ≤ ds.length ∧ playF k ds = playFrom i (memAt (memZ k) ds i) (ds.drop i)} (fun i => match i.1 with | 0 => [(4, .c (.own 0)), (5, V 0), (6, .c (.own 1)), (21, V ds.length), (22, V 0)] | j + 1 => [(4, .c (.own 0)), (5, V 0), (6, RI (memAt (memZ k) ds (j + 1))), (21, V ds.length), (22, V (j + 1 : Nat))]) (fun i => match i.1 with | 0 => [(0, .live (.row [] 1 3 false)), (1, .live (.row (rowsI (List.replicate k 0)) 1 3 false))] | j + 1 => [(0, .live (.row [] 1 3 false))]) (fun i => ds.length - i.1) ⟨0, Nat.zero_le _, rfl⟩ ?_
    (conv => whnf)
    refine ⟨?_, ?_⟩
    · repeat' ((conv => whnf); first | exact trivial | exact rfl | apply And.intro)
      all_goals first | exact int_eq (show ((R dnD ds).length : Int) = ds.length by rw [hlen]) | trace_state
    · rintro ⟨i, hi, hP⟩
      have hml := memAt_len (memZ k) ds i hi
      match i, hi with
      | 0, hi =>
        repeat' ((conv => whnf); first | exact trivial | (with_reducible refine ap_of ?_; kernel_rfl) | (with_reducible refine ds_of ?_; kernel_rfl) | (with_reducible refine eq_of ?_; kernel_rfl) | exact rfl | (intro h; exact absurd h (by decide)) | intro _ | apply And.intro)
        all_goals first
          | (have hlt : 0 < ds.length := (by have := k_lt (k := 0) (n := ds.length) (by assumption); omega)
             have hki : ((0 : Nat) : Int) < ds.length := by omega
             have hg : (R dnD ds).getD (0) [] = dnD (ds.getD (0) doneZ) := R_get dnD doneZ hlt
             have hD : (flatDo (intsR (rowsI (memAt (memZ k) ds (0)))) ⟨(((R dnD ds).getD ((0 : Nat) : Int).toNat []).getD 1 dz).toI, (((R dnD ds).getD ((0 : Nat) : Int).toNat []).getD 2 dz).toI, (((R dnD ds).getD ((0 : Nat) : Int).toNat []).getD 3 dz).toI⟩) = flatDo (memAt (memZ k) ds (0)) (ds.getD (0) doneZ).op := by
               rw [intsR_rows, Int.toNat_natCast, hg]
               rfl
             have hv : (((R dnD ds).getD ((0 : Nat) : Int).toNat []).getD 4 dz).toI = (ds.getD (0) doneZ).value := by
               rw [Int.toNat_natCast, hg]
               rfl
             have hpf : playF k ds = if (flatDo (memAt (memZ k) ds (0)) (ds.getD (0) doneZ).op).2.2 ≠ 0 ∨ (flatDo (memAt (memZ k) ds (0)) (ds.getD (0) doneZ).op).2.1 ≠ (ds.getD (0) doneZ).value then (memAt (memZ k) ds (0), ((0 : Nat) : Int)) else playFrom (0 + 1) (flatDo (memAt (memZ k) ds (0)) (ds.getD (0) doneZ).op).1 (ds.drop (0 + 1)) := by
               rw [hP, drop_step ds (0) doneZ hlt, playFrom]
             first
               | exact Int.natCast_nonneg _
               | (rw [hlen]; exact hki)
               | (rw [hlen, show ∀ n : Nat, ((n : Nat) : Int).toNat = n from Int.toNat_natCast]; exact hlt)
               | (rw [show ∀ n : Nat, ((n : Nat) : Int).toNat = n from Int.toNat_natCast, hg]; first | rfl | exact Nat.le_refl _)
               | exact Nat.lt_of_lt_of_eq hlt hlen.symm
               | (show _ = _; rw [show Int.toNat 0 = 0 from rfl, hg]; rfl)
               | (rw [show Int.toNat 0 = 0 from rfl, hg]; exact Nat.le_refl _)
               | exact ⟨_, rfl, by omega⟩
               | exact ⟨memAt (memZ k) ds (0), by rw [← hz]; rfl, by omega⟩
               | (have h0 : (((flatDo (intsR (rowsI (memAt (memZ k) ds (0)))) ⟨(((R dnD ds).getD ((0 : Nat) : Int).toNat []).getD 1 dz).toI, (((R dnD ds).getD ((0 : Nat) : Int).toNat []).getD 2 dz).toI, (((R dnD ds).getD ((0 : Nat) : Int).toNat []).getD 3 dz).toI⟩).2.2 != 0) == false) = false := by assumption
                  rw [hD] at h0
                  rw [hpf, if_pos (.inl (by simpa using h0))]
                  (show AV.tup [RI (List.replicate k 0), _] = AV.tup [RI (memZ k), _]; rw [hz]; try rfl))
               | (have h0 : ((flatDo (intsR (rowsI (memAt (memZ k) ds (0)))) ⟨(((R dnD ds).getD ((0 : Nat) : Int).toNat []).getD 1 dz).toI, (((R dnD ds).getD ((0 : Nat) : Int).toNat []).getD 2 dz).toI, (((R dnD ds).getD ((0 : Nat) : Int).toNat []).getD 3 dz).toI⟩).2.1 != (((R dnD ds).getD ((0 : Nat) : Int).toNat []).getD 4 dz).toI) = true := by assumption
                  rw [hD, hv] at h0
                  rw [hpf, if_pos (.inr (by simpa using h0))]
                  (show AV.tup [RI (List.replicate k 0), _] = AV.tup [RI (memZ k), _]; rw [hz]; try rfl))
               | (have h0 : (((flatDo (intsR (rowsI (memAt (memZ k) ds (0)))) ⟨(((R dnD ds).getD ((0 : Nat) : Int).toNat []).getD 1 dz).toI, (((R dnD ds).getD ((0 : Nat) : Int).toNat []).getD 2 dz).toI, (((R dnD ds).getD ((0 : Nat) : Int).toNat []).getD 3 dz).toI⟩).2.2 != 0) == false) = true := by assumption
                  have h1 : ((flatDo (intsR (rowsI (memAt (memZ k) ds (0)))) ⟨(((R dnD ds).getD ((0 : Nat) : Int).toNat []).getD 1 dz).toI, (((R dnD ds).getD ((0 : Nat) : Int).toNat []).getD 2 dz).toI, (((R dnD ds).getD ((0 : Nat) : Int).toNat []).getD 3 dz).toI⟩).2.1 != (((R dnD ds).getD ((0 : Nat) : Int).toNat []).getD 4 dz).toI) = false := by assumption
                  rw [hD] at h0
                  rw [hD, hv] at h1
                  have hn : ¬ ((flatDo (memAt (memZ k) ds (0)) (ds.getD (0) doneZ).op).2.2 ≠ 0 ∨ (flatDo (memAt (memZ k) ds (0)) (ds.getD (0) doneZ).op).2.1 ≠ (ds.getD (0) doneZ).value) := by
                    intro hc
                    rcases hc with hc | hc
                    · exact absurd h0 (by simpa using hc)
                    · exact absurd h1 (by simpa using hc)
                  rw [if_neg hn, ← memAt_step (memZ k) ds (0) doneZ hlt] at hpf
                  (conv => whnf)
                  refine ⟨⟨0 + 1, hlt, hpf⟩, [], ?_, ?_⟩
                  · show ds.length - (0 + 1) < ds.length - (0)
                    omega
                  · repeat' ((conv => whnf); first | exact trivial | exact rfl | apply And.intro)
                    all_goals first
                      | exact succ_eq (0) (by omega)
                      | (show RI (flatDo (intsR (rowsI (memAt (memZ k) ds (0)))) ⟨(((R dnD ds).getD ((0 : Nat) : Int).toNat []).getD 1 dz).toI, (((R dnD ds).getD ((0 : Nat) : Int).toNat []).getD 2 dz).toI, (((R dnD ds).getD ((0 : Nat) : Int).toNat []).getD 3 dz).toI⟩).1 = RI (memAt (memZ k) ds (0 + 1))
                         rw [hD, memAt_step (memZ k) ds (0) doneZ hlt])
                      | trace_state)
               | rfl
               | trace_state)
          | (have hke : 0 = ds.length := (by have := k_ge (k := 0) (n := ds.length) (by assumption); omega)
             have hpe : playF k ds = (memAt (memZ k) ds (0), -1) := by rw [hP, List.drop_of_length_le (by omega), playFrom]
             first
               | rfl
               | (rw [hpe]; (show AV.tup [RI (List.replicate k 0), _] = AV.tup [RI (memZ k), _]; rw [hz]; try rfl))
               | trace_state)
          | trace_state
      | j + 1, hi =>
        repeat' ((conv => whnf); first | exact trivial | (with_reducible refine ap_of ?_; kernel_rfl) | (with_reducible refine ds_of ?_; kernel_rfl) | (with_reducible refine eq_of ?_; kernel_rfl) | exact rfl | (intro h; exact absurd h (by decide)) | intro _ | apply And.intro)
        all_goals first
          | (have hlt : j + 1 < ds.length := (by have := k_lt (k := j + 1) (n := ds.length) (by assumption); omega)
             have hki : ((j + 1 : Nat) : Int) < ds.length := by omega
             have hg : (R dnD ds).getD (j + 1) [] = dnD (ds.getD (j + 1) doneZ) := R_get dnD doneZ hlt
             have hD : (flatDo (intsR (rowsI (memAt (memZ k) ds (j + 1)))) ⟨(((R dnD ds).getD ((j + 1 : Nat) : Int).toNat []).getD 1 dz).toI, (((R dnD ds).getD ((j + 1 : Nat) : Int).toNat []).getD 2 dz).toI, (((R dnD ds).getD ((j + 1 : Nat) : Int).toNat []).getD 3 dz).toI⟩) = flatDo (memAt (memZ k) ds (j + 1)) (ds.getD (j + 1) doneZ).op := by
               rw [intsR_rows, Int.toNat_natCast, hg]
               rfl
             have hv : (((R dnD ds).getD ((j + 1 : Nat) : Int).toNat []).getD 4 dz).toI = (ds.getD (j + 1) doneZ).value := by
               rw [Int.toNat_natCast, hg]
               rfl
             have hpf : playF k ds = if (flatDo (memAt (memZ k) ds (j + 1)) (ds.getD (j + 1) doneZ).op).2.2 ≠ 0 ∨ (flatDo (memAt (memZ k) ds (j + 1)) (ds.getD (j + 1) doneZ).op).2.1 ≠ (ds.getD (j + 1) doneZ).value then (memAt (memZ k) ds (j + 1), ((j + 1 : Nat) : Int)) else playFrom (j + 1 + 1) (flatDo (memAt (memZ k) ds (j + 1)) (ds.getD (j + 1) doneZ).op).1 (ds.drop (j + 1 + 1)) := by
               rw [hP, drop_step ds (j + 1) doneZ hlt, playFrom]
             first
               | exact Int.natCast_nonneg _
               | (rw [hlen]; exact hki)
               | (rw [hlen, show ∀ n : Nat, ((n : Nat) : Int).toNat = n from Int.toNat_natCast]; exact hlt)
               | (rw [show ∀ n : Nat, ((n : Nat) : Int).toNat = n from Int.toNat_natCast, hg]; first | rfl | exact Nat.le_refl _)
               | exact Nat.lt_of_lt_of_eq hlt hlen.symm
               | (show _ = _; rw [show Int.toNat 0 = 0 from rfl, hg]; rfl)
               | (rw [show Int.toNat 0 = 0 from rfl, hg]; exact Nat.le_refl _)
               | exact ⟨_, rfl, by omega⟩
               | exact ⟨memAt (memZ k) ds (j + 1), rfl, by omega⟩
               | (have h0 : (((flatDo (intsR (rowsI (memAt (memZ k) ds (j + 1)))) ⟨(((R dnD ds).getD ((j + 1 : Nat) : Int).toNat []).getD 1 dz).toI, (((R dnD ds).getD ((j + 1 : Nat) : Int).toNat []).getD 2 dz).toI, (((R dnD ds).getD ((j + 1 : Nat) : Int).toNat []).getD 3 dz).toI⟩).2.2 != 0) == false) = false := by assumption
                  rw [hD] at h0
                  rw [hpf, if_pos (.inl (by simpa using h0))]
                  try rfl)
               | (have h0 : ((flatDo (intsR (rowsI (memAt (memZ k) ds (j + 1)))) ⟨(((R dnD ds).getD ((j + 1 : Nat) : Int).toNat []).getD 1 dz).toI, (((R dnD ds).getD ((j + 1 : Nat) : Int).toNat []).getD 2 dz).toI, (((R dnD ds).getD ((j + 1 : Nat) : Int).toNat []).getD 3 dz).toI⟩).2.1 != (((R dnD ds).getD ((j + 1 : Nat) : Int).toNat []).getD 4 dz).toI) = true := by assumption
                  rw [hD, hv] at h0
                  rw [hpf, if_pos (.inr (by simpa using h0))]
                  try rfl)
               | (have h0 : (((flatDo (intsR (rowsI (memAt (memZ k) ds (j + 1)))) ⟨(((R dnD ds).getD ((j + 1 : Nat) : Int).toNat []).getD 1 dz).toI, (((R dnD ds).getD ((j + 1 : Nat) : Int).toNat []).getD 2 dz).toI, (((R dnD ds).getD ((j + 1 : Nat) : Int).toNat []).getD 3 dz).toI⟩).2.2 != 0) == false) = true := by assumption
                  have h1 : ((flatDo (intsR (rowsI (memAt (memZ k) ds (j + 1)))) ⟨(((R dnD ds).getD ((j + 1 : Nat) : Int).toNat []).getD 1 dz).toI, (((R dnD ds).getD ((j + 1 : Nat) : Int).toNat []).getD 2 dz).toI, (((R dnD ds).getD ((j + 1 : Nat) : Int).toNat []).getD 3 dz).toI⟩).2.1 != (((R dnD ds).getD ((j + 1 : Nat) : Int).toNat []).getD 4 dz).toI) = false := by assumption
                  rw [hD] at h0
                  rw [hD, hv] at h1
                  have hn : ¬ ((flatDo (memAt (memZ k) ds (j + 1)) (ds.getD (j + 1) doneZ).op).2.2 ≠ 0 ∨ (flatDo (memAt (memZ k) ds (j + 1)) (ds.getD (j + 1) doneZ).op).2.1 ≠ (ds.getD (j + 1) doneZ).value) := by
                    intro hc
                    rcases hc with hc | hc
                    · exact absurd h0 (by simpa using hc)
                    · exact absurd h1 (by simpa using hc)
                  rw [if_neg hn, ← memAt_step (memZ k) ds (j + 1) doneZ hlt] at hpf
                  (conv => whnf)
                  refine ⟨⟨j + 1 + 1, hlt, hpf⟩, [], ?_, ?_⟩
                  · show ds.length - (j + 1 + 1) < ds.length - (j + 1)
                    omega
                  · repeat' ((conv => whnf); first | exact trivial | exact rfl | apply And.intro)
                    all_goals first
                      | exact succ_eq (j + 1) (by omega)
                      | (show RI (flatDo (intsR (rowsI (memAt (memZ k) ds (j + 1)))) ⟨(((R dnD ds).getD ((j + 1 : Nat) : Int).toNat []).getD 1 dz).toI, (((R dnD ds).getD ((j + 1 : Nat) : Int).toNat []).getD 2 dz).toI, (((R dnD ds).getD ((j + 1 : Nat) : Int).toNat []).getD 3 dz).toI⟩).1 = RI (memAt (memZ k) ds (j + 1 + 1))
                         rw [hD, memAt_step (memZ k) ds (j + 1) doneZ hlt])
                      | trace_state)
               | rfl
               | trace_state)
          | (have hke : j + 1 = ds.length := (by have := k_ge (k := j + 1) (n := ds.length) (by assumption); omega)
             have hpe : playF k ds = (memAt (memZ k) ds (j + 1), -1) := by rw [hP, List.drop_of_length_le (by omega), playFrom]
             first
               | rfl
               | (rw [hpe]; try rfl)
               | trace_state)
          | trace_state
def rplayT (xs : List AV) (l0 : List (Nat × OS)) : Ans := match xs, l0 with
  | [.c (.d (.int .i64 l)), .c (.d (.row es))], [] => some ((∃ L : Nat, l = L ∧ L ≤ 1000) ∧ ∃ ds, es = R dnD ds ∧ ds.length ≤ 100000, .tup [RI (playF l (donesR es)).1, V (playF l (donesR es)).2], [])
  | _, _ => none
theorem rplay_does : Does Try.prog 7 rplayT := ⟨⟨_, Try.func7, by decide, rfl⟩, fun xs l0 p v objs h hp => by
  unfold rplayT at h
  split at h
  · cases h
    obtain ⟨⟨L, rfl, h1⟩, ds, rfl, h2⟩ := hp
    rw [donesR_rows]
    exact rplay_ok L ds h1 h2
  · cases h⟩
end Go.Proofs.Ytpgeopefamomnae

namespace Go.Proofs.Ytpgeopefamomnae
open Go.RowKit
set_option linter.unusedVariables false
set_option linter.unusedSimpArgs false
set_option maxRecDepth 100000
def tabPO : Canon := orT 6 stepsT9 (orT 8 ofT tab0)
theorem tabPO_ok : Sound Try.prog tabPO := (tab0_ok.or of_does).or steps9_does
def alv9 : List SStep := [⟨1, 0, 0, 0, ⟨4, 0, 0⟩⟩, ⟨2, 0, 0, 0, ⟨0, 0, 0⟩⟩]
set_option maxHeartbeats 4000000 in
theorem alive9_ok : FunOK Try.prog 5 [] (hOf []) (Vb true) (hOf []) := by
  refine fun_deep (pins := []) (l0 := []) (objs := []) (base := 0) (xx_ok tabPO_ok [6, 8]) mixed Try.func5 rfl (Nat.le_of_ble_eq_true rfl) rfl rfl ?_
  repeat' ((conv => whnf); first | exact trivial | (with_reducible refine ap_of ?_; kernel_rfl) | (with_reducible refine ds_of ?_; kernel_rfl) | (with_reducible refine eq_of ?_; kernel_rfl) | exact rfl | (intro h; exact absurd h (by decide)) | intro _ | apply And.intro)
  all_goals first
    | exact ⟨alv9, rfl, by decide⟩
    | exact ⟨_, rfl, by decide⟩
    | rfl
    | decide
    | (rename_i a; exact absurd a (by decide))
    | trace_state
end Go.Proofs.Ytpgeopefamomnae

