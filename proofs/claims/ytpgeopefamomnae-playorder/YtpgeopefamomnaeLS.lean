/- LawPlayOrder. -/
import Derived.Test.YtpgeopefamomnaeYB
import Derived.Test.YtpgeopefamomnaeYC
set_option linter.unusedSimpArgs false
set_option linter.unusedSectionVars false
namespace Go.Proofs.Ytpgeopefamomnae
open Go.RowKit
set_option linter.unusedVariables false
set_option linter.unusedSimpArgs false
set_option maxRecDepth 100000
def tabP3 : Canon := orT 5 alive9T (orT 6 stepsT9 (orT 8 ofT tab0))
theorem tabP3_ok : Sound Try.prog tabP3 := ((tab0_ok.or of_does).or steps9_does).or alive9_does
def ksP3 : List FuncId := [5, 6, 8]
def opD9 (o : SOp) : List DV := [J o.kind, J o.line, J o.value]
set_option maxHeartbeats 8000000
theorem pord_bad {a b : Int} {l : List SStep} {p : Int} (hb : ∀ s ∈ l, s.bit < 9223372036854775808) (h : (stepsRes ⟨a, b⟩ (stepsR (R stepD l))).2 ≠ 0) : FunOK Try.prog 4 [.agg [I a, I b], Ro (R stepD l), V p] (hOf []) (Vb true) (hOf []) := by
  refine fun_deep (pins := []) (l0 := []) (objs := []) (base := 0) (xx_ok tabP3_ok ksP3) mixed Try.func4 rfl (Nat.le_of_ble_eq_true rfl) rfl rfl ?_
  have hx : ¬ ((((stepsRes ⟨a, b⟩ (stepsR (R stepD l))).2 != 0) == false) = true) := by simpa using h
  repeat' ((conv => whnf); first | exact trivial | (with_reducible refine ap_of ?_; kernel_rfl) | (with_reducible refine ds_of ?_; kernel_rfl) | (with_reducible refine eq_of ?_; kernel_rfl) | exact rfl | (intro h; exact absurd h (by decide)) | (intro h; with_reducible exact absurd h hx) | intro _ | apply And.intro)
  all_goals clear hx
  all_goals first
    | exact ⟨l, rfl, hb⟩
    | (rw [show ((stepsRes ⟨a, b⟩ (stepsR (R stepD l))).2 != 0) = true from by simpa using h]; rfl)
    | rfl
    | trace_state
theorem pord_ok {a b : Int} {l : List SStep} {p : Int} (hb : ∀ s ∈ l, s.bit < 9223372036854775808) (h : stepsRes ⟨a, b⟩ (stepsR (R stepD l)) = (runF ⟨a, b⟩ l, 0)) (hN : (newF ⟨a, b⟩).2 = 0) (hl : l.length ≤ 300) : FunOK Try.prog 4 [.agg [I a, I b], Ro (R stepD l), V p] (hOf []) (Vb true) (hOf []) := by
  refine fun_deep (pins := []) (l0 := []) (objs := []) (base := 0) (xx_ok tabP3_ok ksP3) mixed Try.func4 rfl (Nat.le_of_ble_eq_true rfl) rfl rfl ?_
  have hlen : (R stepD l).length = l.length := R_len _ _
  obtain ⟨_, _, _, _, _, _, _, ha, hd⟩ := run_xi hN l
  have hal : (R ansD (runF ⟨a, b⟩ l).ans).length = l.length := by rw [R_len]; exact ha
  obtain ⟨w, hw1, hw2⟩ := order_law hN l p
  have hx : ¬ ((((stepsRes ⟨a, b⟩ (stepsR (R stepD l))).2 != 0) == false) = false) := by rw [h]; simp
  have hx2 : ¬ (((((R ansD (stepsRes ⟨a, b⟩ (stepsR (R stepD l))).1.ans).length : Int) != ((R stepD l).length : Int)) = true)) := by
    rw [h, hlen]
    show ¬ (((((R ansD (runF ⟨a, b⟩ l).ans).length : Int) != (l.length : Int))) = true)
    rw [hal]
    simp
  have hD : ofF (donesR (R dnD (stepsRes ⟨a, b⟩ (stepsR (R stepD l))).1.done)) p = ofF (runF ⟨a, b⟩ l).done p := by rw [h, donesR_rows]
  have hdl : ((R dnD (ofF (donesR (R dnD (stepsRes ⟨a, b⟩ (stepsR (R stepD l))).1.done)) p)).length : Int) = (ofF (runF ⟨a, b⟩ l).done p).length := by rw [hD, R_len]
  have hbl0 : ((R opD9 (begunF l (runF ⟨a, b⟩ l).ans p l.length)).length : Int) = (ofF (runF ⟨a, b⟩ l).done p).length + w.length := by
    rw [R_len, hw1, List.length_append]
    unfold opsOf
    rw [List.length_map]
    simp
  have hof := ofF_len (runF ⟨a, b⟩ l).done p
  have HDK : ∀ k : Nat, k < (ofF (runF ⟨a, b⟩ l).done p).length → (R dnD (ofF (donesR (R dnD (stepsRes ⟨a, b⟩ (stepsR (R stepD l))).1.done)) p)).getD ((k : Nat) : Int).toNat [] = dnD ((ofF (runF ⟨a, b⟩ l).done p).getD k doneZ) := by
    intro k hlt
    rw [hD, Int.toNat_natCast]
    exact R_get dnD doneZ hlt
  have HBK : ∀ k : Nat, k < (ofF (runF ⟨a, b⟩ l).done p).length → (R opD9 (begunF l (runF ⟨a, b⟩ l).ans p l.length)).getD ((k : Nat) : Int).toNat [] = opD9 ((ofF (runF ⟨a, b⟩ l).done p).getD k doneZ).op := by
    intro k hlt
    have hkl : k < (begunF l (runF ⟨a, b⟩ l).ans p l.length).length := by rw [hw1, List.length_append]; unfold opsOf; rw [List.length_map]; omega
    rw [Int.toNat_natCast, R_get opD9 SOp.zero hkl, hw1]
    unfold opsOf
    simp [List.getD, hlt, List.getElem?_append]
  have hxa : ¬ ((decide (((R dnD (ofF (donesR (R dnD (stepsRes ⟨a, b⟩ (stepsR (R stepD l))).1.done)) p)).length : Int) > ((R opD9 (begunF l (runF ⟨a, b⟩ l).ans p l.length)).length : Int)) == false) = false) := by
    rw [hdl, hbl0]
    simp
    omega
  have hxb : ¬ (decide (IntKind.i64.wrap (((R opD9 (begunF l (runF ⟨a, b⟩ l).ans p l.length)).length : Int) - ((R dnD (ofF (donesR (R dnD (stepsRes ⟨a, b⟩ (stepsR (R stepD l))).1.done)) p)).length : Int)) > 1) = true) := by
    rw [hdl, hbl0, show ((ofF (runF ⟨a, b⟩ l).done p).length : Int) + (w.length : Int) - ((ofF (runF ⟨a, b⟩ l).done p).length : Int) = (w.length : Int) from by omega]
    have : w.length = 0 ∨ w.length = 1 := by omega
    rcases this with e | e <;> rw [e] <;> decide
  repeat' ((conv => whnf); first | exact trivial | (with_reducible refine ap_of ?_; kernel_rfl) | (with_reducible refine ds_of ?_; kernel_rfl) | (with_reducible refine eq_of ?_; kernel_rfl) | exact rfl | (intro h; exact absurd h (by decide)) | (intro h; with_reducible exact absurd h hx) | (intro h; with_reducible exact absurd h hx2) | intro _ | apply And.intro)
  all_goals clear hx hx2
  all_goals first
    | exact ⟨l, rfl, hb⟩
    | skip
  (conv => whnf)
  refine loop_keep [2, 6, 8, 9, 38] 40 [(1, 4000)] {k : Nat // k ≤ l.length} (fun k => [(11, .c (.own 1)), (39, V l.length), (40, V k.1)]) (fun k => [(1, .live (.row (R opD9 (begunF l (runF ⟨a, b⟩ l).ans p k.1)) 3 42 false))]) (fun k => l.length - k.1) ⟨0, Nat.zero_le _⟩ ?_
  (conv => whnf)
  refine ⟨?_, ?_⟩
  · repeat' ((conv => whnf); first | exact trivial | exact rfl | apply And.intro)
    all_goals first | exact int_eq (show ((R stepD l).length : Int) = l.length by rw [hlen]) | trace_state
  · rintro ⟨k, hk⟩
    have hbl : (R opD9 (begunF l (runF ⟨a, b⟩ l).ans p k)).length ≤ 300 := by rw [R_len]; have := begunF_len l (runF ⟨a, b⟩ l).ans p k; omega
    repeat' ((conv => whnf); first | exact trivial | (with_reducible refine ap_of ?_; kernel_rfl) | (with_reducible refine ds_of ?_; kernel_rfl) | (with_reducible refine eq_of ?_; kernel_rfl) | exact rfl | (intro h; exact absurd h (by decide)) | intro _ | apply And.intro)
    all_goals first
      | (have hlt : k < l.length := (by have := k_lt (k := k) (n := l.length) (by assumption); omega)
         have hki : (k : Int) < l.length := by omega
         have hg : (R stepD l).getD k [] = stepD (l.getD k SStep.zero) := R_get stepD SStep.zero hlt
         have hga : (R ansD (runF ⟨a, b⟩ l).ans).getD k [] = ansD ((runF ⟨a, b⟩ l).ans.getD k ⟨0, 0⟩) := R_get ansD ⟨0, 0⟩ (by omega)
         have hE : ((R ansD (stepsRes ⟨a, b⟩ (stepsR (R stepD l))).1.ans).getD ((k : Nat) : Int).toNat []) = ansD ((runF ⟨a, b⟩ l).ans.getD k ⟨0, 0⟩) := by rw [h, Int.toNat_natCast]; exact hga
         have hs : begunF l (runF ⟨a, b⟩ l).ans p (k + 1) = begunF l (runF ⟨a, b⟩ l).ans p k ++ (if (l.getD k SStep.zero).kind = 1 ∧ (l.getD k SStep.zero).node = p ∧ ((runF ⟨a, b⟩ l).ans.getD k ⟨0, 0⟩).err = 0 then [(l.getD k SStep.zero).op] else []) := rfl
         first
           | exact Int.natCast_nonneg _
           | (rw [hlen]; exact hki)
           | (rw [hlen, show ∀ n : Nat, ((n : Nat) : Int).toNat = n from Int.toNat_natCast]; exact hlt)
           | rfl
           | (rw [show ∀ n : Nat, ((n : Nat) : Int).toNat = n from Int.toNat_natCast, hg]; first | rfl | exact Nat.le_refl _)
           | (refine len_set1 (by assumption) ?_; rfl)
           | (rw [h]
              first
                | (show (k : Int) < ((R ansD (runF ⟨a, b⟩ l).ans).length : Int); rw [hal]; exact hki)
                | (show ((k : Int)).toNat < (R ansD (runF ⟨a, b⟩ l).ans).length; rw [hal, Int.toNat_natCast]; exact hlt))
           | (show 0 + 0 + 1 ≤ ((R ansD (stepsRes ⟨a, b⟩ (stepsR (R stepD l))).1.ans).getD ((k : Nat) : Int).toNat []).length
              rw [hE]
              exact Nat.le_of_ble_eq_true rfl)
           | (show ((R ansD (stepsRes ⟨a, b⟩ (stepsR (R stepD l))).1.ans).getD ((k : Nat) : Int).toNat []).length = 2
              rw [hE]
              rfl)
           | (show typed _ (((R ansD (stepsRes ⟨a, b⟩ (stepsR (R stepD l))).1.ans).getD ((k : Nat) : Int).toNat []).getD (0 + 0) dz) = CV.d (((R ansD (stepsRes ⟨a, b⟩ (stepsR (R stepD l))).1.ans).getD ((k : Nat) : Int).toNat []).getD (0 + 0) dz)
              rw [hE]
              rfl)
           | (refine Nat.le_trans (Nat.add_le_add hbl (Nat.le_refl _)) ?_; simp; done)
           | (have c1 : (((((R stepD l).getD ((k : Nat) : Int).toNat []).getD 0 dz).toI == 1) == true) = true := by assumption
              have c2 : (((((R stepD l).getD ((k : Nat) : Int).toNat []).getD (0 + 1) dz).toI == p) == true) = true := by assumption
              have c3 : ((((R ansD (stepsRes ⟨a, b⟩ (stepsR (R stepD l))).1.ans).getD ((k : Nat) : Int).toNat []).getD (0 + 0) dz).toI == 0) = true := by assumption
              rw [Int.toNat_natCast, hg] at c1 c2
              rw [hE] at c3
              have c1 : (((l.getD k SStep.zero).kind == 1) == true) = true := c1
              have c2 : (((l.getD k SStep.zero).node == p) == true) = true := c2
              have c3 : (((runF ⟨a, b⟩ l).ans.getD k ⟨0, 0⟩).err == 0) = true := c3
              rw [if_pos ⟨by simpa using c1, by simpa using c2, by simpa using c3⟩] at hs
              (conv => whnf)
              refine ⟨⟨k + 1, hlt⟩, [(1, ?_)], ?_, ?_⟩
              rotate_left
              · show l.length - (k + 1) < l.length - k
                omega
              · repeat' ((conv => whnf); first | exact trivial | exact rfl | apply And.intro)
                · exact succ_eq k (by omega)
                · refine row_eq ?_
                  rw [hs, Int.toNat_natCast, hg]
                  exact R_app opD9 _ [_])
           | (have c1 : ((((R stepD l).getD ((k : Nat) : Int).toNat []).getD 0 dz).toI == 1) = false := by first | assumption | simpa using (by assumption : (((((R stepD l).getD ((k : Nat) : Int).toNat []).getD 0 dz).toI == 1) == true) = false)
              rw [Int.toNat_natCast, hg] at c1
              have c1 : ((l.getD k SStep.zero).kind == 1) = false := c1
              have hno : ¬ ((l.getD k SStep.zero).kind = 1 ∧ (l.getD k SStep.zero).node = p ∧ ((runF ⟨a, b⟩ l).ans.getD k ⟨0, 0⟩).err = 0) := fun e => by rw [e.1] at c1; simp at c1
              rw [if_neg hno, List.append_nil] at hs
              (conv => whnf)
              refine ⟨⟨k + 1, hlt⟩, [(1, ?_)], ?_, ?_⟩
              rotate_left
              · show l.length - (k + 1) < l.length - k
                omega
              · repeat' ((conv => whnf); first | exact trivial | exact rfl | apply And.intro)
                · exact succ_eq k (by omega)
                · refine row_eq ?_
                  rw [hs])
           | (have c2 : ((((R stepD l).getD ((k : Nat) : Int).toNat []).getD (0 + 1) dz).toI == p) = false := by simpa using (by assumption : (((((R stepD l).getD ((k : Nat) : Int).toNat []).getD (0 + 1) dz).toI == p) == true) = false)
              rw [Int.toNat_natCast, hg] at c2
              have c2 : ((l.getD k SStep.zero).node == p) = false := c2
              have hno : ¬ ((l.getD k SStep.zero).kind = 1 ∧ (l.getD k SStep.zero).node = p ∧ ((runF ⟨a, b⟩ l).ans.getD k ⟨0, 0⟩).err = 0) := fun e => by rw [e.2.1] at c2; simp at c2
              rw [if_neg hno, List.append_nil] at hs
              (conv => whnf)
              refine ⟨⟨k + 1, hlt⟩, [(1, ?_)], ?_, ?_⟩
              rotate_left
              · show l.length - (k + 1) < l.length - k
                omega
              · repeat' ((conv => whnf); first | exact trivial | exact rfl | apply And.intro)
                · exact succ_eq k (by omega)
                · refine row_eq ?_
                  rw [hs])
           | (have c3 : ((((R ansD (stepsRes ⟨a, b⟩ (stepsR (R stepD l))).1.ans).getD ((k : Nat) : Int).toNat []).getD (0 + 0) dz).toI == 0) = false := by assumption
              rw [hE] at c3
              have c3 : (((runF ⟨a, b⟩ l).ans.getD k ⟨0, 0⟩).err == 0) = false := c3
              have hno : ¬ ((l.getD k SStep.zero).kind = 1 ∧ (l.getD k SStep.zero).node = p ∧ ((runF ⟨a, b⟩ l).ans.getD k ⟨0, 0⟩).err = 0) := fun e => by rw [e.2.2] at c3; simp at c3
              rw [if_neg hno, List.append_nil] at hs
              (conv => whnf)
              refine ⟨⟨k + 1, hlt⟩, [(1, ?_)], ?_, ?_⟩
              rotate_left
              · show l.length - (k + 1) < l.length - k
                omega
              · repeat' ((conv => whnf); first | exact trivial | exact rfl | apply And.intro)
                · exact succ_eq k (by omega)
                · refine row_eq ?_
                  rw [hs])
           | trace_state)
      | (have hke : k = l.length := (by have := k_ge (k := k) (n := l.length) (by assumption); omega)
         subst hke
         first
           | exact ⟨(stepsRes ⟨a, b⟩ (stepsR (R stepD l))).1.done, rfl, by rw [h]; show (runF ⟨a, b⟩ l).done.length ≤ 100000; omega⟩
           | exact absurd (by assumption) hxa
           | exact absurd (by assumption) hxb
           | ((conv => whnf)
              obtain ⟨m, hm⟩ : ∃ m, m = (ofF (runF ⟨a, b⟩ l).done p).length := ⟨_, rfl⟩
              rw [← hm] at hdl hbl0 hof
              refine loop_keep [11, 84] 80 [] {k : Nat // k ≤ m} (fun k => [(85, V m), (86, V k.1)]) (fun k => [(1, .live (.row (R opD9 (begunF l (runF ⟨a, b⟩ l).ans p l.length)) 3 42 false))]) (fun k => m - k.1) ⟨0, Nat.zero_le _⟩ ?_
              (conv => whnf)
              refine ⟨?_, ?_⟩
              · repeat' ((conv => whnf); first | exact trivial | exact rfl | apply And.intro)
                all_goals first | exact int_eq hdl | trace_state
              · rintro ⟨k, hk⟩
                repeat' ((conv => whnf); first | exact trivial | (with_reducible refine ap_of ?_; kernel_rfl) | (with_reducible refine ds_of ?_; kernel_rfl) | (with_reducible refine eq_of ?_; kernel_rfl) | exact rfl | (intro h; exact absurd h (by decide)) | intro _ | apply And.intro)
                all_goals first
                  | (have hlt : k < m := (by have := k_lt (k := k) (n := m) (by assumption); omega)
                     have hki : (k : Int) < m := by omega
                     have hdk := HDK k (by omega)
                     have hbk := HBK k (by omega)
                     first
                       | exact Int.natCast_nonneg _
                       | (rw [hdl]; exact hki)
                       | (rw [hbl0]; show (k : Int) < _; omega)
                       | (refine Int.ofNat_lt.1 ?_
                          rw [hdl, Int.toNat_natCast]
                          exact hki)
                       | (refine Int.ofNat_lt.1 ?_
                          rw [hbl0, Int.toNat_natCast]
                          show (k : Int) < _
                          omega)
                       | (rw [hdk]; first | rfl | exact Nat.le_of_ble_eq_true rfl)
                       | (rw [hbk]; first | rfl | exact Nat.le_of_ble_eq_true rfl)
                       | rfl
                       | (refine len_set1 (by assumption) ?_; rfl)
                       | (have hcc : (!((((R dnD (ofF (donesR (R dnD (stepsRes ⟨a, b⟩ (stepsR (R stepD l))).1.done)) p)).getD ((k : Nat) : Int).toNat []).getD (0 + 1) dz).toI == (((R opD9 (begunF l (runF ⟨a, b⟩ l).ans p l.length)).getD ((k : Nat) : Int).toNat []).getD 0 dz).toI && ((((R dnD (ofF (donesR (R dnD (stepsRes ⟨a, b⟩ (stepsR (R stepD l))).1.done)) p)).getD ((k : Nat) : Int).toNat []).getD (0 + 1 + 1) dz).toI == (((R opD9 (begunF l (runF ⟨a, b⟩ l).ans p l.length)).getD ((k : Nat) : Int).toNat []).getD (0 + 1) dz).toI && ((((R dnD (ofF (donesR (R dnD (stepsRes ⟨a, b⟩ (stepsR (R stepD l))).1.done)) p)).getD ((k : Nat) : Int).toNat []).getD (0 + 1 + 1 + 1) dz).toI == (((R opD9 (begunF l (runF ⟨a, b⟩ l).ans p l.length)).getD ((k : Nat) : Int).toNat []).getD (0 + 1 + 1) dz).toI && true)))) = true := by assumption
                          rw [hdk, hbk] at hcc
                          refine absurd hcc (show ¬ ((!(((ofF (runF ⟨a, b⟩ l).done p).getD k doneZ).op.kind == ((ofF (runF ⟨a, b⟩ l).done p).getD k doneZ).op.kind && (((ofF (runF ⟨a, b⟩ l).done p).getD k doneZ).op.line == ((ofF (runF ⟨a, b⟩ l).done p).getD k doneZ).op.line && (((ofF (runF ⟨a, b⟩ l).done p).getD k doneZ).op.value == ((ofF (runF ⟨a, b⟩ l).done p).getD k doneZ).op.value && true)))) = true) from ?_)
                          simp)
                       | ((conv => whnf)
                          refine ⟨⟨k + 1, hlt⟩, [], ?_, ?_⟩
                          · show m - (k + 1) < m - k
                            omega
                          · repeat' ((conv => whnf); first | exact trivial | exact rfl | apply And.intro)
                            all_goals first
                              | exact succ_eq k (by omega)
                              | rfl
                              | trace_state)
                       | trace_state)
                  | (have hke : k = m := (by have := k_ge (k := k) (n := m) (by assumption); omega)
                     first
                       | rfl
                       | trace_state)
                  | trace_state))
      | trace_state
theorem pord_any (c : Cfg) (l : List SStep) (p : Int) (hb : ∀ s ∈ l, s.bit < 9223372036854775808) : FunOK Try.prog 4 [.agg (cfgC c), Ro (R stepD l), V p] (hOf []) (Vb true) (hOf []) := by
  rcases steps_cases c l with ⟨h1, h2⟩ | ⟨h1, h2, h3⟩
  · rw [← stepsR_rows l] at h1
    exact pord_bad (a := c.cores) (b := c.lines) hb h1
  · rw [← stepsR_rows l] at h3
    exact pord_ok (a := c.cores) (b := c.lines) hb (by rw [h3, stepsR_rows]) h1 h2
end Go.Proofs.Ytpgeopefamomnae

