/- DCom DRef1. -/
import Derived.Test.YtpgeopefamomnaeGreatKE
import Derived.Test.YtpgeopefamomnaeGreatPA
import Derived.Test.YtpgeopefamomnaeGreatProg
set_option linter.unusedSimpArgs false
set_option linter.unusedSectionVars false
namespace Go.Proofs.YtpgeopefamomnaeGreat
open Go.RowKit
set_option linter.unusedVariables false
set_option maxRecDepth 100000
theorem ap_of {ops : Array Oper} {Ls : List Log} (h : apartB ops Ls = true) : apartB ops Ls = true := h
theorem ds_of {ops : Array Oper} {N : Nat} (h : dstsB N ops = true) : dstsB N ops = true := h
theorem mixed : Tryz.prog.follows .mixedOrders = true := by kernel_rfl
abbrev J (x : Int) : DV := .int .i64 x
abbrev I (x : Int) : CV := .d (.int .i64 x)
def lineD (l : SLine) : List DV := [J l.state, J l.value, J l.want, J l.serial, J l.seen, J l.gave, J l.given]
def msgD (m : Msg) : List DV := [J m.kind, J m.frm, J m.to, J m.line, J m.serial, J m.turn, J m.value, .bool m.alone]
def doneD (c : Int) (o : SOp) (v : Int) : List DV := [J c, J o.kind, J o.line, J o.value, J v]
def msgC (m : Msg) : List CV := [I m.kind, I m.frm, I m.to, I m.line, I m.serial, I m.turn, I m.value, .d (.bool m.alone)]
def opC (o : SOp) : List CV := [I o.kind, I o.line, I o.value]
def i1 : CV → Option Int
  | .d (.int .i64 x) => some x
  | _ => none
abbrev Ans := Option (Prop × AV × List (Nat × OS))
def orT (K0 : FuncId) (t : List AV → List (Nat × OS) → Ans) (S : Canon) : Canon := fun K xs l0 => match Nat.beq K K0 with
  | true => t xs l0
  | false => S K xs l0
def Does (P : Program) (K : FuncId) (t : List AV → List (Nat × OS) → Ans) : Prop :=
  (∃ fn, P.funcs[K]? = some fn ∧ fn.name ≠ "runtime.NumGoroutine" ∧ fn.body.isSome = true) ∧ ∀ xs l0 p v objs, t xs l0 = some (p, v, objs) → p → FunOK P K xs (hOf l0) v (hOf (fullO l0 objs))
theorem Sound.nil {P : Program} : Sound P (fun _ _ _ => none) := fun _ _ _ _ _ _ h _ => by cases h
theorem Sound.or {P : Program} {K0 : FuncId} {t : List AV → List (Nat × OS) → Ans} {S : Canon} (hS : Sound P S) (ht : Does P K0 t) : Sound P (orT K0 t S) := fun K xs l0 p v objs h hp => by
  unfold orT at h
  split at h
  · rename_i hb
    rw [Nat.eq_of_beq_eq_true hb]
    exact ⟨ht.1, ht.2 xs l0 p v objs h hp⟩
  · exact hS K xs l0 p v objs h hp
theorem eq_of {P : Program} {t : TypeId} (h : eqOK P t = true) : eqOK P t = true := h
theorem named : nameB Tryz.prog = true := by kernel_rfl
abbrev Row := List (List DV)
/-- All calls are walked where they stand, but those of the table. -/
def tabIn (ks : List FuncId) : FuncId → Bool := fun K => !(ks.any (Nat.beq K))
def XX (P : Program) (S : Canon) (ks : List FuncId) : Inl := lvl P (spOf S) (tabIn ks) 8
theorem xx_ok {S : Canon} (hS : Sound Tryz.prog S) (ks : List FuncId) : InlOK Tryz.prog (XX Tryz.prog S ks) := lvl_ok (spOf_ok hS) mixed named _ 8
abbrev V (x : Int) : AV := .c (.d (.int .i64 x))
def rowsI (m : List Int) : List (List DV) := m.map fun x => [J x]
abbrev RI (m : List Int) : AV := .c (.d (.row (rowsI m)))
theorem rowsI_len (m : List Int) : (rowsI m).length = m.length := by simp [rowsI]
theorem rowsI_get {m : List Int} {i : Nat} (h : i < m.length) : (rowsI m).getD i [] = [J (m.getD i 0)] := by
  simp [rowsI, h]
theorem and255 (z : Int) : IntKind.i64.wrap ((BitVec.ofInt IntKind.i64.bits (IntKind.i64.wrap z) &&& BitVec.ofInt IntKind.i64.bits 255).toNat : Int) = z % 256 := by
  simp only [BitVec.toNat_and]
  have h1 : (BitVec.ofInt IntKind.i64.bits 255).toNat = 255 := by decide
  have h2 : ∀ z, (BitVec.ofInt IntKind.i64.bits z).toNat = (z % 18446744073709551616).toNat := fun z => by
    show (BitVec.ofInt 64 z).toNat = _
    simp
  rw [h1, h2, Nat.and_two_pow_sub_one_eq_mod _ 8]
  have h3 : ∀ z : Int, 0 ≤ z % 18446744073709551616 := fun z => Int.emod_nonneg _ (by decide)
  have h4 := h3 (IntKind.i64.wrap z)
  simp only [IntKind.wrap, IntKind.bits, IntKind.signed] at *
  simp at *
  split at h4 <;> (repeat' split) <;> omega
theorem wrap_in {x : Int} (h1 : -9223372036854775808 ≤ x) (h2 : x < 9223372036854775808) : IntKind.i64.wrap x = x := by
  simp only [IntKind.wrap, IntKind.bits, IntKind.signed]
  simp
  (repeat' split) <;> omega
def rowsL (ls : List SLine) : Row := ls.map lineD
def coreC (ls : Row) (w : SOp) : List CV := [.d (.row ls), I w.kind, I w.line, I w.value]
def line0 : SLine := ⟨0, 0, 0, 0, 0, 0, 0⟩
theorem rowsL_len (ls : List SLine) : (rowsL ls).length = ls.length := by simp [rowsL]
theorem rowsL_get {ls : List SLine} {i : Nat} (h : i < ls.length) : (rowsL ls).getD i [] = lineD (ls.getD i line0) := by simp [rowsL, h]
theorem copyR (es : Row) (d : List DV) : List.take (List.replicate ((es.length : Int)).toNat d).length es ++ List.drop es.length (List.replicate ((es.length : Int)).toNat d) = es := by simp
theorem rowsL_one (ls : List SLine) (u : List DV) (h : u ∈ rowsL ls) : u.length = 7 := by
  simp [rowsL] at h
  obtain ⟨a, _, rfl⟩ := h
  rfl
/-- The same; of bs it is only read what they are given. -/
def XB (P : Program) (S : Canon) (bs ks : List FuncId) : Inl := lvl P (spB S bs) (tabIn ks) 8
theorem xb_ok {S : Canon} (hS : Sound Tryz.prog S) (bs ks : List FuncId) : InlOK Tryz.prog (XB Tryz.prog S bs ks) := lvl_ok (spB_ok hS bs) mixed named _ 8
def R {α : Type} (f : α → List DV) (l : List α) : Row := l.map f
theorem R_len {α : Type} (f : α → List DV) (l : List α) : (R f l).length = l.length := by simp [R]
theorem R_get {α : Type} (f : α → List DV) {l : List α} {i : Nat} (d : α) (h : i < l.length) : (R f l).getD i [] = f (l.getD i d) := by simp [R, h]
theorem R_set {α : Type} (f : α → List DV) (l : List α) (i : Nat) (x : α) : (R f l).set i (f x) = R f (l.set i x) := by simp [R, List.map_set]
theorem R_app {α : Type} (f : α → List DV) (a b : List α) : R f a ++ R f b = R f (a ++ b) := by simp [R]
theorem R_snoc {α : Type} (f : α → List DV) (a : List α) (x : α) : R f a ++ [f x] = R f (a ++ [x]) := by simp [R]
theorem R_one {α : Type} {f : α → List DV} {k : Nat} (hf : ∀ x, (f x).length = k) (l : List α) (u : List DV) (h : u ∈ R f l) : u.length = k := by
  simp [R] at h
  obtain ⟨a, _, rfl⟩ := h
  exact hf a
theorem take_snoc {α : Type} (l : List α) (k : Nat) (d : α) (h : k < l.length) : l.take (k + 1) = l.take k ++ [l.getD k d] := by
  rw [List.take_succ_eq_append_getElem h]
  simp [h]
theorem row_eq {r r' : Row} {k : Nat} {ty : TypeId} {f : Bool} (h : r = r') : OS.live (.row r k ty f) = OS.live (.row r' k ty f) := by rw [h]
theorem int_eq {x y : Int} (h : x = y) : V x = V y := by rw [h]
theorem succ_eq (k : Nat) (h : k < 9223372036854775807) : V (IntKind.i64.wrap ((k : Int) + 1)) = V ((k + 1 : Nat) : Int) := int_eq (wrap_in (by omega) (by omega))
theorem R_step {α : Type} {f : α → List DV} {A : List α} {k : Nat} (d : α) {x z : List DV} (h : k < A.length) (hx : x = f (A.getD k d)) : R f (A.take k) ++ (List.replicate 1 z).set 0 x = R f (A.take (k + 1)) := by
  rw [take_snoc A k d h, hx]
  simp [R]
theorem k_lt {k : Nat} {n : Int} (h : decide ((k : Int) < n) = true) : (k : Int) < n := of_decide_eq_true h
theorem k_ge {k : Nat} {n : Int} (h : decide ((k : Int) < n) = false) : n ≤ (k : Int) := by have := of_decide_eq_false h; omega
theorem mem_set1 {u z x : List DV} (h : u ∈ (List.replicate 1 z).set 0 x) : u = x := by simpa using h
theorem mem_set2 {u z x y : List DV} (h : u ∈ ((List.replicate 2 z).set 0 x).set 1 y) : u = x ∨ u = y := by simpa using h
theorem len_set1 {u z x : List DV} {n : Nat} (h : u ∈ (List.replicate 1 z).set 0 x) (hx : x.length = n) : u.length = n := by rw [mem_set1 h]; exact hx
theorem len_set2 {u z x y : List DV} {n : Nat} (h : u ∈ ((List.replicate 2 z).set 0 x).set 1 y) (hx : x.length = n) (hy : y.length = n) : u.length = n := by
  rcases mem_set2 h with h | h
  · rw [h]; exact hx
  · rw [h]; exact hy
abbrev Ro (r : Row) : AV := .c (.d (.row r))
end Go.Proofs.YtpgeopefamomnaeGreat

namespace Go.Proofs.YtpgeopefamomnaeGreat
open Go.RowKit
set_option linter.unusedVariables false
set_option maxRecDepth 100000
def tab0 : Canon := fun _ _ _ => none
theorem tab0_ok : Sound Tryz.prog tab0 := Sound.nil
def flatV (m : List Int) (o : SOp) : Int := (tellF (m.getD o.line.toNat 0) o).1
def flatT (m : List Int) (o : SOp) : Int := (tellF (m.getD o.line.toNat 0) o).2
theorem rowsI_step {A : List Int} {k : Nat} {x : Int} {z : List DV} (h : k < A.length) (hx : x = A.getD k 0) : rowsI (A.take k) ++ (List.replicate 1 z).set 0 [J x] = rowsI (A.take (k + 1)) := by
  rw [take_snoc A k 0 h, hx]
  simp [rowsI]
theorem add_w (v w : Int) : (IntKind.i64.wrap ((IntKind.i64.wrap (v + w)).tmod 256 + 256)).tmod 256 = (v + w) % 256 := by
  have h1 : (IntKind.i64.wrap (v + w)) % 256 = (v + w) % 256 := by
    simp only [IntKind.wrap, IntKind.bits, IntKind.signed]
    simp
    (repeat' split) <;> omega
  generalize IntKind.i64.wrap (v + w) = y at h1
  have h2 : -256 < y.tmod 256 ∧ y.tmod 256 < 256 := ⟨by have := Int.lt_tmod_of_pos y (b := 256) (by decide); omega, Int.tmod_lt_of_pos y (by decide)⟩
  have h3 : (y.tmod 256) % 256 = y % 256 := by
    have := Int.mul_tdiv_add_tmod y 256
    omega
  rw [wrap_in (by omega) (by omega), Int.tmod_eq_emod_of_nonneg (by omega)]
  omega
theorem get_set (m : List Int) (i : Int) (h0 : 0 ≤ i) (v : Int) (k : Nat) (hk : k < m.length) : (m.set i.toNat v).getD k 0 = if (k : Int) = i then v else m.getD k 0 := by
  by_cases e : (k : Int) = i
  · subst e; simp [hk]
  · rw [if_neg e]; simp [List.getElem?_set_ne (show i.toNat ≠ k by omega)]
theorem rowsI_toI {m : List Int} {k : Nat} (h : k < m.length) : (((rowsI m).getD k []).getD 0 dz).toI = m.getD k 0 := by rw [rowsI_get h]; rfl
set_option maxHeartbeats 4000000 in
theorem rdo_ok (m : List Int) (o : SOp) (r : List Int × Int × Int) (hr : flatDo m o = r) (hm : m.length ≤ 1000000000) : FunOK Tryz.prog 31 [RI m, .agg (opC o)] (hOf []) (.tup [RI r.1, V r.2.1, V r.2.2]) (hOf []) := by
  refine fun_deep (pins := []) (l0 := []) (objs := []) (base := 0) (xx_ok tab0_ok []) mixed Tryz.func31 rfl (Nat.le_of_ble_eq_true rfl) rfl rfl ?_
  repeat' ((conv => whnf); first | exact trivial | (with_reducible refine ap_of ?_; kernel_rfl) | (with_reducible refine ds_of ?_; kernel_rfl) | (with_reducible refine eq_of ?_; kernel_rfl) | exact rfl | (intro h; exact absurd h (by decide)) | intro _ | apply And.intro)
  all_goals first | rfl | (unfold flatDo at hr; first | (rw [if_pos (by simp_all <;> omega)] at hr; subst hr; rfl) | (rw [if_neg (by simp_all <;> omega), if_pos (by simp_all [rowsI_len] <;> omega)] at hr; subst hr; rfl)) | skip
  have hk : ¬ (o.kind < 1 ∨ 4 < o.kind) := by simp_all <;> omega
  have hl : ¬ (o.line < 0 ∨ (m.length : Int) ≤ o.line ∨ o.value < 0 ∨ 255 < o.value) := by simp_all [rowsI_len] <;> omega
  unfold flatDo at hr
  rw [if_neg hk, if_neg hl] at hr
  subst hr
  (conv => whnf)
  refine loop_keep [3, 4, 5, 6, 39, 40] 10 [(1, 3000)] {k : Nat // k ≤ m.length} (fun k => [(7, .c (.own 1)), (8, V (if o.line < k.1 then flatT m o else 0)), (41, V k.1)]) (fun k => [(0, .live (.box (opC o) 44)), (8, .live (.row [] 1 3 false)), (1, .live (.row (rowsI ((m.set o.line.toNat (flatV m o)).take k.1)) 1 3 false))]) (fun k => m.length - k.1) ⟨0, Nat.zero_le _⟩ ?_
  (conv => whnf)
  refine ⟨?_, ?_⟩
  · repeat' ((conv => whnf); first | exact trivial | exact rfl | apply And.intro)
    all_goals exact int_eq (if_neg (by show ¬ o.line < ((0 : Nat) : Int); omega)).symm
  · rintro ⟨k, hk⟩
    repeat' ((conv => whnf); first | exact trivial | (with_reducible refine ap_of ?_; kernel_rfl) | (with_reducible refine ds_of ?_; kernel_rfl) | (with_reducible refine eq_of ?_; kernel_rfl) | exact rfl | (intro h; exact absurd h (by decide)) | intro _ | apply And.intro)
    all_goals try (have hlt : k < m.length := by simp_all [rowsI_len] <;> omega)
    all_goals try rw [show (((⟨k, hk⟩ : {k : Nat // k ≤ m.length}).val : Nat) : Int).toNat = k from Int.toNat_natCast k]
    all_goals first | exact Int.natCast_nonneg _ | (rw [rowsI_len]; show ((k : Nat) : Int) < _; omega) | (rw [rowsI_get hlt]; rfl) | (rw [rowsI_len]; exact hlt) | (rw [rowsI_get hlt]; exact Nat.le_refl 1) | (rw [rowsI_len]; simp; omega) | (simp_all; done) | skip
    rotate_right
    · have he : m.length ≤ k := by simp_all [rowsI_len]
      have hke : k = m.length := Nat.le_antisymm hk he
      subst hke
      show AV.tup [RI ((m.set o.line.toNat (flatV m o)).take m.length), V (if o.line < (m.length : Int) then flatT m o else 0), V 0] = AV.tup [RI (m.set o.line.toNat (flatV m o)), V (flatT m o), V 0]
      rw [if_pos (by omega), List.take_of_length_le (by simp)]
    all_goals
      (conv => whnf)
      refine ⟨⟨k + 1, hlt⟩, [(1, ?_)], ?_, ?_⟩
      rotate_left
      · show m.length - (k + 1) < m.length - k
        omega
      · have h0 : 0 ≤ o.line := by omega
        have hx := rowsI_toI hlt
        have hg := get_set m o.line h0 (flatV m o) k hlt
        repeat' ((conv => whnf); first | exact trivial | exact rfl | apply And.intro)
        · refine int_eq ?_
          by_cases he : (k : Int) = o.line
          · rw [if_pos (show o.line < ((k + 1 : Nat) : Int) by omega)]
            have hn : o.line.toNat = k := by omega
            unfold flatT tellF
            rw [hn]
            first | (simp_all <;> omega) | (simp_all; done)
          · have e1 : (o.line < ((k + 1 : Nat) : Int)) = (o.line < (k : Int)) := propext ⟨fun h => by omega, fun h => by omega⟩
            simp_all
        · exact succ_eq k (by omega)
        · refine row_eq (rowsI_step (by simpa using hlt) ?_)
          rw [hg]
          by_cases he : (k : Int) = o.line
          · rw [if_pos he]
            have hn : o.line.toNat = k := by omega
            unfold flatV tellF
            rw [hn]
            simp_all [add_w]
          · rw [if_neg he]
            simp_all
end Go.Proofs.YtpgeopefamomnaeGreat

