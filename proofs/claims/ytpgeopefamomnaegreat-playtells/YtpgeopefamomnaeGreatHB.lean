/- HTab HHome0. -/
import Derived.Test.YtpgeopefamomnaeGreatHO
import Derived.Test.YtpgeopefamomnaeGreatRF
set_option linter.unusedSimpArgs false
set_option linter.unusedSectionVars false
namespace Go.Proofs.YtpgeopefamomnaeGreat
open Go.RowKit
set_option linter.unusedVariables false
set_option linter.unusedSimpArgs false
set_option maxRecDepth 100000
theorem copyL (la : List Int) : List.take (List.replicate ((la.length : Int)).toNat [DV.int IntKind.i64 0]).length (rowsI la) ++ List.drop la.length (List.replicate ((la.length : Int)).toNat [DV.int IntKind.i64 0]) = rowsI la := by
  have h := copyR (rowsI la) [DV.int IntKind.i64 0]
  rw [rowsI_len] at h
  exact h
theorem says_1 {e : SEntry} (line id : Int) (h : e.phase = 1) : saysF e line id ≠ [] := by
  unfold saysF
  rw [if_pos h]
  simp
theorem says_3 {e : SEntry} (line id : Int) (h : e.phase = 3) : saysF e line id ≠ [] := by
  unfold saysF
  rw [if_neg (by omega), if_neg (by omega), if_pos h]
  simp
theorem says_2 {e : SEntry} (line id : Int) (h : e.phase = 2) (h0 : 0 ≤ e.need) (h1 : e.need < 16) (hn : e.need ≠ 0) : saysF e line id ≠ [] := by
  intro hs
  unfold saysF at hs
  rw [if_neg (by omega), if_pos h] at hs
  obtain ⟨a, ea⟩ := Int.eq_ofNat_of_zero_le h0
  have ha := has_none ⟨a, by omega⟩ fun q => by
    have hf := List.map_eq_nil_iff.1 hs
    rw [List.filter_eq_nil_iff] at hf
    have hq := hf q.val (by have := q.isLt; match q, this with
      | ⟨0, _⟩, _ => simp
      | ⟨1, _⟩, _ => simp
      | ⟨2, _⟩, _ => simp
      | ⟨3, _⟩, _ => simp)
    rw [ea] at hq
    simpa using hq
  have : a = 0 := ha
  omega
theorem next_1 {v o s ph f sr t n : Int} {al : Bool} (h : 0 ≤ o) : nextF ⟨v, o, s, ph, f, sr, al, t, n, []⟩ = ⟨v, o, s, 1, f, sr, al, t, 0, []⟩ := if_pos h
theorem next_3 {v o s ph f sr t n : Int} {al : Bool} (h : ¬ 0 ≤ o) (h0 : needF ⟨v, o, s, ph, f, sr, al, t, n, []⟩ = 0) : nextF ⟨v, o, s, ph, f, sr, al, t, n, []⟩ = ⟨v, o, s, 3, f, sr, al, t, 0, []⟩ := by
  unfold nextF
  rw [if_neg h, h0]
  rfl
theorem next_2 {v o s ph f sr t n : Int} {al : Bool} (h : ¬ 0 ≤ o) (h0 : needF ⟨v, o, s, ph, f, sr, al, t, n, []⟩ ≠ 0) : nextF ⟨v, o, s, ph, f, sr, al, t, n, []⟩ = ⟨v, o, s, 2, f, sr, al, t, needF ⟨v, o, s, ph, f, sr, al, t, n, []⟩, []⟩ := by
  unfold nextF
  rw [if_neg h, if_neg h0]
theorem need_off {v o s ph f sr t n : Int} : needF ⟨v, o, s, ph, f, sr, false, t, n, []⟩ = 0 := by
  unfold needF needOne
  simp
def speakT (xs : List AV) (l0 : List (Nat × OS)) : Ans := match xs, l0 with
  | [.c (.ptr 0 0 0 13)], [(0, .live (.box [.d (.int .i64 id), .d (.int .i64 at_), .d (.int .i64 v), .d (.int .i64 o), .d (.int .i64 s), .d (.int .i64 ph), .d (.int .i64 f), .d (.int .i64 sr), .d (.bool al), .d (.int .i64 t), .d (.int .i64 n), .own 1, .nils] 163)), (1, .live (.row es 1 3 false))] => some ((0 ≤ n ∧ n < 16) ∧ saysF ⟨v, o, s, ph, f, sr, al, t, n, []⟩ at_ id ≠ [], .tup [], [(0, actH id at_ ⟨v, o, s, ph, f, sr, al, t, n, []⟩ (.own 1) (.own 2)), (1, lastO es), (2, saidO (saysF ⟨v, o, s, ph, f, sr, al, t, n, []⟩ at_ id))])
  | _, _ => none
theorem speak_does : Does Tryz.prog 115 speakT := ⟨⟨_, Tryz.func115, by decide, rfl⟩, fun xs l0 p v objs h hp => by
  unfold speakT at h
  split at h
  · rename_i id at_ v o s ph f sr al t n es
    cases h
    obtain ⟨hn, hne⟩ := hp
    cases hS : saysF ⟨v, o, s, ph, f, sr, al, t, n, []⟩ at_ id with
    | nil => exact absurd hS hne
    | cons m0 ms => exact speak_ok id at_ ⟨v, o, s, ph, f, sr, al, t, n, []⟩ es hn m0 ms hS
  · cases h⟩
def tabHH : Canon := orT 115 speakT (orT 69 ownHT tab0)
theorem tabHH_ok : Sound Tryz.prog tabHH := (tab0_ok.or ownH_does).or speak_does
def ksHH : List FuncId := [115, 69]
end Go.Proofs.YtpgeopefamomnaeGreat

namespace Go.Proofs.YtpgeopefamomnaeGreat
open Go.RowKit
set_option linter.unusedVariables false
set_option linter.unusedSimpArgs false
set_option maxRecDepth 100000
theorem pe {a b : Int} (h : ((a == b) == true) = true) : a = b := by simpa using h
theorem pn {a b : Int} (h : ((a == b) == true) = false) : a ≠ b := by simpa using h
theorem te {a b : Int} (h : ((!(a == b)) == false) = true) : b = a := by
  have h1 : a = b := by simpa using h
  exact h1.symm
theorem tn {a b : Int} (h : ((!(a == b)) == false) = false) : b ≠ a := by
  intro e
  subst e
  simp at h
theorem bt {a : Bool} (h : (a == true) = true) : a = true := by simpa using h
theorem bfl {a : Bool} (h : (a == true) = false) : a = false := by simpa using h
theorem nt {a : Bool} (h : (!a) = true) : a = false := by simpa using h
theorem nfl {a : Bool} (h : (!a) = false) : a = true := by simpa using h
theorem b0 {a : Int} (h : ((a != 0) == false) = false) : a ≠ 0 := by simpa using h
theorem ld {a b : Int} (h : (decide (a ≤ b) == false) = true) : b < a := by
  have h1 : ¬ a ≤ b := by simpa using h
  omega
theorem lt2 {a b : Int} (h : (decide (a ≤ b) == false) = false) : a ≤ b := by simpa using h
theorem ged {a b : Int} (h : decide (a ≥ b) = true) : b ≤ a := by simpa using h
theorem gef {a b : Int} (h : decide (a ≥ b) = false) : ¬ b ≤ a := by simpa using h
theorem gtd {a b : Int} (h : decide (a > b) = true) : b < a := by simpa using h
theorem gtf {a b : Int} (h : decide (a > b) = false) : ¬ b < a := by simpa using h
theorem eqd {a b : Int} (h : (a == b) = true) : a = b := by simpa using h
theorem eqf {a b : Int} (h : (a == b) = false) : a ≠ b := by simpa using h
theorem ned {a b : Int} (h : (a != b) = true) : a ≠ b := by simpa using h
theorem uw_fin : ∀ f : Fin 4, 0 ≤ IntKind.u64.wrap (f : Nat) := by decide +kernel
theorem uw {f : Int} (h : 0 ≤ f ∧ f < 4) : 0 ≤ IntKind.u64.wrap f := by
  obtain ⟨p, rfl⟩ := Int.eq_ofNat_of_zero_le h.1
  exact uw_fin ⟨p, by omega⟩
theorem off_rng {s f : Int} (s0 : 0 ≤ s) (s1 : s < 16) (f0 : 0 ≤ f) (f1 : f < 4) : 0 ≤ offB s f ∧ offB s f < 16 := by
  obtain ⟨p, rfl⟩ := Int.eq_ofNat_of_zero_le f0
  rw [off_b s0 s1 (by omega : p < 4)]
  by_cases h : hasF s p = true
  · rw [if_pos h]
    exact sub_rng s0 s1 (by omega) h
  · rw [if_neg h]
    exact ⟨s0, s1⟩
theorem lenH_one {u x z : List DV} {n : Nat} (h : u ∈ (List.replicate 1 z).set 0 x) (hx : x.length = n) : u.length = n := by
  have h1 : u ∈ [x] := h
  rw [List.mem_singleton.1 h1]
  exact hx
section
variable {v o s ph f sr t n frm to ln serial turn value line id : Int} {al ma : Bool} {la : List Int} {p : Nat}
theorem no_get (k : Int) (hk : k = 1 ∨ k = 2) (h : ph ≠ 0 ∨ serial ≤ la.getD p 0 ∨ 65535 ≤ t) : homeL ⟨v, o, s, ph, f, sr, al, t, n, la⟩ line id p ⟨k, frm, to, ln, serial, turn, value, ma⟩ = (⟨v, o, s, ph, f, sr, al, t, n, la⟩, []) := by
  unfold homeL lastF
  rw [if_pos (show _ ∨ _ from hk), if_pos (show ph ≠ 0 ∨ serial ≤ la.getD p 0 ∨ 65535 ≤ t from h)]
theorem no_put (h : ph ≠ 0) : homeL ⟨v, o, s, ph, f, sr, al, t, n, la⟩ line id p ⟨3, frm, to, ln, serial, turn, value, ma⟩ = (⟨v, o, s, ph, f, sr, al, t, n, la⟩, []) := by
  unfold homeL lastF
  rw [if_neg (by simp), if_pos rfl, if_pos (show ph ≠ 0 from h)]
theorem no_data (h : ph ≠ 1 ∨ turn ≠ t ∨ o ≠ p) : homeL ⟨v, o, s, ph, f, sr, al, t, n, la⟩ line id p ⟨9, frm, to, ln, serial, turn, value, ma⟩ = (⟨v, o, s, ph, f, sr, al, t, n, la⟩, []) := by
  unfold homeL
  rw [if_neg (by simp), if_neg (by simp), if_pos rfl, if_pos (show ph ≠ 1 ∨ turn ≠ t ∨ o ≠ p from h)]
theorem no_gone (h : ph ≠ 2 ∨ turn ≠ t ∨ hasF n p = false) : homeL ⟨v, o, s, ph, f, sr, al, t, n, la⟩ line id p ⟨8, frm, to, ln, serial, turn, value, ma⟩ = (⟨v, o, s, ph, f, sr, al, t, n, la⟩, []) := by
  unfold homeL
  rw [if_neg (by simp), if_neg (by simp), if_neg (by simp), if_pos rfl, if_pos (show ph ≠ 2 ∨ turn ≠ t ∨ hasF n p = false from h)]
theorem no_thanks (h : ph ≠ 3 ∨ turn ≠ t ∨ f ≠ p) : homeL ⟨v, o, s, ph, f, sr, al, t, n, la⟩ line id p ⟨10, frm, to, ln, serial, turn, value, ma⟩ = (⟨v, o, s, ph, f, sr, al, t, n, la⟩, []) := by
  unfold homeL
  rw [if_neg (by simp), if_neg (by simp), if_neg (by simp), if_neg (by simp), if_pos rfl, if_pos (show ph ≠ 3 ∨ turn ≠ t ∨ f ≠ p from h)]
theorem no_kind {kd : Int} (hk : kd ≠ 1 ∧ kd ≠ 2 ∧ kd ≠ 3 ∧ kd ≠ 8 ∧ kd ≠ 9 ∧ kd ≠ 10) : homeL ⟨v, o, s, ph, f, sr, al, t, n, la⟩ line id p ⟨kd, frm, to, ln, serial, turn, value, ma⟩ = (⟨v, o, s, ph, f, sr, al, t, n, la⟩, []) := by
  unfold homeL
  rw [if_neg (by show ¬ (kd = 1 ∨ kd = 2); omega), if_neg (by show ¬ kd = 3; omega), if_neg (by show ¬ kd = 9; omega), if_neg (by show ¬ kd = 8; omega), if_neg (by show ¬ kd = 10; omega)]
theorem no_gone2 (n0 : 0 ≤ n) (n1 : n < 16) (hp : p < 4) (h : (!(andB n p != 0)) = true) : hasF n p = false := by
  rw [has_b n0 n1 (by omega)] at h
  simpa using h
theorem get_1 (k : Int) (hk : k = 1 ∨ k = 2) (h1 : ph = 0) (h2 : la.getD p 0 < serial) (h3 : ¬ 65535 ≤ t) (ht : 0 ≤ t) (ho : 0 ≤ o) : homeL ⟨v, o, s, ph, f, sr, al, t, n, la⟩ line id p ⟨k, frm, to, ln, serial, turn, value, ma⟩ = (⟨v, o, s, 1, p, serial, decide (k = 2), IntKind.i64.wrap (t + 1), 0, la.set p serial⟩, saysF ⟨v, o, s, 1, p, serial, decide (k = 2), IntKind.i64.wrap (t + 1), 0, []⟩ line id) := by
  rw [home_get k hk h1 h2 (by omega), next_1 ho, wrap_in (by omega) (by omega)]
theorem get_3 (h1 : ph = 0) (h2 : la.getD p 0 < serial) (h3 : ¬ 65535 ≤ t) (ht : 0 ≤ t) (ho : ¬ 0 ≤ o) : homeL ⟨v, o, s, ph, f, sr, al, t, n, la⟩ line id p ⟨1, frm, to, ln, serial, turn, value, ma⟩ = (⟨v, o, s, 3, p, serial, false, IntKind.i64.wrap (t + 1), 0, la.set p serial⟩, saysF ⟨v, o, s, 3, p, serial, false, IntKind.i64.wrap (t + 1), 0, []⟩ line id) := by
  have e : decide ((1 : Int) = 2) = false := rfl
  rw [home_get 1 (Or.inl rfl) h1 h2 (by omega), e, next_3 ho need_off, wrap_in (by omega) (by omega)]
theorem get_x3 (h1 : ph = 0) (h2 : la.getD p 0 < serial) (h3 : ¬ 65535 ≤ t) (ht : 0 ≤ t) (ho : ¬ 0 ≤ o) (s0 : 0 ≤ s) (s1 : s < 16) (hp : p < 4) (hq : (offB s p != 0) = false) : homeL ⟨v, o, s, ph, f, sr, al, t, n, la⟩ line id p ⟨2, frm, to, ln, serial, turn, value, ma⟩ = (⟨v, o, s, 3, p, serial, true, IntKind.i64.wrap (t + 1), 0, la.set p serial⟩, saysF ⟨v, o, s, 3, p, serial, true, IntKind.i64.wrap (t + 1), 0, []⟩ line id) := by
  have e : decide ((2 : Int) = 2) = true := rfl
  have h5 := need_b (e := ⟨v, o, s, ph, p, serial, true, t + 1, n, []⟩) s0 s1 (Int.natCast_nonneg p) (by show (p : Int) < 4; omega) rfl
  have h6 : offB s p = 0 := by simpa using hq
  rw [home_get 2 (Or.inr rfl) h1 h2 (by omega), e, next_3 ho (h5.symm.trans h6), wrap_in (by omega) (by omega)]
theorem get_x2 (h1 : ph = 0) (h2 : la.getD p 0 < serial) (h3 : ¬ 65535 ≤ t) (ht : 0 ≤ t) (ho : ¬ 0 ≤ o) (s0 : 0 ≤ s) (s1 : s < 16) (hp : p < 4) (hq : (offB s p != 0) = true) : homeL ⟨v, o, s, ph, f, sr, al, t, n, la⟩ line id p ⟨2, frm, to, ln, serial, turn, value, ma⟩ = (⟨v, o, s, 2, p, serial, true, IntKind.i64.wrap (t + 1), offB s p, la.set p serial⟩, saysF ⟨v, o, s, 2, p, serial, true, IntKind.i64.wrap (t + 1), offB s p, []⟩ line id) := by
  have e : decide ((2 : Int) = 2) = true := rfl
  have h5 : offB s p = needF _ := need_b (e := ⟨v, o, s, ph, p, serial, true, t + 1, n, []⟩) s0 s1 (Int.natCast_nonneg p) (by show (p : Int) < 4; omega) rfl
  have h6 : offB s p ≠ 0 := by simpa using hq
  rw [home_get 2 (Or.inr rfl) h1 h2 (by omega), e, next_2 ho (fun h => h6 (h5.trans h)), wrap_in (by omega) (by omega), h5]
theorem put_1 (h1 : ph = 0) (h2 : la.getD p 0 < serial) (h3 : o = p) : homeL ⟨v, o, s, ph, f, sr, al, t, n, la⟩ line id p ⟨3, frm, to, ln, serial, turn, value, ma⟩ = (⟨value, -1, s, ph, f, sr, al, t, n, la.set p serial⟩, [⟨11, id, p, line, serial, 0, 0, false⟩]) := by
  rw [home_put h1, if_pos h2, if_pos h3]
theorem put_2 (h1 : ph = 0) (h2 : la.getD p 0 < serial) (h3 : o ≠ p) : homeL ⟨v, o, s, ph, f, sr, al, t, n, la⟩ line id p ⟨3, frm, to, ln, serial, turn, value, ma⟩ = (⟨v, o, s, ph, f, sr, al, t, n, la.set p serial⟩, [⟨11, id, p, line, serial, 0, 0, false⟩]) := by
  rw [home_put h1, if_pos h2, if_neg h3]
theorem put_3 (h1 : ph = 0) (h2 : ¬ la.getD p 0 < serial) : homeL ⟨v, o, s, ph, f, sr, al, t, n, la⟩ line id p ⟨3, frm, to, ln, serial, turn, value, ma⟩ = (⟨v, o, s, ph, f, sr, al, t, n, la⟩, [⟨11, id, p, line, serial, 0, 0, false⟩]) := by
  rw [home_put h1, if_neg h2]
theorem data_3 (h1 : ph = 1) (h2 : turn = t) (h3 : o = p) (ha : al = false) (s0 : 0 ≤ s) (s1 : s < 16) (hp : p < 4) : homeL ⟨v, o, s, ph, f, sr, al, t, n, la⟩ line id p ⟨9, frm, to, ln, serial, turn, value, ma⟩ = (⟨value, -1, orB s p, 3, f, sr, al, t, 0, la⟩, saysF ⟨value, -1, orB s p, 3, f, sr, al, t, 0, []⟩ line id) := by
  subst ha
  have e : (if false = false ∧ hasF s p = false then s + bitF p else s) = (if hasF s p = false then s + bitF p else s) := by simp
  rw [home_data h1 h2 h3, e, or_b s0 s1 hp, next_3 (by decide) need_off]
theorem data_x3 (h1 : ph = 1) (h2 : turn = t) (h3 : o = p) (ha : al = true) (s0 : 0 ≤ s) (s1 : s < 16) (f0 : 0 ≤ f) (f1 : f < 4) (hq : (offB s f != 0) = false) : homeL ⟨v, o, s, ph, f, sr, al, t, n, la⟩ line id p ⟨9, frm, to, ln, serial, turn, value, ma⟩ = (⟨value, -1, s, 3, f, sr, al, t, 0, la⟩, saysF ⟨value, -1, s, 3, f, sr, al, t, 0, []⟩ line id) := by
  subst ha
  have e : (if true = false ∧ hasF s p = false then s + bitF p else s) = s := by simp
  have h5 : offB s f = needF _ := need_b (e := ⟨value, -1, s, ph, f, sr, true, t, n, []⟩) s0 s1 f0 f1 rfl
  have h6 : offB s f = 0 := by simpa using hq
  rw [home_data h1 h2 h3, e, next_3 (by decide) (h5.symm.trans h6)]
theorem data_x2 (h1 : ph = 1) (h2 : turn = t) (h3 : o = p) (ha : al = true) (s0 : 0 ≤ s) (s1 : s < 16) (f0 : 0 ≤ f) (f1 : f < 4) (hq : (offB s f != 0) = true) : homeL ⟨v, o, s, ph, f, sr, al, t, n, la⟩ line id p ⟨9, frm, to, ln, serial, turn, value, ma⟩ = (⟨value, -1, s, 2, f, sr, al, t, offB s f, la⟩, saysF ⟨value, -1, s, 2, f, sr, al, t, offB s f, []⟩ line id) := by
  subst ha
  have e : (if true = false ∧ hasF s p = false then s + bitF p else s) = s := by simp
  have h5 : offB s f = needF _ := need_b (e := ⟨value, -1, s, ph, f, sr, true, t, n, []⟩) s0 s1 f0 f1 rfl
  have h6 : offB s f ≠ 0 := by simpa using hq
  rw [home_data h1 h2 h3, e, next_2 (by decide) (fun h => h6 (h5.trans h)), h5]
theorem thanks_a (h1 : ph = 3) (h2 : turn = t) (h3 : f = p) (ha : al = true) : homeL ⟨v, o, s, ph, f, sr, al, t, n, la⟩ line id p ⟨10, frm, to, ln, serial, turn, value, ma⟩ = (⟨v, p, 0, 0, 0, 0, false, t, n, la⟩, []) := by
  rw [home_thanks h1 h2 h3, if_pos ha, h3]
theorem thanks_b (h1 : ph = 3) (h2 : turn = t) (h3 : f = p) (ha : al = false) (s0 : 0 ≤ s) (s1 : s < 16) (hp : p < 4) : homeL ⟨v, o, s, ph, f, sr, al, t, n, la⟩ line id p ⟨10, frm, to, ln, serial, turn, value, ma⟩ = (⟨v, o, orB s p, 0, 0, 0, false, t, n, la⟩, []) := by
  rw [home_thanks h1 h2 h3, if_neg (by rw [ha]; decide), or_b s0 s1 hp]
theorem gone_has (n0 : 0 ≤ n) (n1 : n < 16) (hp : p < 4) (h : (!(andB n p != 0)) = false) : hasF n p = true := by
  rw [has_b n0 n1 (by omega)] at h
  simpa using h
theorem gone_w (h1 : ph = 2) (h2 : turn = t) (s0 : 0 ≤ s) (s1 : s < 16) (n0 : 0 ≤ n) (n1 : n < 16) (hp : p < 4) (h3 : (!(andB n p != 0)) = false) (h4 : (offB n p == 0) = false) : homeL ⟨v, o, s, ph, f, sr, al, t, n, la⟩ line id p ⟨8, frm, to, ln, serial, turn, value, ma⟩ = (⟨v, o, offB s p, ph, f, sr, al, t, offB n p, la⟩, []) := by
  have hh := gone_has n0 n1 hp h3
  have h5 : offB n p = n - bitF p := by rw [off_b n0 n1 hp, if_pos hh]
  have h6 : offB n p ≠ 0 := by simpa using h4
  have h7 := sub_rng n0 n1 hp hh
  rw [home_gone h1 h2 hh, if_pos (by omega), off_b s0 s1 hp, h5]
theorem gone_g (h1 : ph = 2) (h2 : turn = t) (s0 : 0 ≤ s) (s1 : s < 16) (n0 : 0 ≤ n) (n1 : n < 16) (hp : p < 4) (h3 : (!(andB n p != 0)) = false) (h4 : (offB n p == 0) = true) : homeL ⟨v, o, s, ph, f, sr, al, t, n, la⟩ line id p ⟨8, frm, to, ln, serial, turn, value, ma⟩ = ({ nextF ⟨v, o, offB s p, ph, f, sr, al, t, n - bitF p, []⟩ with last := la }, saysF (nextF ⟨v, o, offB s p, ph, f, sr, al, t, n - bitF p, []⟩) line id) := by
  have hh := gone_has n0 n1 hp h3
  have h5 : offB n p = n - bitF p := by rw [off_b n0 n1 hp, if_pos hh]
  have h6 : offB n p = 0 := by simpa using h4
  rw [home_gone h1 h2 hh, if_neg (by omega), off_b s0 s1 hp]
theorem gone_1 (h1 : ph = 2) (h2 : turn = t) (s0 : 0 ≤ s) (s1 : s < 16) (n0 : 0 ≤ n) (n1 : n < 16) (hp : p < 4) (h3 : (!(andB n p != 0)) = false) (h4 : (offB n p == 0) = true) (ho : 0 ≤ o) : homeL ⟨v, o, s, ph, f, sr, al, t, n, la⟩ line id p ⟨8, frm, to, ln, serial, turn, value, ma⟩ = (⟨v, o, offB s p, 1, f, sr, al, t, 0, la⟩, saysF ⟨v, o, offB s p, 1, f, sr, al, t, 0, []⟩ line id) := by
  rw [gone_g h1 h2 s0 s1 n0 n1 hp h3 h4, next_1 ho]
theorem gone_3 (h1 : ph = 2) (h2 : turn = t) (s0 : 0 ≤ s) (s1 : s < 16) (n0 : 0 ≤ n) (n1 : n < 16) (hp : p < 4) (h3 : (!(andB n p != 0)) = false) (h4 : (offB n p == 0) = true) (ho : ¬ 0 ≤ o) (ha : al = false) : homeL ⟨v, o, s, ph, f, sr, al, t, n, la⟩ line id p ⟨8, frm, to, ln, serial, turn, value, ma⟩ = (⟨v, o, offB s p, 3, f, sr, al, t, 0, la⟩, saysF ⟨v, o, offB s p, 3, f, sr, al, t, 0, []⟩ line id) := by
  subst ha
  rw [gone_g h1 h2 s0 s1 n0 n1 hp h3 h4, next_3 ho need_off]
theorem gone_x3 (h1 : ph = 2) (h2 : turn = t) (s0 : 0 ≤ s) (s1 : s < 16) (n0 : 0 ≤ n) (n1 : n < 16) (hp : p < 4) (h3 : (!(andB n p != 0)) = false) (h4 : (offB n p == 0) = true) (ho : ¬ 0 ≤ o) (ha : al = true) (f0 : 0 ≤ f) (f1 : f < 4) (hq : (offB (offB s p) f != 0) = false) : homeL ⟨v, o, s, ph, f, sr, al, t, n, la⟩ line id p ⟨8, frm, to, ln, serial, turn, value, ma⟩ = (⟨v, o, offB s p, 3, f, sr, al, t, 0, la⟩, saysF ⟨v, o, offB s p, 3, f, sr, al, t, 0, []⟩ line id) := by
  subst ha
  have hs := off_rng s0 s1 (Int.natCast_nonneg p) (by omega : (p : Int) < 4)
  have h5 : offB (offB s p) f = needF _ := need_b (e := ⟨v, o, offB s p, ph, f, sr, true, t, n - bitF p, []⟩) hs.1 hs.2 f0 f1 rfl
  have h6 : offB (offB s p) f = 0 := by simpa using hq
  rw [gone_g h1 h2 s0 s1 n0 n1 hp h3 h4, next_3 ho (h5.symm.trans h6)]
theorem gone_x2 (h1 : ph = 2) (h2 : turn = t) (s0 : 0 ≤ s) (s1 : s < 16) (n0 : 0 ≤ n) (n1 : n < 16) (hp : p < 4) (h3 : (!(andB n p != 0)) = false) (h4 : (offB n p == 0) = true) (ho : ¬ 0 ≤ o) (ha : al = true) (f0 : 0 ≤ f) (f1 : f < 4) (hq : (offB (offB s p) f != 0) = true) : homeL ⟨v, o, s, ph, f, sr, al, t, n, la⟩ line id p ⟨8, frm, to, ln, serial, turn, value, ma⟩ = (⟨v, o, offB s p, 2, f, sr, al, t, offB (offB s p) f, la⟩, saysF ⟨v, o, offB s p, 2, f, sr, al, t, offB (offB s p) f, []⟩ line id) := by
  subst ha
  have hs := off_rng s0 s1 (Int.natCast_nonneg p) (by omega : (p : Int) < 4)
  have h5 : offB (offB s p) f = needF _ := need_b (e := ⟨v, o, offB s p, ph, f, sr, true, t, n - bitF p, []⟩) hs.1 hs.2 f0 f1 rfl
  have h6 : offB (offB s p) f ≠ 0 := by simpa using hq
  rw [gone_g h1 h2 s0 s1 n0 n1 hp h3 h4, next_2 ho (fun h => h6 (h5.trans h)), h5]
end
end Go.Proofs.YtpgeopefamomnaeGreat

