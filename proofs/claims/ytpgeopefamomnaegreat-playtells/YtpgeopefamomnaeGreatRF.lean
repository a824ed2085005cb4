/- DTell DBegin DHear DHome0. -/
import Derived.Test.YtpgeopefamomnaeGreatRA
import Derived.Test.YtpgeopefamomnaeGreatPG
import Derived.Test.YtpgeopefamomnaeGreatRE
set_option linter.unusedSimpArgs false
set_option linter.unusedSectionVars false
namespace Go.Proofs.YtpgeopefamomnaeGreat
open Go.RowKit
set_option linter.unusedVariables false
set_option maxRecDepth 100000
def intsR (es : Row) : List Int := es.map fun u => (u.getD 0 dz).toI
theorem intsR_rows (m : List Int) : intsR (rowsI m) = m := by
  unfold intsR rowsI
  rw [List.map_map]
  simp [Function.comp_def, DV.toI]
def doT (xs : List AV) (l0 : List (Nat × OS)) : Ans := match xs, l0 with
  | [.c (.d (.row es)), .agg [.d (.int .i64 k), .d (.int .i64 l), .d (.int .i64 v)]], [] => some (∃ m, es = rowsI m ∧ m.length ≤ 1000000000, .tup [RI (flatDo (intsR es) ⟨k, l, v⟩).1, V (flatDo (intsR es) ⟨k, l, v⟩).2.1, V (flatDo (intsR es) ⟨k, l, v⟩).2.2], [])
  | _, _ => none
theorem do_does : Does Tryz.prog 31 doT := ⟨⟨_, Tryz.func31, by decide, rfl⟩, fun xs l0 p v objs h hp => by
  unfold doT at h
  split at h
  · cases h
    obtain ⟨m, rfl, hm⟩ := hp
    rw [intsR_rows]
    exact rdo_ok m (SOp.mk _ _ _) _ rfl hm
  · cases h⟩
def tabD : Canon := orT 31 doT tab0
theorem tabD_ok : Sound Tryz.prog tabD := tab0_ok.or do_does
/-- One row that holds v at i. -/
def one (n i : Nat) (v : Int) : List Int := (List.replicate n 0).set i v
theorem one_rows (n i : Nat) (v : Int) : (List.replicate n [J 0]).set i [J v] = rowsI (one n i v) := by
  simp [rowsI, one, List.map_set]
theorem one_do (n i : Nat) (v : Int) (o : SOp) (hi : i < n) (hl : o.line = i) (h1 : 1 ≤ o.kind) (h4 : o.kind ≤ 4) (h0 : 0 ≤ o.value) (h2 : o.value ≤ 255) : flatDo (one n i v) o = (one n i (tellF v o).1, (tellF v o).2, 0) := by
  have hlen : (one n i v).length = n := by simp [one]
  have hg : (one n i v).getD i 0 = v := by simp [one, hi]
  unfold flatDo
  rw [if_neg (by omega), if_neg (by omega)]
  rw [hl, Int.toNat_natCast, hg]
  simp [one]
theorem typed_int {X : DV} {x : Int} (h : X = J x) : typed (I 0) X = .d X := by rw [h]; rfl
set_option maxHeartbeats 4000000 in
theorem rtell_ok (v : Int) (o : SOp) (h1 : 1 ≤ o.kind) (h4 : o.kind ≤ 4) (hl : 0 ≤ o.line) (hl2 : o.line < 1000) (h0 : 0 ≤ o.value) (h2 : o.value ≤ 255) : FunOK Tryz.prog 58 [V v, .agg (opC o)] (hOf []) (.tup [V (tellF v o).1, V (tellF v o).2]) (hOf []) := by
  refine fun_deep (pins := []) (l0 := []) (objs := []) (base := 0) (xx_ok tabD_ok [31]) mixed Tryz.func58 rfl (Nat.le_of_ble_eq_true rfl) rfl rfl ?_
  have hw : (IntKind.i64.wrap (o.line + 1)).toNat = o.line.toNat + 1 := by rw [wrap_in (by omega) (by omega)]; omega
  have hk : (List.replicate (IntKind.i64.wrap (o.line + 1)).toNat [J 0]).set o.line.toNat [J v] = rowsI (one (o.line.toNat + 1) o.line.toNat v) := by rw [hw, one_rows]
  have hF : flatDo (intsR ((List.replicate (IntKind.i64.wrap (o.line + 1)).toNat [J 0]).set o.line.toNat [J v])) o = (one (o.line.toNat + 1) o.line.toNat (tellF v o).1, (tellF v o).2, 0) := by
    rw [hk, intsR_rows]
    exact one_do _ _ v o (by omega) (by omega) h1 h4 h0 h2
  have hL : (one (o.line.toNat + 1) o.line.toNat (tellF v o).1).length = o.line.toNat + 1 := by simp [one]
  have hG : (rowsI (one (o.line.toNat + 1) o.line.toNat (tellF v o).1)).getD o.line.toNat [] = [J (tellF v o).1] := by
    rw [rowsI_get (by omega)]
    simp [one]
  repeat' ((conv => whnf); first | exact trivial | (with_reducible refine ap_of ?_; kernel_rfl) | (with_reducible refine ds_of ?_; kernel_rfl) | (with_reducible refine eq_of ?_; kernel_rfl) | exact rfl | (intro h; exact absurd h (by decide)) | intro _ | apply And.intro)
  all_goals first
    | exact hl
    | exact ⟨_, hk, by simp [one]; omega⟩
    | (rw [wrap_in (by omega) (by omega)]; omega)
    | (show _ = _; first | rfl | (show V _ = V _; rfl))
    | (show 0 + 1 ≤ 1; omega)
    | (rw [List.length_replicate, hw]; omega)
    | (show o.line < ((rowsI (flatDo (intsR ((List.replicate (IntKind.i64.wrap (o.line + 1)).toNat [J 0]).set o.line.toNat [J v])) o).1).length : Int)
       rw [hF, rowsI_len, hL]
       omega)
    | (show o.line.toNat < (rowsI (flatDo (intsR ((List.replicate (IntKind.i64.wrap (o.line + 1)).toNat [J 0]).set o.line.toNat [J v])) o).1).length
       rw [hF, rowsI_len, hL]
       omega)
    | (show ((rowsI (flatDo (intsR ((List.replicate (IntKind.i64.wrap (o.line + 1)).toNat [J 0]).set o.line.toNat [J v])) o).1).getD o.line.toNat []).length = 1
       rw [hF, hG]
       rfl)
    | (show 0 + 1 ≤ ((rowsI (flatDo (intsR ((List.replicate (IntKind.i64.wrap (o.line + 1)).toNat [J 0]).set o.line.toNat [J v])) o).1).getD o.line.toNat []).length
       rw [hF, hG]
       exact Nat.le_refl _)
    | (refine typed_int (x := (tellF v o).1) ?_
       show ((rowsI (flatDo (intsR ((List.replicate (IntKind.i64.wrap (o.line + 1)).toNat [J 0]).set o.line.toNat [J v])) o).1).getD o.line.toNat []).getD 0 dz = _
       rw [hF, hG]
       rfl)
    | (show AV.tup [V ((((rowsI (flatDo (intsR ((List.replicate (IntKind.i64.wrap (o.line + 1)).toNat [J 0]).set o.line.toNat [J v])) o).1).getD o.line.toNat []).getD 0 dz).toI), V (flatDo (intsR ((List.replicate (IntKind.i64.wrap (o.line + 1)).toNat [J 0]).set o.line.toNat [J v])) o).2.1] = _
       rw [hF, hG]
       rfl)
def tellT (xs : List AV) (l0 : List (Nat × OS)) : Ans := match xs, l0 with
  | [.c (.d (.int .i64 x)), .agg [.d (.int .i64 k), .d (.int .i64 l), .d (.int .i64 v)]], [] => some ((1 ≤ k ∧ k ≤ 4) ∧ (0 ≤ l ∧ l < 1000) ∧ (0 ≤ v ∧ v ≤ 255), .tup [V (tellF x ⟨k, l, v⟩).1, V (tellF x ⟨k, l, v⟩).2], [])
  | _, _ => none
theorem tell_does : Does Tryz.prog 58 tellT := ⟨⟨_, Tryz.func58, by decide, rfl⟩, fun xs l0 p v objs h hp => by
  unfold tellT at h
  split at h
  · cases h
    obtain ⟨⟨h1, h4⟩, ⟨h5, h6⟩, h7, h8⟩ := hp
    exact rtell_ok _ (SOp.mk _ _ _) h1 h4 h5 h6 h7 h8
  · cases h⟩
def tabT : Canon := orT 58 tellT tab0
theorem tabT_ok : Sound Tryz.prog tabT := tab0_ok.or tell_does
end Go.Proofs.YtpgeopefamomnaeGreat

namespace Go.Proofs.YtpgeopefamomnaeGreat
open Go.RowKit
set_option linter.unusedVariables false
set_option maxRecDepth 100000
set_option maxHeartbeats 4000000 in
theorem rbegin_in (L : Row) (hu : ∀ u ∈ L, u.length = 7) (hL : L.length < 1000) (l : SLine) (w o : SOp) (id home : Int) (h1 : 1 ≤ o.kind) (h4 : o.kind ≤ 4) (h5 : 0 ≤ o.line) (h6 : o.line < (L.length : Int)) (h7 : 0 ≤ o.value) (h8 : o.value ≤ 255) (hg : L.getD o.line.toNat [] = lineD l) (hw : w.kind = 0) (hs0 : 0 ≤ l.serial) (hs : l.serial < 65535) (r : SLine × Int × Int) (hr : beginL l o = r) : FunOK Tryz.prog 35 [.agg (coreC L w), V id, V home, .agg (opC o)] (hOf []) (if r.2.1 = 0 then .tup [.agg (coreC (L.set o.line.toNat (lineD r.1)) w), Ro [], Ro [doneD id o r.2.2], V 0] else .tup [.agg (coreC (L.set o.line.toNat (lineD r.1)) o), Ro [msgD (asksF r.1 id home o.line)], Ro [], V 0]) (hOf []) := by
  refine fun_deep (pins := []) (l0 := []) (objs := []) (base := 0) (xx_ok tabT_ok [58]) mixed Tryz.func35 rfl (Nat.le_of_ble_eq_true rfl) rfl rfl ?_
  have hwr : IntKind.i64.wrap (l.serial + 1) = l.serial + 1 := wrap_in (by omega) (by omega)
  have hn : o.line.toNat < L.length := by omega
  repeat' ((conv => whnf); first | exact trivial | (with_reducible refine ap_of ?_; kernel_rfl) | (with_reducible refine ds_of ?_; kernel_rfl) | (with_reducible refine eq_of ?_; kernel_rfl) | exact rfl | (intro h; exact absurd h (by decide)) | intro _ | apply And.intro)
  all_goals first
    | exact h5
    | exact h6
    | exact hn
    | exact ⟨h1, h4⟩
    | exact ⟨h7, h8⟩
    | exact ⟨h5, by omega⟩
    | exact hu _ (by assumption)
    | rfl
    | (rw [hg]; first | rfl | exact Nat.le_refl _)
    | (simp; done)
    | skip
  all_goals simp only [hg, lineD, List.getD_cons_zero, List.getD_cons_succ, DV.toI, DV.toB, DV.toR, Nat.zero_add, hwr] at *
  all_goals first
    | assumption
    | omega
    | (simp; omega)
    | (exfalso; simp_all; done)
    | (exfalso; simp_all; omega)
    | (rw [← hr]; unfold beginL; simp_all [coreC, doneD, msgD, asksF, pickE]; done)
    | (rw [← hr]; unfold beginL; simp_all [coreC, doneD, msgD, asksF, pickE, tellF]; done)
    | skip
end Go.Proofs.YtpgeopefamomnaeGreat

namespace Go.Proofs.YtpgeopefamomnaeGreat
open Go.RowKit
set_option linter.unusedVariables false
set_option maxRecDepth 100000
def dnD (d : SDone) : List DV := doneD d.core d.op d.value
def hearV (L : Row) (w : SOp) (id home : Int) (m : Msg) (r : SLine × Option (Int × Int × Int) × Option Int) : AV := .tup [.agg (coreC (L.set m.line.toNat (lineD r.1)) (if r.2.2.isSome = true then SOp.zero else w)), Ro (R msgD ((r.2.1.map (coreMsg id home m.line)).toList)), Ro (R dnD ((r.2.2.map (fun v => (⟨id, w, v⟩ : SDone))).toList))]
set_option maxHeartbeats 4000000 in
theorem rhear_in (L : Row) (hu : ∀ u ∈ L, u.length = 7) (hL : L.length < 1000) (l : SLine) (w : SOp) (m : Msg) (id home : Int) (h5 : 0 ≤ m.line) (h6 : m.line < (L.length : Int)) (hg : L.getD m.line.toNat [] = lineD l) (hwt : l.want ≠ 0 → (1 ≤ w.kind ∧ w.kind ≤ 4) ∧ (0 ≤ w.line ∧ w.line < 1000) ∧ 0 ≤ w.value ∧ w.value ≤ 255) (r : SLine × Option (Int × Int × Int) × Option Int) (hr : hearL l w m = r) : FunOK Tryz.prog 45 [.agg (coreC L w), V id, V home, .agg (msgC m)] (hOf []) (hearV L w id home m r) (hOf []) := by
  refine fun_deep (pins := []) (l0 := []) (objs := []) (base := 0) (xx_ok tabT_ok [58]) mixed Tryz.func45 rfl (Nat.le_of_ble_eq_true rfl) rfl rfl ?_
  have hn : m.line.toNat < L.length := by omega
  have hs : L.set m.line.toNat (lineD l) = L := by
    rw [← hg]
    have h9 : L.getD m.line.toNat [] = L[m.line.toNat] := by simp [List.getD, hn]
    rw [h9]
    exact List.set_getElem_self hn
  repeat' ((conv => whnf); first | exact trivial | (with_reducible refine ap_of ?_; kernel_rfl) | (with_reducible refine ds_of ?_; kernel_rfl) | (with_reducible refine eq_of ?_; kernel_rfl) | exact rfl | (intro h; exact absurd h (by decide)) | intro _ | apply And.intro)
  all_goals first
    | exact h5
    | exact h6
    | exact hn
    | exact hu _ (by assumption)
    | rfl
    | (rw [hg]; first | rfl | exact Nat.le_refl _)
    | (simp; done)
    | (simp; omega)
    | skip
  all_goals simp only [hg, lineD, List.getD_cons_zero, List.getD_cons_succ, DV.toI, DV.toB, DV.toR, Nat.zero_add] at *
  all_goals first
    | assumption
    | omega
    | (simp; omega)
    | (exfalso; clear hs hr; simp_all; done)
    | (exfalso; clear hs hr; simp_all; omega)
    | (clear hs hr; simp_all; done)
    | (rw [← hr]; clear hr; unfold hearL hearV; simp_all [-Int.not_le, -Int.not_lt, lineD, coreC, coreMsg, dnD, doneD, msgD, R, pickE, SOp.zero]; done)
    | skip
end Go.Proofs.YtpgeopefamomnaeGreat

namespace Go.Proofs.YtpgeopefamomnaeGreat
open Go.RowKit
set_option linter.unusedVariables false
set_option maxRecDepth 100000
theorem next_need (e : SEntry) : 0 ≤ (nextF e).need ∧ (nextF e).need < 65536 := by
  unfold nextF
  split
  · exact (by decide : (0 : Int) ≤ 0 ∧ (0 : Int) < 65536)
  · have h := nd_bd e 4
    rw [nd_4] at h
    have h2 : bitF 4 = 16 := rfl
    show 0 ≤ needF e ∧ needF e < 65536
    omega
theorem toR_row (es : Row) : (DV.row es).toR = es := rfl
theorem typed_int1 {X : DV} {x : Int} (h : X = J x) : typed (I 0) X = .d X := by rw [h]; rfl
theorem rowsI_one (l : List Int) (u : List DV) (h : u ∈ rowsI l) : u.length = 1 := by
  simp [rowsI] at h
  obtain ⟨a, _, rfl⟩ := h
  rfl
theorem rowsI_set (l : List Int) (i : Nat) (x : Int) : (rowsI l).set i [J x] = rowsI (l.set i x) := by simp [rowsI, List.map_set]
theorem next_last (e : SEntry) (l : List Int) : nextF { e with last := l } = { nextF e with last := l } := by
  unfold nextF
  by_cases h : 0 ≤ e.owner
  · rw [if_pos h, if_pos h]
  · rw [if_neg h, if_neg h]
    rfl
def entX (e : SEntry) (es : Row) : List DV := [J e.value, J e.owner, J e.sharers, J e.phase, J e.forr, J e.serial, .bool e.alone, J e.turn, J e.need, .row es]
theorem ansH {A : AV} {L : Row} {i : Nat} {X r : SEntry × List Msg} (e : SEntry) (es : Row) (ms : List Msg) (hr : X = r) (hb : X = (e, ms)) (hA : A = AV.tup [Ro (L.set i (entX e es)), Ro (R msgD ms)]) (h : es = rowsI e.last) : A = AV.tup [Ro (L.set i (entD r.1)), Ro (R msgD r.2)] := by
  subst h
  subst hr
  rw [hb, hA]
  rfl
theorem sub_rng {s : Int} {p : Nat} (h0 : 0 ≤ s) (h1 : s < 16) (hp : p < 4) (h : hasF s p = true) : 0 ≤ s - bitF p ∧ s - bitF p < 16 := by
  obtain ⟨a, rfl⟩ := Int.eq_ofNat_of_zero_le h0
  exact (has_sub ⟨a, by omega⟩ ⟨p, hp⟩ ⟨p, hp⟩ h).2
theorem add_rng {s : Int} {p : Nat} (h0 : 0 ≤ s) (h1 : s < 16) (hp : p < 4) (h : hasF s p = false) : 0 ≤ s + bitF p ∧ s + bitF p < 16 := by
  obtain ⟨a, rfl⟩ := Int.eq_ofNat_of_zero_le h0
  exact (has_add ⟨a, by omega⟩ ⟨p, hp⟩ ⟨p, hp⟩ h).2
theorem bne_t {a b : Int} (h : (a != b) = true) : b ≠ a := by
  intro e
  subst e
  simp at h
theorem bne_f {a b : Int} (h : (a != b) = false) : b = a := by
  have h1 : a = b := by simpa using h
  exact h1.symm
theorem bne_f2 {a b : Int} (h : ((a != b) == false) = true) : a = b := by simpa using h
theorem wrap16 {x : Int} (h : 0 ≤ x ∧ x < 16) : IntKind.i64.wrap x = x := wrap_in (by omega) (by omega)
section
variable {v o s ph f sr t n frm to ln serial turn value line id : Int} {al ma : Bool} {la : List Int} {p : Nat}
theorem home_get (k : Int) (hk : k = 1 ∨ k = 2) (h1 : ph = 0) (h2 : la.getD p 0 < serial) (h3 : t < 65535) : homeL ⟨v, o, s, ph, f, sr, al, t, n, la⟩ line id p ⟨k, frm, to, ln, serial, turn, value, ma⟩ = ({ nextF ⟨v, o, s, ph, p, serial, decide (k = 2), t + 1, n, []⟩ with last := la.set p serial }, saysF (nextF ⟨v, o, s, ph, p, serial, decide (k = 2), t + 1, n, []⟩) line id) := by
  unfold homeL lastF
  rw [if_pos (show _ ∨ _ from hk), if_neg (by show ¬ (ph ≠ 0 ∨ serial ≤ la.getD p 0 ∨ 65535 ≤ t); omega)]
  have h := next_last ⟨v, o, s, ph, p, serial, decide (k = 2), t + 1, n, []⟩ (la.set p serial)
  show (nextF { (⟨v, o, s, ph, p, serial, decide (k = 2), t + 1, n, []⟩ : SEntry) with last := la.set p serial }, saysF (nextF { (⟨v, o, s, ph, p, serial, decide (k = 2), t + 1, n, []⟩ : SEntry) with last := la.set p serial }) line id) = _
  rw [h]
  rfl
theorem home_put (h1 : ph = 0) : homeL ⟨v, o, s, ph, f, sr, al, t, n, la⟩ line id p ⟨3, frm, to, ln, serial, turn, value, ma⟩ = (if la.getD p 0 < serial then (if o = p then ⟨value, -1, s, ph, f, sr, al, t, n, la.set p serial⟩ else ⟨v, o, s, ph, f, sr, al, t, n, la.set p serial⟩) else ⟨v, o, s, ph, f, sr, al, t, n, la⟩, [{ kind := 11, frm := id, to := p, line := line, serial := serial, turn := 0, value := 0, alone := false }]) := by
  unfold homeL lastF
  rw [if_neg (by simp), if_pos rfl, if_neg (by show ¬ ph ≠ 0; omega)]
theorem home_data (h1 : ph = 1) (h2 : turn = t) (h3 : o = p) : homeL ⟨v, o, s, ph, f, sr, al, t, n, la⟩ line id p ⟨9, frm, to, ln, serial, turn, value, ma⟩ = ({ nextF ⟨value, -1, if al = false ∧ hasF s p = false then s + bitF p else s, ph, f, sr, al, t, n, []⟩ with last := la }, saysF (nextF ⟨value, -1, if al = false ∧ hasF s p = false then s + bitF p else s, ph, f, sr, al, t, n, []⟩) line id) := by
  unfold homeL
  rw [if_neg (by simp), if_neg (by simp), if_pos rfl, if_neg (by show ¬ (ph ≠ 1 ∨ turn ≠ t ∨ o ≠ p); omega)]
  have h := next_last ⟨value, -1, if al = false ∧ hasF s p = false then s + bitF p else s, ph, f, sr, al, t, n, []⟩ la
  show (nextF { (⟨value, -1, if al = false ∧ hasF s p = false then s + bitF p else s, ph, f, sr, al, t, n, []⟩ : SEntry) with last := la }, saysF (nextF { (⟨value, -1, if al = false ∧ hasF s p = false then s + bitF p else s, ph, f, sr, al, t, n, []⟩ : SEntry) with last := la }) line id) = _
  rw [h]
  rfl
theorem home_gone (h1 : ph = 2) (h2 : turn = t) (h3 : hasF n p = true) : homeL ⟨v, o, s, ph, f, sr, al, t, n, la⟩ line id p ⟨8, frm, to, ln, serial, turn, value, ma⟩ = if 0 < n - bitF p then (⟨v, o, if hasF s p = true then s - bitF p else s, ph, f, sr, al, t, n - bitF p, la⟩, []) else ({ nextF ⟨v, o, if hasF s p = true then s - bitF p else s, ph, f, sr, al, t, n - bitF p, []⟩ with last := la }, saysF (nextF ⟨v, o, if hasF s p = true then s - bitF p else s, ph, f, sr, al, t, n - bitF p, []⟩) line id) := by
  unfold homeL
  rw [if_neg (by simp), if_neg (by simp), if_neg (by simp), if_pos rfl, if_neg (by show ¬ (ph ≠ 2 ∨ turn ≠ t ∨ hasF n p = false); rw [h3]; simp; omega)]
  show (if 0 < n - bitF p then _ else _) = _
  congr 1
  have h := next_last ⟨v, o, if hasF s p = true then s - bitF p else s, ph, f, sr, al, t, n - bitF p, []⟩ la
  show (nextF { (⟨v, o, if hasF s p = true then s - bitF p else s, ph, f, sr, al, t, n - bitF p, []⟩ : SEntry) with last := la }, saysF (nextF { (⟨v, o, if hasF s p = true then s - bitF p else s, ph, f, sr, al, t, n - bitF p, []⟩ : SEntry) with last := la }) line id) = _
  rw [h]
  rfl
theorem home_thanks (h1 : ph = 3) (h2 : turn = t) (h3 : f = p) : homeL ⟨v, o, s, ph, f, sr, al, t, n, la⟩ line id p ⟨10, frm, to, ln, serial, turn, value, ma⟩ = (if al = true then ⟨v, f, 0, 0, 0, 0, false, t, n, la⟩ else ⟨v, o, if hasF s p = false then s + bitF p else s, 0, 0, 0, false, t, n, la⟩, []) := by
  unfold homeL
  rw [if_neg (by simp), if_neg (by simp), if_neg (by simp), if_neg (by simp), if_pos rfl, if_neg (by show ¬ (ph ≠ 3 ∨ turn ≠ t ∨ f ≠ p); omega)]
end
end Go.Proofs.YtpgeopefamomnaeGreat

