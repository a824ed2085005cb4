/- The document's own answer: an operation on a value. -/
import Derived.Test.YtpgeopefamomnacGreatRA
set_option linter.unusedSimpArgs false
namespace Go.Proofs.YtpgeopefamomnacGreat
open Go.RowKit
set_option linter.unusedVariables false
set_option maxRecDepth 100000

def intsR (es : Row) : List Int := es.map fun u => (u.getD 0 dz).toI
theorem intsR_rows (m : List Int) : intsR (rowsI m) = m := by
  unfold intsR rowsI
  rw [List.map_map]
  simp [Function.comp_def, DV.toI]
def doT (xs : List AV) (l0 : List (Nat × OS)) : Ans := match xs, l0 with
  | [.c (.d (.row es)), .agg [.d (.int .i64 k), .d (.int .i64 l), .d (.int .i64 v)]], [] => some (∃ m, es = rowsI m ∧ m.length ≤ 1000000000, .tup [RI (flatDo (intsR es) ⟨k, l, v⟩).1, V (flatDo (intsR es) ⟨k, l, v⟩).2.1, V (flatDo (intsR es) ⟨k, l, v⟩).2.2], [])
  | _, _ => none
theorem do_does : Does Tryz.prog 71 doT := ⟨⟨_, Tryz.func71, by decide, rfl⟩, fun xs l0 p v objs h hp => by
  unfold doT at h
  split at h
  · cases h
    obtain ⟨m, rfl, hm⟩ := hp
    rw [intsR_rows]
    exact rdo_ok m (SOp.mk _ _ _) _ rfl hm
  · cases h⟩
def tabD : Canon := orT 71 doT tab0
theorem tabD_ok : Sound Tryz.prog tabD := tab0_ok.or do_does
/-- One row that holds v at i. -/
def one (n i : Nat) (v : Int) : List Int := (List.replicate n 0).set i v
theorem one_rows (n i : Nat) (v : Int) : (List.replicate n [J 0]).set i [J v] = rowsI (one n i v) := by
  simp [rowsI, one, List.map_set]
theorem one_do (n i : Nat) (v : Int) (o : SOp) (hi : i < n) (hl : o.line = i) (h1 : 1 ≤ o.kind) (h4 : o.kind ≤ 4) (h0 : 0 ≤ o.value) (h2 : o.value ≤ 255) : flatDo (one n i v) o = (one n i (tellF v o).1, (tellF v o).2, 0) := by
  have hlen : (one n i v).length = n := by simp [one]
  have hg : (one n i v).getD i 0 = v := by simp [one, hi]
  unfold flatDo
  rw [if_neg (by omega), if_neg (by omega)]
  rw [hl, Int.toNat_natCast, hg]
  simp [one]
theorem typed_int {X : DV} {x : Int} (h : X = J x) : typed (I 0) X = .d X := by rw [h]; rfl
set_option maxHeartbeats 4000000 in
theorem rtell_ok (v : Int) (o : SOp) (h1 : 1 ≤ o.kind) (h4 : o.kind ≤ 4) (hl : 0 ≤ o.line) (hl2 : o.line < 1000) (h0 : 0 ≤ o.value) (h2 : o.value ≤ 255) : FunOK Tryz.prog 49 [V v, .agg (opC o)] (hOf []) (.tup [V (tellF v o).1, V (tellF v o).2]) (hOf []) := by
  refine fun_deep (pins := []) (l0 := []) (objs := []) (base := 0) (xx_ok tabD_ok [71]) mixed Tryz.func49 rfl (Nat.le_of_ble_eq_true rfl) rfl rfl ?_
  have hw : (IntKind.i64.wrap (o.line + 1)).toNat = o.line.toNat + 1 := by rw [wrap_in (by omega) (by omega)]; omega
  have hk : (List.replicate (IntKind.i64.wrap (o.line + 1)).toNat [J 0]).set o.line.toNat [J v] = rowsI (one (o.line.toNat + 1) o.line.toNat v) := by rw [hw, one_rows]
  have hF : flatDo (intsR ((List.replicate (IntKind.i64.wrap (o.line + 1)).toNat [J 0]).set o.line.toNat [J v])) o = (one (o.line.toNat + 1) o.line.toNat (tellF v o).1, (tellF v o).2, 0) := by
    rw [hk, intsR_rows]
    exact one_do _ _ v o (by omega) (by omega) h1 h4 h0 h2
  have hL : (one (o.line.toNat + 1) o.line.toNat (tellF v o).1).length = o.line.toNat + 1 := by simp [one]
  have hG : (rowsI (one (o.line.toNat + 1) o.line.toNat (tellF v o).1)).getD o.line.toNat [] = [J (tellF v o).1] := by
    rw [rowsI_get (by omega)]
    simp [one]
  repeat' ((conv => whnf); first | exact trivial | (with_reducible refine ap_of ?_; kernel_rfl) | (with_reducible refine ds_of ?_; kernel_rfl) | (with_reducible refine eq_of ?_; kernel_rfl) | exact rfl | (intro h; exact absurd h (by decide)) | intro _ | apply And.intro)
  all_goals first
    | exact hl
    | exact ⟨_, hk, by simp [one]; omega⟩
    | (rw [wrap_in (by omega) (by omega)]; omega)
    | (show _ = _; first | rfl | (show V _ = V _; rfl))
    | (show 0 + 1 ≤ 1; omega)
    | (rw [List.length_replicate, hw]; omega)
    | (show o.line < ((rowsI (flatDo (intsR ((List.replicate (IntKind.i64.wrap (o.line + 1)).toNat [J 0]).set o.line.toNat [J v])) o).1).length : Int)
       rw [hF, rowsI_len, hL]
       omega)
    | (show o.line.toNat < (rowsI (flatDo (intsR ((List.replicate (IntKind.i64.wrap (o.line + 1)).toNat [J 0]).set o.line.toNat [J v])) o).1).length
       rw [hF, rowsI_len, hL]
       omega)
    | (show ((rowsI (flatDo (intsR ((List.replicate (IntKind.i64.wrap (o.line + 1)).toNat [J 0]).set o.line.toNat [J v])) o).1).getD o.line.toNat []).length = 1
       rw [hF, hG]
       rfl)
    | (show 0 + 1 ≤ ((rowsI (flatDo (intsR ((List.replicate (IntKind.i64.wrap (o.line + 1)).toNat [J 0]).set o.line.toNat [J v])) o).1).getD o.line.toNat []).length
       rw [hF, hG]
       exact Nat.le_refl _)
    | (refine typed_int (x := (tellF v o).1) ?_
       show ((rowsI (flatDo (intsR ((List.replicate (IntKind.i64.wrap (o.line + 1)).toNat [J 0]).set o.line.toNat [J v])) o).1).getD o.line.toNat []).getD 0 dz = _
       rw [hF, hG]
       rfl)
    | (show AV.tup [V ((((rowsI (flatDo (intsR ((List.replicate (IntKind.i64.wrap (o.line + 1)).toNat [J 0]).set o.line.toNat [J v])) o).1).getD o.line.toNat []).getD 0 dz).toI), V (flatDo (intsR ((List.replicate (IntKind.i64.wrap (o.line + 1)).toNat [J 0]).set o.line.toNat [J v])) o).2.1] = _
       rw [hF, hG]
       rfl)
def tellT (xs : List AV) (l0 : List (Nat × OS)) : Ans := match xs, l0 with
  | [.c (.d (.int .i64 x)), .agg [.d (.int .i64 k), .d (.int .i64 l), .d (.int .i64 v)]], [] => some ((1 ≤ k ∧ k ≤ 4) ∧ (0 ≤ l ∧ l < 1000) ∧ (0 ≤ v ∧ v ≤ 255), .tup [V (tellF x ⟨k, l, v⟩).1, V (tellF x ⟨k, l, v⟩).2], [])
  | _, _ => none
theorem tell_does : Does Tryz.prog 49 tellT := ⟨⟨_, Tryz.func49, by decide, rfl⟩, fun xs l0 p v objs h hp => by
  unfold tellT at h
  split at h
  · cases h
    obtain ⟨⟨h1, h4⟩, ⟨h5, h6⟩, h7, h8⟩ := hp
    exact rtell_ok _ (SOp.mk _ _ _) h1 h4 h5 h6 h7 h8
  · cases h⟩
def tabT : Canon := orT 49 tellT tab0
theorem tabT_ok : Sound Tryz.prog tabT := tab0_ok.or tell_does
end Go.Proofs.YtpgeopefamomnacGreat

/- The document's own answer: a core begins. -/
namespace Go.Proofs.YtpgeopefamomnacGreat
open Go.RowKit
set_option linter.unusedVariables false
set_option maxRecDepth 100000

def lineC (l : SLine) : List CV := [I l.state, I l.value, I l.want, I l.serial, I l.seen, I l.gave, I l.given]
set_option maxHeartbeats 4000000 in
theorem rbegin_in (L : Row) (hu : ∀ u ∈ L, u.length = 7) (hL : L.length < 1000) (l : SLine) (w o : SOp) (id home : Int) (h1 : 1 ≤ o.kind) (h4 : o.kind ≤ 4) (h5 : 0 ≤ o.line) (h6 : o.line < (L.length : Int)) (h7 : 0 ≤ o.value) (h8 : o.value ≤ 255) (hg : L.getD o.line.toNat [] = lineD l) (hw : w.kind = 0) (hs0 : 0 ≤ l.serial) (hs : l.serial < 65535) (r : SLine × Int × Int) (hr : beginL l o = r) : FunOK Tryz.prog 24 [.agg (coreC L w), V id, V home, .agg (opC o)] (hOf []) (if r.2.1 = 0 then .tup [.agg (coreC (L.set o.line.toNat (lineD r.1)) w), Ro [], Ro [doneD id o r.2.2], V 0] else .tup [.agg (coreC (L.set o.line.toNat (lineD r.1)) o), Ro [msgD (asksF r.1 id home o.line)], Ro [], V 0]) (hOf []) := by
  refine fun_deep (pins := []) (l0 := []) (objs := []) (base := 0) (xx_ok tabT_ok [49]) mixed Tryz.func24 rfl (Nat.le_of_ble_eq_true rfl) rfl rfl ?_
  have hwr : IntKind.i64.wrap (l.serial + 1) = l.serial + 1 := wrap_in (by omega) (by omega)
  have hn : o.line.toNat < L.length := by omega
  repeat' ((conv => whnf); first | exact trivial | (with_reducible refine ap_of ?_; kernel_rfl) | (with_reducible refine ds_of ?_; kernel_rfl) | (with_reducible refine eq_of ?_; kernel_rfl) | exact rfl | (intro h; exact absurd h (by decide)) | intro _ | apply And.intro)
  all_goals first
    | exact h5
    | exact h6
    | exact hn
    | exact ⟨h1, h4⟩
    | exact ⟨h7, h8⟩
    | exact ⟨h5, by omega⟩
    | exact hu _ (by assumption)
    | rfl
    | (rw [hg]; first | rfl | exact Nat.le_refl _)
    | (simp; done)
    | skip
  all_goals simp only [hg, lineD, List.getD_cons_zero, List.getD_cons_succ, DV.toI, DV.toB, DV.toR, Nat.zero_add, hwr] at *
  all_goals first
    | assumption
    | omega
    | (simp; omega)
    | (exfalso; simp_all; done)
    | (exfalso; simp_all; omega)
    | (rw [← hr]; unfold beginL; simp_all [coreC, doneD, msgD, asksF, pickE]; done)
    | (rw [← hr]; unfold beginL; simp_all [coreC, doneD, msgD, asksF, pickE, tellF]; done)
    | skip
end Go.Proofs.YtpgeopefamomnacGreat
