/- DBegin2 DHome DTurned DNew. -/
import Derived.Test.YtpgeopefamomnaeGreatRF
import Derived.Test.YtpgeopefamomnaeGreatRI
import Derived.Test.YtpgeopefamomnaeGreatRM
import Derived.Test.YtpgeopefamomnaeGreatRE
import Derived.Test.YtpgeopefamomnaeGreatPB
import Derived.Test.YtpgeopefamomnaeGreatRD
set_option linter.unusedSimpArgs false
set_option linter.unusedSectionVars false
namespace Go.Proofs.YtpgeopefamomnaeGreat
open Go.RowKit
set_option linter.unusedVariables false
set_option maxRecDepth 100000
def beginV (r : SCore × List Msg × List SDone × Int) : AV := .tup [.agg (coreC (rowsL r.1.lines) r.1.wait), Ro (R msgD r.2.1), Ro (R dnD r.2.2.1), V r.2.2.2]
def noV (e : Int) : AV := .tup [.agg [.d (.row []), I 0, I 0, I 0], Ro [], Ro [], V e]
section
variable (L : Row) (w o : SOp) (id home : Int)
set_option maxHeartbeats 4000000
theorem rbegin_k1 (h : o.kind < 1) : FunOK Tryz.prog 35 [.agg (coreC L w), V id, V home, .agg (opC o)] (hOf []) (noV 1) (hOf []) := by
  refine fun_deep (pins := []) (l0 := []) (objs := []) (base := 0) (xx_ok tabT_ok [58]) mixed Tryz.func35 rfl (Nat.le_of_ble_eq_true rfl) rfl rfl ?_
  have hx : ¬ ((decide (o.kind < 1) == false) = true) := by simp [h]
  repeat' ((conv => whnf); first | exact trivial | (with_reducible refine ap_of ?_; kernel_rfl) | (with_reducible refine ds_of ?_; kernel_rfl) | (with_reducible refine eq_of ?_; kernel_rfl) | exact rfl | (intro h; exact absurd h (by decide)) | (intro h; exact absurd h hx) | intro _ | apply And.intro)
  all_goals first | rfl | (exfalso; simp_all; done) | (exfalso; simp_all; omega)
theorem rbegin_k4 (h : 4 < o.kind) : FunOK Tryz.prog 35 [.agg (coreC L w), V id, V home, .agg (opC o)] (hOf []) (noV 1) (hOf []) := by
  refine fun_deep (pins := []) (l0 := []) (objs := []) (base := 0) (xx_ok tabT_ok [58]) mixed Tryz.func35 rfl (Nat.le_of_ble_eq_true rfl) rfl rfl ?_
  have hx : ¬ (decide (o.kind > 4) = false) := by simp [h]
  repeat' ((conv => whnf); first | exact trivial | (with_reducible refine ap_of ?_; kernel_rfl) | (with_reducible refine ds_of ?_; kernel_rfl) | (with_reducible refine eq_of ?_; kernel_rfl) | exact rfl | (intro h; exact absurd h (by decide)) | (intro h; exact absurd h hx) | intro _ | apply And.intro)
  all_goals first | rfl | (exfalso; simp_all; done) | (exfalso; simp_all; omega)
variable (h1 : 1 ≤ o.kind) (h4 : o.kind ≤ 4)
include h1 h4
theorem rbegin_l0 (h : o.line < 0) : FunOK Tryz.prog 35 [.agg (coreC L w), V id, V home, .agg (opC o)] (hOf []) (noV 3) (hOf []) := by
  refine fun_deep (pins := []) (l0 := []) (objs := []) (base := 0) (xx_ok tabT_ok [58]) mixed Tryz.func35 rfl (Nat.le_of_ble_eq_true rfl) rfl rfl ?_
  have hx : ¬ ((decide (o.line < 0) == false) = true) := by simp [h]
  repeat' ((conv => whnf); first | exact trivial | (with_reducible refine ap_of ?_; kernel_rfl) | (with_reducible refine ds_of ?_; kernel_rfl) | (with_reducible refine eq_of ?_; kernel_rfl) | exact rfl | (intro h; exact absurd h (by decide)) | (intro h; exact absurd h hx) | intro _ | apply And.intro)
  all_goals first | rfl | (exfalso; simp_all; done) | (exfalso; simp_all; omega)
theorem rbegin_l1 (h : (L.length : Int) ≤ o.line) : FunOK Tryz.prog 35 [.agg (coreC L w), V id, V home, .agg (opC o)] (hOf []) (noV 3) (hOf []) := by
  refine fun_deep (pins := []) (l0 := []) (objs := []) (base := 0) (xx_ok tabT_ok [58]) mixed Tryz.func35 rfl (Nat.le_of_ble_eq_true rfl) rfl rfl ?_
  have hx : ¬ ((decide (o.line ≥ (L.length : Int)) == false) = true) := by simp [h]
  repeat' ((conv => whnf); first | exact trivial | (with_reducible refine ap_of ?_; kernel_rfl) | (with_reducible refine ds_of ?_; kernel_rfl) | (with_reducible refine eq_of ?_; kernel_rfl) | exact rfl | (intro h; exact absurd h (by decide)) | (intro h; exact absurd h hx) | intro _ | apply And.intro)
  all_goals first | rfl | (exfalso; simp_all; done) | (exfalso; simp_all; omega)
theorem rbegin_v0 (h : o.value < 0) : FunOK Tryz.prog 35 [.agg (coreC L w), V id, V home, .agg (opC o)] (hOf []) (noV 3) (hOf []) := by
  refine fun_deep (pins := []) (l0 := []) (objs := []) (base := 0) (xx_ok tabT_ok [58]) mixed Tryz.func35 rfl (Nat.le_of_ble_eq_true rfl) rfl rfl ?_
  have hx : ¬ ((decide (o.value < 0) == false) = true) := by simp [h]
  repeat' ((conv => whnf); first | exact trivial | (with_reducible refine ap_of ?_; kernel_rfl) | (with_reducible refine ds_of ?_; kernel_rfl) | (with_reducible refine eq_of ?_; kernel_rfl) | exact rfl | (intro h; exact absurd h (by decide)) | (intro h; exact absurd h hx) | intro _ | apply And.intro)
  all_goals first | rfl | (exfalso; simp_all; done) | (exfalso; simp_all; omega)
theorem rbegin_v1 (h : 255 < o.value) : FunOK Tryz.prog 35 [.agg (coreC L w), V id, V home, .agg (opC o)] (hOf []) (noV 3) (hOf []) := by
  refine fun_deep (pins := []) (l0 := []) (objs := []) (base := 0) (xx_ok tabT_ok [58]) mixed Tryz.func35 rfl (Nat.le_of_ble_eq_true rfl) rfl rfl ?_
  have hx : ¬ (decide (o.value > 255) = false) := by simp [h]
  repeat' ((conv => whnf); first | exact trivial | (with_reducible refine ap_of ?_; kernel_rfl) | (with_reducible refine ds_of ?_; kernel_rfl) | (with_reducible refine eq_of ?_; kernel_rfl) | exact rfl | (intro h; exact absurd h (by decide)) | (intro h; exact absurd h hx) | intro _ | apply And.intro)
  all_goals first | rfl | (exfalso; simp_all; done) | (exfalso; simp_all; omega)
variable (h5 : 0 ≤ o.line) (h6 : o.line < (L.length : Int)) (h7 : 0 ≤ o.value) (h8 : o.value ≤ 255) (l : SLine) (hg : L.getD o.line.toNat [] = lineD l)
include h5 h6 h7 h8 hg
theorem rbegin_w (h : w.kind ≠ 0) : FunOK Tryz.prog 35 [.agg (coreC L w), V id, V home, .agg (opC o)] (hOf []) (noV 8) (hOf []) := by
  refine fun_deep (pins := []) (l0 := []) (objs := []) (base := 0) (xx_ok tabT_ok [58]) mixed Tryz.func35 rfl (Nat.le_of_ble_eq_true rfl) rfl rfl ?_
  have hx : ¬ (((w.kind != 0) == false) = true) := by simp [h]
  have hn : o.line.toNat < L.length := by omega
  repeat' ((conv => whnf); first | exact trivial | (with_reducible refine ap_of ?_; kernel_rfl) | (with_reducible refine ds_of ?_; kernel_rfl) | (with_reducible refine eq_of ?_; kernel_rfl) | exact rfl | (intro h; exact absurd h (by decide)) | (intro h; exact absurd h hx) | intro _ | apply And.intro)
  all_goals first
    | exact h5
    | exact h6
    | exact hn
    | rfl
    | (rw [hg]; first | rfl | exact Nat.le_refl _)
    | (exfalso; simp_all; omega)
    | (exfalso; simp_all; done)
theorem rbegin_s (h : 65535 ≤ l.serial) : FunOK Tryz.prog 35 [.agg (coreC L w), V id, V home, .agg (opC o)] (hOf []) (noV 8) (hOf []) := by
  refine fun_deep (pins := []) (l0 := []) (objs := []) (base := 0) (xx_ok tabT_ok [58]) mixed Tryz.func35 rfl (Nat.le_of_ble_eq_true rfl) rfl rfl ?_
  have hx : ¬ (decide (((L.getD o.line.toNat []).getD (0 + 1 + 1 + 1) dz).toI ≥ 65535) = false) := by rw [hg]; simp [lineD, DV.toI, h]
  have hn : o.line.toNat < L.length := by omega
  repeat' ((conv => whnf); first | exact trivial | (with_reducible refine ap_of ?_; kernel_rfl) | (with_reducible refine ds_of ?_; kernel_rfl) | (with_reducible refine eq_of ?_; kernel_rfl) | exact rfl | (intro h; exact absurd h (by decide)) | (intro h; exact absurd h hx) | intro _ | apply And.intro)
  all_goals first
    | exact h5
    | exact h6
    | exact hn
    | rfl
    | (rw [hg]; first | rfl | exact Nat.le_refl _)
    | (exfalso; simp_all; omega)
    | (exfalso; simp_all; done)
end
theorem rowsL_set (ls : List SLine) (i : Nat) (x : SLine) : (rowsL ls).set i (lineD x) = rowsL (ls.set i x) := by simp [rowsL, List.map_set]
theorem rbegin_any (c : SCore) (id home : Int) (o : SOp) (hL : c.lines.length < 1000) (hs : ∀ i, i < c.lines.length → 0 ≤ (c.line i).serial) : FunOK Tryz.prog 35 [.agg (coreC (rowsL c.lines) c.wait), V id, V home, .agg (opC o)] (hOf []) (beginV (beginF c id home o)) (hOf []) := by
  have hlen : (rowsL c.lines).length = c.lines.length := rowsL_len _
  unfold beginF
  by_cases k1 : o.kind < 1
  · rw [if_pos (.inl k1)]
    exact rbegin_k1 _ _ _ _ _ k1
  by_cases k4 : 4 < o.kind
  · rw [if_pos (.inr k4)]
    exact rbegin_k4 _ _ _ _ _ k4
  rw [if_neg (by omega)]
  have g1 : 1 ≤ o.kind := by omega
  have g4 : o.kind ≤ 4 := by omega
  by_cases l0 : o.line < 0
  · rw [if_pos (.inl l0)]
    exact rbegin_l0 _ _ _ _ _ g1 g4 l0
  by_cases l1 : (c.lines.length : Int) ≤ o.line
  · rw [if_pos (.inr (.inl l1))]
    exact rbegin_l1 _ _ _ _ _ g1 g4 (by rw [hlen]; exact l1)
  by_cases v0 : o.value < 0
  · rw [if_pos (.inr (.inr (.inl v0)))]
    exact rbegin_v0 _ _ _ _ _ g1 g4 v0
  by_cases v1 : 255 < o.value
  · rw [if_pos (.inr (.inr (.inr v1)))]
    exact rbegin_v1 _ _ _ _ _ g1 g4 v1
  rw [if_neg (by omega)]
  have g5 : 0 ≤ o.line := by omega
  have g6 : o.line < ((rowsL c.lines).length : Int) := by rw [hlen]; omega
  have g7 : 0 ≤ o.value := by omega
  have g8 : o.value ≤ 255 := by omega
  have hu : ∀ u ∈ rowsL c.lines, u.length = 7 := rowsL_one _
  have hg : (rowsL c.lines).getD o.line.toNat [] = lineD (c.line o.line.toNat) := rowsL_get (by omega)
  by_cases w0 : c.wait.kind ≠ 0
  · rw [if_pos (.inl w0)]
    exact rbegin_w _ _ _ _ _ g1 g4 g5 g6 g7 g8 _ hg w0
  by_cases s0 : 65535 ≤ (c.line o.line.toNat).serial
  · rw [if_pos (.inr s0)]
    exact rbegin_s _ _ _ _ _ g1 g4 g5 g6 g7 g8 _ hg s0
  rw [if_neg (by omega)]
  have h := rbegin_in (rowsL c.lines) hu (by rw [hlen]; exact hL) (c.line o.line.toNat) c.wait o id home g1 g4 g5 g6 g7 g8 hg (by omega) (hs _ (by omega)) (by omega) _ rfl
  rw [rowsL_set] at h
  by_cases b0 : (beginL (c.line o.line.toNat) o).2.1 = 0
  · rw [if_pos b0] at h
    rw [if_pos b0]
    exact h
  · rw [if_neg b0] at h
    rw [if_neg b0]
    exact h
end Go.Proofs.YtpgeopefamomnaeGreat

namespace Go.Proofs.YtpgeopefamomnaeGreat
open Go.RowKit
set_option linter.unusedVariables false
set_option maxRecDepth 100000
structure HomeOK (e : SEntry) : Prop where
  sh : 0 ≤ e.sharers ∧ e.sharers < 16
  nd : 0 ≤ e.need ∧ e.need < 16
  ow : e.owner < 4
  fo : 0 ≤ e.forr ∧ e.forr < 4
  la : e.last.length ≤ 4
  tu : 0 ≤ e.turn
theorem rhomeHear_in (l : List SEntry) (id : Int) (m : Msg) (hl : l.length ≤ 1000) (h0 : 0 ≤ m.line) (h1 : m.line < l.length) (h2 : 0 ≤ m.frm) (h3 : m.frm < (l.getD m.line.toNat SEntry.zero).last.length) (ok : HomeOK (l.getD m.line.toNat SEntry.zero)) : FunOK Tryz.prog 44 [Ro (R entD l), V id, .agg (msgC m)] (hOf []) (.tup [Ro (R entD (homeHearF l id m).1), Ro (R msgD (homeHearF l id m).2)]) (hOf []) := by
  have hnl : m.line.toNat < l.length := by omega
  have hg : (R entD l).getD m.line.toNat [] = entD (l.getD m.line.toNat SEntry.zero) := R_get entD SEntry.zero hnl
  have hu : ∀ u ∈ R entD l, u.length = 10 := R_one (f := entD) (fun _ => rfl) l
  have hF : homeHearF l id m = (l.set m.line.toNat (homeL (l.getD m.line.toNat SEntry.zero) m.line id m.frm.toNat m).1, (homeL (l.getD m.line.toNat SEntry.zero) m.line id m.frm.toNat m).2) := by
    unfold homeHearF
    rw [if_neg (by omega)]
  rw [hF]
  generalize l.getD m.line.toNat SEntry.zero = e at *
  obtain ⟨p, hp⟩ := Int.eq_ofNat_of_zero_le h2
  have hpn : m.frm.toNat = p := by omega
  rw [hpn, ← R_set]
  have h3' : p < e.last.length := by omega
  obtain ⟨kd, frm, to, line, serial, turn, value, ma⟩ := m
  simp only at *
  subst hp
  have hRl : (R entD l).length = l.length := R_len entD l
  have w1 : line < ((R entD l).length : Int) := by rw [hRl]; exact h1
  have w2 : (R entD l).length ≤ 1000 := by rw [hRl]; exact hl
  by_cases k1 : kd = 1
  · subst k1
    exact rhh1 (R entD l) hu _ _ _ _ _ _ _ _ _ _ p to line serial turn value ma id w2 h0 w1 h3' hg ok.sh ok.nd ok.ow ok.fo ok.la ok.tu _ rfl
  by_cases k2 : kd = 2
  · subst k2
    exact rhh2 (R entD l) hu _ _ _ _ _ _ _ _ _ _ p to line serial turn value ma id w2 h0 w1 h3' hg ok.sh ok.nd ok.ow ok.fo ok.la ok.tu _ rfl
  by_cases k3 : kd = 3
  · subst k3
    exact rhh3 (R entD l) hu _ _ _ _ _ _ _ _ _ _ p to line serial turn value ma id w2 h0 w1 h3' hg ok.sh ok.nd ok.ow ok.fo ok.la ok.tu _ rfl
  by_cases k8 : kd = 8
  · subst k8
    exact rhh8 (R entD l) hu _ _ _ _ _ _ _ _ _ _ p to line serial turn value ma id w2 h0 w1 h3' hg ok.sh ok.nd ok.ow ok.fo ok.la ok.tu _ rfl
  by_cases k9 : kd = 9
  · subst k9
    exact rhh9 (R entD l) hu _ _ _ _ _ _ _ _ _ _ p to line serial turn value ma id w2 h0 w1 h3' hg ok.sh ok.nd ok.ow ok.fo ok.la ok.tu _ rfl
  by_cases k10 : kd = 10
  · subst k10
    exact rhh10 (R entD l) hu _ _ _ _ _ _ _ _ _ _ p to line serial turn value ma id w2 h0 w1 h3' hg ok.sh ok.nd ok.ow ok.fo ok.la ok.tu _ rfl
  exact rhhX (R entD l) hu _ _ _ _ _ _ _ _ _ _ kd ⟨k1, k2, k3, k8, k9, k10⟩ p to line serial turn value ma id w2 h0 w1 h3' hg ok.sh ok.nd ok.ow ok.fo ok.la ok.tu _ rfl
end Go.Proofs.YtpgeopefamomnaeGreat

namespace Go.Proofs.YtpgeopefamomnaeGreat
open Go.RowKit
set_option linter.unusedVariables false
set_option maxRecDepth 100000
theorem turnF_at (xs : List Nat) (bit : Int) (k : Nat) (hk : k < xs.length) : (turnF xs bit).getD k 0 = if 8 * (k : Int) ≤ bit ∧ bit < 8 * (k : Int) + 8 then xs.getD k 0 ^^^ 2 ^ (bit - 8 * (k : Int)).toNat else xs.getD k 0 := by
  unfold turnF
  by_cases hc : 0 ≤ bit ∧ bit / 8 < xs.length
  · rw [if_pos hc]
    by_cases hb : 8 * (k : Int) ≤ bit ∧ bit < 8 * (k : Int) + 8
    · rw [if_pos hb]
      have e1 : (bit / 8).toNat = k := by omega
      have e2 : (bit % 8).toNat = (bit - 8 * (k : Int)).toNat := by omega
      rw [e1, e2]
      simp [List.getD, hk]
    · rw [if_neg hb]
      have hne : (bit / 8).toNat ≠ k := by omega
      simp [List.getD, List.getElem?_set_ne hne]
  · rw [if_neg hc, if_neg (by omega)]
theorem two_bit (t : Nat) : ((2 ^ t : Nat) : Int) = bitF t := by
  unfold bitF
  exact_mod_cast rfl
theorem xor_u8 (x t : Nat) (hx : x < 256) (ht : t < 8) : IntKind.u8.wrap (IntKind.i64.wrap ((BitVec.ofInt IntKind.i64.bits (x : Int) ^^^ BitVec.ofInt IntKind.i64.bits (bitF t)).toNat : Int)) = ((x ^^^ 2 ^ t : Nat) : Int) := by
  have hp : 2 ^ t ≤ 2 ^ 7 := Nat.pow_le_pow_right (by decide) (by omega)
  have h1 := xor_i64 x (2 ^ t) (by omega) (by omega)
  rw [two_bit] at h1
  have h3 : x ^^^ 2 ^ t < 2 ^ 8 := Nat.xor_lt_two_pow hx (by omega)
  have h4 : IntKind.i64.wrap ((BitVec.ofInt IntKind.i64.bits (x : Int) ^^^ BitVec.ofInt IntKind.i64.bits (bitF t)).toNat : Int) = ((x ^^^ 2 ^ t : Nat) : Int) := h1
  rw [h4]
  simp only [IntKind.wrap, IntKind.bits, IntKind.signed]
  simp
  omega
theorem turn_step {b : List Nat} {bit : Int} {k : Nat} (h : k < b.length) {y : Nat} (hy : (turnF b bit).getD k 0 = y) : rowB ((turnF b bit).take (k + 1)) = rowB ((turnF b bit).take k) ++ [[.int .u8 (y : Nat)]] := by
  rw [take_snoc _ k 0 (by rw [turnF_length]; exact h), hy]
  exact (R_app byteD _ [_]).symm
set_option maxHeartbeats 4000000 in
theorem rturned_ok (b : List Nat) (hb : isBytes b) (hl : b.length ≤ 1000) (bit : Int) (h0 : 0 ≤ bit) (h1 : bit < 100000) : FunOK Tryz.prog 43 [Ro (rowB b), V bit] (hOf []) (Ro (rowB (turnF b bit))) (hOf []) := by
  refine fun_deep (pins := []) (l0 := []) (objs := []) (base := 0) (xx_ok tab0_ok []) mixed Tryz.func43 rfl (Nat.le_of_ble_eq_true rfl) rfl rfl ?_
  repeat' ((conv => whnf); first | exact trivial | (with_reducible refine ap_of ?_; kernel_rfl) | (with_reducible refine ds_of ?_; kernel_rfl) | (with_reducible refine eq_of ?_; kernel_rfl) | exact rfl | (intro h; exact absurd h (by decide)) | intro _ | apply And.intro)
  refine loop_keep [1, 4, 9] 14 [(1, ?_)] {k : Nat // k ≤ b.length} (fun k => [(5, .c (.own 1)), (10, V b.length), (11, V k.1)]) (fun k => [(0, .live (.row [] 1 5 false)), (1, .live (.row (rowB ((turnF b bit).take k.1)) 1 5 false))]) (fun k => b.length - k.1) ⟨0, Nat.zero_le _⟩ ?_
  rotate_left
  (conv => whnf)
  refine ⟨?_, ?_⟩
  · repeat' ((conv => whnf); first | exact trivial | exact rfl | apply And.intro)
    all_goals first | exact int_eq (show ((rowB b).length : Int) = b.length by rw [rowB_len]) | trace_state
  · rintro ⟨k, hk⟩
    have hb8 : b.length = b.length := rfl
    have hT : (turnF b bit).length = b.length := turnF_length b bit
    have hrl : (rowB ((turnF b bit).take k)).length ≤ 1000 := by rw [rowB_len, List.length_take]; omega
    have w8 : IntKind.i64.wrap (8 * (k : Int)) = 8 * (k : Int) := wrap_in (by omega) (by omega)
    have w9 : IntKind.i64.wrap (8 * (k : Int) + 8) = 8 * (k : Int) + 8 := wrap_in (by omega) (by omega)
    repeat' ((conv => whnf); first | exact trivial | (with_reducible refine ap_of ?_; kernel_rfl) | (with_reducible refine ds_of ?_; kernel_rfl) | (with_reducible refine eq_of ?_; kernel_rfl) | exact rfl | (intro h; exact absurd h (by decide)) | intro _ | apply And.intro)
    all_goals first
      | (have hlt : k < b.length := (by have := k_lt (k := k) (n := b.length) (by assumption); omega)
         first
           | first | exact Int.natCast_nonneg _ | (rw [rowB_len]; exact Int.ofNat_lt.2 (show (k : Nat) < _ from hlt)) | (rw [show ∀ n : Nat, ((n : Nat) : Int).toNat = n from Int.toNat_natCast, rowB_get hlt]; first | rfl | exact Nat.le_refl _) | (rw [show ∀ n : Nat, ((n : Nat) : Int).toNat = n from Int.toNat_natCast, rowB_len]; exact hlt)
           | rfl
           | (refine Nat.le_trans (Nat.add_le_add hrl (Nat.le_refl _)) ?_; simp; done)
           | (refine len_set1 (by assumption) ?_; rfl)
           | ((conv => whnf)
              refine ⟨⟨k + 1, hlt⟩, [(1, ?_)], ?_, ?_⟩
              rotate_left
              · show b.length - (k + 1) < b.length - k
                omega
              · repeat' ((conv => whnf); first | exact trivial | exact rfl | apply And.intro)
                · exact succ_eq k (by omega)
                · refine row_eq ?_
                  rw [show ∀ n : Nat, ((n : Nat) : Int).toNat = n from Int.toNat_natCast, rowB_get hlt]
                  refine (turn_step hlt ?_).symm
                  rw [turnF_at b bit k hlt]
                  refine if_neg ?_
                  intro hc
                  have e1 : decide (bit ≥ IntKind.i64.wrap (8 * (k : Int))) = true := by rw [w8]; exact decide_eq_true hc.1
                  have e2 : decide (bit < IntKind.i64.wrap (IntKind.i64.wrap (8 * (k : Int)) + 8)) = true := by rw [w8, w9]; exact decide_eq_true hc.2
                  first
                    | (have e3 : decide (bit < IntKind.i64.wrap (IntKind.i64.wrap (8 * (k : Int)) + 8)) = false := by assumption
                       rw [e2] at e3
                       exact absurd e3 (by decide))
                    | (have e3 : (decide (bit ≥ IntKind.i64.wrap (8 * (k : Int))) == true) = false := by assumption
                       rw [e1] at e3
                       exact absurd e3 (by decide))))
      | (have hke : k = b.length := (by have := k_ge (k := k) (n := b.length) (by assumption); omega)
         subst hke
         first
           | rfl
           | (rw [List.take_of_length_le (by rw [hT]; exact Nat.le_refl _)]; rfl)
           | (show Ro (rowB ((turnF b bit).take b.length)) = _
              rw [List.take_of_length_le (by rw [hT]; exact Nat.le_refl _)]))
      | skip
    have hlt : k < b.length := (by have := k_lt (k := k) (n := b.length) (by assumption); omega)
    have e1 : 8 * (k : Int) ≤ bit := by
      have h : (decide (bit ≥ IntKind.i64.wrap (8 * (k : Int))) == true) = true := by assumption
      rw [w8] at h
      simpa using h
    have e2 : bit < 8 * (k : Int) + 8 := by
      have h : decide (bit < IntKind.i64.wrap (IntKind.i64.wrap (8 * (k : Int)) + 8)) = true := by assumption
      rw [w8, w9] at h
      simpa using h
    obtain ⟨n, hn⟩ := Int.eq_ofNat_of_zero_le (show 0 ≤ bit - 8 * (k : Int) by omega)
    have hn8 : n < 8 := by omega
    have wn : IntKind.i64.wrap (bit - 8 * (k : Int)) = n := (wrap_in (by omega) (by omega)).trans hn
    have hx := hb k hlt
    have hx2 : (((rowB b).getD ((k : Nat) : Int).toNat []).getD 0 dz).toI = ((b.getD k 0 : Nat) : Int) := by
      rw [Int.toNat_natCast, rowB_get hlt]; rfl
    (conv => whnf)
    refine loop_keep [1, 4, 5, 6, 7, 9, 10, 11] 40 [] {t : Nat // t ≤ n} (fun t => [(8, V (bitF t.1)), (30, V (n : Nat)), (31, V t.1)]) (fun t => [(0, .live (.row [] 1 5 false)), (1, .live (.row (rowB ((turnF b bit).take k)) 1 5 false))]) (fun t => n - t.1) ⟨0, Nat.zero_le _⟩ ?_
    (conv => whnf)
    refine ⟨?_, ?_⟩
    · repeat' ((conv => whnf); first | exact trivial | exact rfl | apply And.intro)
      all_goals first | exact int_eq rfl | (refine int_eq ?_; rw [w8]; exact wn) | trace_state
    · rintro ⟨t, ht⟩
      repeat' ((conv => whnf); first | exact trivial | (with_reducible refine ap_of ?_; kernel_rfl) | (with_reducible refine ds_of ?_; kernel_rfl) | (with_reducible refine eq_of ?_; kernel_rfl) | exact rfl | (intro h; exact absurd h (by decide)) | intro _ | apply And.intro)
      all_goals first
        | (have htl : t < n := (by have := k_lt (k := t) (n := n) (by assumption); omega)
           first
             | rfl
             | ((conv => whnf)
                refine ⟨⟨t + 1, htl⟩, [], ?_, ?_⟩
                · show n - (t + 1) < n - t
                  omega
                · repeat' ((conv => whnf); first | exact trivial | exact rfl | apply And.intro)
                  · exact int_eq (twice t (by omega))
                  · exact succ_eq t (by omega)))
        | (have htn : t = n := (by have := k_ge (k := t) (n := n) (by assumption); omega)
           subst htn
           first
             | rfl
             | (refine Nat.le_trans (Nat.add_le_add hrl (Nat.le_refl _)) ?_; simp; done)
             | (refine len_set1 (by assumption) ?_; rfl)
             | ((conv => whnf)
                refine ⟨⟨k + 1, hlt⟩, [(1, ?_)], ?_, ?_⟩
                rotate_left
                · show b.length - (k + 1) < b.length - k
                  omega
                · repeat' ((conv => whnf); first | exact trivial | exact rfl | apply And.intro)
                  · exact succ_eq k (by omega)
                  · refine row_eq ?_
                    refine Eq.trans ?_ (turn_step hlt (y := b.getD k 0 ^^^ 2 ^ t) ?_).symm
                    · have h9 := xor_u8 (b.getD k 0) t hx hn8
                      rw [← hx2] at h9
                      show rowB ((turnF b bit).take k) ++ [[DV.int .u8 (IntKind.u8.wrap (IntKind.i64.wrap ((BitVec.ofInt IntKind.i64.bits (IntKind.i64.wrap (((rowB b).getD ((k : Nat) : Int).toNat []).getD 0 dz).toI) ^^^ BitVec.ofInt IntKind.i64.bits (bitF t)).toNat : Int)))]] = _
                      rw [show IntKind.i64.wrap (((rowB b).getD ((k : Nat) : Int).toNat []).getD 0 dz).toI = (((rowB b).getD ((k : Nat) : Int).toNat []).getD 0 dz).toI by rw [hx2]; exact u8_i64 _ hx, h9]
                    · rw [turnF_at b bit k hlt, if_pos ⟨e1, e2⟩]
                      congr 2
                      omega))
        | skip
      all_goals trace_state
end Go.Proofs.YtpgeopefamomnaeGreat

namespace Go.Proofs.YtpgeopefamomnaeGreat
open Go.RowKit
set_option linter.unusedVariables false
set_option maxRecDepth 100000
def coreD (c : SCore) : List DV := [.row (rowsL c.lines), J c.wait.kind, J c.wait.line, J c.wait.value]
def chipC (x : SChip) : List CV := [.d (.row (R coreD x.cores)), .d (.row (R entD x.home)), .d (.row (framesD x.frames))]
def newC (c : Cfg) : SCore := ⟨List.replicate c.lines.toNat SLine.zero, SOp.zero⟩
def newE (c : Cfg) : SEntry := { SEntry.zero with owner := -1, last := List.replicate c.cores.toNat 0 }
set_option maxHeartbeats 4000000 in
theorem rnew_ok (c : Cfg) (h1 : 1 ≤ c.cores) (h2 : c.cores ≤ 4) (h3 : 1 ≤ c.lines) (h4 : c.lines ≤ 4) : FunOK Tryz.prog 20 [.agg (cfgC c)] (hOf []) (.tup [.agg (chipC (newF c).1), V 0]) (hOf []) := by
  refine fun_deep (pins := []) (l0 := []) (objs := []) (base := 0) (xx_ok tab0_ok []) mixed Tryz.func20 rfl (Nat.le_of_ble_eq_true rfl) rfl rfl ?_
  repeat' ((conv => whnf); first | exact trivial | (with_reducible refine ap_of ?_; kernel_rfl) | (with_reducible refine ds_of ?_; kernel_rfl) | (with_reducible refine eq_of ?_; kernel_rfl) | exact rfl | (intro h; exact absurd h (by decide)) | intro _ | apply And.intro)
  all_goals first
    | (exfalso; simp_all; omega)
    | (exfalso; simp_all; done)
    | skip
  refine loop_keep [1, 2, 3, 4] 40 [] {k : Nat // k ≤ c.lines.toNat} (fun k => [(25, V c.lines), (26, V k.1)]) (fun k => match k.1 with | 0 => [(0, .live (.box (cfgC c) 23)), (8, .live (.box [.nils, .nils, .nils] 29)), (2000, .live (.box [.nils, .nils, .nils] 29))] | j + 1 => [(0, .live (.box (cfgC c) 23)), (8, .live (.box [.nils, .nils, .nils] 29)), (2000, .live (.box [.nils, .own 1, .nils] 29)), (1, .live (.row (R entD (List.replicate (j + 1) (newE c))) 10 54 false))]) (fun k => c.lines.toNat - k.1) ⟨0, Nat.zero_le _⟩ ?_
  (conv => whnf)
  have hE : ∀ n : Nat, R entD (List.replicate n (newE c)) ++ (List.replicate 1 [J 0]).set 0 (entD (newE c)) = R entD (List.replicate (n + 1) (newE c)) := fun n => by
    rw [List.replicate_succ' (n := n)]
    exact R_app entD _ [_]
  have hC : ∀ n : Nat, R coreD (List.replicate n (newC c)) ++ (List.replicate 1 [J 0]).set 0 (coreD (newC c)) = R coreD (List.replicate (n + 1) (newC c)) := fun n => by
    rw [List.replicate_succ' (n := n)]
    exact R_app coreD _ [_]
  have hI : List.replicate c.cores.toNat [J 0] = rowsI (List.replicate c.cores.toNat 0) := by simp [rowsI]
  have hLn : List.replicate c.lines.toNat [J 0, J 0, J 0, J 0, J 0, J 0, J 0] = rowsL (List.replicate c.lines.toNat SLine.zero) := by simp [rowsL, lineD, SLine.zero]
  have hR1 : ∀ n, n ≤ c.lines.toNat → (R entD (List.replicate n (newE c))).length ≤ 4 := fun n hn => by rw [R_len, List.length_replicate]; omega
  have hR2 : ∀ n, n ≤ c.cores.toNat → (R coreD (List.replicate n (newC c))).length ≤ 4 := fun n hn => by rw [R_len, List.length_replicate]; omega
  have hN : newF c = (⟨List.replicate c.cores.toNat (newC c), List.replicate c.lines.toNat (newE c), []⟩, 0) := by
    unfold newF
    rw [if_neg (by omega)]
    rfl
  rw [hN]
  refine ⟨?_, ?_⟩
  · repeat' ((conv => whnf); first | exact trivial | exact rfl | apply And.intro)
  · rintro ⟨k, hk⟩
    match k, hk with
    | 0, hk =>
      repeat' ((conv => whnf); first | exact trivial | (with_reducible refine ap_of ?_; kernel_rfl) | (with_reducible refine ds_of ?_; kernel_rfl) | (with_reducible refine eq_of ?_; kernel_rfl) | exact rfl | (intro h; exact absurd h (by decide)) | intro _ | apply And.intro)
      all_goals first
        | (exfalso
           have h := (by have := k_ge (k := 0) (n := c.lines) (by assumption); omega)
           omega)
        | rfl
        | omega
        | (simp; done)
        | (refine len_set1 (by assumption) ?_; rfl)
        | ((conv => whnf)
           refine ⟨⟨1, by omega⟩, [(1, ?_)], ?_, ?_⟩
           rotate_left
           · show c.lines.toNat - 1 < c.lines.toNat - 0
             omega
           · repeat' ((conv => whnf); first | exact trivial | exact rfl | apply And.intro)
             all_goals first
               | exact succ_eq 0 (by omega)
               | (refine row_eq ?_
                  rw [hI]
                  exact hE 0)
               | trace_state)
        | trace_state
    | j + 1, hk =>
      have hRj := hR1 (j + 1) hk
      repeat' ((conv => whnf); first | exact trivial | (with_reducible refine ap_of ?_; kernel_rfl) | (with_reducible refine ds_of ?_; kernel_rfl) | (with_reducible refine eq_of ?_; kernel_rfl) | exact rfl | (intro h; exact absurd h (by decide)) | intro _ | apply And.intro)
      all_goals first
        | rfl
        | (have hlt : j + 1 < c.lines.toNat := by have := k_lt (k := j + 1) (n := c.lines) (by assumption); omega
           first
             | omega
             | (refine Nat.le_trans (Nat.add_le_add hRj (Nat.le_refl _)) ?_; simp; done)
             | (refine len_set1 (by assumption) ?_; rfl)
             | ((conv => whnf)
                refine ⟨⟨j + 1 + 1, by omega⟩, [(1, ?_)], ?_, ?_⟩
                rotate_left
                · show c.lines.toNat - (j + 1 + 1) < c.lines.toNat - (j + 1)
                  omega
                · repeat' ((conv => whnf); first | exact trivial | exact rfl | apply And.intro)
                  all_goals first
                    | exact succ_eq (j + 1) (by omega)
                    | (refine row_eq ?_
                       rw [hI]
                       exact hE (j + 1))
                    | trace_state))
        | skip
      have hke : j + 1 = c.lines.toNat := by have := k_ge (k := j + 1) (n := c.lines) (by assumption); omega
      (conv => whnf)
      refine loop_keep [1, 2, 3, 4] 80 [(1, 1)] {k : Nat // k ≤ c.cores.toNat} (fun k => [(39, V c.cores), (40, V k.1)]) (fun k => match k.1 with | 0 => [(0, .live (.box (cfgC c) 23)), (8, .live (.box [.nils, .nils, .nils] 29)), (2000, .live (.box [.nils, .own 1, .nils] 29)), (1, .live (.row (R entD (List.replicate (j + 1) (newE c))) 10 54 false))] | i + 1 => [(0, .live (.box (cfgC c) 23)), (8, .live (.box [.nils, .nils, .nils] 29)), (2000, .live (.box [.own 2, .own 1, .nils] 29)), (1, .live (.row (R entD (List.replicate (j + 1) (newE c))) 10 54 false)), (2, .live (.row (R coreD (List.replicate (i + 1) (newC c))) 4 49 false))]) (fun k => c.cores.toNat - k.1) ⟨0, Nat.zero_le _⟩ ?_
      (conv => whnf)
      refine ⟨?_, ?_⟩
      · repeat' ((conv => whnf); first | exact trivial | exact rfl | apply And.intro)
      · rintro ⟨k, hk2⟩
        match k, hk2 with
        | 0, hk2 =>
          repeat' ((conv => whnf); first | exact trivial | (with_reducible refine ap_of ?_; kernel_rfl) | (with_reducible refine ds_of ?_; kernel_rfl) | (with_reducible refine eq_of ?_; kernel_rfl) | exact rfl | (intro h; exact absurd h (by decide)) | intro _ | apply And.intro)
          all_goals first
            | (exfalso
               have h := (by have := k_ge (k := 0) (n := c.cores) (by assumption); omega)
               omega)
            | rfl
            | omega
            | (simp; done)
            | (refine len_set1 (by assumption) ?_; rfl)
            | ((conv => whnf)
               refine ⟨⟨1, by omega⟩, [(1, 1), (2, ?_)], ?_, ?_⟩
               rotate_left
               · show c.cores.toNat - 1 < c.cores.toNat - 0
                 omega
               · repeat' ((conv => whnf); first | exact trivial | exact rfl | apply And.intro)
                 all_goals first
                   | exact succ_eq 0 (by omega)
                   | (refine row_eq ?_
                      rw [hLn]
                      exact hC 0)
                   | trace_state)
            | trace_state
        | i + 1, hk2 =>
          have hRi := hR2 (i + 1) hk2
          repeat' ((conv => whnf); first | exact trivial | (with_reducible refine ap_of ?_; kernel_rfl) | (with_reducible refine ds_of ?_; kernel_rfl) | (with_reducible refine eq_of ?_; kernel_rfl) | exact rfl | (intro h; exact absurd h (by decide)) | intro _ | apply And.intro)
          all_goals first
            | rfl
            | (have hlt : i + 1 < c.cores.toNat := by have := k_lt (k := i + 1) (n := c.cores) (by assumption); omega
               first
                 | omega
                 | (refine Nat.le_trans (Nat.add_le_add hRi (Nat.le_refl _)) ?_; simp; done)
                 | (refine len_set1 (by assumption) ?_; rfl)
                 | ((conv => whnf)
                    refine ⟨⟨i + 1 + 1, by omega⟩, [(1, 1), (2, ?_)], ?_, ?_⟩
                    rotate_left
                    · show c.cores.toNat - (i + 1 + 1) < c.cores.toNat - (i + 1)
                      omega
                    · repeat' ((conv => whnf); first | exact trivial | exact rfl | apply And.intro)
                      all_goals first
                        | exact succ_eq (i + 1) (by omega)
                        | (refine row_eq ?_
                           rw [hLn]
                           exact hC (i + 1))
                        | trace_state))
            | (have hki : i + 1 = c.cores.toNat := by have := k_ge (k := i + 1) (n := c.cores) (by assumption); omega
               rw [← hki, ← hke]
               rfl)
            | trace_state
end Go.Proofs.YtpgeopefamomnaeGreat

