/- The document's own answer: a timer's step. -/
import Derived.Test.YtpgeopefamomnacGreatRR
set_option linter.unusedSimpArgs false
namespace Go.Proofs.YtpgeopefamomnacGreat
open Go.RowKit
set_option linter.unusedVariables false
set_option maxRecDepth 100000

section
variable (CR HR FR : Row) (nd sn sb ok ol ov : Int)
set_option maxHeartbeats 4000000
theorem rdo_6lo (h : nd < 0) : FunOK Tryz.prog 12 [.agg [.d (.row CR), .d (.row HR), .d (.row FR)], .agg [I 6, I nd, I sn, I sb, I ok, I ol, I ov]] (hOf []) (noC 5) (hOf []) := by
  refine fun_deep (pins := []) (l0 := []) (objs := []) (base := 0) (xx_ok tabDo_ok ksDo) mixed Tryz.func12 rfl (Nat.le_of_ble_eq_true rfl) rfl rfl ?_
  have hx : ¬ ((decide (nd < 0) == false) = true) := by simp [h]
  repeat' ((conv => whnf); first | exact trivial | (with_reducible refine ap_of ?_; kernel_rfl) | (with_reducible refine ds_of ?_; kernel_rfl) | (with_reducible refine eq_of ?_; kernel_rfl) | exact rfl | (intro h; exact absurd h (by decide)) | (intro h; exact absurd h hx) | intro _ | apply And.intro)
  all_goals first | rfl | (exfalso; simp_all; done) | (exfalso; simp_all; omega)
theorem rdo_6hi (h0 : 0 ≤ nd) (h : (CR.length : Int) < nd) : FunOK Tryz.prog 12 [.agg [.d (.row CR), .d (.row HR), .d (.row FR)], .agg [I 6, I nd, I sn, I sb, I ok, I ol, I ov]] (hOf []) (noC 5) (hOf []) := by
  refine fun_deep (pins := []) (l0 := []) (objs := []) (base := 0) (xx_ok tabDo_ok ksDo) mixed Tryz.func12 rfl (Nat.le_of_ble_eq_true rfl) rfl rfl ?_
  have hx : ¬ (decide (nd > (CR.length : Int)) = false) := by simp [h]
  repeat' ((conv => whnf); first | exact trivial | (with_reducible refine ap_of ?_; kernel_rfl) | (with_reducible refine ds_of ?_; kernel_rfl) | (with_reducible refine eq_of ?_; kernel_rfl) | exact rfl | (intro h; exact absurd h (by decide)) | (intro h; exact absurd h hx) | intro _ | apply And.intro)
  all_goals first | rfl | (exfalso; simp_all; done) | (exfalso; simp_all; omega)
end
set_option maxHeartbeats 4000000 in
theorem rdo_6core {n L : Nat} {x : SChip} {V' : Nat → Int} (X : XI n L x V') (p : Nat) (hp : p < n) (sn sb ok ol ov : Int) (r : List Msg) (hr : timerF (x.core p) p n = r) : FunOK Tryz.prog 12 [.agg [.d (.row (R coreD x.cores)), .d (.row (R entD x.home)), .d (.row (framesD x.frames))], .agg [I 6, I p, I sn, I sb, I ok, I ol, I ov]] (hOf []) (doV (⟨x.cores, x.home, wayF x.frames r⟩, [], 0)) (hOf []) := by
  refine fun_deep (pins := []) (l0 := []) (objs := []) (base := 0) (xx_ok tabDo_ok ksDo) mixed Tryz.func12 rfl (Nat.le_of_ble_eq_true rfl) rfl rfl ?_
  have hfit := fit_all X.n4 X.l4 (timer_said X hp)
  have hbl := timer_len p n (x.core p).lines 0
  change (timerF (x.core p) p n).length ≤ _ at hbl
  rw [hr] at hfit hbl
  have hnl := X.nl p hp
  have hl4 := X.l4
  have hn4 := X.n4
  have hnc := X.nc
  have hpc : p < x.cores.length := by omega
  have hlen : (R coreD x.cores).length = n := by rw [R_len, hnc]
  have hlen2 : p < (R coreD x.cores).length := by omega
  have hleni : (p : Int) < ((R coreD x.cores).length : Int) := by omega
  have hg0 : (R coreD x.cores).getD p [] = coreD (x.core p) := R_get coreD SCore.zero hpc
  have hg : (R coreD x.cores).getD p [] = [.row (rowsL (x.core p).lines), J (x.core p).wait.kind, J (x.core p).wait.line, J (x.core p).wait.value] := hg0
  have hx1 : ¬ (decide ((p : Int) < ((R coreD x.cores).length : Int)) = false) := by simp; omega
  have hone : ∀ u ∈ R coreD x.cores, u.length = 4 := R_one (f := coreD) (fun _ => rfl) _
  have tnc : ((p : Nat) : Int).toNat = p := Int.toNat_natCast p
  repeat' ((conv => whnf); first | exact trivial | (with_reducible refine ap_of ?_; kernel_rfl) | (with_reducible refine ds_of ?_; kernel_rfl) | (with_reducible refine eq_of ?_; kernel_rfl) | exact rfl | (intro h; exact absurd h (by decide)) | (intro h; exact absurd h hx1) | intro _ | apply And.intro)
  all_goals first
    | exact Int.natCast_nonneg _
    | exact hleni
    | exact hlen2
    | exact hone _ (by assumption)
    | rfl
    | (rw [tnc, hg]; first | rfl | exact Nat.le_refl _)
    | skip
  all_goals simp only [tnc, hg, List.getD_cons_zero, List.getD_cons_succ, DV.toI, Nat.zero_add, toR_row, linesR_rows, hlen] at *
  all_goals clear hx1 hone tnc
  all_goals try rw [show timerF ⟨(x.core p).lines, ⟨(x.core p).wait.kind, (x.core p).wait.line, (x.core p).wait.value⟩⟩ p n = r from hr] at *
  all_goals first
    | (exfalso; simp_all; done)
    | (exfalso; simp_all; omega)
    | (simp; omega)
    | exact ⟨_, rfl, by omega⟩
    | exact ⟨_, _, rfl, rfl, hfit, by have := X.fl; omega, by omega⟩
    | (rw [framesR_rows, msgsR_rows]
       rfl)
    | trace_state
theorem htimer_snoc (id : Int) (e : SEntry) : ∀ (a : List SEntry) (i : Nat), homeTimerFrom id i (a ++ [e]) = homeTimerFrom id i a ++ saysF e ((i + a.length : Nat) : Int) id
  | [], i => by simp [homeTimerFrom]
  | b :: r, i => by
    rw [List.cons_append]
    unfold homeTimerFrom
    rw [htimer_snoc id e r (i + 1), List.append_assoc]
    simp only [List.length_cons]
    rw [show i + 1 + r.length = i + (r.length + 1) by omega]
theorem way_app (fs : List (List Nat)) (a b : List Msg) : wayF fs (a ++ b) = wayF (wayF fs a) b := by unfold wayF; rw [List.foldl_append]
theorem htimer_step (fs : List (List Nat)) (id : Int) {l : List SEntry} {k : Nat} (h : k < l.length) : wayF fs (homeTimerFrom id 0 (l.take (k + 1))) = wayF (wayF fs (homeTimerFrom id 0 (l.take k))) (saysF (l.getD k SEntry.zero) (k : Nat) id) := by
  rw [take_snoc l k SEntry.zero h, htimer_snoc, way_app, List.length_take, show 0 + min k l.length = k by omega]
set_option maxHeartbeats 4000000 in
theorem rdo_6home {n L : Nat} {x : SChip} {V' : Nat → Int} (X : XI n L x V') (sn sb ok ol ov : Int) : FunOK Tryz.prog 12 [.agg [.d (.row (R coreD x.cores)), .d (.row (R entD x.home)), .d (.row (framesD x.frames))], .agg [I 6, I n, I sn, I sb, I ok, I ol, I ov]] (hOf []) (doV (⟨x.cores, x.home, wayF x.frames (homeTimerFrom n 0 x.home)⟩, [], 0)) (hOf []) := by
  refine fun_deep (pins := []) (l0 := []) (objs := []) (base := 0) (xx_ok tabDo_ok ksDo) mixed Tryz.func12 rfl (Nat.le_of_ble_eq_true rfl) rfl rfl ?_
  have hl4 := X.l4
  have hn4 := X.n4
  have hnc := X.nc
  have hlen : (R coreD x.cores).length = n := by rw [R_len, hnc]
  have hx1 : ¬ (decide ((n : Int) < ((R coreD x.cores).length : Int)) = true) := by simp; omega
  repeat' ((conv => whnf); first | exact trivial | (with_reducible refine ap_of ?_; kernel_rfl) | (with_reducible refine ds_of ?_; kernel_rfl) | (with_reducible refine eq_of ?_; kernel_rfl) | exact rfl | (intro h; exact absurd h (by decide)) | (intro h; exact absurd h hx1) | intro _ | apply And.intro)
  all_goals first
    | rfl
    | (exfalso; simp_all; done)
    | (exfalso; simp_all; omega)
    | skip
  (conv => whnf)
  refine loop_keep [2, 3, 4, 5, 6, 7, 8, 126] 100 [] {k : Nat // k ≤ x.home.length} (fun k => [(127, V x.home.length), (128, V k.1)]) (fun k => [(0, .live (.box [.d (.row (R coreD x.cores)), .d (.row (R entD x.home)), .d (.row (framesD (wayF x.frames (homeTimerFrom n 0 (x.home.take k.1)))))] 33)), (8, .live (.box [I 6, I n, I sn, I sb, I ok, I ol, I ov] 28)), (16, .live (.box [.nils, .nils, .nils] 33)), (24, .live (.row [] 5 86 false))]) (fun k => x.home.length - k.1) ⟨0, Nat.zero_le _⟩ ?_
  (conv => whnf)
  have hhl : (R entD x.home).length = x.home.length := R_len _ _
  refine ⟨?_, ?_⟩
  · repeat' ((conv => whnf); first | exact trivial | exact rfl | apply And.intro)
    all_goals first | exact int_eq (show ((R entD x.home).length : Int) = x.home.length by rw [hhl]) | trace_state
  · rintro ⟨k, hk⟩
    have hone : ∀ u ∈ R entD x.home, u.length = 10 := R_one (f := entD) (fun _ => rfl) _
    have tnc : ((k : Nat) : Int).toNat = k := Int.toNat_natCast k
    have hw40 := len_way (ms := homeTimerFrom n 0 (x.home.take k)) X.fl
    have hnh := X.nh
    clear hx1
    repeat' ((conv => whnf); first | exact trivial | (with_reducible refine ap_of ?_; kernel_rfl) | (with_reducible refine ds_of ?_; kernel_rfl) | (with_reducible refine eq_of ?_; kernel_rfl) | exact rfl | (intro h; exact absurd h (by decide)) | intro _ | apply And.intro)
    all_goals first
      | (have hlt : k < x.home.length := (by have := k_lt (k := k) (n := x.home.length) (by assumption); omega)
         have hki : (k : Int) < x.home.length := by omega
         have hgk : (R entD x.home).getD k [] = [J (x.entry k).value, J (x.entry k).owner, J (x.entry k).sharers, J (x.entry k).phase, J (x.entry k).forr, J (x.entry k).serial, .bool (x.entry k).alone, J (x.entry k).turn, J (x.entry k).need, .row (rowsI (x.entry k).last)] := R_get entD SEntry.zero hlt
         have hnd := (X.ci k (by omega)).nd
         have hsy : ∀ l0, saysF ⟨(x.entry k).value, (x.entry k).owner, (x.entry k).sharers, (x.entry k).phase, (x.entry k).forr, (x.entry k).serial, (x.entry k).alone, (x.entry k).turn, (x.entry k).need, l0⟩ k n = saysF (x.entry k) k n := fun _ => rfl
         first
           | exact Int.natCast_nonneg _
           | (rw [hhl]; exact hki)
           | (rw [hhl, show ∀ n : Nat, ((n : Nat) : Int).toNat = n from Int.toNat_natCast]; exact hlt)
           | rfl
           | (rw [show ∀ n : Nat, ((n : Nat) : Int).toNat = n from Int.toNat_natCast, hgk]; first | rfl | exact Nat.le_refl _ | exact hnd.1 | (show (x.entry k).need < 65536; omega))
           | (rw [show ∀ n : Nat, ((n : Nat) : Int).toNat = n from Int.toNat_natCast, hlen, hgk]
              exact ⟨_, saysF (x.entry k) k n, rfl, rfl, fit_all X.n4 X.l4 (says_said X (by omega)), Nat.le_trans hw40 (by decide), Nat.le_trans (says_len _ _ _) (by decide)⟩)
           | ((conv => whnf)
              refine ⟨⟨k + 1, hlt⟩, [], ?_, ?_⟩
              · show x.home.length - (k + 1) < x.home.length - k
                omega
              · repeat' ((conv => whnf); first | exact trivial | exact rfl | apply And.intro)
                · exact succ_eq k (by omega)
                · refine congrArg (fun fs => OS.live (.box [.d (.row (R coreD x.cores)), .d (.row (R entD x.home)), .d (.row fs)] 33)) (?_ : _ = framesD (wayF x.frames (homeTimerFrom n 0 (x.home.take (k + 1)))))
                  rw [htimer_step x.frames n hlt, framesR_rows, msgsR_rows, show ∀ n : Nat, ((n : Nat) : Int).toNat = n from Int.toNat_natCast, hlen, hgk]
                  rfl))
      | (have hke : k = x.home.length := (by have := k_ge (k := k) (n := x.home.length) (by assumption); omega)
         subst hke
         first
           | rfl
           | (show AV.tup [AV.agg [.d (.row (R coreD x.cores)), .d (.row (R entD x.home)), .d (.row (framesD (wayF x.frames (homeTimerFrom n 0 (x.home.take x.home.length)))))], Ro [], V 0] = _
              rw [List.take_of_length_le (Nat.le_refl _)]
              rfl))
      | trace_state
theorem rdo_6 {n L : Nat} {x : SChip} {V' : Nat → Int} (X : XI n L x V') (s : SStep) (hs : s.kind = 6) : FunOK Tryz.prog 12 [.agg (chipC x), .agg (stepC s)] (hOf []) (doV (doF x s)) (hOf []) := by
  obtain ⟨k, nd, sn, sb, ok, ol, ov⟩ := s
  simp only at hs
  subst hs
  have hnc := X.nc
  have hlen : (R coreD x.cores).length = n := by rw [R_len, hnc]
  unfold doF
  rw [if_neg (by show ¬ ((6 : Int) = 1); decide), if_pos rfl]
  by_cases h0 : nd < 0
  · rw [if_pos (.inl h0)]
    exact rdo_6lo _ _ _ nd sn sb ok ol ov h0
  by_cases h1 : (x.cores.length : Int) < nd
  · rw [if_pos (.inr h1)]
    exact rdo_6hi _ _ _ nd sn sb ok ol ov (by omega) (by rw [hlen]; omega)
  rw [if_neg (by show ¬ (nd < 0 ∨ (x.cores.length : Int) < nd); omega)]
  obtain ⟨p, rfl⟩ := Int.eq_ofNat_of_zero_le (show 0 ≤ nd by omega)
  rw [hnc]
  by_cases h2 : p < n
  · rw [if_pos (by show (p : Int) < n; omega)]
    exact rdo_6core X p h2 sn sb ok ol ov _ rfl
  · rw [if_neg (by show ¬ (p : Int) < n; omega)]
    have e : p = n := by omega
    subst e
    exact rdo_6home X sn sb ok ol ov
end Go.Proofs.YtpgeopefamomnacGreat
