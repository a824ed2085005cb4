/- The document's comparing of messages and of what is done; the law CoreTells, on trees. -/
import Derived.Test.YthddhccgmeeljabCE
set_option linter.unusedSimpArgs false
namespace Go.Proofs.Ythddhccgmeeljab
open Go.RowKit
set_option linter.unusedVariables false
set_option maxRecDepth 100000

def done0 : SDone := ⟨0, SOp.zero, 0⟩
set_option maxHeartbeats 4000000 in
theorem sameMsgs_ok (ms : List Msg) (hl : ms.length < 1000000) : FunOK Try.prog 20 [Ro (R msgD ms), Ro (R msgD ms)] (hOf []) (Vb true) (hOf []) := by
  refine fun_deep (pins := []) (l0 := []) (objs := []) (base := 0) (xx_ok tab0_ok []) mixed Try.func20 rfl (Nat.le_of_ble_eq_true rfl) rfl rfl ?_
  have hlen : (R msgD ms).length = ms.length := R_len _ _
  have hget : ∀ k, k < ms.length → (R msgD ms).getD k [] = msgD (ms.getD k msg0) := fun k hk => R_get msgD msg0 hk
  repeat' ((conv => whnf); first | exact trivial | (with_reducible refine ap_of ?_; kernel_rfl) | (with_reducible refine ds_of ?_; kernel_rfl) | (with_reducible refine eq_of ?_; kernel_rfl) | exact rfl | (intro h; exact absurd h (by decide)) | intro _ | apply And.intro)
  all_goals first
    | rfl
    | (exfalso; simp_all; done)
    | skip
  (conv => whnf)
  refine loop_keep [0, 1] 40 [] {k : Nat // k ≤ ms.length} (fun k => [(4, Vb false), (12, V ms.length), (13, V k.1)]) (fun k => []) (fun k => ms.length - k.1) ⟨0, Nat.zero_le _⟩ ?_
  (conv => whnf)
  refine ⟨?_, ?_⟩
  · repeat' ((conv => whnf); first | exact trivial | exact rfl | apply And.intro)
    all_goals first | exact int_eq (show ((R msgD ms).length : Int) = ms.length by rw [hlen]) | trace_state
  · rintro ⟨k, hk⟩
    repeat' ((conv => whnf); first | exact trivial | (with_reducible refine ap_of ?_; kernel_rfl) | (with_reducible refine ds_of ?_; kernel_rfl) | (with_reducible refine eq_of ?_; kernel_rfl) | exact rfl | (intro h; exact absurd h (by decide)) | intro _ | apply And.intro)
    all_goals first
      | (have hlt : k < ms.length := (by have := k_lt (k := k) (n := ms.length) (by assumption); omega)
         have hki : (k : Int) < ms.length := by omega
         first
           | exact Int.natCast_nonneg _
           | (rw [hlen]; exact hki)
           | (rw [hlen, show ∀ n : Nat, ((n : Nat) : Int).toNat = n from Int.toNat_natCast]; exact hlt)
           | rfl
           | (rw [show ∀ n : Nat, ((n : Nat) : Int).toNat = n from Int.toNat_natCast, hget k hlt]; first | rfl | exact Nat.le_refl _)
           | (exfalso; clear hget; simp_all; done)
           | ((conv => whnf)
              refine ⟨⟨k + 1, hlt⟩, [], ?_, ?_⟩
              · show ms.length - (k + 1) < ms.length - k
                omega
              · repeat' ((conv => whnf); first | exact trivial | exact rfl | apply And.intro)
                exact succ_eq k (by omega)))
      | (have hke : k = ms.length := (by have := k_ge (k := k) (n := ms.length) (by assumption); omega)
         first | rfl | trace_state)
      | trace_state
def sameMsgsT (xs : List AV) (l0 : List (Nat × OS)) : Ans := match xs, l0 with
  | [.c (.d (.row a)), .c (.d (.row b))], [] => some (∃ ms, a = R msgD ms ∧ b = R msgD ms ∧ ms.length < 1000000, Vb true, [])
  | _, _ => none
theorem sameMsgs_does : Does Try.prog 20 sameMsgsT := ⟨⟨_, Try.func20, by decide, rfl⟩, fun xs l0 p v objs h hp => by
  unfold sameMsgsT at h
  split at h
  · cases h
    obtain ⟨ms, rfl, rfl, h1⟩ := hp
    exact sameMsgs_ok ms h1
  · cases h⟩
set_option maxHeartbeats 4000000 in
theorem sameDone_ok (ms : List SDone) (hl : ms.length < 1000000) : FunOK Try.prog 21 [Ro (R dnD ms), Ro (R dnD ms)] (hOf []) (Vb true) (hOf []) := by
  refine fun_deep (pins := []) (l0 := []) (objs := []) (base := 0) (xx_ok tab0_ok []) mixed Try.func21 rfl (Nat.le_of_ble_eq_true rfl) rfl rfl ?_
  have hlen : (R dnD ms).length = ms.length := R_len _ _
  have hget : ∀ k, k < ms.length → (R dnD ms).getD k [] = dnD (ms.getD k done0) := fun k hk => R_get dnD done0 hk
  repeat' ((conv => whnf); first | exact trivial | (with_reducible refine ap_of ?_; kernel_rfl) | (with_reducible refine ds_of ?_; kernel_rfl) | (with_reducible refine eq_of ?_; kernel_rfl) | exact rfl | (intro h; exact absurd h (by decide)) | intro _ | apply And.intro)
  all_goals first
    | rfl
    | (exfalso; simp_all; done)
    | skip
  (conv => whnf)
  refine loop_keep [0, 1] 40 [] {k : Nat // k ≤ ms.length} (fun k => [(4, Vb false), (12, V ms.length), (13, V k.1)]) (fun k => []) (fun k => ms.length - k.1) ⟨0, Nat.zero_le _⟩ ?_
  (conv => whnf)
  refine ⟨?_, ?_⟩
  · repeat' ((conv => whnf); first | exact trivial | exact rfl | apply And.intro)
    all_goals first | exact int_eq (show ((R dnD ms).length : Int) = ms.length by rw [hlen]) | trace_state
  · rintro ⟨k, hk⟩
    repeat' ((conv => whnf); first | exact trivial | (with_reducible refine ap_of ?_; kernel_rfl) | (with_reducible refine ds_of ?_; kernel_rfl) | (with_reducible refine eq_of ?_; kernel_rfl) | exact rfl | (intro h; exact absurd h (by decide)) | intro _ | apply And.intro)
    all_goals first
      | (have hlt : k < ms.length := (by have := k_lt (k := k) (n := ms.length) (by assumption); omega)
         have hki : (k : Int) < ms.length := by omega
         first
           | exact Int.natCast_nonneg _
           | (rw [hlen]; exact hki)
           | (rw [hlen, show ∀ n : Nat, ((n : Nat) : Int).toNat = n from Int.toNat_natCast]; exact hlt)
           | rfl
           | (rw [show ∀ n : Nat, ((n : Nat) : Int).toNat = n from Int.toNat_natCast, hget k hlt]; first | rfl | exact Nat.le_refl _)
           | (exfalso; clear hget; simp_all; done)
           | ((conv => whnf)
              refine ⟨⟨k + 1, hlt⟩, [], ?_, ?_⟩
              · show ms.length - (k + 1) < ms.length - k
                omega
              · repeat' ((conv => whnf); first | exact trivial | exact rfl | apply And.intro)
                exact succ_eq k (by omega)))
      | (have hke : k = ms.length := (by have := k_ge (k := k) (n := ms.length) (by assumption); omega)
         first | rfl | trace_state)
      | trace_state
def sameDoneT (xs : List AV) (l0 : List (Nat × OS)) : Ans := match xs, l0 with
  | [.c (.d (.row a)), .c (.d (.row b))], [] => some (∃ ms, a = R dnD ms ∧ b = R dnD ms ∧ ms.length < 1000000, Vb true, [])
  | _, _ => none
theorem sameDone_does : Does Try.prog 21 sameDoneT := ⟨⟨_, Try.func21, by decide, rfl⟩, fun xs l0 p v objs h hp => by
  unfold sameDoneT at h
  split at h
  · cases h
    obtain ⟨ms, rfl, rfl, h1⟩ := hp
    exact sameDone_ok ms h1
  · cases h⟩

theorem rhear_any (c : SCore) (id home : Int) (m : Msg) (hL : c.lines.length < 1000) (hwt : 0 ≤ m.line → m.line < c.lines.length → ((c.line m.line.toNat).want ≠ 0 → (1 ≤ c.wait.kind ∧ c.wait.kind ≤ 4) ∧ (0 ≤ c.wait.line ∧ c.wait.line < 1000) ∧ 0 ≤ c.wait.value ∧ c.wait.value ≤ 255) ∧ 0 ≤ (c.line m.line.toNat).gave) : FunOK Try.prog 26 [.agg (coreC (rowsL c.lines) c.wait), V id, V home, .agg (msgC m)] (hOf []) (hearVF (hearF c id home m)) (hOf []) := by
  by_cases ho : m.line < 0 ∨ (c.lines.length : Int) ≤ m.line
  · unfold hearF
    rw [if_pos ho]
    exact rhear_out (rowsL c.lines) c.wait m.kind m.frm m.to m.line m.serial m.turn m.value m.alone id home (by rw [rowsL_len]; exact ho)
  · exact rhear_core c id home m hL (by omega) (by omega) (hwt (by omega) (by omega)).1
theorem rHear_does : Does Try.prog 26 cHearT := ⟨⟨_, Try.func26, by decide, rfl⟩, fun xs l0 p v objs h hp => by
  unfold cHearT at h
  split at h
  · cases h
    obtain ⟨ls, rfl, h1, h2⟩ := hp
    rw [linesR_rows]
    exact rhear_any ⟨ls, ⟨_, _, _⟩⟩ _ _ (Msg.mk _ _ _ _ _ _ _ _) h1 h2
  · cases h⟩
def tabT4 : Canon := orT 20 sameMsgsT (orT 21 sameDoneT (orT 26 cHearT (orT 18 beginT (orT 24 timerT tabL4))))
theorem tabT4_ok : Sound Try.prog tabT4 := ((((tabL4_ok.or timer_does).or begin_does).or rHear_does).or sameDone_does).or sameMsgs_does
def ksT4 : List FuncId := [20, 21, 26, 18, 24, 16, 19, 25, 17, 23, 27, 22]
theorem bF_len (k : SCore) (id home : Int) (o : SOp) : (beginF k id home o).1.lines.length ≤ k.lines.length ∧ (beginF k id home o).2.1.length ≤ 1 ∧ (beginF k id home o).2.2.1.length ≤ 1 := by
  unfold beginF
  (repeat' split) <;> simp [SCore.zero]
theorem hF_len (k : SCore) (id home : Int) (m : Msg) : (hearF k id home m).1.lines.length ≤ k.lines.length ∧ (hearF k id home m).2.1.length ≤ 1 ∧ (hearF k id home m).2.2.length ≤ 1 := by
  unfold hearF
  split
  · simp
  · refine ⟨by simp, ?_, ?_⟩
    · cases (hearL (k.line m.line.toNat) k.wait m).2.1 <;> simp
    · cases (hearL (k.line m.line.toNat) k.wait m).2.2 <;> simp
set_option maxHeartbeats 4000000
theorem ctells_in {n L : Nat} {ca cb : Int} {l : List SStep} {V' : Nat → Int} (X : XI n L (buildF ⟨ca, cb⟩ l).1 V') (hL : cb = L) (p : Nat) (hp : p < n) (ok ol ov mk mf mt ml ms mu mv : Int) (ma : Bool) : FunOK Try.prog 5 [.agg [I ca, I cb], Ro (R stepD l), V p, .agg [I ok, I ol, I ov], .agg [I mk, I mf, I mt, I ml, I ms, I mu, I mv, .d (.bool ma)]] (hOf []) (Vb true) (hOf []) := by
  refine fun_deep (pins := []) (l0 := []) (objs := []) (base := 0) (xx_ok tabT4_ok ksT4) mixed Try.func5 rfl (Nat.le_of_ble_eq_true rfl) rfl rfl ?_
  have tnc : ((p : Nat) : Int).toNat = p := Int.toNat_natCast p
  have hs : stepsR (R stepD l) = l := stepsR_rows l
  have hx : ¬ ((decide ((p : Int) < 0) == false) = false) := by simp
  have hx2 : ¬ (decide ((p : Int) ≥ ((R coreD (buildF ⟨ca, cb⟩ (stepsR (R stepD l))).1.cores).length : Int)) = true) := by
    rw [hs, R_len, X.nc]
    simp
    omega
  repeat' ((conv => whnf); first | exact trivial | (with_reducible refine ap_of ?_; kernel_rfl) | (with_reducible refine ds_of ?_; kernel_rfl) | (with_reducible refine eq_of ?_; kernel_rfl) | exact rfl | (intro h; exact absurd h (by decide)) | (intro h; exact absurd h hx) | (intro h; exact absurd h hx2) | intro _ | apply And.intro)
  all_goals clear hx hx2
  all_goals try rw [hs] at *
  all_goals generalize (buildF ⟨ca, cb⟩ l).1 = x at *
  all_goals clear hs
  all_goals
    have hnc := X.nc
    have hl4 := X.l4
    have hpc : p < x.cores.length := by omega
    have hlen : (R coreD x.cores).length = n := by rw [R_len, hnc]
    have hlen2 : p < (R coreD x.cores).length := by omega
    have hleni : (p : Int) < ((R coreD x.cores).length : Int) := by omega
    have hg0 : (R coreD x.cores).getD p [] = coreD (x.core p) := R_get coreD SCore.zero hpc
    have hg : (R coreD x.cores).getD p [] = [.row (rowsL (x.core p).lines), J (x.core p).wait.kind, J (x.core p).wait.line, J (x.core p).wait.value] := hg0
    have hone : ∀ u ∈ R coreD x.cores, u.length = 4 := R_one (f := coreD) (fun _ => rfl) _
    have hone7 := rowsL_one (x.core p).lines
    have hrl : (rowsL (x.core p).lines).length = (x.core p).lines.length := rowsL_len _
    have K := core_ok X hp
  all_goals first
    | exact ⟨l, rfl⟩
    | exact Int.natCast_nonneg _
    | exact hleni
    | exact hlen2
    | exact hone _ (by assumption)
    | rfl
    | (rw [tnc, hg]; first | rfl | exact Nat.le_refl _)
    | skip
  all_goals simp only [tnc, hg, List.getD_cons_zero, List.getD_cons_succ, DV.toI, Nat.zero_add, toR_row, linesR_rows, hlen] at *
  all_goals first
    | exact ⟨_, rfl, K.len, K.ser⟩
    | exact ⟨_, rfl, K.len, fun h0 h1 => ⟨K.wai _ (by omega), K.gav _ (by omega)⟩⟩
    | skip
  all_goals
    have hK := K.len
    have B := bF_len ⟨(x.core p).lines, ⟨(x.core p).wait.kind, (x.core p).wait.line, (x.core p).wait.value⟩⟩ p n ⟨ok, ol, ov⟩
    have H := hF_len ⟨(x.core p).lines, ⟨(x.core p).wait.kind, (x.core p).wait.line, (x.core p).wait.value⟩⟩ p n ⟨mk, mf, mt, ml, ms, mu, mv, ma⟩
    have T := timer_len p n (x.core p).lines 0
  all_goals first
    | exact ⟨_, rfl, rfl, Nat.lt_of_le_of_lt B.1 hK, trivial, trivial, trivial⟩
    | exact ⟨_, rfl, rfl, Nat.lt_of_le_of_lt B.2.1 (by decide)⟩
    | exact ⟨_, rfl, rfl, Nat.lt_of_le_of_lt B.2.2 (by decide)⟩
    | exact ⟨_, rfl, rfl, Nat.lt_of_le_of_lt H.1 hK, trivial, trivial, trivial⟩
    | exact ⟨_, rfl, rfl, Nat.lt_of_le_of_lt H.2.1 (by decide)⟩
    | exact ⟨_, rfl, rfl, Nat.lt_of_le_of_lt H.2.2 (by decide)⟩
    | exact ⟨_, rfl, rfl, hK, trivial, trivial, trivial⟩
    | exact ⟨_, rfl, by omega⟩
    | exact ⟨_, rfl, rfl, Nat.lt_of_le_of_lt T (by omega)⟩
    | exact hone7 _ (by assumption)
    | omega
    | (rw [rowsL_len]; omega)
    | (rw [rowsL_len, List.length_replicate, show ((cb.toNat : Nat) : Int) = cb by omega, beq_self_eq_true]; rfl)
    | (exfalso; clear K B H T X hone hone7; simp_all; done)
    | trace_state
theorem ctells_out (ca cb pI ok ol ov mk mf mt ml ms mu mv : Int) (ma : Bool) (l : List SStep) (h : pI < 0 ∨ ((buildF ⟨ca, cb⟩ l).1.cores.length : Int) ≤ pI) : FunOK Try.prog 5 [.agg [I ca, I cb], Ro (R stepD l), V pI, .agg [I ok, I ol, I ov], .agg [I mk, I mf, I mt, I ml, I ms, I mu, I mv, .d (.bool ma)]] (hOf []) (Vb true) (hOf []) := by
  by_cases h1 : pI < 0
  · refine fun_deep (pins := []) (l0 := []) (objs := []) (base := 0) (xx_ok tabT4_ok ksT4) mixed Try.func5 rfl (Nat.le_of_ble_eq_true rfl) rfl rfl ?_
    have hx : ¬ ((decide (pI < 0) == false) = true) := by simp [h1]
    repeat' ((conv => whnf); first | exact trivial | (with_reducible refine ap_of ?_; kernel_rfl) | (with_reducible refine ds_of ?_; kernel_rfl) | (with_reducible refine eq_of ?_; kernel_rfl) | exact rfl | (intro h; exact absurd h (by decide)) | (intro h; exact absurd h hx) | intro _ | apply And.intro)
    all_goals first | rfl | exact ⟨l, rfl⟩ | trace_state
  · refine fun_deep (pins := []) (l0 := []) (objs := []) (base := 0) (xx_ok tabT4_ok ksT4) mixed Try.func5 rfl (Nat.le_of_ble_eq_true rfl) rfl rfl ?_
    have hx2 : ¬ (decide (pI ≥ ((R coreD (buildF ⟨ca, cb⟩ (stepsR (R stepD l))).1.cores).length : Int)) = false) := by
      rw [stepsR_rows, R_len]
      have := h.resolve_left h1
      simpa using this
    repeat' ((conv => whnf); first | exact trivial | (with_reducible refine ap_of ?_; kernel_rfl) | (with_reducible refine ds_of ?_; kernel_rfl) | (with_reducible refine eq_of ?_; kernel_rfl) | exact rfl | (intro h; exact absurd h (by decide)) | (intro h; exact absurd h hx2) | intro _ | apply And.intro)
    all_goals first | rfl | exact ⟨l, rfl⟩ | trace_state
theorem ctells_any (c : Cfg) (l : List SStep) (pI : Int) (o : SOp) (m : Msg) : FunOK Try.prog 5 [.agg (cfgC c), Ro (R stepD l), V pI, .agg (opC o), .agg (msgC m)] (hOf []) (Vb true) (hOf []) := by
  by_cases h : pI < 0 ∨ ((buildF c l).1.cores.length : Int) ≤ pI
  · exact ctells_out c.cores c.lines pI o.kind o.line o.value m.kind m.frm m.to m.line m.serial m.turn m.value m.alone l h
  obtain ⟨p, rfl⟩ := Int.eq_ofNat_of_zero_le (show 0 ≤ pI by omega)
  rcases built c l with ⟨n, L, V', e1, e2, X⟩ | hz
  · exact ctells_in (ca := c.cores) (cb := c.lines) X e2 p (by have := X.nc; omega) o.kind o.line o.value m.kind m.frm m.to m.line m.serial m.turn m.value m.alone
  · rw [hz] at h
    exact absurd h (by simp)
end Go.Proofs.Ythddhccgmeeljab
