/- The law HomeOne, on trees. -/
import Derived.Test.YthddhccgmeeljacHD
set_option linter.unusedSimpArgs false
namespace Go.Proofs.Ythddhccgmeeljac
open Go.RowKit
set_option linter.unusedVariables false
set_option linter.unusedSimpArgs false
set_option maxRecDepth 100000

theorem ned2 {a b : Int} (h : ((a != b) == true) = true) : a ≠ b := by simpa using h
/-- What a turn is, between before and behind. -/
structure OneT (e f : SEntry) : Prop where
  tu : e.turn ≤ f.turn
  eq : e.phase ≠ 0 → f.turn = e.turn
  fo : e.phase ≠ 0 → f.phase ≠ 0 → f.forr = e.forr ∧ f.serial = e.serial ∧ f.alone = e.alone
theorem OneT.refl (e : SEntry) : OneT e e := ⟨Int.le_refl _, fun _ => rfl, fun _ _ => ⟨rfl, rfl, rfl⟩⟩
theorem next_one (e : SEntry) : (nextF e).turn = e.turn ∧ (nextF e).forr = e.forr ∧ (nextF e).serial = e.serial ∧ (nextF e).alone = e.alone := by
  unfold nextF
  split <;> exact ⟨rfl, rfl, rfl, rfl⟩
theorem homeL_one (e : SEntry) (line id : Int) (p : Nat) (m : Msg) : OneT e (homeL e line id p m).1 := by
  unfold homeL
  split
  · split
    · exact OneT.refl e
    · rename_i k
      have h0 : e.phase = 0 := by omega
      refine ⟨?_, fun h => absurd h0 h, fun h => absurd h0 h⟩
      show e.turn ≤ (nextF _).turn
      rw [(next_one _).1]
      show e.turn ≤ e.turn + 1
      omega
  split
  · split
    · exact OneT.refl e
    · rename_i k
      have h0 : e.phase = 0 := by omega
      simp only []
      split
      · split
        · exact ⟨Int.le_refl _, fun _ => rfl, fun h => absurd h0 h⟩
        · exact ⟨Int.le_refl _, fun _ => rfl, fun h => absurd h0 h⟩
      · exact OneT.refl e
  split
  · split
    · exact OneT.refl e
    · have h := next_one { e with sharers := if e.alone = false ∧ hasF e.sharers p = false then e.sharers + bitF p else e.sharers, value := m.value, owner := -1 }
      exact ⟨Int.le_of_eq h.1.symm, fun _ => h.1, fun _ _ => h.2⟩
  split
  · split
    · exact OneT.refl e
    · simp only []
      split
      · exact ⟨Int.le_refl _, fun _ => rfl, fun _ _ => ⟨rfl, rfl, rfl⟩⟩
      · have h := next_one { e with need := e.need - bitF p, sharers := if hasF e.sharers p = true then e.sharers - bitF p else e.sharers }
        exact ⟨Int.le_of_eq h.1.symm, fun _ => h.1, fun _ _ => h.2⟩
  split
  · split
    · exact OneT.refl e
    · simp only []
      split
      · exact ⟨Int.le_refl _, fun _ => rfl, fun _ h => absurd rfl h⟩
      · exact ⟨Int.le_refl _, fun _ => rfl, fun _ h => absurd rfl h⟩
  exact OneT.refl e
theorem homeHear_len (l : List SEntry) (id : Int) (m : Msg) : (homeHearF l id m).1.length = l.length := by
  unfold homeHearF
  split <;> simp
theorem hear_one (l : List SEntry) (id : Int) (m : Msg) (k : Nat) (hk : k < l.length) : OneT (l.getD k SEntry.zero) ((homeHearF l id m).1.getD k SEntry.zero) ∧ ((k : Int) ≠ m.line → (homeHearF l id m).1.getD k SEntry.zero = l.getD k SEntry.zero) := by
  unfold homeHearF
  split
  · exact ⟨OneT.refl _, fun _ => rfl⟩
  · simp only []
    by_cases h : m.line.toNat = k
    · subst h
      refine ⟨?_, fun h => absurd (by omega) h⟩
      rw [show ∀ r, (l.set m.line.toNat r).getD m.line.toNat SEntry.zero = r from fun r => by simp [List.getD, hk]]
      exact homeL_one _ _ _ _ _
    · rw [show ∀ r, (l.set m.line.toNat r).getD k SEntry.zero = l.getD k SEntry.zero from fun r => by simp [List.getD, List.getElem?_set_ne h]]
      exact ⟨OneT.refl _, fun _ => rfl⟩
set_option maxHeartbeats 4000000
theorem hone_in {n L : Nat} {ca cb : Int} {l : List SStep} {V' : Nat → Int} (X : XI n L (buildF ⟨ca, cb⟩ l).1 V') (mk mf mt ml ms mu mv : Int) (ma : Bool) : FunOK Try.prog 5 [.agg [I ca, I cb], Ro (R stepD l), .agg [I mk, I mf, I mt, I ml, I ms, I mu, I mv, .d (.bool ma)]] (hOf []) (Vb true) (hOf []) := by
  refine fun_deep (pins := []) (l0 := []) (objs := []) (base := 0) (xx_ok tabL5_ok ksL5) mixed Try.func5 rfl (Nat.le_of_ble_eq_true rfl) rfl rfl ?_
  have hs : stepsR (R stepD l) = l := stepsR_rows l
  repeat' ((conv => whnf); first | exact trivial | (with_reducible refine ap_of ?_; kernel_rfl) | (with_reducible refine ds_of ?_; kernel_rfl) | (with_reducible refine eq_of ?_; kernel_rfl) | exact rfl | (intro h; exact absurd h (by decide)) | intro _ | apply And.intro)
  all_goals try rw [hs] at *
  all_goals generalize (buildF ⟨ca, cb⟩ l).1 = x at *
  all_goals clear hs
  all_goals
    have hlen : (R coreD x.cores).length = n := by rw [R_len, X.nc]
    have H := homes_xi X
    have hyl := homeHear_len x.home n ⟨mk, mf, mt, ml, ms, mu, mv, ma⟩
    have hy := hear_one x.home n ⟨mk, mf, mt, ml, ms, mu, mv, ma⟩
  all_goals first
    | exact ⟨l, rfl⟩
    | rfl
    | skip
  all_goals simp only [homeR_rows, hlen] at *
  all_goals first
    | exact ⟨_, rfl, H.1, H.la, H.at _⟩
    | rfl
    | (exfalso; rw [R_len, R_len, hyl] at *; simp_all; done)
    | skip
  all_goals generalize (homeHearF x.home n ⟨mk, mf, mt, ml, ms, mu, mv, ma⟩).1 = y at *
  (conv => whnf)
  refine loop_keep [5, 10, 43] 40 [] {k : Nat // k ≤ x.home.length} (fun k => [(6, Vb false), (44, V x.home.length), (45, V k.1)]) (fun k => [(8, .live (.box [I mk, I mf, I mt, I ml, I ms, I mu, I mv, .d (.bool ma)] 26))]) (fun k => x.home.length - k.1) ⟨0, Nat.zero_le _⟩ ?_
  (conv => whnf)
  refine ⟨?_, ?_⟩
  · repeat' ((conv => whnf); first | exact trivial | exact rfl | apply And.intro)
    all_goals first | exact int_eq (show ((R entD x.home).length : Int) = x.home.length by rw [R_len]) | trace_state
  · rintro ⟨k, hk⟩
    repeat' ((conv => whnf); first | exact trivial | (with_reducible refine ap_of ?_; kernel_rfl) | (with_reducible refine ds_of ?_; kernel_rfl) | (with_reducible refine eq_of ?_; kernel_rfl) | exact rfl | (intro h; exact absurd h (by decide)) | intro _ | apply And.intro)
    all_goals try (
      have hlt : k < x.home.length := (by have := k_lt (k := k) (n := x.home.length) (by assumption); omega)
      have hlty : k < y.length := by omega
      have hO := hy k hlt
      have hge : (R entD x.home).getD k [] = entD (x.home.getD k SEntry.zero) := R_get entD _ hlt
      have hgf : (R entD y).getD k [] = entD (y.getD k SEntry.zero) := R_get entD _ hlty
      have hle := H.2 (x.home.getD k SEntry.zero) (by simp [List.getD, hlt])
      have l1 : (R entD x.home).length = x.home.length := R_len _ _
      have l2 : (R entD y).length = x.home.length := by rw [R_len]; exact hyl
      have hb := H.1
      clear hy H X
      generalize x.home.getD k SEntry.zero = e at *
      generalize y.getD k SEntry.zero = f at *
      have hge2 : (R entD x.home).getD k [] = [J e.value, J e.owner, J e.sharers, J e.phase, J e.forr, J e.serial, .bool e.alone, J e.turn, J e.need, .row (rowsI e.last)] := hge
      have hgf2 : (R entD y).getD k [] = [J f.value, J f.owner, J f.sharers, J f.phase, J f.forr, J f.serial, .bool f.alone, J f.turn, J f.need, .row (rowsI f.last)] := hgf
      clear hge hgf
      try simp only [Int.toNat_natCast, hge2, hgf2, l1, l2, List.getD_cons_zero, List.getD_cons_succ, DV.toI, DV.toB, Nat.zero_add, toR_row] at *)
    all_goals first
      | exact Int.natCast_nonneg _
      | omega
      | rfl
      | exact Nat.le_refl _
      | (exfalso
         obtain ⟨⟨h1, h2, h3⟩, h4⟩ := hO
         simp_all
         done)
      | (exfalso
         obtain ⟨⟨h1, h2, h3⟩, h4⟩ := hO
         simp_all
         omega)
      | (have hfe : f = e := hO.2 (ned2 (by assumption))
         subst hfe
         exact ⟨[f], rfl, rfl, by simp, fun a ha => by
           rw [List.mem_singleton.1 ha]
           exact Nat.le_trans hle.la (by decide)⟩)
      | skip
    all_goals
       ( (conv => whnf)
         refine ⟨⟨k + 1, hlt⟩, [], ?_, ?_⟩
         · show x.home.length - (k + 1) < x.home.length - k
           omega
         · repeat' ((conv => whnf); first | exact trivial | exact rfl | apply And.intro)
           exact succ_eq k (by omega))
theorem hone_none {ca cb : Int} {l : List SStep} (h : (buildF ⟨ca, cb⟩ l).1.cores = []) (mk mf mt ml ms mu mv : Int) (ma : Bool) : FunOK Try.prog 5 [.agg [I ca, I cb], Ro (R stepD l), .agg [I mk, I mf, I mt, I ml, I ms, I mu, I mv, .d (.bool ma)]] (hOf []) (Vb true) (hOf []) := by
  refine fun_deep (pins := []) (l0 := []) (objs := []) (base := 0) (xx_ok tabL5_ok ksL5) mixed Try.func5 rfl (Nat.le_of_ble_eq_true rfl) rfl rfl ?_
  have hx : ¬ ((((R coreD (buildF ⟨ca, cb⟩ (stepsR (R stepD l))).1.cores).length : Int) == 0) = false) := by
    rw [stepsR_rows, h]
    decide
  repeat' ((conv => whnf); first | exact trivial | (with_reducible refine ap_of ?_; kernel_rfl) | (with_reducible refine ds_of ?_; kernel_rfl) | (with_reducible refine eq_of ?_; kernel_rfl) | exact rfl | (intro h; exact absurd h (by decide)) | (intro h; exact absurd h hx) | intro _ | apply And.intro)
  all_goals first
    | exact ⟨l, rfl⟩
    | rfl
    | trace_state
theorem hone_any (c : Cfg) (l : List SStep) (m : Msg) : FunOK Try.prog 5 [.agg (cfgC c), Ro (R stepD l), .agg (msgC m)] (hOf []) (Vb true) (hOf []) := by
  rcases built c l with ⟨n, L, V', e1, e2, X⟩ | hz
  · exact hone_in (ca := c.cores) (cb := c.lines) X m.kind m.frm m.to m.line m.serial m.turn m.value m.alone
  · exact hone_none (ca := c.cores) (cb := c.lines) hz m.kind m.frm m.to m.line m.serial m.turn m.value m.alone
end Go.Proofs.Ythddhccgmeeljac
