/- The law CoreBusy, on trees. -/
import Derived.Test.YthddhccgmeeljabCE
import Derived.Test.YthddhccgmeeljabPH
set_option linter.unusedSimpArgs false
namespace Go.Proofs.Ythddhccgmeeljab
open Go.RowKit
set_option linter.unusedVariables false
set_option maxRecDepth 100000

theorem busy_a {k : SCore} {id home : Int} {o : SOp} (h : k.wait.kind ≠ 0) : (beginF k id home o).2.2.2 = 8 ∨ (beginF k id home o).2.2.2 = 1 ∨ (beginF k id home o).2.2.2 = 3 := by
  unfold beginF
  by_cases h1 : o.kind < 1 ∨ 4 < o.kind
  · rw [if_pos h1]; exact .inr (.inl rfl)
  rw [if_neg h1]
  by_cases h2 : o.line < 0 ∨ (k.lines.length : Int) ≤ o.line ∨ o.value < 0 ∨ 255 < o.value
  · rw [if_pos h2]; exact .inr (.inr rfl)
  rw [if_neg h2, if_pos (.inl h)]
  exact .inl rfl
theorem busy_b {k : SCore} {id home : Int} {o : SOp} (h : k.wait.kind = 0) (hs : ∀ i, i < k.lines.length → (k.line i).serial < 65535) : (beginF k id home o).2.2.2 ≠ 8 := by
  unfold beginF
  by_cases h1 : o.kind < 1 ∨ 4 < o.kind
  · rw [if_pos h1]; simp
  rw [if_neg h1]
  by_cases h2 : o.line < 0 ∨ (k.lines.length : Int) ≤ o.line ∨ o.value < 0 ∨ 255 < o.value
  · rw [if_pos h2]; simp
  rw [if_neg h2, if_neg (by have := hs o.line.toNat (by omega); omega)]
  split <;> simp
theorem busy_c {k : SCore} {id home : Int} {o : SOp} (h : (beginF k id home o).2.2.2 = 0) : ((beginF k id home o).1.wait = o ∧ (∃ y, (beginF k id home o).2.1 = [y]) ∧ (beginF k id home o).2.2.1 = []) ∨ ((beginF k id home o).1.wait.kind = 0 ∧ (beginF k id home o).2.1 = [] ∧ ∃ v, (beginF k id home o).2.2.1 = [⟨id, o, v⟩]) := by
  unfold beginF at h ⊢
  by_cases h1 : o.kind < 1 ∨ 4 < o.kind
  · rw [if_pos h1] at h; simp at h
  rw [if_neg h1] at h ⊢
  by_cases h2 : o.line < 0 ∨ (k.lines.length : Int) ≤ o.line ∨ o.value < 0 ∨ 255 < o.value
  · rw [if_pos h2] at h; simp at h
  rw [if_neg h2] at h ⊢
  by_cases h3 : k.wait.kind ≠ 0 ∨ 65535 ≤ (k.line o.line.toNat).serial
  · rw [if_pos h3] at h; simp at h
  rw [if_neg h3]
  by_cases h4 : (beginL (k.line o.line.toNat) o).2.1 = 0
  · rw [if_pos h4]
    exact .inr ⟨by show k.wait.kind = 0; omega, rfl, _, rfl⟩
  · rw [if_neg h4]
    exact .inl ⟨rfl, ⟨_, rfl⟩, rfl⟩
set_option maxHeartbeats 4000000
theorem busy_in {n L : Nat} {ca cb : Int} {l : List SStep} {V' : Nat → Int} (X : XI n L (buildF ⟨ca, cb⟩ l).1 V') (p : Nat) (hp : p < n) (ok ol ov : Int) (hsb : ∀ i, i < ((buildF ⟨ca, cb⟩ l).1.core p).lines.length → (((buildF ⟨ca, cb⟩ l).1.core p).line i).serial < 65535) : FunOK Try.prog 8 [.agg [I ca, I cb], Ro (R stepD l), V p, .agg [I ok, I ol, I ov]] (hOf []) (Vb true) (hOf []) := by
  refine fun_deep (pins := []) (l0 := []) (objs := []) (base := 0) (xx_ok tabL4_ok ksL4) mixed Try.func8 rfl (Nat.le_of_ble_eq_true rfl) rfl rfl ?_
  have tnc : ((p : Nat) : Int).toNat = p := Int.toNat_natCast p
  have hs : stepsR (R stepD l) = l := stepsR_rows l
  have hx : ¬ ((decide ((p : Int) < 0) == false) = false) := by simp
  have hx2 : ¬ (decide ((p : Int) ≥ ((R coreD (buildF ⟨ca, cb⟩ (stepsR (R stepD l))).1.cores).length : Int)) = true) := by
    rw [hs, R_len, X.nc]
    simp
    omega
  repeat' ((conv => whnf); first | exact trivial | (with_reducible refine ap_of ?_; kernel_rfl) | (with_reducible refine ds_of ?_; kernel_rfl) | (with_reducible refine eq_of ?_; kernel_rfl) | exact rfl | (intro h; exact absurd h (by decide)) | (intro h; exact absurd h hx) | (intro h; exact absurd h hx2) | intro _ | apply And.intro)
  all_goals clear hx hx2
  all_goals try rw [hs] at *
  all_goals generalize (buildF ⟨ca, cb⟩ l).1 = x at *
  all_goals clear hs
  all_goals
    have hnc := X.nc
    have hpc : p < x.cores.length := by omega
    have hlen : (R coreD x.cores).length = n := by rw [R_len, hnc]
    have hlen2 : p < (R coreD x.cores).length := by omega
    have hleni : (p : Int) < ((R coreD x.cores).length : Int) := by omega
    have hg0 : (R coreD x.cores).getD p [] = coreD (x.core p) := R_get coreD SCore.zero hpc
    have hg : (R coreD x.cores).getD p [] = [.row (rowsL (x.core p).lines), J (x.core p).wait.kind, J (x.core p).wait.line, J (x.core p).wait.value] := hg0
    have hone : ∀ u ∈ R coreD x.cores, u.length = 4 := R_one (f := coreD) (fun _ => rfl) _
    have K := core_ok X hp
  all_goals first
    | exact ⟨l, rfl⟩
    | exact Int.natCast_nonneg _
    | exact hleni
    | exact hlen2
    | exact hone _ (by assumption)
    | rfl
    | (rw [tnc, hg]; first | rfl | exact Nat.le_refl _ | exact Nat.le_of_ble_eq_true rfl)
    | skip
  all_goals simp only [tnc, hg, List.getD_cons_zero, List.getD_cons_succ, DV.toI, Nat.zero_add, toR_row, linesR_rows, hlen, List.getElem_toArray, List.getElem_cons_zero, List.getElem_cons_succ] at *
  all_goals first
    | exact ⟨_, rfl, K.len, K.ser⟩
    | skip
  all_goals
    have hsb' : ∀ i, i < (⟨(x.core p).lines, ⟨(x.core p).wait.kind, (x.core p).wait.line, (x.core p).wait.value⟩⟩ : SCore).lines.length → ((⟨(x.core p).lines, ⟨(x.core p).wait.kind, (x.core p).wait.line, (x.core p).wait.value⟩⟩ : SCore).line i).serial < 65535 := hsb
    have A := busy_a (k := ⟨(x.core p).lines, ⟨(x.core p).wait.kind, (x.core p).wait.line, (x.core p).wait.value⟩⟩) (id := p) (home := n) (o := ⟨ok, ol, ov⟩)
    have B := fun h => busy_b (k := ⟨(x.core p).lines, ⟨(x.core p).wait.kind, (x.core p).wait.line, (x.core p).wait.value⟩⟩) (id := p) (home := n) (o := ⟨ok, ol, ov⟩) h hsb'
    have C := busy_c (k := ⟨(x.core p).lines, ⟨(x.core p).wait.kind, (x.core p).wait.line, (x.core p).wait.value⟩⟩) (id := p) (home := n) (o := ⟨ok, ol, ov⟩)
    generalize beginF ⟨(x.core p).lines, ⟨(x.core p).wait.kind, (x.core p).wait.line, (x.core p).wait.value⟩⟩ p n ⟨ok, ol, ov⟩ = r at *
    clear K hsb hsb' hone X
    obtain ⟨⟨kl, kw⟩, sa, dn, e⟩ := r
    simp only at A B C
  all_goals by_cases w0 : (x.core p).wait.kind = 0
  all_goals first
    | (have A' := A w0
       clear A B C
       first | (exfalso; simp_all; done) | (rcases A' with rfl | rfl | rfl <;> first | rfl | (exfalso; simp_all; done)))
    | (have B' := B w0
       by_cases e0 : e = 0
       · subst e0
         rcases C rfl with ⟨c1, ⟨y, c2⟩, c3⟩ | ⟨c1, c2, v, c3⟩
         · subst c1 c2 c3
           clear A B C
           first | rfl | (exfalso; simp_all [R]; done)
         · subst c2 c3
           clear A B C
           first
             | rfl
             | (exfalso; simp_all [R]; done)
             | exact Nat.le_of_ble_eq_true rfl
             | (exfalso; simp_all [R, dnD, doneD]; done)
             | (simp_all [R, dnD, doneD]; done)
             | (simp [R]; done)
             | (show Vb ((p : Int) == (p : Int)) = Vb true; rw [beq_self_eq_true])
       · clear A B C
         first | (exfalso; simp_all; done) | (simp_all [Vb]; done))
    | trace_state
theorem busy_out (ca cb pI ok ol ov : Int) (l : List SStep) (h : pI < 0 ∨ ((buildF ⟨ca, cb⟩ l).1.cores.length : Int) ≤ pI) : FunOK Try.prog 8 [.agg [I ca, I cb], Ro (R stepD l), V pI, .agg [I ok, I ol, I ov]] (hOf []) (Vb true) (hOf []) := by
  by_cases h1 : pI < 0
  · refine fun_deep (pins := []) (l0 := []) (objs := []) (base := 0) (xx_ok tabL4_ok ksL4) mixed Try.func8 rfl (Nat.le_of_ble_eq_true rfl) rfl rfl ?_
    have hx : ¬ ((decide (pI < 0) == false) = true) := by simp [h1]
    repeat' ((conv => whnf); first | exact trivial | (with_reducible refine ap_of ?_; kernel_rfl) | (with_reducible refine ds_of ?_; kernel_rfl) | (with_reducible refine eq_of ?_; kernel_rfl) | exact rfl | (intro h; exact absurd h (by decide)) | (intro h; exact absurd h hx) | intro _ | apply And.intro)
    all_goals first | rfl | exact ⟨l, rfl⟩ | trace_state
  · refine fun_deep (pins := []) (l0 := []) (objs := []) (base := 0) (xx_ok tabL4_ok ksL4) mixed Try.func8 rfl (Nat.le_of_ble_eq_true rfl) rfl rfl ?_
    have hx2 : ¬ (decide (pI ≥ ((R coreD (buildF ⟨ca, cb⟩ (stepsR (R stepD l))).1.cores).length : Int)) = false) := by
      rw [stepsR_rows, R_len]
      have := h.resolve_left h1
      simpa using this
    repeat' ((conv => whnf); first | exact trivial | (with_reducible refine ap_of ?_; kernel_rfl) | (with_reducible refine ds_of ?_; kernel_rfl) | (with_reducible refine eq_of ?_; kernel_rfl) | exact rfl | (intro h; exact absurd h (by decide)) | (intro h; exact absurd h hx2) | intro _ | apply And.intro)
    all_goals first | rfl | exact ⟨l, rfl⟩ | trace_state
theorem built_sb (c : Cfg) (l : List SStep) {n L : Nat} {V : Nat → Int} (h1 : c.cores = n) (h2 : c.lines = L) (X : XI n L (buildF c l).1 V) {p : Nat} (hp : p < n) : ∀ i, i < ((buildF c l).1.core p).lines.length → (((buildF c l).1.core p).line i).serial < 65535 := fun i hi => by
  have hnl := X.nl p hp
  by_cases h : (newF c).2 = 0
  · have S := sb_build (l := l) h h1 h2 p i hp (by omega)
    have e : ((buildF c l).1.core p).line i = lineAt (buildF c l).1 i p := rfl
    rw [e]
    omega
  · have hb : buildF c l = ((newF c).1, []) := if_neg h
    have hz : (buildF c l).1.cores = [] := by
      rw [hb]
      unfold newF at h ⊢
      by_cases k : c.cores < 1 ∨ 4 < c.cores ∨ c.lines < 1 ∨ 4 < c.lines
      · rw [if_pos k]; rfl
      · rw [if_neg k] at h; exact absurd rfl h
    have := X.nc
    rw [hz] at this
    simp at this
    omega
theorem busy_any (c : Cfg) (l : List SStep) (pI : Int) (o : SOp) : FunOK Try.prog 8 [.agg (cfgC c), Ro (R stepD l), V pI, .agg (opC o)] (hOf []) (Vb true) (hOf []) := by
  by_cases h : pI < 0 ∨ ((buildF c l).1.cores.length : Int) ≤ pI
  · exact busy_out c.cores c.lines pI o.kind o.line o.value l h
  obtain ⟨p, rfl⟩ := Int.eq_ofNat_of_zero_le (show 0 ≤ pI by omega)
  rcases built c l with ⟨n, L, V', e1, e2, X⟩ | hz
  · have hp : p < n := by have := X.nc; omega
    exact busy_in (ca := c.cores) (cb := c.lines) X p hp o.kind o.line o.value (built_sb c l e1 e2 X hp)
  · rw [hz] at h
    exact absurd h (by simp)
end Go.Proofs.Ythddhccgmeeljab
