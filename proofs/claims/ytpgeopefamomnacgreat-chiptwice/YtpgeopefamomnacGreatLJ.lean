/- The law ChipTwice, on trees. -/
import Derived.Test.YtpgeopefamomnacGreatGE
namespace Go.Proofs.YtpgeopefamomnacGreat
open Go.RowKit
set_option linter.unusedVariables false
set_option linter.unusedSimpArgs false
set_option maxRecDepth 100000

/-- A chip as it is read back from rows. -/
abbrev rawX (x : SChip) : SChip := ⟨coresR (R coreD x.cores), homeR (R entD x.home), framesR (framesD x.frames)⟩
theorem rawX_eq (x : SChip) : rawX x = x := eta_chip x
abbrev goR (x : SChip) (n : Int) : SChip × List SDone × Int := doF (rawX x) ⟨2, 0, n, 0, ⟨0, 0, 0⟩⟩
abbrev twR (x : SChip) (n : Int) : SChip × List SDone × Int := doF (rawX x) ⟨4, 0, n, 0, ⟨0, 0, 0⟩⟩
theorem goR_eq (x : SChip) (n : Int) : goR x n = doF x (goS n) := by unfold goR; rw [rawX_eq]; rfl
theorem twR_eq (x : SChip) (n : Int) : twR x n = doF x (twiceS n) := by unfold twR; rw [rawX_eq]; rfl
set_option maxHeartbeats 4000000
theorem chtw_in {n L : Nat} {ca cb : Int} {l : List SStep} {V' : Nat → Int} (x : SChip) (hb : (buildF ⟨ca, cb⟩ (stepsR (R stepD l))).1 = x) (X : XI n L x V') (i : Nat) (hi : i < x.frames.length) (h40 : x.frames.length < 40) : FunOK Tryz.prog 5 [.agg [I ca, I cb], Ro (R stepD l), V i] (hOf []) (Vb true) (hOf []) := by
  subst hb
  refine fun_deep (pins := []) (l0 := []) (objs := []) (base := 0) (xx_ok tabL6_ok ksL6) mixed Tryz.func5 rfl (Nat.le_of_ble_eq_true rfl) rfl rfl ?_
  obtain ⟨t1, t2, t3, t4, t5, t6⟩ := twice_once X hi h40
  have hnc := X.nc
  have hn1 := X.n1
  have hlen := framesD_len (buildF ⟨ca, cb⟩ (stepsR (R stepD l))).1.frames
  have hw : IntKind.i64.wrap (((framesD (buildF ⟨ca, cb⟩ (stepsR (R stepD l))).1.frames).length : Int) - 1) = ((buildF ⟨ca, cb⟩ (stepsR (R stepD l))).1.frames.length : Int) - 1 := by rw [hlen, wrap_in (by omega) (by omega)]
  simp only [← goR_eq, ← twR_eq, ← hw] at t1 t2 t3 t4 t5 t6
  have hx : ¬ (((((R coreD (buildF ⟨ca, cb⟩ (stepsR (R stepD l))).1.cores).length : Int) == 0) == false) = false) := by
    rw [R_len, hnc]
    simp
    omega
  have hx2 : ¬ ((decide ((i : Int) < 0) == false) = false) := by simp
  have hx3 : ¬ ((decide ((i : Int) ≥ ((framesD (buildF ⟨ca, cb⟩ (stepsR (R stepD l))).1.frames).length : Int)) == false) = false) := by rw [hlen]; simp; omega
  have hx4 : ¬ (decide (((framesD (buildF ⟨ca, cb⟩ (stepsR (R stepD l))).1.frames).length : Int) ≥ 40) = true) := by rw [hlen]; simp; omega
  have hT : (doF (buildF ⟨ca, cb⟩ (stepsR (R stepD l))).1 (twiceS i)).2.2 = 0 := by rw [← twR_eq]; exact t1
  obtain ⟨V2, X2, _⟩ := xi_do X hT
  have hG : (doF (doF (buildF ⟨ca, cb⟩ (stepsR (R stepD l))).1 (twiceS i)).1 (goS i)).2.2 = 0 := by rw [← twR_eq, ← goR_eq, t2]; exact t3
  obtain ⟨V3, X3, _⟩ := xi_do X2 hG
  have hA : (doF (buildF ⟨ca, cb⟩ (stepsR (R stepD l))).1 (goS i)).2.2 = 0 := by rw [← goR_eq]; exact t3
  obtain ⟨V4, X4, _⟩ := xi_do X hA
  simp only [← goR_eq, ← twR_eq] at X2 X3 X4
  have hx5 : ¬ ((((goR (buildF ⟨ca, cb⟩ (stepsR (R stepD l))).1 i).2.2 != 0) == false) = false) := by rw [t3]; decide
  have hx6 : ¬ (((twR (buildF ⟨ca, cb⟩ (stepsR (R stepD l))).1 i).2.2 != 0) = true) := by rw [t1]; decide
  have hx7 : ¬ ((((goR (twR (buildF ⟨ca, cb⟩ (stepsR (R stepD l))).1 i).1 i).2.2 != 0) == false) = false) := by rw [t2, t3]; decide
  have hx8 : ¬ ((((goR (goR (twR (buildF ⟨ca, cb⟩ (stepsR (R stepD l))).1 i).1 i).1 (IntKind.i64.wrap (((framesD (buildF ⟨ca, cb⟩ (stepsR (R stepD l))).1.frames).length : Int) - 1))).2.2 != 0) == false) = false) := by rw [t4]; decide
  have hx9 : ¬ (((decide (((R dnD (goR (goR (twR (buildF ⟨ca, cb⟩ (stepsR (R stepD l))).1 i).1 i).1 (IntKind.i64.wrap (((framesD (buildF ⟨ca, cb⟩ (stepsR (R stepD l))).1.frames).length : Int) - 1))).2.1).length : Int) > 0)) == false) = false) := by rw [t4]; decide
  have hx10 : ¬ ((((R coreD (goR (goR (twR (buildF ⟨ca, cb⟩ (stepsR (R stepD l))).1 i).1 i).1 (IntKind.i64.wrap (((framesD (buildF ⟨ca, cb⟩ (stepsR (R stepD l))).1.frames).length : Int) - 1))).1.cores).length : Int) != ((R coreD (goR (buildF ⟨ca, cb⟩ (stepsR (R stepD l))).1 i).1.cores).length : Int)) = true) := by rw [t5]; simp
  repeat' ((conv => whnf); first | exact trivial | (with_reducible refine ap_of ?_; kernel_rfl) | (with_reducible refine ds_of ?_; kernel_rfl) | (with_reducible refine eq_of ?_; kernel_rfl) | exact rfl | (intro h; exact absurd h (by decide)) | (intro h; with_reducible exact absurd h hx) | (intro h; with_reducible exact absurd h hx2) | (intro h; with_reducible exact absurd h hx3) | (intro h; with_reducible exact absurd h hx4) | (intro h; with_reducible exact absurd h hx5) | (intro h; with_reducible exact absurd h hx6) | (intro h; with_reducible exact absurd h hx7) | (intro h; with_reducible exact absurd h hx8) | (intro h; with_reducible exact absurd h hx9) | (intro h; with_reducible exact absurd h hx10) | intro _ | apply And.intro)
  all_goals clear hx hx2 hx3 hx4 hx5 hx6 hx7 hx8 hx9 hx10
  all_goals first
    | exact ⟨l, rfl⟩
    | exact ⟨_, n, L, V', rfl, rfl, rfl, X⟩
    | exact ⟨_, n, L, V2, rfl, rfl, rfl, X2⟩
    | exact ⟨_, n, L, V3, rfl, rfl, rfl, X3⟩
    | exact ⟨_, rfl, congrArg (fun r => R dnD r.1) t2, Nat.lt_of_le_of_lt (doF_one _ _).2 (by decide)⟩
    | decide
    | skip
  have M4 := mild_xi X4
  simp only [goR, twR, rawX] at t5 t6 M4
  clear t1 t2 t3 t4 X X2 X3 X4 hT hG hA hw hlen hi h40
  generalize (doF ⟨coresR (R coreD (buildF ⟨ca, cb⟩ (stepsR (R stepD l))).1.cores), homeR (R entD (buildF ⟨ca, cb⟩ (stepsR (R stepD l))).1.home), framesR (framesD (buildF ⟨ca, cb⟩ (stepsR (R stepD l))).1.frames)⟩ ⟨2, 0, i, 0, ⟨0, 0, 0⟩⟩).1 = A at *
  generalize (doF _ ⟨2, 0, IntKind.i64.wrap (((framesD (buildF ⟨ca, cb⟩ (stepsR (R stepD l))).1.frames).length : Int) - 1), 0, ⟨0, 0, 0⟩⟩).1 = Z at *
  have hlen : (R coreD A.cores).length = A.cores.length := R_len _ _
  have hl1 := M4.nc
  have hzc : R coreD Z.cores = R coreD A.cores := by rw [t5]
  have hzh : R entD Z.home = R entD A.home := by rw [t6]
  (conv => whnf)
  refine loop_keep [9, 16] 40 [] {k : Nat // k ≤ A.cores.length} (fun k => [(6, Vb false), (118, V A.cores.length), (119, V k.1)]) (fun k => [(4064, .live (.box [.d (.row (R coreD A.cores)), .d (.row (R entD A.home)), .d (.row (framesD A.frames))] 33)), (8088, .live (.box [.d (.row (R coreD Z.cores)), .d (.row (R entD Z.home)), .d (.row (framesD Z.frames))] 33))]) (fun k => A.cores.length - k.1) ⟨0, Nat.zero_le _⟩ ?_
  (conv => whnf)
  refine ⟨?_, ?_⟩
  · repeat' ((conv => whnf); first | exact trivial | exact rfl | apply And.intro)
    all_goals first | exact int_eq (show ((R coreD Z.cores).length : Int) = A.cores.length by rw [hzc, hlen]) | trace_state
  · rintro ⟨k, hk⟩
    repeat' ((conv => whnf); first | exact trivial | (with_reducible refine ap_of ?_; kernel_rfl) | (with_reducible refine ds_of ?_; kernel_rfl) | (with_reducible refine eq_of ?_; kernel_rfl) | exact rfl | (intro h; exact absurd h (by decide)) | intro _ | apply And.intro)
    all_goals first
      | (have hlt : k < A.cores.length := (by have := k_lt (k := k) (n := A.cores.length) (by assumption); omega)
         have hki : (k : Int) < A.cores.length := by omega
         have hg0 : (R coreD A.cores).getD k [] = coreD (A.cores.getD k SCore.zero) := R_get coreD _ hlt
         have hgl : (A.cores.getD k SCore.zero).lines.length < 1000 := M4.cl _ (by simp [List.getD, hlt])
         rw [hzc] at *
         generalize A.cores.getD k SCore.zero = c at *
         have hg : (R coreD A.cores).getD k [] = [.row (rowsL c.lines), J c.wait.kind, J c.wait.line, J c.wait.value] := hg0
         first
           | exact Int.natCast_nonneg _
           | (rw [hlen]; exact hki)
           | (rw [hlen, show ∀ n : Nat, ((n : Nat) : Int).toNat = n from Int.toNat_natCast]; exact hlt)
           | rfl
           | (rw [show ∀ n : Nat, ((n : Nat) : Int).toNat = n from Int.toNat_natCast, hg]; first | rfl | exact Nat.le_refl _ | exact ⟨c.lines, rfl, rfl, hgl, rfl, rfl, rfl⟩)
           | (exfalso; clear hg hg0 hgl; simp_all; done))
      | (have hlt : k < A.cores.length := (by have := k_lt (k := k) (n := A.cores.length) (by assumption); omega)
         (conv => whnf)
         refine ⟨⟨k + 1, hlt⟩, [], ?_, ?_⟩
         · show A.cores.length - (k + 1) < A.cores.length - k
           omega
         · repeat' ((conv => whnf); first | exact trivial | exact rfl | apply And.intro)
           exact succ_eq k (by omega))
      | (have hke : k = A.cores.length := (by have := k_ge (k := k) (n := A.cores.length) (by assumption); omega)
         first
           | exact ⟨_, hzh, rfl, M4.nh, M4.hl⟩
           | rfl
           | trace_state)
      | trace_state
theorem chtw_none {ca cb : Int} {l : List SStep} (h : (buildF ⟨ca, cb⟩ l).1.cores = []) (nn : Int) : FunOK Tryz.prog 5 [.agg [I ca, I cb], Ro (R stepD l), V nn] (hOf []) (Vb true) (hOf []) := by
  refine fun_deep (pins := []) (l0 := []) (objs := []) (base := 0) (xx_ok tabL6_ok ksL6) mixed Tryz.func5 rfl (Nat.le_of_ble_eq_true rfl) rfl rfl ?_
  have hx : ¬ (((((R coreD (buildF ⟨ca, cb⟩ (stepsR (R stepD l))).1.cores).length : Int) == 0) == false) = true) := by
    rw [stepsR_rows, h]
    decide
  repeat' ((conv => whnf); first | exact trivial | (with_reducible refine ap_of ?_; kernel_rfl) | (with_reducible refine ds_of ?_; kernel_rfl) | (with_reducible refine eq_of ?_; kernel_rfl) | exact rfl | (intro h; exact absurd h (by decide)) | (intro h; with_reducible exact absurd h hx) | intro _ | apply And.intro)
  all_goals first
    | exact ⟨l, rfl⟩
    | rfl
    | trace_state
theorem chtw_lo {ca cb : Int} {l : List SStep} (nn : Int) (h : nn < 0) : FunOK Tryz.prog 5 [.agg [I ca, I cb], Ro (R stepD l), V nn] (hOf []) (Vb true) (hOf []) := by
  refine fun_deep (pins := []) (l0 := []) (objs := []) (base := 0) (xx_ok tabL6_ok ksL6) mixed Tryz.func5 rfl (Nat.le_of_ble_eq_true rfl) rfl rfl ?_
  have hx : ¬ ((decide (nn < 0) == false) = true) := by simp; omega
  repeat' ((conv => whnf); first | exact trivial | (with_reducible refine ap_of ?_; kernel_rfl) | (with_reducible refine ds_of ?_; kernel_rfl) | (with_reducible refine eq_of ?_; kernel_rfl) | exact rfl | (intro h; exact absurd h (by decide)) | (intro h; with_reducible exact absurd h hx) | intro _ | apply And.intro)
  all_goals first
    | exact ⟨l, rfl⟩
    | rfl
    | trace_state
theorem chtw_hi {ca cb : Int} {l : List SStep} (nn : Int) (h0 : 0 ≤ nn) (h : ((buildF ⟨ca, cb⟩ l).1.frames.length : Int) ≤ nn) : FunOK Tryz.prog 5 [.agg [I ca, I cb], Ro (R stepD l), V nn] (hOf []) (Vb true) (hOf []) := by
  refine fun_deep (pins := []) (l0 := []) (objs := []) (base := 0) (xx_ok tabL6_ok ksL6) mixed Tryz.func5 rfl (Nat.le_of_ble_eq_true rfl) rfl rfl ?_
  have hx : ¬ ((decide (nn < 0) == false) = false) := by simp; omega
  have hx2 : ¬ ((decide (nn ≥ ((framesD (buildF ⟨ca, cb⟩ (stepsR (R stepD l))).1.frames).length : Int)) == false) = true) := by rw [stepsR_rows, framesD_len]; simp; omega
  repeat' ((conv => whnf); first | exact trivial | (with_reducible refine ap_of ?_; kernel_rfl) | (with_reducible refine ds_of ?_; kernel_rfl) | (with_reducible refine eq_of ?_; kernel_rfl) | exact rfl | (intro h; exact absurd h (by decide)) | (intro h; with_reducible exact absurd h hx) | (intro h; with_reducible exact absurd h hx2) | intro _ | apply And.intro)
  all_goals first
    | exact ⟨l, rfl⟩
    | rfl
    | trace_state
theorem chtw_full {ca cb : Int} {l : List SStep} (nn : Int) (h0 : 0 ≤ nn) (h1 : nn < ((buildF ⟨ca, cb⟩ l).1.frames.length : Int)) (h : 40 ≤ (buildF ⟨ca, cb⟩ l).1.frames.length) : FunOK Tryz.prog 5 [.agg [I ca, I cb], Ro (R stepD l), V nn] (hOf []) (Vb true) (hOf []) := by
  refine fun_deep (pins := []) (l0 := []) (objs := []) (base := 0) (xx_ok tabL6_ok ksL6) mixed Tryz.func5 rfl (Nat.le_of_ble_eq_true rfl) rfl rfl ?_
  have hx : ¬ ((decide (nn < 0) == false) = false) := by simp; omega
  have hx2 : ¬ ((decide (nn ≥ ((framesD (buildF ⟨ca, cb⟩ (stepsR (R stepD l))).1.frames).length : Int)) == false) = false) := by rw [stepsR_rows, framesD_len]; simp; omega
  have hx3 : ¬ (decide (((framesD (buildF ⟨ca, cb⟩ (stepsR (R stepD l))).1.frames).length : Int) ≥ 40) = false) := by rw [stepsR_rows, framesD_len]; simp; omega
  repeat' ((conv => whnf); first | exact trivial | (with_reducible refine ap_of ?_; kernel_rfl) | (with_reducible refine ds_of ?_; kernel_rfl) | (with_reducible refine eq_of ?_; kernel_rfl) | exact rfl | (intro h; exact absurd h (by decide)) | (intro h; with_reducible exact absurd h hx) | (intro h; with_reducible exact absurd h hx2) | (intro h; with_reducible exact absurd h hx3) | intro _ | apply And.intro)
  all_goals first
    | exact ⟨l, rfl⟩
    | rfl
    | trace_state
theorem chtw_any (c : Cfg) (l : List SStep) (nn : Int) : FunOK Tryz.prog 5 [.agg (cfgC c), Ro (R stepD l), V nn] (hOf []) (Vb true) (hOf []) := by
  rcases built c l with ⟨n, L, V', e1, e2, X⟩ | hz
  · by_cases h0 : nn < 0
    · exact chtw_lo (ca := c.cores) (cb := c.lines) nn h0
    by_cases h1 : ((buildF ⟨c.cores, c.lines⟩ l).1.frames.length : Int) ≤ nn
    · exact chtw_hi (ca := c.cores) (cb := c.lines) nn (by omega) h1
    by_cases h2 : 40 ≤ (buildF ⟨c.cores, c.lines⟩ l).1.frames.length
    · exact chtw_full (ca := c.cores) (cb := c.lines) nn (by omega) (by omega) h2
    obtain ⟨i, rfl⟩ := Int.eq_ofNat_of_zero_le (show 0 ≤ nn by omega)
    have hi : i < (buildF ⟨c.cores, c.lines⟩ l).1.frames.length := by omega
    exact chtw_in (ca := c.cores) (cb := c.lines) (buildF ⟨c.cores, c.lines⟩ l).1 (by rw [stepsR_rows]) X i hi (by omega)
  · exact chtw_none (ca := c.cores) (cb := c.lines) hz nn
end Go.Proofs.YtpgeopefamomnacGreat
