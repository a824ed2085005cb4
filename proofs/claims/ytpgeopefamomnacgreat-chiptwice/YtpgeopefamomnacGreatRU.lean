/- The document's own answer: a chip that is built by steps. -/
import Derived.Test.YtpgeopefamomnacGreatRT
set_option linter.unusedSimpArgs false
namespace Go.Proofs.YtpgeopefamomnacGreat
open Go.RowKit
set_option linter.unusedVariables false
set_option maxRecDepth 100000

section
variable (c : Cfg)
set_option maxHeartbeats 4000000
theorem rnew_c0 (h : c.cores < 1) : FunOK Tryz.prog 8 [.agg [I c.cores, I c.lines]] (hOf []) (.tup [.agg [.d (.row []), .d (.row []), .d (.row [])], V 3]) (hOf []) := by
  refine fun_deep (pins := []) (l0 := []) (objs := []) (base := 0) (xx_ok tab0_ok []) mixed Tryz.func8 rfl (Nat.le_of_ble_eq_true rfl) rfl rfl ?_
  have hx : ¬ ((decide (c.cores < 1) == false) = true) := by simp [h]
  repeat' ((conv => whnf); first | exact trivial | (with_reducible refine ap_of ?_; kernel_rfl) | (with_reducible refine ds_of ?_; kernel_rfl) | (with_reducible refine eq_of ?_; kernel_rfl) | exact rfl | (intro h; exact absurd h (by decide)) | (intro h; exact absurd h hx) | intro _ | apply And.intro)
  all_goals first | rfl | (exfalso; simp_all; done) | (exfalso; simp_all; omega)
theorem rnew_c4 (h : 4 < c.cores) : FunOK Tryz.prog 8 [.agg [I c.cores, I c.lines]] (hOf []) (.tup [.agg [.d (.row []), .d (.row []), .d (.row [])], V 3]) (hOf []) := by
  refine fun_deep (pins := []) (l0 := []) (objs := []) (base := 0) (xx_ok tab0_ok []) mixed Tryz.func8 rfl (Nat.le_of_ble_eq_true rfl) rfl rfl ?_
  have hx : ¬ ((decide (c.cores > 4) == false) = true) := by simp [h]
  repeat' ((conv => whnf); first | exact trivial | (with_reducible refine ap_of ?_; kernel_rfl) | (with_reducible refine ds_of ?_; kernel_rfl) | (with_reducible refine eq_of ?_; kernel_rfl) | exact rfl | (intro h; exact absurd h (by decide)) | (intro h; exact absurd h hx) | intro _ | apply And.intro)
  all_goals first | rfl | (exfalso; simp_all; done) | (exfalso; simp_all; omega)
theorem rnew_l0 (h : c.lines < 1) : FunOK Tryz.prog 8 [.agg [I c.cores, I c.lines]] (hOf []) (.tup [.agg [.d (.row []), .d (.row []), .d (.row [])], V 3]) (hOf []) := by
  refine fun_deep (pins := []) (l0 := []) (objs := []) (base := 0) (xx_ok tab0_ok []) mixed Tryz.func8 rfl (Nat.le_of_ble_eq_true rfl) rfl rfl ?_
  have hx : ¬ ((decide (c.lines < 1) == false) = true) := by simp [h]
  repeat' ((conv => whnf); first | exact trivial | (with_reducible refine ap_of ?_; kernel_rfl) | (with_reducible refine ds_of ?_; kernel_rfl) | (with_reducible refine eq_of ?_; kernel_rfl) | exact rfl | (intro h; exact absurd h (by decide)) | (intro h; exact absurd h hx) | intro _ | apply And.intro)
  all_goals first | rfl | (exfalso; simp_all; done) | (exfalso; simp_all; omega)
theorem rnew_l4 (h : 4 < c.lines) : FunOK Tryz.prog 8 [.agg [I c.cores, I c.lines]] (hOf []) (.tup [.agg [.d (.row []), .d (.row []), .d (.row [])], V 3]) (hOf []) := by
  refine fun_deep (pins := []) (l0 := []) (objs := []) (base := 0) (xx_ok tab0_ok []) mixed Tryz.func8 rfl (Nat.le_of_ble_eq_true rfl) rfl rfl ?_
  have hx : ¬ (decide (c.lines > 4) = false) := by simp [h]
  repeat' ((conv => whnf); first | exact trivial | (with_reducible refine ap_of ?_; kernel_rfl) | (with_reducible refine ds_of ?_; kernel_rfl) | (with_reducible refine eq_of ?_; kernel_rfl) | exact rfl | (intro h; exact absurd h (by decide)) | (intro h; exact absurd h hx) | intro _ | apply And.intro)
  all_goals first | rfl | (exfalso; simp_all; done) | (exfalso; simp_all; omega)
theorem rnew_any : FunOK Tryz.prog 8 [.agg (cfgC c)] (hOf []) (.tup [.agg (chipC (newF c).1), V (newF c).2]) (hOf []) := by
  unfold newF
  by_cases h0 : c.cores < 1
  · rw [if_pos (.inl h0)]
    exact rnew_c0 c h0
  by_cases h1 : 4 < c.cores
  · rw [if_pos (.inr (.inl h1))]
    exact rnew_c4 c h1
  by_cases h2 : c.lines < 1
  · rw [if_pos (.inr (.inr (.inl h2)))]
    exact rnew_l0 c h2
  by_cases h3 : 4 < c.lines
  · rw [if_pos (.inr (.inr (.inr h3)))]
    exact rnew_l4 c h3
  have h := rnew_ok c (by omega) (by omega) (by omega) (by omega)
  unfold newF at h
  rw [if_neg (by omega)] at h ⊢
  exact h
end
def newT (xs : List AV) (l0 : List (Nat × OS)) : Ans := match xs, l0 with
  | [.agg [.d (.int .i64 a), .d (.int .i64 b)]], [] => some (True, .tup [.agg (chipC (newF ⟨a, b⟩).1), V (newF ⟨a, b⟩).2], [])
  | _, _ => none
theorem new_does : Does Tryz.prog 8 newT := ⟨⟨_, Tryz.func8, by decide, rfl⟩, fun xs l0 p v objs h hp => by
  unfold newT at h
  split at h
  · cases h
    exact rnew_any (Cfg.mk _ _)
  · cases h⟩
def coreOf (u : List DV) : SCore := ⟨linesR (u.getD 0 dz).toR, ⟨toI0 u 1, toI0 u 2, toI0 u 3⟩⟩
def coresR (es : Row) : List SCore := es.map coreOf
theorem coresR_rows (l : List SCore) : coresR (R coreD l) = l := by
  unfold coresR R
  rw [List.map_map]
  exact List.map_id'' (f := coreOf ∘ coreD) (fun c => by
    show (⟨linesR (rowsL c.lines), ⟨c.wait.kind, c.wait.line, c.wait.value⟩⟩ : SCore) = c
    rw [linesR_rows]) l
def doT4 (xs : List AV) (l0 : List (Nat × OS)) : Ans := match xs, l0 with
  | [.agg [.d (.row cr), .d (.row hr), .d (.row fr)], .agg [.d (.int .i64 k), .d (.int .i64 nd), .d (.int .i64 sn), .d (.int .i64 sb), .d (.int .i64 ok), .d (.int .i64 ol), .d (.int .i64 ov)]], [] => some (∃ x n L V, cr = R coreD x.cores ∧ hr = R entD x.home ∧ fr = framesD x.frames ∧ XI n L x V, doV (doF ⟨coresR cr, homeR hr, framesR fr⟩ ⟨k, nd, sn, sb, ⟨ok, ol, ov⟩⟩), [])
  | _, _ => none
theorem do4_does : Does Tryz.prog 12 doT4 := ⟨⟨_, Tryz.func12, by decide, rfl⟩, fun xs l0 p v objs h hp => by
  unfold doT4 at h
  split at h
  · cases h
    obtain ⟨x, n, L, V, rfl, rfl, rfl, X⟩ := hp
    rw [coresR_rows, homeR_rows, framesR_rows]
    exact rdo4_ok X (SStep.mk _ _ _ _ (SOp.mk _ _ _))
  · cases h⟩
def tabB : Canon := orT 8 newT (orT 12 doT4 tab0)
theorem tabB_ok : Sound Tryz.prog tabB := (tab0_ok.or do4_does).or new_does
def SStep.zero : SStep := ⟨0, 0, 0, 0, SOp.zero⟩
def stepD (s : SStep) : List DV := [J s.kind, J s.node, J s.n, J s.bit, J s.op.kind, J s.op.line, J s.op.value]
def stB (c : Cfg) (l : List SStep) (k : Nat) : SChip × List SDone := (l.take k).foldl stepF ((newF c).1, [])
theorem stB_step (c : Cfg) {l : List SStep} {k : Nat} (h : k < l.length) : stB c l (k + 1) = stepF (stB c l k) (l.getD k SStep.zero) := by
  unfold stB
  rw [take_snoc l k SStep.zero h, List.foldl_append]
  rfl
theorem done_len (x : SChip) (s : SStep) : (doF x s).2.1.length ≤ 1 := by
  have hb : ∀ k id home o, (beginF k id home o).2.2.1.length ≤ 1 := fun k id home o => by
    unfold beginF
    (repeat' split) <;> simp
  have hh : ∀ k id home m, (hearF k id home m).2.2.length ≤ 1 := fun k id home m => by
    unfold hearF
    split
    · simp
    · cases (hearL (k.line m.line.toNat) k.wait m).2.2 <;> simp
  unfold doF
  (repeat' split) <;> first | exact hb _ _ _ _ | exact hh _ _ _ _ | simp
theorem stB_len (c : Cfg) (l : List SStep) : ∀ k, k ≤ l.length → (stB c l k).2.length ≤ k
  | 0, _ => by simp [stB]
  | k + 1, h => by
    rw [stB_step c (by omega)]
    have h1 := stB_len c l k (by omega)
    have h2 := done_len (stB c l k).1 (l.getD k SStep.zero)
    unfold stepF
    split
    · rw [List.length_append]; omega
    · omega
set_option maxHeartbeats 4000000 in
theorem rbuild_ok (c : Cfg) (l : List SStep) (hc : (newF c).2 = 0) : FunOK Tryz.prog 6 [.agg (cfgC c), Ro (R stepD l)] (hOf []) (.tup [.agg (chipC (buildF c l).1), Ro (R dnD (buildF c l).2)]) (hOf []) := by
  refine fun_deep (pins := []) (l0 := []) (objs := []) (base := 0) (xx_ok tabB_ok [8, 12]) mixed Tryz.func6 rfl (Nat.le_of_ble_eq_true rfl) rfl rfl ?_
  have hx : ¬ (((newF c).2 != 0) = true) := by rw [hc]; decide
  repeat' ((conv => whnf); first | exact trivial | (with_reducible refine ap_of ?_; kernel_rfl) | (with_reducible refine ds_of ?_; kernel_rfl) | (with_reducible refine eq_of ?_; kernel_rfl) | exact rfl | (intro h; exact absurd h (by decide)) | (intro h; exact absurd h hx) | intro _ | apply And.intro)
  all_goals (conv => whnf)
  refine loop_keep [4, 5, 6, 22] 40 [(1, ?_)] {k : Nat // k ≤ l.length ∧ k ≤ 300} (fun k => [(8, .c (.own 1)), (23, V l.length), (24, V k.1)]) (fun k => [(8, .live (.box [.nils, .nils, .nils] 33)), (16, .live (.row [] 5 86 false)), (1040, .live (.box (chipC (stB c l k.1).1) 33)), (1, .live (.row (R dnD (stB c l k.1).2) 5 86 false))]) (fun k => l.length - k.1) ⟨0, Nat.zero_le _, Nat.zero_le _⟩ ?_
  rotate_left
  (conv => whnf)
  refine ⟨?_, ?_⟩
  · repeat' ((conv => whnf); first | exact trivial | exact rfl | apply And.intro)
    all_goals exact int_eq (show ((R stepD l).length : Int) = l.length by rw [R_len])
  · rintro ⟨k, hk, hk3⟩
    have hll : (R stepD l).length = l.length := R_len _ _
    have hdl := stB_len c l k hk
    have hdr : (R dnD (stB c l k).2).length ≤ 300 := by rw [R_len]; omega
    obtain ⟨n, L, hn, hL, X0⟩ := xi_new hc
    obtain ⟨V1, X, _⟩ := xi_steps (l.take k) (s := ((newF c).1, [])) (V0 := fun _ => 0) X0 (fun _ => rfl)
    change XI n L (stB c l k).1 V1 at X
    clear hx
    repeat' ((conv => whnf); first | exact trivial | (with_reducible refine ap_of ?_; kernel_rfl) | (with_reducible refine ds_of ?_; kernel_rfl) | (with_reducible refine eq_of ?_; kernel_rfl) | exact rfl | (intro h; exact absurd h (by decide)) | intro _ | apply And.intro)
    all_goals first
      | (have hlt : k < l.length := (by have := k_lt (k := k) (n := l.length) (by assumption); omega)
         have hki : (k : Int) < l.length := by omega
         have hgk : (R stepD l).getD k [] = stepD (l.getD k SStep.zero) := R_get stepD SStep.zero hlt
         have hD : doF ⟨coresR (R coreD (stB c l k).1.cores), homeR (R entD (stB c l k).1.home), framesR (framesD (stB c l k).1.frames)⟩ ⟨(((R stepD l).getD ((k : Nat) : Int).toNat []).getD 0 dz).toI, (((R stepD l).getD ((k : Nat) : Int).toNat []).getD 1 dz).toI, (((R stepD l).getD ((k : Nat) : Int).toNat []).getD 2 dz).toI, (((R stepD l).getD ((k : Nat) : Int).toNat []).getD 3 dz).toI, ⟨(((R stepD l).getD ((k : Nat) : Int).toNat []).getD 4 dz).toI, (((R stepD l).getD ((k : Nat) : Int).toNat []).getD 5 dz).toI, (((R stepD l).getD ((k : Nat) : Int).toNat []).getD 6 dz).toI⟩⟩ = doF (stB c l k).1 (l.getD k SStep.zero) := by
           rw [coresR_rows, homeR_rows, framesR_rows, Int.toNat_natCast, hgk]
           rfl
         have hdo := done_len (stB c l k).1 (l.getD k SStep.zero)
         first
           | exact Int.natCast_nonneg _
           | (rw [hll]; exact hki)
           | (rw [hll, show ∀ n : Nat, ((n : Nat) : Int).toNat = n from Int.toNat_natCast]; exact hlt)
           | rfl
           | (rw [show ∀ n : Nat, ((n : Nat) : Int).toNat = n from Int.toNat_natCast, hgk]; first | rfl | exact Nat.le_refl _)
           | exact ⟨_, n, L, V1, rfl, rfl, rfl, X⟩
           | (have h3 : k = 300 := by have h := (by assumption : ((k : Int) == 300) = true); simp at h; omega
              subst h3
              show AV.tup [.agg (chipC (stB c l 300).1), Ro (R dnD (stB c l 300).2)] = _
              unfold buildF
              rw [if_pos hc]
              rfl)
           | (show (R dnD (stB c l k).2).length + (R dnD (doF ⟨coresR (R coreD (stB c l k).1.cores), homeR (R entD (stB c l k).1.home), framesR (framesD (stB c l k).1.frames)⟩ ⟨(((R stepD l).getD ((k : Nat) : Int).toNat []).getD 0 dz).toI, (((R stepD l).getD ((k : Nat) : Int).toNat []).getD 1 dz).toI, (((R stepD l).getD ((k : Nat) : Int).toNat []).getD 2 dz).toI, (((R stepD l).getD ((k : Nat) : Int).toNat []).getD 3 dz).toI, ⟨(((R stepD l).getD ((k : Nat) : Int).toNat []).getD 4 dz).toI, (((R stepD l).getD ((k : Nat) : Int).toNat []).getD 5 dz).toI, (((R stepD l).getD ((k : Nat) : Int).toNat []).getD 6 dz).toI⟩⟩).2.1).length ≤ 1000000000
              rw [hD, R_len dnD (doF (stB c l k).1 (l.getD k SStep.zero)).2.1]
              omega)
           | exact R_one (f := dnD) (fun _ => rfl) _ _ (by assumption)
           | (have h3 : k < 300 := by have h := (by assumption : ((k : Int) == 300) = false); simp at h; omega
              (conv => whnf)
              refine ⟨⟨k + 1, hlt, h3⟩, [(1, ?_)], ?_, ?_⟩
              rotate_left
              · show l.length - (k + 1) < l.length - k
                omega
              · first
                  | (have h0 : ((doF ⟨coresR (R coreD (stB c l k).1.cores), homeR (R entD (stB c l k).1.home), framesR (framesD (stB c l k).1.frames)⟩ ⟨(((R stepD l).getD ((k : Nat) : Int).toNat []).getD 0 dz).toI, (((R stepD l).getD ((k : Nat) : Int).toNat []).getD 1 dz).toI, (((R stepD l).getD ((k : Nat) : Int).toNat []).getD 2 dz).toI, (((R stepD l).getD ((k : Nat) : Int).toNat []).getD 3 dz).toI, ⟨(((R stepD l).getD ((k : Nat) : Int).toNat []).getD 4 dz).toI, (((R stepD l).getD ((k : Nat) : Int).toNat []).getD 5 dz).toI, (((R stepD l).getD ((k : Nat) : Int).toNat []).getD 6 dz).toI⟩⟩).2.2 == 0) = true := by assumption
                     rw [hD] at h0
                     have h0 : (doF (stB c l k).1 (l.getD k SStep.zero)).2.2 = 0 := by simpa using h0
                     have hst : stB c l (k + 1) = ((doF (stB c l k).1 (l.getD k SStep.zero)).1, (stB c l k).2 ++ (doF (stB c l k).1 (l.getD k SStep.zero)).2.1) := by rw [stB_step c hlt]; exact if_pos h0
                     repeat' ((conv => whnf); first | exact trivial | exact rfl | apply And.intro)
                     · exact succ_eq k (by omega)
                     · show OS.live (.box (chipC (doF ⟨coresR (R coreD (stB c l k).1.cores), homeR (R entD (stB c l k).1.home), framesR (framesD (stB c l k).1.frames)⟩ ⟨(((R stepD l).getD ((k : Nat) : Int).toNat []).getD 0 dz).toI, (((R stepD l).getD ((k : Nat) : Int).toNat []).getD 1 dz).toI, (((R stepD l).getD ((k : Nat) : Int).toNat []).getD 2 dz).toI, (((R stepD l).getD ((k : Nat) : Int).toNat []).getD 3 dz).toI, ⟨(((R stepD l).getD ((k : Nat) : Int).toNat []).getD 4 dz).toI, (((R stepD l).getD ((k : Nat) : Int).toNat []).getD 5 dz).toI, (((R stepD l).getD ((k : Nat) : Int).toNat []).getD 6 dz).toI⟩⟩).1) 33) = OS.live (.box (chipC (stB c l (k + 1)).1) 33)
                       rw [hD, hst]
                     · refine row_eq ?_
                       show R dnD (stB c l k).2 ++ R dnD (doF ⟨coresR (R coreD (stB c l k).1.cores), homeR (R entD (stB c l k).1.home), framesR (framesD (stB c l k).1.frames)⟩ ⟨(((R stepD l).getD ((k : Nat) : Int).toNat []).getD 0 dz).toI, (((R stepD l).getD ((k : Nat) : Int).toNat []).getD 1 dz).toI, (((R stepD l).getD ((k : Nat) : Int).toNat []).getD 2 dz).toI, (((R stepD l).getD ((k : Nat) : Int).toNat []).getD 3 dz).toI, ⟨(((R stepD l).getD ((k : Nat) : Int).toNat []).getD 4 dz).toI, (((R stepD l).getD ((k : Nat) : Int).toNat []).getD 5 dz).toI, (((R stepD l).getD ((k : Nat) : Int).toNat []).getD 6 dz).toI⟩⟩).2.1 = R dnD (stB c l (k + 1)).2
                       rw [hD, hst, R_app])
                  | (have h0 : ((doF ⟨coresR (R coreD (stB c l k).1.cores), homeR (R entD (stB c l k).1.home), framesR (framesD (stB c l k).1.frames)⟩ ⟨(((R stepD l).getD ((k : Nat) : Int).toNat []).getD 0 dz).toI, (((R stepD l).getD ((k : Nat) : Int).toNat []).getD 1 dz).toI, (((R stepD l).getD ((k : Nat) : Int).toNat []).getD 2 dz).toI, (((R stepD l).getD ((k : Nat) : Int).toNat []).getD 3 dz).toI, ⟨(((R stepD l).getD ((k : Nat) : Int).toNat []).getD 4 dz).toI, (((R stepD l).getD ((k : Nat) : Int).toNat []).getD 5 dz).toI, (((R stepD l).getD ((k : Nat) : Int).toNat []).getD 6 dz).toI⟩⟩).2.2 == 0) = false := by assumption
                     rw [hD] at h0
                     have h0 : ¬ (doF (stB c l k).1 (l.getD k SStep.zero)).2.2 = 0 := by simpa using h0
                     have hst : stB c l (k + 1) = stB c l k := by rw [stB_step c hlt]; exact if_neg h0
                     repeat' ((conv => whnf); first | exact trivial | exact rfl | apply And.intro)
                     · exact succ_eq k (by omega)
                     · show OS.live (.box (chipC (stB c l k).1) 33) = OS.live (.box (chipC (stB c l (k + 1)).1) 33)
                       rw [hst]
                     · refine row_eq ?_
                       show R dnD (stB c l k).2 = R dnD (stB c l (k + 1)).2
                       rw [hst]))
           | skip)
      | (have hke : k = l.length := (by have := k_ge (k := k) (n := l.length) (by assumption); omega)
         subst hke
         first
           | rfl
           | (show AV.tup [.agg (chipC (stB c l l.length).1), Ro (R dnD (stB c l l.length).2)] = _
              unfold buildF
              rw [if_pos hc, List.take_of_length_le hk3]
              unfold stB
              rw [List.take_of_length_le (Nat.le_refl _)]))
      | trace_state
    all_goals trace_state
theorem rbuild_no (c : Cfg) (l : List SStep) (hc : (newF c).2 ≠ 0) : FunOK Tryz.prog 6 [.agg (cfgC c), Ro (R stepD l)] (hOf []) (.tup [.agg (chipC (buildF c l).1), Ro (R dnD (buildF c l).2)]) (hOf []) := by
  refine fun_deep (pins := []) (l0 := []) (objs := []) (base := 0) (xx_ok tabB_ok [8, 12]) mixed Tryz.func6 rfl (Nat.le_of_ble_eq_true rfl) rfl rfl ?_
  have hx : ¬ (((newF c).2 != 0) = false) := by simpa using hc
  have hb : buildF c l = ((newF c).1, []) := if_neg hc
  rw [hb]
  repeat' ((conv => whnf); first | exact trivial | (with_reducible refine ap_of ?_; kernel_rfl) | (with_reducible refine ds_of ?_; kernel_rfl) | (with_reducible refine eq_of ?_; kernel_rfl) | exact rfl | (intro h; exact absurd h (by decide)) | (intro h; exact absurd h hx) | intro _ | apply And.intro)
  all_goals first | rfl | trace_state
end Go.Proofs.YtpgeopefamomnacGreat
