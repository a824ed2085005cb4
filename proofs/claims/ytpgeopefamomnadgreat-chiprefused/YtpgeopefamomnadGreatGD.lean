/- GSame GAlive LChip. -/
import Derived.Test.YtpgeopefamomnadGreatGB
import Derived.Test.YtpgeopefamomnadGreatRT
import Derived.Test.YtpgeopefamomnadGreatPG
set_option linter.unusedSimpArgs false
set_option linter.unusedSectionVars false
namespace Go.Proofs.YtpgeopefamomnadGreat
open Go.RowKit
set_option linter.unusedVariables false
set_option linter.unusedSimpArgs false
set_option maxRecDepth 100000
theorem rowB_byte {b : List Nat} (hb : isBytes b) {e : List DV} (h : e ∈ rowB b) : isByte e := by
  unfold rowB R at h
  obtain ⟨x, hx, rfl⟩ := List.mem_map.1 h
  obtain ⟨i, hi, rfl⟩ := List.getElem_of_mem hx
  have := hb i hi
  have e1 : b.getD i 0 = b[i] := by simp [List.getD, hi]
  rw [e1] at this
  unfold isByte
  simp [byteD, byteOf, DV.toI]
  omega
set_option maxHeartbeats 4000000 in
theorem sameFr_ok (fs : List (List Nat)) (hs : Short fs) (hb : ∀ f ∈ fs, isBytes f) : FunOK Tryz.prog 15 [Ro (framesD fs), Ro (framesD fs)] (hOf []) (Vb true) (hOf []) := by
  refine fun_deep (pins := []) (l0 := []) (objs := []) (base := 0) (xx_ok tab0_ok []) mixed Tryz.func15 rfl (Nat.le_of_ble_eq_true rfl) rfl rfl ?_
  have hlen := framesD_len fs
  have h1 := hs.1
  repeat' ((conv => whnf); first | exact trivial | (with_reducible refine ap_of ?_; kernel_rfl) | (with_reducible refine ds_of ?_; kernel_rfl) | (with_reducible refine eq_of ?_; kernel_rfl) | exact rfl | (intro h; exact absurd h (by decide)) | intro _ | apply And.intro)
  all_goals first
    | rfl
    | (exfalso; simp_all; done)
    | skip
  (conv => whnf)
  refine loop_keep [0, 1] 40 [] {k : Nat // k ≤ fs.length} (fun k => [(4, Vb false), (12, V fs.length), (13, V k.1)]) (fun k => []) (fun k => fs.length - k.1) ⟨0, Nat.zero_le _⟩ ?_
  (conv => whnf)
  refine ⟨?_, ?_⟩
  · repeat' ((conv => whnf); first | exact trivial | exact rfl | apply And.intro)
    all_goals first | exact int_eq (show ((framesD fs).length : Int) = fs.length by rw [hlen]) | trace_state
  · rintro ⟨k, hk⟩
    repeat' ((conv => whnf); first | exact trivial | (with_reducible refine ap_of ?_; kernel_rfl) | (with_reducible refine ds_of ?_; kernel_rfl) | (with_reducible refine eq_of ?_; kernel_rfl) | exact rfl | (intro h; exact absurd h (by decide)) | intro _ | apply And.intro)
    all_goals first
      | (have hlt : k < fs.length := (by have := k_lt (k := k) (n := fs.length) (by assumption); omega)
         have hki : (k : Int) < fs.length := by omega
         have hg : (framesD fs).getD k [] = [.row (rowB (fs.getD k []))] := framesD_get hlt
         have hbk : isBytes (fs.getD k []) := hb _ (by simp [List.getD, hlt])
         first
           | exact Int.natCast_nonneg _
           | (rw [hlen]; exact hki)
           | (rw [hlen, show ∀ n : Nat, ((n : Nat) : Int).toNat = n from Int.toNat_natCast]; exact hlt)
           | rfl
           | (rw [show ∀ n : Nat, ((n : Nat) : Int).toNat = n from Int.toNat_natCast, hg]; first | rfl | exact Nat.le_refl _)
           | (have hm := (by assumption : _ ∈ (((framesD fs).getD ((k : Nat) : Int).toNat []).getD 0 dz).toR)
              rw [show ∀ n : Nat, ((n : Nat) : Int).toNat = n from Int.toNat_natCast, hg] at hm
              exact rowB_byte hbk hm)
           | (exfalso; clear hs hb hbk; simp_all; done)
           | ((conv => whnf)
              refine ⟨⟨k + 1, hlt⟩, [], ?_, ?_⟩
              · show fs.length - (k + 1) < fs.length - k
                omega
              · repeat' ((conv => whnf); first | exact trivial | exact rfl | apply And.intro)
                exact succ_eq k (by omega))
           | trace_state)
      | (have hke : k = fs.length := (by have := k_ge (k := k) (n := fs.length) (by assumption); omega)
         first | rfl | trace_state)
      | trace_state
/-- What comparing asks of a chip. -/
structure Mild (x : SChip) : Prop where
  nc : x.cores.length ≤ 1000
  cl : ∀ c ∈ x.cores, c.lines.length < 1000
  nh : x.home.length ≤ 1000
  hl : ∀ e ∈ x.home, e.last.length ≤ 1000
  fs : Short x.frames
  fb : ∀ f ∈ x.frames, isBytes f
theorem mild_zero : Mild SChip.zero := ⟨Nat.zero_le _, (fun _ h => (by cases h)), Nat.zero_le _, (fun _ h => (by cases h)), ⟨Nat.zero_le _, (fun _ h => (by cases h))⟩, (fun _ h => (by cases h))⟩
def sameFrT (xs : List AV) (l0 : List (Nat × OS)) : Ans := match xs, l0 with
  | [.c (.d (.row a)), .c (.d (.row b))], [] => some (∃ fs, a = framesD fs ∧ b = framesD fs ∧ Short fs ∧ ∀ f ∈ fs, isBytes f, Vb true, [])
  | _, _ => none
theorem sameFr_does : Does Tryz.prog 15 sameFrT := ⟨⟨_, Tryz.func15, by decide, rfl⟩, fun xs l0 p v objs h hp => by
  unfold sameFrT at h
  split at h
  · cases h
    obtain ⟨fs, rfl, rfl, h1, h2⟩ := hp
    exact sameFr_ok fs h1 h2
  · cases h⟩
def tabSa : Canon := orT 15 sameFrT (orT 14 sameHT (orT 16 sameCoreT tab0))
theorem tabSa_ok : Sound Tryz.prog tabSa := ((tab0_ok.or sameCore_does).or sameH_does).or sameFr_does
def ksSa : List FuncId := [15, 14, 16]
set_option maxHeartbeats 4000000 in
theorem same_ok (x : SChip) (M : Mild x) : FunOK Tryz.prog 7 [.agg [.d (.row (R coreD x.cores)), .d (.row (R entD x.home)), .d (.row (framesD x.frames))], .agg [.d (.row (R coreD x.cores)), .d (.row (R entD x.home)), .d (.row (framesD x.frames))]] (hOf []) (Vb true) (hOf []) := by
  refine fun_deep (pins := []) (l0 := []) (objs := []) (base := 0) (xx_ok tabSa_ok ksSa) mixed Tryz.func7 rfl (Nat.le_of_ble_eq_true rfl) rfl rfl ?_
  have hlen : (R coreD x.cores).length = x.cores.length := R_len _ _
  have h1 := M.nc
  repeat' ((conv => whnf); first | exact trivial | (with_reducible refine ap_of ?_; kernel_rfl) | (with_reducible refine ds_of ?_; kernel_rfl) | (with_reducible refine eq_of ?_; kernel_rfl) | exact rfl | (intro h; exact absurd h (by decide)) | intro _ | apply And.intro)
  all_goals first
    | exact ⟨_, rfl, rfl, M.nh, M.hl⟩
    | exact ⟨_, rfl, rfl, M.fs, M.fb⟩
    | rfl
    | (exfalso; simp_all; done)
    | skip
  (conv => whnf)
  refine loop_keep [2, 3] 40 [] {k : Nat // k ≤ x.cores.length} (fun k => [(4, Vb false), (31, V x.cores.length), (32, V k.1)]) (fun k => [(0, .live (.box [.d (.row (R coreD x.cores)), .d (.row (R entD x.home)), .d (.row (framesD x.frames))] 34)), (8, .live (.box [.d (.row (R coreD x.cores)), .d (.row (R entD x.home)), .d (.row (framesD x.frames))] 34))]) (fun k => x.cores.length - k.1) ⟨0, Nat.zero_le _⟩ ?_
  (conv => whnf)
  refine ⟨?_, ?_⟩
  · repeat' ((conv => whnf); first | exact trivial | exact rfl | apply And.intro)
    all_goals first | exact int_eq (show ((R coreD x.cores).length : Int) = x.cores.length by rw [hlen]) | trace_state
  · rintro ⟨k, hk⟩
    repeat' ((conv => whnf); first | exact trivial | (with_reducible refine ap_of ?_; kernel_rfl) | (with_reducible refine ds_of ?_; kernel_rfl) | (with_reducible refine eq_of ?_; kernel_rfl) | exact rfl | (intro h; exact absurd h (by decide)) | intro _ | apply And.intro)
    all_goals first
      | (have hlt : k < x.cores.length := (by have := k_lt (k := k) (n := x.cores.length) (by assumption); omega)
         have hki : (k : Int) < x.cores.length := by omega
         have hg0 : (R coreD x.cores).getD k [] = coreD (x.cores.getD k SCore.zero) := R_get coreD _ hlt
         have hgl : (x.cores.getD k SCore.zero).lines.length < 1000 := M.cl _ (by simp [List.getD, hlt])
         generalize x.cores.getD k SCore.zero = c at *
         have hg : (R coreD x.cores).getD k [] = [.row (rowsL c.lines), J c.wait.kind, J c.wait.line, J c.wait.value] := hg0
         first
           | exact Int.natCast_nonneg _
           | (rw [hlen]; exact hki)
           | (rw [hlen, show ∀ n : Nat, ((n : Nat) : Int).toNat = n from Int.toNat_natCast]; exact hlt)
           | rfl
           | (rw [show ∀ n : Nat, ((n : Nat) : Int).toNat = n from Int.toNat_natCast, hg]; first | rfl | exact Nat.le_refl _ | exact ⟨c.lines, rfl, rfl, hgl, rfl, rfl, rfl⟩)
           | (exfalso; clear hg hg0 hgl; simp_all; done)
           | ((conv => whnf)
              refine ⟨⟨k + 1, hlt⟩, [], ?_, ?_⟩
              · show x.cores.length - (k + 1) < x.cores.length - k
                omega
              · repeat' ((conv => whnf); first | exact trivial | exact rfl | apply And.intro)
                exact succ_eq k (by omega))
           | trace_state)
      | (have hke : k = x.cores.length := (by have := k_ge (k := k) (n := x.cores.length) (by assumption); omega)
         first | rfl | trace_state)
      | trace_state
def sameT (xs : List AV) (l0 : List (Nat × OS)) : Ans := match xs, l0 with
  | [.agg [.d (.row a), .d (.row b), .d (.row c)], .agg [.d (.row a'), .d (.row b'), .d (.row c')]], [] => some (∃ x, Mild x ∧ a = R coreD x.cores ∧ a' = R coreD x.cores ∧ b = R entD x.home ∧ b' = R entD x.home ∧ c = framesD x.frames ∧ c' = framesD x.frames, Vb true, [])
  | _, _ => none
theorem same_does : Does Tryz.prog 7 sameT := ⟨⟨_, Tryz.func7, by decide, rfl⟩, fun xs l0 p v objs h hp => by
  unfold sameT at h
  split at h
  · cases h
    obtain ⟨x, M, rfl, rfl, rfl, rfl, rfl, rfl⟩ := hp
    exact same_ok x M
  · cases h⟩
def cDoT (xs : List AV) (l0 : List (Nat × OS)) : Ans := match xs, l0 with
  | [.agg [.d (.row cr), .d (.row hr), .d (.row fr)], .agg [.d (.int .i64 k), .d (.int .i64 nd), .d (.int .i64 sn), .d (.int .i64 sb), .d (.int .i64 ok), .d (.int .i64 ol), .d (.int .i64 ov)]], [] => some ((∃ x n L V, cr = R coreD x.cores ∧ hr = R entD x.home ∧ fr = framesD x.frames ∧ XI n L x V) ∧ sb < 9223372036854775808, doV (doF ⟨coresR cr, homeR hr, framesR fr⟩ ⟨k, nd, sn, sb, ⟨ok, ol, ov⟩⟩), [])
  | _, _ => none
theorem cDo_does : Does Tryz.prog 6 cDoT := ⟨⟨_, Tryz.func6, by decide, rfl⟩, fun xs l0 p v objs h hp => by
  unfold cDoT at h
  split at h
  · cases h
    obtain ⟨⟨x, n, L, V, rfl, rfl, rfl, X⟩, hsb⟩ := hp
    rw [coresR_rows, homeR_rows, framesR_rows]
    exact cdo_ok X (SStep.mk _ _ _ _ (SOp.mk _ _ _)) hsb
  · cases h⟩
def tabChip : Canon := orT 6 cDoT (orT 9 cownT2 (orT 8 newT (orT 7 sameT (orT 5 buildT tab0))))
theorem tabChip_ok : Sound Tryz.prog tabChip := ((((tab0_ok.or build_does).or same_does).or chnew_does).or cown2_does).or cDo_does
def ksChip : List FuncId := [6, 9, 8, 7, 5]
end Go.Proofs.YtpgeopefamomnadGreat

namespace Go.Proofs.YtpgeopefamomnadGreat
open Go.RowKit
set_option linter.unusedVariables false
set_option linter.unusedSimpArgs false
set_option maxRecDepth 100000
def chip11 : SChip := (newF ⟨1, 1⟩).1
theorem xi_11 : ∃ V, XI 1 1 chip11 V := by
  obtain ⟨n, L, e1, e2, X⟩ := xi_new (c := ⟨1, 1⟩) (by decide)
  obtain rfl : n = 1 := by simp only [] at e1; omega
  obtain rfl : L = 1 := by simp only [] at e2; omega
  exact ⟨_, X⟩
def load0 : SStep := ⟨1, 0, 0, 0, ⟨1, 0, 0⟩⟩
theorem do_11 : doF chip11 load0 = (⟨[⟨[⟨0, 0, 1, 1, 0, 0, 0⟩], ⟨1, 0, 0⟩⟩], chip11.home, [bytesF ⟨1, 0, 1, 0, 1, 0, 0, false⟩]⟩, [], 0) := by rfl
theorem xi_12 : ∃ V, XI 1 1 (doF chip11 load0).1 V := by
  obtain ⟨V, X⟩ := xi_11
  obtain ⟨V', X', _⟩ := xi_do X (s := load0) (by rw [do_11])
  exact ⟨V', X'⟩
set_option maxHeartbeats 4000000 in
theorem alive6_ok : FunOK Tryz.prog 4 [] (hOf []) (Vb true) (hOf []) := by
  refine fun_deep (pins := []) (l0 := []) (objs := []) (base := 0) (xx_ok tabChip_ok ksChip) mixed Tryz.func4 rfl (Nat.le_of_ble_eq_true rfl) rfl rfl ?_
  have hD : doF ⟨coresR (R coreD (newF ⟨1, 1⟩).1.cores), homeR (R entD (newF ⟨1, 1⟩).1.home), framesR (framesD (newF ⟨1, 1⟩).1.frames)⟩ ⟨1, 0, 0, 0, ⟨1, 0, 0⟩⟩ = (⟨[⟨[⟨0, 0, 1, 1, 0, 0, 0⟩], ⟨1, 0, 0⟩⟩], chip11.home, [bytesF ⟨1, 0, 1, 0, 1, 0, 0, false⟩]⟩, [], 0) := by
    rw [coresR_rows, homeR_rows, framesR_rows]
    exact do_11
  obtain ⟨V1, X1⟩ := xi_11
  obtain ⟨V2, X2⟩ := xi_12
  rw [do_11] at X2
  repeat' ((conv => whnf); first | exact trivial | (with_reducible refine ap_of ?_; kernel_rfl) | (with_reducible refine ds_of ?_; kernel_rfl) | (with_reducible refine eq_of ?_; kernel_rfl) | exact rfl | (intro h; exact absurd h (by decide)) | intro _ | apply And.intro)
  all_goals try rw [hD] at *
  all_goals first
    | exact ⟨chip11, 1, 1, V1, rfl, rfl, rfl, X1⟩
    | exact ⟨_, 1, 1, V2, rfl, rfl, rfl, X2⟩
    | decide
    | rfl
    | (rename_i a; exact absurd a (by decide))
    | trace_state
def alive6T (xs : List AV) (l0 : List (Nat × OS)) : Ans := match xs, l0 with
  | [], [] => some (True, Vb true, [])
  | _, _ => none
theorem alive6_does : Does Tryz.prog 4 alive6T := ⟨⟨_, Tryz.func4, by decide, rfl⟩, fun xs l0 p v objs h hp => by
  unfold alive6T at h
  split at h
  · cases h
    exact alive6_ok
  · cases h⟩
end Go.Proofs.YtpgeopefamomnadGreat

namespace Go.Proofs.YtpgeopefamomnadGreat
open Go.RowKit
set_option linter.unusedVariables false
set_option linter.unusedSimpArgs false
set_option maxRecDepth 100000
theorem beginF_one (k : SCore) (id home : Int) (o : SOp) : (beginF k id home o).2.2.1.length ≤ 1 := by
  unfold beginF
  (repeat' split) <;> simp
theorem hearF_one (k : SCore) (id home : Int) (m : Msg) : (hearF k id home m).2.2.length ≤ 1 := by
  unfold hearF
  split
  · simp
  · simp only []
    cases (hearL (k.line m.line.toNat) k.wait m).2.2 <;> simp
theorem doF_one (x : SChip) (s : SStep) : ((doF x s).2.2 ≠ 0 → (doF x s).1 = SChip.zero ∧ (doF x s).2.1 = []) ∧ (doF x s).2.1.length ≤ 1 := by
  have h1 := beginF_one (x.core s.node.toNat) s.node x.cores.length s.op
  have h2 := hearF_one (x.core (parseF x.cfg (x.frames.getD s.n.toNat [])).1.to.toNat) (parseF x.cfg (x.frames.getD s.n.toNat [])).1.to x.cores.length (parseF x.cfg (x.frames.getD s.n.toNat [])).1
  unfold doF
  (repeat' split) <;> first | exact ⟨fun h => absurd rfl h, h1⟩ | exact ⟨fun h => absurd rfl h, h2⟩ | exact ⟨fun _ => ⟨rfl, rfl⟩, Nat.zero_le _⟩ | exact ⟨fun h => absurd rfl h, Nat.zero_le _⟩
theorem eta_chip (x : SChip) : (⟨coresR (R coreD x.cores), homeR (R entD x.home), framesR (framesD x.frames)⟩ : SChip) = x := by rw [coresR_rows, homeR_rows, framesR_rows]
end Go.Proofs.YtpgeopefamomnadGreat

