/- GSame. -/
import Derived.Test.YtpgeopefamomnaeGreatGB
import Derived.Test.YtpgeopefamomnaeGreatBB
set_option linter.unusedSimpArgs false
set_option linter.unusedSectionVars false
namespace Go.Proofs.YtpgeopefamomnaeGreat
open Go.RowKit
set_option linter.unusedVariables false
set_option linter.unusedSimpArgs false
set_option maxRecDepth 100000
theorem rowB_byte {b : List Nat} (hb : isBytes b) {e : List DV} (h : e ∈ rowB b) : isByte e := by
  unfold rowB R at h
  obtain ⟨x, hx, rfl⟩ := List.mem_map.1 h
  obtain ⟨i, hi, rfl⟩ := List.getElem_of_mem hx
  have := hb i hi
  have e1 : b.getD i 0 = b[i] := by simp [List.getD, hi]
  rw [e1] at this
  unfold isByte
  simp [byteD, byteOf, DV.toI]
  omega
set_option maxHeartbeats 4000000 in
theorem sameFr_ok (fs : List (List Nat)) (hs : Short fs) (hb : ∀ f ∈ fs, isBytes f) : FunOK Tryz.prog 26 [Ro (framesD fs), Ro (framesD fs)] (hOf []) (Vb true) (hOf []) := by
  refine fun_deep (pins := []) (l0 := []) (objs := []) (base := 0) (xx_ok tab0_ok []) mixed Tryz.func26 rfl (Nat.le_of_ble_eq_true rfl) rfl rfl ?_
  have hlen := framesD_len fs
  have h1 := hs.1
  repeat' ((conv => whnf); first | exact trivial | (with_reducible refine ap_of ?_; kernel_rfl) | (with_reducible refine ds_of ?_; kernel_rfl) | (with_reducible refine eq_of ?_; kernel_rfl) | exact rfl | (intro h; exact absurd h (by decide)) | intro _ | apply And.intro)
  all_goals first
    | rfl
    | (exfalso; simp_all; done)
    | skip
  (conv => whnf)
  refine loop_keep [0, 1] 40 [] {k : Nat // k ≤ fs.length} (fun k => [(4, Vb false), (12, V fs.length), (13, V k.1)]) (fun k => []) (fun k => fs.length - k.1) ⟨0, Nat.zero_le _⟩ ?_
  (conv => whnf)
  refine ⟨?_, ?_⟩
  · repeat' ((conv => whnf); first | exact trivial | exact rfl | apply And.intro)
    all_goals first | exact int_eq (show ((framesD fs).length : Int) = fs.length by rw [hlen]) | trace_state
  · rintro ⟨k, hk⟩
    repeat' ((conv => whnf); first | exact trivial | (with_reducible refine ap_of ?_; kernel_rfl) | (with_reducible refine ds_of ?_; kernel_rfl) | (with_reducible refine eq_of ?_; kernel_rfl) | exact rfl | (intro h; exact absurd h (by decide)) | intro _ | apply And.intro)
    all_goals first
      | (have hlt : k < fs.length := (by have := k_lt (k := k) (n := fs.length) (by assumption); omega)
         have hki : (k : Int) < fs.length := by omega
         have hg : (framesD fs).getD k [] = [.row (rowB (fs.getD k []))] := framesD_get hlt
         have hbk : isBytes (fs.getD k []) := hb _ (by simp [List.getD, hlt])
         first
           | exact Int.natCast_nonneg _
           | (rw [hlen]; exact hki)
           | (rw [hlen, show ∀ n : Nat, ((n : Nat) : Int).toNat = n from Int.toNat_natCast]; exact hlt)
           | rfl
           | (rw [show ∀ n : Nat, ((n : Nat) : Int).toNat = n from Int.toNat_natCast, hg]; first | rfl | exact Nat.le_refl _)
           | (have hm := (by assumption : _ ∈ (((framesD fs).getD ((k : Nat) : Int).toNat []).getD 0 dz).toR)
              rw [show ∀ n : Nat, ((n : Nat) : Int).toNat = n from Int.toNat_natCast, hg] at hm
              exact rowB_byte hbk hm)
           | (exfalso; clear hs hb hbk; simp_all; done)
           | ((conv => whnf)
              refine ⟨⟨k + 1, hlt⟩, [], ?_, ?_⟩
              · show fs.length - (k + 1) < fs.length - k
                omega
              · repeat' ((conv => whnf); first | exact trivial | exact rfl | apply And.intro)
                exact succ_eq k (by omega))
           | trace_state)
      | (have hke : k = fs.length := (by have := k_ge (k := k) (n := fs.length) (by assumption); omega)
         first | rfl | trace_state)
      | trace_state
/-- What comparing asks of a chip. -/
structure Mild (x : SChip) : Prop where
  nc : x.cores.length ≤ 1000
  cl : ∀ c ∈ x.cores, c.lines.length < 1000
  nh : x.home.length ≤ 1000
  hl : ∀ e ∈ x.home, e.last.length ≤ 1000
  fs : Short x.frames
  fb : ∀ f ∈ x.frames, isBytes f
theorem mild_xi {n L : Nat} {x : SChip} {V : Nat → Int} (X : XI n L x V) : Mild x := ⟨by have := X.nc; have := X.n4; omega, cores_xi X, (homes_xi X).1, (homes_xi X).la, short_xi X, fun f hf => (frame_bytes X hf).1⟩
def sameFrT (xs : List AV) (l0 : List (Nat × OS)) : Ans := match xs, l0 with
  | [.c (.d (.row a)), .c (.d (.row b))], [] => some (∃ fs, a = framesD fs ∧ b = framesD fs ∧ Short fs ∧ ∀ f ∈ fs, isBytes f, Vb true, [])
  | _, _ => none
theorem sameFr_does : Does Tryz.prog 26 sameFrT := ⟨⟨_, Tryz.func26, by decide, rfl⟩, fun xs l0 p v objs h hp => by
  unfold sameFrT at h
  split at h
  · cases h
    obtain ⟨fs, rfl, rfl, h1, h2⟩ := hp
    exact sameFr_ok fs h1 h2
  · cases h⟩
def tabSa : Canon := orT 26 sameFrT (orT 25 sameHT (orT 27 sameCoreT tab0))
theorem tabSa_ok : Sound Tryz.prog tabSa := ((tab0_ok.or sameCore_does).or sameH_does).or sameFr_does
def ksSa : List FuncId := [26, 25, 27]
set_option maxHeartbeats 4000000 in
theorem same_ok (x : SChip) (M : Mild x) : FunOK Tryz.prog 10 [.agg [.d (.row (R coreD x.cores)), .d (.row (R entD x.home)), .d (.row (framesD x.frames))], .agg [.d (.row (R coreD x.cores)), .d (.row (R entD x.home)), .d (.row (framesD x.frames))]] (hOf []) (Vb true) (hOf []) := by
  refine fun_deep (pins := []) (l0 := []) (objs := []) (base := 0) (xx_ok tabSa_ok ksSa) mixed Tryz.func10 rfl (Nat.le_of_ble_eq_true rfl) rfl rfl ?_
  have hlen : (R coreD x.cores).length = x.cores.length := R_len _ _
  have h1 := M.nc
  repeat' ((conv => whnf); first | exact trivial | (with_reducible refine ap_of ?_; kernel_rfl) | (with_reducible refine ds_of ?_; kernel_rfl) | (with_reducible refine eq_of ?_; kernel_rfl) | exact rfl | (intro h; exact absurd h (by decide)) | intro _ | apply And.intro)
  all_goals first
    | exact ⟨_, rfl, rfl, M.nh, M.hl⟩
    | exact ⟨_, rfl, rfl, M.fs, M.fb⟩
    | rfl
    | (exfalso; simp_all; done)
    | skip
  (conv => whnf)
  refine loop_keep [2, 3] 40 [] {k : Nat // k ≤ x.cores.length} (fun k => [(4, Vb false), (31, V x.cores.length), (32, V k.1)]) (fun k => [(0, .live (.box [.d (.row (R coreD x.cores)), .d (.row (R entD x.home)), .d (.row (framesD x.frames))] 29)), (8, .live (.box [.d (.row (R coreD x.cores)), .d (.row (R entD x.home)), .d (.row (framesD x.frames))] 29))]) (fun k => x.cores.length - k.1) ⟨0, Nat.zero_le _⟩ ?_
  (conv => whnf)
  refine ⟨?_, ?_⟩
  · repeat' ((conv => whnf); first | exact trivial | exact rfl | apply And.intro)
    all_goals first | exact int_eq (show ((R coreD x.cores).length : Int) = x.cores.length by rw [hlen]) | trace_state
  · rintro ⟨k, hk⟩
    repeat' ((conv => whnf); first | exact trivial | (with_reducible refine ap_of ?_; kernel_rfl) | (with_reducible refine ds_of ?_; kernel_rfl) | (with_reducible refine eq_of ?_; kernel_rfl) | exact rfl | (intro h; exact absurd h (by decide)) | intro _ | apply And.intro)
    all_goals first
      | (have hlt : k < x.cores.length := (by have := k_lt (k := k) (n := x.cores.length) (by assumption); omega)
         have hki : (k : Int) < x.cores.length := by omega
         have hg0 : (R coreD x.cores).getD k [] = coreD (x.cores.getD k SCore.zero) := R_get coreD _ hlt
         have hgl : (x.cores.getD k SCore.zero).lines.length < 1000 := M.cl _ (by simp [List.getD, hlt])
         generalize x.cores.getD k SCore.zero = c at *
         have hg : (R coreD x.cores).getD k [] = [.row (rowsL c.lines), J c.wait.kind, J c.wait.line, J c.wait.value] := hg0
         first
           | exact Int.natCast_nonneg _
           | (rw [hlen]; exact hki)
           | (rw [hlen, show ∀ n : Nat, ((n : Nat) : Int).toNat = n from Int.toNat_natCast]; exact hlt)
           | rfl
           | (rw [show ∀ n : Nat, ((n : Nat) : Int).toNat = n from Int.toNat_natCast, hg]; first | rfl | exact Nat.le_refl _ | exact ⟨c.lines, rfl, rfl, hgl, rfl, rfl, rfl⟩)
           | (exfalso; clear hg hg0 hgl; simp_all; done)
           | ((conv => whnf)
              refine ⟨⟨k + 1, hlt⟩, [], ?_, ?_⟩
              · show x.cores.length - (k + 1) < x.cores.length - k
                omega
              · repeat' ((conv => whnf); first | exact trivial | exact rfl | apply And.intro)
                exact succ_eq k (by omega))
           | trace_state)
      | (have hke : k = x.cores.length := (by have := k_ge (k := k) (n := x.cores.length) (by assumption); omega)
         first | rfl | trace_state)
      | trace_state
def sameT (xs : List AV) (l0 : List (Nat × OS)) : Ans := match xs, l0 with
  | [.agg [.d (.row a), .d (.row b), .d (.row c)], .agg [.d (.row a'), .d (.row b'), .d (.row c')]], [] => some (∃ x, Mild x ∧ a = R coreD x.cores ∧ a' = R coreD x.cores ∧ b = R entD x.home ∧ b' = R entD x.home ∧ c = framesD x.frames ∧ c' = framesD x.frames, Vb true, [])
  | _, _ => none
theorem same_does : Does Tryz.prog 10 sameT := ⟨⟨_, Tryz.func10, by decide, rfl⟩, fun xs l0 p v objs h hp => by
  unfold sameT at h
  split at h
  · cases h
    obtain ⟨x, M, rfl, rfl, rfl, rfl, rfl, rfl⟩ := hp
    exact same_ok x M
  · cases h⟩
end Go.Proofs.YtpgeopefamomnaeGreat

