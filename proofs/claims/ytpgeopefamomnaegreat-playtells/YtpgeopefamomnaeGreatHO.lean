/- HOwn HOwn2 HBits HSpeak. -/
import Derived.Test.YtpgeopefamomnaeGreatRE
import Derived.Test.YtpgeopefamomnaeGreatPG
set_option linter.unusedSimpArgs false
set_option linter.unusedSectionVars false
namespace Go.Proofs.YtpgeopefamomnaeGreat
open Go.RowKit
set_option linter.unusedVariables false
set_option linter.unusedSimpArgs false
set_option maxRecDepth 100000
theorem rowI_one (l : List Int) (u : List DV) (h : u ∈ rowsI l) : u.length = 1 := by
  simp [rowsI] at h
  obtain ⟨a, _, rfl⟩ := h
  rfl
theorem copyN (es : Row) (d : List DV) : List.take (List.replicate es.length d).length es ++ List.drop es.length (List.replicate es.length d) = es := by simp
def entZ : List DV := [J 0, J 0, J 0, J 0, J 0, J 0, .bool false, J 0, J 0, .row []]
def ownR (es : Row) (k : Nat) : Row := es.take k ++ List.replicate (es.length - k) entZ
theorem ownR_len (es : Row) (k : Nat) (h : k ≤ es.length) : (ownR es k).length = es.length := by
  unfold ownR
  rw [List.length_append, List.length_take, List.length_replicate]
  omega
theorem ownR_get (es : Row) (k : Nat) (h : k < es.length) : (ownR es k).getD k [] = entZ := by
  unfold ownR
  rw [List.getD_eq_getElem?_getD, List.getElem?_append_right (by rw [List.length_take]; omega), List.length_take, List.getElem?_replicate, if_pos (by omega)]
  rfl
theorem ownR_set (es : Row) (k : Nat) (h : k < es.length) : (ownR es k).set k (es.getD k []) = ownR es (k + 1) := by
  unfold ownR
  rw [take_snoc es k [] h, List.set_append_right _ _ (by rw [List.length_take]; omega), List.length_take, show k - min k es.length = 0 by omega, show es.length - k = (es.length - (k + 1)) + 1 by omega, List.replicate_succ, List.set_cons_zero, List.append_assoc]
  rfl
theorem ownR_all (es : Row) : ownR es es.length = es := by
  unfold ownR
  rw [List.take_of_length_le (Nat.le_refl _), Nat.sub_self]
  simp
set_option maxHeartbeats 4000000 in
theorem hown_ok (l : List SEntry) (hl : l.length ≤ 1000) (hla : ∀ e ∈ l, e.last.length ≤ 1000) : FunOK Tryz.prog 69 [Ro (R entD l)] (hOf []) (.c (.own 0)) (hOf [(0, .live (.row (R entD l) 10 54 false))]) := by
  refine fun_can (pins := []) (l0 := []) (objs := _) (base := 0) (xx_ok tab0_ok []) mixed Tryz.func69 rfl (Nat.le_of_ble_eq_true rfl) rfl rfl ?_
  have hlen : (R entD l).length = l.length := R_len _ _
  have hz : List.replicate (((R entD l).length : Int)).toNat entZ = ownR (R entD l) 0 := by
    unfold ownR
    rw [Int.toNat_natCast, List.take_zero]
    rfl
  repeat' ((conv => whnf); first | exact trivial | (with_reducible refine ap_of ?_; kernel_rfl) | (with_reducible refine ds_of ?_; kernel_rfl) | (with_reducible refine eq_of ?_; kernel_rfl) | exact rfl | (intro h; exact absurd h (by decide)) | intro _ | apply And.intro)
  all_goals first
    | exact Int.natCast_nonneg _
    | rfl
    | (rw [hlen]; omega)
    | skip
  (conv => whnf)
  refine loop_keep [2, 3, 9] 40 [] {k : Nat // k ≤ l.length} (fun k => [(10, V l.length), (11, V k.1)]) (fun k => [(0, .live (.row [] 10 54 false)), (1016, .live (.row (ownR (R entD l) k.1) 10 54 false))]) (fun k => l.length - k.1) ⟨0, Nat.zero_le _⟩ ?_
  (conv => whnf)
  refine ⟨?_, ?_⟩
  · repeat' ((conv => whnf); first | exact trivial | exact rfl | apply And.intro)
    all_goals first
      | exact int_eq (show ((R entD l).length : Int) = l.length by rw [hlen])
      | exact row_eq hz
      | trace_state
  · rintro ⟨k, hk⟩
    have hol := ownR_len (R entD l) k (by omega)
    repeat' ((conv => whnf); first | exact trivial | (with_reducible refine ap_of ?_; kernel_rfl) | (with_reducible refine ds_of ?_; kernel_rfl) | (with_reducible refine eq_of ?_; kernel_rfl) | exact rfl | (intro h; exact absurd h (by decide)) | intro _ | apply And.intro)
    all_goals first
      | (have hlt : k < l.length := (by have := k_lt (k := k) (n := l.length) (by assumption); omega)
         have hki : (k : Int) < l.length := by omega
         have hg : (R entD l).getD k [] = entD (l.getD k ⟨0, 0, 0, 0, 0, 0, false, 0, 0, []⟩) := R_get entD _ hlt
         have hgl : (l.getD k ⟨0, 0, 0, 0, 0, 0, false, 0, 0, []⟩).last.length ≤ 1000 := hla _ (by simp [List.getD, hlt])
         have hrl := rowsI_len (l.getD k ⟨0, 0, 0, 0, 0, 0, false, 0, 0, []⟩).last
         have hoz := ownR_get (R entD l) k (by omega)
         first
           | exact Int.natCast_nonneg _
           | (rw [hlen]; exact hki)
           | (rw [hlen, show ∀ n : Nat, ((n : Nat) : Int).toNat = n from Int.toNat_natCast]; exact hlt)
           | (rw [hol, hlen]; exact hki)
           | (rw [hol, hlen, show ∀ n : Nat, ((n : Nat) : Int).toNat = n from Int.toNat_natCast]; exact hlt)
           | rfl
           | (rw [show ∀ n : Nat, ((n : Nat) : Int).toNat = n from Int.toNat_natCast, hg]; first | rfl | exact Nat.le_refl _ | (show (((rowsI _).length : Nat) : Int) ≤ _; rw [hrl]; omega))
           | (rw [show ∀ n : Nat, ((n : Nat) : Int).toNat = n from Int.toNat_natCast, hoz]; first | rfl | exact Nat.le_refl _)
           | (have hm := (by assumption : _ ∈ (((R entD l).getD ((k : Nat) : Int).toNat []).getD (0 + 1 + 1 + 1 + 1 + 1 + 1 + 1 + 1 + 1) dz).toR)
              rw [show ∀ n : Nat, ((n : Nat) : Int).toNat = n from Int.toNat_natCast, hg] at hm
              exact rowI_one _ _ hm)
           | ((conv => whnf)
              refine ⟨⟨k + 1, hlt⟩, [], ?_, ?_⟩
              · show l.length - (k + 1) < l.length - k
                omega
              · repeat' ((conv => whnf); first | exact trivial | exact rfl | apply And.intro)
                · exact succ_eq k (by omega)
                · refine row_eq ?_
                  have key := ownR_set (R entD l) k (by omega)
                  rw [hg] at key
                  refine Eq.trans ?_ key
                  simp only [Int.toNat_natCast, hg, entD, List.getD_cons_zero, List.getD_cons_succ, DV.toI, DV.toB, DV.toR, copyN]
                  rfl)
           | trace_state)
      | (have hke : k = l.length := (by have := k_ge (k := k) (n := l.length) (by assumption); omega)
         subst hke
         first
           | rfl
           | (have hall : ownR (R entD l) l.length = R entD l := by rw [← hlen]; exact ownR_all _
              show [(0, OS.live (.row (ownR (R entD l) l.length) 10 54 false))] = _
              rw [hall])
           | trace_state)
      | trace_state
def ownHT (xs : List AV) (l0 : List (Nat × OS)) : Ans := match xs, l0 with
  | [.c (.d (.row es))], [] => some (∃ l, es = R entD l ∧ l.length ≤ 1000 ∧ ∀ e ∈ l, e.last.length ≤ 1000, .c (.own 0), [(0, .live (.row es 10 54 false))])
  | _, _ => none
theorem ownH_does : Does Tryz.prog 69 ownHT := ⟨⟨_, Tryz.func69, by decide, rfl⟩, fun xs l0 p v objs h hp => by
  unfold ownHT at h
  split at h
  · cases h
    obtain ⟨l, rfl, h1, h2⟩ := hp
    exact hown_ok l h1 h2
  · cases h⟩
end Go.Proofs.YtpgeopefamomnaeGreat

namespace Go.Proofs.YtpgeopefamomnaeGreat
open Go.RowKit
set_option linter.unusedVariables false
set_option linter.unusedSimpArgs false
set_option maxRecDepth 100000
set_option maxHeartbeats 4000000 in
theorem hown2_ok (l : List SEntry) (hl : l.length ≤ 1000) (hla : ∀ e ∈ l, e.last.length ≤ 1000) : FunOK Tryz.prog 69 [Ro (R entD l)] (hOf []) (Ro (R entD l)) (hOf []) := by
  refine fun_deep (pins := []) (l0 := []) (objs := []) (base := 0) (xx_ok tab0_ok []) mixed Tryz.func69 rfl (Nat.le_of_ble_eq_true rfl) rfl rfl ?_
  have hlen : (R entD l).length = l.length := R_len _ _
  have hz : List.replicate (((R entD l).length : Int)).toNat entZ = ownR (R entD l) 0 := by
    unfold ownR
    rw [Int.toNat_natCast, List.take_zero]
    rfl
  repeat' ((conv => whnf); first | exact trivial | (with_reducible refine ap_of ?_; kernel_rfl) | (with_reducible refine ds_of ?_; kernel_rfl) | (with_reducible refine eq_of ?_; kernel_rfl) | exact rfl | (intro h; exact absurd h (by decide)) | intro _ | apply And.intro)
  all_goals first
    | exact Int.natCast_nonneg _
    | rfl
    | (rw [hlen]; omega)
    | skip
  (conv => whnf)
  refine loop_keep [2, 3, 9] 40 [] {k : Nat // k ≤ l.length} (fun k => [(10, V l.length), (11, V k.1)]) (fun k => [(0, .live (.row [] 10 54 false)), (1016, .live (.row (ownR (R entD l) k.1) 10 54 false))]) (fun k => l.length - k.1) ⟨0, Nat.zero_le _⟩ ?_
  (conv => whnf)
  refine ⟨?_, ?_⟩
  · repeat' ((conv => whnf); first | exact trivial | exact rfl | apply And.intro)
    all_goals first
      | exact int_eq (show ((R entD l).length : Int) = l.length by rw [hlen])
      | exact row_eq hz
      | trace_state
  · rintro ⟨k, hk⟩
    have hol := ownR_len (R entD l) k (by omega)
    repeat' ((conv => whnf); first | exact trivial | (with_reducible refine ap_of ?_; kernel_rfl) | (with_reducible refine ds_of ?_; kernel_rfl) | (with_reducible refine eq_of ?_; kernel_rfl) | exact rfl | (intro h; exact absurd h (by decide)) | intro _ | apply And.intro)
    all_goals first
      | (have hlt : k < l.length := (by have := k_lt (k := k) (n := l.length) (by assumption); omega)
         have hki : (k : Int) < l.length := by omega
         have hg : (R entD l).getD k [] = entD (l.getD k ⟨0, 0, 0, 0, 0, 0, false, 0, 0, []⟩) := R_get entD _ hlt
         have hgl : (l.getD k ⟨0, 0, 0, 0, 0, 0, false, 0, 0, []⟩).last.length ≤ 1000 := hla _ (by simp [List.getD, hlt])
         have hrl := rowsI_len (l.getD k ⟨0, 0, 0, 0, 0, 0, false, 0, 0, []⟩).last
         have hoz := ownR_get (R entD l) k (by omega)
         first
           | exact Int.natCast_nonneg _
           | (rw [hlen]; exact hki)
           | (rw [hlen, show ∀ n : Nat, ((n : Nat) : Int).toNat = n from Int.toNat_natCast]; exact hlt)
           | (rw [hol, hlen]; exact hki)
           | (rw [hol, hlen, show ∀ n : Nat, ((n : Nat) : Int).toNat = n from Int.toNat_natCast]; exact hlt)
           | rfl
           | (rw [show ∀ n : Nat, ((n : Nat) : Int).toNat = n from Int.toNat_natCast, hg]; first | rfl | exact Nat.le_refl _ | (show (((rowsI _).length : Nat) : Int) ≤ _; rw [hrl]; omega))
           | (rw [show ∀ n : Nat, ((n : Nat) : Int).toNat = n from Int.toNat_natCast, hoz]; first | rfl | exact Nat.le_refl _)
           | (have hm := (by assumption : _ ∈ (((R entD l).getD ((k : Nat) : Int).toNat []).getD (0 + 1 + 1 + 1 + 1 + 1 + 1 + 1 + 1 + 1) dz).toR)
              rw [show ∀ n : Nat, ((n : Nat) : Int).toNat = n from Int.toNat_natCast, hg] at hm
              exact rowI_one _ _ hm)
           | ((conv => whnf)
              refine ⟨⟨k + 1, hlt⟩, [], ?_, ?_⟩
              · show l.length - (k + 1) < l.length - k
                omega
              · repeat' ((conv => whnf); first | exact trivial | exact rfl | apply And.intro)
                · exact succ_eq k (by omega)
                · refine row_eq ?_
                  have key := ownR_set (R entD l) k (by omega)
                  rw [hg] at key
                  refine Eq.trans ?_ key
                  simp only [Int.toNat_natCast, hg, entD, List.getD_cons_zero, List.getD_cons_succ, DV.toI, DV.toB, DV.toR, copyN]
                  rfl)
           | trace_state)
      | (have hke : k = l.length := (by have := k_ge (k := k) (n := l.length) (by assumption); omega)
         subst hke
         first
           | rfl
           | (have hall : ownR (R entD l) l.length = R entD l := by rw [← hlen]; exact ownR_all _
              show Ro (ownR (R entD l) l.length) = _
              rw [hall])
           | trace_state)
      | trace_state
def ownHT2 (xs : List AV) (l0 : List (Nat × OS)) : Ans := match xs, l0 with
  | [.c (.d (.row es))], [] => some (∃ l, es = R entD l ∧ l.length ≤ 1000 ∧ ∀ e ∈ l, e.last.length ≤ 1000, Ro es, [])
  | _, _ => none
theorem ownH2_does : Does Tryz.prog 69 ownHT2 := ⟨⟨_, Tryz.func69, by decide, rfl⟩, fun xs l0 p v objs h hp => by
  unfold ownHT2 at h
  split at h
  · cases h
    obtain ⟨l, rfl, h1, h2⟩ := hp
    exact hown2_ok l h1 h2
  · cases h⟩
end Go.Proofs.YtpgeopefamomnaeGreat

namespace Go.Proofs.YtpgeopefamomnaeGreat
set_option linter.unusedVariables false
set_option linter.unusedSimpArgs false
set_option maxRecDepth 100000
/-- A core's place in a set. -/
def shB (p : Int) : Int := IntKind.i64.wrap (1 * 2 ^ (min (IntKind.u64.wrap p).toNat IntKind.i64.bits))
def andB (s p : Int) : Int := IntKind.i64.wrap ((BitVec.ofInt IntKind.i64.bits s &&& BitVec.ofInt IntKind.i64.bits (shB p)).toNat : Int)
def orB (s p : Int) : Int := IntKind.i64.wrap ((BitVec.ofInt IntKind.i64.bits s ||| BitVec.ofInt IntKind.i64.bits (shB p)).toNat : Int)
def offB (s p : Int) : Int := IntKind.i64.wrap ((BitVec.ofInt IntKind.i64.bits s &&& ~~~BitVec.ofInt IntKind.i64.bits (shB p)).toNat : Int)
theorem has_fin : ∀ (s : Fin 16) (p : Fin 64), ((andB (s : Nat) (p : Nat)) != 0) = hasF (s : Nat) p := by decide +kernel
theorem or_fin : ∀ (s : Fin 16) (p : Fin 4), orB (s : Nat) (p : Nat) = (if hasF (s : Nat) p = false then ((s : Nat) : Int) + bitF p else (s : Nat)) := by decide +kernel
theorem off_fin : ∀ (s : Fin 16) (p : Fin 4), offB (s : Nat) (p : Nat) = (if hasF (s : Nat) p = true then ((s : Nat) : Int) - bitF p else (s : Nat)) := by decide +kernel
theorem need_fin : ∀ (s : Fin 16) (f : Fin 4), offB (s : Nat) (f : Nat) = needB true (f : Nat) (s : Nat) 0 + needB true (f : Nat) (s : Nat) 1 + needB true (f : Nat) (s : Nat) 2 + needB true (f : Nat) (s : Nat) 3 := by decide +kernel
theorem has_hi : ∀ (s : Fin 16) (p : Fin 64), 4 ≤ (p : Nat) → hasF (s : Nat) p = false := by decide +kernel
theorem has_b {s : Int} {p : Nat} (h0 : 0 ≤ s) (h1 : s < 16) (hp : p < 64) : (andB s p != 0) = hasF s p := by
  obtain ⟨a, rfl⟩ := Int.eq_ofNat_of_zero_le h0
  exact has_fin ⟨a, by omega⟩ ⟨p, hp⟩
theorem has_b_hi {s : Int} {p : Nat} (h0 : 0 ≤ s) (h1 : s < 16) (hp : p < 64) (h4 : 4 ≤ p) : hasF s p = false := by
  obtain ⟨a, rfl⟩ := Int.eq_ofNat_of_zero_le h0
  exact has_hi ⟨a, by omega⟩ ⟨p, hp⟩ h4
theorem or_b {s : Int} {p : Nat} (h0 : 0 ≤ s) (h1 : s < 16) (hp : p < 4) : orB s p = (if hasF s p = false then s + bitF p else s) := by
  obtain ⟨a, rfl⟩ := Int.eq_ofNat_of_zero_le h0
  exact or_fin ⟨a, by omega⟩ ⟨p, hp⟩
theorem off_b {s : Int} {p : Nat} (h0 : 0 ≤ s) (h1 : s < 16) (hp : p < 4) : offB s p = (if hasF s p = true then s - bitF p else s) := by
  obtain ⟨a, rfl⟩ := Int.eq_ofNat_of_zero_le h0
  exact off_fin ⟨a, by omega⟩ ⟨p, hp⟩
theorem need_b {e : SEntry} (h0 : 0 ≤ e.sharers) (h1 : e.sharers < 16) (f0 : 0 ≤ e.forr) (f1 : e.forr < 4) (ha : e.alone = true) : offB e.sharers e.forr = needF e := by
  obtain ⟨a, ea⟩ := Int.eq_ofNat_of_zero_le h0
  obtain ⟨f, ef⟩ := Int.eq_ofNat_of_zero_le f0
  have h := need_fin ⟨a, by omega⟩ ⟨f, by omega⟩
  rw [ea, ef]
  refine h.trans ?_
  unfold needF needOne needB
  rw [ea, ef, ha]
end Go.Proofs.YtpgeopefamomnaeGreat

namespace Go.Proofs.YtpgeopefamomnaeGreat
open Go.RowKit
set_option linter.unusedVariables false
set_option linter.unusedSimpArgs false
set_option maxRecDepth 100000
abbrev rcvH : AV := .c (.ptr 0 0 0 13)
def actH (id at_ : Int) (e : SEntry) (la sd : CV) : OS := .live (.box [I id, I at_, I e.value, I e.owner, I e.sharers, I e.phase, I e.forr, I e.serial, .d (.bool e.alone), I e.turn, I e.need, la, sd] 163)
def lastO (es : Row) : OS := .live (.row es 1 3 false)
def saidO (ms : List Msg) : OS := .live (.row (R msgD ms) 8 98 false)
def spk (id at_ : Int) (e : SEntry) (es : Row) : List Msg → List (Nat × OS)
  | [] => [(0, actH id at_ e (.own 1) .nils), (1, lastO es)]
  | m :: r => [(0, actH id at_ e (.own 1) (.own 2)), (1, lastO es), (2, saidO (m :: r))]
set_option maxHeartbeats 4000000 in
theorem speak_ok (id at_ : Int) (e : SEntry) (es : Row) (hn : 0 ≤ e.need ∧ e.need < 16) (m0 : Msg) (ms : List Msg) (hne : saysF e at_ id = m0 :: ms) : FunOK Tryz.prog 115 [rcvH] (hOf [(0, actH id at_ e (.own 1) .nils), (1, lastO es)]) (.tup []) (hOf [(0, actH id at_ e (.own 1) (.own 2)), (1, lastO es), (2, saidO (m0 :: ms))]) := by
  refine fun_can (pins := [0, 1]) (l0 := [(0, actH id at_ e (.own 1) .nils), (1, lastO es)]) (objs := _) (base := 2) (xx_ok tab0_ok []) mixed Tryz.func115 rfl (Nat.le_of_ble_eq_true rfl) rfl rfl ?_
  repeat' ((conv => whnf); first | exact trivial | (with_reducible refine ap_of ?_; kernel_rfl) | (with_reducible refine ds_of ?_; kernel_rfl) | (with_reducible refine eq_of ?_; kernel_rfl) | exact rfl | (intro h; exact absurd h (by decide)) | intro _ | apply And.intro)
  all_goals first
    | rfl
    | (simp; done)
    | (refine len_set1 (by assumption) ?_; rfl)
    | (have hp : e.phase = 1 := by simpa using ‹(e.phase == 1) = true›
       have ha : e.alone = true := by assumption
       unfold saysF at hne
       rw [if_pos hp, if_pos ha] at hne
       cases hne
       rfl)
    | (have hp : e.phase = 1 := by simpa using ‹(e.phase == 1) = true›
       have ha : e.alone = false := by assumption
       unfold saysF at hne
       rw [if_pos hp, if_neg (by rw [ha]; decide)] at hne
       cases hne
       rfl)
    | (have h1 : ¬ e.phase = 1 := by simpa using ‹(e.phase == 1) = false›
       have h2 : ¬ e.phase = 2 := by simpa using ‹(e.phase == 2) = false›
       have hp : e.phase = 3 := by simpa using ‹(e.phase == 3) = true›
       unfold saysF at hne
       rw [if_neg h1, if_neg h2, if_pos hp] at hne
       cases hne
       rfl)
    | (exfalso
       have h1 : ¬ e.phase = 1 := by simpa using ‹(e.phase == 1) = false›
       have h2 : ¬ e.phase = 2 := by simpa using ‹(e.phase == 2) = false›
       have h3 : ¬ e.phase = 3 := by simpa using ‹(e.phase == 3) = false›
       unfold saysF at hne
       rw [if_neg h1, if_neg h2, if_neg h3] at hne
       cases hne)
    | skip
  have h1 : ¬ e.phase = 1 := by simpa using ‹(e.phase == 1) = false›
  have hp : e.phase = 2 := by simpa using ‹(e.phase == 2) = true›
  have hs : saysF e at_ id = clr e at_ id 4 := by
    unfold saysF
    rw [if_neg h1, if_pos hp]
    rfl
  rw [hs] at hne
  (conv => whnf)
  refine loop_keep [0] 40 [] {k : Nat // k ≤ 64} (fun k => [(26, V k.1)]) (fun k => spk id at_ e es (clr e at_ id (min k.1 4))) (fun k => 64 - k.1) ⟨0, Nat.zero_le _⟩ ?_
  (conv => whnf)
  refine ⟨?_, ?_⟩
  · repeat' ((conv => whnf); first | exact trivial | exact rfl | apply And.intro)
    all_goals trace_state
  · rintro ⟨k, hk⟩
    have hcs : ∀ (h : k < 4), clr e at_ id (min (k + 1) 4) = clr e at_ id (min k 4) ++ (if hasF e.need k = true then [saysTo e at_ id 4 (k : Nat)] else []) := fun h => by
      rw [show min (k + 1) 4 = k + 1 by omega, show min k 4 = k by omega]
      exact clr_step e at_ id k
    have hcn : hasF e.need k = false → k < 64 → clr e at_ id (min (k + 1) 4) = clr e at_ id (min k 4) := fun h h64 => by
      by_cases h4 : k < 4
      · rw [hcs h4, h, if_neg (by decide), List.append_nil]
      · rw [show min (k + 1) 4 = 4 by omega, show min k 4 = 4 by omega]
    have hcy : hasF e.need k = true → k < 64 → clr e at_ id (min (k + 1) 4) = clr e at_ id (min k 4) ++ [saysTo e at_ id 4 (k : Nat)] := fun h h64 => by
      by_cases h4 : k < 4
      · rw [hcs h4, if_pos h]
      · rw [has_b_hi hn.1 hn.2 h64 (by omega)] at h
        cases h
    rcases hM : clr e at_ id (min k 4) with _ | ⟨m, r⟩
    · simp only [hM, spk]
      rw [hM] at hcn hcy
      repeat' ((conv => whnf); first | exact trivial | (with_reducible refine ap_of ?_; kernel_rfl) | (with_reducible refine ds_of ?_; kernel_rfl) | (with_reducible refine eq_of ?_; kernel_rfl) | exact rfl | (intro h; exact absurd h (by decide)) | intro _ | apply And.intro)
      all_goals first
        | (have hlt : k < 64 := (by have := k_lt (k := k) (n := 64) (by assumption); omega)
           have hb := has_b hn.1 hn.2 hlt
           first
             | rfl
             | exact Int.natCast_nonneg _
             | (simp; done)
             | (refine len_set1 (by assumption) ?_; rfl)
             | (have hc : hasF e.need k = false := by rw [← hb]; assumption
                (conv => whnf)
                refine ⟨⟨k + 1, hlt⟩, [], ?_, ?_⟩
                · show 64 - (k + 1) < 64 - k
                  omega
                · simp only [hcn hc hlt, spk]
                  repeat' ((conv => whnf); first | exact trivial | exact rfl | apply And.intro)
                  exact succ_eq k (by omega))
             | (have hc : hasF e.need k = true := by rw [← hb]; assumption
                (conv => whnf)
                refine ⟨⟨k + 1, hlt⟩, [(2, ?_)], ?_, ?_⟩
                rotate_left
                · show 64 - (k + 1) < 64 - k
                  omega
                · simp only [hcy hc hlt, List.nil_append, spk]
                  repeat' ((conv => whnf); first | exact trivial | exact rfl | apply And.intro)
                  all_goals first | exact succ_eq k (by omega) | trace_state)
             | trace_state)
        | (have hke : k = 64 := (by have := k_ge (k := k) (n := 64) (by assumption); omega)
           subst hke
           exfalso
           rw [show min 64 4 = 4 from rfl, hne] at hM
           cases hM)
        | trace_state
    · simp only [hM, spk]
      rw [hM] at hcn hcy
      repeat' ((conv => whnf); first | exact trivial | (with_reducible refine ap_of ?_; kernel_rfl) | (with_reducible refine ds_of ?_; kernel_rfl) | (with_reducible refine eq_of ?_; kernel_rfl) | exact rfl | (intro h; exact absurd h (by decide)) | intro _ | apply And.intro)
      all_goals first
        | (have hlt : k < 64 := (by have := k_lt (k := k) (n := 64) (by assumption); omega)
           have hb := has_b hn.1 hn.2 hlt
           have hML : (R msgD (m :: r)).length ≤ 4 := by
             rw [R_len, ← hM]
             exact Nat.le_trans (clr_len e at_ id (min k 4)) (by omega)
           first
             | rfl
             | exact Int.natCast_nonneg _
             | (simp; done)
             | (refine Nat.le_trans (Nat.add_le_add hML (Nat.le_refl _)) ?_; simp; done)
             | (refine len_set1 (by assumption) ?_; rfl)
             | (have hc : hasF e.need k = false := by rw [← hb]; assumption
                (conv => whnf)
                refine ⟨⟨k + 1, hlt⟩, [], ?_, ?_⟩
                · show 64 - (k + 1) < 64 - k
                  omega
                · simp only [hcn hc hlt, spk]
                  repeat' ((conv => whnf); first | exact trivial | exact rfl | apply And.intro)
                  all_goals first | exact succ_eq k (by omega) | trace_state)
             | (have hc : hasF e.need k = true := by rw [← hb]; assumption
                (conv => whnf)
                refine ⟨⟨k + 1, hlt⟩, [(2, ?_)], ?_, ?_⟩
                rotate_left
                · show 64 - (k + 1) < 64 - k
                  omega
                · simp only [hcy hc hlt, List.cons_append, spk]
                  repeat' ((conv => whnf); first | exact trivial | exact rfl | apply And.intro)
                  all_goals first
                    | exact succ_eq k (by omega)
                    | (show OS.live (.row (R msgD (m :: r) ++ [msgD (saysTo e at_ id 4 (k : Nat))]) 8 98 false) = OS.live (.row (R msgD ((m :: r) ++ [saysTo e at_ id 4 (k : Nat)])) 8 98 false)
                       rw [R_snoc])
                    | trace_state)
             | trace_state)
        | (have hke : k = 64 := (by have := k_ge (k := k) (n := 64) (by assumption); omega)
           subst hke
           have h5 : m :: r = m0 :: ms := by
             rw [← hM]
             exact hne
           injection h5 with h6 h7
           subst h6 h7
           rfl)
        | trace_state
end Go.Proofs.YtpgeopefamomnaeGreat

