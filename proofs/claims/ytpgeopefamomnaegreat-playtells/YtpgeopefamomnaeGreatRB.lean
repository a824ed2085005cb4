/- DRef2 DRef3 DRef4 DRef5. -/
import Derived.Test.YtpgeopefamomnaeGreatRA
import Derived.Test.YtpgeopefamomnaeGreatPB
set_option linter.unusedSimpArgs false
set_option linter.unusedSectionVars false
namespace Go.Proofs.YtpgeopefamomnaeGreat
open Go.RowKit
set_option linter.unusedVariables false
set_option maxRecDepth 100000
def byteD (n : Nat) : List DV := [.int .u8 n]
def rowB (b : List Nat) : Row := R byteD b
theorem rowB_len (b : List Nat) : (rowB b).length = b.length := R_len _ _
theorem rowB_get {b : List Nat} {k : Nat} (h : k < b.length) : (rowB b).getD k [] = [.int .u8 (b.getD k 0 : Nat)] := R_get byteD 0 h
/-- The first bits of a byte, added to the sum. -/
def cpre (s x : Nat) : Nat → Nat
  | 0 => s
  | t + 1 => cstep (cpre s x t) (x / 2 ^ (7 - t) % 2)
theorem cpre_all (s x : Nat) : cpre s x 8 = cbyte s x := rfl
theorem cpre_bd (s x : Nat) (hs : s < 65536) : ∀ t, cpre s x t < 65536
  | 0 => hs
  | t + 1 => cstep_bd _ _
theorem shr_one (x n : Nat) (hn : n ≤ 7) (hx : x < 256) : IntKind.i64.wrap ((BitVec.ofInt IntKind.i64.bits ((x : Int).fdiv (2 ^ (min n IntKind.i64.bits))) &&& BitVec.ofInt IntKind.i64.bits 1).toNat : Int) = ((x / 2 ^ n % 2 : Nat) : Int) := by
  have e : (x : Int).fdiv (2 ^ (min n IntKind.i64.bits)) = ((x / 2 ^ n : Nat) : Int) := by
    rw [show min n IntKind.i64.bits = n from by show min n 64 = n; omega, Int.fdiv_eq_ediv_of_nonneg _ (Int.le_of_lt (Int.pow_pos (by decide)))]
    simp
  rw [e]
  have := and_one (x / 2 ^ n) (by have := Nat.div_le_self x (2 ^ n); omega)
  exact this
theorem xor_w (a : Nat) (ha : a < 65536) : IntKind.i64.wrap ((BitVec.ofInt IntKind.i64.bits (a : Int) ^^^ BitVec.ofInt IntKind.i64.bits 4129).toNat : Int) = ((a ^^^ 4129 : Nat) : Int) := xor_i64 a 4129 (by omega) (by omega)
theorem u8_i64 (x : Nat) (hx : x < 256) : IntKind.i64.wrap (x : Int) = x := wrap_in (by omega) (by omega)
def bitE (y : Int) (n : Int) : Int := IntKind.i64.wrap ((BitVec.ofInt IntKind.i64.bits ((IntKind.i64.wrap y).fdiv (2 ^ (min n.toNat IntKind.i64.bits))) &&& BitVec.ofInt IntKind.i64.bits 1).toNat : Int)
theorem bitE_eq {x t : Nat} {y : Int} (hx : x < 256) (ht : t < 8) (hy : y = x) : bitE y (7 - (t : Int)) = ((x / 2 ^ (7 - t) % 2 : Nat) : Int) := by
  subst hy
  unfold bitE
  rw [u8_i64 x hx, show (7 - (t : Int)).toNat = 7 - t by omega]
  exact shr_one x (7 - t) (by omega) hx
theorem top_eq {A : Nat} (hA : A < 65536) : IntKind.i64.wrap ((A : Int).tdiv 32768) = ((A / 32768 : Nat) : Int) := by
  rw [Int.tdiv_eq_ediv_of_nonneg (by omega), wrap_in (by omega) (by omega)]
  rfl
theorem dbl_eq {A : Nat} (hA : A < 65536) : (IntKind.i64.wrap ((A : Int) * 2)).tmod 65536 = ((A * 2 % 65536 : Nat) : Int) := by
  rw [wrap_in (by omega) (by omega), Int.tmod_eq_emod_of_nonneg (by omega)]
  omega
theorem sum_yes {A x t : Nat} {y : Int} (hA : A < 65536) (hx : x < 256) (ht : t < 8) (hy : y = x) (h : (IntKind.i64.wrap ((A : Int).tdiv 32768) != bitE y (7 - (t : Int))) = true) :
    IntKind.i64.wrap ((BitVec.ofInt IntKind.i64.bits ((IntKind.i64.wrap ((A : Int) * 2)).tmod 65536) ^^^ BitVec.ofInt IntKind.i64.bits 4129).toNat : Int) = ((cstep A (x / 2 ^ (7 - t) % 2) : Nat) : Int) := by
  rw [bitE_eq hx ht hy, top_eq hA] at h
  have h : A / 32768 ≠ x / 2 ^ (7 - t) % 2 := fun e => by rw [e] at h; simp at h
  rw [dbl_eq hA, xor_w _ (by omega)]
  unfold cstep
  rw [if_neg h]
theorem sum_no {A x t : Nat} {y : Int} (hA : A < 65536) (hx : x < 256) (ht : t < 8) (hy : y = x) (h : (IntKind.i64.wrap ((A : Int).tdiv 32768) != bitE y (7 - (t : Int))) = false) :
    (IntKind.i64.wrap ((A : Int) * 2)).tmod 65536 = ((cstep A (x / 2 ^ (7 - t) % 2) : Nat) : Int) := by
  rw [bitE_eq hx ht hy, top_eq hA] at h
  have h : A / 32768 = x / 2 ^ (7 - t) % 2 := by
    have := h
    simp at this
    exact_mod_cast this
  rw [dbl_eq hA]
  unfold cstep
  rw [if_pos h]
set_option maxHeartbeats 4000000 in
theorem rsum_ok (b : List Nat) (hb : isBytes b) : FunOK Tryz.prog 61 [Ro (rowB b)] (hOf []) (V (csum 65535 b : Nat)) (hOf []) := by
  refine fun_bnd fun hbnd => ?_
  have hbnd : (rowB b).length ≤ maxLen := hbnd.1
  rw [rowB_len] at hbnd
  unfold maxLen at hbnd
  refine fun_deep (pins := []) (l0 := []) (objs := []) (base := 0) (xx_ok tab0_ok []) mixed Tryz.func61 rfl (Nat.le_of_ble_eq_true rfl) rfl rfl ?_
  repeat' ((conv => whnf); first | exact trivial | (with_reducible refine ap_of ?_; kernel_rfl) | (with_reducible refine ds_of ?_; kernel_rfl) | (with_reducible refine eq_of ?_; kernel_rfl) | exact rfl | (intro h; exact absurd h (by decide)) | intro _ | apply And.intro)
  refine loop_keep [2, 9, 10] 10 [] {k : Nat // k ≤ b.length} (fun k => [(3, V (csum 65535 (b.take k.1) : Nat)), (11, V k.1)]) (fun k => []) (fun k => b.length - k.1) ⟨0, Nat.zero_le _⟩ ?_
  (conv => whnf)
  refine ⟨?_, ?_⟩
  · repeat' ((conv => whnf); first | exact trivial | exact rfl | apply And.intro)
  · rintro ⟨k, hk⟩
    repeat' ((conv => whnf); first | exact trivial | (with_reducible refine ap_of ?_; kernel_rfl) | (with_reducible refine ds_of ?_; kernel_rfl) | (with_reducible refine eq_of ?_; kernel_rfl) | exact rfl | (intro h; exact absurd h (by decide)) | intro _ | apply And.intro)
    all_goals try (have hlt : k < b.length := by simp_all [rowB_len])
    all_goals first | first | exact Int.natCast_nonneg _ | (rw [rowB_len]; exact Int.ofNat_lt.2 (show (k : Nat) < _ from hlt)) | (rw [show ∀ n : Nat, ((n : Nat) : Int).toNat = n from Int.toNat_natCast, rowB_get hlt]; first | rfl | exact Nat.le_refl _) | (rw [show ∀ n : Nat, ((n : Nat) : Int).toNat = n from Int.toNat_natCast, rowB_len]; exact hlt) | rfl | skip
    rotate_right
    · have he : b.length ≤ k := by simp_all [rowB_len]
      have hke : k = b.length := Nat.le_antisymm hk he
      subst hke
      exact int_eq (by rw [List.take_of_length_le (Nat.le_refl _)])
    have hs := csum_bd (b.take k) 65535 (by omega)
    have hx := hb k hlt
    have hsn := csum_snoc 65535 b k hlt
    have hx2 : (((rowB b).getD ((k : Int)).toNat []).getD 0 dz).toI = ((b.getD k 0 : Nat) : Int) := by
      rw [Int.toNat_natCast, rowB_get hlt]; rfl
    (conv => whnf)
    refine loop_keep [2, 5, 9, 10, 11] 20 [] {t : Nat // t ≤ 8} (fun t => [(3, V (cpre (csum 65535 (b.take k)) (b.getD k 0) t.1 : Nat)), (6, V (7 - (t.1 : Int)))]) (fun t => []) (fun t => 8 - t.1) ⟨0, Nat.zero_le _⟩ ?_
    (conv => whnf)
    refine ⟨?_, ?_⟩
    · repeat' ((conv => whnf); first | exact trivial | exact rfl | apply And.intro)
    · rintro ⟨t, ht⟩
      have hc := cpre_bd (csum 65535 (b.take k)) (b.getD k 0) hs t
      repeat' ((conv => whnf); first | exact trivial | (with_reducible refine ap_of ?_; kernel_rfl) | (with_reducible refine ds_of ?_; kernel_rfl) | (with_reducible refine eq_of ?_; kernel_rfl) | exact rfl | (intro h; exact absurd h (by decide)) | intro _ | apply And.intro)
      · show (0 : Int) ≤ 7 - (t : Int)
        simp_all
      rotate_right
      · have ht8 : t = 8 := by simp_all <;> omega
        subst ht8
        (conv => whnf)
        refine ⟨⟨k + 1, hlt⟩, [], ?_, ?_⟩
        · show b.length - (k + 1) < b.length - k
          omega
        · repeat' ((conv => whnf); first | exact trivial | exact rfl | apply And.intro)
          · exact int_eq (by rw [hsn]; rfl)
          · exact succ_eq k (by omega)
      all_goals
        have ht8 : t < 8 := by simp_all <;> omega
        (conv => whnf)
        refine ⟨⟨t + 1, ht8⟩, [], ?_, ?_⟩
        · show 8 - (t + 1) < 8 - t
          omega
        · repeat' ((conv => whnf); first | exact trivial | exact rfl | apply And.intro)
          · exact int_eq (by first | exact sum_yes hc hx ht8 hx2 ‹_› | exact sum_no hc hx ht8 hx2 ‹_›)
          · exact int_eq ((wrap_in (x := 7 - (t : Int) - 1) (by omega) (by omega)).trans (by show 7 - (t : Int) - 1 = 7 - ((t + 1 : Nat) : Int); omega))
end Go.Proofs.YtpgeopefamomnaeGreat

namespace Go.Proofs.YtpgeopefamomnaeGreat
open Go.RowKit
set_option linter.unusedVariables false
set_option maxRecDepth 100000
def sumT (xs : List AV) (l0 : List (Nat × OS)) : Ans := match xs, l0 with
  | [.c (.d (.row es))], [] => some ((∃ b, es = rowB b ∧ isBytes b), V (csum 65535 (es.map fun e => (byteOf e).toNat) : Nat), [])
  | _, _ => none
theorem rowB_back {b : List Nat} (hb : isBytes b) : (rowB b).map (fun e => (byteOf e).toNat) = b := by
  refine List.ext_getElem (by simp [rowB, R]) fun i h1 h2 => ?_
  have h3 : i < b.length := h2
  have := hb i h3
  simp [List.getD, h3] at this
  simp [rowB, R, byteD, byteOf, DV.toI]
  omega
theorem sum_does : Does Tryz.prog 61 sumT := ⟨⟨_, Tryz.func61, by decide, rfl⟩, fun xs l0 p v objs h hp => by
  unfold sumT at h
  split at h
  · cases h
    obtain ⟨b, rfl, hb⟩ := hp
    rw [rowB_back hb]
    exact rsum_ok b hb
  · cases h⟩
def tabS : Canon := orT 61 sumT tab0
theorem tabS_ok : Sound Tryz.prog tabS := tab0_ok.or sum_does
def headL (m : Msg) (a : Int) : List Int := [m.kind, IntKind.i64.wrap (IntKind.i64.wrap (16 * m.frm) + m.to), m.line, IntKind.i64.wrap (m.serial.tdiv 256), m.serial.tmod 256, IntKind.i64.wrap (m.turn.tdiv 256), m.turn.tmod 256, m.value, a, 0]
theorem u8_in {x : Int} (h0 : 0 ≤ x) (h1 : x < 256) : IntKind.u8.wrap x = x := by
  simp only [IntKind.wrap, IntKind.bits, IntKind.signed]
  simp
  omega
theorem head_byte (m : Msg) (hm : Fit m) (a : Int) (ha : a = (flagN m.alone : Nat)) : ∀ k, k < 10 → IntKind.u8.wrap ((headL m a).getD k 0) = (((headF m).getD k 0 : Nat) : Int) := by
  have hf := flagN_lt m.alone
  obtain ⟨h1, h2, h3, h4, h5, h6, h7, h8, h9, h10, h11, h12, h13, h14⟩ := hm
  intro k hk
  match k, hk with
  | 0, _ => show IntKind.u8.wrap m.kind = ((m.kind.toNat : Nat) : Int); rw [u8_in (by omega) (by omega)]; omega
  | 1, _ =>
    show IntKind.u8.wrap (IntKind.i64.wrap (IntKind.i64.wrap (16 * m.frm) + m.to)) = ((m.frm.toNat * 16 + m.to.toNat : Nat) : Int)
    rw [wrap_in (x := 16 * m.frm) (by omega) (by omega), wrap_in (by omega) (by omega), u8_in (by omega) (by omega)]; omega
  | 2, _ => show IntKind.u8.wrap m.line = ((m.line.toNat : Nat) : Int); rw [u8_in (by omega) (by omega)]; omega
  | 3, _ => show IntKind.u8.wrap (IntKind.i64.wrap (m.serial.tdiv 256)) = ((m.serial.toNat / 256 : Nat) : Int); rw [Int.tdiv_eq_ediv_of_nonneg h9, wrap_in (by omega) (by omega), u8_in (by omega) (by omega)]; omega
  | 4, _ => show IntKind.u8.wrap (m.serial.tmod 256) = ((m.serial.toNat % 256 : Nat) : Int); rw [Int.tmod_eq_emod_of_nonneg h9, u8_in (by omega) (by omega)]; omega
  | 5, _ => show IntKind.u8.wrap (IntKind.i64.wrap (m.turn.tdiv 256)) = ((m.turn.toNat / 256 : Nat) : Int); rw [Int.tdiv_eq_ediv_of_nonneg h11, wrap_in (by omega) (by omega), u8_in (by omega) (by omega)]; omega
  | 6, _ => show IntKind.u8.wrap (m.turn.tmod 256) = ((m.turn.toNat % 256 : Nat) : Int); rw [Int.tmod_eq_emod_of_nonneg h11, u8_in (by omega) (by omega)]; omega
  | 7, _ => show IntKind.u8.wrap m.value = ((m.value.toNat : Nat) : Int); rw [u8_in (by omega) (by omega)]; omega
  | 8, _ => show IntKind.u8.wrap a = ((flagN m.alone : Nat) : Int); rw [ha, u8_in (by omega) (by omega)]
  | 9, _ => rfl
theorem head_bytes (m : Msg) (hm : Fit m) : isBytes (headF m) := fun i hi => by
  have h := bytesF_isBytes m hm i (by have : (headF m).length = 10 := rfl; have := bytesF_length m; omega)
  have e : (bytesF m).getD i 0 = (headF m).getD i 0 := by
    unfold bytesF
    simp [List.getD, List.getElem?_append_left hi]
  rwa [e] at h
theorem csum_two {s : Nat} (hs : s < 65536) : IntKind.u8.wrap (IntKind.i64.wrap ((s : Int).tdiv 256)) = ((s / 256 : Nat) : Int) ∧ IntKind.u8.wrap ((s : Int).tmod 256) = ((s % 256 : Nat) : Int) := by
  refine ⟨?_, ?_⟩
  · rw [Int.tdiv_eq_ediv_of_nonneg (by omega), wrap_in (by omega) (by omega), u8_in (by omega) (by omega)]; rfl
  · rw [Int.tmod_eq_emod_of_nonneg (by omega), u8_in (by omega) (by omega)]; rfl
set_option maxHeartbeats 4000000 in
theorem rbytes_ok (m : Msg) (hm : Fit m) (r : List Nat) (hr : bytesF m = r) : FunOK Tryz.prog 59 [.agg (msgC m)] (hOf []) (Ro (rowB r)) (hOf []) := by
  refine fun_deep (pins := []) (l0 := []) (objs := []) (base := 0) (xb_ok tabS_ok [61] [61]) mixed Tryz.func59 rfl (Nat.le_of_ble_eq_true rfl) rfl rfl ?_
  have hl : (headF m).length = 10 := rfl
  repeat' ((conv => whnf); first | exact trivial | (with_reducible refine ap_of ?_; kernel_rfl) | (with_reducible refine ds_of ?_; kernel_rfl) | (with_reducible refine eq_of ?_; kernel_rfl) | exact rfl | (intro h; exact absurd h (by decide)) | intro _ | apply And.intro)
  all_goals
    have hfl : ∃ a : Int, a = (flagN m.alone : Nat) ∧ ((m.alone = true → a = 1) ∧ (m.alone = false → a = 0)) := ⟨_, rfl, fun h => by rw [h]; rfl, fun h => by rw [h]; rfl⟩
    obtain ⟨a, ha, ha1, ha0⟩ := hfl
    have hb := head_byte m hm a ha
    have hav : (m.alone = true ∧ a = 1) ∨ (m.alone = false ∧ a = 0) := by cases h : m.alone <;> simp_all
    refine loop_keep [2] 20 [(1, ?_), (2, ?_)] {k : Nat // k ≤ 10} (fun k => [(4, .c (.own 1)), (35, .c (.own 2)), (36, V 10), (37, V k.1)]) (fun k => [(8, .live (.row [] 1 5 false)), (2, .live (.row (rowsI (headL m a)) 1 3 false)), (1, .live (.row (rowB ((headF m).take k.1)) 1 5 false))]) (fun k => 10 - k.1) ⟨0, Nat.zero_le _⟩ ?_
    rotate_left 2
    (conv => whnf)
    refine ⟨?_, ?_⟩
    · repeat' ((conv => whnf); first | exact trivial | exact rfl | apply And.intro)
      refine row_eq ?_
      first | (rw [ha1 (by assumption)]; rfl) | (rw [ha0 (by assumption)]; rfl)
    · rintro ⟨k, hk⟩
      have hL : ∀ a, (headL m a).length = 10 := fun _ => rfl
      repeat' ((conv => whnf); first | exact trivial | (with_reducible refine ap_of ?_; kernel_rfl) | (with_reducible refine ds_of ?_; kernel_rfl) | (with_reducible refine eq_of ?_; kernel_rfl) | exact rfl | (intro h; exact absurd h (by decide)) | intro _ | apply And.intro)
      all_goals first
        | (have hlt : k < 10 := (by have := k_lt (k := k) (n := 10) (by assumption); omega)
           have hlt2 : ∀ a, k < (headL m a).length := fun a => by rw [hL]; exact hlt
           first
             | first | exact Int.natCast_nonneg _ | (rw [rowsI_len]; exact Int.ofNat_lt.2 (show (k : Nat) < _ from (hlt2 _))) | (rw [show ∀ n : Nat, ((n : Nat) : Int).toNat = n from Int.toNat_natCast, rowsI_get (hlt2 _)]; first | rfl | exact Nat.le_refl _) | (rw [show ∀ n : Nat, ((n : Nat) : Int).toNat = n from Int.toNat_natCast, rowsI_len]; exact (hlt2 _))
             | rfl
             | (rw [rowB_len]; simp; omega)
             | (refine len_set1 (by assumption) ?_; rfl)
             | ((conv => whnf)
                refine ⟨⟨k + 1, hlt⟩, [(1, ?_), (2, ?_)], ?_, ?_⟩
                rotate_left 2
                · show 10 - (k + 1) < 10 - k
                  omega
                · repeat' ((conv => whnf); first | exact trivial | exact rfl | apply And.intro)
                  · exact succ_eq k (by omega)
                  · refine row_eq (R_step (f := byteD) (A := headF m) 0 hlt ?_)
                    rw [show ∀ n : Nat, ((n : Nat) : Int).toNat = n from Int.toNat_natCast, rowsI_get (hlt2 _)]
                    exact congrArg (fun x => [DV.int .u8 x]) (hb k hlt)))
        | (have hke : k = 10 := (by have := k_ge (k := k) (n := 10) (by assumption); omega)
           subst hke
           first
             | exact ⟨headF m, rfl, head_bytes m hm⟩
             | (rw [rowB_len]; simp; omega)
             | (refine len_set2 (by assumption) ?_ ?_ <;> rfl)
             | rfl
             | (subst hr
                refine congrArg (fun r => AV.c (.d (.row r))) (?_ : rowB (headF m) ++ _ = rowB (headF m ++ [csum 65535 (headF m) / 256, csum 65535 (headF m) % 256]))
                rw [show ((headF m).take 10) = headF m from rfl, rowB_back (head_bytes m hm), (csum_two (csum_bd (headF m) 65535 (by omega))).1, (csum_two (csum_bd (headF m) 65535 (by omega))).2]
                exact R_app byteD (headF m) [csum 65535 (headF m) / 256, csum 65535 (headF m) % 256]))
end Go.Proofs.YtpgeopefamomnaeGreat

namespace Go.Proofs.YtpgeopefamomnaeGreat
open Go.RowKit
set_option linter.unusedVariables false
set_option maxRecDepth 100000
def cfgC (c : Cfg) : List CV := [I c.cores, I c.lines]
def pairD (p : Int × Int) : List DV := [J p.1, J p.2]
def pairsM (c : Cfg) (m : Msg) : List (Int × Int) := [(m.frm, c.cores), (m.to, c.cores), (m.serial, 65535), (m.turn, 65535), (m.value, 255)]
def okP (p : Int × Int) : Prop := 0 ≤ p.1 ∧ p.1 ≤ p.2
theorem range_yes {c : Cfg} {m : Msg} (h : ∀ j, j < 5 → okP ((pairsM c m).getD j (0, 0))) (hl : 0 ≤ m.line ∧ m.line < c.lines) : rangeB c m = true := by
  have h0 := h 0 (by decide)
  have h1 := h 1 (by decide)
  have h2 := h 2 (by decide)
  have h3 := h 3 (by decide)
  have h4 := h 4 (by decide)
  simp only [pairsM, okP, List.getD_cons_zero, List.getD_cons_succ] at h0 h1 h2 h3 h4
  simp [rangeB, upB, h0, h1, h2, h3, h4, hl]
theorem range_no {c : Cfg} {m : Msg} {k : Nat} (hk : k < 5) (h : ¬ okP ((pairsM c m).getD k (0, 0)) ∨ ¬ (0 ≤ m.line ∧ m.line < c.lines)) : rangeB c m = false := by
  rw [← Bool.not_eq_true]
  intro hr
  simp only [rangeB, upB, Bool.and_eq_true, decide_eq_true_eq] at hr
  obtain ⟨h1, h2, h3, h4, h5, h6, h7⟩ := hr
  rcases h with h | h
  · apply h
    match k, hk with
    | 0, _ => exact h1
    | 1, _ => exact h2
    | 2, _ => exact h5
    | 3, _ => exact h6
    | 4, _ => exact h7
  · exact h ⟨h3, h4⟩
set_option maxHeartbeats 4000000 in
theorem rwrong_ok (c : Cfg) (m : Msg) (r : Int) (hr : wrongF c m = r) : FunOK Tryz.prog 62 [.agg (cfgC c), .agg (msgC m)] (hOf []) (V r) (hOf []) := by
  refine fun_deep (pins := []) (l0 := []) (objs := []) (base := 0) (xx_ok tab0_ok []) mixed Tryz.func62 rfl (Nat.le_of_ble_eq_true rfl) rfl rfl ?_
  repeat' ((conv => whnf); first | exact trivial | (with_reducible refine ap_of ?_; kernel_rfl) | (with_reducible refine ds_of ?_; kernel_rfl) | (with_reducible refine eq_of ?_; kernel_rfl) | exact rfl | (intro h; exact absurd h (by decide)) | intro _ | apply And.intro)
  all_goals first | rfl | (refine int_eq ?_; rw [← hr]; unfold wrongF; first | rw [if_pos (by simp_all <;> omega)] | rw [if_pos (.inr (by simp_all <;> omega))] | rw [if_pos (.inl (by simp_all <;> omega))]) | skip
  have hk : ¬ (m.kind < 1 ∨ 11 < m.kind) := by simp_all <;> omega
  unfold wrongF at hr
  rw [if_neg hk] at hr
  refine loop_keep [2, 3, 4] 20 [(1, ?_)] {k : Nat // k ≤ 5 ∧ (∀ j, j < k → okP ((pairsM c m).getD j (0, 0))) ∧ (0 < k → 0 ≤ m.line ∧ m.line < c.lines)} (fun k => [(34, .c (.own 1)), (35, V 5), (36, V k.1)]) (fun k => [(0, .live (.box (cfgC c) 23)), (8, .live (.box (msgC m) 98)), (1, .live (.row (R pairD (pairsM c m)) 2 135 false))]) (fun k => 5 - k.1) ⟨0, Nat.zero_le _, fun j hj => absurd hj (Nat.not_lt_zero _), fun h => absurd h (Nat.lt_irrefl _)⟩ ?_
  rotate_left
  (conv => whnf)
  refine ⟨?_, ?_⟩
  · repeat' ((conv => whnf); first | exact trivial | exact rfl | apply And.intro)
  · rintro ⟨k, hk1, hk2, hk3⟩
    have hR : (R pairD (pairsM c m)).length = 5 := rfl
    repeat' ((conv => whnf); first | exact trivial | (with_reducible refine ap_of ?_; kernel_rfl) | (with_reducible refine ds_of ?_; kernel_rfl) | (with_reducible refine eq_of ?_; kernel_rfl) | exact rfl | (intro h; exact absurd h (by decide)) | intro _ | apply And.intro)
    all_goals try (have hlt : k < 5 := (by have := k_lt (k := k) (n := 5) (by assumption); omega))
    all_goals try (have hget : (R pairD (pairsM c m)).getD k [] = pairD ((pairsM c m).getD k (0, 0)) := R_get pairD (0, 0) hlt)
    all_goals try rw [show ∀ n : Nat, ((n : Nat) : Int).toNat = n from Int.toNat_natCast] at *
    all_goals first | rfl | decide | exact Int.natCast_nonneg _ | (rw [hR]; exact Int.ofNat_lt.2 hlt) | (rw [hR]; exact hlt) | (rw [hget]; first | rfl | exact Nat.le_refl _) | skip
    all_goals try (have hg0 : ((List.getD (R pairD (pairsM c m)) k []).getD 0 dz).toI = ((pairsM c m).getD k (0, 0)).1 := by rw [hget]; rfl)
    all_goals try (have hg1 : ((List.getD (R pairD (pairsM c m)) k []).getD (0 + 1) dz).toI = ((pairsM c m).getD k (0, 0)).2 := by rw [hget]; rfl)
    all_goals first
      | (refine int_eq ?_
         rw [← hr, if_pos (range_no hlt (by unfold okP; simp_all <;> omega))])
      | skip
    · (conv => whnf)
      refine ⟨⟨k + 1, hlt, fun j hj => ?_, fun _ => ?_⟩, [(1, ?_)], ?_, ?_⟩
      rotate_left 3
      · show 5 - (k + 1) < 5 - k
        omega
      · repeat' ((conv => whnf); first | exact trivial | exact rfl | apply And.intro)
        exact succ_eq k (by omega)
      · rcases Nat.lt_succ_iff_lt_or_eq.1 hj with h | h
        · exact hk2 j h
        · subst h
          unfold okP
          simp_all
      · simp_all
    all_goals
      have hke : k = 5 := (by have := k_ge (k := k) (n := 5) (by assumption); omega)
      subst hke
      have hy := range_yes hk2 (hk3 (by decide))
      refine int_eq ?_
      rw [← hr, hy, if_neg (by decide)]
      clear hr hy
      by_cases he : (m.frm == c.cores) = (m.to == c.cores)
      · first | exact (if_pos he).symm | (exfalso; simp_all; done)
      · first | exact (if_neg he).symm | (exfalso; apply he; cases h1 : (m.frm == c.cores) <;> cases h2 : (m.to == c.cores) <;> simp_all <;> done)
end Go.Proofs.YtpgeopefamomnaeGreat

namespace Go.Proofs.YtpgeopefamomnaeGreat
open Go.RowKit
set_option linter.unusedVariables false
set_option maxRecDepth 100000
def wrongT (xs : List AV) (l0 : List (Nat × OS)) : Ans := match xs, l0 with
  | [.agg [.d (.int .i64 a), .d (.int .i64 b)], .agg [.d (.int .i64 k), .d (.int .i64 f), .d (.int .i64 t), .d (.int .i64 l), .d (.int .i64 s), .d (.int .i64 u), .d (.int .i64 v), .d (.bool z)]], [] => some (True, V (wrongF ⟨a, b⟩ ⟨k, f, t, l, s, u, v, z⟩), [])
  | _, _ => none
theorem wrong_does : Does Tryz.prog 62 wrongT := ⟨⟨_, Tryz.func62, by decide, rfl⟩, fun xs l0 p v objs h hp => by
  unfold wrongT at h
  split at h
  · cases h
    exact rwrong_ok (Cfg.mk _ _) (Msg.mk _ _ _ _ _ _ _ _) _ rfl
  · cases h⟩
def tabW : Canon := orT 62 wrongT tabS
theorem tabW_ok : Sound Tryz.prog tabW := tabS_ok.or wrong_does
theorem pf_sum {c : Cfg} {b : List Nat} (hl : b.length = 12) (h : sumBad b = true) : parseF c b = (Msg.zero, 7) := by
  unfold parseF; rw [if_neg (by simp [hl]), if_pos h]
theorem pf_form {c : Cfg} {b : List Nat} (hl : b.length = 12) (h : sumBad b = false) (h2 : 1 < b.getD 8 0 ∨ b.getD 9 0 ≠ 0) : parseF c b = (Msg.zero, 2) := by
  unfold parseF; rw [if_neg (by simp [hl]), if_neg (by simp [h]), if_pos h2]
theorem pf_wrong {c : Cfg} {b : List Nat} (hl : b.length = 12) (h : sumBad b = false) (h2 : b.getD 8 0 ≤ 1) (h3 : b.getD 9 0 = 0) (h4 : (wrongF c (readF b) != 0) = true) : parseF c b = (Msg.zero, wrongF c (readF b)) := by
  unfold parseF; rw [if_neg (by simp [hl]), if_neg (by simp [h]), if_neg (by omega), if_pos (by simpa using h4)]
theorem pf_ok {c : Cfg} {b : List Nat} (hl : b.length = 12) (h : sumBad b = false) (h2 : b.getD 8 0 ≤ 1) (h3 : b.getD 9 0 = 0) (h4 : (wrongF c (readF b) != 0) = false) : parseF c b = (readF b, 0) := by
  unfold parseF; rw [if_neg (by simp [hl]), if_neg (by simp [h]), if_neg (by omega), if_neg (by simpa using h4)]
theorem w_byte {x : Nat} (h : x < 256) : IntKind.i64.wrap (x : Int) = x := wrap_in (by omega) (by omega)
theorem w_two {x y : Nat} (hx : x < 256) (hy : y < 256) : IntKind.i64.wrap (IntKind.i64.wrap (256 * IntKind.i64.wrap (x : Int)) + IntKind.i64.wrap (y : Int)) = ((x * 256 + y : Nat) : Int) := by
  rw [w_byte hx, w_byte hy, wrap_in (x := 256 * (x : Int)) (by omega) (by omega), wrap_in (by omega) (by omega)]
  omega
theorem raw_eq {b0 b1 b2 b3 b4 b5 b6 b7 b8 b9 b10 b11 : Nat} (hb : isBytes [b0, b1, b2, b3, b4, b5, b6, b7, b8, b9, b10, b11]) : ({ kind := IntKind.i64.wrap (b0 : Int), frm := IntKind.i64.wrap ((IntKind.i64.wrap (b1 : Int)).tdiv 16), to := (IntKind.i64.wrap (b1 : Int)).tmod 16, line := IntKind.i64.wrap (b2 : Int), serial := IntKind.i64.wrap (IntKind.i64.wrap (256 * IntKind.i64.wrap (b3 : Int)) + IntKind.i64.wrap (b4 : Int)), turn := IntKind.i64.wrap (IntKind.i64.wrap (256 * IntKind.i64.wrap (b5 : Int)) + IntKind.i64.wrap (b6 : Int)), value := IntKind.i64.wrap (b7 : Int), alone := (b8 : Int) == 1 } : Msg) = readF [b0, b1, b2, b3, b4, b5, b6, b7, b8, b9, b10, b11] := by
  have h0 : b0 < 256 := hb 0 (Nat.le_of_ble_eq_true rfl)
  have h1 : b1 < 256 := hb 1 (Nat.le_of_ble_eq_true rfl)
  have h2 : b2 < 256 := hb 2 (Nat.le_of_ble_eq_true rfl)
  have h7 : b7 < 256 := hb 7 (Nat.le_of_ble_eq_true rfl)
  rw [w_two (x := b3) (y := b4) (hb 3 (Nat.le_of_ble_eq_true rfl)) (hb 4 (Nat.le_of_ble_eq_true rfl)), w_two (x := b5) (y := b6) (hb 5 (Nat.le_of_ble_eq_true rfl)) (hb 6 (Nat.le_of_ble_eq_true rfl)), w_byte h0, w_byte h1, w_byte h2, w_byte h7,
    Int.tdiv_eq_ediv_of_nonneg (by omega), Int.tmod_eq_emod_of_nonneg (by omega), wrap_in (x := (b1 : Int) / 16) (by omega) (by omega)]
  rfl
theorem isB_ten {b0 b1 b2 b3 b4 b5 b6 b7 b8 b9 b10 b11 : Nat} (hb : isBytes [b0, b1, b2, b3, b4, b5, b6, b7, b8, b9, b10, b11]) : isBytes [b0, b1, b2, b3, b4, b5, b6, b7, b8, b9] := fun i hi => by
  have h := hb i (Nat.lt_trans hi (Nat.le_of_ble_eq_true rfl))
  have e : ([b0, b1, b2, b3, b4, b5, b6, b7, b8, b9] : List Nat).getD i 0 = ([b0, b1, b2, b3, b4, b5, b6, b7, b8, b9, b10, b11] : List Nat).getD i 0 := by
    match i, hi with
    | 0, _ => rfl
    | 1, _ => rfl
    | 2, _ => rfl
    | 3, _ => rfl
    | 4, _ => rfl
    | 5, _ => rfl
    | 6, _ => rfl
    | 7, _ => rfl
    | 8, _ => rfl
    | 9, _ => rfl
  rw [e]
  exact h
theorem sum_is {b0 b1 b2 b3 b4 b5 b6 b7 b8 b9 b10 b11 : Nat} (hb : isBytes [b0, b1, b2, b3, b4, b5, b6, b7, b8, b9, b10, b11]) {x : Bool} (h : (((csum 65535 (List.map (fun e => (byteOf e).toNat) (List.take (Int.toNat 10 - Int.toNat 0) (List.drop (Int.toNat 0) (rowB [b0, b1, b2, b3, b4, b5, b6, b7, b8, b9, b10, b11])))) : Nat) : Int) != IntKind.i64.wrap (IntKind.i64.wrap (256 * IntKind.i64.wrap ((List.getD (rowB [b0, b1, b2, b3, b4, b5, b6, b7, b8, b9, b10, b11]) (Int.toNat 10) []).getD 0 dz).toI) + IntKind.i64.wrap ((List.getD (rowB [b0, b1, b2, b3, b4, b5, b6, b7, b8, b9, b10, b11]) (Int.toNat 11) []).getD 0 dz).toI)) = x) : sumBad [b0, b1, b2, b3, b4, b5, b6, b7, b8, b9, b10, b11] = x := by
  have e1 : List.map (fun e => (byteOf e).toNat) (List.take (Int.toNat 10 - Int.toNat 0) (List.drop (Int.toNat 0) (rowB [b0, b1, b2, b3, b4, b5, b6, b7, b8, b9, b10, b11]))) = [b0, b1, b2, b3, b4, b5, b6, b7, b8, b9] := rowB_back (isB_ten hb)
  have e2 : ((List.getD (rowB [b0, b1, b2, b3, b4, b5, b6, b7, b8, b9, b10, b11]) (Int.toNat 10) []).getD 0 dz).toI = (b10 : Int) := rfl
  have e3 : ((List.getD (rowB [b0, b1, b2, b3, b4, b5, b6, b7, b8, b9, b10, b11]) (Int.toNat 11) []).getD 0 dz).toI = (b11 : Int) := rfl
  rw [e1, e2, e3, w_two (x := b10) (y := b11) (hb 10 (Nat.le_of_ble_eq_true rfl)) (hb 11 (Nat.le_of_ble_eq_true rfl))] at h
  exact h
set_option maxHeartbeats 4000000 in
theorem rparse_ok (c : Cfg) (b : List Nat) (hb : isBytes b) (r : Msg × Int) (hr : parseF c b = r) : FunOK Tryz.prog 42 [.agg (cfgC c), Ro (rowB b)] (hOf []) (.tup [.agg (msgC r.1), V r.2]) (hOf []) := by
  refine fun_deep (pins := []) (l0 := []) (objs := []) (base := 0) (xb_ok tabW_ok [61] [61, 62]) mixed Tryz.func42 rfl (Nat.le_of_ble_eq_true rfl) rfl rfl ?_
  by_cases hl : b.length = 12
  · match b, hl with
    | [b0, b1, b2, b3, b4, b5, b6, b7, b8, b9, b10, b11], _ =>
      repeat' ((conv => whnf); first | exact trivial | (with_reducible refine ap_of ?_; kernel_rfl) | (with_reducible refine ds_of ?_; kernel_rfl) | (with_reducible refine eq_of ?_; kernel_rfl) | exact rfl | (intro h; exact absurd h (by decide)) | intro _ | apply And.intro)
      all_goals first | rfl | decide | exact Nat.le_refl _ | exact (by decide : (10 : Int) ≤ ((12 : Nat) : Int)) | exact (by decide : (0 : Nat) < 12) | exact (by decide : (1 : Nat) < 12) | exact (by decide : (2 : Nat) < 12) | exact (by decide : (3 : Nat) < 12) | exact (by decide : (4 : Nat) < 12) | exact (by decide : (5 : Nat) < 12) | exact (by decide : (6 : Nat) < 12) | exact (by decide : (7 : Nat) < 12) | exact (by decide : (8 : Nat) < 12) | exact (by decide : (9 : Nat) < 12) | exact (by decide : (10 : Nat) < 12) | exact (by decide : (11 : Nat) < 12) | exact (by decide : (0 : Int) < ((12 : Nat) : Int)) | exact (by decide : (1 : Int) < ((12 : Nat) : Int)) | exact (by decide : (2 : Int) < ((12 : Nat) : Int)) | exact (by decide : (3 : Int) < ((12 : Nat) : Int)) | exact (by decide : (4 : Int) < ((12 : Nat) : Int)) | exact (by decide : (5 : Int) < ((12 : Nat) : Int)) | exact (by decide : (6 : Int) < ((12 : Nat) : Int)) | exact (by decide : (7 : Int) < ((12 : Nat) : Int)) | exact (by decide : (8 : Int) < ((12 : Nat) : Int)) | exact (by decide : (9 : Int) < ((12 : Nat) : Int)) | exact (by decide : (10 : Int) < ((12 : Nat) : Int)) | exact (by decide : (11 : Int) < ((12 : Nat) : Int)) | skip
      · rename_i a
        exact absurd (show (((12 : Nat) : Int) != 12) = true from a) (by decide)
      · rename_i u hu
        obtain ⟨x, _, rfl⟩ := List.mem_map.1 hu
        rfl
      · exact ⟨[b0, b1, b2, b3, b4, b5, b6, b7, b8, b9], rfl, isB_ten hb⟩
      · rename_i a
        rw [← hr, pf_sum rfl (sum_is hb a)]
        rfl
      · rename_i _ a _ _ _ _ a9
        have a9' : (0 : Int) < (b9 : Int) := of_decide_eq_true a9
        rw [← hr, pf_form rfl (sum_is hb a) (.inr (by show b9 ≠ 0; omega))]
        rfl
      · rename_i _ a a8 _ _ _ a9 aw
        have a8' : ¬ (1 : Int) < (b8 : Int) := of_decide_eq_false (eq_of_beq a8)
        have a9' : ¬ (0 : Int) < (b9 : Int) := of_decide_eq_false a9
        have aw' := Eq.trans (congrArg (fun m => wrongF c m != 0) (raw_eq hb).symm) aw
        rw [← hr, pf_wrong rfl (sum_is hb a) (by show b8 ≤ 1; omega) (by show b9 = 0; omega) aw', ← raw_eq hb]
        rfl
      · rename_i _ a a8 _ _ _ a9 aw
        have a8' : ¬ (1 : Int) < (b8 : Int) := of_decide_eq_false (eq_of_beq a8)
        have a9' : ¬ (0 : Int) < (b9 : Int) := of_decide_eq_false a9
        have aw' := Eq.trans (congrArg (fun m => wrongF c m != 0) (raw_eq hb).symm) aw
        rw [← hr, pf_ok rfl (sum_is hb a) (by show b8 ≤ 1; omega) (by show b9 = 0; omega) aw', ← raw_eq hb]
        rfl
      · rename_i _ a a8 _ _ _ _
        have a8' : (1 : Int) < (b8 : Int) := Classical.byContradiction fun hn => by
          have e : decide ((1 : Int) < (b8 : Int)) = false := decide_eq_false hn
          have a8'' : (decide ((1 : Int) < (b8 : Int)) == false) = false := a8
          rw [e] at a8''
          exact absurd a8'' (by decide)
        rw [← hr, pf_form rfl (sum_is hb a) (.inl (by show 1 < b8; omega))]
        rfl
  · have hl2 : ¬ (rowB b).length = 12 := by rw [rowB_len]; exact hl
    rw [parseF_short hl] at hr
    subst hr
    repeat' ((conv => whnf); first | exact trivial | (with_reducible refine ap_of ?_; kernel_rfl) | (with_reducible refine ds_of ?_; kernel_rfl) | (with_reducible refine eq_of ?_; kernel_rfl) | exact rfl | (intro h; exact absurd h (by decide)) | intro _ | apply And.intro)
    all_goals first | rfl | (exfalso; simp_all <;> omega) | skip
end Go.Proofs.YtpgeopefamomnaeGreat

