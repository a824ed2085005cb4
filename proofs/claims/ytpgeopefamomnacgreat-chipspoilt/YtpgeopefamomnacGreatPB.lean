/- Plain mathematics of the sum of chapter 1 (no walk): one step of it is one to one, and unlike bits give unlike sums. -/
import Derived.Laws.BitsAllLaws
import Derived.Test.YtpgeopefamomnacGreatProg
import Derived.WalkKit
import Derived.WalkSpells
import Derived.WalkLawsBesides
import Derived.Test.YtpgeopefamomnacGreatPA
import Derived.Deep.QuietTactic
import Derived.BigQuiet
import Derived.StillTail
import Derived.Handy
import Derived.Deep.RegionHeld3
import Derived.Deep.DrawnRows
import Derived.Laws.CopyOwn
set_option linter.unusedSimpArgs false
namespace Go.Proofs.YtpgeopefamomnacGreat
set_option maxRecDepth 100000
open Go
set_option linter.unusedVariables false
theorem wrap_i64 (n : Int) (h0 : 0 ≤ n) (h1 : n < 9223372036854775808) : IntKind.i64.wrap n = n := by
  simp [IntKind.wrap, IntKind.bits, IntKind.signed]; omega
theorem ofInt_i64 (a : Nat) (ha : a < 9223372036854775808) : (BitVec.ofInt IntKind.i64.bits (a : Int)).toNat = a := by
  show (BitVec.ofInt 64 (a : Int)).toNat = a
  simp; omega
theorem and_i64 (a b : Nat) (ha : a < 9223372036854775808) (hb : b < 9223372036854775808) : bits .and .i64 (a : Int) (b : Int) = ((a &&& b : Nat) : Int) := by
  unfold bits
  simp only [BitVec.toNat_and]
  rw [ofInt_i64 a ha, ofInt_i64 b hb, wrap_i64 _ (by omega)]
  have : a &&& b ≤ a := Nat.and_le_left
  omega
theorem or_i64 (a b : Nat) (ha : a < 9223372036854775808) (hb : b < 9223372036854775808) : bits .or .i64 (a : Int) (b : Int) = ((a ||| b : Nat) : Int) := by
  unfold bits
  simp only [BitVec.toNat_or]
  rw [ofInt_i64 a ha, ofInt_i64 b hb, wrap_i64 _ (by omega)]
  have : a ||| b < 2 ^ 63 := Nat.or_lt_two_pow (by omega) (by omega)
  omega
theorem xor_i64 (a b : Nat) (ha : a < 9223372036854775808) (hb : b < 9223372036854775808) : bits .xor .i64 (a : Int) (b : Int) = ((a ^^^ b : Nat) : Int) := by
  unfold bits
  simp only [BitVec.toNat_xor]
  rw [ofInt_i64 a ha, ofInt_i64 b hb, wrap_i64 _ (by omega)]
  have : a ^^^ b < 2 ^ 63 := Nat.xor_lt_two_pow (by omega) (by omega)
  omega
/-- One bit of the sum. -/
def cstep (s b : Nat) : Nat := if s / 32768 = b then s * 2 % 65536 else (s * 2 % 65536) ^^^ 4129
/-- k bits of x, from the highest one on. -/
def cbits : Nat → Nat → Nat → Nat
  | s, _, 0 => s
  | s, x, k + 1 => cbits (cstep s (x / 2 ^ k % 2)) x k
def cbyte (s x : Nat) : Nat := cbits s x 8
def csum (s : Nat) (l : List Nat) : Nat := l.foldl cbyte s
theorem cstep_bd (s b : Nat) : cstep s b < 65536 := by
  unfold cstep
  have : (s * 2 % 65536) ^^^ 4129 < 2 ^ 16 := Nat.xor_lt_two_pow (by omega) (by omega)
  split <;> omega
theorem cbits_bd (k : Nat) : ∀ s x, s < 65536 → cbits s x k < 65536 := by
  induction k with
  | zero => intro s x h; exact h
  | succ k ih => intro s x h; exact ih _ _ (cstep_bd _ _)
theorem cbyte_bd (s x : Nat) (h : s < 65536) : cbyte s x < 65536 := cbits_bd 8 s x h
theorem csum_bd (l : List Nat) : ∀ s, s < 65536 → csum s l < 65536 := by
  induction l with
  | nil => intro s h; exact h
  | cons x l ih => intro s h; exact ih _ (cbyte_bd _ _ h)
theorem xor_odd (a : Nat) : (a ^^^ 4129) % 2 = (a + 1) % 2 := by
  have := Nat.xor_mod_two_pow (a := a) (b := 4129) (n := 1)
  simp at this
  rw [this]
  have h : a % 2 = 0 ∨ a % 2 = 1 := by omega
  rcases h with h | h <;> rw [h] <;> simp <;> omega
theorem xor_cancel {a b c : Nat} (h : a ^^^ c = b ^^^ c) : a = b := by
  have := congrArg (· ^^^ c) h
  simpa [Nat.xor_assoc] using this
theorem cstep_inj {s t b : Nat} (hs : s < 65536) (ht : t < 65536) (hb : b < 2) (h : cstep s b = cstep t b) : s = t := by
  unfold cstep at h
  have o1 := xor_odd (s * 2 % 65536)
  have o2 := xor_odd (t * 2 % 65536)
  by_cases h1 : s / 32768 = b <;> by_cases h2 : t / 32768 = b
  · rw [if_pos h1, if_pos h2] at h; omega
  · rw [if_pos h1, if_neg h2] at h; omega
  · rw [if_neg h1, if_pos h2] at h; omega
  · rw [if_neg h1, if_neg h2] at h
    have := xor_cancel h
    omega
theorem cstep_ne {s b c : Nat} (hs : s < 65536) (hb : b < 2) (hc : c < 2) (hbc : b ≠ c) : cstep s b ≠ cstep s c := by
  intro h
  unfold cstep at h
  have o1 := xor_odd (s * 2 % 65536)
  by_cases h1 : s / 32768 = b <;> by_cases h2 : s / 32768 = c
  · omega
  · rw [if_pos h1, if_neg h2] at h; omega
  · rw [if_neg h1, if_pos h2] at h; omega
  · omega
theorem cbits_inj (k : Nat) : ∀ s t x, s < 65536 → t < 65536 → cbits s x k = cbits t x k → s = t := by
  induction k with
  | zero => intro s t x _ _ h; exact h
  | succ k ih => intro s t x hs ht h; exact cstep_inj hs ht (by omega) (ih _ _ x (cstep_bd _ _) (cstep_bd _ _) h)
theorem cbits_ne (k : Nat) : ∀ s x y, s < 65536 → (∃ j, j < k ∧ x / 2 ^ j % 2 ≠ y / 2 ^ j % 2 ∧ ∀ i, i < k → i ≠ j → x / 2 ^ i % 2 = y / 2 ^ i % 2) → cbits s x k ≠ cbits s y k := by
  have same : ∀ k s x y, (∀ i, i < k → x / 2 ^ i % 2 = y / 2 ^ i % 2) → cbits s x k = cbits s y k := by
    intro k
    induction k with
    | zero => intro s x y _; rfl
    | succ k ih => intro s x y h; unfold cbits; rw [h k (by omega)]; exact ih _ _ _ fun i hi => h i (by omega)
  induction k with
  | zero => intro s x y _ ⟨j, hj, _⟩; omega
  | succ k ih =>
    intro s x y hs ⟨j, hj, hd, he⟩
    unfold cbits
    by_cases hjk : j = k
    · subst hjk
      rw [same j _ x y fun i hi => he i (by omega) (by omega)]
      intro h
      exact cstep_ne hs (by omega) (by omega) hd (cbits_inj _ _ _ _ (cstep_bd _ _) (cstep_bd _ _) h)
    · rw [he k (by omega) (by omega)]
      exact ih _ _ _ (cstep_bd _ _) ⟨j, by omega, hd, fun i hi => he i (by omega)⟩
theorem csum_inj (l : List Nat) : ∀ s t, s < 65536 → t < 65536 → csum s l = csum t l → s = t := by
  induction l with
  | nil => intro s t _ _ h; exact h
  | cons x l ih => intro s t hs ht h; exact cbits_inj 8 _ _ x hs ht (ih _ _ (cbyte_bd _ _ hs) (cbyte_bd _ _ ht) h)
/-- One byte turned in one bit gives another sum. -/
theorem csum_ne (l r : List Nat) (s x y : Nat) (hs : s < 65536) (h : cbyte (csum s l) x ≠ cbyte (csum s l) y) : csum s (l ++ x :: r) ≠ csum s (l ++ y :: r) := by
  intro e
  unfold csum at e
  simp only [List.foldl_append, List.foldl_cons] at e
  exact h (csum_inj r _ _ (cbyte_bd _ _ (csum_bd l s hs)) (cbyte_bd _ _ (csum_bd l s hs)) e)
end Go.Proofs.YtpgeopefamomnacGreat

/- What frame.sumBit, frame.sumByte and frame.Sum answer: the sum of Math, for any bytes.  (What of it reaches no function of the developers.) -/
namespace Go.Proofs.YtpgeopefamomnacGreat
set_option maxRecDepth 100000
open Go.RowKit
set_option linter.unusedVariables false
theorem ret_int {k : IntKind} {a b : Int} (h : a = b) : Ending.returned (.int k a) = .returned (.int k b) := by rw [h]
theorem and_mask16 (s : Nat) (hs : s < 65536) : bits .and .i64 ((s : Int) * 2) 65535 = ((s * 2 % 65536 : Nat) : Int) := by
  have := and_i64 (s * 2) 65535 (by omega) (by omega)
  rw [Int.natCast_mul] at this
  rw [show ((2 : Nat) : Int) = 2 from rfl, show ((65535 : Nat) : Int) = 65535 from rfl] at this
  rw [this, Nat.and_two_pow_sub_one_eq_mod (s * 2) 16]
theorem and_one (n : Nat) (h : n < 9223372036854775808) : bits .and .i64 (n : Int) 1 = ((n % 2 : Nat) : Int) := by
  have := and_i64 n 1 h (by omega)
  rw [show ((1 : Nat) : Int) = 1 from rfl] at this
  rw [this, nat_mask1]
/-- A slice of bytes of which cell i holds the i-th number of xs. -/
def BRow (w : World) (b off : Nat) (xs : List Nat) : Prop := ∀ i, i < xs.length → w.cell? ⟨b, off + i, none⟩ = some (.int .u8 (xs.getD i 0 : Nat))
def isBytes (xs : List Nat) : Prop := ∀ i, i < xs.length → xs.getD i 0 < 256
theorem csum_snoc (s : Nat) (xs : List Nat) (k : Nat) (h : k < xs.length) : csum s (xs.take (k + 1)) = cbyte (csum s (xs.take k)) (xs.getD k 0) := by
  rw [List.take_succ_eq_append_getElem h]
  unfold csum
  rw [List.foldl_append]
  simp [List.getD, h]
end Go.Proofs.YtpgeopefamomnacGreat

/- What frame.upTo, frame.inRange and frame.Wrong answer, for any config and message.  (What of it reaches no function of the developers.) -/
namespace Go.Proofs.YtpgeopefamomnacGreat
set_option maxRecDepth 100000
open Go.RowKit
set_option linter.unusedVariables false
def Cfg.val (c : Cfg) : Value := .agg #[.int .i64 c.cores, .int .i64 c.lines]
def Msg.val (m : Msg) : Value := .agg #[.int .i64 m.kind, .int .i64 m.frm, .int .i64 m.to, .int .i64 m.line, .int .i64 m.serial, .int .i64 m.turn, .int .i64 m.value, .bool m.alone]
theorem bcell {W w1 : World} (hb : Below W.heap.size W w1) : (∀ b o, b < W.heap.size → w1.cell? ⟨b, o, none⟩ = W.cell? ⟨b, o, none⟩) ∧ (∀ b o, b < W.heap.size → w1.frozen? ⟨b, o, none⟩ = W.frozen? ⟨b, o, none⟩) :=
  ⟨fun b o h => hb.cell (p := ⟨b, o, none⟩) h, fun b o h => hb.frozen (p := ⟨b, o, none⟩) h⟩
def upB (n m : Int) : Bool := decide (0 ≤ n) && decide (n ≤ m)
def rangeB (c : Cfg) (m : Msg) : Bool :=
  upB m.frm c.cores && (upB m.to c.cores && (decide (0 ≤ m.line) && (decide (m.line < c.lines) && (upB m.serial 65535 && (upB m.turn 65535 && upB m.value 255)))))
def wrongF (c : Cfg) (m : Msg) : Int :=
  if m.kind < 1 ∨ 11 < m.kind then 1 else if rangeB c m = false then 3 else if (m.frm == c.cores) = (m.to == c.cores) then 6 else 0
theorem ret_bool {a b : Bool} (h : a = b) : Ending.returned (.bool a) = .returned (.bool b) := by rw [h]
theorem ret_int' {k : IntKind} {a b : Int} (h : a = b) : Ending.returned (.int k b) = .returned (.int k a) := by rw [h]
theorem wrong_1 {c : Cfg} {m : Msg} (h : m.kind < 1 ∨ 11 < m.kind) : wrongF c m = 1 := by unfold wrongF; rw [if_pos h]
theorem wrong_2 {c : Cfg} {m : Msg} (h : 1 ≤ m.kind ∧ m.kind ≤ 11) (h1 : (!rangeB c m) = true) : wrongF c m = 3 := by
  unfold wrongF; rw [if_neg (by omega), if_pos (by simpa using h1)]
theorem wrong_3 {c : Cfg} {m : Msg} (h : 1 ≤ m.kind ∧ m.kind ≤ 11) (h1 : (!rangeB c m) = false) (h2 : ((m.frm == c.cores) == (m.to == c.cores)) = true) : wrongF c m = 6 := by
  unfold wrongF; rw [if_neg (by omega), if_neg (by simpa using h1), if_pos (by simpa using h2)]
theorem wrong_4 {c : Cfg} {m : Msg} (h : 1 ≤ m.kind ∧ m.kind ≤ 11) (h1 : (!rangeB c m) = false) (h2 : ((m.frm == c.cores) == (m.to == c.cores)) = false) : wrongF c m = 0 := by
  unfold wrongF; rw [if_neg (by omega), if_neg (by simpa using h1), if_neg (by simpa using h2)]
end Go.Proofs.YtpgeopefamomnacGreat

/- A region that draws its order, whose first n operations are quiet in a class of worlds and whose others wait for all of them, one for the other: one walk, in the text's order, serves every order. (Over the library's Quiet and StillTail.) -/
namespace Go.Proofs.YtpgeopefamomnacGreat
set_option maxRecDepth 100000
open Go Go.RowKit
set_option linter.unusedVariables false
section
variable {P : Program} {ops : Array Oper} {md : Region.Mode} {C : World → Prop}
/-- The first f operations that come up are of the first n, each quiet in the class; behind them 'L'. -/
def headQ (P : Program) (md : Region.Mode) (ops : Array Oper) (C : World → Prop) (n : Nat) (L : Array Bool → Act → Prop) : Nat → Array Bool → Act → Prop
  | 0, listed, a => L listed a
  | f + 1, listed, a => Region.ready md ops listed ≠ [] ∧ ∀ i ∈ Region.ready md ops listed, i < n ∧ qOp P ops C i (headQ P md ops C n L f (listed.setIfInBounds i true)) a
theorem wpAny_of_headQ {n g : Nat} {L : Array Bool → Act → Prop} {Q' : Exit → Act → World → Prop} (hL : ∀ listed a w, C w → L listed a → wpAny P md ops Q' g listed a w) :
    ∀ (f : Nat) (listed : Array Bool) (a : Act) (w : World), C w → headQ P md ops C n L f listed a → wpAny P md ops Q' (f + g) listed a w
  | 0, listed, a, w, hw, h => by rw [Nat.zero_add]; exact hL _ _ _ hw h
  | f + 1, listed, a, w, hw, h => by
    rw [show f + 1 + g = (f + g) + 1 by omega]
    exact ⟨fun h0 => absurd h0 h.1, fun i hi => wpOp_of_qOp hw (fun a' w' hw' h' => wpAny_of_headQ hL f _ a' w' hw' h') (h.2 i hi).2⟩
theorem headQ_first {n i : Nat} {oi : Oper} {v : Value} {L : Array Bool → Act → Prop} (hi : ops[i]? = some oi) (hsel : ∀ (j : Nat) (o : Oper) cs b, ops[j]? = some o → o.op ≠ .select cs b)
    (hs : Region.sinkB md ops n = true) (hc : Region.chainB md ops n = true) (hn : n < ops.size) (hin : i < n)
    (hdone : ∀ listed a, L listed a → ∀ j ∈ Region.ready md ops listed, n ≤ j) (f : Nat) :
    ∀ (listed : Array Bool) (a : Act), HeadInv md ops n listed →
      (∀ j oj, ops[j]? = some oj → j ≠ i → listed.getD j true = false → (∀ e ∈ oj.after, Region.binds md e = true → e.on ≠ i) → oi.apart ops oj = true) →
      i ∈ Region.ready md ops listed → YieldsIn P ops C oi v a →
      headQ P md ops C n L f (listed.setIfInBounds i true) (a.put oi.dst v) → headQ P md ops C n L (f + 1) listed a := by
  induction f with
  | zero =>
    intro listed a inv _ hr hy H
    have hun := (mem_ready.1 hr).1
    refine ⟨fun h => (by rw [h] at hr; cases hr), fun j hj => ?_⟩
    have hjn : j < n := Nat.lt_of_not_le fun h => tail_waits hs hc hn inv _ i rfl hin hun j h hj
    refine ⟨hjn, ?_⟩
    by_cases hji : j = i
    · subst hji; exact hy.qOp hi H
    · exact absurd (hdone _ _ H j (ready_mono hj hji)) (by omega)
  | succ f ih =>
    intro listed a inv hfree hr hy H
    have hun := (mem_ready.1 hr).1
    refine ⟨fun h => (by rw [h] at hr; cases hr), fun j hj => ?_⟩
    have hjn : j < n := Nat.lt_of_not_le fun h => tail_waits hs hc hn inv _ i rfl hin hun j h hj
    refine ⟨hjn, ?_⟩
    by_cases hji : j = i
    · subst hji; exact hy.qOp hi H
    · have h1 := (H.2 j (ready_mono hj hji)).2
      obtain ⟨hjun, oj, hoj, hall⟩ := mem_ready.1 hj
      have hnot : ∀ e ∈ oj.after, Region.binds md e = true → e.on ≠ i := fun e he hb heq => by
        have h1 := hall e he hb
        rw [heq, getD_both hun] at h1
        cases h1
      have h2 := qOp_put hoj (hfree j oj hoj hji hjun hnot) (fun cs b => hsel i oi cs b hi) (fun cs b => hsel j oj cs b hoj) hy h1
      refine qOp_mono (fun a' h3 => ih (listed.setIfInBounds j true) a' (inv.set hj hjn) (fun k ok hk hki hun' hno => hfree k ok hk hki ?_ hno) (ready_mono hr (Ne.symm hji)) h3.1 ?_) h2
      · by_cases hjk : j = k
        · subst hjk; exact hjun
        · rw [getD_set_ne true hjk] at hun'; exact hun'
      · rw [Array.setIfInBounds_comm _ _ hji]
        exact h3.2
theorem headQ_lex {n g : Nat} {Lq : Act → Prop} (hsel : Region.noSelect ops = true) (hs : Region.sinkB md ops n = true) (hc : Region.chainB md ops n = true) (hn : n < ops.size) :
    ∀ (l : List Oper) (k : Nat) (listed : Array Bool) (a : Act), (∀ j, j < l.length → l[j]? = ops[k + j]?) → k + l.length = n → HeadInv md ops n listed →
    Region.lexHead md ops g l.length k listed = true → wpQuiet P ops C Lq l a →
    headQ P md ops C n (fun listed' a' => Region.seqB md ops g n listed' = true ∧ Lq a') l.length listed a
  | [], k, listed, a, _, hk, _, hB, h => by
    have : k = n := by simpa using hk
    subst this
    exact ⟨by simpa [Region.lexHead] using hB, h⟩
  | o :: l, k, listed, a, hl, hk, inv, hB, h => by
    have h0 : ops[k]? = some o := by simpa using (hl 0 (by simp)).symm
    simp only [List.length_cons, Region.lexHead, Bool.and_eq_true] at hB
    obtain ⟨⟨hr, hf⟩, hB'⟩ := hB
    have hkn : k < n := by simp only [List.length_cons] at hk; omega
    have hr' : k ∈ Region.ready md ops listed := by simpa using hr
    have hst : qOp P ops C k (wpQuiet P ops C Lq l) a := by unfold qOp; simp only [h0]; exact h
    obtain ⟨v, hy, hK⟩ := yieldsIn_of_qOp h0 hst
    refine headQ_first h0 (Region.noSelect_spec hsel) hs hc hn hkn (fun listed' a' hL => seqB_ready hL.1) l.length listed a inv (Region.free_spec h0 hf) hr' hy ?_
    exact headQ_lex hsel hs hc hn l (k + 1) _ _ (fun j hj => by have := hl (j + 1) (by simp; omega); simpa [Nat.add_assoc, Nat.add_comm 1 j] using this) (by simp only [List.length_cons] at hk; omega) (inv.set hr' hkn) hB' hK
/-- One walk: the first n operations quiet in the class C, the others behind them in whatever world of the class. -/
theorem wp_region_quiet_tail {id : Nat} {Q : Exit → Act → World → Prop} {a : Act} {w : World} {l : List Oper} (n : Nat) (hm : P.follows .mixedOrders = true) (hB : Region.lexTailB .any l.toArray n = true) (hC : C { w with drawn := w.drawn + 1 })
    (h : wpQuiet P l.toArray C (fun a' => ∀ w', C w' → wpList P l.toArray Q (l.drop n) a' w') (l.take n) a) : (Code.region id l.toArray true).wp P Q a w := by
  simp only [Region.lexTailB, Bool.and_eq_true, decide_eq_true_eq] at hB
  obtain ⟨⟨⟨⟨hsel, hn⟩, hs⟩, hc⟩, hlex⟩ := hB
  have hn' : n < l.length := by simpa using hn
  have htl : (l.take n).length = n := by simp; omega
  have hdl : (l.drop n).length = l.toArray.size - n := by simp
  have inv0 : HeadInv .any l.toArray n (Array.replicate l.toArray.size false) :=
    ⟨by simp, fun j oj _ hl => (by rw [getD_replicate_false] at hl; cases hl), fun t _ ht => getD_in (by simpa using ht) (getD_replicate_false _ _)⟩
  have H := headQ_lex (md := .any) (g := l.toArray.size - n) hsel hs hc hn (l.take n) 0 _ a (fun j hj => by
    have hj' : j < n := by rw [htl] at hj; exact hj
    simp [hj']) (by simpa using htl) inv0 (by rw [htl]; exact hlex) h
  refine wp_region_any hm ?_
  have := wpAny_of_headQ (Q' := Q) (g := l.toArray.size - n) (fun listed a' w' hw' hL => by
    have := wpAny_of_seq (md := .any) (Q' := Q) (l.drop n) n listed a' w' (fun j => by simp [List.getElem?_drop]) (by rw [hdl]; exact hL.1) (hL.2 w' hw')
    rwa [hdl] at this) _ _ _ _ hC H
  rw [htl, show n + (l.toArray.size - n) = l.toArray.size by omega] at this
  exact this
/-- The same at the class 'w behind some draws'. -/
theorem wp_region_draws_tail {id : Nat} {Q : Exit → Act → World → Prop} {a : Act} {w : World} {l : List Oper} (n : Nat) (hm : P.follows .mixedOrders = true) (hB : Region.lexTailB .any l.toArray n = true)
    (h : wpQuiet P l.toArray (fun w' => ∃ n, w' = w.drewN n) (fun a' => ∀ w', (∃ n, w' = w.drewN n) → wpList P l.toArray Q (l.drop n) a' w') (l.take n) a) : (Code.region id l.toArray true).wp P Q a w :=
  wp_region_quiet_tail (C := fun w' => ∃ n, w' = w.drewN n) n hm hB ⟨1, rfl⟩ h
end
end Go.Proofs.YtpgeopefamomnacGreat

/- What frame.pair, frame.read and frame.Parse answer, for any bytes.  (What of it reaches no function of the developers.) -/
namespace Go.Proofs.YtpgeopefamomnacGreat
set_option maxRecDepth 100000
open Go.RowKit
set_option linter.unusedVariables false
theorem or_pair (x y : Nat) (hx : x < 256) (hy : y < 256) : bits .or .i64 ((x : Int) * 256) (y : Int) = ((x * 256 + y : Nat) : Int) := by
  have := or_i64 (x * 256) y (by omega) (by omega)
  rw [Int.natCast_mul] at this
  rw [show ((256 : Nat) : Int) = 256 from rfl] at this
  rw [this, nat_join 8 (x * 256) y (by omega) (by omega)]
/-- The message that twelve bytes hold. -/
def readF (xs : List Nat) : Msg := { kind := (xs.getD 0 0 : Nat), frm := (xs.getD 1 0 / 16 : Nat), to := (xs.getD 1 0 % 16 : Nat), line := (xs.getD 2 0 : Nat), serial := (xs.getD 3 0 * 256 + xs.getD 4 0 : Nat), turn := (xs.getD 5 0 * 256 + xs.getD 6 0 : Nat), value := (xs.getD 7 0 : Nat), alone := ((xs.getD 8 0 : Nat) : Int) == 1 }
theorem and15_u8 (x : Nat) (hx : x < 256) : bits .and .u8 (x : Int) 15 = ((x % 16 : Nat) : Int) := by
  have := u8_and_nat x 15 hx (by omega)
  rw [show ((15 : Nat) : Int) = 15 from rfl] at this
  rw [this, nat_mask4]
theorem cell_ad {w : World} {o : Obj} {n : Nat} {a : Addr} {v : Value} (h : w.cell? a = some v) : ((w.alloc o).drewN n).cell? a = some v := by
  simp only [World.cell?_drewN]
  rw [World.cell?_alloc_lt _ _ _ (block_lt_of_cell h), h]
def msgV (kind frm to line serial turn value : Int) (alone : Bool) : Value := .agg #[.int .i64 kind, .int .i64 frm, .int .i64 to, .int .i64 line, .int .i64 serial, .int .i64 turn, .int .i64 value, .bool alone]
theorem readF_val (xs : List Nat) : (readF xs).val = msgV (xs.getD 0 0 : Nat) (xs.getD 1 0 / 16 : Nat) (xs.getD 1 0 % 16 : Nat) (xs.getD 2 0 : Nat) (xs.getD 3 0 * 256 + xs.getD 4 0 : Nat) (xs.getD 5 0 * 256 + xs.getD 6 0 : Nat) (xs.getD 7 0 : Nat) ((xs.getD 8 0 : Int) == 1) := rfl
end Go.Proofs.YtpgeopefamomnacGreat

/- What frame.Parse answers, for any config and bytes.  (What of it reaches no function of the developers.) -/
namespace Go.Proofs.YtpgeopefamomnacGreat
set_option maxRecDepth 100000
open Go.RowKit
set_option linter.unusedVariables false
def Msg.zero : Msg := { kind := 0, frm := 0, to := 0, line := 0, serial := 0, turn := 0, value := 0, alone := false }
def sumBad (xs : List Nat) : Bool := (csum 65535 (xs.take 10) : Int) != ((xs.getD 10 0 * 256 + xs.getD 11 0 : Nat) : Int)
def parseF (c : Cfg) (xs : List Nat) : Msg × Int :=
  if xs.length ≠ 12 then (Msg.zero, 2)
  else if sumBad xs = true then (Msg.zero, 7)
  else if 1 < xs.getD 8 0 ∨ xs.getD 9 0 ≠ 0 then (Msg.zero, 2)
  else if wrongF c (readF xs) ≠ 0 then (Msg.zero, wrongF c (readF xs))
  else (readF xs, 0)
theorem BRow.below {w w' : World} {b off : Nat} {xs : List Nat} (h : BRow w b off xs) (hb : Below w.heap.size w w') : BRow w' b off xs := fun i hi => by
  have := h i hi
  rw [hb.cell (block_lt_of_cell this), this]
theorem below2 (w : World) (o1 o2 : Obj) : Below w.heap.size w ((w.alloc o1).alloc o2) := by go_grown
theorem size2 {w w' : World} {o1 o2 : Obj} {n : Nat} (hb : Below (((w.alloc o1).alloc o2).drewN n).heap.size (((w.alloc o1).alloc o2).drewN n) w') : w.heap.size + 1 < w'.heap.size ∧ w.heap.size < w'.heap.size := by
  have := hb.size; simp at this; omega
theorem size3 {w w1 w' : World} {o1 : Obj} (h : w.heap.size + 1 < w1.heap.size) (hb : Below (w1.alloc o1).heap.size (w1.alloc o1) w') : w1.heap.size < w'.heap.size ∧ w.heap.size + 1 < w'.heap.size ∧ w.heap.size < w'.heap.size := by
  have := hb.size; simp at this; omega
theorem below_two {w w1 w' : World} {o1 o2 o3 : Obj} {n : Nat} (hb1 : Below (((w.alloc o1).alloc o2).drewN n).heap.size (((w.alloc o1).alloc o2).drewN n) w1) (hb2 : Below (w1.alloc o3).heap.size (w1.alloc o3) w') : Below w.heap.size w w' := by
  have h1 := hb1.size
  have h2 : w.heap.size ≤ (((w.alloc o1).alloc o2).drewN n).heap.size := by simp; omega
  have h3 := (below_drewN (below2 w o1 o2) n).trans (hb1.mono h2)
  exact (h3.alloc (by have := h3.size; omega) o3).trans (hb2.mono (by have := h3.size; simp; omega))
theorem parseF_short {c : Cfg} {xs : List Nat} (h : xs.length ≠ 12) : parseF c xs = (Msg.zero, 2) := by unfold parseF; rw [if_pos h]
end Go.Proofs.YtpgeopefamomnacGreat

/- What frame.nodes, frame.flag, frame.appendPair and frame.Bytes answer.  (What of it reaches no function of the developers.) -/
namespace Go.Proofs.YtpgeopefamomnacGreat
set_option maxRecDepth 100000
open Go.RowKit
set_option linter.unusedVariables false
def flagN (b : Bool) : Nat := if b then 1 else 0
theorem nodes_val (f t : Nat) (hf : f < 16) (ht : t < 16) : bits .or .i64 (bits .and .i64 (f : Int) 15 * 16) (bits .and .i64 (t : Int) 15) = ((f * 16 + t : Nat) : Int) := by
  have h1 := and_i64 f 15 (by omega) (by omega)
  have h2 := and_i64 t 15 (by omega) (by omega)
  rw [show ((15 : Nat) : Int) = 15 from rfl] at h1 h2
  rw [h1, h2, nat_mask4, nat_mask4, Nat.mod_eq_of_lt hf, Nat.mod_eq_of_lt ht]
  have h3 := or_i64 (f * 16) t (by omega) (by omega)
  rw [Int.natCast_mul, show ((16 : Nat) : Int) = 16 from rfl] at h3
  rw [h3, nat_join 4 (f * 16) t (by omega) (by omega)]
theorem brow10 {w : World} {g : Nat} {y0 y1 y2 y3 y4 y5 y6 y7 y8 : Nat} (c0 : w.cell? ⟨g, 0, none⟩ = some (.int .u8 (y0 : Nat))) (c1 : w.cell? ⟨g, 1, none⟩ = some (.int .u8 (y1 : Nat))) (c2 : w.cell? ⟨g, 2, none⟩ = some (.int .u8 (y2 : Nat))) (c3 : w.cell? ⟨g, 3, none⟩ = some (.int .u8 (y3 : Nat))) (c4 : w.cell? ⟨g, 4, none⟩ = some (.int .u8 (y4 : Nat))) (c5 : w.cell? ⟨g, 5, none⟩ = some (.int .u8 (y5 : Nat))) (c6 : w.cell? ⟨g, 6, none⟩ = some (.int .u8 (y6 : Nat))) (c7 : w.cell? ⟨g, 7, none⟩ = some (.int .u8 (y7 : Nat))) (c8 : w.cell? ⟨g, 8, none⟩ = some (.int .u8 (y8 : Nat))) (c9 : w.cell? ⟨g, 9, none⟩ = some (.int .u8 0)) : BRow w g 0 [y0, y1, y2, y3, y4, y5, y6, y7, y8, 0] := fun i hi => by
  match i, hi with
  | 0, _ => exact c0
  | 1, _ => exact c1
  | 2, _ => exact c2
  | 3, _ => exact c3
  | 4, _ => exact c4
  | 5, _ => exact c5
  | 6, _ => exact c6
  | 7, _ => exact c7
  | 8, _ => exact c8
  | 9, _ => exact c9
theorem brow12 {w : World} {g : Nat} {y0 y1 y2 y3 y4 y5 y6 y7 y8 y10 y11 : Nat} (c0 : w.cell? ⟨g, 0, none⟩ = some (.int .u8 (y0 : Nat))) (c1 : w.cell? ⟨g, 1, none⟩ = some (.int .u8 (y1 : Nat))) (c2 : w.cell? ⟨g, 2, none⟩ = some (.int .u8 (y2 : Nat))) (c3 : w.cell? ⟨g, 3, none⟩ = some (.int .u8 (y3 : Nat))) (c4 : w.cell? ⟨g, 4, none⟩ = some (.int .u8 (y4 : Nat))) (c5 : w.cell? ⟨g, 5, none⟩ = some (.int .u8 (y5 : Nat))) (c6 : w.cell? ⟨g, 6, none⟩ = some (.int .u8 (y6 : Nat))) (c7 : w.cell? ⟨g, 7, none⟩ = some (.int .u8 (y7 : Nat))) (c8 : w.cell? ⟨g, 8, none⟩ = some (.int .u8 (y8 : Nat))) (c9 : w.cell? ⟨g, 9, none⟩ = some (.int .u8 0)) (c10 : w.cell? ⟨g, 10, none⟩ = some (.int .u8 y10)) (c11 : w.cell? ⟨g, 11, none⟩ = some (.int .u8 y11)) : BRow w g 0 [y0, y1, y2, y3, y4, y5, y6, y7, y8, 0, y10, y11] := fun i hi => by
  match i, hi with
  | 0, _ => exact c0
  | 1, _ => exact c1
  | 2, _ => exact c2
  | 3, _ => exact c3
  | 4, _ => exact c4
  | 5, _ => exact c5
  | 6, _ => exact c6
  | 7, _ => exact c7
  | 8, _ => exact c8
  | 9, _ => exact c9
  | 10, _ => exact c10
  | 11, _ => exact c11
end Go.Proofs.YtpgeopefamomnacGreat

/- What frame.Turn answers, for any bytes and bit.  (What of it reaches no function of the developers.) -/
namespace Go.Proofs.YtpgeopefamomnacGreat
set_option maxRecDepth 100000
open Go.RowKit
set_option linter.unusedVariables false
/-- A slice value whose elements are the bytes xs. -/
def BSl (w : World) (a : Option Addr) (xs : List Nat) : Prop := isBytes xs ∧ (xs ≠ [] → ∃ b off, a = some ⟨b, off, none⟩ ∧ BRow w b off xs)
theorem BSl.below {w w' : World} {a : Option Addr} {xs : List Nat} (h : BSl w a xs) (hb : Below w.heap.size w w') : BSl w' a xs :=
  ⟨h.1, fun hx => by obtain ⟨b, off, h1, h2⟩ := h.2 hx; exact ⟨b, off, h1, h2.below hb⟩⟩
def u8s (xs : List Nat) : List Value := xs.map fun x => .int .u8 (x : Nat)
theorem u8s_get (xs : List Nat) (i : Nat) (h : i < xs.length) : (u8s xs)[i]? = some (.int .u8 (xs.getD i 0 : Nat)) := by
  simp [u8s, List.getD, h]
/-- Block g is a row of its own: the bytes xs and no more. -/
def Own (w : World) (g : Nat) (xs : List Nat) : Prop := w.heap[g]? = some (.cells (u8s xs).toArray 5 (0, 0))
theorem Own.row {w : World} {g : Nat} {xs : List Nat} (h : Own w g xs) : BRow w g 0 xs := fun i hi => by
  unfold Own at h
  have := u8s_get xs i hi
  simp only [World.cell?, h, Nat.zero_add]
  simpa using this
theorem Own.free {w : World} {g : Nat} {xs : List Nat} (h : Own w g xs) (i : Nat) : w.frozen? ⟨g, i, none⟩ = false := by
  unfold Own at h
  simp [World.frozen?, h]
theorem Own.set {w : World} {g k y : Nat} {xs : List Nat} (h : Own w g xs) : Own (w.setCell ⟨g, k, none⟩ (.int .u8 (y : Nat))) g (xs.set k y) := by
  unfold Own at *
  obtain ⟨hlt, hv⟩ := Array.getElem?_eq_some_iff.1 h
  simp only [World.setCell]
  rw [Array.getElem?_modify, if_pos rfl, h]
  simp [u8s, List.map_set]
theorem xor_val (x j : Nat) (hx : x < 256) (h0 : 0 ≤ (j : Int)) (h1 : j < 8) : bits .xor .u8 (x : Int) (2 ^ j % 256) = ((x ^^^ 2 ^ j : Nat) : Int) := by
  have hp : 2 ^ j < 256 := Nat.lt_of_lt_of_le (Nat.pow_lt_pow_right (by omega) h1) (by decide)
  have := u8_xor_nat x (2 ^ j) hx hp
  rw [← this]
  congr 1
  rw [show ((2 : Int) ^ j) = ((2 ^ j : Nat) : Int) by simp]
  generalize 2 ^ j = p at hp
  omega
def turnF (xs : List Nat) (bit : Int) : List Nat :=
  if 0 ≤ bit ∧ bit / 8 < xs.length then xs.set (bit / 8).toNat (xs.getD (bit / 8).toNat 0 ^^^ 2 ^ (bit % 8).toNat) else xs
theorem Tryz.infoU8 : (Tryz.prog.info? 5).map (fun i => (i.zero, i.size, i.bytes)) = some (some (.int .u8 0), 1, 1) := by kernel_rfl
theorem make_u8 (w : World) (n : Nat) (hn : n ≤ 140737488355328) : ∃ Z : Array Value, Z.size = n ∧
    (Instr.makeSlice 52 (.int .i64 n) (.int .i64 n)).run Tryz.prog w = .ok (.slice (some ⟨w.heap.size, 0, none⟩) n n) (w.alloc (.cells Z 5)) := by
  obtain ⟨i0, hi, hz0, hz1, hz2⟩ := info_parts Tryz.infoU8
  have := run_make (P := Tryz.prog) w 52 5 i0 (.int .u8 0) Tryz.underlying52 hi hz0 .i64 .i64 n n (by omega) (by omega) (by rw [hz2]; omega) (by omega)
  rw [hz1] at this
  simp only [Int.toNat_natCast, Nat.mul_one] at this
  exact ⟨_, size_madeCells _ _, this⟩
theorem setRow_alloc (w : World) (Z A : Array Value) (t : TypeId) : (w.alloc (.cells Z t)).setRow w.heap.size A = w.alloc (.cells A t) := by
  simp only [World.setRow, World.alloc]
  congr 1
  apply Array.ext_getElem?
  intro i
  rw [Array.getElem?_modify, Array.getElem?_push, Array.getElem?_push]
  by_cases h : i = w.heap.size
  · subst h; simp
  · rw [if_neg (Ne.symm h), if_neg h, if_neg h]
theorem copy_u8 (w : World) (Z : Array Value) (ty : TypeId) (a : Option Addr) (cap : Nat) (xs : List Nat) (hZ : Z.size = xs.length) (hs : BSl w a xs) :
    ∃ A : Array Value, A = (u8s xs).toArray ∧ (Builtin.copy_ #[52, 52] ty #[.slice (some ⟨w.heap.size, 0, none⟩) xs.length xs.length, .slice a xs.length cap]).run Tryz.prog (w.alloc (.cells Z 5)) = .ok (goInt xs.length) (w.alloc (.cells A 5)) := by
  obtain ⟨i0, hi, hz0, hz1, hz2⟩ := info_parts Tryz.infoU8
  by_cases hx : xs = []
  · subst hx
    have hz : Z = #[] := Array.eq_empty_of_size_eq_zero (by simpa using hZ)
    subst hz
    exact ⟨#[], rfl, run_copy_none (P := Tryz.prog) _ 52 52 ty 5 _ a 0 0 0 cap Tryz.underlying52 (by rw [hi]; simp [hz1]) rfl⟩
  · obtain ⟨b, off, rfl, hrow⟩ := hs.2 hx
    have hrow' : BRow (w.alloc (.cells Z 5)) b off xs := hrow.below ((Below.refl _ _).alloc (Nat.le_refl _) _)
    have hlen : (u8s xs).length = xs.length := by simp [u8s]
    have := run_copy_row (P := Tryz.prog) (w.alloc (.cells Z 5)) 52 52 ty 5 w.heap.size 0 xs.length xs.length ⟨b, off, none⟩ xs.length cap Z 5 (u8s xs) Tryz.underlying52 (by rw [hi]; simp [hz1])
      (heap_alloc_new _ _) (by simp [hlen]) (fun j v hj => by
        have hjl : j < xs.length := by
          have := (List.getElem?_eq_some_iff.1 hj).1
          omega
        rw [u8s_get xs j hjl] at hj
        cases hj
        have hplain : (⟨b, off, none⟩ : Addr).add j = ⟨b, off + j, none⟩ := by unfold Addr.add; split <;> simp_all
        rw [hplain]
        exact hrow' j hjl) (by omega) (fun v hv => by
        simp only [u8s, List.mem_map] at hv
        obtain ⟨x, _, rfl⟩ := hv
        rfl)
    rw [setRow_alloc] at this
    simp only [List.take_zero, List.nil_append, Nat.zero_add] at this
    rw [List.drop_of_length_le (by simp [hlen, hZ]), List.append_nil, hlen] at this
    exact ⟨_, rfl, this⟩
end Go.Proofs.YtpgeopefamomnacGreat

/- Plain facts of frames (no walk): a message's bytes hold it; a frame that is read is its message's; one bit turned is found.  (What of it reaches no function of the developers.) -/
namespace Go.Proofs.YtpgeopefamomnacGreat
set_option maxRecDepth 100000
open Go.RowKit
set_option linter.unusedVariables false
structure Fit (m : Msg) : Prop where
  kind0 : 0 ≤ m.kind
  kind1 : m.kind < 256
  frm0 : 0 ≤ m.frm
  frm1 : m.frm < 16
  to0 : 0 ≤ m.to
  to1 : m.to < 16
  line0 : 0 ≤ m.line
  line1 : m.line < 256
  serial0 : 0 ≤ m.serial
  serial1 : m.serial < 65536
  turn0 : 0 ≤ m.turn
  turn1 : m.turn < 65536
  value0 : 0 ≤ m.value
  value1 : m.value < 256
def headF (m : Msg) : List Nat := [m.kind.toNat, m.frm.toNat * 16 + m.to.toNat, m.line.toNat, m.serial.toNat / 256, m.serial.toNat % 256, m.turn.toNat / 256, m.turn.toNat % 256, m.value.toNat, flagN m.alone, 0]
def bytesF (m : Msg) : List Nat := headF m ++ [csum 65535 (headF m) / 256, csum 65535 (headF m) % 256]
theorem bytesF_length (m : Msg) : (bytesF m).length = 12 := rfl
theorem flagN_lt (b : Bool) : flagN b < 2 := by cases b <;> decide
theorem bytesF_isBytes (m : Msg) (h : Fit m) : isBytes (bytesF m) := by
  have := csum_bd (headF m) 65535 (by omega)
  have hf := flagN_lt m.alone
  obtain ⟨h1, h2, h3, h4, h5, h6, h7, h8, h9, h10, h11, h12, h13, h14⟩ := h
  intro i hi
  match i, hi with
  | 0, _ => show m.kind.toNat < 256; omega
  | 1, _ => show m.frm.toNat * 16 + m.to.toNat < 256; omega
  | 2, _ => show m.line.toNat < 256; omega
  | 3, _ => show m.serial.toNat / 256 < 256; omega
  | 4, _ => show m.serial.toNat % 256 < 256; omega
  | 5, _ => show m.turn.toNat / 256 < 256; omega
  | 6, _ => show m.turn.toNat % 256 < 256; omega
  | 7, _ => show m.value.toNat < 256; omega
  | 8, _ => show flagN m.alone < 256; omega
  | 9, _ => show 0 < 256; omega
  | 10, _ => show csum 65535 (headF m) / 256 < 256; omega
  | 11, _ => show csum 65535 (headF m) % 256 < 256; omega
theorem msg_val (m : Msg) : m.val = msgV m.kind m.frm m.to m.line m.serial m.turn m.value m.alone := rfl
theorem readF_bytesF (m : Msg) (h : Fit m) : readF (bytesF m) = m := by
  obtain ⟨kind, frm, to, line, serial, turn, value, alone⟩ := m
  obtain ⟨h1, h2, h3, h4, h5, h6, h7, h8, h9, h10, h11, h12, h13, h14⟩ := h
  simp only at h1 h2 h3 h4 h5 h6 h7 h8 h9 h10 h11 h12 h13 h14
  have e : readF (bytesF ⟨kind, frm, to, line, serial, turn, value, alone⟩) = { kind := (kind.toNat : Nat), frm := ((frm.toNat * 16 + to.toNat) / 16 : Nat), to := ((frm.toNat * 16 + to.toNat) % 16 : Nat), line := (line.toNat : Nat), serial := (serial.toNat / 256 * 256 + serial.toNat % 256 : Nat), turn := (turn.toNat / 256 * 256 + turn.toNat % 256 : Nat), value := (value.toNat : Nat), alone := ((flagN alone : Nat) : Int) == 1 } := rfl
  rw [e]
  congr 1
  any_goals omega
  cases alone <;> rfl
theorem sumBad_bytesF (m : Msg) : sumBad (bytesF m) = false := by
  have : sumBad (bytesF m) = ((csum 65535 (headF m) : Int) != ((csum 65535 (headF m) / 256 * 256 + csum 65535 (headF m) % 256 : Nat) : Int)) := rfl
  rw [this]
  simp only [bne_eq_false_iff_eq]
  omega
theorem parse_bytesF (c : Cfg) (m : Msg) (h : Fit m) (hw : wrongF c m = 0) : parseF c (bytesF m) = (m, 0) := by
  unfold parseF
  rw [if_neg (by simp [bytesF_length]), sumBad_bytesF, if_neg (by simp), readF_bytesF m h, hw]
  rw [if_neg (by
    show ¬ (1 < flagN m.alone ∨ 0 ≠ 0)
    have := flagN_lt m.alone
    omega)]
  simp
theorem bit_ne (x j : Nat) : ∃ i, i = j ∧ x / 2 ^ i % 2 ≠ (x ^^^ 2 ^ j) / 2 ^ i % 2 ∧ ∀ i, i ≠ j → x / 2 ^ i % 2 = (x ^^^ 2 ^ j) / 2 ^ i % 2 := by
  have key : ∀ i, ((x ^^^ 2 ^ j) / 2 ^ i % 2 = 1) ↔ ((x / 2 ^ i % 2 = 1) ↔ ¬ i = j) := by
    intro i
    have h1 : (x ^^^ 2 ^ j).testBit i = (x.testBit i ^^ (2 ^ j).testBit i) := Nat.testBit_xor ..
    rw [Nat.testBit_two_pow] at h1
    rw [Nat.testBit_eq_decide_div_mod_eq, Nat.testBit_eq_decide_div_mod_eq] at h1
    by_cases hij : i = j
    · subst hij
      by_cases hx : x / 2 ^ i % 2 = 1 <;> simp [hx] at h1 ⊢ <;> omega
    · by_cases hx : x / 2 ^ i % 2 = 1
      · simp [hx, hij, Ne.symm hij] at h1 ⊢; omega
      · simp [hx, hij, Ne.symm hij] at h1 ⊢; omega
  refine ⟨j, rfl, fun e => ?_, fun i hi => ?_⟩
  · have := key j
    simp at this
    omega
  · have := key i
    simp [hi] at this
    omega
theorem cbyte_ne (s x j : Nat) (hs : s < 65536) (hj : j < 8) : cbyte s x ≠ cbyte s (x ^^^ 2 ^ j) := by
  obtain ⟨i, rfl, h1, h2⟩ := bit_ne x j
  exact cbits_ne 8 s x (x ^^^ 2 ^ i) hs ⟨i, hj, h1, fun k _ hk => h2 k hk⟩
theorem xor_ne (x j : Nat) : x ^^^ 2 ^ j ≠ x := by
  intro h
  obtain ⟨i, rfl, h1, _⟩ := bit_ne x j
  rw [h] at h1
  exact h1 rfl
theorem xor_lt (x j : Nat) (hx : x < 256) (hj : j < 8) : x ^^^ 2 ^ j < 256 := by
  have hp : 2 ^ j < 256 := Nat.lt_of_lt_of_le (Nat.pow_lt_pow_right (by omega) hj) (by decide)
  exact Nat.xor_lt_two_pow (n := 8) hx hp
/-- One bit of a frame turned: its sum isn't that of its bytes. -/
theorem sumBad_turn (m : Msg) (bit : Int) (h0 : 0 ≤ bit) (h1 : bit < 96) : sumBad (turnF (bytesF m) bit) = true := by
  have hlen := bytesF_length m
  have hc : 0 ≤ bit ∧ bit / 8 < (bytesF m).length := by rw [hlen]; omega
  unfold turnF
  rw [if_pos hc]
  obtain ⟨k, hk⟩ : ∃ k, k = (bit / 8).toNat := ⟨_, rfl⟩
  obtain ⟨j, hj⟩ : ∃ j, j = (bit % 8).toNat := ⟨_, rfl⟩
  rw [← hk, ← hj]
  have hj8 : j < 8 := by omega
  have hk12 : k < 12 := by omega
  have hsb := csum_bd (headF m) 65535 (by omega)
  unfold sumBad
  rw [bne_iff_ne]
  by_cases hk10 : k < 10
  · have e1 : ((bytesF m).set k ((bytesF m).getD k 0 ^^^ 2 ^ j)).take 10 = (headF m).set k ((headF m).getD k 0 ^^^ 2 ^ j) := by
      match k, hk10 with
      | 0, _ => rfl
      | 1, _ => rfl
      | 2, _ => rfl
      | 3, _ => rfl
      | 4, _ => rfl
      | 5, _ => rfl
      | 6, _ => rfl
      | 7, _ => rfl
      | 8, _ => rfl
      | 9, _ => rfl
    have e2 : ((bytesF m).set k ((bytesF m).getD k 0 ^^^ 2 ^ j)).getD 10 0 = csum 65535 (headF m) / 256 := by
      match k, hk10 with
      | 0, _ => rfl
      | 1, _ => rfl
      | 2, _ => rfl
      | 3, _ => rfl
      | 4, _ => rfl
      | 5, _ => rfl
      | 6, _ => rfl
      | 7, _ => rfl
      | 8, _ => rfl
      | 9, _ => rfl
    have e3 : ((bytesF m).set k ((bytesF m).getD k 0 ^^^ 2 ^ j)).getD 11 0 = csum 65535 (headF m) % 256 := by
      match k, hk10 with
      | 0, _ => rfl
      | 1, _ => rfl
      | 2, _ => rfl
      | 3, _ => rfl
      | 4, _ => rfl
      | 5, _ => rfl
      | 6, _ => rfl
      | 7, _ => rfl
      | 8, _ => rfl
      | 9, _ => rfl
    rw [e1, e2, e3]
    have hne : csum 65535 ((headF m).set k ((headF m).getD k 0 ^^^ 2 ^ j)) ≠ csum 65535 (headF m) := by
      have hkl : k < (headF m).length := hk10
      have hsplit : headF m = (headF m).take k ++ (headF m).getD k 0 :: (headF m).drop (k + 1) := by
        simp [List.getD, hkl]
      have hset : (headF m).set k ((headF m).getD k 0 ^^^ 2 ^ j) = (headF m).take k ++ ((headF m).getD k 0 ^^^ 2 ^ j) :: (headF m).drop (k + 1) := List.set_eq_take_append_cons_drop .. |>.trans (by rw [if_pos hkl])
      rw [hset]
      conv => rhs; rw [hsplit]
      exact csum_ne _ _ _ _ _ (by omega) (cbyte_ne _ _ _ (csum_bd _ _ (by omega)) hj8).symm
    omega
  · by_cases hk10 : k = 10
    · subst hk10
      have e1 : ((bytesF m).set 10 ((bytesF m).getD 10 0 ^^^ 2 ^ j)).take 10 = headF m := rfl
      have e2 : ((bytesF m).set 10 ((bytesF m).getD 10 0 ^^^ 2 ^ j)).getD 10 0 = (csum 65535 (headF m) / 256) ^^^ 2 ^ j := rfl
      have e3 : ((bytesF m).set 10 ((bytesF m).getD 10 0 ^^^ 2 ^ j)).getD 11 0 = csum 65535 (headF m) % 256 := rfl
      rw [e1, e2, e3]
      have := xor_ne (csum 65535 (headF m) / 256) j
      omega
    · obtain rfl : k = 11 := by omega
      have e1 : ((bytesF m).set 11 ((bytesF m).getD 11 0 ^^^ 2 ^ j)).take 10 = headF m := rfl
      have e2 : ((bytesF m).set 11 ((bytesF m).getD 11 0 ^^^ 2 ^ j)).getD 10 0 = csum 65535 (headF m) / 256 := rfl
      have e3 : ((bytesF m).set 11 ((bytesF m).getD 11 0 ^^^ 2 ^ j)).getD 11 0 = (csum 65535 (headF m) % 256) ^^^ 2 ^ j := rfl
      rw [e1, e2, e3]
      have := xor_ne (csum 65535 (headF m) % 256) j
      omega
theorem turnF_length (xs : List Nat) (bit : Int) : (turnF xs bit).length = xs.length := by unfold turnF; split <;> simp
theorem turnF_in {xs : List Nat} {bit : Int} (h : 0 ≤ bit ∧ bit / 8 < xs.length) : turnF xs bit = xs.set (bit / 8).toNat (xs.getD (bit / 8).toNat 0 ^^^ 2 ^ (bit % 8).toNat) := by unfold turnF; rw [if_pos h]
theorem turnF_turnF (xs : List Nat) (bit : Int) : turnF (turnF xs bit) bit = xs := by
  by_cases h : 0 ≤ bit ∧ bit / 8 < xs.length
  · have h' : 0 ≤ bit ∧ bit / 8 < (turnF xs bit).length := by rw [turnF_length]; exact h
    rw [turnF_in h', turnF_in h]
    have hk : (bit / 8).toNat < xs.length := by omega
    simp only [List.set_set]
    rw [show (xs.set (bit / 8).toNat (xs.getD (bit / 8).toNat 0 ^^^ 2 ^ (bit % 8).toNat)).getD (bit / 8).toNat 0 = xs.getD (bit / 8).toNat 0 ^^^ 2 ^ (bit % 8).toNat by simp [List.getD, hk]]
    rw [Nat.xor_assoc, Nat.xor_self, Nat.xor_zero]
    simp [List.getD, hk]
  · have e : turnF xs bit = xs := by unfold turnF; rw [if_neg h]
    rw [e, e]
theorem turnF_isBytes (xs : List Nat) (bit : Int) (h : isBytes xs) : isBytes (turnF xs bit) := by
  unfold turnF
  split
  · rename_i hc
    intro i hi
    have hk : (bit / 8).toNat < xs.length := by omega
    have hi' : i < xs.length := by simpa using hi
    by_cases hik : i = (bit / 8).toNat
    · subst hik
      simp only [List.getD, List.getElem?_set_self hk]
      exact xor_lt _ _ (h _ hk) (by omega)
    · simp only [List.getD, List.getElem?_set_ne (Ne.symm hik)]
      exact h i hi'
  · exact h
theorem parse_turn (c : Cfg) (m : Msg) (bit : Int) (h0 : 0 ≤ bit) (h1 : bit < 96) : parseF c (turnF (bytesF m) bit) = (Msg.zero, 7) := by
  unfold parseF
  rw [if_neg (by rw [turnF_length, bytesF_length]; simp), if_pos (sumBad_turn m bit h0 h1)]
theorem fit_of_wrong {c : Cfg} {m : Msg} (h : wrongF c m = 0) (h1 : c.cores ≤ 4) (h2 : c.lines ≤ 4) : Fit m := by
  unfold wrongF at h
  split at h
  · omega
  · split at h
    · omega
    · rename_i hk hr
      have hr' : rangeB c m = true := by simpa using hr
      simp only [rangeB, upB, Bool.and_eq_true, decide_eq_true_eq] at hr'
      constructor <;> omega
end Go.Proofs.YtpgeopefamomnacGreat
