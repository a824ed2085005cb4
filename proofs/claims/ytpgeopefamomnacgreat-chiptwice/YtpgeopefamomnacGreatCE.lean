/- The developers' core and the document's Build as tables; what the laws ask ahead. -/
import Derived.Test.YtpgeopefamomnacGreatCC
import Derived.Test.YtpgeopefamomnacGreatCD
import Derived.Test.YtpgeopefamomnacGreatBA
set_option linter.unusedSimpArgs false
namespace Go.Proofs.YtpgeopefamomnacGreat
open Go.RowKit
set_option linter.unusedVariables false
set_option maxRecDepth 100000

theorem chear_core (c : SCore) (id home : Int) (m : Msg) (hL : c.lines.length < 1000) (hwt : 0 ≤ m.line → m.line < c.lines.length → ((c.line m.line.toNat).want ≠ 0 → (1 ≤ c.wait.kind ∧ c.wait.kind ≤ 4) ∧ (0 ≤ c.wait.line ∧ c.wait.line < 1000) ∧ 0 ≤ c.wait.value ∧ c.wait.value ≤ 255) ∧ 0 ≤ (c.line m.line.toNat).gave) : FunOK Tryz.prog 83 [.agg (coreC (rowsL c.lines) c.wait), V id, V home, .agg (msgC m)] (hOf []) (hearVF (hearF c id home m)) (hOf []) := by
  have hlen : (rowsL c.lines).length = c.lines.length := rowsL_len _
  unfold hearF
  by_cases ho : m.line < 0 ∨ (c.lines.length : Int) ≤ m.line
  · rw [if_pos ho]
    exact chear_out (rowsL c.lines) (rowsL_one _) (by rw [hlen]; exact hL) c.wait m.kind m.frm m.to m.line m.serial m.turn m.value m.alone id home (by rw [hlen]; exact ho)
  · rw [if_neg ho]
    have hw := hwt (by omega) (by omega)
    have h := hear_in (rowsL c.lines) (rowsL_one _) (by rw [hlen]; exact hL) (c.line m.line.toNat) c.wait m.kind m.frm m.to m.line m.serial m.turn m.value m.alone id home (by omega) (by rw [hlen]; omega) (rowsL_get (by omega)) hw.1 hw.2 _ rfl
    unfold hearV at h
    rw [rowsL_set] at h
    exact h
def cHearT (xs : List AV) (l0 : List (Nat × OS)) : Ans := match xs, l0 with
  | [.agg [.d (.row es), .d (.int .i64 a), .d (.int .i64 b), .d (.int .i64 d)], .c (.d (.int .i64 id)), .c (.d (.int .i64 home)), .agg [.d (.int .i64 mk), .d (.int .i64 mf), .d (.int .i64 mt), .d (.int .i64 ml), .d (.int .i64 ms), .d (.int .i64 mu), .d (.int .i64 mv), .d (.bool ma)]], [] => some (∃ ls, es = rowsL ls ∧ ls.length < 1000 ∧ (0 ≤ ml → ml < ls.length → ((ls.getD ml.toNat SLine.zero).want ≠ 0 → (1 ≤ a ∧ a ≤ 4) ∧ (0 ≤ b ∧ b < 1000) ∧ 0 ≤ d ∧ d ≤ 255) ∧ 0 ≤ (ls.getD ml.toNat SLine.zero).gave), hearVF (hearF ⟨linesR es, ⟨a, b, d⟩⟩ id home ⟨mk, mf, mt, ml, ms, mu, mv, ma⟩), [])
  | _, _ => none
theorem cHear_does : Does Tryz.prog 83 cHearT := ⟨⟨_, Tryz.func83, by decide, rfl⟩, fun xs l0 p v objs h hp => by
  unfold cHearT at h
  split at h
  · cases h
    obtain ⟨ls, rfl, h1, h2⟩ := hp
    rw [linesR_rows]
    exact chear_core ⟨ls, ⟨_, _, _⟩⟩ _ _ (Msg.mk _ _ _ _ _ _ _ _) h1 h2
  · cases h⟩
theorem cBegin_does : Does Tryz.prog 60 beginT := ⟨⟨_, Tryz.func60, by decide, rfl⟩, fun xs l0 p v objs h hp => by
  unfold beginT at h
  split at h
  · cases h
    obtain ⟨ls, rfl, h1, h2⟩ := hp
    rw [linesR_rows]
    exact cbegin_any ⟨ls, ⟨_, _, _⟩⟩ _ _ (SOp.mk _ _ _) h1 h2
  · cases h⟩
theorem cTimer_does : Does Tryz.prog 69 timerT := ⟨⟨_, Tryz.func69, by decide, rfl⟩, fun xs l0 p v objs h hp => by
  unfold timerT at h
  split at h
  · cases h
    obtain ⟨ls, rfl, h1⟩ := hp
    rw [linesR_rows]
    rename_i a b d id home
    have h2 := ctimer_ok ls ⟨a, b, d⟩ id home h1
    unfold tmr at h2
    rw [List.take_of_length_le (Nat.le_refl _)] at h2
    exact h2
  · cases h⟩
def cNewT (xs : List AV) (l0 : List (Nat × OS)) : Ans := match xs, l0 with
  | [.c (.d (.int .i64 n))], [] => some (0 ≤ n ∧ n < 1000, .agg (coreC (rowsL (List.replicate n.toNat SLine.zero)) SOp.zero), [])
  | _, _ => none
theorem cNew_does : Does Tryz.prog 19 cNewT := ⟨⟨_, Tryz.func19, by decide, rfl⟩, fun xs l0 p v objs h hp => by
  unfold cNewT at h
  split at h
  · cases h
    obtain ⟨h1, h2⟩ := hp
    obtain ⟨k, rfl⟩ := Int.eq_ofNat_of_zero_le h1
    exact cnew_ok k (by omega)
  · cases h⟩
def cOwnT (xs : List AV) (l0 : List (Nat × OS)) : Ans := match xs, l0 with
  | [.agg [.d (.row es), .d (.int .i64 a), .d (.int .i64 b), .d (.int .i64 d)]], [] => some ((∀ u ∈ es, u.length = 7) ∧ es.length < 1000, .agg (coreC es ⟨a, b, d⟩), [])
  | _, _ => none
theorem cOwn_does : Does Tryz.prog 34 cOwnT := ⟨⟨_, Tryz.func34, by decide, rfl⟩, fun xs l0 p v objs h hp => by
  unfold cOwnT at h
  split at h
  · cases h
    exact cown_ok _ hp.1 hp.2 (SOp.mk _ _ _)
  · cases h⟩
def sameCoreT (xs : List AV) (l0 : List (Nat × OS)) : Ans := match xs, l0 with
  | [.agg [.d (.row es), .d (.int .i64 a), .d (.int .i64 b), .d (.int .i64 d)], .agg [.d (.row es'), .d (.int .i64 a'), .d (.int .i64 b'), .d (.int .i64 d')]], [] => some (∃ ls, es = rowsL ls ∧ es' = rowsL ls ∧ ls.length < 1000 ∧ a' = a ∧ b' = b ∧ d' = d, Vb true, [])
  | _, _ => none
theorem sameCore_does : Does Tryz.prog 17 sameCoreT := ⟨⟨_, Tryz.func17, by decide, rfl⟩, fun xs l0 p v objs h hp => by
  unfold sameCoreT at h
  split at h
  · cases h
    obtain ⟨ls, rfl, rfl, h1, rfl, rfl, rfl⟩ := hp
    exact sameCore_ok ls (SOp.mk _ _ _) h1
  · cases h⟩
def tabCore : Canon := orT 83 cHearT (orT 60 beginT (orT 69 timerT (orT 19 cNewT (orT 34 cOwnT tab0))))
theorem tabCore_ok : Sound Tryz.prog tabCore := ((((tab0_ok.or cOwn_does).or cNew_does).or cTimer_does).or cBegin_does).or cHear_does
/-- What a core of such a chip has. -/
structure CoreOK (k : SCore) : Prop where
  len : k.lines.length < 1000
  ser : ∀ i, i < k.lines.length → 0 ≤ (k.line i).serial
  see : ∀ i, i < k.lines.length → 0 ≤ (k.line i).seen
  gav : ∀ i, i < k.lines.length → 0 ≤ (k.line i).gave
  wai : ∀ i, i < k.lines.length → (k.line i).want ≠ 0 → (1 ≤ k.wait.kind ∧ k.wait.kind ≤ 4) ∧ (0 ≤ k.wait.line ∧ k.wait.line < 1000) ∧ 0 ≤ k.wait.value ∧ k.wait.value ≤ 255
theorem core_ok {n L : Nat} {x : SChip} {V : Nat → Int} (X : XI n L x V) {p : Nat} (hp : p < n) : CoreOK (x.core p) := by
  have hnl := X.nl p hp
  have hl4 := X.l4
  refine ⟨by omega, fun i hi => ?_, fun i hi => ?_, fun i hi => ?_, fun i hi hw => ?_⟩
  · have h := (X.ci i (by omega)).sr p hp
    have e : (x.core p).line i = lineAt x i p := rfl
    rw [e]; omega
  · have h := (X.ci i (by omega)).gs p hp
    have e : (x.core p).line i = lineAt x i p := rfl
    rw [e]; omega
  · have h := (X.ci i (by omega)).gs p hp
    have e : (x.core p).line i = lineAt x i p := rfl
    rw [e]; omega
  · have WS := (X.wi p hp).some i hi hw
    omega
theorem hear_gave {l : SLine} {w : SOp} {m : Msg} (hg : 0 ≤ l.gave) (hs : 0 ≤ l.seen) : 0 ≤ (hearL l w m).1.gave := by
  unfold hearL
  (repeat' split) <;> simp only [] <;> omega
theorem core_hears {k : SCore} (K : CoreOK k) (id home : Int) (m : Msg) : (hearF k id home m).1.lines.length < 1000 ∧ (0 ≤ m.line → m.line < (hearF k id home m).1.lines.length → (((hearF k id home m).1.line m.line.toNat).want ≠ 0 → (1 ≤ (hearF k id home m).1.wait.kind ∧ (hearF k id home m).1.wait.kind ≤ 4) ∧ (0 ≤ (hearF k id home m).1.wait.line ∧ (hearF k id home m).1.wait.line < 1000) ∧ 0 ≤ (hearF k id home m).1.wait.value ∧ (hearF k id home m).1.wait.value ≤ 255) ∧ 0 ≤ ((hearF k id home m).1.line m.line.toNat).gave) := by
  have hlen := K.len
  unfold hearF
  by_cases ho : m.line < 0 ∨ (k.lines.length : Int) ≤ m.line
  · rw [if_pos ho]
    exact ⟨hlen, fun h0 (h1 : m.line < (k.lines.length : Int)) => absurd ho (by omega)⟩
  · rw [if_neg ho]
    have hj : m.line.toNat < k.lines.length := by omega
    refine ⟨by simpa using hlen, fun h0 h1 => ?_⟩
    rw [line_set_self hj]
    refine ⟨fun hw => ?_, hear_gave (K.gav _ hj) (K.see _ hj)⟩
    have HW := hear_want (l := k.line m.line.toNat) (w := k.wait) (m := m)
    by_cases hd : (hearL (k.line m.line.toNat) k.wait m).2.2 = none
    · rw [HW.1 hd] at hw
      simp only [hd, Option.isSome_none, Bool.false_eq_true, if_false]
      exact K.wai _ hj hw
    · exact absurd (HW.2 hd).2 hw
end Go.Proofs.YtpgeopefamomnacGreat
