/- Chip ChipInv ChipInv1 ChipInv2 ChipInv3 ChipInv4. -/
import Derived.Test.YtpgeopefamomnaeGreatPC
import Derived.Test.YtpgeopefamomnaeGreatPB
set_option linter.unusedSimpArgs false
set_option linter.unusedSectionVars false
namespace Go.Proofs.YtpgeopefamomnaeGreat
set_option maxRecDepth 100000
set_option linter.unusedVariables false
structure SCore where
  lines : List SLine
  wait : SOp
structure SStep where
  kind : Int
  node : Int
  n : Int
  bit : Int
  op : SOp
structure SChip where
  cores : List SCore
  home : List SEntry
  frames : List (List Nat)
def SOp.zero : SOp := ⟨0, 0, 0⟩
def SLine.zero : SLine := ⟨0, 0, 0, 0, 0, 0, 0⟩
def SCore.zero : SCore := ⟨[], SOp.zero⟩
def SEntry.zero : SEntry := ⟨0, 0, 0, 0, 0, 0, false, 0, 0, []⟩
def SChip.zero : SChip := ⟨[], [], []⟩

def SCore.line (c : SCore) (i : Nat) : SLine := c.lines.getD i SLine.zero
def SChip.core (x : SChip) (p : Nat) : SCore := x.cores.getD p SCore.zero
def SChip.entry (x : SChip) (i : Nat) : SEntry := x.home.getD i SEntry.zero
def SChip.cfg (x : SChip) : Cfg := ⟨x.cores.length, x.home.length⟩
/-- Line i of the cores. -/
def lineAt (x : SChip) (i : Nat) : Nat → SLine := fun p => (x.core p).line i

def coreMsg (id home line : Int) (x : Int × Int × Int) : Msg := { kind := x.1, frm := id, to := home, line := line, serial := 0, turn := x.2.1, value := x.2.2, alone := false }

def beginF (c : SCore) (id home : Int) (o : SOp) : SCore × List Msg × List SDone × Int :=
  if o.kind < 1 ∨ 4 < o.kind then (SCore.zero, [], [], 1)
  else if o.line < 0 ∨ (c.lines.length : Int) ≤ o.line ∨ o.value < 0 ∨ 255 < o.value then (SCore.zero, [], [], 3)
  else if c.wait.kind ≠ 0 ∨ 65535 ≤ (c.line o.line.toNat).serial then (SCore.zero, [], [], 8)
  else if (beginL (c.line o.line.toNat) o).2.1 = 0 then
    (⟨c.lines.set o.line.toNat (beginL (c.line o.line.toNat) o).1, c.wait⟩, [], [⟨id, o, (beginL (c.line o.line.toNat) o).2.2⟩], 0)
  else (⟨c.lines.set o.line.toNat (beginL (c.line o.line.toNat) o).1, o⟩, [asksF (beginL (c.line o.line.toNat) o).1 id home o.line], [], 0)
def hearF (c : SCore) (id home : Int) (m : Msg) : SCore × List Msg × List SDone :=
  if m.line < 0 ∨ (c.lines.length : Int) ≤ m.line then (c, [], [])
  else
    (⟨c.lines.set m.line.toNat (hearL (c.line m.line.toNat) c.wait m).1, if (hearL (c.line m.line.toNat) c.wait m).2.2.isSome = true then SOp.zero else c.wait⟩,
      ((hearL (c.line m.line.toNat) c.wait m).2.1.map (coreMsg id home m.line)).toList, ((hearL (c.line m.line.toNat) c.wait m).2.2.map (fun v => (⟨id, c.wait, v⟩ : SDone))).toList)
def timerFrom (id home : Int) : Nat → List SLine → List Msg
  | _, [] => []
  | i, l :: r => (if l.want = 0 then [] else [asksF l id home i]) ++ timerFrom id home (i + 1) r
def timerF (c : SCore) (id home : Int) : List Msg := timerFrom id home 0 c.lines
def homeHearF (l : List SEntry) (id : Int) (m : Msg) : List SEntry × List Msg :=
  if m.line < 0 ∨ (l.length : Int) ≤ m.line ∨ m.frm < 0 ∨ ((l.getD m.line.toNat SEntry.zero).last.length : Int) ≤ m.frm then (l, [])
  else (l.set m.line.toNat (homeL (l.getD m.line.toNat SEntry.zero) m.line id m.frm.toNat m).1, (homeL (l.getD m.line.toNat SEntry.zero) m.line id m.frm.toNat m).2)
def homeTimerFrom (id : Int) : Nat → List SEntry → List Msg
  | _, [] => []
  | i, e :: r => saysF e i id ++ homeTimerFrom id (i + 1) r
def sendB (fs : List (List Nat)) (b : List Nat) : List (List Nat) := if 40 ≤ fs.length then fs else fs ++ [b]
def wayF (fs : List (List Nat)) (l : List Msg) : List (List Nat) := l.foldl (fun fs m => sendB fs (bytesF m)) fs

def newF (c : Cfg) : SChip × Int :=
  if c.cores < 1 ∨ 4 < c.cores ∨ c.lines < 1 ∨ 4 < c.lines then (SChip.zero, 3)
  else (⟨List.replicate c.cores.toNat ⟨List.replicate c.lines.toNat SLine.zero, SOp.zero⟩, List.replicate c.lines.toNat { SEntry.zero with owner := -1, last := List.replicate c.cores.toNat 0 }, []⟩, 0)
def doF (x : SChip) (s : SStep) : SChip × List SDone × Int :=
  if s.kind = 1 then
    if s.node < 0 ∨ (x.cores.length : Int) ≤ s.node then (SChip.zero, [], 5)
    else if (beginF (x.core s.node.toNat) s.node x.cores.length s.op).2.2.2 ≠ 0 then (SChip.zero, [], (beginF (x.core s.node.toNat) s.node x.cores.length s.op).2.2.2)
    else (⟨x.cores.set s.node.toNat (beginF (x.core s.node.toNat) s.node x.cores.length s.op).1, x.home, wayF x.frames (beginF (x.core s.node.toNat) s.node x.cores.length s.op).2.1⟩, (beginF (x.core s.node.toNat) s.node x.cores.length s.op).2.2.1, 0)
  else if s.kind = 6 then
    if s.node < 0 ∨ (x.cores.length : Int) < s.node then (SChip.zero, [], 5)
    else if s.node < x.cores.length then (⟨x.cores, x.home, wayF x.frames (timerF (x.core s.node.toNat) s.node x.cores.length)⟩, [], 0)
    else (⟨x.cores, x.home, wayF x.frames (homeTimerFrom x.cores.length 0 x.home)⟩, [], 0)
  else if s.kind < 2 ∨ 5 < s.kind then (SChip.zero, [], 1)
  else if s.n < 0 ∨ (x.frames.length : Int) ≤ s.n then (SChip.zero, [], 5)
  else if s.kind = 4 then (⟨x.cores, x.home, sendB x.frames (x.frames.getD s.n.toNat [])⟩, [], 0)
  else if s.kind = 5 then
    if (parseF x.cfg (x.frames.getD s.n.toNat [])).2 ≠ 0 then (SChip.zero, [], 6)
    else if s.bit < 0 ∨ 8 * ((x.frames.getD s.n.toNat []).length : Int) ≤ s.bit then (SChip.zero, [], 3)
    else (⟨x.cores, x.home, x.frames.set s.n.toNat (turnF (x.frames.getD s.n.toNat []) s.bit)⟩, [], 0)
  else if s.kind = 3 then (⟨x.cores, x.home, x.frames.eraseIdx s.n.toNat⟩, [], 0)
  else if (parseF x.cfg (x.frames.getD s.n.toNat [])).2 ≠ 0 then (⟨x.cores, x.home, x.frames.eraseIdx s.n.toNat⟩, [], 0)
  else if (parseF x.cfg (x.frames.getD s.n.toNat [])).1.to = x.cores.length then
    (⟨x.cores, (homeHearF x.home x.cores.length (parseF x.cfg (x.frames.getD s.n.toNat [])).1).1, wayF (x.frames.eraseIdx s.n.toNat) (homeHearF x.home x.cores.length (parseF x.cfg (x.frames.getD s.n.toNat [])).1).2⟩, [], 0)
  else
    (⟨x.cores.set (parseF x.cfg (x.frames.getD s.n.toNat [])).1.to.toNat (hearF (x.core (parseF x.cfg (x.frames.getD s.n.toNat [])).1.to.toNat) (parseF x.cfg (x.frames.getD s.n.toNat [])).1.to x.cores.length (parseF x.cfg (x.frames.getD s.n.toNat [])).1).1, x.home,
      wayF (x.frames.eraseIdx s.n.toNat) (hearF (x.core (parseF x.cfg (x.frames.getD s.n.toNat [])).1.to.toNat) (parseF x.cfg (x.frames.getD s.n.toNat [])).1.to x.cores.length (parseF x.cfg (x.frames.getD s.n.toNat [])).1).2.1⟩,
      (hearF (x.core (parseF x.cfg (x.frames.getD s.n.toNat [])).1.to.toNat) (parseF x.cfg (x.frames.getD s.n.toNat [])).1.to x.cores.length (parseF x.cfg (x.frames.getD s.n.toNat [])).1).2.2, 0)
/-- Steps, those that don't go left out: the chip, and all that is done. -/
def stepF (s : SChip × List SDone) (t : SStep) : SChip × List SDone := if (doF s.1 t).2.2 = 0 then ((doF s.1 t).1, s.2 ++ (doF s.1 t).2.1) else s
def buildF (c : Cfg) (l : List SStep) : SChip × List SDone :=
  if (newF c).2 = 0 then (l.take 300).foldl stepF ((newF c).1, []) else ((newF c).1, [])

/-- A frame that is on the way: of a message, or of one that is spoilt. -/
def GoodB (c : Cfg) (b : List Nat) : Prop := ∃ m, wrongF c m = 0 ∧ (b = bytesF m ∨ ∃ bit, 0 ≤ bit ∧ bit < 96 ∧ b = turnF (bytesF m) bit)
/-- A core's operation that waits. -/
structure WI (k : SCore) : Prop where
  none : k.wait.kind = 0 → ∀ i, i < k.lines.length → (k.line i).want = 0
  some : ∀ i, i < k.lines.length → (k.line i).want ≠ 0 → k.wait.line = i ∧ 1 ≤ k.wait.kind ∧ k.wait.kind ≤ 4 ∧ 0 ≤ k.wait.value ∧ k.wait.value ≤ 255 ∧ ((k.line i).want = 1 ↔ k.wait.kind = 1) ∧ ((k.line i).want = 3 ↔ k.wait.kind = 4)
  busy : k.wait.kind ≠ 0 → 0 ≤ k.wait.line ∧ k.wait.line < k.lines.length ∧ (k.line k.wait.line.toNat).want ≠ 0
/-- Numbers stay within what frames can tell. -/
structure RL (l : SLine) : Prop where
  v0 : 0 ≤ l.value
  v1 : l.value ≤ 255
  g0 : 0 ≤ l.given
  g1 : l.given ≤ 255
  s1 : l.serial ≤ 65535
structure RE (e : SEntry) : Prop where
  v0 : 0 ≤ e.value
  v1 : e.value ≤ 255
  t0 : 0 ≤ e.turn
  t1 : e.turn ≤ 65535
structure XI (n L : Nat) (x : SChip) (V : Nat → Int) : Prop where
  n1 : 1 ≤ n
  n4 : n ≤ 4
  l1 : 1 ≤ L
  l4 : L ≤ 4
  nc : x.cores.length = n
  nh : x.home.length = L
  nl : ∀ p, p < n → (x.core p).lines.length = L
  ci : ∀ i, i < L → CI n (lineAt x i) (x.entry i) (V i)
  good : ∀ b ∈ x.frames, GoodB x.cfg b
  mi : ∀ b ∈ x.frames, ∀ m, parseF x.cfg b = (m, 0) → MI n (lineAt x m.line.toNat) (x.entry m.line.toNat) m
  fl : x.frames.length ≤ 40
  wi : ∀ p, p < n → WI (x.core p)
  rl : ∀ p i, p < n → i < L → RL (lineAt x i p)
  re : ∀ i, i < L → RE (x.entry i)
end Go.Proofs.YtpgeopefamomnaeGreat

namespace Go.Proofs.YtpgeopefamomnaeGreat
set_option maxRecDepth 100000
set_option linter.unusedVariables false
theorem wrong_ok {c : Cfg} {m : Msg} (hk : 1 ≤ m.kind ∧ m.kind ≤ 11) (hf : 0 ≤ m.frm ∧ m.frm ≤ c.cores) (ht : 0 ≤ m.to ∧ m.to ≤ c.cores) (hl : 0 ≤ m.line ∧ m.line < c.lines) (hs : 0 ≤ m.serial ∧ m.serial ≤ 65535) (htn : 0 ≤ m.turn ∧ m.turn ≤ 65535) (hv : 0 ≤ m.value ∧ m.value ≤ 255) (hx : (m.frm = c.cores ∧ m.to ≠ c.cores) ∨ (m.frm ≠ c.cores ∧ m.to = c.cores)) : wrongF c m = 0 := by
  unfold wrongF
  rw [if_neg (by omega)]
  have hr : rangeB c m = true := by
    simp only [rangeB, upB, Bool.and_eq_true, decide_eq_true_eq]
    omega
  rw [if_neg (by rw [hr]; simp)]
  rw [if_neg]
  rcases hx with ⟨h1, h2⟩ | ⟨h1, h2⟩
  · have a : (m.frm == c.cores) = true := by simp [h1]
    have b : (m.to == c.cores) = false := by simp [h2]
    rw [a, b]; simp
  · have a : (m.frm == c.cores) = false := by simp [h1]
    have b : (m.to == c.cores) = true := by simp [h2]
    rw [a, b]; simp
theorem wrong_out {c : Cfg} {m : Msg} (h : wrongF c m = 0) : (1 ≤ m.kind ∧ m.kind ≤ 11) ∧ (0 ≤ m.frm ∧ m.frm ≤ c.cores) ∧ (0 ≤ m.to ∧ m.to ≤ c.cores) ∧ (0 ≤ m.line ∧ m.line < c.lines) ∧ (0 ≤ m.serial ∧ m.serial ≤ 65535) ∧ (0 ≤ m.turn ∧ m.turn ≤ 65535) ∧ (0 ≤ m.value ∧ m.value ≤ 255) ∧ ((m.frm = c.cores ∧ m.to ≠ c.cores) ∨ (m.frm ≠ c.cores ∧ m.to = c.cores)) := by
  unfold wrongF at h
  split at h
  · omega
  · rename_i hk
    split at h
    · omega
    · rename_i hr
      have hr' : rangeB c m = true := by simpa using hr
      simp only [rangeB, upB, Bool.and_eq_true, decide_eq_true_eq] at hr'
      split at h
      · omega
      · rename_i hx
        refine ⟨by omega, by omega, by omega, by omega, by omega, by omega, by omega, ?_⟩
        by_cases a : m.frm = c.cores
        · by_cases b : m.to = c.cores
          · exfalso; apply hx; simp [a, b]
          · exact .inl ⟨a, b⟩
        · by_cases b : m.to = c.cores
          · exact .inr ⟨a, b⟩
          · exfalso; apply hx
            have a' : (m.frm == c.cores) = false := by simp [a]
            have b' : (m.to == c.cores) = false := by simp [b]
            rw [a', b']
theorem parse_wrong {c : Cfg} {b : List Nat} {m : Msg} (h : parseF c b = (m, 0)) : wrongF c m = 0 := by
  unfold parseF at h
  split at h
  · simp at h
  · split at h
    · simp at h
    · split at h
      · simp at h
      · split at h
        · rename_i hw
          simp only [Prod.mk.injEq] at h
          exact absurd h.2 hw
        · rename_i hw
          simp only [Prod.mk.injEq] at h
          rw [← h.1]
          simpa using hw
/-- A good frame: its message, or none. -/
theorem good_parse {c : Cfg} {b : List Nat} (hc : c.cores ≤ 4) (hl : c.lines ≤ 4) (h : GoodB c b) : (∃ m, wrongF c m = 0 ∧ b = bytesF m ∧ parseF c b = (m, 0)) ∨ parseF c b = (Msg.zero, 7) := by
  obtain ⟨m, hw, hb | ⟨bit, h0, h1, hb⟩⟩ := h
  · exact .inl ⟨m, hw, hb, by rw [hb]; exact parse_bytesF c m (fit_of_wrong hw hc hl) hw⟩
  · exact .inr (by rw [hb]; exact parse_turn c m bit h0 h1)
theorem good_len {c : Cfg} {b : List Nat} (h : GoodB c b) : b.length = 12 := by
  obtain ⟨m, hw, hb | ⟨bit, h0, h1, hb⟩⟩ := h
  · rw [hb]; exact bytesF_length m
  · rw [hb, turnF_length]; exact bytesF_length m

theorem tell_range {v : Int} {o : SOp} (h : 0 ≤ v ∧ v ≤ 255) (ho : 0 ≤ o.value ∧ o.value ≤ 255) : 0 ≤ (tellF v o).1 ∧ (tellF v o).1 ≤ 255 := by
  unfold tellF
  split
  · exact h
  · split
    · exact ho
    · split
      · simp only []; omega
      · exact h
/-- All that comes of a message that a core hears. -/
theorem hear_ok {n : Nat} {c : Nat → SLine} {e : SEntry} {V : Int} {p : Nat} {w : SOp} {m : Msg} {home : Int} (hn : n ≤ 4) (I : CI n c e V) (hm : MI n c e m) (hp : p < n) (ht : m.to = p) (hw1 : (c p).want = 1 → w.kind = 1) (hw3 : (c p).want = 3 → w.kind = 4) :
    ∃ V', CI n (updL c p (hearL (c p) w m).1) e V' ∧ (∀ x, MI n c e x → MI n (updL c p (hearL (c p) w m).1) e x) ∧ (∀ s, (hearL (c p) w m).2.1 = some s → MI n (updL c p (hearL (c p) w m).1) e (coreSays p home m.line s)) ∧
      ((hearL (c p) w m).2.2 = none → V' = V) ∧ (∀ told, (hearL (c p) w m).2.2 = some told → V' = (tellF V w).1 ∧ told = (tellF V w).2) := by
  have same : (hearL (c p) w m).1 = c p → (hearL (c p) w m).2.2 = none → (∀ s, (hearL (c p) w m).2.1 = some s → MI n c e (coreSays p home m.line s)) → _ := fun e1 e2 e3 => (show ∃ V', CI n (updL c p (hearL (c p) w m).1) e V' ∧ (∀ x, MI n c e x → MI n (updL c p (hearL (c p) w m).1) e x) ∧ (∀ s, (hearL (c p) w m).2.1 = some s → MI n (updL c p (hearL (c p) w m).1) e (coreSays p home m.line s)) ∧
      ((hearL (c p) w m).2.2 = none → V' = V) ∧ (∀ told, (hearL (c p) w m).2.2 = some told → V' = (tellF V w).1 ∧ told = (tellF V w).2) from ⟨V, by rw [e1, updL_same]; exact I, fun x hx => by rw [e1, updL_same]; exact hx, fun s hs => by rw [e1, updL_same]; exact e3 s hs, fun _ => rfl, fun told h => by rw [e2] at h; cases h⟩)
  by_cases h4 : m.kind = 4
  · have hd : (hearL (c p) w m).2 = (some (8, m.turn, 0), none) := by simp [hearL, h4]
    refine ⟨V, ci_inv hn I hm hp h4 ht, fun x hx => mi_inv I hm hp h4 ht hx, fun s hs => ?_, fun _ => rfl, fun told h => ?_⟩
    · rw [hd] at hs
      cases hs
      exact mi_gone h4
    · rw [hd] at h; cases h
  by_cases h56 : m.kind = 5 ∨ m.kind = 6
  · by_cases hg : 0 < m.turn ∧ m.turn = (c p).gave
    · have hh := hear_fetch_again (w := w) h56 hg
      refine same (by rw [hh]) (by rw [hh]) fun s hs => ?_
      rw [hh] at hs
      cases hs
      exact mi_again
    · by_cases hs : m.turn ≤ (c p).seen ∨ ((c p).state ≠ 2 ∧ (c p).state ≠ 3)
      · have hh := hear_fetch_none (w := w) h56 hg hs
        exact same (by rw [hh]) (by rw [hh]) fun s hs => by rw [hh] at hs; cases hs
      · have hh := hear_fetch_given (w := w) h56 hg hs
        rw [hh]
        refine ⟨V, ci_given hn I hm hp h56 ht hs, fun x hx => mi_given hn I hm hp h56 ht hs hx, fun s hs => ?_, fun _ => rfl, fun told h => ?_⟩
        · cases hs; exact mi_data
        · by_cases h3 : (c p).want = 3
          · simp only [h3, if_true, Option.some.injEq] at h
            have := hw3 h3
            subst h
            simp [tellF, this]
          · simp [h3] at h
  by_cases h7 : m.kind = 7
  · by_cases ha : (c p).serial < m.serial
    · have hh := hear_grant_above (w := w) h7 ha
      exact same (by rw [hh]) (by rw [hh]) fun s hs => by rw [hh] at hs; cases hs
    · by_cases h2 : m.serial < (c p).serial ∨ (m.alone = true ∧ (c p).want ≠ 2) ∨ (m.alone = false ∧ (c p).want ≠ 1)
      · have hh := hear_grant_old (w := w) h7 ha h2
        refine same (by rw [hh]) (by rw [hh]) fun s hs => ?_
        rw [hh] at hs
        cases hs
        exact mi_thanks_old I hm hp h7 ht h2
      · have hh := hear_grant_new (w := w) h7 ha h2
        have hV : m.value = V := by have := grant_now I hm hp h7 ht ha h2; omega
        rw [hh]
        refine ⟨(tellF V w).1, ci_granted hn I hm hp h7 ht hw1 ha h2, fun x hx => mi_granted I hm hp h7 ht ha h2 hx, fun s hs => ?_, fun h => (by cases h), fun told h => ?_⟩
        · cases hs; exact mi_thanks_new
        · cases h; rw [hV]; exact ⟨rfl, rfl⟩
  by_cases h11 : m.kind = 11
  · by_cases h : (c p).want = 3 ∧ m.serial = (c p).serial
    · have hh := hear_taken (w := w) h11 h
      rw [hh]
      refine ⟨V, ci_taken hn I hm hp h11 ht h, fun x hx => mi_taken I hm hp h11 ht h hx, fun s hs => (by cases hs), fun _ => rfl, fun told h' => ?_⟩
      cases h'
      have := hw3 h.1
      simp [tellF, this]
    · have hh := hear_taken_none (w := w) h11 h
      exact same (by rw [hh]) (by rw [hh]) fun s hs => by rw [hh] at hs; cases hs
  · have hh := hear_other (l := c p) (w := w) (m := m) h4 (by omega) (by omega) h7 h11
    exact same (by rw [hh]) (by rw [hh]) fun s hs => by rw [hh] at hs; cases hs
/-- All that comes of a message that the home hears. -/
theorem home_ok {n : Nat} {c : Nat → SLine} {e : SEntry} {V : Int} {p : Nat} {m : Msg} {line id : Int} (hn : n ≤ 4) (I : CI n c e V) (hm : MI n c e m) (hp : p < n) (hf : m.frm = p) :
    CI n c (homeL e line id p m).1 V ∧ (∀ x, MI n c e x → MI n c (homeL e line id p m).1 x) ∧ (∀ y ∈ (homeL e line id p m).2, MI n c (homeL e line id p m).1 y) := by
  have same : homeL e line id p m = (e, []) → CI n c (homeL e line id p m).1 V ∧ (∀ x, MI n c e x → MI n c (homeL e line id p m).1 x) ∧ (∀ y ∈ (homeL e line id p m).2, MI n c (homeL e line id p m).1 y) := fun h => by
    rw [h]; exact ⟨I, fun x hx => hx, fun y hy => by simp at hy⟩
  by_cases h12 : m.kind = 1 ∨ m.kind = 2
  · by_cases hq : e.phase ≠ 0 ∨ m.serial ≤ lastF e p ∨ 65535 ≤ e.turn
    · exact same (by rw [homeL, if_pos h12, if_pos hq])
    · have hh : homeL e line id p m = (nextF (takeUp e p m), saysF (nextF (takeUp e p m)) line id) := by rw [homeL, if_pos h12, if_neg hq]; rfl
      rw [hh]
      have C := ci_takeUp hn I hm hp h12 hf (by omega) (by omega)
      exact ⟨C, fun x hx => mi_takeUp hn I hm hp h12 hf (by omega) (by omega) hx, fun y hy => mi_says C hy⟩
  by_cases h3 : m.kind = 3
  · by_cases hq : e.phase ≠ 0
    · exact same (by rw [homeL, if_neg h12, if_pos h3, if_pos hq])
    · have hh : homeL e line id p m = (putL e p m, [{ kind := 11, frm := id, to := p, line := line, serial := m.serial, turn := 0, value := 0, alone := false }]) := by rw [homeL, if_neg h12, if_pos h3, if_neg hq]; rfl
      rw [hh]
      refine ⟨ci_put hn I hm hp h3 hf (by omega), fun x hx => mi_put I hp (by omega) hx, fun y hy => ?_⟩
      simp only [List.mem_singleton] at hy
      subst hy
      exact mi_takenSay I hp
  by_cases h9 : m.kind = 9
  · by_cases hq : e.phase ≠ 1 ∨ m.turn ≠ e.turn ∨ e.owner ≠ p
    · exact same (by rw [homeL, if_neg h12, if_neg h3, if_pos h9, if_pos hq])
    · have hh : homeL e line id p m = (nextF (dataL e p m), saysF (nextF (dataL e p m)) line id) := by rw [homeL, if_neg h12, if_neg h3, if_pos h9, if_neg hq]; rfl
      rw [hh]
      have C := ci_data hn I hm hp h9 hf (by omega) (by omega) (by omega)
      exact ⟨C, fun x hx => mi_dataHome hn I hm hp h9 hf (by omega) (by omega) (by omega) hx, fun y hy => mi_says C hy⟩
  by_cases h8 : m.kind = 8
  · by_cases hq : e.phase ≠ 2 ∨ m.turn ≠ e.turn ∨ hasF e.need p = false
    · exact same (by rw [homeL, if_neg h12, if_neg h3, if_neg h9, if_pos h8, if_pos hq])
    · have hN : hasF e.need p = true := by
        cases h : hasF e.need p
        · exact absurd (.inr (.inr h)) hq
        · rfl
      have hh : homeL e line id p m = (if 0 < (goneL e p).need then goneL e p else nextF (goneL e p), if 0 < (goneL e p).need then [] else saysF (nextF (goneL e p)) line id) := by
        rw [homeL, if_neg h12, if_neg h3, if_neg h9, if_pos h8, if_neg hq]
        show (if 0 < (goneL e p).need then (goneL e p, []) else (nextF (goneL e p), saysF (nextF (goneL e p)) line id)) = _
        split <;> rfl
      have C := ci_gone hn I hm hp h8 hf (by omega) (by omega) hN
      rw [hh]
      refine ⟨C, fun x hx => mi_goneHome hn I hm hp h8 hf (by omega) (by omega) hN hx, fun y hy => ?_⟩
      by_cases hz : 0 < (goneL e p).need
      · simp [hz] at hy
      · simp only [hz, if_false] at hy C ⊢
        exact mi_says C hy
  by_cases h10 : m.kind = 10
  · by_cases hq : e.phase ≠ 3 ∨ m.turn ≠ e.turn ∨ e.forr ≠ p
    · exact same (by rw [homeL, if_neg h12, if_neg h3, if_neg h9, if_neg h8, if_pos h10, if_pos hq])
    · have hh : homeL e line id p m = (thanksL e p, []) := by rw [homeL, if_neg h12, if_neg h3, if_neg h9, if_neg h8, if_pos h10, if_neg hq]; rfl
      rw [hh]
      exact ⟨ci_thanks hn I hm hp h10 hf (by omega) (by omega) (by omega), fun x hx => mi_thanksHome hn I hm hp h10 hf (by omega) (by omega) (by omega) hx, fun y hy => by simp at hy⟩
  · exact same (by rw [homeL, if_neg h12, if_neg h3, if_neg h9, if_neg h8, if_neg h10])
end Go.Proofs.YtpgeopefamomnaeGreat

namespace Go.Proofs.YtpgeopefamomnaeGreat
set_option maxRecDepth 100000
set_option linter.unusedVariables false
theorem hear_range {l : SLine} {w : SOp} {m : Msg} (h : RL l) (hv : 0 ≤ m.value ∧ m.value ≤ 255) (ho : 0 ≤ w.value ∧ w.value ≤ 255) : RL (hearL l w m).1 := by
  have ht := tell_range hv ho
  obtain ⟨a, b, c, d, s⟩ := h
  unfold hearL
  split
  · split
    · split <;> (constructor <;> simp <;> omega)
    · constructor <;> simp <;> omega
  · split
    · split
      · constructor <;> simp <;> omega
      · split
        · constructor <;> simp <;> omega
        · split
          · constructor <;> simp <;> omega
          · split <;> (constructor <;> simp <;> omega)
    · split
      · split
        · constructor <;> simp <;> omega
        · split
          · constructor <;> simp <;> omega
          · constructor <;> simp <;> omega
      · split
        · split <;> (constructor <;> simp <;> omega)
        · constructor <;> simp <;> omega
theorem begin_range {l : SLine} {o : SOp} (h : RL l) (ho : 0 ≤ o.value ∧ o.value ≤ 255) (hs : l.serial < 65535) : RL (beginL l o).1 := by
  have ht := tell_range ⟨h.v0, h.v1⟩ ho
  obtain ⟨a, b, c, d, s⟩ := h
  unfold beginL
  split
  · split <;> (constructor <;> simp <;> omega)
  · split
    · split <;> (constructor <;> simp <;> omega)
    · split <;> (constructor <;> simp <;> omega)
theorem next_same (e : SEntry) : (nextF e).value = e.value ∧ (nextF e).turn = e.turn ∧ (nextF e).serial = e.serial := by
  unfold nextF; split <;> simp
theorem home_range {e : SEntry} {p : Nat} {m : Msg} {line id : Int} (h : RE e) (hv : 0 ≤ m.value ∧ m.value ≤ 255) : RE (homeL e line id p m).1 := by
  obtain ⟨a, b, c, d⟩ := h
  unfold homeL
  split
  · split
    · exact ⟨a, b, c, d⟩
    · have := next_same (takeUp e p m)
      have e1 : (takeUp e p m).value = e.value := rfl
      have e2 : (takeUp e p m).turn = e.turn + 1 := rfl
      constructor
      · show 0 ≤ (nextF (takeUp e p m)).value; omega
      · show (nextF (takeUp e p m)).value ≤ 255; omega
      · show 0 ≤ (nextF (takeUp e p m)).turn; omega
      · show (nextF (takeUp e p m)).turn ≤ 65535; omega
  · split
    · split
      · exact ⟨a, b, c, d⟩
      · show RE (putL e p m)
        unfold putL
        split
        · split <;> (constructor <;> simp <;> omega)
        · exact ⟨a, b, c, d⟩
    · split
      · split
        · exact ⟨a, b, c, d⟩
        · have := next_same (dataL e p m)
          have e1 : (dataL e p m).value = m.value := rfl
          have e2 : (dataL e p m).turn = e.turn := rfl
          constructor
          · show 0 ≤ (nextF (dataL e p m)).value; omega
          · show (nextF (dataL e p m)).value ≤ 255; omega
          · show 0 ≤ (nextF (dataL e p m)).turn; omega
          · show (nextF (dataL e p m)).turn ≤ 65535; omega
      · split
        · split
          · exact ⟨a, b, c, d⟩
          · have := next_same (goneL e p)
            have e1 : (goneL e p).value = e.value := rfl
            have e2 : (goneL e p).turn = e.turn := rfl
            show RE (if 0 < (goneL e p).need then (goneL e p, ([] : List Msg)) else (nextF (goneL e p), saysF (nextF (goneL e p)) line id)).1
            split
            · exact ⟨by simp only []; omega, by simp only []; omega, by simp only []; omega, by simp only []; omega⟩
            · exact ⟨by simp only []; omega, by simp only []; omega, by simp only []; omega, by simp only []; omega⟩
        · split
          · split
            · exact ⟨a, b, c, d⟩
            · show RE (thanksL e p)
              unfold thanksL
              split <;> (constructor <;> simp <;> omega)
          · exact ⟨a, b, c, d⟩

theorem says_right {n : Nat} {c : Nat → SLine} {e : SEntry} {V : Int} {line L : Int} {y : Msg} (I : CI n c e V) (hr : RE e) (hs : ∀ p, p < n → (c p).serial ≤ 65535) (hl : 0 ≤ line ∧ line < L) (hy : y ∈ saysF e line n) : y.line = line ∧ wrongF ⟨n, L⟩ y = 0 := by
  obtain ⟨a, b, t0, t1⟩ := hr
  unfold saysF at hy
  by_cases h1 : e.phase = 1
  · rw [if_pos h1] at hy
    simp only [List.mem_singleton] at hy
    subst hy
    have := (I.fetch h1).1
    have := I.ow
    refine ⟨rfl, wrong_ok ?_ ?_ ?_ ?_ ?_ ?_ ?_ (.inl ⟨rfl, ?_⟩)⟩ <;> simp only [saysTo]
    · split <;> omega
    all_goals omega
  · rw [if_neg h1] at hy
    by_cases h2 : e.phase = 2
    · rw [if_pos h2] at hy
      simp only [List.mem_map, List.mem_filter] at hy
      obtain ⟨p, ⟨hp4, hp⟩, rfl⟩ := hy
      have hpn := (I.need h2 p (by simp at hp4; omega) hp).1
      refine ⟨rfl, wrong_ok ?_ ?_ ?_ ?_ ?_ ?_ ?_ (.inl ⟨rfl, ?_⟩)⟩ <;> simp only [saysTo] <;> omega
    · rw [if_neg h2] at hy
      by_cases h3 : e.phase = 3
      · rw [if_pos h3] at hy
        simp only [List.mem_singleton] at hy
        subst hy
        have f := I.fr
        have hq : e.forr.toNat < n := by omega
        have r := (I.req (by omega) e.forr.toNat hq (by omega)).1
        have s := I.sr e.forr.toNat hq
        have s2 := hs e.forr.toNat hq
        refine ⟨rfl, wrong_ok ?_ ?_ ?_ ?_ ?_ ?_ ?_ (.inl ⟨rfl, ?_⟩)⟩ <;> simp only [] <;> omega
      · rw [if_neg h3] at hy
        simp at hy
theorem home_right {n : Nat} {c : Nat → SLine} {e : SEntry} {V : Int} {p : Nat} {m : Msg} {line L : Int} (hn : n ≤ 4) (I : CI n c e V) (hm : MI n c e m) (hp : p < n) (hf : m.frm = p) (hr : RE e) (hs : ∀ q, q < n → (c q).serial ≤ 65535) (hl : 0 ≤ line ∧ line < L) (hv : 0 ≤ m.value ∧ m.value ≤ 255) (hse : 0 ≤ m.serial ∧ m.serial ≤ 65535) :
    ∀ y ∈ (homeL e line n p m).2, y.line = line ∧ wrongF ⟨n, L⟩ y = 0 := by
  intro y hy
  have C := (home_ok (line := line) (id := n) hn I hm hp hf).1
  have R := home_range (p := p) (m := m) (line := line) (id := n) hr hv
  by_cases h3 : m.kind = 3
  · have h12 : ¬ (m.kind = 1 ∨ m.kind = 2) := by omega
    rw [homeL, if_neg h12, if_pos h3] at hy
    split at hy
    · simp at hy
    · simp only [List.mem_singleton] at hy
      subst hy
      refine ⟨rfl, wrong_ok ?_ ?_ ?_ ?_ ?_ ?_ ?_ (.inl ⟨rfl, ?_⟩)⟩ <;> simp only [] <;> omega
  · have hsy : y ∈ saysF (homeL e line n p m).1 line n := by
      unfold homeL at hy ⊢
      split at hy
      · split at hy
        · simp at hy
        · rename_i h1 h2; rw [if_pos h1, if_neg h2]; exact hy
      · rename_i h12
        rw [if_neg h12]
        rw [if_neg h3]
        split at hy
        · split at hy
          · simp at hy
          · rename_i h1 h2; rw [if_pos h1, if_neg h2]; exact hy
        · rename_i h9
          rw [if_neg h9]
          split at hy
          · rename_i h8
            rw [if_pos h8]
            split at hy
            · simp at hy
            · rename_i h2
              rw [if_neg h2]
              simp only [] at hy ⊢
              split at hy
              · simp at hy
              · rename_i hz
                rw [if_neg hz]
                exact hy
          · rename_i h8
            rw [if_neg h8]
            split at hy
            · split at hy <;> simp at hy
            · simp at hy
    exact says_right C R hs hl hsy
theorem core_right {n p : Nat} {l : SLine} {w : SOp} {m : Msg} {L T : Int} (hp : p < n) (hr : RL l) (hg : 0 ≤ l.gave ∧ l.gave ≤ T ∧ T ≤ 65535) (hl : 0 ≤ m.line ∧ m.line < L) (htn : 0 ≤ m.turn ∧ m.turn ≤ 65535) {s : Int × Int × Int} (hs : (hearL l w m).2.1 = some s) : wrongF ⟨n, L⟩ (coreMsg p n m.line s) = 0 := by
  obtain ⟨a, b, c, d, e⟩ := hr
  have key : (1 ≤ s.1 ∧ s.1 ≤ 11) ∧ (0 ≤ s.2.1 ∧ s.2.1 ≤ 65535) ∧ (0 ≤ s.2.2 ∧ s.2.2 ≤ 255) := by
    unfold hearL at hs
    split at hs
    · cases hs; simp; omega
    · split at hs
      · split at hs
        · cases hs; simp; omega
        · split at hs
          · cases hs
          · split at hs
            · cases hs; simp; omega
            · split at hs <;> (cases hs; simp; omega)
      · split at hs
        · split at hs
          · cases hs
          · split at hs <;> (cases hs; simp; omega)
        · split at hs
          · split at hs <;> cases hs
          · cases hs
  refine wrong_ok ?_ ?_ ?_ ?_ ?_ ?_ ?_ (.inr ⟨?_, rfl⟩) <;> simp only [coreMsg] <;> omega
theorem asks_right {n p : Nat} {l : SLine} {i L : Int} (hp : p < n) (hr : RL l) (hs : 0 ≤ l.serial) (hw : 0 ≤ l.want ∧ l.want ≤ 3) (h0 : l.want ≠ 0) (hl : 0 ≤ i ∧ i < L) : wrongF ⟨n, L⟩ (asksF l p n i) = 0 := by
  obtain ⟨a, b, c, d, e⟩ := hr
  refine wrong_ok ?_ ?_ ?_ ?_ ?_ ?_ ?_ (.inr ⟨?_, rfl⟩) <;> simp only [asksF]
  case refine_7 => split <;> omega
  all_goals omega
end Go.Proofs.YtpgeopefamomnaeGreat

namespace Go.Proofs.YtpgeopefamomnaeGreat
set_option maxRecDepth 100000
set_option linter.unusedVariables false
theorem getD_set_self {α : Type} {l : List α} {p : Nat} {k d : α} (h : p < l.length) : (l.set p k).getD p d = k := by simp [List.getD, h]
theorem getD_set_ne {α : Type} {l : List α} {p q : Nat} {k d : α} (h : q ≠ p) : (l.set p k).getD q d = l.getD q d := by simp [List.getD, List.getElem?_set_ne (Ne.symm h)]
theorem mem_way {ms : List Msg} : ∀ {fs : List (List Nat)} {b : List Nat}, b ∈ wayF fs ms → b ∈ fs ∨ ∃ m ∈ ms, b = bytesF m := by
  induction ms with
  | nil => intro fs b h; exact .inl h
  | cons m ms ih =>
    intro fs b h
    have h' : b ∈ wayF (sendB fs (bytesF m)) ms := h
    rcases ih h' with h1 | ⟨m1, h1, h2⟩
    · unfold sendB at h1
      split at h1
      · exact .inl h1
      · rcases List.mem_append.1 h1 with h2 | h2
        · exact .inl h2
        · simp only [List.mem_singleton] at h2; exact .inr ⟨m, by simp, h2⟩
    · exact .inr ⟨m1, by simp [h1], h2⟩
theorem len_way {ms : List Msg} : ∀ {fs : List (List Nat)}, fs.length ≤ 40 → (wayF fs ms).length ≤ 40 := by
  induction ms with
  | nil => intro fs h; exact h
  | cons m ms ih =>
    intro fs h
    show (wayF (sendB fs (bytesF m)) ms).length ≤ 40
    refine ih ?_
    unfold sendB
    split
    · exact h
    · simp; omega
theorem cfg_eq {n L : Nat} {x : SChip} {V : Nat → Int} (X : XI n L x V) : x.cfg = ⟨n, L⟩ := by unfold SChip.cfg; rw [X.nc, X.nh]
/-- A message that is right, as a frame. -/
theorem parse_right {n L : Nat} {m : Msg} (hn : n ≤ 4) (hL : L ≤ 4) (h : wrongF ⟨n, L⟩ m = 0) : parseF ⟨n, L⟩ (bytesF m) = (m, 0) := parse_bytesF _ m (fit_of_wrong h (by simp only []; omega) (by simp only []; omega)) h

/-- A core has another line, and says something. -/
theorem xi_core {n L : Nat} {x : SChip} {V : Nat → Int} (X : XI n L x V) {p j : Nat} (hp : p < n) (hj : j < L) {l' : SLine} {w' : SOp} {said : List Msg} {V' : Int} {fs : List (List Nat)}
    (hfs : ∀ b ∈ fs, b ∈ x.frames) (hfl : fs.length ≤ 40) (hc : CI n (updL (lineAt x j) p l') (x.entry j) V') (hm : ∀ m, MI n (lineAt x j) (x.entry j) m → MI n (updL (lineAt x j) p l') (x.entry j) m)
    (hs : ∀ m ∈ said, m.line = j ∧ wrongF ⟨n, L⟩ m = 0 ∧ MI n (updL (lineAt x j) p l') (x.entry j) m) (hw : WI ⟨(x.core p).lines.set j l', w'⟩) (hr : RL l') :
    XI n L ⟨x.cores.set p ⟨(x.core p).lines.set j l', w'⟩, x.home, wayF fs said⟩ (fun i => if i = j then V' else V i) := by
  have hcfg := cfg_eq X
  obtain ⟨y, hy⟩ : ∃ y : SChip, y = ⟨x.cores.set p ⟨(x.core p).lines.set j l', w'⟩, x.home, wayF fs said⟩ := ⟨_, rfl⟩
  rw [← hy]
  have hpl : p < x.cores.length := by rw [X.nc]; exact hp
  have hyc : y.cores.length = n := by rw [hy]; simp [X.nc]
  have hyh : y.home = x.home := by rw [hy]
  have hcfg' : y.cfg = ⟨n, L⟩ := by unfold SChip.cfg; rw [hyc, hyh, X.nh]
  have hcore : ∀ q, y.core q = if q = p then ⟨(x.core p).lines.set j l', w'⟩ else x.core q := by
    intro q
    rw [hy]
    unfold SChip.core
    by_cases e : q = p
    · subst e; rw [if_pos rfl]; exact getD_set_self hpl
    · rw [if_neg e]; exact getD_set_ne e
  have hent : ∀ i, y.entry i = x.entry i := by intro i; unfold SChip.entry; rw [hyh]
  have hline : ∀ i, lineAt y i = if i = j then updL (lineAt x j) p l' else lineAt x i := by
    intro i
    funext q
    unfold lineAt
    rw [hcore q]
    by_cases e : q = p
    · subst e
      rw [if_pos rfl]
      by_cases e2 : i = j
      · subst e2
        rw [if_pos rfl]
        unfold SCore.line updL
        rw [if_pos rfl]
        exact getD_set_self (by rw [X.nl q hp]; exact hj)
      · rw [if_neg e2]
        unfold SCore.line
        exact getD_set_ne e2
    · rw [if_neg e]
      by_cases e2 : i = j
      · subst e2; rw [if_pos rfl]; unfold updL; rw [if_neg e]
      · rw [if_neg e2]
  have hfr : ∀ b ∈ y.frames, (b ∈ x.frames) ∨ ∃ m ∈ said, b = bytesF m := by
    intro b hb
    rw [hy] at hb
    rcases mem_way hb with h | h
    · exact .inl (hfs b h)
    · exact .inr h
  refine ⟨X.n1, X.n4, X.l1, X.l4, hyc, by rw [hyh]; exact X.nh, fun q hq => ?_, fun i hi => ?_, fun b hb => ?_, fun b hb m hbm => ?_, ?_, fun q hq => ?_, fun q i hq hi => ?_, fun i hi => ?_⟩
  · rw [hcore q]
    split
    · simp [X.nl p hp]
    · exact X.nl q hq
  · rw [hline i, hent i]
    by_cases e : i = j
    · subst e; rw [if_pos rfl]; simp only [if_true]; exact hc
    · rw [if_neg e]; simp only [e, if_false]; exact X.ci i hi
  · rw [hcfg']
    rcases hfr b hb with h | ⟨m, h, rfl⟩
    · rw [← hcfg]; exact X.good b h
    · exact ⟨m, (hs m h).2.1, .inl rfl⟩
  · rw [hcfg'] at hbm
    rw [hline, hent]
    rcases hfr b hb with h | ⟨m1, h, rfl⟩
    · have M := X.mi b h m (by rw [hcfg]; exact hbm)
      by_cases e : m.line.toNat = j
      · rw [if_pos e]; rw [e] at M ⊢; exact hm m M
      · rw [if_neg e]; exact M
    · have hs1 := hs m1 h
      rw [parse_right X.n4 X.l4 hs1.2.1] at hbm
      cases hbm
      have e : m.line.toNat = j := by rw [hs1.1]; simp
      rw [if_pos e, e]
      exact hs1.2.2
  · rw [hy]; exact len_way hfl
  · rw [hcore q]
    split
    · exact hw
    · exact X.wi q hq
  · rw [hline i]
    by_cases e : i = j
    · rw [if_pos e]
      unfold updL
      split
      · exact hr
      · exact X.rl q j hq hj
    · rw [if_neg e]; exact X.rl q i hq hi
  · rw [hent i]; exact X.re i hi
/-- The home has another entry, and says something. -/
theorem xi_home {n L : Nat} {x : SChip} {V : Nat → Int} (X : XI n L x V) {j : Nat} (hj : j < L) {e' : SEntry} {said : List Msg} {fs : List (List Nat)}
    (hfs : ∀ b ∈ fs, b ∈ x.frames) (hfl : fs.length ≤ 40) (hc : CI n (lineAt x j) e' (V j)) (hm : ∀ m, MI n (lineAt x j) (x.entry j) m → MI n (lineAt x j) e' m)
    (hs : ∀ m ∈ said, m.line = j ∧ wrongF ⟨n, L⟩ m = 0 ∧ MI n (lineAt x j) e' m) (hr : RE e') : XI n L ⟨x.cores, x.home.set j e', wayF fs said⟩ V := by
  have hcfg := cfg_eq X
  obtain ⟨y, hy⟩ : ∃ y : SChip, y = ⟨x.cores, x.home.set j e', wayF fs said⟩ := ⟨_, rfl⟩
  rw [← hy]
  have hjl : j < x.home.length := by rw [X.nh]; exact hj
  have hyh : y.home.length = L := by rw [hy]; simp [X.nh]
  have hyc : y.cores = x.cores := by rw [hy]
  have hcfg' : y.cfg = ⟨n, L⟩ := by unfold SChip.cfg; rw [hyc, hyh, X.nc]
  have hcore : ∀ q, y.core q = x.core q := by intro q; unfold SChip.core; rw [hyc]
  have hline : ∀ i, lineAt y i = lineAt x i := by intro i; funext q; unfold lineAt; rw [hcore q]
  have hent : ∀ i, y.entry i = if i = j then e' else x.entry i := by
    intro i
    rw [hy]
    unfold SChip.entry
    by_cases e : i = j
    · subst e; rw [if_pos rfl]; exact getD_set_self hjl
    · rw [if_neg e]; exact getD_set_ne e
  have hfr : ∀ b ∈ y.frames, (b ∈ x.frames) ∨ ∃ m ∈ said, b = bytesF m := by
    intro b hb
    rw [hy] at hb
    rcases mem_way hb with h | h
    · exact .inl (hfs b h)
    · exact .inr h
  refine ⟨X.n1, X.n4, X.l1, X.l4, by rw [hyc]; exact X.nc, hyh, fun q hq => by rw [hcore q]; exact X.nl q hq, fun i hi => ?_, fun b hb => ?_, fun b hb m hbm => ?_, ?_, fun q hq => by rw [hcore q]; exact X.wi q hq, fun q i hq hi => by rw [hline i]; exact X.rl q i hq hi, fun i hi => ?_⟩
  · rw [hline i, hent i]
    by_cases e : i = j
    · subst e; rw [if_pos rfl]; exact hc
    · rw [if_neg e]; exact X.ci i hi
  · rw [hcfg']
    rcases hfr b hb with h | ⟨m, h, rfl⟩
    · rw [← hcfg]; exact X.good b h
    · exact ⟨m, (hs m h).2.1, .inl rfl⟩
  · rw [hcfg'] at hbm
    rw [hline, hent]
    rcases hfr b hb with h | ⟨m1, h, rfl⟩
    · have M := X.mi b h m (by rw [hcfg]; exact hbm)
      by_cases e : m.line.toNat = j
      · rw [if_pos e]; rw [e] at M ⊢; exact hm m M
      · rw [if_neg e]; exact M
    · have hs1 := hs m1 h
      rw [parse_right X.n4 X.l4 hs1.2.1] at hbm
      cases hbm
      have e : m.line.toNat = j := by rw [hs1.1]; simp
      rw [if_pos e, e]
      exact hs1.2.2
  · rw [hy]; exact len_way hfl
  · rw [hent i]
    by_cases e : i = j
    · rw [if_pos e]; exact hr
    · rw [if_neg e]; exact X.re i hi
/-- Only what is on the way is other. -/
theorem xi_frames {n L : Nat} {x : SChip} {V : Nat → Int} (X : XI n L x V) {fs : List (List Nat)} (hfl : fs.length ≤ 40) (hg : ∀ b ∈ fs, GoodB ⟨n, L⟩ b) (hm : ∀ b ∈ fs, ∀ m, parseF ⟨n, L⟩ b = (m, 0) → MI n (lineAt x m.line.toNat) (x.entry m.line.toNat) m) : XI n L ⟨x.cores, x.home, fs⟩ V := by
  have hcfg := cfg_eq X
  have hcfg' : (⟨x.cores, x.home, fs⟩ : SChip).cfg = ⟨n, L⟩ := hcfg
  exact ⟨X.n1, X.n4, X.l1, X.l4, X.nc, X.nh, X.nl, X.ci, fun b hb => by rw [hcfg']; exact hg b hb, fun b hb m h => hm b hb m (by rw [← hcfg']; exact h), hfl, X.wi, X.rl, X.re⟩
/-- Something is said of lines as they are. -/
theorem xi_said {n L : Nat} {x : SChip} {V : Nat → Int} (X : XI n L x V) {said : List Msg} (hs : ∀ m ∈ said, wrongF ⟨n, L⟩ m = 0 ∧ MI n (lineAt x m.line.toNat) (x.entry m.line.toNat) m) : XI n L ⟨x.cores, x.home, wayF x.frames said⟩ V := by
  have hcfg := cfg_eq X
  refine xi_frames X (len_way X.fl) (fun b hb => ?_) (fun b hb m hbm => ?_)
  · rcases mem_way hb with h | ⟨m, h, rfl⟩
    · rw [← hcfg]; exact X.good b h
    · exact ⟨m, (hs m h).1, .inl rfl⟩
  · rcases mem_way hb with h | ⟨m1, h, rfl⟩
    · exact X.mi b h m (by rw [hcfg]; exact hbm)
    · have hs1 := hs m1 h
      rw [parse_right X.n4 X.l4 hs1.1] at hbm
      cases hbm
      exact hs1.2
end Go.Proofs.YtpgeopefamomnaeGreat

namespace Go.Proofs.YtpgeopefamomnaeGreat
set_option maxRecDepth 100000
set_option linter.unusedVariables false
/-- What is done by a step: nothing, or one operation, that tells what memory that is one would. -/
def Told (n L : Nat) (V : Nat → Int) (d : List SDone) (V' : Nat → Int) : Prop :=
  (d = [] ∧ ∀ i, V' i = V i) ∨ ∃ (p : Nat) (o : SOp), p < n ∧ 1 ≤ o.kind ∧ o.kind ≤ 4 ∧ 0 ≤ o.line ∧ o.line < L ∧ 0 ≤ o.value ∧ o.value ≤ 255 ∧ d = [⟨p, o, (tellF (V o.line.toNat) o).2⟩] ∧ ∀ i, V' i = if i = o.line.toNat then (tellF (V i) o).1 else V i

theorem hear_want {l : SLine} {w : SOp} {m : Msg} : ((hearL l w m).2.2 = none → (hearL l w m).1.want = l.want) ∧ ((hearL l w m).2.2 ≠ none → l.want ≠ 0 ∧ (hearL l w m).1.want = 0) := by
  unfold hearL
  split
  · refine ⟨fun _ => ?_, fun h => absurd rfl h⟩
    split
    · split <;> rfl
    · rfl
  · split
    · split
      · exact ⟨fun _ => rfl, fun h => absurd rfl h⟩
      · split
        · exact ⟨fun _ => rfl, fun h => absurd rfl h⟩
        · split
          · exact ⟨fun h => (by simp at h), fun _ => ⟨by omega, rfl⟩⟩
          · split <;> exact ⟨fun _ => rfl, fun h => absurd rfl h⟩
    · split
      · split
        · exact ⟨fun _ => rfl, fun h => absurd rfl h⟩
        · split
          · exact ⟨fun _ => rfl, fun h => absurd rfl h⟩
          · rename_i h
            refine ⟨fun h => (by simp at h), fun _ => ⟨?_, rfl⟩⟩
            intro h0
            apply h
            cases m.alone
            · exact .inr (.inr ⟨rfl, by omega⟩)
            · exact .inr (.inl ⟨rfl, by omega⟩)
      · split
        · split
          · exact ⟨fun h => (by simp at h), fun _ => ⟨by omega, rfl⟩⟩
          · exact ⟨fun _ => rfl, fun h => absurd rfl h⟩
        · exact ⟨fun _ => rfl, fun h => absurd rfl h⟩
theorem begin_want {l : SLine} {o : SOp} (hk : 1 ≤ o.kind ∧ o.kind ≤ 4) (h : (beginL l o).2.1 = 0) : (beginL l o).1.want = l.want := by
  rcases begin_done hk h with ⟨_, _, h3⟩ | ⟨_, _, h3⟩ | ⟨_, _, h3⟩ <;> rw [h3]
theorem line_set_self {k : SCore} {j : Nat} {l' : SLine} {w' : SOp} (hj : j < k.lines.length) : (⟨k.lines.set j l', w'⟩ : SCore).line j = l' := getD_set_self hj
theorem line_set_ne {k : SCore} {i j : Nat} {l' : SLine} {w' : SOp} (h : i ≠ j) : (⟨k.lines.set j l', w'⟩ : SCore).line i = k.line i := getD_set_ne h
/-- Nothing waits any more. -/
theorem wi_done {k : SCore} {j : Nat} {l' : SLine} (h : WI k) (hj : j < k.lines.length) (hw : (k.line j).want ≠ 0) (h' : l'.want = 0) : WI ⟨k.lines.set j l', SOp.zero⟩ := by
  have hz : ∀ i, i < (k.lines.set j l').length → (⟨k.lines.set j l', SOp.zero⟩ : SCore).line i = if i = j then l' else k.line i := by
    intro i hi
    by_cases e : i = j
    · subst e; rw [if_pos rfl]; exact line_set_self hj
    · rw [if_neg e]; exact line_set_ne e
  have h0 : ∀ i, i < (k.lines.set j l').length → ((⟨k.lines.set j l', SOp.zero⟩ : SCore).line i).want = 0 := by
    intro i hi
    rw [hz i hi]
    split
    · exact h'
    · rename_i e
      have hi' : i < k.lines.length := by simpa using hi
      by_cases hwi : (k.line i).want = 0
      · exact hwi
      · have a := (h.some i hi' hwi).1
        have b := (h.some j hj hw).1
        omega
  exact ⟨fun _ => h0, fun i hi hw => absurd (h0 i hi) hw, fun hb => absurd rfl hb⟩
/-- What waits waits on. -/
theorem wi_same {k : SCore} {j : Nat} {l' : SLine} (h : WI k) (hj : j < k.lines.length) (h' : l'.want = (k.line j).want) : WI ⟨k.lines.set j l', k.wait⟩ := by
  have hz : ∀ i, ((⟨k.lines.set j l', k.wait⟩ : SCore).line i).want = (k.line i).want := by
    intro i
    by_cases e : i = j
    · subst e; rw [line_set_self hj]; exact h'
    · rw [line_set_ne e]
  refine ⟨fun hw i hi => ?_, fun i hi hw => ?_, fun hb => ?_⟩
  · rw [hz i]; exact h.none hw i (by simpa using hi)
  · rw [hz i] at hw ⊢; exact h.some i (by simpa using hi) hw
  · rw [hz]; simpa using h.busy hb
/-- Something waits from now on. -/
theorem wi_wants {k : SCore} {j : Nat} {l' : SLine} {o : SOp} (h : WI k) (hj : j < k.lines.length) (h0 : k.wait.kind = 0) (ho : o.line = j ∧ 1 ≤ o.kind ∧ o.kind ≤ 4 ∧ 0 ≤ o.value ∧ o.value ≤ 255) (hw : l'.want ≠ 0 ∧ (l'.want = 1 ↔ o.kind = 1) ∧ (l'.want = 3 ↔ o.kind = 4)) : WI ⟨k.lines.set j l', o⟩ := by
  have hz : ∀ i, i < (k.lines.set j l').length → ((⟨k.lines.set j l', o⟩ : SCore).line i).want ≠ 0 → i = j ∧ (⟨k.lines.set j l', o⟩ : SCore).line i = l' := by
    intro i hi hwi
    by_cases e : i = j
    · subst e; exact ⟨rfl, line_set_self hj⟩
    · rw [line_set_ne e] at hwi
      exact absurd (h.none h0 i (by simpa using hi)) hwi
  refine ⟨fun hb => ?_, fun i hi hwi => ?_, fun hb => ?_⟩
  · simp only [] at hb; omega
  · obtain ⟨e1, e2⟩ := hz i hi hwi
    rw [e2]
    subst e1
    exact ⟨ho.1, ho.2.1, ho.2.2.1, ho.2.2.2.1, ho.2.2.2.2, hw.2.1, hw.2.2⟩
  · simp only []
    have e1 : o.line.toNat = j := by omega
    rw [e1, line_set_self hj]
    refine ⟨by omega, ?_, hw.1⟩
    simp; omega

/-- A core begins. -/
theorem xi_begin {n L : Nat} {x : SChip} {V : Nat → Int} (X : XI n L x V) {p : Nat} (hp : p < n) {o : SOp} (h : (beginF (x.core p) p n o).2.2.2 = 0) :
    ∃ V', XI n L ⟨x.cores.set p (beginF (x.core p) p n o).1, x.home, wayF x.frames (beginF (x.core p) p n o).2.1⟩ V' ∧ Told n L V (beginF (x.core p) p n o).2.2.1 V' := by
  have hnl := X.nl p hp
  unfold beginF at h ⊢
  by_cases h1 : o.kind < 1 ∨ 4 < o.kind
  · rw [if_pos h1] at h; simp at h
  rw [if_neg h1] at h ⊢
  by_cases h2 : o.line < 0 ∨ ((x.core p).lines.length : Int) ≤ o.line ∨ o.value < 0 ∨ 255 < o.value
  · rw [if_pos h2] at h; simp at h
  rw [if_neg h2] at h ⊢
  by_cases h3 : (x.core p).wait.kind ≠ 0 ∨ 65535 ≤ ((x.core p).line o.line.toNat).serial
  · rw [if_pos h3] at h; simp at h
  rw [if_neg h3]
  clear h
  obtain ⟨j, hj⟩ : ∃ j, j = o.line.toNat := ⟨_, rfl⟩
  rw [← hj] at h3 ⊢
  have hjL : j < L := by omega
  have hjl : j < (x.core p).lines.length := by omega
  have hla : (x.core p).line j = lineAt x j p := rfl
  have hw0 : (lineAt x j p).want = 0 := (X.wi p hp).none (by omega) j hjl
  have hk : 1 ≤ o.kind ∧ o.kind ≤ 4 := by omega
  have hr := begin_range (X.rl p j hp hjL) (o := o) (by omega) (by rw [← hla]; omega)
  rw [hla]
  by_cases hd : (beginL (lineAt x j p) o).2.1 = 0
  · rw [if_pos hd]
    obtain ⟨C, T⟩ := ci_done X.n4 (X.ci j hjL) hp hw0 hk hd
    refine ⟨_, xi_core X hp hjL (w' := (x.core p).wait) (said := []) (fun b hb => hb) X.fl C (fun m hm => mi_done (X.ci j hjL) hp hw0 hk hd hm) (fun m hm => by simp at hm) (wi_same (X.wi p hp) hjl (begin_want hk hd)) hr, .inr ⟨p, o, hp, hk.1, hk.2, by omega, by omega, by omega, by omega, ?_, fun i => ?_⟩⟩
    · rw [T, ← hj]
    · rw [← hj]
      by_cases e : i = j
      · subst e; simp
      · simp [e]
  · rw [if_neg hd]
    have C := ci_wants X.n4 (X.ci j hjL) hp hw0 hk hd
    have B := begin_kind (l := lineAt x j p) hk hd
    have hupd : updL (lineAt x j) p (beginL (lineAt x j p) o).1 p = (beginL (lineAt x j p) o).1 := upd_at
    have wn := C.wn p hp
    have sr := C.sr p hp
    rw [hupd] at wn sr
    refine ⟨_, xi_core X hp hjL (w' := o) (said := [asksF (beginL (lineAt x j p) o).1 p n o.line]) (fun b hb => hb) X.fl C (fun m hm => mi_wants (X.ci j hjL) hp hw0 hk hd hm) (fun m hm => ?_) (wi_wants (X.wi p hp) hjl (by omega) ⟨by omega, hk.1, hk.2, by omega, by omega⟩ ⟨by omega, by rw [B.1]; exact B.2.2.1, by rw [B.1]; exact B.2.2.2⟩) hr, .inl ⟨rfl, fun i => ?_⟩⟩
    · simp only [List.mem_singleton] at hm
      subst hm
      refine ⟨by simp only [asksF]; omega, asks_right hp hr (by omega) wn (by omega) (by omega), ?_⟩
      have := mi_asks (home := n) (line := o.line) C hp (by rw [hupd]; omega)
      rw [hupd] at this
      exact this
    · by_cases e : i = j
      · subst e; simp
      · simp [e]
/-- A core hears. -/
theorem xi_hear {n L : Nat} {x : SChip} {V : Nat → Int} (X : XI n L x V) {p : Nat} (hp : p < n) {m : Msg} {fs : List (List Nat)} (hfs : ∀ b ∈ fs, b ∈ x.frames) (hfl : fs.length ≤ 40) (hw : wrongF ⟨n, L⟩ m = 0) (hm : MI n (lineAt x m.line.toNat) (x.entry m.line.toNat) m) (ht : m.to = p) :
    ∃ V', XI n L ⟨x.cores.set p (hearF (x.core p) p n m).1, x.home, wayF fs (hearF (x.core p) p n m).2.1⟩ V' ∧ Told n L V (hearF (x.core p) p n m).2.2 V' := by
  have hnl := X.nl p hp
  have ho := wrong_out hw
  simp only [] at ho
  unfold hearF
  rw [if_neg (by omega)]
  obtain ⟨j, hj⟩ : ∃ j, j = m.line.toNat := ⟨_, rfl⟩
  rw [← hj] at hm ⊢
  have hjL : j < L := by omega
  have hjl : j < (x.core p).lines.length := by omega
  have hla : (x.core p).line j = lineAt x j p := rfl
  rw [hla]
  obtain ⟨w, hwt⟩ : ∃ w, w = (x.core p).wait := ⟨_, rfl⟩
  have W := X.wi p hp
  rw [← hwt]
  have hw1 : (lineAt x j p).want = 1 → w.kind = 1 := fun h => by rw [hwt]; exact ((W.some j hjl (by rw [hla]; omega)).2.2.2.2.2.1).1 (by rw [hla]; exact h)
  have hw3 : (lineAt x j p).want = 3 → w.kind = 4 := fun h => by rw [hwt]; exact ((W.some j hjl (by rw [hla]; omega)).2.2.2.2.2.2).1 (by rw [hla]; exact h)
  obtain ⟨V', C, M, S, N, D⟩ := hear_ok (home := n) (w := w) X.n4 (X.ci j hjL) hm hp ht hw1 hw3
  have HW := hear_want (l := lineAt x j p) (w := w) (m := m)
  have hr : RL (hearL (lineAt x j p) w m).1 := by
    by_cases hd : (lineAt x j p).want = 0
    · have h0 : (hearL (lineAt x j p) w m).2.2 = none := by
        cases h : (hearL (lineAt x j p) w m).2.2 with
        | none => rfl
        | some t => exact absurd hd (HW.2 (by rw [h]; simp)).1
      -- nothing is done: the value is told of nothing
      have : hearL (lineAt x j p) w m = hearL (lineAt x j p) ⟨w.kind, w.line, 0⟩ m ∨ 0 ≤ w.value ∧ w.value ≤ 255 := by
        left
        unfold hearL at h0 ⊢
        split
        · rfl
        · rename_i h4
          rw [if_neg h4] at h0
          split
          · rfl
          · rename_i h5
            rw [if_neg h5] at h0
            split
            · rename_i h7
              rw [if_pos h7] at h0
              split
              · rfl
              · rename_i h8
                rw [if_neg h8] at h0
                split
                · rfl
                · rename_i h9
                  rw [if_neg h9] at h0
                  simp at h0
            · rfl
      rcases this with h | h
      · rw [h]; exact hear_range (X.rl p j hp hjL) (by omega) (by simp)
      · exact hear_range (X.rl p j hp hjL) (by omega) h
    · have := W.some j hjl (by rw [hla]; exact hd)
      exact hear_range (X.rl p j hp hjL) (by omega) (by rw [hwt]; omega)
  have gs := (X.ci j hjL).gs p hp
  have re := X.re j hjL
  have hsaid : ∀ y ∈ ((hearL (lineAt x j p) w m).2.1.map (coreMsg p n m.line)).toList, y.line = j ∧ wrongF ⟨n, L⟩ y = 0 ∧ MI n (updL (lineAt x j) p (hearL (lineAt x j p) w m).1) (x.entry j) y := by
    intro y hy
    simp only [Option.mem_toList, Option.map_eq_some_iff] at hy
    obtain ⟨s, hs, rfl⟩ := hy
    exact ⟨by simp only [coreMsg]; omega, core_right (T := (x.entry j).turn) hp (X.rl p j hp hjL) (by have := re.t1; omega) (by omega) (by omega) hs, S s hs⟩
  cases hd : (hearL (lineAt x j p) w m).2.2 with
  | none =>
    simp only [Option.isSome_none, Bool.false_eq_true, if_false, Option.map_none, Option.toList_none]
    refine ⟨_, xi_core X hp hjL (w' := w) hfs hfl C M hsaid ?_ hr, .inl ⟨rfl, fun i => ?_⟩⟩
    · rw [hwt]
      refine wi_same W hjl ?_
      rw [← hwt, hla]
      exact HW.1 hd
    · rw [N hd]
      by_cases e : i = j
      · subst e; simp
      · simp [e]
  | some t =>
    have H2 := HW.2 (by rw [hd]; simp)
    have WS := W.some j hjl (by rw [hla]; exact H2.1)
    rw [← hwt] at WS
    obtain ⟨D1, D2⟩ := D t hd
    simp only [Option.isSome_some, if_true, Option.map_some, Option.toList_some]
    have ew : w.line.toNat = j := by omega
    refine ⟨_, xi_core X hp hjL (w' := SOp.zero) hfs hfl C M hsaid (wi_done W hjl (by rw [hla]; exact H2.1) H2.2) hr, .inr ⟨p, w, hp, WS.2.1, WS.2.2.1, by omega, by omega, WS.2.2.2.1, WS.2.2.2.2.1, ?_, fun i => ?_⟩⟩
    · rw [ew, D2]
    · rw [ew, D1]
      by_cases e : i = j
      · subst e; simp
      · simp [e]
end Go.Proofs.YtpgeopefamomnaeGreat

namespace Go.Proofs.YtpgeopefamomnaeGreat
set_option maxRecDepth 100000
set_option linter.unusedVariables false
theorem xi_homeHear {n L : Nat} {x : SChip} {V : Nat → Int} (X : XI n L x V) {p : Nat} (hp : p < n) {m : Msg} {fs : List (List Nat)} (hfs : ∀ b ∈ fs, b ∈ x.frames) (hfl : fs.length ≤ 40) (hw : wrongF ⟨n, L⟩ m = 0) (hm : MI n (lineAt x m.line.toNat) (x.entry m.line.toNat) m) (hf : m.frm = p) :
    XI n L ⟨x.cores, (homeHearF x.home n m).1, wayF fs (homeHearF x.home n m).2⟩ V := by
  have ho := wrong_out hw
  simp only [] at ho
  obtain ⟨j, hj⟩ : ∃ j, j = m.line.toNat := ⟨_, rfl⟩
  have hjL : j < L := by omega
  have he : x.home.getD m.line.toNat SEntry.zero = x.entry j := by rw [hj]; rfl
  have hlast := (X.ci j hjL).nlen
  unfold homeHearF
  rw [he]
  rw [← hj] at hm ⊢
  rw [if_neg (by have := X.nh; omega)]
  have hpn : m.frm.toNat = p := by omega
  rw [hpn]
  obtain ⟨C, M, S⟩ := home_ok (line := m.line) (id := n) X.n4 (X.ci j hjL) hm hp hf
  have R := home_right (line := m.line) (L := L) X.n4 (X.ci j hjL) hm hp hf (X.re j hjL) (fun q hq => (X.rl q j hq hjL).s1) (by omega) (by omega) (by omega)
  refine xi_home X hjL hfs hfl C M (fun y hy => ?_) (home_range (X.re j hjL) (by omega))
  have := R y hy
  exact ⟨by omega, this.2, S y hy⟩
theorem mem_timer {id home : Int} {y : Msg} : ∀ {ls : List SLine} {i : Nat}, y ∈ timerFrom id home i ls → ∃ j, j < ls.length ∧ (ls.getD j SLine.zero).want ≠ 0 ∧ y = asksF (ls.getD j SLine.zero) id home ((i + j : Nat) : Int) := by
  intro ls
  induction ls with
  | nil => intro i h; simp [timerFrom] at h
  | cons l r ih =>
    intro i h
    simp only [timerFrom, List.mem_append] at h
    rcases h with h | h
    · split at h
      · simp at h
      · rename_i hw
        simp only [List.mem_singleton] at h
        exact ⟨0, by simp, by simpa using hw, by simpa using h⟩
    · obtain ⟨j, h1, h2, h3⟩ := ih h
      refine ⟨j + 1, by simp; omega, by simpa using h2, ?_⟩
      rw [h3]
      simp
      congr 1
      omega
theorem xi_timer {n L : Nat} {x : SChip} {V : Nat → Int} (X : XI n L x V) {p : Nat} (hp : p < n) : XI n L ⟨x.cores, x.home, wayF x.frames (timerF (x.core p) p n)⟩ V := by
  refine xi_said X fun m hm => ?_
  obtain ⟨j, h1, h2, h3⟩ := mem_timer hm
  have hjL : j < L := by have := X.nl p hp; omega
  have hla : (x.core p).lines.getD j SLine.zero = lineAt x j p := rfl
  rw [hla, Nat.zero_add] at h3
  rw [hla] at h2
  have C := X.ci j hjL
  have wn := C.wn p hp
  have sr := C.sr p hp
  subst h3
  refine ⟨asks_right hp (X.rl p j hp hjL) (by omega) wn h2 (by omega), ?_⟩
  have e : (asksF (lineAt x j p) (p : Int) (n : Int) (j : Int)).line.toNat = j := by simp [asksF]
  rw [e]
  exact mi_asks C hp h2
theorem mem_homeTimer {id : Int} {y : Msg} : ∀ {l : List SEntry} {i : Nat}, y ∈ homeTimerFrom id i l → ∃ j, j < l.length ∧ y ∈ saysF (l.getD j SEntry.zero) ((i + j : Nat) : Int) id := by
  intro l
  induction l with
  | nil => intro i h; simp [homeTimerFrom] at h
  | cons e r ih =>
    intro i h
    simp only [homeTimerFrom, List.mem_append] at h
    rcases h with h | h
    · exact ⟨0, by simp, by simpa using h⟩
    · obtain ⟨j, h1, h2⟩ := ih h
      refine ⟨j + 1, by simp; omega, ?_⟩
      have e1 : i + 1 + j = i + (j + 1) := by omega
      rw [e1] at h2
      simpa using h2
theorem xi_homeTimer {n L : Nat} {x : SChip} {V : Nat → Int} (X : XI n L x V) : XI n L ⟨x.cores, x.home, wayF x.frames (homeTimerFrom n 0 x.home)⟩ V := by
  refine xi_said X fun m hm => ?_
  obtain ⟨j, h1, h2⟩ := mem_homeTimer hm
  rw [Nat.zero_add] at h2
  have hjL : j < L := by have := X.nh; omega
  have he : x.home.getD j SEntry.zero = x.entry j := rfl
  rw [he] at h2
  have R := says_right (line := (j : Int)) (L := (L : Int)) (X.ci j hjL) (X.re j hjL) (fun q hq => (X.rl q j hq hjL).s1) (by omega) h2
  refine ⟨R.2, ?_⟩
  have e : m.line.toNat = j := by omega
  rw [e]
  exact mi_says (X.ci j hjL) h2
theorem mem_erase {fs : List (List Nat)} {k : Nat} : ∀ b ∈ fs.eraseIdx k, b ∈ fs := fun b hb => List.mem_of_mem_eraseIdx hb
theorem len_erase {fs : List (List Nat)} {k : Nat} (h : fs.length ≤ 40) : (fs.eraseIdx k).length ≤ 40 := by
  rw [List.length_eraseIdx]; split <;> omega
theorem xi_sub {n L : Nat} {x : SChip} {V : Nat → Int} (X : XI n L x V) {fs : List (List Nat)} (hfs : ∀ b ∈ fs, b ∈ x.frames) (hfl : fs.length ≤ 40) : XI n L ⟨x.cores, x.home, fs⟩ V := by
  have hcfg := cfg_eq X
  exact xi_frames X hfl (fun b hb => by rw [← hcfg]; exact X.good b (hfs b hb)) (fun b hb m h => X.mi b (hfs b hb) m (by rw [hcfg]; exact h))
theorem getD_mem {fs : List (List Nat)} {k : Nat} (h : k < fs.length) : fs.getD k [] ∈ fs := by simp [List.getD, h]

/-- EVERY STEP KEEPS IT. -/
theorem xi_do {n L : Nat} {x : SChip} {V : Nat → Int} (X : XI n L x V) {s : SStep} (h : (doF x s).2.2 = 0) : ∃ V', XI n L (doF x s).1 V' ∧ Told n L V (doF x s).2.1 V' := by
  have hcfg := cfg_eq X
  have hnc := X.nc
  have none : ∀ y, XI n L y V → ∃ V', XI n L y V' ∧ Told n L V [] V' := fun y Y => ⟨V, Y, .inl ⟨rfl, fun _ => rfl⟩⟩
  unfold doF at h ⊢
  by_cases k1 : s.kind = 1
  · rw [if_pos k1] at h ⊢
    by_cases h1 : s.node < 0 ∨ (x.cores.length : Int) ≤ s.node
    · rw [if_pos h1] at h; simp at h
    rw [if_neg h1] at h ⊢
    obtain ⟨p, hp⟩ : ∃ p : Nat, s.node = p := ⟨s.node.toNat, by omega⟩
    rw [hp, hnc, Int.toNat_natCast] at h ⊢
    have hpn : p < n := by omega
    by_cases h2 : (beginF (x.core p) p n s.op).2.2.2 ≠ 0
    · rw [if_pos h2] at h; exact absurd h h2
    rw [if_neg h2]
    exact xi_begin X hpn (by omega)
  rw [if_neg k1] at h ⊢
  by_cases k6 : s.kind = 6
  · rw [if_pos k6] at h ⊢
    by_cases h1 : s.node < 0 ∨ (x.cores.length : Int) < s.node
    · rw [if_pos h1] at h; simp at h
    rw [if_neg h1]
    obtain ⟨p, hp⟩ : ∃ p : Nat, s.node = p := ⟨s.node.toNat, by omega⟩
    rw [hp, hnc, Int.toNat_natCast]
    by_cases h2 : (p : Int) < n
    · rw [if_pos h2]; exact none _ (xi_timer X (by omega))
    · rw [if_neg h2]; exact none _ (xi_homeTimer X)
  rw [if_neg k6] at h ⊢
  by_cases kk : s.kind < 2 ∨ 5 < s.kind
  · rw [if_pos kk] at h; simp at h
  rw [if_neg kk] at h ⊢
  by_cases hn : s.n < 0 ∨ (x.frames.length : Int) ≤ s.n
  · rw [if_pos hn] at h; simp at h
  rw [if_neg hn] at h ⊢
  obtain ⟨k, hk⟩ : ∃ k : Nat, k = s.n.toNat := ⟨_, rfl⟩
  rw [← hk] at h ⊢
  have hkl : k < x.frames.length := by omega
  have hbm := getD_mem hkl
  obtain ⟨b, hb⟩ : ∃ b, b = x.frames.getD k [] := ⟨_, rfl⟩
  rw [← hb] at hbm h ⊢
  have hgood := X.good b hbm
  rw [hcfg] at h hgood ⊢
  by_cases k4 : s.kind = 4
  · rw [if_pos k4]
    refine none _ (xi_sub X (fun b' hb' => ?_) ?_)
    · unfold sendB at hb'
      split at hb'
      · exact hb'
      · rcases List.mem_append.1 hb' with h' | h'
        · exact h'
        · simp only [List.mem_singleton] at h'; rw [h']; exact hbm
    · have := X.fl
      unfold sendB
      split
      · exact this
      · simp; omega
  rw [if_neg k4] at h ⊢
  by_cases k5 : s.kind = 5
  · rw [if_pos k5] at h ⊢
    by_cases hp : (parseF ⟨n, L⟩ b).2 ≠ 0
    · rw [if_pos hp] at h; simp at h
    rw [if_neg hp] at h ⊢
    by_cases hbit : s.bit < 0 ∨ 8 * (b.length : Int) ≤ s.bit
    · rw [if_pos hbit] at h; simp at h
    rw [if_neg hbit]
    rcases good_parse (by simp only []; have := X.n4; omega) (by simp only []; have := X.l4; omega) hgood with ⟨m, hm1, hm2, hm3⟩ | h7
    · have hlen := good_len hgood
      have hgo : GoodB ⟨n, L⟩ (turnF b s.bit) := ⟨m, hm1, .inr ⟨s.bit, by omega, by omega, by rw [hm2]⟩⟩
      have hpt : parseF ⟨n, L⟩ (turnF b s.bit) = (Msg.zero, 7) := by rw [hm2]; exact parse_turn _ m s.bit (by omega) (by omega)
      refine none _ (xi_frames X (by simp; exact X.fl) (fun b' hb' => ?_) (fun b' hb' m' hm' => ?_))
      · rcases List.mem_or_eq_of_mem_set hb' with h' | h'
        · rw [← hcfg]; exact X.good b' h'
        · rw [h']; exact hgo
      · rcases List.mem_or_eq_of_mem_set hb' with h' | h'
        · exact X.mi b' h' m' (by rw [hcfg]; exact hm')
        · rw [h', hpt] at hm'; simp at hm'
    · rw [h7] at hp; simp at hp
  rw [if_neg k5] at h ⊢
  by_cases k3 : s.kind = 3
  · rw [if_pos k3]; exact none _ (xi_sub X mem_erase (len_erase X.fl))
  rw [if_neg k3] at h ⊢
  by_cases hp : (parseF ⟨n, L⟩ b).2 ≠ 0
  · rw [if_pos hp]; exact none _ (xi_sub X mem_erase (len_erase X.fl))
  rw [if_neg hp] at h ⊢
  obtain ⟨m, hm⟩ : ∃ m, m = (parseF ⟨n, L⟩ b).1 := ⟨_, rfl⟩
  have hpm : parseF ⟨n, L⟩ b = (m, 0) := by
    have : (parseF ⟨n, L⟩ b).2 = 0 := by omega
    rw [hm, ← this]
  rw [← hm]
  have hw := parse_wrong hpm
  have ho := wrong_out hw
  simp only [] at ho
  have hmi := X.mi b hbm m (by rw [hcfg]; exact hpm)
  rw [hnc]
  by_cases hto : m.to = n
  · rw [if_pos hto]
    refine none _ (xi_homeHear (p := m.frm.toNat) X (by omega) mem_erase (len_erase X.fl) hw hmi (by omega))
  · rw [if_neg hto]
    obtain ⟨p, hp2⟩ : ∃ p : Nat, m.to = p := ⟨m.to.toNat, by omega⟩
    rw [hp2, Int.toNat_natCast]
    exact xi_hear X (by omega) mem_erase (len_erase X.fl) hw hmi hp2

/-- A new chip. -/
theorem ci_new {n : Nat} (hn : 1 ≤ n) : CI n (fun _ => SLine.zero) { SEntry.zero with owner := -1, last := List.replicate n 0 } 0 := by
  have hz : ∀ q : Nat, q < 4 → hasF 0 q = false := fun q hq => has_zero' hq
  have hl : ∀ p, (List.replicate n (0 : Int)).getD p 0 = 0 := by intro p; simp [List.getD, List.getElem?_replicate]; split <;> rfl
  have hl' : ∀ p : Nat, (List.replicate n (0 : Int))[p]?.getD 0 = 0 := hl
  constructor <;> simp [SLine.zero, SEntry.zero, holds, lastF, hl']
  all_goals first | omega | (intro q h1 h2; exact hz q h2) | (intro q h1; omega)
theorem xi_new {c : Cfg} (h : (newF c).2 = 0) : ∃ n L : Nat, c.cores = n ∧ c.lines = L ∧ XI n L (newF c).1 (fun _ => 0) := by
  unfold newF at h ⊢
  by_cases hc : c.cores < 1 ∨ 4 < c.cores ∨ c.lines < 1 ∨ 4 < c.lines
  · rw [if_pos hc] at h; simp at h
  rw [if_neg hc]
  refine ⟨c.cores.toNat, c.lines.toNat, by omega, by omega, ?_⟩
  generalize hn : c.cores.toNat = n
  generalize hL : c.lines.toNat = L
  have hcore : ∀ p, p < n → (List.replicate n (⟨List.replicate L SLine.zero, SOp.zero⟩ : SCore)).getD p SCore.zero = ⟨List.replicate L SLine.zero, SOp.zero⟩ := by
    intro p hp; simp [List.getD, hp]
  have hrep : ∀ i, (List.replicate L SLine.zero).getD i SLine.zero = SLine.zero := by
    intro i; simp [List.getD, List.getElem?_replicate]; split <;> rfl
  have hent : ∀ i, i < L → (List.replicate L ({ SEntry.zero with owner := -1, last := List.replicate n 0 } : SEntry)).getD i SEntry.zero = { SEntry.zero with owner := -1, last := List.replicate n 0 } := by
    intro i hi; simp [List.getD, hi]
  have hline : ∀ i p, lineAt ⟨List.replicate n ⟨List.replicate L SLine.zero, SOp.zero⟩, List.replicate L { SEntry.zero with owner := -1, last := List.replicate n 0 }, []⟩ i p = SLine.zero := by
    intro i p
    unfold lineAt SChip.core SCore.line
    by_cases hp : p < n
    · simp only []; rw [hcore p hp]; exact hrep i
    · simp [List.getD, hp, SCore.zero]
  refine ⟨by omega, by omega, by omega, by omega, by simp, by simp, fun p hp => ?_, fun i hi => ?_, fun b hb => by simp at hb, fun b hb => by simp at hb, by simp, fun p hp => ?_, fun p i hp hi => ?_, fun i hi => ?_⟩
  · show ((List.replicate n (⟨List.replicate L SLine.zero, SOp.zero⟩ : SCore)).getD p SCore.zero).lines.length = L
    rw [hcore p hp]; simp
  · have e1 := funext (hline i)
    rw [e1]
    show CI n _ ((List.replicate L ({ SEntry.zero with owner := -1, last := List.replicate n 0 } : SEntry)).getD i SEntry.zero) 0
    rw [hent i hi]
    exact ci_new (by omega)
  · show WI ((List.replicate n (⟨List.replicate L SLine.zero, SOp.zero⟩ : SCore)).getD p SCore.zero)
    rw [hcore p hp]
    have hz : ∀ i, ((⟨List.replicate L SLine.zero, SOp.zero⟩ : SCore).line i).want = 0 := by intro i; unfold SCore.line; rw [hrep i]; rfl
    exact ⟨fun _ i _ => hz i, fun i _ h => absurd (hz i) h, fun h => absurd rfl h⟩
  · rw [hline i p]
    constructor <;> simp [SLine.zero]
  · show RE ((List.replicate L ({ SEntry.zero with owner := -1, last := List.replicate n 0 } : SEntry)).getD i SEntry.zero)
    rw [hent i hi]
    constructor <;> simp [SEntry.zero]

/-- Memory that is one, behind what is done: each tells what it would. -/
def Plays (n L : Nat) : (Nat → Int) → List SDone → (Nat → Int) → Prop
  | V, [], V' => ∀ i, V' i = V i
  | V, d :: r, V' => (∃ p : Nat, p < n ∧ d.core = p) ∧ 1 ≤ d.op.kind ∧ d.op.kind ≤ 4 ∧ 0 ≤ d.op.line ∧ d.op.line < L ∧ 0 ≤ d.op.value ∧ d.op.value ≤ 255 ∧ d.value = (tellF (V d.op.line.toNat) d.op).2 ∧ Plays n L (fun i => if i = d.op.line.toNat then (tellF (V i) d.op).1 else V i) r V'
theorem Plays.congr {n L : Nat} {V' V'' : Nat → Int} (h : ∀ i, V'' i = V' i) : ∀ {d : List SDone} {V : Nat → Int}, Plays n L V d V' → Plays n L V d V'' := by
  intro d
  induction d with
  | nil => intro V k i; rw [h i]; exact k i
  | cons a r ih => intro V k; obtain ⟨k1, k2, k3, k4, k5, k6, k7, k8, k9⟩ := k; exact ⟨k1, k2, k3, k4, k5, k6, k7, k8, ih k9⟩
theorem Plays.start {n L : Nat} {V' : Nat → Int} : ∀ {d : List SDone} {V W : Nat → Int}, (∀ i, W i = V i) → Plays n L V d V' → Plays n L W d V' := by
  intro d
  induction d with
  | nil => intro V W h k i; rw [h i]; exact k i
  | cons a r ih =>
    intro V W h k
    obtain ⟨k1, k2, k3, k4, k5, k6, k7, k8, k9⟩ := k
    refine ⟨k1, k2, k3, k4, k5, k6, k7, by rw [h]; exact k8, ih (fun i => ?_) k9⟩
    simp only [h i]
theorem Plays.append {n L : Nat} {V' V'' : Nat → Int} {b : List SDone} (hb : Plays n L V' b V'') : ∀ {a : List SDone} {V : Nat → Int}, Plays n L V a V' → Plays n L V (a ++ b) V'' := by
  intro a
  induction a with
  | nil => intro V k; exact hb.start fun i => (k i).symm
  | cons d r ih => intro V k; obtain ⟨k1, k2, k3, k4, k5, k6, k7, k8, k9⟩ := k; exact ⟨k1, k2, k3, k4, k5, k6, k7, k8, ih k9⟩
theorem Told.plays {n L : Nat} {V V' : Nat → Int} {d : List SDone} (h : Told n L V d V') : Plays n L V d V' := by
  rcases h with ⟨rfl, h⟩ | ⟨p, o, h1, h2, h3, h4, h5, h6, h7, rfl, h9⟩
  · exact h
  · exact ⟨⟨p, h1, rfl⟩, h2, h3, h4, h5, h6, h7, rfl, h9⟩
theorem xi_steps {n L : Nat} : ∀ (l : List SStep) {s : SChip × List SDone} {V0 V : Nat → Int}, XI n L s.1 V → Plays n L V0 s.2 V → ∃ V', XI n L (l.foldl stepF s).1 V' ∧ Plays n L V0 (l.foldl stepF s).2 V' := by
  intro l
  induction l with
  | nil => intro s V0 V X P; exact ⟨V, X, P⟩
  | cons t r ih =>
    intro s V0 V X P
    show ∃ V', XI n L (r.foldl stepF (stepF s t)).1 V' ∧ Plays n L V0 (r.foldl stepF (stepF s t)).2 V'
    unfold stepF
    by_cases h : (doF s.1 t).2.2 = 0
    · rw [if_pos h]
      obtain ⟨V1, X1, T⟩ := xi_do X h
      exact ih X1 (Plays.append T.plays P)
    · rw [if_neg h]
      exact ih X P
/-- WHATEVER STEPS THERE WERE. -/
theorem xi_build {c : Cfg} {l : List SStep} (h : (newF c).2 = 0) : ∃ (n L : Nat) (V : Nat → Int), c.cores = n ∧ c.lines = L ∧ XI n L (buildF c l).1 V ∧ Plays n L (fun _ => 0) (buildF c l).2 V := by
  obtain ⟨n, L, h1, h2, X⟩ := xi_new h
  obtain ⟨V, X1, P⟩ := xi_steps (l.take 300) (s := ((newF c).1, [])) X (V0 := fun _ => 0) (fun _ => rfl)
  refine ⟨n, L, V, h1, h2, ?_, ?_⟩
  · unfold buildF; rw [if_pos h]; exact X1
  · unfold buildF; rw [if_pos h]; exact P
end Go.Proofs.YtpgeopefamomnaeGreat

