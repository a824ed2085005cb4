/- Twice is once; what is old does nothing; one at a time: of cores, homes and chips in plain data. No program in it. -/
import Derived.Test.YtpgeopefamomnacGreatPG
set_option linter.unusedSimpArgs false
namespace Go.Proofs.YtpgeopefamomnacGreat
set_option maxRecDepth 100000
set_option linter.unusedVariables false

/-- What a line hears twice does the second time nothing. -/
theorem hear_twice {l : SLine} {w w' : SOp} {m : Msg} (h0 : 0 ≤ l.seen) : (hearL (hearL l w m).1 w' m).1 = (hearL l w m).1 ∧ (hearL (hearL l w m).1 w' m).2.2 = none := by
  by_cases h4 : m.kind = 4
  · have e : ∀ (l : SLine) (w : SOp), (hearL l w m).1 = (if l.seen < m.turn then (if l.state = 1 then { l with seen := m.turn, state := 0, value := 0 } else { l with seen := m.turn }) else l) ∧ (hearL l w m).2.2 = none := fun l w => by simp [hearL, h4]
    refine ⟨?_, (e _ _).2⟩
    rw [(e _ w').1, (e l w).1]
    by_cases hs : l.seen < m.turn
    · by_cases h1 : l.state = 1 <;> simp [hs, h1]
    · simp [hs]
  by_cases h56 : m.kind = 5 ∨ m.kind = 6
  · by_cases hg : 0 < m.turn ∧ m.turn = l.gave
    · rw [hear_fetch_again h56 hg, hear_fetch_again h56 hg]; exact ⟨rfl, rfl⟩
    · by_cases hs : m.turn ≤ l.seen ∨ (l.state ≠ 2 ∧ l.state ≠ 3)
      · rw [hear_fetch_none h56 hg hs, hear_fetch_none h56 hg hs]; exact ⟨rfl, rfl⟩
      · rw [hear_fetch_given h56 hg hs]
        have hgv : (givenL l m).gave = m.turn := by unfold givenL; split <;> (try split) <;> rfl
        have : 0 < m.turn ∧ m.turn = (givenL l m).gave := ⟨by omega, hgv.symm⟩
        rw [hear_fetch_again h56 this]; exact ⟨rfl, rfl⟩
  by_cases h7 : m.kind = 7
  · by_cases ha : l.serial < m.serial
    · rw [hear_grant_above h7 ha, hear_grant_above h7 ha]; exact ⟨rfl, rfl⟩
    · by_cases h2 : m.serial < l.serial ∨ (m.alone = true ∧ l.want ≠ 2) ∨ (m.alone = false ∧ l.want ≠ 1)
      · rw [hear_grant_old h7 ha h2, hear_grant_old h7 ha h2]; exact ⟨rfl, rfl⟩
      · rw [hear_grant_new h7 ha h2]
        have h3 : m.serial < (grantedL l w m).serial ∨ (m.alone = true ∧ (grantedL l w m).want ≠ 2) ∨ (m.alone = false ∧ (grantedL l w m).want ≠ 1) := by
          right
          simp only [grantedL]
          cases m.alone <;> simp
        rw [hear_grant_old (l := grantedL l w m) h7 ha h3]; exact ⟨rfl, rfl⟩
  by_cases h11 : m.kind = 11
  · by_cases h : l.want = 3 ∧ m.serial = l.serial
    · rw [hear_taken h11 h, hear_taken_none h11 (by simp)]; exact ⟨rfl, rfl⟩
    · rw [hear_taken_none h11 h, hear_taken_none h11 h]; exact ⟨rfl, rfl⟩
  · rw [hear_other (l := l) h4 (by omega) (by omega) h7 h11, hear_other h4 (by omega) (by omega) h7 h11]; exact ⟨rfl, rfl⟩
/-- What is old does nothing. -/
theorem hear_old {l : SLine} {w : SOp} {m : Msg} (ht : m.turn ≤ l.seen) (hs : ¬ (l.serial ≤ m.serial ∧ l.want ≠ 0)) : (hearL l w m).1 = l ∧ (hearL l w m).2.2 = none := by
  by_cases h4 : m.kind = 4
  · have h : ¬ l.seen < m.turn := by omega
    simp [hearL, h4, h]
  by_cases h56 : m.kind = 5 ∨ m.kind = 6
  · by_cases hg : 0 < m.turn ∧ m.turn = l.gave
    · rw [hear_fetch_again h56 hg]; exact ⟨rfl, rfl⟩
    · rw [hear_fetch_none h56 hg (.inl ht)]; exact ⟨rfl, rfl⟩
  by_cases h7 : m.kind = 7
  · by_cases ha : l.serial < m.serial
    · rw [hear_grant_above h7 ha]; exact ⟨rfl, rfl⟩
    · have h2 : m.serial < l.serial ∨ (m.alone = true ∧ l.want ≠ 2) ∨ (m.alone = false ∧ l.want ≠ 1) := by
        by_cases h3 : m.serial < l.serial
        · exact .inl h3
        · have : l.want = 0 := by omega
          cases m.alone
          · exact .inr (.inr ⟨rfl, by omega⟩)
          · exact .inr (.inl ⟨rfl, by omega⟩)
      rw [hear_grant_old h7 ha h2]; exact ⟨rfl, rfl⟩
  by_cases h11 : m.kind = 11
  · have h : ¬ (l.want = 3 ∧ m.serial = l.serial) := by omega
    rw [hear_taken_none h11 h]; exact ⟨rfl, rfl⟩
  · rw [hear_other (l := l) h4 (by omega) (by omega) h7 h11]; exact ⟨rfl, rfl⟩
theorem lines_same {k : SCore} {j : Nat} : k.lines.set j (k.line j) = k.lines := by
  apply List.ext_getElem?
  intro i
  by_cases e : i = j
  · subst e
    by_cases h : i < k.lines.length
    · simp [SCore.line, List.getD, h]
    · rw [List.getElem?_eq_none (by simp; omega), List.getElem?_eq_none (by omega)]
  · rw [List.getElem?_set_ne (Ne.symm e)]
theorem core_eq {k : SCore} : (⟨k.lines, k.wait⟩ : SCore) = k := rfl
/-- A core that hears a message twice. -/
theorem hearF_twice {k : SCore} {id home : Int} {m : Msg} (h0 : ∀ i, i < k.lines.length → 0 ≤ (k.line i).seen) : (hearF (hearF k id home m).1 id home m).1 = (hearF k id home m).1 ∧ (hearF (hearF k id home m).1 id home m).2.2 = [] := by
  by_cases hl : m.line < 0 ∨ (k.lines.length : Int) ≤ m.line
  · have e : hearF k id home m = (k, [], []) := by unfold hearF; rw [if_pos hl]
    rw [e]
    simp only []
    rw [e]
    exact ⟨rfl, rfl⟩
  · obtain ⟨j, hj⟩ : ∃ j, j = m.line.toNat := ⟨_, rfl⟩
    have hjl : j < k.lines.length := by omega
    have e1 : (hearF k id home m).1 = ⟨k.lines.set j (hearL (k.line j) k.wait m).1, if (hearL (k.line j) k.wait m).2.2.isSome = true then SOp.zero else k.wait⟩ := by unfold hearF; rw [if_neg hl, hj]
    rw [e1]
    generalize hW : (if (hearL (k.line j) k.wait m).2.2.isSome = true then SOp.zero else k.wait) = W
    have hln : (⟨k.lines.set j (hearL (k.line j) k.wait m).1, W⟩ : SCore).line j = (hearL (k.line j) k.wait m).1 := line_set_self hjl
    obtain ⟨t1, t2⟩ := hear_twice (l := k.line j) (w := k.wait) (w' := W) (m := m) (h0 j hjl)
    unfold hearF
    rw [if_neg (by simp only [List.length_set]; exact hl), ← hj, hln, t1, t2]
    refine ⟨?_, rfl⟩
    simp
theorem hearF_old {k : SCore} {id home : Int} {m : Msg} (hl : 0 ≤ m.line ∧ m.line < k.lines.length) (ht : m.turn ≤ (k.line m.line.toNat).seen) (hs : ¬ ((k.line m.line.toNat).serial ≤ m.serial ∧ (k.line m.line.toNat).want ≠ 0)) : (hearF k id home m).1 = k ∧ (hearF k id home m).2.2 = [] := by
  obtain ⟨h1, h2⟩ := hear_old (w := k.wait) ht hs
  unfold hearF
  rw [if_neg (by omega), h1, h2, lines_same]
  exact ⟨rfl, rfl⟩

/-! The home. -/
theorem home_twice {n : Nat} {c : Nat → SLine} {e : SEntry} {V : Int} {p : Nat} {m : Msg} {line id : Int} (hn : n ≤ 4) (I : CI n c e V) (hp : p < n) : (homeL (homeL e line id p m).1 line id p m).1 = (homeL e line id p m).1 := by
  have same : ∀ {f : SEntry}, homeL f line id p m = (f, []) → (homeL f line id p m).1 = f := fun h => by rw [h]
  by_cases h12 : m.kind = 1 ∨ m.kind = 2
  · by_cases hq : e.phase ≠ 0 ∨ m.serial ≤ lastF e p ∨ 65535 ≤ e.turn
    · have hh : homeL e line id p m = (e, []) := by rw [homeL, if_pos h12, if_pos hq]
      rw [hh]; exact same hh
    · have hh : homeL e line id p m = (nextF (takeUp e p m), saysF (nextF (takeUp e p m)) line id) := by rw [homeL, if_pos h12, if_neg hq]; rfl
      rw [hh]
      have hph : (nextF (takeUp e p m)).phase ≠ 0 := by unfold nextF; split <;> simp; split <;> omega
      exact same (by rw [homeL, if_pos h12, if_pos (.inl hph)])
  by_cases h3 : m.kind = 3
  · by_cases hq : e.phase ≠ 0
    · have hh : homeL e line id p m = (e, []) := by rw [homeL, if_neg h12, if_pos h3, if_pos hq]
      rw [hh]; exact same hh
    · have hh : ∀ f : SEntry, f.phase = 0 → (homeL f line id p m).1 = putL f p m := fun f hf => by rw [homeL, if_neg h12, if_pos h3, if_neg (by omega)]; rfl
      have hpe : (putL e p m).phase = e.phase := by unfold putL; split <;> (try split) <;> rfl
      have hp0 : (putL e p m).phase = 0 := by omega
      rw [hh e (by omega), hh _ hp0]
      have hlast : m.serial ≤ lastF (putL e p m) p := by
        unfold putL
        by_cases hs : lastF e p < m.serial
        · rw [if_pos hs]
          have hlp : (e.last.set p m.serial).getD p 0 = m.serial := by rw [getD_set (by rw [I.nlen]; exact hp), if_pos rfl]
          split <;> simp only [lastF, hlp] <;> omega
        · rw [if_neg hs]; omega
      obtain ⟨f, hf⟩ : ∃ f, f = putL e p m := ⟨_, rfl⟩
      rw [← hf] at hlast ⊢
      unfold putL
      rw [if_neg (by omega)]
  by_cases h9 : m.kind = 9
  · by_cases hq : e.phase ≠ 1 ∨ m.turn ≠ e.turn ∨ e.owner ≠ p
    · have hh : homeL e line id p m = (e, []) := by rw [homeL, if_neg h12, if_neg h3, if_pos h9, if_pos hq]
      rw [hh]; exact same hh
    · have hh : homeL e line id p m = (nextF (dataL e p m), saysF (nextF (dataL e p m)) line id) := by rw [homeL, if_neg h12, if_neg h3, if_pos h9, if_neg hq]; rfl
      rw [hh]
      have hph : (nextF (dataL e p m)).phase ≠ 1 := by unfold nextF; rw [if_neg (by simp [dataL])]; simp only []; split <;> omega
      exact same (by rw [homeL, if_neg h12, if_neg h3, if_pos h9, if_pos (.inl hph)])
  by_cases h8 : m.kind = 8
  · by_cases hq : e.phase ≠ 2 ∨ m.turn ≠ e.turn ∨ hasF e.need p = false
    · have hh : homeL e line id p m = (e, []) := by rw [homeL, if_neg h12, if_neg h3, if_neg h9, if_pos h8, if_pos hq]
      rw [hh]; exact same hh
    · have hN : hasF e.need p = true := by
        cases h : hasF e.need p
        · exact absurd (.inr (.inr h)) hq
        · rfl
      have hh : (homeL e line id p m).1 = if 0 < (goneL e p).need then goneL e p else nextF (goneL e p) := by
        rw [homeL, if_neg h12, if_neg h3, if_neg h9, if_pos h8, if_neg hq]
        show (if 0 < (goneL e p).need then (goneL e p, ([] : List Msg)) else (nextF (goneL e p), saysF (nextF (goneL e p)) line id)).1 = _
        split <;> rfl
      rw [hh]
      have S := gone_sets hn I hp (by omega) hN
      by_cases hz : 0 < (goneL e p).need
      · rw [if_pos hz]
        have : hasF (goneL e p).need p = false := by rw [S.2.2.2 p (by omega)]; simp
        exact same (by rw [homeL, if_neg h12, if_neg h3, if_neg h9, if_pos h8, if_pos (.inr (.inr this))])
      · rw [if_neg hz, gone_next hn I hp (by omega) hN hz]
        exact same (by rw [homeL, if_neg h12, if_neg h3, if_neg h9, if_pos h8, if_pos (.inl (by simp))])
  by_cases h10 : m.kind = 10
  · by_cases hq : e.phase ≠ 3 ∨ m.turn ≠ e.turn ∨ e.forr ≠ p
    · have hh : homeL e line id p m = (e, []) := by rw [homeL, if_neg h12, if_neg h3, if_neg h9, if_neg h8, if_pos h10, if_pos hq]
      rw [hh]; exact same hh
    · have hh : homeL e line id p m = (thanksL e p, []) := by rw [homeL, if_neg h12, if_neg h3, if_neg h9, if_neg h8, if_pos h10, if_neg hq]; rfl
      rw [hh]
      have hph : (thanksL e p).phase ≠ 3 := by unfold thanksL; split <;> simp
      exact same (by rw [homeL, if_neg h12, if_neg h3, if_neg h9, if_neg h8, if_pos h10, if_pos (.inl hph)])
  · have hh : homeL e line id p m = (e, []) := by rw [homeL, if_neg h12, if_neg h3, if_neg h9, if_neg h8, if_neg h10]
    rw [hh]; exact same hh
/-- The home that hears a message twice. -/
theorem homeHear_twice {n L : Nat} {x : SChip} {V : Nat → Int} {m : Msg} (X : XI n L x V) : (homeHearF (homeHearF x.home n m).1 n m).1 = (homeHearF x.home n m).1 := by
  by_cases hl : m.line < 0 ∨ (x.home.length : Int) ≤ m.line ∨ m.frm < 0 ∨ ((x.home.getD m.line.toNat SEntry.zero).last.length : Int) ≤ m.frm
  · have e : homeHearF x.home n m = (x.home, []) := by unfold homeHearF; rw [if_pos hl]
    rw [e]
    simp only []
    rw [e]
  · obtain ⟨j, hj⟩ : ∃ j, j = m.line.toNat := ⟨_, rfl⟩
    have hjL : j < L := by have := X.nh; omega
    have hjl : j < x.home.length := by omega
    have he : x.home.getD m.line.toNat SEntry.zero = x.entry j := by rw [hj]; rfl
    have hlast := (X.ci j hjL).nlen
    rw [he] at hl
    have hp : m.frm.toNat < n := by omega
    have e1 : (homeHearF x.home n m).1 = x.home.set j (homeL (x.entry j) m.line n m.frm.toNat m).1 := by unfold homeHearF; rw [he, if_neg hl, hj]
    have t := home_twice (m := m) (line := m.line) (id := n) X.n4 (X.ci j hjL) hp
    have hll : (homeL (x.entry j) m.line n m.frm.toNat m).1.last.length = n := by
      have aux : ∀ e : SEntry, (nextF e).last = e.last := fun e => by unfold nextF; split <;> rfl
      unfold homeL
      split
      · split
        · exact hlast
        · simp only [aux]; simp [hlast]
      · split
        · split
          · exact hlast
          · simp only []; split <;> (try split) <;> simp [hlast]
        · split
          · split
            · exact hlast
            · simp only [aux]; exact hlast
          · split
            · split
              · exact hlast
              · simp only []; split <;> simp only [aux] <;> exact hlast
            · split
              · split
                · exact hlast
                · simp only []; split <;> exact hlast
              · exact hlast
    rw [e1]
    have e2 : (x.home.set j (homeL (x.entry j) m.line n m.frm.toNat m).1).getD m.line.toNat SEntry.zero = (homeL (x.entry j) m.line n m.frm.toNat m).1 := by rw [← hj]; exact getD_set_self hjl
    unfold homeHearF
    rw [e2, if_neg (by rw [hll]; simp only [List.length_set]; omega), ← hj]
    simp only []
    rw [t, List.set_set]

/-- A line's serial rises by one at most in a step. -/
theorem begin_serial {l : SLine} {o : SOp} : (beginL l o).1.serial ≤ l.serial + 1 := by
  unfold beginL
  split
  · split <;> simp <;> omega
  · split
    · split <;> simp <;> omega
    · split <;> simp <;> omega
theorem hear_serial {l : SLine} {w : SOp} {m : Msg} : (hearL l w m).1.serial = l.serial := by
  unfold hearL
  repeat' split
  all_goals rfl
end Go.Proofs.YtpgeopefamomnacGreat

/- Alone is alone, no copy is stale, the home knows, nothing is lost: of a line in plain data. No program in it. -/
namespace Go.Proofs.YtpgeopefamomnacGreat
set_option maxRecDepth 100000
set_option linter.unusedVariables false

/-- ALONE IS ALONE. -/
theorem ci_alone {n : Nat} {c : Nat → SLine} {e : SEntry} {V : Int} (hn : n ≤ 4) (I : CI n c e V) {p q : Nat} (hp : p < n) (hq : q < n) (hne : p ≠ q) (h : (c p).state = 2) : (c q).state ≠ 1 ∧ (c q).state ≠ 2 :=
  ⟨I.nocopy hn hp hq h, fun h2 => hne (I.one hp hq (.inl h) (.inl h2))⟩
/-- The line's value is V. -/
theorem ci_value {n : Nat} {c : Nat → SLine} {e : SEntry} {V : Int} (I : CI n c e V) :
    (∀ p, p < n → ((c p).state = 2 ∨ ((c p).state = 3 ∧ lastF e p < (c p).serial)) → (c p).value = V) ∧
    ((∀ p, p < n → ¬ ((c p).state = 2 ∨ ((c p).state = 3 ∧ lastF e p < (c p).serial))) →
      (e.phase = 1 → 0 ≤ e.owner ∧ e.owner.toNat < n ∧ (c e.owner.toNat).gave = e.turn ∧ (c e.owner.toNat).given = V) ∧ (e.phase ≠ 1 → e.value = V)) := by
  refine ⟨fun p hp h => I.val p hp h, fun hno => ⟨fun h1 => ?_, fun h1 => I.valH h1 hno⟩⟩
  have f := I.fetch h1
  have ow := I.ow
  have hq : e.owner.toNat < n := by omega
  have ho : e.owner = (e.owner.toNat : Nat) := by omega
  have g : (c e.owner.toNat).gave = e.turn := by
    by_cases hg : (c e.owner.toNat).gave = e.turn
    · exact hg
    · exact absurd ((f.2.2 e.owner.toNat hq).1.2 ⟨ho, hg⟩) (hno _ hq)
  exact ⟨f.1, hq, g, I.valF h1 _ hq ho g⟩
/-- Only Owner may have given it in this turn, and then nobody else has it. -/
theorem ci_gave {n : Nat} {c : Nat → SLine} {e : SEntry} {V : Int} (I : CI n c e V) (h1 : e.phase = 1) (hg : (c e.owner.toNat).gave = e.turn) : ∀ p, p < n → ¬ ((c p).state = 2 ∨ ((c p).state = 3 ∧ lastF e p < (c p).serial)) := by
  intro p hp hh
  have f := ((I.fetch h1).2.2 p hp).1.1 hh
  have : e.owner.toNat = p := by omega
  rw [this] at hg
  exact f.2 hg
/-- NO COPY IS STALE. -/
theorem ci_same {n : Nat} {c : Nat → SLine} {e : SEntry} {V : Int} (I : CI n c e V) {p : Nat} (hp : p < n) (h : (c p).state = 1) : (c p).value = V := (I.copy p hp h).1
/-- THE HOME KNOWS. -/
theorem ci_known {n : Nat} {c : Nat → SLine} {e : SEntry} {V : Int} (I : CI n c e V) {p : Nat} (hp : p < n) (hx : ¬ (e.phase = 3 ∧ e.forr = p ∧ (c p).seen = e.turn)) : ((c p).state = 2 → e.owner = p) ∧ ((c p).state = 1 → e.owner = p ∨ hasF e.sharers p = true) := by
  have ph := I.ph
  refine ⟨fun h => ?_, fun h => ?_⟩
  · have hh : holds (c p) (lastF e p) := .inl h
    rcases (by omega : e.phase = 0 ∨ e.phase = 1 ∨ e.phase = 2 ∨ e.phase = 3) with h0 | h0 | h0 | h0
    · exact (I.idle h0 p hp).2 hh
    · exact (((I.fetch h0).2.2 p hp).1.1 hh).1
    · exact absurd hh ((I.clear h0).2.2 p hp).1
    · have := ((I.grant h0).2 p hp).1.1 hh
      exact absurd ⟨h0, this.1.symm, this.2.1⟩ hx
  · rcases (I.copy p hp h).2 with h1 | h1 | h1
    · exact .inr h1
    · exact .inl h1.2.1
    · exact absurd h1 hx

/-! Serials stay far below their bound. -/
def SB (n L : Nat) (x : SChip) (t : Int) : Prop := ∀ p i, p < n → i < L → (lineAt x i p).serial ≤ t
theorem sb_core {n L : Nat} {x : SChip} {V : Nat → Int} {t : Int} (X : XI n L x V) (h : SB n L x t) {p j : Nat} (hp : p < n) {l' : SLine} {w' : SOp} {fs : List (List Nat)} (hj : j < L) (hl : l'.serial ≤ t + 1) : SB n L ⟨x.cores.set p ⟨(x.core p).lines.set j l', w'⟩, x.home, fs⟩ (t + 1) := by
  intro q i hq hi
  have hpl : p < x.cores.length := by rw [X.nc]; exact hp
  unfold lineAt SChip.core
  by_cases e : q = p
  · subst e
    simp only []
    rw [getD_set_self hpl]
    by_cases e2 : i = j
    · subst e2
      rw [line_set_self (by have := X.nl q hq; unfold SChip.core at this; omega)]; exact hl
    · rw [line_set_ne e2]
      have := h q i hq hi
      unfold lineAt SChip.core at this
      omega
  · simp only []
    rw [getD_set_ne e]
    have := h q i hq hi
    unfold lineAt SChip.core at this
    omega
theorem sb_do {n L : Nat} {x : SChip} {V : Nat → Int} {t : Int} (X : XI n L x V) (h : SB n L x t) {s : SStep} (hd : (doF x s).2.2 = 0) : SB n L (doF x s).1 (t + 1) := by
  have same : ∀ hm fs, SB n L ⟨x.cores, hm, fs⟩ (t + 1) := fun hm fs p i hp hi => by have := h p i hp hi; unfold lineAt SChip.core at this ⊢; simp only [] at this ⊢; omega
  have hcfg := cfg_eq X
  have hnc := X.nc
  unfold doF at hd ⊢
  by_cases k1 : s.kind = 1
  · rw [if_pos k1] at hd ⊢
    by_cases h1 : s.node < 0 ∨ (x.cores.length : Int) ≤ s.node
    · rw [if_pos h1] at hd; simp at hd
    rw [if_neg h1] at hd ⊢
    obtain ⟨p, hp⟩ : ∃ p : Nat, s.node = p := ⟨s.node.toNat, by omega⟩
    rw [hp, hnc, Int.toNat_natCast] at hd ⊢
    have hpn : p < n := by omega
    by_cases h2 : (beginF (x.core p) p n s.op).2.2.2 ≠ 0
    · rw [if_pos h2] at hd; exact absurd hd h2
    rw [if_neg h2]
    clear hd
    unfold beginF at h2 ⊢
    by_cases g1 : s.op.kind < 1 ∨ 4 < s.op.kind
    · rw [if_pos g1] at h2; simp at h2
    rw [if_neg g1] at h2 ⊢
    by_cases g2 : s.op.line < 0 ∨ ((x.core p).lines.length : Int) ≤ s.op.line ∨ s.op.value < 0 ∨ 255 < s.op.value
    · rw [if_pos g2] at h2; simp at h2
    rw [if_neg g2] at h2 ⊢
    by_cases g3 : (x.core p).wait.kind ≠ 0 ∨ 65535 ≤ ((x.core p).line s.op.line.toNat).serial
    · rw [if_pos g3] at h2; simp at h2
    rw [if_neg g3]
    have hnl := X.nl p hpn
    have hjL : s.op.line.toNat < L := by omega
    have hb := begin_serial (l := (x.core p).line s.op.line.toNat) (o := s.op)
    have hs := h p s.op.line.toNat hpn hjL
    unfold lineAt at hs
    split
    · exact sb_core X h hpn hjL (by omega)
    · exact sb_core X h hpn hjL (by omega)
  rw [if_neg k1] at hd ⊢
  by_cases k6 : s.kind = 6
  · rw [if_pos k6] at hd ⊢
    by_cases h1 : s.node < 0 ∨ (x.cores.length : Int) < s.node
    · rw [if_pos h1] at hd; simp at hd
    rw [if_neg h1]
    split <;> exact same _ _
  rw [if_neg k6] at hd ⊢
  by_cases kk : s.kind < 2 ∨ 5 < s.kind
  · rw [if_pos kk] at hd; simp at hd
  rw [if_neg kk] at hd ⊢
  by_cases hn : s.n < 0 ∨ (x.frames.length : Int) ≤ s.n
  · rw [if_pos hn] at hd; simp at hd
  rw [if_neg hn] at hd ⊢
  by_cases k4 : s.kind = 4
  · rw [if_pos k4]; exact same _ _
  rw [if_neg k4] at hd ⊢
  by_cases k5 : s.kind = 5
  · rw [if_pos k5] at hd ⊢
    split
    · rename_i hp; rw [if_pos hp] at hd; simp at hd
    · rename_i hp
      rw [if_neg hp] at hd
      split
      · rename_i hb; rw [if_pos hb] at hd; simp at hd
      · exact same _ _
  rw [if_neg k5] at hd ⊢
  by_cases k3 : s.kind = 3
  · rw [if_pos k3]; exact same _ _
  rw [if_neg k3] at hd ⊢
  split
  · exact same _ _
  · rename_i hpz
    split
    · exact same _ _
    · rename_i hto
      obtain ⟨m, hm⟩ : ∃ m, m = (parseF x.cfg (x.frames.getD s.n.toNat [])).1 := ⟨_, rfl⟩
      have hpm : parseF ⟨n, L⟩ (x.frames.getD s.n.toNat []) = (m, 0) := by
        rw [hcfg] at hpz hm
        have : (parseF ⟨n, L⟩ (x.frames.getD s.n.toNat [])).2 = 0 := by omega
        rw [hm, ← this]
      rw [← hm] at hto ⊢
      have ho := wrong_out (parse_wrong hpm)
      simp only [] at ho
      have hpn : m.to.toNat < n := by omega
      have hnl := X.nl _ hpn
      unfold hearF
      rw [if_neg (by omega)]
      have hjL : m.line.toNat < L := by omega
      have hs := h _ _ hpn hjL
      unfold lineAt at hs
      refine sb_core X h hpn hjL ?_
      rw [hear_serial]
      omega
theorem sb_steps {n L : Nat} : ∀ (l : List SStep) {s : SChip × List SDone} {V : Nat → Int} {t : Int}, XI n L s.1 V → SB n L s.1 t → SB n L (l.foldl stepF s).1 (t + l.length) := by
  intro l
  induction l with
  | nil => intro s V t X h; simpa using h
  | cons a r ih =>
    intro s V t X h
    show SB n L (r.foldl stepF (stepF s a)).1 (t + (a :: r).length)
    have e : t + ((a :: r).length : Int) = (t + 1) + r.length := by simp; omega
    rw [e]
    unfold stepF
    by_cases hd : (doF s.1 a).2.2 = 0
    · rw [if_pos hd]
      obtain ⟨V1, X1, T⟩ := xi_do X hd
      exact ih X1 (sb_do X h hd)
    · rw [if_neg hd]
      exact ih X (fun p i hp hi => by have := h p i hp hi; omega)
theorem sb_build {c : Cfg} {l : List SStep} {n L : Nat} (h : (newF c).2 = 0) (h1 : c.cores = n) (h2 : c.lines = L) : SB n L (buildF c l).1 300 := by
  obtain ⟨n', L', e1, e2, X⟩ := xi_new h
  obtain rfl : n' = n := by omega
  obtain rfl : L' = L := by omega
  have hz : SB n' L' (newF c).1 0 := by
    intro p i hp hi
    have hc : ¬ (c.cores < 1 ∨ 4 < c.cores ∨ c.lines < 1 ∨ 4 < c.lines) := by
      intro hc; unfold newF at h; rw [if_pos hc] at h; simp at h
    unfold newF
    rw [if_neg hc]
    unfold lineAt SChip.core SCore.line
    have a : p < c.cores.toNat := by omega
    have b : i < c.lines.toNat := by omega
    simp [List.getD, a, b, SLine.zero]
  have := sb_steps (l.take 300) (s := ((newF c).1, [])) X hz
  unfold buildF
  rw [if_pos h]
  intro p i hp hi
  have h3 := this p i hp hi
  have h4 : ((l.take 300).length : Int) ≤ 300 := by simp; omega
  omega
end Go.Proofs.YtpgeopefamomnacGreat
