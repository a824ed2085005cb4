/- Chips in plain data: what is spoilt is as lost; a frame that comes twice. No program in it. -/
import Derived.Test.YtpgeopefamomnacGreatPH
set_option linter.unusedSimpArgs false
namespace Go.Proofs.YtpgeopefamomnacGreat
set_option maxRecDepth 100000
set_option linter.unusedVariables false

def goS (i : Int) : SStep := ⟨2, 0, i, 0, SOp.zero⟩
def dropS (i : Int) : SStep := ⟨3, 0, i, 0, SOp.zero⟩
def twiceS (i : Int) : SStep := ⟨4, 0, i, 0, SOp.zero⟩
def spoilS (i b : Int) : SStep := ⟨5, 0, i, b, SOp.zero⟩
/-- What hears a frame: cores, home, what is said, what is done. -/
def hearB (cs : List SCore) (hm : List SEntry) (b : List Nat) : List SCore × List SEntry × List Msg × List SDone :=
  if (parseF ⟨cs.length, hm.length⟩ b).2 ≠ 0 then (cs, hm, [], [])
  else if (parseF ⟨cs.length, hm.length⟩ b).1.to = cs.length then (cs, (homeHearF hm cs.length (parseF ⟨cs.length, hm.length⟩ b).1).1, (homeHearF hm cs.length (parseF ⟨cs.length, hm.length⟩ b).1).2, [])
  else (cs.set (parseF ⟨cs.length, hm.length⟩ b).1.to.toNat (hearF (cs.getD (parseF ⟨cs.length, hm.length⟩ b).1.to.toNat SCore.zero) (parseF ⟨cs.length, hm.length⟩ b).1.to cs.length (parseF ⟨cs.length, hm.length⟩ b).1).1, hm, (hearF (cs.getD (parseF ⟨cs.length, hm.length⟩ b).1.to.toNat SCore.zero) (parseF ⟨cs.length, hm.length⟩ b).1.to cs.length (parseF ⟨cs.length, hm.length⟩ b).1).2.1, (hearF (cs.getD (parseF ⟨cs.length, hm.length⟩ b).1.to.toNat SCore.zero) (parseF ⟨cs.length, hm.length⟩ b).1.to cs.length (parseF ⟨cs.length, hm.length⟩ b).1).2.2)
theorem do_go {x : SChip} {i : Nat} (h : i < x.frames.length) : doF x (goS i) = (⟨(hearB x.cores x.home (x.frames.getD i [])).1, (hearB x.cores x.home (x.frames.getD i [])).2.1, wayF (x.frames.eraseIdx i) (hearB x.cores x.home (x.frames.getD i [])).2.2.1⟩, (hearB x.cores x.home (x.frames.getD i [])).2.2.2, 0) := by
  have h0 : ¬ ((i : Int) < 0 ∨ (x.frames.length : Int) ≤ (i : Int)) := by omega
  unfold doF goS hearB SChip.cfg SChip.core
  simp only [Int.toNat_natCast]
  rw [if_neg (by decide), if_neg (by decide), if_neg (by decide), if_neg h0, if_neg (by decide), if_neg (by decide), if_neg (by decide)]
  split
  · rfl
  · split
    · rfl
    · rfl
theorem do_drop {x : SChip} {i : Nat} (h : i < x.frames.length) : doF x (dropS i) = (⟨x.cores, x.home, x.frames.eraseIdx i⟩, [], 0) := by
  have h0 : ¬ ((i : Int) < 0 ∨ (x.frames.length : Int) ≤ (i : Int)) := by omega
  unfold doF dropS
  simp only [Int.toNat_natCast]
  rw [if_neg (by decide), if_neg (by decide), if_neg (by decide), if_neg h0, if_neg (by decide), if_neg (by decide), if_pos trivial]
theorem do_twice {x : SChip} {i : Nat} (h : i < x.frames.length) : doF x (twiceS i) = (⟨x.cores, x.home, sendB x.frames (x.frames.getD i [])⟩, [], 0) := by
  have h0 : ¬ ((i : Int) < 0 ∨ (x.frames.length : Int) ≤ (i : Int)) := by omega
  unfold doF twiceS
  simp only [Int.toNat_natCast]
  rw [if_neg (by decide), if_neg (by decide), if_neg (by decide), if_neg h0, if_pos trivial]
theorem do_spoil {x : SChip} {i : Nat} {b : Int} (h : i < x.frames.length) (hd : (doF x (spoilS i b)).2.2 = 0) : (0 ≤ b ∧ b < 8 * ((x.frames.getD i []).length : Int)) ∧ (parseF x.cfg (x.frames.getD i [])).2 = 0 ∧ doF x (spoilS i b) = (⟨x.cores, x.home, x.frames.set i (turnF (x.frames.getD i []) b)⟩, [], 0) := by
  have h0 : ¬ ((i : Int) < 0 ∨ (x.frames.length : Int) ≤ (i : Int)) := by omega
  unfold doF spoilS at hd ⊢
  simp only [Int.toNat_natCast] at hd ⊢
  rw [if_neg (by decide), if_neg (by decide), if_neg (by decide), if_neg h0, if_neg (by decide), if_pos trivial] at hd ⊢
  by_cases hp : (parseF x.cfg (x.frames.getD i [])).2 ≠ 0
  · rw [if_pos hp] at hd
    exact absurd hd (by decide)
  rw [if_neg hp] at hd ⊢
  by_cases hb : b < 0 ∨ 8 * ((x.frames.getD i []).length : Int) ≤ b
  · rw [if_pos hb] at hd
    exact absurd hd (by decide)
  rw [if_neg hb]
  exact ⟨by omega, by omega, rfl⟩
theorem set_erase {α : Type} (l : List α) (i : Nat) (a : α) : (l.set i a).eraseIdx i = l.eraseIdx i := by
  rw [List.eraseIdx_eq_take_drop_succ, List.eraseIdx_eq_take_drop_succ, List.take_set_of_le (Nat.le_refl _), List.drop_set_of_lt (by omega)]
theorem spoil_lost {n L : Nat} {x : SChip} {V : Nat → Int} (X : XI n L x V) {i : Nat} {b : Int} (h : i < x.frames.length) (hp : (parseF ⟨n, L⟩ (x.frames.getD i [])).2 = 0) (hd : (doF x (spoilS i b)).2.2 = 0) : doF (doF x (spoilS i b)).1 (goS i) = doF x (dropS i) := by
  obtain ⟨hb, -, e⟩ := do_spoil h hd
  have hg := X.good _ (getD_mem h)
  rw [cfg_eq X] at hg
  have hm : ∃ m, wrongF ⟨n, L⟩ m = 0 ∧ x.frames.getD i [] = bytesF m := by
    rcases good_parse (c := ⟨n, L⟩) (by have := X.n4; simp only []; omega) (by have := X.l4; simp only []; omega) hg with ⟨m, h1, h2, _⟩ | h3
    · exact ⟨m, h1, h2⟩
    · rw [h3] at hp
      exact absurd hp (by decide)
  obtain ⟨m, hw, hm⟩ := hm
  have h96 : b < 96 := by
    rw [hm, bytesF_length] at hb
    omega
  rw [e, do_drop h]
  have hl : i < (⟨x.cores, x.home, x.frames.set i (turnF (x.frames.getD i []) b)⟩ : SChip).frames.length := by simpa using h
  rw [do_go hl]
  have hgt : (x.frames.set i (turnF (x.frames.getD i []) b)).getD i [] = turnF (bytesF m) b := by
    rw [hm]
    simp [List.getD, h]
  have hz : ∀ c, parseF c (turnF (bytesF m) b) = (Msg.zero, 7) := fun c => parse_turn c m b hb.1 h96
  dsimp only
  rw [hgt]
  have hB : hearB x.cores x.home (turnF (bytesF m) b) = (x.cores, x.home, [], []) := by
    unfold hearB
    rw [hz, if_pos (by decide)]
  rw [hB, set_erase]
  rfl
theorem way_getD {ms : List Msg} : ∀ {fs : List (List Nat)} {k : Nat}, k < fs.length → (wayF fs ms).getD k [] = fs.getD k [] := by
  induction ms with
  | nil => intro fs k h; rfl
  | cons m r ih =>
    intro fs k h
    show (wayF (sendB fs (bytesF m)) r).getD k [] = _
    have hs : k < (sendB fs (bytesF m)).length := by unfold sendB; split <;> (try simp) <;> omega
    rw [ih hs]
    unfold sendB
    split
    · rfl
    · simp [List.getD, List.getElem?_append_left h]
theorem way_len_ge {ms : List Msg} : ∀ {fs : List (List Nat)}, fs.length ≤ (wayF fs ms).length := by
  induction ms with
  | nil => intro fs; exact Nat.le_refl _
  | cons m r ih =>
    intro fs
    refine Nat.le_trans ?_ (ih (fs := sendB fs (bytesF m)))
    unfold sendB
    split <;> simp
theorem hearB_len (cs : List SCore) (hm : List SEntry) (b : List Nat) : (hearB cs hm b).1.length = cs.length ∧ (hearB cs hm b).2.1.length = hm.length := by
  unfold hearB
  split
  · exact ⟨rfl, rfl⟩
  · split
    · refine ⟨rfl, ?_⟩
      simp only []
      unfold homeHearF
      split
      · rfl
      · simp
    · simp
theorem hearB_twice {n L : Nat} {x : SChip} {V : Nat → Int} (X : XI n L x V) (b : List Nat) : (hearB (hearB x.cores x.home b).1 (hearB x.cores x.home b).2.1 b).1 = (hearB x.cores x.home b).1 ∧ (hearB (hearB x.cores x.home b).1 (hearB x.cores x.home b).2.1 b).2.1 = (hearB x.cores x.home b).2.1 ∧ (hearB (hearB x.cores x.home b).1 (hearB x.cores x.home b).2.1 b).2.2.2 = [] := by
  obtain ⟨l1, l2⟩ := hearB_len x.cores x.home b
  have hnc := X.nc
  have hnh := X.nh
  rw [show hearB (hearB x.cores x.home b).1 (hearB x.cores x.home b).2.1 b = hearB (hearB x.cores x.home b).1 (hearB x.cores x.home b).2.1 b from rfl]
  generalize hr : hearB x.cores x.home b = r at *
  obtain ⟨C, H, S, D⟩ := r
  simp only at l1 l2 ⊢
  unfold hearB at hr ⊢
  rw [l1, l2, hnc, hnh]
  rw [hnc, hnh] at hr
  by_cases h1 : (parseF ⟨n, L⟩ b).2 ≠ 0
  · rw [if_pos h1] at hr ⊢
    cases hr
    exact ⟨rfl, rfl, rfl⟩
  rw [if_neg h1] at hr ⊢
  by_cases h2 : (parseF ⟨n, L⟩ b).1.to = n
  · rw [if_pos h2] at hr ⊢
    cases hr
    exact ⟨rfl, homeHear_twice X, rfl⟩
  rw [if_neg h2] at hr ⊢
  cases hr
  have hpm : parseF ⟨n, L⟩ b = ((parseF ⟨n, L⟩ b).1, 0) := by
    have : (parseF ⟨n, L⟩ b).2 = 0 := by omega
    rw [← this]
  have ho := wrong_out (parse_wrong hpm)
  simp only [] at ho
  generalize (parseF ⟨n, L⟩ b).1 = m at *
  have hpn : m.to.toNat < n := by omega
  have hpl : m.to.toNat < x.cores.length := by omega
  have hnl := X.nl _ hpn
  have T := hearF_twice (k := x.core m.to.toNat) (id := m.to) (home := n) (m := m) fun i hi => by
    have h := (X.ci i (by omega)).gs _ hpn
    have e : (x.core m.to.toNat).line i = lineAt x i m.to.toNat := rfl
    rw [e]
    omega
  have hc : (x.cores.set m.to.toNat (hearF (x.cores.getD m.to.toNat SCore.zero) m.to n m).1).getD m.to.toNat SCore.zero = (hearF (x.core m.to.toNat) m.to n m).1 := by
    rw [getD_set_self hpl]
    rfl
  rw [hc, T.1, T.2]
  refine ⟨?_, rfl, rfl⟩
  rw [List.set_set]
  rfl
/-- Once; twice, and both come. -/
theorem twice_once {n L : Nat} {x : SChip} {V : Nat → Int} (X : XI n L x V) {i : Nat} (h : i < x.frames.length) (h4 : x.frames.length < 40) :
    (doF x (twiceS i)).2.2 = 0 ∧ (doF (doF x (twiceS i)).1 (goS i)).2 = (doF x (goS i)).2 ∧ (doF x (goS i)).2.2 = 0 ∧ (doF (doF (doF x (twiceS i)).1 (goS i)).1 (goS (x.frames.length - 1))).2 = ([], 0) ∧ (doF (doF (doF x (twiceS i)).1 (goS i)).1 (goS (x.frames.length - 1))).1.cores = (doF x (goS i)).1.cores ∧ (doF (doF (doF x (twiceS i)).1 (goS i)).1 (goS (x.frames.length - 1))).1.home = (doF x (goS i)).1.home := by
  have hs : sendB x.frames (x.frames.getD i []) = x.frames ++ [x.frames.getD i []] := if_neg (by omega)
  rw [do_twice h, hs, do_go h]
  generalize hb : x.frames.getD i [] = b
  have hl2 : i < (⟨x.cores, x.home, x.frames ++ [b]⟩ : SChip).frames.length := by simp; omega
  have hg2 : (⟨x.cores, x.home, x.frames ++ [b]⟩ : SChip).frames.getD i [] = b := by
    show (x.frames ++ [b]).getD i [] = b
    rw [List.getD_eq_getElem?_getD, List.getElem?_append_left h, ← List.getD_eq_getElem?_getD, hb]
  have he : (x.frames ++ [b]).eraseIdx i = x.frames.eraseIdx i ++ [b] := List.eraseIdx_append_of_lt_length h _
  rw [do_go hl2, hg2]
  simp only [he]
  have T := hearB_twice X b
  generalize hr : hearB x.cores x.home b = r at *
  have hlen : (x.frames.eraseIdx i).length = x.frames.length - 1 := by rw [List.length_eraseIdx, if_pos h]
  have hgl : x.frames.length - 1 < (x.frames.eraseIdx i ++ [b]).length := by rw [List.length_append, hlen]; simp
  have hl3 : x.frames.length - 1 < (⟨r.1, r.2.1, wayF (x.frames.eraseIdx i ++ [b]) r.2.2.1⟩ : SChip).frames.length := Nat.lt_of_lt_of_le hgl way_len_ge
  have hg3 : (⟨r.1, r.2.1, wayF (x.frames.eraseIdx i ++ [b]) r.2.2.1⟩ : SChip).frames.getD (x.frames.length - 1) [] = b := by
    show (wayF (x.frames.eraseIdx i ++ [b]) r.2.2.1).getD _ [] = b
    rw [way_getD hgl, List.getD_eq_getElem?_getD, List.getElem?_append_right (by omega), hlen, Nat.sub_self]
    rfl
  rw [show ((x.frames.length : Int) - 1) = ((x.frames.length - 1 : Nat) : Int) by omega, do_go hl3, hg3]
  exact ⟨trivial, trivial, trivial, by rw [T.2.2], T.1, T.2.1⟩
end Go.Proofs.YtpgeopefamomnacGreat
