/- Slices of frames: what a [][]byte holds, and what stays of it when memory grows or a cell is written. -/
import Derived.Test.YtfgemnlbbipbcaaStr
import Derived.Laws.AppendOwn
namespace Go.Proofs.Ytfgemnlbbipbcaa
open Go.RowKit
set_option linter.unusedVariables false
set_option linter.unusedSimpArgs false

/-- v is a slice of bytes with the elements xs. -/
def FV (w : World) (v : Value) (xs : List Nat) : Prop := ∃ a c, v = .slice a xs.length c ∧ xs.length ≤ c ∧ c ≤ maxLen ∧ xs.length ≤ 140737488351232 ∧ BSl w a xs
/-- vs are slices of bytes with the elements ls. -/
def FVs (w : World) (vs : List Value) (ls : List (List Nat)) : Prop := vs.length = ls.length ∧ ∀ (i : Nat) v xs, vs[i]? = some v → ls[i]? = some xs → FV w v xs
/-- a is where a slice with the elements vs begins. -/
def VSl (w : World) (a : Option Addr) (vs : List Value) : Prop := vs ≠ [] → ∃ b off, a = some ⟨b, off, none⟩ ∧ ∀ (i : Nat) u, vs[i]? = some u → w.cell? ⟨b, off + i, none⟩ = some u
/-- a is where a slice of the frames ls begins. -/
def LS (w : World) (a : Option Addr) (ls : List (List Nat)) : Prop := ∃ vs, VSl w a vs ∧ FVs w vs ls
/-- Block g is a row of its own: frames ls, and no more. -/
def LOwn (w : World) (g : Nat) (ls : List (List Nat)) : Prop := ∃ us : List Value, w.heap[g]? = some (.cells us.toArray 26 (0, 0)) ∧ FVs w us ls

theorem FV.below {w w' : World} {v : Value} {xs : List Nat} (h : FV w v xs) (hb : Below w.heap.size w w') : FV w' v xs := by
  obtain ⟨a, c, h1, h2, h3, h4, h5⟩ := h
  exact ⟨a, c, h1, h2, h3, h4, h5.below hb⟩
theorem FVs.below {w w' : World} {vs : List Value} {ls : List (List Nat)} (h : FVs w vs ls) (hb : Below w.heap.size w w') : FVs w' vs ls :=
  ⟨h.1, fun i v xs h1 h2 => (h.2 i v xs h1 h2).below hb⟩
theorem VSl.below {w w' : World} {a : Option Addr} {vs : List Value} (h : VSl w a vs) (hb : Below w.heap.size w w') : VSl w' a vs := fun hx => by
  obtain ⟨b, off, h1, h2⟩ := h hx
  refine ⟨b, off, h1, fun i u hu => ?_⟩
  have := h2 i u hu
  rw [hb.cell (World.block_lt_of_cell? w _ this)]
  exact this
theorem LS.below {w w' : World} {a : Option Addr} {ls : List (List Nat)} (h : LS w a ls) (hb : Below w.heap.size w w') : LS w' a ls := by
  obtain ⟨vs, h1, h2⟩ := h
  exact ⟨vs, h1.below hb, h2.below hb⟩
theorem LOwn.lt {w : World} {g : Nat} {ls : List (List Nat)} (h : LOwn w g ls) : g < w.heap.size := by
  obtain ⟨us, h1, _⟩ := h
  exact (Array.getElem?_eq_some_iff.1 h1).1
theorem LOwn.below {w w' : World} {g : Nat} {ls : List (List Nat)} (h : LOwn w g ls) (hb : Below w.heap.size w w') : LOwn w' g ls := by
  have hlt := h.lt
  obtain ⟨us, h1, h2⟩ := h
  exact ⟨us, by rw [hb.block g hlt]; exact h1, h2.below hb⟩
theorem LOwn.ls {w : World} {g : Nat} {ls : List (List Nat)} (h : LOwn w g ls) : LS w (some ⟨g, 0, none⟩) ls := by
  obtain ⟨us, h1, h2⟩ := h
  refine ⟨us, fun _ => ⟨g, 0, rfl, fun i u hu => ?_⟩, h2⟩
  simp only [World.cell?, h1, Nat.zero_add]
  simpa using hu
theorem FVs.slice {w : World} {us : List Value} {ls : List (List Nat)} (h : FVs w us ls) {i : Nat} {u : Value} (hu : us[i]? = some u) : ∃ a n c, u = .slice a n c := by
  have hi : i < ls.length := by rw [← h.1]; exact (List.getElem?_eq_some_iff.1 hu).1
  obtain ⟨a, c, h1, _⟩ := h.2 i u _ hu (List.getElem?_eq_getElem hi)
  exact ⟨a, _, c, h1⟩
theorem FVs.one {w : World} {us : List Value} {ls : List (List Nat)} (h : FVs w us ls) : ∀ u ∈ us, u.oneCell' = true := by
  intro u hu
  obtain ⟨i, hi, rfl⟩ := List.getElem_of_mem hu
  obtain ⟨a, n, c, h1⟩ := h.slice (List.getElem?_eq_getElem hi)
  rw [h1]; rfl
/-- A frame lies in no row of frames: a cell of that may be written. -/
theorem BSl.set {w : World} {g k : Nat} {us ms : List _} {v : Value} {a : Option Addr} {xs : List Nat} (hg : w.heap[g]? = some (.cells (us : List Value).toArray 26 (0, 0))) (hus : FVs w us ms) (h : BSl w a xs) : BSl (w.setCell ⟨g, k, none⟩ v) a xs := by
  refine ⟨h.1, fun hx => ?_⟩
  obtain ⟨b, off, h1, h2⟩ := h.2 hx
  refine ⟨b, off, h1, fun i hi => ?_⟩
  have hc := h2 i hi
  have hne : b ≠ g := by
    intro e
    subst e
    simp only [World.cell?, hg] at hc
    have : us[off + i]? = some (.int .u8 (xs.getD i 0 : Nat)) := by simpa using hc
    obtain ⟨a', n', c', e'⟩ := hus.slice this
    cases e'
  rw [World.cell?_of_block (w := w) (Below.heap_setCell _ _ _ _ (by exact hne))]
  exact hc
theorem FV.set {w : World} {g k : Nat} {us ms : List _} {v u : Value} {xs : List Nat} (hg : w.heap[g]? = some (.cells (us : List Value).toArray 26 (0, 0))) (hus : FVs w us ms) (h : FV w u xs) : FV (w.setCell ⟨g, k, none⟩ v) u xs := by
  obtain ⟨a, c, h1, h2, h3, h4, h5⟩ := h
  exact ⟨a, c, h1, h2, h3, h4, h5.set hg hus⟩
theorem LOwn.set {w : World} {g k : Nat} {v : Value} {xs : List Nat} {ls : List (List Nat)} (h : LOwn w g ls) (hv : FV w v xs) : LOwn (w.setCell ⟨g, k, none⟩ v) g (ls.set k xs) := by
  obtain ⟨us, h1, h2⟩ := h
  refine ⟨us.set k v, ?_, by simpa using h2.1, fun i u ys hu hy => ?_⟩
  · simp only [World.setCell]
    rw [Array.getElem?_modify, if_pos rfl, h1]
    simp
  · refine FV.set h1 h2 ?_
    by_cases e : i = k
    · subst e
      have hi : i < us.length := by have := (List.getElem?_eq_some_iff.1 hu).1; simpa using this
      have hi' : i < ls.length := by rw [← h2.1]; exact hi
      rw [List.getElem?_set_self hi] at hu
      rw [List.getElem?_set_self hi'] at hy
      cases hu; cases hy
      exact hv
    · rw [List.getElem?_set_ne (Ne.symm e)] at hu hy
      exact h2.2 i u ys hu hy
theorem LS.at {w : World} {a : Option Addr} {ls : List (List Nat)} (h : LS w a ls) (i : Nat) (hi : i < ls.length) : ∃ b off u, a = some ⟨b, off, none⟩ ∧ w.cell? ⟨b, off + i, none⟩ = some u ∧ FV w u ls[i] := by
  obtain ⟨vs, h1, h2⟩ := h
  have hiv : i < vs.length := by rw [h2.1]; exact hi
  obtain ⟨b, off, e, hc⟩ := h1 (by intro e; subst e; simp at hiv)
  exact ⟨b, off, vs[i], e, hc i _ (List.getElem?_eq_getElem hiv), h2.2 i _ _ (List.getElem?_eq_getElem hiv) (List.getElem?_eq_getElem hi)⟩
theorem LS.nil (w : World) (a : Option Addr) : LS w a [] := ⟨[], fun h => absurd rfl h, rfl, fun i v xs h => by simp at h⟩
theorem FVs.nil (w : World) : FVs w [] [] := ⟨rfl, fun i v xs h => by simp at h⟩
theorem FVs.append {w : World} {us vs : List Value} {ls ms : List (List Nat)} (h : FVs w us ls) (k : FVs w vs ms) : FVs w (us ++ vs) (ls ++ ms) := by
  refine ⟨by simp [h.1, k.1], fun i v xs hv hx => ?_⟩
  by_cases hi : i < us.length
  · rw [List.getElem?_append_left hi] at hv
    rw [List.getElem?_append_left (by rw [← h.1]; exact hi)] at hx
    exact h.2 i v xs hv hx
  · rw [List.getElem?_append_right (by omega)] at hv
    rw [List.getElem?_append_right (by rw [← h.1]; omega), ← h.1] at hx
    exact k.2 _ v xs hv hx
theorem FVs.single {w : World} {v : Value} {xs : List Nat} (h : FV w v xs) : FVs w [v] [xs] := by
  refine ⟨rfl, fun i u ys hu hy => ?_⟩
  match i, hu, hy with
  | 0, hu, hy => simp at hu hy; subst hu; subst hy; exact h
theorem FVs.take {w : World} {vs : List Value} {ls : List (List Nat)} (h : FVs w vs ls) (n : Nat) : FVs w (vs.take n) (ls.take n) := by
  refine ⟨by simp [h.1], fun i v xs hv hx => ?_⟩
  rw [List.getElem?_take] at hv hx
  split at hv
  · rename_i hi; rw [if_pos hi] at hx; exact h.2 i v xs hv hx
  · cases hv
theorem FVs.drop {w : World} {vs : List Value} {ls : List (List Nat)} (h : FVs w vs ls) (n : Nat) : FVs w (vs.drop n) (ls.drop n) := by
  refine ⟨by simp [h.1], fun i v xs hv hx => ?_⟩
  rw [List.getElem?_drop] at hv hx
  exact h.2 _ v xs hv hx
theorem LS.take {w : World} {a : Option Addr} {ls : List (List Nat)} (h : LS w a ls) (n : Nat) : LS w a (ls.take n) := by
  obtain ⟨vs, h1, h2⟩ := h
  refine ⟨vs.take n, fun hne => ?_, h2.take n⟩
  obtain ⟨b, off, e, hc⟩ := h1 (by intro e; subst e; simp at hne)
  refine ⟨b, off, e, fun i u hu => ?_⟩
  rw [List.getElem?_take] at hu
  split at hu
  · exact hc i u hu
  · cases hu
theorem LS.drop {w : World} {b off : Nat} {ls : List (List Nat)} (h : LS w (some ⟨b, off, none⟩) ls) (n : Nat) : LS w (some ⟨b, off + n, none⟩) (ls.drop n) := by
  obtain ⟨vs, h1, h2⟩ := h
  refine ⟨vs.drop n, fun hne => ?_, h2.drop n⟩
  obtain ⟨b', off', e, hc⟩ := h1 (by intro e; subst e; simp at hne)
  cases e
  refine ⟨b, off + n, rfl, fun i u hu => ?_⟩
  rw [List.getElem?_drop] at hu
  rw [Nat.add_assoc]
  exact hc _ u hu
theorem FV.of_own {w : World} {g : Nat} {xs : List Nat} (h : Own w g xs) (hl : xs.length ≤ 140737488351232) (hx : isBytes xs) : FV w (.slice (some ⟨g, 0, none⟩) xs.length xs.length) xs :=
  ⟨_, _, rfl, Nat.le_refl _, by unfold maxLen; omega, hl, hx, fun _ => ⟨g, 0, rfl, h.row⟩⟩

/-- What a call owns of frames. -/
def LRow (w : World) (base : Nat) (v : Value) (ls : List (List Nat)) : Prop := ∃ us, w.ownsRow base 26 1 v ls.length us ∧ FVs w us ls
theorem LRow.sl {w : World} {base : Nat} {v : Value} {ls : List (List Nat)} (h : LRow w base v ls) : ∃ a c, v = .slice a ls.length c ∧ ls.length ≤ c ∧ c ≤ maxLen ∧ LS w a ls := by
  obtain ⟨us, ⟨_, h2⟩, hus⟩ := h
  rcases h2 with ⟨rfl, h0⟩ | ⟨g, cap, cur, rfl, hg, hh, h3, h4, h5, h6⟩
  · have : ls = [] := List.eq_nil_of_length_eq_zero h0
    subst this
    exact ⟨none, 0, rfl, Nat.le_refl _, by decide, LS.nil _ _⟩
  · refine ⟨_, cap, rfl, h3, h4, us, fun _ => ⟨g, 0, rfl, fun i u hu => ?_⟩, hus⟩
    rw [← h6, List.getElem?_take] at hu
    split at hu
    · simp only [World.cell?, hh, Nat.zero_add]
      simpa using hu
    · cases hu
theorem LOwn.row {w : World} {g base : Nat} {ls : List (List Nat)} (h : LOwn w g ls) (hb : base ≤ g) (hm : ls.length ≤ maxLen) : LRow w base (.slice (some ⟨g, 0, none⟩) ls.length ls.length) ls := by
  obtain ⟨us, h1, h2⟩ := h
  refine ⟨us, ⟨by simpa using h2.1, .inr ⟨g, _, _, rfl, hb, h1, Nat.le_refl _, hm, by simpa using h2.1, ?_⟩⟩, h2⟩
  simp [List.take_of_length_le, h2.1]

theorem ofNat_inj256 {x y : Nat} (hx : x < 256) (hy : y < 256) (h : UInt8.ofNat x = UInt8.ofNat y) : x = y := by
  have := congrArg UInt8.toNat h
  simp at this
  omega
/-- Two texts of bytes are one text just if the bytes are the same. -/
theorem strOf_inj {xs ys : List Nat} (hx : isBytes xs) (hy : isBytes ys) (h : strOf xs = strOf ys) : xs = ys := by
  unfold strOf strOfNums at h
  have h' : (xs.map fun (n : Nat) => UInt8.ofNat n) = ys.map fun (n : Nat) => UInt8.ofNat n := by
    have := congrArg (fun b : ByteArray => b.data.toList) h
    simpa [Function.comp_def] using this
  have hl : xs.length = ys.length := by simpa using congrArg List.length h'
  apply List.ext_getElem hl
  intro i h1 h2
  have hi := congrArg (fun l => l[i]?) h'
  simp [h1, h2] at hi
  have a1 := hx i h1
  have a2 := hy i h2
  simp [List.getD, h1] at a1
  simp [List.getD, h2] at a2
  exact ofNat_inj256 a1 a2 hi
end Go.Proofs.Ytfgemnlbbipbcaa
