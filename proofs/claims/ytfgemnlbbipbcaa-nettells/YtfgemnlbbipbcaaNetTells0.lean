/- For shlaw2.NetTells: the document's Send for any list; a row of which one frame is written anew. -/
import Derived.Test.YtfgemnlbbipbcaaRefNet2
namespace Go.Proofs.Ytfgemnlbbipbcaa
open Go.RowKit
set_option linter.unusedVariables false
set_option linter.unusedSimpArgs false

theorem rsend_any (a ab : Option Addr) (cap cb : Nat) (ls : List (List Nat)) (xs : List Nat) (w : World) (hl : ls.length * 24 ≤ 140737488351232) (hz : a = none → ls = [] ∧ cap = 0) (hs : LS w a ls) (hxm : xs.length ≤ cb) (hcb : cb ≤ maxLen) (hxl : xs.length ≤ 140737488351232) (hx : BSl w ab xs) :
    Calls Try.prog 23 #[.slice a ls.length cap, .slice ab xs.length cb] w fun e w' => ∃ a' c', e = .returned (.slice a' (sendF ls xs).length c') ∧ LS w' a' (sendF ls xs) ∧ Below w.heap.size w w' := by
  by_cases h40 : 40 ≤ ls.length
  · rw [sendF_full h40]
    refine (rsend_full a ab cap cb ls.length xs.length w h40 (by omega)).mono fun e w' ⟨h1, h2⟩ => ?_
    subst h2
    exact ⟨a, cap, h1, hs, Below.refl _ _⟩
  · rw [sendF_room h40]
    have e0 : (ls ++ [xs]).length = ls.length + 1 := by simp
    rw [e0]
    cases a with
    | some ad => exact rsend_some ad ab cap cb ls xs w (by omega) hxm hcb hxl hs hx
    | none =>
      obtain ⟨rfl, rfl⟩ := hz rfl
      exact rsend_none ab cb xs w hxm hcb hxl hx
theorem own_pos {w : World} {base n : Nat} {v : Value} {xs : List Value} (h : w.ownsRow base 26 1 v n xs) (hn : 0 < n) : ∃ g cap cur, v = .slice (some ⟨g, 0, none⟩) n cap ∧ base ≤ g ∧ w.heap[g]? = some (.cells cur 26 (0, 0)) ∧ n ≤ cap ∧ cap ≤ maxLen ∧ cur.size = cap ∧ cur.toList.take n = xs := by
  rcases h.2 with ⟨_, h0⟩ | ⟨g, cap, cur, h1, h2, h3, h4, h5, h6, h7⟩
  · omega
  · exact ⟨g, cap, cur, h1, h2, h3, h4, h5, by simpa using h6, by simpa using h7⟩
theorem BSl.set_other {w : World} {g k : Nat} {v : Value} {a : Option Addr} {xs : List Nat} (h : BSl w a xs) (hne : ∀ b off, a = some ⟨b, off, none⟩ → b ≠ g) : BSl (w.setCell ⟨g, k, none⟩ v) a xs := by
  refine ⟨h.1, fun hx => ?_⟩
  obtain ⟨b, off, h1, h2⟩ := h.2 hx
  refine ⟨b, off, h1, fun i hi => ?_⟩
  rw [World.cell?_of_block (w := w) (Below.heap_setCell _ _ _ _ (by exact hne b off h1))]
  exact h2 i hi
theorem set_row {w w9 : World} {g k c9 : Nat} {cur : Array Value} {vs : List Value} {ls : List (List Nat)} {T : List Nat} {a9 : Option Addr} (hcur : w9.heap[g]? = some (.cells cur 26 (0, 0))) (htake : cur.toList.take ls.length = vs) (hFV : FVs w vs ls) (hg : w.heap.size ≤ g) (hb9 : Below w.heap.size w w9) (hk : k < ls.length)
    (hF9 : FV w9 (.slice a9 T.length c9) T) (hne : ∀ b off, a9 = some ⟨b, off, none⟩ → b ≠ g) : LS (w9.setCell ⟨g, k, none⟩ (.slice a9 T.length c9)) (some ⟨g, 0, none⟩) (ls.set k T) ∧ Below w.heap.size w (w9.setCell ⟨g, k, none⟩ (.slice a9 T.length c9)) := by
  have hbel : Below w.heap.size w (w9.setCell ⟨g, k, none⟩ (.slice a9 T.length c9)) := hb9.setCell (by exact hg) _
  refine ⟨⟨vs.set k (.slice a9 T.length c9), fun _ => ⟨g, 0, rfl, fun i u hu => ?_⟩, by simpa using hFV.1, fun i u ys hu hy => ?_⟩, hbel⟩
  · have hh : (w9.setCell ⟨g, k, none⟩ (.slice a9 T.length c9)).heap[g]? = some (.cells (cur.setIfInBounds k (.slice a9 T.length c9)) 26 (0, 0)) := by
      simp only [World.setCell]
      rw [Array.getElem?_modify, if_pos rfl, hcur]
      simp
    simp only [World.cell?, hh, Nat.zero_add]
    have hil : i < vs.length := by have := (List.getElem?_eq_some_iff.1 hu).1; simpa using this
    have hvl := hFV.1
    by_cases e : i = k
    · subst e
      rw [List.getElem?_set_self hil] at hu
      have hic : i < cur.size := by
        have := congrArg List.length htake
        simp at this
        omega
      rw [Array.getElem?_setIfInBounds_self_of_lt hic]
      exact hu
    · rw [List.getElem?_set_ne (Ne.symm e)] at hu
      rw [Array.getElem?_setIfInBounds_ne (Ne.symm e)]
      rw [← htake, List.getElem?_take] at hu
      split at hu
      · simpa using hu
      · cases hu
  · by_cases e : i = k
    · subst e
      rw [List.getElem?_set_self (by rw [hFV.1]; exact hk)] at hu
      rw [List.getElem?_set_self hk] at hy
      cases hu; cases hy
      obtain ⟨a1, c1, e1, h2, h3, h4, h5⟩ := hF9
      cases e1
      exact ⟨_, _, rfl, h2, h3, h4, h5.set_other hne⟩
    · rw [List.getElem?_set_ne (Ne.symm e)] at hu hy
      exact (hFV.2 i u ys hu hy).below hbel
end Go.Proofs.Ytfgemnlbbipbcaa
