/- What shref1.Take answers. -/
import Derived.Test.YtfgemnlbbipbcaaRefNet1
namespace Go.Proofs.Ytfgemnlbbipbcaa
open Go.RowKit
set_option linter.unusedVariables false
set_option linter.unusedSimpArgs false

theorem erase_ge {α : Type} (l : List α) (n : Nat) (h : l.length ≤ n) : l.eraseIdx n = l := List.eraseIdx_of_length_le h
theorem erase_step_ne {vs : List Value} {k n : Nat} {u : Value} (hk : vs[k]? = some u) (hne : k ≠ n) : (vs.take (k + 1)).eraseIdx n = (vs.take k).eraseIdx n ++ [u] := by
  have hlt := (List.getElem?_eq_some_iff.1 hk).1
  have e : vs.take (k + 1) = vs.take k ++ [u] := by
    rw [List.take_add_one, hk]; rfl
  rw [e]
  by_cases h : n < k
  · rw [List.eraseIdx_append_of_lt_length (by simp; omega)]
  · rw [erase_ge _ _ (by simp; omega), erase_ge _ _ (by simp; omega)]
theorem erase_step_eq {vs : List Value} {k : Nat} {u : Value} (hk : vs[k]? = some u) : (vs.take (k + 1)).eraseIdx k = (vs.take k).eraseIdx k := by
  have hlt := (List.getElem?_eq_some_iff.1 hk).1
  have e : vs.take (k + 1) = vs.take k ++ [u] := by
    rw [List.take_add_one, hk]; rfl
  have e2 : (vs.take k).length = k := by simp; omega
  rw [e, List.eraseIdx_append_of_length_le (by omega), e2, Nat.sub_self, erase_ge (vs.take k) k (by omega)]
  simp
theorem FVs.erase {w : World} {vs : List Value} {ls : List (List Nat)} (h : FVs w vs ls) (n : Nat) : FVs w (vs.eraseIdx n) (ls.eraseIdx n) := by
  rw [List.eraseIdx_eq_take_drop_succ, List.eraseIdx_eq_take_drop_succ]
  exact (h.take n).append (h.drop (n + 1))
theorem erase_len_le {α : Type} (l : List α) (k n : Nat) : ((l.take k).eraseIdx n).length ≤ k := by
  rw [List.length_eraseIdx]
  split <;> simp <;> omega
/-- Behind 'out = append(out, b)'. -/
theorem rel_old {w wr w1 : World} {v v' : Value} {us us' : List Value} {u : Value} {o : Obj} (hbel : Below w.heap.size w wr) (hown : wr.ownsRow w.heap.size 26 1 v us.length us) (hsn : us' = us ++ [u])
    (h1 : w1.ownsRow w.heap.size 26 1 v' (us.length + 1) (us ++ [u])) (h2 : (wr.alloc o).grownBy w1 v.ownBlock) :
    w1.ownsRow w.heap.size 26 1 v' us'.length us' ∧ Below w.heap.size w w1 := by
  subst hsn
  refine ⟨by simpa using h1, (hbel.alloc hbel.size o).grown h2 (by have := hbel.size; simp; omega) (own_base hown)⟩

theorem rtake_no (a : Option Addr) (cap m : Nat) (n : Int) (w : World) (hm : m ≤ 140737488351232) (h : ¬ (0 ≤ n ∧ n < m)) :
    Calls Try.prog 25 #[.slice a m cap, .int .i64 n] w fun e w' => e = .returned (.tuple #[.slice none 0 0, .slice none 0 0, .int .i64 5]) ∧ w = w' := by
  by_cases h0 : n < 0
  · clear h
    go_enter Try.func25, Try.ntmps25
    go_wp2
    go_ret3
    exact ⟨rfl, rfl⟩
  · have h0' : 0 ≤ n := by omega
    have h1 : (m : Int) ≤ n := by omega
    clear h h0
    go_enter Try.func25, Try.ntmps25
    go_wp2
    go_ret3
    exact ⟨rfl, rfl⟩
set_option maxHeartbeats 2000000 in
theorem rtake_ok (a : Option Addr) (cap n : Nat) (ls : List (List Nat)) (w : World) (hl : ls.length * 24 ≤ 140737488351232) (hs : LS w a ls) (hn : n < ls.length) :
    Calls Try.prog 25 #[.slice a ls.length cap, .int .i64 (n : Int)] w fun e w' => ∃ a' c' u cu, e = .returned (.tuple #[.slice a' (ls.eraseIdx n).length c', .slice u ls[n].length cu, .int .i64 0]) ∧ LS w' a' (ls.eraseIdx n) ∧ BSl w' u ls[n] ∧ Below w.heap.size w w' := by
  obtain ⟨i0, hi, hz0, hz1, hz2⟩ := info_parts Try.infoSl
  obtain ⟨vs, h1, hFV⟩ := hs
  obtain ⟨b, off, rfl, hcell⟩ := h1 (by intro e; subst e; have := hFV.1; simp at this; omega)
  have hvl := hFV.1
  obtain ⟨N, hN⟩ : ∃ N, N = ls.length := ⟨_, rfl⟩
  have hnv : n < vs.length := by omega
  obtain ⟨au, cu, hu, _, _, _, hbu⟩ := hFV.2 n _ _ (List.getElem?_eq_getElem hnv) (List.getElem?_eq_getElem hn)
  have hcn := hcell n _ (List.getElem?_eq_getElem hnv)
  rw [hu] at hcn
  have hE := hFV.erase n
  obtain ⟨E, hE0⟩ : ∃ E, E = ls.eraseIdx n := ⟨_, rfl⟩
  obtain ⟨x, hx⟩ : ∃ x, x = ls[n] := ⟨_, rfl⟩
  rw [← hN] at hl hn hvl
  rw [← hE0] at hE
  rw [← hx] at hcn hbu
  rw [← hN, ← hE0, ← hx]
  have HE : Hid (FVs w (vs.eraseIdx n) E) := hE
  have HB : Hid (BSl w au x) := hbu
  have HC : Hid _ := hcell
  have HL : Hid _ := hvl
  have HF : Hid (FVs w vs ls) := hFV
  have hbw : b < w.heap.size := World.block_lt_of_cell? w _ hcn
  clear h1 hFV hN hx hE hE0 hcell hvl hu hbu hnv
  have hd1 : decide ((n : Int) < 0) = false := by simp
  have hd2 : decide (N ≤ n) = false := by simp; omega
  go_enter Try.func25, Try.ntmps25
  go_wp2
  go_loopw [7, 20] (fun v i wr => ∃ k : Nat, k ≤ N ∧ i = .int .i64 k ∧ wr.ownsRow w.heap.size 26 1 v ((vs.take k).eraseIdx n).length ((vs.take k).eraseIdx n) ∧ Below w.heap.size w wr) (fun _ i _ => N - (intOf i).toNat)
  case atStart => exact ⟨0, Nat.zero_le _, rfl, by simpa using World.ownsRow_nil _ _ _ _, Below.refl _ _⟩
  case round =>
    obtain ⟨k, hk, rfl, hown, hbel⟩ := hrel
    by_cases hlt : k < N
    · have hkv : k < vs.length := by rw [HL.out]; exact hlt
      have hvk : vs[k]? = some vs[k] := List.getElem?_eq_getElem hkv
      obtain ⟨ak, mk, ck, eu⟩ := HF.out.slice hvk
      rw [eu] at hvk
      have hck : wr.cell? ⟨b, off + k, none⟩ = some (.slice ak mk ck) := (hbel.cell (by exact hbw)).trans (HC.out k _ hvk)
      have hbs := hbel.size
      have hml := erase_len_le vs k n
      by_cases hkn : k = n
      · have hst := erase_step_eq hvk
        have hne : ((k : Int) != (n : Int)) = false := by simp [hkn]
        rw [hkn] at hst
        have HST : Hid _ := hst
        have HKN : Hid (k = n) := hkn
        clear hst hkn eu hvk
        go_wp2
        go_roundw
        case rel => exact ⟨k + 1, by omega, by go_num, by rw [HKN.out, HST.out, ← HKN.out]; rw [HKN.out] at hown ⊢; exact hown, hbel⟩
        case measure => simp [intOf]; omega
      · have hst := erase_step_ne (n := n) hvk hkn
        have hne : ((k : Int) != (n : Int)) = true := by rw [bne_iff_ne]; omega
        have HST : Hid _ := hst
        obtain ⟨us, hus⟩ : ∃ us, us = (vs.take k).eraseIdx n := ⟨_, rfl⟩
        rw [← hus] at hown HST hml
        clear hst hkn eu hvk hus
        go_wp2_with (at_builtin; refine wpList_append_own _ rfl _ _ 38 rfl w.heap.size 26 i0 (.slice none 0 0) 1 24 Try.underlying38 hi hz0 hz1 hz2 rfl (by decide) _ _ _ rfl (hown.alloc _) ⟨wr.heap.size, 0, none⟩ 1 1 [.slice ak mk ck] rfl rfl (new_one _ _ _) (one_slice _ _ _) (by unfold maxLen; omega) (by omega) (by simp; omega) ?_; intro v' w1 h1 h2 _; have R := rel_old hbel hown HST.out h1 h2; clear h1 h2 hown hck)
        go_roundw
        case rel => exact ⟨k + 1, by omega, by go_num, R.1, R.2⟩
        case measure => simp [intOf]; omega
    · have ek : k = N := by omega
      subst ek
      rw [List.take_of_length_le (by rw [HL.out]; exact Nat.le_refl _)] at hown
      obtain ⟨a', c', rfl, q1, q2, q3⟩ := old_row HE.out HE.out.1 hown hbel
      have hcn' : wr.cell? ⟨b, off + n, none⟩ = some (.slice au x.length cu) := (hbel.cell (by exact hbw)).trans hcn
      clear hown
      go_wp2
      go_quiet (fail)
      go_wp2
      go_ret3
      exact ⟨a', c', au, cu, rfl, q3.below (below_drewN (Below.refl _ _) _), HB.out.below (below_drewN hbel _), below_drewN hbel _⟩
end Go.Proofs.Ytfgemnlbbipbcaa
