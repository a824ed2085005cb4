/- What shref1.Bytes answers: the same bytes as frame.Bytes. -/
import Derived.Test.YtmjhmbalkgpcjaaRefTurned
import Derived.Test.YtmjhmbalkgpcjaaRefSum
namespace Go.Proofs.Ytmjhmbalkgpcjaa
open Go.RowKit
set_option linter.unusedVariables false
set_option linter.unusedSimpArgs false

theorem two_new (w : World) (x y : Value) : ∀ j u, [x, y][j]? = some u → (w.alloc (.cells #[x, y] 5)).cell? ((⟨w.heap.size, 0, none⟩ : Addr).add j) = some u := by
  intro j u hj
  match j, hj with
  | 0, hj => simp at hj; subst hj; simp [Addr.add]
  | 1, hj => simp at hj; subst hj; simp [Addr.add]
theorem two_cells (m n : Int) : ∀ u ∈ [Value.int .u8 m, Value.int .u8 n], u.oneCell' = true := by
  intro u hu; simp at hu; rcases hu with rfl | rfl <;> rfl

/-- Behind an append of 'news': what is owned, what was there, and the cells of one block below what is owned. -/
theorem rel_step2 {w wr w1 : World} {v : Value} {n : Nat} {xs : List Value} {o : Obj} {H : List Nat} (hbel : Below w.heap.size w wr) (hown : wr.ownsRow (w.heap.size + 2) 5 1 v n xs)
    (hcells : ∀ k, k < 10 → wr.cell? ⟨w.heap.size + 1, k, none⟩ = some (.int .i64 (H.getD k 0 : Nat))) (h2 : (wr.alloc o).grownBy w1 v.ownBlock) :
    Below w.heap.size w w1 ∧ ∀ k, k < 10 → w1.cell? ⟨w.heap.size + 1, k, none⟩ = some (.int .i64 (H.getD k 0 : Nat)) := by
  have hlt : w.heap.size + 1 < wr.heap.size := block_lt_of_cell (hcells 0 (by decide))
  refine ⟨(hbel.alloc hbel.size o).grown h2 (by have := hbel.size; simp; omega) (fun g hg => by have := own_base hown g hg; omega), fun k hk => ?_⟩
  rw [World.cell?_of_block (w := wr.alloc o) (h2.block (w.heap.size + 1) (by simp; omega) (fun e => by have := own_base hown _ e.symm; omega))]
  rw [World.cell?_alloc_lt _ _ _ hlt]
  exact hcells k hk
theorem ownsRow_base {w : World} {B B' : Nat} {e : TypeId} {v : Value} {n : Nat} {xs : List Value} (h : w.ownsRow B e 1 v n xs) (hB : B' ≤ B) : w.ownsRow B' e 1 v n xs := by
  obtain ⟨h1, h2⟩ := h
  refine ⟨h1, ?_⟩
  rcases h2 with h2 | ⟨g, cap, cur, hv, hg, r⟩
  · exact .inl h2
  · exact .inr ⟨g, cap, cur, hv, by omega, r⟩
theorem owns_form {w : World} {B : Nat} {v : Value} {H : List Nat} {n : Nat} (h : w.ownsRow B 5 1 v n (u8s H)) (hn : n = H.length) (hpos : 0 < n) : ∃ g cap, v = .slice (some ⟨g, 0, none⟩) n cap ∧ BRow w g 0 H := by
  obtain ⟨_, h2⟩ := h
  rcases h2 with ⟨rfl, h0⟩ | ⟨g, cap, cur, rfl, hg, hh, h3, h4, h5, h6⟩
  · omega
  · refine ⟨g, cap, rfl, fun i hi => ?_⟩
    have h7 := u8s_get H i hi
    rw [← h6, List.getElem?_take, if_pos (by omega)] at h7
    simp only [World.cell?, hh, Nat.zero_add]
    simpa using h7

set_option maxHeartbeats 2000000 in
theorem rbytes_walk (y0 frm to y2 serial turn y7 : Nat) (alone : Bool) (y1 y3 y4 y5 y6 y8 s : Nat) (H : List Nat) (w : World) (hf : frm < 16) (ht : to < 16) (hsr : serial < 65536) (htn : turn < 65536) (e1 : 16 * (frm : Int) + to = y1)
    (e3 : (serial : Int) / 256 = y3) (e4 : (serial : Int) % 256 = y4) (e5 : (turn : Int) / 256 = y5) (e6 : (turn : Int) % 256 = y6) (e8 : y8 = flagN alone) (eH : H = [y0, y1, y2, y3, y4, y5, y6, y7, y8, 0]) (hH : isBytes H) (es : csum 65535 H = s) :
    Calls Try.prog 15 #[msgV y0 frm to y2 serial turn y7 alone] w fun e w' => ∃ v, e = .returned v ∧ w'.ownsRow w.heap.size 5 1 v 12 (u8s (H ++ [s / 256, s % 256])) ∧ Below w.heap.size w w' := by
  obtain ⟨i0, hi, hz0, hz1, hz2⟩ := info_parts Try.infoU8
  have hHl : H.length = 10 := by rw [eH]; rfl
  have hs : s < 65536 := by rw [← es]; exact csum_bd _ _ (by omega)
  have hlit : ∀ k, k < 10 → ((w.alloc (.cells #[.int .i64 y0, .int .i64 frm, .int .i64 to, .int .i64 y2, .int .i64 serial, .int .i64 turn, .int .i64 y7, .bool alone] 25)).alloc (.cells #[.int .i64 y0, .int .i64 y1, .int .i64 y2, .int .i64 y3, .int .i64 y4, .int .i64 y5, .int .i64 y6, .int .i64 y7, .int .i64 y8, .int .i64 0] 3)).cell? ⟨w.heap.size + 1, k, none⟩ = some (.int .i64 (H.getD k 0 : Nat)) := by
    intro k hk
    rw [eH]
    match k, hk with
    | 0, _ => simp
    | 1, _ => simp
    | 2, _ => simp
    | 3, _ => simp
    | 4, _ => simp
    | 5, _ => simp
    | 6, _ => simp
    | 7, _ => simp
    | 8, _ => simp
    | 9, _ => simp
  have ks := fun w g cap (h : BRow w g 0 H) => rsum_any g 0 cap H w (by rw [hHl]; decide) h hH
  rw [es, hHl] at ks
  have ks' := fun w g cap (h : BRow w g 0 H) => (ks w g cap h).mono (R' := fun e w' => e = .returned (.int .i64 s) ∧ w = w') fun e w' ⟨h1, h2⟩ => ⟨h1, h2.symm⟩
  clear ks
  have hsn : ∀ k, k < 10 → u8s (H.take (k + 1)) = u8s (H.take k) ++ [.int .u8 (H.getD k 0 : Nat)] := fun k hk => u8s_snoc H k (by omega)
  have hHk : ∀ k, k < 10 → H.getD k 0 < 256 := fun k hk => hH k (by omega)
  have HSN : Hid _ := hsn
  have HL : Hid _ := hlit
  have HHK : Hid _ := hHk
  have HHB : Hid _ := hH
  have HLEN : Hid _ := hHl
  clear eH hH es hHl hsn hlit hHk
  have es1 : (s : Int) / 256 = ((s / 256 : Nat) : Int) := by omega
  have es2 : (s : Int) % 256 = ((s % 256 : Nat) : Int) := by omega
  obtain ⟨p, hp⟩ : ∃ p : Nat, p = s / 256 := ⟨_, rfl⟩
  obtain ⟨r, hr⟩ : ∃ r : Nat, r = s % 256 := ⟨_, rfl⟩
  rw [← hp] at es1 ⊢
  rw [← hr] at es2 ⊢
  have hs' : (s : Int) ≤ 65535 := by omega
  have wp : IntKind.u8.wrap (p : Int) = p := by simp [IntKind.wrap, IntKind.bits, IntKind.signed]; omega
  have wr2 : IntKind.u8.wrap (r : Int) = r := by simp [IntKind.wrap, IntKind.bits, IntKind.signed]; omega
  clear hp hr
  unfold msgV
  have step : Calls Try.prog 15 #[.agg #[.int .i64 y0, .int .i64 frm, .int .i64 to, .int .i64 y2, .int .i64 serial, .int .i64 turn, .int .i64 y7, .bool alone]] w fun e w' => ∃ v, e = .returned v ∧ w'.ownsRow w.heap.size 5 1 v 12 (u8s (H ++ [p, r])) ∧ Below w.heap.size w w' := by
    cases alone
    all_goals
      simp only [flagN, if_true, Bool.false_eq_true, if_false] at e8
      subst e8
      go_enter Try.func15, Try.ntmps15
      go_wp2
      clear e1 e3 e4 e5 e6
      go_loopw [4, 37] (fun v i wr => ∃ k : Nat, k ≤ 10 ∧ i = .int .i64 k ∧ wr.ownsRow (w.heap.size + 2) 5 1 v k (u8s (H.take k)) ∧ Below w.heap.size w wr ∧ Hid (∀ k, k < 10 → wr.cell? ⟨w.heap.size + 1, k, none⟩ = some (.int .i64 (H.getD k 0 : Nat)))) (fun _ i _ => 10 - (intOf i).toNat)
      case atStart => exact ⟨0, Nat.zero_le _, rfl, World.ownsRow_nil _ _ _ _, below2 _ _ _, HL.out⟩
      case round =>
        obtain ⟨k, hk, rfl, hown, hbel, HC⟩ := hrel
        have hlt0 : w.heap.size + 1 < wr.heap.size := block_lt_of_cell (HC.out 0 (by decide))
        by_cases hlt : k < 10
        · have hck := HC.out k hlt
          have hyk := HHK.out k hlt
          have hsn := HSN.out k hlt
          obtain ⟨y, hy0⟩ : ∃ y : Nat, y = H.getD k 0 := ⟨_, rfl⟩
          rw [← hy0] at hck hyk hsn
          have wy : IntKind.u8.wrap (y : Int) = y := by simp [IntKind.wrap, IntKind.bits, IntKind.signed]; omega
          have HS1 : Hid _ := hsn
          have hk10 : (k : Int) < 10 := by omega
          clear hy0 hsn
          go_wp2_with (at_builtin; refine wpList_append_own _ rfl _ _ 26 rfl (w.heap.size + 2) 5 i0 (.int .u8 0) 1 1 Try.underlying26 hi hz0 hz1 hz2 rfl (by decide) _ _ _ rfl (hown.alloc _) ⟨wr.heap.size, 0, none⟩ 1 1 [.int .u8 y] rfl rfl (one_new _ _) (one_cell _) (by unfold maxLen; omega) (by omega) (by simp; omega) ?_; intro v' w1 h1 h2 _; have R := rel_step2 hbel hown HC.out h2; rw [← HS1.out] at h1; clear h2 hown hck)
          go_wp2
          go_roundw
          case rel => first | exact ⟨k + 1, by omega, by go_num, h1, R.1, R.2⟩ | ((repeat apply Exists.intro); exact ⟨⟨k + 1, by omega, by go_num, h1, R.1, R.2⟩, rfl⟩)
          case measure => simp [intOf]; omega
        · have ek : k = 10 := by omega
          subst ek
          rw [List.take_of_length_le (by rw [HLEN.out]; exact Nat.le_refl _)] at hown
          obtain ⟨g, cap, rfl, hrow⟩ := owns_form hown HLEN.out.symm (by decide)
          go_wp2_with (first | (go_at_call 9; refine (ks' _ _ _ hrow).mono ?_; rintro e w' ⟨rfl, rfl⟩) | (at_builtin; refine wpList_append_own _ rfl _ _ 26 rfl (w.heap.size + 2) 5 i0 (.int .u8 0) 1 1 Try.underlying26 hi hz0 hz1 hz2 rfl (by decide) _ _ _ rfl (hown.alloc _) ⟨wr.heap.size, 0, none⟩ 2 2 [.int .u8 p, .int .u8 r] rfl rfl (two_new _ _ _) (two_cells _ _) (by unfold maxLen; omega) (by omega) (by simp; omega) ?_; intro v' w1 h1 h2 _; have R := rel_step2 hbel hown HC.out h2; clear h2))
          go_ret
          refine ⟨_, rfl, ?_, R.1⟩
          have h3 := ownsRow_base h1 (show w.heap.size ≤ w.heap.size + 2 by omega)
          have e : u8s (H ++ [p, r]) = u8s H ++ [.int .u8 p, .int .u8 r] := by unfold u8s; rw [List.map_append]; rfl
          rw [e]
          exact h3
  exact step
end Go.Proofs.Ytmjhmbalkgpcjaa
