/- What shref1.Turned answers: the same bytes as frame.Turn. -/
import Derived.Test.YtfgemnlbbipbcaaFacts
namespace Go.Proofs.Ytfgemnlbbipbcaa
open Go.RowKit
set_option linter.unusedVariables false
set_option linter.unusedSimpArgs false

theorem turnF_at (xs : List Nat) (bit : Int) (k : Nat) (hk : k < xs.length) : (turnF xs bit).getD k 0 = if 8 * (k : Int) ≤ bit ∧ bit < 8 * (k : Int) + 8 then xs.getD k 0 ^^^ 2 ^ (bit - 8 * (k : Int)).toNat else xs.getD k 0 := by
  unfold turnF
  by_cases hc : 0 ≤ bit ∧ bit / 8 < xs.length
  · rw [if_pos hc]
    by_cases hb : 8 * (k : Int) ≤ bit ∧ bit < 8 * (k : Int) + 8
    · rw [if_pos hb]
      have e1 : (bit / 8).toNat = k := by omega
      have e2 : (bit % 8).toNat = (bit - 8 * (k : Int)).toNat := by omega
      rw [e1, e2]
      simp [List.getD, hk]
    · rw [if_neg hb]
      have hne : (bit / 8).toNat ≠ k := by omega
      simp [List.getD, List.getElem?_set_ne hne]
  · rw [if_neg hc, if_neg (by omega)]
theorem u8s_snoc (T : List Nat) (k : Nat) (h : k < T.length) : u8s (T.take (k + 1)) = u8s (T.take k) ++ [.int .u8 (T.getD k 0 : Nat)] := by
  rw [List.take_succ_eq_append_getElem h]
  unfold u8s
  rw [List.map_append]
  simp only [List.map_cons, List.map_nil, List.getD, List.getElem?_eq_getElem h, Option.getD_some]
theorem one_new (w : World) (y : Value) : ∀ j u, [y][j]? = some u → (w.alloc (.cells #[y] 5)).cell? ((⟨w.heap.size, 0, none⟩ : Addr).add j) = some u := by
  intro j u hj
  match j, hj with
  | 0, hj => simp at hj; subst hj; simp [Addr.add]
theorem one_cell (n : Int) : ∀ u ∈ [Value.int .u8 n], u.oneCell' = true := by
  intro u hu; simp at hu; subst hu; rfl
theorem own_base {w : World} {base : Nat} {e : TypeId} {v : Value} {n : Nat} {xs : List Value} (h : w.ownsRow base e 1 v n xs) : ∀ g, v.ownBlock = some g → base ≤ g := by
  obtain ⟨_, h2⟩ := h
  rcases h2 with ⟨rfl, _⟩ | ⟨g', cap, cur, rfl, hg, _⟩
  · intro g hg; simp [Value.ownBlock] at hg
  · intro g hg'; simp [Value.ownBlock] at hg'; omega
/-- Behind 'out = append(out, y)'. -/
theorem rel_step {w wr w1 : World} {v v' : Value} {k y : Nat} {T : List Nat} {o : Obj} (hbel : Below w.heap.size w wr) (hown : wr.ownsRow w.heap.size 5 1 v k (u8s (T.take k)))
    (hsn : u8s (T.take (k + 1)) = u8s (T.take k) ++ [.int .u8 (y : Nat)]) (h1 : w1.ownsRow w.heap.size 5 1 v' (k + 1) (u8s (T.take k) ++ [.int .u8 (y : Nat)])) (h2 : (wr.alloc o).grownBy w1 v.ownBlock) :
    w1.ownsRow w.heap.size 5 1 v' (k + 1) (u8s (T.take (k + 1))) ∧ Below w.heap.size w w1 := by
  rw [hsn]
  exact ⟨h1, (hbel.alloc hbel.size o).grown h2 (by have := hbel.size; simp; omega) (own_base hown)⟩

/-- What the call owns is a slice of bytes. -/
theorem owns_BSl {w : World} {base : Nat} {v : Value} {xs : List Nat} (h : w.ownsRow base 5 1 v xs.length (u8s xs)) (hx : isBytes xs) : ∃ a cap, v = .slice a xs.length cap ∧ xs.length ≤ cap ∧ cap ≤ maxLen ∧ BSl w a xs := by
  obtain ⟨_, h2⟩ := h
  rcases h2 with ⟨rfl, h0⟩ | ⟨g, cap, cur, rfl, hg, hh, h3, h4, h5, h6⟩
  · have : xs = [] := List.eq_nil_of_length_eq_zero h0
    subst this
    exact ⟨none, 0, rfl, Nat.le_refl _, by decide, hx, fun h => absurd rfl h⟩
  · refine ⟨some ⟨g, 0, none⟩, cap, rfl, h3, h4, hx, fun _ => ⟨g, 0, rfl, fun i hi => ?_⟩⟩
    have h7 := u8s_get xs i hi
    rw [← h6, List.getElem?_take, if_pos (by omega)] at h7
    simp only [World.cell?, hh, Nat.zero_add]
    simpa using h7

set_option maxHeartbeats 2000000 in
theorem turned_walk (b off cap : Nat) (xs : List Nat) (bit : Int) (w : World) (hl : xs.length ≤ 140737488351232) (hb1 : -9223372036854775808 ≤ bit) (hb2 : bit ≤ 9223372036854775807) (hx : isBytes xs) (hc : BRow w b off xs) (hbw : b < w.heap.size) :
    Calls Try.prog 14 #[.slice (some ⟨b, off, none⟩) xs.length cap, .int .i64 bit] w fun e w' => ∃ v, e = .returned v ∧ w'.ownsRow w.heap.size 5 1 v xs.length (u8s (turnF xs bit)) ∧ Below w.heap.size w w' := by
  obtain ⟨i0, hi, hz0, hz1, hz2⟩ := info_parts Try.infoU8
  have hTl : (turnF xs bit).length = xs.length := turnF_length xs bit
  have hTb := turnF_isBytes xs bit hx
  have hTat := turnF_at xs bit
  obtain ⟨T, hT⟩ : ∃ T, T = turnF xs bit := ⟨_, rfl⟩
  rw [← hT] at hTl hTb hTat ⊢
  have HT : Hid _ := hTl
  clear hT hTl
  go_enter Try.func14, Try.ntmps14
  go_wp2
  go_loopw [5, 11] (fun v i wr => ∃ k : Nat, k ≤ xs.length ∧ i = .int .i64 k ∧ wr.ownsRow w.heap.size 5 1 v k (u8s (T.take k)) ∧ Below w.heap.size w wr) (fun _ i _ => xs.length - (intOf i).toNat)
  case atStart => exact ⟨0, Nat.zero_le _, rfl, World.ownsRow_nil _ _ _ _, Below.refl _ _⟩
  case round =>
    obtain ⟨k, hk, rfl, hown, hbel⟩ := hrel
    by_cases hlt : k < xs.length
    · have hck : wr.cell? ⟨b, off + k, none⟩ = some (.int .u8 (xs.getD k 0 : Nat)) := (hbel.cell (by exact hbw)).trans (hc k hlt)
      have hxk := hx k hlt
      have hy := hTat k hlt
      have hsn := u8s_snoc T k (by rw [HT.out]; exact hlt)
      obtain ⟨x, hx0⟩ : ∃ x : Nat, x = xs.getD k 0 := ⟨_, rfl⟩
      rw [← hx0] at hck hxk hy
      obtain ⟨y, hy0⟩ : ∃ y : Nat, y = T.getD k 0 := ⟨_, rfl⟩
      rw [← hy0] at hy hsn
      have HSN : Hid _ := hsn
      clear hx0 hc hx hTb hTat hy0 hsn
      have hbs := hbel.size
      by_cases hin : 8 * (k : Int) ≤ bit ∧ bit < 8 * (k : Int) + 8
      · rw [if_pos hin] at hy
        obtain ⟨h8, h9⟩ := hin
        obtain ⟨t, ht⟩ : ∃ t : Nat, bit = 8 * (k : Int) + t := ⟨(bit - 8 * (k : Int)).toNat, by omega⟩
        have et : (bit - 8 * (k : Int)).toNat = t := by omega
        have ht8 : t < 8 := by omega
        rw [et] at hy
        have eb : bit - 8 * (k : Int) = t := by omega
        have HY : Hid _ := hy
        have HB : Hid _ := ht
        clear et hy ht
        go_wp2
        go_loop [8, 31] (fun m i => ∃ j : Nat, j ≤ t ∧ i = .int .i64 j ∧ m = .int .i64 ((2 ^ j : Nat) : Int)) (fun _ i => t - (intOf i).toNat)
        case atStart => exact ⟨0, Nat.zero_le _, rfl, rfl⟩
        case round =>
          obtain ⟨j, hj, rfl, rfl⟩ := hrel
          have hpj : 2 ^ j ≤ 2 ^ 7 := Nat.pow_le_pow_right (by omega) (by omega)
          obtain ⟨p, hp⟩ : ∃ p : Nat, p = 2 ^ j := ⟨_, rfl⟩
          rw [← hp] at hpj ⊢
          have HP : Hid _ := hp
          clear hp
          by_cases hjt : j < t
          · go_wp2
            go_round
            case rel => exact ⟨j + 1, by omega, by go_num, congrArg (Value.int .i64) (by rw [Nat.pow_succ, ← HP.out]; omega)⟩
            case measure => simp [intOf]; omega
          · have ejt : j = t := by omega
            subst ejt
            have hxo := xor_i64 x p (by omega) (by omega)
            have hlt2 := xor_lt x j hxk ht8
            rw [← HP.out] at hlt2
            obtain ⟨z, hz⟩ : ∃ z : Nat, z = x ^^^ p := ⟨_, rfl⟩
            rw [← hz] at hxo hlt2
            have ezy : z = y := by rw [hz, HP.out, HY.out]
            subst ezy
            have wz : IntKind.u8.wrap (z : Int) = z := by simp [IntKind.wrap, IntKind.bits, IntKind.signed]; omega
            clear hz
            go_wp2_with (at_builtin; refine wpList_append_own _ rfl _ _ 26 rfl w.heap.size 5 i0 (.int .u8 0) 1 1 Try.underlying26 hi hz0 hz1 hz2 rfl (by decide) _ _ _ rfl (hown.alloc _) ⟨wr.heap.size, 0, none⟩ 1 1 [.int .u8 z] rfl rfl (one_new _ _) (one_cell _) (by unfold maxLen; omega) (by omega) (by have := hbel.size; simp; omega) ?_; intro v' w1 h1 h2 _; have R := rel_step hbel hown HSN.out h1 h2; clear h1 h2 hown hck)
            go_wp2
            go_roundw
            case rel => exact ⟨k + 1, by omega, by go_num, R.1, R.2⟩
            case measure => simp [intOf]; omega
      · rw [if_neg hin] at hy
        subst hy
        by_cases h8 : 8 * (k : Int) ≤ bit
        · have h9 : 8 * (k : Int) + 8 ≤ bit := by omega
          clear hin
          go_wp2_with (at_builtin; refine wpList_append_own _ rfl _ _ 26 rfl w.heap.size 5 i0 (.int .u8 0) 1 1 Try.underlying26 hi hz0 hz1 hz2 rfl (by decide) _ _ _ rfl (hown.alloc _) ⟨wr.heap.size, 0, none⟩ 1 1 [.int .u8 y] rfl rfl (one_new _ _) (one_cell _) (by unfold maxLen; omega) (by omega) (by have := hbel.size; simp; omega) ?_; intro v' w1 h1 h2 _; have R := rel_step hbel hown HSN.out h1 h2; clear h1 h2 hown hck)
          go_wp2
          go_roundw
          case rel => exact ⟨k + 1, by omega, by go_num, R.1, R.2⟩
          case measure => simp [intOf]; omega
        · have h9 : bit < 8 * (k : Int) := by omega
          clear hin h8
          go_wp2_with (at_builtin; refine wpList_append_own _ rfl _ _ 26 rfl w.heap.size 5 i0 (.int .u8 0) 1 1 Try.underlying26 hi hz0 hz1 hz2 rfl (by decide) _ _ _ rfl (hown.alloc _) ⟨wr.heap.size, 0, none⟩ 1 1 [.int .u8 y] rfl rfl (one_new _ _) (one_cell _) (by unfold maxLen; omega) (by omega) (by have := hbel.size; simp; omega) ?_; intro v' w1 h1 h2 _; have R := rel_step hbel hown HSN.out h1 h2; clear h1 h2 hown hck)
          go_wp2
          go_roundw
          case rel => exact ⟨k + 1, by omega, by go_num, R.1, R.2⟩
          case measure => simp [intOf]; omega
    · go_wp2
      go_ret
      have ek : k = xs.length := by omega
      subst ek
      rw [List.take_of_length_le (by rw [HT.out]; exact Nat.le_refl _)] at hown
      exact ⟨_, rfl, hown, hbel⟩
end Go.Proofs.Ytfgemnlbbipbcaa
