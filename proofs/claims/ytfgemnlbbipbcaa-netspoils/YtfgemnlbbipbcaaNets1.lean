/- What net.Send, Twice and Spoil answer. -/
import Derived.Test.YtfgemnlbbipbcaaNets
import Derived.Test.YtfgemnlbbipbcaaFacts
namespace Go.Proofs.Ytfgemnlbbipbcaa
open Go.RowKit
set_option linter.unusedVariables false
set_option linter.unusedSimpArgs false

theorem FV.grown {w w' : World} {g : Nat} {us : List Value} {ms : List (List Nat)} {v : Value} {xs : List Nat} (hg : w.heap[g]? = some (.cells us.toArray 26 (0, 0))) (hus : FVs w us ms) (hgr : w.grownBy w' (some g)) (h : FV w v xs) : FV w' v xs := by
  obtain ⟨a, c, h1, h2, h3, h4, h5, h6⟩ := h
  refine ⟨a, c, h1, h2, h3, h4, h5, fun hx => ?_⟩
  obtain ⟨b, off, e1, e2⟩ := h6 hx
  refine ⟨b, off, e1, fun i hi => ?_⟩
  have hc := e2 i hi
  refine hgr.cell hc ?_
  intro e
  have e' : b = g := by simpa using e
  subst e'
  simp only [World.cell?, hg] at hc
  have : us[off + i]? = some (.int .u8 (xs.getD i 0 : Nat)) := by simpa using hc
  obtain ⟨a', n', c', e'⟩ := hus.slice this
  cases e'
theorem FVs.grown {w w' : World} {g : Nat} {us vs : List Value} {ms ls : List (List Nat)} (hg : w.heap[g]? = some (.cells us.toArray 26 (0, 0))) (hus : FVs w us ms) (hgr : w.grownBy w' (some g)) (h : FVs w vs ls) : FVs w' vs ls :=
  ⟨h.1, fun i v xs h1 h2 => (h.2 i v xs h1 h2).grown hg hus hgr⟩
theorem new_one (w : World) (y : Value) (t : TypeId) : ∀ j u, [y][j]? = some u → (w.alloc (.cells #[y] t)).cell? ((⟨w.heap.size, 0, none⟩ : Addr).add j) = some u := by
  intro j u hj
  match j, hj with
  | 0, hj => simp at hj; subst hj; simp [Addr.add]
theorem one_slice (a : Option Addr) (n c : Nat) : ∀ u ∈ [Value.slice a n c], u.oneCell' = true := by
  intro u hu; simp at hu; subst hu; rfl

theorem LOwn.own {w : World} {g base : Nat} {ls : List (List Nat)} (h : LOwn w g ls) (hb : base ≤ g) (hm : ls.length ≤ maxLen) : ∃ us : List Value, w.heap[g]? = some (.cells us.toArray 26 (0, 0)) ∧ FVs w us ls ∧ w.ownsRow base 26 1 (.slice (some ⟨g, 0, none⟩) ls.length ls.length) ls.length us := by
  obtain ⟨us, h1, h2⟩ := h
  exact ⟨us, h1, h2, by simpa using h2.1, .inr ⟨g, _, _, rfl, hb, h1, Nat.le_refl _, hm, by simpa using h2.1, by simp [List.take_of_length_le, h2.1]⟩⟩

theorem row_src {w : World} {g : Nat} {vs : List Value} {t : TypeId} (h : w.heap[g]? = some (.cells vs.toArray t (0, 0))) : ∀ j u, vs[j]? = some u → w.cell? ((⟨g, 0, none⟩ : Addr).add j) = some u := by
  intro j u hu
  have : (⟨g, 0, none⟩ : Addr).add j = ⟨g, j, none⟩ := by unfold Addr.add; split <;> simp_all
  rw [this]
  simp only [World.cell?, h]
  simpa using hu

def sendF (ls : List (List Nat)) (xs : List Nat) : List (List Nat) := if 40 ≤ ls.length then ls else ls ++ [xs]
theorem sendF_full {ls : List (List Nat)} {xs : List Nat} (h : 40 ≤ ls.length) : sendF ls xs = ls := by unfold sendF; rw [if_pos h]
theorem sendF_room {ls : List (List Nat)} {xs : List Nat} (h : ¬ 40 ≤ ls.length) : sendF ls xs = ls ++ [xs] := by unfold sendF; rw [if_neg h]
theorem sendF_len (ls : List (List Nat)) (xs : List Nat) (h : ls.length * 24 ≤ 140737488351232) : (sendF ls xs).length * 24 ≤ 140737488351232 := by
  unfold sendF; split
  · exact h
  · simp; omega

/-- Behind 'append(out, one)' where out is a row of its own. -/
theorem send_end {w w2 w3 : World} {g : Nat} {ls : List (List Nat)} {us : List Value} {v v' : Value} {xs : List Nat} {o : Obj} (hg : w2.heap[g]? = some (.cells us.toArray 26 (0, 0))) (hus : FVs w2 us ls) (hF : FV w2 v xs) (hwg : w.heap.size ≤ g) (hb : Below w.heap.size w w2)
    (h1 : w3.ownsRow w.heap.size 26 1 v' (ls.length + 1) (us ++ [v])) (h2 : (w2.alloc o).grownBy w3 (some g)) :
    (∃ a c, v' = .slice a (ls ++ [xs]).length c ∧ (ls ++ [xs]).length ≤ c ∧ c ≤ maxLen ∧ LS w3 a (ls ++ [xs])) ∧ Below w.heap.size w w3 := by
  have hba : Below w2.heap.size w2 (w2.alloc o) := (Below.refl _ _).alloc (Nat.le_refl _) _
  have hg' : (w2.alloc o).heap[g]? = some (.cells us.toArray 26 (0, 0)) := by
    rw [hba.block g (Array.getElem?_eq_some_iff.1 hg).1]; exact hg
  have hv := FVs.grown hg' (hus.below hba) h2 ((hus.append (FVs.single hF)).below hba)
  refine ⟨LRow.sl (base := w.heap.size) ⟨_, by simpa using h1, hv⟩, ?_⟩
  exact (hb.alloc hb.size o).grown h2 (by have := hb.size; simp; omega) (fun k hk => by cases hk; exact hwg)

set_option maxHeartbeats 1000000 in
theorem send_any (a ab : Option Addr) (cap cb : Nat) (ls : List (List Nat)) (xs : List Nat) (w : World) (hl : ls.length * 24 ≤ 140737488351232) (hxl : xs.length ≤ 140737488351232) (hs : LS w a ls) (hx : BSl w ab xs) :
    Calls Try.prog 22 #[.slice a ls.length cap, .slice ab xs.length cb] w fun e w' => ∃ a' c', e = .returned (.slice a' (sendF ls xs).length c') ∧ (sendF ls xs).length ≤ c' ∧ c' ≤ maxLen ∧ LS w' a' (sendF ls xs) ∧ Below w.heap.size w w' := by
  obtain ⟨i0, hi, hz0, hz1, hz2⟩ := info_parts Try.infoSl
  have kO := own_any a cap ls w hl hs
  have hle : ls.length ≤ maxLen := by unfold maxLen; omega
  by_cases h40 : 40 ≤ ls.length
  · rw [sendF_full h40]
    go_enter Try.func22, Try.ntmps22
    go_wp2_with (go_at_call 21; refine kO.mono ?_; rintro e w1 ⟨g1, rfl, hO, hg1, hb1⟩)
    go_ret
    exact ⟨_, _, rfl, Nat.le_refl _, hle, hO.ls, hb1⟩
  · rw [sendF_room h40]
    have h40' : ls.length < 40 := by omega
    have HX : Hid (BSl w ab xs) := hx
    clear hx hs h40
    go_enter Try.func22, Try.ntmps22
    go_wp2_with (first | (go_at_call 21; refine kO.mono ?_; rintro e w1 ⟨g1, rfl, hO, hg1, hb1⟩) | (go_at_call 36; refine (ownFrame_any ab cb xs w1 hxl (HX.out.below hb1)).mono ?_; rintro e w2 ⟨g2, rfl, hF, hb2⟩; obtain ⟨us, hus1, hus2, hown⟩ := (hO.below hb2).own hg1 hle; have hsz := (hb1.trans (hb2.mono hb1.size)).size) | (at_builtin; refine wpList_append_own _ rfl _ _ 38 rfl w.heap.size 26 i0 (.slice none 0 0) 1 24 Try.underlying38 hi hz0 hz1 hz2 rfl (by decide) _ _ us rfl (hown.alloc _) ⟨w2.heap.size, 0, none⟩ 1 1 [.slice (some ⟨g2, 0, none⟩) xs.length xs.length] rfl rfl (new_one _ _ _) (one_slice _ _ _) (by unfold maxLen; omega) (by omega) (by simp; omega) ?_; intro v' w3 h1 h2 _))
    obtain ⟨⟨a', c', rfl, q1, q2, q3⟩, q4⟩ := send_end (xs := xs) hus1 hus2 hF hg1 (hb1.trans (hb2.mono hb1.size)) h1 h2
    go_ret
    exact ⟨_, _, rfl, q1, q2, q3, q4⟩

theorem has_yes (a : Option Addr) (cap m k : Nat) (w : World) (hm : m ≤ maxLen) (h : k < m) : Calls Try.prog 37 #[.slice a m cap, .int .i64 (k : Int)] w fun e w' => e = .returned (.bool true) ∧ w = w' := by
  have := has_any a cap m k w hm
  rw [decide_eq_true (by omega : (0 : Int) ≤ k ∧ (k : Int) < m)] at this
  exact this.mono fun e w' ⟨h1, h2⟩ => ⟨h1, h2.symm⟩
theorem has_no (a : Option Addr) (cap m : Nat) (n : Int) (w : World) (hm : m ≤ maxLen) (h : ¬ (0 ≤ n ∧ n < m)) : Calls Try.prog 37 #[.slice a m cap, .int .i64 n] w fun e w' => e = .returned (.bool false) ∧ w = w' := by
  have := has_any a cap m n w hm
  rw [decide_eq_false h] at this
  exact this.mono fun e w' ⟨h1, h2⟩ => ⟨h1, h2.symm⟩
theorem hasBit_yes (a : Option Addr) (cap m : Nat) (n : Int) (w : World) (hm : m ≤ maxLen) (hn : n ≤ 9223372036854775807) (h : 0 ≤ n ∧ n / 8 < m) : Calls Try.prog 38 #[.slice a m cap, .int .i64 n] w fun e w' => e = .returned (.bool true) ∧ w = w' := by
  have := hasBit_any a cap m n w hm hn
  rw [decide_eq_true h] at this
  exact this.mono fun e w' ⟨h1, h2⟩ => ⟨h1, h2.symm⟩
theorem hasBit_no (a : Option Addr) (cap m : Nat) (n : Int) (w : World) (hm : m ≤ maxLen) (hn : n ≤ 9223372036854775807) (h : ¬ (0 ≤ n ∧ n / 8 < m)) : Calls Try.prog 38 #[.slice a m cap, .int .i64 n] w fun e w' => e = .returned (.bool false) ∧ w = w' := by
  have := hasBit_any a cap m n w hm hn
  rw [decide_eq_false h] at this
  exact this.mono fun e w' ⟨h1, h2⟩ => ⟨h1, h2.symm⟩

set_option maxHeartbeats 1000000 in
theorem twice_no (a : Option Addr) (cap m : Nat) (n : Int) (w : World) (hm : m ≤ maxLen) (h : ¬ (0 ≤ n ∧ n < m)) :
    Calls Try.prog 26 #[.slice a m cap, .int .i64 n] w fun e w' => e = .returned (.tuple #[.slice none 0 0, .int .i64 5]) ∧ w = w' := by
  have kH := has_no a cap m n w hm h
  clear h
  go_enter Try.func26, Try.ntmps26
  go_wp2_with (go_at_call 37; refine kH.mono ?_; rintro e w1 ⟨rfl, rfl⟩)
  go_ret2
  exact ⟨rfl, rfl⟩
set_option maxHeartbeats 1000000 in
theorem twice_ok (a : Option Addr) (cap k : Nat) (ls : List (List Nat)) (w : World) (hl : ls.length * 24 ≤ 140737488351232) (hs : LS w a ls) (hk : k < ls.length) :
    Calls Try.prog 26 #[.slice a ls.length cap, .int .i64 (k : Int)] w fun e w' => ∃ a' c', e = .returned (.tuple #[.slice a' (sendF ls ls[k]).length c', .int .i64 0]) ∧ (sendF ls ls[k]).length ≤ c' ∧ c' ≤ maxLen ∧ LS w' a' (sendF ls ls[k]) ∧ Below w.heap.size w w' := by
  have hm : ls.length ≤ maxLen := by unfold maxLen; omega
  have kH := has_yes a cap ls.length k w hm hk
  obtain ⟨b, off, u, rfl, hcu, au, cu, rfl, huc, hum, hul, hbu⟩ := hs.at k hk
  have kS := send_any (some ⟨b, off, none⟩) au cap cu ls ls[k] w hl hul hs hbu
  obtain ⟨x, hx0⟩ : ∃ x, x = ls[k] := ⟨_, rfl⟩
  rw [← hx0] at kS hcu ⊢
  obtain ⟨T, hT⟩ : ∃ T, T = sendF ls x := ⟨_, rfl⟩
  rw [← hT] at kS ⊢
  clear hx0 hT hs huc hum hul hbu
  go_enter Try.func26, Try.ntmps26
  go_wp2_with (first | (go_at_call 37; refine kH.mono ?_; rintro e w1 ⟨rfl, rfl⟩) | (go_at_call 22; refine kS.mono ?_; rintro e w1 ⟨a1, c1, rfl, q1, q2, q3, q4⟩))
  go_ret2
  exact ⟨_, _, rfl, q1, q2, q3, q4⟩

set_option maxHeartbeats 1000000 in
theorem spoil_no (a : Option Addr) (cap m : Nat) (n bit : Int) (w : World) (hm : m ≤ maxLen) (h : ¬ (0 ≤ n ∧ n < m)) :
    Calls Try.prog 27 #[.slice a m cap, .int .i64 n, .int .i64 bit] w fun e w' => e = .returned (.tuple #[.slice none 0 0, .int .i64 5]) ∧ w = w' := by
  have kH := has_no a cap m n w hm h
  clear h
  go_enter Try.func27, Try.ntmps27
  go_wp2_with (go_at_call 37; refine kH.mono ?_; rintro e w1 ⟨rfl, rfl⟩)
  go_ret2
  exact ⟨rfl, rfl⟩
set_option maxHeartbeats 1000000 in
theorem spoil_range (a : Option Addr) (cap k : Nat) (bit : Int) (ls : List (List Nat)) (w : World) (hl : ls.length * 24 ≤ 140737488351232) (hs : LS w a ls) (hk : k < ls.length) (hbit : bit ≤ 9223372036854775807) (h : ¬ (0 ≤ bit ∧ bit / 8 < ls[k].length)) :
    Calls Try.prog 27 #[.slice a ls.length cap, .int .i64 (k : Int), .int .i64 bit] w fun e w' => e = .returned (.tuple #[.slice none 0 0, .int .i64 3]) ∧ w = w' := by
  have hm : ls.length ≤ maxLen := by unfold maxLen; omega
  have kH := has_yes a cap ls.length k w hm hk
  obtain ⟨b, off, u, rfl, hcu, au, cu, rfl, huc, hum, hul, hbu⟩ := hs.at k hk
  have kB := hasBit_no au cu ls[k].length bit w (by unfold maxLen; omega) hbit h
  obtain ⟨x, hx0⟩ : ∃ x, x = ls[k] := ⟨_, rfl⟩
  rw [← hx0] at kB hcu
  clear h hx0 hs huc hum hul hbu
  go_enter Try.func27, Try.ntmps27
  go_wp2_with (first | (go_at_call 37; refine kH.mono ?_; rintro e w1 ⟨rfl, rfl⟩) | (go_at_call 38; refine kB.mono ?_; rintro e w1 ⟨rfl, rfl⟩))
  go_ret2
  exact ⟨rfl, rfl⟩
set_option maxHeartbeats 1000000 in
theorem spoil_ok (a : Option Addr) (cap k : Nat) (bit : Int) (ls : List (List Nat)) (w : World) (hl : ls.length * 24 ≤ 140737488351232) (hs : LS w a ls) (hk : k < ls.length) (hbit : bit ≤ 9223372036854775807) (h : 0 ≤ bit ∧ bit / 8 < ls[k].length) :
    Calls Try.prog 27 #[.slice a ls.length cap, .int .i64 (k : Int), .int .i64 bit] w fun e w' => ∃ g, e = .returned (.tuple #[.slice (some ⟨g, 0, none⟩) ls.length ls.length, .int .i64 0]) ∧ LOwn w' g (ls.set k (turnF ls[k] bit)) ∧ w.heap.size ≤ g ∧ Below w.heap.size w w' := by
  have hm : ls.length ≤ maxLen := by unfold maxLen; omega
  have kH := has_yes a cap ls.length k w hm hk
  have kO := own_any a cap ls w hl hs
  obtain ⟨b, off, u, rfl, hcu, au, cu, rfl, huc, hum, hul, hbu⟩ := hs.at k hk
  have kB := hasBit_yes au cu ls[k].length bit w (by unfold maxLen; omega) hbit h
  have kT := fun w1 (hb : BSl w1 au ls[k]) => turn_walk au cu ls[k] bit w1 hul hbit hb
  have hTl := turnF_length ls[k] bit
  have hTb := turnF_isBytes ls[k] bit hbu.1
  obtain ⟨x, hx0⟩ : ∃ x, x = ls[k] := ⟨_, rfl⟩
  rw [← hx0] at kB kT hcu hTl hTb hbu hul ⊢
  obtain ⟨T, hT⟩ : ∃ T, T = turnF x bit := ⟨_, rfl⟩
  rw [← hT] at kT hTl hTb ⊢
  have hbw : b < w.heap.size := World.block_lt_of_cell? w _ hcu
  have HB : Hid (BSl w au x) := hbu
  have HT : Hid _ := hTl
  clear h hx0 hT hs huc hum hbu hTl
  go_enter Try.func27, Try.ntmps27
  go_wp2_with (first | (go_at_call 37; refine kH.mono ?_; rintro e w1 ⟨rfl, rfl⟩) | (go_at_call 38; refine kB.mono ?_; rintro e w1 ⟨rfl, rfl⟩) | (go_at_call 21; refine kO.mono ?_; rintro e w1 ⟨g1, rfl, hO, hg1, hb1⟩; obtain ⟨hc1, hf1⟩ := bcell hb1) | (go_at_call 13; refine (kT _ (HB.out.below hb1)).mono ?_; rintro e w2 ⟨rfl, hOw, hb2⟩; have hO2 := hO.below hb2; have hfz := hO2.free k; obtain ⟨u1, hcell, _⟩ := hO2.cell k hk))
  go_ret2
  refine ⟨_, rfl, hO2.set ?_, hg1, (hb1.trans (hb2.mono hb1.size)).setCell (by exact hg1) _⟩
  have := FV.of_own hOw (by rw [HT.out]; exact hul) hTb
  rw [HT.out] at this
  exact this
end Go.Proofs.Ytfgemnlbbipbcaa
