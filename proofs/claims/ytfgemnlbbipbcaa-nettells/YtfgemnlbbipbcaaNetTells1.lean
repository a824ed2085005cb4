/- shlaw2.NetTells answers true, for every input. -/
import Derived.Test.YtfgemnlbbipbcaaNetTells0
namespace Go.Proofs.Ytfgemnlbbipbcaa
open Go.RowKit
set_option linter.unusedVariables false
set_option linter.unusedSimpArgs false

theorem FV.bsl {w : World} {a : Option Addr} {n c : Nat} {xs : List Nat} (h : FV w (.slice a n c) xs) : BSl w a xs := by
  obtain ⟨a1, c1, e, _, _, _, h5⟩ := h
  cases e
  exact h5
theorem src_below {w w' : World} {ad : Addr} {vs : List Value} (h : ∀ (j : Nat) u, vs[j]? = some u → w.cell? (ad.add j) = some u) (hb : Below w.heap.size w w') : ∀ (j : Nat) u, vs[j]? = some u → w'.cell? (ad.add j) = some u := by
  intro j u hu
  have hc := h j u hu
  rw [hb.cell (World.block_lt_of_cell? w _ hc)]
  exact hc
theorem heap_lt {w : World} {g : Nat} {o : Obj} (h : w.heap[g]? = some o) : g < w.heap.size := (Array.getElem?_eq_some_iff.1 h).1
theorem cell_in {w : World} {g k : Nat} {cur : Array Value} {t : TypeId} (h : w.heap[g]? = some (.cells cur t (0, 0))) (hk : k < cur.size) : ∃ u, w.cell? ⟨g, k, none⟩ = some u :=
  ⟨cur[k], by rw [cell_of_heap h k]; exact Array.getElem?_eq_getElem hk⟩
theorem first_below {w w1 : World} {o1 : Obj} (h1 : (w.alloc o1).grownBy w1 (some w.heap.size)) : Below w.heap.size w w1 := by
  have b0 : Below w.heap.size w (w.alloc o1) := (Below.refl _ _).alloc (Nat.le_refl _) _
  exact b0.grown h1 b0.size fun k hk => by cases hk; exact Nat.le_refl _

set_option maxHeartbeats 4000000 in
theorem netTells_none (a ab : Option Addr) (cap cb : Nat) (n bit : Int) (ls : List (List Nat)) (xs : List Nat) (w : World) (hl : ls.length * 24 ≤ 140737488351232) (hcap : ls.length ≤ cap) (hcm : cap ≤ maxLen) (hz : a = none → ls = [] ∧ cap = 0) (hxm : xs.length ≤ cb) (hcb : cb ≤ maxLen) (hxl : xs.length ≤ 140737488351232) (hb1 : -9223372036854775808 ≤ bit) (hb2 : bit ≤ 9223372036854775807) (hs : LS w a ls) (hx : BSl w ab xs) (hn : ¬ (0 ≤ n ∧ n < ls.length)) :
    Calls Try.prog 6 #[.slice a ls.length cap, .slice ab xs.length cb, .int .i64 n, .int .i64 bit] w fun e w' => e = .returned (.bool true) ∧ Below w.heap.size w w' := by
  have HS : Hid (LS w a ls) := hs
  have HX : Hid (BSl w ab xs) := hx
  have hlm : ls.length ≤ 140737488351232 := by omega
  have hle : ls.length ≤ maxLen := by unfold maxLen; omega
  have kS1 := fun W (h1 : LS W a ls) (h2 : BSl W ab xs) => send_any a ab cap cb ls xs W hl hxl h1 h2
  have kR1 := fun W (h1 : LS W a ls) (h2 : BSl W ab xs) => rsend_any a ab cap cb ls xs W hl hz h1 hxm hcb hxl h2
  have hT1 := sendF_len ls xs hl
  obtain ⟨T1, eT1⟩ : ∃ T, T = sendF ls xs := ⟨_, rfl⟩
  rw [← eT1] at kS1 kR1 hT1
  have kT1 := fun a3 a4 c3 c4 W (h1 : LS W a3 T1) (h2 : LS W a4 T1) => same_yes a3 a4 c3 c4 T1 W (by omega) h1 h2
  clear eT1 hs hx
  have kK := fun W => take_no a cap ls.length n W hle hn
  have kRK := fun W => rtake_no a cap ls.length n W hlm hn
  have kW := fun W => twice_no a cap ls.length n W hle hn
  have kP := fun W => spoil_no a cap ls.length n bit W hle hn
  have hst := str_yes []
  clear hn hz
  go_enter Try.func6, Try.ntmps6
  go_wp2_with (fail)
  go_at_call 21
  refine (own_any a cap ls w hl HS.out).mono ?_
  rintro e w1 ⟨g1, rfl, hO1, hg1, hb1⟩
  have hc1 := HS.out.below hb1
  go_wp2_with (fail)
  go_at_call 20
  refine (same_yes (some ⟨g1, 0, none⟩) a ls.length cap ls _ hlm hO1.ls hc1).mono ?_
  rintro e w2 ⟨rfl, hb2⟩
  have hb12 := below_al hb1 hb2
  clear hO1 hg1 hc1 hb1 hb2
  go_wp2_with (fail)
  go_at_call 22
  refine (kS1 _ (HS.out.below hb12) (HX.out.below hb12)).mono ?_
  rintro e w3 ⟨a3, c3, rfl, _, _, hL3, hb3⟩
  have hb13 := below_al hb12 hb3
  clear hb12 hb3
  go_wp2_with (fail)
  go_at_call 23
  refine (kR1 _ (HS.out.below hb13) (HX.out.below hb13)).mono ?_
  rintro e w4 ⟨a4, c4, rfl, hL4, hb4⟩
  have hL34 := hL3.below hb4
  have hb14 := below_al hb13 hb4
  clear hb13 hb4 hL3
  go_wp2_with (fail)
  go_at_call 20
  refine (kT1 a3 a4 c3 c4 _ hL34 hL4).mono ?_
  rintro e w5 ⟨rfl, hb5⟩
  have hb15 := below_al hb14 hb5
  clear hb14 hb5 hL34 hL4
  go_wp2_with (fail)
  go_at_call 24
  refine (kK _).mono ?_
  rintro e w6 ⟨rfl, rfl⟩
  go_wp2_with (fail)
  go_at_call 25
  refine (kRK _).mono ?_
  rintro e w6 ⟨rfl, rfl⟩
  go_wp2_with (fail)
  go_at_call 20
  refine (same_yes none none 0 0 [] _ (by decide) (LS.nil _ _) (LS.nil _ _)).mono ?_
  rintro e w6 ⟨rfl, hb6⟩
  have hb16 := below_al hb15 hb6
  have hcv := conv_sl w6 none 0 [] ⟨fun i hi => absurd hi (by simp), fun h => absurd rfl h⟩
  rw [List.length_nil] at hcv
  go_wp2_with (fail)
  go_at_call 26
  refine (kW _).mono ?_
  rintro e w7 ⟨rfl, rfl⟩
  go_wp2_with (fail)
  go_at_call 27
  refine (kP _).mono ?_
  rintro e w7 ⟨rfl, rfl⟩
  go_wp2
  go_ret
  exact ⟨rfl, hb16⟩
set_option maxHeartbeats 4000000 in
theorem netTells_range (a ab : Option Addr) (cap cb : Nat) (bit : Int) (ls : List (List Nat)) (xs : List Nat) (w : World) (hl : ls.length * 24 ≤ 140737488351232) (hcap : ls.length ≤ cap) (hcm : cap ≤ maxLen) (hz : a = none → ls = [] ∧ cap = 0) (hxm : xs.length ≤ cb) (hcb : cb ≤ maxLen) (hxl : xs.length ≤ 140737488351232) (hb1 : -9223372036854775808 ≤ bit) (hb2 : bit ≤ 9223372036854775807) (hs : LS w a ls) (hx : BSl w ab xs) (k : Nat) (hk : k < ls.length) (hbit : ¬ (0 ≤ bit ∧ bit / 8 < ls[k].length)) :
    Calls Try.prog 6 #[.slice a ls.length cap, .slice ab xs.length cb, .int .i64 (k : Int), .int .i64 bit] w fun e w' => e = .returned (.bool true) ∧ Below w.heap.size w w' := by
  have HS : Hid (LS w a ls) := hs
  have HX : Hid (BSl w ab xs) := hx
  have hlm : ls.length ≤ 140737488351232 := by omega
  have hle : ls.length ≤ maxLen := by unfold maxLen; omega
  have kS1 := fun W (h1 : LS W a ls) (h2 : BSl W ab xs) => send_any a ab cap cb ls xs W hl hxl h1 h2
  have kR1 := fun W (h1 : LS W a ls) (h2 : BSl W ab xs) => rsend_any a ab cap cb ls xs W hl hz h1 hxm hcb hxl h2
  have hT1 := sendF_len ls xs hl
  obtain ⟨T1, eT1⟩ : ∃ T, T = sendF ls xs := ⟨_, rfl⟩
  rw [← eT1] at kS1 kR1 hT1
  have kT1 := fun a3 a4 c3 c4 W (h1 : LS W a3 T1) (h2 : LS W a4 T1) => same_yes a3 a4 c3 c4 T1 W (by omega) h1 h2
  clear eT1 hs hx
  obtain ⟨b0, o0, u0, ha0, hcu, au, cu, eu, huc, hum, hul, hbu⟩ := HS.out.at k hk
  subst ha0
  subst eu
  have kK := fun W (h : LS W (some ⟨b0, o0, none⟩) ls) => take_ok (some ⟨b0, o0, none⟩) cap k ls W hl hcap hcm h hk
  have kRK := fun W (h : LS W (some ⟨b0, o0, none⟩) ls) => rtake_ok (some ⟨b0, o0, none⟩) cap k ls W hl h hk
  have kW := fun W (h : LS W (some ⟨b0, o0, none⟩) ls) => twice_ok (some ⟨b0, o0, none⟩) cap k ls W hl h hk
  have kR2 := fun W (h1 : LS W (some ⟨b0, o0, none⟩) ls) (h2 : BSl W au ls[k]) => rsend_any (some ⟨b0, o0, none⟩) au cap cu ls ls[k] W hl (fun h => by cases h) h1 huc hum hul h2
  have hT2 := sendF_len ls ls[k] hl
  have hEl : (ls.eraseIdx k).length ≤ 140737488351232 := by rw [List.length_eraseIdx]; split <;> omega
  have kP := fun W (h : LS W (some ⟨b0, o0, none⟩) ls) => spoil_range (some ⟨b0, o0, none⟩) cap k bit ls W hl h hk hb2 hbit
  obtain ⟨T2, eT2⟩ : ∃ T, T = sendF ls ls[k] := ⟨_, rfl⟩
  obtain ⟨E, eE⟩ : ∃ T, T = ls.eraseIdx k := ⟨_, rfl⟩
  rw [← eT2] at kW kR2 hT2
  rw [← eE] at kK kRK hEl
  have kT2 := fun a3 a4 c3 c4 W (h1 : LS W a3 T2) (h2 : LS W a4 T2) => same_yes a3 a4 c3 c4 T2 W (by omega) h1 h2
  have kE := fun a3 a4 c3 c4 W (h1 : LS W a3 E) (h2 : LS W a4 E) => same_yes a3 a4 c3 c4 E W hEl h1 h2
  obtain ⟨x, hx0⟩ : ∃ x, x = ls[k] := ⟨_, rfl⟩
  rw [← hx0] at kK kRK kR2 hcu hbu hul huc hbit
  have hst := str_yes x
  have hbw : b0 < w.heap.size := World.block_lt_of_cell? w _ hcu
  have HB : Hid (BSl w au x) := hbu
  clear hz hbu eT2 eE hum hEl hx0
  go_enter Try.func6, Try.ntmps6
  go_wp2_with (fail)
  go_at_call 21
  refine (own_any (some ⟨b0, o0, none⟩) cap ls w hl HS.out).mono ?_
  rintro e w1 ⟨g1, rfl, hO1, hg1, hb1⟩
  have hc1 := HS.out.below hb1
  go_wp2_with (fail)
  go_at_call 20
  refine (same_yes (some ⟨g1, 0, none⟩) (some ⟨b0, o0, none⟩) ls.length cap ls _ hlm hO1.ls hc1).mono ?_
  rintro e w2 ⟨rfl, hb2⟩
  have hb12 := below_al hb1 hb2
  clear hO1 hg1 hc1 hb1 hb2
  go_wp2_with (fail)
  go_at_call 22
  refine (kS1 _ (HS.out.below hb12) (HX.out.below hb12)).mono ?_
  rintro e w3 ⟨a3, c3, rfl, _, _, hL3, hb3⟩
  have hb13 := below_al hb12 hb3
  clear hb12 hb3
  go_wp2_with (fail)
  go_at_call 23
  refine (kR1 _ (HS.out.below hb13) (HX.out.below hb13)).mono ?_
  rintro e w4 ⟨a4, c4, rfl, hL4, hb4⟩
  have hL34 := hL3.below hb4
  have hb14 := below_al hb13 hb4
  clear hb13 hb4 hL3
  go_wp2_with (fail)
  go_at_call 20
  refine (kT1 a3 a4 c3 c4 _ hL34 hL4).mono ?_
  rintro e w5 ⟨rfl, hb5⟩
  have hb15 := below_al hb14 hb5
  clear hb14 hb5 hL34 hL4
  go_wp2_with (fail)
  go_at_call 24
  refine (kK _ (HS.out.below hb15)).mono ?_
  rintro e w6 ⟨a6, c6, g6, rfl, _, _, hL6, hF6, hb6⟩
  have hb16 := below_al hb15 hb6
  clear hb15 hb6
  go_wp2_with (fail)
  go_at_call 25
  refine (kRK _ (HS.out.below hb16)).mono ?_
  rintro e w7 ⟨a7, c7, u7, d7, rfl, hL7, hB7, hb7⟩
  have hb17 := below_al hb16 hb7
  have hL67 := hL6.below hb7
  have hF67 := hF6.below hb7
  clear hb16 hb7 hL6 hF6
  go_wp2_with (fail)
  go_at_call 20
  refine (kE a6 a7 c6 c7 _ hL67 hL7).mono ?_
  rintro e w8 ⟨rfl, hb8⟩
  have hb18 := below_al hb17 hb8
  have hcv1 := conv_sl w8 _ x.length x (FV.bsl (hF67.below hb8))
  have hcv2 := conv_sl w8 u7 d7 x (hB7.below hb8)
  clear hb17 hb8 hL67 hL7 hF67 hB7
  go_wp2_with (fail)
  go_at_call 26
  refine (kW _ (HS.out.below hb18)).mono ?_
  rintro e w9 ⟨a9, c9, rfl, _, _, hL9, hb9⟩
  have hb19 := below_al hb18 hb9
  have hcu9 : w9.cell? ⟨b0, o0 + k, none⟩ = some (.slice au x.length cu) := (hb19.cell (by exact hbw)).trans hcu
  clear hb18 hb9 hcv1 hcv2
  go_wp2_with (fail)
  go_at_call 23
  refine (kR2 _ (HS.out.below hb19) (HB.out.below hb19)).mono ?_
  rintro e w10 ⟨a10, c10, rfl, hL10, hb10⟩
  have hb20 := below_al hb19 hb10
  have hL910 := hL9.below hb10
  clear hb19 hb10 hL9
  go_wp2_with (fail)
  go_at_call 20
  refine (kT2 a9 a10 c9 c10 _ hL910 hL10).mono ?_
  rintro e w11 ⟨rfl, hb11⟩
  have hb21 := below_al hb20 hb11
  clear hb20 hb11 hL910 hL10 hcu9
  go_wp2_with (fail)
  go_at_call 27
  refine (kP _ (HS.out.below hb21)).mono ?_
  rintro e w12 ⟨rfl, rfl⟩
  have hcu12 : w11.cell? ⟨b0, o0 + k, none⟩ = some (.slice au x.length cu) := (hb21.cell (by exact hbw)).trans hcu
  by_cases hneg : bit < 0
  · clear hbit
    go_wp2
    go_ret
    exact ⟨rfl, hb21⟩
  · have h0 : 0 ≤ bit := by omega
    have h8 : 8 * (x.length : Int) ≤ bit := by omega
    clear hbit hneg
    go_wp2
    go_ret
    exact ⟨rfl, hb21⟩
end Go.Proofs.Ytfgemnlbbipbcaa
