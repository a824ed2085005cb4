/- shlaw2.NetTells answers true, for every input. -/
import Derived.Test.YtfgemnlbbipbcaaNetTells1
namespace Go.Proofs.Ytfgemnlbbipbcaa
open Go.RowKit
set_option linter.unusedVariables false
set_option linter.unusedSimpArgs false

set_option maxHeartbeats 4000000 in
theorem netTells_bit (a ab : Option Addr) (cap cb : Nat) (bit : Int) (ls : List (List Nat)) (xs : List Nat) (w : World) (hl : ls.length * 24 ≤ 140737488351232) (hcap : ls.length ≤ cap) (hcm : cap ≤ maxLen) (hz : a = none → ls = [] ∧ cap = 0) (hxm : xs.length ≤ cb) (hcb : cb ≤ maxLen) (hxl : xs.length ≤ 140737488351232) (hb1 : -9223372036854775808 ≤ bit) (hb2 : bit ≤ 9223372036854775807) (hs : LS w a ls) (hx : BSl w ab xs) (k : Nat) (hk : k < ls.length) (hbit : 0 ≤ bit ∧ bit / 8 < ls[k].length) :
    Calls Try.prog 6 #[.slice a ls.length cap, .slice ab xs.length cb, .int .i64 (k : Int), .int .i64 bit] w fun e w' => e = .returned (.bool true) ∧ Below w.heap.size w w' := by
  obtain ⟨i0, hi, hz0, hz1, hz2⟩ := info_parts Try.infoSl
  have HS : Hid (LS w a ls) := hs
  have HX : Hid (BSl w ab xs) := hx
  have hlm : ls.length ≤ 140737488351232 := by omega
  have hle : ls.length ≤ maxLen := by unfold maxLen; omega
  have kS1 := fun W (h1 : LS W a ls) (h2 : BSl W ab xs) => send_any a ab cap cb ls xs W hl hxl h1 h2
  have kR1 := fun W (h1 : LS W a ls) (h2 : BSl W ab xs) => rsend_any a ab cap cb ls xs W hl hz h1 hxm hcb hxl h2
  have hT1 := sendF_len ls xs hl
  obtain ⟨T1, eT1⟩ : ∃ T, T = sendF ls xs := ⟨_, rfl⟩
  rw [← eT1] at kS1 kR1 hT1
  have kT1 := fun a3 a4 c3 c4 W (h1 : LS W a3 T1) (h2 : LS W a4 T1) => same_yes a3 a4 c3 c4 T1 W (by omega) h1 h2
  clear eT1 hs hx
  obtain ⟨b0, o0, u0, ha0, hcu, au, cu, eu, huc, hum, hul, hbu⟩ := HS.out.at k hk
  subst ha0
  subst eu
  have kK := fun W (h : LS W (some ⟨b0, o0, none⟩) ls) => take_ok (some ⟨b0, o0, none⟩) cap k ls W hl hcap hcm h hk
  have kRK := fun W (h : LS W (some ⟨b0, o0, none⟩) ls) => rtake_ok (some ⟨b0, o0, none⟩) cap k ls W hl h hk
  have kW := fun W (h : LS W (some ⟨b0, o0, none⟩) ls) => twice_ok (some ⟨b0, o0, none⟩) cap k ls W hl h hk
  have kR2 := fun W (h1 : LS W (some ⟨b0, o0, none⟩) ls) (h2 : BSl W au ls[k]) => rsend_any (some ⟨b0, o0, none⟩) au cap cu ls ls[k] W hl (fun h => by cases h) h1 huc hum hul h2
  have hT2 := sendF_len ls ls[k] hl
  have hEl : (ls.eraseIdx k).length ≤ 140737488351232 := by rw [List.length_eraseIdx]; split <;> omega
  have kP := fun W (h : LS W (some ⟨b0, o0, none⟩) ls) => spoil_ok (some ⟨b0, o0, none⟩) cap k bit ls W hl h hk hb2 hbit
  obtain ⟨bx, ox, eau, hrow⟩ := hbu.2 (by intro e; rw [e] at hbit; simp at hbit; omega)
  subst eau
  have kU := fun W (h : BRow W bx ox ls[k]) (hlt : bx < W.heap.size) => turned_walk bx ox cu ls[k] bit W hul hb1 hb2 hbu.1 h hlt
  have hTl := turnF_length ls[k] bit
  have hTb := turnF_isBytes ls[k] bit hbu.1
  have hpos : 0 < ls[k].length := by omega
  have HROW : Hid (BRow w bx ox ls[k]) := hrow
  obtain ⟨vs, hvl, hvs, hsrc⟩ := HS.out.src
  have HVL : Hid _ := hvl
  have HVS : Hid (FVs w vs ls) := hvs
  have HSRC : Hid _ := hsrc
  have HONE : Hid _ := hvs.one
  clear hvl hvs hsrc
  obtain ⟨T2, eT2⟩ : ∃ T, T = sendF ls ls[k] := ⟨_, rfl⟩
  obtain ⟨E, eE⟩ : ∃ T, T = ls.eraseIdx k := ⟨_, rfl⟩
  rw [← eT2] at kW kR2 hT2
  rw [← eE] at kK kRK hEl
  have kT2 := fun a3 a4 c3 c4 W (h1 : LS W a3 T2) (h2 : LS W a4 T2) => same_yes a3 a4 c3 c4 T2 W (by omega) h1 h2
  have kE := fun a3 a4 c3 c4 W (h1 : LS W a3 E) (h2 : LS W a4 E) => same_yes a3 a4 c3 c4 E W hEl h1 h2
  obtain ⟨x, hx0⟩ : ∃ x, x = ls[k] := ⟨_, rfl⟩
  rw [← hx0] at kK kRK kR2 hcu hbu hul huc hbit kP kU hTl hTb hpos HROW
  have hst := str_yes x
  obtain ⟨TT, eTT⟩ : ∃ T, T = turnF x bit := ⟨_, rfl⟩
  rw [← eTT] at kP kU hTl hTb
  have HTL : Hid (TT.length = x.length) := hTl
  have HTB : Hid (isBytes TT) := hTb
  obtain ⟨SS, eSS⟩ : ∃ S, S = ls.set k TT := ⟨_, rfl⟩
  rw [← eSS] at kP
  have HSS : Hid (SS = ls.set k TT) := eSS
  have hSl : SS.length = ls.length := by rw [eSS]; simp
  have HSL : Hid (SS.length = ls.length) := hSl
  have kSS := fun a3 a4 c3 c4 W (h1 : LS W a3 SS) (h2 : LS W a4 SS) => same_yes a3 a4 c3 c4 SS W (by omega) h1 h2
  rw [hSl] at kSS
  have hbx : bx < w.heap.size := World.block_lt_of_cell? w _ (HROW.out 0 hpos)
  clear eTT hTl hTb eSS hSl hx0
  have hbw : b0 < w.heap.size := World.block_lt_of_cell? w _ hcu
  have HB : Hid (BSl w (some ⟨bx, ox, none⟩) x) := hbu
  clear hz hbu eT2 eE hum hEl hrow
  obtain ⟨hbit1, hbit2⟩ := hbit
  have h0 : 0 ≤ bit := hbit1
  have h8 : bit < 8 * (x.length : Int) := by omega
  clear hbit1 hbit2
  go_enter Try.func6, Try.ntmps6
  go_wp2_with (fail)
  go_at_call 21
  refine (own_any (some ⟨b0, o0, none⟩) cap ls w hl HS.out).mono ?_
  rintro e w1 ⟨g1, rfl, hO1, hg1, hb1⟩
  have hc1 := HS.out.below hb1
  go_wp2_with (fail)
  go_at_call 20
  refine (same_yes (some ⟨g1, 0, none⟩) (some ⟨b0, o0, none⟩) ls.length cap ls _ hlm hO1.ls hc1).mono ?_
  rintro e w2 ⟨rfl, hb2⟩
  have hb12 := below_al hb1 hb2
  clear hO1 hg1 hc1 hb1 hb2
  go_wp2_with (fail)
  go_at_call 22
  refine (kS1 _ (HS.out.below hb12) (HX.out.below hb12)).mono ?_
  rintro e w3 ⟨a3, c3, rfl, _, _, hL3, hb3⟩
  have hb13 := below_al hb12 hb3
  clear hb12 hb3
  go_wp2_with (fail)
  go_at_call 23
  refine (kR1 _ (HS.out.below hb13) (HX.out.below hb13)).mono ?_
  rintro e w4 ⟨a4, c4, rfl, hL4, hb4⟩
  have hL34 := hL3.below hb4
  have hb14 := below_al hb13 hb4
  clear hb13 hb4 hL3
  go_wp2_with (fail)
  go_at_call 20
  refine (kT1 a3 a4 c3 c4 _ hL34 hL4).mono ?_
  rintro e w5 ⟨rfl, hb5⟩
  have hb15 := below_al hb14 hb5
  clear hb14 hb5 hL34 hL4
  go_wp2_with (fail)
  go_at_call 24
  refine (kK _ (HS.out.below hb15)).mono ?_
  rintro e w6 ⟨a6, c6, g6, rfl, _, _, hL6, hF6, hb6⟩
  have hb16 := below_al hb15 hb6
  clear hb15 hb6
  go_wp2_with (fail)
  go_at_call 25
  refine (kRK _ (HS.out.below hb16)).mono ?_
  rintro e w7 ⟨a7, c7, u7, d7, rfl, hL7, hB7, hb7⟩
  have hb17 := below_al hb16 hb7
  have hL67 := hL6.below hb7
  have hF67 := hF6.below hb7
  clear hb16 hb7 hL6 hF6
  go_wp2_with (fail)
  go_at_call 20
  refine (kE a6 a7 c6 c7 _ hL67 hL7).mono ?_
  rintro e w8 ⟨rfl, hb8⟩
  have hb18 := below_al hb17 hb8
  have hcv1 := conv_sl w8 _ x.length x (FV.bsl (hF67.below hb8))
  have hcv2 := conv_sl w8 u7 d7 x (hB7.below hb8)
  clear hb17 hb8 hL67 hL7 hF67 hB7
  go_wp2_with (fail)
  go_at_call 26
  refine (kW _ (HS.out.below hb18)).mono ?_
  rintro e w9 ⟨a9, c9, rfl, _, _, hL9, hb9⟩
  have hb19 := below_al hb18 hb9
  have hcu9 : w9.cell? ⟨b0, o0 + k, none⟩ = some (.slice (some ⟨bx, ox, none⟩) x.length cu) := (hb19.cell (by exact hbw)).trans hcu
  clear hb18 hb9 hcv1 hcv2
  go_wp2_with (fail)
  go_at_call 23
  refine (kR2 _ (HS.out.below hb19) (HB.out.below hb19)).mono ?_
  rintro e w10 ⟨a10, c10, rfl, hL10, hb10⟩
  have hb20 := below_al hb19 hb10
  have hL910 := hL9.below hb10
  clear hb19 hb10 hL9
  go_wp2_with (fail)
  go_at_call 20
  refine (kT2 a9 a10 c9 c10 _ hL910 hL10).mono ?_
  rintro e w11 ⟨rfl, hb11⟩
  have hb21 := below_al hb20 hb11
  clear hb20 hb11 hL910 hL10 hcu9
  go_wp2_with (fail)
  go_at_call 27
  refine (kP _ (HS.out.below hb21)).mono ?_
  rintro e w12 ⟨g12, rfl, hO12, _, hb12⟩
  have hb22 := below_al hb21 hb12
  have hcu12 : w12.cell? ⟨b0, o0 + k, none⟩ = some (.slice (some ⟨bx, ox, none⟩) x.length cu) := (hb22.cell (by exact hbw)).trans hcu
  have hsz22 := hb22.size
  have hsrc12 := src_below HSRC.out hb22
  clear hb21 hb12
  go_wp2_with (at_builtin; refine wpList_append_own _ rfl (.tmp 124) (.tmp 125) 38 rfl w12.heap.size 26 i0 (.slice none 0 0) 1 24 Try.underlying38 hi hz0 hz1 hz2 rfl (by decide) _ 0 [] rfl (empty_own w12 w12.heap.size (Nat.le_refl _)) ⟨b0, o0, none⟩ ls.length cap vs rfl (by rw [HVL.out, Nat.mul_one]) (alloc_src _ hsrc12) HONE.out (by unfold maxLen; omega) (by omega) (by simp) ?_; intro v1 w13 h1 h2 _; rw [Nat.zero_add, List.nil_append] at h1; have hb13 := first_below h2; obtain ⟨g13, c13, cur, ev1, hg13, hh13, hc13, hm13, hs13, ht13⟩ := own_pos h1 (by omega); subst ev1; have hb23 := below_al hb22 hb13; have hcu13 : w13.cell? ⟨b0, o0 + k, none⟩ = some (.slice (some ⟨bx, ox, none⟩) x.length cu) := (hb23.cell (by exact hbw)).trans hcu; clear h1 h2)
  go_at_call 14
  refine (kU _ (HROW.out.below hb23) (Nat.lt_of_lt_of_le hbx hb23.size)).mono ?_
  rintro e w14 ⟨v14, rfl, hown14, hb14⟩
  have hbase := own_base hown14
  rw [← HTL.out] at hown14
  obtain ⟨a14, c14, ev14, hc14, hm14, hB14⟩ := owns_BSl hown14 HTB.out
  subst ev14
  have hh14 : w14.heap[g13]? = some (.cells cur 26 (0, 0)) := by rw [hb14.block g13 (heap_lt hh13)]; exact hh13
  obtain ⟨u14, hcell⟩ : ∃ u, w14.cell? ⟨g13, k, none⟩ = some u := cell_in hh14 (by omega)
  have hfz : w14.frozen? ⟨g13, k, none⟩ = false := free_of_heap hh14 k
  have hset := set_row (k := k) (T := TT) (c9 := c14) (a9 := a14) hh14 ht13 HVS.out (Nat.le_trans hsz22 hg13) (below_al hb23 hb14) hk ⟨_, _, rfl, hc14, hm14, by rw [HTL.out]; exact hul, hB14⟩ (fun b off e => by
    have h1 := hbase b (by rw [e]; rfl)
    have h2 := heap_lt hh13
    omega)
  rw [← HSS.out] at hset
  have hb1215 : Below w12.heap.size w12 (w14.setCell ⟨g13, k, none⟩ (.slice a14 TT.length c14)) := (below_al hb13 hb14).setCell (by exact hg13) _
  have hO15 := hO12.below hb1215
  obtain ⟨hL15, hb15⟩ := hset
  clear hown14 hbase hh14 hB14 hb1215 hO12 ht13 hh13
  go_wp2_with (fail)
  go_at_call 20
  refine (kSS (some ⟨g12, 0, none⟩) (some ⟨g13, 0, none⟩) ls.length c13 _ hO15.ls hL15).mono ?_
  rintro e w16 ⟨rfl, hb16⟩
  go_wp2
  go_ret
  exact ⟨rfl, below_al hb15 hb16⟩

theorem netTells_walk (a ab : Option Addr) (cap cb : Nat) (n bit : Int) (ls : List (List Nat)) (xs : List Nat) (w : World) (hl : ls.length * 24 ≤ 140737488351232) (hcap : ls.length ≤ cap) (hcm : cap ≤ maxLen) (hz : a = none → ls = [] ∧ cap = 0) (hxm : xs.length ≤ cb) (hcb : cb ≤ maxLen) (hxl : xs.length ≤ 140737488351232) (hb1 : -9223372036854775808 ≤ bit) (hb2 : bit ≤ 9223372036854775807) (hs : LS w a ls) (hx : BSl w ab xs) :
    Calls Try.prog 6 #[.slice a ls.length cap, .slice ab xs.length cb, .int .i64 n, .int .i64 bit] w fun e w' => e = .returned (.bool true) ∧ Below w.heap.size w w' := by
  by_cases hn : 0 ≤ n ∧ n < ls.length
  · obtain ⟨k, rfl⟩ := Int.eq_ofNat_of_zero_le hn.1
    have hk : k < ls.length := by omega
    by_cases hbit : 0 ≤ bit ∧ bit / 8 < ls[k].length
    · exact netTells_bit a ab cap cb bit ls xs w hl hcap hcm hz hxm hcb hxl hb1 hb2 hs hx k hk hbit
    · exact netTells_range a ab cap cb bit ls xs w hl hcap hcm hz hxm hcb hxl hb1 hb2 hs hx k hk hbit
  · exact netTells_none a ab cap cb n bit ls xs w hl hcap hcm hz hxm hcb hxl hb1 hb2 hs hx hn
end Go.Proofs.Ytfgemnlbbipbcaa
