/- shlaw2.NetTakes and NetSpoils answer true, for every input. -/
import Derived.Test.YtfgemnlbbipbcaaNetAlive
namespace Go.Proofs.Ytfgemnlbbipbcaa
open Go.RowKit
set_option linter.unusedVariables false
set_option linter.unusedSimpArgs false

theorem LS.bytes {w : World} {a : Option Addr} {ls : List (List Nat)} (h : LS w a ls) (k : Nat) (hk : k < ls.length) : isBytes ls[k] := by
  obtain ⟨_, _, _, _, _, _, _, _, _, _, _, hub, _⟩ := h.at k hk
  exact hub
theorem take_last (a : Option Addr) (c : Nat) (ls : List (List Nat)) (xs : List Nat) (w : World) (hl : (ls.length + 1) * 24 ≤ 140737488351232) (hc : ls.length + 1 ≤ c) (hm : c ≤ maxLen) (h : LS w a (ls ++ [xs])) :
    Calls Try.prog 24 #[.slice a (ls.length + 1) c, .int .i64 (ls.length : Int)] w fun e w' => ∃ a' c' g, e = .returned (.tuple #[.slice a' ls.length c', .slice (some ⟨g, 0, none⟩) xs.length xs.length, .int .i64 0]) ∧ LS w' a' ls ∧ BSl w' (some ⟨g, 0, none⟩) xs ∧ Below w.heap.size w w' := by
  have e0 : (ls ++ [xs]).length = ls.length + 1 := by simp
  have := take_ok a c ls.length (ls ++ [xs]) w (by rw [e0]; exact hl) (by rw [e0]; exact hc) hm h (by rw [e0]; omega)
  have e1 : (ls ++ [xs]).eraseIdx ls.length = ls := by simp [List.eraseIdx_append_of_length_le]
  have e2 : (ls ++ [xs])[ls.length]'(by rw [e0]; omega) = xs := by simp
  rw [e2, e1, e0] at this
  refine this.mono fun e w' ⟨a', c', g, h1, _, _, h2, h3, h4⟩ => ⟨a', c', g, h1, h2, ?_, h4⟩
  obtain ⟨a1, c1, e, _, _, _, h5⟩ := h3
  cases e
  exact h5
theorem send_room (a ab : Option Addr) (cap cb : Nat) (ls : List (List Nat)) (xs : List Nat) (w : World) (h40 : ls.length < 40) (hxl : xs.length ≤ 140737488351232) (hs : LS w a ls) (hx : BSl w ab xs) :
    Calls Try.prog 22 #[.slice a ls.length cap, .slice ab xs.length cb] w fun e w' => ∃ a' c', e = .returned (.slice a' (ls.length + 1) c') ∧ ls.length + 1 ≤ c' ∧ c' ≤ maxLen ∧ LS w' a' (ls ++ [xs]) ∧ Below w.heap.size w w' := by
  have := send_any a ab cap cb ls xs w (by omega) hxl hs hx
  have e0 : (ls ++ [xs]).length = ls.length + 1 := by simp
  rw [sendF_room (by omega), e0] at this
  exact this
theorem send_full (a ab : Option Addr) (cap cb : Nat) (ls : List (List Nat)) (xs : List Nat) (w : World) (hl : ls.length * 24 ≤ 140737488351232) (h40 : 40 ≤ ls.length) (hxl : xs.length ≤ 140737488351232) (hs : LS w a ls) (hx : BSl w ab xs) :
    Calls Try.prog 22 #[.slice a ls.length cap, .slice ab xs.length cb] w fun e w' => ∃ a' c', e = .returned (.slice a' ls.length c') ∧ LS w' a' ls ∧ Below w.heap.size w w' := by
  have := send_any a ab cap cb ls xs w hl hxl hs hx
  rw [sendF_full h40] at this
  exact this.mono fun e w' ⟨a', c', h1, _, _, h2, h3⟩ => ⟨a', c', h1, h2, h3⟩
theorem same_yes (a b : Option Addr) (ca cb : Nat) (ls : List (List Nat)) (w : World) (hl : ls.length ≤ 140737488351232) (ha : LS w a ls) (hb : LS w b ls) :
    Calls Try.prog 20 #[.slice a ls.length ca, .slice b ls.length cb] w fun e w' => e = .returned (.bool true) ∧ Below w.heap.size w w' := by
  have := same_any a b ca cb ls ls w hl hl ha hb
  rwa [decide_eq_true rfl] at this
theorem same_no (a b : Option Addr) (ca cb : Nat) (ls ms : List (List Nat)) (w : World) (hl : ls.length ≤ 140737488351232) (hm : ms.length = ls.length) (ha : LS w a ls) (hb : LS w b ms) (h : ls ≠ ms) :
    Calls Try.prog 20 #[.slice a ls.length ca, .slice b ls.length cb] w fun e w' => e = .returned (.bool false) ∧ Below w.heap.size w w' := by
  have := same_any a b ca cb ls ms w hl (by omega) ha hb
  rwa [decide_eq_false h, hm] at this

set_option maxHeartbeats 2000000 in
theorem netTakes_walk (a ab : Option Addr) (cap cb : Nat) (ls : List (List Nat)) (xs : List Nat) (w : World) (hl : ls.length * 24 ≤ 140737488351232) (hxl : xs.length ≤ 140737488351232) (hs : LS w a ls) (hx : BSl w ab xs) :
    Calls Try.prog 7 #[.slice a ls.length cap, .slice ab xs.length cb] w fun e w' => e = .returned (.bool true) ∧ Below w.heap.size w w' := by
  have HS : Hid (LS w a ls) := hs
  have HX : Hid (BSl w ab xs) := hx
  have hlm : ls.length ≤ 140737488351232 := by omega
  clear hs hx
  by_cases h40 : 40 ≤ ls.length
  · go_enter Try.func7, Try.ntmps7
    go_wp2_with (first | (go_at_call 28; refine (netAlive_any _).mono ?_; rintro e w1 ⟨rfl, hb1⟩) | (go_at_call 22; refine (send_full a ab cap cb ls xs _ hl h40 hxl (HS.out.below hb1) (HX.out.below hb1)).mono ?_; rintro e w2 ⟨a2, c2, rfl, hL2, hb2⟩; have hb12 := below_al hb1 hb2) | (go_at_call 20; refine (same_yes a2 a c2 cap ls _ hlm hL2 (HS.out.below hb12)).mono ?_; rintro e w3 ⟨rfl, hb3⟩))
    go_ret
    exact ⟨rfl, below_al hb12 hb3⟩
  · have h40' : ls.length < 40 := by omega
    have hst := str_yes xs
    clear h40
    go_enter Try.func7, Try.ntmps7
    go_wp2_with (first | (go_at_call 28; refine (netAlive_any _).mono ?_; rintro e w1 ⟨rfl, hb1⟩) | (go_at_call 22; refine (send_room a ab cap cb ls xs _ h40' hxl (HS.out.below hb1) (HX.out.below hb1)).mono ?_; rintro e w2 ⟨a2, c2, rfl, hc2, hm2, hL2, hb2⟩; have hb12 := below_al hb1 hb2) | (go_at_call 24; refine (take_last a2 c2 ls xs _ (by omega) hc2 hm2 hL2).mono ?_; rintro e w3 ⟨a3, c3, g3, rfl, hL3, hF3, hb3⟩; have hb13 := below_al hb12 hb3; have hcv := conv_sl w3 _ xs.length xs hF3; have hcv2 := conv_sl w3 ab cb xs (HX.out.below hb13)) | (go_at_call 20; refine (same_yes a3 a c3 cap ls _ hlm hL3 (HS.out.below hb13)).mono ?_; rintro e w4 ⟨rfl, hb4⟩))
    go_ret
    exact ⟨rfl, below_al hb13 hb4⟩

theorem turnF_ne {xs : List Nat} {bit : Int} (h : 0 ≤ bit ∧ bit / 8 < xs.length) (hx : isBytes xs) : turnF xs bit ≠ xs := by
  intro e
  rw [turnF_in h] at e
  have hk : (bit / 8).toNat < xs.length := by omega
  have := congrArg (fun l => l.getD (bit / 8).toNat 0) e
  simp [List.getD, hk] at this
  have h2 := congrArg (fun n => xs[(bit / 8).toNat] ^^^ n) this
  simp only [← Nat.xor_assoc, Nat.xor_self, Nat.zero_xor] at h2
  have : 0 < 2 ^ (bit % 8).toNat := Nat.two_pow_pos _
  omega
theorem spoil_back (g k : Nat) (bit : Int) (ls : List (List Nat)) (w : World) (hl : ls.length * 24 ≤ 140737488351232) (hk : k < ls.length) (hbit : bit ≤ 9223372036854775807) (h : 0 ≤ bit ∧ bit / 8 < ls[k].length) (hO : LOwn w g (ls.set k (turnF ls[k] bit))) :
    Calls Try.prog 27 #[.slice (some ⟨g, 0, none⟩) ls.length ls.length, .int .i64 (k : Int), .int .i64 bit] w fun e w' => ∃ g', e = .returned (.tuple #[.slice (some ⟨g', 0, none⟩) ls.length ls.length, .int .i64 0]) ∧ LS w' (some ⟨g', 0, none⟩) ls ∧ Below w.heap.size w w' := by
  have e0 : (ls.set k (turnF ls[k] bit)).length = ls.length := by simp
  have e1 : (ls.set k (turnF ls[k] bit))[k]'(by rw [e0]; exact hk) = turnF ls[k] bit := by simp
  have := spoil_ok (some ⟨g, 0, none⟩) ls.length k bit (ls.set k (turnF ls[k] bit)) w (by rw [e0]; exact hl) hO.ls (by rw [e0]; exact hk) hbit (by rw [e1, turnF_length]; exact h)
  rw [e1, turnF_turnF, List.set_set, List.set_getElem_self, e0] at this
  exact this.mono fun e w' ⟨g', h1, h2, _, h3⟩ => ⟨g', h1, h2.ls, h3⟩
theorem set_ne {ls : List (List Nat)} {k : Nat} {x : List Nat} (hk : k < ls.length) (h : x ≠ ls[k]) : ls.set k x ≠ ls := by
  intro e
  have := congrArg (fun l => l[k]?) e
  simp [hk] at this
  exact h this

set_option maxHeartbeats 2000000 in
theorem netSpoils_walk (a : Option Addr) (cap : Nat) (n bit : Int) (ls : List (List Nat)) (w : World) (hl : ls.length * 24 ≤ 140737488351232) (hbit : bit ≤ 9223372036854775807) (hs : LS w a ls) :
    Calls Try.prog 8 #[.slice a ls.length cap, .int .i64 n, .int .i64 bit] w fun e w' => e = .returned (.bool true) ∧ Below w.heap.size w w' := by
  have hlm : ls.length ≤ maxLen := by unfold maxLen; omega
  have HS : Hid (LS w a ls) := hs
  clear hs
  by_cases hn : 0 ≤ n ∧ n < ls.length
  · obtain ⟨k, rfl⟩ := Int.eq_ofNat_of_zero_le hn.1
    have hk : k < ls.length := by omega
    clear hn
    by_cases hb : 0 ≤ bit ∧ bit / 8 < ls[k].length
    · have hub := HS.out.bytes k hk
      have kS := fun W (h : LS W a ls) => spoil_ok a cap k bit ls W hl h hk hbit hb
      have kB := fun W g (h : LOwn W g (ls.set k (turnF ls[k] bit))) => spoil_back g k bit ls W hl hk hbit hb h
      have hne := set_ne hk (turnF_ne hb hub)
      have e0 : ls.length = (ls.set k (turnF ls[k] bit)).length := by simp
      obtain ⟨T, hT⟩ : ∃ T, T = ls.set k (turnF ls[k] bit) := ⟨_, rfl⟩
      rw [← hT] at kS kB hne e0
      have HNE : Hid (T ≠ ls) := hne
      have HE : Hid (ls.length = T.length) := e0
      have kN := fun W g (hO : LOwn W g T) (h : LS W a ls) => same_no (some ⟨g, 0, none⟩) a ls.length cap T ls W (by rw [← HE.out]; omega) HE.out hO.ls h HNE.out
      rw [← HE.out] at kN
      have hlm' : ls.length ≤ 140737488351232 := by omega
      clear hT hb hne e0 hub
      go_enter Try.func8, Try.ntmps8
      go_wp2_with (first | (go_at_call 28; refine (netAlive_any _).mono ?_; rintro e w1 ⟨rfl, hb1⟩) | (go_at_call_of 27 (Value.slice a ls.length cap); refine (kS _ (HS.out.below hb1)).mono ?_; rintro e w2 ⟨g2, rfl, hO2, hg2, hb2⟩; have hb12 := below_al hb1 hb2) | (go_at_call_of 27 (Value.slice (some (Addr.mk g2 0 none)) ls.length ls.length); refine (kB _ g2 hO2).mono ?_; rintro e w3 ⟨g3, rfl, hL3, hb3⟩; have hO3 := hO2.below hb3; have hb13 := below_al hb12 hb3) | (go_at_call_of 20 (Value.slice (some (Addr.mk g3 0 none)) ls.length ls.length); refine (same_yes (some ⟨g3, 0, none⟩) a ls.length cap ls _ hlm' hL3 (HS.out.below hb13)).mono ?_; rintro e w4 ⟨rfl, hb4⟩; have hO4 := hO3.below hb4; have hb14 := below_al hb13 hb4) | (go_at_call_of 20 (Value.slice (some (Addr.mk g2 0 none)) ls.length ls.length); refine (kN _ g2 hO4 (HS.out.below hb14)).mono ?_; rintro e w5 ⟨rfl, hb5⟩))
      go_ret
      exact ⟨rfl, below_al hb14 hb5⟩
    · have kS := fun W (h : LS W a ls) => spoil_range a cap k bit ls W hl h hk hbit hb
      clear hb
      go_enter Try.func8, Try.ntmps8
      go_wp2_with (first | (go_at_call 28; refine (netAlive_any _).mono ?_; rintro e w1 ⟨rfl, hb1⟩) | (go_at_call 27; refine (kS _ (HS.out.below hb1)).mono ?_; rintro e w2 ⟨rfl, rfl⟩))
      go_ret
      exact ⟨rfl, hb1⟩
  · have kS := fun W => spoil_no a cap ls.length n bit W hlm hn
    clear hn
    go_enter Try.func8, Try.ntmps8
    go_wp2_with (first | (go_at_call 28; refine (netAlive_any _).mono ?_; rintro e w1 ⟨rfl, hb1⟩) | (go_at_call 27; refine (kS _).mono ?_; rintro e w2 ⟨rfl, rfl⟩))
    go_ret
    exact ⟨rfl, hb1⟩
end Go.Proofs.Ytfgemnlbbipbcaa
