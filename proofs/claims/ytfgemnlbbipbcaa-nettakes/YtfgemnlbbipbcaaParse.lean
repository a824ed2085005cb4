/- What frame.Parse answers, for any config and bytes. -/
import Derived.Test.YtfgemnlbbipbcaaParses
import Derived.Handy
namespace Go.Proofs.Ytfgemnlbbipbcaa
open Go.RowKit
set_option linter.unusedVariables false

def Msg.zero : Msg := { kind := 0, frm := 0, to := 0, line := 0, serial := 0, turn := 0, value := 0, alone := false }
def sumBad (xs : List Nat) : Bool := (csum 65535 (xs.take 10) : Int) != ((xs.getD 10 0 * 256 + xs.getD 11 0 : Nat) : Int)
def parseF (c : Cfg) (xs : List Nat) : Msg × Int :=
  if xs.length ≠ 12 then (Msg.zero, 2)
  else if sumBad xs = true then (Msg.zero, 7)
  else if 1 < xs.getD 8 0 ∨ xs.getD 9 0 ≠ 0 then (Msg.zero, 2)
  else if wrongF c (readF xs) ≠ 0 then (Msg.zero, wrongF c (readF xs))
  else (readF xs, 0)

theorem parse_short (c : Cfg) (a : Option Addr) (len cap : Nat) (w : World) (h : len ≠ 12) :
    Calls Try.prog 15 #[c.val, .slice a len cap] w fun e w' => e = .returned (.tuple #[Msg.zero.val, .int .i64 2]) ∧ Below w.heap.size w w' := by
  have h1 : ((len : Int) != 12) = true := by simp; omega
  obtain ⟨cores, lines⟩ := c
  unfold Cfg.val Msg.val Msg.zero
  go_enter Try.func15, Try.ntmps15
  go_wp2
  go_returns
  refine ⟨rfl, ?_⟩
  go_grown

theorem sum_take (b off cap n : Nat) (xs : List Nat) (w : World) (hn : n ≤ xs.length) (hl : n ≤ maxLen) (hc : BRow w b off xs) (hx : isBytes xs) :
    Calls Try.prog 11 #[.slice (some ⟨b, off, none⟩) n cap] w fun e w' => e = .returned (.int .i64 (csum 65535 (xs.take n))) ∧ w' = w := by
  have e : (xs.take n).length = n := by simp; omega
  have := sum_any b off cap (xs.take n) w (by omega) (fun i hi => by rw [hc i (by omega)]; simp only [List.getD, List.getElem?_take]; rw [if_pos (by omega)]) (fun i hi => by
    have := hx i (by omega)
    simp only [List.getD, List.getElem?_take] at this ⊢
    rw [if_pos (by omega)]; exact this)
  rw [e] at this
  exact this

theorem BRow.below {w w' : World} {b off : Nat} {xs : List Nat} (h : BRow w b off xs) (hb : Below w.heap.size w w') : BRow w' b off xs := fun i hi => by
  have := h i hi
  rw [hb.cell (block_lt_of_cell this), this]

/-- The calls on the road of Parse, at letters. -/
theorem parse_calls (b off cap : Nat) (xs : List Nat) (w : World) (hn : xs.length = 12) (hc : BRow w b off xs) (hx : isBytes xs) :
    ∃ s p : Nat, s = csum 65535 (xs.take 10) ∧ p = xs.getD 10 0 * 256 + xs.getD 11 0 ∧
      (∀ w', Below w.heap.size w w' → Calls Try.prog 11 #[.slice (some ⟨b, off, none⟩) 10 cap] w' fun e w'' => e = .returned (.int .i64 s) ∧ w'' = w') ∧
      (∀ w', Below w.heap.size w w' → Calls Try.prog 31 #[.slice (some ⟨b, off, none⟩) 12 cap, .int .i64 10] w' fun e w'' => e = .returned (.int .i64 p) ∧ ∃ n, w'' = w'.drewN n) ∧
      (∀ w', Below w.heap.size w w' → Calls Try.prog 32 #[.slice (some ⟨b, off, none⟩) 12 cap] w' fun e w'' => e = .returned (readF xs).val ∧ Below w'.heap.size w' w'') := by
  refine ⟨_, _, rfl, rfl, fun w' hb => ?_, fun w' hb => ?_, fun w' hb => ?_⟩
  · exact sum_take b off cap 10 xs _ (by omega) (by decide) (hc.below hb) hx
  · exact pair_any b off 12 cap 10 (xs.getD 10 0) (xs.getD 11 0) _ (by omega) (by decide) ((hc.below hb) 10 (by omega)) ((hc.below hb) 11 (by omega)) (hx 10 (by omega)) (hx 11 (by omega))
  · exact read_any b off cap xs w' hn (hc.below hb) hx

theorem below2 (w : World) (o1 o2 : Obj) : Below w.heap.size w ((w.alloc o1).alloc o2) := by go_grown

set_option maxHeartbeats 1000000 in
theorem parse_sum (c : Cfg) (b off cap : Nat) (xs : List Nat) (w : World) (hn : xs.length = 12) (hcap : 12 ≤ cap) (hcm : cap ≤ maxLen) (hc : BRow w b off xs) (hx : isBytes xs) (hs : sumBad xs = true) :
    Calls Try.prog 15 #[c.val, .slice (some ⟨b, off, none⟩) 12 cap] w fun e w' => e = .returned (.tuple #[Msg.zero.val, .int .i64 7]) ∧ Below w.heap.size w w' := by
  obtain ⟨cores, lines⟩ := c
  obtain ⟨s, p, rs, rp, ks, kp, kr⟩ := parse_calls b off cap xs w hn hc hx
  unfold Cfg.val Msg.val Msg.zero
  unfold maxLen at hcm
  unfold sumBad at hs
  rw [← rs, ← rp] at hs
  clear rs rp hc hx hn kr
  go_enter Try.func15, Try.ntmps15
  go_wp2_with (first | (go_at_call 11; refine (ks _ (below2 _ _ _)).mono ?_; rintro e w' ⟨rfl, rfl⟩) | (go_at_call 31; refine (kp _ (below2 _ _ _)).mono ?_; rintro e w' ⟨rfl, n, rfl⟩))
  go_returns
  refine ⟨rfl, ?_⟩
  iterate 8 (with_reducible refine Below.setCell ?_ (by exact Nat.le_succ _) _)
  exact below_drewN (below2 _ _ _) _

set_option maxHeartbeats 1000000 in
theorem parse_form (c : Cfg) (b off cap : Nat) (xs : List Nat) (w : World) (hn : xs.length = 12) (hcap : 12 ≤ cap) (hcm : cap ≤ maxLen) (hc : BRow w b off xs) (hx : isBytes xs) (hs : sumBad xs = false) (hf : 1 < xs.getD 8 0 ∨ xs.getD 9 0 ≠ 0) :
    Calls Try.prog 15 #[c.val, .slice (some ⟨b, off, none⟩) 12 cap] w fun e w' => e = .returned (.tuple #[Msg.zero.val, .int .i64 2]) ∧ Below w.heap.size w w' := by
  obtain ⟨cores, lines⟩ := c
  obtain ⟨s, p, rs, rp, ks, kp, kr⟩ := parse_calls b off cap xs w hn hc hx
  have c8 := hc 8 (by omega)
  have c9 := hc 9 (by omega)
  have hb : b < w.heap.size := block_lt_of_cell c8
  unfold Cfg.val Msg.val Msg.zero
  unfold maxLen at hcm
  unfold sumBad at hs
  rw [← rs, ← rp] at hs
  obtain ⟨x8, e8⟩ : ∃ x : Nat, x = xs.getD 8 0 := ⟨_, rfl⟩
  obtain ⟨x9, e9⟩ : ∃ x : Nat, x = xs.getD 9 0 := ⟨_, rfl⟩
  rw [← e8] at c8 hf
  rw [← e9] at c9 hf
  clear rs rp hc hx hn kr e8 e9
  by_cases h8 : 1 < x8
  · have h8' : (1 : Int) < (x8 : Int) := by omega
    clear hf h8
    go_enter Try.func15, Try.ntmps15
    go_wp2_with (first | (go_at_call 11; refine (ks _ (below2 _ _ _)).mono ?_; rintro e w' ⟨rfl, rfl⟩) | (go_at_call 31; refine (kp _ (below2 _ _ _)).mono ?_; rintro e w' ⟨rfl, n, rfl⟩))
    go_returns
    refine ⟨rfl, ?_⟩
    iterate 8 (with_reducible refine Below.setCell ?_ (by exact Nat.le_succ _) _)
    exact below_drewN (below2 _ _ _) _
  · have h8' : (x8 : Int) ≤ 1 := by omega
    have h9 : ((x9 : Int) != 0) = true := by simp; omega
    clear hf h8
    go_enter Try.func15, Try.ntmps15
    go_wp2_with (first | (go_at_call 11; refine (ks _ (below2 _ _ _)).mono ?_; rintro e w' ⟨rfl, rfl⟩) | (go_at_call 31; refine (kp _ (below2 _ _ _)).mono ?_; rintro e w' ⟨rfl, n, rfl⟩))
    go_returns
    refine ⟨rfl, ?_⟩
    iterate 8 (with_reducible refine Below.setCell ?_ (by exact Nat.le_succ _) _)
    exact below_drewN (below2 _ _ _) _

theorem size2 {w w' : World} {o1 o2 : Obj} {n : Nat} (hb : Below (((w.alloc o1).alloc o2).drewN n).heap.size (((w.alloc o1).alloc o2).drewN n) w') : w.heap.size + 1 < w'.heap.size ∧ w.heap.size < w'.heap.size := by
  have := hb.size; simp at this; omega
theorem size3 {w w1 w' : World} {o1 : Obj} (h : w.heap.size + 1 < w1.heap.size) (hb : Below (w1.alloc o1).heap.size (w1.alloc o1) w') : w1.heap.size < w'.heap.size ∧ w.heap.size + 1 < w'.heap.size ∧ w.heap.size < w'.heap.size := by
  have := hb.size; simp at this; omega

theorem below_two {w w1 w' : World} {o1 o2 o3 : Obj} {n : Nat} (hb1 : Below (((w.alloc o1).alloc o2).drewN n).heap.size (((w.alloc o1).alloc o2).drewN n) w1) (hb2 : Below (w1.alloc o3).heap.size (w1.alloc o3) w') : Below w.heap.size w w' := by
  have h1 := hb1.size
  have h2 : w.heap.size ≤ (((w.alloc o1).alloc o2).drewN n).heap.size := by simp; omega
  have h3 := (below_drewN (below2 w o1 o2) n).trans (hb1.mono h2)
  exact (h3.alloc (by have := h3.size; omega) o3).trans (hb2.mono (by have := h3.size; simp; omega))

set_option maxHeartbeats 2000000 in
theorem parse_msg (c : Cfg) (b off cap : Nat) (xs : List Nat) (w : World) (hn : xs.length = 12) (hcap : 12 ≤ cap) (hcm : cap ≤ maxLen) (hc : BRow w b off xs) (hx : isBytes xs) (hs : sumBad xs = false) (hf8 : xs.getD 8 0 ≤ 1) (hf9 : xs.getD 9 0 = 0) :
    Calls Try.prog 15 #[c.val, .slice (some ⟨b, off, none⟩) 12 cap] w fun e w' => e = .returned (.tuple #[(if wrongF c (readF xs) = 0 then readF xs else Msg.zero).val, .int .i64 (wrongF c (readF xs))]) ∧ Below w.heap.size w w' := by
  obtain ⟨s, p, rs, rp, ks, kp, kr⟩ := parse_calls b off cap xs w hn hc hx
  have c8 := hc 8 (by omega)
  have c9 := hc 9 (by omega)
  have hb : b < w.heap.size := block_lt_of_cell c8
  rw [hf9] at c9
  have h8 : ((xs.getD 8 0 : Nat) : Int) ≤ 1 := by omega
  obtain ⟨x8, e8⟩ : ∃ x : Nat, x = xs.getD 8 0 := ⟨_, rfl⟩
  rw [← e8] at c8 h8
  unfold maxLen at hcm
  unfold sumBad at hs
  rw [← rs, ← rp] at hs
  obtain ⟨m, em⟩ : ∃ m, m = readF xs := ⟨_, rfl⟩
  rw [← em] at kr ⊢
  have kw := fun w => wrong_any c m w
  obtain ⟨g, eg⟩ : ∃ g, g = wrongF c m := ⟨_, rfl⟩
  rw [← eg] at kw ⊢
  clear rs rp hc hx hn e8 hf8 hf9 em eg
  obtain ⟨cores, lines⟩ := c
  obtain ⟨kind, frm, to, line, serial, turn, value, alone⟩ := m
  unfold Cfg.val Msg.val at *
  by_cases hg : g = 0
  · subst hg
    rw [if_pos rfl]
    go_enter Try.func15, Try.ntmps15
    go_wp2_with (first | (go_at_call 11; refine (ks _ (below2 _ _ _)).mono ?_; rintro e w' ⟨rfl, rfl⟩) | (go_at_call 31; refine (kp _ (below2 _ _ _)).mono ?_; rintro e w' ⟨rfl, n, rfl⟩) | (go_at_call 32; refine (kr _ (below_drewN (below2 _ _ _) _)).mono ?_; rintro e w' ⟨rfl, hb1⟩; obtain ⟨hc1, hf1⟩ := bcell hb1; obtain ⟨hz1, hy1⟩ := size2 hb1) | (go_at_call 9; refine (kw _).mono ?_; rintro e w' ⟨rfl, hb2⟩; obtain ⟨hc2, hf2⟩ := bcell hb2; obtain ⟨hz2, hy2, hx2⟩ := size3 hz1 hb2))
    refine bodyPost_ret (v := .tuple #[.agg #[.int .i64 kind, .int .i64 frm, .int .i64 to, .int .i64 line, .int .i64 serial, .int .i64 turn, .int .i64 value, .bool alone], .int .i64 0]) (by simp [results, Try.results15, go_sem, *]) rfl ⟨rfl, ?_⟩
    iterate 8 (with_reducible refine Below.setCell ?_ (by exact Nat.le_succ _) _)
    exact below_two hb1 hb2
  · have hg' : (g != 0) = true := by simpa using hg
    rw [if_neg hg]
    unfold Msg.zero
    go_enter Try.func15, Try.ntmps15
    go_wp2_with (first | (go_at_call 11; refine (ks _ (below2 _ _ _)).mono ?_; rintro e w' ⟨rfl, rfl⟩) | (go_at_call 31; refine (kp _ (below2 _ _ _)).mono ?_; rintro e w' ⟨rfl, n, rfl⟩) | (go_at_call 32; refine (kr _ (below_drewN (below2 _ _ _) _)).mono ?_; rintro e w' ⟨rfl, hb1⟩; obtain ⟨hc1, hf1⟩ := bcell hb1; obtain ⟨hz1, hy1⟩ := size2 hb1) | (go_at_call 9; refine (kw _).mono ?_; rintro e w' ⟨rfl, hb2⟩; obtain ⟨hc2, hf2⟩ := bcell hb2; obtain ⟨hz2, hy2, hx2⟩ := size3 hz1 hb2))
    refine bodyPost_ret (v := .tuple #[.agg #[.int .i64 0, .int .i64 0, .int .i64 0, .int .i64 0, .int .i64 0, .int .i64 0, .int .i64 0, .bool false], .int .i64 g]) (by simp [results, Try.results15, go_sem, *]) rfl ⟨rfl, ?_⟩
    iterate 8 (with_reducible refine Below.setCell ?_ (by exact Nat.le_succ _) _)
    exact below_two hb1 hb2

theorem parseF_short {c : Cfg} {xs : List Nat} (h : xs.length ≠ 12) : parseF c xs = (Msg.zero, 2) := by unfold parseF; rw [if_pos h]
theorem parse_any (c : Cfg) (b off cap : Nat) (xs : List Nat) (w : World) (hcap : xs.length ≤ cap) (hcm : cap ≤ maxLen) (hc : BRow w b off xs) (hx : isBytes xs) :
    Calls Try.prog 15 #[c.val, .slice (some ⟨b, off, none⟩) xs.length cap] w fun e w' => e = .returned (.tuple #[(parseF c xs).1.val, .int .i64 (parseF c xs).2]) ∧ Below w.heap.size w w' := by
  by_cases hn : xs.length = 12
  · rw [hn] at hcap ⊢
    by_cases hs : sumBad xs = true
    · have e : parseF c xs = (Msg.zero, 7) := by unfold parseF; rw [if_neg (by simpa using hn), if_pos hs]
      rw [e]
      exact parse_sum c b off cap xs w hn hcap hcm hc hx hs
    · by_cases hf : 1 < xs.getD 8 0 ∨ xs.getD 9 0 ≠ 0
      · have e : parseF c xs = (Msg.zero, 2) := by unfold parseF; rw [if_neg (by simpa using hn), if_neg hs, if_pos hf]
        rw [e]
        exact parse_form c b off cap xs w hn hcap hcm hc hx (by simpa using hs) hf
      · have e : parseF c xs = (if wrongF c (readF xs) = 0 then readF xs else Msg.zero, wrongF c (readF xs)) := by
          unfold parseF
          rw [if_neg (by simpa using hn), if_neg hs, if_neg hf]
          by_cases hw : wrongF c (readF xs) = 0
          · simp [hw]
          · simp [hw]
        rw [e]
        exact parse_msg c b off cap xs w hn hcap hcm hc hx (by simpa using hs) (by omega) (by omega)
  · rw [parseF_short hn]
    exact parse_short c _ _ cap w hn
theorem parse_empty (c : Cfg) (a : Option Addr) (cap : Nat) (w : World) :
    Calls Try.prog 15 #[c.val, .slice a 0 cap] w fun e w' => e = .returned (.tuple #[(parseF c []).1.val, .int .i64 (parseF c []).2]) ∧ Below w.heap.size w w' := by
  rw [parseF_short (by simp)]
  exact parse_short c _ _ cap w (by simp)
end Go.Proofs.Ytfgemnlbbipbcaa
