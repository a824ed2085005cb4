/- What shref1.Parse answers: the same as frame.Parse. -/
import Derived.Test.YtmjhmbalkgpcjaaRefSum
import Derived.Test.YtmjhmbalkgpcjaaRefWrong
import Derived.Test.YtmjhmbalkgpcjaaFree
import Derived.Test.YtmjhmbalkgpcjaaAlive
namespace Go.Proofs.Ytmjhmbalkgpcjaa
open Go.RowKit
set_option linter.unusedVariables false
set_option linter.unusedSimpArgs false

theorem rparse_short (c : Cfg) (a : Option Addr) (len cap : Nat) (w : World) (h : len ≠ 12) :
    Calls Try.prog 13 #[c.val, .slice a len cap] w fun e w' => e = .returned (.tuple #[Msg.zero.val, .int .i64 2]) ∧ Below w.heap.size w w' := by
  have h1 : ((len : Int) != 12) = true := by simp; omega
  obtain ⟨cores, lines⟩ := c
  unfold Cfg.val Msg.val Msg.zero
  go_enter Try.func13, Try.ntmps13
  go_wp2
  go_returns
  refine ⟨rfl, ?_⟩
  go_grown
theorem cell2a {w : World} {o1 o2 : Obj} {a : Addr} {v : Value} (h : w.cell? a = some v) : ((w.alloc o1).alloc o2).cell? a = some v := by
  rw [Below.cell (below2 w o1 o2) (block_lt_of_cell h), h]
theorem rsum_take (b off cap n : Nat) (xs : List Nat) (w : World) (hn : n ≤ xs.length) (hl : n ≤ maxLen) (hc : BRow w b off xs) (hx : isBytes xs) :
    Calls Try.prog 9 #[.slice (some ⟨b, off, none⟩) n cap] w fun e w' => e = .returned (.int .i64 (csum 65535 (xs.take n))) ∧ w' = w := by
  have e : (xs.take n).length = n := by simp; omega
  have := rsum_any b off cap (xs.take n) w (by omega) (fun i hi => by rw [hc i (by omega)]; simp only [List.getD, List.getElem?_take]; rw [if_pos (by omega)]) (fun i hi => by
    have := hx i (by omega)
    simp only [List.getD, List.getElem?_take] at this ⊢
    rw [if_pos (by omega)]; exact this)
  rw [e] at this
  exact this

set_option maxHeartbeats 2000000 in
theorem rparse_sum (c : Cfg) (b off cap x0 x1 x2 x3 x4 x5 x6 x7 x8 x9 x10 x11 s : Nat) (w : World) (hcap : 12 ≤ cap) (hcm : cap ≤ maxLen) (c0 : w.cell? ⟨b, off, none⟩ = some (.int .u8 x0)) (c1 : w.cell? ⟨b, off + 1, none⟩ = some (.int .u8 x1)) (c2 : w.cell? ⟨b, off + 2, none⟩ = some (.int .u8 x2)) (c3 : w.cell? ⟨b, off + 3, none⟩ = some (.int .u8 x3)) (c4 : w.cell? ⟨b, off + 4, none⟩ = some (.int .u8 x4)) (c5 : w.cell? ⟨b, off + 5, none⟩ = some (.int .u8 x5)) (c6 : w.cell? ⟨b, off + 6, none⟩ = some (.int .u8 x6)) (c7 : w.cell? ⟨b, off + 7, none⟩ = some (.int .u8 x7)) (c8 : w.cell? ⟨b, off + 8, none⟩ = some (.int .u8 x8)) (c9 : w.cell? ⟨b, off + 9, none⟩ = some (.int .u8 x9)) (c10 : w.cell? ⟨b, off + 10, none⟩ = some (.int .u8 x10)) (c11 : w.cell? ⟨b, off + 11, none⟩ = some (.int .u8 x11)) (d0 : x0 < 256) (d1 : x1 < 256) (d2 : x2 < 256) (d3 : x3 < 256) (d4 : x4 < 256) (d5 : x5 < 256) (d6 : x6 < 256) (d7 : x7 < 256) (d8 : x8 < 256) (d9 : x9 < 256) (d10 : x10 < 256) (d11 : x11 < 256)
    (ks : ∀ w', Below w.heap.size w w' → Calls Try.prog 9 #[.slice (some ⟨b, off, none⟩) 10 cap] w' fun e w'' => e = .returned (.int .i64 s) ∧ w'' = w') (hs : ((s : Int) != 256 * (x10 : Int) + x11) = true) :
    Calls Try.prog 13 #[c.val, .slice (some ⟨b, off, none⟩) 12 cap] w fun e w' => e = .returned (.tuple #[Msg.zero.val, .int .i64 7]) ∧ Below w.heap.size w w' := by
  obtain ⟨cores, lines⟩ := c
  unfold Cfg.val Msg.val Msg.zero
  unfold maxLen at hcm
  have hb : b < w.heap.size := block_lt_of_cell c0
  have c0' : ((w.alloc (.cells #[.int .i64 cores, .int .i64 lines] 23)).alloc (.cells #[.int .i64 0, .int .i64 0, .int .i64 0, .int .i64 0, .int .i64 0, .int .i64 0, .int .i64 0, .bool false] 25)).cell? ⟨b, off, none⟩ = some (.int .u8 x0) := cell2a c0
  have c1' : ((w.alloc (.cells #[.int .i64 cores, .int .i64 lines] 23)).alloc (.cells #[.int .i64 0, .int .i64 0, .int .i64 0, .int .i64 0, .int .i64 0, .int .i64 0, .int .i64 0, .bool false] 25)).cell? ⟨b, off + 1, none⟩ = some (.int .u8 x1) := cell2a c1
  have c2' : ((w.alloc (.cells #[.int .i64 cores, .int .i64 lines] 23)).alloc (.cells #[.int .i64 0, .int .i64 0, .int .i64 0, .int .i64 0, .int .i64 0, .int .i64 0, .int .i64 0, .bool false] 25)).cell? ⟨b, off + 2, none⟩ = some (.int .u8 x2) := cell2a c2
  have c3' : ((w.alloc (.cells #[.int .i64 cores, .int .i64 lines] 23)).alloc (.cells #[.int .i64 0, .int .i64 0, .int .i64 0, .int .i64 0, .int .i64 0, .int .i64 0, .int .i64 0, .bool false] 25)).cell? ⟨b, off + 3, none⟩ = some (.int .u8 x3) := cell2a c3
  have c4' : ((w.alloc (.cells #[.int .i64 cores, .int .i64 lines] 23)).alloc (.cells #[.int .i64 0, .int .i64 0, .int .i64 0, .int .i64 0, .int .i64 0, .int .i64 0, .int .i64 0, .bool false] 25)).cell? ⟨b, off + 4, none⟩ = some (.int .u8 x4) := cell2a c4
  have c5' : ((w.alloc (.cells #[.int .i64 cores, .int .i64 lines] 23)).alloc (.cells #[.int .i64 0, .int .i64 0, .int .i64 0, .int .i64 0, .int .i64 0, .int .i64 0, .int .i64 0, .bool false] 25)).cell? ⟨b, off + 5, none⟩ = some (.int .u8 x5) := cell2a c5
  have c6' : ((w.alloc (.cells #[.int .i64 cores, .int .i64 lines] 23)).alloc (.cells #[.int .i64 0, .int .i64 0, .int .i64 0, .int .i64 0, .int .i64 0, .int .i64 0, .int .i64 0, .bool false] 25)).cell? ⟨b, off + 6, none⟩ = some (.int .u8 x6) := cell2a c6
  have c7' : ((w.alloc (.cells #[.int .i64 cores, .int .i64 lines] 23)).alloc (.cells #[.int .i64 0, .int .i64 0, .int .i64 0, .int .i64 0, .int .i64 0, .int .i64 0, .int .i64 0, .bool false] 25)).cell? ⟨b, off + 7, none⟩ = some (.int .u8 x7) := cell2a c7
  have c8' : ((w.alloc (.cells #[.int .i64 cores, .int .i64 lines] 23)).alloc (.cells #[.int .i64 0, .int .i64 0, .int .i64 0, .int .i64 0, .int .i64 0, .int .i64 0, .int .i64 0, .bool false] 25)).cell? ⟨b, off + 8, none⟩ = some (.int .u8 x8) := cell2a c8
  have c9' : ((w.alloc (.cells #[.int .i64 cores, .int .i64 lines] 23)).alloc (.cells #[.int .i64 0, .int .i64 0, .int .i64 0, .int .i64 0, .int .i64 0, .int .i64 0, .int .i64 0, .bool false] 25)).cell? ⟨b, off + 9, none⟩ = some (.int .u8 x9) := cell2a c9
  have c10' : ((w.alloc (.cells #[.int .i64 cores, .int .i64 lines] 23)).alloc (.cells #[.int .i64 0, .int .i64 0, .int .i64 0, .int .i64 0, .int .i64 0, .int .i64 0, .int .i64 0, .bool false] 25)).cell? ⟨b, off + 10, none⟩ = some (.int .u8 x10) := cell2a c10
  have c11' : ((w.alloc (.cells #[.int .i64 cores, .int .i64 lines] 23)).alloc (.cells #[.int .i64 0, .int .i64 0, .int .i64 0, .int .i64 0, .int .i64 0, .int .i64 0, .int .i64 0, .bool false] 25)).cell? ⟨b, off + 11, none⟩ = some (.int .u8 x11) := cell2a c11
  go_enter Try.func13, Try.ntmps13
  go_wp2
  go_quiet ((go_at_call 9; exact Calls.quiet_of_same (ks _ (below_drewN (below2 _ _ _) _))))
  go_wp2
  go_returns
  refine ⟨rfl, ?_⟩
  iterate 8 (with_reducible refine Below.setCell ?_ (by exact Nat.le_succ _) _)
  exact below_drewN (below2 _ _ _) _

set_option maxHeartbeats 2000000 in
theorem rparse_form (c : Cfg) (b off cap x0 x1 x2 x3 x4 x5 x6 x7 x8 x9 x10 x11 s : Nat) (w : World) (hcap : 12 ≤ cap) (hcm : cap ≤ maxLen) (c0 : w.cell? ⟨b, off, none⟩ = some (.int .u8 x0)) (c1 : w.cell? ⟨b, off + 1, none⟩ = some (.int .u8 x1)) (c2 : w.cell? ⟨b, off + 2, none⟩ = some (.int .u8 x2)) (c3 : w.cell? ⟨b, off + 3, none⟩ = some (.int .u8 x3)) (c4 : w.cell? ⟨b, off + 4, none⟩ = some (.int .u8 x4)) (c5 : w.cell? ⟨b, off + 5, none⟩ = some (.int .u8 x5)) (c6 : w.cell? ⟨b, off + 6, none⟩ = some (.int .u8 x6)) (c7 : w.cell? ⟨b, off + 7, none⟩ = some (.int .u8 x7)) (c8 : w.cell? ⟨b, off + 8, none⟩ = some (.int .u8 x8)) (c9 : w.cell? ⟨b, off + 9, none⟩ = some (.int .u8 x9)) (c10 : w.cell? ⟨b, off + 10, none⟩ = some (.int .u8 x10)) (c11 : w.cell? ⟨b, off + 11, none⟩ = some (.int .u8 x11)) (d0 : x0 < 256) (d1 : x1 < 256) (d2 : x2 < 256) (d3 : x3 < 256) (d4 : x4 < 256) (d5 : x5 < 256) (d6 : x6 < 256) (d7 : x7 < 256) (d8 : x8 < 256) (d9 : x9 < 256) (d10 : x10 < 256) (d11 : x11 < 256)
    (ks : ∀ w', Below w.heap.size w w' → Calls Try.prog 9 #[.slice (some ⟨b, off, none⟩) 10 cap] w' fun e w'' => e = .returned (.int .i64 s) ∧ w'' = w') (hs : ((s : Int) != 256 * (x10 : Int) + x11) = false) (hf : 1 < x8 ∨ x9 ≠ 0) :
    Calls Try.prog 13 #[c.val, .slice (some ⟨b, off, none⟩) 12 cap] w fun e w' => e = .returned (.tuple #[Msg.zero.val, .int .i64 2]) ∧ Below w.heap.size w w' := by
  obtain ⟨cores, lines⟩ := c
  unfold Cfg.val Msg.val Msg.zero
  unfold maxLen at hcm
  have hb : b < w.heap.size := block_lt_of_cell c0
  have c0' : ((w.alloc (.cells #[.int .i64 cores, .int .i64 lines] 23)).alloc (.cells #[.int .i64 0, .int .i64 0, .int .i64 0, .int .i64 0, .int .i64 0, .int .i64 0, .int .i64 0, .bool false] 25)).cell? ⟨b, off, none⟩ = some (.int .u8 x0) := cell2a c0
  have c1' : ((w.alloc (.cells #[.int .i64 cores, .int .i64 lines] 23)).alloc (.cells #[.int .i64 0, .int .i64 0, .int .i64 0, .int .i64 0, .int .i64 0, .int .i64 0, .int .i64 0, .bool false] 25)).cell? ⟨b, off + 1, none⟩ = some (.int .u8 x1) := cell2a c1
  have c2' : ((w.alloc (.cells #[.int .i64 cores, .int .i64 lines] 23)).alloc (.cells #[.int .i64 0, .int .i64 0, .int .i64 0, .int .i64 0, .int .i64 0, .int .i64 0, .int .i64 0, .bool false] 25)).cell? ⟨b, off + 2, none⟩ = some (.int .u8 x2) := cell2a c2
  have c3' : ((w.alloc (.cells #[.int .i64 cores, .int .i64 lines] 23)).alloc (.cells #[.int .i64 0, .int .i64 0, .int .i64 0, .int .i64 0, .int .i64 0, .int .i64 0, .int .i64 0, .bool false] 25)).cell? ⟨b, off + 3, none⟩ = some (.int .u8 x3) := cell2a c3
  have c4' : ((w.alloc (.cells #[.int .i64 cores, .int .i64 lines] 23)).alloc (.cells #[.int .i64 0, .int .i64 0, .int .i64 0, .int .i64 0, .int .i64 0, .int .i64 0, .int .i64 0, .bool false] 25)).cell? ⟨b, off + 4, none⟩ = some (.int .u8 x4) := cell2a c4
  have c5' : ((w.alloc (.cells #[.int .i64 cores, .int .i64 lines] 23)).alloc (.cells #[.int .i64 0, .int .i64 0, .int .i64 0, .int .i64 0, .int .i64 0, .int .i64 0, .int .i64 0, .bool false] 25)).cell? ⟨b, off + 5, none⟩ = some (.int .u8 x5) := cell2a c5
  have c6' : ((w.alloc (.cells #[.int .i64 cores, .int .i64 lines] 23)).alloc (.cells #[.int .i64 0, .int .i64 0, .int .i64 0, .int .i64 0, .int .i64 0, .int .i64 0, .int .i64 0, .bool false] 25)).cell? ⟨b, off + 6, none⟩ = some (.int .u8 x6) := cell2a c6
  have c7' : ((w.alloc (.cells #[.int .i64 cores, .int .i64 lines] 23)).alloc (.cells #[.int .i64 0, .int .i64 0, .int .i64 0, .int .i64 0, .int .i64 0, .int .i64 0, .int .i64 0, .bool false] 25)).cell? ⟨b, off + 7, none⟩ = some (.int .u8 x7) := cell2a c7
  have c8' : ((w.alloc (.cells #[.int .i64 cores, .int .i64 lines] 23)).alloc (.cells #[.int .i64 0, .int .i64 0, .int .i64 0, .int .i64 0, .int .i64 0, .int .i64 0, .int .i64 0, .bool false] 25)).cell? ⟨b, off + 8, none⟩ = some (.int .u8 x8) := cell2a c8
  have c9' : ((w.alloc (.cells #[.int .i64 cores, .int .i64 lines] 23)).alloc (.cells #[.int .i64 0, .int .i64 0, .int .i64 0, .int .i64 0, .int .i64 0, .int .i64 0, .int .i64 0, .bool false] 25)).cell? ⟨b, off + 9, none⟩ = some (.int .u8 x9) := cell2a c9
  have c10' : ((w.alloc (.cells #[.int .i64 cores, .int .i64 lines] 23)).alloc (.cells #[.int .i64 0, .int .i64 0, .int .i64 0, .int .i64 0, .int .i64 0, .int .i64 0, .int .i64 0, .bool false] 25)).cell? ⟨b, off + 10, none⟩ = some (.int .u8 x10) := cell2a c10
  have c11' : ((w.alloc (.cells #[.int .i64 cores, .int .i64 lines] 23)).alloc (.cells #[.int .i64 0, .int .i64 0, .int .i64 0, .int .i64 0, .int .i64 0, .int .i64 0, .int .i64 0, .bool false] 25)).cell? ⟨b, off + 11, none⟩ = some (.int .u8 x11) := cell2a c11
  by_cases h8 : 1 < x8
  · have h8' : (1 : Int) < (x8 : Int) := by omega
    clear hf h8
    go_enter Try.func13, Try.ntmps13
    go_wp2
    go_quiet ((go_at_call 9; exact Calls.quiet_of_same (ks _ (below_drewN (below2 _ _ _) _))))
    go_wp2
    go_returns
    refine ⟨rfl, ?_⟩
    iterate 8 (with_reducible refine Below.setCell ?_ (by exact Nat.le_succ _) _)
    exact below_drewN (below2 _ _ _) _
  · have h8' : (x8 : Int) ≤ 1 := by omega
    have h9 : (0 : Int) < (x9 : Int) := by omega
    clear hf h8
    go_enter Try.func13, Try.ntmps13
    go_wp2
    go_quiet ((go_at_call 9; exact Calls.quiet_of_same (ks _ (below_drewN (below2 _ _ _) _))))
    go_wp2
    go_returns
    refine ⟨rfl, ?_⟩
    iterate 8 (with_reducible refine Below.setCell ?_ (by exact Nat.le_succ _) _)
    exact below_drewN (below2 _ _ _) _
end Go.Proofs.Ytmjhmbalkgpcjaa
