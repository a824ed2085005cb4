/- What frame.pair, frame.read and frame.Parse answer, for any bytes. -/
import Derived.Test.YtfgemnlbbipbcaaSums
import Derived.Test.YtfgemnlbbipbcaaWrongs
import Derived.Deep.QuietTactic
import Derived.BigQuiet
import Derived.Test.YtfgemnlbbipbcaaTail
namespace Go.Proofs.Ytfgemnlbbipbcaa
open Go.RowKit
set_option linter.unusedVariables false

theorem or_pair (x y : Nat) (hx : x < 256) (hy : y < 256) : bits .or .i64 ((x : Int) * 256) (y : Int) = ((x * 256 + y : Nat) : Int) := by
  have := or_i64 (x * 256) y (by omega) (by omega)
  rw [Int.natCast_mul] at this
  rw [show ((256 : Nat) : Int) = 256 from rfl] at this
  rw [this, nat_join 8 (x * 256) y (by omega) (by omega)]

theorem pair_any (b off len cap : Nat) (k x y : Nat) (w : World) (hk : k + 1 < len) (hl : len ≤ maxLen) (hx : w.cell? ⟨b, off + k, none⟩ = some (.int .u8 x)) (hy : w.cell? ⟨b, off + (k + 1), none⟩ = some (.int .u8 y)) (hx0 : x < 256) (hy0 : y < 256) :
    Calls Try.prog 31 #[.slice (some ⟨b, off, none⟩) len cap, .int .i64 k] w fun e w' => e = .returned (.int .i64 ((x * 256 + y : Nat) : Int)) ∧ ∃ n, w' = w.drewN n := by
  unfold maxLen at hl
  have h1 : (k : Int) < (len : Int) := by omega
  have h2 : (k : Int) + 1 < (len : Int) := by omega
  have h3 : (len : Int) ≤ 9223372036854775807 := by omega
  have hj := or_pair x y hx0 hy0
  have hx1 : (x : Int) ≤ 255 := by omega
  have hy1 : (y : Int) ≤ 255 := by omega
  go_enter Try.func31, Try.ntmps31
  go_wp2
  go_quiet (fail)
  go_wp2
  go_ret
  exact ⟨ret_int (by simp), nq, rfl⟩

/-- The message that twelve bytes hold. -/
def readF (xs : List Nat) : Msg := { kind := (xs.getD 0 0 : Nat), frm := (xs.getD 1 0 / 16 : Nat), to := (xs.getD 1 0 % 16 : Nat), line := (xs.getD 2 0 : Nat), serial := (xs.getD 3 0 * 256 + xs.getD 4 0 : Nat), turn := (xs.getD 5 0 * 256 + xs.getD 6 0 : Nat), value := (xs.getD 7 0 : Nat), alone := ((xs.getD 8 0 : Nat) : Int) == 1 }

theorem and15_u8 (x : Nat) (hx : x < 256) : bits .and .u8 (x : Int) 15 = ((x % 16 : Nat) : Int) := by
  have := u8_and_nat x 15 hx (by omega)
  rw [show ((15 : Nat) : Int) = 15 from rfl] at this
  rw [this, nat_mask4]

theorem cell_ad {w : World} {o : Obj} {n : Nat} {a : Addr} {v : Value} (h : w.cell? a = some v) : ((w.alloc o).drewN n).cell? a = some v := by
  simp only [World.cell?_drewN]
  rw [World.cell?_alloc_lt _ _ _ (block_lt_of_cell h), h]
def msgV (kind frm to line serial turn value : Int) (alone : Bool) : Value := .agg #[.int .i64 kind, .int .i64 frm, .int .i64 to, .int .i64 line, .int .i64 serial, .int .i64 turn, .int .i64 value, .bool alone]

set_option maxHeartbeats 1000000 in
theorem read_at (b off cap : Nat) (x0 x1 x2 x3 x4 x5 x6 x7 x8 : Nat) (w : World)
    (c0 : w.cell? ⟨b, off, none⟩ = some (.int .u8 x0)) (c1 : w.cell? ⟨b, off + 1, none⟩ = some (.int .u8 x1)) (c2 : w.cell? ⟨b, off + 2, none⟩ = some (.int .u8 x2)) (c3 : w.cell? ⟨b, off + 3, none⟩ = some (.int .u8 x3)) (c4 : w.cell? ⟨b, off + 4, none⟩ = some (.int .u8 x4))
    (c5 : w.cell? ⟨b, off + 5, none⟩ = some (.int .u8 x5)) (c6 : w.cell? ⟨b, off + 6, none⟩ = some (.int .u8 x6)) (c7 : w.cell? ⟨b, off + 7, none⟩ = some (.int .u8 x7)) (c8 : w.cell? ⟨b, off + 8, none⟩ = some (.int .u8 x8))
    (d0 : x0 < 256) (d1 : x1 < 256) (d2 : x2 < 256) (d3 : x3 < 256) (d4 : x4 < 256) (d5 : x5 < 256) (d6 : x6 < 256) (d7 : x7 < 256) :
    Calls Try.prog 32 #[.slice (some ⟨b, off, none⟩) 12 cap] w fun e w' => e = .returned (msgV x0 ((x1 / 16 : Nat) : Int) ((x1 % 16 : Nat) : Int) x2 ((x3 * 256 + x4 : Nat) : Int) ((x5 * 256 + x6 : Nat) : Int) x7 ((x8 : Int) == 1)) ∧ Below w.heap.size w w' := by
  have a1 := and15_u8 x1 d1
  have hb : b < w.heap.size := block_lt_of_cell c0
  go_enter Try.func32, Try.ntmps32
  go_wp2
  refine wp_region_draws_tail 31 (by kernel_rfl) (by kernel_rfl) ?_
  dsimp only [List.take, List.drop]
  iterate 19 (go_big_quiet_step (fail))
  go_big_quiet_step ((go_at_call 31; exact Calls.quiet_of (pair_any b off 12 cap 3 x3 x4 _ (by omega) (by decide) (cell_ad c3) (cell_ad c4) d3 d4)))
  go_big_quiet_step (fail)
  go_big_quiet_step ((go_at_call 31; exact Calls.quiet_of (pair_any b off 12 cap 5 x5 x6 _ (by omega) (by decide) (cell_ad c5) (cell_ad c6) d5 d6)))
  iterate 9 (go_big_quiet_step (fail))
  refine wpQuiet_nil ?_
  intro _ hw'
  obtain ⟨nq, hw''⟩ := hw'
  subst hw''
  go_wp2
  refine bodyPost_ret (v := msgV x0 ((x1 / 16 : Nat) : Int) ((x1 % 16 : Nat) : Int) x2 ((x3 * 256 + x4 : Nat) : Int) ((x5 * 256 + x6 : Nat) : Int) x7 ((x8 : Int) == 1)) (by simp [results, Try.results32, go_sem, msgV]) rfl ⟨rfl, ?_⟩
  iterate 8 (refine Below.setCell ?_ (by exact Nat.le_refl _) _)
  exact below_drewN ((Below.refl _ _).alloc (Nat.le_refl _) _) _

theorem readF_val (xs : List Nat) : (readF xs).val = msgV (xs.getD 0 0 : Nat) (xs.getD 1 0 / 16 : Nat) (xs.getD 1 0 % 16 : Nat) (xs.getD 2 0 : Nat) (xs.getD 3 0 * 256 + xs.getD 4 0 : Nat) (xs.getD 5 0 * 256 + xs.getD 6 0 : Nat) (xs.getD 7 0 : Nat) ((xs.getD 8 0 : Int) == 1) := rfl

theorem read_any (b off cap : Nat) (xs : List Nat) (w : World) (hn : xs.length = 12) (hc : BRow w b off xs) (hx : isBytes xs) :
    Calls Try.prog 32 #[.slice (some ⟨b, off, none⟩) 12 cap] w fun e w' => e = .returned (readF xs).val ∧ Below w.heap.size w w' := by
  rw [readF_val]
  exact read_at b off cap _ _ _ _ _ _ _ _ _ w (hc 0 (by omega)) (hc 1 (by omega)) (hc 2 (by omega)) (hc 3 (by omega)) (hc 4 (by omega)) (hc 5 (by omega)) (hc 6 (by omega)) (hc 7 (by omega)) (hc 8 (by omega))
    (hx 0 (by omega)) (hx 1 (by omega)) (hx 2 (by omega)) (hx 3 (by omega)) (hx 4 (by omega)) (hx 5 (by omega)) (hx 6 (by omega)) (hx 7 (by omega))
end Go.Proofs.Ytfgemnlbbipbcaa
