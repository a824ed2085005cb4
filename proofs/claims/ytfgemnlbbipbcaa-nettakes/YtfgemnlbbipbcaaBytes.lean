/- What frame.nodes, frame.flag, frame.appendPair and frame.Bytes answer. -/
import Derived.Test.YtfgemnlbbipbcaaParse
import Derived.Deep.RegionHeld3
import Derived.Deep.DrawnRows
namespace Go.Proofs.Ytfgemnlbbipbcaa
open Go.RowKit
set_option linter.unusedVariables false

def flagN (b : Bool) : Nat := if b then 1 else 0
theorem flag_any (b : Bool) (w : World) : Calls Try.prog 35 #[.bool b] w fun e w' => e = .returned (.int .u8 (flagN b)) ∧ w' = w := by
  cases b
  · go_enter Try.func35, Try.ntmps35
    go_wp2
    go_ret
    exact ⟨rfl, rfl⟩
  · go_enter Try.func35, Try.ntmps35
    go_wp2
    go_ret
    exact ⟨rfl, rfl⟩

theorem nodes_val (f t : Nat) (hf : f < 16) (ht : t < 16) : bits .or .i64 (bits .and .i64 (f : Int) 15 * 16) (bits .and .i64 (t : Int) 15) = ((f * 16 + t : Nat) : Int) := by
  have h1 := and_i64 f 15 (by omega) (by omega)
  have h2 := and_i64 t 15 (by omega) (by omega)
  rw [show ((15 : Nat) : Int) = 15 from rfl] at h1 h2
  rw [h1, h2, nat_mask4, nat_mask4, Nat.mod_eq_of_lt hf, Nat.mod_eq_of_lt ht]
  have h3 := or_i64 (f * 16) t (by omega) (by omega)
  rw [Int.natCast_mul, show ((16 : Nat) : Int) = 16 from rfl] at h3
  rw [h3, nat_join 4 (f * 16) t (by omega) (by omega)]

theorem nodes_any (f t : Nat) (w : World) (hf : f < 16) (ht : t < 16) : Calls Try.prog 33 #[.int .i64 f, .int .i64 t] w fun e w' => e = .returned (.int .u8 ((f * 16 + t : Nat) : Int)) ∧ w' = w := by
  have h := nodes_val f t hf ht
  have h1 := and_i64 f 15 (by omega) (by omega)
  rw [show ((15 : Nat) : Int) = 15 from rfl, nat_mask4, Nat.mod_eq_of_lt hf] at h1
  rw [h1] at h
  have hf' : (f : Int) ≤ 15 := by omega
  have ht' : (t : Int) ≤ 15 := by omega
  go_enter Try.func33, Try.ntmps33
  go_wp2
  go_ret
  exact ⟨ret_int (by omega), rfl⟩

theorem appendPair_any (g k cap : Nat) (n : Int) (u v : Value) (w : World) (hk : k + 2 ≤ cap) (hcap : cap ≤ 100)
    (c0 : w.cell? ⟨g, k, none⟩ = some u) (c1 : w.cell? ⟨g, k + 1, none⟩ = some v) (f0 : w.frozen? ⟨g, k, none⟩ = false) (f1 : w.frozen? ⟨g, k + 1, none⟩ = false) :
    Calls Try.prog 34 #[.slice (some ⟨g, 0, none⟩) k cap, .int .i64 n] w fun e w' => e = .returned (.slice (some ⟨g, 0, none⟩) (k + 2) cap) ∧ w' = ((w.setCell ⟨g, k, none⟩ (.int .u8 (n / 256 % 256))).setCell ⟨g, k + 1, none⟩ (.int .u8 (n % 256))).alloc (.cells #[.int .u8 (n / 256 % 256), .int .u8 (n % 256)] 5) := by
  have hg : g < w.heap.size := block_lt_of_cell c0
  go_enter Try.func34, Try.ntmps34
  go_wp2
  go_ret
  exact ⟨rfl, rfl⟩

theorem brow10 {w : World} {g : Nat} {y0 y1 y2 y3 y4 y5 y6 y7 y8 : Nat} (c0 : w.cell? ⟨g, 0, none⟩ = some (.int .u8 (y0 : Nat))) (c1 : w.cell? ⟨g, 1, none⟩ = some (.int .u8 (y1 : Nat))) (c2 : w.cell? ⟨g, 2, none⟩ = some (.int .u8 (y2 : Nat))) (c3 : w.cell? ⟨g, 3, none⟩ = some (.int .u8 (y3 : Nat))) (c4 : w.cell? ⟨g, 4, none⟩ = some (.int .u8 (y4 : Nat))) (c5 : w.cell? ⟨g, 5, none⟩ = some (.int .u8 (y5 : Nat))) (c6 : w.cell? ⟨g, 6, none⟩ = some (.int .u8 (y6 : Nat))) (c7 : w.cell? ⟨g, 7, none⟩ = some (.int .u8 (y7 : Nat))) (c8 : w.cell? ⟨g, 8, none⟩ = some (.int .u8 (y8 : Nat))) (c9 : w.cell? ⟨g, 9, none⟩ = some (.int .u8 0)) : BRow w g 0 [y0, y1, y2, y3, y4, y5, y6, y7, y8, 0] := fun i hi => by
  match i, hi with
  | 0, _ => exact c0
  | 1, _ => exact c1
  | 2, _ => exact c2
  | 3, _ => exact c3
  | 4, _ => exact c4
  | 5, _ => exact c5
  | 6, _ => exact c6
  | 7, _ => exact c7
  | 8, _ => exact c8
  | 9, _ => exact c9
theorem brow12 {w : World} {g : Nat} {y0 y1 y2 y3 y4 y5 y6 y7 y8 y10 y11 : Nat} (c0 : w.cell? ⟨g, 0, none⟩ = some (.int .u8 (y0 : Nat))) (c1 : w.cell? ⟨g, 1, none⟩ = some (.int .u8 (y1 : Nat))) (c2 : w.cell? ⟨g, 2, none⟩ = some (.int .u8 (y2 : Nat))) (c3 : w.cell? ⟨g, 3, none⟩ = some (.int .u8 (y3 : Nat))) (c4 : w.cell? ⟨g, 4, none⟩ = some (.int .u8 (y4 : Nat))) (c5 : w.cell? ⟨g, 5, none⟩ = some (.int .u8 (y5 : Nat))) (c6 : w.cell? ⟨g, 6, none⟩ = some (.int .u8 (y6 : Nat))) (c7 : w.cell? ⟨g, 7, none⟩ = some (.int .u8 (y7 : Nat))) (c8 : w.cell? ⟨g, 8, none⟩ = some (.int .u8 (y8 : Nat))) (c9 : w.cell? ⟨g, 9, none⟩ = some (.int .u8 0)) (c10 : w.cell? ⟨g, 10, none⟩ = some (.int .u8 y10)) (c11 : w.cell? ⟨g, 11, none⟩ = some (.int .u8 y11)) : BRow w g 0 [y0, y1, y2, y3, y4, y5, y6, y7, y8, 0, y10, y11] := fun i hi => by
  match i, hi with
  | 0, _ => exact c0
  | 1, _ => exact c1
  | 2, _ => exact c2
  | 3, _ => exact c3
  | 4, _ => exact c4
  | 5, _ => exact c5
  | 6, _ => exact c6
  | 7, _ => exact c7
  | 8, _ => exact c8
  | 9, _ => exact c9
  | 10, _ => exact c10
  | 11, _ => exact c11

set_option maxHeartbeats 1000000 in
theorem bytes_walk (y0 frm to y2 serial turn y7 : Nat) (alone : Bool) (y1 y3 y4 y5 y6 y8 y10 y11 s : Nat) (w : World) (hf : frm < 16) (ht : to < 16) (h0 : y0 < 256) (h2 : y2 < 256) (h7 : y7 < 256) (e1 : y1 = frm * 16 + to)
    (e3 : (serial : Int) / 256 % 256 = y3) (e4 : (serial : Int) % 256 = y4) (e5 : (turn : Int) / 256 % 256 = y5) (e6 : (turn : Int) % 256 = y6) (e8 : y8 = flagN alone) (es : csum 65535 [y0, y1, y2, y3, y4, y5, y6, y7, y8, 0] = s) (e10 : (s : Int) / 256 % 256 = y10) (e11 : (s : Int) % 256 = y11) :
    Calls Try.prog 17 #[msgV y0 frm to y2 serial turn y7 alone] w fun e w' => e = .returned (.slice (some ⟨w.heap.size + 1, 0, none⟩) 12 12) ∧ BRow w' (w.heap.size + 1) 0 [y0, y1, y2, y3, y4, y5, y6, y7, y8, 0, y10, y11] ∧ Below w.heap.size w w' := by
  have wk : IntKind.u8.wrap (y0 : Int) = y0 := by simp [IntKind.wrap, IntKind.bits, IntKind.signed]; omega
  have wl : IntKind.u8.wrap (y2 : Int) = y2 := by simp [IntKind.wrap, IntKind.bits, IntKind.signed]; omega
  have wv : IntKind.u8.wrap (y7 : Int) = y7 := by simp [IntKind.wrap, IntKind.bits, IntKind.signed]; omega
  have kn : ∀ w, Calls Try.prog 33 #[.int .i64 frm, .int .i64 to] w fun e w' => e = .returned (.int .u8 y1) ∧ w' = w := fun w => by rw [e1]; exact nodes_any frm to w hf ht
  have kf : ∀ w, Calls Try.prog 35 #[.bool alone] w fun e w' => e = .returned (.int .u8 y8) ∧ w' = w := fun w => by rw [e8]; exact flag_any alone w
  have hby : isBytes [y0, y1, y2, y3, y4, y5, y6, y7, y8, 0] := by
    have h8 : y8 < 256 := by rw [e8]; unfold flagN; split <;> omega
    intro i hi
    match i, hi with
    | 0, _ => exact h0
    | 1, _ => show y1 < 256; omega
    | 2, _ => exact h2
    | 3, _ => show y3 < 256; omega
    | 4, _ => show y4 < 256; omega
    | 5, _ => show y5 < 256; omega
    | 6, _ => show y6 < 256; omega
    | 7, _ => exact h7
    | 8, _ => exact h8
    | 9, _ => show 0 < 256; omega
  have ks : ∀ w g, BRow w g 0 [y0, y1, y2, y3, y4, y5, y6, y7, y8, 0] → Calls Try.prog 11 #[.slice (some ⟨g, 0, none⟩) 10 12] w fun e w' => e = .returned (.int .i64 s) ∧ w' = w := fun w g hb => by
    rw [← es]; exact sum_any g 0 12 [y0, y1, y2, y3, y4, y5, y6, y7, y8, 0] w (by show 10 ≤ maxLen; decide) hb hby
  clear e1 e8 hby es
  unfold msgV
  have hmk : ∀ w, (Instr.makeSlice 26 (.int .i64 0) (.int .i64 12)).run Try.prog w = .ok (.slice (some ⟨w.heap.size, 0, none⟩) 0 12) (w.alloc (.cells #[.int .u8 0, .int .u8 0, .int .u8 0, .int .u8 0, .int .u8 0, .int .u8 0, .int .u8 0, .int .u8 0, .int .u8 0, .int .u8 0, .int .u8 0, .int .u8 0] 5)) := fun _ => by kernel_rfl
  go_enter Try.func17, Try.ntmps17
  go_wp2
  go_region_held3 (fun w' => w'.cell? ⟨w.heap.size, 0, none⟩ = some (.int .i64 y0) ∧ w'.cell? ⟨w.heap.size, 1, none⟩ = some (.int .i64 frm) ∧ w'.cell? ⟨w.heap.size, 2, none⟩ = some (.int .i64 to) ∧ w'.cell? ⟨w.heap.size, 3, none⟩ = some (.int .i64 y2)) (go_keep)
    (first | (go_at_call 33; refine (kn _).mono ?_; rintro e w' ⟨rfl, rfl⟩))
  go_wp2
  go_region_held3 (fun w' => w'.cell? ⟨w.heap.size, 6, none⟩ = some (.int .i64 y7) ∧ w'.cell? ⟨w.heap.size, 7, none⟩ = some (.bool alone)) (constructor <;> go_cell)
    (first | (go_at_call 35; refine (kf _).mono ?_; rintro e w' ⟨rfl, rfl⟩))
  go_wp2_with (first | (go_at_call 11; refine (ks _ _ (brow10 (by go_cell) (by go_cell) (by go_cell) (by go_cell) (by go_cell) (by go_cell) (by go_cell) (by go_cell) (by go_cell) (by go_cell))).mono ?_; rintro e w' ⟨rfl, rfl⟩) | go_in)
  go_ret
  refine ⟨rfl, ?_, ?_⟩
  · exact brow12 (by go_cell) (by go_cell) (by go_cell) (by go_cell) (by go_cell) (by go_cell) (by go_cell) (by go_cell) (by go_cell) (by go_cell) (by go_cell) (by go_cell)
  · go_grown
end Go.Proofs.Ytfgemnlbbipbcaa
