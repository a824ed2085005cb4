/- What frame.Turn answers, for any bytes and bit. -/
import Derived.Test.YtfgemnlbbipbcaaParse
import Derived.Laws.CopyOwn
namespace Go.Proofs.Ytfgemnlbbipbcaa
open Go.RowKit
set_option linter.unusedVariables false

/-- A slice value whose elements are the bytes xs. -/
def BSl (w : World) (a : Option Addr) (xs : List Nat) : Prop := isBytes xs ∧ (xs ≠ [] → ∃ b off, a = some ⟨b, off, none⟩ ∧ BRow w b off xs)
theorem BSl.below {w w' : World} {a : Option Addr} {xs : List Nat} (h : BSl w a xs) (hb : Below w.heap.size w w') : BSl w' a xs :=
  ⟨h.1, fun hx => by obtain ⟨b, off, h1, h2⟩ := h.2 hx; exact ⟨b, off, h1, h2.below hb⟩⟩

def u8s (xs : List Nat) : List Value := xs.map fun x => .int .u8 (x : Nat)
theorem u8s_get (xs : List Nat) (i : Nat) (h : i < xs.length) : (u8s xs)[i]? = some (.int .u8 (xs.getD i 0 : Nat)) := by
  simp [u8s, List.getD, h]

/-- Block g is a row of its own: the bytes xs and no more. -/
def Own (w : World) (g : Nat) (xs : List Nat) : Prop := w.heap[g]? = some (.cells (u8s xs).toArray 5 (0, 0))
theorem Own.row {w : World} {g : Nat} {xs : List Nat} (h : Own w g xs) : BRow w g 0 xs := fun i hi => by
  unfold Own at h
  have := u8s_get xs i hi
  simp only [World.cell?, h, Nat.zero_add]
  simpa using this
theorem Own.free {w : World} {g : Nat} {xs : List Nat} (h : Own w g xs) (i : Nat) : w.frozen? ⟨g, i, none⟩ = false := by
  unfold Own at h
  simp [World.frozen?, h]

theorem Own.set {w : World} {g k y : Nat} {xs : List Nat} (h : Own w g xs) : Own (w.setCell ⟨g, k, none⟩ (.int .u8 (y : Nat))) g (xs.set k y) := by
  unfold Own at *
  obtain ⟨hlt, hv⟩ := Array.getElem?_eq_some_iff.1 h
  simp only [World.setCell]
  rw [Array.getElem?_modify, if_pos rfl, h]
  simp [u8s, List.map_set]
theorem xor_val (x j : Nat) (hx : x < 256) (h0 : 0 ≤ (j : Int)) (h1 : j < 8) : bits .xor .u8 (x : Int) (2 ^ j % 256) = ((x ^^^ 2 ^ j : Nat) : Int) := by
  have hp : 2 ^ j < 256 := Nat.lt_of_lt_of_le (Nat.pow_lt_pow_right (by omega) h1) (by decide)
  have := u8_xor_nat x (2 ^ j) hx hp
  rw [← this]
  congr 1
  rw [show ((2 : Int) ^ j) = ((2 ^ j : Nat) : Int) by simp]
  generalize 2 ^ j = p at hp
  omega

def turnF (xs : List Nat) (bit : Int) : List Nat :=
  if 0 ≤ bit ∧ bit / 8 < xs.length then xs.set (bit / 8).toNat (xs.getD (bit / 8).toNat 0 ^^^ 2 ^ (bit % 8).toNat) else xs

theorem Try.infoU8 : (Try.prog.info? 5).map (fun i => (i.zero, i.size, i.bytes)) = some (some (.int .u8 0), 1, 1) := by kernel_rfl

theorem make_u8 (w : World) (n : Nat) (hn : n ≤ 140737488355328) : ∃ Z : Array Value, Z.size = n ∧
    (Instr.makeSlice 26 (.int .i64 n) (.int .i64 n)).run Try.prog w = .ok (.slice (some ⟨w.heap.size, 0, none⟩) n n) (w.alloc (.cells Z 5)) := by
  obtain ⟨i0, hi, hz0, hz1, hz2⟩ := info_parts Try.infoU8
  have := run_make (P := Try.prog) w 26 5 i0 (.int .u8 0) Try.underlying26 hi hz0 .i64 .i64 n n (by omega) (by omega) (by rw [hz2]; omega) (by omega)
  rw [hz1] at this
  simp only [Int.toNat_natCast, Nat.mul_one] at this
  exact ⟨_, size_madeCells _ _, this⟩
theorem setRow_alloc (w : World) (Z A : Array Value) (t : TypeId) : (w.alloc (.cells Z t)).setRow w.heap.size A = w.alloc (.cells A t) := by
  simp only [World.setRow, World.alloc]
  congr 1
  apply Array.ext_getElem?
  intro i
  rw [Array.getElem?_modify, Array.getElem?_push, Array.getElem?_push]
  by_cases h : i = w.heap.size
  · subst h; simp
  · rw [if_neg (Ne.symm h), if_neg h, if_neg h]
theorem copy_u8 (w : World) (Z : Array Value) (ty : TypeId) (a : Option Addr) (cap : Nat) (xs : List Nat) (hZ : Z.size = xs.length) (hs : BSl w a xs) :
    ∃ A : Array Value, A = (u8s xs).toArray ∧ (Builtin.copy_ #[26, 26] ty #[.slice (some ⟨w.heap.size, 0, none⟩) xs.length xs.length, .slice a xs.length cap]).run Try.prog (w.alloc (.cells Z 5)) = .ok (goInt xs.length) (w.alloc (.cells A 5)) := by
  obtain ⟨i0, hi, hz0, hz1, hz2⟩ := info_parts Try.infoU8
  by_cases hx : xs = []
  · subst hx
    have hz : Z = #[] := Array.eq_empty_of_size_eq_zero (by simpa using hZ)
    subst hz
    exact ⟨#[], rfl, run_copy_none (P := Try.prog) _ 26 26 ty 5 _ a 0 0 0 cap Try.underlying26 (by rw [hi]; simp [hz1]) rfl⟩
  · obtain ⟨b, off, rfl, hrow⟩ := hs.2 hx
    have hrow' : BRow (w.alloc (.cells Z 5)) b off xs := hrow.below ((Below.refl _ _).alloc (Nat.le_refl _) _)
    have hlen : (u8s xs).length = xs.length := by simp [u8s]
    have := run_copy_row (P := Try.prog) (w.alloc (.cells Z 5)) 26 26 ty 5 w.heap.size 0 xs.length xs.length ⟨b, off, none⟩ xs.length cap Z 5 (u8s xs) Try.underlying26 (by rw [hi]; simp [hz1])
      (heap_alloc_new _ _) (by simp [hlen]) (fun j v hj => by
        have hjl : j < xs.length := by
          have := (List.getElem?_eq_some_iff.1 hj).1
          omega
        rw [u8s_get xs j hjl] at hj
        cases hj
        have hplain : (⟨b, off, none⟩ : Addr).add j = ⟨b, off + j, none⟩ := by unfold Addr.add; split <;> simp_all
        rw [hplain]
        exact hrow' j hjl) (by omega) (fun v hv => by
        simp only [u8s, List.mem_map] at hv
        obtain ⟨x, _, rfl⟩ := hv
        rfl)
    rw [setRow_alloc] at this
    simp only [List.take_zero, List.nil_append, Nat.zero_add] at this
    rw [List.drop_of_length_le (by simp [hlen, hZ]), List.append_nil, hlen] at this
    exact ⟨_, rfl, this⟩

set_option maxHeartbeats 1000000 in
theorem turn_walk (a : Option Addr) (cap : Nat) (xs : List Nat) (bit : Int) (w : World) (hl : xs.length ≤ 140737488351232) (hbit : bit ≤ 9223372036854775807) (hs : BSl w a xs) :
    Calls Try.prog 13 #[.slice a xs.length cap, .int .i64 bit] w fun e w' => e = .returned (.slice (some ⟨w.heap.size, 0, none⟩) xs.length xs.length) ∧ Own w' w.heap.size (turnF xs bit) ∧ Below w.heap.size w w' := by
  obtain ⟨Z, hZ, hmk⟩ := make_u8 w xs.length (by omega)
  obtain ⟨A, hA, hcp⟩ := copy_u8 w Z 3 a cap xs hZ hs
  have HZ : Hid _ := hZ
  have HA : Hid _ := hA
  clear hZ hA
  by_cases hc : 0 ≤ bit ∧ bit / 8 < xs.length
  · obtain ⟨h1, h2⟩ := hc
    have hcell : (w.alloc (.cells A 5)).cell? ⟨w.heap.size, (bit / 8).toNat, none⟩ = some (.int .u8 (xs.getD (bit / 8).toNat 0 : Nat)) := by
      have : Own (w.alloc (.cells A 5)) w.heap.size xs := by unfold Own; rw [HA.out]; exact heap_alloc_new _ _
      have := this.row (bit / 8).toNat (by omega)
      rwa [Nat.zero_add] at this
    obtain ⟨x, hx⟩ : ∃ x, x = xs.getD (bit / 8).toNat 0 := ⟨_, rfl⟩
    rw [← hx] at hcell
    have HX : Hid _ := hx
    clear hx
    go_enter Try.func13, Try.ntmps13
    go_wp2
    refine wp_region_draws_tail 10 (by kernel_rfl) (by kernel_rfl) ?_
    dsimp only [List.take, List.drop]
    iterate 10 (go_big_quiet_step (fail))
    refine wpQuiet_nil ?_
    intro _ hw'
    obtain ⟨nq, hw''⟩ := hw'
    subst hw''
    go_wp2
    go_ret
    have hown : Own ((w.alloc (.cells A 5)).drewN nq) w.heap.size xs := by unfold Own; rw [HA.out]; exact heap_alloc_new _ _
    have hxb : x < 256 := by rw [HX.out]; exact hs.1 _ (by omega)
    refine ⟨rfl, ?_, ?_⟩
    · rw [xor_val x _ hxb (by omega) (by omega)]
      have := hown.set (k := (bit / 8).toNat) (y := x ^^^ 2 ^ (bit % 8).toNat)
      unfold turnF
      rw [if_pos ⟨h1, h2⟩, ← HX.out]
      exact this
    · exact (below_drewN ((Below.refl _ _).alloc (Nat.le_refl _) _) _).setCell (Nat.le_refl _) _
  · have hown : Own (w.alloc (.cells A 5)) w.heap.size xs := by unfold Own; rw [HA.out]; exact heap_alloc_new _ _
    have e : turnF xs bit = xs := by unfold turnF; rw [if_neg hc]
    rw [e]
    by_cases h1 : 0 ≤ bit
    · have h2 : (xs.length : Int) ≤ bit / 8 := Int.not_lt.1 fun h => hc ⟨h1, h⟩
      clear hc
      go_enter Try.func13, Try.ntmps13
      go_wp2
      go_ret
      exact ⟨rfl, hown, (Below.refl _ _).alloc (Nat.le_refl _) _⟩
    · clear hc
      have h1' : bit < 0 := by omega
      go_enter Try.func13, Try.ntmps13
      go_wp2
      go_ret
      exact ⟨rfl, hown, (Below.refl _ _).alloc (Nat.le_refl _) _⟩
end Go.Proofs.Ytfgemnlbbipbcaa
