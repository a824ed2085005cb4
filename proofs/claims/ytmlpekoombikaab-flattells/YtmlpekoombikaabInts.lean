/- Slices of ints: what a []int holds, and what stays of it when memory grows or a cell is written. -/
import Derived.Test.YtmlpekoombikaabProg
import Derived.WalkKit
import Derived.WalkSpells
import Derived.WalkLawsBesides
import Derived.Laws.CopyOwn
import Derived.Laws.AppendOwn
import Derived.Laws.BitsAllLaws
import Derived.Deep.QuietTactic
import Derived.BigQuiet
namespace Go.Proofs.Ytmlpekoombikaab
set_option maxRecDepth 100000
open Go.RowKit
set_option linter.unusedVariables false
set_option linter.unusedSimpArgs false

def i64s (xs : List Int) : List Value := xs.map fun x => .int .i64 x
theorem i64s_get (xs : List Int) (i : Nat) (h : i < xs.length) : (i64s xs)[i]? = some (.int .i64 (xs.getD i 0)) := by
  simp [i64s, List.getD, h]
theorem i64s_len (xs : List Int) : (i64s xs).length = xs.length := by simp [i64s]
/-- Numbers that an int can have. -/
def isInts (xs : List Int) : Prop := ∀ i, i < xs.length → -9223372036854775808 ≤ xs.getD i 0 ∧ xs.getD i 0 ≤ 9223372036854775807
def IRow (w : World) (b off : Nat) (xs : List Int) : Prop := ∀ i, i < xs.length → w.cell? ⟨b, off + i, none⟩ = some (.int .i64 (xs.getD i 0))
/-- a is where a slice with the numbers xs begins. -/
def ISl (w : World) (a : Option Addr) (xs : List Int) : Prop := isInts xs ∧ (xs ≠ [] → ∃ b off, a = some ⟨b, off, none⟩ ∧ IRow w b off xs)
theorem ia_below {w w1 w2 : World} (h : Below w.heap.size w w1) (k : Below w1.heap.size w1 w2) : Below w.heap.size w w2 := h.trans (k.mono h.size)
theorem bcellI {W w1 : World} (hb : Below W.heap.size W w1) : (∀ b o, b < W.heap.size → w1.cell? ⟨b, o, none⟩ = W.cell? ⟨b, o, none⟩) ∧ (∀ b o, b < W.heap.size → w1.frozen? ⟨b, o, none⟩ = W.frozen? ⟨b, o, none⟩) :=
  ⟨fun b o h => hb.cell (p := ⟨b, o, none⟩) h, fun b o h => hb.frozen (p := ⟨b, o, none⟩) h⟩
theorem ia_keep {w w' : World} {p : Addr} {v : Value} (h : w.cell? p = some v) (hb : Below w.heap.size w w') : w'.cell? p = some v := by
  rw [hb.cell (World.block_lt_of_cell? w _ h)]; exact h
theorem ia_alloc (w : World) (o : Obj) : Below w.heap.size w (w.alloc o) := (Below.refl _ _).alloc (Nat.le_refl _) _
theorem IRow.below {w w' : World} {b off : Nat} {xs : List Int} (h : IRow w b off xs) (hb : Below w.heap.size w w') : IRow w' b off xs := fun i hi => by
  have := h i hi
  rw [hb.cell (World.block_lt_of_cell? w _ this)]
  exact this
theorem ISl.below {w w' : World} {a : Option Addr} {xs : List Int} (h : ISl w a xs) (hb : Below w.heap.size w w') : ISl w' a xs :=
  ⟨h.1, fun hx => by obtain ⟨b, off, h1, h2⟩ := h.2 hx; exact ⟨b, off, h1, h2.below hb⟩⟩
theorem ISl.nil (w : World) (a : Option Addr) : ISl w a [] := ⟨fun i hi => absurd hi (by simp), fun h => absurd rfl h⟩
theorem ISl.at {w : World} {a : Option Addr} {xs : List Int} (h : ISl w a xs) (i : Nat) (hi : i < xs.length) : ∃ b off, a = some ⟨b, off, none⟩ ∧ w.cell? ⟨b, off + i, none⟩ = some (.int .i64 (xs.getD i 0)) ∧ b < w.heap.size := by
  obtain ⟨b, off, e, hc⟩ := h.2 (by intro e; subst e; simp at hi)
  exact ⟨b, off, e, hc i hi, World.block_lt_of_cell? w _ (hc i hi)⟩

/-- Block g is a row of its own: the numbers xs and no more. -/
def IOwn (w : World) (g : Nat) (xs : List Int) : Prop := isInts xs ∧ w.heap[g]? = some (.cells (i64s xs).toArray 3 (0, 0))
theorem IOwn.row {w : World} {g : Nat} {xs : List Int} (h : IOwn w g xs) : IRow w g 0 xs := fun i hi => by
  have := i64s_get xs i hi
  simp only [World.cell?, h.2, Nat.zero_add]
  simpa using this
theorem IOwn.sl {w : World} {g : Nat} {xs : List Int} (h : IOwn w g xs) : ISl w (some ⟨g, 0, none⟩) xs := ⟨h.1, fun _ => ⟨g, 0, rfl, h.row⟩⟩
theorem IOwn.cell {w : World} {g : Nat} {xs : List Int} (h : IOwn w g xs) (i : Nat) (hi : i < xs.length) : w.cell? ⟨g, i, none⟩ = some (.int .i64 (xs.getD i 0)) := by
  have := h.row i hi
  rwa [Nat.zero_add] at this
theorem IOwn.free {w : World} {g : Nat} {xs : List Int} (h : IOwn w g xs) (i : Nat) : w.frozen? ⟨g, i, none⟩ = false := by
  simp [World.frozen?, h.2]
theorem IOwn.lt {w : World} {g : Nat} {xs : List Int} (h : IOwn w g xs) : g < w.heap.size := (Array.getElem?_eq_some_iff.1 h.2).1
theorem IOwn.below {w w' : World} {g : Nat} {xs : List Int} (h : IOwn w g xs) (hb : Below w.heap.size w w') : IOwn w' g xs :=
  ⟨h.1, by rw [hb.block g h.lt]; exact h.2⟩
theorem isInts_set {xs : List Int} {k : Nat} {y : Int} (h : isInts xs) (hy : -9223372036854775808 ≤ y ∧ y ≤ 9223372036854775807) : isInts (xs.set k y) := fun i hi => by
  rw [List.length_set] at hi
  by_cases e : k = i
  · subst e; simpa [List.getD, hi] using hy
  · have := h i hi
    simpa [List.getD, List.getElem?_set_ne e] using this
theorem IOwn.set {w : World} {g k : Nat} {y : Int} {xs : List Int} (h : IOwn w g xs) (hy : -9223372036854775808 ≤ y ∧ y ≤ 9223372036854775807) : IOwn (w.setCell ⟨g, k, none⟩ (.int .i64 y)) g (xs.set k y) := by
  refine ⟨isInts_set h.1 hy, ?_⟩
  simp only [World.setCell]
  rw [Array.getElem?_modify, if_pos rfl, h.2]
  simp [i64s, List.map_set]

theorem IOwn.alloc_set {w : World} {A : Array Value} {k : Nat} {y : Int} {xs : List Int} (h : IOwn (w.alloc (.cells A 3)) w.heap.size xs) (hy : -9223372036854775808 ≤ y ∧ y ≤ 9223372036854775807) :
    IOwn (w.alloc (.cells (A.setIfInBounds k (.int .i64 y)) 3)) w.heap.size (xs.set k y) := by
  refine ⟨isInts_set h.1 hy, ?_⟩
  have h2 := h.2
  rw [heap_alloc_new] at h2
  cases h2
  rw [heap_alloc_new]
  simp [i64s, List.map_set]

theorem Try.infoInt : (Try.prog.info? 3).map (fun i => (i.zero, i.size, i.bytes)) = some (some (.int .i64 0), 1, 8) := by kernel_rfl
theorem madeCells_int (n : Nat) : madeCells (Value.int .i64 0).cells n = (i64s (List.replicate n 0)).toArray := by
  apply Array.ext
  · simp [madeCells, i64s]
  · intro i h1 h2
    simp [madeCells, Value.cells, Nat.mod_one, i64s]
theorem isInts_zero (n : Nat) : isInts (List.replicate n 0) := fun i hi => by
  rw [List.length_replicate] at hi
  simp [List.getD, hi]
theorem make_int (w : World) (n : Nat) (hn : n * 8 ≤ 140737488355328) : ∃ Z : Array Value, Z.size = n ∧ IOwn (w.alloc (.cells Z 3)) w.heap.size (List.replicate n 0) ∧
    (Instr.makeSlice 22 (.int .i64 n) (.int .i64 n)).run Try.prog w = .ok (.slice (some ⟨w.heap.size, 0, none⟩) n n) (w.alloc (.cells Z 3)) := by
  obtain ⟨i0, hi, hz0, hz1, hz2⟩ := info_parts Try.infoInt
  have := run_make (P := Try.prog) w 22 3 i0 (.int .i64 0) Try.underlying22 hi hz0 .i64 .i64 n n (by omega) (by omega) (by rw [hz2]; omega) (by omega)
  rw [hz1] at this
  simp only [Int.toNat_natCast, Nat.mul_one] at this
  rw [madeCells_int] at this
  exact ⟨_, by simp [i64s], ⟨isInts_zero n, heap_alloc_new _ _⟩, this⟩
theorem ia_setRow (w : World) (Z A : Array Value) (t : TypeId) : (w.alloc (.cells Z t)).setRow w.heap.size A = w.alloc (.cells A t) := by
  simp only [World.setRow, World.alloc]
  congr 1
  apply Array.ext_getElem?
  intro i
  rw [Array.getElem?_modify, Array.getElem?_push, Array.getElem?_push]
  by_cases h : i = w.heap.size
  · subst h; simp
  · rw [if_neg (Ne.symm h), if_neg h, if_neg h]
theorem copy_int (w : World) (Z : Array Value) (ty : TypeId) (a : Option Addr) (cap : Nat) (xs : List Int) (hZ : Z.size = xs.length) (hs : ISl w a xs) :
    ∃ A : Array Value, IOwn (w.alloc (.cells A 3)) w.heap.size xs ∧ (Builtin.copy_ #[22, 22] ty #[.slice (some ⟨w.heap.size, 0, none⟩) xs.length xs.length, .slice a xs.length cap]).run Try.prog (w.alloc (.cells Z 3)) = .ok (goInt xs.length) (w.alloc (.cells A 3)) := by
  obtain ⟨i0, hi, hz0, hz1, hz2⟩ := info_parts Try.infoInt
  by_cases hx : xs = []
  · subst hx
    have hz : Z = #[] := Array.eq_empty_of_size_eq_zero (by simpa using hZ)
    subst hz
    exact ⟨#[], ⟨hs.1, heap_alloc_new _ _⟩, run_copy_none (P := Try.prog) _ 22 22 ty 3 _ a 0 0 0 cap Try.underlying22 (by rw [hi]; simp [hz1]) rfl⟩
  · obtain ⟨b, off, rfl, hrow⟩ := hs.2 hx
    have hrow' : IRow (w.alloc (.cells Z 3)) b off xs := hrow.below ((Below.refl _ _).alloc (Nat.le_refl _) _)
    have hlen : (i64s xs).length = xs.length := by simp [i64s]
    have := run_copy_row (P := Try.prog) (w.alloc (.cells Z 3)) 22 22 ty 3 w.heap.size 0 xs.length xs.length ⟨b, off, none⟩ xs.length cap Z 3 (i64s xs) Try.underlying22 (by rw [hi]; simp [hz1])
      (heap_alloc_new _ _) (by simp [hlen]) (fun j v hj => by
        have hjl : j < xs.length := by
          have := (List.getElem?_eq_some_iff.1 hj).1
          omega
        rw [i64s_get xs j hjl] at hj
        cases hj
        have hplain : (⟨b, off, none⟩ : Addr).add j = ⟨b, off + j, none⟩ := by unfold Addr.add; split <;> simp_all
        rw [hplain]
        exact hrow' j hjl) (by omega) (fun v hv => by
        simp only [i64s, List.mem_map] at hv
        obtain ⟨x, _, rfl⟩ := hv
        rfl)
    rw [ia_setRow] at this
    simp only [List.take_zero, List.nil_append, Nat.zero_add] at this
    rw [List.drop_of_length_le (by simp [hlen, hZ]), List.append_nil, hlen] at this
    exact ⟨_, ⟨hs.1, heap_alloc_new _ _⟩, this⟩
/-- What the call owns is a slice of ints. -/
theorem owns_ISl {w : World} {base : Nat} {v : Value} {xs : List Int} (h : w.ownsRow base 3 1 v xs.length (i64s xs)) (hx : isInts xs) : ∃ a cap, v = .slice a xs.length cap ∧ xs.length ≤ cap ∧ cap ≤ maxLen ∧ ISl w a xs := by
  obtain ⟨_, h2⟩ := h
  rcases h2 with ⟨rfl, h0⟩ | ⟨g, cap, cur, rfl, hg, hh, h3, h4, h5, h6⟩
  · have : xs = [] := List.eq_nil_of_length_eq_zero h0
    subst this
    exact ⟨none, 0, rfl, Nat.le_refl _, by decide, hx, fun h => absurd rfl h⟩
  · refine ⟨some ⟨g, 0, none⟩, cap, rfl, h3, h4, hx, fun _ => ⟨g, 0, rfl, fun i hi => ?_⟩⟩
    have h7 := i64s_get xs i hi
    rw [← h6, List.getElem?_take, if_pos (by omega)] at h7
    simp only [World.cell?, hh, Nat.zero_add]
    simpa using h7
theorem ia_base {w : World} {base : Nat} {e : TypeId} {v : Value} {n : Nat} {xs : List Value} (h : w.ownsRow base e 1 v n xs) : ∀ g, v.ownBlock = some g → base ≤ g := by
  obtain ⟨_, h2⟩ := h
  rcases h2 with ⟨rfl, _⟩ | ⟨g', cap, cur, rfl, hg, _⟩
  · intro g hg; simp [Value.ownBlock] at hg
  · intro g hg'; simp [Value.ownBlock] at hg'; omega
theorem ia_owns_mono {w : World} {b1 b2 : Nat} {e : TypeId} {v : Value} {n : Nat} {xs : List Value} (h : w.ownsRow b1 e 1 v n xs) (hb : b2 ≤ b1) : w.ownsRow b2 e 1 v n xs := by
  obtain ⟨h1, h2⟩ := h
  rcases h2 with h2 | ⟨g, cap, cur, h2, hg, r⟩
  · exact ⟨h1, .inl h2⟩
  · exact ⟨h1, .inr ⟨g, cap, cur, h2, by omega, r⟩⟩
theorem ia_new (w : World) (y : Value) (t : TypeId) : ∀ j u, [y][j]? = some u → (w.alloc (.cells #[y] t)).cell? ((⟨w.heap.size, 0, none⟩ : Addr).add j) = some u := by
  intro j u hj
  match j, hj with
  | 0, hj => simp at hj; subst hj; simp [Addr.add]
theorem ia_one (k : IntKind) (n : Int) : ∀ u ∈ [Value.int k n], u.oneCell' = true := by
  intro u hu; simp at hu; subst hu; rfl
/-- Behind 'out = append(out, y)'. -/
theorem ia_step {w wr w1 : World} {v v' : Value} {n : Nat} {us us' : List Value} {u : Value} {e : TypeId} {o : Obj} (hbel : Below w.heap.size w wr) (hown : wr.ownsRow w.heap.size e 1 v n us) (hsn : us' = us ++ [u])
    (h1 : w1.ownsRow w.heap.size e 1 v' (n + 1) (us ++ [u])) (h2 : (wr.alloc o).grownBy w1 v.ownBlock) : w1.ownsRow w.heap.size e 1 v' (n + 1) us' ∧ Below w.heap.size w w1 := by
  subst hsn
  exact ⟨h1, (hbel.alloc hbel.size o).grown h2 (by have := hbel.size; simp; omega) (ia_base hown)⟩
theorem i64s_snoc (T : List Int) (k : Nat) (h : k < T.length) : i64s (T.take (k + 1)) = i64s (T.take k) ++ [.int .i64 (T.getD k 0)] := by
  rw [List.take_succ_eq_append_getElem h]
  unfold i64s
  rw [List.map_append]
  simp only [List.map_cons, List.map_nil, List.getD, List.getElem?_eq_getElem h, Option.getD_some]

theorem rem256 (z : Int) : (z.tmod 256 + 256).tmod 256 = z % 256 := by
  have h1 : z.tmod 256 = if 0 ≤ z ∨ z % 256 = 0 then z % 256 else z % 256 - 256 := by
    rw [Int.tmod_eq_emod]
    have e : ((256 : Int) ∣ z) ↔ z % 256 = 0 := Int.dvd_iff_emod_eq_zero
    simp only [e]
    split <;> simp
  rw [h1]
  split
  · rw [Int.tmod_eq_emod_of_nonneg (by omega)]; omega
  · rw [Int.tmod_eq_emod_of_nonneg (by omega)]; omega
theorem rem256w (z : Int) : (wrap64 (z.tmod 256 + 256)).tmod 256 = z % 256 := by
  have h1 : wrap64 (z.tmod 256 + 256) = z.tmod 256 + 256 := by
    have a := Int.tmod_lt_of_pos z (b := 256) (by decide)
    have b := Int.lt_tmod_of_pos z (b := 256) (by decide)
    unfold wrap64
    omega
  rw [h1, rem256]
theorem and255 (z : Int) : bits .and .i64 z 255 = z % 256 := by
  unfold bits
  simp only [BitVec.toNat_and]
  have h1 : (BitVec.ofInt IntKind.i64.bits 255).toNat = 255 := by decide
  have h2 : (BitVec.ofInt IntKind.i64.bits z).toNat = (z % 18446744073709551616).toNat := by
    show (BitVec.ofInt 64 z).toNat = _
    simp
  rw [h1, h2, Nat.and_two_pow_sub_one_eq_mod _ 8]
  have h3 : 0 ≤ z % 18446744073709551616 := Int.emod_nonneg _ (by decide)
  simp [IntKind.wrap, IntKind.bits, IntKind.signed]
  omega
theorem wrap_mod256 (z : Int) : wrap64 z % 256 = z % 256 := by
  unfold wrap64
  omega
end Go.Proofs.Ytmlpekoombikaab
