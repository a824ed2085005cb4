/- Ints, operations and lists of what is done as the claim's form reads them. -/
import Derived.Test.YtmlpekoombikaabArgBase
import Derived.Test.YtmlpekoombikaabFlats1
namespace Go.Proofs.Ytmlpekoombikaab
set_option maxRecDepth 100000
open Go.ChangeShapes Go.WideShapes Go.ChangeAt Go.RowKit
set_option linter.unusedVariables false
set_option linter.unusedSimpArgs false

theorem cellsOp : Try.prog.cellsOf 24 = 3 := by kernel_rfl
theorem cellsDone : Try.prog.cellsOf 67 = 5 := by kernel_rfl
theorem intBytes : Try.prog.bytesOf 3 = 8 := by kernel_rfl
theorem doneBytes : Try.prog.bytesOf 67 = 40 := by kernel_rfl

theorem open_intsl {H : Type} {enc : TypeId × Value → H} {w : World} {r : Reach} {b0 base : Nat} {spare : Nat → Bool} {held : Bool} {v : Value} {d : DataW H} {p : List MemPlace} (hsp : ∀ b, spare b = true)
    (hv : Value.okWide Try.prog w r b0 22 v) (h : DataW.Trod enc Try.prog w base spare held 22 v d p) (hsz : ∀ n ∈ d.weights Try.prog 22, n ≤ reachBytes) :
    ∃ (a : Option Addr) (cap : Nat) (xs : List Int), v = .slice a xs.length cap ∧ xs.length ≤ cap ∧ cap ≤ maxLen ∧ xs.length * 8 ≤ 140737488351232 ∧ ISl w a xs := by
  obtain ⟨a0, len, cap, rfl⟩ := okWide_slice Try.underlying22 hv
  obtain rfl : spare = fun _ => true := funext hsp
  obtain ⟨fuel, hf⟩ := h
  rcases open_ints Try.underlying22 Try.underlying3 (by kernel_rfl) hf with ⟨hcs, _⟩ | ⟨x, l, c, zs, hcs, _, hl, hm, hz, hy, hcell, hwz⟩
  · simp [Value.cells] at hcs
    obtain ⟨rfl, rfl, rfl⟩ := hcs
    exact ⟨none, 0, [], rfl, Nat.le_refl _, by decide, by simp, ISl.nil _ _⟩
  · simp [Value.cells] at hcs
    obtain ⟨rfl, rfl, rfl⟩ := hcs
    have hzl : zs.length = cap := by simpa using hz
    have hb : len * 8 ≤ 140737488351232 := by
      have := hsz (((lits (H := H) .i64 (zs.take len)).length + (lits (H := H) .i64 (zs.drop len)).length) * Try.prog.bytesOf 3) (by cases hy; simp [DataW.weights, Try.underlying22])
      rw [intBytes, lits_length, lits_length] at this
      simp only [reachBytes, List.length_take, List.length_drop] at this
      omega
    have hlen : (zs.take len).length = len := by simp; omega
    have hat : ∀ i, i < len → (zs.take len).getD i 0 = zs.getD i 0 := fun i hi => by
      simp [List.getD, hi, List.getElem?_take]
    refine ⟨some x, cap, zs.take len, by rw [hlen], by rw [hlen]; exact hl, hm, by rw [hlen]; exact hb, fun i hi => ?_, fun hne => ?_⟩
    · rw [hlen] at hi
      rw [hat i hi]
      have hi' : i < zs.length := by omega
      have : zs.getD i 0 ∈ zs := by simp [List.getD, hi']
      exact int_bounds (hwz _ this)
    · have hpos : 0 < len := by
        rcases Nat.eq_zero_or_pos len with h0 | h0
        · subst h0; simp at hne
        · exact h0
      obtain ⟨b, off, spot⟩ := x
      have hc0 := hcell 0 (by omega)
      have hspot : spot = none := by simpa [Addr.add] using World.cell?_spot hc0
      subst hspot
      refine ⟨b, off, rfl, fun i hi => ?_⟩
      rw [hlen] at hi
      have hc := hcell i (by omega)
      have hplain : (⟨b, off, none⟩ : Addr).add i = ⟨b, off + i, none⟩ := by unfold Addr.add; split <;> simp_all
      rw [hplain] at hc
      rw [hc, hat i hi]

theorem open_op_cells {H : Type} {enc : TypeId × Value → H} {w : World} {base fuel : Nat} {spare : Nat → Bool} {held : Bool} {cs : List Value} {y : DataW H × List MemPlace} (hl : cs.length = 3)
    (h : DataW.trod enc Try.prog w base spare held fuel 24 cs = some y) : ∃ o : SOp, cs = [.int .i64 o.kind, .int .i64 o.line, .int .i64 o.value] ∧ o.fits := by
  obtain ⟨xs, n, _, _, _, hlen, hel⟩ := DataW.trod_struct Try.underlying24 h
  match cs, hl with
  | [c0, c1, c2], _ =>
    obtain ⟨y0, z0⟩ := some_of_len (i := 0) hlen (by decide)
    obtain ⟨y1, z1⟩ := some_of_len (i := 1) hlen (by decide)
    obtain ⟨y2, z2⟩ := some_of_len (i := 2) hlen (by decide)
    have h0 : DataW.trod enc Try.prog w base spare held n 3 (List.take (Try.prog.cellsOf 3) (List.drop 0 [c0, c1, c2])) = some y0 := (hel 0 _ rfl).trans z0
    have h1 : DataW.trod enc Try.prog w base spare held n 3 (List.take (Try.prog.cellsOf 3) (List.drop 1 [c0, c1, c2])) = some y1 := (hel 1 _ rfl).trans z1
    have h2 : DataW.trod enc Try.prog w base spare held n 3 (List.take (Try.prog.cellsOf 3) (List.drop 2 [c0, c1, c2])) = some y2 := (hel 2 _ rfl).trans z2
    simp only [cellsInt, List.drop_zero, List.take_succ_cons, List.take_zero, List.drop_succ_cons] at h0 h1 h2
    obtain ⟨n0, e0, _, b0⟩ := DataW.trod_int Try.underlying3 h0
    obtain ⟨n1, e1, _, b1⟩ := DataW.trod_int Try.underlying3 h1
    obtain ⟨n2, e2, _, b2⟩ := DataW.trod_int Try.underlying3 h2
    simp only [List.cons.injEq, and_true] at e0 e1 e2
    subst e0; subst e1; subst e2
    exact ⟨⟨n0, n1, n2⟩, rfl, int_bounds b0, int_bounds b1, int_bounds b2⟩
theorem open_op {H : Type} {enc : TypeId × Value → H} {w : World} {r : Reach} {b0 base : Nat} {spare : Nat → Bool} {held : Bool} {v : Value} {d : DataW H} {p : List MemPlace}
    (hv : Value.okWide Try.prog w r b0 24 v) (h : DataW.Trod enc Try.prog w base spare held 24 v d p) : ∃ o : SOp, v = o.val ∧ o.fits := by
  obtain ⟨cs, rfl, hsz⟩ := okWide_struct Try.underlying24 hv
  rw [cellsOp] at hsz
  obtain ⟨fuel, hf⟩ := h
  obtain ⟨l⟩ := cs
  obtain ⟨o, e, hfit⟩ := open_op_cells (by simpa [Value.cells] using hsz) hf
  refine ⟨o, ?_, hfit⟩
  unfold SOp.val
  simp [Value.cells] at e
  rw [e]
theorem open_done_cells {H : Type} {enc : TypeId × Value → H} {w : World} {base fuel : Nat} {spare : Nat → Bool} {held : Bool} {cs : List Value} {y : DataW H × List MemPlace} (hl : cs.length = 5)
    (h : DataW.trod enc Try.prog w base spare held fuel 67 cs = some y) : ∃ d : SDone, cs = [.int .i64 d.core, .int .i64 d.op.kind, .int .i64 d.op.line, .int .i64 d.op.value, .int .i64 d.value] := by
  obtain ⟨xs, n, _, _, _, hlen, hel⟩ := DataW.trod_struct Try.underlying67 h
  match cs, hl with
  | [c0, c1, c2, c3, c4], _ =>
    obtain ⟨y0, z0⟩ := some_of_len (i := 0) hlen (by decide)
    obtain ⟨y1, z1⟩ := some_of_len (i := 1) hlen (by decide)
    obtain ⟨y2, z2⟩ := some_of_len (i := 2) hlen (by decide)
    have h0 : DataW.trod enc Try.prog w base spare held n 3 (List.take (Try.prog.cellsOf 3) (List.drop 0 [c0, c1, c2, c3, c4])) = some y0 := (hel 0 _ rfl).trans z0
    have h1 : DataW.trod enc Try.prog w base spare held n 24 (List.take (Try.prog.cellsOf 24) (List.drop 1 [c0, c1, c2, c3, c4])) = some y1 := (hel 1 _ rfl).trans z1
    have h2 : DataW.trod enc Try.prog w base spare held n 3 (List.take (Try.prog.cellsOf 3) (List.drop 4 [c0, c1, c2, c3, c4])) = some y2 := (hel 2 _ rfl).trans z2
    simp only [cellsInt, cellsOp, List.drop_zero, List.take_succ_cons, List.take_zero, List.drop_succ_cons] at h0 h1 h2
    obtain ⟨n0, e0, _, b0⟩ := DataW.trod_int Try.underlying3 h0
    obtain ⟨o, e1, _⟩ := open_op_cells rfl h1
    obtain ⟨n2, e2, _, b2⟩ := DataW.trod_int Try.underlying3 h2
    simp only [List.cons.injEq, and_true] at e0 e1 e2
    obtain ⟨e3, e4, e5⟩ := e1
    subst e0; subst e3; subst e4; subst e5; subst e2
    exact ⟨⟨n0, o, n2⟩, rfl⟩

theorem open_dones {H : Type} {enc : TypeId × Value → H} {w : World} {r : Reach} {b0 base : Nat} {spare : Nat → Bool} {held : Bool} {v : Value} {d : DataW H} {p : List MemPlace} (hsp : ∀ b, spare b = true)
    (hv : Value.okWide Try.prog w r b0 25 v) (h : DataW.Trod enc Try.prog w base spare held 25 v d p) (hsz : ∀ n ∈ d.weights Try.prog 25, n ≤ reachBytes) :
    ∃ (a : Option Addr) (cap : Nat) (l : List SDone), v = .slice a l.length cap ∧ l.length ≤ cap ∧ cap ≤ maxLen ∧ l.length * 40 ≤ 140737488351232 ∧ DSl w a l := by
  obtain ⟨a, cap, l, h1, h2, h3, h4, h5⟩ := open_rows Try.underlying25 cellsDone doneBytes (by decide) (fun cs (x : SDone) => cs = [.int .i64 x.core, .int .i64 x.op.kind, .int .i64 x.op.line, .int .i64 x.op.value, .int .i64 x.value]) (fun hl h => open_done_cells hl h) hsp hv h hsz
  refine ⟨a, cap, l, h1, h2, h3, h4, fun hne => ?_⟩
  obtain ⟨b, off, e, hc⟩ := h5 hne
  refine ⟨b, off, e, fun i hi => ?_⟩
  obtain ⟨cs, rfl, hcs⟩ := hc i l[i] (List.getElem?_eq_getElem hi)
  have hg : l.getD i SDone.zero = l[i] := by simp [List.getD, hi]
  rw [hg]
  exact ⟨hcs 0 _ rfl, hcs 1 _ rfl, hcs 2 _ rfl, hcs 3 _ rfl, hcs 4 _ rfl⟩
end Go.Proofs.Ytmlpekoombikaab
