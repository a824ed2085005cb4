/- ArgBase Adeq CoreArgs StepArgs. -/
import Derived.WalkKit
import Derived.ProofKit
import Derived.OpenShut
import Derived.ShutString
import Derived.ChangeOld
import Derived.Below
import Derived.SizedLaws
import Derived.Test.YtpgeopefamomnaeGreatRows
import Derived.Test.YtpgeopefamomnaeGreatRT
set_option linter.unusedSimpArgs false
set_option linter.unusedSectionVars false
namespace Go.Proofs.YtpgeopefamomnaeGreat
set_option maxRecDepth 100000
open Go.ChangeShapes Go.WideShapes Go.ChangeAt Go.RowKit
set_option linter.unusedVariables false
set_option linter.unusedSimpArgs false
theorem own : ownKnob Tryz.prog.godebug = none := by kernel_rfl
theorem laidOut : laidOutB Tryz.prog = true := by kernel_rfl
theorem cellsInt : Tryz.prog.cellsOf 3 = 1 := by kernel_rfl
theorem some_of_len {α : Type} {xs : List α} {n i : Nat} (h : xs.length = n) (hi : i < n) : ∃ y, xs[i]? = some y := ⟨xs[i]'(by omega), List.getElem?_eq_getElem (by omega)⟩
theorem int_bounds {x : Int} (h : (Lit.int .i64 x).wf = true) : -9223372036854775808 ≤ x ∧ x ≤ 9223372036854775807 := by
  simpa [Lit.wf, IntKind.min, IntKind.max, IntKind.signed, IntKind.bits] using h

theorem pick_list {α : Type} (R : Nat → α → Prop) : ∀ n, (∀ i, i < n → ∃ x, R i x) → ∃ l : List α, l.length = n ∧ ∀ (i : Nat) x, l[i]? = some x → R i x
  | 0, _ => ⟨[], rfl, fun i x h => by simp at h⟩
  | n + 1, h => by
    obtain ⟨l, h1, h2⟩ := pick_list R n fun i hi => h i (by omega)
    obtain ⟨y, hy⟩ := h n (by omega)
    refine ⟨l ++ [y], by simp [h1], fun i x hx => ?_⟩
    by_cases hi : i < l.length
    · rw [List.getElem?_append_left hi] at hx; exact h2 i x hx
    · rw [List.getElem?_append_right (by omega)] at hx
      have hi' : i - l.length = 0 := by
        have := (List.getElem?_eq_some_iff.1 hx).1
        simpa using this
      rw [hi'] at hx
      simp at hx
      subst hx
      rwa [show i = n by omega]
theorem addr_plain (b off j : Nat) : (⟨b, off, none⟩ : Addr).add j = ⟨b, off + j, none⟩ := by unfold Addr.add; split <;> simp_all
/-- A slice of structs of c cells each, as the claim's form reads it. -/
theorem open_rows {α H : Type} {enc : TypeId × Value → H} {w : World} {r : Reach} {b0 base : Nat} {spare : Nat → Bool} {held : Bool} {v : Value} {d : DataW H} {p : List MemPlace} {T e : TypeId} {c by_ : Nat}
    (hT : Tryz.prog.underlying T = some (.slice e)) (hc : Tryz.prog.cellsOf e = c) (hby : Tryz.prog.bytesOf e = by_) (hc0 : 0 < c) (R : List Value → α → Prop)
    (hR : ∀ {fuel : Nat} {cs : List Value} {y : DataW H × List MemPlace}, cs.length = c → DataW.trod enc Tryz.prog w base (fun _ => true) held fuel e cs = some y → ∃ x, R cs x) (hsp : ∀ b, spare b = true)
    (hv : Value.okWide Tryz.prog w r b0 T v) (h : DataW.Trod enc Tryz.prog w base spare held T v d p) (hsz : ∀ n ∈ d.weights Tryz.prog T, n ≤ reachBytes) :
    ∃ (a : Option Addr) (cap : Nat) (l : List α), v = .slice a l.length cap ∧ l.length ≤ cap ∧ cap ≤ maxLen ∧ l.length * by_ ≤ 140737488351232 ∧
      (l ≠ [] → ∃ b off, a = some ⟨b, off, none⟩ ∧ ∀ (i : Nat) x, l[i]? = some x → ∃ cs, R cs x ∧ ∀ (j : Nat) u, cs[j]? = some u → w.cell? ⟨b, off + i * c + j, none⟩ = some u) := by
  obtain ⟨a0, len, cap, rfl⟩ := okWide_slice hT hv
  obtain rfl : spare = fun _ => true := funext hsp
  obtain ⟨fuel, hf⟩ := h
  rcases DataW.trod_slice hT hf with ⟨hcs, _⟩ | ⟨x, len', cap', elems, rest, m, _, hcs, hx, _, hl, hm, hlen, hel, _, _⟩
  · simp [Value.cells] at hcs
    obtain ⟨rfl, rfl, rfl⟩ := hcs
    exact ⟨none, 0, [], rfl, by simp, by decide, by simp, fun h => absurd rfl h⟩
  · simp [Value.cells] at hcs
    obtain ⟨rfl, rfl, rfl⟩ := hcs
    simp only [Prod.mk.injEq] at hx
    obtain ⟨rfl, _⟩ := hx
    have hb : len * by_ ≤ 140737488351232 := by
      have := hsz (((elems.map (·.1)).length + (rest.map (·.1)).length) * Tryz.prog.bytesOf e) (by simp [DataW.weights, hT])
      rw [hby] at this
      simp only [reachBytes, List.length_map] at this
      rw [hlen] at this
      have h2 : len * by_ ≤ (len + rest.length) * by_ := Nat.mul_le_mul_right _ (by omega)
      omega
    have each : ∀ i, i < len → ∃ u : List Value × α, (∀ j, j < c → w.cell? ((x.add (i * c)).add j) = u.1[j]?) ∧ u.1.length = c ∧ R u.1 u.2 := by
      intro i hi
      have h1 := hel i hi
      rw [hc, List.getElem?_eq_getElem (by omega), Option.bind_eq_some_iff] at h1
      obtain ⟨cs, hc1, hc2⟩ := h1
      obtain ⟨_, hcl, hcc⟩ := World.cells?_some hc1
      obtain ⟨z, hz⟩ := hR hcl hc2
      exact ⟨(cs, z), hcc, hcl, hz⟩
    obtain ⟨l, hll, hle⟩ := pick_list _ len each
    refine ⟨some x, cap, l.map (·.2), by simp [hll], by simpa [hll] using hl, hm, by simpa [hll] using hb, fun hne => ?_⟩
    have hpos : 0 < l.length := by
      rcases Nat.eq_zero_or_pos l.length with h0 | h0
      · rw [List.eq_nil_of_length_eq_zero h0] at hne; simp at hne
      · exact h0
    obtain ⟨b, off, spot⟩ := x
    have hc00 := (hle 0 _ (List.getElem?_eq_getElem hpos)).1 0 hc0
    have hl00 := (hle 0 _ (List.getElem?_eq_getElem hpos)).2.1
    rw [List.getElem?_eq_getElem (by omega)] at hc00
    have hspot : spot = none := by simpa [Addr.add] using World.cell?_spot hc00
    subst hspot
    refine ⟨b, off, rfl, fun i z hz => ?_⟩
    rw [List.getElem?_map, Option.map_eq_some_iff] at hz
    obtain ⟨u, hu, rfl⟩ := hz
    obtain ⟨g1, g2, g3⟩ := hle i u hu
    refine ⟨u.1, g3, fun j y hy => ?_⟩
    have hj : j < c := by rw [← g2]; exact (List.getElem?_eq_some_iff.1 hy).1
    have := g1 j hj
    rw [addr_plain, addr_plain, hy] at this
    exact this
end Go.Proofs.YtpgeopefamomnaeGreat

namespace Go.Proofs.YtpgeopefamomnaeGreat
open Go.RowKit
set_option linter.unusedVariables false
set_option maxRecDepth 100000
theorem rep_no {w : World} {v : AV} {u : Value} (h : RepA w no noMu v u) : RepA w (WrOf (hOf []) noMu no) noMu v u := h.mono (fun b _ hn => ⟨fun hb => hn (by
  rcases hb with hb | ⟨o, x, hx, _⟩
  · exact hb
  · cases hx), rfl⟩) (MuLe.refl _)
theorem law_calls {P : Program} {K : FuncId} {xs : List AV} {args : Array Value} {w : World} (F : FunOK P K xs (hOf []) (Vb true) (hOf [])) (hargs : All2 (RepA w no noMu) xs args.toList) : Calls P K args w fun e w' => e = .returned (.bool true) ∧ Below w.heap.size w w' := by
  have R0 : RelH w no no (hOf []) noMu w := ⟨fun _ _ h => (by cases h), fun _ _ _ _ _ h => (by cases h), fun _ _ => rfl, fun _ _ _ h => (by cases h), fun _ (h : False) => h.elim, rfl, rfl, rfl, Nat.le_refl _, fun _ _ _ => rfl⟩
  refine Calls.mono (F w no no noMu args R0 (hargs.mono fun _ _ hr => rep_no hr)) fun e w' ⟨u, μ', e1, R', _, _, hu⟩ => ⟨?_, ⟨R'.os, R'.tape, R'.output, R'.size, fun b hb => R'.kept b hb fun h => h⟩⟩
  have : u = _ := RepD.bool_eq hu
  rw [e1, this]
theorem chunk {α β : Type} {f : α → List β} {k : Nat} (hk : 0 < k) (hf : ∀ x, (f x).length = k) : ∀ (l : List α) (i : Nat) (y : β), (l.map f).flatten[i]? = some y → ∃ x, l[i / k]? = some x ∧ (f x)[i % k]? = some y
  | [], i, y, h => by simp at h
  | x :: r, i, y, h => by
    rw [List.map_cons, List.flatten_cons] at h
    by_cases hi : i < k
    · rw [List.getElem?_append_left (by rw [hf]; exact hi)] at h
      exact ⟨x, by rw [Nat.div_eq_of_lt hi]; rfl, by rw [Nat.mod_eq_of_lt hi]; exact h⟩
    · rw [List.getElem?_append_right (by rw [hf]; omega), hf] at h
      obtain ⟨z, h1, h2⟩ := chunk hk hf r (i - k) y h
      have e1 : i / k = (i - k) / k + 1 := by rw [← Nat.add_div_right _ hk]; congr 1; omega
      have e2 : i % k = (i - k) % k := by
        have := Nat.add_mod_right (i - k) k
        rw [show i - k + k = i by omega] at this
        exact this
      exact ⟨z, by rw [e1, List.getElem?_cons_succ]; exact h1, by rw [e2]; exact h2⟩
theorem flat_len {α β : Type} {f : α → List β} {k : Nat} (hf : ∀ x, (f x).length = k) : ∀ l : List α, (l.map f).flatten.length = l.length * k
  | [] => by simp
  | x :: r => by
    rw [List.map_cons, List.flatten_cons, List.length_append, hf, flat_len hf r, List.length_cons, Nat.succ_mul]
    omega
theorem row_rep {α : Type} {w : World} (f : α → List DV) (g : α → List Value) (k : Nat) (hk : 0 < k) (hf : ∀ x, (f x).length = k) (hg : ∀ x, (g x).length = k) (hfg : ∀ (x : α) (j : Nat) (u : DV) (v : Value), (f x)[j]? = some u → (g x)[j]? = some v → RepD w no u v) (l : List α) (a : Option Addr) (cap : Nat) (h1 : l.length ≤ cap) (h2 : cap ≤ maxLen)
    (hS : l ≠ [] → ∃ b off, a = some ⟨b, off, none⟩ ∧ ∀ (i : Nat) (x : α), l[i]? = some x → ∀ (j : Nat) (u : Value), (g x)[j]? = some u → w.cell? ⟨b, off + i * k + j, none⟩ = some u) : RepA w no noMu (Ro (R f l)) (.slice a l.length cap) := by
  refine RepD.row (R f l) a l.length cap k (l.map g).flatten (R_len f l).symm h1 h2 (fun e he => R_one hf l e he) ?_ (fun hne => ?_) (fun i x v hx hv => ?_)
  · show (l.map g).flatten.length = (l.map f).flatten.length
    rw [flat_len hf, flat_len hg]
  · have hl : l ≠ [] := fun e => hne (by rw [e]; rfl)
    obtain ⟨b, off, e1, hc⟩ := hS hl
    refine ⟨b, off, e1, fun h => h, fun i v hv => ?_⟩
    obtain ⟨x, h3, h4⟩ := chunk hk hg l i v hv
    have := hc _ x h3 _ v h4
    rw [show off + i / k * k + i % k = off + i by have := Nat.div_add_mod i k; rw [Nat.mul_comm] at this; omega] at this
    exact this
  · obtain ⟨y, h3, h4⟩ := chunk hk hf l i x hx
    obtain ⟨z, h5, h6⟩ := chunk hk hg l i v hv
    have : y = z := by rw [h3] at h5; exact Option.some.inj h5
    subst this
    exact hfg y _ x v h4 h6
def stepVals (s : SStep) : List Value := [.int .i64 s.kind, .int .i64 s.node, .int .i64 s.n, .int .i64 s.bit, .int .i64 s.op.kind, .int .i64 s.op.line, .int .i64 s.op.value]
theorem step_rep {w : World} (s : SStep) (j : Nat) (u : DV) (v : Value) (hu : (stepD s)[j]? = some u) (hv : (stepVals s)[j]? = some v) : RepD w no u v := by
  match j with
  | 0 => cases hu; cases hv; exact .int _ _
  | 1 => cases hu; cases hv; exact .int _ _
  | 2 => cases hu; cases hv; exact .int _ _
  | 3 => cases hu; cases hv; exact .int _ _
  | 4 => cases hu; cases hv; exact .int _ _
  | 5 => cases hu; cases hv; exact .int _ _
  | 6 => cases hu; cases hv; exact .int _ _
  | j + 7 => cases hu
theorem int_rep {w : World} (x : Int) : RepA w no noMu (V x) (.int .i64 x) := RepD.int _ _
theorem ki {w : World} (x : Int) : RepK w no noMu (I x) (.int .i64 x) := ⟨rfl, RepD.int _ _⟩
theorem cfg_rep {w : World} (c : Cfg) : RepA w no noMu (.agg (cfgC c)) (.agg #[.int .i64 c.cores, .int .i64 c.lines]) := ⟨[_, _], rfl, All2.cons (ki _) (All2.cons (ki _) All2.nil)⟩
end Go.Proofs.YtpgeopefamomnaeGreat

namespace Go.Proofs.YtpgeopefamomnaeGreat
set_option maxRecDepth 100000
open Go.ChangeShapes Go.WideShapes Go.ChangeAt Go.RowKit
set_option linter.unusedVariables false
set_option linter.unusedSimpArgs false
theorem cellsBool : Tryz.prog.cellsOf 4 = 1 := by kernel_rfl
theorem cellsCfg : Tryz.prog.cellsOf 23 = 2 := by kernel_rfl
theorem cellsOp : Tryz.prog.cellsOf 44 = 3 := by kernel_rfl
theorem cellsStep : Tryz.prog.cellsOf 64 = 7 := by kernel_rfl
theorem stepBytes : Tryz.prog.bytesOf 64 = 56 := by kernel_rfl

theorem open_cfg_cells {H : Type} {enc : TypeId × Value → H} {w : World} {base fuel : Nat} {spare : Nat → Bool} {held : Bool} {cs : List Value} {y : DataW H × List MemPlace} (hl : cs.length = 2)
    (h : DataW.trod enc Tryz.prog w base spare held fuel 23 cs = some y) : ∃ x : Cfg, cs = [.int .i64 x.cores, .int .i64 x.lines] := by
  obtain ⟨xs, n, _, _, _, hlen, hel⟩ := DataW.trod_struct Tryz.underlying23 h
  match cs, hl with
  | [c0, c1], _ =>
    obtain ⟨y0, z0⟩ := some_of_len (i := 0) hlen (by decide)
    obtain ⟨y1, z1⟩ := some_of_len (i := 1) hlen (by decide)
    have h0 : DataW.trod enc Tryz.prog w base spare held n 3 (List.take (Tryz.prog.cellsOf 3) (List.drop 0 [c0, c1])) = some y0 := (hel 0 _ rfl).trans z0
    have h1 : DataW.trod enc Tryz.prog w base spare held n 3 (List.take (Tryz.prog.cellsOf 3) (List.drop 1 [c0, c1])) = some y1 := (hel 1 _ rfl).trans z1
    simp only [cellsInt, cellsBool, cellsOp, List.drop_zero, List.take_succ_cons, List.take_zero, List.drop_succ_cons] at h0 h1
    obtain ⟨n0, e0, _, _⟩ := DataW.trod_int Tryz.underlying3 h0
    obtain ⟨n1, e1, _, _⟩ := DataW.trod_int Tryz.underlying3 h1
    simp only [List.cons.injEq, and_true] at e0 e1
    subst e0
    subst e1
    exact ⟨⟨n0, n1⟩, rfl⟩

theorem open_op_cells {H : Type} {enc : TypeId × Value → H} {w : World} {base fuel : Nat} {spare : Nat → Bool} {held : Bool} {cs : List Value} {y : DataW H × List MemPlace} (hl : cs.length = 3)
    (h : DataW.trod enc Tryz.prog w base spare held fuel 44 cs = some y) : ∃ x : SOp, cs = [.int .i64 x.kind, .int .i64 x.line, .int .i64 x.value] := by
  obtain ⟨xs, n, _, _, _, hlen, hel⟩ := DataW.trod_struct Tryz.underlying44 h
  match cs, hl with
  | [c0, c1, c2], _ =>
    obtain ⟨y0, z0⟩ := some_of_len (i := 0) hlen (by decide)
    obtain ⟨y1, z1⟩ := some_of_len (i := 1) hlen (by decide)
    obtain ⟨y2, z2⟩ := some_of_len (i := 2) hlen (by decide)
    have h0 : DataW.trod enc Tryz.prog w base spare held n 3 (List.take (Tryz.prog.cellsOf 3) (List.drop 0 [c0, c1, c2])) = some y0 := (hel 0 _ rfl).trans z0
    have h1 : DataW.trod enc Tryz.prog w base spare held n 3 (List.take (Tryz.prog.cellsOf 3) (List.drop 1 [c0, c1, c2])) = some y1 := (hel 1 _ rfl).trans z1
    have h2 : DataW.trod enc Tryz.prog w base spare held n 3 (List.take (Tryz.prog.cellsOf 3) (List.drop 2 [c0, c1, c2])) = some y2 := (hel 2 _ rfl).trans z2
    simp only [cellsInt, cellsBool, cellsOp, List.drop_zero, List.take_succ_cons, List.take_zero, List.drop_succ_cons] at h0 h1 h2
    obtain ⟨n0, e0, _, _⟩ := DataW.trod_int Tryz.underlying3 h0
    obtain ⟨n1, e1, _, _⟩ := DataW.trod_int Tryz.underlying3 h1
    obtain ⟨n2, e2, _, _⟩ := DataW.trod_int Tryz.underlying3 h2
    simp only [List.cons.injEq, and_true] at e0 e1 e2
    subst e0
    subst e1
    subst e2
    exact ⟨⟨n0, n1, n2⟩, rfl⟩

theorem open_step_cells {H : Type} {enc : TypeId × Value → H} {w : World} {base fuel : Nat} {spare : Nat → Bool} {held : Bool} {cs : List Value} {y : DataW H × List MemPlace} (hl : cs.length = 7)
    (h : DataW.trod enc Tryz.prog w base spare held fuel 64 cs = some y) : ∃ x : SStep, cs = stepVals x := by
  obtain ⟨xs, n, _, _, _, hlen, hel⟩ := DataW.trod_struct Tryz.underlying64 h
  match cs, hl with
  | [c0, c1, c2, c3, c4, c5, c6], _ =>
    obtain ⟨y0, z0⟩ := some_of_len (i := 0) hlen (by decide)
    obtain ⟨y1, z1⟩ := some_of_len (i := 1) hlen (by decide)
    obtain ⟨y2, z2⟩ := some_of_len (i := 2) hlen (by decide)
    obtain ⟨y3, z3⟩ := some_of_len (i := 3) hlen (by decide)
    obtain ⟨y4, z4⟩ := some_of_len (i := 4) hlen (by decide)
    have h0 : DataW.trod enc Tryz.prog w base spare held n 3 (List.take (Tryz.prog.cellsOf 3) (List.drop 0 [c0, c1, c2, c3, c4, c5, c6])) = some y0 := (hel 0 _ rfl).trans z0
    have h1 : DataW.trod enc Tryz.prog w base spare held n 3 (List.take (Tryz.prog.cellsOf 3) (List.drop 1 [c0, c1, c2, c3, c4, c5, c6])) = some y1 := (hel 1 _ rfl).trans z1
    have h2 : DataW.trod enc Tryz.prog w base spare held n 3 (List.take (Tryz.prog.cellsOf 3) (List.drop 2 [c0, c1, c2, c3, c4, c5, c6])) = some y2 := (hel 2 _ rfl).trans z2
    have h3 : DataW.trod enc Tryz.prog w base spare held n 3 (List.take (Tryz.prog.cellsOf 3) (List.drop 3 [c0, c1, c2, c3, c4, c5, c6])) = some y3 := (hel 3 _ rfl).trans z3
    have h4 : DataW.trod enc Tryz.prog w base spare held n 44 (List.take (Tryz.prog.cellsOf 44) (List.drop 4 [c0, c1, c2, c3, c4, c5, c6])) = some y4 := (hel 4 _ rfl).trans z4
    simp only [cellsInt, cellsBool, cellsOp, List.drop_zero, List.take_succ_cons, List.take_zero, List.drop_succ_cons] at h0 h1 h2 h3 h4
    obtain ⟨n0, e0, _, _⟩ := DataW.trod_int Tryz.underlying3 h0
    obtain ⟨n1, e1, _, _⟩ := DataW.trod_int Tryz.underlying3 h1
    obtain ⟨n2, e2, _, _⟩ := DataW.trod_int Tryz.underlying3 h2
    obtain ⟨n3, e3, _, _⟩ := DataW.trod_int Tryz.underlying3 h3
    obtain ⟨n4, e4⟩ := open_op_cells rfl h4
    simp only [List.cons.injEq, and_true] at e0 e1 e2 e3 e4
    subst e0
    subst e1
    subst e2
    subst e3
    obtain ⟨rfl, rfl, rfl⟩ := e4
    exact ⟨⟨n0, n1, n2, n3, n4⟩, rfl⟩

theorem open_cfg {H : Type} {enc : TypeId × Value → H} {w : World} {r : Reach} {b0 base : Nat} {spare : Nat → Bool} {held : Bool} {v : Value} {d : DataW H} {p : List MemPlace}
    (hv : Value.okWide Tryz.prog w r b0 23 v) (h : DataW.Trod enc Tryz.prog w base spare held 23 v d p) : ∃ x : Cfg, v = .agg #[.int .i64 x.cores, .int .i64 x.lines] := by
  obtain ⟨cs, rfl, hsz⟩ := okWide_struct Tryz.underlying23 hv
  rw [cellsCfg] at hsz
  obtain ⟨fuel, hf⟩ := h
  obtain ⟨l⟩ := cs
  obtain ⟨x, hx⟩ := open_cfg_cells (cs := l) hsz hf
  exact ⟨x, by rw [hx]⟩

end Go.Proofs.YtpgeopefamomnaeGreat

namespace Go.Proofs.YtpgeopefamomnaeGreat
set_option maxRecDepth 100000
open Go.ChangeShapes Go.WideShapes Go.ChangeAt Go.RowKit
set_option linter.unusedVariables false
set_option linter.unusedSimpArgs false
theorem open_step_bit {H : Type} {enc : TypeId × Value → H} {w : World} {base fuel : Nat} {spare : Nat → Bool} {held : Bool} {cs : List Value} {y : DataW H × List MemPlace} (hl : cs.length = 7)
    (h : DataW.trod enc Tryz.prog w base spare held fuel 64 cs = some y) : ∃ x : SStep, cs = stepVals x ∧ x.bit < 9223372036854775808 := by
  obtain ⟨x, hx⟩ := open_step_cells hl h
  refine ⟨x, hx, ?_⟩
  subst hx
  obtain ⟨xs, n, _, _, _, hlen, hel⟩ := DataW.trod_struct Tryz.underlying64 h
  obtain ⟨y3, z3⟩ := some_of_len (i := 3) hlen (by decide)
  have h3 : DataW.trod enc Tryz.prog w base spare held n 3 (List.take (Tryz.prog.cellsOf 3) (List.drop 3 (stepVals x))) = some y3 := (hel 3 _ rfl).trans z3
  rw [cellsInt] at h3
  have h4 : DataW.trod enc Tryz.prog w base spare held n 3 [.int .i64 x.bit] = some y3 := h3
  obtain ⟨b, e3, _, w3⟩ := DataW.trod_int Tryz.underlying3 h4
  simp only [List.cons.injEq, and_true, Value.int.injEq, true_and] at e3
  have := int_bounds w3
  omega
theorem open_stepsB {H : Type} {enc : TypeId × Value → H} {w : World} {r : Reach} {b0 base : Nat} {spare : Nat → Bool} {held : Bool} {v : Value} {d : DataW H} {p : List MemPlace} (hsp : ∀ b, spare b = true)
    (hv : Value.okWide Tryz.prog w r b0 24 v) (h : DataW.Trod enc Tryz.prog w base spare held 24 v d p) (hsz : ∀ n ∈ d.weights Tryz.prog 24, n ≤ reachBytes) :
    ∃ (a : Option Addr) (cap : Nat) (l : List SStep), v = .slice a l.length cap ∧ RepA w no noMu (Ro (R stepD l)) (.slice a l.length cap) ∧ ∀ s ∈ l, s.bit < 9223372036854775808 := by
  obtain ⟨a, cap, l, h1, h2, h3, h4, h5⟩ := open_rows Tryz.underlying24 cellsStep stepBytes (by decide) (fun cs (x : SStep) => cs = stepVals x ∧ x.bit < 9223372036854775808) (fun hl h => open_step_bit hl h) hsp hv h hsz
  refine ⟨a, cap, l, h1, row_rep stepD stepVals 7 (by decide) (fun _ => rfl) (fun _ => rfl) (fun x j u v hu hv => step_rep x j u v hu hv) l a cap h2 h3 fun hne => ?_, fun s hs => ?_⟩
  · obtain ⟨b, off, e, hc⟩ := h5 hne
    refine ⟨b, off, e, fun i x hx j u hu => ?_⟩
    obtain ⟨cs, ⟨rfl, _⟩, hcs⟩ := hc i x hx
    exact hcs j u hu
  · obtain ⟨b, off, e, hc⟩ := h5 (List.ne_nil_of_mem hs)
    obtain ⟨i, hi, rfl⟩ := List.getElem_of_mem hs
    obtain ⟨cs, ⟨_, hb⟩, _⟩ := hc i l[i] (List.getElem?_eq_getElem hi)
    exact hb
end Go.Proofs.YtpgeopefamomnaeGreat

