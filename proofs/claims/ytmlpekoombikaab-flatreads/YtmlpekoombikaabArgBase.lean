/- What the openings of arguments share. -/
import Derived.Test.YtmlpekoombikaabRows
import Derived.WalkKit
import Derived.ProofKit
import Derived.OpenShut
import Derived.ShutString
import Derived.ChangeOld
import Derived.Below
import Derived.SizedLaws
namespace Go.Proofs.Ytmlpekoombikaab
set_option maxRecDepth 100000
open Go.ChangeShapes Go.WideShapes Go.ChangeAt Go.RowKit
set_option linter.unusedVariables false
set_option linter.unusedSimpArgs false

theorem own : ownKnob Try.prog.godebug = none := by kernel_rfl
theorem laidOut : laidOutB Try.prog = true := by kernel_rfl
theorem cellsInt : Try.prog.cellsOf 3 = 1 := by kernel_rfl
theorem some_of_len {α : Type} {xs : List α} {n i : Nat} (h : xs.length = n) (hi : i < n) : ∃ y, xs[i]? = some y := ⟨xs[i]'(by omega), List.getElem?_eq_getElem (by omega)⟩
theorem int_bounds {x : Int} (h : (Lit.int .i64 x).wf = true) : -9223372036854775808 ≤ x ∧ x ≤ 9223372036854775807 := by
  simpa [Lit.wf, IntKind.min, IntKind.max, IntKind.signed, IntKind.bits] using h

theorem pick_list {α : Type} (R : Nat → α → Prop) : ∀ n, (∀ i, i < n → ∃ x, R i x) → ∃ l : List α, l.length = n ∧ ∀ (i : Nat) x, l[i]? = some x → R i x
  | 0, _ => ⟨[], rfl, fun i x h => by simp at h⟩
  | n + 1, h => by
    obtain ⟨l, h1, h2⟩ := pick_list R n fun i hi => h i (by omega)
    obtain ⟨y, hy⟩ := h n (by omega)
    refine ⟨l ++ [y], by simp [h1], fun i x hx => ?_⟩
    by_cases hi : i < l.length
    · rw [List.getElem?_append_left hi] at hx; exact h2 i x hx
    · rw [List.getElem?_append_right (by omega)] at hx
      have hi' : i - l.length = 0 := by
        have := (List.getElem?_eq_some_iff.1 hx).1
        simpa using this
      rw [hi'] at hx
      simp at hx
      subst hx
      rwa [show i = n by omega]
theorem lits_length {H : Type} (k : IntKind) (zs : List Int) : (lits (H := H) k zs).length = zs.length := by simp [lits]
theorem cells_one {w : World} {base : Nat} {a : Addr} {cs : List Value} (h : w.cells? base a 1 = some cs) : ∃ u, cs = [u] ∧ w.cell? a = some u := by
  obtain ⟨h1, h2, h3⟩ := World.cells?_some h
  have hl : cs.length = 1 := by omega
  match cs, hl with
  | [u], _ => exact ⟨u, rfl, cell_of_cells?_one h⟩
theorem mem_weightsAll {H : Type} {P : Program} {e : TypeId} : ∀ {l : List (DataW H)} {d : DataW H} {n : Nat}, d ∈ l → n ∈ d.weights P e → n ∈ DataW.weightsAll P e l
  | [], _, _, h, _ => by simp at h
  | d0 :: l, d, n, h, hn => by
    simp only [DataW.weightsAll, List.mem_append]
    rcases List.mem_cons.1 h with rfl | h
    · exact .inl hn
    · exact .inr (mem_weightsAll h hn)

theorem addr_plain (b off j : Nat) : (⟨b, off, none⟩ : Addr).add j = ⟨b, off + j, none⟩ := by unfold Addr.add; split <;> simp_all
/-- A slice of structs of c cells each, as the claim's form reads it. -/
theorem open_rows {α H : Type} {enc : TypeId × Value → H} {w : World} {r : Reach} {b0 base : Nat} {spare : Nat → Bool} {held : Bool} {v : Value} {d : DataW H} {p : List MemPlace} {T e : TypeId} {c by_ : Nat}
    (hT : Try.prog.underlying T = some (.slice e)) (hc : Try.prog.cellsOf e = c) (hby : Try.prog.bytesOf e = by_) (hc0 : 0 < c) (R : List Value → α → Prop)
    (hR : ∀ {fuel : Nat} {cs : List Value} {y : DataW H × List MemPlace}, cs.length = c → DataW.trod enc Try.prog w base (fun _ => true) held fuel e cs = some y → ∃ x, R cs x) (hsp : ∀ b, spare b = true)
    (hv : Value.okWide Try.prog w r b0 T v) (h : DataW.Trod enc Try.prog w base spare held T v d p) (hsz : ∀ n ∈ d.weights Try.prog T, n ≤ reachBytes) :
    ∃ (a : Option Addr) (cap : Nat) (l : List α), v = .slice a l.length cap ∧ l.length ≤ cap ∧ cap ≤ maxLen ∧ l.length * by_ ≤ 140737488351232 ∧
      (l ≠ [] → ∃ b off, a = some ⟨b, off, none⟩ ∧ ∀ (i : Nat) x, l[i]? = some x → ∃ cs, R cs x ∧ ∀ (j : Nat) u, cs[j]? = some u → w.cell? ⟨b, off + i * c + j, none⟩ = some u) := by
  obtain ⟨a0, len, cap, rfl⟩ := okWide_slice hT hv
  obtain rfl : spare = fun _ => true := funext hsp
  obtain ⟨fuel, hf⟩ := h
  rcases DataW.trod_slice hT hf with ⟨hcs, _⟩ | ⟨x, len', cap', elems, rest, m, _, hcs, hx, _, hl, hm, hlen, hel, _, _⟩
  · simp [Value.cells] at hcs
    obtain ⟨rfl, rfl, rfl⟩ := hcs
    exact ⟨none, 0, [], rfl, by simp, by decide, by simp, fun h => absurd rfl h⟩
  · simp [Value.cells] at hcs
    obtain ⟨rfl, rfl, rfl⟩ := hcs
    simp only [Prod.mk.injEq] at hx
    obtain ⟨rfl, _⟩ := hx
    have hb : len * by_ ≤ 140737488351232 := by
      have := hsz (((elems.map (·.1)).length + (rest.map (·.1)).length) * Try.prog.bytesOf e) (by simp [DataW.weights, hT])
      rw [hby] at this
      simp only [reachBytes, List.length_map] at this
      rw [hlen] at this
      have h2 : len * by_ ≤ (len + rest.length) * by_ := Nat.mul_le_mul_right _ (by omega)
      omega
    have each : ∀ i, i < len → ∃ u : List Value × α, (∀ j, j < c → w.cell? ((x.add (i * c)).add j) = u.1[j]?) ∧ u.1.length = c ∧ R u.1 u.2 := by
      intro i hi
      have h1 := hel i hi
      rw [hc, List.getElem?_eq_getElem (by omega), Option.bind_eq_some_iff] at h1
      obtain ⟨cs, hc1, hc2⟩ := h1
      obtain ⟨_, hcl, hcc⟩ := World.cells?_some hc1
      obtain ⟨z, hz⟩ := hR hcl hc2
      exact ⟨(cs, z), hcc, hcl, hz⟩
    obtain ⟨l, hll, hle⟩ := pick_list _ len each
    refine ⟨some x, cap, l.map (·.2), by simp [hll], by simpa [hll] using hl, hm, by simpa [hll] using hb, fun hne => ?_⟩
    have hpos : 0 < l.length := by
      rcases Nat.eq_zero_or_pos l.length with h0 | h0
      · rw [List.eq_nil_of_length_eq_zero h0] at hne; simp at hne
      · exact h0
    obtain ⟨b, off, spot⟩ := x
    have hc00 := (hle 0 _ (List.getElem?_eq_getElem hpos)).1 0 hc0
    have hl00 := (hle 0 _ (List.getElem?_eq_getElem hpos)).2.1
    rw [List.getElem?_eq_getElem (by omega)] at hc00
    have hspot : spot = none := by simpa [Addr.add] using World.cell?_spot hc00
    subst hspot
    refine ⟨b, off, rfl, fun i z hz => ?_⟩
    rw [List.getElem?_map, Option.map_eq_some_iff] at hz
    obtain ⟨u, hu, rfl⟩ := hz
    obtain ⟨g1, g2, g3⟩ := hle i u hu
    refine ⟨u.1, g3, fun j y hy => ?_⟩
    have hj : j < c := by rw [← g2]; exact (List.getElem?_eq_some_iff.1 hy).1
    have := g1 j hj
    rw [addr_plain, addr_plain, hy] at this
    exact this
end Go.Proofs.Ytmlpekoombikaab
