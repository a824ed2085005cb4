/- A list of frames as the claim's form reads it. -/
import Derived.Test.YtfgemnlbbipbcaaArgs
import Derived.Test.YtfgemnlbbipbcaaFrames
import Derived.SizedLaws
namespace Go.Proofs.Ytfgemnlbbipbcaa
open Go.ChangeShapes Go.WideShapes Go.ChangeAt Go.RowKit
set_option linter.unusedVariables false

theorem pick_list {α : Type} (R : Nat → α → Prop) : ∀ n, (∀ i, i < n → ∃ x, R i x) → ∃ l : List α, l.length = n ∧ ∀ (i : Nat) x, l[i]? = some x → R i x
  | 0, _ => ⟨[], rfl, fun i x h => by simp at h⟩
  | n + 1, h => by
    obtain ⟨l, h1, h2⟩ := pick_list R n fun i hi => h i (by omega)
    obtain ⟨y, hy⟩ := h n (by omega)
    refine ⟨l ++ [y], by simp [h1], fun i x hx => ?_⟩
    by_cases hi : i < l.length
    · rw [List.getElem?_append_left hi] at hx; exact h2 i x hx
    · rw [List.getElem?_append_right (by omega)] at hx
      have hi' : i - l.length = 0 := by
        have := (List.getElem?_eq_some_iff.1 hx).1
        simpa using this
      rw [hi'] at hx
      simp at hx
      subst hx
      rwa [show i = n by omega]
theorem lits_length {H : Type} (k : IntKind) (zs : List Int) : (lits (H := H) k zs).length = zs.length := by simp [lits]
theorem cells_one {w : World} {base : Nat} {a : Addr} {cs : List Value} (h : w.cells? base a 1 = some cs) : ∃ u, cs = [u] ∧ w.cell? a = some u := by
  obtain ⟨h1, h2, h3⟩ := World.cells?_some h
  have hl : cs.length = 1 := by omega
  match cs, hl with
  | [u], _ => exact ⟨u, rfl, cell_of_cells?_one h⟩
theorem slBytes : Try.prog.bytesOf 26 = 24 := by kernel_rfl
theorem u8Bytes : Try.prog.bytesOf 5 = 1 := by kernel_rfl
theorem slCells : Try.prog.cellsOf 26 = 1 := by kernel_rfl
theorem open_fv {H : Type} {enc : TypeId × Value → H} {w : World} {base fuel : Nat} {held : Bool} {cs : List Value} {y : DataW H × List MemPlace}
    (h : DataW.trod enc Try.prog w base (fun _ => true) held fuel 26 cs = some y) (hsz : ∀ n ∈ y.1.weights Try.prog 26, n ≤ reachBytes) : ∃ u xs, cs = [u] ∧ FV w u xs := by
  rcases open_ints Try.underlying26 Try.underlying5 (by kernel_rfl) h with ⟨hcs, _⟩ | ⟨x, l, c, zs, hcs, _, hl, hm, hz, hy, hcell, hwz⟩
  · exact ⟨_, [], hcs, none, 0, rfl, by simp, by decide, by simp, fun i hi => absurd hi (by simp), fun h => absurd rfl h⟩
  · have hzl : zs.length = c := by simpa using hz
    have hb : l ≤ 140737488351232 := by
      have := hsz (((lits (H := H) .u8 (zs.take l)).length + (lits (H := H) .u8 (zs.drop l)).length) * Try.prog.bytesOf 5) (by rw [hy]; simp [DataW.weights, Try.underlying26])
      rw [u8Bytes, lits_length, lits_length] at this
      simp only [reachBytes, List.length_take, List.length_drop] at this
      omega
    have hlen : ((zs.take l).map Int.toNat).length = l := by simp; omega
    have hat : ∀ i, i < l → ((zs.take l).map Int.toNat).getD i 0 = (zs.getD i 0).toNat := fun i hi => by
      simp [List.getD, hi, show i < zs.length by omega]
    have hbd : ∀ i, i < l → 0 ≤ zs.getD i 0 ∧ zs.getD i 0 ≤ 255 := fun i hi => by
      have hi' : i < zs.length := by omega
      have : zs.getD i 0 ∈ zs := by simp [List.getD, hi']
      exact byte_bounds (hwz _ this)
    refine ⟨_, (zs.take l).map Int.toNat, hcs, some x, c, by rw [hlen], by rw [hlen]; exact hl, hm, by rw [hlen]; exact hb, fun i hi => ?_, fun hne => ?_⟩
    · rw [hlen] at hi
      rw [hat i hi]
      have := hbd i hi
      omega
    · have hpos : 0 < l := by
        rcases Nat.eq_zero_or_pos l with h0 | h0
        · subst h0; simp at hne
        · exact h0
      obtain ⟨b, off, spot⟩ := x
      have hc0 := hcell 0 (by omega)
      have hspot : spot = none := by simpa [Addr.add] using World.cell?_spot hc0
      subst hspot
      refine ⟨b, off, rfl, fun i hi => ?_⟩
      rw [hlen] at hi
      have hc := hcell i (by omega)
      have hplain : (⟨b, off, none⟩ : Addr).add i = ⟨b, off + i, none⟩ := by unfold Addr.add; split <;> simp_all
      rw [hplain] at hc
      rw [hc, hat i hi]
      have := hbd i hi
      rw [Int.toNat_of_nonneg this.1]
theorem mem_weightsAll {H : Type} {P : Program} {e : TypeId} : ∀ {l : List (DataW H)} {d : DataW H} {n : Nat}, d ∈ l → n ∈ d.weights P e → n ∈ DataW.weightsAll P e l
  | [], _, _, h, _ => by simp at h
  | d0 :: l, d, n, h, hn => by
    simp only [DataW.weightsAll, List.mem_append]
    rcases List.mem_cons.1 h with rfl | h
    · exact .inl hn
    · exact .inr (mem_weightsAll h hn)
theorem open_frames {H : Type} {enc : TypeId × Value → H} {w : World} {r : Reach} {b0 base : Nat} {spare : Nat → Bool} {held : Bool} {v : Value} {d : DataW H} {p : List MemPlace} (hsp : ∀ b, spare b = true)
    (hv : Value.okWide Try.prog w r b0 38 v) (h : DataW.Trod enc Try.prog w base spare held 38 v d p) (hsz : ∀ n ∈ d.weights Try.prog 38, n ≤ reachBytes) :
    ∃ (a : Option Addr) (cap : Nat) (ls : List (List Nat)), v = .slice a ls.length cap ∧ ls.length ≤ cap ∧ cap ≤ maxLen ∧ ls.length * 24 ≤ 140737488351232 ∧ (a = none → ls = [] ∧ cap = 0) ∧ LS w a ls := by
  obtain ⟨a0, len, cap, rfl⟩ := okWide_slice Try.underlying38 hv
  obtain rfl : spare = fun _ => true := funext hsp
  obtain ⟨fuel, hf⟩ := h
  rcases DataW.trod_slice Try.underlying38 hf with ⟨hcs, _⟩ | ⟨x, len', cap', elems, rest, m, _, hcs, hx, _, hl, hm, hlen, hel, _, _⟩
  · simp [Value.cells] at hcs
    obtain ⟨rfl, rfl, rfl⟩ := hcs
    exact ⟨none, 0, [], rfl, by simp, by decide, by simp, fun _ => ⟨rfl, rfl⟩, LS.nil _ _⟩
  · simp [Value.cells] at hcs
    obtain ⟨rfl, rfl, rfl⟩ := hcs
    simp only [Prod.mk.injEq] at hx
    obtain ⟨rfl, _⟩ := hx
    have hb : len * 24 ≤ 140737488351232 := by
      have := hsz (((elems.map (·.1)).length + (rest.map (·.1)).length) * Try.prog.bytesOf 26) (by simp [DataW.weights, Try.underlying38])
      rw [slBytes] at this
      simp only [reachBytes, List.length_map] at this
      omega
    have each : ∀ i, i < len → ∃ u : Value × List Nat, w.cell? (x.add i) = some u.1 ∧ FV w u.1 u.2 := by
      intro i hi
      have h1 := hel i hi
      rw [slCells, Nat.mul_one, List.getElem?_eq_getElem (by omega), Option.bind_eq_some_iff] at h1
      obtain ⟨cs, hc1, hc2⟩ := h1
      obtain ⟨u, rfl, hu⟩ := cells_one hc1
      obtain ⟨u', xs, e, hF⟩ := open_fv hc2 fun n hn => hsz n (by
        simp only [DataW.weights, Try.underlying38, List.mem_cons, List.mem_append]
        exact .inr (.inl (mem_weightsAll (List.mem_map.2 ⟨_, List.getElem_mem _, rfl⟩) hn)))
      cases e
      exact ⟨(u, xs), hu, hF⟩
    obtain ⟨l, hll, hle⟩ := pick_list _ len each
    have hFV : FVs w (l.map (·.1)) (l.map (·.2)) := by
      refine ⟨by simp, fun i v xs hv hx => ?_⟩
      rw [List.getElem?_map, Option.map_eq_some_iff] at hv hx
      obtain ⟨u, hu, rfl⟩ := hv
      obtain ⟨u', hu', rfl⟩ := hx
      rw [hu] at hu'
      cases hu'
      exact (hle i u hu).2
    refine ⟨some x, cap, l.map (·.2), by simp [hll], by simpa [hll] using hl, hm, by simpa [hll] using hb, (fun h => by cases h), l.map (·.1), fun hne => ?_, hFV⟩
    have hpos : 0 < l.length := by
      rcases Nat.eq_zero_or_pos l.length with h0 | h0
      · rw [List.eq_nil_of_length_eq_zero h0] at hne; simp at hne
      · exact h0
    obtain ⟨b, off, spot⟩ := x
    have hc0 := (hle 0 _ (List.getElem?_eq_getElem hpos)).1
    have hspot : spot = none := by simpa [Addr.add] using World.cell?_spot hc0
    subst hspot
    refine ⟨b, off, rfl, fun i u hu => ?_⟩
    rw [List.getElem?_map, Option.map_eq_some_iff] at hu
    obtain ⟨u', hu', rfl⟩ := hu
    have hc := (hle i u' hu').1
    have hplain : (⟨b, off, none⟩ : Addr).add i = ⟨b, off + i, none⟩ := by unfold Addr.add; split <;> simp_all
    rwa [hplain] at hc
theorem bytes_len {H : Type} {enc : TypeId × Value → H} {w : World} {base : Nat} {spare : Nat → Bool} {held : Bool} {a : Option Addr} {n cap : Nat} {d : DataW H} {p : List MemPlace} {ts : List TypeId} {ds : List (DataW H)}
    (h : (DataW.weightsEach Try.prog ts ds).all (· ≤ reachBytes) = true) {j : Nat} (ht : ts[j]? = some 26) (hd : ds[j]? = some d)
    (k : DataW.Trod enc Try.prog w base spare held 26 (.slice a n cap) d p) : n ≤ 140737488351232 := by
  obtain ⟨fuel, hf⟩ := k
  rcases DataW.trod_slice Try.underlying26 hf with ⟨hcs, _⟩ | ⟨x, len, cap', elems, rest, m, _, hcs, hx, _, _, _, hlen, _⟩
  · simp [Value.cells] at hcs
    omega
  · simp [Value.cells] at hcs
    simp only [Prod.mk.injEq] at hx
    obtain ⟨rfl, _⟩ := hx
    have := sized_slice h ht hd Try.underlying26
    rw [u8Bytes] at this
    simp only [reachBytes, List.length_map] at this
    omega
end Go.Proofs.Ytfgemnlbbipbcaa
