/- What the document's own SameInts answers (shref1). -/
import Derived.Test.YtmlpekoombikaabRefDo
namespace Go.Proofs.Ytmlpekoombikaab
set_option maxRecDepth 100000
open Go.RowKit
set_option linter.unusedVariables false
set_option linter.unusedSimpArgs false

set_option maxHeartbeats 2000000 in
theorem sameInts_any (a b : Option Addr) (ca cb : Nat) (xs ys : List Int) (w : World) (hl : xs.length ≤ 140737488351232) (hm : ys.length ≤ 140737488351232) (ha : ISl w a xs) (hb : ISl w b ys) :
    Calls Try.prog 11 #[.slice a xs.length ca, .slice b ys.length cb] w fun e w' => e = .returned (.bool (decide (xs = ys))) ∧ Below w.heap.size w w' := by
  by_cases hlen : xs.length = ys.length
  · have HL : Hid _ := hlen
    have HA : Hid (ISl w a xs) := ha
    have HB : Hid (ISl w b ys) := hb
    have hne : ((xs.length : Int) != (ys.length : Int)) = false := by simp [hlen]
    obtain ⟨m, hm0⟩ : ∃ m, m = ys.length := ⟨_, rfl⟩
    rw [← hm0] at hm hne ⊢
    have HM : Hid _ := hm0
    clear hlen ha hb hm0
    go_enter Try.func11, Try.ntmps11
    go_wp2
    go_loopw [13] (fun i wr => ∃ k : Nat, k ≤ xs.length ∧ i = .int .i64 k ∧ (∀ j, j < k → xs.getD j 0 = ys.getD j 0) ∧ Below w.heap.size w wr) (fun i _ => xs.length - (intOf i).toNat)
    case atStart => exact ⟨0, Nat.zero_le _, rfl, fun j hj => by omega, Below.refl _ _⟩
    case round =>
      obtain ⟨k, hk, rfl, heq, hbel⟩ := hrel
      by_cases hlt : k < xs.length
      · obtain ⟨b1, o1, rfl, c1, l1⟩ := (HA.out.below hbel).at k hlt
        obtain ⟨b2, o2, rfl, c2, l2⟩ := (HB.out.below hbel).at k (by rw [← HL.out]; exact hlt)
        have hkm : k < m := by rw [HM.out, ← HL.out]; exact hlt
        obtain ⟨x, hx⟩ : ∃ x : Int, x = xs.getD k 0 := ⟨_, rfl⟩
        obtain ⟨y, hy⟩ : ∃ y : Int, y = ys.getD k 0 := ⟨_, rfl⟩
        rw [← hx] at c1
        rw [← hy] at c2
        have HX : Hid _ := hx
        have HY : Hid _ := hy
        have HE : Hid _ := heq
        clear hx hy heq
        by_cases hxy : x = y
        · have hq : (x != y) = false := by simpa using hxy
          have HXY : Hid _ := hxy
          clear hxy
          go_wp2
          go_quiet (fail)
          go_wp2
          go_roundw
          case rel =>
            refine ⟨k + 1, by omega, by go_num, fun j hj => ?_, below_drewN hbel _⟩
            by_cases e : j = k
            · subst e; rw [← HX.out, ← HY.out]; exact HXY.out
            · exact HE.out j (by omega)
          case measure => simp [intOf]; omega
        · have hq : (x != y) = true := by simpa using hxy
          go_wp2
          go_quiet (fail)
          go_wp2
          go_ret
          refine ⟨?_, below_drewN hbel _⟩
          have : xs ≠ ys := fun e => hxy (by rw [HX.out, HY.out, e])
          simp [this]
      · go_wp2
        go_ret
        refine ⟨?_, hbel⟩
        have : xs = ys := by
          apply List.ext_getElem HL.out
          intro i h1 h2
          have := heq i (by omega)
          simpa [List.getD, h1, h2] using this
        simp [this]
  · have hne : ((xs.length : Int) != (ys.length : Int)) = true := by simp; omega
    have hxy : xs ≠ ys := fun e => hlen (by rw [e])
    clear hlen ha hb
    go_enter Try.func11, Try.ntmps11
    go_wp2
    go_ret
    exact ⟨by simp [hxy], Below.refl _ _⟩
end Go.Proofs.Ytmlpekoombikaab
