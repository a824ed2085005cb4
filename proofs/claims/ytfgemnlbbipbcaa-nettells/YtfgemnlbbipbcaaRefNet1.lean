/- What shref1.Send and Take answer. -/
import Derived.Test.YtfgemnlbbipbcaaNetLaws
import Derived.Test.YtfgemnlbbipbcaaRefTurned
import Derived.Laws.AppendOwnNone
namespace Go.Proofs.Ytfgemnlbbipbcaa
open Go.RowKit
set_option linter.unusedVariables false
set_option linter.unusedSimpArgs false

theorem LS.src {w : World} {ad : Addr} {ls : List (List Nat)} (h : LS w (some ad) ls) : ∃ vs : List Value, vs.length = ls.length ∧ FVs w vs ls ∧ ∀ (j : Nat) u, vs[j]? = some u → w.cell? (ad.add j) = some u := by
  obtain ⟨vs, h1, h2⟩ := h
  refine ⟨vs, h2.1, h2, fun j u hu => ?_⟩
  obtain ⟨b, off, e, h3⟩ := h1 (by intro e; subst e; simp at hu)
  cases e
  have hplain : (⟨b, off, none⟩ : Addr).add j = ⟨b, off + j, none⟩ := by unfold Addr.add; split <;> simp_all
  rw [hplain]
  exact h3 j u hu
/-- Old frames in a row that the call owns. -/
theorem old_row {w w3 : World} {v : Value} {ls : List (List Nat)} {us : List Value} {n : Nat} (hus : FVs w us ls) (hn : n = ls.length) (h1 : w3.ownsRow w.heap.size 26 1 v n us) (hb : Below w.heap.size w w3) :
    ∃ a c, v = .slice a ls.length c ∧ ls.length ≤ c ∧ c ≤ maxLen ∧ LS w3 a ls := by
  subst hn
  exact LRow.sl (base := w.heap.size) ⟨us, h1, hus.below hb⟩
theorem empty_own (w : World) (base : Nat) (hb : base ≤ w.heap.size) : (w.alloc (.cells #[] 26)).ownsRow base 26 1 (.slice (some ⟨w.heap.size, 0, none⟩) 0 0) 0 [] :=
  World.ownsRow_made w #[] 0 hb (by decide) rfl
theorem alloc_src {w : World} {ad : Addr} {vs : List Value} (o : Obj) (h : ∀ (j : Nat) u, vs[j]? = some u → w.cell? (ad.add j) = some u) : ∀ (j : Nat) u, vs[j]? = some u → (w.alloc o).cell? (ad.add j) = some u := by
  intro j u hu
  have hc := h j u hu
  rw [((Below.refl w.heap.size w).alloc (Nat.le_refl _) o).cell (World.block_lt_of_cell? w _ hc)]
  exact hc
/-- The call's memory behind two appends. -/
theorem two_below {w w1 w2 : World} {o1 o2 : Obj} {v1 : Value} {n : Nat} {us : List Value} {g : Nat} (h1 : (w.alloc o1).grownBy w1 (some g)) (hg : w.heap.size ≤ g) (hown : w1.ownsRow w.heap.size 26 1 v1 n us) (h2 : (w1.alloc o2).grownBy w2 v1.ownBlock) :
    Below w.heap.size w w2 := by
  have b0 : Below w.heap.size w (w.alloc o1) := (Below.refl _ _).alloc (Nat.le_refl _) _
  have b1 : Below w.heap.size w w1 := b0.grown h1 b0.size fun k hk => by cases hk; exact hg
  have b2 : Below w.heap.size w (w1.alloc o2) := b1.alloc b1.size o2
  exact b2.grown h2 b2.size (own_base hown)

set_option maxHeartbeats 1000000 in
theorem rsend_full (a ab : Option Addr) (cap cb n m : Nat) (w : World) (h40 : 40 ≤ n) (hn : n ≤ 140737488351232) :
    Calls Try.prog 23 #[.slice a n cap, .slice ab m cb] w fun e w' => e = .returned (.slice a n cap) ∧ w = w' := by
  go_enter Try.func23, Try.ntmps23
  go_wp2
  go_ret
  exact ⟨rfl, rfl⟩
set_option maxHeartbeats 1000000 in
theorem rsend_some (ad : Addr) (ab : Option Addr) (cap cb : Nat) (ls : List (List Nat)) (xs : List Nat) (w : World) (h40 : ls.length < 40) (hxm : xs.length ≤ cb) (hcb : cb ≤ maxLen) (hxl : xs.length ≤ 140737488351232) (hs : LS w (some ad) ls) (hx : BSl w ab xs) :
    Calls Try.prog 23 #[.slice (some ad) ls.length cap, .slice ab xs.length cb] w fun e w' => ∃ a' c', e = .returned (.slice a' (ls.length + 1) c') ∧ LS w' a' (ls ++ [xs]) ∧ Below w.heap.size w w' := by
  obtain ⟨i0, hi, hz0, hz1, hz2⟩ := info_parts Try.infoSl
  obtain ⟨vs, hvl, hvs, hsrc⟩ := hs.src
  have hF : FVs w (vs ++ [.slice ab xs.length cb]) (ls ++ [xs]) := hvs.append (FVs.single ⟨ab, cb, rfl, hxm, hcb, hxl, hx⟩)
  have hone := hvs.one
  have HF : Hid (FVs w (vs ++ [.slice ab xs.length cb]) (ls ++ [xs])) := hF
  have HSRC : Hid _ := hsrc
  have HV : Hid _ := hvl
  have HO : Hid _ := hone
  clear hF hvs hs hx hsrc hvl hone
  go_enter Try.func23, Try.ntmps23
  go_wp2_with (first | (at_builtin; refine wpList_append_own _ rfl (.tmp 9) (.tmp 10) 38 rfl w.heap.size 26 i0 (.slice none 0 0) 1 24 Try.underlying38 hi hz0 hz1 hz2 rfl (by decide) _ 0 [] rfl (empty_own w w.heap.size (Nat.le_refl _)) ad ls.length cap vs rfl (by rw [HV.out, Nat.mul_one]) (alloc_src _ HSRC.out) HO.out (by unfold maxLen; omega) (by omega) (by simp) ?_; intro v1 w1 h1 h2 _; rw [Nat.zero_add, List.nil_append] at h1; have hs1 := h2.size) | (at_builtin; refine wpList_append_own _ rfl (.tmp 11) (.tmp 13) 38 rfl w.heap.size 26 i0 (.slice none 0 0) 1 24 Try.underlying38 hi hz0 hz1 hz2 rfl (by decide) _ _ vs rfl (h1.alloc _) ⟨w1.heap.size, 0, none⟩ 1 1 [.slice ab xs.length cb] rfl rfl (new_one _ _ _) (one_slice _ _ _) (by unfold maxLen; omega) (by omega) (by simp at hs1 ⊢; omega) ?_; intro v2 w2 h3 h4 _))
  have hb := two_below (n := ls.length) (us := vs) h2 (Nat.le_refl _) h1 h4
  obtain ⟨a', c', rfl, q1, q2, q3⟩ := old_row HF.out (by simp) h3 hb
  go_ret
  refine ⟨a', c', ?_, q3, hb⟩
  simp
set_option maxHeartbeats 1000000 in
theorem rsend_none (ab : Option Addr) (cb : Nat) (xs : List Nat) (w : World) (hxm : xs.length ≤ cb) (hcb : cb ≤ maxLen) (hxl : xs.length ≤ 140737488351232) (hx : BSl w ab xs) :
    Calls Try.prog 23 #[.slice none 0 0, .slice ab xs.length cb] w fun e w' => ∃ a' c', e = .returned (.slice a' 1 c') ∧ LS w' a' [xs] ∧ Below w.heap.size w w' := by
  obtain ⟨i0, hi, hz0, hz1, hz2⟩ := info_parts Try.infoSl
  have HF : Hid (FVs w [.slice ab xs.length cb] [xs]) := FVs.single ⟨ab, cb, rfl, hxm, hcb, hxl, hx⟩
  clear hx
  go_enter Try.func23, Try.ntmps23
  go_wp2_with (first | (at_builtin; refine wpList_append_own_none rfl (.tmp 9) (.tmp 10) 38 rfl w.heap.size 26 i0 1 Try.underlying38 hi _ 0 [] rfl (empty_own w w.heap.size (Nat.le_refl _)) rfl ?_) | (at_builtin; refine wpList_append_own _ rfl (.tmp 11) (.tmp 13) 38 rfl w.heap.size 26 i0 (.slice none 0 0) 1 24 Try.underlying38 hi hz0 hz1 hz2 rfl (by decide) _ 0 [] rfl ((empty_own w w.heap.size (Nat.le_refl _)).alloc _) ⟨w.heap.size + 1, 0, none⟩ 1 1 [.slice ab xs.length cb] rfl rfl (by intro j u hj; have := new_one (w.alloc (.cells #[] 26)) (.slice ab xs.length cb) 26 j u hj; simpa using this) (one_slice _ _ _) (by decide) (by decide) (by simp; omega) ?_; intro v2 w2 h3 h4 _))
  have hb : Below w.heap.size w w2 := by
    have b0 : Below w.heap.size w (w.alloc (.cells #[] 26)) := (Below.refl _ _).alloc (Nat.le_refl _) _
    exact (b0.alloc b0.size _).grown h4 (by simp; omega) fun k hk => by cases hk; exact Nat.le_refl _
  obtain ⟨a', c', rfl, q1, q2, q3⟩ := old_row HF.out rfl h3 hb
  go_ret
  exact ⟨a', c', rfl, q3, hb⟩
end Go.Proofs.Ytfgemnlbbipbcaa
