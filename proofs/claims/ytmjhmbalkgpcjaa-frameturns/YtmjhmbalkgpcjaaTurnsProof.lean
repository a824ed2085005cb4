/-
  Proved: whatever the config, the message and the bytes: a call of shlaw1.FrameTurns returns true (a message comes back from its frame; a frame that is read is its message's), and its arguments read behind it as before. No condition.
-/
import Derived.Test.YtmjhmbalkgpcjaaArgs
import Derived.Test.YtmjhmbalkgpcjaaTurns1
import Derived.Test.YtmjhmbalkgpcjaaTurns2
namespace Go.Proofs.Ytmjhmbalkgpcjaa
open Go.ChangeShapes Go.WideShapes Go.ChangeAt Go.RowKit
set_option linter.unusedVariables false

theorem turns_walk (c : Cfg) (m : Msg) (a : Option Addr) (cap : Nat) (xs : List Nat) (w : World) (hcap : xs.length ≤ cap) (hcm : cap ≤ maxLen) (hS : BSl w a xs) :
    Calls Try.prog 4 #[c.val, m.val, .slice a xs.length cap] w fun e w' => e = .returned (.bool true) ∧ Below w.heap.size w w' := by
  by_cases h : 1 ≤ c.cores ∧ c.cores ≤ 4 ∧ 1 ≤ c.lines ∧ c.lines ≤ 4
  · obtain ⟨h1, h2, h3, h4⟩ := h
    by_cases h5 : wrongF c m = 0
    · rcases parse_cases c xs hS.1 with ⟨h6, h7⟩ | ⟨h6, nX, h7, h8⟩
      · exact turns_good_no c m a cap xs w h1 h2 h3 h4 h5 hcap hcm hS h6 h7
      · exact turns_good_yes c m a cap xs w h1 h2 h3 h4 h5 hcap hcm hS h6 nX h7 h8
    · rcases parse_cases c xs hS.1 with ⟨h6, h7⟩ | ⟨h6, nX, h7, h8⟩
      · exact turns_bad_no c m a cap xs w h1 h2 h3 h4 h5 hcap hcm hS h6 h7
      · exact turns_bad_yes c m a cap xs w h1 h2 h3 h4 h5 hcap hcm hS h6 nX h7 h8
  · exact turns_not c m a xs.length cap w h

set_option maxRecDepth 100000 in
theorem turns_lifted (os : Os) (started : os.Started) (H : Type) (enc : TypeId × Value → H) :
    ReturnsInHanded {} Try.checked os 4 .any (Rows.frameTurnsSpec.pre6 enc Try.prog Try.f4 Rows.frameTurnsRow.domain false) (Rows.frameTurnsSpec.post enc Try.prog Try.f4 false true false false) := by
  refine returnsInHanded_of_change (C := Try.checked) own started (by kernel_rfl) Try.func4
    (ChangeSpec.witness6 (enc := enc) (C := Try.checked) false ⟨#[], #[.agg #[.int .i64 0, .int .i64 0], .agg #[.int .i64 0, .int .i64 0, .int .i64 0, .int .i64 0, .int .i64 0, .int .i64 0, .int .i64 0, .bool false], .slice none 0 0], []⟩ 8 (by kernel_rfl) (by kernel_rfl) (by kernel_rfl) (by kernel_rfl)) ?_
  intro W base args ds gs before hval0 hW hcnd _
  have hval : ∀ (j : Nat) t v, Try.f4.params[j]? = some t → args[j]? = some v → Value.okWide Try.prog W .any base t v := hval0
  have hW' := hW
  obtain ⟨p, q, hA0, hV, rfl, hfz, hnd⟩ := hW
  have hA : DataW.TrodAll enc Try.prog W 0 (fun _ => true) true Try.f4.params.toList args.toList ds p := hA0
  rw [Try.params4] at hA hval
  obtain ⟨v0, vs0, d0, ds0, p0, q0, hargs, rfl, rfl, h0, r0⟩ := trodAll_cons hA
  obtain ⟨v1, vs1, d1, ds1, p1, q1, rfl, rfl, rfl, h1, r1⟩ := trodAll_cons r0
  obtain ⟨v2, vs2, d2, ds2, p2, q2, rfl, rfl, rfl, h2, r2⟩ := trodAll_cons r1
  obtain ⟨rfl, rfl, rfl⟩ := trodAll_nil r2
  obtain rfl : args = #[v0, v1, v2] := by cases args; simp_all
  obtain ⟨rfl, rfl⟩ := trodVars_none hV
  have k0 := h0
  have k1 := h1
  have lt0 : ∀ x ∈ p0, x.block < W.heap.size := by obtain ⟨m, hm⟩ := k0; exact DataW.trod_lt m _ _ _ hm
  have lt1 : ∀ x ∈ p1, x.block < W.heap.size := by obtain ⟨m, hm⟩ := k1; exact DataW.trod_lt m _ _ _ hm
  have k2 := h2
  have lt2 : ∀ x ∈ p2, x.block < W.heap.size := by obtain ⟨m, hm⟩ := k2; exact DataW.trod_lt m _ _ _ hm
  obtain ⟨c, rfl⟩ := open_cfg (hval 0 23 v0 rfl rfl) h0
  obtain ⟨m, rfl⟩ := open_msg (hval 1 25 v1 rfl rfl) h1
  obtain ⟨a, cap, xs, rfl, hcap, hcm, hS⟩ := open_bytes (fun _ => rfl) (hval 2 26 v2 rfl rfl) h2
  clear hA0 hval0
  refine (turns_walk c m a cap xs W hcap hcm hS).mono fun e W' ⟨he, bel⟩ => ?_
  subst he
  exact ⟨_, rfl, _, _, _, [], _, [], hW', trodAll_mk1 (shut_bool Try.underlying4 _), (trodAll_cons_mk (Below.trod laidOut (by kernel_rfl) (of_decide_eq_true (by kernel_rfl)) k0 bel lt0) (trodAll_cons_mk (Below.trod laidOut (by kernel_rfl) (of_decide_eq_true (by kernel_rfl)) k1 bel lt1) (trodAll_cons_mk (Below.trod laidOut (by kernel_rfl) (of_decide_eq_true (by kernel_rfl)) k2 bel lt2) trodAll_mk0))), rfl, bel.frame _, fun h => by cases h⟩

theorem turns_over : Rows.frameTurnsRow.holds Try.pinned (OpenSpec.ofChange Rows.frameTurnsSpec) :=
  OpenClaim.holds_of_wide 4 Try.f4 rfl rfl rfl rfl rfl rfl rfl ⟨rfl, rfl, rfl, rfl, rfl⟩ rfl rfl rfl rfl rfl (by kernel_rfl) Try.func4 (by kernel_rfl)
    (of_decide_eq_true (by kernel_rfl)) (by unfold Func.isWrapper; first | (rw [if_pos (by decide +kernel)]; kernel_rfl) | (rw [if_neg (by decide +kernel)]; exact ⟨rfl, rfl⟩))
    (fun os started H enc _ => turns_lifted os started H enc)

theorem frameTurns_holds : Rows.FrameTurnsSaid := turns_over
#print axioms frameTurns_holds
end Go.Proofs.Ytmjhmbalkgpcjaa
