/- The document's Build as a table, its comparing of messages and of what is done; what a chip is that is built. -/
import Derived.Test.YtpgeopefamomnacGreatRU
import Derived.Test.YtpgeopefamomnacGreatPH
set_option linter.unusedSimpArgs false
namespace Go.Proofs.YtpgeopefamomnacGreat
open Go.RowKit
set_option linter.unusedVariables false
set_option linter.unusedSimpArgs false
set_option maxRecDepth 100000

def stepOf (u : List DV) : SStep := ⟨toI0 u 0, toI0 u 1, toI0 u 2, toI0 u 3, ⟨toI0 u 4, toI0 u 5, toI0 u 6⟩⟩
def stepsR (es : Row) : List SStep := es.map stepOf
theorem stepsR_rows (l : List SStep) : stepsR (R stepD l) = l := by
  unfold stepsR R
  rw [List.map_map]
  exact List.map_id'' (f := stepOf ∘ stepD) (fun _ => rfl) l
theorem rbuild_any (c : Cfg) (l : List SStep) : FunOK Tryz.prog 6 [.agg (cfgC c), Ro (R stepD l)] (hOf []) (.tup [.agg (chipC (buildF c l).1), Ro (R dnD (buildF c l).2)]) (hOf []) := by
  by_cases hc : (newF c).2 = 0
  · exact rbuild_ok c l hc
  · exact rbuild_no c l hc
def buildT (xs : List AV) (l0 : List (Nat × OS)) : Ans := match xs, l0 with
  | [.agg [.d (.int .i64 a), .d (.int .i64 b)], .c (.d (.row es))], [] => some (∃ l, es = R stepD l, .tup [.agg (chipC (buildF ⟨a, b⟩ (stepsR es)).1), Ro (R dnD (buildF ⟨a, b⟩ (stepsR es)).2)], [])
  | _, _ => none
theorem build_does : Does Tryz.prog 6 buildT := ⟨⟨_, Tryz.func6, by decide, rfl⟩, fun xs l0 p v objs h hp => by
  unfold buildT at h
  split at h
  · cases h
    obtain ⟨l, rfl⟩ := hp
    rw [stepsR_rows]
    exact rbuild_any (Cfg.mk _ _) l
  · cases h⟩
/-- What a chip is that is built. -/
theorem built (c : Cfg) (l : List SStep) : (∃ (n L : Nat) (V : Nat → Int), c.cores = n ∧ c.lines = L ∧ XI n L (buildF c l).1 V) ∨ (buildF c l).1.cores = [] := by
  by_cases h : (newF c).2 = 0
  · obtain ⟨n, L, V, h1, h2, X, _⟩ := xi_build (l := l) h
    exact .inl ⟨n, L, V, h1, h2, X⟩
  · right
    have hb : buildF c l = ((newF c).1, []) := if_neg h
    rw [hb]
    unfold newF at h ⊢
    by_cases k : c.cores < 1 ∨ 4 < c.cores ∨ c.lines < 1 ∨ 4 < c.lines
    · rw [if_pos k]; rfl
    · rw [if_neg k] at h; exact absurd rfl h
end Go.Proofs.YtpgeopefamomnacGreat
