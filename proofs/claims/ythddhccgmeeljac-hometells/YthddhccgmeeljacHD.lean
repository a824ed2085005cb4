/- The developers' home and the document's Build as tables; what the laws ask ahead. -/
import Derived.Test.YthddhccgmeeljacRU
import Derived.Test.YthddhccgmeeljacHC
set_option linter.unusedSimpArgs false
namespace Go.Proofs.Ythddhccgmeeljac
open Go.RowKit
set_option linter.unusedVariables false
set_option linter.unusedSimpArgs false
set_option maxRecDepth 100000

def stepOf (u : List DV) : SStep := ⟨toI0 u 0, toI0 u 1, toI0 u 2, toI0 u 3, ⟨toI0 u 4, toI0 u 5, toI0 u 6⟩⟩
def stepsR (es : Row) : List SStep := es.map stepOf
theorem stepsR_rows (l : List SStep) : stepsR (R stepD l) = l := by
  unfold stepsR R
  rw [List.map_map]
  exact List.map_id'' (f := stepOf ∘ stepD) (fun _ => rfl) l
theorem rbuild_any (c : Cfg) (l : List SStep) : FunOK Try.prog 6 [.agg (cfgC c), Ro (R stepD l)] (hOf []) (.tup [.agg (chipC (buildF c l).1), Ro (R dnD (buildF c l).2)]) (hOf []) := by
  by_cases hc : (newF c).2 = 0
  · exact rbuild_ok c l hc
  · exact rbuild_no c l hc
def buildT (xs : List AV) (l0 : List (Nat × OS)) : Ans := match xs, l0 with
  | [.agg [.d (.int .i64 a), .d (.int .i64 b)], .c (.d (.row es))], [] => some (∃ l, es = R stepD l, .tup [.agg (chipC (buildF ⟨a, b⟩ (stepsR es)).1), Ro (R dnD (buildF ⟨a, b⟩ (stepsR es)).2)], [])
  | _, _ => none
theorem build_does : Does Try.prog 6 buildT := ⟨⟨_, Try.func6, by decide, rfl⟩, fun xs l0 p v objs h hp => by
  unfold buildT at h
  split at h
  · cases h
    obtain ⟨l, rfl⟩ := hp
    rw [stepsR_rows]
    exact rbuild_any (Cfg.mk _ _) l
  · cases h⟩
def hHearT (xs : List AV) (l0 : List (Nat × OS)) : Ans := match xs, l0 with
  | [.c (.d (.row es)), .c (.d (.int .i64 id)), .agg [.d (.int .i64 mk), .d (.int .i64 mf), .d (.int .i64 mt), .d (.int .i64 ml), .d (.int .i64 ms), .d (.int .i64 mu), .d (.int .i64 mv), .d (.bool ma)]], [] => some (∃ l, es = R entD l ∧ l.length ≤ 1000 ∧ (∀ e ∈ l, e.last.length ≤ 1000) ∧ (0 ≤ ml → ml < l.length → HomeOK (l.getD ml.toNat SEntry.zero)), .tup [Ro (R entD (homeHearF (homeR es) id ⟨mk, mf, mt, ml, ms, mu, mv, ma⟩).1), Ro (R msgD (homeHearF (homeR es) id ⟨mk, mf, mt, ml, ms, mu, mv, ma⟩).2)], [])
  | _, _ => none
theorem hHear_does : Does Try.prog 7 hHearT := ⟨⟨_, Try.func7, by decide, rfl⟩, fun xs l0 p v objs h hp => by
  unfold hHearT at h
  split at h
  · cases h
    obtain ⟨l, rfl, h1, h2, h3⟩ := hp
    rw [homeR_rows]
    exact chear_home l _ (Msg.mk _ _ _ _ _ _ _ _) h1 h2 h3
  · cases h⟩
def hTimerT (xs : List AV) (l0 : List (Nat × OS)) : Ans := match xs, l0 with
  | [.c (.d (.row es)), .c (.d (.int .i64 id))], [] => some (∃ l, es = R entD l ∧ l.length ≤ 1000 ∧ (∀ e ∈ l, e.last.length ≤ 1000) ∧ (∀ e ∈ l, (0 ≤ e.need ∧ e.need < 16) ∧ 0 ≤ e.phase ∧ e.phase ≤ 3), Ro (R msgD (homeTimerFrom id 0 (homeR es))), [])
  | _, _ => none
theorem hTimer_does : Does Try.prog 14 hTimerT := ⟨⟨_, Try.func14, by decide, rfl⟩, fun xs l0 p v objs h hp => by
  unfold hTimerT at h
  split at h
  · cases h
    obtain ⟨l, rfl, h1, h2, h3⟩ := hp
    rw [homeR_rows]
    exact htimer_ok l _ h1 h2 h3
  · cases h⟩
def hNewT (xs : List AV) (l0 : List (Nat × OS)) : Ans := match xs, l0 with
  | [.c (.d (.int .i64 n)), .c (.d (.int .i64 k))], [] => some ((0 ≤ n ∧ n ≤ 4) ∧ 1 ≤ k ∧ k ≤ 4, Ro (R entD (List.replicate k.toNat ⟨0, -1, 0, 0, 0, 0, false, 0, 0, List.replicate n.toNat 0⟩)), [])
  | _, _ => none
theorem hNew_does : Does Try.prog 15 hNewT := ⟨⟨_, Try.func15, by decide, rfl⟩, fun xs l0 p v objs h hp => by
  unfold hNewT at h
  split at h
  · cases h
    obtain ⟨h1, h2⟩ := hp
    obtain ⟨a, rfl⟩ := Int.eq_ofNat_of_zero_le h1.1
    obtain ⟨b, rfl⟩ := Int.eq_ofNat_of_zero_le (Int.le_trans (by decide) h2.1)
    exact hnew_ok a b (by omega) (by omega)
  · cases h⟩
def tabHome : Canon := orT 7 hHearT (orT 14 hTimerT (orT 15 hNewT (orT 11 ownHT tab0)))
theorem tabHome_ok : Sound Try.prog tabHome := (((tab0_ok.or ownH_does).or hNew_does).or hTimer_does).or hHear_does
set_option maxHeartbeats 4000000 in
theorem alive5_ok : FunOK Try.prog 16 [] (hOf []) (Vb true) (hOf []) := by
  refine fun_deep (pins := []) (l0 := []) (objs := []) (base := 0) (xx_ok tabHome_ok [7, 14, 15, 11]) mixed Try.func16 rfl (Nat.le_of_ble_eq_true rfl) rfl rfl ?_
  repeat' ((conv => whnf); first | exact trivial | (with_reducible refine ap_of ?_; kernel_rfl) | (with_reducible refine ds_of ?_; kernel_rfl) | (with_reducible refine eq_of ?_; kernel_rfl) | exact rfl | (intro h; exact absurd h (by decide)) | intro _ | apply And.intro)
  all_goals first
    | rfl
    | decide +kernel
    | (refine ⟨_, rfl, ?_, ?_, fun _ _ => ⟨?_, ?_, ?_, ?_, ?_, ?_⟩⟩ <;> decide +kernel)
    | (refine ⟨_, rfl, ?_, ?_, ?_⟩ <;> decide +kernel)
    | (refine ⟨_, rfl, ?_, ?_⟩ <;> decide +kernel)
    | exact R_one (f := entD) (fun _ => rfl) _ _ (by assumption)
    | trace_state
def alive5T (xs : List AV) (l0 : List (Nat × OS)) : Ans := match xs, l0 with
  | [], [] => some (True, Vb true, [])
  | _, _ => none
theorem alive5_does : Does Try.prog 16 alive5T := ⟨⟨_, Try.func16, by decide, rfl⟩, fun xs l0 p v objs h hp => by
  unfold alive5T at h
  split at h
  · cases h
    exact alive5_ok
  · cases h⟩
def tabL5 : Canon := orT 16 alive5T (orT 6 buildT (orT 9 sameHT tabHome))
theorem tabL5_ok : Sound Try.prog tabL5 := ((tabHome_ok.or sameH_does).or build_does).or alive5_does
def ksL5 : List FuncId := [16, 6, 9, 7, 14, 15, 11]
/-- What a chip is that is built. -/
theorem built (c : Cfg) (l : List SStep) : (∃ (n L : Nat) (V : Nat → Int), c.cores = n ∧ c.lines = L ∧ XI n L (buildF c l).1 V) ∨ (buildF c l).1.cores = [] := by
  by_cases h : (newF c).2 = 0
  · obtain ⟨n, L, V, h1, h2, X, _⟩ := xi_build (l := l) h
    exact .inl ⟨n, L, V, h1, h2, X⟩
  · right
    have hb : buildF c l = ((newF c).1, []) := if_neg h
    rw [hb]
    unfold newF at h ⊢
    by_cases k : c.cores < 1 ∨ 4 < c.cores ∨ c.lines < 1 ∨ 4 < c.lines
    · rw [if_pos k]; rfl
    · rw [if_neg k] at h; exact absurd rfl h
theorem next_last0 (e : SEntry) : (nextF e).last = e.last := by
  unfold nextF
  split <;> rfl
theorem next_ok {e : SEntry} (h : HomeOK e) : HomeOK (nextF e) := by
  have h16 : 0 ≤ needF e ∧ needF e < 16 := by
    have h := nd_bd e 4
    rw [nd_4] at h
    have h2 : bitF 4 = 16 := rfl
    omega
  unfold nextF
  split
  · exact ⟨h.sh, ⟨by show (0 : Int) ≤ 0; omega, by show (0 : Int) < 16; omega⟩, h.ow, h.fo, h.la, h.tu⟩
  · exact ⟨h.sh, h16, h.ow, h.fo, h.la, h.tu⟩
theorem homeL_ok {e : SEntry} (h : HomeOK e) {p : Nat} (hp : p < 4) (line id : Int) (m : Msg) : HomeOK (homeL e line id p m).1 := by
  have hp0 : (0 : Int) ≤ (p : Int) ∧ (p : Int) < 4 := by omega
  have h1 : (-1 : Int) < 4 := by decide
  have ht : 0 ≤ e.turn + 1 := by have := h.tu; omega
  have hs : (e.last.set p m.serial).length ≤ 4 := by rw [List.length_set]; exact h.la
  have ha : ∀ b : Bool, 0 ≤ (if b = false ∧ hasF e.sharers p = false then e.sharers + bitF p else e.sharers) ∧ (if b = false ∧ hasF e.sharers p = false then e.sharers + bitF p else e.sharers) < 16 := by
    intro b
    split
    · rename_i k
      exact add_rng h.sh.1 h.sh.2 hp k.2
    · exact h.sh
  have hb : 0 ≤ (if hasF e.sharers p = false then e.sharers + bitF p else e.sharers) ∧ (if hasF e.sharers p = false then e.sharers + bitF p else e.sharers) < 16 := by
    split
    · rename_i k
      exact add_rng h.sh.1 h.sh.2 hp k
    · exact h.sh
  have hc : 0 ≤ (if hasF e.sharers p = true then e.sharers - bitF p else e.sharers) ∧ (if hasF e.sharers p = true then e.sharers - bitF p else e.sharers) < 16 := by
    split
    · rename_i k
      exact sub_rng h.sh.1 h.sh.2 hp k
    · exact h.sh
  unfold homeL
  split
  · split
    · exact h
    · exact next_ok ⟨h.sh, h.nd, h.ow, hp0, hs, ht⟩
  split
  · split
    · exact h
    · simp only []
      split
      · split
        · exact ⟨h.sh, h.nd, h1, h.fo, hs, h.tu⟩
        · exact ⟨h.sh, h.nd, h.ow, h.fo, hs, h.tu⟩
      · exact h
  split
  · split
    · exact h
    · exact next_ok (e := { e with sharers := if e.alone = false ∧ hasF e.sharers p = false then e.sharers + bitF p else e.sharers, value := m.value, owner := -1 }) ⟨ha e.alone, h.nd, h1, h.fo, h.la, h.tu⟩
  split
  · split
    · exact h
    · rename_i k
      have hn : hasF e.need p = true := by
        cases hh : hasF e.need p with
        | true => rfl
        | false => exact absurd (Or.inr (Or.inr hh)) k
      have hg : HomeOK { e with need := e.need - bitF p, sharers := if hasF e.sharers p = true then e.sharers - bitF p else e.sharers } := ⟨hc, sub_rng h.nd.1 h.nd.2 hp hn, h.ow, h.fo, h.la, h.tu⟩
      simp only []
      split
      · exact hg
      · exact next_ok hg
  split
  · split
    · exact h
    · simp only []
      split
      · exact ⟨⟨by show (0 : Int) ≤ 0; omega, by show (0 : Int) < 16; omega⟩, h.nd, h.fo.2, ⟨by show (0 : Int) ≤ 0; omega, by show (0 : Int) < 4; omega⟩, h.la, h.tu⟩
      · exact ⟨hb, h.nd, h.ow, ⟨by show (0 : Int) ≤ 0; omega, by show (0 : Int) < 4; omega⟩, h.la, h.tu⟩
  exact h
/-- A home with entries in range. -/
def Homes (l : List SEntry) : Prop := l.length ≤ 1000 ∧ ∀ e ∈ l, HomeOK e
theorem Homes.la {l : List SEntry} (h : Homes l) : ∀ e ∈ l, e.last.length ≤ 1000 := fun e he => Nat.le_trans (h.2 e he).la (by decide)
theorem Homes.at {l : List SEntry} (h : Homes l) (i : Int) (h0 : 0 ≤ i) (h1 : i < l.length) : HomeOK (l.getD i.toNat SEntry.zero) := by
  have hi : i.toNat < l.length := by omega
  exact h.2 _ (by simp [List.getD, hi])
theorem Homes.hear {l : List SEntry} (h : Homes l) (id : Int) (m : Msg) : Homes (homeHearF l id m).1 := by
  unfold homeHearF
  split
  · exact h
  · rename_i k
    have ok := h.at m.line (by omega) (by omega)
    have hp : m.frm.toNat < 4 := by
      have := ok.la
      omega
    refine ⟨by simpa using h.1, fun e he => ?_⟩
    rcases List.mem_or_eq_of_mem_set he with h2 | h2
    · exact h.2 e h2
    · rw [h2]
      exact homeL_ok ok hp _ _ _
theorem homes_xi {n L : Nat} {x : SChip} {V : Nat → Int} (X : XI n L x V) : Homes x.home := by
  have hh := X.nh
  have hl4 := X.l4
  refine ⟨by omega, fun e he => ?_⟩
  obtain ⟨j, hj, rfl⟩ := List.getElem_of_mem he
  have h := home_ok2 X (j := j) (by omega)
  have e1 : x.entry j = x.home[j] := by simp [SChip.entry, List.getD, hj]
  rw [e1] at h
  exact h
end Go.Proofs.Ythddhccgmeeljac
