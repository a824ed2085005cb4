/- The developers' home and the document's Build as tables; what the laws ask ahead. -/
import Derived.Test.YtpgeopefamomnacGreatBA
import Derived.Test.YtpgeopefamomnacGreatHC
set_option linter.unusedSimpArgs false
namespace Go.Proofs.YtpgeopefamomnacGreat
open Go.RowKit
set_option linter.unusedVariables false
set_option linter.unusedSimpArgs false
set_option maxRecDepth 100000

def hHearT (xs : List AV) (l0 : List (Nat × OS)) : Ans := match xs, l0 with
  | [.c (.d (.row es)), .c (.d (.int .i64 id)), .agg [.d (.int .i64 mk), .d (.int .i64 mf), .d (.int .i64 mt), .d (.int .i64 ml), .d (.int .i64 ms), .d (.int .i64 mu), .d (.int .i64 mv), .d (.bool ma)]], [] => some (∃ l, es = R entD l ∧ l.length ≤ 1000 ∧ (∀ e ∈ l, e.last.length ≤ 1000) ∧ (0 ≤ ml → ml < l.length → HomeOK (l.getD ml.toNat SEntry.zero)), .tup [Ro (R entD (homeHearF (homeR es) id ⟨mk, mf, mt, ml, ms, mu, mv, ma⟩).1), Ro (R msgD (homeHearF (homeR es) id ⟨mk, mf, mt, ml, ms, mu, mv, ma⟩).2)], [])
  | _, _ => none
theorem hHear_does : Does Tryz.prog 82 hHearT := ⟨⟨_, Tryz.func82, by decide, rfl⟩, fun xs l0 p v objs h hp => by
  unfold hHearT at h
  split at h
  · cases h
    obtain ⟨l, rfl, h1, h2, h3⟩ := hp
    rw [homeR_rows]
    exact chear_home l _ (Msg.mk _ _ _ _ _ _ _ _) h1 h2 h3
  · cases h⟩
def hTimerT (xs : List AV) (l0 : List (Nat × OS)) : Ans := match xs, l0 with
  | [.c (.d (.row es)), .c (.d (.int .i64 id))], [] => some (∃ l, es = R entD l ∧ l.length ≤ 1000 ∧ (∀ e ∈ l, e.last.length ≤ 1000) ∧ (∀ e ∈ l, (0 ≤ e.need ∧ e.need < 16) ∧ 0 ≤ e.phase ∧ e.phase ≤ 3), Ro (R msgD (homeTimerFrom id 0 (homeR es))), [])
  | _, _ => none
theorem hTimer_does : Does Tryz.prog 70 hTimerT := ⟨⟨_, Tryz.func70, by decide, rfl⟩, fun xs l0 p v objs h hp => by
  unfold hTimerT at h
  split at h
  · cases h
    obtain ⟨l, rfl, h1, h2, h3⟩ := hp
    rw [homeR_rows]
    exact htimer_ok l _ h1 h2 h3
  · cases h⟩
def hNewT (xs : List AV) (l0 : List (Nat × OS)) : Ans := match xs, l0 with
  | [.c (.d (.int .i64 n)), .c (.d (.int .i64 k))], [] => some ((0 ≤ n ∧ n ≤ 4) ∧ 1 ≤ k ∧ k ≤ 4, Ro (R entD (List.replicate k.toNat ⟨0, -1, 0, 0, 0, 0, false, 0, 0, List.replicate n.toNat 0⟩)), [])
  | _, _ => none
theorem hNew_does : Does Tryz.prog 20 hNewT := ⟨⟨_, Tryz.func20, by decide, rfl⟩, fun xs l0 p v objs h hp => by
  unfold hNewT at h
  split at h
  · cases h
    obtain ⟨h1, h2⟩ := hp
    obtain ⟨a, rfl⟩ := Int.eq_ofNat_of_zero_le h1.1
    obtain ⟨b, rfl⟩ := Int.eq_ofNat_of_zero_le (Int.le_trans (by decide) h2.1)
    exact hnew_ok a b (by omega) (by omega)
  · cases h⟩
def tabHome : Canon := orT 82 hHearT (orT 70 hTimerT (orT 20 hNewT (orT 35 ownHT tab0)))
theorem tabHome_ok : Sound Tryz.prog tabHome := (((tab0_ok.or ownH_does).or hNew_does).or hTimer_does).or hHear_does
theorem next_last0 (e : SEntry) : (nextF e).last = e.last := by
  unfold nextF
  split <;> rfl
theorem next_ok {e : SEntry} (h : HomeOK e) : HomeOK (nextF e) := by
  have h16 : 0 ≤ needF e ∧ needF e < 16 := by
    have h := nd_bd e 4
    rw [nd_4] at h
    have h2 : bitF 4 = 16 := rfl
    omega
  unfold nextF
  split
  · exact ⟨h.sh, ⟨by show (0 : Int) ≤ 0; omega, by show (0 : Int) < 16; omega⟩, h.ow, h.fo, h.la, h.tu⟩
  · exact ⟨h.sh, h16, h.ow, h.fo, h.la, h.tu⟩
theorem homeL_ok {e : SEntry} (h : HomeOK e) {p : Nat} (hp : p < 4) (line id : Int) (m : Msg) : HomeOK (homeL e line id p m).1 := by
  have hp0 : (0 : Int) ≤ (p : Int) ∧ (p : Int) < 4 := by omega
  have h1 : (-1 : Int) < 4 := by decide
  have ht : 0 ≤ e.turn + 1 := by have := h.tu; omega
  have hs : (e.last.set p m.serial).length ≤ 4 := by rw [List.length_set]; exact h.la
  have ha : ∀ b : Bool, 0 ≤ (if b = false ∧ hasF e.sharers p = false then e.sharers + bitF p else e.sharers) ∧ (if b = false ∧ hasF e.sharers p = false then e.sharers + bitF p else e.sharers) < 16 := by
    intro b
    split
    · rename_i k
      exact add_rng h.sh.1 h.sh.2 hp k.2
    · exact h.sh
  have hb : 0 ≤ (if hasF e.sharers p = false then e.sharers + bitF p else e.sharers) ∧ (if hasF e.sharers p = false then e.sharers + bitF p else e.sharers) < 16 := by
    split
    · rename_i k
      exact add_rng h.sh.1 h.sh.2 hp k
    · exact h.sh
  have hc : 0 ≤ (if hasF e.sharers p = true then e.sharers - bitF p else e.sharers) ∧ (if hasF e.sharers p = true then e.sharers - bitF p else e.sharers) < 16 := by
    split
    · rename_i k
      exact sub_rng h.sh.1 h.sh.2 hp k
    · exact h.sh
  unfold homeL
  split
  · split
    · exact h
    · exact next_ok ⟨h.sh, h.nd, h.ow, hp0, hs, ht⟩
  split
  · split
    · exact h
    · simp only []
      split
      · split
        · exact ⟨h.sh, h.nd, h1, h.fo, hs, h.tu⟩
        · exact ⟨h.sh, h.nd, h.ow, h.fo, hs, h.tu⟩
      · exact h
  split
  · split
    · exact h
    · exact next_ok (e := { e with sharers := if e.alone = false ∧ hasF e.sharers p = false then e.sharers + bitF p else e.sharers, value := m.value, owner := -1 }) ⟨ha e.alone, h.nd, h1, h.fo, h.la, h.tu⟩
  split
  · split
    · exact h
    · rename_i k
      have hn : hasF e.need p = true := by
        cases hh : hasF e.need p with
        | true => rfl
        | false => exact absurd (Or.inr (Or.inr hh)) k
      have hg : HomeOK { e with need := e.need - bitF p, sharers := if hasF e.sharers p = true then e.sharers - bitF p else e.sharers } := ⟨hc, sub_rng h.nd.1 h.nd.2 hp hn, h.ow, h.fo, h.la, h.tu⟩
      simp only []
      split
      · exact hg
      · exact next_ok hg
  split
  · split
    · exact h
    · simp only []
      split
      · exact ⟨⟨by show (0 : Int) ≤ 0; omega, by show (0 : Int) < 16; omega⟩, h.nd, h.fo.2, ⟨by show (0 : Int) ≤ 0; omega, by show (0 : Int) < 4; omega⟩, h.la, h.tu⟩
      · exact ⟨hb, h.nd, h.ow, ⟨by show (0 : Int) ≤ 0; omega, by show (0 : Int) < 4; omega⟩, h.la, h.tu⟩
  exact h
/-- A home with entries in range. -/
def Homes (l : List SEntry) : Prop := l.length ≤ 1000 ∧ ∀ e ∈ l, HomeOK e
theorem Homes.la {l : List SEntry} (h : Homes l) : ∀ e ∈ l, e.last.length ≤ 1000 := fun e he => Nat.le_trans (h.2 e he).la (by decide)
theorem Homes.at {l : List SEntry} (h : Homes l) (i : Int) (h0 : 0 ≤ i) (h1 : i < l.length) : HomeOK (l.getD i.toNat SEntry.zero) := by
  have hi : i.toNat < l.length := by omega
  exact h.2 _ (by simp [List.getD, hi])
theorem Homes.hear {l : List SEntry} (h : Homes l) (id : Int) (m : Msg) : Homes (homeHearF l id m).1 := by
  unfold homeHearF
  split
  · exact h
  · rename_i k
    have ok := h.at m.line (by omega) (by omega)
    have hp : m.frm.toNat < 4 := by
      have := ok.la
      omega
    refine ⟨by simpa using h.1, fun e he => ?_⟩
    rcases List.mem_or_eq_of_mem_set he with h2 | h2
    · exact h.2 e h2
    · rw [h2]
      exact homeL_ok ok hp _ _ _
theorem homes_xi {n L : Nat} {x : SChip} {V : Nat → Int} (X : XI n L x V) : Homes x.home := by
  have hh := X.nh
  have hl4 := X.l4
  refine ⟨by omega, fun e he => ?_⟩
  obtain ⟨j, hj, rfl⟩ := List.getElem_of_mem he
  have h := home_ok2 X (j := j) (by omega)
  have e1 : x.entry j = x.home[j] := by simp [SChip.entry, List.getD, hj]
  rw [e1] at h
  exact h
end Go.Proofs.YtpgeopefamomnacGreat
