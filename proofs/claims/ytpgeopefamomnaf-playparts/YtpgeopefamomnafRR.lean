/- DTabs DSaid DDo1 DDo6. -/
import Derived.Test.YtpgeopefamomnafRP
import Derived.Test.YtpgeopefamomnafRE
import Derived.Test.YtpgeopefamomnafPG
set_option linter.unusedSimpArgs false
set_option linter.unusedSectionVars false
namespace Go.Proofs.Ytpgeopefamomnaf
open Go.RowKit
set_option linter.unusedVariables false
set_option maxRecDepth 100000
def toI0 (u : List DV) (j : Nat) : Int := (u.getD j dz).toI
def lineOf (u : List DV) : SLine := ⟨toI0 u 0, toI0 u 1, toI0 u 2, toI0 u 3, toI0 u 4, toI0 u 5, toI0 u 6⟩
def linesR (es : Row) : List SLine := es.map lineOf
theorem linesR_rows (ls : List SLine) : linesR (rowsL ls) = ls := by
  unfold linesR rowsL
  rw [List.map_map]
  exact List.map_id'' (f := lineOf ∘ lineD) (fun _ => rfl) ls
def entOf (u : List DV) : SEntry := ⟨toI0 u 0, toI0 u 1, toI0 u 2, toI0 u 3, toI0 u 4, toI0 u 5, (u.getD 6 dz).toB, toI0 u 7, toI0 u 8, intsR (u.getD 9 dz).toR⟩
def homeR (es : Row) : List SEntry := es.map entOf
theorem homeR_rows (l : List SEntry) : homeR (R entD l) = l := by
  unfold homeR R
  rw [List.map_map]
  exact List.map_id'' (f := entOf ∘ entD) (fun e => by
    show (⟨e.value, e.owner, e.sharers, e.phase, e.forr, e.serial, e.alone, e.turn, e.need, intsR (rowsI e.last)⟩ : SEntry) = e
    rw [intsR_rows]) l
def msgOfD (u : List DV) : Msg := ⟨toI0 u 0, toI0 u 1, toI0 u 2, toI0 u 3, toI0 u 4, toI0 u 5, toI0 u 6, (u.getD 7 dz).toB⟩
def msgsR (es : Row) : List Msg := es.map msgOfD
theorem msgsR_rows (l : List Msg) : msgsR (R msgD l) = l := by
  unfold msgsR R
  rw [List.map_map]
  exact List.map_id'' (f := msgOfD ∘ msgD) (fun _ => rfl) l
def bytesR (es : Row) : List Nat := es.map fun u => (toI0 u 0).toNat
theorem bytesR_rows (b : List Nat) : bytesR (rowB b) = b := by
  unfold bytesR rowB R
  rw [List.map_map]
  exact List.map_id'' (fun _ => Int.toNat_natCast _) b
def framesR (es : Row) : List (List Nat) := es.map fun u => bytesR (u.getD 0 dz).toR
theorem framesR_rows (fs : List (List Nat)) : framesR (framesD fs) = fs := by
  unfold framesR framesD R
  rw [List.map_map]
  exact List.map_id'' (fun b => bytesR_rows b) fs

def beginT (xs : List AV) (l0 : List (Nat × OS)) : Ans := match xs, l0 with
  | [.agg [.d (.row es), .d (.int .i64 a), .d (.int .i64 b), .d (.int .i64 d)], .c (.d (.int .i64 id)), .c (.d (.int .i64 home)), .agg [.d (.int .i64 k), .d (.int .i64 l), .d (.int .i64 v)]], [] => some (∃ ls, es = rowsL ls ∧ ls.length < 1000 ∧ ∀ i, i < ls.length → 0 ≤ (ls.getD i SLine.zero).serial, beginV (beginF ⟨linesR es, ⟨a, b, d⟩⟩ id home ⟨k, l, v⟩), [])
  | _, _ => none
def hearVF (r : SCore × List Msg × List SDone) : AV := .tup [.agg (coreC (rowsL r.1.lines) r.1.wait), Ro (R msgD r.2.1), Ro (R dnD r.2.2)]
def timerT (xs : List AV) (l0 : List (Nat × OS)) : Ans := match xs, l0 with
  | [.agg [.d (.row es), .d (.int .i64 a), .d (.int .i64 b), .d (.int .i64 d)], .c (.d (.int .i64 id)), .c (.d (.int .i64 home))], [] => some (∃ ls, es = rowsL ls ∧ ls.length ≤ 1000000, Ro (R msgD (timerF ⟨linesR es, ⟨a, b, d⟩⟩ id home)), [])
  | _, _ => none
def takeF (fs : List (List Nat)) (n : Int) : List (List Nat) × List Nat × Int := if 0 ≤ n ∧ n < fs.length then (fs.eraseIdx n.toNat, fs.getD n.toNat [], 0) else ([], [], 5)
def parseT (xs : List AV) (l0 : List (Nat × OS)) : Ans := match xs, l0 with
  | [.agg [.d (.int .i64 n), .d (.int .i64 l)], .c (.d (.row es))], [] => some (∃ b, es = rowB b ∧ isBytes b, .tup [.agg (msgC (parseF ⟨n, l⟩ (bytesR es)).1), V (parseF ⟨n, l⟩ (bytesR es)).2], [])
  | _, _ => none
def turnedT (xs : List AV) (l0 : List (Nat × OS)) : Ans := match xs, l0 with
  | [.c (.d (.row es)), .c (.d (.int .i64 bit))], [] => some (∃ b, es = rowB b ∧ isBytes b ∧ b.length ≤ 1000 ∧ 0 ≤ bit ∧ bit < 100000, Ro (rowB (turnF (bytesR es) bit)), [])
  | _, _ => none
end Go.Proofs.Ytpgeopefamomnaf

namespace Go.Proofs.Ytpgeopefamomnaf
set_option maxRecDepth 100000
set_option linter.unusedVariables false
theorem fit_all {n L : Nat} {M : List Msg} (hn : n ≤ 4) (hL : L ≤ 4) (h : ∀ m ∈ M, wrongF ⟨n, L⟩ m = 0) : ∀ k, k < M.length → Fit (M.getD k msg0) := fun k hk => by
  have e : M.getD k msg0 ∈ M := by simp [List.getD, hk]
  exact fit_of_wrong (h _ e) (by simp only []; omega) (by simp only []; omega)
section
variable {n L : Nat} {x : SChip} {V : Nat → Int} (X : XI n L x V)
include X
theorem begin_said {p : Nat} (hp : p < n) {o : SOp} : ∀ m ∈ (beginF (x.core p) p n o).2.1, wrongF ⟨n, L⟩ m = 0 := by
  have hnl := X.nl p hp
  unfold beginF
  by_cases h1 : o.kind < 1 ∨ 4 < o.kind
  · rw [if_pos h1]; simp
  rw [if_neg h1]
  by_cases h2 : o.line < 0 ∨ ((x.core p).lines.length : Int) ≤ o.line ∨ o.value < 0 ∨ 255 < o.value
  · rw [if_pos h2]; simp
  rw [if_neg h2]
  by_cases h3 : (x.core p).wait.kind ≠ 0 ∨ 65535 ≤ ((x.core p).line o.line.toNat).serial
  · rw [if_pos h3]; simp
  rw [if_neg h3]
  obtain ⟨j, hj⟩ : ∃ j, j = o.line.toNat := ⟨_, rfl⟩
  rw [← hj] at h3 ⊢
  have hjL : j < L := by omega
  have hjl : j < (x.core p).lines.length := by omega
  have hla : (x.core p).line j = lineAt x j p := rfl
  have hw0 : (lineAt x j p).want = 0 := (X.wi p hp).none (by omega) j hjl
  have hk : 1 ≤ o.kind ∧ o.kind ≤ 4 := by omega
  have hr := begin_range (X.rl p j hp hjL) (o := o) (by omega) (by rw [← hla]; omega)
  rw [hla]
  by_cases hd : (beginL (lineAt x j p) o).2.1 = 0
  · rw [if_pos hd]; simp
  · rw [if_neg hd]
    have C := ci_wants X.n4 (X.ci j hjL) hp hw0 hk hd
    have B := begin_kind (l := lineAt x j p) hk hd
    have hupd : updL (lineAt x j) p (beginL (lineAt x j p) o).1 p = (beginL (lineAt x j p) o).1 := upd_at
    have wn := C.wn p hp
    have sr := C.sr p hp
    rw [hupd] at wn sr
    intro m hm
    simp only [List.mem_singleton] at hm
    subst hm
    exact asks_right hp hr (by omega) wn (by omega) (by omega)
omit X in
theorem begin_len {p : Nat} {o : SOp} : (beginF (x.core p) p n o).2.1.length ≤ 1 := by
  unfold beginF
  (repeat' split) <;> simp
theorem hear_said {p : Nat} (hp : p < n) {m : Msg} (hw : wrongF ⟨n, L⟩ m = 0) : ∀ y ∈ (hearF (x.core p) p n m).2.1, wrongF ⟨n, L⟩ y = 0 := by
  have hnl := X.nl p hp
  have ho := wrong_out hw
  simp only [] at ho
  unfold hearF
  rw [if_neg (by omega)]
  obtain ⟨j, hj⟩ : ∃ j, j = m.line.toNat := ⟨_, rfl⟩
  rw [← hj]
  have hjL : j < L := by omega
  have hla : (x.core p).line j = lineAt x j p := rfl
  rw [hla]
  have gs := (X.ci j hjL).gs p hp
  have re := X.re j hjL
  intro y hy
  simp only [Option.mem_toList, Option.map_eq_some_iff] at hy
  obtain ⟨s, hs, rfl⟩ := hy
  exact core_right (T := (x.entry j).turn) hp (X.rl p j hp hjL) (by have := re.t1; omega) (by omega) (by omega) hs
omit X in
theorem hear_len {p : Nat} {m : Msg} : (hearF (x.core p) p n m).2.1.length ≤ 1 := by
  unfold hearF
  split
  · simp
  · cases (hearL ((x.core p).line m.line.toNat) (x.core p).wait m).2.1 <;> simp
theorem home_said {p : Nat} (hp : p < n) {m : Msg} (hw : wrongF ⟨n, L⟩ m = 0) (hm : MI n (lineAt x m.line.toNat) (x.entry m.line.toNat) m) (hf : m.frm = p) : ∀ y ∈ (homeHearF x.home n m).2, wrongF ⟨n, L⟩ y = 0 := by
  have ho := wrong_out hw
  simp only [] at ho
  obtain ⟨j, hj⟩ : ∃ j, j = m.line.toNat := ⟨_, rfl⟩
  have hjL : j < L := by omega
  have he : x.home.getD m.line.toNat SEntry.zero = x.entry j := by rw [hj]; rfl
  have hlast := (X.ci j hjL).nlen
  unfold homeHearF
  rw [he]
  rw [← hj] at hm ⊢
  rw [if_neg (by have := X.nh; omega)]
  have hpn : m.frm.toNat = p := by omega
  rw [hpn]
  intro y hy
  exact (home_right (line := m.line) (L := L) X.n4 (X.ci j hjL) hm hp hf (X.re j hjL) (fun q hq => (X.rl q j hq hjL).s1) (by omega) (by omega) (by omega) y hy).2
theorem timer_said {p : Nat} (hp : p < n) : ∀ m ∈ timerF (x.core p) p n, wrongF ⟨n, L⟩ m = 0 := by
  intro m hm
  obtain ⟨j, h1, h2, h3⟩ := mem_timer hm
  have hjL : j < L := by have := X.nl p hp; omega
  have hla : (x.core p).lines.getD j SLine.zero = lineAt x j p := rfl
  rw [hla, Nat.zero_add] at h3
  rw [hla] at h2
  have C := X.ci j hjL
  have wn := C.wn p hp
  have sr := C.sr p hp
  subst h3
  exact asks_right hp (X.rl p j hp hjL) (by omega) wn h2 (by omega)
theorem says_said {j : Nat} (hj : j < L) : ∀ m ∈ saysF (x.entry j) j n, wrongF ⟨n, L⟩ m = 0 := fun m hm =>
  (says_right (line := (j : Int)) (L := (L : Int)) (X.ci j hj) (X.re j hj) (fun q hq => (X.rl q j hq hj).s1) (by omega) hm).2
theorem frame_bytes {b : List Nat} (hb : b ∈ x.frames) : isBytes b ∧ b.length = 12 := by
  obtain ⟨m, hw, h⟩ := X.good b hb
  have hf : Fit m := fit_of_wrong hw (by have := X.n4; have := X.nc; simp only [SChip.cfg]; omega) (by have := X.l4; have := X.nh; simp only [SChip.cfg]; omega)
  rcases h with rfl | ⟨bit, h0, h1, rfl⟩
  · exact ⟨bytesF_isBytes m hf, rfl⟩
  · exact ⟨turnF_isBytes _ _ (bytesF_isBytes m hf), by rw [turnF_length]; rfl⟩
theorem home_ok2 {j : Nat} (hj : j < L) : HomeOK (x.entry j) := by
  have I := X.ci j hj
  have := X.n4
  have ow := I.ow
  have fr := I.fr
  exact ⟨I.sh, I.nd, by omega, by omega, by rw [I.nlen]; exact X.n4, (X.re j hj).t0⟩
end
theorem timer_len (id home : Int) : ∀ (ls : List SLine) (i : Nat), (timerFrom id home i ls).length ≤ ls.length
  | [], _ => by simp [timerFrom]
  | l :: r, i => by
    unfold timerFrom
    have := timer_len id home r (i + 1)
    split <;> simp <;> omega
theorem says_len (e : SEntry) (line id : Int) : (saysF e line id).length ≤ 4 := by
  unfold saysF
  split
  · simp
  · split
    · rw [List.length_map]
      exact List.length_filter_le _ _
    · split <;> simp
theorem home_len (l : List SEntry) (id : Int) (m : Msg) : (homeHearF l id m).2.length ≤ 4 := by
  unfold homeHearF
  split
  · simp
  · simp only []
    unfold homeL
    (repeat' split) <;> first | exact says_len _ _ _ | (simp; done) | (simp only []; split <;> first | exact says_len _ _ _ | (simp; done))
end Go.Proofs.Ytpgeopefamomnaf

namespace Go.Proofs.Ytpgeopefamomnaf
open Go.RowKit
set_option linter.unusedVariables false
set_option maxRecDepth 100000
def stepC (s : SStep) : List CV := [I s.kind, I s.node, I s.n, I s.bit, I s.op.kind, I s.op.line, I s.op.value]
def doV (r : SChip × List SDone × Int) : AV := .tup [.agg (chipC r.1), Ro (R dnD r.2.1), V r.2.2]
def noC (e : Int) : AV := .tup [.agg [.d (.row []), .d (.row []), .d (.row [])], Ro [], V e]
section
variable (CR HR FR : Row) (nd sn sb ok ol ov : Int)
set_option maxHeartbeats 4000000
end
end Go.Proofs.Ytpgeopefamomnaf

namespace Go.Proofs.Ytpgeopefamomnaf
open Go.RowKit
set_option linter.unusedVariables false
set_option maxRecDepth 100000
section
variable (CR HR FR : Row) (nd sn sb ok ol ov : Int)
set_option maxHeartbeats 4000000
end
theorem htimer_snoc (id : Int) (e : SEntry) : ∀ (a : List SEntry) (i : Nat), homeTimerFrom id i (a ++ [e]) = homeTimerFrom id i a ++ saysF e ((i + a.length : Nat) : Int) id
  | [], i => by simp [homeTimerFrom]
  | b :: r, i => by
    rw [List.cons_append]
    unfold homeTimerFrom
    rw [htimer_snoc id e r (i + 1), List.append_assoc]
    simp only [List.length_cons]
    rw [show i + 1 + r.length = i + (r.length + 1) by omega]
end Go.Proofs.Ytpgeopefamomnaf

