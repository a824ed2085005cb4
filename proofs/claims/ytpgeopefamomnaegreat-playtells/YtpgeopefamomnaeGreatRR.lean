/- DTabs DSaid DDo1 DDo6. -/
import Derived.Test.YtpgeopefamomnaeGreatRP
import Derived.Test.YtpgeopefamomnaeGreatRE
import Derived.Test.YtpgeopefamomnaeGreatPG
set_option linter.unusedSimpArgs false
set_option linter.unusedSectionVars false
namespace Go.Proofs.YtpgeopefamomnaeGreat
open Go.RowKit
set_option linter.unusedVariables false
set_option maxRecDepth 100000
def toI0 (u : List DV) (j : Nat) : Int := (u.getD j dz).toI
def lineOf (u : List DV) : SLine := ⟨toI0 u 0, toI0 u 1, toI0 u 2, toI0 u 3, toI0 u 4, toI0 u 5, toI0 u 6⟩
def linesR (es : Row) : List SLine := es.map lineOf
theorem linesR_rows (ls : List SLine) : linesR (rowsL ls) = ls := by
  unfold linesR rowsL
  rw [List.map_map]
  exact List.map_id'' (f := lineOf ∘ lineD) (fun _ => rfl) ls
def entOf (u : List DV) : SEntry := ⟨toI0 u 0, toI0 u 1, toI0 u 2, toI0 u 3, toI0 u 4, toI0 u 5, (u.getD 6 dz).toB, toI0 u 7, toI0 u 8, intsR (u.getD 9 dz).toR⟩
def homeR (es : Row) : List SEntry := es.map entOf
theorem homeR_rows (l : List SEntry) : homeR (R entD l) = l := by
  unfold homeR R
  rw [List.map_map]
  exact List.map_id'' (f := entOf ∘ entD) (fun e => by
    show (⟨e.value, e.owner, e.sharers, e.phase, e.forr, e.serial, e.alone, e.turn, e.need, intsR (rowsI e.last)⟩ : SEntry) = e
    rw [intsR_rows]) l
def msgOfD (u : List DV) : Msg := ⟨toI0 u 0, toI0 u 1, toI0 u 2, toI0 u 3, toI0 u 4, toI0 u 5, toI0 u 6, (u.getD 7 dz).toB⟩
def msgsR (es : Row) : List Msg := es.map msgOfD
theorem msgsR_rows (l : List Msg) : msgsR (R msgD l) = l := by
  unfold msgsR R
  rw [List.map_map]
  exact List.map_id'' (f := msgOfD ∘ msgD) (fun _ => rfl) l
def bytesR (es : Row) : List Nat := es.map fun u => (toI0 u 0).toNat
theorem bytesR_rows (b : List Nat) : bytesR (rowB b) = b := by
  unfold bytesR rowB R
  rw [List.map_map]
  exact List.map_id'' (fun _ => Int.toNat_natCast _) b
def framesR (es : Row) : List (List Nat) := es.map fun u => bytesR (u.getD 0 dz).toR
theorem framesR_rows (fs : List (List Nat)) : framesR (framesD fs) = fs := by
  unfold framesR framesD R
  rw [List.map_map]
  exact List.map_id'' (fun b => bytesR_rows b) fs

def beginT (xs : List AV) (l0 : List (Nat × OS)) : Ans := match xs, l0 with
  | [.agg [.d (.row es), .d (.int .i64 a), .d (.int .i64 b), .d (.int .i64 d)], .c (.d (.int .i64 id)), .c (.d (.int .i64 home)), .agg [.d (.int .i64 k), .d (.int .i64 l), .d (.int .i64 v)]], [] => some (∃ ls, es = rowsL ls ∧ ls.length < 1000 ∧ ∀ i, i < ls.length → 0 ≤ (ls.getD i SLine.zero).serial, beginV (beginF ⟨linesR es, ⟨a, b, d⟩⟩ id home ⟨k, l, v⟩), [])
  | _, _ => none
theorem begin_does : Does Tryz.prog 35 beginT := ⟨⟨_, Tryz.func35, by decide, rfl⟩, fun xs l0 p v objs h hp => by
  unfold beginT at h
  split at h
  · cases h
    obtain ⟨ls, rfl, h1, h2⟩ := hp
    rw [linesR_rows]
    exact rbegin_any ⟨ls, ⟨_, _, _⟩⟩ _ _ (SOp.mk _ _ _) h1 h2
  · cases h⟩
def hearVF (r : SCore × List Msg × List SDone) : AV := .tup [.agg (coreC (rowsL r.1.lines) r.1.wait), Ro (R msgD r.2.1), Ro (R dnD r.2.2)]
theorem rhear_core (c : SCore) (id home : Int) (m : Msg) (hL : c.lines.length < 1000) (h5 : 0 ≤ m.line) (h6 : m.line < c.lines.length) (hwt : (c.line m.line.toNat).want ≠ 0 → (1 ≤ c.wait.kind ∧ c.wait.kind ≤ 4) ∧ (0 ≤ c.wait.line ∧ c.wait.line < 1000) ∧ 0 ≤ c.wait.value ∧ c.wait.value ≤ 255) : FunOK Tryz.prog 45 [.agg (coreC (rowsL c.lines) c.wait), V id, V home, .agg (msgC m)] (hOf []) (hearVF (hearF c id home m)) (hOf []) := by
  have hlen : (rowsL c.lines).length = c.lines.length := rowsL_len _
  have h := rhear_in (rowsL c.lines) (rowsL_one _) (by rw [hlen]; exact hL) (c.line m.line.toNat) c.wait m id home h5 (by rw [hlen]; exact h6) (rowsL_get (by omega)) hwt _ rfl
  unfold hearF
  rw [if_neg (by omega)]
  unfold hearV at h
  rw [rowsL_set] at h
  exact h
def hearT (xs : List AV) (l0 : List (Nat × OS)) : Ans := match xs, l0 with
  | [.agg [.d (.row es), .d (.int .i64 a), .d (.int .i64 b), .d (.int .i64 d)], .c (.d (.int .i64 id)), .c (.d (.int .i64 home)), .agg [.d (.int .i64 mk), .d (.int .i64 mf), .d (.int .i64 mt), .d (.int .i64 ml), .d (.int .i64 ms), .d (.int .i64 mu), .d (.int .i64 mv), .d (.bool ma)]], [] => some (∃ ls, es = rowsL ls ∧ ls.length < 1000 ∧ 0 ≤ ml ∧ ml < ls.length ∧ ((ls.getD ml.toNat SLine.zero).want ≠ 0 → (1 ≤ a ∧ a ≤ 4) ∧ (0 ≤ b ∧ b < 1000) ∧ 0 ≤ d ∧ d ≤ 255), hearVF (hearF ⟨linesR es, ⟨a, b, d⟩⟩ id home ⟨mk, mf, mt, ml, ms, mu, mv, ma⟩), [])
  | _, _ => none
theorem hear_does : Does Tryz.prog 45 hearT := ⟨⟨_, Tryz.func45, by decide, rfl⟩, fun xs l0 p v objs h hp => by
  unfold hearT at h
  split at h
  · cases h
    obtain ⟨ls, rfl, h1, h2, h3, h4⟩ := hp
    rw [linesR_rows]
    exact rhear_core ⟨ls, ⟨_, _, _⟩⟩ _ _ (Msg.mk _ _ _ _ _ _ _ _) h1 h2 h3 h4
  · cases h⟩
def homeT (xs : List AV) (l0 : List (Nat × OS)) : Ans := match xs, l0 with
  | [.c (.d (.row es)), .c (.d (.int .i64 id)), .agg [.d (.int .i64 mk), .d (.int .i64 mf), .d (.int .i64 mt), .d (.int .i64 ml), .d (.int .i64 ms), .d (.int .i64 mu), .d (.int .i64 mv), .d (.bool ma)]], [] => some (∃ l, es = R entD l ∧ l.length ≤ 1000 ∧ 0 ≤ ml ∧ ml < l.length ∧ 0 ≤ mf ∧ mf < (l.getD ml.toNat SEntry.zero).last.length ∧ HomeOK (l.getD ml.toNat SEntry.zero), .tup [Ro (R entD (homeHearF (homeR es) id ⟨mk, mf, mt, ml, ms, mu, mv, ma⟩).1), Ro (R msgD (homeHearF (homeR es) id ⟨mk, mf, mt, ml, ms, mu, mv, ma⟩).2)], [])
  | _, _ => none
theorem home_does : Does Tryz.prog 44 homeT := ⟨⟨_, Tryz.func44, by decide, rfl⟩, fun xs l0 p v objs h hp => by
  unfold homeT at h
  split at h
  · cases h
    obtain ⟨l, rfl, h1, h2, h3, h4, h5, h6⟩ := hp
    rw [homeR_rows]
    exact rhomeHear_in l _ (Msg.mk _ _ _ _ _ _ _ _) h1 h2 h3 h4 h5 h6
  · cases h⟩
def timerT (xs : List AV) (l0 : List (Nat × OS)) : Ans := match xs, l0 with
  | [.agg [.d (.row es), .d (.int .i64 a), .d (.int .i64 b), .d (.int .i64 d)], .c (.d (.int .i64 id)), .c (.d (.int .i64 home))], [] => some (∃ ls, es = rowsL ls ∧ ls.length ≤ 1000000, Ro (R msgD (timerF ⟨linesR es, ⟨a, b, d⟩⟩ id home)), [])
  | _, _ => none
theorem timer_does : Does Tryz.prog 38 timerT := ⟨⟨_, Tryz.func38, by decide, rfl⟩, fun xs l0 p v objs h hp => by
  unfold timerT at h
  split at h
  · cases h
    obtain ⟨ls, rfl, h1⟩ := hp
    rw [linesR_rows]
    rename_i a b d id home
    have h2 := rtimer_ok ls ⟨a, b, d⟩ id home h1
    unfold tmr at h2
    rw [List.take_of_length_le (Nat.le_refl _)] at h2
    exact h2
  · cases h⟩
def takeF (fs : List (List Nat)) (n : Int) : List (List Nat) × List Nat × Int := if 0 ≤ n ∧ n < fs.length then (fs.eraseIdx n.toNat, fs.getD n.toNat [], 0) else ([], [], 5)
def takeT (xs : List AV) (l0 : List (Nat × OS)) : Ans := match xs, l0 with
  | [.c (.d (.row es)), .c (.d (.int .i64 n))], [] => some (∃ fs, es = framesD fs ∧ fs.length ≤ 1000000, .tup [Ro (framesD (takeF (framesR es) n).1), Ro (rowB (takeF (framesR es) n).2.1), V (takeF (framesR es) n).2.2], [])
  | _, _ => none
theorem take_does : Does Tryz.prog 40 takeT := ⟨⟨_, Tryz.func40, by decide, rfl⟩, fun xs l0 p v objs h hp => by
  unfold takeT at h
  split at h
  · cases h
    obtain ⟨fs, rfl, h1⟩ := hp
    rw [framesR_rows]
    rename_i n
    unfold takeF
    by_cases hn : 0 ≤ n ∧ n < fs.length
    · rw [if_pos hn]
      exact rtake_ok fs n hn h1
    · rw [if_neg hn]
      exact rtake_no fs n hn
  · cases h⟩
def parseT (xs : List AV) (l0 : List (Nat × OS)) : Ans := match xs, l0 with
  | [.agg [.d (.int .i64 n), .d (.int .i64 l)], .c (.d (.row es))], [] => some (∃ b, es = rowB b ∧ isBytes b, .tup [.agg (msgC (parseF ⟨n, l⟩ (bytesR es)).1), V (parseF ⟨n, l⟩ (bytesR es)).2], [])
  | _, _ => none
theorem parse_does : Does Tryz.prog 42 parseT := ⟨⟨_, Tryz.func42, by decide, rfl⟩, fun xs l0 p v objs h hp => by
  unfold parseT at h
  split at h
  · cases h
    obtain ⟨b, rfl, h1⟩ := hp
    rw [bytesR_rows]
    exact rparse_ok (Cfg.mk _ _) b h1 _ rfl
  · cases h⟩
def turnedT (xs : List AV) (l0 : List (Nat × OS)) : Ans := match xs, l0 with
  | [.c (.d (.row es)), .c (.d (.int .i64 bit))], [] => some (∃ b, es = rowB b ∧ isBytes b ∧ b.length ≤ 1000 ∧ 0 ≤ bit ∧ bit < 100000, Ro (rowB (turnF (bytesR es) bit)), [])
  | _, _ => none
theorem turned_does : Does Tryz.prog 43 turnedT := ⟨⟨_, Tryz.func43, by decide, rfl⟩, fun xs l0 p v objs h hp => by
  unfold turnedT at h
  split at h
  · cases h
    obtain ⟨b, rfl, h1, h2, h3, h4⟩ := hp
    rw [bytesR_rows]
    exact rturned_ok b h1 h2 _ h3 h4
  · cases h⟩
def wayT (xs : List AV) (l0 : List (Nat × OS)) : Ans := match xs, l0 with
  | [.c (.d (.row fs)), .c (.d (.row ms))], [] => some (∃ F M, fs = framesD F ∧ ms = R msgD M ∧ (∀ k, k < M.length → Fit (M.getD k msg0)) ∧ F.length ≤ 1000 ∧ M.length ≤ 1000, Ro (framesD (wayF (framesR fs) (msgsR ms))), [])
  | _, _ => none
theorem way_does : Does Tryz.prog 37 wayT := ⟨⟨_, Tryz.func37, by decide, rfl⟩, fun xs l0 p v objs h hp => by
  unfold wayT at h
  split at h
  · cases h
    obtain ⟨F, M, rfl, rfl, h1, h2, h3⟩ := hp
    rw [framesR_rows, msgsR_rows]
    exact rway_ok F M h1 h2 h3
  · cases h⟩
def tabDo : Canon := orT 37 wayT (orT 43 turnedT (orT 42 parseT (orT 40 takeT (orT 38 timerT (orT 44 homeT (orT 45 hearT (orT 35 beginT (orT 41 sendT (orT 39 saysT tab0)))))))))
theorem tabDo_ok : Sound Tryz.prog tabDo := (((((((((tab0_ok.or says_does).or send_does).or begin_does).or hear_does).or home_does).or timer_does).or take_does).or parse_does).or turned_does).or way_does
end Go.Proofs.YtpgeopefamomnaeGreat

namespace Go.Proofs.YtpgeopefamomnaeGreat
set_option maxRecDepth 100000
set_option linter.unusedVariables false
theorem fit_all {n L : Nat} {M : List Msg} (hn : n ≤ 4) (hL : L ≤ 4) (h : ∀ m ∈ M, wrongF ⟨n, L⟩ m = 0) : ∀ k, k < M.length → Fit (M.getD k msg0) := fun k hk => by
  have e : M.getD k msg0 ∈ M := by simp [List.getD, hk]
  exact fit_of_wrong (h _ e) (by simp only []; omega) (by simp only []; omega)
section
variable {n L : Nat} {x : SChip} {V : Nat → Int} (X : XI n L x V)
include X
theorem begin_said {p : Nat} (hp : p < n) {o : SOp} : ∀ m ∈ (beginF (x.core p) p n o).2.1, wrongF ⟨n, L⟩ m = 0 := by
  have hnl := X.nl p hp
  unfold beginF
  by_cases h1 : o.kind < 1 ∨ 4 < o.kind
  · rw [if_pos h1]; simp
  rw [if_neg h1]
  by_cases h2 : o.line < 0 ∨ ((x.core p).lines.length : Int) ≤ o.line ∨ o.value < 0 ∨ 255 < o.value
  · rw [if_pos h2]; simp
  rw [if_neg h2]
  by_cases h3 : (x.core p).wait.kind ≠ 0 ∨ 65535 ≤ ((x.core p).line o.line.toNat).serial
  · rw [if_pos h3]; simp
  rw [if_neg h3]
  obtain ⟨j, hj⟩ : ∃ j, j = o.line.toNat := ⟨_, rfl⟩
  rw [← hj] at h3 ⊢
  have hjL : j < L := by omega
  have hjl : j < (x.core p).lines.length := by omega
  have hla : (x.core p).line j = lineAt x j p := rfl
  have hw0 : (lineAt x j p).want = 0 := (X.wi p hp).none (by omega) j hjl
  have hk : 1 ≤ o.kind ∧ o.kind ≤ 4 := by omega
  have hr := begin_range (X.rl p j hp hjL) (o := o) (by omega) (by rw [← hla]; omega)
  rw [hla]
  by_cases hd : (beginL (lineAt x j p) o).2.1 = 0
  · rw [if_pos hd]; simp
  · rw [if_neg hd]
    have C := ci_wants X.n4 (X.ci j hjL) hp hw0 hk hd
    have B := begin_kind (l := lineAt x j p) hk hd
    have hupd : updL (lineAt x j) p (beginL (lineAt x j p) o).1 p = (beginL (lineAt x j p) o).1 := upd_at
    have wn := C.wn p hp
    have sr := C.sr p hp
    rw [hupd] at wn sr
    intro m hm
    simp only [List.mem_singleton] at hm
    subst hm
    exact asks_right hp hr (by omega) wn (by omega) (by omega)
omit X in
theorem begin_len {p : Nat} {o : SOp} : (beginF (x.core p) p n o).2.1.length ≤ 1 := by
  unfold beginF
  (repeat' split) <;> simp
theorem hear_said {p : Nat} (hp : p < n) {m : Msg} (hw : wrongF ⟨n, L⟩ m = 0) : ∀ y ∈ (hearF (x.core p) p n m).2.1, wrongF ⟨n, L⟩ y = 0 := by
  have hnl := X.nl p hp
  have ho := wrong_out hw
  simp only [] at ho
  unfold hearF
  rw [if_neg (by omega)]
  obtain ⟨j, hj⟩ : ∃ j, j = m.line.toNat := ⟨_, rfl⟩
  rw [← hj]
  have hjL : j < L := by omega
  have hla : (x.core p).line j = lineAt x j p := rfl
  rw [hla]
  have gs := (X.ci j hjL).gs p hp
  have re := X.re j hjL
  intro y hy
  simp only [Option.mem_toList, Option.map_eq_some_iff] at hy
  obtain ⟨s, hs, rfl⟩ := hy
  exact core_right (T := (x.entry j).turn) hp (X.rl p j hp hjL) (by have := re.t1; omega) (by omega) (by omega) hs
omit X in
theorem hear_len {p : Nat} {m : Msg} : (hearF (x.core p) p n m).2.1.length ≤ 1 := by
  unfold hearF
  split
  · simp
  · cases (hearL ((x.core p).line m.line.toNat) (x.core p).wait m).2.1 <;> simp
theorem home_said {p : Nat} (hp : p < n) {m : Msg} (hw : wrongF ⟨n, L⟩ m = 0) (hm : MI n (lineAt x m.line.toNat) (x.entry m.line.toNat) m) (hf : m.frm = p) : ∀ y ∈ (homeHearF x.home n m).2, wrongF ⟨n, L⟩ y = 0 := by
  have ho := wrong_out hw
  simp only [] at ho
  obtain ⟨j, hj⟩ : ∃ j, j = m.line.toNat := ⟨_, rfl⟩
  have hjL : j < L := by omega
  have he : x.home.getD m.line.toNat SEntry.zero = x.entry j := by rw [hj]; rfl
  have hlast := (X.ci j hjL).nlen
  unfold homeHearF
  rw [he]
  rw [← hj] at hm ⊢
  rw [if_neg (by have := X.nh; omega)]
  have hpn : m.frm.toNat = p := by omega
  rw [hpn]
  intro y hy
  exact (home_right (line := m.line) (L := L) X.n4 (X.ci j hjL) hm hp hf (X.re j hjL) (fun q hq => (X.rl q j hq hjL).s1) (by omega) (by omega) (by omega) y hy).2
theorem timer_said {p : Nat} (hp : p < n) : ∀ m ∈ timerF (x.core p) p n, wrongF ⟨n, L⟩ m = 0 := by
  intro m hm
  obtain ⟨j, h1, h2, h3⟩ := mem_timer hm
  have hjL : j < L := by have := X.nl p hp; omega
  have hla : (x.core p).lines.getD j SLine.zero = lineAt x j p := rfl
  rw [hla, Nat.zero_add] at h3
  rw [hla] at h2
  have C := X.ci j hjL
  have wn := C.wn p hp
  have sr := C.sr p hp
  subst h3
  exact asks_right hp (X.rl p j hp hjL) (by omega) wn h2 (by omega)
theorem says_said {j : Nat} (hj : j < L) : ∀ m ∈ saysF (x.entry j) j n, wrongF ⟨n, L⟩ m = 0 := fun m hm =>
  (says_right (line := (j : Int)) (L := (L : Int)) (X.ci j hj) (X.re j hj) (fun q hq => (X.rl q j hq hj).s1) (by omega) hm).2
theorem frame_bytes {b : List Nat} (hb : b ∈ x.frames) : isBytes b ∧ b.length = 12 := by
  obtain ⟨m, hw, h⟩ := X.good b hb
  have hf : Fit m := fit_of_wrong hw (by have := X.n4; have := X.nc; simp only [SChip.cfg]; omega) (by have := X.l4; have := X.nh; simp only [SChip.cfg]; omega)
  rcases h with rfl | ⟨bit, h0, h1, rfl⟩
  · exact ⟨bytesF_isBytes m hf, rfl⟩
  · exact ⟨turnF_isBytes _ _ (bytesF_isBytes m hf), by rw [turnF_length]; rfl⟩
theorem home_ok2 {j : Nat} (hj : j < L) : HomeOK (x.entry j) := by
  have I := X.ci j hj
  have := X.n4
  have ow := I.ow
  have fr := I.fr
  exact ⟨I.sh, I.nd, by omega, by omega, by rw [I.nlen]; exact X.n4, (X.re j hj).t0⟩
end
theorem timer_len (id home : Int) : ∀ (ls : List SLine) (i : Nat), (timerFrom id home i ls).length ≤ ls.length
  | [], _ => by simp [timerFrom]
  | l :: r, i => by
    unfold timerFrom
    have := timer_len id home r (i + 1)
    split <;> simp <;> omega
theorem says_len (e : SEntry) (line id : Int) : (saysF e line id).length ≤ 4 := by
  unfold saysF
  split
  · simp
  · split
    · rw [List.length_map]
      exact List.length_filter_le _ _
    · split <;> simp
theorem home_len (l : List SEntry) (id : Int) (m : Msg) : (homeHearF l id m).2.length ≤ 4 := by
  unfold homeHearF
  split
  · simp
  · simp only []
    unfold homeL
    (repeat' split) <;> first | exact says_len _ _ _ | (simp; done) | (simp only []; split <;> first | exact says_len _ _ _ | (simp; done))
end Go.Proofs.YtpgeopefamomnaeGreat

namespace Go.Proofs.YtpgeopefamomnaeGreat
open Go.RowKit
set_option linter.unusedVariables false
set_option maxRecDepth 100000
def stepC (s : SStep) : List CV := [I s.kind, I s.node, I s.n, I s.bit, I s.op.kind, I s.op.line, I s.op.value]
def doV (r : SChip × List SDone × Int) : AV := .tup [.agg (chipC r.1), Ro (R dnD r.2.1), V r.2.2]
def noC (e : Int) : AV := .tup [.agg [.d (.row []), .d (.row []), .d (.row [])], Ro [], V e]
def ksDo : List FuncId := [37, 43, 42, 40, 38, 44, 45, 35, 41, 39]
section
variable (CR HR FR : Row) (nd sn sb ok ol ov : Int)
set_option maxHeartbeats 4000000
theorem rdo_1lo (h : nd < 0) : FunOK Tryz.prog 21 [.agg [.d (.row CR), .d (.row HR), .d (.row FR)], .agg [I 1, I nd, I sn, I sb, I ok, I ol, I ov]] (hOf []) (noC 5) (hOf []) := by
  refine fun_deep (pins := []) (l0 := []) (objs := []) (base := 0) (xx_ok tabDo_ok ksDo) mixed Tryz.func21 rfl (Nat.le_of_ble_eq_true rfl) rfl rfl ?_
  have hx : ¬ ((decide (nd < 0) == false) = true) := by simp [h]
  repeat' ((conv => whnf); first | exact trivial | (with_reducible refine ap_of ?_; kernel_rfl) | (with_reducible refine ds_of ?_; kernel_rfl) | (with_reducible refine eq_of ?_; kernel_rfl) | exact rfl | (intro h; exact absurd h (by decide)) | (intro h; exact absurd h hx) | intro _ | apply And.intro)
  all_goals first | rfl | (exfalso; simp_all; done) | (exfalso; simp_all; omega)
theorem rdo_1hi (h0 : 0 ≤ nd) (h : (CR.length : Int) ≤ nd) : FunOK Tryz.prog 21 [.agg [.d (.row CR), .d (.row HR), .d (.row FR)], .agg [I 1, I nd, I sn, I sb, I ok, I ol, I ov]] (hOf []) (noC 5) (hOf []) := by
  refine fun_deep (pins := []) (l0 := []) (objs := []) (base := 0) (xx_ok tabDo_ok ksDo) mixed Tryz.func21 rfl (Nat.le_of_ble_eq_true rfl) rfl rfl ?_
  have hx : ¬ (decide (nd ≥ (CR.length : Int)) = false) := by simp [h]
  repeat' ((conv => whnf); first | exact trivial | (with_reducible refine ap_of ?_; kernel_rfl) | (with_reducible refine ds_of ?_; kernel_rfl) | (with_reducible refine eq_of ?_; kernel_rfl) | exact rfl | (intro h; exact absurd h (by decide)) | (intro h; exact absurd h hx) | intro _ | apply And.intro)
  all_goals first | rfl | (exfalso; simp_all; done) | (exfalso; simp_all; omega)
end
set_option maxHeartbeats 4000000 in
theorem rdo_1in {n L : Nat} {x : SChip} {V' : Nat → Int} (X : XI n L x V') (p : Nat) (hp : p < n) (sn sb ok ol ov : Int) (r : SCore × List Msg × List SDone × Int) (hr : beginF (x.core p) p n ⟨ok, ol, ov⟩ = r) : FunOK Tryz.prog 21 [.agg [.d (.row (R coreD x.cores)), .d (.row (R entD x.home)), .d (.row (framesD x.frames))], .agg [I 1, I p, I sn, I sb, I ok, I ol, I ov]] (hOf []) (doV (if r.2.2.2 ≠ 0 then (SChip.zero, [], r.2.2.2) else (⟨x.cores.set p r.1, x.home, wayF x.frames r.2.1⟩, r.2.2.1, 0))) (hOf []) := by
  refine fun_deep (pins := []) (l0 := []) (objs := []) (base := 0) (xx_ok tabDo_ok ksDo) mixed Tryz.func21 rfl (Nat.le_of_ble_eq_true rfl) rfl rfl ?_
  have hfit := fit_all X.n4 X.l4 (begin_said X hp (o := ⟨ok, ol, ov⟩))
  have hbl := begin_len (x := x) (n := n) (p := p) (o := ⟨ok, ol, ov⟩)
  rw [hr] at hfit hbl
  have hn4 := X.n4
  have hnc := X.nc
  have hpc : p < x.cores.length := by omega
  have hlen : (R coreD x.cores).length = n := by rw [R_len, hnc]
  have hlen2 : p < (R coreD x.cores).length := by omega
  have hleni : (p : Int) < ((R coreD x.cores).length : Int) := by omega
  have hg0 : (R coreD x.cores).getD p [] = coreD (x.core p) := R_get coreD SCore.zero hpc
  have hg : (R coreD x.cores).getD p [] = [.row (rowsL (x.core p).lines), J (x.core p).wait.kind, J (x.core p).wait.line, J (x.core p).wait.value] := hg0
  have hx1 : ¬ ((decide ((p : Int) < 0) == false) = false) := by simp
  have hone : ∀ u ∈ R coreD x.cores, u.length = 4 := R_one (f := coreD) (fun _ => rfl) _
  have tnc : ((p : Nat) : Int).toNat = p := Int.toNat_natCast p
  repeat' ((conv => whnf); first | exact trivial | (with_reducible refine ap_of ?_; kernel_rfl) | (with_reducible refine ds_of ?_; kernel_rfl) | (with_reducible refine eq_of ?_; kernel_rfl) | exact rfl | (intro h; exact absurd h (by decide)) | (intro h; exact absurd h hx1) | intro _ | apply And.intro)
  all_goals first
    | exact Int.natCast_nonneg _
    | exact hleni
    | exact hlen2
    | exact hone _ (by assumption)
    | rfl
    | (rw [tnc, hg]; first | rfl | exact Nat.le_refl _)
    | skip
  all_goals simp only [tnc, hg, List.getD_cons_zero, List.getD_cons_succ, DV.toI, Nat.zero_add, toR_row, linesR_rows, hlen] at *
  all_goals clear hx1 hone tnc
  all_goals try rw [show beginF ⟨(x.core p).lines, ⟨(x.core p).wait.kind, (x.core p).wait.line, (x.core p).wait.value⟩⟩ p n ⟨ok, ol, ov⟩ = r from hr] at *
  all_goals first
    | (exfalso; simp_all; done)
    | (exfalso; simp_all; omega)
    | (simp; omega)
    | exact ⟨_, rfl, by have := X.nl p hp; have := X.l4; omega, fun i hi => by
        have hiL : i < L := by have := X.nl p hp; omega
        have h := (X.ci i hiL).sr p hp
        have h2 : (x.core p).lines.getD i SLine.zero = lineAt x i p := rfl
        rw [h2]
        omega⟩
    | exact ⟨_, _, rfl, rfl, hfit, by have := X.fl; omega, by omega⟩
    | (rw [if_pos (by simpa using ‹(r.2.2.2 != 0) = true›)]
       rfl)
    | (rw [if_neg (by simpa using ‹(r.2.2.2 != 0) = false›), framesR_rows, msgsR_rows]
       show AV.tup [.agg [.d (.row ((R coreD x.cores).set p (coreD r.1))), .d (.row (R entD x.home)), .d (.row (framesD (wayF x.frames r.2.1)))], Ro (R dnD r.2.2.1), V 0] = _
       rw [R_set]
       rfl)
    | trace_state
theorem rdo_1 {n L : Nat} {x : SChip} {V' : Nat → Int} (X : XI n L x V') (s : SStep) (hs : s.kind = 1) : FunOK Tryz.prog 21 [.agg (chipC x), .agg (stepC s)] (hOf []) (doV (doF x s)) (hOf []) := by
  obtain ⟨k, nd, sn, sb, ok, ol, ov⟩ := s
  simp only at hs
  subst hs
  have hnc := X.nc
  have hlen : (R coreD x.cores).length = n := by rw [R_len, hnc]
  unfold doF
  rw [if_pos rfl]
  by_cases h0 : nd < 0
  · rw [if_pos (.inl h0)]
    exact rdo_1lo _ _ _ nd sn sb ok ol ov h0
  by_cases h1 : (x.cores.length : Int) ≤ nd
  · rw [if_pos (.inr h1)]
    exact rdo_1hi _ _ _ nd sn sb ok ol ov (by omega) (by rw [hlen]; omega)
  rw [if_neg (by show ¬ (nd < 0 ∨ (x.cores.length : Int) ≤ nd); omega)]
  obtain ⟨p, rfl⟩ := Int.eq_ofNat_of_zero_le (show 0 ≤ nd by omega)
  rw [hnc]
  exact rdo_1in X p (by omega) sn sb ok ol ov _ rfl
end Go.Proofs.YtpgeopefamomnaeGreat

namespace Go.Proofs.YtpgeopefamomnaeGreat
open Go.RowKit
set_option linter.unusedVariables false
set_option maxRecDepth 100000
section
variable (CR HR FR : Row) (nd sn sb ok ol ov : Int)
set_option maxHeartbeats 4000000
theorem rdo_6lo (h : nd < 0) : FunOK Tryz.prog 21 [.agg [.d (.row CR), .d (.row HR), .d (.row FR)], .agg [I 6, I nd, I sn, I sb, I ok, I ol, I ov]] (hOf []) (noC 5) (hOf []) := by
  refine fun_deep (pins := []) (l0 := []) (objs := []) (base := 0) (xx_ok tabDo_ok ksDo) mixed Tryz.func21 rfl (Nat.le_of_ble_eq_true rfl) rfl rfl ?_
  have hx : ¬ ((decide (nd < 0) == false) = true) := by simp [h]
  repeat' ((conv => whnf); first | exact trivial | (with_reducible refine ap_of ?_; kernel_rfl) | (with_reducible refine ds_of ?_; kernel_rfl) | (with_reducible refine eq_of ?_; kernel_rfl) | exact rfl | (intro h; exact absurd h (by decide)) | (intro h; exact absurd h hx) | intro _ | apply And.intro)
  all_goals first | rfl | (exfalso; simp_all; done) | (exfalso; simp_all; omega)
theorem rdo_6hi (h0 : 0 ≤ nd) (h : (CR.length : Int) < nd) : FunOK Tryz.prog 21 [.agg [.d (.row CR), .d (.row HR), .d (.row FR)], .agg [I 6, I nd, I sn, I sb, I ok, I ol, I ov]] (hOf []) (noC 5) (hOf []) := by
  refine fun_deep (pins := []) (l0 := []) (objs := []) (base := 0) (xx_ok tabDo_ok ksDo) mixed Tryz.func21 rfl (Nat.le_of_ble_eq_true rfl) rfl rfl ?_
  have hx : ¬ (decide (nd > (CR.length : Int)) = false) := by simp [h]
  repeat' ((conv => whnf); first | exact trivial | (with_reducible refine ap_of ?_; kernel_rfl) | (with_reducible refine ds_of ?_; kernel_rfl) | (with_reducible refine eq_of ?_; kernel_rfl) | exact rfl | (intro h; exact absurd h (by decide)) | (intro h; exact absurd h hx) | intro _ | apply And.intro)
  all_goals first | rfl | (exfalso; simp_all; done) | (exfalso; simp_all; omega)
end
set_option maxHeartbeats 4000000 in
theorem rdo_6core {n L : Nat} {x : SChip} {V' : Nat → Int} (X : XI n L x V') (p : Nat) (hp : p < n) (sn sb ok ol ov : Int) (r : List Msg) (hr : timerF (x.core p) p n = r) : FunOK Tryz.prog 21 [.agg [.d (.row (R coreD x.cores)), .d (.row (R entD x.home)), .d (.row (framesD x.frames))], .agg [I 6, I p, I sn, I sb, I ok, I ol, I ov]] (hOf []) (doV (⟨x.cores, x.home, wayF x.frames r⟩, [], 0)) (hOf []) := by
  refine fun_deep (pins := []) (l0 := []) (objs := []) (base := 0) (xx_ok tabDo_ok ksDo) mixed Tryz.func21 rfl (Nat.le_of_ble_eq_true rfl) rfl rfl ?_
  have hfit := fit_all X.n4 X.l4 (timer_said X hp)
  have hbl := timer_len p n (x.core p).lines 0
  change (timerF (x.core p) p n).length ≤ _ at hbl
  rw [hr] at hfit hbl
  have hnl := X.nl p hp
  have hl4 := X.l4
  have hn4 := X.n4
  have hnc := X.nc
  have hpc : p < x.cores.length := by omega
  have hlen : (R coreD x.cores).length = n := by rw [R_len, hnc]
  have hlen2 : p < (R coreD x.cores).length := by omega
  have hleni : (p : Int) < ((R coreD x.cores).length : Int) := by omega
  have hg0 : (R coreD x.cores).getD p [] = coreD (x.core p) := R_get coreD SCore.zero hpc
  have hg : (R coreD x.cores).getD p [] = [.row (rowsL (x.core p).lines), J (x.core p).wait.kind, J (x.core p).wait.line, J (x.core p).wait.value] := hg0
  have hx1 : ¬ (decide ((p : Int) < ((R coreD x.cores).length : Int)) = false) := by simp; omega
  have hone : ∀ u ∈ R coreD x.cores, u.length = 4 := R_one (f := coreD) (fun _ => rfl) _
  have tnc : ((p : Nat) : Int).toNat = p := Int.toNat_natCast p
  repeat' ((conv => whnf); first | exact trivial | (with_reducible refine ap_of ?_; kernel_rfl) | (with_reducible refine ds_of ?_; kernel_rfl) | (with_reducible refine eq_of ?_; kernel_rfl) | exact rfl | (intro h; exact absurd h (by decide)) | (intro h; exact absurd h hx1) | intro _ | apply And.intro)
  all_goals first
    | exact Int.natCast_nonneg _
    | exact hleni
    | exact hlen2
    | exact hone _ (by assumption)
    | rfl
    | (rw [tnc, hg]; first | rfl | exact Nat.le_refl _)
    | skip
  all_goals simp only [tnc, hg, List.getD_cons_zero, List.getD_cons_succ, DV.toI, Nat.zero_add, toR_row, linesR_rows, hlen] at *
  all_goals clear hx1 hone tnc
  all_goals try rw [show timerF ⟨(x.core p).lines, ⟨(x.core p).wait.kind, (x.core p).wait.line, (x.core p).wait.value⟩⟩ p n = r from hr] at *
  all_goals first
    | (exfalso; simp_all; done)
    | (exfalso; simp_all; omega)
    | (simp; omega)
    | exact ⟨_, rfl, by omega⟩
    | exact ⟨_, _, rfl, rfl, hfit, by have := X.fl; omega, by omega⟩
    | (rw [framesR_rows, msgsR_rows]
       rfl)
    | trace_state
theorem htimer_snoc (id : Int) (e : SEntry) : ∀ (a : List SEntry) (i : Nat), homeTimerFrom id i (a ++ [e]) = homeTimerFrom id i a ++ saysF e ((i + a.length : Nat) : Int) id
  | [], i => by simp [homeTimerFrom]
  | b :: r, i => by
    rw [List.cons_append]
    unfold homeTimerFrom
    rw [htimer_snoc id e r (i + 1), List.append_assoc]
    simp only [List.length_cons]
    rw [show i + 1 + r.length = i + (r.length + 1) by omega]
theorem way_app (fs : List (List Nat)) (a b : List Msg) : wayF fs (a ++ b) = wayF (wayF fs a) b := by unfold wayF; rw [List.foldl_append]
theorem htimer_step (fs : List (List Nat)) (id : Int) {l : List SEntry} {k : Nat} (h : k < l.length) : wayF fs (homeTimerFrom id 0 (l.take (k + 1))) = wayF (wayF fs (homeTimerFrom id 0 (l.take k))) (saysF (l.getD k SEntry.zero) (k : Nat) id) := by
  rw [take_snoc l k SEntry.zero h, htimer_snoc, way_app, List.length_take, show 0 + min k l.length = k by omega]
set_option maxHeartbeats 4000000 in
theorem rdo_6home {n L : Nat} {x : SChip} {V' : Nat → Int} (X : XI n L x V') (sn sb ok ol ov : Int) : FunOK Tryz.prog 21 [.agg [.d (.row (R coreD x.cores)), .d (.row (R entD x.home)), .d (.row (framesD x.frames))], .agg [I 6, I n, I sn, I sb, I ok, I ol, I ov]] (hOf []) (doV (⟨x.cores, x.home, wayF x.frames (homeTimerFrom n 0 x.home)⟩, [], 0)) (hOf []) := by
  refine fun_deep (pins := []) (l0 := []) (objs := []) (base := 0) (xx_ok tabDo_ok ksDo) mixed Tryz.func21 rfl (Nat.le_of_ble_eq_true rfl) rfl rfl ?_
  have hl4 := X.l4
  have hn4 := X.n4
  have hnc := X.nc
  have hlen : (R coreD x.cores).length = n := by rw [R_len, hnc]
  have hx1 : ¬ (decide ((n : Int) < ((R coreD x.cores).length : Int)) = true) := by simp; omega
  repeat' ((conv => whnf); first | exact trivial | (with_reducible refine ap_of ?_; kernel_rfl) | (with_reducible refine ds_of ?_; kernel_rfl) | (with_reducible refine eq_of ?_; kernel_rfl) | exact rfl | (intro h; exact absurd h (by decide)) | (intro h; exact absurd h hx1) | intro _ | apply And.intro)
  all_goals first
    | rfl
    | (exfalso; simp_all; done)
    | (exfalso; simp_all; omega)
    | skip
  (conv => whnf)
  refine loop_keep [2, 3, 4, 5, 6, 7, 8, 126] 100 [] {k : Nat // k ≤ x.home.length} (fun k => [(127, V x.home.length), (128, V k.1)]) (fun k => [(0, .live (.box [.d (.row (R coreD x.cores)), .d (.row (R entD x.home)), .d (.row (framesD (wayF x.frames (homeTimerFrom n 0 (x.home.take k.1)))))] 29)), (8, .live (.box [I 6, I n, I sn, I sb, I ok, I ol, I ov] 64)), (16, .live (.box [.nils, .nils, .nils] 29)), (24, .live (.row [] 5 46 false))]) (fun k => x.home.length - k.1) ⟨0, Nat.zero_le _⟩ ?_
  (conv => whnf)
  have hhl : (R entD x.home).length = x.home.length := R_len _ _
  refine ⟨?_, ?_⟩
  · repeat' ((conv => whnf); first | exact trivial | exact rfl | apply And.intro)
    all_goals first | exact int_eq (show ((R entD x.home).length : Int) = x.home.length by rw [hhl]) | trace_state
  · rintro ⟨k, hk⟩
    have hone : ∀ u ∈ R entD x.home, u.length = 10 := R_one (f := entD) (fun _ => rfl) _
    have tnc : ((k : Nat) : Int).toNat = k := Int.toNat_natCast k
    have hw40 := len_way (ms := homeTimerFrom n 0 (x.home.take k)) X.fl
    have hnh := X.nh
    clear hx1
    repeat' ((conv => whnf); first | exact trivial | (with_reducible refine ap_of ?_; kernel_rfl) | (with_reducible refine ds_of ?_; kernel_rfl) | (with_reducible refine eq_of ?_; kernel_rfl) | exact rfl | (intro h; exact absurd h (by decide)) | intro _ | apply And.intro)
    all_goals first
      | (have hlt : k < x.home.length := (by have := k_lt (k := k) (n := x.home.length) (by assumption); omega)
         have hki : (k : Int) < x.home.length := by omega
         have hgk : (R entD x.home).getD k [] = [J (x.entry k).value, J (x.entry k).owner, J (x.entry k).sharers, J (x.entry k).phase, J (x.entry k).forr, J (x.entry k).serial, .bool (x.entry k).alone, J (x.entry k).turn, J (x.entry k).need, .row (rowsI (x.entry k).last)] := R_get entD SEntry.zero hlt
         have hnd := (X.ci k (by omega)).nd
         have hsy : ∀ l0, saysF ⟨(x.entry k).value, (x.entry k).owner, (x.entry k).sharers, (x.entry k).phase, (x.entry k).forr, (x.entry k).serial, (x.entry k).alone, (x.entry k).turn, (x.entry k).need, l0⟩ k n = saysF (x.entry k) k n := fun _ => rfl
         first
           | exact Int.natCast_nonneg _
           | (rw [hhl]; exact hki)
           | (rw [hhl, show ∀ n : Nat, ((n : Nat) : Int).toNat = n from Int.toNat_natCast]; exact hlt)
           | rfl
           | (rw [show ∀ n : Nat, ((n : Nat) : Int).toNat = n from Int.toNat_natCast, hgk]; first | rfl | exact Nat.le_refl _ | exact hnd.1 | (show (x.entry k).need < 65536; omega))
           | (rw [show ∀ n : Nat, ((n : Nat) : Int).toNat = n from Int.toNat_natCast, hlen, hgk]
              exact ⟨_, saysF (x.entry k) k n, rfl, rfl, fit_all X.n4 X.l4 (says_said X (by omega)), Nat.le_trans hw40 (by decide), Nat.le_trans (says_len _ _ _) (by decide)⟩)
           | ((conv => whnf)
              refine ⟨⟨k + 1, hlt⟩, [], ?_, ?_⟩
              · show x.home.length - (k + 1) < x.home.length - k
                omega
              · repeat' ((conv => whnf); first | exact trivial | exact rfl | apply And.intro)
                · exact succ_eq k (by omega)
                · refine congrArg (fun fs => OS.live (.box [.d (.row (R coreD x.cores)), .d (.row (R entD x.home)), .d (.row fs)] 29)) (?_ : _ = framesD (wayF x.frames (homeTimerFrom n 0 (x.home.take (k + 1)))))
                  rw [htimer_step x.frames n hlt, framesR_rows, msgsR_rows, show ∀ n : Nat, ((n : Nat) : Int).toNat = n from Int.toNat_natCast, hlen, hgk]
                  rfl))
      | (have hke : k = x.home.length := (by have := k_ge (k := k) (n := x.home.length) (by assumption); omega)
         subst hke
         first
           | rfl
           | (show AV.tup [AV.agg [.d (.row (R coreD x.cores)), .d (.row (R entD x.home)), .d (.row (framesD (wayF x.frames (homeTimerFrom n 0 (x.home.take x.home.length)))))], Ro [], V 0] = _
              rw [List.take_of_length_le (Nat.le_refl _)]
              rfl))
      | trace_state
theorem rdo_6 {n L : Nat} {x : SChip} {V' : Nat → Int} (X : XI n L x V') (s : SStep) (hs : s.kind = 6) : FunOK Tryz.prog 21 [.agg (chipC x), .agg (stepC s)] (hOf []) (doV (doF x s)) (hOf []) := by
  obtain ⟨k, nd, sn, sb, ok, ol, ov⟩ := s
  simp only at hs
  subst hs
  have hnc := X.nc
  have hlen : (R coreD x.cores).length = n := by rw [R_len, hnc]
  unfold doF
  rw [if_neg (by show ¬ ((6 : Int) = 1); decide), if_pos rfl]
  by_cases h0 : nd < 0
  · rw [if_pos (.inl h0)]
    exact rdo_6lo _ _ _ nd sn sb ok ol ov h0
  by_cases h1 : (x.cores.length : Int) < nd
  · rw [if_pos (.inr h1)]
    exact rdo_6hi _ _ _ nd sn sb ok ol ov (by omega) (by rw [hlen]; omega)
  rw [if_neg (by show ¬ (nd < 0 ∨ (x.cores.length : Int) < nd); omega)]
  obtain ⟨p, rfl⟩ := Int.eq_ofNat_of_zero_le (show 0 ≤ nd by omega)
  rw [hnc]
  by_cases h2 : p < n
  · rw [if_pos (by show (p : Int) < n; omega)]
    exact rdo_6core X p h2 sn sb ok ol ov _ rfl
  · rw [if_neg (by show ¬ (p : Int) < n; omega)]
    have e : p = n := by omega
    subst e
    exact rdo_6home X sn sb ok ol ov
end Go.Proofs.YtpgeopefamomnaeGreat

