/- The law HomeTells, on trees. -/
import Derived.Test.YthddhccgmeeljacHE
set_option linter.unusedSimpArgs false
namespace Go.Proofs.Ythddhccgmeeljac
open Go.RowKit
set_option linter.unusedVariables false
set_option linter.unusedSimpArgs false
set_option maxRecDepth 100000

theorem homes_need {l : List SEntry} (h : Homes l) (hp : ∀ e ∈ l, 0 ≤ e.phase ∧ e.phase ≤ 3) : ∀ e ∈ l, (0 ≤ e.need ∧ e.need < 16) ∧ 0 ≤ e.phase ∧ e.phase ≤ 3 := fun e he => ⟨(h.2 e he).nd, hp e he⟩
theorem phase_xi {n L : Nat} {x : SChip} {V : Nat → Int} (X : XI n L x V) : ∀ e ∈ x.home, 0 ≤ e.phase ∧ e.phase ≤ 3 := by
  intro e he
  have hh := X.nh
  obtain ⟨j, hj, rfl⟩ := List.getElem_of_mem he
  have h := (X.ci j (by omega)).ph
  have e1 : x.entry j = x.home[j] := by simp [SChip.entry, List.getD, hj]
  rw [e1] at h
  exact h
theorem new_home {ca cb : Int} (h1 : 0 ≤ ca ∧ ca ≤ 4) (h0 : 1 ≤ ca) (h2 : 1 ≤ cb ∧ cb ≤ 4) : (newF ⟨ca, cb⟩).1.home = List.replicate cb.toNat ⟨0, -1, 0, 0, 0, 0, false, 0, 0, List.replicate ca.toNat 0⟩ := by
  unfold newF
  rw [if_neg (by simp only []; omega)]
  rfl
set_option maxHeartbeats 4000000
theorem htells_in {n L : Nat} {ca cb : Int} {l : List SStep} {V' : Nat → Int} (X : XI n L (buildF ⟨ca, cb⟩ l).1 V') (hca : ca = n) (hcb : cb = L) (mk mf mt ml ms mu mv : Int) (ma : Bool) : FunOK Try.prog 3 [.agg [I ca, I cb], Ro (R stepD l), .agg [I mk, I mf, I mt, I ml, I ms, I mu, I mv, .d (.bool ma)]] (hOf []) (Vb true) (hOf []) := by
  refine fun_deep (pins := []) (l0 := []) (objs := []) (base := 0) (xx_ok tabT5_ok ksT5) mixed Try.func3 rfl (Nat.le_of_ble_eq_true rfl) rfl rfl ?_
  have hs : stepsR (R stepD l) = l := stepsR_rows l
  have hN : (newF ⟨ca, cb⟩).1.home = List.replicate cb.toNat ⟨0, -1, 0, 0, 0, 0, false, 0, 0, List.replicate ca.toNat 0⟩ := new_home (by have := X.n4; omega) (by have := X.n1; omega) (by have := X.l1; have := X.l4; omega)
  repeat' ((conv => whnf); first | exact trivial | (with_reducible refine ap_of ?_; kernel_rfl) | (with_reducible refine ds_of ?_; kernel_rfl) | (with_reducible refine eq_of ?_; kernel_rfl) | exact rfl | (intro h; exact absurd h (by decide)) | intro _ | apply And.intro)
  all_goals try rw [hs] at *
  all_goals generalize (buildF ⟨ca, cb⟩ l).1 = x at *
  all_goals clear hs
  all_goals
    have hlen : (R coreD x.cores).length = n := by rw [R_len, X.nc]
    have H := homes_xi X
    have H2 := H.hear n ⟨mk, mf, mt, ml, ms, mu, mv, ma⟩
    have H3 := homes_need H (phase_xi X)
    have H4 := home_len x.home n ⟨mk, mf, mt, ml, ms, mu, mv, ma⟩
  all_goals first
    | exact ⟨l, rfl⟩
    | rfl
    | skip
  all_goals simp only [homeR_rows, hlen] at *
  all_goals first
    | exact ⟨_, rfl, H.1, H.la, H.at _⟩
    | exact ⟨_, rfl, H.1, H.la⟩
    | exact ⟨_, rfl, rfl, H2.1, H2.la⟩
    | exact ⟨_, rfl, rfl, H.1, H.la⟩
    | exact ⟨_, rfl, rfl, Nat.lt_of_le_of_lt H4 (by decide)⟩
    | rfl
    | skip
  have hb := H.1
  have hla := H.la
  have hn1 := X.n1
  have hn4 := X.n4
  have hl1 := X.l1
  have hl4 := X.l4
  refine loop_keep [3, 6, 7, 9, 66] 40 [(1, ?_)] {k : Nat // k ≤ x.home.length} (fun k => [(14, .c (.own 1)), (67, V x.home.length), (68, V k.1)]) (fun k => [(0, .live (.box [I ca, I cb] 23)), (1048, .live (.box [.d (.row (R coreD x.cores)), .d (.row (R entD x.home)), .d (.row (framesD x.frames))] 31)), (1, .live (.row (R msgD (tmH n x.home k.1)) 8 26 false))]) (fun k => x.home.length - k.1) ⟨0, Nat.zero_le _⟩ ?_
  rotate_left
  (conv => whnf)
  refine ⟨?_, ?_⟩
  · repeat' ((conv => whnf); first | exact trivial | exact rfl | apply And.intro)
    all_goals first | exact int_eq (show ((R entD x.home).length : Int) = x.home.length by rw [R_len]) | trace_state
  · rintro ⟨k, hk⟩
    have htl : (tmH n x.home k).length ≤ 4000 := tmH_len n hb hk
    have hall : tmH n x.home x.home.length = homeTimerFrom n 0 x.home := by unfold tmH; rw [List.take_of_length_le (Nat.le_refl _)]
    repeat' ((conv => whnf); first | exact trivial | (with_reducible refine ap_of ?_; kernel_rfl) | (with_reducible refine ds_of ?_; kernel_rfl) | (with_reducible refine eq_of ?_; kernel_rfl) | exact rfl | (intro h; exact absurd h (by decide)) | intro _ | apply And.intro)
    all_goals first
      | (have hlt : k < x.home.length := (by have := k_lt (k := k) (n := x.home.length) (by assumption); omega)
         have hmem : x.home.getD k SEntry.zero ∈ x.home := by simp [List.getD, hlt]
         have hN0 := (H3 _ hmem).1
         have hS := tmH_step n hlt
         have hsl := says_len (x.home.getD k SEntry.zero) (k : Nat) n
         have hge : (R entD x.home).getD k [] = entD (x.home.getD k SEntry.zero) := R_get entD _ hlt
         have l1 : (R entD x.home).length = x.home.length := R_len _ _
         clear H H2 H3 H4 X hmem hN hla
         generalize x.home.getD k SEntry.zero = e at *
         have hge2 : (R entD x.home).getD k [] = [J e.value, J e.owner, J e.sharers, J e.phase, J e.forr, J e.serial, .bool e.alone, J e.turn, J e.need, .row (rowsI e.last)] := hge
         clear hge
         try simp only [Int.toNat_natCast, hge2, l1, List.getD_cons_zero, List.getD_cons_succ, DV.toI, DV.toB, Nat.zero_add, toR_row]
         first
           | exact Int.natCast_nonneg _
           | omega
           | rfl
           | exact Nat.le_refl _
           | (rw [R_len, R_len]; exact Nat.le_trans (Nat.add_le_add htl hsl) (by decide))
           | exact R_one (f := msgD) (fun _ => rfl) _ _ (by assumption)
           | ((conv => whnf)
              refine ⟨⟨k + 1, hlt⟩, [(1, ?_)], ?_, ?_⟩
              rotate_left
              · show x.home.length - (k + 1) < x.home.length - k
                omega
              · repeat' ((conv => whnf); first | exact trivial | exact rfl | apply And.intro)
                · exact succ_eq k (by omega)
                · refine row_eq ?_
                  simp only [Int.toNat_natCast, hge2, l1, List.getD_cons_zero, List.getD_cons_succ, DV.toI, DV.toB, Nat.zero_add, toR_row]
                  rw [hS]
                  exact R_app msgD _ _)
           | trace_state)
      | (have hke : k = x.home.length := (by have := k_ge (k := k) (n := x.home.length) (by assumption); omega)
         subst hke
         first
           | exact ⟨_, rfl, hb, hla, H3⟩
           | exact ⟨homeTimerFrom n 0 x.home, by rw [homeR_rows], by rw [hall], by rw [← hall]; exact Nat.lt_of_le_of_lt htl (by decide)⟩
           | omega
           | exact ⟨_, rfl, by rw [hN], by rw [List.length_replicate]; omega, fun e he => by
               rw [List.eq_of_mem_replicate he]
               show (List.replicate _ _).length ≤ _
               rw [List.length_replicate]
               omega⟩
           | rfl
           | trace_state)
      | trace_state
theorem htells_none {ca cb : Int} {l : List SStep} (h : (buildF ⟨ca, cb⟩ l).1.cores = []) (mk mf mt ml ms mu mv : Int) (ma : Bool) : FunOK Try.prog 3 [.agg [I ca, I cb], Ro (R stepD l), .agg [I mk, I mf, I mt, I ml, I ms, I mu, I mv, .d (.bool ma)]] (hOf []) (Vb true) (hOf []) := by
  refine fun_deep (pins := []) (l0 := []) (objs := []) (base := 0) (xx_ok tabT5_ok ksT5) mixed Try.func3 rfl (Nat.le_of_ble_eq_true rfl) rfl rfl ?_
  have hx : ¬ ((((R coreD (buildF ⟨ca, cb⟩ (stepsR (R stepD l))).1.cores).length : Int) == 0) = false) := by
    rw [stepsR_rows, h]
    decide
  repeat' ((conv => whnf); first | exact trivial | (with_reducible refine ap_of ?_; kernel_rfl) | (with_reducible refine ds_of ?_; kernel_rfl) | (with_reducible refine eq_of ?_; kernel_rfl) | exact rfl | (intro h; exact absurd h (by decide)) | (intro h; exact absurd h hx) | intro _ | apply And.intro)
  all_goals first
    | exact ⟨l, rfl⟩
    | rfl
    | trace_state
theorem htells_any (c : Cfg) (l : List SStep) (m : Msg) : FunOK Try.prog 3 [.agg (cfgC c), Ro (R stepD l), .agg (msgC m)] (hOf []) (Vb true) (hOf []) := by
  rcases built c l with ⟨n, L, V', e1, e2, X⟩ | hz
  · exact htells_in (ca := c.cores) (cb := c.lines) X e1 e2 m.kind m.frm m.to m.line m.serial m.turn m.value m.alone
  · exact htells_none (ca := c.cores) (cb := c.lines) hz m.kind m.frm m.to m.line m.serial m.turn m.value m.alone
end Go.Proofs.Ythddhccgmeeljac
