/- Deep11 Deep11x Deep12 DeepInl Deep13 DeepRen Deep14 Deep15. -/
import Derived.Test.YtpgeopefamomnaeGreatKC
import Derived.Laws.Slices
import Derived.Orders
set_option linter.unusedSimpArgs false
set_option linter.unusedSectionVars false
namespace Go.Proofs.YtpgeopefamomnaeGreat
open Go.RowKit
set_option linter.unusedVariables false
theorem appT_run {α : Type} {P : Program} {env : Nat → AV} {h : AH} {ts : Array TypeId} {k : TypeId → Nat → AM α} {r : α × Prop × AH} (hr : (appT P ts k).run env h = some r) : ∃ t e ds, ts = #[t, t] ∧ P.underlying t = some (.slice e) ∧ elemK P e = some ds ∧ (k e ds.length).run env h = some r := by
  unfold appT at hr
  split at hr
  · rename_i t t' ht
    split at hr
    · rename_i hb
      have hb := Nat.eq_of_beq_eq_true hb
      subst hb
      split at hr
      · rename_i e he
        split at hr
        · rename_i ds hds
          exact ⟨t, e, ds, Array.toList_inj.1 (by rw [ht]), elemOf_parts he, hds, hr⟩
        · simp [AM.run] at hr
      · simp [AM.run] at hr
    · simp [AM.run] at hr
  · simp [AM.run] at hr
/-- What is appended, as the law asks it. -/
theorem RowAt.news {w : World} {Wr : Nat → Prop} {ys : List (List DV)} {u : Value} (hu : RowAt w Wr ys u) {k : Nat} (hk : ∀ e ∈ ys, e.length = k) (h1 : 1 ≤ k) :
    ∃ a m c news, u = .slice a m c ∧ m = ys.length ∧ news.length = m * k ∧ (∀ ad, a = some ad → ∀ (j : Nat) x, news[j]? = some x → w.cell? (ad.add j) = some x) ∧ (a = none → m = 0) ∧ All2 (RepD w Wr) ys.flatten news := by
  obtain ⟨a, m, c, vs, h1', h2, h3, h4, h5⟩ := hu
  refine ⟨a, m, c, vs, h1', h2, by rw [h3, flatG_len _ hk, h2], fun ad hd j x hx => ?_, fun ha => ?_, h5⟩
  · obtain ⟨b, off, e, hc⟩ := h4 (by intro e; rw [e] at hx; simp at hx)
    rw [hd] at e
    cases e
    rw [Addr.add_mid]
    exact hc j x hx
  · have : vs = [] := Classical.byContradiction fun hne => by
      obtain ⟨b, off, e, _⟩ := h4 hne
      rw [ha] at e
      cases e
    rw [this, flatG_len _ hk] at h3
    have h3' : ys.length * k = 0 := by simpa using h3.symm
    rcases Nat.mul_eq_zero.1 h3' with h4 | h4
    · rw [h2, h4]
    · omega
theorem nil_blk {v v' : Value} {w : World} (h : v'.ownBlock = v.ownBlock ∨ v'.ownBlock = some w.heap.size) {a : Option Addr} {n c : Nat} (e : v' = .slice a n c) {b : Nat} (hb : blk v' = some b) : v.ownBlock = some b ∨ b = w.heap.size := by
  rw [blk_own e] at hb
  rcases h with h | h
  · exact .inl (by rw [← h, hb])
  · exact .inr (by rw [h] at hb; exact (Option.some.inj hb).symm)
theorem flat_append_len {α : Type} {k : Nat} {xs ys : List (List α)} (hx : ∀ e ∈ xs, e.length = k) (hy : ∀ e ∈ ys, e.length = k) : ∀ e ∈ xs ++ ys, e.length = k := fun e he => by
  rcases List.mem_append.1 he with h | h
  · exact hx e h
  · exact hy e h
theorem setA_zero {α : Type} (xs us : List α) (h : us.length ≤ xs.length) : setA xs 0 us = us ++ xs.drop us.length := by
  apply List.ext_getElem?
  intro q
  rw [setA_get us xs 0 q (by omega)]
  by_cases hq : q < us.length
  · rw [if_pos (by omega), Nat.sub_zero, List.getElem?_append_left hq]
  · rw [if_neg (by omega), List.getElem?_append_right (by omega), List.getElem?_drop]
    congr 1
    omega
theorem flat_drop {α : Type} {k : Nat} : ∀ (n : Nat) (xs : List (List α)), (∀ e ∈ xs, e.length = k) → (xs.drop n).flatten = xs.flatten.drop (n * k)
  | 0, xs, _ => by simp
  | n + 1, [], _ => by simp
  | n + 1, x :: xs, h => by
    rw [List.drop_succ_cons, flat_drop n xs (fun e he => h e (by simp [he])), List.flatten_cons, List.drop_append, h x (by simp)]
    have e : x.drop ((n + 1) * k) = [] := List.drop_eq_nil_of_le (by rw [h x (by simp), Nat.add_mul]; omega)
    rw [e, List.nil_append]
    congr 1
    rw [Nat.add_mul]
    omega
theorem flat_take {α : Type} {k : Nat} : ∀ (n : Nat) (xs : List (List α)), (∀ e ∈ xs, e.length = k) → (xs.take n).flatten = xs.flatten.take (n * k)
  | 0, xs, _ => by simp
  | n + 1, [], _ => by simp
  | n + 1, x :: xs, h => by
    rw [List.take_succ_cons, List.flatten_cons, flat_take n xs (fun e he => h e (by simp [he])), List.flatten_cons, List.take_append, h x (by simp)]
    rw [List.take_of_length_le (l := x) (by rw [h x (by simp), Nat.add_mul]; omega)]
    congr 2
    rw [Nat.add_mul]
    omega
theorem one_arg {R : AV → Value → Prop} {v1 : AV} {args : Array Value} (r : All2 R [v1] args.toList) : ∃ u, args = #[u] ∧ R v1 u := by
  obtain ⟨l⟩ := args
  cases l with
  | nil => exact absurd r.1 (by simp)
  | cons u t =>
    have ht : t = [] := List.eq_nil_of_length_eq_zero (by have := r.1; simp at this; simpa using this.symm)
    subst ht
    exact ⟨u, rfl, r.2 0 _ _ rfl rfl⟩
theorem two_arg {R : AV → Value → Prop} {v1 v2 : AV} {args : Array Value} (r : All2 R [v1, v2] args.toList) : ∃ u1 u2, args = #[u1, u2] ∧ R v1 u1 ∧ R v2 u2 := by
  obtain ⟨l⟩ := args
  match l, r with
  | [], r => exact absurd r.1 (by simp)
  | [u], r => exact absurd r.1 (by simp)
  | [u1, u2], r => exact ⟨u1, u2, rfl, r.2 0 _ _ rfl rfl, r.2 1 _ _ rfl rfl⟩
  | _ :: _ :: _ :: _, r => exact absurd r.1 (by simp)
theorem run_copyC {P : Program} {w : World} {t e : TypeId} {i : TypeInfo} {b dl dc m c : Nat} {a : Option Addr} {cs : List Value} {ty : TypeId} (hu : P.underlying t = some (.slice e)) (hi : P.info? e = some i) (hl : cs.length = Nat.min m dl * i.size) (hn : a = none → m = 0)
    (hs : ∀ ad, a = some ad → ∀ (j : Nat) x, cs[j]? = some x → w.cell? (ad.add j) = some x) (ht : w.there b 0 cs.length) (h1 : ∀ u ∈ cs, u.oneCell' = true) :
    (Builtin.copy_ #[t, t] ty #[.slice (some ⟨b, 0, none⟩) dl dc, .slice a m c]).run P w = .ok (goInt (Nat.min m dl)) (w.setCells b 0 cs) := by
  have hst := run_storeCells_cells (P := P) b 0 cs 0 w (fun j hj => by simpa using (ht j hj).1) (fun j hj => by simpa using (ht j hj).2) h1
  simp only [Nat.add_zero] at hst
  cases a with
  | none =>
    obtain rfl := hn rfl
    have : cs = [] := List.eq_nil_of_length_eq_zero (by rw [hl]; simp)
    subst this
    simp [Builtin.copy_, run_underlying hu, Builtin.lenOf, sizeOf, typeInfo, hi, Builtin.firstCells, storeCells, World.setCells]
  | some ad =>
    have hf := run_firstCells_some (P := P) w i.size (Nat.min m dl) ad m c cs hl (hs ad rfl)
    simp only [Nat.min_def] at hf hst ⊢
    simp [Builtin.copy_, run_underlying hu, Builtin.lenOf, sizeOf, typeInfo, hi, Nat.min_def, hf, hst]
section
variable {P : Program} {sp : Spec} {nid : Nat → Nat} {w0 w : World} {G W0 : Nat → Prop} {env : Nat → AV} {h h' : AH} {μ : Mu} {a : Act} (g : Good w0 G W0 env h μ a w) {o : Oper} {v : AV} {q : Prop}
include g
set_option maxHeartbeats 1000000 in
theorem out_builtin {c : Call} {b : Builtin} (ho : o.op = .call c) (hb : c.callee = .builtin b) (hr : (aop P sp nid o).run env h = some (v, q, h')) (hq : q) : Out P w0 G W0 h μ w (execOp a.eval o) v h' := by
  simp only [aop, ho, hb] at hr
  obtain ⟨vs, h1, r1⟩ := aevL_run g hr
  have hargs : (c.args.map a.eval).toList = c.args.toList.map a.eval := by simp
  rw [← hargs] at r1
  have hex : ∀ (s : Sem Value) u w', (∀ consts, builtin b c.argTypes o.type consts (c.args.map a.eval) = (do pure (.value (← s)) : Sem Next)) → s.run P w = .ok u w' → (execOp a.eval o).run P w = .ok (.value u) w' := fun s u w' e1 e2 => by
    have : execOp a.eval o = (do pure (.value (← s)) : Sem Next) := by
      simp only [execOp, ho, resolve, hb]
      exact e1 _
    rw [this]
    exact run_v e2
  generalize hA : c.args.map a.eval = args at r1 hex
  clear hr hargs
  split at h1
  · rename_i v1
    obtain ⟨u, hargs, ru⟩ := one_arg r1
    subst hargs
    split at h1
    · rename_i t ht
      have htt : c.argTypes = #[t] := Array.toList_inj.1 (by rw [ht])
      split at h1
      · rename_i s hs
        simp only [AM.run, Option.some.injEq, Prod.mk.injEq] at h1
        obtain ⟨rfl, rfl, rfl⟩ := h1
        have hus : u = .string s := RepD.str_eq ru
        subst hus
        exact Out.pure g.rel (hex (Builtin.len_ c.argTypes o.type #[.string s]) (goInt s.size) w (fun _ => rfl) (by simp [Builtin.len_, htt, run_underlying hs])) (RepD.int _ _)
      · rename_i e hs
        obtain ⟨es, k1, k2⟩ := rowOf_run g.rel ru h1
        simp only [AM.run, Option.some.injEq, Prod.mk.injEq] at k1
        obtain ⟨rfl, rfl, rfl⟩ := k1
        obtain ⟨a1, n1, c1, vs, rfl, rfl, _⟩ := k2
        exact Out.pure g.rel (hex (Builtin.len_ c.argTypes o.type #[.slice a1 es.length c1]) (goInt es.length) w (fun _ => rfl) (by simp [Builtin.len_, htt, run_underlying hs])) (RepD.int _ _)
      · simp [AM.run] at h1
    · simp [AM.run] at h1
  · rename_i y
    obtain ⟨u1, u2, hargs, ru1, ru2⟩ := two_arg r1
    subst hargs
    have hu1 : u1 = .slice none 0 0 := ru1
    subst hu1
    obtain ⟨t, e, ds, ht, hu, hds, k1⟩ := appT_run h1
    obtain ⟨i, z, e1, e2, e3, e4, e5, e6, e7⟩ := elemK_parts hds
    obtain ⟨ys, k2, rw2⟩ := rowOf_run g.rel ru2 k1
    simp only [AM.run] at k2
    split at k2
    · rename_i a1 q1 h3 hm
      split at hm
      · rename_i hun
        simp only [Option.some.injEq, Prod.mk.injEq] at hm
        obtain ⟨rfl, rfl, rfl⟩ := hm
        simp only [Option.some.injEq, Prod.mk.injEq] at k2
        obtain ⟨rfl, rfl, rfl⟩ := k2
        obtain ⟨⟨q0, q1⟩, _⟩ := hq
        obtain ⟨ad, m, cc, news, rfl, rfl, n1, n2, n3, n4⟩ := rw2.news q1 e6
        have hb1 : ys.length * i.bytes ≤ 1000000000 * 100000 := Nat.mul_le_mul q0 e5
        obtain ⟨v', w', m1, m2, m3, m4, m5⟩ := run_append_any (P := P) w (fun _ => True) 0 t o.type e i z ds.length i.bytes hu e1 e2 e4 rfl e3 e6 (.slice none 0 0) 0 [] (World.ownsRow_nil _ _ _ _) ad ys.length cc news n1 n2 n3 (RepD.ones n4) (by simp only [maxLen]; omega) (by rw [Nat.zero_add]; omega) (Nat.zero_le _) (AllRow.nil _ _ _ _) (fun _ _ => trivial) trivial (fun _ _ => trivial) (fun _ _ => trivial)
        rw [Nat.zero_add, List.nil_append] at m2
        obtain ⟨a', c', e'⟩ := ownsRow_slice m2
        exact Out.row (k := ds.length) (vs := news) (ty := e) (w' := w') (v' := v') g.rel hun (hex (Builtin.append_ c.argTypes o.type #[.slice none 0 0, .slice ad ys.length cc]) v' w' (fun _ => rfl) (by rw [ht]; exact m1)) m2 m3
          (fun b hb => (nil_blk m5 e' hb).resolve_left (by simp [Value.ownBlock])) q1 n4
      · cases hm
    · cases k2
  · rename_i q1 y
    obtain ⟨u1, u2, hargs, ru1, ru2⟩ := two_arg r1
    subst hargs
    obtain ⟨hμ, a1, n1, c1, hs1⟩ : μ q1 = some u1 ∧ ∃ a1 n1 c1, u1 = .slice a1 n1 c1 := ru1
    obtain ⟨t, e, ds, ht, hu, hds, k1⟩ := appT_run h1
    obtain ⟨i, z, e1, e2, e3, e4, e5, e6, e7⟩ := elemK_parts hds
    obtain ⟨ys, k2, rw2⟩ := rowOf_run g.rel ru2 k1
    simp only [AM.run] at k2
    split at k2
    · rename_i x hx
      split at k2
      · rename_i es k' e'
        split at k2
        · rename_i hc
          simp only [Bool.and_eq_true] at hc
          have hk := Nat.eq_of_beq_eq_true hc.1
          have he := Nat.eq_of_beq_eq_true hc.2
          subst hk
          subst he
          simp only [AM.run, hx] at k2
          split at k2
          · rename_i aa qq hh hm
            split at hm
            · rename_i hun
              simp only [Option.some.injEq, Prod.mk.injEq] at hm
              obtain ⟨rfl, rfl, rfl⟩ := hm
              simp only [Option.some.injEq, Prod.mk.injEq] at k2
              obtain ⟨rfl, rfl, rfl⟩ := k2
              obtain ⟨⟨q0, q2⟩, _⟩ := hq
              have hun' : h (nid 0) = .unused := by
                by_cases e : nid 0 = q1
                · rw [e, upd_self] at hun; cases hun
                · rwa [upd_ne _ _ e] at hun
              obtain ⟨ad, m, cc, news, rfl, rfl, n1, n2, n3, n4⟩ := rw2.news q2 e6
              have hb1 : (es.length + ys.length) * i.bytes ≤ 1000000000 * 100000 := Nat.mul_le_mul q0 e5
              obtain ⟨u, vs, p1, p2, p3, p4⟩ := g.rel.obj q1 _ hx
              rw [hμ] at p1
              cases p1
              obtain ⟨v', w', m1, m2, m3, m4, m5⟩ := run_append_any (P := P) w (fun _ => True) 0 t o.type e i z ds.length i.bytes hu e1 e2 e4 rfl e3 e6 u1 es.length vs p2 ad ys.length cc news n1 n2 n3 (RepD.ones n4) (by simp only [maxLen]; omega) (by omega) (Nat.zero_le _) (fun _ _ _ _ _ _ _ _ => trivial) (fun _ _ => trivial) trivial (fun _ _ => trivial) (fun _ _ => trivial)
              obtain ⟨a', c', e'⟩ := ownsRow_slice m2
              have hsame : ∀ b, At μ q1 b ↔ u1.ownBlock = some b := fun b => by
                constructor
                · rintro ⟨u, h3, h4⟩
                  rw [hμ] at h3
                  cases h3
                  rwa [blk_own hs1] at h4
                · intro h3
                  exact ⟨u1, hμ, by rw [blk_own hs1]; exact h3⟩
              obtain ⟨R1, K1⟩ := g.rel.pass (w' := w') (v' := v') (es' := es ++ ys) hx hun' hμ m3.os m3.tape m3.output m3.size (fun b hb hn => m3.block b hb (fun e => hn ((hsame b).2 e.symm)))
                (fun b hb => (nil_blk m5 e' hb).symm.imp_right fun h3 => (hsame b).2 h3)
                (fun K => ⟨v', vs ++ news, upd_self _ _ _, by rw [List.length_append]; exact m2, flat_append_len p3 q2, by
                  rw [List.flatten_append]
                  exact (p4.mono fun _ _ h => h.mono K).append (n4.mono fun _ _ h => h.mono K)⟩)
              exact ⟨_, v', w', _, hex (Builtin.append_ c.argTypes o.type #[u1, .slice ad ys.length cc]) v' w' (fun _ => rfl) (by rw [ht]; exact m1), .inl rfl, R1, mu_upd g.rel hun', K1, upd_self _ _ _, a', _, c', e'⟩
            · cases hm
          · cases k2
        · simp [AM.run] at k2
      · simp [AM.run] at k2
    · cases k2
  · rename_i q1 y
    obtain ⟨u1, u2, hargs, ru1, ru2⟩ := two_arg r1
    subst hargs
    obtain ⟨hμ, a1, n1, c1, hs1⟩ : μ q1 = some u1 ∧ ∃ a1 n1 c1, u1 = .slice a1 n1 c1 := ru1
    obtain ⟨t, e, ds, ht, hu, hds, k1⟩ := appT_run h1
    obtain ⟨i, z, e1, e2, e3, e4, e5, e6, e7⟩ := elemK_parts hds
    obtain ⟨ys, k2, rw2⟩ := rowOf_run g.rel ru2 k1
    simp only [AM.run] at k2
    split at k2
    · rename_i x hx
      split at k2
      · rename_i es k' e'
        split at k2
        · rename_i hc
          simp only [Bool.and_eq_true] at hc
          have hk := Nat.eq_of_beq_eq_true hc.1
          have he := Nat.eq_of_beq_eq_true hc.2
          subst hk
          subst he
          simp only [AM.run, hx, Option.some.injEq, Prod.mk.injEq] at k2
          obtain ⟨rfl, rfl, rfl⟩ := k2
          obtain ⟨q2, _⟩ := hq
          obtain ⟨ad, m, cc, news, rfl, rfl, n1, n2, n3, n4⟩ := rw2.news q2 e6
          obtain ⟨u, vs, p1, p2, p3, p4⟩ := g.rel.obj q1 _ hx
          rw [hμ] at p1
          cases p1
          have hflat : (ys.take es.length ++ es.drop ys.length).flatten = setA es.flatten 0 ((ys.flatten).take (Nat.min ys.length es.length * ds.length)) := by
            rw [List.flatten_append, flat_take _ _ q2, flat_drop _ _ p3]
            rw [setA_zero _ _ (by rw [List.length_take, flatG_len _ p3]; have := Nat.mul_le_mul_right ds.length (show Nat.min ys.length es.length ≤ es.length from Nat.min_le_right ys.length es.length); omega)]
            have hl1 := flatG_len _ q2
            have hl2 := flatG_len _ p3
            rw [List.length_take, hl1]
            by_cases hle : ys.length ≤ es.length
            · have : Nat.min ys.length es.length = ys.length := Nat.min_eq_left hle
              rw [this, Nat.min_self, List.take_of_length_le (l := ys.flatten) (by rw [hl1]; exact Nat.mul_le_mul_right _ hle), List.take_of_length_le (by rw [hl1]; exact Nat.le_refl _)]
            · have : Nat.min ys.length es.length = es.length := Nat.min_eq_right (by omega)
              rw [this, Nat.min_eq_left (Nat.mul_le_mul_right _ (by omega)), List.drop_eq_nil_of_le (by rw [hl2]; exact Nat.mul_le_mul_right _ (by omega)), List.drop_eq_nil_of_le (by rw [hl2]; exact Nat.le_refl _)]
          have hlen : (ys.take es.length ++ es.drop ys.length).length = es.length := by simp; omega
          have hks : ∀ x ∈ ys.take es.length ++ es.drop ys.length, x.length = ds.length := flat_append_len (fun x hx => q2 x (List.mem_of_mem_take hx)) (fun x hx => p3 x (List.mem_of_mem_drop hx))
          have hD : All2 (RepD w (WrOf h μ W0)) (ys.flatten.take (Nat.min ys.length es.length * ds.length)) (news.take (Nat.min ys.length es.length * ds.length)) := by
            have := n4.sub 0 (Nat.min ys.length es.length * ds.length)
            simpa using this
          have hcl : (news.take (Nat.min ys.length es.length * ds.length)).length = Nat.min ys.length es.length * i.size := by
            rw [List.length_take, n1, e4]
            exact Nat.min_eq_left (Nat.mul_le_mul_right _ (Nat.min_le_left _ _))
          rcases p2.2 with ⟨e8, hn⟩ | ⟨gg, cap, cur, e8, _, hg, hnc, hcm, hcs, htk⟩
          · subst e8
            have hes : es = [] := List.eq_nil_of_length_eq_zero hn
            subst hes
            have hrun : (Builtin.copy_ #[t, t] o.type #[.slice none 0 0, .slice ad ys.length cc]).run P w = .ok (goInt 0) w := by
              cases ad with
              | none =>
                have := n3 rfl
                simp [Builtin.copy_, run_underlying hu, Builtin.lenOf, sizeOf, typeInfo, e1, Builtin.firstCells]
              | some ad =>
                have hf := run_firstCells_some (P := P) w i.size 0 ad ys.length cc [] (by simp) (by simp)
                simp [Builtin.copy_, run_underlying hu, Builtin.lenOf, sizeOf, typeInfo, e1, hf, Nat.min_def]
            have hnil : ys.take ([] : List (List DV)).length ++ ([] : List (List DV)).drop ys.length = [] := by simp
            obtain ⟨R1, K1⟩ := g.rel.write (w' := w) (x' := .row (ys.take ([] : List (List DV)).length ++ ([] : List (List DV)).drop ys.length) ds.length e false) hx rfl rfl rfl rfl (Nat.le_refl _) (fun _ _ _ => rfl)
              (fun K => ⟨_, vs, hμ, by rw [hnil]; exact p2, by rw [hnil]; simp, by
                have := p4.mono (fun _ _ h => h.mono K)
                rw [hnil] at this ⊢
                exact this⟩)
            exact ⟨_, _, w, μ, hex (Builtin.copy_ c.argTypes o.type #[.slice none 0 0, .slice ad ys.length cc]) (goInt 0) w (fun _ => rfl) (by rw [ht]; exact hrun), .inl rfl, R1, MuLe.refl _, K1, by
              rw [show ((min ys.length ([] : List (List DV)).length : Nat) : Int) = 0 by simp]
              exact RepD.int _ _⟩
          · subst e8
            have hroom : (news.take (Nat.min ys.length es.length * ds.length)).length ≤ es.length * ds.length := by
              rw [hcl, e4]; exact Nat.mul_le_mul_right _ (Nat.min_le_right _ _)
            have hcap : es.length * ds.length ≤ cur.size := by rw [hcs]; exact Nat.mul_le_mul_right _ hnc
            have hrun := run_copyC (P := P) (w := w) (t := t) (e := e) (i := i) (b := gg) (dl := es.length) (dc := cap) (m := ys.length) (c := cc) (a := ad) (cs := news.take (Nat.min ys.length es.length * ds.length)) (ty := o.type) hu e1 hcl n3
              (fun ad' had j x hj => n2 ad' had j x (by rw [List.getElem?_take] at hj; split at hj <;> first | exact hj | cases hj)) (there_at hg (by omega)) (RepD.ones hD)
            obtain ⟨m1, m2⟩ := setCells_heap (news.take (Nat.min ys.length es.length * ds.length)) w cur.toList 0 (by simpa using hg)
            obtain ⟨R1, K1⟩ := g.rel.write (w' := w.setCells gg 0 (news.take (Nat.min ys.length es.length * ds.length))) (x' := .row (ys.take es.length ++ es.drop ys.length) ds.length e false) hx rfl m2.os m2.tape m2.output m2.size
              (fun b' hb' hn => m2.block b' hb' (fun e => by cases e; exact hn ⟨_, hμ, rfl⟩))
              (fun K => ⟨_, setA vs 0 (news.take (Nat.min ys.length es.length * ds.length)), hμ, by
                rw [hlen]
                exact ⟨by rw [setA_len]; exact p2.1, .inr ⟨gg, cap, _, rfl, Nat.zero_le _, m1, hnc, hcm, by simp [setA_len, hcs], by
                  simp only
                  rw [setA_take _ _ _ _ (by omega) (by simpa using hcap), htk]⟩⟩, hks, by
                rw [hflat]
                exact setA_all2 (p4.mono fun _ _ h => h.mono K) (hD.mono fun _ _ h => h.mono K)⟩)
            exact ⟨_, _, _, μ, hex (Builtin.copy_ c.argTypes o.type #[.slice (some ⟨gg, 0, none⟩) es.length cap, .slice ad ys.length cc]) _ _ (fun _ => rfl) (by rw [ht]; exact hrun), .inl rfl, R1, MuLe.refl _, K1, RepD.int _ _⟩
        · simp [AM.run] at k2
      · simp [AM.run] at k2
    · cases k2
  · rename_i k a1 k' b1
    obtain ⟨u1, u2, hargs, ru1, ru2⟩ := two_arg r1
    subst hargs
    split at h1
    · rename_i hk
      have hk := ikN_inj (Nat.eq_of_beq_eq_true hk)
      subst hk
      simp only [AM.run, Option.some.injEq, Prod.mk.injEq] at h1
      obtain ⟨rfl, rfl, rfl⟩ := h1
      have x1 : u1 = .int k a1 := RepD.int_eq ru1
      have x2 : u2 = .int k b1 := RepD.int_eq ru2
      subst x1
      subst x2
      exact Out.pure g.rel (hex (Builtin.max_ c.argTypes o.type #[.int k a1, .int k b1]) (.int k (if b1 > a1 then b1 else a1)) w (fun _ => rfl) (by simp [Builtin.max_, Builtin.max2])) (RepD.int _ _)
    · simp [AM.run] at h1
  · simp [AM.run] at h1
end
end Go.Proofs.YtpgeopefamomnaeGreat

namespace Go.Proofs.YtpgeopefamomnaeGreat
open Go.RowKit
set_option linter.unusedVariables false
theorem run_sliceX {P : Program} {w : World} {t e : TypeId} {a : Option Addr} {n cap : Nat} {i : TypeInfo} (hu : P.underlying t = some (.slice e)) (hi : P.info? e = some i) (lo hi' : Option Value) (l h : Int) (hlo : lo = none ∧ l = 0 ∨ ∃ k, lo = some (.int k l)) (hhi : hi' = none ∧ h = n ∨ ∃ k, hi' = some (.int k h))
    (h0 : 0 ≤ l) (h1 : l ≤ h) (h2 : h ≤ n) (hnc : n ≤ cap) : (Instr.sliceAt t (.slice a n cap) lo hi' none).run P w = .ok (.slice (if cap = l.toNat then a else a.map (·.add (l.toNat * i.size))) (h.toNat - l.toNat) (cap - l.toNat)) w := by
  have b1 : ∀ k code, (Instr.sliceBound (.int k h) cap code).run P w = .ok h.toNat w := fun k code => run_sliceBound (P := P) w k h cap code (by omega) (by omega)
  have b2 : ∀ k code, (Instr.sliceBound (.int k l) h.toNat code).run P w = .ok l.toNat w := fun k code => run_sliceBound (P := P) w k l h.toNat code h0 (by omega)
  have sz : (sizeOf e).run P w = .ok i.size w := by simp [sizeOf, typeInfo, hi]
  rcases hlo with ⟨rfl, rfl⟩ | ⟨k, rfl⟩ <;> rcases hhi with ⟨rfl, rfl⟩ | ⟨k', rfl⟩ <;> (try simp only [Int.toNat_natCast] at b1 b2) <;>
    simp [Instr.sliceAt, Instr.slice, Instr.sliceBounds, run_underlying hu, Sem.run_bind, Sem.run_pure, b1, b2, sz]
theorem optInt_run {α : Type} {w0 w : World} {G W0 : Nat → Prop} {env : Nat → AV} {h : AH} {μ : Mu} {a : Act} (g : ∀ t, RepA w (WrOf h μ W0) μ (env t) (a.tmps.getD t undef)) {x : Option Operand} {d : Int} {k : Int → AM α} {r : α × Prop × AH} (hr : (optInt x d k).run env h = some r) :
    ∃ n, (k n).run env h = some r ∧ (x.map a.eval = none ∧ n = d ∨ ∃ kk, x.map a.eval = some (.int kk n)) := by
  cases x with
  | none => exact ⟨d, hr, .inl ⟨rfl, rfl⟩⟩
  | some y =>
    simp only [optInt] at hr
    have go : ∀ va, (match va with | AV.c (CV.d (DV.int _ n)) => k n | _ => AM.fail).run env h = some r → RepA w (WrOf h μ W0) μ va (a.eval y) → ∃ n, (k n).run env h = some r ∧ (Option.map a.eval (some y) = none ∧ n = d ∨ ∃ kk, Option.map a.eval (some y) = some (.int kk n)) := fun va h1 r1 => by
      split at h1
      · rename_i kk n
        have e : a.eval y = .int kk n := RepD.int_eq r1
        exact ⟨n, h1, .inr ⟨kk, by simp [e]⟩⟩
      · simp [AM.run] at h1
    cases y with
    | tmp t => exact go (env t) hr (g t)
    | const v =>
      simp only [aev] at hr
      split at hr
      · rename_i b hb; exact go b hr (avOf_rep hb)
      · simp [AM.run] at hr
    | func f => simp [aev, AM.run] at hr
    | global _ => simp [aev, AM.run] at hr
theorem out_slice {P : Program} {sp : Spec} {nid : Nat → Nat} {w0 w : World} {G W0 : Nat → Prop} {env : Nat → AV} {h h' : AH} {μ : Mu} {a : Act} (g : Good w0 G W0 env h μ a w) {o : Oper} {v : AV} {q : Prop} {t : TypeId} {x : Operand} {lo hi mx : Option Operand} (ho : o.op = .slice t x lo hi mx)
    (hr : (aop P sp nid o).run env h = some (v, q, h')) (hq : q) : Out P w0 G W0 h μ w (execOp a.eval o) v h' := by
  cases mx with
  | some m => simp [aop, ho, AM.run] at hr
  | none =>
    simp only [aop, ho] at hr
    obtain ⟨vx, h1, r1⟩ := aev_run g hr
    simp only [execOp, ho]
    split at h1
    · rename_i e c he
      split at h1
      · rename_i hsz
        have hsz := Nat.le_of_ble_eq_true hsz
        obtain ⟨d, h2, k1, R1, K1, D1⟩ := deepK_run g.rel (c := c) (u := a.eval x) r1 h1
        split at k1
        · rename_i es
          have gs : ∀ t, RepA w (WrOf h2 μ W0) μ (env t) (a.tmps.getD t undef) := fun t => (g.slots t).mono K1 (MuLe.refl _)
          obtain ⟨hh, k2, e2⟩ := optInt_run (w0 := w0) (G := G) gs k1
          obtain ⟨ll, k3, e3⟩ := optInt_run (w0 := w0) (G := G) gs k2
          simp only [AM.run, Option.some.injEq, Prod.mk.injEq] at k3
          obtain ⟨rfl, rfl, rfl⟩ := k3
          obtain ⟨⟨q0, q1, q2, q3⟩, _⟩ := hq
          obtain ⟨i, hi, hi2⟩ := szOf_info (P := P) (t := e) (by omega)
          have hu := elemOf_parts he
          generalize hax : a.eval x = ax at D1
          cases D1 with
          | row _ ad n cap k vs p1 p2 p3 p4 p5 p6 p7 =>
            have hrun := run_sliceX (P := P) (w := w) (a := ad) (n := n) (cap := cap) hu hi _ _ ll hh e3 (e2.imp (fun ⟨e, e'⟩ => ⟨e, by rw [e', p1]⟩) id) q0 q1 (by omega) p2
            refine ⟨_, _, w, μ, run_v hrun, .inl rfl, R1, MuLe.refl _, K1, ?_⟩
            have hk : ∀ u ∈ es, u.length = i.size := fun u hu => by rw [q3 u hu, hi2]
            have hfl : ((es.drop ll.toNat).take (hh.toNat - ll.toNat)).flatten = (es.flatten.drop (ll.toNat * i.size)).take ((hh.toNat - ll.toNat) * i.size) := by
              rw [flat_take _ _ (fun u hu => hk u (List.mem_of_mem_drop hu)), flat_drop _ _ hk]
            have hlen : ((es.drop ll.toNat).take (hh.toNat - ll.toNat)).length = hh.toNat - ll.toNat := by simp; omega
            refine .row _ _ _ _ i.size ((vs.drop (ll.toNat * i.size)).take ((hh.toNat - ll.toNat) * i.size)) hlen.symm (by omega) (by omega) (fun u hu => hk u (List.mem_of_mem_drop (List.mem_of_mem_take hu))) (by rw [hfl]; simp [p5]) (fun hne => ?_) (fun j y u hy hu => ?_)
            · have hvs : vs ≠ [] := fun e => by rw [e] at hne; simp at hne
              obtain ⟨b, off, rfl, pb, pc⟩ := p6 hvs
              have hlt : cap ≠ ll.toNat := fun e => by
                have : hh.toNat - ll.toNat = 0 := by omega
                rw [this] at hne
                simp at hne
              refine ⟨b, off + ll.toNat * i.size, by rw [if_neg hlt]; simp [addr_plain'], pb, fun j u hu => ?_⟩
              rw [List.getElem?_take] at hu
              split at hu
              · rw [List.getElem?_drop] at hu
                rw [Nat.add_assoc]
                exact pc _ u hu
              · cases hu
            · rw [hfl, List.getElem?_take] at hy
              rw [List.getElem?_take] at hu
              split at hy
              · rename_i hj
                rw [if_pos hj, List.getElem?_drop] at hu
                rw [List.getElem?_drop] at hy
                exact p7 _ y u hy hu
              · cases hy
        · simp [AM.run] at k1
      · simp [AM.run] at h1
    · simp [AM.run] at h1
end Go.Proofs.YtpgeopefamomnaeGreat

namespace Go.Proofs.YtpgeopefamomnaeGreat
open Go.RowKit
set_option linter.unusedVariables false
/-- What a call leaves: as an operation does. -/
def CallsTo (P : Program) (w0 : World) (G W0 : Nat → Prop) (h : AH) (μ : Mu) (w : World) (K : FuncId) (args : Array Value) (v : AV) (h' : AH) : Prop :=
  Calls P K args w fun e w' => ∃ u μ', e = .returned u ∧ RelH w0 G W0 h' μ' w' ∧ MuLe μ μ' ∧ Keeps w w' (WrOf h μ W0) (WrOf h' μ' W0) ∧ RepA w' (WrOf h' μ' W0) μ' v u
/-- What functions are said to do they do. -/
def SpecOK (P : Program) (sp : Spec) : Prop :=
  ∀ (K : FuncId) (nid : Nat → Nat) (xs : List AV) (args : Array Value) (env : Nat → AV) (h : AH) (μ : Mu) (w0 w : World) (G W0 : Nat → Prop) (v : AV) (q : Prop) (h' : AH),
    RelH w0 G W0 h μ w → All2 (RepA w (WrOf h μ W0) μ) xs args.toList → (sp K nid xs).run env h = some (v, q, h') → q →
    (∃ fn, P.funcs[K]? = some fn ∧ fn.name ≠ "runtime.NumGoroutine" ∧ fn.body.isSome = true) ∧ CallsTo P w0 G W0 h μ w K args v h'
section
variable {P : Program} {sp : Spec} {nid : Nat → Nat} {w0 w : World} {G W0 : Nat → Prop} {env : Nat → AV} {h h' : AH} {μ : Mu} {a : Act} (g : Good w0 G W0 env h μ a w) {o : Oper} {v : AV} {q : Prop}
include g
theorem out_call {c : Call} {f : Operand} (hS : SpecOK P sp) (ho : o.op = .call c) (hb : c.callee = .value f) (hr : (aop P sp nid o).run env h = some (v, q, h')) (hq : q) :
    ∃ K args, (execOp a.eval o).run P w = .ok (.enter K args) w ∧ CallsTo P w0 G W0 h μ w K args v h' := by
  simp only [aop, ho, hb] at hr
  obtain ⟨vf, h1, r1⟩ := aev_run g hr
  obtain ⟨vs, h2, r2⟩ := aevL_run g h1
  split at h2
  · rename_i K caps
    obtain ⟨ps, he, hps⟩ : ∃ ps : List Value, a.eval f = .func (.func K) #[] ps.toArray ∧ All2 (fun (o : Nat) (p : Value) => ∃ b, At μ o b ∧ p = .pointer (some ⟨b, 0, none⟩)) caps ps := r1
    have hcaps : All2 (RepA w (WrOf h μ W0) μ) (caps.map fun q => .c (.ptr q 0 0 0)) ps := ⟨by simp [hps.1], fun i x y hx hy => by
      rw [List.getElem?_map] at hx
      cases hc : caps[i]? with
      | none => rw [hc] at hx; cases hx
      | some o =>
        rw [hc] at hx
        simp at hx
        subst hx
        obtain ⟨b, hb, rfl⟩ := hps.2 i o y hc hy
        exact ⟨b, hb, by simp⟩⟩
    have hA : (c.args.map a.eval ++ ps.toArray).toList = c.args.toList.map a.eval ++ ps := by simp
    obtain ⟨⟨fn, e1, e2, e3⟩, hc⟩ := hS K nid _ (c.args.map a.eval ++ ps.toArray) env h μ w0 w G W0 v q h' g.rel (by rw [hA]; exact r2.append hcaps) h2 hq
    refine ⟨K, _, ?_, hc⟩
    simp [execOp, ho, resolve, hb, he, Deferred.ofValue, invoke, callFunc, e1, e2]
    intro hn
    rw [hn] at e3
    cases e3
  · simp [AM.run] at h2
end
/-- What an operation leaves. -/
def Next' (w0 : World) (G W0 : Nat → Prop) (h : AH) (μ : Mu) (w : World) (a : Act) (o : Oper) (v : AV) (h' : AH) (a' : Act) (w' : World) : Prop :=
  ∃ u μ', a' = a.put o.dst u ∧ RelH w0 G W0 h' μ' w' ∧ MuLe μ μ' ∧ Keeps w w' (WrOf h μ W0) (WrOf h' μ' W0) ∧ RepA w' (WrOf h' μ' W0) μ' v u
theorem op_wp {P : Program} {sp : Spec} {nid : Nat → Nat} {w0 w : World} {G W0 : Nat → Prop} {env : Nat → AV} {h h' : AH} {μ : Mu} {a : Act} (hS : SpecOK P sp) (g : Good w0 G W0 env h μ a w) {o : Oper} {v : AV} {q : Prop}
    (hr : (aop P sp nid o).run env h = some (v, q, h')) (hq : q) {K : Act → World → Prop} {Q : Exit → Act → World → Prop} (hK : ∀ a' w', Next' w0 G W0 h μ w a o v h' a' w' → K a' w') : o.wp P a w K Q := by
  have fin : Out P w0 G W0 h μ w (execOp a.eval o) v h' → o.wp P a w K Q := fun ⟨nx, u, w', μ', e1, e2, e3⟩ => by
    unfold Oper.wp
    rw [e1]
    rcases e2 with rfl | ⟨rfl, rfl⟩
    · exact hK _ _ ⟨u, μ', rfl, e3⟩
    · exact hK _ _ ⟨undef, μ', rfl, e3⟩
  cases ho : o.op with
  | move x => exact fin (out_move g (.inl ho) hr hq)
  | assign x => exact fin (out_move g (.inr ho) hr hq)
  | pick c x y => exact fin (out_pick g ho hr hq)
  | alloc t => exact fin (out_alloc g ho hr hq)
  | box t x => exact fin (out_box g ho hr hq)
  | build t ps => exact fin (out_build g ho hr hq)
  | buildSlice t n ps => exact fin (out_buildSlice g ho hr hq)
  | load t p => exact fin (out_load g ho hr hq)
  | store t p x => exact fin (out_store g ho hr hq)
  | nilCheck x => exact fin (out_nilCheck g ho hr hq)
  | binOp op xt x y yt => exact fin (out_bin g ho hr hq)
  | unOp op xt x => exact fin (out_un g ho hr hq)
  | convert s t x => exact fin (out_conv g ho hr hq)
  | makeFunc fn f c => exact fin (out_makeFunc g ho hr hq)
  | makeSlice t l c => exact fin (out_makeSlice g ho hr hq)
  | slice t x lo hi mx => exact fin (out_slice g ho hr hq)
  | fieldAddr s x f => exact fin (out_fieldAddr g ho hr hq)
  | field s x f => exact fin (out_field g ho hr hq)
  | indexAddr t x i => exact fin (out_index g ho hr hq)
  | extract t i => exact fin (out_extract g ho hr hq)
  | call c =>
    cases hb : c.callee with
    | builtin b => exact fin (out_builtin g ho hb hr hq)
    | value f =>
      obtain ⟨F, args, e1, e2⟩ := out_call g hS ho hb hr hq
      unfold Oper.wp
      rw [e1]
      refine Calls.mono e2 fun e w' ⟨u, μ', h1, h2⟩ => ?_
      subst h1
      exact hK _ _ ⟨u, μ', rfl, h2⟩
    | invoke r m => simp [aop, ho, hb, AM.run] at hr
  | insert _ _ _ _ => simp [aop, ho, AM.run] at hr
  | ready _ => simp [aop, ho, AM.run] at hr
  | waits _ => simp [aop, ho, AM.run] at hr
  | sliceToArrayPointer _ _ => simp [aop, ho, AM.run] at hr
  | makeInterface _ _ => simp [aop, ho, AM.run] at hr
  | makeMap _ _ => simp [aop, ho, AM.run] at hr
  | makeChan _ _ => simp [aop, ho, AM.run] at hr
  | index _ _ _ => simp [aop, ho, AM.run] at hr
  | lookup _ _ _ _ => simp [aop, ho, AM.run] at hr
  | mapUpdate _ _ _ _ => simp [aop, ho, AM.run] at hr
  | mapEntry _ _ _ => simp [aop, ho, AM.run] at hr
  | entryStore _ _ _ _ => simp [aop, ho, AM.run] at hr
  | range _ _ => simp [aop, ho, AM.run] at hr
  | next _ _ => simp [aop, ho, AM.run] at hr
  | entry _ => simp [aop, ho, AM.run] at hr
  | typeAssert _ _ _ _ => simp [aop, ho, AM.run] at hr
  | go _ => simp [aop, ho, AM.run] at hr
  | defer _ => simp [aop, ho, AM.run] at hr
  | panic _ => simp [aop, ho, AM.run] at hr
  | send _ _ => simp [aop, ho, AM.run] at hr
  | recv _ _ _ => simp [aop, ho, AM.run] at hr
  | select _ _ => simp [aop, ho, AM.run] at hr
/-- Slots, what is owned, and how many slots there are. -/
structure Good' (w0 : World) (G W0 : Nat → Prop) (μ0 : Mu) (h0 : AH) (N : Nat) (env : Nat → AV) (h : AH) (a : Act) (w : World) : Prop where
  good : ∃ μ, Good w0 G W0 env h μ a w ∧ MuLe μ0 μ ∧ Keeps w0 w (WrOf h0 μ0 W0) (WrOf h μ W0)
  size : a.tmps.size = N
  defers : a.defers = []
def putE (env : Nat → AV) (d : Option Tmp) (v : AV) : Nat → AV := match d with
  | some d => upd env d v
  | none => env
theorem put_getD {a : Act} {d t : Nat} {u : Value} (hd : d < a.tmps.size) : (a.put (some d) u).tmps.getD t undef = if t = d then u else a.tmps.getD t undef := by
  simp only [Act.put, Array.getD_eq_getD_getElem?]
  by_cases e : t = d
  · subst e; simp [hd]
  · rw [if_neg e, Array.getElem?_setIfInBounds_ne (Ne.symm e)]
theorem good_put {w0 w w' : World} {G W0 : Nat → Prop} {env : Nat → AV} {h h' : AH} {μ μ' : Mu} {a : Act} {d : Option Tmp} {v : AV} {u : Value} (g : Good w0 G W0 env h μ a w) (hN : ∀ t, d = some t → t < a.tmps.size)
    (R : RelH w0 G W0 h' μ' w') (hm : MuLe μ μ') (hk : Keeps w w' (WrOf h μ W0) (WrOf h' μ' W0)) (hv : RepA w' (WrOf h' μ' W0) μ' v u) : Good w0 G W0 (putE env d v) h' μ' (a.put d u) w' := by
  refine ⟨R, fun t => ?_⟩
  cases d with
  | none => exact (g.slots t).mono hk hm
  | some d =>
    rw [put_getD (hN d rfl)]
    simp only [putE]
    by_cases e : t = d
    · subst e; rw [if_pos rfl, upd_self]; exact hv
    · rw [if_neg e, upd_ne _ _ e]; exact (g.slots t).mono hk hm
end Go.Proofs.YtpgeopefamomnaeGreat

namespace Go.Proofs.YtpgeopefamomnaeGreat
open Go.RowKit
set_option linter.unusedVariables false
abbrev Env := Nat → AV
abbrev OLog := List (Nat × Bool)
abbrev Log := List Nat × OLog
/-- What such a call comes to: its answer, what it asks for, what is owned then, what it touches. -/
abbrev CS := FuncId → Nat → List AV → AH → Option (AV × Prop × AH × OLog)
/-- The same, one way at a time. -/
abbrev WS := FuncId → Nat → List AV → AH → (AV → AH → OLog → Prop) → Prop
structure Inl where
  sp : Spec
  inl : FuncId → Bool
  cs : CS
  ws : WS
structure InlOK (P : Program) (X : Inl) : Prop where
  sp : SpecOK P X.sp
  frame : ∀ {K b xs h v q h' L}, X.cs K b xs h = some (v, q, h', L) → ∀ o, ¬ written L o → h' o = h o
  agree : ∀ {K b xs h v q h' L} (h2 : AH), X.cs K b xs h = some (v, q, h', L) → (∀ o, touched L o → h2 o = h o) → ∃ h2', X.cs K b xs h2 = some (v, q, h2', L) ∧ ∀ o, (written L o → h2' o = h' o) ∧ (¬ written L o → h2' o = h2 o)
  calls : ∀ {K b xs args h μ w0 w G W0 v q h' L}, RelH w0 G W0 h μ w → All2 (RepA w (WrOf h μ W0) μ) xs args.toList → X.cs K b xs h = some (v, q, h', L) → q →
    (∃ fn, P.funcs[K]? = some fn ∧ fn.name ≠ "runtime.NumGoroutine" ∧ fn.body.isSome = true) ∧ CallsTo P w0 G W0 h μ w K args v h'
  iff : ∀ {K b xs h} {k : AV → AH → OLog → Prop}, X.ws K b xs h k ↔ ∃ v q h' L, X.cs K b xs h = some (v, q, h', L) ∧ q ∧ k v h' L
def inl0 (sp : Spec) : Inl := ⟨sp, fun _ => false, fun _ _ _ _ => none, fun _ _ _ _ _ => False⟩
theorem inl0_ok {P : Program} {sp : Spec} (h : SpecOK P sp) : InlOK P (inl0 sp) where
  sp := h
  frame := fun h => by cases h
  agree := fun _ h => by cases h
  calls := fun _ _ h => by cases h
  iff := ⟨fun h => h.elim, fun ⟨_, _, _, _, h, _⟩ => by cases h⟩
def inlA (o : Oper) : Option (Call × Operand) := match o.op with
  | .call c => match c.callee with
    | .value f => some (c, f)
    | _ => none
  | _ => none
def evA (env : Env) : Operand → Option AV
  | .tmp t => some (env t)
  | .const v => avOf v
  | .func f => some (.c (.clo f []))
  | .global _ => none
def evL (env : Env) : List Operand → Option (List AV)
  | [] => some []
  | x :: r => match evA env x, evL env r with
    | some v, some vs => some (v :: vs)
    | _, _ => none
def slotsO : Operand → List Nat
  | .tmp t => [t]
  | _ => []
def slotsL : List Operand → List Nat
  | [] => []
  | .tmp t :: r => t :: slotsL r
  | _ :: r => slotsL r
theorem slotsL_cons (x : Operand) (r : List Operand) : slotsL (x :: r) = slotsO x ++ slotsL r := by cases x <;> rfl
theorem evA_agree {env env2 : Env} {x : Operand} (h : ∀ t ∈ slotsO x, env2 t = env t) : evA env2 x = evA env x := by
  cases x with
  | tmp t => simp only [evA, h t (by simp [slotsO])]
  | const v => rfl
  | func f => rfl
  | global g => rfl
theorem evL_agree {env env2 : Env} : ∀ {xs : List Operand}, (∀ t ∈ slotsL xs, env2 t = env t) → evL env2 xs = evL env xs
  | [], _ => rfl
  | x :: r, h => by
    simp only [evL]
    rw [evA_agree fun t ht => h t (by rw [slotsL_cons]; exact List.mem_append_left _ ht), evL_agree fun t ht => h t (by rw [slotsL_cons]; exact List.mem_append_right _ ht)]
section
variable {w0 w : World} {G W0 : Nat → Prop} {env : Env} {h : AH} {μ : Mu} {a : Act} (g : Good w0 G W0 env h μ a w)
include g
theorem evA_rep {x : Operand} {v : AV} (hv : evA env x = some v) : RepA w (WrOf h μ W0) μ v (a.eval x) := by
  cases x with
  | tmp t => simp only [evA, Option.some.injEq] at hv; subst hv; exact g.slots t
  | const v => exact avOf_rep hv
  | func f => simp only [evA, Option.some.injEq] at hv; subst hv; exact ⟨[], rfl, All2.nil⟩
  | global _ => cases hv
theorem evL_rep : ∀ {xs : List Operand} {vs : List AV}, evL env xs = some vs → All2 (RepA w (WrOf h μ W0) μ) vs (xs.map a.eval)
  | [], vs, hv => by simp only [evL, Option.some.injEq] at hv; subst hv; exact All2.nil
  | x :: r, vs, hv => by
    simp only [evL] at hv
    split at hv
    · rename_i v us h1 h2
      simp only [Option.some.injEq] at hv
      subst hv
      exact All2.cons (evA_rep g h1) (evL_rep h2)
    · cases hv
end
section
def forceN (n : Nat) (K : Nat → Prop) : Prop := match n with
  | 0 => K 0
  | m + 1 => K (m + 1)
def forceD (x : DV) (K : DV → Prop) : Prop := match x with
  | .int k n => K (.int k n)
  | .bool b => K (.bool b)
  | .str s => K (.str s)
  | .row es => K (.row es)
def forceC (c : CV) (K : CV → Prop) : Prop := match c with
  | .d x => forceD x fun x => K (.d x)
  | .own o => K (.own o)
  | .nils => K .nils
  | .ptr o i off k => K (.ptr o i off k)
  | .dp es i off k => K (.dp es i off k)
  | .clo f caps => K (.clo f caps)
  | .undef => K .undef
def forceCs : List CV → (List CV → Prop) → Prop
  | [], K => K []
  | c :: r, K => forceC c fun c => forceCs r fun r => K (c :: r)
def forceS (v : AV) (K : AV → Prop) : Prop := match v with
  | .c x => forceC x fun x => K (.c x)
  | .agg cs => forceCs cs fun cs => K (.agg cs)
  | .tup vs => K (.tup vs)
def forceL : List AV → (List AV → Prop) → Prop
  | [], K => K []
  | c :: r, K => forceS c fun c => forceL r fun r => K (c :: r)
def forceA (v : AV) (K : AV → Prop) : Prop := match v with
  | .c x => forceC x fun x => K (.c x)
  | .agg cs => forceCs cs fun cs => K (.agg cs)
  | .tup vs => forceL vs fun vs => K (.tup vs)
def forceO (x : AO) (K : AO → Prop) : Prop := match x with
  | .box cs ty => forceCs cs fun cs => K (.box cs ty)
  | .row es k ty fz => K (.row es k ty fz)
/-- What is laid open already, at its head. -/
def headA (v : AV) (K : AV → Prop) : Prop := match v with
  | .c x => K (.c x)
  | .agg cs => K (.agg cs)
  | .tup vs => K (.tup vs)
theorem forceN_eq (n : Nat) (K : Nat → Prop) : forceN n K = K n := by cases n <;> rfl
theorem forceD_eq (x : DV) (K : DV → Prop) : forceD x K = K x := by cases x <;> rfl
theorem forceC_eq (c : CV) (K : CV → Prop) : forceC c K = K c := by cases c <;> simp only [forceC, forceD_eq]
theorem forceCs_eq : ∀ (cs : List CV) (K : List CV → Prop), forceCs cs K = K cs
  | [], K => rfl
  | c :: r, K => by simp only [forceCs, forceC_eq, forceCs_eq r]
theorem forceS_eq (v : AV) (K : AV → Prop) : forceS v K = K v := by cases v <;> simp only [forceS, forceC_eq, forceCs_eq]
theorem forceL_eq : ∀ (vs : List AV) (K : List AV → Prop), forceL vs K = K vs
  | [], K => rfl
  | c :: r, K => by simp only [forceL, forceS_eq, forceL_eq r]
theorem forceA_eq (v : AV) (K : AV → Prop) : forceA v K = K v := by cases v <;> simp only [forceA, forceC_eq, forceCs_eq, forceL_eq]
theorem forceO_eq (x : AO) (K : AO → Prop) : forceO x K = K x := by cases x <;> simp only [forceO, forceCs_eq, forceN_eq]
theorem headA_eq (v : AV) (K : AV → Prop) : headA v K = K v := by cases v <;> rfl
end
def AM.wpF (env : Env) : AM AV → AH → (AV → AH → Log → Prop) → Prop
  | .ret a, h, K => forceA a fun a => K a h ([], [])
  | .fail, _, _ => False
  | .slot t k, h, K => headA (env t) fun v => (k v).wpF env h fun a h' L => K a h' (t :: L.1, L.2)
  | .obj o k, h, K => match h o with
    | .live x => (k x).wpF env h fun a h' L => K a h' (L.1, (o, false) :: L.2)
    | _ => False
  | .put o x k, h, K => match h o with
    | .live _ => forceO x fun x => k.wpF env (upd h o (.live x)) fun a h' L => K a h' (L.1, (o, true) :: L.2)
    | _ => False
  | .kill o k, h, K => match h o with
    | .live _ => k.wpF env (upd h o .dead) fun a h' L => K a h' (L.1, (o, true) :: L.2)
    | _ => False
  | .new o x k, h, K => match h o with
    | .unused => forceO x fun x => k.wpF env (upd h o (.live x)) fun a h' L => K a h' (L.1, (o, true) :: L.2)
    | _ => False
  | .need p k, h, K => p ∧ k.wpF env h K
theorem AM.wpF_iff {env : Env} : ∀ (p : AM AV) (h : AH) (K : AV → AH → Log → Prop), p.wpF env h K ↔ ∃ v q h', p.run env h = some (v, q, h') ∧ q ∧ K v h' (p.log env h)
  | .ret a, h, K => by
    simp only [AM.wpF, AM.run, AM.log, forceA_eq]
    exact ⟨fun hk => ⟨_, _, _, rfl, trivial, hk⟩, fun ⟨_, _, _, e, _, hk⟩ => by cases e; exact hk⟩
  | .fail, h, K => by simp [AM.wpF, AM.run]
  | .slot t k, h, K => by
    simp only [AM.wpF, AM.run, AM.log, headA_eq]
    exact AM.wpF_iff (k (env t)) h _
  | .obj o k, h, K => by
    simp only [AM.wpF, AM.run, AM.log]
    cases hx : h o with
    | live x => exact AM.wpF_iff (k x) h _
    | dead => simp
    | unused => simp
  | .put o x k, h, K => by
    simp only [AM.wpF, AM.run, AM.log]
    cases hx : h o with
    | live y => simp only [forceO_eq]; exact AM.wpF_iff k _ _
    | dead => simp
    | unused => simp
  | .kill o k, h, K => by
    simp only [AM.wpF, AM.run, AM.log]
    cases hx : h o with
    | live y => exact AM.wpF_iff k _ _
    | dead => simp
    | unused => simp
  | .new o x k, h, K => by
    simp only [AM.wpF, AM.run, AM.log]
    cases hx : h o with
    | live y => simp
    | dead => simp
    | unused => simp only [forceO_eq]; exact AM.wpF_iff k _ _
  | .need p k, h, K => by
    simp only [AM.wpF, AM.run, AM.log]
    rw [AM.wpF_iff k h K]
    constructor
    · rintro ⟨hp, v, q, h', h1, h2, h3⟩
      exact ⟨v, p ∧ q, h', by rw [h1], ⟨hp, h2⟩, h3⟩
    · rintro ⟨v, q, h', h1, h2, h3⟩
      split at h1
      · rename_i a q1 h1' hr
        cases h1
        exact ⟨h2.1, _, _, _, hr, h2.2, h3⟩
      · cases h1
def runV (P : Program) (sp : Spec) (base i : Nat) (o : Oper) (env : Env) (h : AH) : Option (AV × Prop × AH × Log) := match (aop P sp (fun c => 1000 * base + 8 * i + c) o).run env h with
  | some (v, q, h') => some (v, q, h', (aop P sp (fun c => 1000 * base + 8 * i + c) o).log env h)
  | none => none
abbrev runW (P : Program) (sp : Spec) (base i : Nat) (o : Oper) (env : Env) (h : AH) (k : AV → AH → Log → Prop) : Prop := (aop P sp (fun c => 1000 * base + 8 * i + c) o).wpF env h k
def opV (P : Program) (X : Inl) (base i : Nat) (o : Oper) (env : Env) (h : AH) : Option (AV × Prop × AH × Log) := match inlA o with
  | none => runV P X.sp base i o env h
  | some (c, f) => match evA env f with
    | some (.c (.clo K caps)) => match X.inl K with
      | false => runV P X.sp base i o env h
      | true => match evL env c.args.toList with
        | none => none
        | some vs => match X.cs K (1000 * (1000 * base + 8 * i + 1)) (vs ++ caps.map fun q => .c (.ptr q 0 0 0)) h with
          | some (v, q, h', L) => some (v, q, h', (slotsO f ++ slotsL c.args.toList, L))
          | none => none
    | _ => none
def opW (P : Program) (X : Inl) (base i : Nat) (o : Oper) (env : Env) (h : AH) (k : AV → AH → Log → Prop) : Prop := match inlA o with
  | none => runW P X.sp base i o env h k
  | some (c, f) => match evA env f with
    | some (.c (.clo K caps)) => match X.inl K with
      | false => runW P X.sp base i o env h k
      | true => match evL env c.args.toList with
        | none => False
        | some vs => forceL (vs ++ caps.map fun q => .c (.ptr q 0 0 0)) fun vs => X.ws K (1000 * (1000 * base + 8 * i + 1)) vs h fun v h' L => forceA v fun v => k v h' (slotsO f ++ slotsL c.args.toList, L)
    | _ => False
theorem runW_iff {P : Program} {sp : Spec} {base i : Nat} {o : Oper} {env : Env} {h : AH} {k : AV → AH → Log → Prop} : runW P sp base i o env h k ↔ ∃ v q h' L, runV P sp base i o env h = some (v, q, h', L) ∧ q ∧ k v h' L := by
  refine Iff.trans (AM.wpF_iff _ _ _) ?_
  unfold runV
  constructor
  · rintro ⟨v, q, h', h1, h2, h3⟩; exact ⟨v, q, h', _, by rw [h1], h2, h3⟩
  · rintro ⟨v, q, h', L, h1, h2, h3⟩
    split at h1
    · rename_i v1 q1 h1' hr
      cases h1
      exact ⟨_, _, _, hr, h2, h3⟩
    · cases h1
theorem opW_iff {P : Program} {X : Inl} (hX : InlOK P X) {base i : Nat} {o : Oper} {env : Env} {h : AH} {k : AV → AH → Log → Prop} : opW P X base i o env h k ↔ ∃ v q h' L, opV P X base i o env h = some (v, q, h', L) ∧ q ∧ k v h' L := by
  unfold opW opV
  cases inlA o with
  | none => exact runW_iff
  | some cf =>
    obtain ⟨c, f⟩ := cf
    simp only
    split
    · rename_i K caps hv
      cases X.inl K with
      | false => exact runW_iff
      | true =>
        simp only
        cases evL env c.args.toList with
        | none => simp
        | some vs =>
          simp only [forceL_eq, forceA_eq]
          rw [hX.iff]
          constructor
          · rintro ⟨v, q, h', L, h1, h2, h3⟩; exact ⟨v, q, h', _, by rw [h1], h2, h3⟩
          · rintro ⟨v, q, h', L, h1, h2, h3⟩
            split at h1
            · rename_i v1 q1 h1' L1 hc
              cases h1
              exact ⟨_, _, _, _, hc, h2, h3⟩
            · cases h1
    · simp
theorem runV_agree {P : Program} {sp : Spec} {base i : Nat} {o : Oper} {env env2 : Env} {h h2 h' : AH} {v : AV} {q : Prop} {L : Log} (hr : runV P sp base i o env h = some (v, q, h', L)) (hs : ∀ t ∈ L.1, env2 t = env t) (ho : ∀ o, touched L.2 o → h2 o = h o) :
    ∃ h2', runV P sp base i o env2 h2 = some (v, q, h2', L) ∧ ∀ o, (written L.2 o → h2' o = h' o) ∧ (¬ written L.2 o → h2' o = h2 o) := by
  unfold runV at hr
  split at hr
  · rename_i v1 q1 h1 hk
    simp only [Option.some.injEq, Prod.mk.injEq] at hr
    obtain ⟨rfl, rfl, rfl, rfl⟩ := hr
    obtain ⟨h2', k1, k2, k3⟩ := AM.agree _ h h2 hk hs ho
    exact ⟨h2', by unfold runV; rw [k1, k2], k3⟩
  · cases hr
theorem runV_frame {P : Program} {sp : Spec} {base i : Nat} {o : Oper} {env : Env} {h h' : AH} {v : AV} {q : Prop} {L : Log} (hr : runV P sp base i o env h = some (v, q, h', L)) : ∀ o, ¬ written L.2 o → h' o = h o := by
  unfold runV at hr
  split at hr
  · rename_i v1 q1 h1 hk
    simp only [Option.some.injEq, Prod.mk.injEq] at hr
    obtain ⟨rfl, rfl, rfl, rfl⟩ := hr
    exact AM.frame _ h hk
  · cases hr
theorem aev_slots {α : Type} {env : Env} {h : AH} {x : Operand} {k : AV → AM α} {v : AV} (hv : evA env x = some v) : (aev x k).log env h = (slotsO x ++ ((k v).log env h).1, ((k v).log env h).2) := by
  cases x with
  | tmp t => simp only [evA, Option.some.injEq] at hv; subst hv; rfl
  | const c => simp only [evA] at hv; simp only [aev, hv, slotsO, List.nil_append]
  | func f => simp only [evA, Option.some.injEq] at hv; subst hv; rfl
  | global _ => cases hv
/-- Which slot tells what is called. -/
theorem runV_callee {P : Program} {sp : Spec} {base i : Nat} {o : Oper} {env : Env} {h h' : AH} {v u : AV} {q : Prop} {L : Log} {c : Call} {f : Operand} (hi : inlA o = some (c, f)) (hv : evA env f = some u) (hr : runV P sp base i o env h = some (v, q, h', L)) : ∀ t ∈ slotsO f, t ∈ L.1 := by
  unfold runV at hr
  split at hr
  · rename_i v1 q1 h1 hk
    simp only [Option.some.injEq, Prod.mk.injEq] at hr
    obtain ⟨rfl, rfl, rfl, rfl⟩ := hr
    intro t ht
    unfold inlA at hi
    split at hi
    · rename_i c' hc
      split at hi
      · rename_i f' hf
        cases hi
        simp only [aop, hc, hf]
        rw [aev_slots hv]
        exact List.mem_append_left _ ht
      · cases hi
    · cases hi
  · cases hr
theorem opV_agree {P : Program} {X : Inl} (hX : InlOK P X) {base i : Nat} {o : Oper} {env env2 : Env} {h h2 h' : AH} {v : AV} {q : Prop} {L : Log} (hr : opV P X base i o env h = some (v, q, h', L)) (hs : ∀ t ∈ L.1, env2 t = env t) (ho : ∀ o, touched L.2 o → h2 o = h o) :
    ∃ h2', opV P X base i o env2 h2 = some (v, q, h2', L) ∧ ∀ o, (written L.2 o → h2' o = h' o) ∧ (¬ written L.2 o → h2' o = h2 o) := by
  unfold opV at hr ⊢
  split at hr
  · exact runV_agree hr hs ho
  · rename_i c f hi
    split at hr
    · rename_i K caps hv
      split at hr
      · rename_i hn
        have e := evA_agree (x := f) fun t ht => hs t (runV_callee hi hv hr t ht)
        simp only [e, hv, hn]
        exact runV_agree hr hs ho
      · rename_i hn
        split at hr
        · cases hr
        · rename_i vs hl
          split at hr
          · rename_i v1 q1 h1 L1 hc
            simp only [Option.some.injEq, Prod.mk.injEq] at hr
            obtain ⟨rfl, rfl, rfl, rfl⟩ := hr
            obtain ⟨h2', k1, k2⟩ := hX.agree h2 hc ho
            have e := evA_agree (x := f) fun t ht => hs t (List.mem_append_left _ ht)
            have e2 := evL_agree (xs := c.args.toList) fun t ht => hs t (List.mem_append_right _ ht)
            exact ⟨h2', by simp only [e, hv, hn, e2, hl, k1], k2⟩
          · cases hr
    · cases hr
theorem opV_frame {P : Program} {X : Inl} (hX : InlOK P X) {base i : Nat} {o : Oper} {env : Env} {h h' : AH} {v : AV} {q : Prop} {L : Log} (hr : opV P X base i o env h = some (v, q, h', L)) : ∀ o, ¬ written L.2 o → h' o = h o := by
  unfold opV at hr
  split at hr
  · exact runV_frame hr
  · split at hr
    · split at hr
      · exact runV_frame hr
      · split at hr
        · cases hr
        · split at hr
          · rename_i v1 q1 h1 L1 hc
            simp only [Option.some.injEq, Prod.mk.injEq] at hr
            obtain ⟨rfl, rfl, rfl, rfl⟩ := hr
            exact hX.frame hc
          · cases hr
    · cases hr
/-- A value that a call is made of. -/
theorem call_enter {P : Program} {w : World} {a : Act} {o : Oper} {c : Call} {f : Operand} {K : FuncId} {ps : List Value} (hi : inlA o = some (c, f)) (he : a.eval f = .func (.func K) #[] ps.toArray)
    (hf : ∃ fn, P.funcs[K]? = some fn ∧ fn.name ≠ "runtime.NumGoroutine" ∧ fn.body.isSome = true) : (execOp a.eval o).run P w = .ok (.enter K (c.args.map a.eval ++ ps.toArray)) w := by
  obtain ⟨fn, e1, e2, e3⟩ := hf
  unfold inlA at hi
  split at hi
  · rename_i c' hc
    split at hi
    · rename_i f' hf
      cases hi
      simp [execOp, hc, resolve, hf, he, Deferred.ofValue, invoke, callFunc, e1, e2]
      intro hn
      rw [hn] at e3
      cases e3
    · cases hi
  · cases hi
theorem opV_wp {P : Program} {X : Inl} (hX : InlOK P X) {base i : Nat} {w0 w : World} {G W0 : Nat → Prop} {env : Env} {h h' : AH} {μ : Mu} {a : Act} (g : Good w0 G W0 env h μ a w) {o : Oper} {v : AV} {q : Prop} {L : Log}
    (hr : opV P X base i o env h = some (v, q, h', L)) (hq : q) {K : Act → World → Prop} {Q : Exit → Act → World → Prop} (hK : ∀ a' w', Next' w0 G W0 h μ w a o v h' a' w' → K a' w') : o.wp P a w K Q := by
  have run : ∀ {v q h' L}, runV P X.sp base i o env h = some (v, q, h', L) → q → (∀ a' w', Next' w0 G W0 h μ w a o v h' a' w' → K a' w') → o.wp P a w K Q := fun {v q h' L} hr hq hK => by
    unfold runV at hr
    split at hr
    · rename_i v1 q1 h1 hk
      simp only [Option.some.injEq, Prod.mk.injEq] at hr
      obtain ⟨rfl, rfl, rfl, rfl⟩ := hr
      exact op_wp hX.sp g hk hq hK
    · cases hr
  unfold opV at hr
  split at hr
  · exact run hr hq hK
  · rename_i c f hi
    split at hr
    · rename_i F caps hv
      split at hr
      · exact run hr hq hK
      · split at hr
        · cases hr
        · rename_i vs hl
          split at hr
          · rename_i v1 q1 h1 L1 hc
            simp only [Option.some.injEq, Prod.mk.injEq] at hr
            obtain ⟨rfl, rfl, rfl, rfl⟩ := hr
            obtain ⟨ps, he, hps⟩ : ∃ ps : List Value, a.eval f = .func (.func F) #[] ps.toArray ∧ All2 (fun (o : Nat) (p : Value) => ∃ b, At μ o b ∧ p = .pointer (some ⟨b, 0, none⟩)) caps ps := evA_rep g hv
            have hcaps : All2 (RepA w (WrOf h μ W0) μ) (caps.map fun q => .c (.ptr q 0 0 0)) ps := ⟨by simp [hps.1], fun i x y hx hy => by
              rw [List.getElem?_map] at hx
              cases hc : caps[i]? with
              | none => rw [hc] at hx; cases hx
              | some o =>
                rw [hc] at hx
                simp at hx
                subst hx
                obtain ⟨b, hb, rfl⟩ := hps.2 i o y hc hy
                exact ⟨b, hb, by simp⟩⟩
            have hA : (c.args.map a.eval ++ ps.toArray).toList = c.args.toList.map a.eval ++ ps := by simp
            obtain ⟨hfn, hcall⟩ := hX.calls (args := c.args.map a.eval ++ ps.toArray) g.rel (by rw [hA]; exact (evL_rep g hl).append hcaps) hc hq
            unfold Oper.wp
            rw [call_enter hi he hfn]
            exact Calls.mono hcall fun e w' ⟨u, μ', e1, e2, e3, e4, e5⟩ => by subst e1; exact hK _ _ ⟨u, μ', rfl, e2, e3, e4, e5⟩
          · cases hr
    · cases hr
end Go.Proofs.YtpgeopefamomnaeGreat

namespace Go.Proofs.YtpgeopefamomnaeGreat
open Go.RowKit
set_option linter.unusedVariables false
def gSlot (ops : Array Oper) (j : Nat) : Option Nat := match ops[j]? with
  | some o => o.dst
  | none => none
def stepV (P : Program) (X : Inl) (ops : Array Oper) (base i : Nat) (o : Oper) (env : Nat → AV) (h : AH) : Option (AV × Prop × AH × Log) := match o.guard with
  | none => opV P X base i o env h
  | some (j, want) => match gSlot ops j with
    | none => none
    | some t => match env t with
      | .c (.d (.bool b)) => match b == want with
        | true => match opV P X base i o env h with
          | some (v, q, h', L) => some (v, q, h', (t :: L.1, L.2))
          | none => none
        | false => some (.tup [], True, h, ([t], []))
      | .tup [] => some (.tup [], True, h, ([t], []))
      | _ => none
theorem stepV_agree {P : Program} {X : Inl} (hX : InlOK P X) {ops : Array Oper} {base i : Nat} {o : Oper} {env env2 : Nat → AV} {h h2 h' : AH} {v : AV} {q : Prop} {L : Log} (hr : stepV P X ops base i o env h = some (v, q, h', L)) (hs : ∀ t ∈ L.1, env2 t = env t) (ho : ∀ o, touched L.2 o → h2 o = h o) :
    ∃ h2', stepV P X ops base i o env2 h2 = some (v, q, h2', L) ∧ ∀ o, (written L.2 o → h2' o = h' o) ∧ (¬ written L.2 o → h2' o = h2 o) := by
  unfold stepV at hr ⊢
  split at hr
  · exact opV_agree hX hr hs ho
  · rename_i j want hg
    split at hr
    · cases hr
    · rename_i t ht
      split at hr
      · rename_i b hb
        split at hr
        · rename_i hbw
          split at hr
          · rename_i v1 q1 h1 L1 hk
            simp only [Option.some.injEq, Prod.mk.injEq] at hr
            obtain ⟨rfl, rfl, rfl, rfl⟩ := hr
            obtain ⟨h2', k1, k2⟩ := opV_agree hX (env2 := env2) (h2 := h2) hk (fun t ht => hs t (List.mem_cons_of_mem _ ht)) ho
            exact ⟨h2', by simp only [hs t (List.mem_cons_self ..), hb, hbw, k1], k2⟩
          · cases hr
        · rename_i hbw
          simp only [Option.some.injEq, Prod.mk.injEq] at hr
          obtain ⟨rfl, rfl, rfl, rfl⟩ := hr
          exact ⟨h2, by simp only [hs t (List.mem_cons_self ..), hb, hbw], fun o => ⟨fun hw => by simp [written] at hw, fun _ => rfl⟩⟩
      · rename_i hb
        simp only [Option.some.injEq, Prod.mk.injEq] at hr
        obtain ⟨rfl, rfl, rfl, rfl⟩ := hr
        exact ⟨h2, by simp only [hs t (List.mem_cons_self ..), hb], fun o => ⟨fun hw => by simp [written] at hw, fun _ => rfl⟩⟩
      · cases hr
theorem stepV_frame {P : Program} {X : Inl} (hX : InlOK P X) {ops : Array Oper} {base i : Nat} {o : Oper} {env : Nat → AV} {h h' : AH} {v : AV} {q : Prop} {L : Log} (hr : stepV P X ops base i o env h = some (v, q, h', L)) : ∀ o, ¬ written L.2 o → h' o = h o := by
  unfold stepV at hr
  split at hr
  · exact opV_frame hX hr
  · split at hr
    · cases hr
    · split at hr
      · split at hr
        · split at hr
          · rename_i v1 q1 h1 L1 hk
            simp only [Option.some.injEq, Prod.mk.injEq] at hr
            obtain ⟨rfl, rfl, rfl, rfl⟩ := hr
            exact fun o hn => opV_frame hX hk o hn
          · cases hr
        · simp only [Option.some.injEq, Prod.mk.injEq] at hr
          obtain ⟨rfl, rfl, rfl, rfl⟩ := hr
          exact fun _ _ => rfl
      · simp only [Option.some.injEq, Prod.mk.injEq] at hr
        obtain ⟨rfl, rfl, rfl, rfl⟩ := hr
        exact fun _ _ => rfl
      · cases hr
/-- One operation of a region. -/
theorem step_wp {P : Program} {X : Inl} {ops : Array Oper} {base i : Nat} {o : Oper} {w0 w : World} {G W0 : Nat → Prop} {env : Nat → AV} {h h' : AH} {μ : Mu} {a : Act} {v : AV} {q : Prop} {L : Log} (hS : InlOK P X) (g : Good w0 G W0 env h μ a w)
    (ho : ops[i]? = some o) (hr : stepV P X ops base i o env h = some (v, q, h', L)) (hq : q) (hN : ∀ t, o.dst = some t → t < a.tmps.size) {K : Act → World → Prop} {Q : Exit → Act → World → Prop}
    (hK : ∀ u μ' w', Good w0 G W0 (putE env o.dst v) h' μ' (a.put o.dst u) w' → MuLe μ μ' → Keeps w w' (WrOf h μ W0) (WrOf h' μ' W0) → K (a.put o.dst u) w') : wpOp P ops Q i K a w := by
  have key : ∀ {v q h' L}, opV P X base i o env h = some (v, q, h', L) → q → (∀ u μ' w', Good w0 G W0 (putE env o.dst v) h' μ' (a.put o.dst u) w' → MuLe μ μ' → Keeps w w' (WrOf h μ W0) (WrOf h' μ' W0) → K (a.put o.dst u) w') → o.wp P a w K Q := fun {v q h' L} hr hq hK =>
    opV_wp hS g hr hq fun a' w' ⟨u, μ', e1, e2, e3, e4, e5⟩ => by
      subst e1
      exact hK u μ' w' (good_put g hN e2 e3 e4 e5) e3 e4
  unfold wpOp
  rw [ho]
  unfold stepV at hr
  split at hr
  · rename_i hg
    have hw : Region.wanted o (yielded ops a.tmps) = true := by simp [Region.wanted, hg]
    simp only [hw, if_true]
    exact .inl (key hr hq hK)
  · rename_i j want hg
    split at hr
    · cases hr
    · rename_i t ht
      split at hr
      · rename_i b hb
        have hy : yielded ops a.tmps j = some b := by
          have hv : a.tmps.getD t undef = .bool b := by
            have := g.slots t
            rw [hb] at this
            exact RepD.bool_eq this
          have hv' : a.tmps[t]? = some (.bool b) := by
            rw [Array.getD_eq_getD_getElem?] at hv
            cases hx : a.tmps[t]? with
            | none => rw [hx] at hv; simp [undef] at hv
            | some y => rw [hx] at hv; simpa using hv
          unfold gSlot at ht
          unfold yielded
          cases hj : ops[j]? with
          | none => rw [hj] at ht; cases ht
          | some oj =>
            rw [hj] at ht
            simp only at ht
            simp [ht, hv']
        have hw : Region.wanted o (yielded ops a.tmps) = (b == want) := by
          simp [Region.wanted, hg, hy]
        split at hr
        · rename_i hbw
          split at hr
          · rename_i v1 q1 h1 L1 hk
            simp only [Option.some.injEq, Prod.mk.injEq] at hr
            obtain ⟨rfl, rfl, rfl, rfl⟩ := hr
            simp only [hw, hbw, if_true]
            exact .inl (key hk hq hK)
          · cases hr
        · rename_i hbw
          simp only [Option.some.injEq, Prod.mk.injEq] at hr
          obtain ⟨rfl, rfl, rfl, rfl⟩ := hr
          simp only [hw, hbw]
          exact hK undef μ w (good_put g hN g.rel (MuLe.refl _) (Keeps.refl _ _) ⟨[], rfl, All2.nil⟩) (MuLe.refl _) (Keeps.refl _ _)
      · rename_i hb
        have hv : a.tmps.getD t undef = .tuple #[] := by
          have := g.slots t
          rw [hb] at this
          obtain ⟨vs, e, h0⟩ := this
          have : vs = [] := List.eq_nil_of_length_eq_zero h0.1.symm
          subst this
          exact e
        have hy : yielded ops a.tmps j = none := by
          unfold gSlot at ht
          unfold yielded
          cases hj : ops[j]? with
          | none => rw [hj] at ht; cases ht
          | some oj =>
            rw [hj] at ht
            simp only at ht
            rw [Array.getD_eq_getD_getElem?] at hv
            cases hx : a.tmps[t]? with
            | none => simp [ht, hx]
            | some y => rw [hx] at hv; simp at hv; subst hv; simp [ht, hx]
        have hw : Region.wanted o (yielded ops a.tmps) = false := by
          simp [Region.wanted, hg, hy]
        simp only [Option.some.injEq, Prod.mk.injEq] at hr
        obtain ⟨rfl, rfl, rfl, rfl⟩ := hr
        simp only [hw]
        exact hK undef μ w (good_put g hN g.rel (MuLe.refl _) (Keeps.refl _ _) ⟨[], rfl, All2.nil⟩) (MuLe.refl _) (Keeps.refl _ _)
      · cases hr
/-- A region's operations in their own order. -/
structure Trace (P : Program) (X : Inl) (base : Nat) (ops : Array Oper) (E : Nat → Nat → AV) (H : Nat → AH) (V : Nat → AV) (Q : Nat → Prop) (L : Nat → Log) : Prop where
  step : ∀ i o, ops[i]? = some o → stepV P X ops base i o (E i) (H i) = some (V i, Q i, H (i + 1), L i) ∧ E (i + 1) = putE (E i) o.dst (V i)
  need : ∀ i, i < ops.size → Q i
def dstsB (N : Nat) (ops : Array Oper) : Bool := ops.toList.all fun o => match o.dst with
  | some d => Nat.blt d N
  | none => true
theorem dstsB_spec {N : Nat} {ops : Array Oper} (h : dstsB N ops = true) {i : Nat} {o : Oper} (ho : ops[i]? = some o) : ∀ t, o.dst = some t → t < N := fun t ht => by
  have hm : o ∈ ops.toList := Array.mem_toList_iff.2 (Array.mem_of_getElem? ho)
  have := List.all_eq_true.1 h o hm
  rw [ht] at this
  simp only [Nat.blt] at this
  exact Nat.le_of_ble_eq_true this
section
variable {P : Program} {X : Inl} {base N : Nat} {ops : Array Oper} {E : Nat → Nat → AV} {H : Nat → AH} {V : Nat → AV} {Qn : Nat → Prop} {L : Nat → Log} (T : Trace P X base ops E H V Qn L) (hS : InlOK P X) (hN : dstsB N ops = true)
  {w0 : World} {G W0 : Nat → Prop} {μ0 : Mu} {h0 : AH} {Q : Exit → Act → World → Prop} (hfin : ∀ a w, Good' w0 G W0 μ0 h0 N (E ops.size) (H ops.size) a w → Q .normal a w)
include T hS hN hfin
theorem seq_wp : ∀ (k i : Nat) (a : Act) (w : World), i + k = ops.size → Good' w0 G W0 μ0 h0 N (E i) (H i) a w → wpOps P ops Q (List.range' i k) a w
  | 0, i, a, w, hi, g => by
    have : i = ops.size := by omega
    subst this
    exact hfin a w g
  | k + 1, i, a, w, hi, g => by
    rw [List.range'_succ, wpOps_cons]
    have ho : ops[i]? = some (ops[i]'(by omega)) := Array.getElem?_eq_getElem (by omega)
    obtain ⟨h1, h2⟩ := T.step i _ ho
    obtain ⟨μ, hg, p1, p2⟩ := g.good
    refine step_wp hS hg ho h1 (T.need i (by omega)) (fun t ht => by rw [g.size]; exact dstsB_spec hN ho t ht) fun u μ' w' hg' m1 m2 => ?_
    refine seq_wp k (i + 1) _ _ (by omega) ⟨⟨μ', by rw [h2]; exact hg', p1.trans m1, p2.trans m2 hg.rel.size⟩, ?_, ?_⟩
    · have := g.size; cases hd : (ops[i]'(by omega)).dst <;> simp [Act.put, this]
    · have := g.defers; cases hd : (ops[i]'(by omega)).dst <;> simp [Act.put, this]
theorem region_seq {id : Nat} {a : Act} {w : World} (g : Good' w0 G W0 μ0 h0 N (E 0) (H 0) a w) : (Code.region id ops false).wp P Q a w := by
  refine wp_region ?_
  rw [List.range_eq_range']
  exact seq_wp T hS hN hfin ops.size 0 a w (by omega) g
end
def cntL : Nat → Array Bool → Nat
  | 0, _ => 0
  | k + 1, L => cntL k L + (if L.getD k true then 0 else 1)
theorem cntL_set_ge (L : Array Bool) (i : Nat) : ∀ k, k ≤ i → cntL k (L.setIfInBounds i true) = cntL k L
  | 0, _ => rfl
  | k + 1, h => by simp only [cntL]; rw [cntL_set_ge L i k (by omega), getD_set_ne true (by omega)]
theorem cntL_set (L : Array Bool) (i : Nat) (hi : L.getD i true = false) : ∀ k, i < k → cntL k (L.setIfInBounds i true) + 1 = cntL k L
  | 0, h => by omega
  | k + 1, h => by
    simp only [cntL]
    by_cases hik : i = k
    · subst hik
      rw [cntL_set_ge L i i (Nat.le_refl _), hi]
      have : (L.setIfInBounds i true).getD i true = true := by
        by_cases hs : i < L.size
        · simp [hs]
        · simp [hs]
      rw [this]
      simp
    · have := cntL_set L i hi k (by omega)
      rw [getD_set_ne true hik]
      omega
theorem cntL_zero (L : Array Bool) : ∀ k, cntL k L = 0 → ∀ i, i < k → L.getD i true = true
  | 0, _, i, h => by omega
  | k + 1, h, i, hi => by
    simp only [cntL] at h
    by_cases hik : i = k
    · subst hik
      cases hl : L.getD i true with
      | true => rfl
      | false => rw [hl] at h; simp at h
    · exact cntL_zero L k (by omega) i (by omega)
theorem cntL_pos (L : Array Bool) : ∀ k, cntL k L ≠ 0 → ∃ i, i < k ∧ L.getD i true = false ∧ ∀ j, j < i → L.getD j true = true
  | 0, h => absurd rfl h
  | k + 1, h => by
    by_cases hc : cntL k L = 0
    · simp only [cntL, hc, Nat.zero_add] at h
      refine ⟨k, by omega, ?_, fun j hj => cntL_zero L k hc j hj⟩
      cases hl : L.getD k true with
      | false => rfl
      | true => rw [hl] at h; simp at h
    · obtain ⟨i, h1, h2, h3⟩ := cntL_pos L k hc
      exact ⟨i, by omega, h2, h3⟩

/-- j is waited for by o. -/
def Waits (o : Oper) (j : Nat) : Prop := ∃ e ∈ o.after, Region.binds .any e = true ∧ e.on = j
/-- j is waited for by what o waits for, or by o. -/
inductive WaitsT (ops : Array Oper) : Oper → Nat → Prop
  | one (o j) : Waits o j → WaitsT ops o j
  | step (o j k o') : Waits o k → ops[k]? = some o' → WaitsT ops o' j → WaitsT ops o j
theorem repl_false (m j : Nat) : (Array.replicate m false).getD j false = false := by by_cases h : j < m <;> simp [h]
/-- What meets is ordered. -/
structure Apart (ops : Array Oper) (L : Nat → Log) : Prop where
  before : ∀ i o, ops[i]? = some o → ∀ j, Waits o j → j < i
  slot : ∀ i j oi oj t, ops[i]? = some oi → ops[j]? = some oj → i ≠ j → oj.dst = some t → (t ∈ (L i).1 ∨ oi.dst = some t) → (j < i → WaitsT ops oi j) ∧ (i < j → WaitsT ops oj i)
  obj : ∀ i j oi oj x, ops[i]? = some oi → ops[j]? = some oj → i ≠ j → written (L j).2 x → touched (L i).2 x → (j < i → WaitsT ops oi j) ∧ (i < j → WaitsT ops oj i)
/-- In the midst of a region: of each place what the last one that came and wrote it left. -/
structure MidE (ops : Array Oper) (E : Nat → Nat → AV) (H : Nat → AH) (L : Nat → Log) (listed : Array Bool) (env : Nat → AV) (h : AH) : Prop where
  closed : ∀ i o, ops[i]? = some o → listed.getD i false = true → ∀ j, Waits o j → listed.getD j false = true
  s0 : ∀ t, (∀ i o, ops[i]? = some o → listed.getD i false = true → o.dst ≠ some t) → env t = E 0 t
  s1 : ∀ t i o, ops[i]? = some o → listed.getD i false = true → o.dst = some t → (∀ j o', ops[j]? = some o' → listed.getD j false = true → o'.dst = some t → j ≤ i) → env t = E (i + 1) t
  o0 : ∀ x, (∀ i o, ops[i]? = some o → listed.getD i false = true → ¬ written (L i).2 x) → h x = H 0 x
  o1 : ∀ x i o, ops[i]? = some o → listed.getD i false = true → written (L i).2 x → (∀ j o', ops[j]? = some o' → listed.getD j false = true → written (L j).2 x → j ≤ i) → h x = H (i + 1) x
theorem WaitsT.come {ops : Array Oper} {listed : Array Bool} (hc : ∀ i o, ops[i]? = some o → listed.getD i false = true → ∀ j, Waits o j → listed.getD j false = true) {o : Oper} {j : Nat} (h : WaitsT ops o j) (hw : ∀ j, Waits o j → listed.getD j false = true) : listed.getD j false = true := by
  induction h with
  | one o j h => exact hw j h
  | step o j k o' h1 h2 h3 ih => exact ih (hc k o' h2 (hw k h1))
theorem MidE.closedT {ops : Array Oper} {E : Nat → Nat → AV} {H : Nat → AH} {L : Nat → Log} {listed : Array Bool} {env : Nat → AV} {h : AH} (M : MidE ops E H L listed env h) (i : Nat) (o : Oper) (ho : ops[i]? = some o) (hl : listed.getD i false = true) (j : Nat) (hj : WaitsT ops o j) : listed.getD j false = true :=
  hj.come M.closed fun j hj => M.closed i o ho hl j hj
theorem last_or {p : Nat → Prop} : ∀ (n : Nat), (∀ i, i < n → ¬ p i) ∨ ∃ i, i < n ∧ p i ∧ ∀ j, j < n → p j → j ≤ i
  | 0 => .inl fun i h => by omega
  | n + 1 => by
    by_cases hp : p n
    · exact .inr ⟨n, by omega, hp, fun j hj _ => by omega⟩
    · rcases last_or (p := p) n with h | ⟨i, h1, h2, h3⟩
      · exact .inl fun i hi => by
          by_cases e : i = n
          · subst e; exact hp
          · exact h i (by omega)
      · exact .inr ⟨i, by omega, h2, fun j hj hpj => by
          by_cases e : j = n
          · subst e; exact absurd hpj hp
          · exact h3 j (by omega) hpj⟩
section
variable {P : Program} {X : Inl} {base N : Nat} {ops : Array Oper} {E : Nat → Nat → AV} {H : Nat → AH} {V : Nat → AV} {Qn : Nat → Prop} {L : Nat → Log} (T : Trace P X base ops E H V Qn L) (hS : InlOK P X)
include T hS
omit hS in
theorem trace_slot {t : Nat} : ∀ (k i : Nat), i + k ≤ ops.size → (∀ j o, i ≤ j → j < i + k → ops[j]? = some o → o.dst ≠ some t) → E (i + k) t = E i t
  | 0, i, _, _ => rfl
  | k + 1, i, hi, hn => by
    have ho : ops[i + k]? = some (ops[i + k]'(by omega)) := Array.getElem?_eq_getElem (by omega)
    have h2 := (T.step (i + k) _ ho).2
    rw [show i + (k + 1) = i + k + 1 by omega, h2]
    have hd := hn (i + k) _ (by omega) (by omega) ho
    rw [← trace_slot k i (by omega) fun j o h1 h2 => hn j o h1 (by omega)]
    cases hx : (ops[i + k]'(by omega)).dst with
    | none => rfl
    | some d =>
      simp only [putE]
      rw [upd_ne]
      intro e
      exact hd (by rw [hx, e])
theorem trace_obj {x : Nat} : ∀ (k i : Nat), i + k ≤ ops.size → (∀ j, i ≤ j → j < i + k → ¬ written (L j).2 x) → H (i + k) x = H i x
  | 0, i, _, _ => rfl
  | k + 1, i, hi, hn => by
    have ho : ops[i + k]? = some (ops[i + k]'(by omega)) := Array.getElem?_eq_getElem (by omega)
    have h1 := (T.step (i + k) _ ho).1
    rw [show i + (k + 1) = i + k + 1 by omega, stepV_frame hS h1 x (hn (i + k) (by omega) (by omega))]
    exact trace_obj k i (by omega) fun j h1 h2 => hn j h1 (by omega)
variable (A : Apart ops L)
include A
/-- What an operation looks at is there as in its own order. -/
theorem mid_look {listed : Array Bool} {env : Nat → AV} {h : AH} (M : MidE ops E H L listed env h) {i : Nat} {o : Oper} (ho : ops[i]? = some o) (hun : listed.getD i false = false) (hw : ∀ j, Waits o j → listed.getD j false = true) :
    (∀ t, (t ∈ (L i).1 ∨ o.dst = some t) → env t = E i t) ∧ (∀ x, touched (L i).2 x → h x = H i x) := by
  have hi : i < ops.size := (Array.getElem?_eq_some_iff.1 ho).1
  have sz : ∀ j o', ops[j]? = some o' → j < ops.size := fun j o' h => (Array.getElem?_eq_some_iff.1 h).1
  constructor
  · intro t ht
    -- those that write t and have come are those before i
    have hlt : ∀ j o', ops[j]? = some o' → listed.getD j false = true → o'.dst = some t → j < i := fun j o' h1 h2 h3 => by
      by_cases e : j = i
      · subst e; rw [hun] at h2; cases h2
      · have := A.slot i j o o' t ho h1 (Ne.symm e) h3 ht
        by_cases hji : j < i
        · exact hji
        · have hx := M.closedT j o' h1 h2 i (this.2 (by omega))
          rw [hun] at hx; cases hx
    have hin : ∀ j o', ops[j]? = some o' → j < i → o'.dst = some t → listed.getD j false = true := fun j o' h1 h2 h3 => WaitsT.come M.closed ((A.slot i j o o' t ho h1 (by omega) h3 ht).1 h2) hw
    rcases last_or (p := fun j => ∃ o', ops[j]? = some o' ∧ o'.dst = some t) i with hn | ⟨j, h1, ⟨o', h2, h3⟩, h4⟩
    · rw [M.s0 t fun j o' k1 k2 k3 => hn j (hlt j o' k1 k2 k3) ⟨o', k1, k3⟩]
      have := trace_slot T (t := t) i 0 (by omega) fun j o' _ k2 k3 k4 => hn j (by omega) ⟨o', k3, k4⟩
      rw [Nat.zero_add] at this
      exact this.symm
    · rw [M.s1 t j o' h2 (hin j o' h2 h1 h3) h3 fun j2 o2 k1 k2 k3 => h4 j2 (hlt j2 o2 k1 k2 k3) ⟨o2, k1, k3⟩]
      have := trace_slot T (t := t) (i - (j + 1)) (j + 1) (by omega) fun j2 o2 k1 k2 k3 k4 => by
        have := h4 j2 (by omega) ⟨o2, k3, k4⟩
        omega
      rw [show j + 1 + (i - (j + 1)) = i by omega] at this
      exact this.symm
  · intro x hx
    have hlt : ∀ j o', ops[j]? = some o' → listed.getD j false = true → written (L j).2 x → j < i := fun j o' h1 h2 h3 => by
      by_cases e : j = i
      · subst e; rw [hun] at h2; cases h2
      · have := A.obj i j o o' x ho h1 (Ne.symm e) h3 hx
        by_cases hji : j < i
        · exact hji
        · have hx := M.closedT j o' h1 h2 i (this.2 (by omega))
          rw [hun] at hx; cases hx
    have hin : ∀ j o', ops[j]? = some o' → j < i → written (L j).2 x → listed.getD j false = true := fun j o' h1 h2 h3 => WaitsT.come M.closed ((A.obj i j o o' x ho h1 (by omega) h3 hx).1 h2) hw
    rcases last_or (p := fun j => written (L j).2 x) i with hn | ⟨j, h1, h3, h4⟩
    · rw [M.o0 x fun j o' k1 k2 k3 => hn j (hlt j o' k1 k2 k3) k3]
      have := trace_obj T hS (x := x) i 0 (by omega) fun j _ k2 k4 => hn j (by omega) k4
      rw [Nat.zero_add] at this
      exact this.symm
    · have h2 : ops[j]? = some (ops[j]'(by omega)) := Array.getElem?_eq_getElem (by omega)
      rw [M.o1 x j _ h2 (hin j _ h2 h1 h3) h3 fun j2 o2 k1 k2 k3 => h4 j2 (hlt j2 o2 k1 k2 k3) k3]
      have := trace_obj T hS (x := x) (i - (j + 1)) (j + 1) (by omega) fun j2 k1 k2 k4 => by
        have := h4 j2 (by omega) k4
        omega
      rw [show j + 1 + (i - (j + 1)) = i by omega] at this
      exact this.symm
omit hS in
/-- One more has come. -/
theorem mid_step {listed : Array Bool} {env : Nat → AV} {h h2 : AH} (M : MidE ops E H L listed env h) {i : Nat} {o : Oper} (ho : ops[i]? = some o) (hls : listed.size = ops.size) (hun : listed.getD i false = false) (hw : ∀ j, Waits o j → listed.getD j false = true)
    (hh : ∀ x, (written (L i).2 x → h2 x = H (i + 1) x) ∧ (¬ written (L i).2 x → h2 x = h x)) : MidE ops E H L (listed.setIfInBounds i true) (putE env o.dst (V i)) h2 := by
  have hi : i < ops.size := (Array.getElem?_eq_some_iff.1 ho).1
  have get : ∀ j, (listed.setIfInBounds i true).getD j false = true ↔ j = i ∨ listed.getD j false = true := fun j => by
    by_cases e : j = i
    · subst e; simp [hls, hi]
    · rw [getD_set_ne false (Ne.symm e)]; simp [e]
  have hst := (T.step i o ho).2
  refine ⟨fun j o' h1 h2 k hk => ?_, fun t ht => ?_, fun t j o' h1 h2 h3 h4 => ?_, fun x hx => ?_, fun x j o' h1 h2 h3 h4 => ?_⟩
  · rw [get] at h2 ⊢
    rcases h2 with rfl | h2
    · rw [ho] at h1; cases h1; exact .inr (hw k hk)
    · exact .inr (M.closed j o' h1 h2 k hk)
  · have hd : o.dst ≠ some t := ht i o ho ((get i).2 (.inl rfl))
    have e : putE env o.dst (V i) t = env t := by
      cases hx : o.dst with
      | none => rfl
      | some d => simp only [putE]; rw [upd_ne]; intro e; exact hd (by rw [hx, e])
    rw [e]
    exact M.s0 t fun j o' k1 k2 => ht j o' k1 ((get j).2 (.inr k2))
  · by_cases hd : o.dst = some t
    · -- i is the last one
      have hji : j = i := by
        by_cases e : j = i
        · exact e
        · have k2 := ((get j).1 h2).resolve_left e
          have hle := h4 i o ho ((get i).2 (.inl rfl)) hd
          have := A.slot i j o o' t ho h1 (Ne.symm e) h3 (.inr hd)
          have hx := M.closedT j o' h1 k2 i (this.2 (by omega))
          rw [hun] at hx; cases hx
      subst hji
      rw [hst, hd]
      simp [putE, upd_self]
    · have hji : j ≠ i := fun e => by subst e; rw [ho] at h1; cases h1; exact hd h3
      have k2 := ((get j).1 h2).resolve_left hji
      have e : putE env o.dst (V i) t = env t := by
        cases hx : o.dst with
        | none => rfl
        | some d => simp only [putE]; rw [upd_ne]; intro e; exact hd (by rw [hx, e])
      rw [e]
      exact M.s1 t j o' h1 k2 h3 fun j2 o2 m1 m2 m3 => h4 j2 o2 m1 ((get j2).2 (.inr m2)) m3
  · rw [(hh x).2 (hx i o ho ((get i).2 (.inl rfl)))]
    exact M.o0 x fun j o' k1 k2 => hx j o' k1 ((get j).2 (.inr k2))
  · by_cases hd : written (L i).2 x
    · have hji : j = i := by
        by_cases e : j = i
        · exact e
        · have k2 := ((get j).1 h2).resolve_left e
          have hle := h4 i o ho ((get i).2 (.inl rfl)) hd
          have := A.obj i j o o' x ho h1 (Ne.symm e) h3 ⟨true, hd⟩
          have hx := M.closedT j o' h1 k2 i (this.2 (by omega))
          rw [hun] at hx; cases hx
      subst hji
      exact (hh x).1 hd
    · have hji : j ≠ i := fun e => by subst e; exact hd h3
      have k2 := ((get j).1 h2).resolve_left hji
      rw [(hh x).2 hd]
      exact M.o1 x j o' h1 k2 h3 fun j2 o2 m1 m2 m3 => h4 j2 o2 m1 ((get j2).2 (.inr m2)) m3
omit A in
/-- All have come. -/
theorem mid_end {listed : Array Bool} {env : Nat → AV} {h : AH} (M : MidE ops E H L listed env h) (hall : ∀ i, i < ops.size → listed.getD i false = true) : env = E ops.size ∧ h = H ops.size := by
  have sz : ∀ j o', ops[j]? = some o' → j < ops.size := fun j o' h => (Array.getElem?_eq_some_iff.1 h).1
  constructor
  · funext t
    rcases last_or (p := fun j => ∃ o', ops[j]? = some o' ∧ o'.dst = some t) ops.size with hn | ⟨j, h1, ⟨o', h2, h3⟩, h4⟩
    · rw [M.s0 t fun j o' k1 _ k3 => hn j (sz j o' k1) ⟨o', k1, k3⟩]
      have := trace_slot T (t := t) ops.size 0 (by omega) fun j o' _ k2 k3 k4 => hn j (by omega) ⟨o', k3, k4⟩
      rw [Nat.zero_add] at this
      exact this.symm
    · rw [M.s1 t j o' h2 (hall j h1) h3 fun j2 o2 k1 _ k3 => h4 j2 (sz j2 o2 k1) ⟨o2, k1, k3⟩]
      have := trace_slot T (t := t) (ops.size - (j + 1)) (j + 1) (by omega) fun j2 o2 k1 k2 k3 k4 => by
        have := h4 j2 (by omega) ⟨o2, k3, k4⟩
        omega
      rw [show j + 1 + (ops.size - (j + 1)) = ops.size by omega] at this
      exact this.symm
  · funext x
    rcases last_or (p := fun j => written (L j).2 x) ops.size with hn | ⟨j, h1, h3, h4⟩
    · rw [M.o0 x fun j o' k1 _ k3 => hn j (sz j o' k1) k3]
      have := trace_obj T hS (x := x) ops.size 0 (by omega) fun j _ k2 k4 => hn j (by omega) k4
      rw [Nat.zero_add] at this
      exact this.symm
    · have h2 : ops[j]? = some (ops[j]'(by omega)) := Array.getElem?_eq_getElem (by omega)
      rw [M.o1 x j _ h2 (hall j h1) h3 fun j2 o2 k1 _ k3 => h4 j2 (sz j2 o2 k1) k3]
      have := trace_obj T hS (x := x) (ops.size - (j + 1)) (j + 1) (by omega) fun j2 k1 k2 k4 => by
        have := h4 j2 (by omega) k4
        omega
      rw [show j + 1 + (ops.size - (j + 1)) = ops.size by omega] at this
      exact this.symm
variable (hN : dstsB N ops = true) {w0 : World} {G W0 : Nat → Prop} {μ0 : Mu} {h0 : AH} {Q : Exit → Act → World → Prop} (hfin : ∀ a w, Good' w0 G W0 μ0 h0 N (E ops.size) (H ops.size) a w → Q .normal a w)
include hN hfin
theorem any_wp : ∀ (f : Nat) (listed : Array Bool) (a : Act) (w : World) (env : Nat → AV) (h : AH), listed.size = ops.size → MidE ops E H L listed env h → Good' w0 G W0 μ0 h0 N env h a w → cntL ops.size listed = f → wpAny P .any ops Q f listed a w := by
  have all_of : ∀ listed : Array Bool, listed.size = ops.size → (∀ i, i < ops.size → listed.getD i true = true) → ∀ i, i < ops.size → listed.getD i false = true := fun listed hl h i hi => by
    have h1 := h i hi
    have h2 : i < listed.size := by omega
    simp [h2] at h1 ⊢
    exact h1
  intro f
  induction f with
  | zero =>
    intro listed a w env h hls M g hc
    have hall := all_of listed hls (cntL_zero listed ops.size hc)
    obtain ⟨rfl, rfl⟩ := mid_end T hS M hall
    refine ⟨List.eq_nil_iff_forall_not_mem.2 fun i hi => ?_, hfin a w g⟩
    obtain ⟨h1, o, h2, _⟩ := mem_ready.1 hi
    have := cntL_zero listed ops.size hc i (Array.getElem?_eq_some_iff.1 h2).1
    rw [h1] at this
    cases this
  | succ f ih =>
    intro listed a w env h hls M g hc
    obtain ⟨m, hm, hmun, hmin⟩ := cntL_pos listed ops.size (by omega)
    have hmo : ops[m]? = some (ops[m]'(by omega)) := Array.getElem?_eq_getElem (by omega)
    have hmr : m ∈ Region.ready .any ops listed := mem_ready.2 ⟨hmun, _, hmo, fun e he hb => by
      have h1 := A.before m _ hmo e.on ⟨e, he, hb, rfl⟩
      have h2 := hmin e.on h1
      have h3 : e.on < listed.size := by omega
      simp [h3] at h2 ⊢
      exact h2⟩
    refine ⟨fun h => (by rw [h] at hmr; cases hmr), fun i hi => ?_⟩
    obtain ⟨hiun, o, ho, hall⟩ := mem_ready.1 hi
    have hin : i < ops.size := (Array.getElem?_eq_some_iff.1 ho).1
    have hun : listed.getD i false = false := by
      have h3 : i < listed.size := by omega
      simp [h3] at hiun ⊢
      exact hiun
    have hw : ∀ j, Waits o j → listed.getD j false = true := fun j ⟨e, he, hb, hj⟩ => by rw [← hj]; exact hall e he hb
    obtain ⟨l1, l2⟩ := mid_look T hS A M ho hun hw
    obtain ⟨s1, s2⟩ := T.step i o ho
    obtain ⟨h2', k1, k2⟩ := stepV_agree hS (env2 := env) (h2 := h) s1 (fun t ht => l1 t (.inl ht)) l2
    obtain ⟨μ, hg, p1, p2⟩ := g.good
    refine step_wp hS hg ho k1 (T.need i hin) (fun t ht => by rw [g.size]; exact dstsB_spec hN ho t ht) fun u μ' w' hg' m1 m2 => ?_
    refine ih _ _ _ _ _ (by simp [hls]) (mid_step T A M ho hls hun hw k2) ⟨⟨μ', hg', p1.trans m1, p2.trans m2 hg.rel.size⟩, ?_, ?_⟩ ?_
    · have := g.size; cases hd : o.dst <;> simp [Act.put, this]
    · have := g.defers; cases hd : o.dst <;> simp [Act.put, this]
    · have := cntL_set listed i hiun ops.size hin
      omega
theorem region_any {id : Nat} {a : Act} {w : World} (hm : P.follows .mixedOrders = true) (g : Good' w0 G W0 μ0 h0 N (E 0) (H 0) a w) : (Code.region id ops true).wp P Q a w := by
  refine wp_region_any hm ?_
  have hcnt0 : ∀ k, k ≤ ops.size → cntL k (Array.replicate ops.size false) = k := by
    intro k
    induction k with
    | zero => intro _; rfl
    | succ k ih => intro hk; simp only [cntL]; rw [ih (by omega)]; simp [show k < ops.size by omega]
  have hg : Good' w0 G W0 μ0 h0 N (E 0) (H 0) a w.drew := by
    obtain ⟨μ, hg, p1, p2⟩ := g.good
    have hk : Keeps w w.drew (WrOf (H 0) μ W0) (WrOf (H 0) μ W0) := fun b hb hn => ⟨hn, rfl⟩
    exact ⟨⟨μ, ⟨⟨fun o x hx => (hg.rel.obj o x hx).mono hk (MuLe.refl _) fun _ _ => rfl, hg.rel.inj, hg.rel.unused, hg.rel.apart, hg.rel.w0lt, hg.rel.os, hg.rel.tape, hg.rel.output, hg.rel.size, hg.rel.kept⟩, fun t => (hg.slots t).mono hk (MuLe.refl _)⟩, p1, p2.trans hk hg.rel.size⟩, g.size, g.defers⟩
  exact any_wp T hS A hN hfin ops.size (Array.replicate ops.size false) a w.drew (E 0) (H 0) (by simp)
    ⟨fun i o _ hl => (by rw [repl_false] at hl; cases hl), fun t _ => rfl, fun t i o _ hl => (by rw [repl_false] at hl; cases hl), fun x _ => rfl, fun x i o _ hl => (by rw [repl_false] at hl; cases hl)⟩ hg (hcnt0 _ (Nat.le_refl _))
end
end Go.Proofs.YtpgeopefamomnaeGreat

namespace Go.Proofs.YtpgeopefamomnaeGreat
open Go.RowKit
set_option linter.unusedVariables false
/-- What is known of slots and of what is owned; of all else nothing. -/
structure Known where
  slots : List (Nat × AV)
  objs : List (Nat × OS)
  base : Nat
def envOf : List (Nat × AV) → Env
  | [], _ => .c .undef
  | (t, v) :: r, n => match Nat.beq n t with
    | true => v
    | false => envOf r n
def hOf : List (Nat × OS) → AH
  | [], _ => .unused
  | (t, v) :: r, n => match Nat.beq n t with
    | true => v
    | false => hOf r n
def namesC : CV → List Nat
  | .own o => [o]
  | .ptr o _ _ _ => [o]
  | .clo _ caps => caps
  | _ => []
def namesS : AV → List Nat
  | .c x => namesC x
  | .agg cs => cs.flatMap namesC
  | .tup _ => []
def namesA : AV → List Nat
  | .tup vs => vs.flatMap namesS
  | v => namesS v
def inB (objs : List (Nat × OS)) (o : Nat) : Bool := objs.any fun x => Nat.beq x.1 o
def closedO (objs : List (Nat × OS)) : Bool := objs.all fun x => match x.2 with
  | .live (.box cs _) => (cs.flatMap namesC).all (inB objs)
  | .unused => false
  | _ => true
def closedB (k : Known) : Bool := (k.slots.all fun x => (namesA x.2).all (inB k.objs)) && closedO k.objs
theorem hOf_mem : ∀ {l : List (Nat × OS)} {t : Nat} {x : OS}, hOf l t = x → x ≠ .unused → (t, x) ∈ l
  | [], t, x, h, hx => absurd h.symm hx
  | (u, v) :: r, t, x, h, hx => by
    simp only [hOf] at h
    cases hb : Nat.beq t u with
    | true =>
      rw [hb] at h
      have := Nat.eq_of_beq_eq_true hb
      subst this
      simp only at h
      subst h
      simp
    | false =>
      rw [hb] at h
      exact List.mem_cons_of_mem _ (hOf_mem h hx)
theorem hOf_none : ∀ {l : List (Nat × OS)} {t : Nat}, (∀ x ∈ l, x.2 ≠ .unused) → hOf l t = .unused → inB l t = false
  | [], t, _, h => rfl
  | (u, v) :: r, t, hn, h => by
    simp only [hOf] at h
    cases hb : Nat.beq t u with
    | true => rw [hb] at h; exact absurd h (hn (u, v) (by simp))
    | false =>
      rw [hb] at h
      have e : Nat.beq u t = false := by
        rw [← Bool.not_eq_true] at hb ⊢
        intro e
        exact hb (by rw [Nat.eq_of_beq_eq_true e]; simp)
      have := hOf_none (fun x hx => hn x (List.mem_cons_of_mem _ hx)) h
      simp only [inB, List.any_cons, e, Bool.false_or] at this ⊢
      exact this
def renC (ρ : Nat → Nat) : CV → CV
  | .own o => .own (ρ o)
  | .ptr o i off k => .ptr (ρ o) i off k
  | .clo f caps => .clo f (caps.map ρ)
  | c => c
def renS (ρ : Nat → Nat) : AV → AV
  | .c x => .c (renC ρ x)
  | .agg cs => .agg (cs.map (renC ρ))
  | .tup vs => .tup vs
def renA (ρ : Nat → Nat) : AV → AV
  | .tup vs => .tup (vs.map (renS ρ))
  | .c x => .c (renC ρ x)
  | .agg cs => .agg (cs.map (renC ρ))
def renO (ρ : Nat → Nat) : AO → AO
  | .box cs ty => .box (cs.map (renC ρ)) ty
  | .row es k ty f => .row es k ty f
def renOS (ρ : Nat → Nat) : OS → OS
  | .live x => .live (renO ρ x)
  | .dead => .dead
  | .unused => .unused
def setO (ρ : Nat → Nat) : List (Nat × OS) → AH → AH
  | [], h => h
  | (j, x) :: r, h => upd (setO ρ r h) (ρ j) (renOS ρ x)
theorem renO_fz (ρ : Nat → Nat) (x : AO) : (renO ρ x).fz = x.fz := by cases x <;> rfl
theorem renC_ok (ρ : Nat → Nat) (c : CV) : (renC ρ c).ok = c.ok := by cases c <;> rfl
theorem inB_mem {l : List (Nat × OS)} {j : Nat} (h : inB l j = true) : ∃ x, (j, x) ∈ l := by
  obtain ⟨⟨i, x⟩, h1, h2⟩ := List.any_eq_true.1 h
  have := Nat.eq_of_beq_eq_true h2
  simp only at this
  subst this
  exact ⟨x, h1⟩
theorem mem_inB {l : List (Nat × OS)} {j : Nat} {x : OS} (h : (j, x) ∈ l) : inB l j = true := List.any_eq_true.2 ⟨_, h, by simp⟩
/-- What is set at a name. -/
theorem setO_in {ρ : Nat → Nat} {h : AH} : ∀ {l : List (Nat × OS)} {j : Nat}, (∀ i, inB l i = true → ρ i = ρ j → i = j) → inB l j = true → setO ρ l h (ρ j) = renOS ρ (hOf l j)
  | [], j, _, hj => by cases hj
  | (i, x) :: r, j, hi, hj => by
    simp only [setO, hOf]
    by_cases e : j = i
    · subst e
      rw [upd_self]
      simp
    · have e1 : ρ j ≠ ρ i := fun h => e (hi i (by simp [inB]) h.symm).symm
      have e2 : Nat.beq j i = false := by
        rw [← Bool.not_eq_true]
        exact fun h => e (Nat.eq_of_beq_eq_true h)
      rw [upd_ne _ _ e1, e2]
      refine setO_in (fun k hk => hi k (by simp only [inB, List.any_cons] at hk ⊢; simp [hk])) ?_
      simp only [inB, List.any_cons] at hj ⊢
      have e3 : Nat.beq i j = false := by
        rw [← Bool.not_eq_true]
        exact fun h => e (Nat.eq_of_beq_eq_true h).symm
      rw [e3] at hj
      simpa using hj
theorem setO_out {ρ : Nat → Nat} {h : AH} : ∀ {l : List (Nat × OS)} {o : Nat}, (∀ i, inB l i = true → ρ i ≠ o) → setO ρ l h o = h o
  | [], o, _ => rfl
  | (i, x) :: r, o, hi => by
    simp only [setO]
    rw [upd_ne _ _ (Ne.symm (hi i (by simp [inB])))]
    exact setO_out fun k hk => hi k (by simp only [inB, List.any_cons] at hk ⊢; simp [hk])
def invO (ρ : Nat → Nat) : List (Nat × OS) → Nat → Option Nat
  | [], _ => none
  | (j, _) :: r, o => match Nat.beq (ρ j) o with
    | true => some j
    | false => invO ρ r o
theorem invO_some {ρ : Nat → Nat} : ∀ {l : List (Nat × OS)} {o j : Nat}, invO ρ l o = some j → ρ j = o ∧ inB l j = true
  | [], o, j, h => by cases h
  | (i, x) :: r, o, j, h => by
    simp only [invO] at h
    split at h
    · rename_i hb
      simp at h
      subst h
      exact ⟨Nat.eq_of_beq_eq_true hb, by simp [inB]⟩
    · obtain ⟨h1, h2⟩ := invO_some h
      exact ⟨h1, by simp only [inB, List.any_cons] at h2 ⊢; simp [h2]⟩
theorem invO_none {ρ : Nat → Nat} : ∀ {l : List (Nat × OS)} {o : Nat}, invO ρ l o = none → ∀ i, inB l i = true → ρ i ≠ o
  | [], o, h, i, hi => by cases hi
  | (j, x) :: r, o, h, i, hi => by
    simp only [invO] at h
    split at h
    · cases h
    · rename_i hb
      intro e
      simp only [inB, List.any_cons, Bool.or_eq_true] at hi
      rcases hi with hi | hi
      · have := Nat.eq_of_beq_eq_true hi
        subst this
        rw [e] at hb
        simp at hb
      · exact invO_none h i hi e
theorem invO_in {ρ : Nat → Nat} {l : List (Nat × OS)} (hinj : ∀ i j, inB l i = true → inB l j = true → ρ i = ρ j → i = j) {j : Nat} (hj : inB l j = true) : invO ρ l (ρ j) = some j := by
  cases h : invO ρ l (ρ j) with
  | none => exact absurd rfl (invO_none h j hj)
  | some i =>
    obtain ⟨h1, h2⟩ := invO_some h
    rw [hinj i j h2 hj h1]
theorem RepC.unren {w : World} {Wr Wr' : Nat → Prop} {μ μc : Mu} {ρ : Nat → Nat} {c : CV} {v : Value} (hk : Keeps w w Wr Wr') (h : RepC w Wr μ (renC ρ c) v) (hn : ∀ o ∈ namesC c, μc o = μ (ρ o)) : RepC w Wr' μc c v := by
  have at' : ∀ o b, o ∈ namesC c → At μ (ρ o) b → At μc o b := fun o b ho ⟨u, h1, h2⟩ => ⟨u, by rw [hn o ho]; exact h1, h2⟩
  cases c with
  | d x => exact RepD.mono hk h
  | own o => exact ⟨by rw [hn o (by simp [namesC])]; exact h.1, h.2⟩
  | nils => exact h
  | ptr o i off k => obtain ⟨b, h1, h2⟩ := h; exact ⟨b, at' o b (by simp [namesC]) h1, h2⟩
  | dp es i off k => obtain ⟨b, o0, n, c, h1, h2⟩ := h; exact ⟨b, o0, n, c, h1.mono hk, h2⟩
  | clo f caps =>
    obtain ⟨ps, h1, h2⟩ := h
    refine ⟨ps, h1, by simpa using h2.1, fun i o p ho hp => ?_⟩
    obtain ⟨b, h3, h4⟩ := h2.2 i (ρ o) p (by simp [ho]) hp
    exact ⟨b, at' o b (List.mem_of_getElem? ho) h3, h4⟩
  | undef => trivial
theorem RepC.ren {w : World} {Wr Wr' : Nat → Prop} {μ μc : Mu} {ρ : Nat → Nat} {c : CV} {v : Value} (hk : Keeps w w Wr Wr') (h : RepC w Wr μc c v) (hn : ∀ o u, μc o = some u → μ (ρ o) = some u) : RepC w Wr' μ (renC ρ c) v := by
  have at' : ∀ o b, At μc o b → At μ (ρ o) b := fun o b ⟨u, h1, h2⟩ => ⟨u, hn o u h1, h2⟩
  cases c with
  | d x => exact RepD.mono hk h
  | own o => exact ⟨hn _ _ h.1, h.2⟩
  | nils => exact h
  | ptr o i off k => obtain ⟨b, h1, h2⟩ := h; exact ⟨b, at' o b h1, h2⟩
  | dp es i off k => obtain ⟨b, o0, n, c, h1, h2⟩ := h; exact ⟨b, o0, n, c, h1.mono hk, h2⟩
  | clo f caps =>
    obtain ⟨ps, h1, h2⟩ := h
    refine ⟨ps, h1, by simpa using h2.1, fun i o p ho hp => ?_⟩
    rw [List.getElem?_map] at ho
    cases hc : caps[i]? with
    | none => rw [hc] at ho; cases ho
    | some o' =>
      rw [hc] at ho
      simp at ho
      subst ho
      obtain ⟨b, h3, h4⟩ := h2.2 i o' p hc hp
      exact ⟨b, at' o' b h3, h4⟩
  | undef => trivial
theorem All2.map_left {α β γ : Type} {R : β → γ → Prop} {f : α → β} {xs : List α} {ys : List γ} : All2 R (xs.map f) ys ↔ All2 (fun x y => R (f x) y) xs ys := by
  constructor
  · rintro ⟨h1, h2⟩
    exact ⟨by simpa using h1, fun i x y hx hy => h2 i (f x) y (by simp [hx]) hy⟩
  · rintro ⟨h1, h2⟩
    refine ⟨by simpa using h1, fun i x y hx hy => ?_⟩
    rw [List.getElem?_map] at hx
    cases hc : xs[i]? with
    | none => rw [hc] at hx; cases hx
    | some z => rw [hc] at hx; simp at hx; subst hx; exact h2 i z y hc hy
theorem All2.mono_mem {α β : Type} {R R' : α → β → Prop} {xs : List α} {ys : List β} (h : All2 R xs ys) (hr : ∀ x y, x ∈ xs → R x y → R' x y) : All2 R' xs ys := ⟨h.1, fun i x y hx hy => hr x y (List.mem_of_getElem? hx) (h.2 i x y hx hy)⟩
theorem RepA.ren {w : World} {Wr Wr' : Nat → Prop} {μ μc : Mu} {ρ : Nat → Nat} {v : AV} {u : Value} (hk : Keeps w w Wr Wr') (h : RepA w Wr μc v u) (hn : ∀ o u, μc o = some u → μ (ρ o) = some u) : RepA w Wr' μ (renA ρ v) u := by
  have hs : ∀ (v : AV) (u : Value), RepS w Wr μc v u → RepS w Wr' μ (renS ρ v) u := fun v u h => by
    cases v with
    | c x => exact RepC.ren hk h hn
    | agg cs =>
      obtain ⟨us, m1, m2⟩ := h
      exact ⟨us, m1, All2.map_left.2 (m2.mono fun c v ⟨k1, k2⟩ => ⟨by rw [renC_ok]; exact k1, k2.ren hk hn⟩)⟩
    | tup _ => exact h.elim
  cases v with
  | c x => exact RepC.ren hk h hn
  | agg cs => exact hs (.agg cs) u h
  | tup vs =>
    obtain ⟨us, m1, m2⟩ := h
    exact ⟨us, m1, All2.map_left.2 (m2.mono fun v u k => hs v u k)⟩
theorem RepA.unren {w : World} {Wr Wr' : Nat → Prop} {μ μc : Mu} {ρ : Nat → Nat} {v : AV} {u : Value} (hk : Keeps w w Wr Wr') (h : RepA w Wr μ (renA ρ v) u) (hn : ∀ o ∈ namesA v, μc o = μ (ρ o)) : RepA w Wr' μc v u := by
  have hs : ∀ (v : AV) (u : Value), RepS w Wr μ (renS ρ v) u → (∀ o ∈ namesS v, μc o = μ (ρ o)) → RepS w Wr' μc v u := fun v u h hn => by
    cases v with
    | c x => exact RepC.unren hk h hn
    | agg cs =>
      obtain ⟨us, m1, m2⟩ := h
      exact ⟨us, m1, (All2.map_left.1 m2).mono_mem fun c v hc ⟨k1, k2⟩ => ⟨by rw [renC_ok] at k1; exact k1, k2.unren hk fun o ho => hn o (List.mem_flatMap.2 ⟨c, hc, ho⟩)⟩⟩
    | tup _ => exact h.elim
  cases v with
  | c x => exact RepC.unren hk h hn
  | agg cs => exact hs (.agg cs) u h hn
  | tup vs =>
    obtain ⟨us, m1, m2⟩ := h
    exact ⟨us, m1, (All2.map_left.1 m2).mono_mem fun v u hv k => hs v u k fun o ho => hn o (List.mem_flatMap.2 ⟨v, hv, ho⟩)⟩
def injB (ρ : Nat → Nat) : List (Nat × OS) → Bool
  | [] => true
  | (j, _) :: r => (r.all fun p => !(Nat.beq (ρ p.1) (ρ j)) || Nat.beq p.1 j) && injB ρ r
theorem injB_spec {ρ : Nat → Nat} : ∀ {l : List (Nat × OS)}, injB ρ l = true → ∀ i j, inB l i = true → inB l j = true → ρ i = ρ j → i = j
  | [], _, i, j, hi, _, _ => by cases hi
  | (a, x) :: r, hl, i, j, hi, hj, e => by
    simp only [injB, Bool.and_eq_true] at hl
    have hin : ∀ i, inB ((a, x) :: r) i = true → i = a ∨ inB r i = true := fun i hi => by
      simp only [inB, List.any_cons, Bool.or_eq_true] at hi
      rcases hi with hi | hi
      · exact .inl (Nat.eq_of_beq_eq_true hi).symm
      · exact .inr hi
    have one : ∀ i, inB r i = true → ρ i = ρ a → i = a := fun i hi e => by
      obtain ⟨y, hy⟩ := inB_mem hi
      have := List.all_eq_true.1 hl.1 _ hy
      simp only [Bool.or_eq_true, Bool.not_eq_true'] at this
      rcases this with h | h
      · rw [e] at h; simp at h
      · exact Nat.eq_of_beq_eq_true h
    rcases hin i hi with hi1 | hi1
    · rcases hin j hj with hj1 | hj1
      · rw [hi1, hj1]
      · rw [hi1] at e ⊢; exact (one j hj1 e.symm).symm
    · rcases hin j hj with hj1 | hj1
      · rw [hj1] at e ⊢; exact one i hi1 e
      · exact injB_spec hl.2 i j hi1 hj1 e
def allP {α : Type} (p : α → Prop) : List α → Prop
  | [] => True
  | x :: r => p x ∧ allP p r
theorem allP_mem {α : Type} {p : α → Prop} : ∀ {l : List α}, allP p l → ∀ x ∈ l, p x
  | [], _, x, hx => by simp at hx
  | y :: r, ⟨h1, h2⟩, x, hx => by
    rcases List.mem_cons.1 hx with rfl | h
    · exact h1
    · exact allP_mem h2 x h
/-- Other names for what is owned. -/
theorem rename_rel {ρ : Nat → Nat} {w0 w : World} {G W0 : Nat → Prop} {h : AH} {μ : Mu} {objs : List (Nat × OS)} (h2 : allP (fun x => h (ρ x.1) = renOS ρ x.2) objs) (hc : closedO objs = true) (hj : injB ρ objs = true) (R : RelH w0 G W0 h μ w) :
    RelH w0 G W0 (hOf objs) (fun j => match inB objs j with | true => μ (ρ j) | false => none) w ∧ Keeps w w (WrOf h μ W0) (WrOf (hOf objs) (fun j => match inB objs j with | true => μ (ρ j) | false => none) W0) := by
  generalize hμe : (fun j => match inB objs j with | true => μ (ρ j) | false => none) = μ'
  have hμ : ∀ j, inB objs j = true → μ' j = μ (ρ j) := fun j hj => by subst hμe; simp only [hj]
  have hμ' : ∀ j u, μ' j = some u → inB objs j = true ∧ μ (ρ j) = some u := fun j u hu => by
    subst hμe
    simp only at hu
    split at hu
    · rename_i hb; exact ⟨hb, hu⟩
    · cases hu
  have nun : ∀ p ∈ objs, p.2 ≠ .unused := fun p hp e => by
    have := List.all_eq_true.1 hc p hp
    rw [e] at this
    cases this
  have mem : ∀ j x, hOf objs j = .live x → (j, OS.live x) ∈ objs := fun j x hx => hOf_mem hx (by simp)
  have live : ∀ j x, hOf objs j = .live x → h (ρ j) = .live (renO ρ x) := fun j x hx => allP_mem h2 _ (mem j x hx)
  have at' : ∀ j b, At μ' j b → At μ (ρ j) b := fun j b ⟨u, h1, h2⟩ => ⟨u, (hμ' j u h1).2, h2⟩
  have inj := injB_spec hj
  have wr : ∀ b, WrOf (hOf objs) μ' W0 b → WrOf h μ W0 b := fun b hb => by
    rcases hb with hb | ⟨j, x, h1, h2, h3⟩
    · exact .inl hb
    · exact .inr ⟨ρ j, _, live j x h1, by rw [renO_fz]; exact h2, at' j b h3⟩
  have kp : Keeps w w (WrOf h μ W0) (WrOf (hOf objs) μ' W0) := fun b _ hn => ⟨fun hb => hn (wr b hb), rfl⟩
  refine ⟨⟨fun j x hx => ?_, fun i j x y b hx hy ha hb => ?_, fun j hj => ?_, fun j x b hx ha => R.apart _ _ b (live j x hx) (at' j b ha), R.w0lt, R.os, R.tape, R.output, R.size, R.kept⟩, kp⟩
  · have hob := R.obj _ _ (live j x hx)
    have hj := mem_inB (mem j x hx)
    cases x with
    | box cs ty =>
      obtain ⟨b, vs, k1, k2, k3⟩ := hob
      have hcc := List.all_eq_true.1 hc _ (mem j _ hx)
      refine ⟨b, vs, by rw [hμ j hj]; exact k1, k2, (All2.map_left.1 k3).mono_mem fun c v hcm ⟨m1, m2⟩ => ⟨by rw [renC_ok] at m1; exact m1, m2.unren kp fun o ho => hμ o ?_⟩⟩
      exact List.all_eq_true.1 hcc o (List.mem_flatMap.2 ⟨c, hcm, ho⟩)
    | row es kk ty fz =>
      obtain ⟨v, vs, k1, k2, k3, k4⟩ := hob
      exact ⟨v, vs, by rw [hμ j hj]; exact k1, k2, k3, k4.mono fun _ _ h => h.mono kp⟩
  · exact inj i j (mem_inB (mem i x hx)) (mem_inB (mem j y hy)) (R.inj _ _ _ _ b (live i x hx) (live j y hy) (at' i b ha) (at' j b hb))
  · have h0 : inB objs j = false := hOf_none nun hj
    subst hμe
    simp only [h0]
end Go.Proofs.YtpgeopefamomnaeGreat

namespace Go.Proofs.YtpgeopefamomnaeGreat
open Go.RowKit
set_option linter.unusedVariables false
def bv (b : Bool) : AV := .c (.d (.bool b))
/-- Both ways of a test. -/
def Ways (b : Bool) (X Y : Prop) : Prop := (b = true → X) ∧ (b = false → Y)
theorem Ways.out {b : Bool} {X Y : Prop} (h : Ways b X Y) : (b = true ∧ X) ∨ (b = false ∧ Y) := by
  cases b
  · exact .inr ⟨rfl, h.2 rfl⟩
  · exact .inl ⟨rfl, h.1 rfl⟩
theorem upd_same {α : Type} (f : Nat → α) (t : Nat) (v : α) (h : f t = v) : upd f t v = f := by
  funext n
  by_cases e : n = t
  · subst e; rw [upd_self, h]
  · rw [upd_ne _ _ e]
theorem Ways.yes {X Y : Prop} (h : X) : Ways true X Y := ⟨fun _ => h, fun e => by cases e⟩
theorem Ways.no {X Y : Prop} (h : Y) : Ways false X Y := ⟨fun e => (by cases e), fun _ => h⟩
/-- A region's operations, one after the other. -/
def exR (P : Program) (X : Inl) (ops : Array Oper) (base : Nat) : List Oper → Nat → Env → AH → List Log → Option (Env × AH × Prop × List Log)
  | [], _, env, h, Ls => some (env, h, True, Ls)
  | o :: r, i, env, h, Ls => match stepV P X ops base i o env h with
    | some (v, q, h', L) => match exR P X ops base r (i + 1) (putE env o.dst v) h' (L :: Ls) with
      | some (env', h'', q', Ls') => some (env', h'', q ∧ q', Ls')
      | none => none
    | none => none
def awpR (P : Program) (X : Inl) (ops : Array Oper) (base : Nat) : List Oper → Nat → Env → AH → List Log → (Env → AH → List Log → Prop) → Prop
  | [], _, env, h, Ls, K => K env h Ls
  | o :: r, i, env, h, Ls, K => match o.guard with
    | none => opW P X base i o env h fun v h' L => awpR P X ops base r (i + 1) (putE env o.dst v) h' (L :: Ls) K
    | some (j, want) => match gSlot ops j with
      | none => False
      | some t => match env t with
        | .c (.d (.bool b)) => Ways (b == want)
          (opW P X base i o (upd env t (bv want)) h fun v h' L => awpR P X ops base r (i + 1) (putE (upd env t (bv want)) o.dst v) h' ((t :: L.1, L.2) :: Ls) K)
          (awpR P X ops base r (i + 1) (putE (upd env t (bv (!want))) o.dst (.tup [])) h (([t], []) :: Ls) K)
        | .tup [] => awpR P X ops base r (i + 1) (putE env o.dst (.tup [])) h (([t], []) :: Ls) K
        | _ => False
def stepW (P : Program) (X : Inl) (ops : Array Oper) (base i : Nat) (o : Oper) (env : Env) (h : AH) (k : Env → AV → AH → Log → Prop) : Prop := match o.guard with
    | none => opW P X base i o env h (k env)
    | some (j, want) => match gSlot ops j with
      | none => False
      | some t => match env t with
        | .c (.d (.bool b)) => Ways (b == want)
          (opW P X base i o (upd env t (bv want)) h fun v h' L => k (upd env t (bv want)) v h' (t :: L.1, L.2))
          (k (upd env t (bv (!want))) (.tup []) h ([t], []))
        | .tup [] => k env (.tup []) h ([t], [])
        | _ => False
theorem awpR_step {P : Program} {X : Inl} {ops : Array Oper} {base : Nat} {o : Oper} {r : List Oper} {i : Nat} {env : Env} {h : AH} {Ls : List Log} {K : Env → AH → List Log → Prop} :
    awpR P X ops base (o :: r) i env h Ls K ↔ stepW P X ops base i o env h fun env v h' L => awpR P X ops base r (i + 1) (putE env o.dst v) h' (L :: Ls) K := Iff.rfl
theorem stepW_iff {P : Program} {X : Inl} (hX : InlOK P X) {ops : Array Oper} {base i : Nat} {o : Oper} {env : Env} {h : AH} {k : Env → AV → AH → Log → Prop} : stepW P X ops base i o env h k ↔ ∃ v q h' L, stepV P X ops base i o env h = some (v, q, h', L) ∧ q ∧ k env v h' L := by
  constructor
  · intro hk
    unfold stepW at hk
    split at hk
    · rename_i hg
      obtain ⟨v, q, h', L, h1, h2, h3⟩ := (opW_iff hX).1 hk
      exact ⟨v, q, h', L, by simp only [stepV, hg, h1], h2, h3⟩
    · rename_i j want hg
      split at hk
      · exact hk.elim
      · rename_i t ht
        split at hk
        · rename_i b hb
          have hk2 := hk.out
          clear hk
          rcases hk2 with ⟨hbw, hk⟩ | ⟨hbw, hk⟩
          · have hb' : b = want := by simpa using hbw
            subst hb'
            rw [upd_same env t (bv b) hb] at hk
            obtain ⟨v, q, h', L, h1, h2, h3⟩ := (opW_iff hX).1 hk
            exact ⟨v, q, h', _, by simp only [stepV, hg, ht, hb, hbw, h1], h2, h3⟩
          · have hb' : b = !want := by cases b <;> cases want <;> simp_all
            subst hb'
            rw [upd_same env t (bv (!want)) hb] at hk
            exact ⟨_, _, _, _, by simp only [stepV, hg, ht, hb, hbw], trivial, hk⟩
        · rename_i hb
          exact ⟨_, _, _, _, by simp only [stepV, hg, ht, hb], trivial, hk⟩
        · exact hk.elim
  · rintro ⟨v, q, h', L, h1, h2, h3⟩
    unfold stepV at h1
    split at h1
    · rename_i hg
      simp only [stepW, hg]
      exact (opW_iff hX).2 ⟨v, q, h', L, h1, h2, h3⟩
    · rename_i j want hg
      split at h1
      · cases h1
      · rename_i t ht
        split at h1
        · rename_i b hb
          simp only [stepW, hg, ht, hb]
          split at h1
          · rename_i hbw
            have hb' : b = want := by simpa using hbw
            subst hb'
            rw [hbw, upd_same env t (bv b) hb]
            split at h1
            · rename_i v1 q1 h1' L1 hc
              simp only [Option.some.injEq, Prod.mk.injEq] at h1
              obtain ⟨rfl, rfl, rfl, rfl⟩ := h1
              exact .yes ((opW_iff hX).2 ⟨_, _, _, _, hc, h2, h3⟩)
            · cases h1
          · rename_i hbw
            have hb' : b = !want := by cases b <;> cases want <;> simp_all
            subst hb'
            rw [hbw, upd_same env t (bv (!want)) hb]
            simp only [Option.some.injEq, Prod.mk.injEq] at h1
            obtain ⟨rfl, rfl, rfl, rfl⟩ := h1
            exact .no h3
        · rename_i hb
          simp only [Option.some.injEq, Prod.mk.injEq] at h1
          obtain ⟨rfl, rfl, rfl, rfl⟩ := h1
          simp only [stepW, hg, ht, hb]
          exact h3
        · cases h1
theorem awpR_iff {P : Program} {X : Inl} (hX : InlOK P X) {ops : Array Oper} {base : Nat} {K : Env → AH → List Log → Prop} : ∀ (l : List Oper) (i : Nat) (env : Env) (h : AH) (Ls : List Log),
    awpR P X ops base l i env h Ls K ↔ ∃ env' h' q Ls', exR P X ops base l i env h Ls = some (env', h', q, Ls') ∧ q ∧ K env' h' Ls'
  | [], i, env, h, Ls => ⟨fun hk => ⟨_, _, _, _, rfl, trivial, hk⟩, fun ⟨_, _, _, _, e, _, hk⟩ => by cases e; exact hk⟩
  | o :: r, i, env, h, Ls => by
    rw [awpR_step, stepW_iff hX]
    simp only [exR]
    constructor
    · rintro ⟨v, q, h', L, h1, h2, h3⟩
      obtain ⟨env', h'', q', Ls', k1, k2, k3⟩ := (awpR_iff hX r (i + 1) _ _ _).1 h3
      exact ⟨env', h'', q ∧ q', Ls', by rw [h1]; simp only [k1], ⟨h2, k2⟩, k3⟩
    · rintro ⟨env', h'', q', Ls', k1, k2, k3⟩
      split at k1
      · rename_i v q h' L hs
        split at k1
        · rename_i env1 h1 q1 Ls1 hr
          cases k1
          exact ⟨v, q, h', L, hs, k2.1, (awpR_iff hX r (i + 1) _ _ _).2 ⟨_, _, _, _, hr, k2.2, k3⟩⟩
        · cases k1
      · cases k1
theorem exR_trace {P : Program} {X : Inl} {ops : Array Oper} {base : Nat} : ∀ (l : List Oper) (i : Nat) (env : Env) (h : AH) (Ls : List Log) {env' : Env} {h' : AH} {q : Prop} {Ls' : List Log}, ops.toList.drop i = l → exR P X ops base l i env h Ls = some (env', h', q, Ls') → q →
    ∃ (E : Nat → Env) (H : Nat → AH) (V : Nat → AV) (Q : Nat → Prop) (L : Nat → Log), E i = env ∧ H i = h ∧ (∀ j o, i ≤ j → ops[j]? = some o → stepV P X ops base j o (E j) (H j) = some (V j, Q j, H (j + 1), L j) ∧ E (j + 1) = putE (E j) o.dst (V j)) ∧ (∀ j, i ≤ j → j < ops.size → Q j) ∧ E (i + l.length) = env' ∧ H (i + l.length) = h' ∧ Ls' = ((List.range' i l.length).map L).reverse ++ Ls
  | [], i, env, h, Ls, env', h', q, Ls', hl, hk, hq => by
    have hi : ops.size ≤ i := by
      have := List.drop_eq_nil_iff.1 hl
      simpa using this
    simp only [exR, Option.some.injEq, Prod.mk.injEq] at hk
    obtain ⟨rfl, rfl, rfl, rfl⟩ := hk
    refine ⟨fun _ => env, fun _ => h, fun _ => .c .undef, fun _ => True, fun _ => ([], []), rfl, rfl, fun j o hj ho => ?_, fun _ _ _ => trivial, rfl, rfl, by simp⟩
    have := (Array.getElem?_eq_some_iff.1 ho).1
    omega
  | o :: r, i, env, h, Ls, env', h', q, Ls', hl, hk, hq => by
    have hlt : i < ops.size := by
      have := congrArg List.length hl
      simp at this
      omega
    have hoi : ops[i]? = some o := by
      have := congrArg (·[0]?) hl
      simp at this
      rw [Array.getElem?_eq_getElem hlt] at this ⊢
      simpa using this
    have hdrop : ops.toList.drop (i + 1) = r := by
      have := congrArg List.tail hl
      simpa using this
    simp only [exR] at hk
    split at hk
    · rename_i v q0 h1 L0 hs
      split at hk
      · rename_i env1 h2 q1 Ls1 hr
        simp only [Option.some.injEq, Prod.mk.injEq] at hk
        obtain ⟨rfl, rfl, rfl, rfl⟩ := hk
        obtain ⟨E, H, V, Q, L, e1, e2, e3, e4, e5, e6, e7⟩ := exR_trace r (i + 1) _ _ _ hdrop hr hq.2
        refine ⟨fun j => if j = i then env else E j, fun j => if j = i then h else H j, fun j => if j = i then v else V j, fun j => if j = i then q0 else Q j, fun j => if j = i then L0 else L j, by simp, by simp, fun j o' hj ho' => ?_, fun j hj hjs => ?_, ?_, ?_, ?_⟩
        · by_cases e : j = i
          · subst e
            rw [hoi] at ho'
            cases ho'
            simp only [if_true, show ¬ j + 1 = j by omega, if_false, e1, e2]
            exact ⟨hs, trivial⟩
          · simp only [e, if_false, show ¬ j + 1 = i by omega]
            exact e3 j o' (by omega) ho'
        · by_cases e : j = i
          · simp only [e, if_true]; exact hq.1
          · simp only [e, if_false]; exact e4 j (by omega) hjs
        · have e8 : i + (o :: r).length = i + 1 + r.length := by simp only [List.length_cons]; omega
          simp only [e8, show ¬ i + 1 + r.length = i by omega, if_false]
          exact e5
        · have e8 : i + (o :: r).length = i + 1 + r.length := by simp only [List.length_cons]; omega
          simp only [e8, show ¬ i + 1 + r.length = i by omega, if_false]
          exact e6
        · have e9 : (List.range' i (r.length + 1)).map (fun j => if j = i then L0 else L j) = L0 :: (List.range' (i + 1) r.length).map L := by
            rw [List.range'_succ, List.map_cons]
            simp only [if_true, List.cons.injEq, true_and]
            refine List.map_congr_left fun j hj => ?_
            have := (List.mem_range'_1.1 hj).1
            simp [show ¬ j = i by omega]
          rw [List.length_cons, e9]
          simpa using e7
      · cases hk
    · cases hk
def waitsB (o : Oper) (j : Nat) : Bool := o.after.toList.any fun e => Region.binds .any e && Nat.beq e.on j
theorem waitsB_spec {o : Oper} {j : Nat} (h : waitsB o j = true) : Waits o j := by
  obtain ⟨e, he, hb⟩ := List.any_eq_true.1 h
  simp only [Bool.and_eq_true] at hb
  exact ⟨e, Array.mem_toList_iff.1 he, hb.1, Nat.eq_of_beq_eq_true hb.2⟩
def waitsTB (ops : Array Oper) : Nat → Oper → Nat → Bool
  | 0, o, j => waitsB o j
  | f + 1, o, j => waitsB o j || o.after.toList.any fun e => Region.binds .any e && Nat.blt j e.on && match ops[e.on]? with
    | some o' => waitsTB ops f o' j
    | none => false
theorem waitsTB_spec {ops : Array Oper} : ∀ {f : Nat} {o : Oper} {j : Nat}, waitsTB ops f o j = true → WaitsT ops o j
  | 0, o, j, h => .one o j (waitsB_spec h)
  | f + 1, o, j, h => by
    simp only [waitsTB, Bool.or_eq_true] at h
    rcases h with h | h
    · exact .one o j (waitsB_spec h)
    · obtain ⟨e, he, hb⟩ := List.any_eq_true.1 h
      simp only [Bool.and_eq_true] at hb
      obtain ⟨⟨h1, _⟩, h2⟩ := hb
      split at h2
      · rename_i o' ho'
        exact .step o j e.on o' ⟨e, Array.mem_toList_iff.1 he, h1, rfl⟩ ho' (waitsTB_spec h2)
      · cases h2
def meetsB (oi oj : Oper) (Li Lj : Log) : Bool :=
  (match oj.dst with
   | some t => Li.1.any (Nat.beq t) || (match oi.dst with | some t' => Nat.beq t t' | none => false)
   | none => false) || Lj.2.any fun x => x.2 && Li.2.any fun y => Nat.beq x.1 y.1
def pairsB (ops : Array Oper) (o : Oper) (L : Log) (i : Nat) : List (Oper × Log) → Nat → Bool
  | [], _ => true
  | (o', L') :: r, j => (!(meetsB o o' L L' || meetsB o' o L' L) || waitsTB ops 3 o' i) && pairsB ops o L i r (j + 1)
def allPairsB (ops : Array Oper) : List (Oper × Log) → Nat → Bool
  | [], _ => true
  | (o, L) :: r, i => (o.after.toList.all fun e => !Region.binds .any e || Nat.blt e.on i) && pairsB ops o L i r (i + 1) && allPairsB ops r (i + 1)
def apartB (ops : Array Oper) (Ls : List Log) : Bool := allPairsB ops (ops.toList.zip Ls.reverse) 0
theorem pairsB_spec {ops : Array Oper} {o : Oper} {L : Log} {i : Nat} : ∀ {l : List (Oper × Log)} {j : Nat}, pairsB ops o L i l j = true → ∀ (k : Nat) (o' : Oper) (L' : Log), l[k]? = some (o', L') → (meetsB o o' L L' = true ∨ meetsB o' o L' L = true) → waitsTB ops 3 o' i = true
  | [], j, h, k, o', L', hk, _ => by simp at hk
  | (o1, L1) :: r, j, h, 0, o', L', hk, hm => by
    simp at hk
    obtain ⟨rfl, rfl⟩ := hk
    simp only [pairsB, Bool.and_eq_true, Bool.or_eq_true, Bool.not_eq_true'] at h
    rcases h.1 with h1 | h1
    · simp only [Bool.or_eq_false_iff] at h1
      rcases hm with hm | hm
      · rw [h1.1] at hm; cases hm
      · rw [h1.2] at hm; cases hm
    · exact h1
  | (o1, L1) :: r, j, h, k + 1, o', L', hk, hm => by
    simp only [pairsB, Bool.and_eq_true] at h
    exact pairsB_spec h.2 k o' L' (by simpa using hk) hm
theorem allPairsB_spec {ops : Array Oper} : ∀ {l : List (Oper × Log)} {i : Nat}, allPairsB ops l i = true → ∀ (k : Nat) (o : Oper) (L : Log), l[k]? = some (o, L) → (∀ j, Waits o j → j < i + k) ∧ ∀ (k' : Nat) (o' : Oper) (L' : Log), k < k' → l[k']? = some (o', L') → (meetsB o o' L L' = true ∨ meetsB o' o L' L = true) → waitsTB ops 3 o' (i + k) = true
  | [], i, h, k, o, L, hk => by simp at hk
  | (o1, L1) :: r, i, h, 0, o, L, hk => by
    simp at hk
    obtain ⟨rfl, rfl⟩ := hk
    simp only [allPairsB, Bool.and_eq_true] at h
    refine ⟨fun j ⟨e, he, hb, hj⟩ => ?_, fun k' o' L' hlt hk' hm => ?_⟩
    · have := List.all_eq_true.1 h.1.1 e (Array.mem_toList_iff.2 he)
      rw [hb] at this
      simp only [Bool.not_true, Bool.false_or] at this
      have h2 : e.on + 1 ≤ i := Nat.le_of_ble_eq_true this
      omega
    · cases k' with
      | zero => omega
      | succ k' => exact pairsB_spec h.1.2 k' o' L' (by simpa using hk') hm
  | (o1, L1) :: r, i, h, k + 1, o, L, hk => by
    simp only [allPairsB, Bool.and_eq_true] at h
    obtain ⟨h1, h2⟩ := allPairsB_spec h.2 k o L (by simpa using hk)
    refine ⟨fun j hj => by have := h1 j hj; omega, fun k' o' L' hlt hk' hm => ?_⟩
    cases k' with
    | zero => omega
    | succ k' =>
      have := h2 k' o' L' (by omega) (by simpa using hk') hm
      rwa [show i + 1 + k = i + (k + 1) by omega] at this
theorem meetsB_slot {oi oj : Oper} {Li Lj : Log} {t : Nat} (h1 : oj.dst = some t) (h2 : t ∈ Li.1 ∨ oi.dst = some t) : meetsB oi oj Li Lj = true := by
  unfold meetsB
  rw [h1]
  simp only [Bool.or_eq_true]
  refine .inl ?_
  rcases h2 with h2 | h2
  · exact .inl (List.any_eq_true.2 ⟨t, h2, by simp⟩)
  · rw [h2]; exact .inr (by simp)
theorem meetsB_obj {oi oj : Oper} {Li Lj : Log} {x : Nat} (h1 : written Lj.2 x) (h2 : touched Li.2 x) : meetsB oi oj Li Lj = true := by
  unfold meetsB
  simp only [Bool.or_eq_true]
  refine .inr (List.any_eq_true.2 ⟨(x, true), h1, ?_⟩)
  obtain ⟨b, hb⟩ := h2
  simp only [Bool.true_and]
  exact List.any_eq_true.2 ⟨(x, b), hb, by simp⟩
theorem apartB_spec {ops : Array Oper} {L : Nat → Log} {Ls : List Log} (hL : Ls = ((List.range' 0 ops.size).map L).reverse) (h : apartB ops Ls = true) : Apart ops L := by
  subst hL
  unfold apartB at h
  rw [List.reverse_reverse] at h
  have get : ∀ i o, ops[i]? = some o → (ops.toList.zip ((List.range' 0 ops.size).map L))[i]? = some (o, L i) := fun i o ho => by
    have hi := (Array.getElem?_eq_some_iff.1 ho).1
    rw [List.getElem?_zip_eq_some]
    refine ⟨by simpa using ho, ?_⟩
    rw [List.getElem?_map, List.getElem?_range' hi]
    simp
  have sp := allPairsB_spec h
  refine ⟨fun i o ho j hj => ?_, fun i j oi oj t hi hj hne h1 h2 => ⟨fun hlt => ?_, fun hlt => ?_⟩, fun i j oi oj x hi hj hne h1 h2 => ⟨fun hlt => ?_, fun hlt => ?_⟩⟩
  · have := (sp i o (L i) (get i o ho)).1 j hj
    omega
  · have := (sp j oj (L j) (get j oj hj)).2 i oi (L i) hlt (get i oi hi) (.inr (meetsB_slot h1 h2))
    rw [Nat.zero_add] at this
    exact waitsTB_spec this
  · have := (sp i oi (L i) (get i oi hi)).2 j oj (L j) hlt (get j oj hj) (.inl (meetsB_slot h1 h2))
    rw [Nat.zero_add] at this
    exact waitsTB_spec this
  · have := (sp j oj (L j) (get j oj hj)).2 i oi (L i) hlt (get i oi hi) (.inr (meetsB_obj h1 h2))
    rw [Nat.zero_add] at this
    exact waitsTB_spec this
  · have := (sp i oi (L i) (get i oi hi)).2 j oj (L j) hlt (get j oj hj) (.inl (meetsB_obj h1 h2))
    rw [Nat.zero_add] at this
    exact waitsTB_spec this
inductive AExit where
  | normal
  | exit (id : Nat)
  | ret
abbrev Kont := AExit → Env → AH → Nat → Prop
def renL : List (Nat × Nat) → Nat → Nat
  | [], j => j
  | (a, b) :: r, j => match Nat.beq a j with
    | true => b
    | false => renL r j
/-- What is known holds, by other names. -/
def Weak (rs : List (Nat × Nat)) (pins : List Nat) (env : Env) (h : AH) (k : Known) : Prop := pins.all (fun o => inB k.objs o && Nat.beq (renL rs o) o) = true ∧ allP (fun x => env x.1 = renA (renL rs) x.2) k.slots ∧ allP (fun x => h (renL rs x.1) = renOS (renL rs) x.2) k.objs ∧ (closedB k && injB (renL rs) k.objs) = true
def thenK (k : Env → AH → Nat → Prop) (K : Kont) : Kont
  | .normal, env, h, b => k env h b
  | e, env, h, b => K e env h b
def blockK (id : Nat) (K : Kont) : Kont
  | .exit id', env, h, b => match Nat.beq id' id with
    | true => K .normal env h b
    | false => K (.exit id') env h b
  | e, env, h, b => K e env h b
def awp (P : Program) (X : Inl) (N : Nat) (pins : List Nat) : Code → Env → AH → Nat → Kont → Prop
  | .skip, env, h, b, K => K .normal env h b
  | .label _, env, h, b, K => K .normal env h b
  | .region _ ops draw, env, h, b, K => dstsB N ops = true ∧ awpR P X ops b ops.toList 0 env h [] fun env' h' Ls => match draw with
    | true => apartB ops Ls = true ∧ K .normal env' h' (b + 1)
    | false => K .normal env' h' (b + 1)
  | .seq x y, env, h, b, K => awp P X N pins x env h b (thenK (fun env h b => awp P X N pins y env h b K) K)
  | .cond c x y, env, h, b, K => match c with
    | .tmp t => match env t with
      | .c (.d (.bool p)) => Ways p (awp P X N pins x (upd env t (bv true)) h b K) (awp P X N pins y (upd env t (bv false)) h b K)
      | _ => False
    | .const (.bool p) => Ways p (awp P X N pins x env h b K) (awp P X N pins y env h b K)
    | _ => False
  | .block id c, env, h, b, K => awp P X N pins c env h b (blockK id K)
  | .loop c, env, h, b, K => ∃ (ι : Type) (F : ι → Known) (m : ι → Nat) (i : ι) (rs : List (Nat × Nat)), Weak rs pins env h (F i) ∧ ∀ i, awp P X N pins c (envOf (F i).slots) (hOf (F i).objs) (F i).base (thenK (fun env h b => ∃ j rs, m j < m i ∧ Weak rs pins env h (F j)) K)
  | .exit id, env, h, b, K => K (.exit id) env h b
  | .ret, env, h, b, K => K .ret env h b
  | _, _, _, _, _ => False
/-- What is known still holds. -/
theorem envOf_mem : ∀ {l : List (Nat × AV)} {t : Nat}, envOf l t = .c .undef ∨ (t, envOf l t) ∈ l
  | [], t => .inl rfl
  | (u, v) :: r, t => by
    simp only [envOf]
    cases hb : Nat.beq t u with
    | true => have := Nat.eq_of_beq_eq_true hb; subst this; exact .inr (by simp)
    | false =>
      rcases envOf_mem (l := r) (t := t) with h | h
      · exact .inl h
      · exact .inr (List.mem_cons_of_mem _ h)
theorem weak_good {w0 : World} {G W0 : Nat → Prop} {μ0 : Mu} {h0 : AH} {N : Nat} {env : Env} {h : AH} {a : Act} {w : World} {k : Known} {rs : List (Nat × Nat)} {pins : List Nat} (hp : ∀ o v, μ0 o = some v → o ∈ pins) (hw : Weak rs pins env h k) (g : Good' w0 G W0 μ0 h0 N env h a w) : Good' w0 G W0 μ0 h0 N (envOf k.slots) (hOf k.objs) a w := by
  obtain ⟨h0', h1, h2, h3⟩ := hw
  obtain ⟨μ, hg, p1, p2⟩ := g.good
  simp only [closedB, Bool.and_eq_true] at h3
  obtain ⟨⟨h3, h4⟩, h5⟩ := h3
  obtain ⟨R1, hK⟩ := rename_rel h2 h4 h5 hg.rel
  refine ⟨⟨_, ⟨R1, fun t => ?_⟩, fun o v hv => ?_, p2.trans hK hg.rel.size⟩, g.size, g.defers⟩
  · rcases envOf_mem (l := k.slots) (t := t) with he | he
    · rw [he]; trivial
    · have e1 := allP_mem h1 _ he
      have hs := hg.slots t
      simp only at e1
      rw [e1] at hs
      refine RepA.unren hK hs fun o ho => ?_
      have := List.all_eq_true.1 (List.all_eq_true.1 h3 _ he) o ho
      simp only [this]
  · have := List.all_eq_true.1 h0' o (hp o v hv)
    simp only [Bool.and_eq_true] at this
    simp only [this.1, Nat.eq_of_beq_eq_true this.2]
    exact p1 o v hv
def RK (w0 : World) (G W0 : Nat → Prop) (μ0 : Mu) (h0 : AH) (N : Nat) (K : Kont) : Exit → Act → World → Prop
  | .normal, a, w => ∃ env h b, K .normal env h b ∧ Good' w0 G W0 μ0 h0 N env h a w
  | .exit id, a, w => ∃ env h b, K (.exit id) env h b ∧ Good' w0 G W0 μ0 h0 N env h a w
  | .ret, a, w => ∃ env h b, K .ret env h b ∧ Good' w0 G W0 μ0 h0 N env h a w
  | _, _, _ => False
/-- A loop with what is known of each round by its number. -/
theorem wp_loop_ix {P : Program} {Q : Exit → Act → World → Prop} {c : Code} {ι : Type} (I : ι → Act → World → Prop) (m : ι → Nat) (i0 : ι) {a : Act} {w : World} (h0 : I i0 a w)
    (round : ∀ i a w, I i a w → c.wp P (Exit.then (fun a' w' => ∃ j, m j < m i ∧ I j a' w') Q) a w) : (Code.loop c).wp P Q a w := by
  intro b k cs
  have key : ∀ n i a w, m i = n → I i a w → ∃ e a' w', Q e a' w' ∧ Arrives P (lone (b.at a (.code c :: .inLoop c :: k)) cs w) b k cs e a' w' := by
    intro n
    induction n using Nat.strongRecOn with
    | _ n ih =>
      intro i a w hn hI
      obtain ⟨e, a₁, w₁, hq, harr⟩ := round i a w hI b (.inLoop c :: k) cs
      cases e with
      | normal =>
        obtain ⟨j, hlt, hI₁⟩ := hq
        obtain ⟨e₂, a₂, w₂, hq₂, harr₂⟩ := ih (m j) (hn ▸ hlt) j a₁ w₁ rfl hI₁
        exact ⟨e₂, a₂, w₂, hq₂, .of_steps (Steps.trans harr (.one step_inLoop)) harr₂⟩
      | exit id => exact ⟨_, a₁, w₁, hq, .pass (x := .inLoop c) rfl (fun _ _ => .inl (by simp)) harr⟩
      | goto l => exact ⟨_, a₁, w₁, hq, .pass (x := .inLoop c) rfl (fun _ _ => .inl (by simp)) harr⟩
      | ret => exact ⟨_, a₁, w₁, hq, .pass (x := .inLoop c) rfl (fun _ _ => .inl (by simp)) harr⟩
      | panic ch => exact ⟨_, a₁, w₁, hq, .pass (x := .inLoop c) rfl (fun _ _ => .inl (by simp)) harr⟩
      | outgrown => exact ⟨_, a₁, w₁, hq, .pass (x := .inLoop c) rfl (fun _ _ => .inl (by simp)) harr⟩
  obtain ⟨e, a', w', hq, harr⟩ := key _ i0 a w rfl h0
  exact ⟨e, a', w', hq, .of_steps (.one step_loop) harr⟩
/-- What is shown of trees holds of memory. -/
theorem awp_sound {P : Program} {X : Inl} {N : Nat} {pins : List Nat} (hS : InlOK P X) (hm : P.follows .mixedOrders = true) {w0 : World} {G W0 : Nat → Prop} {μ0 : Mu} {h0 : AH} (hp : ∀ o v, μ0 o = some v → o ∈ pins) : ∀ (c : Code) (env : Env) (h : AH) (b : Nat) (K : Kont) (a : Act) (w : World), awp P X N pins c env h b K → Good' w0 G W0 μ0 h0 N env h a w → c.wp P (RK w0 G W0 μ0 h0 N K) a w
  | .skip, env, h, b, K, a, w, hk, g => wp_skip ⟨env, h, b, hk, g⟩
  | .label l, env, h, b, K, a, w, hk, g => wp_label ⟨env, h, b, hk, g⟩
  | .exit id, env, h, b, K, a, w, hk, g => wp_exit ⟨env, h, b, hk, g⟩
  | .ret, env, h, b, K, a, w, hk, g => wp_ret ⟨env, h, b, hk, g⟩
  | .seq x y, env, h, b, K, a, w, hk, g => by
    refine wp_seq (wp_mono (awp_sound hS hm hp x env h b _ a w hk g) fun e a w hq => ?_)
    cases e with
    | normal => obtain ⟨env', h', b', k1, k2⟩ := hq; exact awp_sound hS hm hp y env' h' b' K a w k1 k2
    | exit id => obtain ⟨env', h', b', k1, k2⟩ := hq; exact ⟨env', h', b', k1, k2⟩
    | ret => obtain ⟨env', h', b', k1, k2⟩ := hq; exact ⟨env', h', b', k1, k2⟩
    | goto l => exact hq.elim
    | panic c => exact hq.elim
    | outgrown => exact hq.elim
  | .cond c x y, env, h, b, K, a, w, hk, g => by
    simp only [awp] at hk
    split at hk
    · rename_i t
      split at hk
      · rename_i p hpt
        obtain ⟨μ, hg, _⟩ := g.good
        have he : a.eval (.tmp t) = .bool p := by
          have := hg.slots t
          rw [hpt] at this
          exact RepD.bool_eq this
        have hk2 := hk.out
        clear hk
        rcases hk2 with ⟨rfl, hk⟩ | ⟨rfl, hk⟩
        · rw [upd_same env t (bv true) hpt] at hk
          exact wp_cond_true he (awp_sound hS hm hp x env h b K a w hk g)
        · rw [upd_same env t (bv false) hpt] at hk
          exact wp_cond_false he (awp_sound hS hm hp y env h b K a w hk g)
      · exact hk.elim
    · rename_i p
      have hk2 := hk.out
      clear hk
      rcases hk2 with ⟨rfl, hk⟩ | ⟨rfl, hk⟩
      · exact wp_cond_true rfl (awp_sound hS hm hp x env h b K a w hk g)
      · exact wp_cond_false rfl (awp_sound hS hm hp y env h b K a w hk g)
    · exact hk.elim
  | .block id c, env, h, b, K, a, w, hk, g => by
    refine wp_block (wp_mono (awp_sound hS hm hp c env h b _ a w hk g) fun e a w hq => ?_)
    cases e with
    | normal => exact hq
    | exit id' =>
      obtain ⟨env', h', b', k1, k2⟩ := hq
      simp only [blockK] at k1
      simp only [Exit.inBlock]
      by_cases e : id' = id
      · subst e
        simp at k1
        rw [if_pos rfl]
        exact ⟨env', h', b', k1, k2⟩
      · have : Nat.beq id' id = false := by
          rw [← Bool.not_eq_true]
          exact fun e' => e (Nat.eq_of_beq_eq_true e')
        rw [this] at k1
        rw [if_neg e]
        exact ⟨env', h', b', k1, k2⟩
    | ret => exact hq
    | goto l => exact hq.elim
    | panic c => exact hq.elim
    | outgrown => exact hq.elim
  | .loop c, env, h, b, K, a, w, hk, g => by
    obtain ⟨ι, F, m, i0, rs, hw, hr⟩ := hk
    refine wp_loop_ix (fun i a w => Good' w0 G W0 μ0 h0 N (envOf (F i).slots) (hOf (F i).objs) a w) m i0 (weak_good hp hw g) fun i a w g => ?_
    refine wp_mono (awp_sound hS hm hp c _ _ _ _ a w (hr i) g) fun e a' w' hq => ?_
    cases e with
    | normal =>
      obtain ⟨env', h', b', ⟨j, rs, k1, k2⟩, k3⟩ := hq
      exact ⟨j, k1, weak_good hp k2 k3⟩
    | exit id => obtain ⟨env', h', b', k1, k2⟩ := hq; exact ⟨env', h', b', k1, k2⟩
    | ret => obtain ⟨env', h', b', k1, k2⟩ := hq; exact ⟨env', h', b', k1, k2⟩
    | goto l => exact hq.elim
    | panic c => exact hq.elim
    | outgrown => exact hq.elim
  | .region id ops draw, env, h, b, K, a, w, hk, g => by
    obtain ⟨hd, hk⟩ := hk
    obtain ⟨env', h', q, Ls', x1, x2, x3⟩ := (awpR_iff hS ops.toList 0 env h []).1 hk
    obtain ⟨E, H, V, Q, L, e1, e2, e3, e4, e5, e6, e7⟩ := exR_trace ops.toList 0 env h [] rfl x1 x2
    have T : Trace P X b ops E H V Q L := ⟨fun i o ho => e3 i o (Nat.zero_le _) ho, fun i hi => e4 i (Nat.zero_le _) hi⟩
    have hl : 0 + ops.toList.length = ops.size := by simp
    have hl2 : ops.toList.length = ops.size := by simp
    rw [hl] at e5 e6
    rw [hl2, List.append_nil] at e7
    rw [← e5, ← e6, e7] at x3
    rw [← e1, ← e2] at g
    cases draw with
    | false => exact region_seq T hS hd (fun a w g' => ⟨_, _, _, x3, g'⟩) g
    | true => exact region_any T hS (apartB_spec rfl x3.1) hd (fun a w g' => ⟨_, _, _, x3.2, g'⟩) hm g
  | .rangeFunc _ _ _ _, env, h, b, K, a, w, hk, g => by simp [awp] at hk
  | .scope _, env, h, b, K, a, w, hk, g => by simp [awp] at hk
  | .goto _, env, h, b, K, a, w, hk, g => by simp [awp] at hk
  | .refuse _, env, h, b, K, a, w, hk, g => by simp [awp] at hk
/-- Slots that stay as they are. -/
def keptS (env : Env) : List Nat → (List (Nat × AV) → Prop) → Prop
  | [], K => K []
  | t :: r, K => forceA (env t) fun v => keptS env r fun l => K ((t, v) :: l)
def keepS (env : Env) (ks : List Nat) : List (Nat × AV) := ks.map fun t => (t, env t)
theorem keptS_eq (env : Env) : ∀ (ks : List Nat) (K : List (Nat × AV) → Prop), keptS env ks K = K (keepS env ks)
  | [], K => rfl
  | t :: r, K => by simp only [keptS, forceA_eq, keptS_eq env r, keepS, List.map_cons]
/-- A loop: what stays, and what hangs on the round. -/
theorem loop_keep {P : Program} {X : Inl} {N : Nat} {pins : List Nat} {c : Code} {env : Env} {h : AH} {K : Kont} (ks : List Nat) (b' : Nat) (rs : List (Nat × Nat)) (ι : Type) (D : ι → List (Nat × AV)) (O : ι → List (Nat × OS)) (m : ι → Nat) (i0 : ι)
    (hh : keptS env ks fun kept => Weak rs pins env h ⟨D i0 ++ kept, O i0, b'⟩ ∧ ∀ i, awp P X N pins c (envOf (D i ++ kept)) (hOf (O i)) b' (thenK (fun env h b => ∃ j rs, m j < m i ∧ Weak rs pins env h ⟨D j ++ kept, O j, b'⟩) K)) :
    ∃ (ι : Type) (F : ι → Known) (m : ι → Nat) (i : ι) (rs : List (Nat × Nat)), Weak rs pins env h (F i) ∧ ∀ i, awp P X N pins c (envOf (F i).slots) (hOf (F i).objs) (F i).base (thenK (fun env h b => ∃ j rs, m j < m i ∧ Weak rs pins env h (F j)) K) := by
  rw [keptS_eq] at hh
  exact ⟨ι, fun i => ⟨D i ++ keepS env ks, O i, b'⟩, m, i0, rs, hh⟩
end Go.Proofs.YtpgeopefamomnaeGreat

namespace Go.Proofs.YtpgeopefamomnaeGreat
open Go.RowKit
set_option linter.unusedVariables false
/-- Called with xs, where hc is owned, K answers v, and leaves hc'. -/
def FunOK (P : Program) (K : FuncId) (xs : List AV) (hc : AH) (v : AV) (hc' : AH) : Prop :=
  ∀ (w : World) (G W0 : Nat → Prop) (μ : Mu) (args : Array Value), RelH w G W0 hc μ w → All2 (RepA w (WrOf hc μ W0) μ) xs args.toList → CallsTo P w G W0 hc μ w K args v hc'
def resR (P : Program) (env : Env) (h : AH) : List ResultVar → Option (List AV × Prop)
  | [] => some ([], True)
  | .tmp t :: r => match resR P env h r with
    | some (vs, q) => some (env t :: vs, q)
    | none => none
  | .cell t ty :: r => match (loadP P ty (env t)).run env h with
    | some (v, q1, _) => match resR P env h r with
      | some (vs, q) => some (v :: vs, q1 ∧ q)
      | none => none
    | none => none
def retV : List AV → AV
  | [v] => v
  | vs => .tup vs
def resM (a : Act) (x : ResultVar) : Sem Value := match x with
  | .tmp t => pure (a.tmps.getD t undef)
  | .cell b t => do loadVar t (← asAddr (a.tmps.getD b undef))
theorem resR_run {P : Program} {w0 w : World} {G W0 : Nat → Prop} {env : Env} {h : AH} {μ : Mu} {a : Act} (g : Good w0 G W0 env h μ a w) : ∀ {rs : List ResultVar} {vs : List AV} {q : Prop}, resR P env h rs = some (vs, q) → q →
    ∃ us : List Value, (rs.mapM (resM a)).run P w = .ok us w ∧ All2 (RepA w (WrOf h μ W0) μ) vs us
  | [], vs, q, hr, hq => by
    simp only [resR, Option.some.injEq, Prod.mk.injEq] at hr
    obtain ⟨rfl, rfl⟩ := hr
    exact ⟨[], by simp, All2.nil⟩
  | .tmp t :: r, vs, q, hr, hq => by
    simp only [resR] at hr
    split at hr
    · rename_i vs1 q1 h1
      simp only [Option.some.injEq, Prod.mk.injEq] at hr
      obtain ⟨rfl, rfl⟩ := hr
      obtain ⟨us, k1, k2⟩ := resR_run g h1 hq
      have m1 : (resM a (.tmp t)).run P w = .ok (a.tmps.getD t undef) w := rfl
      exact ⟨_ :: us, by simp only [List.mapM_cons, Sem.run_bind, m1, k1, Result.andThen_ok, Sem.run_pure], All2.cons (g.slots t) k2⟩
    · cases hr
  | .cell t ty :: r, vs, q, hr, hq => by
    simp only [resR] at hr
    split at hr
    · rename_i v1 q1 h1 hl
      split at hr
      · rename_i vs1 q2 h2
        simp only [Option.some.injEq, Prod.mk.injEq] at hr
        obtain ⟨rfl, rfl⟩ := hr
        obtain ⟨us, k1, k2⟩ := resR_run g h2 hq.2
        obtain ⟨_, ⟨ad, e⟩, u, m1, m2⟩ := loadP_run g.rel (g.slots t) hl hq.1
        have m1' : (resM a (.cell t ty)).run P w = .ok u w := by
          rw [e] at m1
          simp only [resM, e, asAddr, Sem.run_bind, Sem.run_pure, Result.andThen_ok]
          simpa [Instr.loadAt, Instr.sureAddr] using m1
        exact ⟨u :: us, by simp only [List.mapM_cons, Sem.run_bind, m1', k1, Result.andThen_ok, Sem.run_pure], All2.cons m2 k2⟩
      · cases hr
    · cases hr
def retU : List Value → Value
  | [u] => u
  | us => .tuple us.toArray
theorem results_run {P : Program} {fn : Func} {a : Act} {w : World} {us : List Value} (h : (fn.results.toList.mapM (resM a)).run P w = .ok us w) : (results fn a.tmps).run P w = .ok (retU us) w := by
  have e0 : results fn a.tmps = (fn.results.mapM (resM a)) >>= fun vs => pure (if h : vs.size = 1 then vs[0] else .tuple vs) := by
    unfold results
    congr 1
  have e : (fn.results.mapM (resM a)).run P w = .ok us.toArray w := by
    rw [Array.mapM_eq_mapM_toList]
    show (Sem.bind _ _).run P w = _
    have := Sem.run_bind (P := P) (w := w) (x := fn.results.toList.mapM (resM a)) (f := fun x : List Value => (pure x.toArray : Sem (Array Value)))
    rw [h] at this
    exact this
  rw [e0, Sem.run_bind, e]
  simp only [Result.andThen_ok]
  match us with
  | [] => simp [retU]
  | [u] => simp [retU]
  | _ :: _ :: _ => simp [retU]
theorem retV_rep {w : World} {Wr : Nat → Prop} {μ : Mu} {vs : List AV} {us : List Value} (h : All2 (RepA w Wr μ) vs us) (hn : ∀ v ∈ vs, ∀ xs, v ≠ .tup xs) : RepA w Wr μ (retV vs) (retU us) := by
  have toS : ∀ v u, v ∈ vs → RepA w Wr μ v u → RepS w Wr μ v u := fun v u hv hr => by
    cases v with
    | c x => exact hr
    | agg cs => exact hr
    | tup xs => exact absurd rfl (hn _ hv xs)
  match vs, us, h with
  | [], us, h =>
    have : us = [] := List.eq_nil_of_length_eq_zero h.1.symm
    subst this
    exact ⟨[], rfl, All2.nil⟩
  | [v], [u], h => exact h.2 0 v u rfl rfl
  | [v], [], h => exact absurd h.1 (by simp)
  | [v], _ :: _ :: _, h => exact absurd h.1 (by simp)
  | v1 :: v2 :: r, us, h =>
    match us, h with
    | [], h => exact absurd h.1 (by simp)
    | [_], h => exact absurd h.1 (by simp)
    | u1 :: u2 :: s, h => exact ⟨_, rfl, h.1, fun i x y hx hy => toS x y (List.mem_of_getElem? hx) (h.2 i x y hx hy)⟩
def noTup : List AV → Bool
  | [] => true
  | .tup _ :: _ => false
  | _ :: r => noTup r
theorem noTup_mem : ∀ {vs : List AV}, noTup vs = true → ∀ v ∈ vs, ∀ xs, v ≠ .tup xs
  | [], _, v, hv, _ => by simp at hv
  | .tup _ :: _, h, _, _, _ => by cases h
  | .c x :: r, h, v, hv, xs => by
    rcases List.mem_cons.1 hv with rfl | hv2
    · simp
    · exact noTup_mem (show noTup r = true from h) v hv2 xs
  | .agg x :: r, h, v, hv, xs => by
    rcases List.mem_cons.1 hv with rfl | hv2
    · simp
    · exact noTup_mem (show noTup r = true from h) v hv2 xs
def envL : List AV → Env
  | [], _ => .c .undef
  | v :: r, n => match n with
    | 0 => v
    | n + 1 => envL r n
theorem envL_get : ∀ (xs : List AV) (t : Nat), envL xs t = (xs[t]?).getD (.c .undef)
  | [], t => rfl
  | v :: r, 0 => rfl
  | v :: r, n + 1 => by simp only [envL]; rw [envL_get r n]; simp
end Go.Proofs.YtpgeopefamomnaeGreat

