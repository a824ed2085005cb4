/- Deep10. -/
import Derived.Test.YtpgeopefamomnaeGreatKB
set_option linter.unusedSimpArgs false
set_option linter.unusedSectionVars false
namespace Go.Proofs.YtpgeopefamomnaeGreat
open Go.RowKit
set_option linter.unusedVariables false
theorem fold_setA {off : Nat} : ∀ (us xs : List Value) (m : Nat), (us.zipIdx m).foldl (fun (cs : Array Value) (p : Value × Nat) => cs.setIfInBounds (off + p.2) p.1) xs.toArray = (setA xs (off + m) us).toArray
  | [], xs, m => rfl
  | u :: us, xs, m => by
    simp only [List.zipIdx_cons, List.foldl_cons, setA]
    rw [List.setIfInBounds_toArray, fold_setA us (xs.set (off + m) u) (m + 1), show off + (m + 1) = off + m + 1 by omega]
theorem fill_step {pl : Nat → Option (Nat × Nat)} {xs us : List Value} {i off size : Nat} {v : Value} {rest : List (Nat × Value)} (hp : pl i = some (off, size)) (hv : v.cells = us.toArray) (hs : us.length = size) (hf : off + us.length ≤ xs.length) :
    Instr.fill pl xs.toArray ((i, v) :: rest) = Instr.fill pl (setA xs off us).toArray rest := by
  subst hs
  have e := fold_setA (off := off) us xs 0
  simp only [Nat.add_zero] at e
  have e' : Array.foldl (fun (cs : Array Value) (p : Value × Nat) => cs.setIfInBounds (off + p.2) p.1) xs.toArray us.toArray.zipIdx = (setA xs off us).toArray := by
    rw [← e]
    simp
  simp only [Instr.fill, hp]
  rw [if_neg (by rw [hv]; simp; omega), hv]
  exact congrArg (fun c => Instr.fill pl c rest) e'
theorem fillG_run {w : World} {Wr : Nat → Prop} {μ : Mu} {pl : List (Nat × Nat)} : ∀ {vs : List (Nat × AV)} {ps : List (Nat × Value)} {zs cs : List CV} {xs : List Value}, fillG pl zs vs = some cs → All2 (RepK w Wr μ) zs xs → All2 (fun x y => x.1 = y.1 ∧ RepA w Wr μ x.2 y.2) vs ps →
    ∃ ys : List Value, Instr.fill (pl.toArray[·]?) xs.toArray ps = some ys.toArray ∧ All2 (RepK w Wr μ) cs ys
  | [], ps, zs, cs, xs, h, hz, hv => by
    have : ps = [] := List.eq_nil_of_length_eq_zero hv.1.symm
    subst this
    simp [fillG] at h
    subst h
    exact ⟨xs, rfl, hz⟩
  | (f, v) :: vs, ps, zs, cs, xs, h, hz, hv => by
    cases ps with
    | nil => exact absurd hv.1 (by simp)
    | cons p ps =>
      obtain ⟨f', u⟩ := p
      obtain ⟨e1, r1⟩ := hv.2 0 (f, v) (f', u) rfl rfl
      simp only at e1 r1
      subst e1
      simp only [fillG] at h
      split at h
      · rename_i off size hp
        split at h
        · rename_i us hus
          split at h
          · rename_i hc
            simp only [Bool.and_eq_true] at hc
            obtain ⟨⟨c1, c2⟩, c3⟩ := hc
            have c2 := Nat.eq_of_beq_eq_true c2
            have c3 := Nat.le_of_ble_eq_true c3
            obtain ⟨ws, k1, k2⟩ := cells1_rep r1 hus c1
            rw [setB_eq] at h
            obtain ⟨ys, m1, m2⟩ := fillG_run (ps := ps) (xs := setA xs off ws) h (setA_all2 hz k2) ⟨by simpa using hv.1, fun i x y hx hy => hv.2 (i + 1) x y hx hy⟩
            refine ⟨ys, ?_, m2⟩
            rw [fill_step (off := off) (size := size) (by simpa using hp) k1 (by rw [← k2.1, c2]) (by rw [← k2.1, ← hz.1]; exact c3)]
            exact m1
          · cases h
        · cases h
      · cases h
theorem flat_rep {w : World} {Wr : Nat → Prop} {ds : List DV} {z : Array Value} (hz : All2 (RepD w Wr) ds z.toList) (h1 : 1 ≤ ds.length) (n : Nat) : All2 (RepD w Wr) (List.replicate n ds).flatten (madeCells z (n * ds.length)).toList := by
  have hk : ∀ c ∈ List.replicate n ds, c.length = ds.length := fun c hc => by rw [(List.mem_replicate.1 hc).2]
  have hl := flatG_len _ hk
  rw [List.length_replicate] at hl
  have hzl : z.size = ds.length := by simpa using hz.1.symm
  refine ⟨by rw [hl]; simp [madeCells], fun j x y hx hy => ?_⟩
  have hj : j < n * ds.length := by rw [← hl]; exact (List.getElem?_eq_some_iff.1 hx).1
  have hr : j % ds.length < ds.length := Nat.mod_lt _ h1
  have he : j = j / ds.length * ds.length + j % ds.length := by rw [Nat.mul_comm]; exact (Nat.div_add_mod j ds.length).symm
  have hi : j / ds.length < n := by rw [Nat.div_lt_iff_lt_mul h1]; exact hj
  rw [he, flatG_get _ _ _ hk hr] at hx
  simp [List.getElem?_replicate, hi] at hx
  have hz2 : z.toList[j % ds.length]? = some y := by
    simp only [madeCells, Array.toList_map, List.getElem?_map, Array.toList_range] at hy
    rw [List.getElem?_range hj] at hy
    simp only [Option.map_some, Option.some.injEq, hzl] at hy
    rw [← hy, getElem!_pos z _ (by omega)]
    simp [hzl, hr]
  exact hz.2 _ x y (by simpa [hr] using hx) hz2
theorem fill_mono {place place' : Nat → Option (Nat × Nat)} (hp : ∀ j p, place j = some p → place' j = some p) : ∀ {ps : List (Nat × Value)} {cs ys : Array Value}, Instr.fill place cs ps = some ys → Instr.fill place' cs ps = some ys
  | [], cs, ys, h => h
  | (i, v) :: r, cs, ys, h => by
    simp only [Instr.fill] at h ⊢
    split at h
    · cases h
    · rename_i off size hpl
      rw [hp i _ hpl]
      simp only
      split at h
      · cases h
      · rename_i hc
        rw [if_neg hc]
        exact fill_mono hp h
section
variable {α : Type} {w0 w : World} {G W0 : Nat → Prop} {env : Nat → AV}
theorem rowLit_run {μ : Mu} {k : Nat} : ∀ {vs : List (Nat × AV)} {ps : List (Nat × Value)} {es : List (List DV)} {xs : List Value} {h : AH}, RelH w0 G W0 h μ w → All2 (RepD w (WrOf h μ W0)) es.flatten xs → (∀ e ∈ es, e.length = k) →
    All2 (fun x y => x.1 = y.1 ∧ RepA w (WrOf h μ W0) μ x.2 y.2) vs ps → ∀ {kont : List (List DV) → AM α} {r : α × Prop × AH}, (rowLit k es vs kont).run env h = some r →
    ∃ es' h1 ys, (kont es').run env h1 = some r ∧ RelH w0 G W0 h1 μ w ∧ Keeps w w (WrOf h μ W0) (WrOf h1 μ W0) ∧ es'.length = es.length ∧ (∀ e ∈ es', e.length = k) ∧ All2 (RepD w (WrOf h1 μ W0)) es'.flatten ys ∧ Instr.fill (fun i => some (i * k, k)) xs.toArray ps = some ys.toArray
  | [], ps, es, xs, h, R, hx, hk, hv, kont, r, hr => by
    have : ps = [] := List.eq_nil_of_length_eq_zero hv.1.symm
    subst this
    exact ⟨es, h, xs, hr, R, Keeps.refl _ _, rfl, hk, hx, rfl⟩
  | (i, v) :: vs, ps, es, xs, h, R, hx, hk, hv, kont, r, hr => by
    cases ps with
    | nil => exact absurd hv.1 (by simp)
    | cons p ps =>
      obtain ⟨i', u⟩ := p
      obtain ⟨e1, r1⟩ := hv.2 0 (i, v) (i', u) rfl rfl
      simp only at e1 r1
      subst e1
      simp only [rowLit] at hr
      split at hr
      · rename_i us hus
        split at hr
        · rename_i hc
          simp only [Bool.and_eq_true] at hc
          obtain ⟨⟨c1, c2⟩, c3⟩ := hc
          have c2 := Nat.eq_of_beq_eq_true c2
          have hi : i < es.length := by
            have := c3
            unfold Nat.blt at this
            exact Nat.le_of_ble_eq_true this
          obtain ⟨ws, k1, k2⟩ := cells1_rep r1 hus c1
          obtain ⟨ds, h1, n1, R1, K1, D1⟩ := deepL_run R k2 hr
          have hdk : ds.length = k := by rw [D1.1, ← k2.1, c2]
          have hks : ∀ e ∈ es.set i ds, e.length = k := fun e he => by
            rcases List.mem_or_eq_of_mem_set he with h3 | h3
            · exact hk e h3
            · rw [h3, hdk]
          have hgi : (es.getD i []).length = k := by
            have e3 : es.getD i [] = es[i] := by simp [List.getD, hi]
            rw [e3]; exact hk _ (List.getElem_mem hi)
          have hfl := setA_flat es i 0 ds hk (by omega) hi
          rw [setA_whole _ _ (by omega), Nat.add_zero] at hfl
          have hx1 : All2 (RepD w (WrOf h1 μ W0)) (es.set i ds).flatten (setA xs (i * k) ws) := by
            rw [← hfl]
            exact setA_all2 (hx.mono fun _ _ h => h.mono K1) D1
          obtain ⟨es', h2, ys, m1, m2, m3, m4, m5, m6, m7⟩ := rowLit_run (ps := ps) (xs := setA xs (i * k) ws) R1 hx1 hks ⟨by simpa using hv.1, fun j x y hx hy => ⟨(hv.2 (j + 1) x y hx hy).1, (hv.2 (j + 1) x y hx hy).2.mono K1 (MuLe.refl _)⟩⟩ n1
          refine ⟨es', h2, ys, m1, m2, K1.trans m3 (Nat.le_refl _), by simpa using m4, m5, m6, ?_⟩
          rw [fill_step (off := i * k) (size := k) rfl k1 (by rw [← k2.1, c2]) ?_]
          · exact m7
          · rw [← k2.1, ← hx.1, flatG_len es hk, c2]
            have := Nat.mul_le_mul_right k (show i + 1 ≤ es.length from hi)
            rw [Nat.add_mul] at this
            omega
        · simp [AM.run] at hr
      · simp [AM.run] at hr
end
section
variable {P : Program} {sp : Spec} {nid : Nat → Nat} {w0 w : World} {G W0 : Nat → Prop} {env : Nat → AV} {h h' : AH} {μ : Mu} {a : Act} (g : Good w0 G W0 env h μ a w) {o : Oper} {v : AV} {q : Prop}
omit h' v q in
theorem elemOf_parts {P : Program} {t e : TypeId} (he : elemOf P t = some e) : P.underlying t = some (.slice e) := by
  unfold elemOf at he
  split at he
  · rename_i e' hu
    simp at he
    subst he
    exact hu
  · cases he
include g
theorem out_build {t : TypeId} {parts : Array (Nat × Operand)} (ho : o.op = .build t parts) (hr : (aop P sp nid o).run env h = some (v, q, h')) (hq : q) : Out P w0 G W0 h μ w (execOp a.eval o) v h' := by
  simp only [aop, ho] at hr
  obtain ⟨vs, h1, r1⟩ := aevP_run g hr
  simp only [execOp, ho]
  split at h1
  · rename_i pl zs hp hz
    split at h1
    · rename_i cs hcs
      simp only [AM.run, Option.some.injEq, Prod.mk.injEq] at h1
      obtain ⟨rfl, rfl, rfl⟩ := h1
      unfold zerosOf at hz
      split at hz
      · rename_i i hi
        split at hz
        · rename_i z hzv
          split at hz
          · obtain ⟨ys, m1, m2⟩ := fillG_run hcs (cvsOf_rep hz) r1
            refine Out.pure g.rel (run_v (u := .agg ys.toArray) (run_build w t _ _ ?_)) ⟨ys, rfl, m2⟩
            unfold placesOf at hp
            split at hp
            · rename_i fs hu
              simp only [Program.built, hi, hu, hzv, hp]
              simp only [Array.toArray_toList] at m1
              simpa using m1
            · rename_i n e hu
              split at hp
              · rename_i ie hie
                simp only [Option.some.injEq] at hp
                subst hp
                simp only [Program.built, hi, hu, hzv, hie]
                simp only [Array.toArray_toList] at m1
                have m2 := fill_mono (place' := fun j => some (j * ie.size, ie.size)) (fun j p hj => by
                  simp only [List.getElem?_toArray, List.getElem?_map, Option.map_eq_some_iff] at hj
                  obtain ⟨j', h1, h2⟩ := hj
                  rw [List.getElem?_eq_some_iff] at h1
                  obtain ⟨h3, h4⟩ := h1
                  simp at h4
                  subst h4
                  rw [h2]) m1
                simpa using m2
              · cases hp
            · cases hp
          · cases hz
        · cases hz
      · cases hz
    · simp [AM.run] at h1
  · simp [AM.run] at h1
set_option maxHeartbeats 2000000 in
theorem out_buildSlice {t : TypeId} {n : Nat} {parts : Array (Nat × Operand)} (ho : o.op = .buildSlice t n parts) (hr : (aop P sp nid o).run env h = some (v, q, h')) (hq : q) : Out P w0 G W0 h μ w (execOp a.eval o) v h' := by
  simp only [aop, ho] at hr
  obtain ⟨vs, h1, r1⟩ := aevP_run g hr
  simp only [execOp, ho]
  change Out P w0 G W0 h μ w (do pure (.value (← Instr.buildSlice t n (parts.map fun p => (p.1, a.eval p.2))))) v h'
  have r2 : All2 (fun x y => x.1 = y.1 ∧ RepA w (WrOf h μ W0) μ x.2 y.2) vs (parts.map fun p => (p.1, a.eval p.2)).toList := by simpa using r1
  generalize (parts.map fun p : Nat × Operand => (p.1, a.eval p.2)) = ps at r2 ⊢
  clear r1 hr
  split at h1
  · rename_i e he
    have hu := elemOf_parts he
    split at h1
    · rename_i ds hds
      obtain ⟨i, z, e1, e2, e3, e4, e5, e6, e7⟩ := elemK_parts hds
      split at h1
      · rename_i hn
        have hn := Nat.le_of_ble_eq_true hn
        have hk : ∀ c ∈ List.replicate n ds, c.length = ds.length := fun c hc => by rw [(List.mem_replicate.1 hc).2]
        obtain ⟨es', h2, ys, m1, m2, m3, m4, m5, m6, m7⟩ := rowLit_run g.rel (flat_rep (e7 w (WrOf h μ W0)) e6 n) hk r2 h1
        rw [List.length_replicate] at m4
        simp only [AM.run] at m1
        split at m1
        · rename_i hun
          simp only [Option.some.injEq, Prod.mk.injEq] at m1
          obtain ⟨rfl, rfl, rfl⟩ := m1
          have hyl : ys.length = n * ds.length := by rw [← m6.1, flatG_len _ m5, m4]
          have hrun : (Instr.buildSlice t n ps).run P w = .ok (.slice (some ⟨w.heap.size, 0, none⟩) n n) (w.alloc (.cells ys.toArray e)) := by
            have hfill : Instr.fill (fun i => some (i * ds.length, ds.length)) (madeCells z.cells (n * ds.length)) ps.toList = some ys.toArray := by
              simp only [Array.toArray_toList] at m7
              simpa using m7
            by_cases h0 : n * ds.length = 0
            · have hn0 : n = 0 := by
                rcases Nat.mul_eq_zero.1 h0 with h | h
                · exact h
                · omega
              have hm : madeCells z.cells 0 = #[] := by simp [madeCells]
              rw [h0, hm] at hfill
              subst hn0
              simp [Instr.buildSlice, run_underlying hu, sizeOf, typeInfo, e1, e4, newRow, Array.range_zero', hfill]
            · refine run_buildSlice w t e n _ _ i z hu e1 e2 (by rw [e4]; omega) (by rw [e4]; exact h0) ?_
              rw [e4]
              exact hfill
          have hnl : n ≤ maxLen := by
            have h1 : n * 1 ≤ n * ds.length := Nat.mul_le_mul_left n e6
            simp only [maxLen]
            omega
          have hown : (w.alloc (.cells ys.toArray e)).ownsRow 0 e ds.length (.slice (some ⟨w.heap.size, 0, none⟩) n n) es'.length ys := by
            have := World.ownsRow_lit (base := 0) (e := e) (size := ds.length) w ys.toArray n (Nat.zero_le _) hnl (by rw [List.size_toArray]; exact hyl)
            rw [m4]
            exact this
          have O := Out.row (P := P) (k := ds.length) (vs := ys) (ty := e) (w' := w.alloc (.cells ys.toArray e)) (v' := .slice (some ⟨w.heap.size, 0, none⟩) n n) m2 hun (run_v hrun)
            hown
            (World.grownBy_alloc w _ none) (fun b hb => by simp [blk] at hb; exact hb.symm) m5 m6
          obtain ⟨nx, u, w', μ', p1, p2, p3, p4, p5, p6⟩ := O
          exact ⟨nx, u, w', μ', p1, p2, p3, p4, m3.trans p5 (Nat.le_refl _), p6⟩
        · cases m1
      · simp [AM.run] at h1
    · simp [AM.run] at h1
  · simp [AM.run] at h1
omit g in
theorem mk0_eq {l c : Operand} {m : Nat} (h : mk0 l c = some m) : l = .const (.int .i64 0) ∧ c = .const (.int .i64 (m : Nat)) := by
  unfold mk0 at h
  split at h
  · simp only [Option.some.injEq] at h
    subst h
    exact ⟨rfl, rfl⟩
  · cases h
theorem out_makeSlice {t : TypeId} {l c : Operand} (ho : o.op = .makeSlice t l c) (hr : (aop P sp nid o).run env h = some (v, q, h')) (hq : q) : Out P w0 G W0 h μ w (execOp a.eval o) v h' := by
  simp only [aop, ho] at hr
  split at hr
  · rename_i m hmk
    obtain ⟨rfl, rfl⟩ := mk0_eq hmk
    simp only [execOp, ho]
    split at hr
    · rename_i e he
      have hu := elemOf_parts he
      split at hr
      · rename_i ds hds
        obtain ⟨i, z, e1, e2, e3, e4, e5, e6, e7⟩ := elemK_parts hds
        simp only [AM.run] at hr
        split at hr
        · rename_i a1 q1 h3 hm
          split at hm
          · rename_i hun
            simp only [Option.some.injEq, Prod.mk.injEq] at hm
            obtain ⟨rfl, rfl, rfl⟩ := hm
            simp only [Option.some.injEq, Prod.mk.injEq] at hr
            obtain ⟨rfl, rfl, rfl⟩ := hr
            obtain ⟨q2, _⟩ := hq
            have x1 : a.eval (.const (.int .i64 0)) = .int .i64 0 := rfl
            have x2 : a.eval (.const (.int .i64 (m : Nat))) = .int .i64 (m : Nat) := rfl
            rw [x1, x2]
            have hb : i.bytes * m ≤ 100000 * 1000000000 := Nat.mul_le_mul e5 (by omega)
            have hrun := run_make (P := P) w t e i z hu e1 e2 .i64 .i64 0 m (by omega) (by omega) (by omega) (by omega)
            simp only [Int.toNat_natCast, Int.toNat_zero, e4] at hrun ⊢
            exact Out.row (k := ds.length) (vs := []) (ty := e) (w' := w.alloc (.cells (madeCells z.cells (m * ds.length)) e)) (v' := .slice (some ⟨w.heap.size, 0, none⟩) 0 m) g.rel hun (run_v hrun)
              (World.ownsRow_made w _ m (Nat.zero_le _) (by simp only [maxLen]; omega) (by simp [madeCells]))
              (World.grownBy_alloc w _ none) (fun b hb => by simp [blk] at hb; exact hb.symm) (fun c hc => by cases hc) All2.nil
          · cases hm
        · cases hr
      · simp [AM.run] at hr
    · simp [AM.run] at hr
  obtain ⟨vl, h1, r1⟩ := aev_run g hr
  obtain ⟨vc, h2, r2⟩ := aev_run g h1
  simp only [execOp, ho]
  split at h2
  · rename_i e n m he
    have hu := elemOf_parts he
    split at h2
    · rename_i ds hds
      obtain ⟨i, z, e1, e2, e3, e4, e5, e6, e7⟩ := elemK_parts hds
      simp only [AM.run] at h2
      split at h2
      · rename_i a1 q1 h3 hm
        split at hm
        · rename_i hun
          simp only [Option.some.injEq, Prod.mk.injEq] at hm
          obtain ⟨rfl, rfl, rfl⟩ := hm
          simp only [Option.some.injEq, Prod.mk.injEq] at h2
          obtain ⟨rfl, rfl, rfl⟩ := h2
          obtain ⟨⟨q0, rfl, q2⟩, _⟩ := hq
          have x1 : a.eval l = .int .i64 m := RepD.int_eq r1
          have x2 : a.eval c = .int .i64 m := RepD.int_eq r2
          rw [x1, x2]
          obtain ⟨N, rfl⟩ := Int.eq_ofNat_of_zero_le q0
          have hb : i.bytes * N ≤ 100000 * 1000000000 := Nat.mul_le_mul e5 (by omega)
          have hrun := run_make (P := P) w t e i z hu e1 e2 .i64 .i64 N N (by omega) (by omega) (by omega) (by omega)
          simp only [Int.toNat_natCast, e4] at hrun ⊢
          have hk : ∀ c ∈ List.replicate N ds, c.length = ds.length := fun c hc => by rw [(List.mem_replicate.1 hc).2]
          exact Out.row (k := ds.length) (vs := (madeCells z.cells (N * ds.length)).toList) (ty := e) (w' := w.alloc (.cells (madeCells z.cells (N * ds.length)) e)) (v' := .slice (some ⟨w.heap.size, 0, none⟩) N N) g.rel hun (run_v hrun)
            (by rw [List.length_replicate]; exact World.ownsRow_lit w _ N (Nat.zero_le _) (by simp only [maxLen]; omega) (by simp [madeCells]))
            (World.grownBy_alloc w _ none) (fun b hb => by simp [blk] at hb; exact hb.symm) hk (flat_rep (e7 w _) e6 N)
        · cases hm
      · cases h2
    · simp [AM.run] at h2
  · simp [AM.run] at h2
omit g in
theorem capsOf_rep {w : World} {Wr : Nat → Prop} {μ : Mu} : ∀ {vs : List AV} {os : List Nat} {us : List Value}, capsOf vs = some os → All2 (RepA w Wr μ) vs us → All2 (fun o p => ∃ b, At μ o b ∧ p = .pointer (some ⟨b, 0, none⟩)) os us
  | [], os, us, h, hr => by
    simp [capsOf] at h
    subst h
    have : us = [] := List.eq_nil_of_length_eq_zero hr.1.symm
    subst this
    exact All2.nil
  | v :: r, os, us, h, hr => by
    cases us with
    | nil => exact absurd hr.1 (by simp)
    | cons u us =>
      have h0 := hr.2 0 v u rfl rfl
      have ht : All2 (RepA w Wr μ) r us := ⟨by simpa using hr.1, fun i x y hx hy => hr.2 (i + 1) x y hx hy⟩
      unfold capsOf at h
      split at h
      · rename_i h2; cases h2
      · rename_i o1 k1 r1 h2
        injection h2 with h3 h4
        subst h3
        subst h4
        split at h
        · rename_i l hl
          simp at h
          subst h
          obtain ⟨b, hb, he⟩ := h0
          exact All2.cons ⟨b, hb, by simpa using he⟩ (capsOf_rep hl ht)
        · cases h
      · cases h
theorem out_makeFunc {fn : Fn} {first caps : Array Operand} (ho : o.op = .makeFunc fn first caps) (hr : (aop P sp nid o).run env h = some (v, q, h')) (hq : q) : Out P w0 G W0 h μ w (execOp a.eval o) v h' := by
  simp only [aop, ho] at hr
  simp only [execOp, ho]
  cases fn with
  | func f =>
    simp only at hr
    split at hr
    · rename_i hf
      obtain ⟨vs, h1, r1⟩ := aevL_run g hr
      split at h1
      · rename_i os hos
        simp only [AM.run, Option.some.injEq, Prod.mk.injEq] at h1
        obtain ⟨rfl, rfl, rfl⟩ := h1
        have hf' : first = #[] := by
          apply Array.toList_inj.1
          rw [hf]
        subst hf'
        exact Out.pure g.rel (run_v (u := .func (.func f) #[] (caps.map a.eval)) (by simp [Instr.makeFunc])) ⟨caps.toList.map a.eval, by rw [show (caps.toList.map a.eval).toArray = caps.map a.eval from Array.toList_inj.1 (by simp)], capsOf_rep hos r1⟩
      · simp [AM.run] at h1
    · simp [AM.run] at hr
  | method _ => simp [AM.run] at hr
  | methodOf _ _ => simp [AM.run] at hr
  | via _ _ _ _ => simp [AM.run] at hr
  | yield _ => simp [AM.run] at hr
end
end Go.Proofs.YtpgeopefamomnaeGreat

