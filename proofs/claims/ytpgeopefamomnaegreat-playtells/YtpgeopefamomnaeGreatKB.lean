/- Deep9x Deep9. -/
import Derived.Laws.StructEq
import Derived.Test.YtpgeopefamomnaeGreatKA
import Derived.Laws.BytesString
set_option linter.unusedSimpArgs false
set_option linter.unusedSectionVars false
namespace Go.Proofs.YtpgeopefamomnaeGreat
open Go.RowKit
set_option linter.unusedVariables false
theorem ikN_inj {k k' : IntKind} (h : ikN k = ikN k') : k = k' := by cases k <;> cases k' <;> simp_all [ikN]
theorem isAggT_struct {P : Program} {t : TypeId} {fs : Array Field} (h : P.underlying t = some (.struct fs)) (w : World) : (isAgg t).run P w = .ok true w := by
  simp [isAgg, run_underlying h, TypeDesc.isRow]
theorem isAggT_int {P : Program} {t : TypeId} {k : IntKind} (h : P.underlying t = some (.int k)) (w : World) : (isAgg t).run P w = .ok false w := by
  simp [isAgg, run_underlying h, TypeDesc.isRow]
theorem isAggT_bool {P : Program} {t : TypeId} (h : P.underlying t = some .bool) (w : World) : (isAgg t).run P w = .ok false w := by
  simp [isAgg, run_underlying h, TypeDesc.isRow]
/-- What of such a type is. -/
def valOf (P : Program) (t : TypeId) (us : List Value) : Value := match P.underlying t with
  | some (.struct _) => .agg us.toArray
  | _ => us.headD undef
theorem extract_take (us : List Value) (o n : Nat) : us.toArray.extract o (o + n) = ((us.drop o).take n).toArray := by
  simp [List.extract_toArray, List.extract_eq_take_drop]
theorem aeq_run {P : Program} {w : World} {Wr : Nat → Prop} {μ : Mu} : ∀ (d : Nat) (t : TypeId) (xs ys : List CV) (us vs : List Value) (b : Bool) (m : Nat), aeq P d t xs ys = some b → flatOK P d t = true → All2 (RepK w Wr μ) xs us → All2 (RepK w Wr μ) ys vs →
    (Op.equalIn (d + m) t (valOf P t us) (valOf P t vs)).run P w = .ok b w
  | 0, t, xs, ys, us, vs, b, m, h, _, _, _ => by cases h
  | d + 1, t, xs, ys, us, vs, b, m, h, hf, hx, hy => by
    have one : ∀ {c : CV} {us : List Value}, All2 (RepK w Wr μ) [c] us → ∃ u, us = [u] ∧ RepK w Wr μ c u := fun {c us} h => by
      obtain ⟨u, hu, hr⟩ := h.get (i := 0) rfl
      have hl := h.1
      match us, hl with
      | [u'], _ => simp at hu; subst hu; exact ⟨_, rfl, hr⟩
    rw [show d + 1 + m = (d + m) + 1 by omega]
    simp only [aeq] at h
    split at h
    · rename_i hu
      split at h
      · rename_i a b'
        cases h
        obtain ⟨u, rfl, ru⟩ := one hx
        obtain ⟨v, rfl, rv⟩ := one hy
        have e1 : u = .bool a := RepD.bool_eq ru.2
        have e2 : v = .bool b' := RepD.bool_eq rv.2
        simp only [valOf, hu, List.headD_cons, e1, e2]
        exact run_equalIn_bool' w _ t a b' hu
      · cases h
    · rename_i k0 hu
      split at h
      · rename_i k a k' b'
        split at h
        · rename_i hk
          have hk := ikN_inj (Nat.eq_of_beq_eq_true hk)
          subst hk
          cases h
          obtain ⟨u, rfl, ru⟩ := one hx
          obtain ⟨v, rfl, rv⟩ := one hy
          have e1 : u = .int k a := RepD.int_eq ru.2
          have e2 : v = .int k b' := RepD.int_eq rv.2
          simp only [valOf, hu, List.headD_cons, e1, e2]
          exact run_equalIn_int w _ t k k0 a b' hu
        · cases h
      · cases h
    · rename_i fs hu
      simp only [flatOK, hu, Bool.and_eq_true, Bool.not_eq_true'] at hf
      obtain ⟨⟨f1, f2⟩, f3⟩ := hf
      have hfo : P.fieldsOf t = fs := by simp [Program.fieldsOf, hu]
      simp only [valOf, hu]
      rw [run_equalIn_agg w (d + m) t us.toArray vs.toArray (by rw [hfo]; exact hu) f1, hfo]
      clear hfo hu f1
      revert f2 f3 h
      generalize fs.toList = fl
      intro h f3 f2
      induction fl generalizing b with
      | nil => simp only [aeqL, Option.some.injEq] at h; subst h; simp [Op.eqFields]
      | cons f fl ih =>
        simp only [aeqL] at h
        split at h
        · rename_i a ha
          split at h
          · rename_i b' hb
            simp only [Option.some.injEq] at h
            subst h
            simp only [nameOK, List.all_cons, Bool.and_eq_true] at f2 f3
            have hname : f.name ≠ "_" := by simpa using f2.1
            have ih' := ih b' hb f3.2 (by simpa [nameOK] using f2.2)
            have sx : All2 (RepK w Wr μ) ((xs.drop f.offset).take (szOf P f.type)) ((us.drop f.offset).take (szOf P f.type)) := hx.sub _ _
            have sy : All2 (RepK w Wr μ) ((ys.drop f.offset).take (szOf P f.type)) ((vs.drop f.offset).take (szOf P f.type)) := hy.sub _ _
            have hq := aeq_run d f.type _ _ _ _ a m ha f3.1 sx sy
            -- what a part is
            have pt : ∀ (zs : List Value) (cs : List CV), (∃ b, aeq P d f.type ((cs.drop f.offset).take (szOf P f.type)) ((cs.drop f.offset).take (szOf P f.type)) = b) → All2 (RepK w Wr μ) ((cs.drop f.offset).take (szOf P f.type)) ((zs.drop f.offset).take (szOf P f.type)) → (∀ u, P.underlying f.type = some u → (∃ fs, u = .struct fs) ∨ (u = .bool ∨ ∃ k, u = .int k) ∧ ∃ c, (cs.drop f.offset).take (szOf P f.type) = [c]) → P.underlying f.type ≠ none →
                (part f.type zs.toArray f.offset).run P w = .ok (valOf P f.type ((zs.drop f.offset).take (szOf P f.type))) w := fun zs cs _ hz hu hn => by
              cases hty : P.underlying f.type with
              | none => exact absurd hty hn
              | some u =>
                have hi : ∃ i, P.info? f.type = some i := by
                  cases hi : P.info? f.type with
                  | some i => exact ⟨i, rfl⟩
                  | none => simp [Program.underlying, hi] at hty
                obtain ⟨i, hi⟩ := hi
                have hs : (sizeOf f.type).run P w = .ok (szOf P f.type) w := by simp [sizeOf, typeInfo, hi, szOf]
                rcases hu u hty with ⟨fs, rfl⟩ | ⟨hs2, c, hc⟩
                · unfold part
                  simp only [Sem.run_bind, isAggT_struct hty, Result.andThen_ok, if_true, hs, Sem.run_pure, valOf, hty, extract_take]
                · have hag : (isAgg f.type).run P w = .ok false w := by
                    rcases hs2 with rfl | ⟨k, rfl⟩
                    · exact isAggT_bool hty w
                    · exact isAggT_int hty w
                  have hv : valOf P f.type ((zs.drop f.offset).take (szOf P f.type)) = ((zs.drop f.offset).take (szOf P f.type)).headD undef := by
                    rcases hs2 with rfl | ⟨k, rfl⟩ <;> simp only [valOf, hty]
                  rw [hc] at hz
                  obtain ⟨u, hu', _⟩ := one hz
                  have hget : zs[f.offset]? = some u := by
                    have := congrArg (·[0]?) hu'
                    simp only [List.getElem?_cons_zero] at this
                    rw [List.getElem?_take] at this
                    split at this
                    · simpa using this
                    · cases this
                  rw [hv, hu']
                  unfold part
                  simp [Sem.run_bind, hag, hget]
            have two : P.underlying f.type ≠ none ∧ (∀ u, P.underlying f.type = some u → (∃ fs, u = .struct fs) ∨ (u = .bool ∨ ∃ k, u = .int k) ∧ (∃ c, (xs.drop f.offset).take (szOf P f.type) = [c]) ∧ ∃ c, (ys.drop f.offset).take (szOf P f.type) = [c]) := by
              cases d with
              | zero => cases ha
              | succ d =>
                simp only [aeq] at ha
                split at ha
                · rename_i hty
                  refine ⟨by rw [hty]; simp, fun u hu => ?_⟩
                  rw [hty] at hu; cases hu
                  split at ha
                  · rename_i e1 e2; exact .inr ⟨.inl rfl, ⟨_, e1⟩, _, e2⟩
                  · cases ha
                · rename_i k hty
                  refine ⟨by rw [hty]; simp, fun u hu => ?_⟩
                  rw [hty] at hu; cases hu
                  split at ha
                  · rename_i e1 e2; exact .inr ⟨.inr ⟨_, rfl⟩, ⟨_, e1⟩, _, e2⟩
                  · cases ha
                · rename_i fs hty
                  refine ⟨by rw [hty]; simp, fun u hu => ?_⟩
                  rw [hty] at hu; cases hu
                  exact .inl ⟨_, rfl⟩
                · cases ha
            have px := pt us xs ⟨_, rfl⟩ sx (fun u hu => (two.2 u hu).imp id fun ⟨a, b, c⟩ => ⟨a, b⟩) two.1
            have py := pt vs ys ⟨_, rfl⟩ sy (fun u hu => (two.2 u hu).imp id fun ⟨a, b, c⟩ => ⟨a, c⟩) two.1
            simp only [Op.eqFields, Sem.run_bind, Sem.run_ite, if_pos hname, px, py, Result.andThen_ok, hq]
            cases a with
            | true => simpa using ih'
            | false => simp
          · cases h
        · cases h
    · cases h
end Go.Proofs.YtpgeopefamomnaeGreat

namespace Go.Proofs.YtpgeopefamomnaeGreat
open Go.RowKit
set_option linter.unusedVariables false
theorem setA_take {α : Type} (xs us : List α) (o n : Nat) (h : o + us.length ≤ n) (hn : n ≤ xs.length) : (setA xs o us).take n = setA (xs.take n) o us := by
  apply List.ext_getElem?
  intro q
  rw [List.getElem?_take, setA_get us xs o q (by omega), setA_get us (xs.take n) o q (by simp; omega), List.getElem?_take]
  by_cases hq : q < n
  · rw [if_pos hq, if_pos hq]
  · rw [if_neg hq, if_neg hq, if_neg (by omega)]
theorem addr_plain' (b off j : Nat) : (⟨b, off, none⟩ : Addr).add j = ⟨b, off + j, none⟩ := by unfold Addr.add; split <;> simp_all
theorem bytes_cells {w : World} {Wr : Nat → Prop} : ∀ {es : List (List DV)} {vs : List Value}, (∀ e ∈ es, isByte e) → All2 (RepD w Wr) es.flatten vs → vs = es.map fun e => .int .u8 ((byteOf e).toNat : Int)
  | [], vs, _, h => List.eq_nil_of_length_eq_zero (by simpa using h.1.symm)
  | e :: es, vs, hb, h => by
    have he : e = [.int .u8 ((byteOf e).toNat : Int)] := hb e (by simp)
    generalize hn : (byteOf e).toNat = n at he
    subst he
    cases vs with
    | nil => have := h.1; simp at this
    | cons v vs =>
      have h0 : v = .int .u8 (n : Int) := RepD.int_eq (h.2 0 _ v rfl rfl)
      rw [List.map_cons, hn, h0, ← bytes_cells (vs := vs) (fun e he => hb e (by simp [he])) ⟨by simpa using h.1, fun i x y hx hy => h.2 (i + 1) x y (by simpa using hx) (by simpa using hy)⟩]
theorem fold_push : ∀ (bs : List UInt8) (r : Array UInt8), (bs.map fun b => (b.toNat : Int)).foldl (fun (r : ByteArray) n => r.push (UInt8.ofNat n.toNat)) ⟨r⟩ = ⟨r ++ bs.toArray⟩
  | [], r => by simp
  | b :: bs, r => by
    simp only [List.map_cons, List.foldl_cons]
    have : (⟨r⟩ : ByteArray).push (UInt8.ofNat (b.toNat : Int).toNat) = ⟨r.push b⟩ := by
      simp [ByteArray.push]
    rw [this, fold_push bs (r.push b)]
    simp
section
variable {P : Program} {sp : Spec} {nid : Nat → Nat} {w0 w : World} {G W0 : Nat → Prop} {env : Nat → AV} {h h' : AH} {μ : Mu} {a : Act} (g : Good w0 G W0 env h μ a w) {o : Oper} {v : AV} {q : Prop}
omit h' v q in
theorem szOf_info {P : Program} {t : TypeId} (h : szOf P t ≠ 0) : ∃ i, P.info? t = some i ∧ i.size = szOf P t := by
  cases hi : P.info? t with
  | none => simp [szOf, hi] at h
  | some i => exact ⟨i, rfl, by simp [szOf, hi]⟩
include g
theorem out_store {t : TypeId} {p x : Operand} (ho : o.op = .store t p x) (hr : (aop P sp nid o).run env h = some (v, q, h')) (hq : q) : Out P w0 G W0 h μ w (execOp a.eval o) v h' := by
  simp only [aop, ho] at hr
  obtain ⟨vp, h1, r1⟩ := aev_run g hr
  obtain ⟨vx, h2, r2⟩ := aev_run g h1
  simp only [execOp, ho]
  unfold storeP at h2
  split at h2
  · rename_i o1 i off k us hus
    split at h2
    · rename_i hcond
      simp only [Bool.and_eq_true] at hcond
      obtain ⟨⟨c1, c2⟩, c3⟩ := hcond
      have c2 := Nat.eq_of_beq_eq_true c2
      have c3 := Nat.le_of_ble_eq_true c3
      obtain ⟨ws, e1, e2⟩ := cells1_rep r2 hus c1
      obtain ⟨b, hb, he⟩ : ∃ b, At μ o1 b ∧ a.eval p = .pointer (some ⟨b, i * k + off, none⟩) := r1
      rw [he]
      have hinfo : (P.info? t).isSome = true := by
        obtain ⟨i, hi, _⟩ := szOf_info (P := P) (t := t) (by omega)
        simp [hi]
      simp only [AM.run] at h2
      split at h2
      · rename_i y hy
        split at h2
        · rename_i cs ty
          split at h2
          · rename_i hc2
            simp only [Bool.and_eq_true] at hc2
            have hi0 := Nat.eq_of_beq_eq_true hc2.1
            have hfit := Nat.le_of_ble_eq_true hc2.2
            subst hi0
            rw [Nat.zero_mul, Nat.zero_add]
            simp only [AM.run, hy, setB_eq, Option.some.injEq, Prod.mk.injEq] at h2
            obtain ⟨rfl, rfl, rfl⟩ := h2
            obtain ⟨b', vs, k1, k2, k3⟩ := g.rel.obj o1 _ hy
            have : b = b' := hb.uniq ⟨_, k1, rfl⟩
            subst this
            have hrun := run_storeC (P := P) (w := w) (b := b) (o := off) (ty := t) e1 (there_at k2 (by simp; rw [← k3.1, ← e2.1]; exact hfit)) (by rw [← c2, e2.1]) hinfo (RepK.ones e2)
            obtain ⟨m1, m2⟩ := setCells_heap ws w vs off k2
            obtain ⟨R1, K1⟩ := g.rel.write (w' := w.setCells b off ws) (x' := .box (setA cs off us) ty) hy rfl m2.os m2.tape m2.output m2.size (fun b' hb' hn => m2.block b' hb' (fun e => by cases e; exact hn hb))
              (fun K => ⟨b, _, k1, m1, setA_all2 (k3.mono fun _ _ h => h.mono K (MuLe.refl _)) (e2.mono fun _ _ h => h.mono K (MuLe.refl _))⟩)
            exact ⟨_, undef, _, _, run_u hrun, .inr ⟨rfl, rfl⟩, R1, MuLe.refl _, K1, trivial⟩
          · simp [AM.run] at h2
        · rename_i es0 k0 ty0 f0
          obtain ⟨ds, hh, n1, R1, K1, D1⟩ := deepL_run g.rel e2 h2
          simp only [AM.run] at n1
          split at n1
          · rename_i y2 hy2
            split at n1
            · rename_i es k' ty
              split at n1
              · rename_i hkk
                have hkk := Nat.eq_of_beq_eq_true hkk
                subst hkk
                simp only [AM.run, hy2] at n1
                simp only [Option.some.injEq, Prod.mk.injEq] at n1
                obtain ⟨rfl, rfl, rfl⟩ := n1
                obtain ⟨⟨hi, hoff⟩, _⟩ := hq
                obtain ⟨u, vs, k1, k2, k3, k4⟩ := R1.obj o1 _ hy2
                rcases k2.2 with ⟨rfl, hn⟩ | ⟨gg, cap, cur, rfl, _, hg, hnc, hcm, hcs, htk⟩
                · omega
                · have : b = gg := hb.uniq ⟨_, k1, rfl⟩
                  subst this
                  have hdl : ds.length = us.length := by rw [D1.1, e2.1]
                  have hroom : i * k + off + us.length ≤ es.length * k := by
                    have := Nat.mul_le_mul_right k (show i + 1 ≤ es.length from hi)
                    rw [Nat.add_mul] at this
                    omega
                  have hcap : es.length * k ≤ cur.size := by rw [hcs]; exact Nat.mul_le_mul_right _ hnc
                  have hrun := run_storeC (P := P) (w := w) (b := b) (o := i * k + off) (ty := t) e1 (there_at hg (by rw [← e2.1]; omega)) (by rw [← c2, e2.1]) hinfo (RepK.ones e2)
                  obtain ⟨m1, m2⟩ := setCells_heap ws w cur.toList (i * k + off) (by simpa using hg)
                  have hes : (es.set i (pickE (Nat.beq off 0 && Nat.beq us.length k) ds (setA (es.getD i []) off ds))) = es.set i (setA (es.getD i []) off ds) := by
                    unfold pickE
                    split
                    · rename_i hw
                      simp only [Bool.and_eq_true] at hw
                      have h0 := Nat.eq_of_beq_eq_true hw.1
                      have h1 := Nat.eq_of_beq_eq_true hw.2
                      have hl : (es.getD i []).length = k := by
                        have e3 : es.getD i [] = es[i] := by simp [List.getD, hi]
                        rw [e3]; exact k3 _ (List.getElem_mem hi)
                      rw [h0, setA_whole _ _ (by omega)]
                    · rfl
                  rw [hes]
                  have hlen : (es.set i (setA (es.getD i []) off ds)).length = es.length := by simp
                  have hfl := setA_flat es i off ds k3 (by omega) hi
                  have hks : ∀ e ∈ es.set i (setA (es.getD i []) off ds), e.length = k := fun e he => by
                    rcases List.mem_or_eq_of_mem_set he with h3 | h3
                    · exact k3 e h3
                    · rw [h3, setA_len]
                      have e3 : es.getD i [] = es[i] := by simp [List.getD, hi]
                      rw [e3]; exact k3 _ (List.getElem_mem hi)
                  obtain ⟨R2, K2⟩ := R1.write (w' := w.setCells b (i * k + off) ws) (x' := .row (es.set i (setA (es.getD i []) off ds)) k ty false) hy2 rfl m2.os m2.tape m2.output m2.size (fun b' hb' hn => m2.block b' hb' (fun e => by cases e; exact hn hb))
                    (fun K => ⟨_, setA vs (i * k + off) ws, k1, by
                      rw [hlen]
                      exact ⟨by rw [setA_len]; exact k2.1, .inr ⟨b, cap, _, rfl, Nat.zero_le _, m1, hnc, hcm, by simp [setA_len, hcs], by
                        simp only
                        rw [setA_take _ _ _ _ (by rw [← e2.1]; exact hroom) (by simpa using hcap), htk]⟩⟩, hks, by rw [← hfl]; exact setA_all2 (k4.mono fun _ _ h => h.mono K) (D1.mono fun _ _ h => h.mono K)⟩)
                  exact ⟨_, undef, _, _, run_u hrun, .inr ⟨rfl, rfl⟩, R2, MuLe.refl _, K1.trans K2 (Nat.le_refl _), trivial⟩
              · simp [AM.run] at n1
            · simp [AM.run] at n1
          · cases n1
      · cases h2
    · simp [AM.run] at h2
  · simp [AM.run] at h2
theorem out_index {t : TypeId} {x ix : Operand} (ho : o.op = .indexAddr t x ix) (hr : (aop P sp nid o).run env h = some (v, q, h')) (hq : q) : Out P w0 G W0 h μ w (execOp a.eval o) v h' := by
  simp only [aop, ho] at hr
  obtain ⟨vx, h1, r1⟩ := aev_run g hr
  obtain ⟨vi, h2, r2⟩ := aev_run g h1
  simp only [execOp, ho]
  split at h2
  · rename_i len e ha
    have hu : P.underlying t = some (.array len e) := by
      unfold arrOf at ha
      split at ha
      · rename_i n' e' hu
        simp only [Option.some.injEq, Prod.mk.injEq] at ha
        obtain ⟨rfl, rfl⟩ := ha
        exact hu
      · cases ha
    split at h2
    · rename_i kk n o1 i1 off k
      split at h2
      · rename_i hz
        have hz := Nat.le_of_ble_eq_true hz
        simp only [AM.run, Option.some.injEq, Prod.mk.injEq] at h2
        obtain ⟨rfl, rfl, rfl⟩ := h2
        obtain ⟨⟨q0, q1⟩, _⟩ := hq
        have hi : a.eval ix = .int kk n := RepD.int_eq r2
        obtain ⟨b, hb, hv⟩ : ∃ b, At μ o1 b ∧ a.eval x = .pointer (some ⟨b, i1 * k + off, none⟩) := r1
        obtain ⟨i, hi2, hs⟩ := szOf_info (P := P) (t := e) (by omega)
        rw [hi, hv]
        refine Out.pure g.rel (run_v (u := .pointer (some ⟨b, i1 * k + (off + n.toNat * szOf P e), none⟩)) ?_) ⟨b, hb, rfl⟩
        simp [Instr.indexAt, Instr.sureAddr, run_underlying hu, asIntOf, q0, q1, sizeOf, typeInfo, hi2, hs, addr_plain', Nat.add_assoc]
      · simp [AM.run] at h2
    · simp [AM.run] at h2
  split at h2
  · rename_i e kk n he
    have hi : a.eval ix = .int kk n := RepD.int_eq r2
    rw [hi]
    have hu : P.underlying t = some (.slice e) := by
      unfold elemOf at he
      split at he
      · rename_i e' hu
        simp at he
        subst he
        exact hu
      · cases he
    have hrun : ∀ (ad : Addr) (l c : Nat), szOf P e ≠ 0 → 0 ≤ n → n < l → (Instr.indexAt t (.slice (some ad) l c) (.int kk n)).run P w = .ok (.pointer (some (ad.add (n.toNat * szOf P e)))) w := fun ad l c hz h0 hl => by
      obtain ⟨i, hi, hs⟩ := szOf_info hz
      simp [Instr.indexAt, run_underlying hu, asIntOf, h0, hl, sizeOf, typeInfo, hi, hs]
    split at h2
    · rename_i q1
      obtain ⟨hμ, a1, n1, c1, hs1⟩ : μ q1 = some (a.eval x) ∧ ∃ a1 n1 c1, a.eval x = .slice a1 n1 c1 := r1
      simp only [AM.run] at h2
      split at h2
      · rename_i y hy
        split at h2
        · rename_i es k ty fz
          split at h2
          · rename_i hc
            simp only [Bool.and_eq_true] at hc
            have hk := Nat.eq_of_beq_eq_true hc.1
            have hk1 := Nat.le_of_ble_eq_true hc.2
            simp only [AM.run, Option.some.injEq, Prod.mk.injEq] at h2
            obtain ⟨rfl, rfl, rfl⟩ := h2
            obtain ⟨⟨q0, q1'⟩, _⟩ := hq
            obtain ⟨u, vs, k1, k2, k3, k4⟩ := g.rel.obj q1 _ hy
            rw [hμ] at k1
            cases k1
            rcases k2.2 with ⟨e1, hn⟩ | ⟨gg, cap, cur, e1, _, hg, hnc, hcm, hcs, htk⟩
            · omega
            · rw [e1]
              exact Out.pure g.rel (run_v (hrun _ _ _ (by omega) q0 q1')) ⟨gg, ⟨_, hμ, by rw [e1]; rfl⟩, by rw [Addr.add_mid]; simp⟩
          · simp [AM.run] at h2
        · simp [AM.run] at h2
      · cases h2
    · rename_i es
      split at h2
      · rename_i hz
        have hz := Nat.le_of_ble_eq_true hz
        simp only [AM.run, Option.some.injEq, Prod.mk.injEq] at h2
        obtain ⟨rfl, rfl, rfl⟩ := h2
        obtain ⟨⟨q0, q1, q2⟩, _⟩ := hq
        have r1' : RepD w (WrOf h μ W0) (.row es) (a.eval x) := r1
        have hin : n.toNat < es.length := by omega
        generalize hux : a.eval x = ux at r1'
        have r1'' := r1'
        cases r1' with
        | row _ ad l cap k vs f1 f2 f3 f4 f5 f6 f7 =>
          have hk : k = szOf P e := by
            rw [← q2]
            have e3 : es.getD n.toNat [] = es[n.toNat] := by simp [List.getD, hin]
            rw [e3]
            exact (f4 _ (List.getElem_mem hin)).symm
          have hfl := flatG_len es f4
          have hpos : 0 < vs.length := by
            rw [f5, hfl]
            exact Nat.mul_pos (by omega) (by omega)
          obtain ⟨b, off, rfl, _, hcl⟩ := f6 (List.length_pos_iff.1 hpos)
          refine Out.pure g.rel (run_v (hrun _ _ _ (by omega) q0 (by omega))) ⟨b, off, l, cap, r1'', fun e he => by rw [← hk]; exact f4 e he, hin, by rw [Addr.add_mid]; simp⟩
      · simp [AM.run] at h2
    · simp [AM.run] at h2
  · simp [AM.run] at h2
theorem out_bin2 {op : BinOp} {xt : TypeId} {x y : Operand} {vx vy : AV} {p : Prop} {d : DV} (hb : abin2 P op xt vx vy = some (p, d)) (hp : p) (r1 : RepA w (WrOf h μ W0) μ vx (a.eval x)) (r2 : RepA w (WrOf h μ W0) μ vy (a.eval y)) :
    Out P w0 G W0 h μ w (do pure (.value (← (do eqGuard op xt x y (a.eval x) (a.eval y); binOp op xt (a.eval x) (a.eval y))))) (.c (.d d)) h := by
  have fin : ∀ (b : Bool) (d' : DV), eqOf op b = some d' → (eqGuard op xt x y (a.eval x) (a.eval y)).run P w = .ok () w → (op = .eql → (binOp op xt (a.eval x) (a.eval y)).run P w = .ok (.bool b) w) → (op = .neq → (binOp op xt (a.eval x) (a.eval y)).run P w = .ok (.bool (!b)) w) →
      Out P w0 G W0 h μ w (do pure (.value (← (do eqGuard op xt x y (a.eval x) (a.eval y); binOp op xt (a.eval x) (a.eval y))))) (.c (.d d')) h := fun b d' hd hg h1 h2 => by
    unfold eqOf at hd
    split at hd
    · simp only [Option.some.injEq] at hd
      subst hd
      exact Out.pure g.rel (u := .bool b) (run_v (by simp [Sem.run_bind, hg, h1 rfl])) (RepD.bool _)
    · simp only [Option.some.injEq] at hd
      subst hd
      exact Out.pure g.rel (u := .bool (!b)) (run_v (by simp [Sem.run_bind, hg, h2 rfl])) (RepD.bool _)
    · cases hd
  unfold abin2 at hb
  split at hb
  · rename_i b1 b2
    have e1 : a.eval x = .bool b1 := RepD.bool_eq r1
    have e2 : a.eval y = .bool b2 := RepD.bool_eq r2
    split at hb
    · rename_i hu
      split at hb
      · rename_i d' hd
        simp only [Option.some.injEq, Prod.mk.injEq] at hb
        obtain ⟨rfl, rfl⟩ := hb
        exact fin _ _ hd (by rw [e1, e2]; cases op <;> simp [eqGuard]) (fun ho => by rw [e1, e2, ho]; simp [binOp, Sem.run_bind, run_equal_bool w xt b1 b2 hu]) (fun ho => by rw [e1, e2, ho]; simp [binOp, Sem.run_bind, run_equal_bool w xt b1 b2 hu])
      · cases hb
    · cases hb
  · rename_i b1 b2
    have e1 : a.eval x = .string b1 := RepD.str_eq r1
    have e2 : a.eval y = .string b2 := RepD.str_eq r2
    split at hb
    · rename_i d' hd
      simp only [Option.some.injEq, Prod.mk.injEq] at hb
      obtain ⟨rfl, rfl⟩ := hb
      exact fin _ _ hd (by rw [e1, e2]; cases op <;> simp [eqGuard]) (fun ho => by rw [e1, e2, ho]; simp [binOp, Op.stringOp]) (fun ho => by rw [e1, e2, ho]; simp [binOp, Op.stringOp])
    · cases hb
  · rename_i xs ys
    obtain ⟨us, e1, k1⟩ := r1
    obtain ⟨vs, e2, k2⟩ := r2
    split at hb
    · rename_i fs hu
      split at hb
      · rename_i b hae
        split at hb
        · rename_i d' hd
          simp only [Option.some.injEq, Prod.mk.injEq] at hb
          obtain ⟨rfl, rfl⟩ := hb
          simp only [eqOK, Bool.and_eq_true, Bool.not_eq_true'] at hp
          have hq := aeq_run 8 xt xs ys us vs b 9992 hae hp.1 k1 k2
          simp only [valOf, hu, Nat.reduceAdd] at hq
          exact fin _ _ hd (by rw [e1, e2]; exact run_eqGuard_agg w op xt x y _ _ hp.2) (fun ho => by rw [e1, e2, ho, run_eql_struct, hq]; rfl) (fun ho => by rw [e1, e2, ho, run_neq_struct, hq]; rfl)
        · cases hb
      · cases hb
    · cases hb
  · cases hb
theorem out_bin {op : BinOp} {xt yt : TypeId} {x y : Operand} (ho : o.op = .binOp op xt x y yt) (hr : (aop P sp nid o).run env h = some (v, q, h')) (hq : q) : Out P w0 G W0 h μ w (execOp a.eval o) v h' := by
  simp only [aop, ho] at hr
  obtain ⟨vx, h1, r1⟩ := aev_run g hr
  obtain ⟨vy, h2, r2⟩ := aev_run g h1
  simp only [execOp, ho]
  split at h2
  · rename_i p d hb
    simp only [AM.run, Option.some.injEq, Prod.mk.injEq] at h2
    obtain ⟨rfl, rfl, rfl⟩ := h2
    obtain ⟨hp, _⟩ := hq
    unfold abin at hb
    split at hb
    · rename_i k x1 k' y1
      have e1 : a.eval x = .int k x1 := RepD.int_eq r1
      have e2 : a.eval y = .int k' y1 := RepD.int_eq r2
      have hg : ∀ op, (eqGuard op xt x y (.int k x1) (.int k' y1)).run P w = .ok () w := fun op => by
        cases op <;> simp [eqGuard]
      rw [e1, e2]
      split at hb
      · simp only [Option.some.injEq, Prod.mk.injEq] at hb
        obtain ⟨rfl, rfl⟩ := hb
        refine Out.pure g.rel (run_v (u := .int k (k.wrap (x1 * 2 ^ (min y1.toNat k.bits)))) ?_) (RepD.int _ _)
        have : ¬ y1 < 0 := by omega
        simp [Sem.run_bind, hg, binOp, Op.shift, this]
      · simp only [Option.some.injEq, Prod.mk.injEq] at hb
        obtain ⟨rfl, rfl⟩ := hb
        refine Out.pure g.rel (run_v (u := .int k (x1.fdiv (2 ^ (min y1.toNat k.bits)))) ?_) (RepD.int _ _)
        have : ¬ y1 < 0 := by omega
        simp [Sem.run_bind, hg, binOp, Op.shift, this]
      · split at hb
        · rename_i hk
          have hk := ikN_inj (Nat.eq_of_beq_eq_true hk)
          subst hk
          split at hb <;> first | (cases hb; done) | skip
          all_goals
            simp only [Option.some.injEq, Prod.mk.injEq] at hb
            obtain ⟨rfl, rfl⟩ := hb
          · exact Out.pure g.rel (run_v (u := .int k (k.wrap (x1 + y1))) (by simp [Sem.run_bind, hg, binOp, Op.intArith])) (RepD.int _ _)
          · exact Out.pure g.rel (run_v (u := .int k (k.wrap (x1 - y1))) (by simp [Sem.run_bind, hg, binOp, Op.intArith])) (RepD.int _ _)
          · exact Out.pure g.rel (run_v (u := .int k (k.wrap (x1 * y1))) (by simp [Sem.run_bind, hg, binOp, Op.intArith])) (RepD.int _ _)
          · exact Out.pure g.rel (run_v (u := .int k (k.wrap (x1.tdiv y1))) (by simp [Sem.run_bind, hg, binOp, Op.intDiv, hp])) (RepD.int _ _)
          · exact Out.pure g.rel (run_v (u := .int k (x1.tmod y1)) (by simp [Sem.run_bind, hg, binOp, Op.intDiv, hp])) (RepD.int _ _)
          · exact Out.pure g.rel (run_v (u := .int k (k.wrap (BitVec.ofInt k.bits x1 &&& BitVec.ofInt k.bits y1).toNat)) (by simp [Sem.run_bind, hg, binOp, Op.intBits])) (RepD.int _ _)
          · exact Out.pure g.rel (run_v (u := .int k (k.wrap (BitVec.ofInt k.bits x1 ||| BitVec.ofInt k.bits y1).toNat)) (by simp [Sem.run_bind, hg, binOp, Op.intBits])) (RepD.int _ _)
          · exact Out.pure g.rel (run_v (u := .int k (k.wrap (BitVec.ofInt k.bits x1 ^^^ BitVec.ofInt k.bits y1).toNat)) (by simp [Sem.run_bind, hg, binOp, Op.intBits])) (RepD.int _ _)
          · exact Out.pure g.rel (run_v (u := .int k (k.wrap (BitVec.ofInt k.bits x1 &&& ~~~BitVec.ofInt k.bits y1).toNat)) (by simp [Sem.run_bind, hg, binOp, Op.intBits])) (RepD.int _ _)
          · exact Out.pure g.rel (run_v (u := .bool (x1 == y1)) (by simp [Sem.run_bind, hg, binOp, Op.intCmp])) (RepD.bool _)
          · exact Out.pure g.rel (run_v (u := .bool (x1 != y1)) (by simp [Sem.run_bind, hg, binOp, Op.intCmp])) (RepD.bool _)
          · exact Out.pure g.rel (run_v (u := .bool (decide (x1 < y1))) (by simp [Sem.run_bind, hg, binOp, Op.intCmp])) (RepD.bool _)
          · exact Out.pure g.rel (run_v (u := .bool (decide (x1 ≤ y1))) (by simp [Sem.run_bind, hg, binOp, Op.intCmp])) (RepD.bool _)
          · exact Out.pure g.rel (run_v (u := .bool (decide (x1 > y1))) (by simp [Sem.run_bind, hg, binOp, Op.intCmp])) (RepD.bool _)
          · exact Out.pure g.rel (run_v (u := .bool (decide (x1 ≥ y1))) (by simp [Sem.run_bind, hg, binOp, Op.intCmp])) (RepD.bool _)
        · cases hb
    · cases hb
  · split at h2
    · rename_i p d hb
      simp only [AM.run, Option.some.injEq, Prod.mk.injEq] at h2
      obtain ⟨rfl, rfl, rfl⟩ := h2
      exact out_bin2 g hb hq.1 r1 r2
    · simp [AM.run] at h2
theorem out_un {op : UnOp} {xt : TypeId} {x : Operand} (ho : o.op = .unOp op xt x) (hr : (aop P sp nid o).run env h = some (v, q, h')) (hq : q) : Out P w0 G W0 h μ w (execOp a.eval o) v h' := by
  simp only [aop, ho] at hr
  obtain ⟨vx, h1, r1⟩ := aev_run g hr
  simp only [execOp, ho]
  split at h1
  · rename_i b
    simp only [AM.run, Option.some.injEq, Prod.mk.injEq] at h1
    obtain ⟨rfl, rfl, rfl⟩ := h1
    have e1 : a.eval x = .bool b := RepD.bool_eq r1
    rw [e1]
    exact Out.pure g.rel (run_v (u := .bool (!b)) (by simp [Op.unary])) (RepD.bool _)
  · rename_i k n
    simp only [AM.run, Option.some.injEq, Prod.mk.injEq] at h1
    obtain ⟨rfl, rfl, rfl⟩ := h1
    have e1 : a.eval x = .int k n := RepD.int_eq r1
    rw [e1]
    exact Out.pure g.rel (run_v (u := .int k (k.wrap (0 - n))) (by simp [Op.unary, Op.intArith])) (RepD.int _ _)
  · simp [AM.run] at h1
theorem out_conv {s t : TypeId} {x : Operand} (ho : o.op = .convert s t x) (hr : (aop P sp nid o).run env h = some (v, q, h')) (hq : q) : Out P w0 G W0 h μ w (execOp a.eval o) v h' := by
  simp only [aop, ho] at hr
  obtain ⟨vx, h1, r1⟩ := aev_run g hr
  simp only [execOp, ho]
  split at h1
  · rename_i ks k k1 n hs ht
    simp only [AM.run, Option.some.injEq, Prod.mk.injEq] at h1
    obtain ⟨rfl, rfl, rfl⟩ := h1
    have e1 : a.eval x = .int k1 n := RepD.int_eq r1
    rw [e1]
    exact Out.pure g.rel (run_v (u := .int k (k.wrap n)) (by simp [convert, Sem.run_bind, run_underlying hs, run_underlying ht, Conv.intToInt])) (RepD.int _ _)
  · rename_i e hs ht
    split at h1
    · rename_i he
      obtain ⟨es, h2, ad, n, cap, vs, hv, hn, hl, hc, hrep⟩ := rowOf_run g.rel r1 h1
      simp only [AM.run, Option.some.injEq, Prod.mk.injEq] at h2
      obtain ⟨rfl, rfl, rfl⟩ := h2
      have hbv := bytes_cells hq.1 hrep
      have key : (convert s t (a.eval x)).run P w = .ok (.string (bytesS es)) w := by
        rw [hv, run_convert_bytes_string w s t e ad n cap hs he ht]
        have hmap : vs = ((es.map byteOf).map fun b => (b.toNat : Int)).map (Value.int .u8) := by rw [hbv]; simp [Function.comp_def]
        by_cases hne : vs = []
        · have hes : es = [] := by
            have := congrArg List.length hbv
            rw [hne] at this
            exact List.eq_nil_of_length_eq_zero (by simpa using this.symm)
          subst hes
          subst hn
          cases ad with
          | none =>
            simp [Conv.bytesToString, bytesS, Sem.run_pure]
            rfl
          | some ad' =>
            rw [run_bytesToString w ad' _ cap [] (by simp [loadCells, loadCellsFrom])]
            rfl
        · obtain ⟨b, off, rfl, hcell⟩ := hc hne
          have hlen : n = vs.length := by rw [hn, hbv]; simp
          rw [run_bytesToString w ⟨b, off, none⟩ n cap ((es.map byteOf).map fun b => (b.toNat : Int)) (by
            rw [← hmap, hlen]
            exact run_loadCells_list (w := w) ⟨b, off, none⟩ vs fun j u hu => by
              rw [addr_plain' b off j]
              exact hcell j u hu)]
          rw [show (ByteArray.empty) = (⟨#[]⟩ : ByteArray) from rfl, fold_push]
          simp [bytesS]
      exact Out.pure g.rel (run_v (u := .string (bytesS es)) key) (RepD.str _)
    · simp [AM.run] at h1
  · simp [AM.run] at h1
end
end Go.Proofs.YtpgeopefamomnaeGreat

