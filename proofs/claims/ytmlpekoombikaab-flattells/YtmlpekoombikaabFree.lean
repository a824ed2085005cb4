/- A region that draws its order, some of whose operations make memory or call what makes memory: each operation by itself is shown to give what it is to give in whatever world has grown out of the first, as soon as what it waits for has; then it is so in every order. The last operations, which wait for all others, are walked behind them. -/
import Derived.StillTail
import Derived.WalkKit
namespace Go.Proofs.Ytmlpekoombikaab
set_option maxRecDepth 100000
open Go Go.RowKit
set_option linter.unusedVariables false
/-- The world has grown: nothing that was there has turned. -/
def Gr (w w' : World) : Prop := Below w.heap.size w w'
theorem Gr.refl (w : World) : Gr w w := Below.refl _ _
theorem Gr.trans {a b c : World} (h : Gr a b) (k : Gr b c) : Gr a c := Below.trans h (Below.mono k h.size)
theorem Gr.below {B : Nat} {a b c : World} (h : Below B a b) (hB : B ≤ b.heap.size) (k : Gr b c) : Below B a c := h.trans (Below.mono k hB)
/-- What stays as the world grows. -/
def Stable (R : Value → World → Prop) : Prop := ∀ v w w', Gr w w' → R v w → R v w'
theorem stable_eq (c : Value) : Stable fun v _ => v = c := fun _ _ _ _ h => h
def stepPost (b : Act) (w : World) (d : Option Tmp) (R : Value → World → Prop) : Exit → Act → World → Prop
  | .normal, a', w' => Gr w w' ∧ a'.defers = b.defers ∧ R (a'.eval (.tmp (d.getD 0))) w'
  | _, _, _ => False
theorem stepPost_out (b : Act) (w : World) (d : Option Tmp) (R : Value → World → Prop) : ¬ LetsOut (stepPost b w d R) := fun ⟨_, _, h⟩ => h
/-- The frame behind the operations 'l', whose values are σ k, σ (k + 1), .. -/
def putAll : Act → List Oper → (Nat → Value) → Nat → Act
  | a, [], _, _ => a
  | a, o :: r, σ, k => putAll (a.put o.dst (σ k)) r σ (k + 1)
section
variable {P : Program} {ops : Array Oper} {w0 : World} {a0 : Act}
theorem eval_put_self {a : Act} {d : Tmp} {v : Value} : (a.put (some d) v).eval (.tmp d) = if d < a.tmps.size then v else undef := by
  simp only [Act.eval, Act.put, Array.getD_eq_getD_getElem?]
  by_cases h : d < a.tmps.size
  · simp [h]
  · simp [h]
theorem step_transfer {o : Oper} {a b : Act} {w : World} {R : Value → World → Prop} {Q : Exit → Act → World → Prop} {d : Tmp} (hd : o.dst = some d) (he : execOp a.eval o = execOp b.eval o) (hsz : a.tmps.size = b.tmps.size)
    (h : o.wp P b w (fun a' w' => stepPost b w (some d) R .normal a' w') (stepPost b w (some d) R)) :
    o.wp P a w (fun a' w' => (∃ v, a' = a.put (some d) v) ∧ Gr w w' ∧ R (a'.eval (.tmp d)) w') Q := by
  unfold Oper.wp at *
  rw [he]
  generalize (execOp b.eval o).run P w = r at *
  have one : ∀ v w', stepPost b w (some d) R .normal (b.put o.dst v) w' → (∃ u, a.put o.dst v = a.put (some d) u) ∧ Gr w w' ∧ R ((a.put o.dst v).eval (.tmp d)) w' := by
    intro v w' hh
    rw [hd] at hh ⊢
    obtain ⟨h1, _, h3⟩ := hh
    refine ⟨⟨v, rfl⟩, h1, ?_⟩
    rw [eval_put_self, hsz]
    rw [show (some d).getD 0 = d from rfl, eval_put_self] at h3
    exact h3
  cases r with
  | ok n w' =>
    cases n with
    | value v => exact one v w' h
    | skip => exact one undef w' h
    | defer df =>
      obtain ⟨_, h2, _⟩ := h
      rw [hd] at h2
      have := congrArg List.length h2
      simp [Act.put] at this
    | enter f args =>
      refine Calls.mono h fun e w'' hh => ?_
      cases e with
      | returned v => exact one v w'' hh
      | panicked c => exact hh.elim
      | outgrown => exact (stepPost_out _ _ _ _ hh).elim
    | row row args => exact Rows.mono h fun v w'' hh => one v w'' hh
    | _ => exact h.elim
  | halt x w' =>
    cases x <;> first | exact h.elim | exact (show False from h).elim
/-- Which operations 'o' waits for have given what they are to give. -/
def Waited (o : Oper) (Rs : List (Value → World → Prop)) (σ : Nat → Value) (w : World) : Prop :=
  ∀ e ∈ o.after, Region.binds .any e = true → ∀ R, Rs[e.on]? = some R → R (σ e.on) w
/-- An operation's obligation: of a pure one ('pure': their places) that it gives its value in whatever world. -/
def StepOK (P : Program) (ops : Array Oper) (pure : List Nat) (i : Nat) (o : Oper) (b : Act) (w : World) (R : Value → World → Prop) : Prop :=
  if i ∈ pure then ∃ v, Yields P ops o v b ∧ R v w else wpList P ops (stepPost b w o.dst R) [o] b w
/-- One obligation an operation, in the text's order; then what follows. -/
def freeOK (P : Program) (ops : Array Oper) (a0 : Act) (w0 : World) (Q : Exit → Act → World → Prop) (pure : List Nat) (tail : List Oper) : List Oper → List Oper → List (Value → World → Prop) → Prop
  | done, [], Rs => ∀ σ w, Gr w0 w → (∀ (i : Nat) (R : Value → World → Prop), Rs[i]? = some R → R (σ i) w) → wpList P ops Q tail (putAll a0 done σ 0) w
  | done, o :: rest, Rs => ∃ R, Stable R ∧ (∀ σ w, Gr w0 w → Waited o Rs σ w → StepOK P ops pure done.length o (putAll a0 done σ 0) w R) ∧ freeOK P ops a0 w0 Q pure tail (done ++ [o]) rest (Rs ++ [R])
def cnt : Nat → Array Bool → Nat
  | 0, _ => 0
  | k + 1, L => cnt k L + (if L.getD k true then 0 else 1)
theorem cnt_set_ge (L : Array Bool) (i : Nat) : ∀ k, k ≤ i → cnt k (L.setIfInBounds i true) = cnt k L
  | 0, _ => rfl
  | k + 1, h => by simp only [cnt]; rw [cnt_set_ge L i k (by omega), getD_set_ne true (by omega)]
theorem cnt_set (L : Array Bool) (i : Nat) (hi : L.getD i true = false) : ∀ k, i < k → cnt k (L.setIfInBounds i true) + 1 = cnt k L
  | 0, h => by omega
  | k + 1, h => by
    simp only [cnt]
    by_cases hik : i = k
    · subst hik
      rw [cnt_set_ge L i i (Nat.le_refl _), hi]
      have : (L.setIfInBounds i true).getD i true = true := by
        by_cases hs : i < L.size
        · simp [hs]
        · simp [hs]
      rw [this]
      simp
    · have := cnt_set L i hi k (by omega)
      rw [getD_set_ne true hik]
      omega
theorem cnt_zero (L : Array Bool) : ∀ k, cnt k L = 0 → ∀ i, i < k → L.getD i true = true
  | 0, _, i, h => by omega
  | k + 1, h, i, hi => by
    simp only [cnt] at h
    by_cases hik : i = k
    · subst hik
      cases hl : L.getD i true with
      | true => rfl
      | false => rw [hl] at h; simp at h
    · exact cnt_zero L k (by omega) i (by omega)
theorem cnt_pos (L : Array Bool) : ∀ k, cnt k L ≠ 0 → ∃ i, i < k ∧ L.getD i true = false ∧ ∀ j, j < i → L.getD j true = true
  | 0, h => absurd rfl h
  | k + 1, h => by
    by_cases hc : cnt k L = 0
    · simp only [cnt, hc, Nat.zero_add] at h
      refine ⟨k, by omega, ?_, fun j hj => cnt_zero L k hc j hj⟩
      cases hl : L.getD k true with
      | false => rfl
      | true => rw [hl] at h; simp at h
    · obtain ⟨i, h1, h2, h3⟩ := cnt_pos L k hc
      exact ⟨i, by omega, h2, h3⟩
/-- What the structure of the region must be: the head's operations have slots of their own, look at slots of earlier ones alone, and wait for earlier ones alone. -/
def freeB (ops : Array Oper) (pure : List Nat) (n : Nat) : Bool :=
  Region.noSelect ops && decide (n < ops.size) && ((List.range n).all fun i => pure.contains i || (List.range (n + 1)).any fun j => decide (i < j) && Region.waitsFor .any ops j i && (decide (j = n) || !pure.contains j)) && Region.chainB .any ops n &&
  ((List.range n).all fun i => !pure.contains i || (List.range ops.size).all fun j => decide (j = i) || Region.waitsFor .any ops j i || Region.waitsFor .any ops i j || (match ops[i]?, ops[j]? with
    | some x, some y => x.apart ops y
    | _, _ => false)) &&
  ((List.range n).all fun i => match ops[i]? with
    | some o => o.dst.isSome && (o.after.all fun e => !Region.binds .any e || decide (e.on < i)) &&
        ((List.range n).all fun j => decide (j < i) || (match ops[j]? with
          | some p => !(o.looksAt ops).any (fun t => p.dst == some t) && (decide (i = j) || p.dst != o.dst)
          | none => true))
    | none => false) &&
  Region.seqB .any ops (ops.size - n) n ((Array.range ops.size).map fun i => decide (i < n))
theorem freeB_spec {n : Nat} {pure : List Nat} (h : freeB ops pure n = true) :
    Region.noSelect ops = true ∧ n < ops.size ∧ (∀ i, i < n → i ∉ pure → ∃ j, i < j ∧ j ≤ n ∧ Region.waitsFor .any ops j i = true ∧ (j = n ∨ j ∉ pure)) ∧ Region.chainB .any ops n = true ∧
    (∀ i x, i < n → i ∈ pure → ops[i]? = some x → ∀ j y, ops[j]? = some y → j ≠ i → Region.waitsFor .any ops j i = true ∨ Region.waitsFor .any ops i j = true ∨ x.apart ops y = true) ∧
    Region.seqB .any ops (ops.size - n) n ((Array.range ops.size).map fun i => decide (i < n)) = true ∧
    ∀ i o, i < n → ops[i]? = some o → (∃ d, o.dst = some d) ∧ (∀ e ∈ o.after, Region.binds .any e = true → e.on < i) ∧
      ∀ j p, j < n → ops[j]? = some p → i ≤ j → (∀ t ∈ o.looksAt ops, p.dst ≠ some t) ∧ (i ≠ j → p.dst ≠ o.dst) := by
  simp only [freeB, Bool.and_eq_true, decide_eq_true_eq] at h
  obtain ⟨⟨⟨⟨⟨⟨h1, h2⟩, h3⟩, h4⟩, hp⟩, h5⟩, h6⟩ := h
  refine ⟨h1, h2, fun i hi hip => ?_, h4, fun i x hi hip hx j y hy hji => ?_, h6, fun i o hi ho => ?_⟩
  · have h := List.all_eq_true.1 h3 i (List.mem_range.2 hi)
    simp only [Bool.or_eq_true] at h
    rcases h with h | h
    · exact absurd (by simpa using h) hip
    · obtain ⟨j, hj, hj2⟩ := List.any_eq_true.1 h
      simp only [Bool.and_eq_true, decide_eq_true_eq, Bool.or_eq_true] at hj2
      refine ⟨j, hj2.1.1, by have := List.mem_range.1 hj; omega, hj2.1.2, ?_⟩
      rcases hj2.2 with h | h
      · exact .inl h
      · exact .inr (by simpa using h)
  · have h := List.all_eq_true.1 hp i (List.mem_range.2 hi)
    simp only [Bool.or_eq_true] at h
    rcases h with h | h
    · simp [hip] at h
    · have hj := List.all_eq_true.1 h j (List.mem_range.2 (Array.getElem?_eq_some_iff.1 hy).1)
      simp only [Bool.or_eq_true, decide_eq_true_eq, hx, hy] at hj
      rcases hj with ((h | h) | h) | h
      · exact absurd h hji
      · exact .inl h
      · exact .inr (.inl h)
      · exact .inr (.inr h)
  have h := List.all_eq_true.1 h5 i (List.mem_range.2 hi)
  simp only [ho, Bool.and_eq_true] at h
  obtain ⟨⟨ha, hb⟩, hc⟩ := h
  refine ⟨Option.isSome_iff_exists.1 ha, fun e he hbd => ?_, fun j p hj hp hij => ?_⟩
  · have := Array.all_eq_true_iff_forall_mem.1 hb e he
    simpa [hbd] using this
  · have := List.all_eq_true.1 hc j (List.mem_range.2 hj)
    simp only [hp, Bool.or_eq_true, decide_eq_true_eq, Bool.and_eq_true] at this
    rcases this with h | ⟨h1, h2⟩
    · omega
    · refine ⟨fun t ht he => ?_, fun hne => ?_⟩
      · have : (o.looksAt ops).any (fun t => p.dst == some t) = true := List.any_eq_true.2 ⟨t, ht, by simp [he]⟩
        rw [this] at h1
        cases h1
      · rcases h2 with h2 | h2
        · omega
        · simpa using h2
/-- As long as an operation of the head that is not pure has not come up, none of the tail may. -/
theorem tail_waits_np {n : Nat} {pure : List Nat} {listed : Array Bool} (hs : ∀ i, i < n → i ∉ pure → ∃ j, i < j ∧ j ≤ n ∧ Region.waitsFor .any ops j i = true ∧ (j = n ∨ j ∉ pure)) (hc : Region.chainB .any ops n = true) (hn : n < ops.size) (inv : HeadInv .any ops n listed) :
    ∀ (d i : Nat), n - i = d → i < n → i ∉ pure → listed.getD i true = false → ∀ t, n ≤ t → t ∉ Region.ready .any ops listed := by
  intro d
  induction d using Nat.strongRecOn with
  | _ d ih =>
    intro i hd hi hip hun t ht hr
    obtain ⟨_, ot, hot, hall⟩ := mem_ready.1 hr
    have htlt : t < ops.size := (Array.getElem?_eq_some_iff.1 hot).1
    by_cases htn : t = n
    · subst htn
      obtain ⟨j, hij, hjle, hw, hjp⟩ := hs i hi hip
      obtain ⟨oj, hoj, e, he, hb, hon⟩ := Region.waitsFor_spec hw
      by_cases hjt : j = t
      · subst hjt
        have : oj = ot := Option.some.inj (hoj.symm.trans hot)
        subst this
        have h2 := hall e he hb
        rw [hon, getD_both hun] at h2
        cases h2
      · cases hl : listed.getD j false with
        | true =>
          have h2 := inv.closed j oj hoj hl e he hb
          rw [hon, getD_both hun] at h2
          cases h2
        | false =>
          have hjs : j < listed.size := by rw [inv.size]; omega
          exact ih (t - j) (by omega) j rfl (by omega) (hjp.resolve_left hjt) (getD_in hjs hl) t (Nat.le_refl _) hr
    · have h1 := List.all_eq_true.1 hc t (List.mem_range.2 htlt)
      simp only [Bool.or_eq_true, decide_eq_true_eq] at h1
      rcases h1 with h1 | h1
      · omega
      · obtain ⟨o', ho', e, he, hb, hon⟩ := Region.waitsFor_spec h1
        have : o' = ot := Option.some.inj (ho'.symm.trans hot)
        subst this
        have h2 := hall e he hb
        rw [hon, getD_both (inv.tail (t - 1) (by omega) (by omega))] at h2
        cases h2
/-- The obligations, told apart. -/
theorem freeOK_parts {Q : Exit → Act → World → Prop} {pure : List Nat} {tail : List Oper} : ∀ (rest done : List Oper) (Rs : List (Value → World → Prop)), Rs.length = done.length → freeOK P ops a0 w0 Q pure tail done rest Rs →
    ∃ Rs' : List (Value → World → Prop), Rs'.length = done.length + rest.length ∧ (∀ (i : Nat) (R : Value → World → Prop), Rs[i]? = some R → Rs'[i]? = some R) ∧
      (∀ (i : Nat) (o : Oper) (R : Value → World → Prop), done.length ≤ i → (done ++ rest)[i]? = some o → Rs'[i]? = some R → Stable R ∧ ∀ σ w, Gr w0 w → Waited o (Rs'.take i) σ w → StepOK P ops pure i o (putAll a0 ((done ++ rest).take i) σ 0) w R) ∧
      (∀ σ w, Gr w0 w → (∀ (i : Nat) (R : Value → World → Prop), Rs'[i]? = some R → R (σ i) w) → wpList P ops Q tail (putAll a0 (done ++ rest) σ 0) w)
  | [], done, Rs, hl, h => ⟨Rs, by simpa using hl, fun _ _ h => h, fun i o R hi ho _ => by
      have := (List.getElem?_eq_some_iff.1 ho).1
      simp at this
      omega, by simpa [freeOK] using h⟩
  | o :: rest, done, Rs, hl, h => by
    obtain ⟨R, hst, hstep, hrest⟩ := h
    obtain ⟨Rs', h1, h2, h3, h4⟩ := freeOK_parts rest (done ++ [o]) (Rs ++ [R]) (by simp [hl]) hrest
    have hRk : Rs'[done.length]? = some R := h2 _ _ (by simp [← hl])
    have hpre : Rs'.take done.length = Rs := by
      apply List.ext_getElem?
      intro i
      rw [List.getElem?_take]
      by_cases hi : i < done.length
      · rw [if_pos hi]
        obtain ⟨x, hx⟩ : ∃ x, Rs[i]? = some x := ⟨Rs[i]'(by omega), List.getElem?_eq_getElem (by omega)⟩
        rw [hx]
        exact h2 i x (by rw [List.getElem?_append_left (by omega)]; exact hx)
      · rw [if_neg hi, List.getElem?_eq_none (by omega)]
    have happ : done ++ [o] ++ rest = done ++ o :: rest := by simp
    rw [happ] at h3 h4
    refine ⟨Rs', by simp at h1 ⊢; omega, fun i x hx => h2 i x ?_, fun i p S hi hp hS => ?_, h4⟩
    · rw [List.getElem?_append_left (List.getElem?_eq_some_iff.1 hx).1]; exact hx
    · by_cases hik : i = done.length
      · subst hik
        have e1 : p = o := by simpa using hp.symm
        have e2 : S = R := Option.some.inj (hS.symm.trans hRk)
        subst e1; subst e2
        rw [hpre]
        refine ⟨hst, fun σ w hG hw => ?_⟩
        have := hstep σ w hG hw
        simpa using this
      · exact h3 i p S (by simp; omega) hp hS
/-- A slot behind 'putAll': the last one that writes it, else the first frame's. -/
theorem putAll_size : ∀ (l : List Oper) (a : Act) (σ : Nat → Value) (k : Nat), (putAll a l σ k).tmps.size = a.tmps.size ∧ (putAll a l σ k).defers = a.defers
  | [], a, σ, k => ⟨rfl, rfl⟩
  | o :: l, a, σ, k => by
    have := putAll_size l (a.put o.dst (σ k)) σ (k + 1)
    simp only [putAll]
    rw [this.1, this.2]
    cases o.dst <;> simp [Act.put]
theorem putAll_at (f : Act) : ∀ (l : List Oper) (a : Act) (σ : Nat → Value) (k : Nat), a.tmps.size = f.tmps.size → (∀ i o, l[i]? = some o → ∀ d, o.dst = some d → σ (k + i) = f.eval (.tmp d)) →
    ∀ t, t < f.tmps.size → (putAll a l σ k).tmps[t]? = if (∃ o ∈ l, o.dst = some t) then f.tmps[t]? else a.tmps[t]? := by
  intro l
  induction l with
  | nil => intro a σ k _ _ t _; simp [putAll]
  | cons o l ih =>
    intro a σ k hsz hσ t ht
    simp only [putAll]
    have hsz' : (a.put o.dst (σ k)).tmps.size = f.tmps.size := by cases o.dst <;> simp [Act.put, hsz]
    rw [ih (a.put o.dst (σ k)) σ (k + 1) hsz' (fun i p hp d hd => by
      have := hσ (i + 1) p (by simpa using hp) d hd
      rw [← this]; congr 1; omega) t ht]
    by_cases h1 : ∃ p ∈ l, p.dst = some t
    · rw [if_pos h1, if_pos]
      obtain ⟨p, hp, hpd⟩ := h1
      exact ⟨p, List.mem_cons_of_mem _ hp, hpd⟩
    · rw [if_neg h1]
      by_cases h2 : o.dst = some t
      · rw [if_pos ⟨o, List.mem_cons_self, h2⟩]
        have := hσ 0 o rfl t h2
        rw [h2]
        simp only [Act.put]
        rw [Array.getElem?_setIfInBounds_self_of_lt (by omega)]
        rw [Nat.add_zero] at this
        rw [this]
        simp [Act.eval, ht]
      · rw [if_neg (by
          rintro ⟨p, hp, hpd⟩
          rcases List.mem_cons.1 hp with rfl | hp
          · exact h2 hpd
          · exact h1 ⟨p, hp, hpd⟩)]
        cases hd : o.dst with
        | none => rfl
        | some d =>
          have hne : d ≠ t := fun e => h2 (by rw [hd, e])
          simp [Act.put, Array.getElem?_setIfInBounds_ne hne]
/-- What holds in the midst of the region. -/
structure Mid (ops : Array Oper) (n : Nat) (a0 : Act) (w0 : World) (Rs : List (Value → World → Prop)) (listed : Array Bool) (a : Act) (w : World) : Prop where
  inv : HeadInv .any ops n listed
  size : a.tmps.size = a0.tmps.size
  defers : a.defers = a0.defers
  same : ∀ t, (∀ i o, i < n → ops[i]? = some o → o.dst ≠ some t) → a.tmps[t]? = a0.tmps[t]?
  gr : Gr w0 w
  holds : ∀ i o d (R : Value → World → Prop), i < n → ops[i]? = some o → o.dst = some d → Rs[i]? = some R → listed.getD i false = true → R (a.eval (.tmp d)) w
/-- The values of the slots, as they lie in the frame. -/
def slotsOf (ops : Array Oper) (a : Act) (i : Nat) : Value := a.eval (.tmp (((ops[i]?).bind (·.dst)).getD 0))
theorem wpList_one {o : Oper} {a : Act} {w : World} {Q : Exit → Act → World → Prop} (h : wpList P ops Q [o] a w) :
    if Region.wanted o (yielded ops a.tmps) then o.wp P a w (fun a' w' => Q .normal a' w') Q ∨ (o.asks P a w ∧ LetsOut Q) else Q .normal (a.put o.dst undef) w := h
theorem wp_free_mid {Q : Exit → Act → World → Prop} (hQ : ∀ c a w, ¬ Q (.panic c) a w) {n : Nat} {pure : List Nat} {l : List Oper} (hops : ops = l.toArray) (hB : freeB ops pure n = true) {Rs : List (Value → World → Prop)} (hRl : Rs.length = n)
    (hstep : ∀ (i : Nat) (o : Oper) (R : Value → World → Prop), i < n → ops[i]? = some o → Rs[i]? = some R → Stable R ∧ ∀ σ w, Gr w0 w → Waited o (Rs.take i) σ w → StepOK P ops pure i o (putAll a0 (l.take i) σ 0) w R)
    (hfin : ∀ σ w, Gr w0 w → (∀ (i : Nat) (R : Value → World → Prop), Rs[i]? = some R → R (σ i) w) → wpList P ops Q (l.drop n) (putAll a0 (l.take n) σ 0) w)
    (hsmall : ∀ i, i < n → i ∈ pure → ∀ d, (ops[i]?).bind (·.dst) = some d → ¬ d < a0.tmps.size → False) :
    ∀ (f : Nat) (listed : Array Bool) (a : Act) (w : World), Mid ops n a0 w0 Rs listed a w → cnt n listed = f → wpAny P .any ops Q (f + (ops.size - n)) listed a w := by
  obtain ⟨hsel, hn, hs, hc, hpure, hseq, hst⟩ := freeB_spec hB
  have hlen : l.length = ops.size := by rw [hops]; simp
  have hget : ∀ i : Nat, l[i]? = ops[i]? := fun i => by rw [hops]; simp
  -- the frame as laid out by the text's order, up to operation k
  have lay : ∀ (a : Act) (k : Nat), k ≤ n → a.tmps.size = a0.tmps.size → ∀ t, t < a.tmps.size → (putAll a0 (l.take k) (slotsOf ops a) 0).tmps[t]? = if (∃ o ∈ l.take k, o.dst = some t) then a.tmps[t]? else a0.tmps[t]? := by
    intro a k hk hsz t ht
    refine putAll_at a (l.take k) a0 (slotsOf ops a) 0 hsz.symm (fun i o ho d hd => ?_) t ht
    have hi : i < k := by
      have := (List.getElem?_eq_some_iff.1 ho).1
      simp at this
      omega
    have ho' : ops[i]? = some o := by rw [← hget, ← ho, List.getElem?_take, if_pos hi]
    simp [slotsOf, ho', hd]
  have mem_take : ∀ k o, o ∈ l.take k → ∃ i, i < k ∧ ops[i]? = some o := by
    intro k o ho
    obtain ⟨i, hi⟩ := List.getElem?_of_mem ho
    rw [List.getElem?_take] at hi
    by_cases hik : i < k
    · rw [if_pos hik, hget] at hi; exact ⟨i, hik, hi⟩
    · rw [if_neg hik] at hi; cases hi
  intro f
  induction f with
  | zero =>
    intro listed a w mid hcnt
    have hall := cnt_zero listed n hcnt
    have hlisted : listed = (Array.range ops.size).map fun i => decide (i < n) := by
      apply Array.ext
      · simp [mid.inv.size]
      · intro i h1 h2
        have hi : i < ops.size := by rw [← mid.inv.size]; exact h1
        by_cases hin : i < n
        · have := hall i hin
          simp [h1] at this
          simp [this, hin]
        · have := mid.inv.tail i (by omega) hi
          simp [h1] at this
          simp [this, hin]
    have hframe : putAll a0 (l.take n) (slotsOf ops a) 0 = a := by
      have h1 := putAll_size (l.take n) a0 (slotsOf ops a) 0
      have ht : (putAll a0 (l.take n) (slotsOf ops a) 0).tmps = a.tmps := by
        apply Array.ext_getElem?
        intro t
        by_cases htl : t < a.tmps.size
        · rw [lay a n (Nat.le_refl _) mid.size t htl]
          by_cases hex : ∃ o ∈ l.take n, o.dst = some t
          · rw [if_pos hex]
          · rw [if_neg hex]
            refine (mid.same t fun i o hi ho hd => hex ⟨o, ?_, hd⟩).symm
            refine List.mem_of_getElem? (i := i) ?_
            rw [List.getElem?_take, if_pos hi, hget, ho]
        · rw [Array.getElem?_eq_none (xs := a.tmps) (by omega), Array.getElem?_eq_none (by rw [h1.1, ← mid.size]; omega)]
      have ext : ∀ x y : Act, x.tmps = y.tmps → x.defers = y.defers → x = y := by rintro ⟨_, _⟩ ⟨_, _⟩ rfl rfl; rfl
      exact ext _ _ ht (h1.2.trans mid.defers.symm)
    have hw := hfin (slotsOf ops a) w mid.gr (fun i R hR => by
      have hi : i < n := by rw [← hRl]; exact (List.getElem?_eq_some_iff.1 hR).1
      have hio : ops[i]? = some (ops[i]'(by omega)) := Array.getElem?_eq_getElem (by omega)
      obtain ⟨⟨d, hd⟩, _⟩ := hst i _ hi hio
      have hli : listed.getD i false = true := by
        have := hall i hi
        have hls : i < listed.size := by rw [mid.inv.size]; omega
        simp [hls] at this ⊢
        exact this
      have := mid.holds i _ d R hi hio hd hR hli
      simpa [slotsOf, hio, hd] using this)
    rw [hframe] at hw
    have hdl : (l.drop n).length = ops.size - n := by simp [hlen]
    have := wpAny_of_seq (md := .any) (Q' := Q) (l.drop n) n listed a w (fun j => by rw [List.getElem?_drop, hget]) (by rw [hdl, hlisted]; exact hseq) hw
    rw [hdl] at this
    rw [Nat.zero_add]
    exact this
  | succ f ih =>
    intro listed a w mid hcnt
    obtain ⟨m, hm, hmun, hmin⟩ := cnt_pos listed n (by omega)
    have hmo : ops[m]? = some (ops[m]'(by omega)) := Array.getElem?_eq_getElem (by omega)
    have hmr : m ∈ Region.ready .any ops listed := mem_ready.2 ⟨hmun, _, hmo, fun e he hb => by
      have h1 := (hst m _ hm hmo).2.1 e he hb
      have h2 := hmin e.on h1
      have h3 : e.on < listed.size := by rw [mid.inv.size]; omega
      simp [h3] at h2 ⊢
      exact h2⟩
    rw [show f + 1 + (ops.size - n) = (f + (ops.size - n)) + 1 by omega]
    -- what is known at an operation of the head that may come up
    have at_op : ∀ i, i < n → i ∈ Region.ready .any ops listed → ∃ o d R b, ops[i]? = some o ∧ o.dst = some d ∧ b.tmps.size = a.tmps.size ∧ StepOK P ops pure i o b w R ∧ execOp a.eval o = execOp b.eval o ∧ Region.wanted o (yielded ops a.tmps) = Region.wanted o (yielded ops b.tmps) ∧
        (∀ a' w', (∃ v, a' = a.put (some d) v) → Gr w w' → R (a'.eval (.tmp d)) w' → Mid ops n a0 w0 Rs (listed.setIfInBounds i true) a' w') ∧ Stable R ∧ cnt n (listed.setIfInBounds i true) = f := by
      intro i hin hi
      obtain ⟨hiun, o, ho, hall⟩ := mem_ready.1 hi
      obtain ⟨⟨d, hd⟩, hbefore, hother⟩ := hst i o hin ho
      obtain ⟨R, hR⟩ : ∃ R, Rs[i]? = some R := ⟨Rs[i]'(by omega), List.getElem?_eq_getElem (by omega)⟩
      obtain ⟨hRst, hgo⟩ := hstep i o R hin ho hR
      have hwait : Waited o (Rs.take i) (slotsOf ops a) w := fun e he hb S hS => by
        have hon := hbefore e he hb
        rw [List.getElem?_take, if_pos hon] at hS
        have heo : ops[e.on]? = some (ops[e.on]'(by omega)) := Array.getElem?_eq_getElem (by omega)
        obtain ⟨⟨d', hd'⟩, _⟩ := hst e.on _ (by omega) heo
        have := mid.holds e.on _ d' S (by omega) heo hd' hS (hall e he hb)
        simpa [slotsOf, heo, hd'] using this
      have hw := hgo (slotsOf ops a) w mid.gr hwait
      obtain ⟨b, hbdef⟩ : ∃ b, b = putAll a0 (l.take i) (slotsOf ops a) 0 := ⟨_, rfl⟩
      rw [← hbdef] at hw
      have hbsz : b.tmps.size = a.tmps.size := by rw [hbdef, (putAll_size _ _ _ _).1, mid.size]
      have hlook : ∀ t ∈ o.looksAt ops, a.tmps[t]? = b.tmps[t]? := by
        intro t ht
        by_cases htl : t < a.tmps.size
        · rw [hbdef, lay a i (by omega) mid.size t htl]
          by_cases hex : ∃ p ∈ l.take i, p.dst = some t
          · rw [if_pos hex]
          · rw [if_neg hex]
            refine mid.same t fun j p hj hp hpd => ?_
            by_cases hji : j < i
            · exact hex ⟨p, List.mem_of_getElem? (i := j) (by rw [List.getElem?_take, if_pos hji, hget, hp]), hpd⟩
            · exact (hother j p hj hp (by omega)).1 t ht hpd
        · rw [Array.getElem?_eq_none (xs := a.tmps) (Nat.le_of_not_lt htl), Array.getElem?_eq_none (xs := b.tmps) (by rw [hbsz]; exact Nat.le_of_not_lt htl)]
      have he : execOp a.eval o = execOp b.eval o := execOp_congr o (Region.noSelect_spec hsel i o · · ho) fun x hx => by
        cases x with
        | tmp t =>
          have := hlook t (List.mem_append_left _ (List.mem_filterMap.2 ⟨.tmp t, by simpa using hx, rfl⟩))
          simp only [Act.eval, Array.getD_eq_getD_getElem?, this]
        | _ => rfl
      have hwant : Region.wanted o (yielded ops a.tmps) = Region.wanted o (yielded ops b.tmps) := by
        unfold Region.wanted
        cases hg : o.guard with
        | none => rfl
        | some gw =>
          obtain ⟨g, want⟩ := gw
          have : yielded ops a.tmps g = yielded ops b.tmps g := by
            unfold yielded
            cases ht : (ops[g]?).bind (·.dst) with
            | none => rfl
            | some t =>
              have := hlook t (by simp [Oper.looksAt, hg, ht])
              simp [this]
          simp only [this]
      have next : ∀ a' w', (∃ v, a' = a.put (some d) v) → Gr w w' → R (a'.eval (.tmp d)) w' → Mid ops n a0 w0 Rs (listed.setIfInBounds i true) a' w' := by
        rintro a' w' ⟨v, rfl⟩ hG hRv
        refine ⟨mid.inv.set hi hin, by simp [Act.put, mid.size], by simp [Act.put, mid.defers], fun t ht => ?_, mid.gr.trans hG, fun j p d' S hj hp hd' hS hl => ?_⟩
        · have hne : d ≠ t := fun e => ht i o hin ho (by rw [hd, e])
          simp only [Act.put, Array.getElem?_setIfInBounds_ne hne]
          exact mid.same t ht
        · by_cases hji : j = i
          · subst hji
            have e1 : p = o := Option.some.inj (hp.symm.trans ho)
            subst e1
            have e2 : d' = d := Option.some.inj (hd'.symm.trans hd)
            subst e2
            have e3 : S = R := Option.some.inj (hS.symm.trans hR)
            subst e3
            exact hRv
          · have hne : d ≠ d' := by
              intro e
              by_cases hij : i < j
              · exact (hother j p hj hp (by omega)).2 (by omega) (by rw [hd', hd, e])
              · exact (((hst j p hj hp).2.2 i o hin ho (by omega)).2 (by omega)) (by rw [hd', hd, e])
            rw [getD_set_ne false (by omega)] at hl
            have h0 := mid.holds j p d' S hj hp hd' hS hl
            have h1 : (a.put (some d) v).eval (.tmp d') = a.eval (.tmp d') := by
              simp only [Act.eval, Act.put, Array.getD_eq_getD_getElem?, Array.getElem?_setIfInBounds_ne hne]
            rw [h1]
            exact (hstep j p S hj hp hS).1 _ _ _ hG h0
      have hcnt' : cnt n (listed.setIfInBounds i true) = f := by
        have := cnt_set listed i hiun n hin
        omega
      exact ⟨o, d, R, b, ho, hd, hbsz, hw, he, hwant, next, hRst, hcnt'⟩
    by_cases hex : ∃ i, i < n ∧ i ∈ pure ∧ i ∈ Region.ready .any ops listed
    · -- a pure operation that may come up is taken first
      obtain ⟨i, hin, hip, hi⟩ := hex
      obtain ⟨o, d, R, b, ho, hd, hbsz, hw, he, hwant, next, hRst, hcnt'⟩ := at_op i hin hi
      unfold StepOK at hw
      rw [if_pos hip] at hw
      obtain ⟨v, hy, hRv⟩ := hw
      have hya : Yields P ops o v a := hy.of_same he hwant
      refine wpAny_first ho (Region.noSelect_spec hsel) (fun c a w h => absurd h (hQ _ _ _)) _ listed a w (fun j oj hj hji hun hno => ?_) hi hya ?_
      · rcases hpure i o hin hip ho j oj hj hji with h | h | h
        · obtain ⟨o', ho', e, he, hb, hon⟩ := Region.waitsFor_spec h
          have : o' = oj := Option.some.inj (ho'.symm.trans hj)
          subst this
          exact absurd hon (hno e he hb)
        · obtain ⟨o', ho', e, hea, hb, hon⟩ := Region.waitsFor_spec h
          obtain ⟨_, o2, ho2, hall⟩ := mem_ready.1 hi
          have e2 : o2 = o' := Option.some.inj (ho2.symm.trans ho')
          subst e2
          have h2 := hall e hea hb
          rw [hon, getD_both hun] at h2
          cases h2
        · exact h
      · rw [hd]
        by_cases hds : d < a.tmps.size
        · exact ih _ _ _ (next _ _ ⟨v, rfl⟩ (Gr.refl _) (by rw [eval_put_self, if_pos hds]; exact hRv)) hcnt'
        · exact ih _ _ _ (next _ _ ⟨v, rfl⟩ (Gr.refl _) (by
            rw [eval_put_self, if_neg hds]
            exact (hsmall i hin hip d (by rw [ho, Option.bind_some, hd]) (by rw [← mid.size]; exact hds)).elim)) hcnt'
    · refine ⟨fun h => (by rw [h] at hmr; cases hmr), fun i hi => ?_⟩
      have hmp : m ∉ pure := fun h => hex ⟨m, hm, h, hmr⟩
      have hin : i < n := Nat.lt_of_not_le fun h => tail_waits_np hs hc hn mid.inv _ m rfl hm hmp hmun i h hi
      have hip : i ∉ pure := fun h => hex ⟨i, hin, h, hi⟩
      obtain ⟨o, d, R, b, ho, hd, hbsz, hw, he, hwant, next, hRst, hcnt'⟩ := at_op i hin hi
      unfold StepOK at hw
      rw [if_neg hip] at hw
      have hw := wpList_one hw
      unfold wpOp
      rw [ho]
      simp only [hwant]
      by_cases hwt : Region.wanted o (yielded ops b.tmps) = true
      · rw [if_pos hwt] at hw ⊢
        rcases hw with hw | ⟨_, hw⟩
        · rw [hd] at hw
          exact .inl (Oper.wp_mono (fun a' w' ⟨h1, h2, h3⟩ => ih _ a' w' (next a' w' h1 h2 h3) hcnt') (step_transfer (Q := Q) hd he hbsz.symm hw))
        · exact absurd hw (stepPost_out _ _ _ _)
      · rw [if_neg hwt] at hw ⊢
        obtain ⟨h1, _, h3⟩ := hw
        rw [hd] at h3 ⊢
        refine ih _ _ _ (next _ _ ⟨_, rfl⟩ h1 ?_) hcnt'
        rw [show (some d).getD 0 = d from rfl, eval_put_self, hbsz] at h3
        rw [eval_put_self]
        exact h3
/-- Q, but for a panic. -/
def NP (Q : Exit → Act → World → Prop) : Exit → Act → World → Prop
  | .panic _, _, _ => False
  | e, a, w => Q e a w
theorem NP.normal {Q : Exit → Act → World → Prop} {a : Act} {w : World} (h : Q .normal a w) : NP Q .normal a w := h
theorem NP.imp {Q : Exit → Act → World → Prop} : ∀ (e : Exit) (a : Act) (w : World), NP Q e a w → Q e a w := fun e a w h => by
  cases e <;> first | exact h | exact (show False from h).elim
/-- THE RULE. -/
theorem wp_region_free {id : Nat} {Q : Exit → Act → World → Prop} {a : Act} {w : World} {l : List Oper} (n : Nat) (pure : List Nat) (hm : P.follows .mixedOrders = true) (hB : freeB l.toArray pure n = true) (hsmall : (pure.all fun i => match (l[i]?).bind (·.dst) with | some d => decide (d < a.tmps.size) | none => true) = true)
    (h : freeOK P l.toArray a w.drew (NP Q) pure (l.drop n) [] (l.take n) []) : (Code.region id l.toArray true).wp P Q a w := by
  have hn : n < l.length := by have := (freeB_spec hB).2.1; simpa using this
  have htl : (l.take n).length = n := by simp; omega
  obtain ⟨Rs, h1, _, h3, h4⟩ := freeOK_parts (l.take n) [] [] rfl h
  simp only [List.length_nil, Nat.zero_add, List.nil_append, htl] at h1 h3 h4
  refine Code.wp_mono (Q := NP Q) NP.imp (wp_region_any hm ?_)
  have hcnt0 : ∀ k, k ≤ l.length → cnt k (Array.replicate l.length false) = k := by
    intro k
    induction k with
    | zero => intro _; rfl
    | succ k ih => intro hk; simp only [cnt]; rw [ih (by omega)]; simp [show k < l.length by omega]
  have := wp_free_mid (P := P) (ops := l.toArray) (w0 := w.drew) (a0 := a) (Q := NP Q) (fun _ _ _ h => h) (l := l) rfl hB h1 (fun i o R hi ho hR => by
      have ho' : (l.take n)[i]? = some o := by rw [List.getElem?_take, if_pos hi]; simpa using ho
      have := h3 i o R (Nat.zero_le _) ho' hR
      rw [List.take_take, Nat.min_eq_left (by omega)] at this
      exact this) h4 (fun i _ hip d hd hnd => by
        have := List.all_eq_true.1 hsmall i hip
        rw [show (l[i]?).bind (·.dst) = some d by simpa using hd] at this
        simp only [decide_eq_true_eq] at this
        exact hnd this) n (Array.replicate l.length false) a w.drew
    ⟨⟨by simp, fun j oj _ hl => (by rw [getD_replicate_false] at hl; cases hl), fun t _ ht => getD_in (by simpa using ht) (getD_replicate_false _ _)⟩, rfl, rfl, fun _ _ => rfl, Gr.refl _, fun i o d R _ _ _ _ hl => by rw [getD_replicate_false] at hl; cases hl⟩ (hcnt0 n (by omega))
  have e : n + (l.toArray.size - n) = l.toArray.size := by simp; omega
  rw [e] at this
  simpa using this
theorem gcell {w0 W : World} (hG : Gr w0 W) {a : Addr} {v : Value} (h : w0.cell? a = some v) : W.cell? a = some v := by
  rw [Below.cell hG (block_lt_of_cell h), h]
theorem gheap {w0 W : World} (hG : Gr w0 W) {g : Nat} {o : Obj} (h : w0.heap[g]? = some o) : W.heap[g]? = some o := by
  rw [Below.block hG g (Array.getElem?_eq_some_iff.1 h).1, h]
/-- A new block, behind B, of these cells. -/
def Box (B : Nat) (cs : Array Value) (t : TypeId) (v : Value) (w : World) : Prop := ∃ g, v = .pointer (some ⟨g, 0, none⟩) ∧ B ≤ g ∧ w.heap[g]? = some (.cells cs t (0, 0))
theorem box_stable (B : Nat) (cs : Array Value) (t : TypeId) : Stable (Box B cs t) := fun _ _ _ hG ⟨g, h1, h2, h3⟩ => ⟨g, h1, h2, gheap hG h3⟩
theorem cell_of_heap {w : World} {g : Nat} {cs : Array Value} {t : TypeId} (h : w.heap[g]? = some (.cells cs t (0, 0))) (i : Nat) : w.cell? ⟨g, i, none⟩ = cs[i]? := by
  simp [World.cell?, h]
theorem free_of_heap {w : World} {g : Nat} {cs : Array Value} {t : TypeId} (h : w.heap[g]? = some (.cells cs t (0, 0))) (i : Nat) : w.frozen? ⟨g, i, none⟩ = false := by
  simp [World.frozen?, h]
theorem box_alloc {B : Nat} {w : World} {cs : Array Value} {t : TypeId} (hB : B ≤ w.heap.size) : Box B cs t (.pointer (some ⟨w.heap.size, 0, none⟩)) (w.alloc (.cells cs t)) :=
  ⟨_, rfl, hB, heap_alloc_new _ _⟩
theorem gr_alloc (w : World) (o : Obj) : Gr w (w.alloc o) := (Below.refl _ _).alloc (Nat.le_refl _) _
/-- A walk's goal behind a wall (so that no tactic looks into it). -/
structure Wall (P : Program) (ops : Array Oper) (Q : Exit → Act → World → Prop) (l : List Oper) (a : Act) (w : World) : Prop where
  out : wpList P ops Q l a w
theorem freeOK_step {Q : Exit → Act → World → Prop} {pure : List Nat} {tail done rest : List Oper} {o : Oper} {Rs : List (Value → World → Prop)} (R : Value → World → Prop) (hst : Stable R) (hp : pure.contains done.length = false)
    (h : ∀ σ w, Gr w0 w → Waited o Rs σ w → Wall P ops (stepPost (putAll a0 done σ 0) w o.dst R) [o] (putAll a0 done σ 0) w) (h2 : freeOK P ops a0 w0 Q pure tail (done ++ [o]) rest (Rs ++ [R])) : freeOK P ops a0 w0 Q pure tail done (o :: rest) Rs :=
  ⟨R, hst, fun σ w hG hd => by unfold StepOK; rw [if_neg (by simpa using hp)]; exact (h σ w hG hd).out, h2⟩
/-- An operation that gives a value, whichever world it meets. -/
theorem freeOK_val {Q : Exit → Act → World → Prop} {pure : List Nat} {tail done rest : List Oper} {o : Oper} {Rs : List (Value → World → Prop)} (c : Value) (hp : pure.contains done.length = false)
    (h : ∀ σ w, Gr w0 w → Waited o Rs σ w → Wall P ops (stepPost (putAll a0 done σ 0) w o.dst fun v _ => v = c) [o] (putAll a0 done σ 0) w) (h2 : freeOK P ops a0 w0 Q pure tail (done ++ [o]) rest (Rs ++ [fun v _ => v = c])) : freeOK P ops a0 w0 Q pure tail done (o :: rest) Rs :=
  freeOK_step _ (stable_eq c) hp h h2
theorem freeOK_pure {Q : Exit → Act → World → Prop} {pure : List Nat} {tail done rest : List Oper} {o : Oper} {Rs : List (Value → World → Prop)} (R : Value → World → Prop) (hst : Stable R) (hp : pure.contains done.length = true)
    (h : ∀ σ w, Gr w0 w → Waited o Rs σ w → ∃ v, Yields P ops o v (putAll a0 done σ 0) ∧ R v w) (h2 : freeOK P ops a0 w0 Q pure tail (done ++ [o]) rest (Rs ++ [R])) : freeOK P ops a0 w0 Q pure tail done (o :: rest) Rs :=
  ⟨R, hst, fun σ w hG hd => by unfold StepOK; rw [if_pos (by simpa using hp)]; exact h σ w hG hd, h2⟩
theorem freeOK_done {Q : Exit → Act → World → Prop} {pure : List Nat} {tail done : List Oper} {Rs : List (Value → World → Prop)} (h : ∀ σ w, Gr w0 w → (∀ (i : Nat) (R : Value → World → Prop), Rs[i]? = some R → R (σ i) w) → Wall P ops Q tail (putAll a0 done σ 0) w) : freeOK P ops a0 w0 Q pure tail done [] Rs := fun σ w hG hR => (h σ w hG hR).out
theorem stepPost_mk {b a' : Act} {w w' : World} {d : Option Tmp} {R : Value → World → Prop} (h1 : Gr w w') (h2 : a'.defers = b.defers) (h3 : R (a'.eval (.tmp (d.getD 0))) w') : stepPost b w d R .normal a' w' := ⟨h1, h2, h3⟩
end
end Go.Proofs.Ytmlpekoombikaab
