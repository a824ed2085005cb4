/- Deep1 Deep2 Deep3 Deep4 Deep5 RowPhi Deep6 Deep7 Deep8. -/
import Derived.Laws.OwnMore
import Derived.Tactics
import Derived.Below
import Derived.Deep.MidRow
import Derived.Great.BuildSlice
set_option linter.unusedSimpArgs false
set_option linter.unusedSectionVars false
namespace Go.Proofs.YtpgeopefamomnaeGreat
open Go.RowKit
set_option linter.unusedVariables false
/-- What a cell holds, whole. A row: its elements, each of so many cells. -/
inductive DV where
  | int (k : IntKind) (x : Int)
  | bool (b : Bool)
  | str (s : ByteArray)
  | row (es : List (List DV))
/-- What a cell may hold besides: names of what the call owns. -/
inductive CV where
  | d (x : DV)
  | own (o : Nat)
  | nils
  | ptr (o i off k : Nat)
  | dp (es : List (List DV)) (i off k : Nat)
  | clo (f : FuncId) (caps : List Nat)
  | undef
/-- What a slot holds. -/
inductive AV where
  | c (x : CV)
  | agg (cs : List CV)
  | tup (vs : List AV)
/-- What a call owns: a variable, or a row. -/
inductive AO where
  | box (cs : List CV) (ty : TypeId)
  | row (es : List (List DV)) (k : Nat) (ty : TypeId) (fz : Bool)
inductive OS where
  | unused
  | live (x : AO)
  | dead
abbrev AH := Nat → OS
def upd {α : Type} (f : Nat → α) (a : Nat) (v : α) : Nat → α := fun n => match Nat.beq n a with | true => v | false => f n
theorem upd_self {α : Type} (f : Nat → α) (a : Nat) (v : α) : upd f a v a = v := by simp [upd]
theorem upd_ne {α : Type} (f : Nat → α) {a b : Nat} (v : α) (h : b ≠ a) : upd f a v b = f b := by
  have : Nat.beq b a = false := by
    rw [← Bool.not_eq_true]
    exact fun e => h (Nat.eq_of_beq_eq_true e)
  simp [upd, this]
def All2 {α β : Type} (R : α → β → Prop) (xs : List α) (ys : List β) : Prop := xs.length = ys.length ∧ ∀ (i : Nat) x y, xs[i]? = some x → ys[i]? = some y → R x y
theorem All2.mono {α β : Type} {R R' : α → β → Prop} {xs : List α} {ys : List β} (h : All2 R xs ys) (hr : ∀ x y, R x y → R' x y) : All2 R' xs ys := ⟨h.1, fun i x y hx hy => hr x y (h.2 i x y hx hy)⟩
theorem All2.nil {α β : Type} {R : α → β → Prop} : All2 R ([] : List α) ([] : List β) := ⟨rfl, fun i x y h => by simp at h⟩
theorem All2.cons {α β : Type} {R : α → β → Prop} {x : α} {y : β} {xs : List α} {ys : List β} (h : R x y) (t : All2 R xs ys) : All2 R (x :: xs) (y :: ys) := ⟨by simp [t.1], fun i a b ha hb => by
  cases i with
  | zero => simp at ha hb; subst ha; subst hb; exact h
  | succ i => simp at ha hb; exact t.2 i a b ha hb⟩
theorem All2.append {α β : Type} {R : α → β → Prop} {xs xs' : List α} {ys ys' : List β} (h : All2 R xs ys) (t : All2 R xs' ys') : All2 R (xs ++ xs') (ys ++ ys') := ⟨by simp [h.1, t.1], fun i a b ha hb => by
  by_cases hi : i < xs.length
  · rw [List.getElem?_append_left hi] at ha
    rw [List.getElem?_append_left (by rw [← h.1]; exact hi)] at hb
    exact h.2 i a b ha hb
  · rw [List.getElem?_append_right (by omega)] at ha
    rw [List.getElem?_append_right (by rw [← h.1]; omega), ← h.1] at hb
    exact t.2 _ a b ha hb⟩
theorem All2.get {α β : Type} {R : α → β → Prop} {xs : List α} {ys : List β} (h : All2 R xs ys) {i : Nat} {x : α} (hx : xs[i]? = some x) : ∃ y, ys[i]? = some y ∧ R x y := by
  have hi : i < ys.length := by rw [← h.1]; exact (List.getElem?_eq_some_iff.1 hx).1
  exact ⟨ys[i], List.getElem?_eq_getElem hi, h.2 i x _ hx (List.getElem?_eq_getElem hi)⟩
theorem All2.sub {α β : Type} {R : α → β → Prop} {xs : List α} {ys : List β} (h : All2 R xs ys) (o n : Nat) : All2 R ((xs.drop o).take n) ((ys.drop o).take n) := ⟨by simp [h.1], fun i a b ha hb => by
  rw [List.getElem?_take] at ha hb
  split at ha
  · rw [if_pos ‹_›, List.getElem?_drop] at hb
    rw [List.getElem?_drop] at ha
    exact h.2 _ a b ha hb
  · cases ha⟩
theorem All2.set {α β : Type} {R : α → β → Prop} {xs : List α} {ys : List β} (h : All2 R xs ys) (i : Nat) {x : α} {y : β} (hr : R x y) : All2 R (xs.set i x) (ys.set i y) := ⟨by simp [h.1], fun j a b ha hb => by
  by_cases e : i = j
  · subst e
    have hl := (List.getElem?_eq_some_iff.1 ha).1
    simp at hl
    rw [List.getElem?_set_self hl] at ha
    rw [List.getElem?_set_self (by rw [← h.1]; exact hl)] at hb
    cases ha; cases hb; exact hr
  · rw [List.getElem?_set_ne e] at ha hb
    exact h.2 j a b ha hb⟩

/-- v is the tree x in memory, and no block of it is one that is written. -/
inductive RepD (w : World) (Wr : Nat → Prop) : DV → Value → Prop
  | int (k x) : RepD w Wr (.int k x) (.int k x)
  | bool (b) : RepD w Wr (.bool b) (.bool b)
  | str (s) : RepD w Wr (.str s) (.string s)
  | row (es : List (List DV)) (a : Option Addr) (n cap k : Nat) (vs : List Value) : n = es.length → n ≤ cap → cap ≤ maxLen → (∀ e ∈ es, e.length = k) → vs.length = es.flatten.length →
      (vs ≠ [] → ∃ b off, a = some ⟨b, off, none⟩ ∧ ¬ Wr b ∧ ∀ (i : Nat) v, vs[i]? = some v → w.cell? ⟨b, off + i, none⟩ = some v) →
      (∀ (i : Nat) x v, es.flatten[i]? = some x → vs[i]? = some v → RepD w Wr x v) → RepD w Wr (.row es) (.slice a n cap)
/-- Old blocks that are not written stay as they are. -/
def Keeps (w w' : World) (Wr Wr' : Nat → Prop) : Prop := ∀ b, b < w.heap.size → ¬ Wr b → ¬ Wr' b ∧ w'.heap[b]? = w.heap[b]?
theorem Keeps.refl (w : World) (Wr : Nat → Prop) : Keeps w w Wr Wr := fun _ _ h => ⟨h, rfl⟩
theorem RepD.mono {w w' : World} {Wr Wr' : Nat → Prop} (hk : Keeps w w' Wr Wr') {x : DV} {v : Value} (h : RepD w Wr x v) : RepD w' Wr' x v := by
  induction h with
  | int k x => exact .int k x
  | bool b => exact .bool b
  | str s => exact .str s
  | row es a n cap k vs h1 h2 h3 h4 h5 h6 h7 ih =>
    refine .row es a n cap k vs h1 h2 h3 h4 h5 (fun hv => ?_) (fun i x v hx hv => ih i x v hx hv)
    obtain ⟨b, off, e, hb, hc⟩ := h6 hv
    have h0 := hc 0 _ (List.getElem?_eq_getElem (List.length_pos_iff.2 hv))
    have hlt := World.block_lt_of_cell? w _ h0
    obtain ⟨k1, k2⟩ := hk b hlt hb
    refine ⟨b, off, e, k1, fun i v hi => ?_⟩
    rw [World.cell?_of_block (w := w) k2]
    exact hc i v hi
theorem RepD.one {w : World} {Wr : Nat → Prop} {x : DV} {v : Value} (h : RepD w Wr x v) : v.oneCell' = true := by cases h <;> rfl
theorem RepD.int_eq {w : World} {Wr : Nat → Prop} {k : IntKind} {x : Int} {v : Value} (h : RepD w Wr (.int k x) v) : v = .int k x := by
  generalize hd : DV.int k x = d at h
  cases h <;> cases hd
  rfl
theorem RepD.bool_eq {w : World} {Wr : Nat → Prop} {b : Bool} {v : Value} (h : RepD w Wr (.bool b) v) : v = .bool b := by
  generalize hd : DV.bool b = d at h
  cases h <;> cases hd
  rfl
theorem RepD.str_eq {w : World} {Wr : Nat → Prop} {b : ByteArray} {v : Value} (h : RepD w Wr (.str b) v) : v = .string b := by
  generalize hd : DV.str b = d at h
  cases h <;> cases hd
  rfl
/-- Names' values: of a variable the pointer, of a row the slice. -/
abbrev Mu := Nat → Option Value
def blk : Value → Option Nat
  | .pointer (some a) => some a.block
  | .slice (some a) _ _ => some a.block
  | _ => none
def At (μ : Mu) (o b : Nat) : Prop := ∃ u, μ o = some u ∧ blk u = some b
def RepC (w : World) (Wr : Nat → Prop) (μ : Mu) : CV → Value → Prop
  | .d x, v => RepD w Wr x v
  | .own o, v => μ o = some v ∧ ∃ a n c, v = .slice a n c
  | .nils, v => v = .slice none 0 0
  | .ptr o i off k, v => ∃ b, At μ o b ∧ v = .pointer (some ⟨b, i * k + off, none⟩)
  | .dp es i off k, v => ∃ b o0 n c, RepD w Wr (.row es) (.slice (some ⟨b, o0, none⟩) n c) ∧ (∀ e ∈ es, e.length = k) ∧ i < es.length ∧ v = .pointer (some ⟨b, o0 + i * k + off, none⟩)
  | .clo f caps, v => ∃ ps : List Value, v = .func (.func f) #[] ps.toArray ∧ All2 (fun o p => ∃ b, At μ o b ∧ p = .pointer (some ⟨b, 0, none⟩)) caps ps
  | .undef, _ => True
def MuLe (μ μ' : Mu) : Prop := ∀ o u, μ o = some u → μ' o = some u
theorem MuLe.refl (μ : Mu) : MuLe μ μ := fun _ _ h => h
theorem MuLe.trans {a b c : Mu} (h : MuLe a b) (k : MuLe b c) : MuLe a c := fun o u hu => k o u (h o u hu)
theorem MuLe.at {μ μ' : Mu} (h : MuLe μ μ') {o b : Nat} (ha : At μ o b) : At μ' o b := let ⟨u, h1, h2⟩ := ha; ⟨u, h o u h1, h2⟩
theorem RepC.mono {w w' : World} {Wr Wr' : Nat → Prop} {μ μ' : Mu} (hk : Keeps w w' Wr Wr') (hm : MuLe μ μ') {x : CV} {v : Value} (h : RepC w Wr μ x v) : RepC w' Wr' μ' x v := by
  cases x with
  | d x => exact RepD.mono hk h
  | own o => exact ⟨hm _ _ h.1, h.2⟩
  | nils => exact h
  | ptr o i off k => obtain ⟨b, h1, h2⟩ := h; exact ⟨b, hm.at h1, h2⟩
  | dp es i off k => obtain ⟨b, o0, n, c, h1, h2⟩ := h; exact ⟨b, o0, n, c, h1.mono hk, h2⟩
  | clo f caps => obtain ⟨ps, h1, h2⟩ := h; exact ⟨ps, h1, h2.mono fun o p ⟨b, k1, k2⟩ => ⟨b, hm.at k1, k2⟩⟩
  | undef => trivial
def CV.ok : CV → Bool
  | .undef => false
  | _ => true
theorem RepC.one {w : World} {Wr : Nat → Prop} {μ : Mu} {x : CV} {v : Value} (hx : x.ok = true) (h : RepC w Wr μ x v) : v.oneCell' = true := by
  cases x with
  | d x => exact RepD.one h
  | own o => obtain ⟨_, a, n, c, rfl⟩ := h; rfl
  | nils => cases h; rfl
  | ptr o i off k => obtain ⟨b, _, rfl⟩ := h; rfl
  | dp es i off k => obtain ⟨b, o0, n, c, _, _, _, rfl⟩ := h; rfl
  | clo f caps => obtain ⟨ps, rfl, _⟩ := h; rfl
  | undef => cases hx
/-- A cell that is there. -/
def RepK (w : World) (Wr : Nat → Prop) (μ : Mu) (c : CV) (v : Value) : Prop := c.ok = true ∧ RepC w Wr μ c v
theorem RepK.mono {w w' : World} {Wr Wr' : Nat → Prop} {μ μ' : Mu} (hk : Keeps w w' Wr Wr') (hm : MuLe μ μ') {x : CV} {v : Value} (h : RepK w Wr μ x v) : RepK w' Wr' μ' x v := ⟨h.1, h.2.mono hk hm⟩
def RepS (w : World) (Wr : Nat → Prop) (μ : Mu) : AV → Value → Prop
  | .c x, v => RepC w Wr μ x v
  | .agg cs, v => ∃ vs : List Value, v = .agg vs.toArray ∧ All2 (RepK w Wr μ) cs vs
  | .tup _, _ => False
def RepA (w : World) (Wr : Nat → Prop) (μ : Mu) : AV → Value → Prop
  | .tup xs, v => ∃ vs : List Value, v = .tuple vs.toArray ∧ All2 (RepS w Wr μ) xs vs
  | .c x, v => RepC w Wr μ x v
  | .agg cs, v => RepS w Wr μ (.agg cs) v
theorem RepS.mono {w w' : World} {Wr Wr' : Nat → Prop} {μ μ' : Mu} (hk : Keeps w w' Wr Wr') (hm : MuLe μ μ') {x : AV} {v : Value} (h : RepS w Wr μ x v) : RepS w' Wr' μ' x v := by
  cases x with
  | c x => exact RepC.mono hk hm h
  | agg cs => obtain ⟨vs, h1, h2⟩ := h; exact ⟨vs, h1, h2.mono fun _ _ k => k.mono hk hm⟩
  | tup _ => exact h.elim
theorem RepA.mono {w w' : World} {Wr Wr' : Nat → Prop} {μ μ' : Mu} (hk : Keeps w w' Wr Wr') (hm : MuLe μ μ') {x : AV} {v : Value} (h : RepA w Wr μ x v) : RepA w' Wr' μ' x v := by
  cases x with
  | c x => exact RepC.mono hk hm h
  | agg cs => exact RepS.mono (x := .agg cs) hk hm h
  | tup xs => obtain ⟨vs, h1, h2⟩ := h; exact ⟨vs, h1, h2.mono fun _ _ k => RepS.mono hk hm k⟩
theorem RepA.ofS {w : World} {Wr : Nat → Prop} {μ : Mu} {x : AV} {v : Value} (h : RepS w Wr μ x v) : RepA w Wr μ x v := by
  cases x with
  | c x => exact h
  | agg cs => exact h
  | tup _ => exact h.elim
/-- Memory holds what is named o. -/
def RepO (w : World) (Wr : Nat → Prop) (μ : Mu) (o : Nat) : AO → Prop
  | .box cs ty => ∃ b vs, μ o = some (.pointer (some ⟨b, 0, none⟩)) ∧ w.heap[b]? = some (.cells vs.toArray ty (0, 0)) ∧ All2 (RepK w Wr μ) cs vs
  | .row es k ty fz => ∃ v vs, μ o = some v ∧ w.ownsRow 0 ty k v es.length vs ∧ (∀ e ∈ es, e.length = k) ∧ All2 (RepD w Wr) es.flatten vs
def AO.fz : AO → Bool
  | .box _ _ => false
  | .row _ _ _ f => f
/-- The blocks that may be written. -/
def WrOf (h : AH) (μ : Mu) (W0 : Nat → Prop) (b : Nat) : Prop := W0 b ∨ ∃ o x, h o = .live x ∧ x.fz = false ∧ At μ o b
/-- The heap that the call owns, in memory. B: what was there when it began; G: what of that it may write. -/
structure RelH (w0 : World) (G W0 : Nat → Prop) (h : AH) (μ : Mu) (w : World) : Prop where
  obj : ∀ o x, h o = .live x → RepO w (WrOf h μ W0) μ o x
  inj : ∀ o o' x x' b, h o = .live x → h o' = .live x' → At μ o b → At μ o' b → o = o'
  unused : ∀ o, h o = .unused → μ o = none
  apart : ∀ o x b, h o = .live x → At μ o b → ¬ W0 b ∧ (w0.heap.size ≤ b ∨ G b)
  w0lt : ∀ b, W0 b → b < w0.heap.size
  os : w.os = w0.os
  tape : w.tape = w0.tape
  output : w.output = w0.output
  size : w0.heap.size ≤ w.heap.size
  kept : ∀ b, b < w0.heap.size → ¬ G b → w.heap[b]? = w0.heap[b]?
end Go.Proofs.YtpgeopefamomnaeGreat

namespace Go.Proofs.YtpgeopefamomnaeGreat
set_option linter.unusedVariables false
inductive AM (α : Type) where
  | ret (a : α)
  | fail
  | slot (t : Nat) (k : AV → AM α)
  | obj (o : Nat) (k : AO → AM α)
  | put (o : Nat) (x : AO) (k : AM α)
  | kill (o : Nat) (k : AM α)
  | new (o : Nat) (x : AO) (k : AM α)
  | need (p : Prop) (k : AM α)
def AM.bind {α β : Type} : AM α → (α → AM β) → AM β
  | .ret a, f => f a
  | .fail, _ => .fail
  | .slot t k, f => .slot t fun v => (k v).bind f
  | .obj o k, f => .obj o fun x => (k x).bind f
  | .put o x k, f => .put o x (k.bind f)
  | .kill o k, f => .kill o (k.bind f)
  | .new o x k, f => .new o x (k.bind f)
  | .need p k, f => .need p (k.bind f)
instance : Monad AM where
  pure := AM.ret
  bind := AM.bind
/-- What becomes of it: the answer, what is asked for, and what is owned then. -/
def AM.run {α : Type} (env : Nat → AV) : AM α → AH → Option (α × Prop × AH)
  | .ret a, h => some (a, True, h)
  | .fail, _ => none
  | .slot t k, h => (k (env t)).run env h
  | .obj o k, h => match h o with
    | .live x => (k x).run env h
    | _ => none
  | .put o x k, h => match h o with
    | .live _ => k.run env (upd h o (.live x))
    | _ => none
  | .kill o k, h => match h o with
    | .live _ => k.run env (upd h o .dead)
    | _ => none
  | .new o x k, h => match h o with
    | .unused => k.run env (upd h o (.live x))
    | _ => none
  | .need p k, h => match k.run env h with
    | some (a, q, h') => some (a, p ∧ q, h')
    | none => none
/-- What it touches: slots that are read; names (true: written). -/
def AM.log {α : Type} (env : Nat → AV) : AM α → AH → List Nat × List (Nat × Bool)
  | .ret _, _ => ([], [])
  | .fail, _ => ([], [])
  | .slot t k, h => let l := (k (env t)).log env h; (t :: l.1, l.2)
  | .obj o k, h => match h o with
    | .live x => let l := (k x).log env h; (l.1, (o, false) :: l.2)
    | _ => ([], [])
  | .put o x k, h => let l := k.log env (upd h o (.live x)); (l.1, (o, true) :: l.2)
  | .kill o k, h => let l := k.log env (upd h o .dead); (l.1, (o, true) :: l.2)
  | .new o x k, h => let l := k.log env (upd h o (.live x)); (l.1, (o, true) :: l.2)
  | .need _ k, h => k.log env h
def touched (l : List (Nat × Bool)) (o : Nat) : Prop := ∃ b, (o, b) ∈ l
def written (l : List (Nat × Bool)) (o : Nat) : Prop := (o, true) ∈ l
instance (l : List (Nat × Bool)) (o : Nat) : Decidable (written l o) := inferInstanceAs (Decidable (_ ∈ _))
/-- What is not written stays. -/
theorem AM.frame {α : Type} {env : Nat → AV} : ∀ (p : AM α) (h : AH) {a : α} {q : Prop} {h' : AH}, p.run env h = some (a, q, h') → ∀ o, ¬ written (p.log env h).2 o → h' o = h o
  | .ret _, h, _, _, _, hr, o, _ => by simp [AM.run] at hr; rw [hr.2.2]
  | .fail, h, _, _, _, hr, o, _ => by simp [AM.run] at hr
  | .slot t k, h, _, _, _, hr, o, hn => AM.frame (k (env t)) h hr o hn
  | .obj o1 k, h, _, _, _, hr, o, hn => by
    simp only [AM.run] at hr
    simp only [AM.log] at hn
    split at hr
    · rename_i x hx
      simp only [hx] at hn
      exact AM.frame (k x) h hr o fun hw => hn (List.mem_cons_of_mem _ hw)
    · cases hr
  | .put o1 x k, h, _, _, _, hr, o, hn => by
    simp only [AM.run] at hr
    simp only [AM.log] at hn
    split at hr
    · have := AM.frame k _ hr o fun hw => hn (List.mem_cons_of_mem _ hw)
      rw [this, upd_ne]
      intro e
      subst e
      exact hn (List.mem_cons_self ..)
    · cases hr
  | .kill o1 k, h, _, _, _, hr, o, hn => by
    simp only [AM.run] at hr
    simp only [AM.log] at hn
    split at hr
    · have := AM.frame k _ hr o fun hw => hn (List.mem_cons_of_mem _ hw)
      rw [this, upd_ne]
      intro e
      subst e
      exact hn (List.mem_cons_self ..)
    · cases hr
  | .new o1 x k, h, _, _, _, hr, o, hn => by
    simp only [AM.run] at hr
    simp only [AM.log] at hn
    split at hr
    · have := AM.frame k _ hr o fun hw => hn (List.mem_cons_of_mem _ hw)
      rw [this, upd_ne]
      intro e
      subst e
      exact hn (List.mem_cons_self ..)
    · cases hr
  | .need p k, h, _, _, _, hr, o, hn => by
    simp only [AM.run] at hr
    simp only [AM.log] at hn
    split at hr
    · rename_i a q h1 hk
      simp at hr
      have := AM.frame k h hk o hn
      rw [← hr.2.2]; exact this
    · cases hr
/-- It hangs on what it touches alone. -/
theorem AM.agree {α : Type} {env env2 : Nat → AV} : ∀ (p : AM α) (h h2 : AH) {a : α} {q : Prop} {h' : AH}, p.run env h = some (a, q, h') → (∀ t ∈ (p.log env h).1, env2 t = env t) → (∀ o, touched (p.log env h).2 o → h2 o = h o) →
    ∃ h2', p.run env2 h2 = some (a, q, h2') ∧ p.log env2 h2 = p.log env h ∧ ∀ o, (written (p.log env h).2 o → h2' o = h' o) ∧ (¬ written (p.log env h).2 o → h2' o = h2 o)
  | .ret _, h, h2, _, _, _, hr, hs, ho => by
    simp only [AM.run, Option.some.injEq, Prod.mk.injEq] at hr
    obtain ⟨rfl, rfl, rfl⟩ := hr
    exact ⟨h2, rfl, rfl, fun o => ⟨fun hw => by simp [AM.log, written] at hw, fun _ => rfl⟩⟩
  | .fail, h, h2, _, _, _, hr, hs, ho => by simp [AM.run] at hr
  | .slot t k, h, h2, _, _, _, hr, hs, ho => by
    have e := hs t (by simp [AM.log])
    obtain ⟨h2', k1, k2, k3⟩ := AM.agree (k (env t)) h h2 hr (fun t' ht' => hs t' (by simp [AM.log, ht'])) (fun o ho' => ho o ho')
    refine ⟨h2', by simp only [AM.run, e]; exact k1, by simp only [AM.log, e, k2], k3⟩
  | .obj o1 k, h, h2, _, _, _, hr, hs, ho => by
    simp only [AM.run] at hr
    split at hr
    · rename_i x hx
      have e1 : AM.log env (.obj o1 k) h = ((AM.log env (k x) h).1, (o1, false) :: (AM.log env (k x) h).2) := by simp only [AM.log, hx]
      rw [e1] at hs ho ⊢
      have e := ho o1 ⟨false, List.mem_cons_self ..⟩
      rw [hx] at e
      obtain ⟨h2', k1, k2, k3⟩ := AM.agree (k x) h h2 hr hs (fun o ⟨b, hb⟩ => ho o ⟨b, List.mem_cons_of_mem _ hb⟩)
      refine ⟨h2', by simp only [AM.run, e]; exact k1, by simp only [AM.log, e, k2], fun o => ⟨fun hw => (k3 o).1 (by simpa [written] using hw), fun hw => (k3 o).2 (by simpa [written] using hw)⟩⟩
    · cases hr
  | .put o1 x k, h, h2, _, _, _, hr, hs, ho => by
    simp only [AM.run] at hr
    split at hr
    · rename_i y hy
      have e := ho o1 ⟨true, by simp [AM.log]⟩
      rw [hy] at e
      obtain ⟨h2', k1, k2, k3⟩ := AM.agree k (upd h o1 (.live x)) (upd h2 o1 (.live x)) hr (fun t ht => hs t (by simpa [AM.log] using ht)) (fun o ⟨b, hb⟩ => by
        by_cases eo : o = o1
        · subst eo; rw [upd_self, upd_self]
        · rw [upd_ne _ _ eo, upd_ne _ _ eo]; exact ho o ⟨b, by simp [AM.log, hb]⟩)
      refine ⟨h2', by simp only [AM.run, e]; exact k1, by simp only [AM.log, k2], fun o => ⟨fun hw => ?_, fun hw => ?_⟩⟩
      · by_cases hw2 : written (AM.log env k (upd h o1 (.live x))).2 o
        · exact (k3 o).1 hw2
        · rw [(k3 o).2 hw2, AM.frame k _ hr o hw2]
          have eo : o = o1 := by
            simp only [AM.log, written, List.mem_cons, Prod.mk.injEq, and_true] at hw hw2
            exact hw.resolve_right hw2
          subst eo
          rw [upd_self, upd_self]
      · have hw2 : ¬ written (AM.log env k (upd h o1 (.live x))).2 o := fun hh => hw (by simp only [AM.log, written] at hh ⊢; exact List.mem_cons_of_mem _ hh)
        have eo : o ≠ o1 := by
          intro e
          subst e
          exact hw (by simp only [AM.log, written]; exact List.mem_cons_self ..)
        rw [(k3 o).2 hw2, upd_ne _ _ eo]
    · cases hr
  | .kill o1 k, h, h2, _, _, _, hr, hs, ho => by
    simp only [AM.run] at hr
    split at hr
    · rename_i y hy
      have e := ho o1 ⟨true, by simp [AM.log]⟩
      rw [hy] at e
      obtain ⟨h2', k1, k2, k3⟩ := AM.agree k (upd h o1 .dead) (upd h2 o1 .dead) hr (fun t ht => hs t (by simpa [AM.log] using ht)) (fun o ⟨b, hb⟩ => by
        by_cases eo : o = o1
        · subst eo; rw [upd_self, upd_self]
        · rw [upd_ne _ _ eo, upd_ne _ _ eo]; exact ho o ⟨b, by simp [AM.log, hb]⟩)
      refine ⟨h2', by simp only [AM.run, e]; exact k1, by simp only [AM.log, k2], fun o => ⟨fun hw => ?_, fun hw => ?_⟩⟩
      · by_cases hw2 : written (AM.log env k (upd h o1 .dead)).2 o
        · exact (k3 o).1 hw2
        · rw [(k3 o).2 hw2, AM.frame k _ hr o hw2]
          have eo : o = o1 := by
            simp only [AM.log, written, List.mem_cons, Prod.mk.injEq, and_true] at hw hw2
            exact hw.resolve_right hw2
          subst eo
          rw [upd_self, upd_self]
      · have hw2 : ¬ written (AM.log env k (upd h o1 .dead)).2 o := fun hh => hw (by simp only [AM.log, written] at hh ⊢; exact List.mem_cons_of_mem _ hh)
        have eo : o ≠ o1 := by
          intro e
          subst e
          exact hw (by simp only [AM.log, written]; exact List.mem_cons_self ..)
        rw [(k3 o).2 hw2, upd_ne _ _ eo]
    · cases hr
  | .new o1 x k, h, h2, _, _, _, hr, hs, ho => by
    simp only [AM.run] at hr
    split at hr
    · rename_i hy
      have e := ho o1 ⟨true, by simp [AM.log]⟩
      rw [hy] at e
      obtain ⟨h2', k1, k2, k3⟩ := AM.agree k (upd h o1 (.live x)) (upd h2 o1 (.live x)) hr (fun t ht => hs t (by simpa [AM.log] using ht)) (fun o ⟨b, hb⟩ => by
        by_cases eo : o = o1
        · subst eo; rw [upd_self, upd_self]
        · rw [upd_ne _ _ eo, upd_ne _ _ eo]; exact ho o ⟨b, by simp [AM.log, hb]⟩)
      refine ⟨h2', by simp only [AM.run, e]; exact k1, by simp only [AM.log, k2], fun o => ⟨fun hw => ?_, fun hw => ?_⟩⟩
      · by_cases hw2 : written (AM.log env k (upd h o1 (.live x))).2 o
        · exact (k3 o).1 hw2
        · rw [(k3 o).2 hw2, AM.frame k _ hr o hw2]
          have eo : o = o1 := by
            simp only [AM.log, written, List.mem_cons, Prod.mk.injEq, and_true] at hw hw2
            exact hw.resolve_right hw2
          subst eo
          rw [upd_self, upd_self]
      · have hw2 : ¬ written (AM.log env k (upd h o1 (.live x))).2 o := fun hh => hw (by simp only [AM.log, written] at hh ⊢; exact List.mem_cons_of_mem _ hh)
        have eo : o ≠ o1 := by
          intro e
          subst e
          exact hw (by simp only [AM.log, written]; exact List.mem_cons_self ..)
        rw [(k3 o).2 hw2, upd_ne _ _ eo]
    · cases hr
  | .need p k, h, h2, _, _, _, hr, hs, ho => by
    simp only [AM.run] at hr
    split at hr
    · rename_i a q h1 hk
      simp only [Option.some.injEq, Prod.mk.injEq] at hr
      obtain ⟨rfl, rfl, rfl⟩ := hr
      obtain ⟨h2', k1, k2, k3⟩ := AM.agree k h h2 hk (fun t ht => hs t (by simpa [AM.log] using ht)) (fun o ho' => ho o (by simpa [AM.log] using ho'))
      exact ⟨h2', by simp only [AM.run, k1], by simp only [AM.log, k2], by simpa [AM.log] using k3⟩
    · cases hr
end Go.Proofs.YtpgeopefamomnaeGreat

namespace Go.Proofs.YtpgeopefamomnaeGreat
set_option linter.unusedVariables false
def szOf (P : Program) (t : TypeId) : Nat := match P.info? t with
  | some i => i.size
  | none => 0
def isAggT (P : Program) (t : TypeId) : Option Bool := match P.underlying t with
  | some (.struct _) => some true
  | some (.array _ _) => some true
  | some _ => some false
  | none => none
def cvOf : Value → Option CV
  | .int k x => some (.d (.int k x))
  | .bool b => some (.d (.bool b))
  | .string s => some (.d (.str s))
  | .slice none 0 0 => some .nils
  | _ => none
def cvsOf : List Value → Option (List CV)
  | [] => some []
  | v :: r => match cvOf v, cvsOf r with
    | some c, some l => some (c :: l)
    | _, _ => none
def zerosOf (P : Program) (t : TypeId) : Option (List CV) := match P.info? t with
  | some i => match i.zero with
    | some z => match Nat.beq z.cells.toList.length i.size with
      | true => cvsOf z.cells.toList
      | false => none
    | none => none
  | none => none
def avOf : Value → Option AV
  | .agg cs => match cvsOf cs.toList with
    | some l => some (.agg l)
    | none => none
  | v => match cvOf v with
    | some c => some (.c c)
    | none => none
def dz : DV := .bool false
def DV.toI : DV → Int | .int _ x => x | _ => 0
def DV.toB : DV → Bool | .bool b => b | _ => false
def DV.toS : DV → ByteArray | .str s => s | _ => default
def DV.toR : DV → List (List DV) | .row es => es | _ => []
def typed : CV → DV → CV
  | .d (.int k _), x => .d (.int k x.toI)
  | .d (.bool _), x => .d (.bool x.toB)
  | .d (.str _), x => .d (.str x.toS)
  | .nils, x => .d (.row x.toR)
  | _, _ => .undef
def expand (e : List DV) : List CV → Nat → List CV
  | [], _ => []
  | z :: r, j => typed z (e.getD j dz) :: expand e r (j + 1)
def fits (e : List DV) : List CV → Nat → Prop
  | [], _ => True
  | z :: r, j => typed z (e.getD j dz) = .d (e.getD j dz) ∧ fits e r (j + 1)
def setA {α : Type} (xs : List α) (o : Nat) : List α → List α
  | [] => xs
  | u :: us => setA (xs.set o u) (o + 1) us
/-- The same, place by place. -/
def setB {α : Type} : List α → Nat → List α → List α
  | [], _, _ => []
  | x :: xs, 0, us => match us with
    | [] => x :: xs
    | u :: us => u :: setB xs 0 us
  | x :: xs, o + 1, us => x :: setB xs o us
theorem setA_nil {α : Type} : ∀ (us : List α) (o : Nat), setA ([] : List α) o us = []
  | [], o => rfl
  | u :: us, o => by simp only [setA, List.set_nil]; exact setA_nil us (o + 1)
theorem setA_succ {α : Type} (x : α) : ∀ (us xs : List α) (o : Nat), setA (x :: xs) (o + 1) us = x :: setA xs o us
  | [], xs, o => rfl
  | u :: us, xs, o => by simp only [setA, List.set_cons_succ]; exact setA_succ x us _ _
theorem setB_eq {α : Type} : ∀ (xs : List α) (o : Nat) (us : List α), setB xs o us = setA xs o us
  | [], o, us => (setA_nil us o).symm
  | x :: xs, 0, [] => rfl
  | x :: xs, 0, u :: us => by simp only [setB, setA, List.set_cons_zero]; rw [setB_eq xs 0 us, setA_succ]
  | x :: xs, o + 1, us => by simp only [setB]; rw [setB_eq xs o us, setA_succ]
def pickE (c : Bool) (x y : List DV) : List DV := match c with
  | true => x
  | false => y
def cells1 : AV → Option (List CV)
  | .c x => some [x]
  | .agg cs => some cs
  | .tup _ => none
def okAll : List CV → Bool
  | [] => true
  | c :: r => c.ok && okAll r
def toDs : List CV → Option (List DV)
  | [] => some []
  | .d x :: r => match toDs r with
    | some l => some (x :: l)
    | none => none
  | .nils :: r => match toDs r with
    | some l => some (.row [] :: l)
    | none => none
  | _ :: _ => none
def bytesOK (P : Program) (e : TypeId) : Bool := match P.info? e with
  | some i => Nat.ble i.bytes 100000
  | none => false
/-- What a row of such elements holds at first. -/
def elemK (P : Program) (e : TypeId) : Option (List DV) := match zerosOf P e with
  | some zs => match toDs zs with
    | some ds => match Nat.ble 1 ds.length && bytesOK P e with
      | true => some ds
      | false => none
    | none => none
  | none => none
section
variable {α : Type}
def aev (x : Operand) (k : AV → AM α) : AM α := match x with
  | .tmp t => .slot t k
  | .const v => match avOf v with
    | some a => k a
    | none => .fail
  | .func f => k (.c (.clo f []))
  | .global _ => .fail
def aevL : List Operand → (List AV → AM α) → AM α
  | [], k => k []
  | x :: r, k => aev x fun v => aevL r fun vs => k (v :: vs)
def deepK (c : CV) (k : DV → AM α) : AM α := match c with
  | .d x => k x
  | .nils => k (.row [])
  | .own o => .obj o fun x => match x with
    | .row es kk ty _ => .put o (.row es kk ty true) (k (.row es))
    | .box _ _ => .fail
  | _ => .fail
def deepL : List CV → (List DV → AM α) → AM α
  | [], k => k []
  | c :: r, k => deepK c fun x => deepL r fun xs => k (x :: xs)
/-- Of a row's element e: a variable of type t that lies at off. -/
def loadE (P : Program) (t : TypeId) (es : List (List DV)) (i off : Nat) : AM AV := match zerosOf P t with
  | some zs => .need (i < es.length ∧ off + zs.length ≤ (es.getD i []).length ∧ fits (es.getD i []) zs off) (match isAggT P t with
    | some true => .ret (.agg (expand (es.getD i []) zs off))
    | some false => match expand (es.getD i []) zs off with
      | [c] => .ret (.c c)
      | _ => .fail
    | none => .fail)
  | none => .fail
def loadP (P : Program) (t : TypeId) (v : AV) : AM AV := match v with
  | .c (.ptr o i off k) => .obj o fun x => match x with
    | .box cs _ => match Nat.beq i 0 with
      | true => match isAggT P t with
        | some true => match Nat.beq ((cs.drop off).take (szOf P t)).length (szOf P t) with
          | true => .ret (.agg ((cs.drop off).take (szOf P t)))
          | false => .fail
        | some false => match cs[off]? with
          | some c => .ret (.c c)
          | none => .fail
        | none => .fail
      | false => .fail
    | .row es k' _ _ => match Nat.beq k k' with
      | true => loadE P t es i off
      | false => .fail
  | .c (.dp es i off k) => loadE P t es i off
  | _ => .fail
def storeP (P : Program) (t : TypeId) (p v : AV) : AM AV := match p, cells1 v with
  | .c (.ptr o i off k), some us => match okAll us && Nat.beq us.length (szOf P t) && Nat.ble 1 us.length with
    | true => .obj o fun x => match x with
      | .box cs ty => match Nat.beq i 0 && Nat.ble (off + us.length) cs.length with
        | true => .put o (.box (setB cs off us) ty) (.ret (.c .undef))
        | false => .fail
      | .row _ _ _ _ => deepL us fun ds => .obj o fun y => match y with
        | .row es k' ty false => match Nat.beq k k' with
          | true => .need (i < es.length ∧ off + us.length ≤ k') (.put o (.row (es.set i (pickE (Nat.beq off 0 && Nat.beq us.length k') ds (setA (es.getD i []) off ds))) k' ty false) (.ret (.c .undef)))
          | false => .fail
        | _ => .fail
    | false => .fail
  | _, _ => .fail
def fieldOf (P : Program) (s : TypeId) (f : Nat) : Option (Nat × TypeId) := match P.underlying s with
  | some (.struct fs) => match fs[f]? with
    | some x => match Nat.beq (szOf P x.type) 0 with
      | true => none
      | false => some (x.offset, x.type)
    | none => none
  | _ => none
def elemOf (P : Program) (t : TypeId) : Option TypeId := match P.underlying t with
  | some (.slice e) => some e
  | _ => none
def ikN : IntKind → Nat
  | .i8 => 0 | .i16 => 1 | .i32 => 2 | .i64 => 3 | .u8 => 4 | .u16 => 5 | .u32 => 6 | .u64 => 7
def abin (op : BinOp) : AV → AV → Option (Prop × DV)
  | .c (.d (.int k a)), .c (.d (.int k' b)) => match op with
    | .shl => some (0 ≤ b, .int k (k.wrap (a * 2 ^ (min b.toNat k.bits))))
    | .shr => some (0 ≤ b, .int k (a.fdiv (2 ^ (min b.toNat k.bits))))
    | op => match Nat.beq (ikN k) (ikN k') with
      | true => match op with
        | .add => some (True, .int k (k.wrap (a + b)))
        | .sub => some (True, .int k (k.wrap (a - b)))
        | .mul => some (True, .int k (k.wrap (a * b)))
        | .quo => some (b ≠ 0, .int k (k.wrap (a.tdiv b)))
        | .rem => some (b ≠ 0, .int k (a.tmod b))
        | .and => some (True, .int k (k.wrap (BitVec.ofInt k.bits a &&& BitVec.ofInt k.bits b).toNat))
        | .or => some (True, .int k (k.wrap (BitVec.ofInt k.bits a ||| BitVec.ofInt k.bits b).toNat))
        | .xor => some (True, .int k (k.wrap (BitVec.ofInt k.bits a ^^^ BitVec.ofInt k.bits b).toNat))
        | .andNot => some (True, .int k (k.wrap (BitVec.ofInt k.bits a &&& ~~~BitVec.ofInt k.bits b).toNat))
        | .eql => some (True, .bool (a == b))
        | .neq => some (True, .bool (a != b))
        | .lss => some (True, .bool (decide (a < b)))
        | .leq => some (True, .bool (decide (a ≤ b)))
        | .gtr => some (True, .bool (decide (a > b)))
        | .geq => some (True, .bool (decide (a ≥ b)))
        | _ => none
      | false => none
  | _, _ => none
def apick (t : Bool) : AV → AV → AV
  | .c (.d (.bool x)), .c (.d (.bool y)) => .c (.d (.bool (match t with | true => x | false => y)))
  | x, y => match t with | true => x | false => y
def placesOf (P : Program) (t : TypeId) : Option (List (Nat × Nat)) := match P.underlying t with
  | some (.struct fs) => fs.toList.mapM (fun f => (P.info? f.type).map fun i => (f.offset, i.size))
  | some (.array n e) => match P.info? e with
    | some i => some ((List.range n).map fun j => (j * i.size, i.size))
    | none => none
  | _ => none
def arrOf (P : Program) (t : TypeId) : Option (Nat × TypeId) := match P.underlying t with
  | some (.array n e) => some (n, e)
  | _ => none
def fillG (pl : List (Nat × Nat)) : List CV → List (Nat × AV) → Option (List CV)
  | cs, [] => some cs
  | cs, (f, v) :: r => match pl[f]? with
    | some (off, size) => match cells1 v with
      | some us => match okAll us && Nat.beq us.length size && Nat.ble (off + us.length) cs.length with
        | true => fillG pl (setB cs off us) r
        | false => none
      | none => none
    | none => none
def aevP : List (Nat × Operand) → (List (Nat × AV) → AM α) → AM α
  | [], k => k []
  | (i, x) :: r, k => aev x fun v => aevP r fun vs => k ((i, v) :: vs)
/-- Parts of a row's literal. -/
def rowLit (k : Nat) : List (List DV) → List (Nat × AV) → (List (List DV) → AM α) → AM α
  | es, [], kont => kont es
  | es, (i, v) :: r, kont => match cells1 v with
    | some us => match okAll us && Nat.beq us.length k && Nat.blt i es.length with
      | true => deepL us fun ds => rowLit k (es.set i ds) r kont
      | false => .fail
    | none => .fail
/-- A slice's elements. -/
def rowOf (v : AV) (k : List (List DV) → AM α) : AM α := match v with
  | .c (.d (.row es)) => k es
  | .c .nils => k []
  | .c (.own o) => .obj o fun x => match x with
    | .row es _ _ _ => k es
    | .box _ _ => .fail
  | _ => .fail
/-- Of what append and copy are: the elements' type and size. -/
def appT (P : Program) (ts : Array TypeId) (k : TypeId → Nat → AM α) : AM α := match ts.toList with
  | [t, t'] => match Nat.beq t t' with
    | true => match elemOf P t with
      | some e => match elemK P e with
        | some ds => k e ds.length
        | none => .fail
      | none => .fail
    | false => .fail
  | _ => .fail
def capsOf : List AV → Option (List Nat)
  | [] => some []
  | .c (.ptr o 0 0 _) :: r => match capsOf r with
    | some l => some (o :: l)
    | none => none
  | _ :: _ => none
/-- A slice without elements, by its type: it is owned. -/
def nilRow (P : Program) (o : Oper) (x : Operand) : Option (TypeId × Nat) := match x with
  | .const (.slice none 0 0) => match elemOf P o.type with
    | some e => match elemK P e with
      | some ds => some (e, ds.length)
      | none => none
    | none => none
  | _ => none
def nameOK (fs : List Field) : Bool := fs.all fun f => f.name != "_"
def flatOK (P : Program) : Nat → TypeId → Bool
  | 0, _ => false
  | d + 1, t => match P.underlying t with
    | some (.struct fs) => !(P.stoodInHeld t) && nameOK fs.toList && fs.toList.all fun f => flatOK P d f.type
    | _ => true
def eqOK (P : Program) (t : TypeId) : Bool := flatOK P 8 t && !(P.eqGuardType P.depth t)
def aeqL (P : Program) (f : TypeId → List CV → List CV → Option Bool) : List Field → List CV → List CV → Option Bool
  | [], _, _ => some true
  | fd :: r, xs, ys => match f fd.type ((xs.drop fd.offset).take (szOf P fd.type)) ((ys.drop fd.offset).take (szOf P fd.type)) with
    | some a => match aeqL P f r xs ys with
      | some b => some (a && b)
      | none => none
    | none => none
def aeq (P : Program) : Nat → TypeId → List CV → List CV → Option Bool
  | 0, _, _, _ => none
  | d + 1, t, xs, ys => match P.underlying t with
    | some .bool => match xs, ys with
      | [.d (.bool a)], [.d (.bool b)] => some (a == b)
      | _, _ => none
    | some (.int _) => match xs, ys with
      | [.d (.int k a)], [.d (.int k' b)] => match Nat.beq (ikN k) (ikN k') with
        | true => some (a == b)
        | false => none
      | _, _ => none
    | some (.struct fs) => aeqL P (aeq P d) fs.toList xs ys
    | _ => none
def eqOf (op : BinOp) (b : Bool) : Option DV := match op with
  | .eql => some (.bool b)
  | .neq => some (.bool (!b))
  | _ => none
def abin2 (P : Program) (op : BinOp) (xt : TypeId) : AV → AV → Option (Prop × DV)
  | .c (.d (.bool a)), .c (.d (.bool b)) => match P.underlying xt with
    | some .bool => match eqOf op (a == b) with
      | some d => some (True, d)
      | none => none
    | _ => none
  | .c (.d (.str a)), .c (.d (.str b)) => match eqOf op (a.toList == b.toList) with
    | some d => some (True, d)
    | none => none
  | .agg xs, .agg ys => match P.underlying xt with
    | some (.struct _) => match aeq P 8 xt xs ys with
      | some b => match eqOf op b with
        | some d => some (eqOK P xt = true, d)
        | none => none
      | none => none
    | _ => none
  | _, _ => none
def byteOf (e : List DV) : UInt8 := UInt8.ofNat ((e.getD 0 dz).toI.toNat)
def bytesS (es : List (List DV)) : ByteArray := ⟨(es.map byteOf).toArray⟩
def isByte (e : List DV) : Prop := e = [.int .u8 ((byteOf e).toNat : Int)]
def optInt (x : Option Operand) (d : Int) (k : Int → AM α) : AM α := match x with
  | none => k d
  | some y => aev y fun v => match v with
    | .c (.d (.int _ n)) => k n
    | _ => .fail
end
abbrev Spec := FuncId → (Nat → Nat) → List AV → AM AV
/-- No elements, and room for some: both are told. -/
def mk0 : Operand → Operand → Option Nat
  | .const (.int .i64 (.ofNat 0)), .const (.int .i64 (.ofNat (m + 1))) => some (m + 1)
  | _, _ => none
def aop (P : Program) (sp : Spec) (id : Nat → Nat) (o : Oper) : AM AV := match o.op with
  | .move x => aev x .ret
  | .assign x => match nilRow P o x with
    | some (e, k) => .new (id 0) (.row [] k e false) (.ret (.c (.own (id 0))))
    | none => aev x .ret
  | .pick c x y => aev c fun vc => aev x fun vx => aev y fun vy => match vc with
    | .c (.d (.bool t)) => .ret (apick t vx vy)
    | _ => .fail
  | .alloc t => match zerosOf P t with
    | some cs => .new (id 0) (.box cs t) (.ret (.c (.ptr (id 0) 0 0 cs.length)))
    | none => .fail
  | .box t x => aev x fun v => match cells1 v with
    | some cs => match okAll cs with
      | true => .new (id 0) (.box cs t) (.ret (.c (.ptr (id 0) 0 0 cs.length)))
      | false => .fail
    | none => .fail
  | .load t p => aev p fun v => loadP P t v
  | .store t p x => aev p fun vp => aev x fun vx => storeP P t vp vx
  | .nilCheck x => aev x fun v => match v with
    | .c (.ptr _ _ _ _) => .ret v
    | .c (.dp _ _ _ _) => .ret v
    | .c (.clo _ _) => .ret v
    | _ => .fail
  | .fieldAddr s x f => aev x fun v => match fieldOf P s f with
    | some (fo, _) => match v with
      | .c (.ptr o i off k) => .ret (.c (.ptr o i (off + fo) k))
      | .c (.dp es i off k) => .ret (.c (.dp es i (off + fo) k))
      | _ => .fail
    | none => .fail
  | .field s x f => aev x fun v => match fieldOf P s f, v with
    | some (fo, ft), .agg cs => match isAggT P ft with
      | some true => match Nat.beq ((cs.drop fo).take (szOf P ft)).length (szOf P ft) with
        | true => .ret (.agg ((cs.drop fo).take (szOf P ft)))
        | false => .fail
      | some false => match cs[fo]? with
        | some c => .ret (.c c)
        | none => .fail
      | none => .fail
    | _, _ => .fail
  | .indexAddr t x ix => aev x fun v => aev ix fun vi => match arrOf P t with
   | some (len, e) => match vi, v with
    | .c (.d (.int _ n)), .c (.ptr o i off k) => match Nat.ble 1 (szOf P e) with
      | true => .need (0 ≤ n ∧ n < len) (.ret (.c (.ptr o i (off + n.toNat * szOf P e) k)))
      | false => .fail
    | _, _ => .fail
   | none => match elemOf P t, vi with
    | some e, .c (.d (.int _ n)) => match v with
      | .c (.own q) => .obj q fun y => match y with
        | .row es k _ _ => match Nat.beq k (szOf P e) && Nat.ble 1 k with
          | true => .need (0 ≤ n ∧ n < es.length) (.ret (.c (.ptr q n.toNat 0 (szOf P e))))
          | false => .fail
        | .box _ _ => .fail
      | .c (.d (.row es)) => match Nat.ble 1 (szOf P e) with
        | true => .need (0 ≤ n ∧ n < es.length ∧ (es.getD n.toNat []).length = szOf P e) (.ret (.c (.dp es n.toNat 0 (szOf P e))))
        | false => .fail
      | _ => .fail
    | _, _ => .fail
  | .extract t i => aev t fun v => match v with
    | .tup vs => match vs[i]? with
      | some u => .ret u
      | none => .fail
    | _ => .fail
  | .binOp op xt x y _ => aev x fun vx => aev y fun vy => match abin op vx vy with
    | some (p, d) => .need p (.ret (.c (.d d)))
    | none => match abin2 P op xt vx vy with
      | some (p, d) => .need p (.ret (.c (.d d)))
      | none => .fail
  | .unOp op _ x => aev x fun v => match op, v with
    | .not, .c (.d (.bool b)) => .ret (.c (.d (.bool (!b))))
    | .neg, .c (.d (.int k n)) => .ret (.c (.d (.int k (k.wrap (0 - n)))))
    | _, _ => .fail
  | .convert s t x => aev x fun v => match P.underlying s, P.underlying t, v with
    | some (.int _), some (.int k), .c (.d (.int _ n)) => .ret (.c (.d (.int k (k.wrap n))))
    | some (.slice e), some .string, v => match P.underlying e with
      | some (.int .u8) => rowOf v fun es => .need (∀ e ∈ es, isByte e) (.ret (.c (.d (.str (bytesS es)))))
      | _ => .fail
    | _, _, _ => .fail
  | .slice t x lo hi none => aev x fun v => match elemOf P t, v with
    | some e, .c c => match Nat.ble 1 (szOf P e) with
      | true => deepK c fun d => match d with
        | .row es => optInt hi es.length fun h => optInt lo 0 fun l => .need (0 ≤ l ∧ l ≤ h ∧ h ≤ es.length ∧ ∀ u ∈ es, u.length = szOf P e) (.ret (.c (.d (.row ((es.drop l.toNat).take (h.toNat - l.toNat))))))
        | _ => .fail
      | false => .fail
    | _, _ => .fail
  | .build t parts => aevP parts.toList fun vs => match placesOf P t, zerosOf P t with
    | some pl, some zs => match fillG pl zs vs with
      | some cs => .ret (.agg cs)
      | none => .fail
    | _, _ => .fail
  | .buildSlice t n parts => aevP parts.toList fun vs => match elemOf P t with
    | some e => match elemK P e with
      | some ds => match Nat.ble (n * ds.length) 1000000 with
        | true => rowLit ds.length (List.replicate n ds) vs fun es => .new (id 0) (.row es ds.length e false) (.ret (.c (.own (id 0))))
        | false => .fail
      | none => .fail
    | none => .fail
  | .makeSlice t l c => match mk0 l c with
    | some m => match elemOf P t with
      | some e => match elemK P e with
        | some ds => .need (m ≤ 1000000000) (.new (id 0) (.row [] ds.length e false) (.ret (.c (.own (id 0)))))
        | none => .fail
      | none => .fail
    | none => aev l fun vl => aev c fun vc => match elemOf P t, vl, vc with
      | some e, .c (.d (.int .i64 n)), .c (.d (.int .i64 m)) => match elemK P e with
        | some ds => .need (0 ≤ n ∧ m = n ∧ n ≤ 1000000000) (.new (id 0) (.row (List.replicate n.toNat ds) ds.length e false) (.ret (.c (.own (id 0)))))
        | none => .fail
      | _, _, _ => .fail
  | .makeFunc (.func f) first caps => match first.toList with
    | [] => aevL caps.toList fun vs => match capsOf vs with
      | some os => .ret (.c (.clo f os))
      | none => .fail
    | _ :: _ => .fail
  | .call c => match c.callee with
    | .value f => aev f fun vf => aevL c.args.toList fun vs => match vf with
      | .c (.clo K caps) => sp K id (vs ++ caps.map fun q => .c (.ptr q 0 0 0))
      | _ => .fail
    | .builtin b => aevL c.args.toList fun vs => match b, vs with
      | .len, [v] => match c.argTypes.toList with
        | [t] => match P.underlying t, v with
          | some .string, .c (.d (.str s)) => .ret (.c (.d (.int .i64 s.size)))
          | some (.slice _), v => rowOf v fun es => .ret (.c (.d (.int .i64 es.length)))
          | _, _ => .fail
        | _ => .fail
      | .append, [.c .nils, y] => appT P c.argTypes fun e k => rowOf y fun ys => .need (ys.length ≤ 1000000000 ∧ ∀ u ∈ ys, u.length = k) (.new (id 0) (.row ys k e false) (.ret (.c (.own (id 0)))))
      | .append, [.c (.own q), y] => appT P c.argTypes fun e k => rowOf y fun ys => .obj q fun x => match x with
        | .row es k' e' false => match Nat.beq k k' && Nat.beq e e' with
          | true => .need (es.length + ys.length ≤ 1000000000 ∧ ∀ u ∈ ys, u.length = k) (.kill q (.new (id 0) (.row (es ++ ys) k' e' false) (.ret (.c (.own (id 0))))))
          | false => .fail
        | _ => .fail
      | .copy, [.c (.own q), y] => appT P c.argTypes fun e k => rowOf y fun ys => .obj q fun x => match x with
        | .row es k' e' false => match Nat.beq k k' && Nat.beq e e' with
          | true => .need (∀ u ∈ ys, u.length = k) (.put q (.row (ys.take es.length ++ es.drop ys.length) k' e' false) (.ret (.c (.d (.int .i64 ((min ys.length es.length : Nat) : Int))))))
          | false => .fail
        | _ => .fail
      | .max, [.c (.d (.int k a)), .c (.d (.int k' b))] => match Nat.beq (ikN k) (ikN k') with
        | true => .ret (.c (.d (.int k (if b > a then b else a))))
        | false => .fail
      | _, _ => .fail
    | .invoke _ _ => .fail
  | _ => .fail
end Go.Proofs.YtpgeopefamomnaeGreat

namespace Go.Proofs.YtpgeopefamomnaeGreat
open Go.RowKit
set_option linter.unusedVariables false
theorem cvOf_rep {w : World} {Wr : Nat → Prop} {μ : Mu} {v : Value} {c : CV} (h : cvOf v = some c) : RepK w Wr μ c v := by
  unfold cvOf at h
  split at h <;> first | (cases h; done) | (simp at h; subst h; exact ⟨rfl, by first | exact .int _ _ | exact .bool _ | exact .str _ | rfl⟩)
theorem cvsOf_rep {w : World} {Wr : Nat → Prop} {μ : Mu} : ∀ {vs : List Value} {cs : List CV}, cvsOf vs = some cs → All2 (RepK w Wr μ) cs vs
  | [], cs, h => by simp [cvsOf] at h; subst h; exact All2.nil
  | v :: r, cs, h => by
    simp only [cvsOf] at h
    split at h
    · rename_i c l h1 h2
      simp at h
      subst h
      exact All2.cons (cvOf_rep h1) (cvsOf_rep h2)
    · cases h
theorem avOf_rep {w : World} {Wr : Nat → Prop} {μ : Mu} {v : Value} {c : AV} (h : avOf v = some c) : RepA w Wr μ c v := by
  unfold avOf at h
  split at h
  · rename_i cs
    split at h
    · rename_i l hl
      simp at h
      subst h
      exact ⟨cs.toList, by simp, cvsOf_rep hl⟩
    · cases h
  · split at h
    · rename_i c' hc
      simp at h
      subst h
      exact (cvOf_rep hc).2
    · cases h
/-- Slots and what is owned, in memory. -/
structure Good (w0 : World) (G W0 : Nat → Prop) (env : Nat → AV) (h : AH) (μ : Mu) (a : Act) (w : World) : Prop where
  rel : RelH w0 G W0 h μ w
  slots : ∀ t, RepA w (WrOf h μ W0) μ (env t) (a.tmps.getD t undef)
section
variable {α : Type} {w0 w : World} {G W0 : Nat → Prop} {env : Nat → AV} {h : AH} {μ : Mu} {a : Act} (g : Good w0 G W0 env h μ a w)
include g
theorem aev_run {x : Operand} {k : AV → AM α} {r : α × Prop × AH} (hr : (aev x k).run env h = some r) : ∃ va, (k va).run env h = some r ∧ RepA w (WrOf h μ W0) μ va (a.eval x) := by
  cases x with
  | tmp t => exact ⟨env t, hr, g.slots t⟩
  | const v =>
    simp only [aev] at hr
    split at hr
    · rename_i b hb
      exact ⟨b, hr, avOf_rep hb⟩
    · simp [AM.run] at hr
  | func f => exact ⟨_, hr, [], rfl, All2.nil⟩
  | global _ => simp [aev, AM.run] at hr
theorem aevL_run : ∀ {xs : List Operand} {k : List AV → AM α} {r : α × Prop × AH}, (aevL xs k).run env h = some r → ∃ vs, (k vs).run env h = some r ∧ All2 (RepA w (WrOf h μ W0) μ) vs (xs.map a.eval)
  | [], k, r, hr => ⟨[], hr, All2.nil⟩
  | x :: xs, k, r, hr => by
    obtain ⟨v, h1, h2⟩ := aev_run g hr
    obtain ⟨vs, h3, h4⟩ := aevL_run h1
    exact ⟨v :: vs, h3, All2.cons h2 h4⟩
theorem aevP_run : ∀ {xs : List (Nat × Operand)} {k : List (Nat × AV) → AM α} {r : α × Prop × AH}, (aevP xs k).run env h = some r → ∃ vs, (k vs).run env h = some r ∧ All2 (fun x y => x.1 = y.1 ∧ RepA w (WrOf h μ W0) μ x.2 y.2) vs (xs.map fun (i, x) => (i, a.eval x))
  | [], k, r, hr => ⟨[], hr, All2.nil⟩
  | (i, x) :: xs, k, r, hr => by
    obtain ⟨v, h1, h2⟩ := aev_run g hr
    obtain ⟨vs, h3, h4⟩ := aevP_run h1
    exact ⟨(i, v) :: vs, h3, All2.cons ⟨rfl, h2⟩ h4⟩
end
theorem flatG_get {α : Type} {k : Nat} : ∀ (css : List (List α)) (i j : Nat), (∀ c ∈ css, c.length = k) → j < k → css.flatten[i * k + j]? = (css[i]?).bind (·[j]?)
  | [], i, j, _, _ => by simp
  | c :: css, 0, j, h, hj => by
    have hc := h c (by simp)
    rw [Nat.zero_mul, Nat.zero_add, List.flatten_cons, List.getElem?_append_left (by omega)]
    simp
  | c :: css, i + 1, j, h, hj => by
    have hc := h c (by simp)
    rw [List.flatten_cons, List.getElem?_append_right (by rw [hc, Nat.add_mul]; omega)]
    have e : (i + 1) * k + j - c.length = i * k + j := by rw [hc, Nat.add_mul]; omega
    rw [e, flatG_get css i j (fun c hc => h c (by simp [hc])) hj]
    simp
theorem flatG_len {α : Type} {k : Nat} : ∀ (css : List (List α)), (∀ c ∈ css, c.length = k) → css.flatten.length = css.length * k
  | [], _ => by simp
  | c :: css, h => by
    rw [List.flatten_cons, List.length_append, flatG_len css (fun c hc => h c (by simp [hc])), h c (by simp), List.length_cons, Nat.add_mul]
    omega
theorem choose_list {R : Nat → Value → Prop} : ∀ (n : Nat), (∀ j, j < n → ∃ v, R j v) → ∃ vs : List Value, vs.length = n ∧ ∀ (j : Nat) v, vs[j]? = some v → R j v
  | 0, _ => ⟨[], rfl, fun j v h => by simp at h⟩
  | n + 1, h => by
    obtain ⟨vs, h1, h2⟩ := choose_list n (fun j hj => h j (by omega))
    obtain ⟨v, hv⟩ := h n (by omega)
    refine ⟨vs ++ [v], by simp [h1], fun j u hu => ?_⟩
    by_cases hj : j < vs.length
    · rw [List.getElem?_append_left hj] at hu
      exact h2 j u hu
    · rw [List.getElem?_append_right (by omega)] at hu
      have hj' : j - vs.length = 0 := by
        have := (List.getElem?_eq_some_iff.1 hu).1
        simp at this
        omega
      rw [hj'] at hu
      simp at hu
      subst hu
      rw [show j = n by omega]
      exact hv
theorem isAggT_true {P : Program} {t : TypeId} (h : isAggT P t = some true) : ∃ d, P.underlying t = some d ∧ d.isRow = true := by
  unfold isAggT at h
  split at h <;> first | (cases h; done) | skip
  · rename_i fs e; exact ⟨_, e, rfl⟩
  · rename_i x y e; exact ⟨_, e, rfl⟩
theorem isAggT_false {P : Program} {t : TypeId} (h : isAggT P t = some false) (w : World) : (isAgg t).run P w = .ok false w := by
  unfold isAggT at h
  split at h <;> first | (cases h; done) | skip
  rename_i d h1 h2 e
  unfold isAgg
  rw [Sem.run_bind, run_underlying e w]
  cases d <;> simp_all
theorem run_load1 {P : Program} {w : World} {t : TypeId} {ad : Addr} {v : Value} (ht : isAggT P t = some false) (hc : w.cell? ad = some v) : (Instr.loadAt t (.pointer (some ad))).run P w = .ok v w := by
  simp [Instr.loadAt, Instr.sureAddr, loadVar, Sem.run_bind, isAggT_false ht, hc]
theorem zerosOf_size {P : Program} {t : TypeId} {zs : List CV} (h : zerosOf P t = some zs) : (P.info? t).map (·.size) = some zs.length ∧ szOf P t = zs.length := by
  unfold zerosOf at h
  unfold szOf
  split at h
  · rename_i i hi
    split at h
    · rename_i z hz
      split at h
      · rename_i hb
        have hlen := Nat.eq_of_beq_eq_true hb
        have := (cvsOf_rep (w := default) (Wr := fun _ => False) (μ := fun _ => none) h).1
        simp only [hi]
        constructor
        · simp; omega
        · omega
      · cases h
    · cases h
  · cases h
/-- The cells of a row in memory. -/
theorem RepD.cells {w : World} {Wr : Nat → Prop} {es : List (List DV)} {b o0 n c k : Nat} (h : RepD w Wr (.row es) (.slice (some ⟨b, o0, none⟩) n c)) (hk : ∀ e ∈ es, e.length = k) {i j : Nat} (hi : i < es.length) (hj : j < k) :
    ∃ v, w.cell? ⟨b, o0 + i * k + j, none⟩ = some v ∧ RepD w Wr ((es.getD i []).getD j dz) v := by
  cases h with
  | row _ _ _ _ k' vs h1 h2 h3 h4 h5 h6 h7 =>
    have hx : (es[i]?).bind (·[j]?) = some ((es.getD i []).getD j dz) := by
      have e1 : es[i]? = some es[i] := List.getElem?_eq_getElem hi
      have hl : j < es[i].length := by rw [hk _ (List.getElem_mem hi)]; exact hj
      simp [e1, List.getD, hl]
    have hf := flatG_get es i j hk hj
    rw [hx] at hf
    have hlt : i * k + j < vs.length := by rw [h5]; exact (List.getElem?_eq_some_iff.1 hf).1
    have hv : vs[i * k + j]? = some vs[i * k + j] := List.getElem?_eq_getElem hlt
    obtain ⟨b', off, e, _, hc⟩ := h6 (by intro e; rw [e] at hlt; simp at hlt)
    cases e
    exact ⟨_, by rw [Nat.add_assoc]; exact hc _ _ hv, h7 _ _ _ hf hv⟩
theorem fits_expand {e : List DV} : ∀ {zs : List CV} {j : Nat}, fits e zs j → ∀ i, i < zs.length → (expand e zs j)[i]? = some (.d (e.getD (j + i) dz))
  | [], _, _, i, hi => by simp at hi
  | z :: r, j, ⟨h1, h2⟩, 0, _ => by simpa [expand] using h1
  | z :: r, j, ⟨h1, h2⟩, i + 1, hi => by
    simp only [expand, List.getElem?_cons_succ]
    rw [fits_expand h2 i (by simpa using hi), show j + 1 + i = j + (i + 1) by omega]
theorem expand_len (e : List DV) : ∀ (zs : List CV) (j : Nat), (expand e zs j).length = zs.length
  | [], _ => rfl
  | z :: r, j => by simp [expand, expand_len e r]
theorem loadE_run {P : Program} {w : World} {Wr : Nat → Prop} {μ : Mu} {env : Nat → AV} {h : AH} {t : TypeId} {es : List (List DV)} {i off b o0 k : Nat} {v : AV} {q : Prop} {h' : AH} (hr : (loadE P t es i off).run env h = some (v, q, h')) (hq : q)
    (hd : ∀ j, i < es.length → j < k → ∃ v, w.cell? ⟨b, o0 + i * k + j, none⟩ = some v ∧ RepD w Wr ((es.getD i []).getD j dz) v) (hk : ∀ e ∈ es, e.length = k) :
    h' = h ∧ ∃ u, (Instr.loadAt t (.pointer (some ⟨b, o0 + i * k + off, none⟩))).run P w = .ok u w ∧ RepA w Wr μ v u := by
  unfold loadE at hr
  split at hr
  · rename_i zs hz
    obtain ⟨hs1, hs2⟩ := zerosOf_size hz
    simp only [AM.run] at hr
    split at hr
    · rename_i v1 q1 h1 hm
      simp only [Option.some.injEq, Prod.mk.injEq] at hr
      obtain ⟨rfl, rfl, rfl⟩ := hr
      obtain ⟨⟨hi, hoff, hfit⟩, hq1⟩ := hq
      have hlen : (es.getD i []).length = k := by
        have e1 : es.getD i [] = es[i] := by simp [List.getD, hi]
        rw [e1]; exact hk _ (List.getElem_mem hi)
      rw [hlen] at hoff
      have hcell : ∀ j, j < zs.length → ∃ u, w.cell? ⟨b, o0 + i * k + off + j, none⟩ = some u ∧ RepD w Wr ((es.getD i []).getD (off + j) dz) u := fun j hj => by
        obtain ⟨u, h1, h2⟩ := hd (off + j) hi (by omega)
        exact ⟨u, by rw [Nat.add_assoc (o0 + i * k)]; exact h1, h2⟩
      split at hm
      · rename_i hagg
        simp only [AM.run, Option.some.injEq, Prod.mk.injEq] at hm
        obtain ⟨rfl, rfl, rfl⟩ := hm
        obtain ⟨us, hul, hus⟩ := choose_list zs.length hcell
        obtain ⟨d, hd1, hd2⟩ := isAggT_true hagg
        refine ⟨rfl, .agg us.toArray, run_loadAt_mid w b _ t us d (fun j u hu => (hus j u hu).1) hd1 hd2 (by rw [hs1, hul]), us, rfl, by rw [expand_len, hul], fun j x y hx hy => ?_⟩
        have hj : j < zs.length := by rw [← hul]; exact (List.getElem?_eq_some_iff.1 hy).1
        rw [fits_expand hfit j hj] at hx
        cases hx
        exact ⟨rfl, (hus j y hy).2⟩
      · rename_i hagg
        split at hm
        · rename_i c hc
          simp only [AM.run, Option.some.injEq, Prod.mk.injEq] at hm
          obtain ⟨rfl, rfl, rfl⟩ := hm
          have hl : zs.length = 1 := by
            have := expand_len (es.getD i []) zs off
            rw [hc] at this
            simpa using this.symm
          obtain ⟨u, hu1, hu2⟩ := hcell 0 (by omega)
          refine ⟨rfl, u, run_load1 hagg (by simpa using hu1), ?_⟩
          have := fits_expand hfit 0 (by omega)
          rw [hc] at this
          simp at this
          subst this
          show RepD w Wr _ u
          simpa using hu2
        · simp [AM.run] at hm
      · simp [AM.run] at hm
    · cases hr
  · simp [AM.run] at hr
end Go.Proofs.YtpgeopefamomnaeGreat

namespace Go.Proofs.YtpgeopefamomnaeGreat
open Go.RowKit
set_option linter.unusedVariables false
theorem ownsRow_same {w w' : World} {base k n : Nat} {e : TypeId} {v : Value} {xs : List Value} (h : w.ownsRow base e k v n xs) (hs : ∀ g, v.ownBlock = some g → w'.heap[g]? = w.heap[g]?) : w'.ownsRow base e k v n xs := by
  refine ⟨h.1, ?_⟩
  rcases h.2 with hn | ⟨g, cap, cur, rfl, hb, hg, r⟩
  · exact .inl hn
  · exact .inr ⟨g, cap, cur, rfl, hb, by rw [hs g rfl]; exact hg, r⟩
theorem blk_own {v : Value} {a : Option Addr} {n c : Nat} (h : v = .slice a n c) : blk v = v.ownBlock := by subst h; cases a <;> rfl
theorem ownsRow_slice {w : World} {base k n : Nat} {e : TypeId} {v : Value} {xs : List Value} (h : w.ownsRow base e k v n xs) : ∃ a c, v = .slice a n c := by
  rcases h.2 with ⟨rfl, rfl⟩ | ⟨g, cap, cur, rfl, _⟩
  · exact ⟨_, _, rfl⟩
  · exact ⟨_, _, rfl⟩
theorem ownsRow_lt {w : World} {base k n : Nat} {e : TypeId} {v : Value} {xs : List Value} (h : w.ownsRow base e k v n xs) {b : Nat} (hb : blk v = some b) : b < w.heap.size := by
  rcases h.2 with ⟨rfl, rfl⟩ | ⟨g, cap, cur, rfl, _, hg, _⟩
  · cases hb
  · simp [blk] at hb
    subst hb
    exact (Array.getElem?_eq_some_iff.1 hg).1
theorem RepO.lt {w : World} {Wr : Nat → Prop} {μ : Mu} {o b : Nat} {x : AO} (h : RepO w Wr μ o x) (ha : At μ o b) : b < w.heap.size := by
  obtain ⟨u, hu, hb⟩ := ha
  cases x with
  | box cs ty =>
    obtain ⟨b', vs, h1, h2, _⟩ := h
    rw [hu] at h1
    cases h1
    simp [blk] at hb
    subst hb
    exact (Array.getElem?_eq_some_iff.1 h2).1
  | row es k ty fz =>
    obtain ⟨v, vs, h1, h2, _⟩ := h
    rw [hu] at h1
    cases h1
    exact ownsRow_lt h2 hb
theorem RepO.mono {w w' : World} {Wr Wr' : Nat → Prop} {μ μ' : Mu} {o : Nat} {x : AO} (hk : Keeps w w' Wr Wr') (hm : MuLe μ μ') (h : RepO w Wr μ o x) (hs : ∀ b, At μ o b → w'.heap[b]? = w.heap[b]?) : RepO w' Wr' μ' o x := by
  cases x with
  | box cs ty =>
    obtain ⟨b, vs, h1, h2, h3⟩ := h
    exact ⟨b, vs, hm _ _ h1, by rw [hs b ⟨_, h1, rfl⟩]; exact h2, h3.mono fun _ _ k => k.mono hk hm⟩
  | row es k ty fz =>
    obtain ⟨v, vs, h1, h2, h3, h4⟩ := h
    obtain ⟨a, c, e⟩ := ownsRow_slice h2
    exact ⟨v, vs, hm _ _ h1, ownsRow_same h2 fun g hg => hs g ⟨v, h1, by rw [blk_own e]; exact hg⟩, h3, h4.mono fun _ _ k => k.mono hk⟩
def WrL (h : AH) (μ : Mu) (b : Nat) : Prop := ∃ o x, h o = .live x ∧ x.fz = false ∧ At μ o b
section
variable {w0 w w' : World} {G W0 : Nat → Prop} {h h' : AH} {μ μ' : Mu} (R : RelH w0 G W0 h μ w)
include R
theorem RelH.step (C : Nat → Prop) (hC : ∀ b, C b → WrL h μ b) (hos : w'.os = w.os) (htp : w'.tape = w.tape) (hout : w'.output = w.output) (hsz : w.heap.size ≤ w'.heap.size)
    (hblk : ∀ b, b < w.heap.size → ¬ C b → w'.heap[b]? = w.heap[b]?) (hμ : MuLe μ μ')
    (hwr : ∀ o x b, h' o = .live x → x.fz = false → At μ' o b → b < w.heap.size → WrL h μ b)
    (hobj : Keeps w w' (WrOf h μ W0) (WrOf h' μ' W0) → ∀ o x, h' o = .live x → (h o = .live x ∧ ∀ b, At μ o b → ¬ C b) ∨ RepO w' (WrOf h' μ' W0) μ' o x)
    (hinj : ∀ o o' x x' b, h' o = .live x → h' o' = .live x' → At μ' o b → At μ' o' b → o = o')
    (hun : ∀ o, h' o = .unused → μ' o = none)
    (hap : ∀ o x b, h' o = .live x → At μ' o b → w0.heap.size ≤ b ∨ ∃ o1 x1, h o1 = .live x1 ∧ At μ o1 b) :
    RelH w0 G W0 h' μ' w' ∧ Keeps w w' (WrOf h μ W0) (WrOf h' μ' W0) := by
  have hK : Keeps w w' (WrOf h μ W0) (WrOf h' μ' W0) := fun b hb hn => by
    refine ⟨?_, hblk b hb fun hc => hn (.inr (hC b hc))⟩
    rintro (h1 | ⟨o, x, h1, h2, h3⟩)
    · exact hn (.inl h1)
    · exact hn (.inr (hwr o x b h1 h2 h3 hb))
  refine ⟨⟨fun o x hx => ?_, hinj, hun, fun o x b hx ha => ?_, R.w0lt, hos.trans R.os, htp.trans R.tape, hout.trans R.output, Nat.le_trans R.size hsz, fun b hb hg => ?_⟩, hK⟩
  · rcases hobj hK o x hx with ⟨h1, h2⟩ | h1
    · exact (R.obj o x h1).mono hK hμ fun b ha => hblk b ((R.obj o x h1).lt ha) (h2 b ha)
    · exact h1
  · rcases hap o x b hx ha with h1 | ⟨o1, x1, h1, h2⟩
    · exact ⟨fun hw => by have := R.w0lt b hw; omega, .inl h1⟩
    · exact R.apart o1 x1 b h1 h2
  · rw [hblk b (Nat.lt_of_lt_of_le hb R.size) fun hc => ?_]
    · exact R.kept b hb hg
    · obtain ⟨o, x, h1, _, h2⟩ := hC b hc
      rcases (R.apart o x b h1 h2).2 with h3 | h3
      · omega
      · exact hg h3
theorem mu_upd {o : Nat} {v : Value} (ho : h o = .unused) : MuLe μ (upd μ o (some v)) := fun o' u hu => by
  by_cases e : o' = o
  · subst e; rw [R.unused o' ho] at hu; cases hu
  · rw [upd_ne _ _ e]; exact hu
/-- What is new lies in a new block, or in none; nothing old has turned. -/
theorem RelH.fresh {o : Nat} {x : AO} {v : Value} (ho : h o = .unused) (hos : w'.os = w.os) (htp : w'.tape = w.tape) (hout : w'.output = w.output) (hsz : w.heap.size ≤ w'.heap.size)
    (hblk : ∀ b, b < w.heap.size → w'.heap[b]? = w.heap[b]?) (hv : ∀ b, blk v = some b → b = w.heap.size)
    (hx : Keeps w w' (WrOf h μ W0) (WrOf (upd h o (.live x)) (upd μ o (some v)) W0) → RepO w' (WrOf (upd h o (.live x)) (upd μ o (some v)) W0) (upd μ o (some v)) o x) :
    RelH w0 G W0 (upd h o (.live x)) (upd μ o (some v)) w' ∧ Keeps w w' (WrOf h μ W0) (WrOf (upd h o (.live x)) (upd μ o (some v)) W0) := by
  have atn : ∀ b, At (upd μ o (some v)) o b → b = w.heap.size := fun b ⟨u, h1, h2⟩ => by
    rw [upd_self] at h1; cases h1; exact hv b h2
  have ato : ∀ o' b, o' ≠ o → At (upd μ o (some v)) o' b → At μ o' b := fun o' b e ⟨u, h1, h2⟩ => by
    rw [upd_ne _ _ e] at h1; exact ⟨u, h1, h2⟩
  refine R.step (fun _ => False) (fun _ h => h.elim) hos htp hout hsz (fun b hb _ => hblk b hb) (mu_upd R ho) ?_ ?_ ?_ ?_ ?_
  · intro o' x' b h1 h2 h3 h4
    by_cases e : o' = o
    · subst e; have := atn b h3; omega
    · rw [upd_ne _ _ e] at h1; exact ⟨o', x', h1, h2, ato o' b e h3⟩
  · intro hK o' x' h1
    by_cases e : o' = o
    · subst e; rw [upd_self] at h1; cases h1; exact .inr (hx hK)
    · rw [upd_ne _ _ e] at h1; exact .inl ⟨h1, fun _ _ h => h⟩
  · intro o1 o2 x1 x2 b h1 h2 h3 h4
    by_cases e1 : o1 = o
    · by_cases e2 : o2 = o
      · rw [e1, e2]
      · subst e1
        rw [upd_ne _ _ e2] at h2
        have := (R.obj o2 x2 h2).lt (ato o2 b e2 h4)
        have := atn b h3
        omega
    · by_cases e2 : o2 = o
      · subst e2
        rw [upd_ne _ _ e1] at h1
        have := (R.obj o1 x1 h1).lt (ato o1 b e1 h3)
        have := atn b h4
        omega
      · rw [upd_ne _ _ e1] at h1
        rw [upd_ne _ _ e2] at h2
        exact R.inj o1 o2 x1 x2 b h1 h2 (ato o1 b e1 h3) (ato o2 b e2 h4)
  · intro o' h1
    by_cases e : o' = o
    · subst e; rw [upd_self] at h1; cases h1
    · rw [upd_ne _ _ e] at h1 ⊢; exact R.unused o' h1
  · intro o' x' b h1 h2
    by_cases e : o' = o
    · subst e; have := atn b h2; have := R.size; exact .inl (by omega)
    · rw [upd_ne _ _ e] at h1; exact .inr ⟨o', x', h1, ato o' b e h2⟩
/-- One of what is owned is written. -/
theorem RelH.write {o : Nat} {x x' : AO} (ho : h o = .live x) (hfz : x.fz = false) (hos : w'.os = w.os) (htp : w'.tape = w.tape) (hout : w'.output = w.output) (hsz : w.heap.size ≤ w'.heap.size)
    (hblk : ∀ b, b < w.heap.size → ¬ At μ o b → w'.heap[b]? = w.heap[b]?)
    (hx : Keeps w w' (WrOf h μ W0) (WrOf (upd h o (.live x')) μ W0) → RepO w' (WrOf (upd h o (.live x')) μ W0) μ o x') :
    RelH w0 G W0 (upd h o (.live x')) μ w' ∧ Keeps w w' (WrOf h μ W0) (WrOf (upd h o (.live x')) μ W0) := by
  refine R.step (At μ o) (fun b hb => ⟨o, x, ho, hfz, hb⟩) hos htp hout hsz hblk (MuLe.refl μ) ?_ ?_ ?_ ?_ ?_
  · intro o' y b h1 h2 h3 h4
    by_cases e : o' = o
    · subst e; exact ⟨o', x, ho, hfz, h3⟩
    · rw [upd_ne _ _ e] at h1; exact ⟨o', y, h1, h2, h3⟩
  · intro hK o' y h1
    by_cases e : o' = o
    · subst e; rw [upd_self] at h1; cases h1; exact .inr (hx hK)
    · rw [upd_ne _ _ e] at h1
      exact .inl ⟨h1, fun b ha hb => e (R.inj o' o y x b h1 ho ha hb)⟩
  · intro o1 o2 x1 x2 b h1 h2 h3 h4
    have key : ∀ o1 x1, upd h o (.live x') o1 = .live x1 → ∃ y, h o1 = .live y := fun o1 x1 h1 => by
      by_cases e : o1 = o
      · subst e; exact ⟨x, ho⟩
      · rw [upd_ne _ _ e] at h1; exact ⟨_, h1⟩
    obtain ⟨y1, k1⟩ := key o1 x1 h1
    obtain ⟨y2, k2⟩ := key o2 x2 h2
    exact R.inj o1 o2 y1 y2 b k1 k2 h3 h4
  · intro o' h1
    by_cases e : o' = o
    · subst e; rw [upd_self] at h1; cases h1
    · rw [upd_ne _ _ e] at h1; exact R.unused o' h1
  · intro o' y b h1 h2
    by_cases e : o' = o
    · subst e; exact .inr ⟨o', x, ho, h2⟩
    · rw [upd_ne _ _ e] at h1; exact .inr ⟨o', y, h1, h2⟩
/-- A row is written no more. -/
theorem RelH.freeze {o : Nat} {es : List (List DV)} {k : Nat} {ty : TypeId} {f : Bool} (ho : h o = .live (.row es k ty f)) :
    RelH w0 G W0 (upd h o (.live (.row es k ty true))) μ w ∧ Keeps w w (WrOf h μ W0) (WrOf (upd h o (.live (.row es k ty true))) μ W0) := by
  refine R.step (fun _ => False) (fun _ h => h.elim) rfl rfl rfl (Nat.le_refl _) (fun _ _ _ => rfl) (MuLe.refl μ) ?_ ?_ ?_ ?_ ?_
  · intro o' y b h1 h2 h3 h4
    by_cases e : o' = o
    · subst e; rw [upd_self] at h1; cases h1; cases h2
    · rw [upd_ne _ _ e] at h1; exact ⟨o', y, h1, h2, h3⟩
  · intro hK o' y h1
    by_cases e : o' = o
    · subst e
      rw [upd_self] at h1
      cases h1
      obtain ⟨v, vs, k1, k2, k3, k4⟩ := R.obj o' _ ho
      exact .inr ⟨v, vs, k1, k2, k3, k4.mono fun _ _ h => h.mono hK⟩
    · rw [upd_ne _ _ e] at h1; exact .inl ⟨h1, fun _ _ h => h⟩
  · intro o1 o2 x1 x2 b h1 h2 h3 h4
    have key : ∀ o1 x1, upd h o (.live (.row es k ty true)) o1 = .live x1 → ∃ y, h o1 = .live y := fun o1 x1 h1 => by
      by_cases e : o1 = o
      · subst e; exact ⟨_, ho⟩
      · rw [upd_ne _ _ e] at h1; exact ⟨_, h1⟩
    obtain ⟨y1, k1⟩ := key o1 x1 h1
    obtain ⟨y2, k2⟩ := key o2 x2 h2
    exact R.inj o1 o2 y1 y2 b k1 k2 h3 h4
  · intro o' h1
    by_cases e : o' = o
    · subst e; rw [upd_self] at h1; cases h1
    · rw [upd_ne _ _ e] at h1; exact R.unused o' h1
  · intro o' y b h1 h2
    by_cases e : o' = o
    · subst e; exact .inr ⟨o', _, ho, h2⟩
    · rw [upd_ne _ _ e] at h1; exact .inr ⟨o', y, h1, h2⟩
/-- A row goes over into another one: in its own block, in a new one, or in none. -/
theorem RelH.pass {q o : Nat} {es es' : List (List DV)} {k : Nat} {ty : TypeId} {v v' : Value} (hq : h q = .live (.row es k ty false)) (ho : h o = .unused) (hv : μ q = some v) (hos : w'.os = w.os) (htp : w'.tape = w.tape) (hout : w'.output = w.output) (hsz : w.heap.size ≤ w'.heap.size)
    (hblk : ∀ b, b < w.heap.size → ¬ At μ q b → w'.heap[b]? = w.heap[b]?) (hv' : ∀ b, blk v' = some b → b = w.heap.size ∨ At μ q b)
    (hx : Keeps w w' (WrOf h μ W0) (WrOf (upd (upd h q .dead) o (.live (.row es' k ty false))) (upd μ o (some v')) W0) → RepO w' (WrOf (upd (upd h q .dead) o (.live (.row es' k ty false))) (upd μ o (some v')) W0) (upd μ o (some v')) o (.row es' k ty false)) :
    RelH w0 G W0 (upd (upd h q .dead) o (.live (.row es' k ty false))) (upd μ o (some v')) w' ∧ Keeps w w' (WrOf h μ W0) (WrOf (upd (upd h q .dead) o (.live (.row es' k ty false))) (upd μ o (some v')) W0) := by
  have hqo : q ≠ o := fun e => by subst e; rw [hq] at ho; cases ho
  have atn : ∀ b, At (upd μ o (some v')) o b → b = w.heap.size ∨ At μ q b := fun b ⟨u, h1, h2⟩ => by
    rw [upd_self] at h1; cases h1; exact hv' b h2
  have ato : ∀ o' b, o' ≠ o → At (upd μ o (some v')) o' b → At μ o' b := fun o' b e ⟨u, h1, h2⟩ => by
    rw [upd_ne _ _ e] at h1; exact ⟨u, h1, h2⟩
  have old : ∀ o' x', o' ≠ o → upd (upd h q .dead) o (.live (.row es' k ty false)) o' = .live x' → h o' = .live x' ∧ o' ≠ q := fun o' x' e h1 => by
    rw [upd_ne _ _ e] at h1
    by_cases e2 : o' = q
    · subst e2; rw [upd_self] at h1; cases h1
    · rw [upd_ne _ _ e2] at h1; exact ⟨h1, e2⟩
  refine R.step (At μ q) (fun b hb => ⟨q, _, hq, rfl, hb⟩) hos htp hout hsz hblk (mu_upd R ho) ?_ ?_ ?_ ?_ ?_
  · intro o' x' b h1 h2 h3 h4
    by_cases e : o' = o
    · subst e
      rcases atn b h3 with h5 | h5
      · omega
      · exact ⟨q, _, hq, rfl, h5⟩
    · exact ⟨o', x', (old o' x' e h1).1, h2, ato o' b e h3⟩
  · intro hK o' x' h1
    by_cases e : o' = o
    · subst e; rw [upd_self] at h1; cases h1; exact .inr (hx hK)
    · have := old o' x' e h1
      exact .inl ⟨this.1, fun b ha hb => this.2 (R.inj o' q x' _ b this.1 hq ha hb)⟩
  · intro o1 o2 x1 x2 b h1 h2 h3 h4
    have mix : ∀ o2 x2, o2 ≠ o → upd (upd h q .dead) o (.live (.row es' k ty false)) o2 = .live x2 → At (upd μ o (some v')) o2 b → At (upd μ o (some v')) o b → False := fun o2 x2 e2 h2 h4 h3 => by
      have k2 := old o2 x2 e2 h2
      have k4 := ato o2 b e2 h4
      rcases atn b h3 with h5 | h5
      · have := (R.obj o2 x2 k2.1).lt k4
        omega
      · exact k2.2 (R.inj o2 q x2 _ b k2.1 hq k4 h5)
    by_cases e1 : o1 = o
    · by_cases e2 : o2 = o
      · rw [e1, e2]
      · subst e1; exact (mix o2 x2 e2 h2 h4 h3).elim
    · by_cases e2 : o2 = o
      · subst e2; exact (mix o1 x1 e1 h1 h3 h4).elim
      · exact R.inj o1 o2 x1 x2 b (old o1 x1 e1 h1).1 (old o2 x2 e2 h2).1 (ato o1 b e1 h3) (ato o2 b e2 h4)
  · intro o' h1
    by_cases e : o' = o
    · subst e; rw [upd_self] at h1; cases h1
    · rw [upd_ne _ _ e] at h1 ⊢
      by_cases e2 : o' = q
      · subst e2; rw [upd_self] at h1; cases h1
      · rw [upd_ne _ _ e2] at h1; exact R.unused o' h1
  · intro o' x' b h1 h2
    by_cases e : o' = o
    · subst e
      rcases atn b h2 with h5 | h5
      · have := R.size; exact .inl (by omega)
      · exact .inr ⟨q, _, hq, h5⟩
    · exact .inr ⟨o', x', (old o' x' e h1).1, ato o' b e h2⟩
end
end Go.Proofs.YtpgeopefamomnaeGreat

namespace Go.Proofs.YtpgeopefamomnaeGreat
set_option linter.unusedVariables false
/-- All cells of the block in which v lies are such. -/
def AllRow (φ : Value → Prop) (w : World) (v : Value) : Prop := ∀ g cs t f, v.ownBlock = some g → w.heap[g]? = some (.cells cs t f) → ∀ u ∈ cs.toList, φ u
theorem AllRow.nil (φ : Value → Prop) (w : World) (n c : Nat) : AllRow φ w (.slice none n c) := fun _ _ _ _ h => by cases h
theorem zero_all {φ : Value → Prop} {z : Array Value} (hz : ∀ u ∈ z.toList, φ u) (hd : φ default) (n : Nat) : ∀ u ∈ (Builtin.zeroCells z n).toList, φ u := by
  intro u hu
  simp only [Builtin.zeroCells, Array.toList_map, List.mem_map] at hu
  obtain ⟨i, hi, rfl⟩ := hu
  rcases Nat.eq_zero_or_pos z.size with h0 | h0
  · simp [h0] at hi
  · have hlt : i % z.size < z.size := Nat.mod_lt _ h0
    rw [getElem!_pos z (i % z.size) hlt]
    exact hz _ (Array.mem_toList_iff.2 (Array.getElem_mem hlt))
section
variable {P : Program} (w : World)
theorem run_append_phi (φ : Value → Prop) (base : Nat) (t ty e : TypeId) (i : TypeInfo) (z : Value) (size bytes : Nat) (ht : P.underlying t = some (.slice e)) (hi : P.info? e = some i) (hz : i.zero = some z)
    (hsize : i.size = size) (hby : i.bytes = bytes) (hzs : z.cells.size = size) (hsz : 0 < size)
    (v : Value) (n : Nat) (xs : List Value) (hown : w.ownsRow base e size v n xs)
    (a : Addr) (m c : Nat) (news : List Value) (hl : news.length = m * size) (hnews : ∀ j u, news[j]? = some u → w.cell? (a.add j) = some u) (h1 : ∀ u ∈ news, u.oneCell' = true)
    (h63 : n + m ≤ maxLen) (hbytes : (n + m) * bytes ≤ 140737488355328) (hbase : base ≤ w.heap.size)
    (hall : AllRow φ w v) (hzφ : ∀ u ∈ z.cells.toList, φ u) (hd : φ default) (hnφ : ∀ u ∈ news, φ u) (hxφ : ∀ u ∈ xs, φ u) :
    ∃ v' w', (Builtin.append_ #[t, t] ty #[v, .slice (some a) m c]).run P w = .ok v' w' ∧ w'.ownsRow base e size v' (n + m) (xs ++ news) ∧ w.grownBy w' v.ownBlock ∧ AllRow φ w' v' ∧ (v'.ownBlock = v.ownBlock ∨ v'.ownBlock = some w.heap.size) := by
  subst hsize
  subst hby
  have hsmall : n + m ≤ 9223372036854775807 := by simp only [maxLen] at h63; omega
  have hlen : (xs ++ news).length = (n + m) * i.size := by rw [List.length_append, hown.1, hl, Nat.add_mul]
  have grown : ∀ (old : Nat), old < n + m → ∀ (row : Option Nat),
      (w.drew.alloc (.cells (xs.toArray ++ news.toArray ++ Builtin.zeroCells z.cells (grownCap w (n + m) old e - (n + m))) e)).ownsRow base e i.size
        (.slice (some ⟨w.heap.size, 0, none⟩) (n + m) (grownCap w (n + m) old e)) (n + m) (xs ++ news) ∧
      w.grownBy (w.drew.alloc (.cells (xs.toArray ++ news.toArray ++ Builtin.zeroCells z.cells (grownCap w (n + m) old e - (n + m))) e)) row ∧
      AllRow φ (w.drew.alloc (.cells (xs.toArray ++ news.toArray ++ Builtin.zeroCells z.cells (grownCap w (n + m) old e - (n + m))) e)) (.slice (some ⟨w.heap.size, 0, none⟩) (n + m) (grownCap w (n + m) old e)) := by
    intro old ho row
    have hge := grownCap_ge w (n + m) old e
    have hcm : grownCap w (n + m) old e ≤ maxLen := grownCap_le_maxLen w (n + m) old e h63
    refine ⟨⟨hlen, .inr ⟨w.heap.size, _, _, rfl, hbase, heap_alloc_new w.drew _, hge, hcm, ?_, ?_⟩⟩, ⟨rfl, rfl, rfl, by simp, fun k hk _ => heap_alloc_old w.drew _ k hk⟩, ?_⟩
    · simp only [Array.size_append, List.size_toArray, size_zeroCells, hzs, hown.1, hl, ← Nat.add_mul]
      congr 1
      omega
    · simp only [Array.toList_append, List.append_assoc]
      rw [← List.append_assoc, ← hlen]
      exact List.take_left
    · intro g cs t' f hg hh u hu
      simp only [Value.ownBlock, Option.some.injEq] at hg
      subst hg
      have hn := heap_alloc_new w.drew (.cells (xs.toArray ++ news.toArray ++ Builtin.zeroCells z.cells (grownCap w (n + m) old e - (n + m))) e)
      have hn' := hn.symm.trans hh
      simp only [Option.some.injEq, Obj.cells.injEq] at hn'
      obtain ⟨rfl, _, _⟩ := hn'
      simp only [Array.toList_append, List.mem_append] at hu
      rcases hu with (hu | hu) | hu
      · exact hxφ u hu
      · exact hnφ u hu
      · exact zero_all hzφ hd _ u hu
  rcases hown.2 with ⟨rfl, rfl⟩ | ⟨g, cap, cur, rfl, hbg, hg, hnc, hcm, hcs, htake⟩
  · have hx : xs = [] := List.eq_nil_of_length_eq_zero (by simpa using hown.1)
    subst hx
    by_cases hm : m = 0
    · subst hm
      have hn : news = [] := List.eq_nil_of_length_eq_zero (by simpa using hl)
      subst hn
      refine ⟨.slice none 0 0, w, ?_, World.ownsRow_nil w base e i.size, ⟨rfl, rfl, rfl, Nat.le_refl _, fun _ _ _ => rfl⟩, AllRow.nil _ _ _ _, .inl rfl⟩
      simp [Builtin.append_, run_underlying ht, sizeOf, typeInfo, hi, Builtin.lenOf, Builtin.firstCells, loadCells, loadCellsFrom]
    · have hr := run_append_nil (P := P) w t ty e i z ht hi hz a m c news hl hnews (by omega) (by omega) (by have hb := hbytes; simp only [Nat.zero_add] at hb; omega)
      have hgr := grown 0 (by omega) (Value.ownBlock (.slice none 0 0))
      simp only [Nat.zero_add, List.nil_append, Array.empty_append] at hgr ⊢
      exact ⟨_, _, hr, hgr.1, hgr.2.1, hgr.2.2, .inr rfl⟩
  · by_cases hroom : n + m ≤ cap
    · have hfit : n * i.size + news.length ≤ cur.size := by rw [hl, hcs, ← Nat.add_mul]; exact Nat.mul_le_mul_right _ hroom
      have hr := run_append_room (P := P) w t ty e i ht hi g n cap cur hg a m c news hl hnews h1 hroom hfit
      refine ⟨_, _, hr, ⟨hlen, .inr ⟨g, cap, _, rfl, hbg, setRow_heap w g cur _ e _ hg, hroom, hcm, ?_, ?_⟩⟩, ⟨rfl, rfl, rfl, by simp, fun k _ hk => setRow_other w g k _ (fun e => hk (by simp [Value.ownBlock, e]))⟩, ?_, .inl rfl⟩
      · simp only [List.size_toArray, List.length_append, List.length_take, List.length_drop, Array.length_toList]
        omega
      · rw [htake, ← hlen]
        exact List.take_left
      · intro g' cs t' f hg' hh u hu
        simp only [Value.ownBlock, Option.some.injEq] at hg'
        subst hg'
        have hn' := (setRow_heap w g cur (cur.toList.take (n * i.size) ++ news ++ cur.toList.drop (n * i.size + news.length)).toArray e _ hg).symm.trans hh
        simp only [Option.some.injEq, Obj.cells.injEq] at hn'
        obtain ⟨rfl, _, _⟩ := hn'
        have hold := hall g cur e _ rfl hg
        simp only [List.mem_append] at hu
        rcases hu with (hu | hu) | hu
        · exact hold u (List.mem_of_mem_take hu)
        · exact hnφ u hu
        · exact hold u (List.mem_of_mem_drop hu)
    · have holds : ∀ j u, xs[j]? = some u → w.cell? ((⟨g, 0, none⟩ : Addr).add j) = some u := hown.cells (g := g) rfl
      have hr := run_append_grow (P := P) w t ty e i z ht hi hz ⟨g, 0, none⟩ n cap xs hown.1 holds a m c news hl hnews (by omega) (by omega) (growslice_fits (by omega) hbytes)
      have hgr := grown cap (by omega) (Value.ownBlock (.slice (some ⟨g, 0, none⟩) n cap))
      exact ⟨_, _, hr, hgr.1, hgr.2.1, hgr.2.2, .inr rfl⟩
/-- 'append(v, x...)' of a slice that lies somewhere, or is none. -/
theorem run_append_any (φ : Value → Prop) (base : Nat) (t ty e : TypeId) (i : TypeInfo) (z : Value) (size bytes : Nat) (ht : P.underlying t = some (.slice e)) (hi : P.info? e = some i) (hz : i.zero = some z)
    (hsize : i.size = size) (hby : i.bytes = bytes) (hzs : z.cells.size = size) (hsz : 0 < size)
    (v : Value) (n : Nat) (xs : List Value) (hown : w.ownsRow base e size v n xs)
    (a : Option Addr) (m c : Nat) (news : List Value) (hl : news.length = m * size) (hnews : ∀ ad, a = some ad → ∀ j u, news[j]? = some u → w.cell? (ad.add j) = some u) (hno : a = none → m = 0) (h1 : ∀ u ∈ news, u.oneCell' = true)
    (h63 : n + m ≤ maxLen) (hbytes : (n + m) * bytes ≤ 140737488355328) (hbase : base ≤ w.heap.size)
    (hall : AllRow φ w v) (hzφ : ∀ u ∈ z.cells.toList, φ u) (hd : φ default) (hnφ : ∀ u ∈ news, φ u) (hxφ : ∀ u ∈ xs, φ u) :
    ∃ v' w', (Builtin.append_ #[t, t] ty #[v, .slice a m c]).run P w = .ok v' w' ∧ w'.ownsRow base e size v' (n + m) (xs ++ news) ∧ w.grownBy w' v.ownBlock ∧ AllRow φ w' v' ∧ (v'.ownBlock = v.ownBlock ∨ v'.ownBlock = some w.heap.size) := by
  cases a with
  | some ad => exact run_append_phi w φ base t ty e i z size bytes ht hi hz hsize hby hzs hsz v n xs hown ad m c news hl (hnews ad rfl) h1 h63 hbytes hbase hall hzφ hd hnφ hxφ
  | none =>
    obtain rfl := hno rfl
    have hn : news = [] := List.eq_nil_of_length_eq_zero (by simpa using hl)
    subst hn
    refine ⟨v, w, ?_, by simpa using hown, ⟨rfl, rfl, rfl, Nat.le_refl _, fun _ _ _ => rfl⟩, hall, .inl rfl⟩
    rcases hown.2 with ⟨rfl, rfl⟩ | ⟨g, cap, cur, rfl, _, _, hnc, _⟩
    · simp [Builtin.append_, run_underlying ht, sizeOf, typeInfo, hi, Builtin.lenOf, Builtin.firstCells]
    · simp [Builtin.append_, run_underlying ht, sizeOf, typeInfo, hi, Builtin.lenOf, Builtin.firstCells, hnc, storeCells]
end
end Go.Proofs.YtpgeopefamomnaeGreat

namespace Go.Proofs.YtpgeopefamomnaeGreat
open Go.RowKit
set_option linter.unusedVariables false
section
variable {α : Type} {w0 w : World} {G W0 : Nat → Prop} {env : Nat → AV}
theorem rep_own {h : AH} {μ : Mu} (R : RelH w0 G W0 h μ w) {o : Nat} {v : Value} {es : List (List DV)} {k : Nat} {ty : TypeId} (hv : μ o = some v) (ho : h o = .live (.row es k ty true)) : RepD w (WrOf h μ W0) (.row es) v := by
  obtain ⟨u, vs, h1, h2, h3, h4⟩ := R.obj o _ ho
  rw [hv] at h1
  cases h1
  have hw : ∀ b, At μ o b → ¬ WrOf h μ W0 b := by
    rintro b hb (h5 | ⟨o', x', h5, h6, h7⟩)
    · exact (R.apart o _ b ho hb).1 h5
    · have := R.inj o o' _ x' b ho h5 hb h7
      subst this
      rw [ho] at h5
      cases h5
      cases h6
  rcases h2.2 with ⟨rfl, hn⟩ | ⟨g, cap, cur, rfl, _, hg, hnc, hcm, hcs, htk⟩
  · have hx : vs = [] := List.eq_nil_of_length_eq_zero (by rw [h2.1, hn]; simp)
    subst hx
    exact .row es none 0 0 k [] hn.symm (Nat.le_refl _) (by decide) h3 h4.1.symm (fun e => absurd rfl e) h4.2
  · refine .row es _ _ cap k vs rfl hnc hcm h3 h4.1.symm (fun _ => ⟨g, 0, rfl, hw g ⟨_, hv, rfl⟩, fun i u hu => ?_⟩) h4.2
    rw [← htk, List.getElem?_take] at hu
    split at hu
    · rw [Nat.zero_add, World.cell?, hg]
      simpa using hu
    · cases hu
theorem nil_rep {Wr : Nat → Prop} : RepD w Wr (.row []) (.slice none 0 0) := .row [] none 0 0 0 [] rfl (Nat.le_refl _) (by decide) (by simp) rfl (fun e => absurd rfl e) (fun i x v h => by simp at h)
theorem deepK_run {h : AH} {μ : Mu} (R : RelH w0 G W0 h μ w) {c : CV} {u : Value} (hc : RepC w (WrOf h μ W0) μ c u) {k : DV → AM α} {r : α × Prop × AH} (hr : (deepK c k).run env h = some r) :
    ∃ x h1, (k x).run env h1 = some r ∧ RelH w0 G W0 h1 μ w ∧ Keeps w w (WrOf h μ W0) (WrOf h1 μ W0) ∧ RepD w (WrOf h1 μ W0) x u := by
  cases c with
  | d x => exact ⟨x, h, hr, R, Keeps.refl _ _, hc⟩
  | nils => cases hc; exact ⟨_, h, hr, R, Keeps.refl _ _, nil_rep⟩
  | own o =>
    simp only [deepK, AM.run] at hr
    split at hr
    · rename_i x hx
      cases x with
      | box _ _ => simp [AM.run] at hr
      | row es kk ty f =>
        simp only [AM.run, hx] at hr
        obtain ⟨R1, K1⟩ := R.freeze hx
        exact ⟨_, _, hr, R1, K1, rep_own R1 hc.1 (upd_self _ _ _)⟩
    · cases hr
  | ptr _ _ _ _ => simp [deepK, AM.run] at hr
  | dp _ _ _ _ => simp [deepK, AM.run] at hr
  | clo _ _ => simp [deepK, AM.run] at hr
  | undef => simp [deepK, AM.run] at hr
theorem Keeps.trans {a b c : World} {Wa Wb Wc : Nat → Prop} (h : Keeps a b Wa Wb) (k : Keeps b c Wb Wc) (hs : a.heap.size ≤ b.heap.size) : Keeps a c Wa Wc := fun x hx hn => by
  obtain ⟨h1, h2⟩ := h x hx hn
  obtain ⟨h3, h4⟩ := k x (by omega) h1
  exact ⟨h3, h4.trans h2⟩
theorem deepL_run {μ : Mu} : ∀ {cs : List CV} {us : List Value} {h : AH}, RelH w0 G W0 h μ w → All2 (RepK w (WrOf h μ W0) μ) cs us → ∀ {k : List DV → AM α} {r : α × Prop × AH}, (deepL cs k).run env h = some r →
    ∃ xs h1, (k xs).run env h1 = some r ∧ RelH w0 G W0 h1 μ w ∧ Keeps w w (WrOf h μ W0) (WrOf h1 μ W0) ∧ All2 (RepD w (WrOf h1 μ W0)) xs us
  | [], us, h, R, hc, k, r, hr => by
    have : us = [] := List.eq_nil_of_length_eq_zero hc.1.symm
    subst this
    exact ⟨[], h, hr, R, Keeps.refl _ _, All2.nil⟩
  | c :: cs, us, h, R, hc, k, r, hr => by
    cases us with
    | nil => exact absurd hc.1 (by simp)
    | cons u us =>
      have hu : RepK w (WrOf h μ W0) μ c u := hc.2 0 c u rfl rfl
      have hus : All2 (RepK w (WrOf h μ W0) μ) cs us := ⟨by simpa using hc.1, fun i x y hx hy => hc.2 (i + 1) x y hx hy⟩
      obtain ⟨x, h1, k1, R1, K1, D1⟩ := deepK_run R hu.2 hr
      obtain ⟨xs, h2, k2, R2, K2, D2⟩ := deepL_run R1 (hus.mono fun _ _ h => h.mono K1 (MuLe.refl _)) k1
      exact ⟨x :: xs, h2, k2, R2, K1.trans K2 (Nat.le_refl _), All2.cons (D1.mono K2) D2⟩
/-- A slice's elements, in memory. -/
def RowAt (w : World) (Wr : Nat → Prop) (es : List (List DV)) (v : Value) : Prop :=
  ∃ a n cap vs, v = .slice a n cap ∧ n = es.length ∧ vs.length = es.flatten.length ∧ (vs ≠ [] → ∃ b off, a = some ⟨b, off, none⟩ ∧ ∀ (i : Nat) u, vs[i]? = some u → w.cell? ⟨b, off + i, none⟩ = some u) ∧ All2 (RepD w Wr) es.flatten vs
theorem rowOf_run {h : AH} {μ : Mu} (R : RelH w0 G W0 h μ w) {v : AV} {u : Value} (hv : RepA w (WrOf h μ W0) μ v u) {k : List (List DV) → AM α} {r : α × Prop × AH} (hr : (rowOf v k).run env h = some r) :
    ∃ es, (k es).run env h = some r ∧ RowAt w (WrOf h μ W0) es u := by
  unfold rowOf at hr
  split at hr
  · rename_i es
    refine ⟨es, hr, ?_⟩
    have hv' : RepD w (WrOf h μ W0) (.row es) u := hv
    cases hv' with
    | row _ a n cap k' vs h1 h2 h3 h4 h5 h6 h7 => exact ⟨a, n, cap, vs, rfl, h1, h5, fun hx => (h6 hx).imp fun b ⟨off, e, _, hc⟩ => ⟨off, e, hc⟩, h5.symm, h7⟩
  · have hv' : u = .slice none 0 0 := hv
    exact ⟨[], hr, none, 0, 0, [], hv', rfl, rfl, fun e => absurd rfl e, All2.nil⟩
  · rename_i o
    simp only [AM.run] at hr
    split at hr
    · rename_i x hx
      cases x with
      | box _ _ => simp [AM.run] at hr
      | row es k' ty f =>
        refine ⟨es, hr, ?_⟩
        obtain ⟨v', vs, h1, h2, h3, h4⟩ := R.obj o _ hx
        have hv' : RepC w (WrOf h μ W0) μ (.own o) u := hv
        rw [hv'.1] at h1
        cases h1
        rcases h2.2 with ⟨rfl, hn⟩ | ⟨g, cap, cur, rfl, _, hg, hnc, hcm, hcs, htk⟩
        · have hx : vs = [] := List.eq_nil_of_length_eq_zero (by rw [h2.1, hn]; simp)
          subst hx
          exact ⟨none, 0, 0, [], rfl, hn.symm, h4.1.symm, fun e => absurd rfl e, h4⟩
        · refine ⟨_, _, cap, vs, rfl, rfl, h4.1.symm, fun _ => ⟨g, 0, rfl, fun i u hu => ?_⟩, h4⟩
          rw [← htk, List.getElem?_take] at hu
          split at hu
          · rw [Nat.zero_add, World.cell?, hg]
            simpa using hu
          · cases hu
    · cases hr
  · simp [AM.run] at hr
theorem toDs_rep {Wr : Nat → Prop} {μ : Mu} : ∀ {cs : List CV} {ds : List DV} {vs : List Value}, toDs cs = some ds → All2 (RepK w Wr μ) cs vs → All2 (RepD w Wr) ds vs
  | [], ds, vs, h, hr => by
    simp [toDs] at h; subst h
    have : vs = [] := List.eq_nil_of_length_eq_zero hr.1.symm
    subst this
    exact All2.nil
  | c :: r, ds, vs, h, hr => by
    cases vs with
    | nil => exact absurd hr.1 (by simp)
    | cons v vs =>
      have h0 := hr.2 0 c v rfl rfl
      have ht : All2 (RepK w Wr μ) r vs := ⟨by simpa using hr.1, fun i x y hx hy => hr.2 (i + 1) x y hx hy⟩
      cases c with
      | d x =>
        simp only [toDs] at h
        split at h
        · rename_i l hl
          simp at h; subst h
          exact All2.cons h0.2 (toDs_rep hl ht)
        · cases h
      | nils =>
        simp only [toDs] at h
        split at h
        · rename_i l hl
          simp at h; subst h
          have : v = .slice none 0 0 := h0.2
          subst this
          exact All2.cons nil_rep (toDs_rep hl ht)
        · cases h
      | own _ => simp [toDs] at h
      | ptr _ _ _ _ => simp [toDs] at h
      | dp _ _ _ _ => simp [toDs] at h
      | clo _ _ => simp [toDs] at h
      | undef => simp [toDs] at h
end
/-- A type of elements: its zero's cells. -/
theorem elemK_parts {P : Program} {e : TypeId} {ds : List DV} (h : elemK P e = some ds) : ∃ (i : TypeInfo) (z : Value), P.info? e = some i ∧ i.zero = some z ∧ z.cells.size = ds.length ∧ i.size = ds.length ∧ i.bytes ≤ 100000 ∧ 1 ≤ ds.length ∧ ∀ (w : World) (Wr : Nat → Prop), All2 (RepD w Wr) ds z.cells.toList := by
  unfold elemK at h
  split at h
  · rename_i zs hz
    split at h
    · rename_i ds' hd
      split at h
      · rename_i hb
        simp at h
        subst h
        obtain ⟨hs1, hs2⟩ := zerosOf_size hz
        unfold zerosOf at hz
        split at hz
        · rename_i i hi
          split at hz
          · rename_i z hzv
            split at hz
            · have hr := fun (w : World) (Wr : Nat → Prop) => toDs_rep (w := w) (Wr := Wr) (μ := fun _ => none) hd (cvsOf_rep hz)
              have hl := (hr default fun _ => False).1
              simp only [Bool.and_eq_true, bytesOK, hi] at hb
              obtain ⟨hb1, hb2⟩ := hb
              have hb1 := Nat.le_of_ble_eq_true hb1
              have hb2 := Nat.le_of_ble_eq_true hb2
              have hzs := (cvsOf_rep (w := default) (Wr := fun _ => False) (μ := fun _ => none) hz).1
              rw [hi] at hs1
              simp at hs1
              refine ⟨i, z, hi, hzv, by simp at hl; omega, ?_, hb2, hb1, hr⟩
              rw [hs1, hzs, hl]
            · cases hz
          · cases hz
        · cases hz
      · cases h
    · cases h
  · cases h
end Go.Proofs.YtpgeopefamomnaeGreat

namespace Go.Proofs.YtpgeopefamomnaeGreat
open Go.RowKit
set_option linter.unusedVariables false
theorem setA_len {α : Type} : ∀ (us xs : List α) (o : Nat), (setA xs o us).length = xs.length
  | [], xs, o => rfl
  | u :: us, xs, o => by rw [setA, setA_len us, List.length_set]
theorem setA_get {α : Type} : ∀ (us xs : List α) (o q : Nat), o + us.length ≤ xs.length → (setA xs o us)[q]? = if o ≤ q ∧ q < o + us.length then us[q - o]? else xs[q]?
  | [], xs, o, q, h => by rw [if_neg (by simp <;> omega), setA]
  | u :: us, xs, o, q, h => by
    simp only [List.length_cons] at h ⊢
    rw [setA, setA_get us (xs.set o u) (o + 1) q (by rw [List.length_set]; omega)]
    by_cases h1 : o + 1 ≤ q ∧ q < o + 1 + us.length
    · rw [if_pos h1, if_pos (by omega), show q - o = (q - (o + 1)) + 1 by omega]
      simp
    · rw [if_neg h1]
      by_cases h2 : q = o
      · subst h2
        rw [if_pos (by omega), List.getElem?_set_self (by omega)]
        simp
      · rw [if_neg (by omega), List.getElem?_set_ne (Ne.symm h2)]
theorem setA_all2 {α β : Type} {R : α → β → Prop} : ∀ {us : List α} {vs : List β} {xs : List α} {ys : List β} {o : Nat}, All2 R xs ys → All2 R us vs → All2 R (setA xs o us) (setA ys o vs)
  | [], vs, xs, ys, o, h, h2 => by
    have : vs = [] := List.eq_nil_of_length_eq_zero h2.1.symm
    subst this
    exact h
  | u :: us, vs, xs, ys, o, h, h2 => by
    cases vs with
    | nil => exact absurd h2.1 (by simp)
    | cons v vs =>
      have t : All2 R us vs := ⟨by simpa using h2.1, fun i x y hx hy => h2.2 (i + 1) x y hx hy⟩
      have := setA_all2 (o := o + 1) (h.set o (h2.2 0 u v rfl rfl)) t
      simpa only [setA] using this
theorem setA_flat {α : Type} {k : Nat} (css : List (List α)) (i off : Nat) (c : List α) (h : ∀ c ∈ css, c.length = k) (hc : off + c.length ≤ k) (hi : i < css.length) : setA css.flatten (i * k + off) c = (css.set i (setA (css.getD i []) off c)).flatten := by
  have hgi : css.getD i [] = css[i] := by simp [List.getD, hi]
  have hki : (css.getD i []).length = k := by rw [hgi]; exact h _ (List.getElem_mem hi)
  have hk : ∀ c' ∈ css.set i (setA (css.getD i []) off c), c'.length = k := fun c' hc' => by
    rcases List.mem_or_eq_of_mem_set hc' with h1 | h1
    · exact h c' h1
    · rw [h1, setA_len, hki]
  have hl := flatG_len css h
  have hle : i * k + k ≤ css.length * k := by
    have := Nat.mul_le_mul_right k (show i + 1 ≤ css.length from hi)
    rw [Nat.add_mul] at this
    omega
  apply List.ext_getElem?
  intro q
  rw [setA_get c _ _ q (by rw [hl]; omega)]
  rcases Nat.eq_zero_or_pos k with h0 | h0
  · subst h0
    have hc0 : c.length = 0 := by omega
    rw [if_neg (by omega)]
    have e1 : css.flatten = [] := List.eq_nil_of_length_eq_zero (by rw [hl]; simp)
    have e2 : (css.set i (setA (css.getD i []) off c)).flatten = [] := List.eq_nil_of_length_eq_zero (by rw [flatG_len _ hk]; simp)
    rw [e1, e2]
  · obtain ⟨a, b, hb, rfl⟩ : ∃ a b, b < k ∧ q = a * k + b := ⟨q / k, q % k, Nat.mod_lt _ h0, by rw [Nat.mul_comm]; exact (Nat.div_add_mod q k).symm⟩
    rw [flatG_get _ _ _ hk hb, flatG_get _ _ _ h hb]
    by_cases e : a = i
    · subst e
      rw [List.getElem?_set_self hi, Option.bind_some, setA_get c _ off b (by rw [hki]; exact hc)]
      by_cases hx : off ≤ b ∧ b < off + c.length
      · rw [if_pos (by omega), if_pos hx, show a * k + b - (a * k + off) = b - off by omega]
      · rw [if_neg (by omega), if_neg hx, List.getElem?_eq_getElem hi, Option.bind_some, hgi]
    · rw [List.getElem?_set_ne (Ne.symm e), if_neg]
      intro hh
      rcases Nat.lt_or_gt_of_ne e with h1 | h1
      · have := Nat.mul_le_mul_right k (show a + 1 ≤ i from h1)
        rw [Nat.add_mul] at this
        omega
      · have := Nat.mul_le_mul_right k (show i + 1 ≤ a from h1)
        rw [Nat.add_mul] at this
        omega
theorem setA_whole {α : Type} (xs us : List α) (h : us.length = xs.length) : setA xs 0 us = us := by
  apply List.ext_getElem?
  intro q
  rw [setA_get us xs 0 q (by omega)]
  by_cases hq : q < us.length
  · rw [if_pos (by omega), Nat.sub_zero]
  · rw [if_neg (by omega), List.getElem?_eq_none (by omega), List.getElem?_eq_none (by omega)]
/-- A block behind cells that were written. -/
theorem setCells_heap {g : Nat} {t : TypeId} : ∀ (us : List Value) (w : World) (cur : List Value) (o : Nat), w.heap[g]? = some (.cells cur.toArray t (0, 0)) →
    (w.setCells g o us).heap[g]? = some (.cells (setA cur o us).toArray t (0, 0)) ∧ w.grownBy (w.setCells g o us) (some g)
  | [], w, cur, o, hc => ⟨hc, rfl, rfl, rfl, Nat.le_refl _, fun _ _ _ => rfl⟩
  | u :: us, w, cur, o, hc => by
    have h1 := heap_setCell_same w g o cur.toArray t u hc
    have h1' : (w.setCell ⟨g, o, none⟩ u).heap[g]? = some (.cells (cur.set o u).toArray t (0, 0)) := by rw [h1]; simp
    obtain ⟨e1, e4⟩ := setCells_heap us (w.setCell ⟨g, o, none⟩ u) (cur.set o u) (o + 1) h1'
    refine ⟨e1, e4.os, e4.tape, e4.output, by rw [World.setCells]; simpa using e4.size, fun k hk hne => ?_⟩
    rw [World.setCells, e4.block k (by simpa using hk) hne]
    exact heap_setCell_other w ⟨g, o, none⟩ k u (fun e => hne (by simp [e]))
theorem cell_at {w : World} {g : Nat} {cs : Array Value} {t : TypeId} (hg : w.heap[g]? = some (.cells cs t (0, 0))) (j : Nat) : w.cell? ⟨g, j, none⟩ = cs[j]? := by simp [World.cell?, hg]
theorem free_at {w : World} {g : Nat} {cs : Array Value} {t : TypeId} (hg : w.heap[g]? = some (.cells cs t (0, 0))) (j : Nat) : w.frozen? ⟨g, j, none⟩ = false := by simp [World.frozen?, hg]
theorem there_at {w : World} {g o n : Nat} {cs : Array Value} {t : TypeId} (hg : w.heap[g]? = some (.cells cs t (0, 0))) (h : o + n ≤ cs.size) : w.there g o n := fun j hj => by
  rw [cell_at hg, Array.getElem?_eq_getElem (by omega)]
  exact ⟨rfl, free_at hg _⟩
/-- A value of some cells is stored. -/
theorem run_storeC {P : Program} {w : World} {b o : Nat} {ty : TypeId} {v : Value} {us : List Value} (hv : v.cells = us.toArray) (ht : w.there b o us.length) (hi : szOf P ty = us.length) (h0 : (P.info? ty).isSome = true) (h1 : ∀ u ∈ us, u.oneCell' = true) :
    (Instr.storeAt ty (.pointer (some ⟨b, o, none⟩)) v).run P w = .ok () (w.setCells b o us) := by
  have := run_storeCells_cells (P := P) b o us 0 w (fun j hj => by simpa using (ht j hj).1) (fun j hj => by simpa using (ht j hj).2) h1
  cases hq : P.info? ty with
  | none => simp [hq] at h0
  | some i =>
    have hs : us.length = i.size := by simp [szOf, hq] at hi; omega
    simp only [Nat.add_zero] at this
    simp [Instr.storeAt, Instr.sureAddr, storeVar, sizeOf, typeInfo, hq, hv, hs, this]
theorem cells_one {v : Value} (h : v.oneCell' = true) : v.cells = [v].toArray := by cases v <;> first | rfl | simp [Value.oneCell'] at h
theorem okAll_mem : ∀ {cs : List CV}, okAll cs = true → ∀ c ∈ cs, c.ok = true
  | [], _, _, h => by simp at h
  | c :: r, h, x, hx => by
    simp only [okAll, Bool.and_eq_true] at h
    rcases List.mem_cons.1 hx with rfl | h2
    · exact h.1
    · exact okAll_mem h.2 x h2
theorem cells1_rep {w : World} {Wr : Nat → Prop} {μ : Mu} {v : AV} {u : Value} {cs : List CV} (h : RepA w Wr μ v u) (hc : cells1 v = some cs) (ho : okAll cs = true) : ∃ us : List Value, u.cells = us.toArray ∧ All2 (RepK w Wr μ) cs us := by
  cases v with
  | c x =>
    simp [cells1] at hc
    subst hc
    have hx := okAll_mem ho x (by simp)
    exact ⟨[u], cells_one (RepC.one hx h), All2.cons ⟨hx, h⟩ All2.nil⟩
  | agg cs' =>
    simp [cells1] at hc
    subst hc
    obtain ⟨vs, rfl, h2⟩ := h
    exact ⟨vs, rfl, h2⟩
  | tup _ => simp [cells1] at hc
theorem RepK.ones {w : World} {Wr : Nat → Prop} {μ : Mu} {cs : List CV} {us : List Value} (h : All2 (RepK w Wr μ) cs us) : ∀ u ∈ us, u.oneCell' = true := fun u hu => by
  obtain ⟨i, hi⟩ := List.getElem?_of_mem hu
  have hl : i < cs.length := by rw [h.1]; exact (List.getElem?_eq_some_iff.1 hi).1
  have := h.2 i _ u (List.getElem?_eq_getElem hl) hi
  exact RepC.one this.1 this.2
theorem RepD.ones {w : World} {Wr : Nat → Prop} {cs : List DV} {us : List Value} (h : All2 (RepD w Wr) cs us) : ∀ u ∈ us, u.oneCell' = true := fun u hu => by
  obtain ⟨i, hi⟩ := List.getElem?_of_mem hu
  have hl : i < cs.length := by rw [h.1]; exact (List.getElem?_eq_some_iff.1 hi).1
  exact RepD.one (h.2 i _ u (List.getElem?_eq_getElem hl) hi)
/-- What comes of an operation. -/
def Out (P : Program) (w0 : World) (G W0 : Nat → Prop) (h : AH) (μ : Mu) (w : World) (s : Sem Next) (v : AV) (h' : AH) : Prop :=
  ∃ nx u w' μ', s.run P w = .ok nx w' ∧ (nx = .value u ∨ nx = .skip ∧ u = undef) ∧ RelH w0 G W0 h' μ' w' ∧ MuLe μ μ' ∧ Keeps w w' (WrOf h μ W0) (WrOf h' μ' W0) ∧ RepA w' (WrOf h' μ' W0) μ' v u
section
variable {P : Program} {w0 w : World} {G W0 : Nat → Prop} {env : Nat → AV}
theorem Out.pure {h : AH} {μ : Mu} (R : RelH w0 G W0 h μ w) {s : Sem Next} {v : AV} {u : Value} (hs : s.run P w = .ok (.value u) w) (hv : RepA w (WrOf h μ W0) μ v u) : Out P w0 G W0 h μ w s v h :=
  ⟨_, u, w, μ, hs, .inl rfl, R, MuLe.refl _, Keeps.refl _ _, hv⟩
/-- A variable is made. -/
theorem Out.box {h : AH} {μ : Mu} (R : RelH w0 G W0 h μ w) {s : Sem Next} {o : Nat} {cs : List CV} {us : List Value} {ty : TypeId} (ho : h o = .unused) (hs : s.run P w = .ok (.value (.pointer (some ⟨w.heap.size, 0, none⟩))) (w.alloc (.cells us.toArray ty))) (hu : All2 (RepK w (WrOf h μ W0) μ) cs us) (k : Nat) :
    Out P w0 G W0 h μ w s (.c (.ptr o 0 0 k)) (upd h o (.live (.box cs ty))) := by
  have hb := (Below.refl w.heap.size w).alloc (Nat.le_refl _) (.cells us.toArray ty)
  obtain ⟨R1, K1⟩ := R.fresh (w' := w.alloc (.cells us.toArray ty)) (x := .box cs ty) (v := .pointer (some ⟨w.heap.size, 0, none⟩)) ho hb.os hb.tape hb.output hb.size hb.block (fun b e => by simp [blk] at e; exact e.symm)
    (fun K => ⟨w.heap.size, us, upd_self _ _ _, heap_alloc_new w _, hu.mono fun _ _ h => h.mono K (mu_upd R ho)⟩)
  exact ⟨_, _, _, _, hs, .inl rfl, R1, mu_upd R ho, K1, w.heap.size, ⟨_, upd_self _ _ _, rfl⟩, by simp⟩
/-- A row is made. -/
theorem Out.row {h : AH} {μ : Mu} (R : RelH w0 G W0 h μ w) {s : Sem Next} {o k : Nat} {es : List (List DV)} {vs : List Value} {ty : TypeId} {v' : Value} {w' : World} (ho : h o = .unused) (hs : s.run P w = .ok (.value v') w') (hown : w'.ownsRow 0 ty k v' es.length vs) (hg : w.grownBy w' none) (hb : ∀ b, blk v' = some b → b = w.heap.size) (hk : ∀ e ∈ es, e.length = k) (hu : All2 (RepD w (WrOf h μ W0)) es.flatten vs) :
    Out P w0 G W0 h μ w s (.c (.own o)) (upd h o (.live (.row es k ty false))) := by
  obtain ⟨R1, K1⟩ := R.fresh (w' := w') (x := .row es k ty false) (v := v') ho hg.os hg.tape hg.output hg.size (fun b hb => hg.block b hb (by simp)) hb
    (fun K => ⟨v', vs, upd_self _ _ _, hown, hk, hu.mono fun _ _ h => h.mono K⟩)
  obtain ⟨a, c, e⟩ := ownsRow_slice hown
  exact ⟨_, _, _, _, hs, .inl rfl, R1, mu_upd R ho, K1, upd_self _ _ _, a, _, c, e⟩
end
end Go.Proofs.YtpgeopefamomnaeGreat

namespace Go.Proofs.YtpgeopefamomnaeGreat
open Go.RowKit
set_option linter.unusedVariables false
theorem run_v {P : Program} {w w' : World} {s : Sem Value} {u : Value} (h : s.run P w = .ok u w') : (do pure (.value (← s)) : Sem Next).run P w = .ok (.value u) w' := by simp [Sem.run_bind, h]
theorem run_u {P : Program} {w w' : World} {s : Sem Unit} (h : s.run P w = .ok () w') : (do s; pure .skip : Sem Next).run P w = .ok .skip w' := by simp [Sem.run_bind, h]
theorem At.uniq {μ : Mu} {o b b' : Nat} (h : At μ o b) (h' : At μ o b') : b = b' := by
  obtain ⟨u, h1, h2⟩ := h
  obtain ⟨u', h3, h4⟩ := h'
  rw [h1] at h3
  cases h3
  rw [h2] at h4
  cases h4
  rfl
section
variable {P : Program} {sp : Spec} {nid : Nat → Nat} {w0 w : World} {G W0 : Nat → Prop} {env : Nat → AV} {h h' : AH} {μ : Mu} {a : Act} (g : Good w0 G W0 env h μ a w) {o : Oper} {v : AV} {q : Prop}
include g
theorem out_move {x : Operand} (ho : o.op = .move x ∨ o.op = .assign x) (hr : (aop P sp nid o).run env h = some (v, q, h')) (hq : q) : Out P w0 G W0 h μ w (execOp a.eval o) v h' := by
  have mv : (aev x AM.ret).run env h = some (v, q, h') → Out P w0 G W0 h μ w (execOp a.eval o) v h' := fun hr => by
    obtain ⟨va, h1, r1⟩ := aev_run g hr
    simp only [AM.run, Option.some.injEq, Prod.mk.injEq] at h1
    obtain ⟨rfl, rfl, rfl⟩ := h1
    exact Out.pure g.rel (u := a.eval x) (by rcases ho with ho | ho <;> simp [execOp, ho]) r1
  rcases ho with ho | ho
  · simp only [aop, ho] at hr
    exact mv hr
  · simp only [aop, ho] at hr
    split at hr
    · rename_i e k hn
      simp only [AM.run] at hr
      split at hr
      · rename_i hu
        simp only [Option.some.injEq, Prod.mk.injEq] at hr
        obtain ⟨rfl, rfl, rfl⟩ := hr
        have hx : a.eval x = .slice none 0 0 := by
          unfold nilRow at hn
          split at hn
          · rfl
          · cases hn
        exact Out.row (es := []) (vs := []) g.rel hu (by simp [execOp, ho, hx]) ⟨by simp, .inl ⟨rfl, rfl⟩⟩ ⟨rfl, rfl, rfl, Nat.le_refl _, fun _ _ _ => rfl⟩ (fun b hb => by cases hb) (by simp) All2.nil
      · cases hr
    · exact mv hr
theorem out_pick {c x y : Operand} (ho : o.op = .pick c x y) (hr : (aop P sp nid o).run env h = some (v, q, h')) (hq : q) : Out P w0 G W0 h μ w (execOp a.eval o) v h' := by
  simp only [aop, ho] at hr
  obtain ⟨vc, h1, r1⟩ := aev_run g hr
  obtain ⟨vx, h2, r2⟩ := aev_run g h1
  obtain ⟨vy, h3, r3⟩ := aev_run g h2
  split at h3
  · rename_i t
    simp only [AM.run, Option.some.injEq, Prod.mk.injEq] at h3
    obtain ⟨rfl, rfl, rfl⟩ := h3
    have hc : a.eval c = .bool t := RepD.bool_eq r1
    refine Out.pure g.rel (u := if t then a.eval x else a.eval y) (by cases t <;> simp [execOp, ho, hc, asBool]) ?_
    unfold apick
    split
    · cases t
      · exact r3
      · exact r2
    · cases t
      · exact r3
      · exact r2
  · simp [AM.run] at h3
theorem out_alloc {t : TypeId} (ho : o.op = .alloc t) (hr : (aop P sp nid o).run env h = some (v, q, h')) (hq : q) : Out P w0 G W0 h μ w (execOp a.eval o) v h' := by
  simp only [aop, ho] at hr
  split at hr
  · rename_i cs hz
    simp only [AM.run] at hr
    split at hr
    · rename_i hu
      simp only [Option.some.injEq, Prod.mk.injEq] at hr
      obtain ⟨rfl, rfl, rfl⟩ := hr
      unfold zerosOf at hz
      split at hz
      · rename_i i hi
        split at hz
        · rename_i z hzv
          split at hz
          · refine Out.box g.rel hu (us := z.cells.toList) (ty := t) ?_ (cvsOf_rep hz) _
            simp only [execOp, ho]
            exact run_v (by simp [Instr.alloc, zeroValue, typeInfo, hi, hzv, newVar, newRow])
          · cases hz
        · cases hz
      · cases hz
    · cases hr
  · simp [AM.run] at hr
theorem out_box {t : TypeId} {x : Operand} (ho : o.op = .box t x) (hr : (aop P sp nid o).run env h = some (v, q, h')) (hq : q) : Out P w0 G W0 h μ w (execOp a.eval o) v h' := by
  simp only [aop, ho] at hr
  obtain ⟨vx, h1, r1⟩ := aev_run g hr
  split at h1
  · rename_i cs hc
    split at h1
    · rename_i hok
      simp only [AM.run] at h1
      split at h1
      · rename_i hu
        simp only [Option.some.injEq, Prod.mk.injEq] at h1
        obtain ⟨rfl, rfl, rfl⟩ := h1
        obtain ⟨us, e1, e2⟩ := cells1_rep r1 hc hok
        refine Out.box g.rel hu (us := us) (ty := t) ?_ e2 _
        simp only [execOp, ho]
        exact run_v (by simp [Instr.box, newVar, newRow, e1])
      · cases h1
    · simp [AM.run] at h1
  · simp [AM.run] at h1
omit g in
theorem run_load_box {t : TypeId} {b o : Nat} {vs : List Value} {ty : TypeId} (hb : w.heap[b]? = some (.cells vs.toArray ty (0, 0))) (hag : isAggT P t = some true) (hl : ((vs.drop o).take (szOf P t)).length = szOf P t) (h0 : (P.info? t).isSome = true) : (Instr.loadAt t (.pointer (some ⟨b, o, none⟩))).run P w = .ok (.agg ((vs.drop o).take (szOf P t)).toArray) w := by
  obtain ⟨d, hd1, hd2⟩ := isAggT_true hag
  refine run_loadAt_mid w b o t _ d (fun j u hu => ?_) hd1 hd2 ?_
  · rw [List.getElem?_take] at hu
    split at hu
    · rw [cell_at hb]
      simpa using hu
    · cases hu
  · rw [hl]
    cases hq : P.info? t with
    | none => simp [hq] at h0
    | some i => simp [szOf, hq]
omit g in
theorem isAggT_info {t : TypeId} {b : Bool} (h : isAggT P t = some b) : (P.info? t).isSome = true := by
  unfold isAggT at h
  split at h <;> first | (cases h; done) | skip
  all_goals
    rename_i e
    unfold Program.underlying at e
    split at e <;> first | (cases e; done) | simp_all
omit g in
theorem loadP_run (R : RelH w0 G W0 h μ w) {t : TypeId} {vp : AV} {pu : Value} (r1 : RepA w (WrOf h μ W0) μ vp pu) (h1 : (loadP P t vp).run env h = some (v, q, h')) (hq : q) : h' = h ∧ (∃ ad, pu = .pointer (some ad)) ∧ ∃ u, (Instr.loadAt t pu).run P w = .ok u w ∧ RepA w (WrOf h μ W0) μ v u := by
  unfold loadP at h1
  split at h1
  · rename_i o1 i off k
    obtain ⟨b, hb, he⟩ : ∃ b, At μ o1 b ∧ pu = .pointer (some ⟨b, i * k + off, none⟩) := r1
    subst he
    simp only [AM.run] at h1
    split at h1
    · rename_i x hx
      have hob := R.obj o1 x hx
      split at h1
      · rename_i cs ty
        obtain ⟨b', vs, k1, k2, k3⟩ := hob
        have : b = b' := hb.uniq ⟨_, k1, rfl⟩
        subst this
        split at h1
        · rename_i hi0
          have hi0 := Nat.eq_of_beq_eq_true hi0
          subst hi0
          rw [Nat.zero_mul, Nat.zero_add]
          split at h1
          · rename_i hag
            split at h1
            · rename_i hl
              have hl := Nat.eq_of_beq_eq_true hl
              simp only [AM.run, Option.some.injEq, Prod.mk.injEq] at h1
              obtain ⟨rfl, rfl, rfl⟩ := h1
              have hs := k3.sub off (szOf P t)
              exact ⟨rfl, ⟨_, rfl⟩, _, run_load_box k2 hag (by rw [← hs.1, hl]) (isAggT_info hag), ⟨_, rfl, hs⟩⟩
            · simp [AM.run] at h1
          · rename_i hag
            split at h1
            · rename_i c hc
              simp only [AM.run, Option.some.injEq, Prod.mk.injEq] at h1
              obtain ⟨rfl, rfl, rfl⟩ := h1
              obtain ⟨u, hu, ru⟩ := k3.get hc
              exact ⟨rfl, ⟨_, rfl⟩, _, run_load1 hag (by rw [cell_at k2]; simpa using hu), ru.2⟩
            · simp [AM.run] at h1
          · simp [AM.run] at h1
        · simp [AM.run] at h1
      · rename_i es k' ty fz
        obtain ⟨u, vs, k1, k2, k3, k4⟩ := hob
        split at h1
        · rename_i hk
          have hk := Nat.eq_of_beq_eq_true hk
          subst hk
          have hcell : ∀ j, i < es.length → j < k → ∃ v, w.cell? ⟨b, 0 + i * k + j, none⟩ = some v ∧ RepD w (WrOf h μ W0) ((es.getD i []).getD j dz) v := fun j hi hj => by
            have hx : (es[i]?).bind (·[j]?) = some ((es.getD i []).getD j dz) := by
              have e1 : es[i]? = some es[i] := List.getElem?_eq_getElem hi
              have hl : j < es[i].length := by rw [k3 _ (List.getElem_mem hi)]; exact hj
              simp [e1, List.getD, hl]
            have hf := flatG_get es i j k3 hj
            rw [hx] at hf
            obtain ⟨y, hy, ry⟩ := k4.get hf
            refine ⟨y, ?_, ry⟩
            rcases k2.2 with ⟨rfl, hn⟩ | ⟨gg, cap, cur, rfl, _, hg, hnc, hcm, hcs, htk⟩
            · omega
            · have : b = gg := hb.uniq ⟨_, k1, rfl⟩
              subst this
              rw [cell_at hg, Nat.zero_add]
              rw [← htk, List.getElem?_take] at hy
              split at hy
              · simpa using hy
              · cases hy
          obtain ⟨rfl, u', hu1, hu2⟩ := loadE_run (μ := μ) h1 hq hcell k3
          rw [Nat.zero_add] at hu1
          exact ⟨rfl, ⟨_, rfl⟩, u', hu1, hu2⟩
        · simp [AM.run] at h1
    · cases h1
  · rename_i es i off k
    obtain ⟨b, o0, n, c, r2, hk, hi, he⟩ : ∃ b o0 n c, RepD w (WrOf h μ W0) (.row es) (.slice (some ⟨b, o0, none⟩) n c) ∧ (∀ e ∈ es, e.length = k) ∧ i < es.length ∧ pu = .pointer (some ⟨b, o0 + i * k + off, none⟩) := r1
    subst he
    obtain ⟨rfl, u', hu1, hu2⟩ := loadE_run (μ := μ) h1 hq (fun j hi hj => r2.cells hk hi hj) hk
    exact ⟨rfl, ⟨_, rfl⟩, u', hu1, hu2⟩
  · simp [AM.run] at h1
theorem out_load {t : TypeId} {p : Operand} (ho : o.op = .load t p) (hr : (aop P sp nid o).run env h = some (v, q, h')) (hq : q) : Out P w0 G W0 h μ w (execOp a.eval o) v h' := by
  simp only [aop, ho] at hr
  obtain ⟨vp, h1, r1⟩ := aev_run g hr
  simp only [execOp, ho]
  obtain ⟨rfl, _, u, hu1, hu2⟩ := loadP_run g.rel r1 h1 hq
  exact Out.pure g.rel (run_v hu1) hu2
theorem out_nilCheck {x : Operand} (ho : o.op = .nilCheck x) (hr : (aop P sp nid o).run env h = some (v, q, h')) (hq : q) : Out P w0 G W0 h μ w (execOp a.eval o) v h' := by
  simp only [aop, ho] at hr
  obtain ⟨vx, h1, r1⟩ := aev_run g hr
  split at h1
  · simp only [AM.run, Option.some.injEq, Prod.mk.injEq] at h1
    obtain ⟨rfl, rfl, rfl⟩ := h1
    obtain ⟨b, hb, he⟩ := id r1
    exact Out.pure g.rel (u := a.eval x) (by simp [execOp, ho, he]) r1
  · simp only [AM.run, Option.some.injEq, Prod.mk.injEq] at h1
    obtain ⟨rfl, rfl, rfl⟩ := h1
    obtain ⟨b, o0, n, c, _, _, _, he⟩ := id r1
    exact Out.pure g.rel (u := a.eval x) (by simp [execOp, ho, he]) r1
  · simp only [AM.run, Option.some.injEq, Prod.mk.injEq] at h1
    obtain ⟨rfl, rfl, rfl⟩ := h1
    obtain ⟨ps, he, _⟩ := id r1
    exact Out.pure g.rel (u := a.eval x) (by simp [execOp, ho, he]) r1
  · simp [AM.run] at h1
omit g in
theorem fieldOf_parts {s : TypeId} {f fo : Nat} {ft : TypeId} (hf : fieldOf P s f = some (fo, ft)) : ∃ fs x i, P.underlying s = some (.struct fs) ∧ fs[f]? = some x ∧ x.offset = fo ∧ x.type = ft ∧ P.info? ft = some i ∧ i.size = szOf P ft ∧ szOf P ft ≠ 0 := by
  unfold fieldOf at hf
  split at hf
  · rename_i fs hs
    split at hf
    · rename_i x hx
      split at hf
      · cases hf
      · rename_i hz
        simp only [Option.some.injEq, Prod.mk.injEq] at hf
        obtain ⟨rfl, rfl⟩ := hf
        have hz' : szOf P x.type ≠ 0 := fun e => by rw [e] at hz; simp at hz
        cases hi : P.info? x.type with
        | none => simp [szOf, hi] at hz'
        | some i => exact ⟨fs, x, i, hs, hx, rfl, rfl, rfl, by simp [szOf, hi], hz'⟩
    · cases hf
  · cases hf
theorem out_fieldAddr {s : TypeId} {x : Operand} {f : Nat} (ho : o.op = .fieldAddr s x f) (hr : (aop P sp nid o).run env h = some (v, q, h')) (hq : q) : Out P w0 G W0 h μ w (execOp a.eval o) v h' := by
  simp only [aop, ho] at hr
  obtain ⟨vx, h1, r1⟩ := aev_run g hr
  split at h1
  · rename_i fo ft hf
    obtain ⟨fs, y, i, e1, e2, e3, e4, e5, e6, e7⟩ := fieldOf_parts hf
    have hrun : ∀ ad : Addr, (Instr.fieldAt s (.pointer (some ad)) f).run P w = .ok (.pointer (some (ad.add fo))) w := fun ad => by
      have hs : (sizeOf y.type).run P w = .ok (szOf P ft) w := by rw [e4, ← e6]; simp [sizeOf, typeInfo, e5]
      simp [Instr.fieldAt, run_underlying e1, e2, Instr.sureAddr, fieldPlace, hs, e7, e3]
    simp only [execOp, ho]
    split at h1
    · rename_i o1 i1 off k
      simp only [AM.run, Option.some.injEq, Prod.mk.injEq] at h1
      obtain ⟨rfl, rfl, rfl⟩ := h1
      obtain ⟨b, hb, he⟩ := id r1
      rw [he]
      exact Out.pure g.rel (run_v (hrun _)) ⟨b, hb, by rw [Addr.add_mid, Nat.add_assoc]⟩
    · rename_i es i1 off k
      simp only [AM.run, Option.some.injEq, Prod.mk.injEq] at h1
      obtain ⟨rfl, rfl, rfl⟩ := h1
      obtain ⟨b, o0, n, c, r2, hk, hi, he⟩ := id r1
      rw [he]
      exact Out.pure g.rel (run_v (hrun _)) ⟨b, o0, n, c, r2, hk, hi, by rw [Addr.add_mid, Nat.add_assoc]⟩
    · simp [AM.run] at h1
  · simp [AM.run] at h1
theorem out_field {s : TypeId} {x : Operand} {f : Nat} (ho : o.op = .field s x f) (hr : (aop P sp nid o).run env h = some (v, q, h')) (hq : q) : Out P w0 G W0 h μ w (execOp a.eval o) v h' := by
  simp only [aop, ho] at hr
  obtain ⟨vx, h1, r1⟩ := aev_run g hr
  simp only [execOp, ho]
  split at h1
  · rename_i fo ft cs hf
    obtain ⟨fs, y, i, e1, e2, e3, e4, e5, e6, e7⟩ := fieldOf_parts hf
    obtain ⟨vs, he, hvs⟩ : ∃ vs : List Value, a.eval x = .agg vs.toArray ∧ All2 (RepK w (WrOf h μ W0) μ) cs vs := r1
    rw [he]
    have hs : (sizeOf ft).run P w = .ok (szOf P ft) w := by rw [← e6]; simp [sizeOf, typeInfo, e5]
    split at h1
    · rename_i hag
      split at h1
      · rename_i hl
        have hl := Nat.eq_of_beq_eq_true hl
        simp only [AM.run, Option.some.injEq, Prod.mk.injEq] at h1
        obtain ⟨rfl, rfl, rfl⟩ := h1
        have ha : (isAgg ft).run P w = .ok true w := by
          obtain ⟨d, hd1, hd2⟩ := isAggT_true hag
          unfold isAgg
          rw [Sem.run_bind, run_underlying hd1 w]
          cases d <;> simp_all
        refine Out.pure g.rel (run_v (u := .agg ((vs.drop fo).take (szOf P ft)).toArray) ?_) ⟨_, rfl, hvs.sub fo (szOf P ft)⟩
        simp [Instr.field, run_underlying e1, e2, part, asAgg, e3, e4, ha, hs, List.take_drop]
      · simp [AM.run] at h1
    · rename_i hag
      split at h1
      · rename_i c hc
        simp only [AM.run, Option.some.injEq, Prod.mk.injEq] at h1
        obtain ⟨rfl, rfl, rfl⟩ := h1
        obtain ⟨u, hu, ru⟩ := hvs.get hc
        refine Out.pure g.rel (run_v (u := u) ?_) ru.2
        simp [Instr.field, run_underlying e1, e2, part, asAgg, e3, e4, isAggT_false hag, hu]
      · simp [AM.run] at h1
    · simp [AM.run] at h1
  · simp [AM.run] at h1
theorem out_extract {x : Operand} {i : Nat} (ho : o.op = .extract x i) (hr : (aop P sp nid o).run env h = some (v, q, h')) (hq : q) : Out P w0 G W0 h μ w (execOp a.eval o) v h' := by
  simp only [aop, ho] at hr
  obtain ⟨vx, h1, r1⟩ := aev_run g hr
  simp only [execOp, ho]
  split at h1
  · rename_i vs
    obtain ⟨us, he, hus⟩ : ∃ us : List Value, a.eval x = .tuple us.toArray ∧ All2 (RepS w (WrOf h μ W0) μ) vs us := r1
    rw [he]
    split at h1
    · rename_i u hu
      simp only [AM.run, Option.some.injEq, Prod.mk.injEq] at h1
      obtain ⟨rfl, rfl, rfl⟩ := h1
      obtain ⟨y, hy, ry⟩ := hus.get hu
      exact Out.pure g.rel (run_v (u := y) (by simp [Instr.extract, hy])) (RepA.ofS ry)
    · simp [AM.run] at h1
  · simp [AM.run] at h1
end
end Go.Proofs.YtpgeopefamomnaeGreat

