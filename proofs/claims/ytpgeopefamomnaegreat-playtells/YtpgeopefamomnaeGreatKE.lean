/- Deep16 Deep17 Deep18 Deep19 DeepInl2 DeepInl3 DeepBor. -/
import Derived.Test.YtpgeopefamomnaeGreatKD
set_option linter.unusedSimpArgs false
set_option linter.unusedSectionVars false
namespace Go.Proofs.YtpgeopefamomnaeGreat
open Go.RowKit
set_option linter.unusedVariables false
/-- THE FRAME: what a function does with what it is given it does among all that its caller owns. -/
theorem frame {P : Program} {K : FuncId} {xs : List AV} {v : AV} {l0 objs : List (Nat × OS)} {ρ : Nat → Nat} (F : FunOK P K xs (hOf l0) v (hOf objs)) {w0 w : World} {G W0 : Nat → Prop} {h : AH} {μ : Mu} {args : Array Value}
    (R : RelH w0 G W0 h μ w) (hargs : All2 (RepA w (WrOf h μ W0) μ) (xs.map (renA ρ)) args.toList)
    (c1 : ∀ p ∈ l0, h (ρ p.1) = renOS ρ p.2 ∧ ∃ x, p.2 = .live x ∧ hOf l0 p.1 = .live x) (c2 : closedO l0 = true) (c3 : ∀ x ∈ xs, (namesA x).all (inB l0) = true)
    (c4 : ∀ i j, inB objs i = true → inB objs j = true → ρ i = ρ j → i = j) (c5 : ∀ j, inB l0 j = true → inB objs j = true) (c6 : ∀ j, inB objs j = true → inB l0 j = false → h (ρ j) = .unused) (c7 : ∀ p ∈ objs, p.2 ≠ .unused) :
    CallsTo P w0 G W0 h μ w K args (renA ρ v) (setO ρ objs h) := by
  have live0 : ∀ j x, hOf l0 j = .live x → h (ρ j) = .live (renO ρ x) ∧ inB l0 j = true := fun j x hx => by
    have hm := hOf_mem hx (by simp)
    exact ⟨(c1 _ hm).1, mem_inB hm⟩
  have in0 : ∀ j, inB l0 j = true → ∃ x, hOf l0 j = .live x := fun j hj => by
    obtain ⟨x, hx⟩ := inB_mem hj
    obtain ⟨_, y, _, h2⟩ := c1 _ hx
    exact ⟨y, h2⟩
  have nun0 : ∀ p ∈ l0, p.2 ≠ .unused := fun p hp e => by
    obtain ⟨_, y, h1, _⟩ := c1 p hp
    rw [h1] at e
    cases e
  let μc : Mu := fun j => match inB l0 j with
    | true => μ (ρ j)
    | false => none
  let Gc : Nat → Prop := fun b => ∃ j x, hOf l0 j = .live x ∧ At μ (ρ j) b
  let W0c : Nat → Prop := fun b => WrOf h μ W0 b ∧ ¬ Gc b
  have hμc : ∀ j, inB l0 j = true → μc j = μ (ρ j) := fun j hj => by simp only [μc, hj]
  have hμc' : ∀ j u, μc j = some u → inB l0 j = true ∧ μ (ρ j) = some u := fun j u hu => by
    simp only [μc] at hu
    split at hu
    · exact ⟨‹_›, hu⟩
    · cases hu
  have atc : ∀ j b, At μc j b → inB l0 j = true ∧ At μ (ρ j) b := fun j b ⟨u, h1, h2⟩ => ⟨(hμc' j u h1).1, u, (hμc' j u h1).2, h2⟩
  have atc' : ∀ j b, inB l0 j = true → At μ (ρ j) b → At μc j b := fun j b hj ⟨u, h1, h2⟩ => ⟨u, by rw [hμc j hj]; exact h1, h2⟩
  have wr1 : ∀ b, WrOf (hOf l0) μc W0c b → WrOf h μ W0 b := fun b hb => by
    rcases hb with hb | ⟨j, x, h1, h2, h3⟩
    · exact hb.1
    · exact .inr ⟨ρ j, _, (live0 j x h1).1, by rw [renO_fz]; exact h2, (atc j b h3).2⟩
  have wr2 : ∀ b, WrOf h μ W0 b → WrOf (hOf l0) μc W0c b := fun b hb => by
    by_cases hg : Gc b
    · obtain ⟨j, x, h1, h2⟩ := hg
      obtain ⟨h3, h4⟩ := live0 j x h1
      rcases hb with hb | ⟨o, y, k1, k2, k3⟩
      · exact absurd hb (R.apart _ _ b h3 h2).1
      · have := R.inj o (ρ j) y _ b k1 h3 k3 h2
        subst this
        rw [h3] at k1
        cases k1
        rw [renO_fz] at k2
        exact .inr ⟨j, x, h1, k2, atc' j b h4 h2⟩
    · exact .inl ⟨hb, hg⟩
  have kp : Keeps w w (WrOf h μ W0) (WrOf (hOf l0) μc W0c) := fun b _ hn => ⟨fun hb => hn (wr1 b hb), rfl⟩
  have kp' : Keeps w w (WrOf (hOf l0) μc W0c) (WrOf h μ W0) := fun b _ hn => ⟨fun hb => hn (wr2 b hb), rfl⟩
  have inj0 : ∀ i j, inB l0 i = true → inB l0 j = true → ρ i = ρ j → i = j := fun i j hi hj => c4 i j (c5 i hi) (c5 j hj)
  have Rc : RelH w Gc W0c (hOf l0) μc w := by
    refine ⟨fun j x hx => ?_, fun i j x y b hx hy ha hb => ?_, fun j hj => ?_, fun j x b hx ha => ⟨fun hw => hw.2 ⟨j, x, hx, (atc j b ha).2⟩, .inr ⟨j, x, hx, (atc j b ha).2⟩⟩, fun b hb => ?_, rfl, rfl, rfl, Nat.le_refl _, fun _ _ _ => rfl⟩
    · obtain ⟨h1, h2⟩ := live0 j x hx
      have hm := hOf_mem hx (by simp)
      have hob := R.obj _ _ h1
      cases x with
      | box cs ty =>
        obtain ⟨b, vs, k1, k2, k3⟩ := hob
        have hc := List.all_eq_true.1 c2 _ hm
        refine ⟨b, vs, by rw [hμc j h2]; exact k1, k2, (All2.map_left.1 k3).mono_mem fun c v hcm ⟨m1, m2⟩ => ⟨by rw [renC_ok] at m1; exact m1, m2.unren kp fun o ho => hμc o ?_⟩⟩
        exact List.all_eq_true.1 hc o (List.mem_flatMap.2 ⟨c, hcm, ho⟩)
      | row es kk ty fz =>
        obtain ⟨v, vs, k1, k2, k3, k4⟩ := hob
        exact ⟨v, vs, by rw [hμc j h2]; exact k1, k2, k3, k4.mono fun _ _ h => h.mono kp⟩
    · exact inj0 i j (live0 i x hx).2 (live0 j y hy).2 (R.inj _ _ _ _ b (live0 i x hx).1 (live0 j y hy).1 (atc i b ha).2 (atc j b hb).2)
    · simp only [μc, hOf_none nun0 hj]
    · rcases hb.1 with h1 | ⟨o, x, h1, _, h2⟩
      · have := R.w0lt b h1; have := R.size; omega
      · exact (R.obj o x h1).lt h2
  have Ac : All2 (RepA w (WrOf (hOf l0) μc W0c) μc) xs args.toList := (All2.map_left.1 hargs).mono_mem fun x u hx hr => hr.unren kp fun o ho => hμc o (List.all_eq_true.1 (c3 x hx) o ho)
  refine Calls.mono (F w Gc W0c μc args Rc Ac) fun e w' ⟨u, μ', he, R', hm', hk', hv'⟩ => ?_
  have nm : ∀ j u, μ' j = some u → inB objs j = true := fun j u hu => by
    cases hb : inB objs j with
    | true => rfl
    | false =>
      have : hOf objs j = .unused := by
        rcases hoc : hOf objs j with _ | x | _
        · rfl
        · exact absurd (mem_inB (hOf_mem hoc (by simp))) (by rw [hb]; simp)
        · exact absurd (mem_inB (hOf_mem hoc (by simp))) (by rw [hb]; simp)
      rw [R'.unused j this] at hu
      cases hu
  let μ2 : Mu := fun o => match invO ρ objs o with
    | some j => μ' j
    | none => μ o
  have m2in : ∀ j, inB objs j = true → μ2 (ρ j) = μ' j := fun j hj => by simp only [μ2, invO_in c4 hj]
  have h2in : ∀ j, inB objs j = true → setO ρ objs h (ρ j) = renOS ρ (hOf objs j) := fun j hj => setO_in (fun i hi => c4 i j hi hj) hj
  have h2out : ∀ o, invO ρ objs o = none → setO ρ objs h o = h o ∧ μ2 o = μ o := fun o ho => ⟨setO_out (invO_none ho), by simp only [μ2, ho]⟩
  have mle : MuLe μ μ2 := fun o u hu => by
    cases hi : invO ρ objs o with
    | none => rw [(h2out o hi).2]; exact hu
    | some j =>
      obtain ⟨rfl, hj⟩ := invO_some hi
      rw [m2in j hj]
      cases hb : inB l0 j with
      | true => exact hm' j u (by rw [hμc j hb]; exact hu)
      | false => rw [R.unused _ (c6 j hj hb)] at hu; cases hu
  have live2 : ∀ o x, setO ρ objs h o = .live x → (∃ j y, invO ρ objs o = some j ∧ ρ j = o ∧ inB objs j = true ∧ hOf objs j = .live y ∧ x = renO ρ y) ∨ (invO ρ objs o = none ∧ h o = .live x) := fun o x hx => by
    cases hi : invO ρ objs o with
    | none => exact .inr ⟨rfl, by rw [← (h2out o hi).1]; exact hx⟩
    | some j =>
      obtain ⟨rfl, hj⟩ := invO_some hi
      rw [h2in j hj] at hx
      cases hy : hOf objs j with
      | live y => rw [hy] at hx; cases hx; exact .inl ⟨j, y, rfl, rfl, hj, hy, rfl⟩
      | dead => rw [hy] at hx; cases hx
      | unused => rw [hy] at hx; cases hx
  have at2 : ∀ j b, inB objs j = true → At μ2 (ρ j) b → At μ' j b := fun j b hj ⟨u, k1, k2⟩ => ⟨u, by rw [← m2in j hj]; exact k1, k2⟩
  have at3 : ∀ o b, invO ρ objs o = none → At μ2 o b → At μ o b := fun o b ho ⟨u, k1, k2⟩ => ⟨u, by rw [← (h2out o ho).2]; exact k1, k2⟩
  have noG : ∀ o x b, invO ρ objs o = none → h o = .live x → At μ o b → ¬ Gc b := fun o x b ho hx ha ⟨j, y, h1, h2⟩ => by
    have := R.inj o (ρ j) x _ b hx (live0 j y h1).1 ha h2
    exact invO_none ho j (c5 j (live0 j y h1).2) this.symm
  have wr3 : ∀ b, WrOf (setO ρ objs h) μ2 W0 b → WrOf (hOf objs) μ' W0c b := fun b hb => by
    rcases hb with hb | ⟨o, x, h1, h2, h3⟩
    · exact .inl ⟨.inl hb, fun ⟨j, y, k1, k2⟩ => (R.apart _ _ b (live0 j y k1).1 k2).1 hb⟩
    · rcases live2 o x h1 with ⟨j, y, k1, rfl, k3, k4, rfl⟩ | ⟨k1, k2⟩
      · rw [renO_fz] at h2
        exact .inr ⟨j, y, k4, h2, at2 j b k3 h3⟩
      · exact .inl ⟨.inr ⟨o, x, k2, h2, at3 o b k1 h3⟩, noG o x b k1 k2 (at3 o b k1 h3)⟩
  have kp3 : Keeps w' w' (WrOf (hOf objs) μ' W0c) (WrOf (setO ρ objs h) μ2 W0) := fun b _ hn => ⟨fun hb => hn (wr3 b hb), rfl⟩
  have kall : Keeps w w' (WrOf h μ W0) (WrOf (setO ρ objs h) μ2 W0) := (kp.trans hk' (Nat.le_refl _)).trans kp3 R'.size
  have ren2 : ∀ o u, μ' o = some u → μ2 (ρ o) = some u := fun o u hu => by rw [m2in o (nm o u hu)]; exact hu
  refine ⟨u, μ2, he, ⟨fun o x hx => ?_, fun o o' x x' b hx hx' ha ha' => ?_, fun o ho => ?_, fun o x b hx ha => ?_, R.w0lt, R'.os.trans R.os, R'.tape.trans R.tape, R'.output.trans R.output, Nat.le_trans R.size R'.size, fun b hb hg => ?_⟩, mle, kall, hv'.ren kp3 ren2⟩
  · rcases live2 o x hx with ⟨j, y, k1, rfl, k3, k4, rfl⟩ | ⟨k1, k2⟩
    · have hob := R'.obj j y k4
      cases y with
      | box cs ty =>
        obtain ⟨b, vs, p1, p2, p3⟩ := hob
        exact ⟨b, vs, ren2 _ _ p1, p2, All2.map_left.2 (p3.mono fun c v ⟨m1, m2⟩ => ⟨by rw [renC_ok]; exact m1, m2.ren kp3 ren2⟩)⟩
      | row es kk ty fz =>
        obtain ⟨v, vs, p1, p2, p3, p4⟩ := hob
        exact ⟨v, vs, ren2 _ _ p1, p2, p3, p4.mono fun _ _ h => h.mono kp3⟩
    · exact (R.obj o x k2).mono kall mle fun b ha => R'.kept b ((R.obj o x k2).lt ha) (noG o x b k1 k2 ha)
  · have mix : ∀ o o' x x', setO ρ objs h o = .live x → setO ρ objs h o' = .live x' → At μ2 o b → At μ2 o' b → ∀ j y, invO ρ objs o = some j → ρ j = o → inB objs j = true → hOf objs j = .live y → invO ρ objs o' = none → h o' = .live x' → False := fun o o' x x' hx hx' ha ha' j y k1 k2 k3 k4 l1 l2 => by
      subst k2
      have hb := at3 o' b l1 ha'
      have hlt := (R.obj o' x' l2).lt hb
      rcases (R'.apart j y b k4 (at2 j b k3 ha)).2 with h5 | h5
      · omega
      · exact noG o' x' b l1 l2 hb h5
    rcases live2 o x hx with ⟨j, y, k1, k2, k3, k4, k5⟩ | ⟨k1, k2⟩
    · rcases live2 o' x' hx' with ⟨j', y', l1, l2, l3, l4, l5⟩ | ⟨l1, l2⟩
      · subst k2
        subst l2
        rw [R'.inj j j' y y' b k4 l4 (at2 j b k3 ha) (at2 j' b l3 ha')]
      · exact (mix o o' x x' hx hx' ha ha' j y k1 k2 k3 k4 l1 l2).elim
    · rcases live2 o' x' hx' with ⟨j', y', l1, l2, l3, l4, l5⟩ | ⟨l1, l2⟩
      · exact (mix o' o x' x hx' hx ha' ha j' y' l1 l2 l3 l4 k1 k2).elim
      · exact R.inj o o' x x' b k2 l2 (at3 o b k1 ha) (at3 o' b l1 ha')
  · cases hi : invO ρ objs o with
    | none => rw [(h2out o hi).2]; rw [(h2out o hi).1] at ho; exact R.unused o ho
    | some j =>
      obtain ⟨rfl, hj⟩ := invO_some hi
      rw [h2in j hj] at ho
      rw [m2in j hj]
      refine R'.unused j ?_
      cases hy : hOf objs j with
      | live y => rw [hy] at ho; cases ho
      | dead => rw [hy] at ho; cases ho
      | unused => rfl
  · rcases live2 o x hx with ⟨j, y, k1, rfl, k3, k4, rfl⟩ | ⟨k1, k2⟩
    · rcases (R'.apart j y b k4 (at2 j b k3 ha)).2 with h5 | ⟨j0, y0, h5, h6⟩
      · have := R.size
        exact ⟨fun hw => by have := R.w0lt b hw; omega, .inl (by omega)⟩
      · exact R.apart _ _ b (live0 j0 y0 h5).1 h6
    · exact R.apart o x b k2 (at3 o b k1 ha)
  · rw [R'.kept b (Nat.lt_of_lt_of_le hb R.size) fun ⟨j, y, h5, h6⟩ => ?_]
    · exact R.kept b hb hg
    · rcases (R.apart _ _ b (live0 j y h5).1 h6).2 with h7 | h7
      · omega
      · exact hg h7
end Go.Proofs.YtpgeopefamomnaeGreat

namespace Go.Proofs.YtpgeopefamomnaeGreat
open Go.RowKit
set_option linter.unusedVariables false
def posI : List Nat → Nat → Option Nat
  | [], _ => none
  | x :: r, o => match Nat.beq x o with
    | true => some 0
    | false => match posI r o with
      | some i => some (i + 1)
      | none => none
/-- A name's place, and the names with it. -/
def posN (l : List Nat) (o : Nat) : List Nat × Nat := match posI l o with
  | some i => (l, i)
  | none => (l ++ [o], l.length)
theorem posI_some : ∀ {l : List Nat} {o i : Nat}, posI l o = some i → l[i]? = some o
  | [], o, i, h => by cases h
  | x :: r, o, i, h => by
    simp only [posI] at h
    split at h
    · rename_i hb
      simp at h
      subst h
      simp [Nat.eq_of_beq_eq_true hb]
    · split at h
      · rename_i i' hi
        simp at h
        subst h
        simpa using posI_some hi
      · cases h
def Agree (ρ : Nat → Nat) (l : List Nat) : Prop := ∀ (j : Nat) x, l[j]? = some x → ρ j = x
theorem Agree.left {ρ : Nat → Nat} {l e : List Nat} (h : Agree ρ (l ++ e)) : Agree ρ l := fun j x hj => h j x (by rw [List.getElem?_append_left (List.getElem?_eq_some_iff.1 hj).1]; exact hj)
theorem posN_spec (l : List Nat) (o : Nat) : (∃ e, (posN l o).1 = l ++ e) ∧ ∀ ρ, Agree ρ (posN l o).1 → ρ (posN l o).2 = o := by
  unfold posN
  split
  · rename_i i hi
    exact ⟨⟨[], by simp⟩, fun ρ h => h _ _ (posI_some hi)⟩
  · exact ⟨⟨[o], rfl⟩, fun ρ h => h _ _ (by simp)⟩
def canNs (l : List Nat) : List Nat → List Nat × List Nat
  | [] => (l, [])
  | o :: r => match posN l o with
    | (l1, i) => match canNs l1 r with
      | (l2, is) => (l2, i :: is)
theorem canNs_spec : ∀ (ns l : List Nat), (∃ e, (canNs l ns).1 = l ++ e) ∧ ∀ ρ, Agree ρ (canNs l ns).1 → (canNs l ns).2.map ρ = ns
  | [], l => ⟨⟨[], by simp [canNs]⟩, fun _ _ => rfl⟩
  | o :: r, l => by
    simp only [canNs]
    obtain ⟨⟨e1, h1⟩, h2⟩ := posN_spec l o
    obtain ⟨⟨e2, h3⟩, h4⟩ := canNs_spec r (posN l o).1
    refine ⟨⟨e1 ++ e2, by rw [h3, h1, List.append_assoc]⟩, fun ρ ha => ?_⟩
    simp only [List.map_cons]
    rw [h4 ρ ha, h2 ρ (by rw [h3] at ha; exact ha.left)]
def canC (l : List Nat) : CV → List Nat × CV
  | .own o => match posN l o with
    | (l1, i) => (l1, .own i)
  | .ptr o i off k => match posN l o with
    | (l1, j) => (l1, .ptr j i off k)
  | .clo f caps => match canNs l caps with
    | (l1, is) => (l1, .clo f is)
  | c => (l, c)
theorem canC_spec (l : List Nat) (c : CV) : (∃ e, (canC l c).1 = l ++ e) ∧ ∀ ρ, Agree ρ (canC l c).1 → renC ρ (canC l c).2 = c := by
  cases c with
  | own o =>
    obtain ⟨h1, h2⟩ := posN_spec l o
    exact ⟨h1, fun ρ h => by simp only [canC, renC]; rw [h2 ρ h]⟩
  | ptr o i off k =>
    obtain ⟨h1, h2⟩ := posN_spec l o
    exact ⟨h1, fun ρ h => by simp only [canC, renC]; rw [h2 ρ h]⟩
  | clo f caps =>
    obtain ⟨h1, h2⟩ := canNs_spec caps l
    exact ⟨h1, fun ρ h => by simp only [canC, renC]; rw [h2 ρ h]⟩
  | d x => exact ⟨⟨[], by simp [canC]⟩, fun _ _ => rfl⟩
  | nils => exact ⟨⟨[], by simp [canC]⟩, fun _ _ => rfl⟩
  | dp es i off k => exact ⟨⟨[], by simp [canC]⟩, fun _ _ => rfl⟩
  | undef => exact ⟨⟨[], by simp [canC]⟩, fun _ _ => rfl⟩
def canCs (l : List Nat) : List CV → List Nat × List CV
  | [] => (l, [])
  | c :: r => match canC l c with
    | (l1, c1) => match canCs l1 r with
      | (l2, cs) => (l2, c1 :: cs)
theorem canCs_spec : ∀ (cs : List CV) (l : List Nat), (∃ e, (canCs l cs).1 = l ++ e) ∧ ∀ ρ, Agree ρ (canCs l cs).1 → (canCs l cs).2.map (renC ρ) = cs
  | [], l => ⟨⟨[], by simp [canCs]⟩, fun _ _ => rfl⟩
  | c :: r, l => by
    simp only [canCs]
    obtain ⟨⟨e1, h1⟩, h2⟩ := canC_spec l c
    obtain ⟨⟨e2, h3⟩, h4⟩ := canCs_spec r (canC l c).1
    refine ⟨⟨e1 ++ e2, by rw [h3, h1, List.append_assoc]⟩, fun ρ ha => ?_⟩
    simp only [List.map_cons]
    rw [h4 ρ ha, h2 ρ (by rw [h3] at ha; exact ha.left)]
def canA (l : List Nat) : AV → List Nat × AV
  | .c x => match canC l x with
    | (l1, c) => (l1, .c c)
  | .agg cs => match canCs l cs with
    | (l1, c) => (l1, .agg c)
  | .tup _ => (l, .c .undef)
theorem canA_spec (l : List Nat) (x : AV) : (∃ e, (canA l x).1 = l ++ e) ∧ ∀ ρ, Agree ρ (canA l x).1 → ∀ (w : World) (Wr : Nat → Prop) (μ : Mu) (u : Value), RepA w Wr μ x u → RepA w Wr μ (renA ρ (canA l x).2) u := by
  cases x with
  | c x =>
    obtain ⟨h1, h2⟩ := canC_spec l x
    exact ⟨h1, fun ρ h w Wr μ u hr => by simp only [canA, renA]; rw [h2 ρ h]; exact hr⟩
  | agg cs =>
    obtain ⟨h1, h2⟩ := canCs_spec cs l
    exact ⟨h1, fun ρ h w Wr μ u hr => by simp only [canA, renA]; rw [h2 ρ h]; exact hr⟩
  | tup vs => exact ⟨⟨[], by simp [canA]⟩, fun ρ h w Wr μ u hr => trivial⟩
def canAs (l : List Nat) : List AV → List Nat × List AV
  | [] => (l, [])
  | c :: r => match canA l c with
    | (l1, c1) => match canAs l1 r with
      | (l2, cs) => (l2, c1 :: cs)
theorem canAs_spec : ∀ (xs : List AV) (l : List Nat), (∃ e, (canAs l xs).1 = l ++ e) ∧ ∀ ρ, Agree ρ (canAs l xs).1 → ∀ (w : World) (Wr : Nat → Prop) (μ : Mu) (us : List Value), All2 (RepA w Wr μ) xs us → All2 (RepA w Wr μ) ((canAs l xs).2.map (renA ρ)) us
  | [], l => ⟨⟨[], by simp [canAs]⟩, fun _ _ _ _ _ _ h => h⟩
  | c :: r, l => by
    simp only [canAs]
    obtain ⟨⟨e1, h1⟩, h2⟩ := canA_spec l c
    obtain ⟨⟨e2, h3⟩, h4⟩ := canAs_spec r (canA l c).1
    refine ⟨⟨e1 ++ e2, by rw [h3, h1, List.append_assoc]⟩, fun ρ ha w Wr μ us hu => ?_⟩
    cases us with
    | nil => exact absurd hu.1 (by simp)
    | cons u us => exact All2.cons (h2 ρ (by rw [h3] at ha; exact ha.left) w Wr μ u (hu.2 0 _ _ rfl rfl)) (h4 ρ ha w Wr μ us ⟨by simpa using hu.1, fun i x y hx hy => hu.2 (i + 1) x y hx hy⟩)
def canO (l : List Nat) : AO → List Nat × AO
  | .box cs ty => match canCs l cs with
    | (l1, c) => (l1, .box c ty)
  | x => (l, x)
theorem canO_spec (l : List Nat) (x : AO) : (∃ e, (canO l x).1 = l ++ e) ∧ ∀ ρ, Agree ρ (canO l x).1 → renO ρ (canO l x).2 = x := by
  cases x with
  | box cs ty =>
    obtain ⟨h1, h2⟩ := canCs_spec cs l
    exact ⟨h1, fun ρ h => by simp only [canO, renO]; rw [h2 ρ h]⟩
  | row es k ty f => exact ⟨⟨[], by simp [canO]⟩, fun _ _ => rfl⟩
section
variable {α : Type}
def deepC (c : CV) (k : CV → AM α) : AM α := match c with
  | .own o => deepK (.own o) fun d => k (.d d)
  | .nils => k (.d (.row []))
  | c => k c
def deepCs : List CV → (List CV → AM α) → AM α
  | [], k => k []
  | c :: r, k => deepC c fun x => deepCs r fun xs => k (x :: xs)
def deepA (v : AV) (k : AV → AM α) : AM α := match v with
  | .c x => deepC x fun y => k (.c y)
  | .agg cs => deepCs cs fun ys => k (.agg ys)
  | .tup _ => .fail
def deepAs : List AV → (List AV → AM α) → AM α
  | [], k => k []
  | c :: r, k => deepA c fun x => deepAs r fun xs => k (x :: xs)
/-- All that can be reached from names. -/
def gather : Nat → List Nat → Nat → List (Nat × OS) → (List Nat → List (Nat × OS) → AM α) → AM α
  | 0, _, _, _, _ => .fail
  | f + 1, l, i, acc, k => match l[i]? with
    | none => k l acc
    | some o => .obj o fun x => match canO l x with
      | (l1, y) => gather f l1 (i + 1) (acc ++ [(i, .live y)]) k
def wb (l0 : List (Nat × OS)) (ρ : Nat → Nat) : List (Nat × OS) → AM α → AM α
  | [], k => k
  | (j, x) :: r, k => wb l0 ρ r (match x with
    | .live y => match inB l0 j with
      | true => .put (ρ j) (renO ρ y) k
      | false => .new (ρ j) (renO ρ y) k
    | .dead => match inB l0 j with
      | true => .kill (ρ j) k
      | false => .fail
    | .unused => .fail)
end
section
variable {α : Type} {env : Nat → AV} {w0 w : World} {G W0 : Nat → Prop} {μ : Mu}
theorem deepC_run {h : AH} (R : RelH w0 G W0 h μ w) {c : CV} {u : Value} (hc : RepC w (WrOf h μ W0) μ c u) {k : CV → AM α} {r : α × Prop × AH} (hr : (deepC c k).run env h = some r) :
    ∃ x h1, (k x).run env h1 = some r ∧ RelH w0 G W0 h1 μ w ∧ Keeps w w (WrOf h μ W0) (WrOf h1 μ W0) ∧ RepC w (WrOf h1 μ W0) μ x u ∧ (c.ok = true → x.ok = true) := by
  cases c with
  | own o => obtain ⟨x, h1, a, b, c, d⟩ := deepK_run (k := fun d => k (.d d)) R hc hr; exact ⟨_, h1, a, b, c, d, fun _ => rfl⟩
  | nils => cases hc; exact ⟨_, h, hr, R, Keeps.refl _ _, nil_rep, fun _ => rfl⟩
  | d x => exact ⟨_, h, hr, R, Keeps.refl _ _, hc, id⟩
  | ptr _ _ _ _ => exact ⟨_, h, hr, R, Keeps.refl _ _, hc, id⟩
  | dp _ _ _ _ => exact ⟨_, h, hr, R, Keeps.refl _ _, hc, id⟩
  | clo _ _ => exact ⟨_, h, hr, R, Keeps.refl _ _, hc, id⟩
  | undef => exact ⟨_, h, hr, R, Keeps.refl _ _, hc, id⟩
theorem deepCs_run : ∀ {cs : List CV} {us : List Value} {h : AH}, RelH w0 G W0 h μ w → All2 (RepK w (WrOf h μ W0) μ) cs us → ∀ {k : List CV → AM α} {r : α × Prop × AH}, (deepCs cs k).run env h = some r →
    ∃ xs h1, (k xs).run env h1 = some r ∧ RelH w0 G W0 h1 μ w ∧ Keeps w w (WrOf h μ W0) (WrOf h1 μ W0) ∧ All2 (RepK w (WrOf h1 μ W0) μ) xs us
  | [], us, h, R, hc, k, r, hr => by
    have : us = [] := List.eq_nil_of_length_eq_zero hc.1.symm
    subst this
    exact ⟨[], h, hr, R, Keeps.refl _ _, All2.nil⟩
  | c :: cs, us, h, R, hc, k, r, hr => by
    cases us with
    | nil => exact absurd hc.1 (by simp)
    | cons u us =>
      have hu : RepK w (WrOf h μ W0) μ c u := hc.2 0 c u rfl rfl
      have hus : All2 (RepK w (WrOf h μ W0) μ) cs us := ⟨by simpa using hc.1, fun i x y hx hy => hc.2 (i + 1) x y hx hy⟩
      obtain ⟨x, h1, k1, R1, K1, D1, O1⟩ := deepC_run R hu.2 hr
      obtain ⟨xs, h2, k2, R2, K2, D2⟩ := deepCs_run R1 (hus.mono fun _ _ h => h.mono K1 (MuLe.refl _)) k1
      exact ⟨x :: xs, h2, k2, R2, K1.trans K2 (Nat.le_refl _), All2.cons ⟨O1 hu.1, D1.mono K2 (MuLe.refl _)⟩ D2⟩
theorem deepA_run {h : AH} (R : RelH w0 G W0 h μ w) {c : AV} {u : Value} (hc : RepA w (WrOf h μ W0) μ c u) {k : AV → AM α} {r : α × Prop × AH} (hr : (deepA c k).run env h = some r) :
    ∃ x h1, (k x).run env h1 = some r ∧ RelH w0 G W0 h1 μ w ∧ Keeps w w (WrOf h μ W0) (WrOf h1 μ W0) ∧ RepA w (WrOf h1 μ W0) μ x u := by
  cases c with
  | c x => obtain ⟨x, h1, a, b, c, d, _⟩ := deepC_run (k := fun y => k (.c y)) R hc hr; exact ⟨_, h1, a, b, c, d⟩
  | agg cs =>
    obtain ⟨us, rfl, hus⟩ := hc
    obtain ⟨xs, h1, a, b, c, d⟩ := deepCs_run R hus hr
    exact ⟨_, h1, a, b, c, us, rfl, d⟩
  | tup _ => simp [deepA, AM.run] at hr
theorem deepAs_run : ∀ {cs : List AV} {us : List Value} {h : AH}, RelH w0 G W0 h μ w → All2 (RepA w (WrOf h μ W0) μ) cs us → ∀ {k : List AV → AM α} {r : α × Prop × AH}, (deepAs cs k).run env h = some r →
    ∃ xs h1, (k xs).run env h1 = some r ∧ RelH w0 G W0 h1 μ w ∧ Keeps w w (WrOf h μ W0) (WrOf h1 μ W0) ∧ All2 (RepA w (WrOf h1 μ W0) μ) xs us
  | [], us, h, R, hc, k, r, hr => by
    have : us = [] := List.eq_nil_of_length_eq_zero hc.1.symm
    subst this
    exact ⟨[], h, hr, R, Keeps.refl _ _, All2.nil⟩
  | c :: cs, us, h, R, hc, k, r, hr => by
    cases us with
    | nil => exact absurd hc.1 (by simp)
    | cons u us =>
      have hu : RepA w (WrOf h μ W0) μ c u := hc.2 0 c u rfl rfl
      have hus : All2 (RepA w (WrOf h μ W0) μ) cs us := ⟨by simpa using hc.1, fun i x y hx hy => hc.2 (i + 1) x y hx hy⟩
      obtain ⟨x, h1, k1, R1, K1, D1⟩ := deepA_run R hu hr
      obtain ⟨xs, h2, k2, R2, K2, D2⟩ := deepAs_run R1 (hus.mono fun _ _ h => h.mono K1 (MuLe.refl _)) k1
      exact ⟨x :: xs, h2, k2, R2, K1.trans K2 (Nat.le_refl _), All2.cons (D1.mono K2 (MuLe.refl _)) D2⟩
/-- What is gathered is what is there, by its new names. -/
def Held (h : AH) (l : List Nat) (acc : List (Nat × OS)) : Prop := acc.map (·.1) = List.range acc.length ∧ ∀ ρ, Agree ρ l → ∀ p ∈ acc, h (ρ p.1) = renOS ρ p.2 ∧ ∃ x, p.2 = .live x
theorem gather_run {h : AH} {k : List Nat → List (Nat × OS) → AM α} {r : α × Prop × AH} : ∀ (f : Nat) {l : List Nat} {i : Nat} {acc : List (Nat × OS)}, i = acc.length → Held h l acc → (gather f l i acc k).run env h = some r →
    ∃ l' acc', (k l' acc').run env h = some r ∧ (∃ e, l' = l ++ e) ∧ Held h l' acc'
  | 0, l, i, acc, hi, ha, hr => by simp [gather, AM.run] at hr
  | f + 1, l, i, acc, hi, ha, hr => by
    simp only [gather] at hr
    split at hr
    · exact ⟨l, acc, hr, ⟨[], by simp⟩, ha⟩
    · rename_i o ho
      simp only [AM.run] at hr
      split at hr
      · rename_i x hx
        obtain ⟨⟨e1, h1⟩, h2⟩ := canO_spec l x
        obtain ⟨l', acc', k1, ⟨e2, k2⟩, k3⟩ := gather_run f (l := (canO l x).1) (i := i + 1) (acc := acc ++ [(i, .live (canO l x).2)]) (by simp [hi]) ⟨by simp [ha.1, hi, List.range_succ], fun ρ hρ p hp => by
          have hl : Agree ρ l := by rw [h1] at hρ; exact hρ.left
          rcases List.mem_append.1 hp with hp | hp
          · exact ha.2 ρ hl p hp
          · simp at hp
            subst hp
            exact ⟨by rw [hl _ _ ho, hx]; simp only [renOS]; rw [h2 ρ hρ], _, rfl⟩⟩ hr
        exact ⟨l', acc', k1, ⟨e1 ++ e2, by rw [k2, h1, List.append_assoc]⟩, k3⟩
      · cases hr
theorem setO_unused {ρ : Nat → Nat} {h : AH} {o : Nat} : ∀ {l : List (Nat × OS)}, (∀ p ∈ l, p.2 ≠ .unused) → setO ρ l h o = .unused → h o = .unused
  | [], _, hs => hs
  | (j, x) :: r, hn, hs => by
    simp only [setO] at hs
    by_cases e : o = ρ j
    · subst e
      rw [upd_self] at hs
      have := hn _ (List.mem_cons_self ..)
      cases x with
      | live y => cases hs
      | dead => cases hs
      | unused => exact absurd rfl this
    · rw [upd_ne _ _ e] at hs
      exact setO_unused (fun p hp => hn p (List.mem_cons_of_mem _ hp)) hs
theorem wb_run {l0 : List (Nat × OS)} {ρ : Nat → Nat} {h : AH} {r : α × Prop × AH} : ∀ {objs : List (Nat × OS)} {k : AM α}, (wb l0 ρ objs k).run env h = some r →
    k.run env (setO ρ objs h) = some r ∧ (∀ p ∈ objs, p.2 ≠ .unused) ∧ ∀ j, inB objs j = true → inB l0 j = false → h (ρ j) = .unused
  | [], k, hr => ⟨hr, by simp, fun j hj => by cases hj⟩
  | (j, x) :: s, k, hr => by
    simp only [wb] at hr
    obtain ⟨h1, h2, h3⟩ := wb_run hr
    have hin : ∀ i, inB ((j, x) :: s) i = true → i = j ∨ inB s i = true := fun i hi => by
      simp only [inB, List.any_cons, Bool.or_eq_true] at hi
      rcases hi with hi | hi
      · exact .inl (Nat.eq_of_beq_eq_true hi).symm
      · exact .inr hi
    have go : x ≠ .unused → (inB l0 j = false → setO ρ s h (ρ j) = .unused) → k.run env (setO ρ ((j, x) :: s) h) = some r → k.run env (setO ρ ((j, x) :: s) h) = some r ∧ (∀ p ∈ (j, x) :: s, p.2 ≠ .unused) ∧ ∀ i, inB ((j, x) :: s) i = true → inB l0 i = false → h (ρ i) = .unused := fun hx hu hk => ⟨hk, fun p hp => by
      rcases List.mem_cons.1 hp with rfl | hp
      · exact hx
      · exact h2 p hp, fun i hi hl => by
      rcases hin i hi with rfl | hi
      · exact setO_unused h2 (hu hl)
      · exact h3 i hi hl⟩
    cases x with
    | unused => simp [AM.run] at h1
    | live y =>
      simp only at h1
      split at h1
      · rename_i hb
        simp only [AM.run] at h1
        split at h1
        · exact go (by simp) (fun e => by rw [hb] at e; cases e) h1
        · cases h1
      · simp only [AM.run] at h1
        split at h1
        · rename_i hu
          exact go (by simp) (fun _ => hu) h1
        · cases h1
    | dead =>
      simp only at h1
      split at h1
      · rename_i hb
        simp only [AM.run] at h1
        split at h1
        · exact go (by simp) (fun e => by rw [hb] at e; cases e) h1
        · cases h1
      · simp [AM.run] at h1
end
def freshOf (l0 : List (Nat × OS)) : List (Nat × OS) → List Nat
  | [] => []
  | (j, _) :: r => match inB l0 j with
    | true => freshOf l0 r
    | false => j :: freshOf l0 r
def renOf (l : List Nat) (nid : Nat → Nat) (fr : List Nat) (j : Nat) : Nat := match l[j]? with
  | some o => o
  | none => match posI fr j with
    | some i => nid i
    | none => 0
def okB (ρ : Nat → Nat) (l0 objs : List (Nat × OS)) (xs : List AV) : Bool := closedO l0 && (xs.all fun x => (namesA x).all (inB l0)) && (l0.all fun p => inB objs p.1) && injB ρ objs
/-- What a function does, by the names that it gives: 0, 1, … what it is given. -/
abbrev Canon := FuncId → List AV → List (Nat × OS) → Option (Prop × AV × List (Nat × OS))
def restO (objs : List (Nat × OS)) : List (Nat × OS) → List (Nat × OS)
  | [] => []
  | p :: r => match inB objs p.1 with
    | true => restO objs r
    | false => p :: restO objs r
/-- What is there behind: what is answered, and what is not touched. -/
def fullO (l0 objs : List (Nat × OS)) : List (Nat × OS) := objs ++ restO objs l0
def Sound (P : Program) (S : Canon) : Prop := ∀ K xs l0 p v objs, S K xs l0 = some (p, v, objs) → p → (∃ fn, P.funcs[K]? = some fn ∧ fn.name ≠ "runtime.NumGoroutine" ∧ fn.body.isSome = true) ∧ FunOK P K xs (hOf l0) v (hOf (fullO l0 objs))
def putBack (l : List Nat) (nid : Nat → Nat) (xs : List AV) (l0 : List (Nat × OS)) : Option (Prop × AV × List (Nat × OS)) → AM AV
  | none => .fail
  | some (p, v, objs) => match okB (renOf l nid (freshOf l0 objs)) l0 (fullO l0 objs) xs with
    | false => .fail
    | true => .need p (wb l0 (renOf l nid (freshOf l0 objs)) objs (.ret (renA (renOf l nid (freshOf l0 objs)) v)))
def spOf (S : Canon) : Spec := fun K nid xs => deepAs xs fun xs1 => match canAs [] xs1 with
  | (l1, xs2) => gather 60 l1 0 [] fun l l0 => putBack l nid xs2 l0 (S K xs2 l0)
theorem hOf_range {l : List (Nat × OS)} (h : (l.map (·.1)).Nodup) {p : Nat × OS} (hp : p ∈ l) : hOf l p.1 = p.2 := by
  induction l with
  | nil => cases hp
  | cons q r ih =>
    obtain ⟨j, x⟩ := q
    simp only [List.map_cons, List.nodup_cons] at h
    simp only [hOf]
    rcases List.mem_cons.1 hp with hp1 | hp1
    · rw [hp1]; simp
    · have : Nat.beq p.1 j = false := by
        rw [← Bool.not_eq_true]
        intro e
        have e := Nat.eq_of_beq_eq_true e
        subst e
        exact h.1 (List.mem_map.2 ⟨p, hp1, rfl⟩)
      rw [this]
      exact ih h.2 hp1
theorem setO_app {ρ : Nat → Nat} {h : AH} : ∀ (l r : List (Nat × OS)), setO ρ (l ++ r) h = setO ρ l (setO ρ r h)
  | [], r => rfl
  | (j, x) :: l, r => by simp only [List.cons_append, setO]; rw [setO_app l r]
theorem setO_held {ρ : Nat → Nat} {h : AH} : ∀ {l : List (Nat × OS)}, (∀ p ∈ l, h (ρ p.1) = renOS ρ p.2) → setO ρ l h = h
  | [], _ => rfl
  | (j, x) :: l, hl => by
    simp only [setO]
    rw [setO_held fun p hp => hl p (List.mem_cons_of_mem _ hp)]
    exact upd_same h _ _ (hl (j, x) (List.mem_cons_self ..))
theorem restO_mem {objs : List (Nat × OS)} : ∀ {l : List (Nat × OS)} {p : Nat × OS}, p ∈ restO objs l → p ∈ l
  | [], p, hp => by cases hp
  | q :: l, p, hp => by
    simp only [restO] at hp
    split at hp
    · exact List.mem_cons_of_mem _ (restO_mem hp)
    · rcases List.mem_cons.1 hp with h | h
      · rw [h]; exact List.mem_cons_self ..
      · exact List.mem_cons_of_mem _ (restO_mem h)
theorem spOf_ok {P : Program} {S : Canon} (hS : Sound P S) : SpecOK P (spOf S) := by
  intro K nid xs args env h μ w0 w G W0 v q h' R hargs hr hq
  obtain ⟨xs1, h1, k1, R1, K1, A1⟩ := deepAs_run R hargs hr
  obtain ⟨-, hcan⟩ := canAs_spec xs1 []
  generalize hc : canAs [] xs1 = c at k1 hcan
  obtain ⟨l1, xs2⟩ := c
  simp only at k1 hcan
  obtain ⟨l, l0, k2, ⟨e, hl⟩, hheld⟩ := gather_run 60 (i := 0) (acc := []) rfl ⟨rfl, fun _ _ p hp => by cases hp⟩ k1
  generalize hs : S K xs2 l0 = s at k2
  cases s with
  | none => simp [putBack, AM.run] at k2
  | some s =>
    obtain ⟨p, v1, objs⟩ := s
    simp only [putBack] at k2
    generalize hρ : renOf l nid (freshOf l0 objs) = ρ at k2
    have hag : Agree ρ l := fun j x hj => by subst hρ; simp only [renOf, hj]
    split at k2
    · simp [AM.run] at k2
    · rename_i hok
      simp only [AM.run] at k2
      split at k2
      · rename_i a q1 h2 hw
        simp only [Option.some.injEq, Prod.mk.injEq] at k2
        obtain ⟨rfl, rfl, rfl⟩ := k2
        obtain ⟨m1, m2, m3⟩ := wb_run hw
        simp only [AM.run, Option.some.injEq, Prod.mk.injEq] at m1
        obtain ⟨rfl, -, rfl⟩ := m1
        simp only [okB, Bool.and_eq_true] at hok
        obtain ⟨⟨⟨o1, o2⟩, o3⟩, o4⟩ := hok
        obtain ⟨f1, f2⟩ := hS K xs2 l0 p v1 objs hs hq.1
        refine ⟨f1, ?_⟩
        have hrest : ∀ p ∈ restO objs l0, h1 (ρ p.1) = renOS ρ p.2 ∧ ∃ x, p.2 = .live x := fun p hp => hheld.2 ρ hag p (restO_mem hp)
        have C := frame f2 R1 (hcan ρ (by rw [hl] at hag; exact hag.left) w _ μ _ A1) (fun p hp => by
          obtain ⟨n1, x, n2⟩ := hheld.2 ρ hag p hp
          exact ⟨n1, x, n2, by rw [← n2]; exact hOf_range (by rw [hheld.1]; exact List.nodup_range) hp⟩) o1 (fun x hx => List.all_eq_true.1 o2 x hx) (injB_spec o4) (fun j hj => by
          obtain ⟨x, hx⟩ := inB_mem hj
          exact List.all_eq_true.1 o3 _ hx) (fun j hj hn => by
          obtain ⟨x, hx⟩ := inB_mem hj
          rcases List.mem_append.1 hx with hx | hx
          · exact m3 j (mem_inB hx) hn
          · rw [mem_inB (restO_mem hx)] at hn; cases hn) (fun p hp => by
          rcases List.mem_append.1 hp with hp | hp
          · exact m2 p hp
          · obtain ⟨_, x, hx⟩ := hrest p hp
            rw [hx]; simp)
        rw [fullO, setO_app, setO_held fun p hp => (hrest p hp).1] at C
        exact Calls.mono C fun e w' ⟨u, μ', n1, n2, n3, n4, n5⟩ => ⟨u, μ', n1, n2, n3, K1.trans n4 (Nat.le_refl _), n5⟩
      · cases k2
end Go.Proofs.YtpgeopefamomnaeGreat

namespace Go.Proofs.YtpgeopefamomnaeGreat
open Go.RowKit
set_option linter.unusedVariables false
def canS (l : List Nat) : AV → List Nat × AV
  | .c x => match canC l x with
    | (l1, c) => (l1, .c c)
  | .agg cs => match canCs l cs with
    | (l1, c) => (l1, .agg c)
  | .tup vs => (l, .tup vs)
theorem canS_spec (l : List Nat) (x : AV) : (∃ e, (canS l x).1 = l ++ e) ∧ ∀ ρ, Agree ρ (canS l x).1 → renS ρ (canS l x).2 = x := by
  cases x with
  | c x =>
    obtain ⟨h1, h2⟩ := canC_spec l x
    exact ⟨h1, fun ρ h => by simp only [canS, renS]; rw [h2 ρ h]⟩
  | agg cs =>
    obtain ⟨h1, h2⟩ := canCs_spec cs l
    exact ⟨h1, fun ρ h => by simp only [canS, renS]; rw [h2 ρ h]⟩
  | tup vs => exact ⟨⟨[], by simp [canS]⟩, fun _ _ => rfl⟩
def canSs (l : List Nat) : List AV → List Nat × List AV
  | [] => (l, [])
  | c :: r => match canS l c with
    | (l1, c1) => match canSs l1 r with
      | (l2, cs) => (l2, c1 :: cs)
theorem canSs_spec : ∀ (cs : List AV) (l : List Nat), (∃ e, (canSs l cs).1 = l ++ e) ∧ ∀ ρ, Agree ρ (canSs l cs).1 → (canSs l cs).2.map (renS ρ) = cs
  | [], l => ⟨⟨[], by simp [canSs]⟩, fun _ _ => rfl⟩
  | c :: r, l => by
    simp only [canSs]
    obtain ⟨⟨e1, h1⟩, h2⟩ := canS_spec l c
    obtain ⟨⟨e2, h3⟩, h4⟩ := canSs_spec r (canS l c).1
    refine ⟨⟨e1 ++ e2, by rw [h3, h1, List.append_assoc]⟩, fun ρ ha => ?_⟩
    simp only [List.map_cons]
    rw [h4 ρ ha, h2 ρ (by rw [h3] at ha; exact ha.left)]
def canR (l : List Nat) : AV → List Nat × AV
  | .c x => match canC l x with
    | (l1, c) => (l1, .c c)
  | .agg cs => match canCs l cs with
    | (l1, c) => (l1, .agg c)
  | .tup vs => match canSs l vs with
    | (l1, c) => (l1, .tup c)
theorem canR_spec (l : List Nat) (x : AV) : (∃ e, (canR l x).1 = l ++ e) ∧ ∀ ρ, Agree ρ (canR l x).1 → renA ρ (canR l x).2 = x := by
  cases x with
  | c x =>
    obtain ⟨h1, h2⟩ := canC_spec l x
    exact ⟨h1, fun ρ h => by simp only [canR, renA]; rw [h2 ρ h]⟩
  | agg cs =>
    obtain ⟨h1, h2⟩ := canCs_spec cs l
    exact ⟨h1, fun ρ h => by simp only [canR, renA]; rw [h2 ρ h]⟩
  | tup vs =>
    obtain ⟨h1, h2⟩ := canSs_spec vs l
    exact ⟨h1, fun ρ h => by simp only [canR, renA]; rw [h2 ρ h]⟩
def gatherP : Nat → AH → List Nat → Nat → List (Nat × OS) → Option (List Nat × List (Nat × OS))
  | 0, _, _, _, _ => none
  | f + 1, h, l, i, acc => match l[i]? with
    | none => some (l, acc)
    | some o => match h o with
      | .live x => match canO l x with
        | (l1, y) => gatherP f h l1 (i + 1) (acc ++ [(i, .live y)])
      | .dead => gatherP f h l (i + 1) (acc ++ [(i, .dead)])
      | .unused => none
def HeldP (h : AH) (l : List Nat) (acc : List (Nat × OS)) : Prop :=
  acc.map (·.1) = List.range acc.length ∧ (∀ p ∈ acc, (∃ o, l[p.1]? = some o) ∧ p.2 ≠ .unused) ∧ ∀ ρ, Agree ρ l → ∀ p ∈ acc, h (ρ p.1) = renOS ρ p.2
theorem getApp {l e : List Nat} {i o : Nat} (h : l[i]? = some o) : (l ++ e)[i]? = some o := by rw [List.getElem?_append_left (List.getElem?_eq_some_iff.1 h).1]; exact h
theorem HeldP.snoc {h : AH} {l e : List Nat} {acc : List (Nat × OS)} {o : Nat} {x : OS} (ha : HeldP h l acc) (ho : l[acc.length]? = some o) (hx : x ≠ .unused) (hr : ∀ ρ, Agree ρ (l ++ e) → h o = renOS ρ x) : HeldP h (l ++ e) (acc ++ [(acc.length, x)]) := by
  obtain ⟨a1, a2, a3⟩ := ha
  refine ⟨by simp [a1, List.range_succ], fun p hp => ?_, fun ρ hρ p hp => ?_⟩
  · rcases List.mem_append.1 hp with hp | hp
    · obtain ⟨⟨o', h1⟩, h2⟩ := a2 p hp
      exact ⟨⟨o', getApp h1⟩, h2⟩
    · simp at hp
      subst hp
      exact ⟨⟨o, getApp ho⟩, hx⟩
  · rcases List.mem_append.1 hp with hp | hp
    · exact a3 ρ hρ.left p hp
    · simp at hp
      subst hp
      simp only
      rw [hρ _ _ (getApp ho)]
      exact hr ρ hρ
theorem gatherP_spec {h : AH} : ∀ (f : Nat) {l : List Nat} {i : Nat} {acc : List (Nat × OS)} {l' : List Nat} {acc' : List (Nat × OS)}, i = acc.length → HeldP h l acc → gatherP f h l i acc = some (l', acc') → (∃ e, l' = l ++ e) ∧ HeldP h l' acc' ∧ l'.length ≤ acc'.length
  | 0, l, i, acc, l', acc', hi, ha, hr => by simp [gatherP] at hr
  | f + 1, l, i, acc, l', acc', hi, ha, hr => by
    subst hi
    simp only [gatherP] at hr
    split at hr
    · rename_i hno
      simp only [Option.some.injEq, Prod.mk.injEq] at hr
      obtain ⟨rfl, rfl⟩ := hr
      exact ⟨⟨[], by simp⟩, ha, by simpa using hno⟩
    · rename_i o ho
      split at hr
      · rename_i x hx
        obtain ⟨⟨e1, h1⟩, h2⟩ := canO_spec l x
        have hs : HeldP h (canO l x).1 (acc ++ [(acc.length, .live (canO l x).2)]) := by
          rw [h1]
          exact ha.snoc ho (by simp) fun ρ hρ => by rw [hx]; simp only [renOS]; rw [h2 ρ (by rw [h1]; exact hρ)]
        obtain ⟨⟨e2, k1⟩, k2⟩ := gatherP_spec f (by simp) hs hr
        exact ⟨⟨e1 ++ e2, by rw [k1, h1, List.append_assoc]⟩, k2⟩
      · rename_i hx
        have hs := ha.snoc (e := []) ho (x := .dead) (by simp) fun ρ _ => by rw [hx]; rfl
        rw [List.append_nil] at hs
        exact gatherP_spec f (by simp) hs hr
      · cases hr
def noDupB : List Nat → Bool
  | [] => true
  | x :: r => (r.all fun y => !(Nat.beq y x)) && noDupB r
theorem noDupB_inj : ∀ {l : List Nat}, noDupB l = true → ∀ (i j : Nat) (o : Nat), l[i]? = some o → l[j]? = some o → i = j
  | [], _, i, j, o, hi, _ => by cases hi
  | x :: r, h, i, j, o, hi, hj => by
    simp only [noDupB, Bool.and_eq_true] at h
    have no : ∀ o, x = o → o ∈ r → False := fun o e hx => by
      have := List.all_eq_true.1 h.1 o hx
      rw [e] at this
      simp at this
    cases i with
    | zero => cases j with
      | zero => rfl
      | succ j => exact (no o (by simpa using hi) (List.mem_of_getElem? (by simpa using hj))).elim
    | succ i => cases j with
      | zero => exact (no o (by simpa using hj) (List.mem_of_getElem? (by simpa using hi))).elim
      | succ j => rw [noDupB_inj h.2 i j o (by simpa using hi) (by simpa using hj)]
def forceOs : List (Nat × OS) → (List (Nat × OS) → Prop) → Prop
  | [], K => K []
  | (j, .live x) :: r, K => forceO x fun x => forceOs r fun r => K ((j, .live x) :: r)
  | p :: r, K => forceOs r fun r => K (p :: r)
theorem forceOs_eq : ∀ (l : List (Nat × OS)) (K : List (Nat × OS) → Prop), forceOs l K = K l
  | [], K => rfl
  | (j, .live x) :: r, K => by simp only [forceOs, forceO_eq, forceOs_eq r]
  | (j, .dead) :: r, K => by simp only [forceOs, forceOs_eq r]
  | (j, .unused) :: r, K => by simp only [forceOs, forceOs_eq r]
/-- What is left at a function's end. -/
def endX (pins : List Nat) (v : AV) (objs : List (Nat × OS)) (vs : List AV) (h : AH) : Prop := match noTup vs with
  | false => False
  | true => match canR pins (retV vs) with
    | (l1, v1) => match gatherP 60 h l1 0 [] with
      | none => False
      | some (l, acc) => match noDupB l && closedO acc && (namesA v1).all (inB acc) with
        | false => False
        | true => forceA v1 fun v1 => forceOs acc fun acc => v1 = v ∧ acc = objs
def endG (P : Program) (fn : Func) (E : List AV → Env → AH → Prop) : Kont := fun e env h b => match e with
  | .exit _ => False
  | _ => match resR P env h fn.results.toList with
    | none => False
    | some (vs, q) => q ∧ E vs env h
/-- Rows that are returned may be written. -/
def endC (P : Program) (fn : Func) (pins : List Nat) (v : AV) (objs : List (Nat × OS)) : Kont := endG P fn fun vs env h => endX pins v objs vs h
/-- Rows that are returned are never written again. -/
def endD (P : Program) (fn : Func) (pins : List Nat) (v : AV) (objs : List (Nat × OS)) : Kont := endG P fn fun vs env h => match (deepAs vs AM.ret).run env h with
  | none => False
  | some (vs', q, h') => q ∧ endX pins v objs vs' h'
theorem forget {w0 w : World} {G W0 : Nat → Prop} {h : AH} {μ : Mu} {l : List Nat} {objs : List (Nat × OS)} (R : RelH w0 G W0 h μ w) (hd : noDupB l = true) (ha : HeldP h l objs) (hc : closedO objs = true) :
    let μ' : Mu := fun j => match inB objs j with
      | true => μ ((l[j]?).getD 0)
      | false => none
    RelH w0 G W0 (hOf objs) μ' w ∧ Keeps w w (WrOf h μ W0) (WrOf (hOf objs) μ' W0) := by
  obtain ⟨a1, a2, a3⟩ := ha
  have hag : Agree (fun j => (l[j]?).getD 0) l := fun j x hj => by simp [hj]
  generalize hρ : (fun j : Nat => (l[j]?).getD 0) = ρ at hag
  have hρ' : ∀ j, (l[j]?).getD 0 = ρ j := fun j => by subst hρ; rfl
  intro μ'
  have hμ : ∀ j, inB objs j = true → μ' j = μ (ρ j) := fun j hj => by simp only [μ', hj, hρ']
  have hμ' : ∀ j u, μ' j = some u → inB objs j = true ∧ μ (ρ j) = some u := fun j u hu => by
    simp only [μ'] at hu
    split at hu
    · rename_i hb; exact ⟨hb, by rw [← hρ']; exact hu⟩
    · cases hu
  have mem : ∀ j x, hOf objs j = .live x → (j, OS.live x) ∈ objs := fun j x hx => hOf_mem hx (by simp)
  have live : ∀ j x, hOf objs j = .live x → h (ρ j) = .live (renO ρ x) := fun j x hx => a3 ρ hag _ (mem j x hx)
  have at' : ∀ j b, At μ' j b → At μ (ρ j) b := fun j b ⟨u, h1, h2⟩ => ⟨u, (hμ' j u h1).2, h2⟩
  have inj : ∀ i j, inB objs i = true → inB objs j = true → ρ i = ρ j → i = j := fun i j hi hj e => by
    obtain ⟨x, hx⟩ := inB_mem hi
    obtain ⟨y, hy⟩ := inB_mem hj
    obtain ⟨⟨o, h1⟩, _⟩ := a2 _ hx
    obtain ⟨⟨o', h2⟩, _⟩ := a2 _ hy
    simp only at h1 h2
    have e1 := hag _ _ h1
    have e2 := hag _ _ h2
    rw [e1, e2] at e
    subst e
    exact noDupB_inj hd _ _ _ h1 h2
  have wr : ∀ b, WrOf (hOf objs) μ' W0 b → WrOf h μ W0 b := fun b hb => by
    rcases hb with hb | ⟨j, x, h1, h2, h3⟩
    · exact .inl hb
    · exact .inr ⟨ρ j, _, live j x h1, by rw [renO_fz]; exact h2, at' j b h3⟩
  have kp : Keeps w w (WrOf h μ W0) (WrOf (hOf objs) μ' W0) := fun b _ hn => ⟨fun hb => hn (wr b hb), rfl⟩
  refine ⟨⟨fun j x hx => ?_, fun i j x y b hx hy ha hb => ?_, fun j hj => ?_, fun j x b hx ha => R.apart _ _ b (live j x hx) (at' j b ha), R.w0lt, R.os, R.tape, R.output, R.size, R.kept⟩, kp⟩
  · have hob := R.obj _ _ (live j x hx)
    have hj := mem_inB (mem j x hx)
    cases x with
    | box cs ty =>
      obtain ⟨b, vs, k1, k2, k3⟩ := hob
      have hcc := List.all_eq_true.1 hc _ (mem j _ hx)
      refine ⟨b, vs, by rw [hμ j hj]; exact k1, k2, (All2.map_left.1 k3).mono_mem fun c v hcm ⟨m1, m2⟩ => ⟨by rw [renC_ok] at m1; exact m1, m2.unren kp fun o ho => hμ o ?_⟩⟩
      exact List.all_eq_true.1 hcc o (List.mem_flatMap.2 ⟨c, hcm, ho⟩)
    | row es kk ty fz =>
      obtain ⟨v, vs, k1, k2, k3, k4⟩ := hob
      exact ⟨v, vs, by rw [hμ j hj]; exact k1, k2, k3, k4.mono fun _ _ h => h.mono kp⟩
  · exact inj i j (mem_inB (mem i x hx)) (mem_inB (mem j y hy)) (R.inj _ _ _ _ b (live i x hx) (live j y hy) (at' i b ha) (at' j b hb))
  · have := hOf_none (fun p hp => (a2 p hp).2) hj
    simp only [μ', this]
/-- What is known of what a function is given: rows are no longer than rows can be. -/
def bndC : CV → Prop
  | .d (.row es) => es.length ≤ maxLen
  | _ => True
def bndA : AV → Prop
  | .c x => bndC x
  | .agg cs => allP bndC cs
  | .tup _ => True
theorem bndC_of {w : World} {Wr : Nat → Prop} {μ : Mu} {c : CV} {u : Value} (h : RepC w Wr μ c u) : bndC c := by
  cases c with
  | d x =>
    cases x with
    | row es =>
      cases h with
      | row _ a n cap k vs h1 h2 h3 _ _ _ _ => show es.length ≤ maxLen; omega
    | int _ _ => trivial
    | bool _ => trivial
    | str _ => trivial
  | own _ => trivial
  | nils => trivial
  | ptr _ _ _ _ => trivial
  | dp _ _ _ _ => trivial
  | clo _ _ => trivial
  | undef => trivial
theorem bndL_of {w : World} {Wr : Nat → Prop} {μ : Mu} : ∀ {cs : List CV} {us : List Value}, All2 (RepK w Wr μ) cs us → allP bndC cs
  | [], us, h => trivial
  | c :: cs, [], h => absurd h.1 (by simp)
  | c :: cs, u :: us, h => ⟨bndC_of (h.2 0 c u rfl rfl).2, bndL_of ⟨by simpa using h.1, fun i x y hx hy => h.2 (i + 1) x y hx hy⟩⟩
theorem bndA_of {w : World} {Wr : Nat → Prop} {μ : Mu} {x : AV} {u : Value} (h : RepA w Wr μ x u) : bndA x := by
  cases x with
  | c x => exact bndC_of h
  | agg cs => obtain ⟨us, _, h2⟩ := h; exact bndL_of h2
  | tup _ => trivial
theorem bndAs_of {w : World} {Wr : Nat → Prop} {μ : Mu} : ∀ {cs : List AV} {us : List Value}, All2 (RepA w Wr μ) cs us → allP bndA cs
  | [], us, h => trivial
  | c :: cs, [], h => absurd h.1 (by simp)
  | c :: cs, u :: us, h => ⟨bndA_of (h.2 0 c u rfl rfl), bndAs_of ⟨by simpa using h.1, fun i x y hx hy => h.2 (i + 1) x y hx hy⟩⟩
theorem fun_bnd {P : Program} {K : FuncId} {xs : List AV} {v : AV} {h h' : AH} (hx : allP bndA xs → FunOK P K xs h v h') : FunOK P K xs h v h' := fun w G W0 μ args R hargs => hx (bndAs_of hargs) w G W0 μ args R hargs
theorem endX_sound {w0 w : World} {G W0 : Nat → Prop} {h : AH} {μ : Mu} {pins : List Nat} {v : AV} {objs : List (Nat × OS)} {vs : List AV} {us : List Value} (hran : pins = List.range pins.length) (hk : endX pins v objs vs h) (R : RelH w0 G W0 h μ w) (hv : All2 (RepA w (WrOf h μ W0) μ) vs us) :
    ∃ μ', RelH w0 G W0 (hOf objs) μ' w ∧ Keeps w w (WrOf h μ W0) (WrOf (hOf objs) μ' W0) ∧ RepA w (WrOf (hOf objs) μ' W0) μ' v (retU us) ∧ ∀ o u, o ∈ pins → μ o = some u → μ' o = some u := by
  simp only [endX] at hk
  split at hk
  · exact hk.elim
  · rename_i hnt
    obtain ⟨⟨e1, he1⟩, hcan⟩ := canR_spec pins (retV vs)
    generalize hcA : canR pins (retV vs) = cA at hk he1 hcan
    obtain ⟨l1, v1⟩ := cA
    simp only at hk he1 hcan
    split at hk
    · exact hk.elim
    · rename_i l acc hgp
      split at hk
      · exact hk.elim
      · rename_i hbb
        rw [forceA_eq, forceOs_eq] at hk
        obtain ⟨rfl, rfl⟩ := hk
        simp only [Bool.and_eq_true] at hbb
        obtain ⟨⟨b1, b2⟩, b3⟩ := hbb
        obtain ⟨⟨e2, he2⟩, hheld, hlenl⟩ := gatherP_spec 60 (i := 0) (acc := []) rfl ⟨rfl, fun p hp => (by cases hp), fun _ _ p hp => (by cases hp)⟩ hgp
        have hag : Agree (fun j => (l[j]?).getD 0) l := fun j x hj => by simp [hj]
        obtain ⟨R1, K1⟩ := forget R b1 hheld b2
        have hv := retV_rep hv (noTup_mem hnt)
        rw [← hcan (fun j => ((l1 ++ e2)[j]?).getD 0) (by rw [he2] at hag; exact hag.left)] at hv
        refine ⟨_, R1, K1, RepA.unren K1 hv fun o ho => ?_, fun o u ho h1 => ?_⟩
        · have := List.all_eq_true.1 b3 o ho
          show (match inB acc o with | true => μ ((l[o]?).getD 0) | false => none) = _
          rw [this, he2]
        · have hlt : o < pins.length := by rw [hran] at ho; exact List.mem_range.1 ho
          have hpo : pins[o]? = some o := by rw [hran, List.getElem?_range hlt]
          have hlo : l[o]? = some o := by rw [he2, he1, List.append_assoc]; exact getApp hpo
          have : inB acc o = true := by
            have hlen2 : o < acc.length := by
              have := congrArg List.length he2
              have := congrArg List.length he1
              simp only [List.length_append] at *
              omega
            have : o ∈ acc.map (·.1) := by rw [hheld.1]; exact List.mem_range.2 hlen2
            obtain ⟨p, hp1, hp2⟩ := List.mem_map.1 this
            exact mem_inB (x := p.2) (by rw [← hp2]; exact hp1)
          show (match inB acc o with | true => μ ((l[o]?).getD 0) | false => none) = _
          rw [this, hlo]
          simpa using h1
theorem fun_gen {P : Program} {X : Inl} {K : FuncId} {fn : Func} {c : Code} {xs : List AV} {v : AV} {l0 objs : List (Nat × OS)} {pins : List Nat} {base : Nat} {E : List AV → Env → AH → Prop} (hS : InlOK P X) (hm : P.follows .mixedOrders = true) (hf : P.funcs[K]? = some fn) (hb : fn.body = some c)
    (hn : xs.length ≤ fn.ntmps) (hpins : pins = l0.map (·.1)) (hx : awp P X fn.ntmps pins c (envL xs) (hOf l0) base (endG P fn E))
    (hE : ∀ {w0 w : World} {G W0 : Nat → Prop} {env : Env} {h : AH} {μ : Mu} {vs : List AV} {us : List Value}, E vs env h → RelH w0 G W0 h μ w → All2 (RepA w (WrOf h μ W0) μ) vs us →
      ∃ μ', RelH w0 G W0 (hOf objs) μ' w ∧ Keeps w w (WrOf h μ W0) (WrOf (hOf objs) μ' W0) ∧ RepA w (WrOf (hOf objs) μ' W0) μ' v (retU us) ∧ ∀ o u, o ∈ pins → μ o = some u → μ' o = some u) : FunOK P K xs (hOf l0) v (hOf objs) := by
  intro w G W0 μ args R hargs
  have hlen : args.size = xs.length := by simpa using hargs.1.symm
  have hp : ∀ o v, μ o = some v → o ∈ pins := fun o v ho => by
    rw [hpins]
    have : hOf l0 o ≠ .unused := fun e => by rw [R.unused o e] at ho; cases ho
    have hm := hOf_mem (l := l0) (t := o) rfl this
    exact List.mem_map.2 ⟨_, hm, rfl⟩
  refine calls_of_wp hf hb ?_
  have g : Good' w G W0 μ (hOf l0) fn.ntmps (envL xs) (hOf l0) { tmps := args ++ Array.replicate (fn.ntmps - args.size) undef, defers := [] } w := by
    refine ⟨⟨μ, ⟨R, fun t => ?_⟩, MuLe.refl _, Keeps.refl _ _⟩, by simp; omega, rfl⟩
    rw [envL_get]
    cases hx : xs[t]? with
    | none => trivial
    | some x =>
      obtain ⟨u, hu, ru⟩ := hargs.get hx
      have ht : t < args.size := by rw [hlen]; exact (List.getElem?_eq_some_iff.1 hx).1
      have : (args ++ Array.replicate (fn.ntmps - args.size) undef).getD t undef = u := by
        rw [Array.getD_eq_getD_getElem?, Array.getElem?_append_left ht]
        simp at hu
        rw [hu]
        rfl
      simp only [Option.getD_some]
      rw [this]
      exact ru
  refine wp_mono (awp_sound hS hm hp c _ _ _ _ _ w hx g) fun e a w' hq => ?_
  have fin : ∀ env h b, endG P fn E .ret env h b → Good' w G W0 μ (hOf l0) fn.ntmps env h a w' → bodyPost P fn (fun e w'' => ∃ u μ', e = .returned u ∧ RelH w G W0 (hOf objs) μ' w'' ∧ MuLe μ μ' ∧ Keeps w w'' (WrOf (hOf l0) μ W0) (WrOf (hOf objs) μ' W0) ∧ RepA w'' (WrOf (hOf objs) μ' W0) μ' v u) .ret a w' := fun env h b hk g' => by
    simp only [endG] at hk
    split at hk
    · exact hk.elim
    · rename_i vs q hr
      obtain ⟨hq2, hk⟩ := hk
      obtain ⟨μ1, hg, p1, p2⟩ := g'.good
      obtain ⟨us, k1, k2⟩ := resR_run hg hr hq2
      obtain ⟨μ', R1, K1, hv, hm'⟩ := hE hk hg.rel k2
      exact ⟨g'.defers, _, results_run k1, _, _, rfl, R1, fun o u hu => hm' o u (hp o u hu) (p1 o u hu), p2.trans K1 hg.rel.size, hv⟩
  cases e with
  | normal =>
    obtain ⟨env, h, b, k1, k2⟩ := hq
    exact fin env h b k1 k2
  | ret =>
    obtain ⟨env, h, b, k1, k2⟩ := hq
    exact fin env h b k1 k2
  | exit id => obtain ⟨env, h, b, k1, k2⟩ := hq; exact k1.elim
  | goto l => exact hq.elim
  | panic c => exact hq.elim
  | outgrown => exact hq.elim
theorem fun_can {P : Program} {X : Inl} {K : FuncId} {fn : Func} {c : Code} {xs : List AV} {v : AV} {l0 objs : List (Nat × OS)} {pins : List Nat} {base : Nat} (hS : InlOK P X) (hm : P.follows .mixedOrders = true) (hf : P.funcs[K]? = some fn) (hb : fn.body = some c)
    (hn : xs.length ≤ fn.ntmps) (hpins : pins = l0.map (·.1)) (hran : pins = List.range pins.length) (hx : awp P X fn.ntmps pins c (envL xs) (hOf l0) base (endC P fn pins v objs)) : FunOK P K xs (hOf l0) v (hOf objs) :=
  fun_gen hS hm hf hb hn hpins hx fun hk R hv => endX_sound hran hk R hv
theorem fun_deep {P : Program} {X : Inl} {K : FuncId} {fn : Func} {c : Code} {xs : List AV} {v : AV} {l0 objs : List (Nat × OS)} {pins : List Nat} {base : Nat} (hS : InlOK P X) (hm : P.follows .mixedOrders = true) (hf : P.funcs[K]? = some fn) (hb : fn.body = some c)
    (hn : xs.length ≤ fn.ntmps) (hpins : pins = l0.map (·.1)) (hran : pins = List.range pins.length) (hx : awp P X fn.ntmps pins c (envL xs) (hOf l0) base (endD P fn pins v objs)) : FunOK P K xs (hOf l0) v (hOf objs) := by
  refine fun_gen hS hm hf hb hn hpins hx ?_
  intro w0 w G W0 env h μ vs us hk R hv
  split at hk
  · exact hk.elim
  · rename_i vs' q h' hr
    obtain ⟨vs2, h2, k1, R2, K2, hv2⟩ := deepAs_run R hv hr
    simp only [AM.run, Option.some.injEq, Prod.mk.injEq] at k1
    obtain ⟨rfl, -, rfl⟩ := k1
    obtain ⟨μ', R1, K1, m1, m2⟩ := endX_sound hran hk.2 R2 hv2
    exact ⟨μ', R1, K2.trans K1 (Nat.le_refl _), m1, m2⟩
end Go.Proofs.YtpgeopefamomnaeGreat

namespace Go.Proofs.YtpgeopefamomnaeGreat
open Go.RowKit
set_option linter.unusedVariables false
def HeldQ (h : AH) (l : List Nat) (acc : List (Nat × OS)) : Prop :=
  acc.map (·.1) = List.range acc.length ∧ (∀ p ∈ acc, (∃ o, l[p.1]? = some o) ∧ p.2 ≠ .unused) ∧ ∀ ρ, Agree ρ l → ∀ p ∈ acc, ∀ x, p.2 = .live x → h (ρ p.1) = .live (renO ρ x)
theorem HeldQ.snoc {h : AH} {l e : List Nat} {acc : List (Nat × OS)} {o : Nat} {x : OS} (ha : HeldQ h l acc) (ho : l[acc.length]? = some o) (hx : x ≠ .unused) (hr : ∀ ρ, Agree ρ (l ++ e) → ∀ y, x = .live y → h o = .live (renO ρ y)) : HeldQ h (l ++ e) (acc ++ [(acc.length, x)]) := by
  obtain ⟨a1, a2, a3⟩ := ha
  refine ⟨by simp [a1, List.range_succ], fun p hp => ?_, fun ρ hρ p hp => ?_⟩
  · rcases List.mem_append.1 hp with hp | hp
    · obtain ⟨⟨o', h1⟩, h2⟩ := a2 p hp
      exact ⟨⟨o', getApp h1⟩, h2⟩
    · simp at hp
      subst hp
      exact ⟨⟨o, getApp ho⟩, hx⟩
  · rcases List.mem_append.1 hp with hp | hp
    · exact a3 ρ hρ.left p hp
    · simp at hp
      subst hp
      intro y hy
      simp only at hy ⊢
      rw [hρ _ _ (getApp ho)]
      exact hr ρ hρ y hy
/-- A cell that is nil is an own row without elements. -/
theorem FunOK.nil {P : Program} {K : FuncId} {xs : List AV} {v : AV} {h h' hc : AH} {o q k : Nat} {cs1 cs2 : List CV} {ty e : TypeId} (ho : h o = .live (.box (cs1 ++ .own q :: cs2) ty)) (hq : h q = .live (.row [] k e false)) (hne : o ≠ q)
    (h1 : h' o = .live (.box (cs1 ++ .nils :: cs2) ty)) (h2 : h' q = .unused) (h3 : ∀ j, j ≠ o → j ≠ q → h' j = h j) (F : FunOK P K xs h v hc) : FunOK P K xs h' v hc := by
  intro w G W0 μ args R hargs
  have hμq := R.unused q h2
  let μ2 : Mu := upd μ q (some (.slice none 0 0))
  have m2q : μ2 q = some (.slice none 0 0) := upd_self _ _ _
  have m2 : ∀ j, j ≠ q → μ2 j = μ j := fun j hj => upd_ne _ _ hj
  have le : MuLe μ μ2 := fun j u hu => by
    rw [m2 j (fun e => by rw [e, hμq] at hu; cases hu)]
    exact hu
  have noq : ∀ b, ¬ At μ2 q b := fun b ⟨u, k1, k2⟩ => by rw [m2q] at k1; cases k1; cases k2
  have at2 : ∀ j b, At μ2 j b → j ≠ q ∧ At μ j b := fun j b ha => by
    have hj : j ≠ q := fun e => noq b (by rw [← e]; exact ha)
    obtain ⟨u, k1, k2⟩ := ha
    exact ⟨hj, u, by rw [← m2 j hj]; exact k1, k2⟩
  have back : ∀ j x, h j = .live x → j ≠ q → ∃ y, h' j = .live y ∧ y.fz = x.fz := fun j x hx hj => by
    by_cases e : j = o
    · subst e
      rw [ho] at hx
      cases hx
      exact ⟨_, h1, rfl⟩
    · exact ⟨x, by rw [h3 j e hj]; exact hx, rfl⟩
  have forth : ∀ j y, h' j = .live y → ∃ x, h j = .live x ∧ y.fz = x.fz := fun j y hy => by
    have hj : j ≠ q := fun e => by rw [e, h2] at hy; cases hy
    by_cases e : j = o
    · subst e
      rw [h1] at hy
      cases hy
      exact ⟨_, ho, rfl⟩
    · exact ⟨y, by rw [← h3 j e hj]; exact hy, rfl⟩
  have wr1 : ∀ b, WrOf h μ2 W0 b → WrOf h' μ W0 b := fun b hb => by
    rcases hb with hb | ⟨j, x, k1, k2, k3⟩
    · exact .inl hb
    · obtain ⟨hj, ha⟩ := at2 j b k3
      obtain ⟨y, k4, k5⟩ := back j x k1 hj
      exact .inr ⟨j, y, k4, by rw [k5]; exact k2, ha⟩
  have wr2 : ∀ b, WrOf h' μ W0 b → WrOf h μ2 W0 b := fun b hb => by
    rcases hb with hb | ⟨j, y, k1, k2, k3⟩
    · exact .inl hb
    · obtain ⟨x, k4, k5⟩ := forth j y k1
      exact .inr ⟨j, x, k4, by rw [← k5]; exact k2, le.at k3⟩
  have kp : Keeps w w (WrOf h' μ W0) (WrOf h μ2 W0) := fun b _ hn => ⟨fun hb => hn (wr1 b hb), rfl⟩
  have R2 : RelH w G W0 h μ2 w := by
    refine ⟨fun j x hx => ?_, fun i j x y b hx hy ha hb => ?_, fun j hj => ?_, fun j x b hx ha => ?_, R.w0lt, R.os, R.tape, R.output, R.size, R.kept⟩
    · by_cases e1 : j = q
      · subst e1
        rw [hq] at hx
        cases hx
        exact ⟨_, [], m2q, ⟨by simp, .inl ⟨rfl, rfl⟩⟩, by simp, All2.nil⟩
      · by_cases e : j = o
        · subst e
          rw [ho] at hx
          cases hx
          obtain ⟨b, vs, k1, k2, k3⟩ := R.obj _ _ h1
          refine ⟨b, vs, by rw [m2 _ hne]; exact k1, k2, ?_⟩
          have k4 : All2 (RepK w (WrOf h μ2 W0) μ2) (cs1 ++ .nils :: cs2) vs := k3.mono fun _ _ h => h.mono kp le
          refine ⟨by simpa using k4.1, fun i x u hx hu => ?_⟩
          by_cases ei : i = cs1.length
          · subst ei
            simp at hx
            subst hx
            have := k4.2 cs1.length .nils u (by simp) hu
            have e : u = .slice none 0 0 := this.2
            subst e
            exact ⟨rfl, m2q, none, 0, 0, rfl⟩
          · refine k4.2 i x u ?_ hu
            rw [← hx]
            by_cases hl : i < cs1.length
            · rw [List.getElem?_append_left hl, List.getElem?_append_left hl]
            · rw [List.getElem?_append_right (by omega), List.getElem?_append_right (by omega)]
              obtain ⟨n, hn⟩ : ∃ n, i - cs1.length = n + 1 := ⟨i - cs1.length - 1, by omega⟩
              rw [hn]
              simp
        · exact RepO.mono kp le (R.obj _ _ (by rw [h3 j e e1]; exact hx)) fun _ _ => rfl
    · obtain ⟨hi, ha⟩ := at2 i b ha
      obtain ⟨hj, hb⟩ := at2 j b hb
      obtain ⟨y1, k1, _⟩ := back i x hx hi
      obtain ⟨y2, k2, _⟩ := back j y hy hj
      exact R.inj i j _ _ b k1 k2 ha hb
    · have hj' : j ≠ q := fun e => by rw [e, hq] at hj; cases hj
      have hjo : j ≠ o := fun e => by rw [e, ho] at hj; cases hj
      rw [m2 j hj']
      exact R.unused j (by rw [h3 j hjo hj']; exact hj)
    · obtain ⟨hj, ha⟩ := at2 j b ha
      obtain ⟨y, k1, _⟩ := back j x hx hj
      exact R.apart j y b k1 ha
  exact Calls.mono (F w G W0 μ2 args R2 (hargs.mono fun _ _ h => h.mono kp le)) fun e w' ⟨u, μ', k1, k2, k3, k4, k5⟩ =>
    ⟨u, μ', k1, k2, le.trans k3, fun b hb hn => k4 b hb fun hh => hn (wr1 b hh), k5⟩
end Go.Proofs.YtpgeopefamomnaeGreat

namespace Go.Proofs.YtpgeopefamomnaeGreat
open Go.RowKit
set_option linter.unusedVariables false
def blockE (id : Nat) : AExit → AExit
  | .exit id' => match Nat.beq id' id with
    | true => .normal
    | false => .exit id'
  | e => e
def isExit : AExit → Bool
  | .exit _ => true
  | _ => false
def objsOf : List Log → OLog
  | [] => []
  | L :: r => L.2 ++ objsOf r
def exC (P : Program) (X : Inl) (N : Nat) : Code → Env → AH → Nat → Option (AExit × Env × AH × Nat × Prop × OLog)
  | .skip, env, h, b => some (.normal, env, h, b, True, [])
  | .label _, env, h, b => some (.normal, env, h, b, True, [])
  | .region _ ops draw, env, h, b => match exR P X ops b ops.toList 0 env h [] with
    | some (env', h', q, Ls) => match dstsB N ops && (!draw || apartB ops Ls) with
      | true => some (.normal, env', h', b + 1, q, objsOf Ls)
      | false => none
    | none => none
  | .seq x y, env, h, b => match exC P X N x env h b with
    | some (.normal, env1, h1, b1, q1, L1) => match exC P X N y env1 h1 b1 with
      | some (e2, env2, h2, b2, q2, L2) => some (e2, env2, h2, b2, q1 ∧ q2, L1 ++ L2)
      | none => none
    | some (e, r) => some (e, r)
    | none => none
  | .cond c x y, env, h, b => match c with
    | .tmp t => match env t with
      | .c (.d (.bool p)) => match p with
        | true => exC P X N x env h b
        | false => exC P X N y env h b
      | _ => none
    | .const (.bool p) => match p with
      | true => exC P X N x env h b
      | false => exC P X N y env h b
    | _ => none
  | .block id c, env, h, b => match exC P X N c env h b with
    | some (e, r) => some (blockE id e, r)
    | none => none
  | .exit id, env, h, b => some (.exit id, env, h, b, True, [])
  | .ret, env, h, b => some (.ret, env, h, b, True, [])
  | _, _, _, _ => none
def exW (P : Program) (X : Inl) (N : Nat) : Code → Env → AH → Nat → (AExit → Env → AH → Nat → OLog → Prop) → Prop
  | .skip, env, h, b, K => K .normal env h b []
  | .label _, env, h, b, K => K .normal env h b []
  | .region _ ops draw, env, h, b, K => dstsB N ops = true ∧ awpR P X ops b ops.toList 0 env h [] fun env' h' Ls => match draw with
    | true => apartB ops Ls = true ∧ K .normal env' h' (b + 1) (objsOf Ls)
    | false => K .normal env' h' (b + 1) (objsOf Ls)
  | .seq x y, env, h, b, K => exW P X N x env h b fun e env1 h1 b1 L1 => match e with
    | .normal => exW P X N y env1 h1 b1 fun e2 env2 h2 b2 L2 => K e2 env2 h2 b2 (L1 ++ L2)
    | e => K e env1 h1 b1 L1
  | .cond c x y, env, h, b, K => match c with
    | .tmp t => match env t with
      | .c (.d (.bool p)) => Ways p (exW P X N x (upd env t (bv true)) h b K) (exW P X N y (upd env t (bv false)) h b K)
      | _ => False
    | .const (.bool p) => Ways p (exW P X N x env h b K) (exW P X N y env h b K)
    | _ => False
  | .block id c, env, h, b, K => exW P X N c env h b fun e env' h' b' L => K (blockE id e) env' h' b' L
  | .exit id, env, h, b, K => K (.exit id) env h b []
  | .ret, env, h, b, K => K .ret env h b []
  | _, _, _, _, _ => False
theorem exW_iff {P : Program} {X : Inl} (hX : InlOK P X) {N : Nat} : ∀ (c : Code) (env : Env) (h : AH) (b : Nat) (K : AExit → Env → AH → Nat → OLog → Prop),
    exW P X N c env h b K ↔ ∃ e env' h' b' q L, exC P X N c env h b = some (e, env', h', b', q, L) ∧ q ∧ K e env' h' b' L
  | .skip, env, h, b, K => ⟨fun hk => ⟨_, _, _, _, _, _, rfl, trivial, hk⟩, fun ⟨_, _, _, _, _, _, e, _, hk⟩ => by cases e; exact hk⟩
  | .label _, env, h, b, K => ⟨fun hk => ⟨_, _, _, _, _, _, rfl, trivial, hk⟩, fun ⟨_, _, _, _, _, _, e, _, hk⟩ => by cases e; exact hk⟩
  | .exit id, env, h, b, K => ⟨fun hk => ⟨_, _, _, _, _, _, rfl, trivial, hk⟩, fun ⟨_, _, _, _, _, _, e, _, hk⟩ => by cases e; exact hk⟩
  | .ret, env, h, b, K => ⟨fun hk => ⟨_, _, _, _, _, _, rfl, trivial, hk⟩, fun ⟨_, _, _, _, _, _, e, _, hk⟩ => by cases e; exact hk⟩
  | .region id ops draw, env, h, b, K => by
    simp only [exW, exC]
    rw [awpR_iff hX]
    constructor
    · rintro ⟨hd, env', h', q, Ls, h1, h2, h3⟩
      cases draw with
      | true => exact ⟨_, _, _, _, _, _, by rw [h1]; simp only [hd, h3.1]; rfl, h2, h3.2⟩
      | false => exact ⟨_, _, _, _, _, _, by rw [h1]; simp only [hd]; rfl, h2, h3⟩
    · rintro ⟨e, env', h', b', q, L, h1, h2, h3⟩
      split at h1
      · rename_i env1 h1' q1 Ls hr
        split at h1
        · rename_i hb
          simp only [Option.some.injEq, Prod.mk.injEq] at h1
          obtain ⟨rfl, rfl, rfl, rfl, rfl, rfl⟩ := h1
          simp only [Bool.and_eq_true, Bool.or_eq_true, Bool.not_eq_true'] at hb
          refine ⟨hb.1, _, _, _, _, hr, h2, ?_⟩
          cases draw with
          | true => exact ⟨hb.2.resolve_left (by simp), h3⟩
          | false => exact h3
        · cases h1
      · cases h1
  | .seq x y, env, h, b, K => by
    simp only [exW, exC]
    rw [exW_iff hX x]
    constructor
    · rintro ⟨e, env1, h1, b1, q1, L1, k1, k2, k3⟩
      cases e with
      | normal =>
        obtain ⟨e2, env2, h2, b2, q2, L2, m1, m2, m3⟩ := (exW_iff hX y _ _ _ _).1 k3
        exact ⟨_, _, _, _, q1 ∧ q2, _, by rw [k1]; simp only [m1], ⟨k2, m2⟩, m3⟩
      | exit id => exact ⟨_, _, _, _, _, _, by rw [k1], k2, k3⟩
      | ret => exact ⟨_, _, _, _, _, _, by rw [k1], k2, k3⟩
    · rintro ⟨e, env', h', b', q, L, k1, k2, k3⟩
      split at k1
      · rename_i env1 h1 b1 q1 L1 hx
        split at k1
        · rename_i e2 env2 h2 b2 q2 L2 hy
          simp only [Option.some.injEq, Prod.mk.injEq] at k1
          obtain ⟨rfl, rfl, rfl, rfl, rfl, rfl⟩ := k1
          exact ⟨_, _, _, _, _, _, hx, k2.1, (exW_iff hX y _ _ _ _).2 ⟨_, _, _, _, _, _, hy, k2.2, k3⟩⟩
        · cases k1
      · rename_i e1 r hne hx
        simp only [Option.some.injEq, Prod.mk.injEq] at k1
        obtain ⟨rfl, rfl⟩ := k1
        refine ⟨_, _, _, _, _, _, hx, k2, ?_⟩
        cases e1 with
        | normal => exact absurd hx (by intro hh; exact hne _ _ _ _ _ rfl rfl)
        | exit id => exact k3
        | ret => exact k3
      · cases k1
  | .cond c x y, env, h, b, K => by
    cases c with
    | tmp t =>
      simp only [exW, exC]
      split
      · rename_i p hp
        cases p with
        | true =>
          rw [upd_same env t (bv true) hp]
          exact Iff.trans ⟨fun hw => hw.1 rfl, .yes⟩ (exW_iff hX x _ _ _ _)
        | false =>
          rw [upd_same env t (bv false) hp]
          exact Iff.trans ⟨fun hw => hw.2 rfl, .no⟩ (exW_iff hX y _ _ _ _)
      · simp
    | const v =>
      cases v with
      | bool p =>
        cases p with
        | true => exact Iff.trans ⟨fun hw => hw.1 rfl, .yes⟩ (exW_iff hX x _ _ _ _)
        | false => exact Iff.trans ⟨fun hw => hw.2 rfl, .no⟩ (exW_iff hX y _ _ _ _)
      | _ => simp [exW, exC]
    | func f => simp [exW, exC]
    | global _ => simp [exW, exC]
  | .block id c, env, h, b, K => by
    simp only [exW, exC]
    rw [exW_iff hX c]
    constructor
    · rintro ⟨e, env1, h1, b1, q1, L1, k1, k2, k3⟩
      exact ⟨_, _, _, _, _, _, by rw [k1], k2, k3⟩
    · rintro ⟨e, env', h', b', q, L, k1, k2, k3⟩
      split at k1
      · rename_i e1 r hx
        simp only [Option.some.injEq, Prod.mk.injEq] at k1
        obtain ⟨rfl, rfl⟩ := k1
        exact ⟨_, _, _, _, _, _, hx, k2, k3⟩
      · cases k1
  | .loop _, env, h, b, K => by simp [exW, exC]
  | .rangeFunc _ _ _ _, env, h, b, K => by simp [exW, exC]
  | .scope _, env, h, b, K => by simp [exW, exC]
  | .goto _, env, h, b, K => by simp [exW, exC]
  | .refuse _, env, h, b, K => by simp [exW, exC]
/-- What is done hangs on what is touched, and leaves all else. -/
structure Loc (h h' : AH) (L : OLog) (f : AH → AH → Prop) : Prop where
  frame : ∀ o, ¬ written L o → h' o = h o
  agree : ∀ h2, (∀ o, touched L o → h2 o = h o) → ∃ h2', f h2 h2' ∧ ∀ o, (written L o → h2' o = h' o) ∧ (¬ written L o → h2' o = h2 o)
theorem Loc.seq {h h1 h' : AH} {L1 L2 : OLog} {f g : AH → AH → Prop} (A : Loc h h1 L1 f) (B : Loc h1 h' L2 g) {L : OLog} (hw : ∀ o, written L o ↔ written L1 o ∨ written L2 o) (ht : ∀ o, touched L1 o ∨ touched L2 o → touched L o) {k : AH → AH → Prop} (hk : ∀ a b c, f a b → g b c → k a c) : Loc h h' L k where
  frame := fun o hn => by rw [B.frame o fun x => hn ((hw o).2 (.inr x)), A.frame o fun x => hn ((hw o).2 (.inl x))]
  agree := fun h2 hag => by
    obtain ⟨h21, f1, a1⟩ := A.agree h2 fun o ho => hag o (ht o (.inl ho))
    obtain ⟨h22, f2, a2⟩ := B.agree h21 fun o ho => by
      by_cases hw1 : written L1 o
      · exact (a1 o).1 hw1
      · rw [(a1 o).2 hw1, A.frame o hw1]; exact hag o (ht o (.inr ho))
    refine ⟨h22, hk _ _ _ f1 f2, fun o => ⟨fun hh => ?_, fun hh => ?_⟩⟩
    · by_cases hw2 : written L2 o
      · exact (a2 o).1 hw2
      · have hw1 := ((hw o).1 hh).resolve_right hw2
        rw [(a2 o).2 hw2, (a1 o).1 hw1, B.frame o hw2]
    · rw [(a2 o).2 fun x => hh ((hw o).2 (.inr x)), (a1 o).2 fun x => hh ((hw o).2 (.inl x))]
theorem Loc.refl (h : AH) {f : AH → AH → Prop} (hf : ∀ a, f a a) : Loc h h [] f := ⟨fun _ _ => rfl, fun h2 _ => ⟨h2, hf h2, fun o => ⟨fun hw => by simp [written] at hw, fun _ => rfl⟩⟩⟩
theorem Loc.mono {h h' : AH} {L : OLog} {f g : AH → AH → Prop} (A : Loc h h' L f) (hg : ∀ a b, f a b → g a b) : Loc h h' L g := ⟨A.frame, fun h2 h => let ⟨h2', a, b⟩ := A.agree h2 h; ⟨h2', hg _ _ a, b⟩⟩
theorem written_app {L1 L2 : OLog} {o : Nat} : written (L1 ++ L2) o ↔ written L1 o ∨ written L2 o := by simp [written]
theorem touched_app {L1 L2 : OLog} {o : Nat} (h : touched L1 o ∨ touched L2 o) : touched (L1 ++ L2) o := by
  rcases h with ⟨b, h⟩ | ⟨b, h⟩
  · exact ⟨b, List.mem_append_left _ h⟩
  · exact ⟨b, List.mem_append_right _ h⟩
theorem objsOf_app : ∀ (a b : List Log), objsOf (a ++ b) = objsOf a ++ objsOf b
  | [], b => rfl
  | L :: r, b => by simp only [List.cons_append, objsOf, objsOf_app r b, List.append_assoc]
section
variable {P : Program} {X : Inl} (hX : InlOK P X)
include hX
theorem stepV_loc {ops : Array Oper} {base i : Nat} {o : Oper} {env : Env} {h h' : AH} {v : AV} {q : Prop} {L : Log} (hr : stepV P X ops base i o env h = some (v, q, h', L)) : Loc h h' L.2 fun a b => stepV P X ops base i o env a = some (v, q, b, L) :=
  ⟨stepV_frame hX hr, fun h2 ho => stepV_agree hX hr (fun _ _ => rfl) ho⟩
theorem exR_loc {ops : Array Oper} {base : Nat} : ∀ (l : List Oper) (i : Nat) (env : Env) (h : AH) (Ls : List Log) {env' : Env} {h' : AH} {q : Prop} {Ls' : List Log}, exR P X ops base l i env h Ls = some (env', h', q, Ls') →
    ∃ D, Ls' = D ++ Ls ∧ Loc h h' (objsOf D) fun a b => exR P X ops base l i env a Ls = some (env', b, q, Ls')
  | [], i, env, h, Ls, env', h', q, Ls', hk => by
    simp only [exR, Option.some.injEq, Prod.mk.injEq] at hk
    obtain ⟨rfl, rfl, rfl, rfl⟩ := hk
    exact ⟨[], rfl, Loc.refl _ fun _ => rfl⟩
  | o :: r, i, env, h, Ls, env', h', q, Ls', hk => by
    simp only [exR] at hk
    split at hk
    · rename_i v q0 h1 L0 hs
      split at hk
      · rename_i env1 h2 q1 Ls1 hr
        simp only [Option.some.injEq, Prod.mk.injEq] at hk
        obtain ⟨rfl, rfl, rfl, rfl⟩ := hk
        obtain ⟨D, hD, hL⟩ := exR_loc r (i + 1) _ _ _ hr
        refine ⟨D ++ [L0], by rw [hD]; simp, Loc.seq (stepV_loc hX hs) hL (fun o => ?_) (fun o ho => ?_) fun a b c e1 e2 => ?_⟩
        · rw [objsOf_app, written_app]; simp only [objsOf, List.append_nil]; exact Or.comm
        · rw [objsOf_app]; simp only [objsOf, List.append_nil]; exact touched_app ho.symm
        · simp only [exR, e1, e2]
      · cases hk
    · cases hk
theorem exC_loc {N : Nat} : ∀ (c : Code) (env : Env) (h : AH) (b : Nat) {e : AExit} {env' : Env} {h' : AH} {b' : Nat} {q : Prop} {L : OLog}, exC P X N c env h b = some (e, env', h', b', q, L) →
    Loc h h' L fun x y => exC P X N c env x b = some (e, env', y, b', q, L)
  | .skip, env, h, b, e, env', h', b', q, L, hk => by cases hk; exact Loc.refl _ fun _ => rfl
  | .label _, env, h, b, e, env', h', b', q, L, hk => by cases hk; exact Loc.refl _ fun _ => rfl
  | .exit id, env, h, b, e, env', h', b', q, L, hk => by cases hk; exact Loc.refl _ fun _ => rfl
  | .ret, env, h, b, e, env', h', b', q, L, hk => by cases hk; exact Loc.refl _ fun _ => rfl
  | .region id ops draw, env, h, b, e, env', h', b', q, L, hk => by
    simp only [exC] at hk
    split at hk
    · rename_i env1 h1 q1 Ls hr
      split at hk
      · rename_i hb
        simp only [Option.some.injEq, Prod.mk.injEq] at hk
        obtain ⟨rfl, rfl, rfl, rfl, rfl, rfl⟩ := hk
        obtain ⟨D, hD, hL⟩ := exR_loc hX _ _ _ _ _ hr
        rw [List.append_nil] at hD
        subst hD
        exact hL.mono fun a b e => by simp only [exC, e, hb]
      · cases hk
    · cases hk
  | .seq x y, env, h, b, e, env', h', b', q, L, hk => by
    simp only [exC] at hk
    split at hk
    · rename_i env1 h1 b1 q1 L1 hx
      split at hk
      · rename_i e2 env2 h2 b2 q2 L2 hy
        simp only [Option.some.injEq, Prod.mk.injEq] at hk
        obtain ⟨rfl, rfl, rfl, rfl, rfl, rfl⟩ := hk
        exact Loc.seq (exC_loc x env h b hx) (exC_loc y env1 h1 b1 hy) (fun o => written_app) (fun o => touched_app) fun a b c e1 e2 => by simp only [exC, e1, e2]
      · cases hk
    · rename_i e1 r hne hx
      simp only [Option.some.injEq, Prod.mk.injEq] at hk
      obtain ⟨rfl, rfl⟩ := hk
      refine (exC_loc x env h b hx).mono fun a c e => ?_
      cases e1 with
      | normal => exact absurd hx (by intro hh; exact hne _ _ _ _ _ rfl rfl)
      | exit id => simp only [exC, e]
      | ret => simp only [exC, e]
    · cases hk
  | .cond c x y, env, h, b, e, env', h', b', q, L, hk => by
    cases c with
    | tmp t =>
      simp only [exC] at hk
      split at hk
      · rename_i p hp
        cases p with
        | true => exact (exC_loc x env h b hk).mono fun a c e => by simp only [exC, hp, e]
        | false => exact (exC_loc y env h b hk).mono fun a c e => by simp only [exC, hp, e]
      · cases hk
    | const v =>
      cases v with
      | bool p =>
        cases p with
        | true => exact (exC_loc x env h b hk).mono fun a c e => by simp only [exC, e]
        | false => exact (exC_loc y env h b hk).mono fun a c e => by simp only [exC, e]
      | _ => simp [exC] at hk
    | func f => simp [exC] at hk
    | global _ => simp [exC] at hk
  | .block id c, env, h, b, e, env', h', b', q, L, hk => by
    simp only [exC] at hk
    split at hk
    · rename_i e1 r hx
      simp only [Option.some.injEq, Prod.mk.injEq] at hk
      obtain ⟨rfl, rfl⟩ := hk
      exact (exC_loc c env h b hx).mono fun a b e => by simp only [exC, e]
    · cases hk
  | .loop _, env, h, b, e, env', h', b', q, L, hk => by simp [exC] at hk
  | .rangeFunc _ _ _ _, env, h, b, e, env', h', b', q, L, hk => by simp [exC] at hk
  | .scope _, env, h, b, e, env', h', b', q, L, hk => by simp [exC] at hk
  | .goto _, env, h, b, e, env', h', b', q, L, hk => by simp [exC] at hk
  | .refuse _, env, h, b, e, env', h', b', q, L, hk => by simp [exC] at hk
end
end Go.Proofs.YtpgeopefamomnaeGreat

namespace Go.Proofs.YtpgeopefamomnaeGreat
open Go.RowKit
set_option linter.unusedVariables false
def toExit : AExit → Exit
  | .normal => .normal
  | .exit id => .exit id
  | .ret => .ret
theorem exC_sound {P : Program} {X : Inl} {N : Nat} (hS : InlOK P X) (hm : P.follows .mixedOrders = true) {w0 : World} {G W0 : Nat → Prop} {μ0 : Mu} {h0 : AH} : ∀ (c : Code) (env : Env) (h : AH) (b : Nat) (a : Act) (w : World) {e : AExit} {env' : Env} {h' : AH} {b' : Nat} {q : Prop} {L : OLog},
    exC P X N c env h b = some (e, env', h', b', q, L) → q → Good' w0 G W0 μ0 h0 N env h a w → c.wp P (fun e' a w => e' = toExit e ∧ Good' w0 G W0 μ0 h0 N env' h' a w) a w
  | .skip, env, h, b, a, w, e, env', h', b', q, L, hk, hq, g => by cases hk; exact wp_skip ⟨rfl, g⟩
  | .label l, env, h, b, a, w, e, env', h', b', q, L, hk, hq, g => by cases hk; exact wp_label ⟨rfl, g⟩
  | .exit id, env, h, b, a, w, e, env', h', b', q, L, hk, hq, g => by cases hk; exact wp_exit ⟨rfl, g⟩
  | .ret, env, h, b, a, w, e, env', h', b', q, L, hk, hq, g => by cases hk; exact wp_ret ⟨rfl, g⟩
  | .seq x y, env, h, b, a, w, e, env', h', b', q, L, hk, hq, g => by
    simp only [exC] at hk
    split at hk
    · rename_i env1 h1 b1 q1 L1 hx
      split at hk
      · rename_i e2 env2 h2 b2 q2 L2 hy
        simp only [Option.some.injEq, Prod.mk.injEq] at hk
        obtain ⟨rfl, rfl, rfl, rfl, rfl, rfl⟩ := hk
        refine wp_seq (wp_mono (exC_sound hS hm x env h b a w hx hq.1 g) fun e a w hh => ?_)
        obtain ⟨rfl, g1⟩ := hh
        exact exC_sound hS hm y env1 h1 b1 a w hy hq.2 g1
      · cases hk
    · rename_i e1 r hne hx
      simp only [Option.some.injEq, Prod.mk.injEq] at hk
      obtain ⟨rfl, rfl⟩ := hk
      refine wp_seq (wp_mono (exC_sound hS hm x env h b a w hx hq g) fun e a w hh => ?_)
      obtain ⟨rfl, g1⟩ := hh
      cases e1 with
      | normal => exact absurd hx (by intro hh; exact hne _ _ _ _ _ rfl rfl)
      | exit id => exact ⟨rfl, g1⟩
      | ret => exact ⟨rfl, g1⟩
    · cases hk
  | .cond c x y, env, h, b, a, w, e, env', h', b', q, L, hk, hq, g => by
    cases c with
    | tmp t =>
      simp only [exC] at hk
      split at hk
      · rename_i p hpt
        obtain ⟨μ, hg, _⟩ := g.good
        have he : a.eval (.tmp t) = .bool p := by
          have := hg.slots t
          rw [hpt] at this
          exact RepD.bool_eq this
        cases p with
        | true => exact wp_cond_true he (exC_sound hS hm x env h b a w hk hq g)
        | false => exact wp_cond_false he (exC_sound hS hm y env h b a w hk hq g)
      · cases hk
    | const v =>
      cases v with
      | bool p =>
        cases p with
        | true => exact wp_cond_true rfl (exC_sound hS hm x env h b a w hk hq g)
        | false => exact wp_cond_false rfl (exC_sound hS hm y env h b a w hk hq g)
      | _ => simp [exC] at hk
    | func f => simp [exC] at hk
    | global _ => simp [exC] at hk
  | .block id c, env, h, b, a, w, e, env', h', b', q, L, hk, hq, g => by
    simp only [exC] at hk
    split at hk
    · rename_i e1 r hx
      simp only [Option.some.injEq, Prod.mk.injEq] at hk
      obtain ⟨rfl, rfl⟩ := hk
      refine wp_block (wp_mono (exC_sound hS hm c env h b a w hx hq g) fun e a w hh => ?_)
      obtain ⟨rfl, g1⟩ := hh
      cases e1 with
      | normal => exact ⟨rfl, g1⟩
      | ret => exact ⟨rfl, g1⟩
      | exit id' =>
        simp only [toExit, Exit.inBlock, blockE]
        by_cases e : id' = id
        · subst e
          rw [if_pos rfl]
          simp only [Nat.beq_refl]
          exact ⟨trivial, g1⟩
        · have : Nat.beq id' id = false := by
            rw [← Bool.not_eq_true]
            exact fun e' => e (Nat.eq_of_beq_eq_true e')
          rw [if_neg e, this]
          exact ⟨rfl, g1⟩
    · cases hk
  | .region id ops draw, env, h, b, a, w, e, env', h', b', q, L, hk, hq, g => by
    simp only [exC] at hk
    split at hk
    · rename_i env1 h1 q1 Ls hr
      split at hk
      · rename_i hb
        simp only [Option.some.injEq, Prod.mk.injEq] at hk
        obtain ⟨rfl, rfl, rfl, rfl, rfl, rfl⟩ := hk
        simp only [Bool.and_eq_true, Bool.or_eq_true, Bool.not_eq_true'] at hb
        obtain ⟨E, H, V, Q, L, e1, e2, e3, e4, e5, e6, e7⟩ := exR_trace ops.toList 0 env h [] rfl hr hq
        have T : Trace P X b ops E H V Q L := ⟨fun i o ho => e3 i o (Nat.zero_le _) ho, fun i hi => e4 i (Nat.zero_le _) hi⟩
        have hl : 0 + ops.toList.length = ops.size := by simp
        have hl2 : ops.toList.length = ops.size := by simp
        rw [hl] at e5 e6
        rw [hl2, List.append_nil] at e7
        rw [← e1, ← e2] at g
        subst e5 e6
        cases draw with
        | false => exact region_seq T hS hb.1 (fun a w g' => ⟨rfl, g'⟩) g
        | true =>
          have ha := hb.2.resolve_left (by simp)
          rw [e7] at ha
          exact region_any T hS (apartB_spec rfl ha) hb.1 (fun a w g' => ⟨rfl, g'⟩) hm g
      · cases hk
    · cases hk
  | .loop _, env, h, b, a, w, e, env', h', b', q, L, hk, hq, g => by simp [exC] at hk
  | .rangeFunc _ _ _ _, env, h, b, a, w, e, env', h', b', q, L, hk, hq, g => by simp [exC] at hk
  | .scope _, env, h, b, a, w, e, env', h', b', q, L, hk, hq, g => by simp [exC] at hk
  | .goto _, env, h, b, a, w, e, env', h', b', q, L, hk, hq, g => by simp [exC] at hk
  | .refuse _, env, h, b, a, w, e, env', h', b', q, L, hk, hq, g => by simp [exC] at hk
def readL (L : OLog) : OLog := L.map fun x => (x.1, false)
theorem readL_touched {L : OLog} {o : Nat} (h : touched L o) : touched (readL L) o := by
  obtain ⟨b, hb⟩ := h
  exact ⟨false, List.mem_map.2 ⟨_, hb, rfl⟩⟩
theorem readL_written {L : OLog} {o : Nat} : ¬ written (readL L) o := fun h => by
  obtain ⟨x, _, hx⟩ := List.mem_map.1 h
  simp at hx
def resL (P : Program) (env : Env) (h : AH) : List ResultVar → OLog
  | [] => []
  | .tmp _ :: r => resL P env h r
  | .cell t ty :: r => readL ((loadP P ty (env t)).log env h).2 ++ resL P env h r
theorem resL_written {P : Program} {env : Env} {h : AH} {o : Nat} : ∀ {rs : List ResultVar}, ¬ written (resL P env h rs) o
  | [], hw => by simp [resL, written] at hw
  | .tmp _ :: r, hw => resL_written (rs := r) hw
  | .cell t ty :: r, hw => by
    simp only [resL] at hw
    rcases written_app.1 hw with h | h
    · exact readL_written h
    · exact resL_written h
theorem resR_agree {P : Program} {env : Env} {h h2 : AH} : ∀ {rs : List ResultVar} {r : List AV × Prop}, resR P env h rs = some r → (∀ o, touched (resL P env h rs) o → h2 o = h o) → resR P env h2 rs = some r ∧ resL P env h2 rs = resL P env h rs
  | [], r, hr, ho => ⟨hr, rfl⟩
  | .tmp t :: rs, r, hr, ho => by
    simp only [resR] at hr ⊢
    split at hr
    · rename_i vs q h1
      obtain ⟨k1, k2⟩ := resR_agree h1 ho
      exact ⟨by rw [k1]; exact hr, k2⟩
    · cases hr
  | .cell t ty :: rs, r, hr, ho => by
    simp only [resR] at hr ⊢
    split at hr
    · rename_i v1 q1 h1 hl
      split at hr
      · rename_i vs q h3
        simp only [resL] at ho ⊢
        obtain ⟨k1, k2⟩ := resR_agree h3 fun o hh => ho o (touched_app (.inr hh))
        obtain ⟨h2', m1, m2, _⟩ := AM.agree (env2 := env) _ h h2 hl (fun _ _ => rfl) fun o hh => ho o (touched_app (.inl (readL_touched hh)))
        exact ⟨by rw [m1, k1]; exact hr, by rw [m2, k2]⟩
      · cases hr
    · cases hr
def exF (P : Program) (X : Inl) : CS := fun K b xs h => match P.funcs[K]? with
  | none => none
  | some fn => match fn.body with
    | none => none
    | some c => match Nat.ble xs.length fn.ntmps with
      | false => none
      | true => match exC P X fn.ntmps c (envL xs) h b with
        | none => none
        | some (e, env', h', b', q, L) => match isExit e with
          | true => none
          | false => match resR P env' h' fn.results.toList with
            | none => none
            | some (vs, q2) => match noTup vs with
              | false => none
              | true => some (retV vs, q ∧ q2, h', L ++ resL P env' h' fn.results.toList)
def exFW (P : Program) (X : Inl) : WS := fun K b xs h k => match P.funcs[K]? with
  | none => False
  | some fn => match fn.body with
    | none => False
    | some c => match Nat.ble xs.length fn.ntmps with
      | false => False
      | true => exW P X fn.ntmps c (envL xs) h b fun e env' h' b' L => match isExit e with
        | true => False
        | false => match resR P env' h' fn.results.toList with
          | none => False
          | some (vs, q2) => match noTup vs with
            | false => False
            | true => q2 ∧ k (retV vs) h' (L ++ resL P env' h' fn.results.toList)
theorem exFW_iff {P : Program} {X : Inl} (hX : InlOK P X) {K : FuncId} {b : Nat} {xs : List AV} {h : AH} {k : AV → AH → OLog → Prop} : exFW P X K b xs h k ↔ ∃ v q h' L, exF P X K b xs h = some (v, q, h', L) ∧ q ∧ k v h' L := by
  unfold exFW exF
  cases P.funcs[K]? with
  | none => simp
  | some fn =>
    simp only
    cases fn.body with
    | none => simp
    | some c =>
      simp only
      cases Nat.ble xs.length fn.ntmps with
      | false => simp
      | true =>
        simp only
        rw [exW_iff hX]
        constructor
        · rintro ⟨e, env', h', b', q, L, h1, h2, h3⟩
          split at h3
          · exact h3.elim
          · rename_i he
            split at h3
            · exact h3.elim
            · rename_i vs q2 hr
              split at h3
              · exact h3.elim
              · rename_i hn
                exact ⟨_, q ∧ q2, _, _, by rw [h1]; simp only [he, hr, hn], ⟨h2, h3.1⟩, h3.2⟩
        · rintro ⟨v, q, h', L, h1, h2, h3⟩
          split at h1
          · cases h1
          · rename_i e env' h1' b' q1 L1 hc
            split at h1
            · cases h1
            · rename_i he
              split at h1
              · cases h1
              · rename_i vs q2 hr
                split at h1
                · cases h1
                · rename_i hn
                  simp only [Option.some.injEq, Prod.mk.injEq] at h1
                  obtain ⟨rfl, rfl, rfl, rfl⟩ := h1
                  exact ⟨_, _, _, _, _, _, hc, h2.1, by simp only [he, hr, hn]; exact ⟨h2.2, h3⟩⟩
/-- What is known of such an answer. -/
theorem exF_parts {P : Program} {X : Inl} {K : FuncId} {b : Nat} {xs : List AV} {h : AH} {v : AV} {q : Prop} {h' : AH} {L : OLog} (hr : exF P X K b xs h = some (v, q, h', L)) :
    ∃ fn c e env' b' q1 L1 vs q2, P.funcs[K]? = some fn ∧ fn.body = some c ∧ Nat.ble xs.length fn.ntmps = true ∧ exC P X fn.ntmps c (envL xs) h b = some (e, env', h', b', q1, L1) ∧ isExit e = false ∧ resR P env' h' fn.results.toList = some (vs, q2) ∧ noTup vs = true ∧
      v = retV vs ∧ q = (q1 ∧ q2) ∧ L = L1 ++ resL P env' h' fn.results.toList := by
  unfold exF at hr
  split at hr
  · cases hr
  · rename_i fn hf
    split at hr
    · cases hr
    · rename_i c hb
      split at hr
      · cases hr
      · rename_i hn
        split at hr
        · cases hr
        · rename_i e env' h1' b' q1 L1 hc
          split at hr
          · cases hr
          · rename_i he
            split at hr
            · cases hr
            · rename_i vs q2 hrr
              split at hr
              · cases hr
              · rename_i hnt
                simp only [Option.some.injEq, Prod.mk.injEq] at hr
                obtain ⟨rfl, rfl, rfl, rfl⟩ := hr
                exact ⟨fn, c, e, env', b', q1, L1, vs, q2, hf, hb, hn, hc, he, hrr, hnt, rfl, rfl, rfl⟩
theorem exF_loc {P : Program} {X : Inl} (hX : InlOK P X) {K : FuncId} {b : Nat} {xs : List AV} {h : AH} {v : AV} {q : Prop} {h' : AH} {L : OLog} (hr : exF P X K b xs h = some (v, q, h', L)) : Loc h h' L fun x y => exF P X K b xs x = some (v, q, y, L) := by
  obtain ⟨fn, c, e, env', b', q1, L1, vs, q2, k1, k2, k3, k4, k5, k6, k7, rfl, rfl, rfl⟩ := exF_parts hr
  have B : Loc h' h' (resL P env' h' fn.results.toList) fun x y => x = y ∧ resR P env' x fn.results.toList = some (vs, q2) ∧ resL P env' x fn.results.toList = resL P env' h' fn.results.toList :=
    ⟨fun _ _ => rfl, fun h2 ho => ⟨h2, ⟨rfl, resR_agree k6 ho⟩, fun o => ⟨fun hw => absurd hw resL_written, fun _ => rfl⟩⟩⟩
  refine Loc.seq (exC_loc hX c _ h b k4) B (fun o => written_app) (fun o => touched_app) fun x y z e1 e2 => ?_
  obtain ⟨rfl, e3, e4⟩ := e2
  simp only [exF, k1, k2, k3, e1, k5, e3, e4, k7]
theorem exF_calls {P : Program} {X : Inl} (hX : InlOK P X) (hm : P.follows .mixedOrders = true) (hname : ∀ (K : FuncId) fn, P.funcs[K]? = some fn → fn.name ≠ "runtime.NumGoroutine") {K : FuncId} {b : Nat} {xs : List AV} {args : Array Value} {h : AH} {μ : Mu} {w0 w : World} {G W0 : Nat → Prop} {v : AV} {q : Prop} {h' : AH} {L : OLog}
    (R : RelH w0 G W0 h μ w) (hargs : All2 (RepA w (WrOf h μ W0) μ) xs args.toList) (hr : exF P X K b xs h = some (v, q, h', L)) (hq : q) : (∃ fn, P.funcs[K]? = some fn ∧ fn.name ≠ "runtime.NumGoroutine" ∧ fn.body.isSome = true) ∧ CallsTo P w0 G W0 h μ w K args v h' := by
  obtain ⟨fn, c, e, env', b', q1, L1, vs, q2, hf, hb, k3, k4, k5, k6, k7, rfl, rfl, rfl⟩ := exF_parts hr
  refine ⟨⟨fn, hf, hname K fn hf, by rw [hb]; rfl⟩, ?_⟩
  have hn : xs.length ≤ fn.ntmps := Nat.le_of_ble_eq_true k3
  have hlen : args.size = xs.length := by simpa using hargs.1.symm
  refine calls_of_wp hf hb ?_
  let Gc : Nat → Prop := fun b => ∃ o x, h o = .live x ∧ At μ o b
  have Rc : RelH w Gc W0 h μ w := ⟨R.obj, R.inj, R.unused, fun o x b hx ha => ⟨(R.apart o x b hx ha).1, .inr ⟨o, x, hx, ha⟩⟩, fun b hb => Nat.lt_of_lt_of_le (R.w0lt b hb) R.size, rfl, rfl, rfl, Nat.le_refl _, fun _ _ _ => rfl⟩
  have g : Good' w Gc W0 μ h fn.ntmps (envL xs) h { tmps := args ++ Array.replicate (fn.ntmps - args.size) undef, defers := [] } w := by
    refine ⟨⟨μ, ⟨Rc, fun t => ?_⟩, MuLe.refl _, Keeps.refl _ _⟩, by simp; omega, rfl⟩
    rw [envL_get]
    cases hx : xs[t]? with
    | none => trivial
    | some x =>
      obtain ⟨u, hu, ru⟩ := hargs.get hx
      have ht : t < args.size := by rw [hlen]; exact (List.getElem?_eq_some_iff.1 hx).1
      have : (args ++ Array.replicate (fn.ntmps - args.size) undef).getD t undef = u := by
        rw [Array.getD_eq_getD_getElem?, Array.getElem?_append_left ht]
        simp at hu
        rw [hu]
        rfl
      simp only [Option.getD_some]
      rw [this]
      exact ru
  refine wp_mono (exC_sound hX hm c _ _ _ _ w k4 hq.1 g) fun e2 a w' hh => ?_
  obtain ⟨rfl, g'⟩ := hh
  obtain ⟨μ1, hg, p1, p2⟩ := g'.good
  obtain ⟨us, m1, m2⟩ := resR_run hg k6 hq.2
  have fin : bodyPost P fn (fun e w'' => ∃ u μ', e = .returned u ∧ RelH w0 G W0 h' μ' w'' ∧ MuLe μ μ' ∧ Keeps w w'' (WrOf h μ W0) (WrOf h' μ' W0) ∧ RepA w'' (WrOf h' μ' W0) μ' (retV vs) u) .ret a w' := by
    have R1 := hg.rel
    refine ⟨g'.defers, _, results_run m1, _, μ1, rfl, ⟨R1.obj, R1.inj, R1.unused, fun o x b hx ha => ?_, R.w0lt, R1.os.trans R.os, R1.tape.trans R.tape, R1.output.trans R.output, Nat.le_trans R.size R1.size, fun b hb hG => ?_⟩, p1, p2, retV_rep m2 (noTup_mem k7)⟩
    · obtain ⟨n1, n2⟩ := R1.apart o x b hx ha
      refine ⟨n1, ?_⟩
      rcases n2 with n2 | ⟨o', x', n3, n4⟩
      · exact .inl (Nat.le_trans R.size n2)
      · exact (R.apart o' x' b n3 n4).2
    · have hlt := Nat.lt_of_lt_of_le hb R.size
      rw [R1.kept b hlt fun ⟨o', x', n3, n4⟩ => ?_]
      · exact R.kept b hb hG
      · rcases (R.apart o' x' b n3 n4).2 with n5 | n5
        · omega
        · exact hG n5
  cases e with
  | normal => exact fin
  | ret => exact fin
  | exit id => cases k5
/-- Calls are walked where they stand, so deep. -/
def lvl (P : Program) (sp : Spec) (inl : FuncId → Bool) : Nat → Inl
  | 0 => inl0 sp
  | n + 1 => ⟨sp, inl, exF P (lvl P sp inl n), exFW P (lvl P sp inl n)⟩
def nameB (P : Program) : Bool := P.funcs.toList.all fun fn => fn.name != "runtime.NumGoroutine"
theorem lvl_ok {P : Program} {sp : Spec} (hS : SpecOK P sp) (hm : P.follows .mixedOrders = true) (hn : nameB P = true) (inl : FuncId → Bool) : ∀ n, InlOK P (lvl P sp inl n)
  | 0 => inl0_ok hS
  | n + 1 =>
    have hX := lvl_ok hS hm hn inl n
    { sp := hS
      frame := fun h => (exF_loc hX h).frame
      agree := fun h2 h ho => (exF_loc hX h).agree h2 ho
      calls := fun R ha h hq => exF_calls hX hm (fun K fn hf => by
        have := List.all_eq_true.1 hn fn (Array.mem_toList_iff.2 (Array.mem_of_getElem? hf))
        simpa using this) R ha h hq
      iff := exFW_iff hX }
end Go.Proofs.YtpgeopefamomnaeGreat

namespace Go.Proofs.YtpgeopefamomnaeGreat
open Go.RowKit
set_option linter.unusedVariables false
def scalS : AV → Bool
  | .c (.d (.int _ _)) => true
  | .c (.d (.bool _)) => true
  | .c (.d (.str _)) => true
  | _ => false
def scalB : AV → Bool
  | .tup vs => vs.all scalS
  | v => scalS v
section
variable {α : Type}
def readC (c : CV) (k : CV → AM α) : AM α := match c with
  | .own o => .obj o fun x => match x with
    | .row es _ _ _ => k (.d (.row es))
    | .box _ _ => .fail
  | .nils => k (.d (.row []))
  | .d x => k (.d x)
  | _ => .fail
def readCs : List CV → (List CV → AM α) → AM α
  | [], k => k []
  | c :: r, k => readC c fun x => readCs r fun xs => k (x :: xs)
def readA (v : AV) (k : AV → AM α) : AM α := match v with
  | .c x => readC x fun y => k (.c y)
  | .agg cs => readCs cs fun ys => k (.agg ys)
  | .tup _ => .fail
def readAs : List AV → (List AV → AM α) → AM α
  | [], k => k []
  | c :: r, k => readA c fun x => readAs r fun xs => k (x :: xs)
end
def no : Nat → Prop := fun _ => False
def noMu : Mu := fun _ => none
section
variable {α : Type} {env : Nat → AV} {w0 w : World} {G W0 : Nat → Prop} {μ : Mu} {h : AH} (R : RelH w0 G W0 h μ w)
theorem keeps_no {w : World} {Wr : Nat → Prop} : Keeps w w Wr no := fun b _ _ => ⟨fun h => h, rfl⟩
include R
theorem readC_run {c : CV} {u : Value} (hc : RepC w (WrOf h μ W0) μ c u) {k : CV → AM α} {r : α × Prop × AH} (hr : (readC c k).run env h = some r) : ∃ x, (k x).run env h = some r ∧ RepC w no noMu x u ∧ x.ok = true := by
  cases c with
  | d x => exact ⟨_, hr, RepD.mono keeps_no hc, rfl⟩
  | nils => cases hc; exact ⟨_, hr, nil_rep, rfl⟩
  | own o =>
    simp only [readC, AM.run] at hr
    split at hr
    · rename_i x hx
      cases x with
      | box _ _ => simp [AM.run] at hr
      | row es kk ty f =>
        obtain ⟨v, vs, h1, h2, h3, h4⟩ := R.obj o _ hx
        obtain ⟨hv, _⟩ := hc
        rw [hv] at h1
        cases h1
        refine ⟨_, hr, ?_, rfl⟩
        have h4' : All2 (RepD w no) es.flatten vs := h4.mono fun _ _ h => RepD.mono keeps_no h
        rcases h2.2 with ⟨rfl, hn⟩ | ⟨g, cap, cur, rfl, _, hg, hnc, hcm, hcs, htk⟩
        · have hx : vs = [] := List.eq_nil_of_length_eq_zero (by rw [h2.1, hn]; simp)
          subst hx
          exact .row es none 0 0 kk [] hn.symm (Nat.le_refl _) (by decide) h3 h4.1.symm (fun e => absurd rfl e) h4'.2
        · refine .row es _ _ cap kk vs rfl hnc hcm h3 h4.1.symm (fun _ => ⟨g, 0, rfl, fun h => h, fun i u hu => ?_⟩) h4'.2
          rw [← htk, List.getElem?_take] at hu
          split at hu
          · rw [Nat.zero_add, World.cell?, hg]
            simpa using hu
          · cases hu
    · cases hr
  | ptr _ _ _ _ => simp [readC, AM.run] at hr
  | dp _ _ _ _ => simp [readC, AM.run] at hr
  | clo _ _ => simp [readC, AM.run] at hr
  | undef => simp [readC, AM.run] at hr
theorem readCs_run : ∀ {cs : List CV} {us : List Value}, All2 (RepK w (WrOf h μ W0) μ) cs us → ∀ {k : List CV → AM α} {r : α × Prop × AH}, (readCs cs k).run env h = some r → ∃ xs, (k xs).run env h = some r ∧ All2 (RepK w no noMu) xs us
  | [], us, hc, k, r, hr => by
    have : us = [] := List.eq_nil_of_length_eq_zero hc.1.symm
    subst this
    exact ⟨[], hr, All2.nil⟩
  | c :: cs, us, hc, k, r, hr => by
    cases us with
    | nil => exact absurd hc.1 (by simp)
    | cons u us =>
      obtain ⟨x, k1, D1, O1⟩ := readC_run R (hc.2 0 c u rfl rfl).2 hr
      obtain ⟨xs, k2, D2⟩ := readCs_run ⟨by simpa using hc.1, fun i x y hx hy => hc.2 (i + 1) x y hx hy⟩ k1
      exact ⟨x :: xs, k2, All2.cons ⟨O1, D1⟩ D2⟩
theorem readA_run {c : AV} {u : Value} (hc : RepA w (WrOf h μ W0) μ c u) {k : AV → AM α} {r : α × Prop × AH} (hr : (readA c k).run env h = some r) : ∃ x, (k x).run env h = some r ∧ RepA w no noMu x u := by
  cases c with
  | c x => obtain ⟨x, a, b, _⟩ := readC_run (k := fun y => k (.c y)) R hc hr; exact ⟨_, a, b⟩
  | agg cs =>
    obtain ⟨us, rfl, hus⟩ := hc
    obtain ⟨xs, a, b⟩ := readCs_run R hus hr
    exact ⟨_, a, us, rfl, b⟩
  | tup _ => simp [readA, AM.run] at hr
theorem readAs_run : ∀ {cs : List AV} {us : List Value}, All2 (RepA w (WrOf h μ W0) μ) cs us → ∀ {k : List AV → AM α} {r : α × Prop × AH}, (readAs cs k).run env h = some r → ∃ xs, (k xs).run env h = some r ∧ All2 (RepA w no noMu) xs us
  | [], us, hc, k, r, hr => by
    have : us = [] := List.eq_nil_of_length_eq_zero hc.1.symm
    subst this
    exact ⟨[], hr, All2.nil⟩
  | c :: cs, us, hc, k, r, hr => by
    cases us with
    | nil => exact absurd hc.1 (by simp)
    | cons u us =>
      obtain ⟨x, k1, D1⟩ := readA_run R (hc.2 0 c u rfl rfl) hr
      obtain ⟨xs, k2, D2⟩ := readAs_run ⟨by simpa using hc.1, fun i x y hx hy => hc.2 (i + 1) x y hx hy⟩ k1
      exact ⟨x :: xs, k2, All2.cons D1 D2⟩
theorem pure_call {P : Program} {K : FuncId} {xs : List AV} {v : AV} {args : Array Value} (F : FunOK P K xs (hOf []) v (hOf [])) (hv : scalB v = true) (hargs : All2 (RepA w no noMu) xs args.toList) : CallsTo P w0 G W0 h μ w K args v h := by
  have R0 : RelH w no no (hOf []) noMu w := ⟨fun _ _ h => (by cases h), fun _ _ _ _ _ h => (by cases h), fun _ _ => rfl, fun _ _ _ h => (by cases h), fun _ (h : False) => h.elim, rfl, rfl, rfl, Nat.le_refl _, fun _ _ _ => rfl⟩
  have hw : ∀ b, WrOf (hOf []) noMu no b → no b := fun b hb => by
    rcases hb with hb | ⟨o, x, hx, _⟩
    · exact hb
    · cases hx
  have A0 : All2 (RepA w (WrOf (hOf []) noMu no) noMu) xs args.toList := hargs.mono fun _ _ hr => hr.mono (fun b _ hn => ⟨fun hb => hn (hw b hb), rfl⟩) (MuLe.refl _)
  refine Calls.mono (F w no no noMu args R0 A0) fun e w' ⟨u, μ', e1, R', _, _, hu⟩ => ?_
  have hsame : ∀ b, b < w.heap.size → w'.heap[b]? = w.heap[b]? := fun b hb => R'.kept b hb fun h => h
  have kp : Keeps w w' (WrOf h μ W0) (WrOf h μ W0) := fun b hb hn => ⟨hn, hsame b hb⟩
  have sc : ∀ v u, scalS v = true → RepA w' (WrOf (hOf []) μ' no) μ' v u → RepA w' (WrOf h μ W0) μ v u := fun v u hv hu => by
    unfold scalS at hv
    split at hv
    · have : u = _ := RepD.int_eq hu; subst this; exact RepD.int _ _
    · have : u = _ := RepD.bool_eq hu; subst this; exact RepD.bool _
    · have : u = _ := RepD.str_eq hu; subst this; exact RepD.str _
    · cases hv
  refine ⟨u, μ, e1, ⟨fun o x hx => RepO.mono kp (MuLe.refl _) (R.obj o x hx) fun b ha => hsame b ((R.obj o x hx).lt ha), R.inj, R.unused, R.apart, R.w0lt, R'.os.trans R.os, R'.tape.trans R.tape, R'.output.trans R.output, Nat.le_trans R.size R'.size, fun b hb hg => by rw [hsame b (Nat.lt_of_lt_of_le hb R.size)]; exact R.kept b hb hg⟩, MuLe.refl _, kp, ?_⟩
  unfold scalB at hv
  split at hv
  · rename_i vs
    obtain ⟨us, h1, h2⟩ := hu
    refine ⟨us, h1, h2.1, fun i x y hx hy => ?_⟩
    have hs := List.all_eq_true.1 hv x (List.mem_of_getElem? hx)
    have := h2.2 i x y hx hy
    cases x with
    | c z => exact sc (.c z) y hs this
    | agg _ => cases hs
    | tup _ => cases hs
  · exact sc _ u hv hu
end
def spR (S : Canon) : Spec := fun K nid xs => readAs xs fun xs1 => match S K xs1 [] with
  | some (p, v, []) => match scalB v with
    | true => .need p (.ret v)
    | false => .fail
  | _ => .fail
def spB (S : Canon) (bs : List FuncId) : Spec := fun K nid xs => match bs.any (Nat.beq K) with
  | true => spR S K nid xs
  | false => spOf S K nid xs
theorem spB_ok {P : Program} {S : Canon} (hS : Sound P S) (bs : List FuncId) : SpecOK P (spB S bs) := by
  intro K nid xs args env h μ w0 w G W0 v q h' R hargs hr hq
  unfold spB at hr
  split at hr
  · unfold spR at hr
    obtain ⟨xs1, k1, A1⟩ := readAs_run R hargs hr
    split at k1
    · rename_i p v1 hs
      split at k1
      · rename_i hv
        simp only [AM.run, Option.some.injEq, Prod.mk.injEq] at k1
        obtain ⟨rfl, rfl, rfl⟩ := k1
        obtain ⟨f1, f2⟩ := hS K xs1 [] p v1 [] hs hq.1
        exact ⟨f1, pure_call R f2 hv A1⟩
      · simp [AM.run] at k1
    · simp [AM.run] at k1
  · exact spOf_ok hS K nid xs args env h μ w0 w G W0 v q h' R hargs hr hq
end Go.Proofs.YtpgeopefamomnaeGreat

