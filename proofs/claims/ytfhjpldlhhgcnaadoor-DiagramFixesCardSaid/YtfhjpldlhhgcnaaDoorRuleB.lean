import Derived.Test.YtfhjpldlhhgcnaaDoorRule
namespace Go.Proofs.YtfhjpldlhhgcnaaDoor
open Go.RowKit

section
variable {P : Program} {ops : Array Oper} {md : Region.Mode} {W0 : World} {vals : Nat → Value} {Z : TypeId → Array Value}

/-- the new variables' slots are written by nothing else -/
def ownSlots (ops : Array Oper) (n : Nat) : Prop :=
  ∀ i o T t j o', i < n → ops[i]? = some o → allocOf o = some T → o.dst = some t → ops[j]? = some o' → j < n → j ≠ i → o'.dst ≠ some t

theorem put_get_ne {a : Act} {d : Option Tmp} {v : Value} {t : Tmp} (h : d ≠ some t) : (a.put d v).tmps[t]? = a.tmps[t]? := by
  cases d with
  | none => rfl
  | some x =>
    have hx : x ≠ t := fun e => h (by rw [e])
    simp [Act.put, Array.getElem?_setIfInBounds_ne hx]

theorem put_size {a : Act} {d : Option Tmp} {v : Value} : (a.put d v).tmps.size = a.tmps.size := by
  cases d <;> simp [Act.put]

theorem Made.next {n i : Nat} {oi : Oper} {listed : Array Bool} {a : Act} {w w' : World} {v : Value} (hJ : Made ops n W0 Z listed a w) (hi : ops[i]? = some oi) (hin : i < n) (hT : allocOf oi = none) (hown : ownSlots ops n) (fr : Fr nob w w') :
    Made ops n W0 Z (listed.setIfInBounds i true) (a.put oi.dst v) w' := by
  intro k o T t hk ho hTo ht hl
  have hki : k ≠ i := by rintro rfl; rw [ho] at hi; cases hi; rw [hT] at hTo; cases hTo
  rw [getD_set_ne false (Ne.symm hki)] at hl
  obtain ⟨b, h1, h2, h3, h4⟩ := hJ k o T t hk ho hTo ht hl
  have hne := hown k o T t i oi hk ho hTo ht hi hin (Ne.symm hki)
  refine ⟨b, (put_get_ne hne).trans h1, h2, (fr.block b (Array.getElem?_eq_some_iff.1 h3).1 (fun h => h)).trans h3, ?_⟩
  intro j o' T' t' hj hjk ho' hTo' hl' ht'
  have hji : j ≠ i := by rintro rfl; rw [ho'] at hi; cases hi; rw [hT] at hTo'; cases hTo'
  rw [getD_set_ne false (Ne.symm hji)] at hl'
  have hne' := hown j o' T' t' i oi hj ho' hTo' ht' hi hin (Ne.symm hji)
  rw [put_get_ne hne']
  exact h4 j o' T' t' hj hjk ho' hTo' hl' ht'

theorem Made.new {n i : Nat} {oi : Oper} {Ti : TypeId} {ti : Tmp} {listed : Array Bool} {a : Act} {w : World} (hJ : Made ops n W0 Z listed a w) (hi : ops[i]? = some oi) (hin : i < n) (hT : allocOf oi = some Ti) (hd : oi.dst = some ti) (hsz : ti < a.tmps.size)
    (hown : ownSlots ops n) (fr : Fr nob W0 w) : Made ops n W0 Z (listed.setIfInBounds i true) (a.put oi.dst (ptr w.heap.size)) (w.alloc (.cells (Z Ti) Ti)) := by
  have hnew : (a.put oi.dst (ptr w.heap.size)).tmps[ti]? = some (ptr w.heap.size) := by
    rw [hd]; simp [Act.put, hsz]
  intro k o T t hk ho hTo ht hl
  by_cases hki : k = i
  · subst hki
    have e : o = oi := Option.some.inj (ho.symm.trans hi)
    rw [e] at hTo ht
    rw [hT] at hTo; cases hTo
    rw [hd] at ht; cases ht
    refine ⟨w.heap.size, hnew, fr.size, heap_alloc_new w _, ?_⟩
    intro j o' T' t' hj hjk ho' hTo' hl' ht'
    rw [getD_set_ne false (Ne.symm hjk)] at hl'
    obtain ⟨b', h1, _, h3, _⟩ := hJ j o' T' t' hj ho' hTo' ht' hl'
    have hne' := hown j o' T' t' k oi hj ho' hTo' ht' hi hin (Ne.symm hjk)
    rw [put_get_ne hne', h1]
    intro e
    simp at e
    have := (Array.getElem?_eq_some_iff.1 h3).1
    omega
  · rw [getD_set_ne false (Ne.symm hki)] at hl
    obtain ⟨b, h1, h2, h3, h4⟩ := hJ k o T t hk ho hTo ht hl
    have hne := hown k o T t i oi hk ho hTo ht hi hin (Ne.symm hki)
    have hb := (Array.getElem?_eq_some_iff.1 h3).1
    refine ⟨b, (put_get_ne hne).trans h1, h2, (Below.heap_alloc w _ b hb).trans h3, ?_⟩
    intro j o' T' t' hj hjk ho' hTo' hl' ht'
    by_cases hji : j = i
    · subst hji
      have e : o' = oi := Option.some.inj (ho'.symm.trans hi)
      rw [e, hd] at ht'; cases ht'
      rw [hnew]
      intro e
      simp at e
    · rw [getD_set_ne false (Ne.symm hji)] at hl'
      have hne' := hown j o' T' t' i oi hj ho' hTo' ht' hi hin (Ne.symm hji)
      rw [put_get_ne hne']
      exact h4 j o' T' t' hj hjk ho' hTo' hl' ht'

theorem wpAny_of_G {n g : Nat} {L : Array Bool → Act → Prop} {Q' : Exit → Act → World → Prop}
    (hZ : ∀ i o T, i < n → ops[i]? = some o → allocOf o = some T → ∀ (ρ : Operand → Value) w, (execOp ρ o).run P w = .ok (.value (ptr w.heap.size)) (w.alloc (.cells (Z T) T)))
    (hown : ownSlots ops n) (sz : Nat) (hslots : ∀ i o t, i < n → ops[i]? = some o → o.dst = some t → t < sz)
    (hL : ∀ listed a w, Fr nob W0 w → Made ops n W0 Z listed a w → L listed a → wpAny P md ops Q' g listed a w) :
    ∀ (f : Nat) (listed : Array Bool) (a : Act) (w : World), Fr nob W0 w → Made ops n W0 Z listed a w → a.tmps.size = sz → wpAnyG P md ops W0 vals n L f listed a → wpAny P md ops Q' (f + g) listed a w
  | 0, listed, a, w, fr, hJ, _, h => by rw [Nat.zero_add]; exact hL _ _ _ fr hJ h
  | f + 1, listed, a, w, fr, hJ, hsz, h => by
    rw [show f + 1 + g = (f + g) + 1 by omega]
    refine ⟨fun h0 => absurd h0 h.1, fun i hi => ?_⟩
    obtain ⟨hin, hg⟩ := h.2 i hi
    obtain ⟨_, o, ho, _⟩ := mem_ready.1 hi
    unfold gOp at hg
    unfold wpOp
    simp only [ho] at hg ⊢
    cases hT : allocOf o with
    | some T =>
      simp only [hT] at hg
      obtain ⟨hop, hgd, t, ht⟩ := allocOf_spec hT
      rw [if_pos (by simp [Region.wanted, hgd])]
      left
      unfold Oper.wp
      rw [hZ i o T hin ho hT]
      exact wpAny_of_G hZ hown sz hslots hL f _ _ _ (fr.alloc _) (hJ.new ho hin hT ht (by rw [hsz]; exact hslots i o t hin ho ht) hown fr) (by rw [put_size]; exact hsz) (hg w.heap.size fr.size)
    | none =>
      simp only [hT] at hg
      obtain ⟨hy, hK⟩ := hg
      rcases hy with ⟨hw, hv⟩ | ⟨hw, hv⟩
      · rw [if_pos hw]
        left
        have h3 := hv w fr
        unfold growAt at h3
        unfold Oper.wp
        generalize (execOp a.eval o).run P w = r at *
        cases r with
        | ok nx w' =>
          cases nx <;> simp only [growUpon] at h3 <;> simp only [Oper.upon]
          case value u =>
            obtain ⟨e1, e2⟩ := h3
            rw [e1, e2]
            exact wpAny_of_G hZ hown sz hslots hL f _ _ _ fr (hJ.next ho hin hT hown (Fr.refl _ _)) (by rw [put_size]; exact hsz) hK
          case skip =>
            obtain ⟨e1, e2⟩ := h3
            rw [e1, ← e2]
            exact wpAny_of_G hZ hown sz hslots hL f _ _ _ fr (hJ.next ho hin hT hown (Fr.refl _ _)) (by rw [put_size]; exact hsz) hK
          case enter fi args =>
            obtain ⟨e1, hc⟩ := h3
            rw [e1]
            exact hc.mono fun e w'' ⟨he, hw''⟩ => by
              subst he
              exact wpAny_of_G hZ hown sz hslots hL f _ _ _ (fr.trans hw'' (fun _ _ h => h)) (hJ.next ho hin hT hown hw'') (by rw [put_size]; exact hsz) hK
        | halt x w' => simp only [growUpon] at h3
      · rw [if_neg (by rw [hw]; exact Bool.false_ne_true), ← hv]
        exact wpAny_of_G hZ hown sz hslots hL f _ _ _ fr (hJ.next ho hin hT hown (Fr.refl _ _)) (by rw [put_size]; exact hsz) hK

/-! the conditions, by computation -/
def ownSlotsB (ops : Array Oper) (n : Nat) : Bool :=
  (List.range n).all fun i => match ops[i]? with
    | some o => !(allocOf o).isSome || (List.range n).all fun j => j == i || (match ops[j]? with | some o' => o'.dst != o.dst | none => true)
    | none => true

theorem ownSlots_of {n : Nat} (h : ownSlotsB ops n = true) : ownSlots ops n := by
  intro i o T t j o' hi ho hT ht ho' hj hji e
  have h1 := List.all_eq_true.1 h i (List.mem_range.2 hi)
  simp only [ho, hT, Option.isSome_some, Bool.not_true, Bool.false_or] at h1
  have h2 := List.all_eq_true.1 h1 j (List.mem_range.2 hj)
  simp only [ho', Bool.or_eq_true, beq_iff_eq] at h2
  rcases h2 with h2 | h2
  · exact hji h2
  · rw [e, ht] at h2; simp at h2

def slotsB (ops : Array Oper) (n sz : Nat) : Bool :=
  (List.range n).all fun i => match ops[i]? with
    | some o => (match o.dst with | some t => decide (t < sz) | none => true)
    | none => true

theorem slots_of {n sz : Nat} (h : slotsB ops n sz = true) : ∀ i o t, i < n → ops[i]? = some o → o.dst = some t → t < sz := by
  intro i o t hi ho ht
  have h1 := List.all_eq_true.1 h i (List.mem_range.2 hi)
  simpa [ho, ht] using h1

def growB (l : List Oper) (n sz : Nat) : Bool :=
  Region.lexTailB .any l.toArray n && ownSlotsB l.toArray n && slotsB l.toArray n sz && allocsLast (l.take n)

/-- **THE RULE.** -/
theorem wp_region_grow {id : Nat} {Q : Exit → Act → World → Prop} {a : Act} {w : World} {l : List Oper} (n sz : Nat) (Z : TypeId → Array Value) (hm : P.follows .mixedOrders = true) (hB : growB l n sz = true) (hsz : a.tmps.size = sz)
    (hZ : ∀ i o T, i < n → l[i]? = some o → allocOf o = some T → ∀ (ρ : Operand → Value) w, (execOp ρ o).run P w = .ok (.value (ptr w.heap.size)) (w.alloc (.cells (Z T) T)))
    (h : wpGrow P l.toArray w (fun a' => ∀ w' listed, Fr nob w w' → (∀ i, i < n → listed.getD i false = true) → Made l.toArray n w Z listed a' w' → wpList P l.toArray Q (l.drop n) a' w') (l.take n) a) :
    (Code.region id l.toArray true).wp P Q a w := by
  simp only [growB, Bool.and_eq_true] at hB
  obtain ⟨⟨⟨hlt, hown⟩, hsl⟩, hal⟩ := hB
  simp only [Region.lexTailB, Bool.and_eq_true, decide_eq_true_eq] at hlt
  obtain ⟨⟨⟨⟨hsel, hn⟩, hs⟩, hc⟩, hlex⟩ := hlt
  have hn' : n < l.length := by simpa using hn
  have htl : (l.take n).length = n := by simp; omega
  have hdl : (l.drop n).length = l.toArray.size - n := by simp
  have inv0 : HeadInv .any l.toArray n (Array.replicate l.toArray.size false) :=
    ⟨by simp, fun j oj _ hl => (by rw [getD_replicate_false] at hl; cases hl), fun t _ ht => getD_in (by simpa using ht) (getD_replicate_false _ _)⟩
  obtain ⟨vals, hV⟩ := growV_of (l.take n) 0 a hal h
  have H := wpAnyG_lex (md := .any) (g := l.toArray.size - n) hsel hs hc hn (l.take n) 0 _ a (fun j hj => by
    have hj' : j < n := by rw [htl] at hj; exact hj
    simp [hj']) (by simpa using htl) inv0 (by rw [htl]; exact hlex) hV
  refine wp_region_any hm ?_
  have fr0 : Fr nob w { w with drawn := w.drawn + 1 } := ⟨rfl, rfl, rfl, Nat.le_refl _, fun _ _ _ => rfl⟩
  have := wpAny_of_G (Q' := Q) (g := l.toArray.size - n) (Z := Z) (fun i o T hi ho hT => hZ i o T hi (by simpa using ho) hT) (ownSlots_of hown) sz (slots_of hsl) (fun listed a' w' fr hJ hL => by
    have := wpAny_of_seq (md := .any) (Q' := Q) (l.drop n) n listed a' w' (fun j => by simp [List.getElem?_drop]) (by rw [hdl]; exact hL.1.1) (hL.2 w' listed fr (fun i hi => hL.1.2 i hi (.inr (Nat.zero_le _))) hJ)
    rwa [hdl] at this) _ _ _ _ fr0 (by intro i o T t _ _ _ _ hl; rw [getD_replicate_false] at hl; cases hl) hsz H
  rw [htl, show n + (l.toArray.size - n) = l.toArray.size by omega] at this
  exact this

def allocTypes (l : List Oper) : List TypeId := l.filterMap allocOf

/-- THE RULE, the types of the variables that it makes at hand. -/
theorem wp_region_grow' {id : Nat} {Q : Exit → Act → World → Prop} {a : Act} {w : World} {l : List Oper} (n sz : Nat) (Z : TypeId → Array Value) (ts : List TypeId) (hm : P.follows .mixedOrders = true) (hB : growB l n sz = true) (hsz : a.tmps.size = sz)
    (hts : allocTypes (l.take n) = ts) (hZ : ∀ T, T ∈ ts → ∀ w, (Instr.alloc T true (.tuple #[])).run P w = .ok (ptr w.heap.size) (w.alloc (.cells (Z T) T)))
    (h : wpGrow P l.toArray w (fun a' => ∀ w' listed, Fr nob w w' → (∀ i, i < n → listed.getD i false = true) → Made l.toArray n w Z listed a' w' → wpList P l.toArray Q (l.drop n) a' w') (l.take n) a) :
    (Code.region id l.toArray true).wp P Q a w := by
  refine wp_region_grow n sz Z hm hB hsz (fun i o T hi ho hT ρ w => ?_) h
  have hmem : T ∈ ts := by
    rw [← hts]
    refine List.mem_filterMap.2 ⟨o, List.mem_of_getElem? (i := i) ?_, hT⟩
    rw [List.getElem?_take, if_pos hi]; exact ho
  obtain ⟨hop, _, _⟩ := allocOf_spec hT
  unfold execOp
  rw [hop]
  simp [hZ T hmem w, Result.andThen]

theorem grow_step {Q : Act → Prop} {o : Oper} {rest : List Oper} {a : Act} {v : Value} (hT : allocOf o = none) (hw : Region.wanted o (yielded ops a.tmps) = true) (hv : ∀ w, Fr nob W0 w → growAt P o a w v) (hK : wpGrow P ops W0 Q rest (a.put o.dst v)) : wpGrow P ops W0 Q (o :: rest) a := by
  unfold wpGrow
  simp only [hT]
  exact ⟨v, .inl ⟨hw, hv⟩, hK⟩

theorem grow_skip {Q : Act → Prop} {o : Oper} {rest : List Oper} {a : Act} (hT : allocOf o = none) (hw : Region.wanted o (yielded ops a.tmps) = false) (hK : wpGrow P ops W0 Q rest (a.put o.dst undef)) : wpGrow P ops W0 Q (o :: rest) a := by
  unfold wpGrow
  simp only [hT]
  exact ⟨undef, .inr ⟨hw, rfl⟩, hK⟩

theorem grow_alloc {Q : Act → Prop} {o : Oper} {rest : List Oper} {a : Act} {T : TypeId} (hT : allocOf o = some T) (hK : ∀ b, W0.heap.size ≤ b → wpGrow P ops W0 Q rest (a.put o.dst (ptr b))) : wpGrow P ops W0 Q (o :: rest) a := by
  unfold wpGrow
  simp only [hT]
  exact hK

theorem grow_nil {Q : Act → Prop} {a : Act} (h : Q a) : wpGrow P ops W0 Q [] a := h

theorem growAt_value {o : Oper} {a : Act} {w : World} {v : Value} (h : (execOp a.eval o).run P w = .ok (.value v) w) : growAt P o a w v := by
  unfold growAt; rw [h]; exact ⟨rfl, rfl⟩

theorem growAt_call {o : Oper} {a : Act} {w : World} {v : Value} {f : FuncId} {args : Array Value} (h : (execOp a.eval o).run P w = .ok (.enter f args) w) (hc : Calls P f args w fun e w' => e = .returned v ∧ Fr nob w w') : growAt P o a w v := by
  unfold growAt; rw [h]; exact ⟨rfl, hc⟩
end
end Go.Proofs.YtfhjpldlhhgcnaaDoor
