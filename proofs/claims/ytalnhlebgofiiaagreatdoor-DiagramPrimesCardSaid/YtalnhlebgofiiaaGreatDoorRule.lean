import Derived.Test.YtalnhlebgofiiaaGreatDoorApp
import Derived.StillTail
import Derived.Deep.Quiet
namespace Go.Proofs.YtalnhlebgofiiaaGreatDoor
open Go.RowKit

/-! A REGION THAT DRAWS ITS ORDER, whose operations but the last ones only make new memory (calls by their contracts, variables of its own), and whose last ones stand in a row: one walk of the text's order serves every order. -/
abbrev ptr (b : Nat) : Value := .pointer (some ⟨b, 0, none⟩)

def allocOf (o : Oper) : Option TypeId :=
  match o.op, o.dst, o.guard with
  | .alloc T, some _, none => some T
  | _, _, _ => none

theorem allocOf_spec {o : Oper} {T : TypeId} (h : allocOf o = some T) : o.op = .alloc T ∧ o.guard = none ∧ ∃ t, o.dst = some t := by
  unfold allocOf at h
  split at h
  · rename_i h1 h2 h3; cases h; exact ⟨h1, h3, _, h2⟩
  · cases h

def growUpon (P : Program) (w : World) (v : Value) : Result Next → Prop
  | .ok (.value u) w' => w' = w ∧ u = v
  | .ok .skip w' => w' = w ∧ v = undef
  | .ok (.enter f args) w' => w' = w ∧ Calls P f args w (fun e w'' => e = .returned v ∧ Fr nob w w'')
  | _ => False

def growAt (P : Program) (o : Oper) (a : Act) (w : World) (v : Value) : Prop := growUpon P w v ((execOp a.eval o).run P w)

def Yv (P : Program) (ops : Array Oper) (W0 : World) (o : Oper) (v : Value) (a : Act) : Prop :=
  (Region.wanted o (yielded ops a.tmps) = true ∧ ∀ w, Fr nob W0 w → growAt P o a w v) ∨ (Region.wanted o (yielded ops a.tmps) = false ∧ v = undef)

def gOp (P : Program) (ops : Array Oper) (W0 : World) (vals : Nat → Value) (i : Nat) (K : Act → Prop) (a : Act) : Prop :=
  match ops[i]? with
  | none => K a
  | some o => match allocOf o with
    | some _ => ∀ b, W0.heap.size ≤ b → K (a.put o.dst (ptr b))
    | none => Yv P ops W0 o (vals i) a ∧ K (a.put o.dst (vals i))

def wpAnyG (P : Program) (md : Region.Mode) (ops : Array Oper) (W0 : World) (vals : Nat → Value) (n : Nat) (L : Array Bool → Act → Prop) : Nat → Array Bool → Act → Prop
  | 0, listed, a => L listed a
  | f + 1, listed, a => Region.ready md ops listed ≠ [] ∧ ∀ i ∈ Region.ready md ops listed, i < n ∧ gOp P ops W0 vals i (wpAnyG P md ops W0 vals n L f (listed.setIfInBounds i true)) a

/-- what is known of the variables that the region has made -/
def Made (ops : Array Oper) (n : Nat) (W0 : World) (Z : TypeId → Array Value) (listed : Array Bool) (a : Act) (w : World) : Prop :=
  ∀ i o T t, i < n → ops[i]? = some o → allocOf o = some T → o.dst = some t → listed.getD i false = true →
    ∃ b, a.tmps[t]? = some (ptr b) ∧ W0.heap.size ≤ b ∧ w.heap[b]? = some (.cells (Z T) T) ∧
      ∀ j o' T' t', j < n → j ≠ i → ops[j]? = some o' → allocOf o' = some T' → listed.getD j false = true → o'.dst = some t' → a.tmps[t']? ≠ some (ptr b)

section
variable {P : Program} {ops : Array Oper} {md : Region.Mode} {W0 : World} {vals : Nat → Value}

theorem gOp_mono {i : Nat} {a : Act} {K K' : Act → Prop} (h : ∀ a, K a → K' a) (hh : gOp P ops W0 vals i K a) : gOp P ops W0 vals i K' a := by
  unfold gOp at *
  split
  · exact h _ (by simpa [*] using hh)
  · rename_i o ho
    simp only [ho] at hh
    split
    · rename_i hT; simp only [hT] at hh; exact fun b hb => h _ (hh b hb)
    · rename_i hT; simp only [hT] at hh; exact ⟨hh.1, h _ hh.2⟩

theorem Yv.of_same {o : Oper} {v : Value} {a a' : Act} (hy : Yv P ops W0 o v a) (he : execOp a'.eval o = execOp a.eval o)
    (hw : Region.wanted o (yielded ops a'.tmps) = Region.wanted o (yielded ops a.tmps)) : Yv P ops W0 o v a' := by
  unfold Yv growAt at *
  rw [he, hw]
  exact hy

theorem Yv.put {o : Oper} {v u : Value} {a : Act} {d : Option Tmp} (hs : ∀ cs b, o.op ≠ .select cs b) (h : ∀ x, d = some x → x ∉ o.looksAt ops) : Yv P ops W0 o v (a.put d u) ↔ Yv P ops W0 o v a :=
  ⟨fun hy => hy.of_same (execOp_put o hs a d u h).symm (wanted_put o a d u h).symm, fun hy => hy.of_same (execOp_put o hs a d u h) (wanted_put o a d u h)⟩

/-- Two operations apart from each other may change places. -/
theorem gOp_swap {i j : Nat} {oi oj : Oper} (hi : ops[i]? = some oi) (hj : ops[j]? = some oj) (hap : oi.apart ops oj = true) (hsi : ∀ cs b, oi.op ≠ .select cs b) (hsj : ∀ cs b, oj.op ≠ .select cs b)
    {K : Act → Prop} {a : Act} (h : gOp P ops W0 vals i (gOp P ops W0 vals j K) a) : gOp P ops W0 vals j (gOp P ops W0 vals i K) a := by
  obtain ⟨h1, h2, h3⟩ := Oper.apart_spec hap
  unfold gOp at *
  simp only [hi, hj] at *
  cases hTi : allocOf oi with
  | some Ti =>
    cases hTj : allocOf oj with
    | some Tj =>
      simp only [hTi, hTj] at h
      exact fun b hb b' hb' => by rw [← Act.put_comm a (ptr b') (ptr b) h2]; exact h b' hb' b hb
    | none =>
      simp only [hTi, hTj] at h
      refine ⟨(Yv.put hsj h1).1 (h _ (Nat.le_refl _)).1, fun b hb => ?_⟩
      rw [← Act.put_comm a (ptr b) (vals j) h2]
      exact (h b hb).2
  | none =>
    cases hTj : allocOf oj with
    | some Tj =>
      simp only [hTi, hTj] at h
      refine fun b hb => ⟨(Yv.put hsi h3).2 h.1, ?_⟩
      rw [← Act.put_comm a (vals i) (ptr b) h2]
      exact h.2 b hb
    | none =>
      simp only [hTi, hTj] at h
      obtain ⟨k1, k2, k3⟩ := h
      refine ⟨(Yv.put hsj h1).1 k2, (Yv.put hsi h3).2 k1, ?_⟩
      rw [← Act.put_comm a (vals i) (vals j) h2]
      exact k3

theorem gOp_some {i : Nat} {oi : Oper} (hi : ops[i]? = some oi) {K : Act → Prop} {a : Act} (h : gOp P ops W0 vals i K a) : ∃ a', K a' := by
  unfold gOp at h
  simp only [hi] at h
  cases hT : allocOf oi with
  | some T => simp only [hT] at h; exact ⟨_, h _ (Nat.le_refl _)⟩
  | none => simp only [hT] at h; exact ⟨_, h.2⟩

theorem wpAnyG_first {n i : Nat} {oi : Oper} {L : Array Bool → Act → Prop} (hi : ops[i]? = some oi) (hsel : ∀ (j : Nat) (o : Oper) cs b, ops[j]? = some o → o.op ≠ .select cs b)
    (hs : Region.sinkB md ops n = true) (hc : Region.chainB md ops n = true) (hn : n < ops.size) (hin : i < n)
    (hdone : ∀ listed a, L listed a → ∀ j ∈ Region.ready md ops listed, n ≤ j) :
    ∀ (f : Nat) (listed : Array Bool) (a : Act), HeadInv md ops n listed →
      (∀ j oj, ops[j]? = some oj → j ≠ i → listed.getD j true = false → (∀ e ∈ oj.after, Region.binds md e = true → e.on ≠ i) → oi.apart ops oj = true) →
      i ∈ Region.ready md ops listed →
      gOp P ops W0 vals i (wpAnyG P md ops W0 vals n L f (listed.setIfInBounds i true)) a → wpAnyG P md ops W0 vals n L (f + 1) listed a := by
  intro f
  induction f with
  | zero =>
    intro listed a inv _ hr H
    have hun := (mem_ready.1 hr).1
    refine ⟨fun h => (by rw [h] at hr; cases hr), fun j hj => ?_⟩
    have hjn : j < n := by
      rcases Nat.lt_or_ge j n with h | h
      · exact h
      · exact absurd hj (tail_waits hs hc hn inv _ i rfl hin hun j h)
    refine ⟨hjn, ?_⟩
    by_cases hji : j = i
    · subst hji; exact H
    · obtain ⟨a', ha'⟩ := gOp_some hi H
      have := hdone _ _ ha' j (ready_mono hj hji)
      omega
  | succ f ih =>
    intro listed a inv hfree hr H
    have hun := (mem_ready.1 hr).1
    refine ⟨fun h => (by rw [h] at hr; cases hr), fun j hj => ?_⟩
    have hjn : j < n := by
      rcases Nat.lt_or_ge j n with h | h
      · exact h
      · exact absurd hj (tail_waits hs hc hn inv _ i rfl hin hun j h)
    refine ⟨hjn, ?_⟩
    by_cases hji : j = i
    · subst hji; exact H
    · obtain ⟨hjun, oj, hoj, hall⟩ := mem_ready.1 hj
      have hnot : ∀ e ∈ oj.after, Region.binds md e = true → e.on ≠ i := fun e he hb heq => by
        have h1 := hall e he hb
        rw [heq, getD_both hun] at h1
        cases h1
      have h1 : gOp P ops W0 vals i (gOp P ops W0 vals j (wpAnyG P md ops W0 vals n L f ((listed.setIfInBounds i true).setIfInBounds j true))) a :=
        gOp_mono (fun a' h => (h.2 j (ready_mono hj hji)).2) H
      have h2 := gOp_swap hi hoj (hfree j oj hoj hji hjun hnot) (fun cs b => hsel i oi cs b hi) (fun cs b => hsel j oj cs b hoj) h1
      have hfree' : ∀ k ok, ops[k]? = some ok → k ≠ i → (listed.setIfInBounds j true).getD k true = false →
          (∀ e ∈ ok.after, Region.binds md e = true → e.on ≠ i) → oi.apart ops ok = true := fun k ok hk hki hun hno => by
        refine hfree k ok hk hki ?_ hno
        by_cases hjk : j = k
        · subst hjk; exact hjun
        · rw [getD_set_ne true hjk] at hun; exact hun
      refine gOp_mono (fun a' h3 => ih (listed.setIfInBounds j true) a' (inv.set hj hjn) hfree' (ready_mono hr (Ne.symm hji)) ?_) h2
      rw [Array.setIfInBounds_comm _ _ hji]
      exact h3

/-- The walk of the text's order, with what each operation yields. -/
def wpGrowV (P : Program) (ops : Array Oper) (W0 : World) (vals : Nat → Value) (Q : Act → Prop) : List Oper → Nat → Act → Prop
  | [], _, a => Q a
  | o :: rest, k, a => match allocOf o with
    | some _ => ∀ b, W0.heap.size ≤ b → wpGrowV P ops W0 vals Q rest (k + 1) (a.put o.dst (ptr b))
    | none => Yv P ops W0 o (vals k) a ∧ wpGrowV P ops W0 vals Q rest (k + 1) (a.put o.dst (vals k))

def wpGrow (P : Program) (ops : Array Oper) (W0 : World) (Q : Act → Prop) : List Oper → Act → Prop
  | [], a => Q a
  | o :: rest, a => match allocOf o with
    | some _ => ∀ b, W0.heap.size ≤ b → wpGrow P ops W0 Q rest (a.put o.dst (ptr b))
    | none => ∃ v, Yv P ops W0 o v a ∧ wpGrow P ops W0 Q rest (a.put o.dst v)

/-- behind the first variable that is made only such ones stand -/
def allocsLast : List Oper → Bool
  | [] => true
  | o :: rest => if (allocOf o).isSome then rest.all (fun o => (allocOf o).isSome) else allocsLast rest

theorem growV_allocs {Q : Act → Prop} : ∀ (l : List Oper) (k : Nat) (a : Act), (l.all fun o => (allocOf o).isSome) = true → wpGrow P ops W0 Q l a → wpGrowV P ops W0 vals Q l k a
  | [], _, _, _, h => h
  | o :: l, k, a, hl, h => by
    simp only [List.all_cons, Bool.and_eq_true] at hl
    unfold wpGrow at h
    unfold wpGrowV
    cases hT : allocOf o with
    | none => rw [hT] at hl; cases hl.1
    | some T =>
      simp only [hT] at h ⊢
      exact fun b hb => growV_allocs l (k + 1) _ hl.2 (h b hb)

theorem growV_vals {Q : Act → Prop} {vals vals' : Nat → Value} : ∀ (l : List Oper) (k : Nat) (a : Act), (∀ j, k ≤ j → vals j = vals' j) → wpGrowV P ops W0 vals Q l k a → wpGrowV P ops W0 vals' Q l k a
  | [], _, _, _, h => h
  | o :: l, k, a, hv, h => by
    unfold wpGrowV at *
    cases hT : allocOf o with
    | some T => simp only [hT] at h ⊢; exact fun b hb => growV_vals l (k + 1) _ (fun j hj => hv j (by omega)) (h b hb)
    | none =>
      simp only [hT] at h ⊢
      rw [← hv k (Nat.le_refl _)]
      exact ⟨h.1, growV_vals l (k + 1) _ (fun j hj => hv j (by omega)) h.2⟩

theorem growV_of {Q : Act → Prop} : ∀ (l : List Oper) (k : Nat) (a : Act), allocsLast l = true → wpGrow P ops W0 Q l a → ∃ vals, wpGrowV P ops W0 vals Q l k a
  | [], _, _, _, h => ⟨fun _ => undef, h⟩
  | o :: l, k, a, hl, h => by
    cases hT : allocOf o with
    | some T =>
      refine ⟨fun _ => undef, growV_allocs (o :: l) k a ?_ h⟩
      unfold allocsLast at hl
      simp only [hT, Option.isSome_some, if_true] at hl
      simp only [List.all_cons, hT, Option.isSome_some, Bool.true_and]
      exact hl
    | none =>
      unfold wpGrow at h
      simp only [hT] at h
      obtain ⟨v, hy, hK⟩ := h
      unfold allocsLast at hl
      simp only [hT, Option.isSome_none, Bool.false_eq_true, if_false] at hl
      obtain ⟨vals, hv⟩ := growV_of l (k + 1) _ hl hK
      refine ⟨fun j => if j = k then v else vals j, ?_⟩
      unfold wpGrowV
      simp only [hT, if_true]
      exact ⟨hy, growV_vals l (k + 1) _ (fun j hj => by rw [if_neg (by omega)]) hv⟩

theorem wpAnyG_lex {n g : Nat} {Lq : Act → Prop} (hsel : Region.noSelect ops = true) (hs : Region.sinkB md ops n = true) (hc : Region.chainB md ops n = true) (hn : n < ops.size) :
    ∀ (l : List Oper) (k : Nat) (listed : Array Bool) (a : Act), (∀ j, j < l.length → l[j]? = ops[k + j]?) → k + l.length = n → HeadInv md ops n listed →
    Region.lexHead md ops g l.length k listed = true → wpGrowV P ops W0 vals Lq l k a →
    wpAnyG P md ops W0 vals n (fun listed' a' => (Region.seqB md ops g n listed' = true ∧ ∀ i, i < n → listed.getD i false = true ∨ k ≤ i → listed'.getD i false = true) ∧ Lq a') l.length listed a
  | [], k, listed, a, _, hk, inv, hB, h => by
    have : k = n := by simpa using hk
    subst this
    exact ⟨⟨by simpa [Region.lexHead] using hB, fun i hi h => h.resolve_right (by omega)⟩, h⟩
  | o :: l, k, listed, a, hl, hk, inv, hB, h => by
    have h0 : ops[k]? = some o := by simpa using (hl 0 (by simp)).symm
    simp only [List.length_cons, Region.lexHead, Bool.and_eq_true] at hB
    obtain ⟨⟨hr, hf⟩, hB'⟩ := hB
    have hkn : k < n := by simp only [List.length_cons] at hk; omega
    have hr' : k ∈ Region.ready md ops listed := by simpa using hr
    have hst : gOp P ops W0 vals k (wpGrowV P ops W0 vals Lq l (k + 1)) a := by unfold gOp; simp only [h0]; exact h
    have hks : k < listed.size := by rw [inv.size]; omega
    refine wpAnyG_first h0 (Region.noSelect_spec hsel) hs hc hn hkn (fun listed' a' hL => seqB_ready hL.1.1) l.length listed a inv (Region.free_spec h0 hf) hr' (gOp_mono (fun a' h' => ?_) hst)
    have := wpAnyG_lex (g := g) hsel hs hc hn l (k + 1) (listed.setIfInBounds k true) a' (fun j hj => by have := hl (j + 1) (by simp; omega); simpa [Nat.add_assoc, Nat.add_comm 1 j] using this) (by simp only [List.length_cons] at hk; omega) (inv.set hr' hkn) hB' h'
    refine wpAnyG_mono ?_ l.length _ _ this
    rintro listed' a'' ⟨⟨e1, e2⟩, e3⟩
    refine ⟨⟨e1, fun i hi hh => e2 i hi ?_⟩, e3⟩
    by_cases hik : i = k
    · subst hik; exact .inl (by simp [hks])
    · rcases hh with hh | hh
      · exact .inl (getD_set_true hh)
      · exact .inr (by omega)
  where
  wpAnyG_mono {n : Nat} {L L' : Array Bool → Act → Prop} (h : ∀ listed a, L listed a → L' listed a) : ∀ (f : Nat) (listed : Array Bool) (a : Act), wpAnyG P md ops W0 vals n L f listed a → wpAnyG P md ops W0 vals n L' f listed a
    | 0, _, _, hh => h _ _ hh
    | f + 1, _, _, hh => ⟨hh.1, fun i hi => ⟨(hh.2 i hi).1, gOp_mono (fun a' h' => wpAnyG_mono h f _ a' h') (hh.2 i hi).2⟩⟩
end
end Go.Proofs.YtalnhlebgofiiaaGreatDoor
namespace Go.Proofs.YtalnhlebgofiiaaGreatDoor
open Go.RowKit

section
variable {P : Program} {ops : Array Oper} {md : Region.Mode} {W0 : World} {vals : Nat → Value} {Z : TypeId → Array Value}

/-- the new variables' slots are written by nothing else -/
def ownSlots (ops : Array Oper) (n : Nat) : Prop :=
  ∀ i o T t j o', i < n → ops[i]? = some o → allocOf o = some T → o.dst = some t → ops[j]? = some o' → j < n → j ≠ i → o'.dst ≠ some t

theorem put_get_ne {a : Act} {d : Option Tmp} {v : Value} {t : Tmp} (h : d ≠ some t) : (a.put d v).tmps[t]? = a.tmps[t]? := by
  cases d with
  | none => rfl
  | some x =>
    have hx : x ≠ t := fun e => h (by rw [e])
    simp [Act.put, Array.getElem?_setIfInBounds_ne hx]

theorem put_size {a : Act} {d : Option Tmp} {v : Value} : (a.put d v).tmps.size = a.tmps.size := by
  cases d <;> simp [Act.put]

theorem Made.next {n i : Nat} {oi : Oper} {listed : Array Bool} {a : Act} {w w' : World} {v : Value} (hJ : Made ops n W0 Z listed a w) (hi : ops[i]? = some oi) (hin : i < n) (hT : allocOf oi = none) (hown : ownSlots ops n) (fr : Fr nob w w') :
    Made ops n W0 Z (listed.setIfInBounds i true) (a.put oi.dst v) w' := by
  intro k o T t hk ho hTo ht hl
  have hki : k ≠ i := by rintro rfl; rw [ho] at hi; cases hi; rw [hT] at hTo; cases hTo
  rw [getD_set_ne false (Ne.symm hki)] at hl
  obtain ⟨b, h1, h2, h3, h4⟩ := hJ k o T t hk ho hTo ht hl
  have hne := hown k o T t i oi hk ho hTo ht hi hin (Ne.symm hki)
  refine ⟨b, (put_get_ne hne).trans h1, h2, (fr.block b (Array.getElem?_eq_some_iff.1 h3).1 (fun h => h)).trans h3, ?_⟩
  intro j o' T' t' hj hjk ho' hTo' hl' ht'
  have hji : j ≠ i := by rintro rfl; rw [ho'] at hi; cases hi; rw [hT] at hTo'; cases hTo'
  rw [getD_set_ne false (Ne.symm hji)] at hl'
  have hne' := hown j o' T' t' i oi hj ho' hTo' ht' hi hin (Ne.symm hji)
  rw [put_get_ne hne']
  exact h4 j o' T' t' hj hjk ho' hTo' hl' ht'

theorem Made.new {n i : Nat} {oi : Oper} {Ti : TypeId} {ti : Tmp} {listed : Array Bool} {a : Act} {w : World} (hJ : Made ops n W0 Z listed a w) (hi : ops[i]? = some oi) (hin : i < n) (hT : allocOf oi = some Ti) (hd : oi.dst = some ti) (hsz : ti < a.tmps.size)
    (hown : ownSlots ops n) (fr : Fr nob W0 w) : Made ops n W0 Z (listed.setIfInBounds i true) (a.put oi.dst (ptr w.heap.size)) (w.alloc (.cells (Z Ti) Ti)) := by
  have hnew : (a.put oi.dst (ptr w.heap.size)).tmps[ti]? = some (ptr w.heap.size) := by
    rw [hd]; simp [Act.put, hsz]
  intro k o T t hk ho hTo ht hl
  by_cases hki : k = i
  · subst hki
    have e : o = oi := Option.some.inj (ho.symm.trans hi)
    rw [e] at hTo ht
    rw [hT] at hTo; cases hTo
    rw [hd] at ht; cases ht
    refine ⟨w.heap.size, hnew, fr.size, heap_alloc_new w _, ?_⟩
    intro j o' T' t' hj hjk ho' hTo' hl' ht'
    rw [getD_set_ne false (Ne.symm hjk)] at hl'
    obtain ⟨b', h1, _, h3, _⟩ := hJ j o' T' t' hj ho' hTo' ht' hl'
    have hne' := hown j o' T' t' k oi hj ho' hTo' ht' hi hin (Ne.symm hjk)
    rw [put_get_ne hne', h1]
    intro e
    simp at e
    have := (Array.getElem?_eq_some_iff.1 h3).1
    omega
  · rw [getD_set_ne false (Ne.symm hki)] at hl
    obtain ⟨b, h1, h2, h3, h4⟩ := hJ k o T t hk ho hTo ht hl
    have hne := hown k o T t i oi hk ho hTo ht hi hin (Ne.symm hki)
    have hb := (Array.getElem?_eq_some_iff.1 h3).1
    refine ⟨b, (put_get_ne hne).trans h1, h2, (Below.heap_alloc w _ b hb).trans h3, ?_⟩
    intro j o' T' t' hj hjk ho' hTo' hl' ht'
    by_cases hji : j = i
    · subst hji
      have e : o' = oi := Option.some.inj (ho'.symm.trans hi)
      rw [e, hd] at ht'; cases ht'
      rw [hnew]
      intro e
      simp at e
    · rw [getD_set_ne false (Ne.symm hji)] at hl'
      have hne' := hown j o' T' t' i oi hj ho' hTo' ht' hi hin (Ne.symm hji)
      rw [put_get_ne hne']
      exact h4 j o' T' t' hj hjk ho' hTo' hl' ht'

theorem wpAny_of_G {n g : Nat} {L : Array Bool → Act → Prop} {Q' : Exit → Act → World → Prop}
    (hZ : ∀ i o T, i < n → ops[i]? = some o → allocOf o = some T → ∀ (ρ : Operand → Value) w, (execOp ρ o).run P w = .ok (.value (ptr w.heap.size)) (w.alloc (.cells (Z T) T)))
    (hown : ownSlots ops n) (sz : Nat) (hslots : ∀ i o t, i < n → ops[i]? = some o → o.dst = some t → t < sz)
    (hL : ∀ listed a w, Fr nob W0 w → Made ops n W0 Z listed a w → L listed a → wpAny P md ops Q' g listed a w) :
    ∀ (f : Nat) (listed : Array Bool) (a : Act) (w : World), Fr nob W0 w → Made ops n W0 Z listed a w → a.tmps.size = sz → wpAnyG P md ops W0 vals n L f listed a → wpAny P md ops Q' (f + g) listed a w
  | 0, listed, a, w, fr, hJ, _, h => by rw [Nat.zero_add]; exact hL _ _ _ fr hJ h
  | f + 1, listed, a, w, fr, hJ, hsz, h => by
    rw [show f + 1 + g = (f + g) + 1 by omega]
    refine ⟨fun h0 => absurd h0 h.1, fun i hi => ?_⟩
    obtain ⟨hin, hg⟩ := h.2 i hi
    obtain ⟨_, o, ho, _⟩ := mem_ready.1 hi
    unfold gOp at hg
    unfold wpOp
    simp only [ho] at hg ⊢
    cases hT : allocOf o with
    | some T =>
      simp only [hT] at hg
      obtain ⟨hop, hgd, t, ht⟩ := allocOf_spec hT
      rw [if_pos (by simp [Region.wanted, hgd])]
      left
      unfold Oper.wp
      rw [hZ i o T hin ho hT]
      exact wpAny_of_G hZ hown sz hslots hL f _ _ _ (fr.alloc _) (hJ.new ho hin hT ht (by rw [hsz]; exact hslots i o t hin ho ht) hown fr) (by rw [put_size]; exact hsz) (hg w.heap.size fr.size)
    | none =>
      simp only [hT] at hg
      obtain ⟨hy, hK⟩ := hg
      rcases hy with ⟨hw, hv⟩ | ⟨hw, hv⟩
      · rw [if_pos hw]
        left
        have h3 := hv w fr
        unfold growAt at h3
        unfold Oper.wp
        generalize (execOp a.eval o).run P w = r at *
        cases r with
        | ok nx w' =>
          cases nx <;> simp only [growUpon] at h3 <;> simp only [Oper.upon]
          case value u =>
            obtain ⟨e1, e2⟩ := h3
            rw [e1, e2]
            exact wpAny_of_G hZ hown sz hslots hL f _ _ _ fr (hJ.next ho hin hT hown (Fr.refl _ _)) (by rw [put_size]; exact hsz) hK
          case skip =>
            obtain ⟨e1, e2⟩ := h3
            rw [e1, ← e2]
            exact wpAny_of_G hZ hown sz hslots hL f _ _ _ fr (hJ.next ho hin hT hown (Fr.refl _ _)) (by rw [put_size]; exact hsz) hK
          case enter fi args =>
            obtain ⟨e1, hc⟩ := h3
            rw [e1]
            exact hc.mono fun e w'' ⟨he, hw''⟩ => by
              subst he
              exact wpAny_of_G hZ hown sz hslots hL f _ _ _ (fr.trans hw'' (fun _ _ h => h)) (hJ.next ho hin hT hown hw'') (by rw [put_size]; exact hsz) hK
        | halt x w' => simp only [growUpon] at h3
      · rw [if_neg (by rw [hw]; exact Bool.false_ne_true), ← hv]
        exact wpAny_of_G hZ hown sz hslots hL f _ _ _ fr (hJ.next ho hin hT hown (Fr.refl _ _)) (by rw [put_size]; exact hsz) hK

/-! the conditions, by computation -/
def ownSlotsB (ops : Array Oper) (n : Nat) : Bool :=
  (List.range n).all fun i => match ops[i]? with
    | some o => !(allocOf o).isSome || (List.range n).all fun j => j == i || (match ops[j]? with | some o' => o'.dst != o.dst | none => true)
    | none => true

theorem ownSlots_of {n : Nat} (h : ownSlotsB ops n = true) : ownSlots ops n := by
  intro i o T t j o' hi ho hT ht ho' hj hji e
  have h1 := List.all_eq_true.1 h i (List.mem_range.2 hi)
  simp only [ho, hT, Option.isSome_some, Bool.not_true, Bool.false_or] at h1
  have h2 := List.all_eq_true.1 h1 j (List.mem_range.2 hj)
  simp only [ho', Bool.or_eq_true, beq_iff_eq] at h2
  rcases h2 with h2 | h2
  · exact hji h2
  · rw [e, ht] at h2; simp at h2

def slotsB (ops : Array Oper) (n sz : Nat) : Bool :=
  (List.range n).all fun i => match ops[i]? with
    | some o => (match o.dst with | some t => decide (t < sz) | none => true)
    | none => true

theorem slots_of {n sz : Nat} (h : slotsB ops n sz = true) : ∀ i o t, i < n → ops[i]? = some o → o.dst = some t → t < sz := by
  intro i o t hi ho ht
  have h1 := List.all_eq_true.1 h i (List.mem_range.2 hi)
  simpa [ho, ht] using h1

def growB (l : List Oper) (n sz : Nat) : Bool :=
  Region.lexTailB .any l.toArray n && ownSlotsB l.toArray n && slotsB l.toArray n sz && allocsLast (l.take n)

/-- **THE RULE.** -/
theorem wp_region_grow {id : Nat} {Q : Exit → Act → World → Prop} {a : Act} {w : World} {l : List Oper} (n sz : Nat) (Z : TypeId → Array Value) (hm : P.follows .mixedOrders = true) (hB : growB l n sz = true) (hsz : a.tmps.size = sz)
    (hZ : ∀ i o T, i < n → l[i]? = some o → allocOf o = some T → ∀ (ρ : Operand → Value) w, (execOp ρ o).run P w = .ok (.value (ptr w.heap.size)) (w.alloc (.cells (Z T) T)))
    (h : wpGrow P l.toArray w (fun a' => ∀ w' listed, Fr nob w w' → (∀ i, i < n → listed.getD i false = true) → Made l.toArray n w Z listed a' w' → wpList P l.toArray Q (l.drop n) a' w') (l.take n) a) :
    (Code.region id l.toArray true).wp P Q a w := by
  simp only [growB, Bool.and_eq_true] at hB
  obtain ⟨⟨⟨hlt, hown⟩, hsl⟩, hal⟩ := hB
  simp only [Region.lexTailB, Bool.and_eq_true, decide_eq_true_eq] at hlt
  obtain ⟨⟨⟨⟨hsel, hn⟩, hs⟩, hc⟩, hlex⟩ := hlt
  have hn' : n < l.length := by simpa using hn
  have htl : (l.take n).length = n := by simp; omega
  have hdl : (l.drop n).length = l.toArray.size - n := by simp
  have inv0 : HeadInv .any l.toArray n (Array.replicate l.toArray.size false) :=
    ⟨by simp, fun j oj _ hl => (by rw [getD_replicate_false] at hl; cases hl), fun t _ ht => getD_in (by simpa using ht) (getD_replicate_false _ _)⟩
  obtain ⟨vals, hV⟩ := growV_of (l.take n) 0 a hal h
  have H := wpAnyG_lex (md := .any) (g := l.toArray.size - n) hsel hs hc hn (l.take n) 0 _ a (fun j hj => by
    have hj' : j < n := by rw [htl] at hj; exact hj
    simp [hj']) (by simpa using htl) inv0 (by rw [htl]; exact hlex) hV
  refine wp_region_any hm ?_
  have fr0 : Fr nob w { w with drawn := w.drawn + 1 } := ⟨rfl, rfl, rfl, Nat.le_refl _, fun _ _ _ => rfl⟩
  have := wpAny_of_G (Q' := Q) (g := l.toArray.size - n) (Z := Z) (fun i o T hi ho hT => hZ i o T hi (by simpa using ho) hT) (ownSlots_of hown) sz (slots_of hsl) (fun listed a' w' fr hJ hL => by
    have := wpAny_of_seq (md := .any) (Q' := Q) (l.drop n) n listed a' w' (fun j => by simp [List.getElem?_drop]) (by rw [hdl]; exact hL.1.1) (hL.2 w' listed fr (fun i hi => hL.1.2 i hi (.inr (Nat.zero_le _))) hJ)
    rwa [hdl] at this) _ _ _ _ fr0 (by intro i o T t _ _ _ _ hl; rw [getD_replicate_false] at hl; cases hl) hsz H
  rw [htl, show n + (l.toArray.size - n) = l.toArray.size by omega] at this
  exact this

def allocTypes (l : List Oper) : List TypeId := l.filterMap allocOf

/-- THE RULE, the types of the variables that it makes at hand. -/
theorem wp_region_grow' {id : Nat} {Q : Exit → Act → World → Prop} {a : Act} {w : World} {l : List Oper} (n sz : Nat) (Z : TypeId → Array Value) (ts : List TypeId) (hm : P.follows .mixedOrders = true) (hB : growB l n sz = true) (hsz : a.tmps.size = sz)
    (hts : allocTypes (l.take n) = ts) (hZ : ∀ T, T ∈ ts → ∀ w, (Instr.alloc T true (.tuple #[])).run P w = .ok (ptr w.heap.size) (w.alloc (.cells (Z T) T)))
    (h : wpGrow P l.toArray w (fun a' => ∀ w' listed, Fr nob w w' → (∀ i, i < n → listed.getD i false = true) → Made l.toArray n w Z listed a' w' → wpList P l.toArray Q (l.drop n) a' w') (l.take n) a) :
    (Code.region id l.toArray true).wp P Q a w := by
  refine wp_region_grow n sz Z hm hB hsz (fun i o T hi ho hT ρ w => ?_) h
  have hmem : T ∈ ts := by
    rw [← hts]
    refine List.mem_filterMap.2 ⟨o, List.mem_of_getElem? (i := i) ?_, hT⟩
    rw [List.getElem?_take, if_pos hi]; exact ho
  obtain ⟨hop, _, _⟩ := allocOf_spec hT
  unfold execOp
  rw [hop]
  simp [hZ T hmem w, Result.andThen]

theorem grow_step {Q : Act → Prop} {o : Oper} {rest : List Oper} {a : Act} {v : Value} (hT : allocOf o = none) (hw : Region.wanted o (yielded ops a.tmps) = true) (hv : ∀ w, Fr nob W0 w → growAt P o a w v) (hK : wpGrow P ops W0 Q rest (a.put o.dst v)) : wpGrow P ops W0 Q (o :: rest) a := by
  unfold wpGrow
  simp only [hT]
  exact ⟨v, .inl ⟨hw, hv⟩, hK⟩

theorem grow_skip {Q : Act → Prop} {o : Oper} {rest : List Oper} {a : Act} (hT : allocOf o = none) (hw : Region.wanted o (yielded ops a.tmps) = false) (hK : wpGrow P ops W0 Q rest (a.put o.dst undef)) : wpGrow P ops W0 Q (o :: rest) a := by
  unfold wpGrow
  simp only [hT]
  exact ⟨undef, .inr ⟨hw, rfl⟩, hK⟩

theorem grow_alloc {Q : Act → Prop} {o : Oper} {rest : List Oper} {a : Act} {T : TypeId} (hT : allocOf o = some T) (hK : ∀ b, W0.heap.size ≤ b → wpGrow P ops W0 Q rest (a.put o.dst (ptr b))) : wpGrow P ops W0 Q (o :: rest) a := by
  unfold wpGrow
  simp only [hT]
  exact hK

theorem grow_nil {Q : Act → Prop} {a : Act} (h : Q a) : wpGrow P ops W0 Q [] a := h

theorem growAt_value {o : Oper} {a : Act} {w : World} {v : Value} (h : (execOp a.eval o).run P w = .ok (.value v) w) : growAt P o a w v := by
  unfold growAt; rw [h]; exact ⟨rfl, rfl⟩

theorem growAt_call {o : Oper} {a : Act} {w : World} {v : Value} {f : FuncId} {args : Array Value} (h : (execOp a.eval o).run P w = .ok (.enter f args) w) (hc : Calls P f args w fun e w' => e = .returned v ∧ Fr nob w w') : growAt P o a w v := by
  unfold growAt; rw [h]; exact ⟨rfl, hc⟩
end
end Go.Proofs.YtalnhlebgofiiaaGreatDoor
namespace Go.Proofs.YtalnhlebgofiiaaGreatDoor
open Go.RowKit

/-! The rule's condition for a great region, checked step by step: each step over a list that is written out. -/
theorem growB_of {l : List Oper} {n sz : Nat} (h1 : Region.noSelect l.toArray = true) (h2 : decide (n < l.toArray.size) = true) (h3 : Region.sinkB .any l.toArray n = true) (h4 : Region.chainB .any l.toArray n = true)
    (h5 : Region.lexHead .any l.toArray (l.toArray.size - n) n 0 (Array.replicate l.toArray.size false) = true) (h6 : ownSlotsB l.toArray n = true) (h7 : slotsB l.toArray n sz = true) (h8 : allocsLast (l.take n) = true) : growB l n sz = true := by
  unfold growB Region.lexTailB
  rw [h1, h2, h3, h4, h5, h6, h7, h8]; rfl
theorem lexHead_start {md : Region.Mode} {ops : Array Oper} {g f k : Nat} {listed l' : Array Bool} (hl : listed = l') (h : Region.lexHead md ops g f k l' = true) : Region.lexHead md ops g f k listed = true := by rw [hl]; exact h
theorem lexHead_cons {md : Region.Mode} {ops : Array Oper} {g f k : Nat} {listed l' : Array Bool} (h : ((Region.ready md ops listed).contains k && Region.free md ops listed k) = true) (hl : listed.setIfInBounds k true = l') (h' : Region.lexHead md ops g f (k + 1) l' = true) : Region.lexHead md ops g (f + 1) k listed = true := by
  rw [Region.lexHead, h, hl, h']; rfl
end Go.Proofs.YtalnhlebgofiiaaGreatDoor
