import Derived.Test.YtalnhlebgofiiaaGreatDoorApp
import Derived.StillTail
import Derived.Deep.Quiet
namespace Go.Proofs.YtalnhlebgofiiaaGreatDoor.E
open Go.RowKit

/-! A REGION THAT DRAWS ITS ORDER, one of whose operations is a call that writes to what was there; the others only read, call what makes new memory, or lay variables; the last ones stand in a row. -/
abbrev ptr (b : Nat) : Value := .pointer (some ⟨b, 0, none⟩)

def allocOf (o : Oper) : Option TypeId :=
  match o.op, o.dst, o.guard with
  | .alloc T, some _, none => some T
  | _, _, _ => none

theorem allocOf_spec {o : Oper} {T : TypeId} (h : allocOf o = some T) : o.op = .alloc T ∧ o.guard = none ∧ ∃ t, o.dst = some t := by
  unfold allocOf at h
  split at h
  · rename_i h1 h2 h3; cases h; exact ⟨h1, h3, _, h2⟩
  · cases h

/-- what is asked of operation i, of what it does and of what it yields -/
abbrev Ask := Nat → Sem Next → Value → Prop
def Yv (Y : Ask) (ic : Nat) (ops : Array Oper) (i : Nat) (o : Oper) (v : Value) (a : Act) : Prop :=
  (Region.wanted o (yielded ops a.tmps) = true ∧ Y i (execOp a.eval o) v) ∨ (Region.wanted o (yielded ops a.tmps) = false ∧ v = undef ∧ i ≠ ic)

def gOp (Y : Ask) (ic : Nat) (ops : Array Oper) (W0 : World) (vals : Nat → Value) (i : Nat) (K : Act → Prop) (a : Act) : Prop :=
  match ops[i]? with
  | none => K a
  | some o => match allocOf o with
    | some _ => ∀ b, W0.heap.size ≤ b → K (a.put o.dst (ptr b))
    | none => Yv Y ic ops i o (vals i) a ∧ K (a.put o.dst (vals i))

def wpAnyG (Y : Ask) (ic : Nat) (md : Region.Mode) (ops : Array Oper) (W0 : World) (vals : Nat → Value) (n : Nat) (L : Array Bool → Act → Prop) : Nat → Array Bool → Act → Prop
  | 0, listed, a => L listed a
  | f + 1, listed, a => Region.ready md ops listed ≠ [] ∧ ∀ i ∈ Region.ready md ops listed, i < n ∧ gOp Y ic ops W0 vals i (wpAnyG Y ic md ops W0 vals n L f (listed.setIfInBounds i true)) a

/-- what is known of the variables that the region has made -/
def Made (ops : Array Oper) (n : Nat) (W0 : World) (Z : TypeId → Array Value) (listed : Array Bool) (a : Act) (w : World) : Prop :=
  ∀ i o T t, i < n → ops[i]? = some o → allocOf o = some T → o.dst = some t → listed.getD i false = true →
    ∃ b, a.tmps[t]? = some (ptr b) ∧ W0.heap.size ≤ b ∧ w.heap[b]? = some (.cells (Z T) T) ∧
      ∀ j o' T' t', j < n → j ≠ i → ops[j]? = some o' → allocOf o' = some T' → listed.getD j false = true → o'.dst = some t' → a.tmps[t']? ≠ some (ptr b)

section
variable {Y : Ask} {ic : Nat} {ops : Array Oper} {md : Region.Mode} {W0 : World} {vals : Nat → Value}

theorem gOp_mono {i : Nat} {a : Act} {K K' : Act → Prop} (h : ∀ a, K a → K' a) (hh : gOp Y ic ops W0 vals i K a) : gOp Y ic ops W0 vals i K' a := by
  unfold gOp at *
  split
  · exact h _ (by simpa [*] using hh)
  · rename_i o ho
    simp only [ho] at hh
    split
    · rename_i hT; simp only [hT] at hh; exact fun b hb => h _ (hh b hb)
    · rename_i hT; simp only [hT] at hh; exact ⟨hh.1, h _ hh.2⟩

theorem Yv.of_same {i : Nat} {o : Oper} {v : Value} {a a' : Act} (hy : Yv Y ic ops i o v a) (he : execOp a'.eval o = execOp a.eval o)
    (hw : Region.wanted o (yielded ops a'.tmps) = Region.wanted o (yielded ops a.tmps)) : Yv Y ic ops i o v a' := by
  unfold Yv at *
  rw [he, hw]
  exact hy

theorem Yv.put {i : Nat} {o : Oper} {v u : Value} {a : Act} {d : Option Tmp} (hs : ∀ cs b, o.op ≠ .select cs b) (h : ∀ x, d = some x → x ∉ o.looksAt ops) : Yv Y ic ops i o v (a.put d u) ↔ Yv Y ic ops i o v a :=
  ⟨fun hy => hy.of_same (execOp_put o hs a d u h).symm (wanted_put o a d u h).symm, fun hy => hy.of_same (execOp_put o hs a d u h) (wanted_put o a d u h)⟩

/-- Two operations apart from each other may change places. -/
theorem gOp_swap {i j : Nat} {oi oj : Oper} (hi : ops[i]? = some oi) (hj : ops[j]? = some oj) (hap : oi.apart ops oj = true) (hsi : ∀ cs b, oi.op ≠ .select cs b) (hsj : ∀ cs b, oj.op ≠ .select cs b)
    {K : Act → Prop} {a : Act} (h : gOp Y ic ops W0 vals i (gOp Y ic ops W0 vals j K) a) : gOp Y ic ops W0 vals j (gOp Y ic ops W0 vals i K) a := by
  obtain ⟨h1, h2, h3⟩ := Oper.apart_spec hap
  unfold gOp at *
  simp only [hi, hj] at *
  cases hTi : allocOf oi with
  | some Ti =>
    cases hTj : allocOf oj with
    | some Tj =>
      simp only [hTi, hTj] at h
      exact fun b hb b' hb' => by rw [← Act.put_comm a (ptr b') (ptr b) h2]; exact h b' hb' b hb
    | none =>
      simp only [hTi, hTj] at h
      refine ⟨(Yv.put hsj h1).1 (h _ (Nat.le_refl _)).1, fun b hb => ?_⟩
      rw [← Act.put_comm a (ptr b) (vals j) h2]
      exact (h b hb).2
  | none =>
    cases hTj : allocOf oj with
    | some Tj =>
      simp only [hTi, hTj] at h
      refine fun b hb => ⟨(Yv.put hsi h3).2 h.1, ?_⟩
      rw [← Act.put_comm a (vals i) (ptr b) h2]
      exact h.2 b hb
    | none =>
      simp only [hTi, hTj] at h
      obtain ⟨k1, k2, k3⟩ := h
      refine ⟨(Yv.put hsj h1).1 k2, (Yv.put hsi h3).2 k1, ?_⟩
      rw [← Act.put_comm a (vals i) (vals j) h2]
      exact k3

theorem gOp_some {i : Nat} {oi : Oper} (hi : ops[i]? = some oi) {K : Act → Prop} {a : Act} (h : gOp Y ic ops W0 vals i K a) : ∃ a', K a' := by
  unfold gOp at h
  simp only [hi] at h
  cases hT : allocOf oi with
  | some T => simp only [hT] at h; exact ⟨_, h _ (Nat.le_refl _)⟩
  | none => simp only [hT] at h; exact ⟨_, h.2⟩

theorem wpAnyG_first {n i : Nat} {oi : Oper} {L : Array Bool → Act → Prop} (hi : ops[i]? = some oi) (hsel : ∀ (j : Nat) (o : Oper) cs b, ops[j]? = some o → o.op ≠ .select cs b)
    (hs : Region.sinkB md ops n = true) (hc : Region.chainB md ops n = true) (hn : n < ops.size) (hin : i < n)
    (hdone : ∀ listed a, L listed a → ∀ j ∈ Region.ready md ops listed, n ≤ j) :
    ∀ (f : Nat) (listed : Array Bool) (a : Act), HeadInv md ops n listed →
      (∀ j oj, ops[j]? = some oj → j ≠ i → listed.getD j true = false → (∀ e ∈ oj.after, Region.binds md e = true → e.on ≠ i) → oi.apart ops oj = true) →
      i ∈ Region.ready md ops listed →
      gOp Y ic ops W0 vals i (wpAnyG Y ic md ops W0 vals n L f (listed.setIfInBounds i true)) a → wpAnyG Y ic md ops W0 vals n L (f + 1) listed a := by
  intro f
  induction f with
  | zero =>
    intro listed a inv _ hr H
    have hun := (mem_ready.1 hr).1
    refine ⟨fun h => (by rw [h] at hr; cases hr), fun j hj => ?_⟩
    have hjn : j < n := by
      rcases Nat.lt_or_ge j n with h | h
      · exact h
      · exact absurd hj (tail_waits hs hc hn inv _ i rfl hin hun j h)
    refine ⟨hjn, ?_⟩
    by_cases hji : j = i
    · subst hji; exact H
    · obtain ⟨a', ha'⟩ := gOp_some hi H
      have := hdone _ _ ha' j (ready_mono hj hji)
      omega
  | succ f ih =>
    intro listed a inv hfree hr H
    have hun := (mem_ready.1 hr).1
    refine ⟨fun h => (by rw [h] at hr; cases hr), fun j hj => ?_⟩
    have hjn : j < n := by
      rcases Nat.lt_or_ge j n with h | h
      · exact h
      · exact absurd hj (tail_waits hs hc hn inv _ i rfl hin hun j h)
    refine ⟨hjn, ?_⟩
    by_cases hji : j = i
    · subst hji; exact H
    · obtain ⟨hjun, oj, hoj, hall⟩ := mem_ready.1 hj
      have hnot : ∀ e ∈ oj.after, Region.binds md e = true → e.on ≠ i := fun e he hb heq => by
        have h1 := hall e he hb
        rw [heq, getD_both hun] at h1
        cases h1
      have h1 : gOp Y ic ops W0 vals i (gOp Y ic ops W0 vals j (wpAnyG Y ic md ops W0 vals n L f ((listed.setIfInBounds i true).setIfInBounds j true))) a :=
        gOp_mono (fun a' h => (h.2 j (ready_mono hj hji)).2) H
      have h2 := gOp_swap hi hoj (hfree j oj hoj hji hjun hnot) (fun cs b => hsel i oi cs b hi) (fun cs b => hsel j oj cs b hoj) h1
      have hfree' : ∀ k ok, ops[k]? = some ok → k ≠ i → (listed.setIfInBounds j true).getD k true = false →
          (∀ e ∈ ok.after, Region.binds md e = true → e.on ≠ i) → oi.apart ops ok = true := fun k ok hk hki hun hno => by
        refine hfree k ok hk hki ?_ hno
        by_cases hjk : j = k
        · subst hjk; exact hjun
        · rw [getD_set_ne true hjk] at hun; exact hun
      refine gOp_mono (fun a' h3 => ih (listed.setIfInBounds j true) a' (inv.set hj hjn) hfree' (ready_mono hr (Ne.symm hji)) ?_) h2
      rw [Array.setIfInBounds_comm _ _ hji]
      exact h3

/-- The walk of the text's order, with what each operation yields. -/
def wpGrowV (Y : Ask) (ic : Nat) (ops : Array Oper) (W0 : World) (vals : Nat → Value) (Q : Act → Prop) : List Oper → Nat → Act → Prop
  | [], _, a => Q a
  | o :: rest, k, a => match allocOf o with
    | some _ => ∀ b, W0.heap.size ≤ b → wpGrowV Y ic ops W0 vals Q rest (k + 1) (a.put o.dst (ptr b))
    | none => Yv Y ic ops k o (vals k) a ∧ wpGrowV Y ic ops W0 vals Q rest (k + 1) (a.put o.dst (vals k))

def wpGrow (Y : Ask) (ic : Nat) (ops : Array Oper) (W0 : World) (Q : Act → Prop) : List Oper → Nat → Act → Prop
  | [], _, a => Q a
  | o :: rest, k, a => match allocOf o with
    | some _ => ∀ b, W0.heap.size ≤ b → wpGrow Y ic ops W0 Q rest (k + 1) (a.put o.dst (ptr b))
    | none => ∃ v, Yv Y ic ops k o v a ∧ wpGrow Y ic ops W0 Q rest (k + 1) (a.put o.dst v)

/-- behind the first variable that is made only such ones stand -/
def allocsLast : List Oper → Bool
  | [] => true
  | o :: rest => if (allocOf o).isSome then rest.all (fun o => (allocOf o).isSome) else allocsLast rest

theorem growV_allocs {Q : Act → Prop} : ∀ (l : List Oper) (k : Nat) (a : Act), (l.all fun o => (allocOf o).isSome) = true → wpGrow Y ic ops W0 Q l k a → wpGrowV Y ic ops W0 vals Q l k a
  | [], _, _, _, h => h
  | o :: l, k, a, hl, h => by
    simp only [List.all_cons, Bool.and_eq_true] at hl
    unfold wpGrow at h
    unfold wpGrowV
    cases hT : allocOf o with
    | none => rw [hT] at hl; cases hl.1
    | some T =>
      simp only [hT] at h ⊢
      exact fun b hb => growV_allocs l (k + 1) _ hl.2 (h b hb)

theorem growV_vals {Q : Act → Prop} {vals vals' : Nat → Value} : ∀ (l : List Oper) (k : Nat) (a : Act), (∀ j, k ≤ j → vals j = vals' j) → wpGrowV Y ic ops W0 vals Q l k a → wpGrowV Y ic ops W0 vals' Q l k a
  | [], _, _, _, h => h
  | o :: l, k, a, hv, h => by
    unfold wpGrowV at *
    cases hT : allocOf o with
    | some T => simp only [hT] at h ⊢; exact fun b hb => growV_vals l (k + 1) _ (fun j hj => hv j (by omega)) (h b hb)
    | none =>
      simp only [hT] at h ⊢
      rw [← hv k (Nat.le_refl _)]
      exact ⟨h.1, growV_vals l (k + 1) _ (fun j hj => hv j (by omega)) h.2⟩

theorem growV_of {Q : Act → Prop} : ∀ (l : List Oper) (k : Nat) (a : Act), allocsLast l = true → wpGrow Y ic ops W0 Q l k a → ∃ vals, wpGrowV Y ic ops W0 vals Q l k a
  | [], _, _, _, h => ⟨fun _ => undef, h⟩
  | o :: l, k, a, hl, h => by
    cases hT : allocOf o with
    | some T =>
      refine ⟨fun _ => undef, growV_allocs (o :: l) k a ?_ h⟩
      unfold allocsLast at hl
      simp only [hT, Option.isSome_some, if_true] at hl
      simp only [List.all_cons, hT, Option.isSome_some, Bool.true_and]
      exact hl
    | none =>
      unfold wpGrow at h
      simp only [hT] at h
      obtain ⟨v, hy, hK⟩ := h
      unfold allocsLast at hl
      simp only [hT, Option.isSome_none, Bool.false_eq_true, if_false] at hl
      obtain ⟨vals, hv⟩ := growV_of l (k + 1) _ hl hK
      refine ⟨fun j => if j = k then v else vals j, ?_⟩
      unfold wpGrowV
      simp only [hT, if_true]
      exact ⟨hy, growV_vals l (k + 1) _ (fun j hj => by rw [if_neg (by omega)]) hv⟩

theorem wpAnyG_lex {n g : Nat} {Lq : Act → Prop} (hsel : Region.noSelect ops = true) (hs : Region.sinkB md ops n = true) (hc : Region.chainB md ops n = true) (hn : n < ops.size) :
    ∀ (l : List Oper) (k : Nat) (listed : Array Bool) (a : Act), (∀ j, j < l.length → l[j]? = ops[k + j]?) → k + l.length = n → HeadInv md ops n listed →
    Region.lexHead md ops g l.length k listed = true → wpGrowV Y ic ops W0 vals Lq l k a →
    wpAnyG Y ic md ops W0 vals n (fun listed' a' => (Region.seqB md ops g n listed' = true ∧ ∀ i, i < n → listed.getD i false = true ∨ k ≤ i → listed'.getD i false = true) ∧ Lq a') l.length listed a
  | [], k, listed, a, _, hk, inv, hB, h => by
    have : k = n := by simpa using hk
    subst this
    exact ⟨⟨by simpa [Region.lexHead] using hB, fun i hi h => h.resolve_right (by omega)⟩, h⟩
  | o :: l, k, listed, a, hl, hk, inv, hB, h => by
    have h0 : ops[k]? = some o := by simpa using (hl 0 (by simp)).symm
    simp only [List.length_cons, Region.lexHead, Bool.and_eq_true] at hB
    obtain ⟨⟨hr, hf⟩, hB'⟩ := hB
    have hkn : k < n := by simp only [List.length_cons] at hk; omega
    have hr' : k ∈ Region.ready md ops listed := by simpa using hr
    have hst : gOp Y ic ops W0 vals k (wpGrowV Y ic ops W0 vals Lq l (k + 1)) a := by unfold gOp; simp only [h0]; exact h
    have hks : k < listed.size := by rw [inv.size]; omega
    refine wpAnyG_first h0 (Region.noSelect_spec hsel) hs hc hn hkn (fun listed' a' hL => seqB_ready hL.1.1) l.length listed a inv (Region.free_spec h0 hf) hr' (gOp_mono (fun a' h' => ?_) hst)
    have := wpAnyG_lex (g := g) hsel hs hc hn l (k + 1) (listed.setIfInBounds k true) a' (fun j hj => by have := hl (j + 1) (by simp; omega); simpa [Nat.add_assoc, Nat.add_comm 1 j] using this) (by simp only [List.length_cons] at hk; omega) (inv.set hr' hkn) hB' h'
    refine wpAnyG_mono ?_ l.length _ _ this
    rintro listed' a'' ⟨⟨e1, e2⟩, e3⟩
    refine ⟨⟨e1, fun i hi hh => e2 i hi ?_⟩, e3⟩
    by_cases hik : i = k
    · subst hik; exact .inl (by simp [hks])
    · rcases hh with hh | hh
      · exact .inl (getD_set_true hh)
      · exact .inr (by omega)
  where
  wpAnyG_mono {n : Nat} {L L' : Array Bool → Act → Prop} (h : ∀ listed a, L listed a → L' listed a) : ∀ (f : Nat) (listed : Array Bool) (a : Act), wpAnyG Y ic md ops W0 vals n L f listed a → wpAnyG Y ic md ops W0 vals n L' f listed a
    | 0, _, _, hh => h _ _ hh
    | f + 1, _, _, hh => ⟨hh.1, fun i hi => ⟨(hh.2 i hi).1, gOp_mono (fun a' h' => wpAnyG_mono h f _ a' h') (hh.2 i hi).2⟩⟩
end


section
variable {P : Program} {Y : Ask} {ic : Nat} {ops : Array Oper} {md : Region.Mode} {W0 : World} {vals : Nat → Value} {Z : TypeId → Array Value}

/-- the new variables' slots are written by nothing else -/
def ownSlots (ops : Array Oper) (n : Nat) : Prop :=
  ∀ i o T t j o', i < n → ops[i]? = some o → allocOf o = some T → o.dst = some t → ops[j]? = some o' → j < n → j ≠ i → o'.dst ≠ some t

theorem put_get_ne {a : Act} {d : Option Tmp} {v : Value} {t : Tmp} (h : d ≠ some t) : (a.put d v).tmps[t]? = a.tmps[t]? := by
  cases d with
  | none => rfl
  | some x =>
    have hx : x ≠ t := fun e => h (by rw [e])
    simp [Act.put, Array.getElem?_setIfInBounds_ne hx]

theorem put_size {a : Act} {d : Option Tmp} {v : Value} : (a.put d v).tmps.size = a.tmps.size := by
  cases d <;> simp [Act.put]

theorem Made.next {n i : Nat} {oi : Oper} {listed : Array Bool} {a : Act} {w w' : World} {v : Value} (hJ : Made ops n W0 Z listed a w) (hi : ops[i]? = some oi) (hin : i < n) (hT : allocOf oi = none) (hown : ownSlots ops n) (fr : ∀ b, W0.heap.size ≤ b → b < w.heap.size → w'.heap[b]? = w.heap[b]?) :
    Made ops n W0 Z (listed.setIfInBounds i true) (a.put oi.dst v) w' := by
  intro k o T t hk ho hTo ht hl
  have hki : k ≠ i := by rintro rfl; rw [ho] at hi; cases hi; rw [hT] at hTo; cases hTo
  rw [getD_set_ne false (Ne.symm hki)] at hl
  obtain ⟨b, h1, h2, h3, h4⟩ := hJ k o T t hk ho hTo ht hl
  have hne := hown k o T t i oi hk ho hTo ht hi hin (Ne.symm hki)
  refine ⟨b, (put_get_ne hne).trans h1, h2, (fr b h2 (Array.getElem?_eq_some_iff.1 h3).1).trans h3, ?_⟩
  intro j o' T' t' hj hjk ho' hTo' hl' ht'
  have hji : j ≠ i := by rintro rfl; rw [ho'] at hi; cases hi; rw [hT] at hTo'; cases hTo'
  rw [getD_set_ne false (Ne.symm hji)] at hl'
  have hne' := hown j o' T' t' i oi hj ho' hTo' ht' hi hin (Ne.symm hji)
  rw [put_get_ne hne']
  exact h4 j o' T' t' hj hjk ho' hTo' hl' ht'

theorem Made.new {n i : Nat} {oi : Oper} {Ti : TypeId} {ti : Tmp} {listed : Array Bool} {a : Act} {w : World} (hJ : Made ops n W0 Z listed a w) (hi : ops[i]? = some oi) (hin : i < n) (hT : allocOf oi = some Ti) (hd : oi.dst = some ti) (hsz : ti < a.tmps.size)
    (hown : ownSlots ops n) (fr : W0.heap.size ≤ w.heap.size) : Made ops n W0 Z (listed.setIfInBounds i true) (a.put oi.dst (ptr w.heap.size)) (w.alloc (.cells (Z Ti) Ti)) := by
  have hnew : (a.put oi.dst (ptr w.heap.size)).tmps[ti]? = some (ptr w.heap.size) := by
    rw [hd]; simp [Act.put, hsz]
  intro k o T t hk ho hTo ht hl
  by_cases hki : k = i
  · subst hki
    have e : o = oi := Option.some.inj (ho.symm.trans hi)
    rw [e] at hTo ht
    rw [hT] at hTo; cases hTo
    rw [hd] at ht; cases ht
    refine ⟨w.heap.size, hnew, fr, heap_alloc_new w _, ?_⟩
    intro j o' T' t' hj hjk ho' hTo' hl' ht'
    rw [getD_set_ne false (Ne.symm hjk)] at hl'
    obtain ⟨b', h1, _, h3, _⟩ := hJ j o' T' t' hj ho' hTo' ht' hl'
    have hne' := hown j o' T' t' k oi hj ho' hTo' ht' hi hin (Ne.symm hjk)
    rw [put_get_ne hne', h1]
    intro e
    simp at e
    have := (Array.getElem?_eq_some_iff.1 h3).1
    omega
  · rw [getD_set_ne false (Ne.symm hki)] at hl
    obtain ⟨b, h1, h2, h3, h4⟩ := hJ k o T t hk ho hTo ht hl
    have hne := hown k o T t i oi hk ho hTo ht hi hin (Ne.symm hki)
    have hb := (Array.getElem?_eq_some_iff.1 h3).1
    refine ⟨b, (put_get_ne hne).trans h1, h2, (Below.heap_alloc w _ b hb).trans h3, ?_⟩
    intro j o' T' t' hj hjk ho' hTo' hl' ht'
    by_cases hji : j = i
    · subst hji
      have e : o' = oi := Option.some.inj (ho'.symm.trans hi)
      rw [e, hd] at ht'; cases ht'
      rw [hnew]
      intro e
      simp at e
    · rw [getD_set_ne false (Ne.symm hji)] at hl'
      have hne' := hown j o' T' t' i oi hj ho' hTo' ht' hi hin (Ne.symm hji)
      rw [put_get_ne hne']
      exact h4 j o' T' t' hj hjk ho' hTo' hl' ht'


/-- what only makes new memory -/
def growUpon (P : Program) (w : World) (v : Value) : Result Next → Prop
  | .ok (.value u) w' => w' = w ∧ u = v
  | .ok .skip w' => w' = w ∧ v = undef
  | .ok (.enter f args) w' => w' = w ∧ Calls P f args w (fun e w'' => e = .returned v ∧ Fr nob w w'')
  | _ => False
/-- the call that writes -/
def callUpon (P : Program) (S : World → World → Prop) (w : World) (v : Value) : Result Next → Prop
  | .ok (.enter f args) w' => w' = w ∧ Calls P f args w (fun e w'' => e = .returned v ∧ S w w'')
  | _ => False
/-- the state before the writing call and behind it -/
def askJ (P : Program) (W0 : World) (J : Bool → World → Prop) (ic : Nat) : Ask := fun i x v =>
  if i = ic then ∀ w, J false w → callUpon P (fun w w'' => J true w'' ∧ w.heap.size ≤ w''.heap.size ∧ ∀ b, W0.heap.size ≤ b → b < w.heap.size → w''.heap[b]? = w.heap[b]?) w v (x.run P w)
  else ∀ d w, J d w → growUpon P w v (x.run P w)

theorem wpAny_of_G {J : Bool → World → Prop} {n g : Nat} {L : Array Bool → Act → Prop} {Q' : Exit → Act → World → Prop} (hJs : ∀ d w, J d w → W0.heap.size ≤ w.heap.size) (hJf : ∀ d w w', J d w → Fr nob w w' → J d w')
    (hZ : ∀ i o T, i < n → ops[i]? = some o → allocOf o = some T → ∀ (ρ : Operand → Value) w, (execOp ρ o).run P w = .ok (.value (ptr w.heap.size)) (w.alloc (.cells (Z T) T)))
    (hown : ownSlots ops n) (sz : Nat) (hslots : ∀ i o t, i < n → ops[i]? = some o → o.dst = some t → t < sz) (hica : ∀ o, ops[ic]? = some o → allocOf o = none)
    (hL : ∀ listed a w, J (listed.getD ic false) w → Made ops n W0 Z listed a w → L listed a → wpAny P md ops Q' g listed a w) :
    ∀ (f : Nat) (listed : Array Bool) (a : Act) (w : World), J (listed.getD ic false) w → listed.size = ops.size → Made ops n W0 Z listed a w → a.tmps.size = sz → wpAnyG (askJ P W0 J ic) ic md ops W0 vals n L f listed a → wpAny P md ops Q' (f + g) listed a w
  | 0, listed, a, w, fr, _, hJ, _, h => by rw [Nat.zero_add]; exact hL _ _ _ fr hJ h
  | f + 1, listed, a, w, fr, hls, hJ, hsz, h => by
    rw [show f + 1 + g = (f + g) + 1 by omega]
    refine ⟨fun h0 => absurd h0 h.1, fun i hi => ?_⟩
    obtain ⟨hin, hg⟩ := h.2 i hi
    obtain ⟨hun, o, ho, _⟩ := mem_ready.1 hi
    have hio : i < listed.size := by rw [hls]; exact (Array.getElem?_eq_some_iff.1 ho).1
    have hls' : (listed.setIfInBounds i true).size = ops.size := by simp [hls]
    have hoth : i ≠ ic → (listed.setIfInBounds i true).getD ic false = listed.getD ic false := fun h => getD_set_ne false h
    unfold gOp at hg
    unfold wpOp
    simp only [ho] at hg ⊢
    cases hT : allocOf o with
    | some T =>
      simp only [hT] at hg
      have hne : i ≠ ic := by rintro rfl; rw [hica o ho] at hT; cases hT
      obtain ⟨hop, hgd, t, ht⟩ := allocOf_spec hT
      rw [if_pos (by simp [Region.wanted, hgd])]
      left
      unfold Oper.wp
      rw [hZ i o T hin ho hT]
      exact wpAny_of_G hJs hJf hZ hown sz hslots hica hL f _ _ _ (by rw [hoth hne]; exact hJf _ _ _ fr ((Fr.refl nob w).alloc _)) hls' (hJ.new ho hin hT ht (by rw [hsz]; exact hslots i o t hin ho ht) hown (hJs _ _ fr)) (by rw [put_size]; exact hsz) (hg w.heap.size (hJs _ _ fr))
    | none =>
      simp only [hT] at hg
      obtain ⟨hy, hK⟩ := hg
      rcases hy with ⟨hw, hv⟩ | ⟨hw, hv, hne⟩
      · rw [if_pos hw]
        left
        unfold Oper.wp
        by_cases hic : i = ic
        · have hfal : listed.getD ic false = false := by rw [← hic, getD_both hun]
          unfold askJ at hv
          rw [if_pos hic] at hv
          rw [hfal] at fr
          have h3 := hv w fr
          generalize (execOp a.eval o).run P w = r at *
          cases r with
          | ok nx w' =>
            cases nx <;> simp only [callUpon] at h3 <;> simp only [Oper.upon]
            obtain ⟨e1, hc⟩ := h3
            rw [e1]
            exact hc.mono fun e w'' ⟨he, h1, h2, h4⟩ => by
              subst he
              exact wpAny_of_G hJs hJf hZ hown sz hslots hica hL f _ _ _ (by rw [show (listed.setIfInBounds i true).getD ic false = true by rw [← hic]; simp [hio]]; exact h1) hls' (hJ.next ho hin hT hown h4) (by rw [put_size]; exact hsz) hK
          | halt x w' => simp only [callUpon] at h3
        · unfold askJ at hv
          rw [if_neg hic] at hv
          have h3 := hv _ w fr
          have fr' := fr
          rw [← hoth hic] at fr'
          generalize (execOp a.eval o).run P w = r at *
          cases r with
          | ok nx w' =>
            cases nx <;> simp only [growUpon] at h3 <;> simp only [Oper.upon]
            case value u =>
              obtain ⟨e1, e2⟩ := h3
              rw [e1, e2]
              exact wpAny_of_G hJs hJf hZ hown sz hslots hica hL f _ _ _ fr' hls' (hJ.next ho hin hT hown (fun _ _ _ => rfl)) (by rw [put_size]; exact hsz) hK
            case skip =>
              obtain ⟨e1, e2⟩ := h3
              rw [e1, ← e2]
              exact wpAny_of_G hJs hJf hZ hown sz hslots hica hL f _ _ _ fr' hls' (hJ.next ho hin hT hown (fun _ _ _ => rfl)) (by rw [put_size]; exact hsz) hK
            case enter fi args =>
              obtain ⟨e1, hc⟩ := h3
              rw [e1]
              exact hc.mono fun e w'' ⟨he, hw''⟩ => by
                subst he
                exact wpAny_of_G hJs hJf hZ hown sz hslots hica hL f _ _ _ (hJf _ _ _ fr' hw'') hls' (hJ.next ho hin hT hown (fun b _ hb => hw''.block b hb (fun h => h))) (by rw [put_size]; exact hsz) hK
          | halt x w' => simp only [growUpon] at h3
      · rw [if_neg (by rw [hw]; exact Bool.false_ne_true), ← hv]
        exact wpAny_of_G hJs hJf hZ hown sz hslots hica hL f _ _ _ (by rw [hoth hne]; exact fr) hls' (hJ.next ho hin hT hown (fun _ _ _ => rfl)) (by rw [put_size]; exact hsz) hK

/-! the conditions, by computation -/
def ownSlotsB (ops : Array Oper) (n : Nat) : Bool :=
  (List.range n).all fun i => match ops[i]? with
    | some o => !(allocOf o).isSome || (List.range n).all fun j => j == i || (match ops[j]? with | some o' => o'.dst != o.dst | none => true)
    | none => true

theorem ownSlots_of {n : Nat} (h : ownSlotsB ops n = true) : ownSlots ops n := by
  intro i o T t j o' hi ho hT ht ho' hj hji e
  have h1 := List.all_eq_true.1 h i (List.mem_range.2 hi)
  simp only [ho, hT, Option.isSome_some, Bool.not_true, Bool.false_or] at h1
  have h2 := List.all_eq_true.1 h1 j (List.mem_range.2 hj)
  simp only [ho', Bool.or_eq_true, beq_iff_eq] at h2
  rcases h2 with h2 | h2
  · exact hji h2
  · rw [e, ht] at h2; simp at h2

def slotsB (ops : Array Oper) (n sz : Nat) : Bool :=
  (List.range n).all fun i => match ops[i]? with
    | some o => (match o.dst with | some t => decide (t < sz) | none => true)
    | none => true

theorem slots_of {n sz : Nat} (h : slotsB ops n sz = true) : ∀ i o t, i < n → ops[i]? = some o → o.dst = some t → t < sz := by
  intro i o t hi ho ht
  have h1 := List.all_eq_true.1 h i (List.mem_range.2 hi)
  simpa [ho, ht] using h1

def growB (l : List Oper) (n sz : Nat) : Bool :=
  Region.lexTailB .any l.toArray n && ownSlotsB l.toArray n && slotsB l.toArray n sz && allocsLast (l.take n)

def allocTypes (l : List Oper) : List TypeId := l.filterMap allocOf

/-- **THE RULE, ONE CALL WRITES.** -/
theorem wp_region_jump {id : Nat} {Q : Exit → Act → World → Prop} {a : Act} {w : World} {l : List Oper} (n sz ic : Nat) (J : Bool → World → Prop) (Z : TypeId → Array Value) (ts : List TypeId) (hm : P.follows .mixedOrders = true) (hB : growB l n sz = true) (hsz : a.tmps.size = sz)
    (hicn : ic < n) (hica : (l[ic]?).bind allocOf = none) (hJ0 : ∀ w', Fr nob w w' → J false w') (hJs : ∀ d w', J d w' → w.heap.size ≤ w'.heap.size) (hJf : ∀ d w' w'', J d w' → Fr nob w' w'' → J d w'')
    (hts : allocTypes (l.take n) = ts) (hZ : ∀ T, T ∈ ts → ∀ w, (Instr.alloc T true (.tuple #[])).run P w = .ok (ptr w.heap.size) (w.alloc (.cells (Z T) T)))
    (h : wpGrow (askJ P w J ic) ic l.toArray w (fun a' => ∀ w' listed, J true w' → (∀ i, i < n → listed.getD i false = true) → Made l.toArray n w Z listed a' w' → wpList P l.toArray Q (l.drop n) a' w') (l.take n) 0 a) :
    (Code.region id l.toArray true).wp P Q a w := by
  have hZ' : ∀ i o T, i < n → l.toArray[i]? = some o → allocOf o = some T → ∀ (ρ : Operand → Value) w, (execOp ρ o).run P w = .ok (.value (ptr w.heap.size)) (w.alloc (.cells (Z T) T)) := fun i o T hi ho hT ρ w => by
    have hmem : T ∈ ts := by
      rw [← hts]
      refine List.mem_filterMap.2 ⟨o, List.mem_of_getElem? (i := i) ?_, hT⟩
      rw [List.getElem?_take, if_pos hi]; simpa using ho
    obtain ⟨hop, _, _⟩ := allocOf_spec hT
    unfold execOp
    rw [hop]
    simp [hZ T hmem w, Result.andThen]
  simp only [growB, Bool.and_eq_true] at hB
  obtain ⟨⟨⟨hlt, hown⟩, hsl⟩, hal⟩ := hB
  simp only [Region.lexTailB, Bool.and_eq_true, decide_eq_true_eq] at hlt
  obtain ⟨⟨⟨⟨hsel, hn⟩, hs⟩, hc⟩, hlex⟩ := hlt
  have hn' : n < l.length := by simpa using hn
  have htl : (l.take n).length = n := by simp; omega
  have hdl : (l.drop n).length = l.toArray.size - n := by simp
  have inv0 : HeadInv .any l.toArray n (Array.replicate l.toArray.size false) :=
    ⟨by simp, fun j oj _ hl => (by rw [getD_replicate_false] at hl; cases hl), fun t _ ht => getD_in (by simpa using ht) (getD_replicate_false _ _)⟩
  obtain ⟨vals, hV⟩ := growV_of (l.take n) 0 a hal h
  have H := wpAnyG_lex (md := .any) (g := l.toArray.size - n) hsel hs hc hn (l.take n) 0 _ a (fun j hj => by
    have hj' : j < n := by rw [htl] at hj; exact hj
    simp [hj']) (by simpa using htl) inv0 (by rw [htl]; exact hlex) hV
  refine wp_region_any hm ?_
  have fr0 : Fr nob w { w with drawn := w.drawn + 1 } := ⟨rfl, rfl, rfl, Nat.le_refl _, fun _ _ _ => rfl⟩
  have := wpAny_of_G (P := P) (J := J) (ic := ic) (Q' := Q) (g := l.toArray.size - n) (Z := Z) hJs hJf hZ' (ownSlots_of hown) sz (slots_of hsl) (fun o ho => by
      have ho' : l[ic]? = some o := by simpa using ho
      rw [ho'] at hica; simpa using hica) (fun listed a' w' fr hJ hL => by
    have hli : ∀ i, i < n → listed.getD i false = true := fun i hi => hL.1.2 i hi (.inr (Nat.zero_le _))
    rw [hli ic hicn] at fr
    have := wpAny_of_seq (md := .any) (Q' := Q) (l.drop n) n listed a' w' (fun j => by simp [List.getElem?_drop]) (by rw [hdl]; exact hL.1.1) (hL.2 w' listed fr hli hJ)
    rwa [hdl] at this) _ _ _ _ (by rw [getD_replicate_false]; exact hJ0 _ fr0) (by simp) (by intro i o T t _ _ _ _ hl; rw [getD_replicate_false] at hl; cases hl) hsz H
  rw [htl, show n + (l.toArray.size - n) = l.toArray.size by omega] at this
  exact this

section
variable {J : Bool → World → Prop}
theorem jump_step {Q : Act → Prop} {o : Oper} {rest : List Oper} {k : Nat} {a : Act} {v : Value} (hk : decide (k = ic) = false) (hT : allocOf o = none) (hw : Region.wanted o (yielded ops a.tmps) = true) (hv : ∀ d w, J d w → growUpon P w v ((execOp a.eval o).run P w)) (hK : wpGrow (askJ P W0 J ic) ic ops W0 Q rest (k + 1) (a.put o.dst v)) : wpGrow (askJ P W0 J ic) ic ops W0 Q (o :: rest) k a := by
  unfold wpGrow
  simp only [hT]
  refine ⟨v, .inl ⟨hw, ?_⟩, hK⟩
  unfold askJ
  rw [if_neg (of_decide_eq_false hk)]
  exact hv
theorem jump_call {Q : Act → Prop} {o : Oper} {rest : List Oper} {k : Nat} {a : Act} {v : Value} (f : FuncId) (args : Array Value) (hk : decide (k = ic) = true) (hT : allocOf o = none) (hw : Region.wanted o (yielded ops a.tmps) = true) (he : ∀ w, (execOp a.eval o).run P w = .ok (.enter f args) w)
    (hv : ∀ w, J false w → Calls P f args w (fun e w'' => e = .returned v ∧ J true w'' ∧ w.heap.size ≤ w''.heap.size ∧ ∀ b, W0.heap.size ≤ b → b < w.heap.size → w''.heap[b]? = w.heap[b]?)) (hK : wpGrow (askJ P W0 J ic) ic ops W0 Q rest (k + 1) (a.put o.dst v)) : wpGrow (askJ P W0 J ic) ic ops W0 Q (o :: rest) k a := by
  unfold wpGrow
  simp only [hT]
  refine ⟨v, .inl ⟨hw, ?_⟩, hK⟩
  unfold askJ
  rw [if_pos (of_decide_eq_true hk)]
  intro w hJ
  rw [he w]
  exact ⟨rfl, hv w hJ⟩
theorem jump_skip {Q : Act → Prop} {o : Oper} {rest : List Oper} {k : Nat} {a : Act} (hk : decide (k = ic) = false) (hT : allocOf o = none) (hw : Region.wanted o (yielded ops a.tmps) = false) (hK : wpGrow (askJ P W0 J ic) ic ops W0 Q rest (k + 1) (a.put o.dst undef)) : wpGrow (askJ P W0 J ic) ic ops W0 Q (o :: rest) k a := by
  unfold wpGrow
  simp only [hT]
  exact ⟨undef, .inr ⟨hw, rfl, of_decide_eq_false hk⟩, hK⟩
theorem jump_alloc {Q : Act → Prop} {o : Oper} {rest : List Oper} {k : Nat} {a : Act} {T : TypeId} (hT : allocOf o = some T) (hK : ∀ b, W0.heap.size ≤ b → wpGrow (askJ P W0 J ic) ic ops W0 Q rest (k + 1) (a.put o.dst (ptr b))) : wpGrow (askJ P W0 J ic) ic ops W0 Q (o :: rest) k a := by
  unfold wpGrow
  simp only [hT]
  exact hK
theorem jump_nil {Q : Act → Prop} {k : Nat} {a : Act} (h : Q a) : wpGrow (askJ P W0 J ic) ic ops W0 Q [] k a := h
theorem upon_value {x : Sem Next} {w : World} {v : Value} (h : x.run P w = .ok (.value v) w) : growUpon P w v (x.run P w) := by rw [h]; exact ⟨rfl, rfl⟩
theorem upon_call {x : Sem Next} {w : World} {v : Value} {f : FuncId} {args : Array Value} (h : x.run P w = .ok (.enter f args) w) (hc : Calls P f args w fun e w' => e = .returned v ∧ Fr nob w w') : growUpon P w v (x.run P w) := by rw [h]; exact ⟨rfl, hc⟩
end
end

theorem growB_of {l : List Oper} {n sz : Nat} (h1 : Region.noSelect l.toArray = true) (h2 : decide (n < l.toArray.size) = true) (h3 : Region.sinkB .any l.toArray n = true) (h4 : Region.chainB .any l.toArray n = true)
    (h5 : Region.lexHead .any l.toArray (l.toArray.size - n) n 0 (Array.replicate l.toArray.size false) = true) (h6 : ownSlotsB l.toArray n = true) (h7 : slotsB l.toArray n sz = true) (h8 : allocsLast (l.take n) = true) : growB l n sz = true := by
  unfold growB Region.lexTailB
  rw [h1, h2, h3, h4, h5, h6, h7, h8]; rfl
theorem lexHead_start {md : Region.Mode} {ops : Array Oper} {g f k : Nat} {listed l' : Array Bool} (hl : listed = l') (h : Region.lexHead md ops g f k l' = true) : Region.lexHead md ops g f k listed = true := by rw [hl]; exact h
theorem lexHead_cons {md : Region.Mode} {ops : Array Oper} {g f k : Nat} {listed l' : Array Bool} (h : ((Region.ready md ops listed).contains k && Region.free md ops listed k) = true) (hl : listed.setIfInBounds k true = l') (h' : Region.lexHead md ops g f (k + 1) l' = true) : Region.lexHead md ops g (f + 1) k listed = true := by
  rw [Region.lexHead, h, hl, h']; rfl
end Go.Proofs.YtalnhlebgofiiaaGreatDoor.E
namespace Go.Proofs.YtalnhlebgofiiaaGreatDoor.E
open Go.RowKit

/-! A REGION THAT DRAWS ITS ORDER, one of whose operations is a call that writes to what was there, OR GIVES BACK WHAT CAN'T BE TOLD AHEAD (a new place): all calls but this one come behind it. -/
def valUpon (w : World) (v : Value) : Result Next → Prop
  | .ok (.value u) w' => w' = w ∧ u = v
  | .ok .skip w' => w' = w ∧ v = undef
  | _ => False
def callAny (P : Program) (S : Value → World → World → Prop) (w : World) : Result Next → Prop
  | .ok (.enter f args) w' => w' = w ∧ Calls P f args w (fun e w'' => ∃ v, e = .returned v ∧ S v w w'')
  | .ok (.value v) w' => S v w w'
  | _ => False
def Keep (W0 w w'' : World) : Prop := w.heap.size ≤ w''.heap.size ∧ ∀ b, W0.heap.size ≤ b → b < w.heap.size → w''.heap[b]? = w.heap[b]?
/-- what is asked, where the call gave v back -/
def askF (P : Program) (W0 : World) (J0 : World → Prop) (J1 : Value → World → Prop) (ic : Nat) (bnd : Nat → Bool) (v : Value) : Ask := fun i x u =>
  if i = ic then u = v ∧ ∀ w, J0 w → callAny P (fun v' w w'' => J1 v' w'' ∧ Keep W0 w w'') w (x.run P w)
  else if bnd i = true then ∀ w, J1 v w → growUpon P w u (x.run P w)
  else (∀ w, J0 w → valUpon w u (x.run P w)) ∧ ∀ w, J1 v w → valUpon w u (x.run P w)
/-- what comes behind the call -/
def bndB (md : Region.Mode) (ops : Array Oper) (ic n : Nat) (bnd : Nat → Bool) : Bool :=
  (List.range n).all fun i => !bnd i || (match ops[i]? with | some o => o.after.any fun e => Region.binds md e && decide (e.on < n) && (e.on == ic || bnd e.on) | none => false)

section
variable {P : Program} {Y : Ask} {ic : Nat} {ops : Array Oper} {md : Region.Mode} {W0 : World} {Z : TypeId → Array Value} {bnd : Nat → Bool}

theorem bnd_of {n i : Nat} {o : Oper} (h : bndB md ops ic n bnd = true) (hi : i < n) (ho : ops[i]? = some o) (hb : bnd i = true) : ∃ e ∈ o.after, Region.binds md e = true ∧ e.on < n ∧ (e.on = ic ∨ bnd e.on = true) := by
  have h1 := List.all_eq_true.1 h i (List.mem_range.2 hi)
  simp only [ho, hb, Bool.not_true, Bool.false_or] at h1
  obtain ⟨e, he, h2⟩ := Array.any_eq_true'.1 h1
  simp only [Bool.and_eq_true, decide_eq_true_eq, Bool.or_eq_true, beq_iff_eq] at h2
  exact ⟨e, he, h2.1.1, h2.1.2, h2.2⟩

/-- behind the call -/
theorem wpAny_of_F1 {J0 : World → Prop} {J1 : Value → World → Prop} {v : Value} {vals : Nat → Value} {n g : Nat} {L : Array Bool → Act → Prop} {Q' : Exit → Act → World → Prop} (hJs : ∀ w, J1 v w → W0.heap.size ≤ w.heap.size) (hJf : ∀ w w', J1 v w → Fr nob w w' → J1 v w')
    (hZ : ∀ i o T, i < n → ops[i]? = some o → allocOf o = some T → ∀ (ρ : Operand → Value) w, (execOp ρ o).run P w = .ok (.value (ptr w.heap.size)) (w.alloc (.cells (Z T) T)))
    (hown : ownSlots ops n) (sz : Nat) (hslots : ∀ i o t, i < n → ops[i]? = some o → o.dst = some t → t < sz)
    (hL : ∀ listed a w, J1 v w → Made ops n W0 Z listed a w → L listed a → wpAny P md ops Q' g listed a w) :
    ∀ (f : Nat) (listed : Array Bool) (a : Act) (w : World), listed.getD ic false = true → J1 v w → Made ops n W0 Z listed a w → a.tmps.size = sz → wpAnyG (askF P W0 J0 J1 ic bnd v) ic md ops W0 vals n L f listed a → wpAny P md ops Q' (f + g) listed a w
  | 0, listed, a, w, _, fr, hJ, _, h => by rw [Nat.zero_add]; exact hL _ _ _ fr hJ h
  | f + 1, listed, a, w, hic, fr, hJ, hsz, h => by
    rw [show f + 1 + g = (f + g) + 1 by omega]
    refine ⟨fun h0 => absurd h0 h.1, fun i hi => ?_⟩
    obtain ⟨hin, hg⟩ := h.2 i hi
    obtain ⟨hun, o, ho, _⟩ := mem_ready.1 hi
    have hne : i ≠ ic := by
      intro e
      rw [← e, getD_both hun] at hic
      cases hic
    have hic' : (listed.setIfInBounds i true).getD ic false = true := by rw [getD_set_ne false hne]; exact hic
    unfold gOp at hg
    unfold wpOp
    simp only [ho] at hg ⊢
    cases hT : allocOf o with
    | some T =>
      simp only [hT] at hg
      obtain ⟨hop, hgd, t, ht⟩ := allocOf_spec hT
      rw [if_pos (by simp [Region.wanted, hgd])]
      left
      unfold Oper.wp
      rw [hZ i o T hin ho hT]
      exact wpAny_of_F1 hJs hJf hZ hown sz hslots hL f _ _ _ hic' (hJf _ _ fr ((Fr.refl nob w).alloc _)) (hJ.new ho hin hT ht (by rw [hsz]; exact hslots i o t hin ho ht) hown (hJs _ fr)) (by rw [put_size]; exact hsz) (hg w.heap.size (hJs _ fr))
    | none =>
      simp only [hT] at hg
      obtain ⟨hy, hK⟩ := hg
      rcases hy with ⟨hw, hv⟩ | ⟨hw, hv, _⟩
      · rw [if_pos hw]
        left
        unfold Oper.wp
        have h3 : growUpon P w (vals i) ((execOp a.eval o).run P w) := by
          unfold askF at hv
          rw [if_neg hne] at hv
          by_cases hb : bnd i = true
          · rw [if_pos hb] at hv; exact hv w fr
          · rw [if_neg hb] at hv
            have h4 := hv.2 w fr
            generalize (execOp a.eval o).run P w = r at *
            cases r with
            | ok nx w' => cases nx <;> first | exact h4 | (exact (h4 : False).elim)
            | halt x w' => exact (h4 : False).elim
        generalize (execOp a.eval o).run P w = r at *
        cases r with
        | ok nx w' =>
          cases nx <;> simp only [growUpon] at h3 <;> simp only [Oper.upon]
          case value u =>
            obtain ⟨e1, e2⟩ := h3
            rw [e1, e2]
            exact wpAny_of_F1 hJs hJf hZ hown sz hslots hL f _ _ _ hic' fr (hJ.next ho hin hT hown (fun _ _ _ => rfl)) (by rw [put_size]; exact hsz) hK
          case skip =>
            obtain ⟨e1, e2⟩ := h3
            rw [e1, ← e2]
            exact wpAny_of_F1 hJs hJf hZ hown sz hslots hL f _ _ _ hic' fr (hJ.next ho hin hT hown (fun _ _ _ => rfl)) (by rw [put_size]; exact hsz) hK
          case enter fi args =>
            obtain ⟨e1, hc⟩ := h3
            rw [e1]
            exact hc.mono fun e w'' ⟨he, hw''⟩ => by
              subst he
              exact wpAny_of_F1 hJs hJf hZ hown sz hslots hL f _ _ _ hic' (hJf _ _ fr hw'') (hJ.next ho hin hT hown (fun b _ hb => hw''.block b hb (fun h => h))) (by rw [put_size]; exact hsz) hK
        | halt x w' => simp only [growUpon] at h3
      · rw [if_neg (by rw [hw]; exact Bool.false_ne_true), ← hv]
        exact wpAny_of_F1 hJs hJf hZ hown sz hslots hL f _ _ _ hic' fr (hJ.next ho hin hT hown (fun _ _ _ => rfl)) (by rw [put_size]; exact hsz) hK

/-- ahead of it -/
theorem wpAny_of_F0 {J0 : World → Prop} {J1 : Value → World → Prop} {PV : Value → Prop} {vals : Value → Nat → Value} {n g : Nat} {L : Value → Array Bool → Act → Prop} {Q' : Exit → Act → World → Prop} (hicn : ic < n)
    (hJ0s : ∀ w, J0 w → W0.heap.size ≤ w.heap.size) (hJ0f : ∀ w w', J0 w → Fr nob w w' → J0 w') (hPV : ∃ v, PV v) (hPJ : ∀ v w, J1 v w → PV v)
    (hJs : ∀ v w, J1 v w → W0.heap.size ≤ w.heap.size) (hJf : ∀ v w w', J1 v w → Fr nob w w' → J1 v w')
    (hZ : ∀ i o T, i < n → ops[i]? = some o → allocOf o = some T → ∀ (ρ : Operand → Value) w, (execOp ρ o).run P w = .ok (.value (ptr w.heap.size)) (w.alloc (.cells (Z T) T)))
    (hown : ownSlots ops n) (sz : Nat) (hslots : ∀ i o t, i < n → ops[i]? = some o → o.dst = some t → t < sz) (hica : ∀ o, ops[ic]? = some o → allocOf o = none) (hbnd : bndB md ops ic n bnd = true)
    (hLv : ∀ v listed a, L v listed a → listed.getD ic false = true)
    (hL : ∀ v listed a w, J1 v w → Made ops n W0 Z listed a w → L v listed a → wpAny P md ops Q' g listed a w) :
    ∀ (f : Nat) (listed : Array Bool) (a : Act) (w : World), listed.getD ic false = false → (∀ i, i < n → bnd i = true → listed.getD i false = false) → listed.size = ops.size → J0 w → Made ops n W0 Z listed a w → a.tmps.size = sz →
      (∀ v, PV v → wpAnyG (askF P W0 J0 J1 ic bnd v) ic md ops W0 (vals v) n (L v) f listed a) → wpAny P md ops Q' (f + g) listed a w
  | 0, listed, a, w, hic, _, _, _, _, _, h => by
    obtain ⟨v, hv⟩ := hPV
    have := hLv v listed a (h v hv)
    rw [hic] at this
    cases this
  | f + 1, listed, a, w, hic, hbl, hls, fr, hJ, hsz, h => by
    obtain ⟨v0, hv0⟩ := hPV
    rw [show f + 1 + g = (f + g) + 1 by omega]
    refine ⟨fun h0 => absurd h0 (h v0 hv0).1, fun i hi => ?_⟩
    obtain ⟨hin, hg⟩ := (h v0 hv0).2 i hi
    have hgv := fun v hv => ((h v hv).2 i hi).2
    obtain ⟨hun, o, ho, haft⟩ := mem_ready.1 hi
    have hio : i < listed.size := by rw [hls]; exact (Array.getElem?_eq_some_iff.1 ho).1
    have hls' : (listed.setIfInBounds i true).size = ops.size := by simp [hls]
    have hnb : bnd i ≠ true := fun hb => by
      obtain ⟨e, he, hbi, hen, hor⟩ := bnd_of hbnd hin ho hb
      have h1 := haft e he hbi
      rcases hor with h2 | h2
      · rw [h2, hic] at h1; cases h1
      · rw [hbl _ hen h2] at h1; cases h1
    have hbl' : ∀ j, j < n → bnd j = true → (listed.setIfInBounds i true).getD j false = false := fun j hj hb => by
      have hij : i ≠ j := fun e => hnb (by rw [e]; exact hb)
      rw [getD_set_ne false hij]; exact hbl j hj hb
    unfold gOp at hg hgv
    unfold wpOp
    simp only [ho] at hg hgv ⊢
    by_cases hii : i = ic
    · have hT : allocOf o = none := hica o (by rw [← hii]; exact ho)
      simp only [hT] at hg hgv
      obtain ⟨hy, _⟩ := hg
      rcases hy with ⟨hw, hv⟩ | ⟨_, _, hne⟩
      · rw [if_pos hw]
        left
        unfold Oper.wp
        unfold askF at hv
        rw [if_pos hii] at hv
        have h3 := hv.2 w fr
        generalize hr : (execOp a.eval o).run P w = r at *
        have fin : ∀ v' w'', J1 v' w'' → Keep W0 w w'' → wpAny P md ops Q' (f + g) (listed.setIfInBounds i true) (a.put o.dst v') w'' := fun v' w'' h1 h24 => by
          obtain ⟨hy', hK'⟩ := hgv v' (hPJ _ _ h1)
          have hval : vals v' i = v' := by
            rcases hy' with ⟨_, hv'⟩ | ⟨_, _, hne⟩
            · unfold askF at hv'
              rw [if_pos hii] at hv'
              exact hv'.1
            · exact absurd hii hne
          rw [hval] at hK'
          exact wpAny_of_F1 (hJs v') (hJf v') hZ hown sz hslots (hL v') f _ _ _ (by rw [← hii]; simp [hio]) h1 (hJ.next ho hin hT hown h24.2) (by rw [put_size]; exact hsz) hK'
        cases r with
        | ok nx w' =>
          cases nx <;> simp only [callAny] at h3 <;> simp only [Oper.upon]
          case value u => exact fin u w' h3.1 h3.2
          case enter fi args =>
            obtain ⟨e1, hc⟩ := h3
            rw [e1]
            refine hc.mono fun e w'' ⟨v', he, h1, h24⟩ => ?_
            subst he
            exact fin v' w'' h1 h24
        | halt x w' => simp only [callAny] at h3
      · exact absurd hii hne
    · have hic' : (listed.setIfInBounds i true).getD ic false = false := by rw [getD_set_ne false hii]; exact hic
      cases hT : allocOf o with
      | some T =>
        simp only [hT] at hg hgv
        obtain ⟨hop, hgd, t, ht⟩ := allocOf_spec hT
        rw [if_pos (by simp [Region.wanted, hgd])]
        left
        unfold Oper.wp
        rw [hZ i o T hin ho hT]
        exact wpAny_of_F0 hicn hJ0s hJ0f ⟨v0, hv0⟩ hPJ hJs hJf hZ hown sz hslots hica hbnd hLv hL f _ _ _ hic' hbl' hls' (hJ0f _ _ fr ((Fr.refl nob w).alloc _)) (hJ.new ho hin hT ht (by rw [hsz]; exact hslots i o t hin ho ht) hown (hJ0s _ fr)) (by rw [put_size]; exact hsz) (fun v hv => hgv v hv w.heap.size (hJ0s _ fr))
      | none =>
        simp only [hT] at hg hgv
        have spec : ∀ v, PV v → (Region.wanted o (yielded ops a.tmps) = true ∧ valUpon w (vals v i) ((execOp a.eval o).run P w)) ∨ (Region.wanted o (yielded ops a.tmps) = false ∧ vals v i = undef) := fun v hv => by
          rcases (hgv v hv).1 with ⟨hw, hv⟩ | ⟨hw, hv, _⟩
          · unfold askF at hv
            rw [if_neg hii, if_neg hnb] at hv
            exact .inl ⟨hw, hv.1 w fr⟩
          · exact .inr ⟨hw, hv⟩
        have same : ∀ v, PV v → vals v i = vals v0 i := fun v hv => by
          rcases spec v hv with ⟨hw, h1⟩ | ⟨hw, h1⟩ <;> rcases spec v0 hv0 with ⟨hw', h2⟩ | ⟨hw', h2⟩
          · generalize (execOp a.eval o).run P w = r at *
            cases r with
            | ok nx w' =>
              cases nx <;> simp only [valUpon] at h1 h2
              · exact h1.2.symm.trans h2.2
              · exact h1.2.trans h2.2.symm
            | halt x w' => exact (h1 : False).elim
          · rw [hw] at hw'; cases hw'
          · rw [hw] at hw'; cases hw'
          · rw [h1, h2]
        have H' : ∀ v, PV v → wpAnyG (askF P W0 J0 J1 ic bnd v) ic md ops W0 (vals v) n (L v) f (listed.setIfInBounds i true) (a.put o.dst (vals v0 i)) := fun v hv => by
          have := (hgv v hv).2
          rwa [same v hv] at this
        rcases spec v0 hv0 with ⟨hw, h3⟩ | ⟨hw, h3⟩
        · rw [if_pos hw]
          left
          unfold Oper.wp
          generalize (execOp a.eval o).run P w = r at *
          cases r with
          | ok nx w' =>
            cases nx <;> simp only [valUpon] at h3 <;> simp only [Oper.upon]
            case value u =>
              obtain ⟨e1, e2⟩ := h3
              rw [e1, e2]
              exact wpAny_of_F0 hicn hJ0s hJ0f ⟨v0, hv0⟩ hPJ hJs hJf hZ hown sz hslots hica hbnd hLv hL f _ _ _ hic' hbl' hls' fr (hJ.next ho hin hT hown (fun _ _ _ => rfl)) (by rw [put_size]; exact hsz) H'
            case skip =>
              obtain ⟨e1, e2⟩ := h3
              rw [e1, ← e2]
              exact wpAny_of_F0 hicn hJ0s hJ0f ⟨v0, hv0⟩ hPJ hJs hJf hZ hown sz hslots hica hbnd hLv hL f _ _ _ hic' hbl' hls' fr (hJ.next ho hin hT hown (fun _ _ _ => rfl)) (by rw [put_size]; exact hsz) H'
          | halt x w' => simp only [valUpon] at h3
        · rw [if_neg (by rw [hw]; exact Bool.false_ne_true), ← h3]
          exact wpAny_of_F0 hicn hJ0s hJ0f ⟨v0, hv0⟩ hPJ hJs hJf hZ hown sz hslots hica hbnd hLv hL f _ _ _ hic' hbl' hls' fr (hJ.next ho hin hT hown (fun _ _ _ => rfl)) (by rw [put_size]; exact hsz) H'

/-- **THE RULE, ONE CALL GIVES BACK WHAT IT WILL.** -/
theorem wp_region_any_call {id : Nat} {Q : Exit → Act → World → Prop} {a : Act} {w : World} {l : List Oper} (n sz ic : Nat) (bnd : Nat → Bool) (J0 : World → Prop) (J1 : Value → World → Prop) (PV : Value → Prop) (Z : TypeId → Array Value) (ts : List TypeId) (hm : P.follows .mixedOrders = true) (hB : growB l n sz = true) (hsz : a.tmps.size = sz)
    (hicn : ic < n) (hica : (l[ic]?).bind allocOf = none) (hbnd : bndB .any l.toArray ic n bnd = true) (hJ00 : ∀ w', Fr nob w w' → J0 w') (hJ0s : ∀ w', J0 w' → w.heap.size ≤ w'.heap.size) (hJ0f : ∀ w' w'', J0 w' → Fr nob w' w'' → J0 w'')
    (hPV : ∃ v, PV v) (hPJ : ∀ v w, J1 v w → PV v) (hJs : ∀ v w', J1 v w' → w.heap.size ≤ w'.heap.size) (hJf : ∀ v w' w'', J1 v w' → Fr nob w' w'' → J1 v w'')
    (hts : allocTypes (l.take n) = ts) (hZ : ∀ T, T ∈ ts → ∀ w, (Instr.alloc T true (.tuple #[])).run P w = .ok (ptr w.heap.size) (w.alloc (.cells (Z T) T)))
    (h : ∀ v, PV v → wpGrow (askF P w J0 J1 ic bnd v) ic l.toArray w (fun a' => ∀ w' listed, J1 v w' → (∀ i, i < n → listed.getD i false = true) → Made l.toArray n w Z listed a' w' → wpList P l.toArray Q (l.drop n) a' w') (l.take n) 0 a) :
    (Code.region id l.toArray true).wp P Q a w := by
  have hZ' : ∀ i o T, i < n → l.toArray[i]? = some o → allocOf o = some T → ∀ (ρ : Operand → Value) w, (execOp ρ o).run P w = .ok (.value (ptr w.heap.size)) (w.alloc (.cells (Z T) T)) := fun i o T hi ho hT ρ w => by
    have hmem : T ∈ ts := by
      rw [← hts]
      refine List.mem_filterMap.2 ⟨o, List.mem_of_getElem? (i := i) ?_, hT⟩
      rw [List.getElem?_take, if_pos hi]; simpa using ho
    obtain ⟨hop, _, _⟩ := allocOf_spec hT
    unfold execOp
    rw [hop]
    simp [hZ T hmem w, Result.andThen]
  simp only [growB, Bool.and_eq_true] at hB
  obtain ⟨⟨⟨hlt, hown⟩, hsl⟩, hal⟩ := hB
  simp only [Region.lexTailB, Bool.and_eq_true, decide_eq_true_eq] at hlt
  obtain ⟨⟨⟨⟨hsel, hn⟩, hs⟩, hc⟩, hlex⟩ := hlt
  have hn' : n < l.length := by simpa using hn
  have htl : (l.take n).length = n := by simp; omega
  have hdl : (l.drop n).length = l.toArray.size - n := by simp
  have inv0 : HeadInv .any l.toArray n (Array.replicate l.toArray.size false) :=
    ⟨by simp, fun j oj _ hl => (by rw [getD_replicate_false] at hl; cases hl), fun t _ ht => getD_in (by simpa using ht) (getD_replicate_false _ _)⟩
  have hex : ∀ v, ∃ vals : Nat → Value, PV v → wpGrowV (askF P w J0 J1 ic bnd v) ic l.toArray w vals (fun a' => ∀ w' listed, J1 v w' → (∀ i, i < n → listed.getD i false = true) → Made l.toArray n w Z listed a' w' → wpList P l.toArray Q (l.drop n) a' w') (l.take n) 0 a := fun v => by
    by_cases hv : PV v
    · obtain ⟨vals, hV⟩ := growV_of (l.take n) 0 a hal (h v hv)
      exact ⟨vals, fun _ => hV⟩
    · exact ⟨fun _ => undef, fun h => absurd h hv⟩
  have hvals : ∃ vals : Value → Nat → Value, ∀ v, PV v → wpGrowV (askF P w J0 J1 ic bnd v) ic l.toArray w (vals v) (fun a' => ∀ w' listed, J1 v w' → (∀ i, i < n → listed.getD i false = true) → Made l.toArray n w Z listed a' w' → wpList P l.toArray Q (l.drop n) a' w') (l.take n) 0 a :=
    ⟨fun v => (hex v).choose, fun v hv => (hex v).choose_spec hv⟩
  obtain ⟨vals, hV⟩ := hvals
  have H := fun v hv => wpAnyG_lex (md := .any) (g := l.toArray.size - n) hsel hs hc hn (l.take n) 0 _ a (fun j hj => by
    have hj' : j < n := by rw [htl] at hj; exact hj
    simp [hj']) (by simpa using htl) inv0 (by rw [htl]; exact hlex) (hV v hv)
  refine wp_region_any hm ?_
  have fr0 : Fr nob w { w with drawn := w.drawn + 1 } := ⟨rfl, rfl, rfl, Nat.le_refl _, fun _ _ _ => rfl⟩
  have := wpAny_of_F0 (P := P) (J0 := J0) (J1 := J1) (PV := PV) (ic := ic) (bnd := bnd) (vals := vals) (Q' := Q) (g := l.toArray.size - n) (Z := Z) hicn hJ0s hJ0f hPV hPJ hJs hJf hZ' (ownSlots_of hown) sz (slots_of hsl) (fun o ho => by
      have ho' : l[ic]? = some o := by simpa using ho
      rw [ho'] at hica; simpa using hica) hbnd (fun v listed a' hL => hL.1.2 ic hicn (.inr (Nat.zero_le _))) (fun v listed a' w' fr hJ hL => by
    have hli : ∀ i, i < n → listed.getD i false = true := fun i hi => hL.1.2 i hi (.inr (Nat.zero_le _))
    have := wpAny_of_seq (md := .any) (Q' := Q) (l.drop n) n listed a' w' (fun j => by simp [List.getElem?_drop]) (by rw [hdl]; exact hL.1.1) (hL.2 w' listed fr hli hJ)
    rwa [hdl] at this) _ _ _ _ (getD_replicate_false _ _) (fun i _ _ => getD_replicate_false _ _) (by simp) (hJ00 _ fr0) (by intro i o T t _ _ _ _ hl; rw [getD_replicate_false] at hl; cases hl) hsz H
  rw [htl, show n + (l.toArray.size - n) = l.toArray.size by omega] at this
  exact this

section
variable {J0 : World → Prop} {J1 : Value → World → Prop} {vv : Value}
/-- an operation that only reads, whatever has happened -/
theorem anyc_value {Q : Act → Prop} {o : Oper} {rest : List Oper} {k : Nat} {a : Act} {v : Value} (hk : decide (k = ic) = false) (hb : bnd k = false) (hT : allocOf o = none) (hw : Region.wanted o (yielded ops a.tmps) = true)
    (hv : ∀ w, (J0 w ∨ J1 vv w) → (execOp a.eval o).run P w = .ok (.value v) w) (hK : wpGrow (askF P W0 J0 J1 ic bnd vv) ic ops W0 Q rest (k + 1) (a.put o.dst v)) : wpGrow (askF P W0 J0 J1 ic bnd vv) ic ops W0 Q (o :: rest) k a := by
  unfold wpGrow
  simp only [hT]
  refine ⟨v, .inl ⟨hw, ?_⟩, hK⟩
  unfold askF
  rw [if_neg (of_decide_eq_false hk), if_neg (by rw [hb]; exact Bool.false_ne_true)]
  exact ⟨fun w h => by rw [hv w (.inl h)]; exact ⟨rfl, rfl⟩, fun w h => by rw [hv w (.inr h)]; exact ⟨rfl, rfl⟩⟩
/-- an operation behind the call -/
theorem anyc_behind {Q : Act → Prop} {o : Oper} {rest : List Oper} {k : Nat} {a : Act} {v : Value} (hk : decide (k = ic) = false) (hb : bnd k = true) (hT : allocOf o = none) (hw : Region.wanted o (yielded ops a.tmps) = true)
    (hv : ∀ w, J1 vv w → growUpon P w v ((execOp a.eval o).run P w)) (hK : wpGrow (askF P W0 J0 J1 ic bnd vv) ic ops W0 Q rest (k + 1) (a.put o.dst v)) : wpGrow (askF P W0 J0 J1 ic bnd vv) ic ops W0 Q (o :: rest) k a := by
  unfold wpGrow
  simp only [hT]
  refine ⟨v, .inl ⟨hw, ?_⟩, hK⟩
  unfold askF
  rw [if_neg (of_decide_eq_false hk), if_pos hb]
  exact hv
/-- .. an operation that is no call -/
theorem anyc_op {Q : Act → Prop} {o : Oper} {rest : List Oper} {k : Nat} {a : Act} (hk : decide (k = ic) = true) (hT : allocOf o = none) (hw : Region.wanted o (yielded ops a.tmps) = true)
    (hv : ∀ w, J0 w → ∃ v' w'', (execOp a.eval o).run P w = .ok (.value v') w'' ∧ J1 v' w'' ∧ Keep W0 w w'') (hK : wpGrow (askF P W0 J0 J1 ic bnd vv) ic ops W0 Q rest (k + 1) (a.put o.dst vv)) : wpGrow (askF P W0 J0 J1 ic bnd vv) ic ops W0 Q (o :: rest) k a := by
  unfold wpGrow
  simp only [hT]
  refine ⟨vv, .inl ⟨hw, ?_⟩, hK⟩
  unfold askF
  rw [if_pos (of_decide_eq_true hk)]
  refine ⟨rfl, fun w hJ => ?_⟩
  obtain ⟨v', w'', h1, h2⟩ := hv w hJ
  rw [h1]
  exact h2
/-- the call -/
theorem anyc_call {Q : Act → Prop} {o : Oper} {rest : List Oper} {k : Nat} {a : Act} (f : FuncId) (args : Array Value) (hk : decide (k = ic) = true) (hT : allocOf o = none) (hw : Region.wanted o (yielded ops a.tmps) = true) (he : ∀ w, (execOp a.eval o).run P w = .ok (.enter f args) w)
    (hv : ∀ w, J0 w → Calls P f args w (fun e w'' => ∃ v', e = .returned v' ∧ J1 v' w'' ∧ Keep W0 w w'')) (hK : wpGrow (askF P W0 J0 J1 ic bnd vv) ic ops W0 Q rest (k + 1) (a.put o.dst vv)) : wpGrow (askF P W0 J0 J1 ic bnd vv) ic ops W0 Q (o :: rest) k a := by
  unfold wpGrow
  simp only [hT]
  refine ⟨vv, .inl ⟨hw, ?_⟩, hK⟩
  unfold askF
  rw [if_pos (of_decide_eq_true hk)]
  refine ⟨rfl, fun w hJ => ?_⟩
  rw [he w]
  exact ⟨rfl, hv w hJ⟩
theorem anyc_alloc {Q : Act → Prop} {o : Oper} {rest : List Oper} {k : Nat} {a : Act} {T : TypeId} (hT : allocOf o = some T) (hK : ∀ b, W0.heap.size ≤ b → wpGrow (askF P W0 J0 J1 ic bnd vv) ic ops W0 Q rest (k + 1) (a.put o.dst (ptr b))) : wpGrow (askF P W0 J0 J1 ic bnd vv) ic ops W0 Q (o :: rest) k a := by
  unfold wpGrow
  simp only [hT]
  exact hK
theorem anyc_nil {Q : Act → Prop} {k : Nat} {a : Act} (h : Q a) : wpGrow (askF P W0 J0 J1 ic bnd vv) ic ops W0 Q [] k a := h
end
end
end Go.Proofs.YtalnhlebgofiiaaGreatDoor.E
