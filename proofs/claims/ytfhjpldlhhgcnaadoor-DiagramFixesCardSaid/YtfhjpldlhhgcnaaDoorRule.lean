import Derived.Test.YtfhjpldlhhgcnaaDoorFr
import Derived.StillTail
import Derived.Deep.Quiet
namespace Go.Proofs.YtfhjpldlhhgcnaaDoor
open Go.RowKit

/-! A REGION THAT DRAWS ITS ORDER, whose operations but the last ones only make new memory (calls by their contracts, variables of its own), and whose last ones stand in a row: one walk of the text's order serves every order. -/
abbrev ptr (b : Nat) : Value := .pointer (some ⟨b, 0, none⟩)

def allocOf (o : Oper) : Option TypeId :=
  match o.op, o.dst, o.guard with
  | .alloc T, some _, none => some T
  | _, _, _ => none

theorem allocOf_spec {o : Oper} {T : TypeId} (h : allocOf o = some T) : o.op = .alloc T ∧ o.guard = none ∧ ∃ t, o.dst = some t := by
  unfold allocOf at h
  split at h
  · rename_i h1 h2 h3; cases h; exact ⟨h1, h3, _, h2⟩
  · cases h

def growUpon (P : Program) (w : World) (v : Value) : Result Next → Prop
  | .ok (.value u) w' => w' = w ∧ u = v
  | .ok .skip w' => w' = w ∧ v = undef
  | .ok (.enter f args) w' => w' = w ∧ Calls P f args w (fun e w'' => e = .returned v ∧ Fr nob w w'')
  | _ => False

def growAt (P : Program) (o : Oper) (a : Act) (w : World) (v : Value) : Prop := growUpon P w v ((execOp a.eval o).run P w)

def Yv (P : Program) (ops : Array Oper) (W0 : World) (o : Oper) (v : Value) (a : Act) : Prop :=
  (Region.wanted o (yielded ops a.tmps) = true ∧ ∀ w, Fr nob W0 w → growAt P o a w v) ∨ (Region.wanted o (yielded ops a.tmps) = false ∧ v = undef)

def gOp (P : Program) (ops : Array Oper) (W0 : World) (vals : Nat → Value) (i : Nat) (K : Act → Prop) (a : Act) : Prop :=
  match ops[i]? with
  | none => K a
  | some o => match allocOf o with
    | some _ => ∀ b, W0.heap.size ≤ b → K (a.put o.dst (ptr b))
    | none => Yv P ops W0 o (vals i) a ∧ K (a.put o.dst (vals i))

def wpAnyG (P : Program) (md : Region.Mode) (ops : Array Oper) (W0 : World) (vals : Nat → Value) (n : Nat) (L : Array Bool → Act → Prop) : Nat → Array Bool → Act → Prop
  | 0, listed, a => L listed a
  | f + 1, listed, a => Region.ready md ops listed ≠ [] ∧ ∀ i ∈ Region.ready md ops listed, i < n ∧ gOp P ops W0 vals i (wpAnyG P md ops W0 vals n L f (listed.setIfInBounds i true)) a

/-- what is known of the variables that the region has made -/
def Made (ops : Array Oper) (n : Nat) (W0 : World) (Z : TypeId → Array Value) (listed : Array Bool) (a : Act) (w : World) : Prop :=
  ∀ i o T t, i < n → ops[i]? = some o → allocOf o = some T → o.dst = some t → listed.getD i false = true →
    ∃ b, a.tmps[t]? = some (ptr b) ∧ W0.heap.size ≤ b ∧ w.heap[b]? = some (.cells (Z T) T) ∧
      ∀ j o' T' t', j < n → j ≠ i → ops[j]? = some o' → allocOf o' = some T' → listed.getD j false = true → o'.dst = some t' → a.tmps[t']? ≠ some (ptr b)

section
variable {P : Program} {ops : Array Oper} {md : Region.Mode} {W0 : World} {vals : Nat → Value}

theorem gOp_mono {i : Nat} {a : Act} {K K' : Act → Prop} (h : ∀ a, K a → K' a) (hh : gOp P ops W0 vals i K a) : gOp P ops W0 vals i K' a := by
  unfold gOp at *
  split
  · exact h _ (by simpa [*] using hh)
  · rename_i o ho
    simp only [ho] at hh
    split
    · rename_i hT; simp only [hT] at hh; exact fun b hb => h _ (hh b hb)
    · rename_i hT; simp only [hT] at hh; exact ⟨hh.1, h _ hh.2⟩

theorem Yv.of_same {o : Oper} {v : Value} {a a' : Act} (hy : Yv P ops W0 o v a) (he : execOp a'.eval o = execOp a.eval o)
    (hw : Region.wanted o (yielded ops a'.tmps) = Region.wanted o (yielded ops a.tmps)) : Yv P ops W0 o v a' := by
  unfold Yv growAt at *
  rw [he, hw]
  exact hy

theorem Yv.put {o : Oper} {v u : Value} {a : Act} {d : Option Tmp} (hs : ∀ cs b, o.op ≠ .select cs b) (h : ∀ x, d = some x → x ∉ o.looksAt ops) : Yv P ops W0 o v (a.put d u) ↔ Yv P ops W0 o v a :=
  ⟨fun hy => hy.of_same (execOp_put o hs a d u h).symm (wanted_put o a d u h).symm, fun hy => hy.of_same (execOp_put o hs a d u h) (wanted_put o a d u h)⟩

/-- Two operations apart from each other may change places. -/
theorem gOp_swap {i j : Nat} {oi oj : Oper} (hi : ops[i]? = some oi) (hj : ops[j]? = some oj) (hap : oi.apart ops oj = true) (hsi : ∀ cs b, oi.op ≠ .select cs b) (hsj : ∀ cs b, oj.op ≠ .select cs b)
    {K : Act → Prop} {a : Act} (h : gOp P ops W0 vals i (gOp P ops W0 vals j K) a) : gOp P ops W0 vals j (gOp P ops W0 vals i K) a := by
  obtain ⟨h1, h2, h3⟩ := Oper.apart_spec hap
  unfold gOp at *
  simp only [hi, hj] at *
  cases hTi : allocOf oi with
  | some Ti =>
    cases hTj : allocOf oj with
    | some Tj =>
      simp only [hTi, hTj] at h
      exact fun b hb b' hb' => by rw [← Act.put_comm a (ptr b') (ptr b) h2]; exact h b' hb' b hb
    | none =>
      simp only [hTi, hTj] at h
      refine ⟨(Yv.put hsj h1).1 (h _ (Nat.le_refl _)).1, fun b hb => ?_⟩
      rw [← Act.put_comm a (ptr b) (vals j) h2]
      exact (h b hb).2
  | none =>
    cases hTj : allocOf oj with
    | some Tj =>
      simp only [hTi, hTj] at h
      refine fun b hb => ⟨(Yv.put hsi h3).2 h.1, ?_⟩
      rw [← Act.put_comm a (vals i) (ptr b) h2]
      exact h.2 b hb
    | none =>
      simp only [hTi, hTj] at h
      obtain ⟨k1, k2, k3⟩ := h
      refine ⟨(Yv.put hsj h1).1 k2, (Yv.put hsi h3).2 k1, ?_⟩
      rw [← Act.put_comm a (vals i) (vals j) h2]
      exact k3

theorem gOp_some {i : Nat} {oi : Oper} (hi : ops[i]? = some oi) {K : Act → Prop} {a : Act} (h : gOp P ops W0 vals i K a) : ∃ a', K a' := by
  unfold gOp at h
  simp only [hi] at h
  cases hT : allocOf oi with
  | some T => simp only [hT] at h; exact ⟨_, h _ (Nat.le_refl _)⟩
  | none => simp only [hT] at h; exact ⟨_, h.2⟩

theorem wpAnyG_first {n i : Nat} {oi : Oper} {L : Array Bool → Act → Prop} (hi : ops[i]? = some oi) (hsel : ∀ (j : Nat) (o : Oper) cs b, ops[j]? = some o → o.op ≠ .select cs b)
    (hs : Region.sinkB md ops n = true) (hc : Region.chainB md ops n = true) (hn : n < ops.size) (hin : i < n)
    (hdone : ∀ listed a, L listed a → ∀ j ∈ Region.ready md ops listed, n ≤ j) :
    ∀ (f : Nat) (listed : Array Bool) (a : Act), HeadInv md ops n listed →
      (∀ j oj, ops[j]? = some oj → j ≠ i → listed.getD j true = false → (∀ e ∈ oj.after, Region.binds md e = true → e.on ≠ i) → oi.apart ops oj = true) →
      i ∈ Region.ready md ops listed →
      gOp P ops W0 vals i (wpAnyG P md ops W0 vals n L f (listed.setIfInBounds i true)) a → wpAnyG P md ops W0 vals n L (f + 1) listed a := by
  intro f
  induction f with
  | zero =>
    intro listed a inv _ hr H
    have hun := (mem_ready.1 hr).1
    refine ⟨fun h => (by rw [h] at hr; cases hr), fun j hj => ?_⟩
    have hjn : j < n := by
      rcases Nat.lt_or_ge j n with h | h
      · exact h
      · exact absurd hj (tail_waits hs hc hn inv _ i rfl hin hun j h)
    refine ⟨hjn, ?_⟩
    by_cases hji : j = i
    · subst hji; exact H
    · obtain ⟨a', ha'⟩ := gOp_some hi H
      have := hdone _ _ ha' j (ready_mono hj hji)
      omega
  | succ f ih =>
    intro listed a inv hfree hr H
    have hun := (mem_ready.1 hr).1
    refine ⟨fun h => (by rw [h] at hr; cases hr), fun j hj => ?_⟩
    have hjn : j < n := by
      rcases Nat.lt_or_ge j n with h | h
      · exact h
      · exact absurd hj (tail_waits hs hc hn inv _ i rfl hin hun j h)
    refine ⟨hjn, ?_⟩
    by_cases hji : j = i
    · subst hji; exact H
    · obtain ⟨hjun, oj, hoj, hall⟩ := mem_ready.1 hj
      have hnot : ∀ e ∈ oj.after, Region.binds md e = true → e.on ≠ i := fun e he hb heq => by
        have h1 := hall e he hb
        rw [heq, getD_both hun] at h1
        cases h1
      have h1 : gOp P ops W0 vals i (gOp P ops W0 vals j (wpAnyG P md ops W0 vals n L f ((listed.setIfInBounds i true).setIfInBounds j true))) a :=
        gOp_mono (fun a' h => (h.2 j (ready_mono hj hji)).2) H
      have h2 := gOp_swap hi hoj (hfree j oj hoj hji hjun hnot) (fun cs b => hsel i oi cs b hi) (fun cs b => hsel j oj cs b hoj) h1
      have hfree' : ∀ k ok, ops[k]? = some ok → k ≠ i → (listed.setIfInBounds j true).getD k true = false →
          (∀ e ∈ ok.after, Region.binds md e = true → e.on ≠ i) → oi.apart ops ok = true := fun k ok hk hki hun hno => by
        refine hfree k ok hk hki ?_ hno
        by_cases hjk : j = k
        · subst hjk; exact hjun
        · rw [getD_set_ne true hjk] at hun; exact hun
      refine gOp_mono (fun a' h3 => ih (listed.setIfInBounds j true) a' (inv.set hj hjn) hfree' (ready_mono hr (Ne.symm hji)) ?_) h2
      rw [Array.setIfInBounds_comm _ _ hji]
      exact h3

/-- The walk of the text's order, with what each operation yields. -/
def wpGrowV (P : Program) (ops : Array Oper) (W0 : World) (vals : Nat → Value) (Q : Act → Prop) : List Oper → Nat → Act → Prop
  | [], _, a => Q a
  | o :: rest, k, a => match allocOf o with
    | some _ => ∀ b, W0.heap.size ≤ b → wpGrowV P ops W0 vals Q rest (k + 1) (a.put o.dst (ptr b))
    | none => Yv P ops W0 o (vals k) a ∧ wpGrowV P ops W0 vals Q rest (k + 1) (a.put o.dst (vals k))

def wpGrow (P : Program) (ops : Array Oper) (W0 : World) (Q : Act → Prop) : List Oper → Act → Prop
  | [], a => Q a
  | o :: rest, a => match allocOf o with
    | some _ => ∀ b, W0.heap.size ≤ b → wpGrow P ops W0 Q rest (a.put o.dst (ptr b))
    | none => ∃ v, Yv P ops W0 o v a ∧ wpGrow P ops W0 Q rest (a.put o.dst v)

/-- behind the first variable that is made only such ones stand -/
def allocsLast : List Oper → Bool
  | [] => true
  | o :: rest => if (allocOf o).isSome then rest.all (fun o => (allocOf o).isSome) else allocsLast rest

theorem growV_allocs {Q : Act → Prop} : ∀ (l : List Oper) (k : Nat) (a : Act), (l.all fun o => (allocOf o).isSome) = true → wpGrow P ops W0 Q l a → wpGrowV P ops W0 vals Q l k a
  | [], _, _, _, h => h
  | o :: l, k, a, hl, h => by
    simp only [List.all_cons, Bool.and_eq_true] at hl
    unfold wpGrow at h
    unfold wpGrowV
    cases hT : allocOf o with
    | none => rw [hT] at hl; cases hl.1
    | some T =>
      simp only [hT] at h ⊢
      exact fun b hb => growV_allocs l (k + 1) _ hl.2 (h b hb)

theorem growV_vals {Q : Act → Prop} {vals vals' : Nat → Value} : ∀ (l : List Oper) (k : Nat) (a : Act), (∀ j, k ≤ j → vals j = vals' j) → wpGrowV P ops W0 vals Q l k a → wpGrowV P ops W0 vals' Q l k a
  | [], _, _, _, h => h
  | o :: l, k, a, hv, h => by
    unfold wpGrowV at *
    cases hT : allocOf o with
    | some T => simp only [hT] at h ⊢; exact fun b hb => growV_vals l (k + 1) _ (fun j hj => hv j (by omega)) (h b hb)
    | none =>
      simp only [hT] at h ⊢
      rw [← hv k (Nat.le_refl _)]
      exact ⟨h.1, growV_vals l (k + 1) _ (fun j hj => hv j (by omega)) h.2⟩

theorem growV_of {Q : Act → Prop} : ∀ (l : List Oper) (k : Nat) (a : Act), allocsLast l = true → wpGrow P ops W0 Q l a → ∃ vals, wpGrowV P ops W0 vals Q l k a
  | [], _, _, _, h => ⟨fun _ => undef, h⟩
  | o :: l, k, a, hl, h => by
    cases hT : allocOf o with
    | some T =>
      refine ⟨fun _ => undef, growV_allocs (o :: l) k a ?_ h⟩
      unfold allocsLast at hl
      simp only [hT, Option.isSome_some, if_true] at hl
      simp only [List.all_cons, hT, Option.isSome_some, Bool.true_and]
      exact hl
    | none =>
      unfold wpGrow at h
      simp only [hT] at h
      obtain ⟨v, hy, hK⟩ := h
      unfold allocsLast at hl
      simp only [hT, Option.isSome_none, Bool.false_eq_true, if_false] at hl
      obtain ⟨vals, hv⟩ := growV_of l (k + 1) _ hl hK
      refine ⟨fun j => if j = k then v else vals j, ?_⟩
      unfold wpGrowV
      simp only [hT, if_true]
      exact ⟨hy, growV_vals l (k + 1) _ (fun j hj => by rw [if_neg (by omega)]) hv⟩

theorem wpAnyG_lex {n g : Nat} {Lq : Act → Prop} (hsel : Region.noSelect ops = true) (hs : Region.sinkB md ops n = true) (hc : Region.chainB md ops n = true) (hn : n < ops.size) :
    ∀ (l : List Oper) (k : Nat) (listed : Array Bool) (a : Act), (∀ j, j < l.length → l[j]? = ops[k + j]?) → k + l.length = n → HeadInv md ops n listed →
    Region.lexHead md ops g l.length k listed = true → wpGrowV P ops W0 vals Lq l k a →
    wpAnyG P md ops W0 vals n (fun listed' a' => (Region.seqB md ops g n listed' = true ∧ ∀ i, i < n → listed.getD i false = true ∨ k ≤ i → listed'.getD i false = true) ∧ Lq a') l.length listed a
  | [], k, listed, a, _, hk, inv, hB, h => by
    have : k = n := by simpa using hk
    subst this
    exact ⟨⟨by simpa [Region.lexHead] using hB, fun i hi h => h.resolve_right (by omega)⟩, h⟩
  | o :: l, k, listed, a, hl, hk, inv, hB, h => by
    have h0 : ops[k]? = some o := by simpa using (hl 0 (by simp)).symm
    simp only [List.length_cons, Region.lexHead, Bool.and_eq_true] at hB
    obtain ⟨⟨hr, hf⟩, hB'⟩ := hB
    have hkn : k < n := by simp only [List.length_cons] at hk; omega
    have hr' : k ∈ Region.ready md ops listed := by simpa using hr
    have hst : gOp P ops W0 vals k (wpGrowV P ops W0 vals Lq l (k + 1)) a := by unfold gOp; simp only [h0]; exact h
    have hks : k < listed.size := by rw [inv.size]; omega
    refine wpAnyG_first h0 (Region.noSelect_spec hsel) hs hc hn hkn (fun listed' a' hL => seqB_ready hL.1.1) l.length listed a inv (Region.free_spec h0 hf) hr' (gOp_mono (fun a' h' => ?_) hst)
    have := wpAnyG_lex (g := g) hsel hs hc hn l (k + 1) (listed.setIfInBounds k true) a' (fun j hj => by have := hl (j + 1) (by simp; omega); simpa [Nat.add_assoc, Nat.add_comm 1 j] using this) (by simp only [List.length_cons] at hk; omega) (inv.set hr' hkn) hB' h'
    refine wpAnyG_mono ?_ l.length _ _ this
    rintro listed' a'' ⟨⟨e1, e2⟩, e3⟩
    refine ⟨⟨e1, fun i hi hh => e2 i hi ?_⟩, e3⟩
    by_cases hik : i = k
    · subst hik; exact .inl (by simp [hks])
    · rcases hh with hh | hh
      · exact .inl (getD_set_true hh)
      · exact .inr (by omega)
  where
  wpAnyG_mono {n : Nat} {L L' : Array Bool → Act → Prop} (h : ∀ listed a, L listed a → L' listed a) : ∀ (f : Nat) (listed : Array Bool) (a : Act), wpAnyG P md ops W0 vals n L f listed a → wpAnyG P md ops W0 vals n L' f listed a
    | 0, _, _, hh => h _ _ hh
    | f + 1, _, _, hh => ⟨hh.1, fun i hi => ⟨(hh.2 i hi).1, gOp_mono (fun a' h' => wpAnyG_mono h f _ a' h') (hh.2 i hi).2⟩⟩
end
end Go.Proofs.YtfhjpldlhhgcnaaDoor
