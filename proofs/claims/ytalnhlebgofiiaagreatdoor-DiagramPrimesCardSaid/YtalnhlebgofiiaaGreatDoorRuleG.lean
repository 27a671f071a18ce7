import Derived.Test.YtalnhlebgofiiaaGreatDoorApp
import Derived.StillTail
import Derived.Deep.Quiet
namespace Go.Proofs.YtalnhlebgofiiaaGreatDoor.G
open Go.RowKit

/-! A REGION THAT DRAWS ITS ORDER, whose operations but the last ones only read or make new memory, and some of which ('sp') give back what can't be told ahead (a new place, a new row): what is known of such a value is R; whoever comes behind it may use it. The values of all others are said ahead. One walk of the text's order serves every order. -/
def growUpon (P : Program) (w : World) (v : Value) : Result Next → Prop
  | .ok (.value u) w' => w' = w ∧ u = v
  | .ok .skip w' => w' = w ∧ v = undef
  | .ok (.enter f args) w' => w' = w ∧ Calls P f args w (fun e w'' => e = .returned v ∧ Fr nob w w'')
  | _ => False
/-- the block in which a new value lies -/
def blk : Value → Option Nat
  | .pointer (some a) => some a.block
  | .slice (some a) _ _ => some a.block
  | _ => none
def Fresh (v : Value) (w : World) : Prop := ∀ g, blk v = some g → w.heap.size ≤ g
def newUpon (P : Program) (w : World) (S : Value → World → Prop) : Result Next → Prop
  | .ok (.value u) w' => S u w' ∧ Fr nob w w' ∧ Fresh u w ∧ (∀ g, blk u = some g → g < w'.heap.size)
  | .ok (.enter f args) w' => w' = w ∧ Calls P f args w (fun e w'' => ∃ v, e = .returned v ∧ S v w'' ∧ Fr nob w w'' ∧ Fresh v w ∧ (∀ g, blk v = some g → g < w''.heap.size))
  | _ => False

section
variable (P : Program) (ops : Array Oper) (md : Region.Mode) (W0 : World) (n : Nat) (sp : Nat → Bool) (R : Nat → Value → World → Prop) (vals : Nat → Value)

/-- what is known of the special values ahead of an operation -/
def Held (o : Oper) (a : Act) (w : World) : Prop :=
  ∀ k o' t v, k < n → sp k = true → (o.after.any fun e => Region.binds md e && e.on == k) = true → ops[k]? = some o' → o'.dst = some t → t ∈ o.looksAt ops → a.tmps[t]? = some v → R k v w

def Yv (o : Oper) (v : Value) (a : Act) : Prop :=
  (Region.wanted o (yielded ops a.tmps) = true ∧ ∀ w, Fr nob W0 w → Held ops md n sp R o a w → growUpon P w v ((execOp a.eval o).run P w)) ∨ (Region.wanted o (yielded ops a.tmps) = false ∧ v = undef)

def Sv (i : Nat) (o : Oper) (a : Act) : Prop :=
  Region.wanted o (yielded ops a.tmps) = true ∧ ∀ w, Fr nob W0 w → Held ops md n sp R o a w → newUpon P w (R i) ((execOp a.eval o).run P w)

def gOp (i : Nat) (K : Act → Prop) (a : Act) : Prop :=
  match ops[i]? with
  | none => K a
  | some o => if sp i = true then Sv P ops md W0 n sp R i o a ∧ ∀ v, (∃ w, Fr nob W0 w ∧ R i v w ∧ Fresh v W0) → K (a.put o.dst v)
    else Yv P ops md W0 n sp R o (vals i) a ∧ K (a.put o.dst (vals i))

def wpAnyG (L : Array Bool → Act → Prop) : Nat → Array Bool → Act → Prop
  | 0, listed, a => L listed a
  | f + 1, listed, a => Region.ready md ops listed ≠ [] ∧ ∀ i ∈ Region.ready md ops listed, i < n ∧ gOp P ops md W0 n sp R vals i (wpAnyG L f (listed.setIfInBounds i true)) a

/-- what is known of the special values that the region has made -/
def Made (listed : Array Bool) (a : Act) (w : World) : Prop :=
  ∀ i o t, i < n → sp i = true → ops[i]? = some o → o.dst = some t → listed.getD i false = true →
    ∃ v, a.tmps[t]? = some v ∧ R i v w ∧ Fresh v W0 ∧ (∀ g, blk v = some g → g < w.heap.size) ∧
      ∀ j o' t' v', j < n → j ≠ i → sp j = true → ops[j]? = some o' → listed.getD j false = true → o'.dst = some t' → a.tmps[t']? = some v' → ∀ g, blk v = some g → blk v' ≠ some g

/-- the walk of the text's order -/
def wpGrow (Q : Act → Prop) : List Oper → Nat → Act → Prop
  | [], _, a => Q a
  | o :: rest, k, a => if sp k = true then Sv P ops md W0 n sp R k o a ∧ ∀ v, (∃ w, Fr nob W0 w ∧ R k v w ∧ Fresh v W0) → wpGrow Q rest (k + 1) (a.put o.dst v)
    else Yv P ops md W0 n sp R o (vals k) a ∧ wpGrow Q rest (k + 1) (a.put o.dst (vals k))
end

section
variable {P : Program} {ops : Array Oper} {md : Region.Mode} {W0 : World} {n : Nat} {sp : Nat → Bool} {R : Nat → Value → World → Prop} {vals : Nat → Value}

theorem gOp_mono {i : Nat} {a : Act} {K K' : Act → Prop} (h : ∀ a, K a → K' a) (hh : gOp P ops md W0 n sp R vals i K a) : gOp P ops md W0 n sp R vals i K' a := by
  unfold gOp at *
  split
  · exact h _ (by simpa [*] using hh)
  · rename_i o ho
    simp only [ho] at hh
    split
    · rename_i hs; rw [if_pos hs] at hh; exact ⟨hh.1, fun v hv => h _ (hh.2 v hv)⟩
    · rename_i hs; rw [if_neg hs] at hh; exact ⟨hh.1, h _ hh.2⟩

theorem put_get_ne {a : Act} {d : Option Tmp} {v : Value} {t : Tmp} (h : d ≠ some t) : (a.put d v).tmps[t]? = a.tmps[t]? := by
  cases d with
  | none => rfl
  | some x =>
    have hx : x ≠ t := fun e => h (by rw [e])
    simp [Act.put, Array.getElem?_setIfInBounds_ne hx]
theorem put_size {a : Act} {d : Option Tmp} {v : Value} : (a.put d v).tmps.size = a.tmps.size := by
  cases d <;> simp [Act.put]

theorem held_put {o : Oper} {u : Value} {a : Act} {d : Option Tmp} {w : World} (h : ∀ x, d = some x → x ∉ o.looksAt ops) : Held ops md n sp R o (a.put d u) w ↔ Held ops md n sp R o a w := by
  have key : ∀ t, t ∈ o.looksAt ops → (a.put d u).tmps[t]? = a.tmps[t]? := fun t ht => put_get_ne fun e => h t e ht
  constructor <;> intro hh k o' t v h1 h2 h3 h4 h5 h6 h7
  · exact hh k o' t v h1 h2 h3 h4 h5 h6 (by rw [key t h6]; exact h7)
  · exact hh k o' t v h1 h2 h3 h4 h5 h6 (by rw [← key t h6]; exact h7)

theorem Yv.put {o : Oper} {v u : Value} {a : Act} {d : Option Tmp} (hs : ∀ cs b, o.op ≠ .select cs b) (h : ∀ x, d = some x → x ∉ o.looksAt ops) : Yv P ops md W0 n sp R o v (a.put d u) ↔ Yv P ops md W0 n sp R o v a := by
  unfold Yv
  rw [execOp_put o hs a d u h, wanted_put o a d u h]
  simp only [held_put h]
theorem Sv.put {i : Nat} {o : Oper} {u : Value} {a : Act} {d : Option Tmp} (hs : ∀ cs b, o.op ≠ .select cs b) (h : ∀ x, d = some x → x ∉ o.looksAt ops) : Sv P ops md W0 n sp R i o (a.put d u) ↔ Sv P ops md W0 n sp R i o a := by
  unfold Sv
  rw [execOp_put o hs a d u h, wanted_put o a d u h]
  simp only [held_put h]

/-- Two operations apart from each other may change places. -/
theorem gOp_swap {i j : Nat} {oi oj : Oper} (hi : ops[i]? = some oi) (hj : ops[j]? = some oj) (hap : oi.apart ops oj = true) (hsi : ∀ cs b, oi.op ≠ .select cs b) (hsj : ∀ cs b, oj.op ≠ .select cs b) (hex : ∀ k, sp k = true → ∃ v w, Fr nob W0 w ∧ R k v w ∧ Fresh v W0)
    {K : Act → Prop} {a : Act} (h : gOp P ops md W0 n sp R vals i (gOp P ops md W0 n sp R vals j K) a) : gOp P ops md W0 n sp R vals j (gOp P ops md W0 n sp R vals i K) a := by
  obtain ⟨h1, h2, h3⟩ := Oper.apart_spec hap
  unfold gOp at *
  simp only [hi, hj] at *
  by_cases si : sp i = true <;> by_cases sj : sp j = true
  · simp only [si, sj, if_true] at h ⊢
    obtain ⟨v0, w0, e1, e2, e3⟩ := hex i si
    refine ⟨(Sv.put hsj h1).1 (h.2 v0 ⟨w0, e1, e2, e3⟩).1, fun v hv => ⟨(Sv.put hsi h3).2 h.1, fun v' hv' => ?_⟩⟩
    rw [← Act.put_comm a v' v h2]
    exact (h.2 v' hv').2 v hv
  · simp only [si, sj, if_true, if_false, Bool.false_eq_true] at h ⊢
    obtain ⟨v0, w0, e1, e2, e3⟩ := hex i si
    refine ⟨(Yv.put hsj h1).1 (h.2 v0 ⟨w0, e1, e2, e3⟩).1, (Sv.put hsi h3).2 h.1, fun v hv => ?_⟩
    rw [← Act.put_comm a v (vals j) h2]
    exact (h.2 v hv).2
  · simp only [si, sj, if_true, if_false, Bool.false_eq_true] at h ⊢
    refine ⟨(Sv.put hsj h1).1 h.2.1, fun v hv => ⟨(Yv.put hsi h3).2 h.1, ?_⟩⟩
    rw [← Act.put_comm a (vals i) v h2]
    exact h.2.2 v hv
  · simp only [si, sj, if_false, Bool.false_eq_true] at h ⊢
    obtain ⟨k1, k2, k3⟩ := h
    refine ⟨(Yv.put hsj h1).1 k2, (Yv.put hsi h3).2 k1, ?_⟩
    rw [← Act.put_comm a (vals i) (vals j) h2]
    exact k3

theorem gOp_some {i : Nat} {oi : Oper} (hi : ops[i]? = some oi) (hex : ∀ k, sp k = true → ∃ v w, Fr nob W0 w ∧ R k v w ∧ Fresh v W0) {K : Act → Prop} {a : Act} (h : gOp P ops md W0 n sp R vals i K a) : ∃ a', K a' := by
  unfold gOp at h
  simp only [hi] at h
  by_cases si : sp i = true
  · simp only [si, if_true] at h
    obtain ⟨v0, w0, e⟩ := hex i si
    exact ⟨_, h.2 v0 ⟨w0, e⟩⟩
  · simp only [si, if_false, Bool.false_eq_true] at h; exact ⟨_, h.2⟩

theorem wpAnyG_first {i : Nat} {oi : Oper} {L : Array Bool → Act → Prop} (hi : ops[i]? = some oi) (hsel : ∀ (j : Nat) (o : Oper) cs b, ops[j]? = some o → o.op ≠ .select cs b) (hex : ∀ k, sp k = true → ∃ v w, Fr nob W0 w ∧ R k v w ∧ Fresh v W0)
    (hs : Region.sinkB md ops n = true) (hc : Region.chainB md ops n = true) (hn : n < ops.size) (hin : i < n)
    (hdone : ∀ listed a, L listed a → ∀ j ∈ Region.ready md ops listed, n ≤ j) :
    ∀ (f : Nat) (listed : Array Bool) (a : Act), HeadInv md ops n listed →
      (∀ j oj, ops[j]? = some oj → j ≠ i → listed.getD j true = false → (∀ e ∈ oj.after, Region.binds md e = true → e.on ≠ i) → oi.apart ops oj = true) →
      i ∈ Region.ready md ops listed →
      gOp P ops md W0 n sp R vals i (wpAnyG P ops md W0 n sp R vals L f (listed.setIfInBounds i true)) a → wpAnyG P ops md W0 n sp R vals L (f + 1) listed a := by
  intro f
  induction f with
  | zero =>
    intro listed a inv _ hr H
    have hun := (mem_ready.1 hr).1
    refine ⟨fun h => (by rw [h] at hr; cases hr), fun j hj => ?_⟩
    have hjn : j < n := by
      rcases Nat.lt_or_ge j n with h | h
      · exact h
      · exact absurd hj (tail_waits hs hc hn inv _ i rfl hin hun j h)
    refine ⟨hjn, ?_⟩
    by_cases hji : j = i
    · subst hji; exact H
    · obtain ⟨a', ha'⟩ := gOp_some hi hex H
      have := hdone _ _ ha' j (ready_mono hj hji)
      omega
  | succ f ih =>
    intro listed a inv hfree hr H
    have hun := (mem_ready.1 hr).1
    refine ⟨fun h => (by rw [h] at hr; cases hr), fun j hj => ?_⟩
    have hjn : j < n := by
      rcases Nat.lt_or_ge j n with h | h
      · exact h
      · exact absurd hj (tail_waits hs hc hn inv _ i rfl hin hun j h)
    refine ⟨hjn, ?_⟩
    by_cases hji : j = i
    · subst hji; exact H
    · obtain ⟨hjun, oj, hoj, hall⟩ := mem_ready.1 hj
      have hnot : ∀ e ∈ oj.after, Region.binds md e = true → e.on ≠ i := fun e he hb heq => by
        have h1 := hall e he hb
        rw [heq, getD_both hun] at h1
        cases h1
      have h1 : gOp P ops md W0 n sp R vals i (gOp P ops md W0 n sp R vals j (wpAnyG P ops md W0 n sp R vals L f ((listed.setIfInBounds i true).setIfInBounds j true))) a :=
        gOp_mono (fun a' h => (h.2 j (ready_mono hj hji)).2) H
      have h2 := gOp_swap hi hoj (hfree j oj hoj hji hjun hnot) (fun cs b => hsel i oi cs b hi) (fun cs b => hsel j oj cs b hoj) hex h1
      have hfree' : ∀ k ok, ops[k]? = some ok → k ≠ i → (listed.setIfInBounds j true).getD k true = false →
          (∀ e ∈ ok.after, Region.binds md e = true → e.on ≠ i) → oi.apart ops ok = true := fun k ok hk hki hun hno => by
        refine hfree k ok hk hki ?_ hno
        by_cases hjk : j = k
        · subst hjk; exact hjun
        · rw [getD_set_ne true hjk] at hun; exact hun
      refine gOp_mono (fun a' h3 => ih (listed.setIfInBounds j true) a' (inv.set hj hjn) hfree' (ready_mono hr (Ne.symm hji)) ?_) h2
      rw [Array.setIfInBounds_comm _ _ hji]
      exact h3

theorem wpAnyG_mono {L L' : Array Bool → Act → Prop} (h : ∀ listed a, L listed a → L' listed a) : ∀ (f : Nat) (listed : Array Bool) (a : Act), wpAnyG P ops md W0 n sp R vals L f listed a → wpAnyG P ops md W0 n sp R vals L' f listed a
  | 0, _, _, hh => h _ _ hh
  | f + 1, _, _, hh => ⟨hh.1, fun i hi => ⟨(hh.2 i hi).1, gOp_mono (fun a' h' => wpAnyG_mono h f _ a' h') (hh.2 i hi).2⟩⟩

theorem wpAnyG_lex {g : Nat} {Lq : Act → Prop} (hsel : Region.noSelect ops = true) (hex : ∀ k, sp k = true → ∃ v w, Fr nob W0 w ∧ R k v w ∧ Fresh v W0) (hs : Region.sinkB md ops n = true) (hc : Region.chainB md ops n = true) (hn : n < ops.size) :
    ∀ (l : List Oper) (k : Nat) (listed : Array Bool) (a : Act), (∀ j, j < l.length → l[j]? = ops[k + j]?) → k + l.length = n → HeadInv md ops n listed →
    Region.lexHead md ops g l.length k listed = true → wpGrow P ops md W0 n sp R vals Lq l k a →
    wpAnyG P ops md W0 n sp R vals (fun listed' a' => (Region.seqB md ops g n listed' = true ∧ ∀ i, i < n → listed.getD i false = true ∨ k ≤ i → listed'.getD i false = true) ∧ Lq a') l.length listed a
  | [], k, listed, a, _, hk, inv, hB, h => by
    have : k = n := by simpa using hk
    subst this
    exact ⟨⟨by simpa [Region.lexHead] using hB, fun i hi h => h.resolve_right (by omega)⟩, h⟩
  | o :: l, k, listed, a, hl, hk, inv, hB, h => by
    have h0 : ops[k]? = some o := by simpa using (hl 0 (by simp)).symm
    simp only [List.length_cons, Region.lexHead, Bool.and_eq_true] at hB
    obtain ⟨⟨hr, hf⟩, hB'⟩ := hB
    have hkn : k < n := by simp only [List.length_cons] at hk; omega
    have hr' : k ∈ Region.ready md ops listed := by simpa using hr
    have hst : gOp P ops md W0 n sp R vals k (wpGrow P ops md W0 n sp R vals Lq l (k + 1)) a := by unfold gOp; simp only [h0]; exact h
    have hks : k < listed.size := by rw [inv.size]; omega
    refine wpAnyG_first h0 (Region.noSelect_spec hsel) hex hs hc hn hkn (fun listed' a' hL => seqB_ready hL.1.1) l.length listed a inv (Region.free_spec h0 hf) hr' (gOp_mono (fun a' h' => ?_) hst)
    have := wpAnyG_lex (g := g) hsel hex hs hc hn l (k + 1) (listed.setIfInBounds k true) a' (fun j hj => by have := hl (j + 1) (by simp; omega); simpa [Nat.add_assoc, Nat.add_comm 1 j] using this) (by simp only [List.length_cons] at hk; omega) (inv.set hr' hkn) hB' h'
    refine wpAnyG_mono ?_ l.length _ _ this
    rintro listed' a'' ⟨⟨e1, e2⟩, e3⟩
    refine ⟨⟨e1, fun i hi hh => e2 i hi ?_⟩, e3⟩
    by_cases hik : i = k
    · subst hik; exact .inl (by simp [hks])
    · rcases hh with hh | hh
      · exact .inl (getD_set_true hh)
      · exact .inr (by omega)

/-- the special values' slots are written by nothing else -/
def ownSlots (ops : Array Oper) (n : Nat) (sp : Nat → Bool) : Prop :=
  ∀ i o t j o', i < n → sp i = true → ops[i]? = some o → o.dst = some t → ops[j]? = some o' → j < n → j ≠ i → o'.dst ≠ some t

theorem Made.next {i : Nat} {oi : Oper} {listed : Array Bool} {a : Act} {w w' : World} {v : Value} (hR : ∀ k v w w', R k v w → Fr nob w w' → R k v w') (hJ : Made ops W0 n sp R listed a w) (hi : ops[i]? = some oi) (hin : i < n) (hT : sp i ≠ true) (hown : ownSlots ops n sp) (fr : Fr nob w w') :
    Made ops W0 n sp R (listed.setIfInBounds i true) (a.put oi.dst v) w' := by
  intro k o t hk hs ho ht hl
  have hki : k ≠ i := by rintro rfl; exact hT hs
  rw [getD_set_ne false (Ne.symm hki)] at hl
  obtain ⟨u, h1, h2, h3, h5, h4⟩ := hJ k o t hk hs ho ht hl
  have hne := hown k o t i oi hk hs ho ht hi hin (Ne.symm hki)
  refine ⟨u, (put_get_ne hne).trans h1, hR _ _ _ _ h2 fr, h3, fun g hg => Nat.lt_of_lt_of_le (h5 g hg) fr.size, ?_⟩
  intro j o' t' v' hj hjk hs' ho' hl' ht' hv'
  have hji : j ≠ i := by rintro rfl; exact hT hs'
  rw [getD_set_ne false (Ne.symm hji)] at hl'
  have hne' := hown j o' t' i oi hj hs' ho' ht' hi hin (Ne.symm hji)
  rw [put_get_ne hne'] at hv'
  exact h4 j o' t' v' hj hjk hs' ho' hl' ht' hv'

theorem Made.new {i : Nat} {oi : Oper} {ti : Tmp} {listed : Array Bool} {a : Act} {w w' : World} {v : Value} (hR : ∀ k v w w', R k v w → Fr nob w w' → R k v w') (hJ : Made ops W0 n sp R listed a w) (hi : ops[i]? = some oi) (hin : i < n) (hd : oi.dst = some ti) (hsz : ti < a.tmps.size)
    (hown : ownSlots ops n sp) (hsp : sp i = true) (frW : Fr nob W0 w) (fr : Fr nob w w') (hv : R i v w') (hf : Fresh v w) (hlt : ∀ g, blk v = some g → g < w'.heap.size) : Made ops W0 n sp R (listed.setIfInBounds i true) (a.put oi.dst v) w' := by
  have hnew : (a.put oi.dst v).tmps[ti]? = some v := by
    rw [hd]; simp [Act.put, hsz]
  intro k o t hk hs ho ht hl
  by_cases hki : k = i
  · subst hki
    have e : o = oi := Option.some.inj (ho.symm.trans hi)
    rw [e] at ht
    rw [hd] at ht; cases ht
    refine ⟨v, hnew, hv, fun g hg => Nat.le_trans frW.size (hf g hg), hlt, ?_⟩
    intro j o' t' v' hj hjk hs' ho' hl' ht' hv' g hg hg'
    rw [getD_set_ne false (Ne.symm hjk)] at hl'
    obtain ⟨u, h1, _, _, h5, _⟩ := hJ j o' t' hj hs' ho' ht' hl'
    have hne' := hown j o' t' k oi hj hs' ho' ht' hi hin (Ne.symm hjk)
    rw [put_get_ne hne', h1] at hv'
    cases hv'
    have e1 := h5 g hg'
    have e2 := hf g hg
    omega
  · rw [getD_set_ne false (Ne.symm hki)] at hl
    obtain ⟨u, h1, h2, h3, h5, h4⟩ := hJ k o t hk hs ho ht hl
    have hne := hown k o t i oi hk hs ho ht hi hin (Ne.symm hki)
    refine ⟨u, (put_get_ne hne).trans h1, hR _ _ _ _ h2 fr, h3, fun g hg => Nat.lt_of_lt_of_le (h5 g hg) fr.size, ?_⟩
    intro j o' t' v' hj hjk hs' ho' hl' ht' hv' g hg hg'
    by_cases hji : j = i
    · subst hji
      have e : o' = oi := Option.some.inj (ho'.symm.trans hi)
      rw [e, hd] at ht'; cases ht'
      rw [hnew] at hv'
      cases hv'
      have e1 := h5 g hg
      have e2 := hf g hg'
      omega
    · rw [getD_set_ne false (Ne.symm hji)] at hl'
      have hne' := hown j o' t' i oi hj hs' ho' ht' hi hin (Ne.symm hji)
      rw [put_get_ne hne'] at hv'
      exact h4 j o' t' v' hj hjk hs' ho' hl' ht' hv' g hg hg'

theorem wpAny_of_G {g : Nat} {L : Array Bool → Act → Prop} {Q' : Exit → Act → World → Prop} (hR : ∀ k v w w', R k v w → Fr nob w w' → R k v w')
    (hown : ownSlots ops n sp) (sz : Nat) (hslots : ∀ i o, i < n → sp i = true → ops[i]? = some o → ∃ t, o.dst = some t ∧ t < sz)
    (hL : ∀ listed a w, Fr nob W0 w → Made ops W0 n sp R listed a w → L listed a → wpAny P md ops Q' g listed a w) :
    ∀ (f : Nat) (listed : Array Bool) (a : Act) (w : World), Fr nob W0 w → Made ops W0 n sp R listed a w → a.tmps.size = sz → wpAnyG P ops md W0 n sp R vals L f listed a → wpAny P md ops Q' (f + g) listed a w
  | 0, listed, a, w, fr, hJ, _, h => by rw [Nat.zero_add]; exact hL _ _ _ fr hJ h
  | f + 1, listed, a, w, fr, hJ, hsz, h => by
    rw [show f + 1 + g = (f + g) + 1 by omega]
    refine ⟨fun h0 => absurd h0 h.1, fun i hi => ?_⟩
    obtain ⟨hin, hg⟩ := h.2 i hi
    obtain ⟨_, o, ho, haft⟩ := mem_ready.1 hi
    have held : Held ops md n sp R o a w := by
      intro k o' t v hk hs hb ho' ht _ hv
      obtain ⟨e, he, h2⟩ := Array.any_eq_true'.1 hb
      simp only [Bool.and_eq_true, beq_iff_eq] at h2
      have h1 := haft e he h2.1
      rw [h2.2] at h1
      obtain ⟨u, k1, k2, _⟩ := hJ k o' t hk hs ho' ht h1
      rw [k1] at hv; cases hv
      exact k2
    unfold gOp at hg
    unfold wpOp
    simp only [ho] at hg ⊢
    by_cases hT : sp i = true
    · rw [if_pos hT] at hg
      obtain ⟨⟨hw, hv⟩, hK⟩ := hg
      obtain ⟨t, ht, htsz⟩ := hslots i o hin hT ho
      rw [if_pos hw]
      left
      have h3 := hv w fr held
      unfold Oper.wp
      generalize (execOp a.eval o).run P w = r at *
      cases r with
      | ok nx w' =>
        cases nx <;> simp only [newUpon] at h3 <;> simp only [Oper.upon]
        case value u =>
          obtain ⟨e1, e2, e3, e4⟩ := h3
          have fr' := fr.trans e2 (fun _ _ h => h)
          exact wpAny_of_G hR hown sz hslots hL f _ _ _ fr' (hJ.new hR ho hin ht (by rw [hsz]; exact htsz) hown hT fr e2 e1 e3 e4) (by rw [put_size]; exact hsz) (hK u ⟨w', fr', e1, fun g hg => Nat.le_trans fr.size (e3 g hg)⟩)
        case enter fi args =>
          obtain ⟨e0, hc⟩ := h3
          rw [e0]
          exact hc.mono fun e w'' ⟨u, he, e1, e2, e3, e4⟩ => by
            subst he
            have fr' := fr.trans e2 (fun _ _ h => h)
            exact wpAny_of_G hR hown sz hslots hL f _ _ _ fr' (hJ.new hR ho hin ht (by rw [hsz]; exact htsz) hown hT fr e2 e1 e3 e4) (by rw [put_size]; exact hsz) (hK u ⟨w'', fr', e1, fun g hg => Nat.le_trans fr.size (e3 g hg)⟩)
      | halt x w' => simp only [newUpon] at h3
    · rw [if_neg hT] at hg
      obtain ⟨hy, hK⟩ := hg
      rcases hy with ⟨hw, hv⟩ | ⟨hw, hv⟩
      · rw [if_pos hw]
        left
        have h3 := hv w fr held
        unfold Oper.wp
        generalize (execOp a.eval o).run P w = r at *
        cases r with
        | ok nx w' =>
          cases nx <;> simp only [growUpon] at h3 <;> simp only [Oper.upon]
          case value u =>
            obtain ⟨e1, e2⟩ := h3
            rw [e1, e2]
            exact wpAny_of_G hR hown sz hslots hL f _ _ _ fr (hJ.next hR ho hin hT hown (Fr.refl _ _)) (by rw [put_size]; exact hsz) hK
          case skip =>
            obtain ⟨e1, e2⟩ := h3
            rw [e1, ← e2]
            exact wpAny_of_G hR hown sz hslots hL f _ _ _ fr (hJ.next hR ho hin hT hown (Fr.refl _ _)) (by rw [put_size]; exact hsz) hK
          case enter fi args =>
            obtain ⟨e1, hc⟩ := h3
            rw [e1]
            exact hc.mono fun e w'' ⟨he, hw''⟩ => by
              subst he
              exact wpAny_of_G hR hown sz hslots hL f _ _ _ (fr.trans hw'' (fun _ _ h => h)) (hJ.next hR ho hin hT hown hw'') (by rw [put_size]; exact hsz) hK
        | halt x w' => simp only [growUpon] at h3
      · rw [if_neg (by rw [hw]; exact Bool.false_ne_true), ← hv]
        exact wpAny_of_G hR hown sz hslots hL f _ _ _ fr (hJ.next hR ho hin hT hown (Fr.refl _ _)) (by rw [put_size]; exact hsz) hK

/-! the conditions, by computation -/
def ownSlotsB (ops : Array Oper) (n : Nat) (sp : Nat → Bool) : Bool :=
  (List.range n).all fun i => !sp i || match ops[i]? with
    | some o => (List.range n).all fun j => j == i || (match ops[j]? with | some o' => o'.dst != o.dst | none => true)
    | none => true
theorem ownSlots_of (h : ownSlotsB ops n sp = true) : ownSlots ops n sp := by
  intro i o t j o' hi hs ho ht ho' hj hji e
  have h1 := List.all_eq_true.1 h i (List.mem_range.2 hi)
  simp only [ho, hs, Bool.not_true, Bool.false_or] at h1
  have h2 := List.all_eq_true.1 h1 j (List.mem_range.2 hj)
  simp only [ho', Bool.or_eq_true, beq_iff_eq] at h2
  rcases h2 with h2 | h2
  · exact hji h2
  · rw [e, ht] at h2; simp at h2
def slotsB (ops : Array Oper) (n sz : Nat) (sp : Nat → Bool) : Bool :=
  (List.range n).all fun i => !sp i || match ops[i]? with
    | some o => (match o.dst with | some t => decide (t < sz) | none => false)
    | none => true
theorem slots_of {sz : Nat} (h : slotsB ops n sz sp = true) : ∀ i o, i < n → sp i = true → ops[i]? = some o → ∃ t, o.dst = some t ∧ t < sz := by
  intro i o hi hs ho
  have h1 := List.all_eq_true.1 h i (List.mem_range.2 hi)
  simp only [ho, hs, Bool.not_true, Bool.false_or] at h1
  cases hd : o.dst with
  | none => rw [hd] at h1; cases h1
  | some t => rw [hd] at h1; exact ⟨t, rfl, of_decide_eq_true h1⟩

def growB (l : List Oper) (n sz : Nat) (sp : Nat → Bool) : Bool :=
  Region.lexTailB .any l.toArray n && ownSlotsB l.toArray n sp && slotsB l.toArray n sz sp

/-- **THE RULE.** -/
theorem wp_region {id : Nat} {Q : Exit → Act → World → Prop} {a : Act} {w : World} {l : List Oper} (n sz : Nat) (sp : Nat → Bool) (R : Nat → Value → World → Prop) (vals : Nat → Value) (hm : P.follows .mixedOrders = true) (hB : growB l n sz sp = true) (hsz : a.tmps.size = sz)
    (hR : ∀ k v w w', R k v w → Fr nob w w' → R k v w') (hex : ∀ k, sp k = true → ∃ v w', Fr nob w w' ∧ R k v w' ∧ Fresh v w)
    (h : wpGrow P l.toArray .any w n sp R vals (fun a' => ∀ w' listed, Fr nob w w' → (∀ i, i < n → listed.getD i false = true) → Made l.toArray w n sp R listed a' w' → wpList P l.toArray Q (l.drop n) a' w') (l.take n) 0 a) :
    (Code.region id l.toArray true).wp P Q a w := by
  simp only [growB, Bool.and_eq_true] at hB
  obtain ⟨⟨hlt, hown⟩, hsl⟩ := hB
  simp only [Region.lexTailB, Bool.and_eq_true, decide_eq_true_eq] at hlt
  obtain ⟨⟨⟨⟨hsel, hn⟩, hs⟩, hc⟩, hlex⟩ := hlt
  have hn' : n < l.length := by simpa using hn
  have htl : (l.take n).length = n := by simp; omega
  have hdl : (l.drop n).length = l.toArray.size - n := by simp
  have inv0 : HeadInv .any l.toArray n (Array.replicate l.toArray.size false) :=
    ⟨by simp, fun j oj _ hl => (by rw [getD_replicate_false] at hl; cases hl), fun t _ ht => getD_in (by simpa using ht) (getD_replicate_false _ _)⟩
  have H := wpAnyG_lex (md := .any) (g := l.toArray.size - n) hsel hex hs hc hn (l.take n) 0 _ a (fun j hj => by
    have hj' : j < n := by rw [htl] at hj; exact hj
    simp [hj']) (by simpa using htl) inv0 (by rw [htl]; exact hlex) h
  refine wp_region_any hm ?_
  have fr0 : Fr nob w { w with drawn := w.drawn + 1 } := ⟨rfl, rfl, rfl, Nat.le_refl _, fun _ _ _ => rfl⟩
  have := wpAny_of_G (Q' := Q) (g := l.toArray.size - n) hR (ownSlots_of hown) sz (slots_of hsl) (fun listed a' w' fr hJ hL => by
    have := wpAny_of_seq (md := .any) (Q' := Q) (l.drop n) n listed a' w' (fun j => by simp [List.getElem?_drop]) (by rw [hdl]; exact hL.1.1) (hL.2 w' listed fr (fun i hi => hL.1.2 i hi (.inr (Nat.zero_le _))) hJ)
    rwa [hdl] at this) _ _ _ _ fr0 (by intro i o t _ _ _ _ hl; rw [getD_replicate_false] at hl; cases hl) hsz H
  rw [htl, show n + (l.toArray.size - n) = l.toArray.size by omega] at this
  exact this

/-- the checks, step by step -/
theorem growB_of {l : List Oper} {n sz : Nat} {sp : Nat → Bool} (h1 : Region.noSelect l.toArray = true) (h2 : decide (n < l.toArray.size) = true) (h3 : Region.sinkB .any l.toArray n = true) (h4 : Region.chainB .any l.toArray n = true)
    (h5 : Region.lexHead .any l.toArray (l.toArray.size - n) n 0 (Array.replicate l.toArray.size false) = true) (h6 : ownSlotsB l.toArray n sp = true) (h7 : slotsB l.toArray n sz sp = true) : growB l n sz sp = true := by
  unfold growB Region.lexTailB
  rw [h1, h2, h3, h4, h5, h6, h7]; rfl
theorem lexHead_start {md : Region.Mode} {ops : Array Oper} {g f k : Nat} {listed l' : Array Bool} (hl : listed = l') (h : Region.lexHead md ops g f k l' = true) : Region.lexHead md ops g f k listed = true := by rw [hl]; exact h
theorem lexHead_cons {md : Region.Mode} {ops : Array Oper} {g f k : Nat} {listed l' : Array Bool} (h : ((Region.ready md ops listed).contains k && Region.free md ops listed k) = true) (hl : listed.setIfInBounds k true = l') (h' : Region.lexHead md ops g f (k + 1) l' = true) : Region.lexHead md ops g (f + 1) k listed = true := by
  rw [Region.lexHead, h, hl, h']; rfl

section
variable {Q : Act → Prop} {o : Oper} {rest : List Oper} {k : Nat} {a : Act}
/-- an operation whose value is known -/
theorem step (v : Value) (hs : sp k = false) (he : vals k = v) (hw : Region.wanted o (yielded ops a.tmps) = true) (hv : ∀ w, Fr nob W0 w → Held ops md n sp R o a w → growUpon P w v ((execOp a.eval o).run P w))
    (hK : wpGrow P ops md W0 n sp R vals Q rest (k + 1) (a.put o.dst v)) : wpGrow P ops md W0 n sp R vals Q (o :: rest) k a := by
  unfold wpGrow
  rw [if_neg (by rw [hs]; exact Bool.false_ne_true), he]
  exact ⟨.inl ⟨hw, hv⟩, hK⟩
theorem skip (hs : sp k = false) (he : vals k = undef) (hw : Region.wanted o (yielded ops a.tmps) = false)
    (hK : wpGrow P ops md W0 n sp R vals Q rest (k + 1) (a.put o.dst undef)) : wpGrow P ops md W0 n sp R vals Q (o :: rest) k a := by
  unfold wpGrow
  rw [if_neg (by rw [hs]; exact Bool.false_ne_true), he]
  exact ⟨.inr ⟨hw, rfl⟩, hK⟩
/-- an operation that gives back what can't be told ahead -/
theorem new (hs : sp k = true) (hw : Region.wanted o (yielded ops a.tmps) = true) (hv : ∀ w, Fr nob W0 w → Held ops md n sp R o a w → newUpon P w (R k) ((execOp a.eval o).run P w))
    (hK : ∀ v, (∃ w, Fr nob W0 w ∧ R k v w ∧ Fresh v W0) → wpGrow P ops md W0 n sp R vals Q rest (k + 1) (a.put o.dst v)) : wpGrow P ops md W0 n sp R vals Q (o :: rest) k a := by
  unfold wpGrow
  rw [if_pos hs]
  exact ⟨⟨hw, hv⟩, hK⟩
theorem alone {l : List Oper} {E : Exit → Act → World → Prop} (h : ∀ OPS TAIL, OPS = l.toArray → TAIL = l.drop n → wpGrow P OPS md W0 n sp R vals (fun a' => ∀ w' listed, Fr nob W0 w' → (∀ i, i < n → listed.getD i false = true) → Made OPS W0 n sp R listed a' w' → wpList P OPS E TAIL a' w') rest k a) :
    wpGrow P l.toArray md W0 n sp R vals (fun a' => ∀ w' listed, Fr nob W0 w' → (∀ i, i < n → listed.getD i false = true) → Made l.toArray W0 n sp R listed a' w' → wpList P l.toArray E (l.drop n) a' w') rest k a := h _ _ rfl rfl
theorem nil (h : Q a) : wpGrow P ops md W0 n sp R vals Q [] k a := h
theorem upon_value {x : Sem Next} {w : World} {v : Value} (h : x.run P w = .ok (.value v) w) : growUpon P w v (x.run P w) := by rw [h]; exact ⟨rfl, rfl⟩
theorem upon_call {x : Sem Next} {w : World} {v : Value} {f : FuncId} {args : Array Value} (h : x.run P w = .ok (.enter f args) w) (hc : Calls P f args w fun e w' => e = .returned v ∧ Fr nob w w') : growUpon P w v (x.run P w) := by rw [h]; exact ⟨rfl, hc⟩
theorem new_alloc {x : Sem Next} {w : World} {S : Value → World → Prop} {v : Value} {b : Obj} (h : x.run P w = .ok (.value v) (w.alloc b)) (hv : blk v = some w.heap.size) (hS : S v (w.alloc b)) : newUpon P w S (x.run P w) := by
  rw [h]
  refine ⟨hS, (Fr.refl nob w).alloc _, fun g hg => ?_, fun g hg => ?_⟩
  · rw [hv] at hg; cases hg; exact Nat.le_refl _
  · rw [hv] at hg; cases hg; simp
theorem new_call {x : Sem Next} {w : World} {S : Value → World → Prop} {f : FuncId} {args : Array Value} (h : x.run P w = .ok (.enter f args) w)
    (hc : Calls P f args w fun e w' => ∃ v, e = .returned v ∧ S v w' ∧ Fr nob w w' ∧ Fresh v w ∧ (∀ g, blk v = some g → g < w'.heap.size)) : newUpon P w S (x.run P w) := by rw [h]; exact ⟨rfl, hc⟩
end
end

/-! THE CHECK OVER TABLES: of each operation where it writes, where it looks, what it waits for; in plain numbers, so that the kernel reckons some ten thousand pairs in seconds. -/
section
abbrev Row := Nat × List Nat × List Nat
def rowOf (ops : Array Oper) (o : Oper) : Row := ((match o.dst with | some d => d + 1 | none => 0), (o.looksAt ops).map (· + 1), (o.after.toList.filter (Region.binds .any)).map (·.on))
def rowsOf (l : List Oper) : List Row := l.map (rowOf l.toArray)
def memN (n : Nat) : List Nat → Bool
  | [] => false
  | x :: xs => Nat.beq n x || memN n xs
theorem memN_iff {n : Nat} : ∀ {l : List Nat}, memN n l = true ↔ n ∈ l
  | [] => by simp [memN]
  | x :: xs => by
    unfold memN
    rw [Bool.or_eq_true, memN_iff (l := xs), List.mem_cons]
    constructor
    · rintro (h | h)
      · exact .inl (Nat.eq_of_beq_eq_true h)
      · exact .inr h
    · rintro (h | h)
      · subst h; exact .inl (Nat.beq_refl n)
      · exact .inr h
theorem memN_not {n : Nat} {l : List Nat} (h : (!memN n l) = true) : n ∉ l := fun hm => by rw [memN_iff.2 hm] at h; cases h
theorem beq_not {a b : Nat} (h : (!Nat.beq a b) = true) : a ≠ b := fun e => by subst e; rw [Nat.beq_refl] at h; cases h
def apartR (x y : Row) : Bool := (Nat.beq x.1 0 || (!memN x.1 y.2.1 && !Nat.beq x.1 y.1)) && (Nat.beq y.1 0 || !memN y.1 x.2.1)
theorem mem_shift {d : Nat} {l : List Nat} : d + 1 ∈ l.map (· + 1) ↔ d ∈ l := by simp
theorem apartR_spec {ops : Array Oper} {x y : Oper} (h : apartR (rowOf ops x) (rowOf ops y) = true) : x.apart ops y = true := by
  unfold apartR at h
  rw [Bool.and_eq_true] at h
  obtain ⟨h1, h2⟩ := h
  unfold Oper.apart
  rw [Bool.and_eq_true]
  constructor
  · cases hd : x.dst with
    | none => rfl
    | some d =>
      simp only [rowOf, hd] at h1
      rw [show Nat.beq (d + 1) 0 = false from rfl, Bool.false_or, Bool.and_eq_true] at h1
      have a := memN_not h1.1
      have b := beq_not h1.2
      rw [mem_shift] at a
      simp only [Bool.and_eq_true, Bool.not_eq_true', bne_iff_ne, ne_eq]
      refine ⟨by rw [← Bool.not_eq_true, List.contains_iff_mem]; exact a, fun e => b ?_⟩
      rw [e]
  · cases hd : y.dst with
    | none => rfl
    | some d =>
      simp only [rowOf, hd] at h2
      rw [show Nat.beq (d + 1) 0 = false from rfl, Bool.false_or] at h2
      have a := memN_not h2
      rw [mem_shift] at a
      simp only [Bool.not_eq_true']
      rw [← Bool.not_eq_true, List.contains_iff_mem]; exact a
def chkR : Nat → Nat → List Row → Bool
  | 0, _, _ => true
  | _ + 1, _, [] => true
  | f + 1, k, r :: rs => rs.all (fun q => memN k q.2.2 || apartR r q) && chkR f (k + 1) rs
theorem chkR_spec : ∀ (f k : Nat) (rs : List Row), chkR f k rs = true → ∀ i j ri rj, i < f → i < j → rs[i]? = some ri → rs[j]? = some rj → memN (k + i) rj.2.2 = true ∨ apartR ri rj = true
  | 0, _, _, _, _, _, _, _, hi, _, _, _ => absurd hi (Nat.not_lt_zero _)
  | _ + 1, _, [], _, i, _, _, _, _, _, hri, _ => by simp at hri
  | f + 1, k, r :: rs, h, i, j, ri, rj, hi, hij, hri, hrj => by
    unfold chkR at h
    rw [Bool.and_eq_true] at h
    obtain ⟨j', rfl⟩ : ∃ j', j = j' + 1 := ⟨j - 1, by omega⟩
    rw [List.getElem?_cons_succ] at hrj
    cases i with
    | zero =>
      rw [List.getElem?_cons_zero] at hri
      cases hri
      have := List.all_eq_true.1 h.1 rj (List.mem_of_getElem? hrj)
      rw [Bool.or_eq_true] at this
      exact this
    | succ i =>
      rw [List.getElem?_cons_succ] at hri
      have := chkR_spec f (k + 1) rs h.2 i j' ri rj (by omega) (by omega) hri hrj
      rwa [show k + 1 + i = k + (i + 1) by omega] at this
def lowR : Nat → List Row → Bool
  | _, [] => true
  | k, r :: rs => r.2.2.all (fun e => Nat.blt e k) && lowR (k + 1) rs
theorem lowR_spec : ∀ (k : Nat) (rs : List Row), lowR k rs = true → ∀ i ri, rs[i]? = some ri → ∀ e ∈ ri.2.2, e < k + i
  | _, [], _, i, _, hri => by simp at hri
  | k, r :: rs, h, i, ri, hri => by
    unfold lowR at h
    rw [Bool.and_eq_true] at h
    intro e he
    cases i with
    | zero =>
      rw [List.getElem?_cons_zero] at hri
      cases hri
      have := List.all_eq_true.1 h.1 e he
      exact Nat.le_of_ble_eq_true this
    | succ i =>
      rw [List.getElem?_cons_succ] at hri
      have := lowR_spec (k + 1) rs h.2 i ri hri e he
      omega
def coverR (n : Nat) (R : List Row) : Bool := match R.drop n with
  | [] => false
  | r :: _ => (List.range n).all fun i => memN i r.2.2

variable {l : List Oper} {n : Nat}
theorem row_at {i : Nat} {o : Oper} (h : l.toArray[i]? = some o) : (rowsOf l)[i]? = some (rowOf l.toArray o) := by
  have h' : l[i]? = some o := by simpa using h
  rw [rowsOf, List.getElem?_map, h']; rfl
theorem after_in {ops : Array Oper} {o : Oper} {e : Edge} (he : e ∈ o.after) (hb : Region.binds .any e = true) : e.on ∈ (rowOf ops o).2.2 :=
  List.mem_map.2 ⟨e, List.mem_filter.2 ⟨by simpa using he, hb⟩, rfl⟩
theorem in_after {ops : Array Oper} {o : Oper} {k : Nat} (h : k ∈ (rowOf ops o).2.2) : o.after.any (fun e => Region.binds .any e && e.on == k) = true := by
  obtain ⟨e, he, rfl⟩ := List.mem_map.1 h
  obtain ⟨h1, h2⟩ := List.mem_filter.1 he
  rw [Array.any_eq_true']
  exact ⟨e, by simpa using h1, by rw [h2]; simp⟩

/-- the first k operations have come up, no other -/
def Up (ops : Array Oper) (k : Nat) (listed : Array Bool) : Prop := listed.size = ops.size ∧ ∀ i, i < ops.size → listed.getD i true = decide (i < k) ∧ listed.getD i false = decide (i < k)
theorem up_start (ops : Array Oper) : Up ops 0 (Array.replicate ops.size false) :=
  ⟨by simp, fun i hi => ⟨getD_in (by simpa using hi) (getD_replicate_false _ _), getD_replicate_false _ _⟩⟩
theorem up_next {ops : Array Oper} {k : Nat} {listed : Array Bool} (h : Up ops k listed) (hk : k < ops.size) : Up ops (k + 1) (listed.setIfInBounds k true) := by
  refine ⟨by simp [h.1], fun i hi => ?_⟩
  by_cases e : i = k
  · subst e
    have : i < listed.size := by rw [h.1]; exact hk
    rw [decide_eq_true (Nat.lt_succ_self i)]
    exact ⟨by simp [this], by simp [this]⟩
  · rw [getD_set_ne true (Ne.symm e), getD_set_ne false (Ne.symm e), (h.2 i hi).1, (h.2 i hi).2]
    have : decide (i < k) = decide (i < k + 1) := decide_eq_decide.2 (by omega)
    exact ⟨this, this⟩
theorem up_ready {k : Nat} {listed : Array Bool} (h : Up l.toArray k listed) (hk : k < l.toArray.size) (hlow : lowR 0 (rowsOf l) = true) : k ∈ Region.ready .any l.toArray listed := by
  have ho : l.toArray[k]? = some l.toArray[k] := Array.getElem?_eq_getElem hk
  refine mem_ready.2 ⟨by rw [(h.2 k hk).1]; simp, _, ho, fun e he hb => ?_⟩
  have := lowR_spec 0 _ hlow k _ (row_at ho) e.on (after_in he hb)
  rw [(h.2 e.on (by omega)).2]
  simp; omega
theorem up_free {k : Nat} {listed : Array Bool} (h : Up l.toArray k listed) (hk : k < l.toArray.size) (hkn : k < n) (hchk : chkR n 0 (rowsOf l) = true) : Region.free .any l.toArray listed k = true := by
  have ho : l.toArray[k]? = some l.toArray[k] := Array.getElem?_eq_getElem hk
  simp only [Region.free, ho, List.all_eq_true, List.mem_range]
  intro j hj
  have hoj : l.toArray[j]? = some l.toArray[j] := Array.getElem?_eq_getElem hj
  simp only [hoj, (h.2 j hj).1, Bool.or_eq_true, beq_iff_eq, decide_eq_true_eq]
  by_cases e1 : j = k
  · exact .inl (.inl e1)
  by_cases e2 : j < k
  · exact .inl (.inr e2)
  rcases chkR_spec n 0 _ hchk k j _ _ hkn (by omega) (row_at ho) (row_at hoj) with h1 | h1
  · rw [Nat.zero_add] at h1
    exact .inr (.inl (in_after (memN_iff.1 h1)))
  · exact .inr (.inr (apartR_spec h1))
theorem up_seq {k : Nat} {listed : Array Bool} (h : Up l.toArray k listed) (hk : k < l.toArray.size) (hnk : n ≤ k) (hlow : lowR 0 (rowsOf l) = true) (hc : Region.chainB .any l.toArray n = true) : Region.ready .any l.toArray listed = [k] := by
  rw [← List.perm_singleton]
  refine (List.perm_ext_iff_of_nodup ?_ (by simp)).2 fun i => ?_
  · exact List.nodup_range.filter _
  · rw [List.mem_singleton]
    constructor
    · intro hi
      obtain ⟨h1, o, ho, hall⟩ := mem_ready.1 hi
      have hlt : i < l.toArray.size := (Array.getElem?_eq_some_iff.1 ho).1
      rw [(h.2 i hlt).1] at h1
      have hge : ¬ i < k := of_decide_eq_false h1
      rcases Nat.lt_or_ge k i with hlt' | hge'
      · have hch := List.all_eq_true.1 hc i (List.mem_range.2 hlt)
        rw [Bool.or_eq_true] at hch
        rcases hch with hch | hch
        · have := of_decide_eq_true hch; omega
        · obtain ⟨oj, hoj, e, he, hb, hon⟩ := Region.waitsFor_spec hch
          have : oj = o := Option.some.inj (hoj.symm.trans ho)
          subst this
          have h2 := hall e he hb
          rw [(h.2 e.on (by omega)).2] at h2
          have := of_decide_eq_true h2
          omega
      · omega
    · rintro rfl; exact up_ready h hk hlow
theorem up_none {listed : Array Bool} (h : Up l.toArray l.toArray.size listed) : (Region.ready .any l.toArray listed).isEmpty = true := by
  rw [List.isEmpty_iff, List.eq_nil_iff_forall_not_mem]
  intro i hi
  obtain ⟨h1, o, ho, _⟩ := mem_ready.1 hi
  have hlt : i < l.toArray.size := (Array.getElem?_eq_some_iff.1 ho).1
  rw [(h.2 i hlt).1, decide_eq_true hlt] at h1
  cases h1
theorem up_tail (hlow : lowR 0 (rowsOf l) = true) (hc : Region.chainB .any l.toArray n = true) : ∀ (g k : Nat) (listed : Array Bool), Up l.toArray k listed → k + g = l.toArray.size → n ≤ k → Region.seqB .any l.toArray g k listed = true
  | 0, k, listed, h, hk, _ => by
    have : k = l.toArray.size := by omega
    subst this
    unfold Region.seqB
    exact up_none h
  | g + 1, k, listed, h, hk, hnk => by
    unfold Region.seqB
    rw [Bool.and_eq_true, decide_eq_true_eq]
    exact ⟨up_seq h (by omega) hnk hlow hc, up_tail hlow hc g (k + 1) _ (up_next h (by omega)) (by omega) (by omega)⟩
theorem up_lex (hn : n < l.toArray.size) (hlow : lowR 0 (rowsOf l) = true) (hchk : chkR n 0 (rowsOf l) = true) (hc : Region.chainB .any l.toArray n = true) : ∀ (f k : Nat) (listed : Array Bool), Up l.toArray k listed → k + f = n → Region.lexHead .any l.toArray (l.toArray.size - n) f k listed = true
  | 0, k, listed, h, hk => by
    have : k = n := by omega
    subst this
    unfold Region.lexHead
    exact up_tail hlow hc _ _ _ h (by omega) (Nat.le_refl _)
  | f + 1, k, listed, h, hk => by
    unfold Region.lexHead
    rw [Bool.and_eq_true, Bool.and_eq_true]
    exact ⟨⟨by simpa using up_ready h (by omega) hlow, up_free h (by omega) (by omega) hchk⟩, up_lex hn hlow hchk hc f (k + 1) _ (up_next h (by omega)) (by omega)⟩
theorem cover_sink (hn : n < l.toArray.size) (h : coverR n (rowsOf l) = true) : Region.sinkB .any l.toArray n = true := by
  have ho : l.toArray[n]? = some l.toArray[n] := Array.getElem?_eq_getElem hn
  have hr := row_at ho
  unfold coverR at h
  have hd : (rowsOf l).drop n = rowOf l.toArray l.toArray[n] :: (rowsOf l).drop (n + 1) := by
    obtain ⟨hlt, e⟩ := List.getElem?_eq_some_iff.1 hr
    rw [List.drop_eq_getElem_cons hlt, e]
  rw [hd] at h
  unfold Region.sinkB
  rw [List.all_eq_true] at h ⊢
  intro i hi
  have h1 := h i hi
  have hin := List.mem_range.1 hi
  rw [List.any_eq_true]
  refine ⟨n, List.mem_range.2 (Nat.lt_succ_self n), ?_⟩
  rw [Bool.and_eq_true, decide_eq_true_eq]
  refine ⟨hin, ?_⟩
  unfold Region.waitsFor
  rw [ho]
  exact in_after (memN_iff.1 h1)
theorem growB_rows {sz : Nat} {sp : Nat → Bool} (R : List Row) (hR : rowsOf l = R) (h1 : Region.noSelect l.toArray = true) (h2 : decide (n < l.toArray.size) = true) (h4 : Region.chainB .any l.toArray n = true) (h6 : ownSlotsB l.toArray n sp = true) (h7 : slotsB l.toArray n sz sp = true)
    (hchk : chkR n 0 R = true) (hlow : lowR 0 R = true) (hcov : coverR n R = true) : growB l n sz sp = true := by
  subst hR
  have hn : n < l.toArray.size := of_decide_eq_true h2
  exact growB_of h1 h2 (cover_sink hn hcov) h4 (up_lex hn hlow hchk h4 n 0 _ (up_start _) (by omega)) h6 h7
end
end Go.Proofs.YtalnhlebgofiiaaGreatDoor.G
namespace Go.Proofs.YtalnhlebgofiiaaGreatDoor.H
open Go.RowKit
open G (growUpon blk Fresh ownSlots ownSlots_of slots_of growB put_get_ne put_size)

/-! THE RULE OF RuleG, and more: an operation of the head may write into the block of a value that another one has made (append behind append): it KILLS that value ('kl'): nobody looks at that one any more. -/
def newUpon (P : Program) (w : World) (g : Option Nat) (S : Value → World → Prop) : Result Next → Prop
  | .ok (.value u) w' => S u w' ∧ Fr (fun k => g = some k) w w' ∧ (∀ b, blk u = some b → w.heap.size ≤ b ∨ g = some b) ∧ (∀ b, blk u = some b → b < w'.heap.size)
  | .ok (.enter f args) w' => w' = w ∧ Calls P f args w (fun e w'' => ∃ v, e = .returned v ∧ S v w'' ∧ Fr (fun k => g = some k) w w'' ∧ (∀ b, blk v = some b → w.heap.size ≤ b ∨ g = some b) ∧ (∀ b, blk v = some b → b < w''.heap.size))
  | _ => False
/-- the block that an operation may write into -/
def kb (ops : Array Oper) (kl : Nat → Option Nat) (i : Nat) (a : Act) : Option Nat := match kl i with
  | none => none
  | some c => match (ops[c]?).bind (·.dst) with
    | none => none
    | some t => (a.tmps[t]?).bind blk
/-- who kills a value looks at it, has to wait for it, and is alone -/
structure Kills (ops : Array Oper) (md : Region.Mode) (n : Nat) (sp : Nat → Bool) (kl : Nat → Option Nat) : Prop where
  looks : ∀ i o c, ops[i]? = some o → kl i = some c → c < n ∧ sp c = true ∧ ∃ oc t, ops[c]? = some oc ∧ oc.dst = some t ∧ t ∈ o.looksAt ops ∧ ∃ e ∈ o.after, Region.binds md e = true ∧ e.on = c
  one : ∀ i j c, kl i = some c → kl j = some c → i = j
  only : ∀ i j c o oc t, kl j = some c → i ≠ j → i < n → ops[i]? = some o → ops[c]? = some oc → oc.dst = some t → t ∉ o.looksAt ops
section
variable (P : Program) (ops : Array Oper) (md : Region.Mode) (W0 : World) (n : Nat) (sp : Nat → Bool) (R : Nat → Value → World → Prop) (vals : Nat → Value) (kl : Nat → Option Nat)

/-- what is known of the special values ahead of an operation -/
def Held (o : Oper) (a : Act) (w : World) : Prop :=
  ∀ k o' t v, k < n → sp k = true → (o.after.any fun e => Region.binds md e && e.on == k) = true → ops[k]? = some o' → o'.dst = some t → t ∈ o.looksAt ops → a.tmps[t]? = some v → R k v w

def Yv (o : Oper) (v : Value) (a : Act) : Prop :=
  (Region.wanted o (yielded ops a.tmps) = true ∧ ∀ w, Fr nob W0 w → Held ops md n sp R o a w → growUpon P w v ((execOp a.eval o).run P w)) ∨ (Region.wanted o (yielded ops a.tmps) = false ∧ v = undef)

def Sv (i : Nat) (o : Oper) (a : Act) : Prop :=
  Region.wanted o (yielded ops a.tmps) = true ∧ ∀ w, Fr nob W0 w → Held ops md n sp R o a w → newUpon P w (kb ops kl i a) (R i) ((execOp a.eval o).run P w)

def gOp (i : Nat) (K : Act → Prop) (a : Act) : Prop :=
  match ops[i]? with
  | none => K a
  | some o => if sp i = true then Sv P ops md W0 n sp R kl i o a ∧ ∀ v, (∃ w, Fr nob W0 w ∧ R i v w ∧ Fresh v W0) → K (a.put o.dst v)
    else Yv P ops md W0 n sp R o (vals i) a ∧ K (a.put o.dst (vals i))

def wpAnyG (L : Array Bool → Act → Prop) : Nat → Array Bool → Act → Prop
  | 0, listed, a => L listed a
  | f + 1, listed, a => Region.ready md ops listed ≠ [] ∧ ∀ i ∈ Region.ready md ops listed, i < n ∧ gOp P ops md W0 n sp R vals kl i (wpAnyG L f (listed.setIfInBounds i true)) a

/-- nobody has killed it yet -/
def live (listed : Array Bool) (i : Nat) : Prop := ∀ j, j < n → kl j = some i → listed.getD j false = false
/-- what is known of the special values that the region has made -/
def Made (listed : Array Bool) (a : Act) (w : World) : Prop :=
  ∀ i o t, i < n → sp i = true → ops[i]? = some o → o.dst = some t → listed.getD i false = true → live n kl listed i →
    ∃ v, a.tmps[t]? = some v ∧ R i v w ∧ Fresh v W0 ∧ (∀ g, blk v = some g → g < w.heap.size) ∧
      ∀ j o' t' v', j < n → j ≠ i → sp j = true → ops[j]? = some o' → listed.getD j false = true → live n kl listed j → o'.dst = some t' → a.tmps[t']? = some v' → ∀ g, blk v = some g → blk v' ≠ some g

/-- the walk of the text's order -/
def wpGrow (Q : Act → Prop) : List Oper → Nat → Act → Prop
  | [], _, a => Q a
  | o :: rest, k, a => if sp k = true then Sv P ops md W0 n sp R kl k o a ∧ ∀ v, (∃ w, Fr nob W0 w ∧ R k v w ∧ Fresh v W0) → wpGrow Q rest (k + 1) (a.put o.dst v)
    else Yv P ops md W0 n sp R o (vals k) a ∧ wpGrow Q rest (k + 1) (a.put o.dst (vals k))
end

section
variable {P : Program} {ops : Array Oper} {md : Region.Mode} {W0 : World} {n : Nat} {sp : Nat → Bool} {R : Nat → Value → World → Prop} {vals : Nat → Value} {kl : Nat → Option Nat}

theorem gOp_mono {i : Nat} {a : Act} {K K' : Act → Prop} (h : ∀ a, K a → K' a) (hh : gOp P ops md W0 n sp R vals kl i K a) : gOp P ops md W0 n sp R vals kl i K' a := by
  unfold gOp at *
  split
  · exact h _ (by simpa [*] using hh)
  · rename_i o ho
    simp only [ho] at hh
    split
    · rename_i hs; rw [if_pos hs] at hh; exact ⟨hh.1, fun v hv => h _ (hh.2 v hv)⟩
    · rename_i hs; rw [if_neg hs] at hh; exact ⟨hh.1, h _ hh.2⟩

theorem held_put {o : Oper} {u : Value} {a : Act} {d : Option Tmp} {w : World} (h : ∀ x, d = some x → x ∉ o.looksAt ops) : Held ops md n sp R o (a.put d u) w ↔ Held ops md n sp R o a w := by
  have key : ∀ t, t ∈ o.looksAt ops → (a.put d u).tmps[t]? = a.tmps[t]? := fun t ht => put_get_ne fun e => h t e ht
  constructor <;> intro hh k o' t v h1 h2 h3 h4 h5 h6 h7
  · exact hh k o' t v h1 h2 h3 h4 h5 h6 (by rw [key t h6]; exact h7)
  · exact hh k o' t v h1 h2 h3 h4 h5 h6 (by rw [← key t h6]; exact h7)

theorem Yv.put {o : Oper} {v u : Value} {a : Act} {d : Option Tmp} (hs : ∀ cs b, o.op ≠ .select cs b) (h : ∀ x, d = some x → x ∉ o.looksAt ops) : Yv P ops md W0 n sp R o v (a.put d u) ↔ Yv P ops md W0 n sp R o v a := by
  unfold Yv
  rw [execOp_put o hs a d u h, wanted_put o a d u h]
  simp only [held_put h]
theorem kb_put {i : Nat} {o : Oper} {u : Value} {a : Act} {d : Option Tmp} (K : Kills ops md n sp kl) (ho : ops[i]? = some o) (h : ∀ x, d = some x → x ∉ o.looksAt ops) : kb ops kl i (a.put d u) = kb ops kl i a := by
  unfold kb
  cases hk : kl i with
  | none => rfl
  | some c =>
    obtain ⟨_, _, oc, t, h1, h2, h3, _⟩ := K.looks i o c ho hk
    simp only [h1, h2, Option.bind_some]
    rw [put_get_ne (fun e => h t e h3)]
theorem Sv.put {i : Nat} {o : Oper} {u : Value} {a : Act} {d : Option Tmp} (K : Kills ops md n sp kl) (ho : ops[i]? = some o) (hs : ∀ cs b, o.op ≠ .select cs b) (h : ∀ x, d = some x → x ∉ o.looksAt ops) : Sv P ops md W0 n sp R kl i o (a.put d u) ↔ Sv P ops md W0 n sp R kl i o a := by
  unfold Sv
  rw [execOp_put o hs a d u h, wanted_put o a d u h, kb_put K ho h]
  simp only [held_put h]

/-- Two operations apart from each other may change places. -/
theorem gOp_swap {i j : Nat} {oi oj : Oper} (KK : Kills ops md n sp kl) (hi : ops[i]? = some oi) (hj : ops[j]? = some oj) (hap : oi.apart ops oj = true) (hsi : ∀ cs b, oi.op ≠ .select cs b) (hsj : ∀ cs b, oj.op ≠ .select cs b) (hex : ∀ k, sp k = true → ∃ v w, Fr nob W0 w ∧ R k v w ∧ Fresh v W0)
    {K : Act → Prop} {a : Act} (h : gOp P ops md W0 n sp R vals kl i (gOp P ops md W0 n sp R vals kl j K) a) : gOp P ops md W0 n sp R vals kl j (gOp P ops md W0 n sp R vals kl i K) a := by
  obtain ⟨h1, h2, h3⟩ := Oper.apart_spec hap
  unfold gOp at *
  simp only [hi, hj] at h ⊢
  by_cases si : sp i = true <;> by_cases sj : sp j = true
  · simp only [si, sj, if_true] at h ⊢
    obtain ⟨v0, w0, e1, e2, e3⟩ := hex i si
    refine ⟨(Sv.put KK hj hsj h1).1 (h.2 v0 ⟨w0, e1, e2, e3⟩).1, fun v hv => ⟨(Sv.put KK hi hsi h3).2 h.1, fun v' hv' => ?_⟩⟩
    rw [← Act.put_comm a v' v h2]
    exact (h.2 v' hv').2 v hv
  · simp only [si, sj, if_true, if_false, Bool.false_eq_true] at h ⊢
    obtain ⟨v0, w0, e1, e2, e3⟩ := hex i si
    refine ⟨(Yv.put hsj h1).1 (h.2 v0 ⟨w0, e1, e2, e3⟩).1, (Sv.put KK hi hsi h3).2 h.1, fun v hv => ?_⟩
    rw [← Act.put_comm a v (vals j) h2]
    exact (h.2 v hv).2
  · simp only [si, sj, if_true, if_false, Bool.false_eq_true] at h ⊢
    refine ⟨(Sv.put KK hj hsj h1).1 h.2.1, fun v hv => ⟨(Yv.put hsi h3).2 h.1, ?_⟩⟩
    rw [← Act.put_comm a (vals i) v h2]
    exact h.2.2 v hv
  · simp only [si, sj, if_false, Bool.false_eq_true] at h ⊢
    obtain ⟨k1, k2, k3⟩ := h
    refine ⟨(Yv.put hsj h1).1 k2, (Yv.put hsi h3).2 k1, ?_⟩
    rw [← Act.put_comm a (vals i) (vals j) h2]
    exact k3

theorem gOp_some {i : Nat} {oi : Oper} (hi : ops[i]? = some oi) (hex : ∀ k, sp k = true → ∃ v w, Fr nob W0 w ∧ R k v w ∧ Fresh v W0) {K : Act → Prop} {a : Act} (h : gOp P ops md W0 n sp R vals kl i K a) : ∃ a', K a' := by
  unfold gOp at h
  simp only [hi] at h
  by_cases si : sp i = true
  · simp only [si, if_true] at h
    obtain ⟨v0, w0, e⟩ := hex i si
    exact ⟨_, h.2 v0 ⟨w0, e⟩⟩
  · simp only [si, if_false, Bool.false_eq_true] at h; exact ⟨_, h.2⟩

theorem wpAnyG_first {i : Nat} {oi : Oper} {L : Array Bool → Act → Prop} (KK : Kills ops md n sp kl) (hi : ops[i]? = some oi) (hsel : ∀ (j : Nat) (o : Oper) cs b, ops[j]? = some o → o.op ≠ .select cs b) (hex : ∀ k, sp k = true → ∃ v w, Fr nob W0 w ∧ R k v w ∧ Fresh v W0)
    (hs : Region.sinkB md ops n = true) (hc : Region.chainB md ops n = true) (hn : n < ops.size) (hin : i < n)
    (hdone : ∀ listed a, L listed a → ∀ j ∈ Region.ready md ops listed, n ≤ j) :
    ∀ (f : Nat) (listed : Array Bool) (a : Act), HeadInv md ops n listed →
      (∀ j oj, ops[j]? = some oj → j ≠ i → listed.getD j true = false → (∀ e ∈ oj.after, Region.binds md e = true → e.on ≠ i) → oi.apart ops oj = true) →
      i ∈ Region.ready md ops listed →
      gOp P ops md W0 n sp R vals kl i (wpAnyG P ops md W0 n sp R vals kl L f (listed.setIfInBounds i true)) a → wpAnyG P ops md W0 n sp R vals kl L (f + 1) listed a := by
  intro f
  induction f with
  | zero =>
    intro listed a inv _ hr H
    have hun := (mem_ready.1 hr).1
    refine ⟨fun h => (by rw [h] at hr; cases hr), fun j hj => ?_⟩
    have hjn : j < n := by
      rcases Nat.lt_or_ge j n with h | h
      · exact h
      · exact absurd hj (tail_waits hs hc hn inv _ i rfl hin hun j h)
    refine ⟨hjn, ?_⟩
    by_cases hji : j = i
    · subst hji; exact H
    · obtain ⟨a', ha'⟩ := gOp_some hi hex H
      have := hdone _ _ ha' j (ready_mono hj hji)
      omega
  | succ f ih =>
    intro listed a inv hfree hr H
    have hun := (mem_ready.1 hr).1
    refine ⟨fun h => (by rw [h] at hr; cases hr), fun j hj => ?_⟩
    have hjn : j < n := by
      rcases Nat.lt_or_ge j n with h | h
      · exact h
      · exact absurd hj (tail_waits hs hc hn inv _ i rfl hin hun j h)
    refine ⟨hjn, ?_⟩
    by_cases hji : j = i
    · subst hji; exact H
    · obtain ⟨hjun, oj, hoj, hall⟩ := mem_ready.1 hj
      have hnot : ∀ e ∈ oj.after, Region.binds md e = true → e.on ≠ i := fun e he hb heq => by
        have h1 := hall e he hb
        rw [heq, getD_both hun] at h1
        cases h1
      have h1 : gOp P ops md W0 n sp R vals kl i (gOp P ops md W0 n sp R vals kl j (wpAnyG P ops md W0 n sp R vals kl L f ((listed.setIfInBounds i true).setIfInBounds j true))) a :=
        gOp_mono (fun a' h => (h.2 j (ready_mono hj hji)).2) H
      have h2 := gOp_swap KK hi hoj (hfree j oj hoj hji hjun hnot) (fun cs b => hsel i oi cs b hi) (fun cs b => hsel j oj cs b hoj) hex h1
      have hfree' : ∀ k ok, ops[k]? = some ok → k ≠ i → (listed.setIfInBounds j true).getD k true = false →
          (∀ e ∈ ok.after, Region.binds md e = true → e.on ≠ i) → oi.apart ops ok = true := fun k ok hk hki hun hno => by
        refine hfree k ok hk hki ?_ hno
        by_cases hjk : j = k
        · subst hjk; exact hjun
        · rw [getD_set_ne true hjk] at hun; exact hun
      refine gOp_mono (fun a' h3 => ih (listed.setIfInBounds j true) a' (inv.set hj hjn) hfree' (ready_mono hr (Ne.symm hji)) ?_) h2
      rw [Array.setIfInBounds_comm _ _ hji]
      exact h3

theorem wpAnyG_mono {L L' : Array Bool → Act → Prop} (h : ∀ listed a, L listed a → L' listed a) : ∀ (f : Nat) (listed : Array Bool) (a : Act), wpAnyG P ops md W0 n sp R vals kl L f listed a → wpAnyG P ops md W0 n sp R vals kl L' f listed a
  | 0, _, _, hh => h _ _ hh
  | f + 1, _, _, hh => ⟨hh.1, fun i hi => ⟨(hh.2 i hi).1, gOp_mono (fun a' h' => wpAnyG_mono h f _ a' h') (hh.2 i hi).2⟩⟩

theorem wpAnyG_lex {g : Nat} {Lq : Act → Prop} (KK : Kills ops md n sp kl) (hsel : Region.noSelect ops = true) (hex : ∀ k, sp k = true → ∃ v w, Fr nob W0 w ∧ R k v w ∧ Fresh v W0) (hs : Region.sinkB md ops n = true) (hc : Region.chainB md ops n = true) (hn : n < ops.size) :
    ∀ (l : List Oper) (k : Nat) (listed : Array Bool) (a : Act), (∀ j, j < l.length → l[j]? = ops[k + j]?) → k + l.length = n → HeadInv md ops n listed →
    Region.lexHead md ops g l.length k listed = true → wpGrow P ops md W0 n sp R vals kl Lq l k a →
    wpAnyG P ops md W0 n sp R vals kl (fun listed' a' => (Region.seqB md ops g n listed' = true ∧ ∀ i, i < n → listed.getD i false = true ∨ k ≤ i → listed'.getD i false = true) ∧ Lq a') l.length listed a
  | [], k, listed, a, _, hk, inv, hB, h => by
    have : k = n := by simpa using hk
    subst this
    exact ⟨⟨by simpa [Region.lexHead] using hB, fun i hi h => h.resolve_right (by omega)⟩, h⟩
  | o :: l, k, listed, a, hl, hk, inv, hB, h => by
    have h0 : ops[k]? = some o := by simpa using (hl 0 (by simp)).symm
    simp only [List.length_cons, Region.lexHead, Bool.and_eq_true] at hB
    obtain ⟨⟨hr, hf⟩, hB'⟩ := hB
    have hkn : k < n := by simp only [List.length_cons] at hk; omega
    have hr' : k ∈ Region.ready md ops listed := by simpa using hr
    have hst : gOp P ops md W0 n sp R vals kl k (wpGrow P ops md W0 n sp R vals kl Lq l (k + 1)) a := by unfold gOp; simp only [h0]; exact h
    have hks : k < listed.size := by rw [inv.size]; omega
    refine wpAnyG_first KK h0 (Region.noSelect_spec hsel) hex hs hc hn hkn (fun listed' a' hL => seqB_ready hL.1.1) l.length listed a inv (Region.free_spec h0 hf) hr' (gOp_mono (fun a' h' => ?_) hst)
    have := wpAnyG_lex (g := g) KK hsel hex hs hc hn l (k + 1) (listed.setIfInBounds k true) a' (fun j hj => by have := hl (j + 1) (by simp; omega); simpa [Nat.add_assoc, Nat.add_comm 1 j] using this) (by simp only [List.length_cons] at hk; omega) (inv.set hr' hkn) hB' h'
    refine wpAnyG_mono ?_ l.length _ _ this
    rintro listed' a'' ⟨⟨e1, e2⟩, e3⟩
    refine ⟨⟨e1, fun i hi hh => e2 i hi ?_⟩, e3⟩
    by_cases hik : i = k
    · subst hik; exact .inl (by simp [hks])
    · rcases hh with hh | hh
      · exact .inl (getD_set_true hh)
      · exact .inr (by omega)

theorem live_back {i : Nat} {listed : Array Bool} {k : Nat} (h : live n kl (listed.setIfInBounds i true) k) : live n kl listed k := by
  intro j hj hk
  have := h j hj hk
  cases e : listed.getD j false with
  | false => rfl
  | true => rw [getD_set_true e] at this; cases this
theorem Made.next {i : Nat} {oi : Oper} {listed : Array Bool} {a : Act} {w w' : World} {v : Value} (hR : ∀ k v w w' g, R k v w → Fr (fun j => g = some j) w w' → (∀ b, g = some b → W0.heap.size ≤ b ∧ blk v ≠ some b) → R k v w') (hJ : Made ops W0 n sp R kl listed a w) (hi : ops[i]? = some oi) (hin : i < n) (hT : sp i ≠ true) (hown : ownSlots ops n sp) (fr : Fr nob w w') :
    Made ops W0 n sp R kl (listed.setIfInBounds i true) (a.put oi.dst v) w' := by
  intro k o t hk hs ho ht hl hlv
  have hki : k ≠ i := by rintro rfl; exact hT hs
  rw [getD_set_ne false (Ne.symm hki)] at hl
  obtain ⟨u, h1, h2, h3, h5, h4⟩ := hJ k o t hk hs ho ht hl (live_back hlv)
  have hne := hown k o t i oi hk hs ho ht hi hin (Ne.symm hki)
  refine ⟨u, (put_get_ne hne).trans h1, hR _ _ _ _ none h2 ⟨fr.os, fr.tape, fr.output, fr.size, fun k hk _ => fr.block k hk (fun h => h)⟩ (fun b h => by cases h), h3, fun g hg => Nat.lt_of_lt_of_le (h5 g hg) fr.size, ?_⟩
  intro j o' t' v' hj hjk hs' ho' hl' hlv' ht' hv'
  have hji : j ≠ i := by rintro rfl; exact hT hs'
  rw [getD_set_ne false (Ne.symm hji)] at hl'
  have hne' := hown j o' t' i oi hj hs' ho' ht' hi hin (Ne.symm hji)
  rw [put_get_ne hne'] at hv'
  exact h4 j o' t' v' hj hjk hs' ho' hl' (live_back hlv') ht' hv'

theorem Made.new {i : Nat} {oi : Oper} {ti : Tmp} {listed : Array Bool} {a : Act} {w w' : World} {v : Value} (KK : Kills ops md n sp kl) (hR : ∀ k v w w' g, R k v w → Fr (fun j => g = some j) w w' → (∀ b, g = some b → W0.heap.size ≤ b ∧ blk v ≠ some b) → R k v w') (hJ : Made ops W0 n sp R kl listed a w) (hi : ops[i]? = some oi) (hin : i < n) (hun : listed.getD i false = false) (hlen : i < listed.size) (haft : ∀ e ∈ oi.after, Region.binds md e = true → listed.getD e.on false = true)
    (hd : oi.dst = some ti) (hsz : ti < a.tmps.size) (hown : ownSlots ops n sp) (hsp : sp i = true) (frW : Fr nob W0 w) (fr : Fr (fun k => kb ops kl i a = some k) w w') (hv : R i v w') (hf : ∀ b, blk v = some b → w.heap.size ≤ b ∨ kb ops kl i a = some b) (hlt : ∀ g, blk v = some g → g < w'.heap.size) :
    Made ops W0 n sp R kl (listed.setIfInBounds i true) (a.put oi.dst v) w' ∧ Fr nob W0 w' := by
  have hnew : (a.put oi.dst v).tmps[ti]? = some v := by
    rw [hd]; simp [Act.put, hsz]
  -- the victim
  have hvic : ∀ b, kb ops kl i a = some b → W0.heap.size ≤ b ∧ b < w.heap.size ∧ ∃ c, kl i = some c ∧ ∀ k o t u, k < n → k ≠ c → sp k = true → ops[k]? = some o → o.dst = some t → listed.getD k false = true → live n kl listed k → a.tmps[t]? = some u → blk u ≠ some b := by
    intro b hb
    unfold kb at hb
    cases hk : kl i with
    | none => rw [hk] at hb; cases hb
    | some c =>
      obtain ⟨hcn, hcs, oc, t, h1, h2, h3, e, he1, he2, he3⟩ := KK.looks i oi c hi hk
      simp only [hk, h1, h2, Option.bind_some] at hb
      have hcl : listed.getD c false = true := by rw [← he3]; exact haft e he1 he2
      have hlive : live n kl listed c := fun j hj hkj => by
        rw [KK.one j i c hkj hk]; exact hun
      obtain ⟨u, k1, k2, k3, k4, k5⟩ := hJ c oc t hcn hcs h1 h2 hcl hlive
      rw [k1, Option.bind_some] at hb
      refine ⟨k3 b hb, k4 b hb, c, rfl, fun k o t' u' hkn hkc hks hko hkt hkl hlv hu' e => ?_⟩
      exact k5 k o t' u' hkn hkc hks hko hkl hlv hkt hu' b hb e
  have frw' : Fr nob W0 w' := by
    refine frW.trans' fr (T := nob) (fun _ _ h => h) (fun j hj e => ?_)
    have := (hvic j e).1
    omega
  refine ⟨?_, frw'⟩
  intro k o t hk hs ho ht hl hlv
  by_cases hki : k = i
  · subst hki
    have e : o = oi := Option.some.inj (ho.symm.trans hi)
    rw [e] at ht
    rw [hd] at ht; cases ht
    refine ⟨v, hnew, hv, fun g hg => ?_, hlt, ?_⟩
    · rcases hf g hg with h | h
      · exact Nat.le_trans frW.size h
      · exact (hvic g h).1
    intro j o' t' v' hj hjk hs' ho' hl' hlv' ht' hv' g hg hg'
    rw [getD_set_ne false (Ne.symm hjk)] at hl'
    have hlj := live_back hlv'
    obtain ⟨u, h1, _, _, h5, _⟩ := hJ j o' t' hj hs' ho' ht' hl' hlj
    have hne' := hown j o' t' k oi hj hs' ho' ht' hi hin (Ne.symm hjk)
    rw [put_get_ne hne', h1] at hv'
    cases hv'
    rcases hf g hg with h | h
    · have := h5 g hg'; omega
    · obtain ⟨_, _, c, hc, hdis⟩ := hvic g h
      refine hdis j o' t' _ hj ?_ hs' ho' ht' hl' hlj h1 hg'
      rintro rfl
      have := hlv' k hin hc
      rw [show (listed.setIfInBounds k true).getD k false = true by simp [hlen]] at this
      cases this
  · rw [getD_set_ne false (Ne.symm hki)] at hl
    have hlk := live_back hlv
    obtain ⟨u, h1, h2, h3, h5, h4⟩ := hJ k o t hk hs ho ht hl hlk
    have hne := hown k o t i oi hk hs ho ht hi hin (Ne.symm hki)
    have hkc : ∀ c, kl i = some c → k ≠ c := by
      rintro c hc rfl
      have := hlv i hin hc
      rw [show (listed.setIfInBounds i true).getD i false = true by simp [hlen]] at this
      cases this
    refine ⟨u, (put_get_ne hne).trans h1, hR _ _ _ _ _ h2 fr (fun b hb => ?_), h3, fun g hg => Nat.lt_of_lt_of_le (h5 g hg) fr.size, ?_⟩
    · obtain ⟨q1, _, c, hc, hdis⟩ := hvic b hb
      exact ⟨q1, hdis k o t u hk (hkc c hc) hs ho ht hl hlk h1⟩
    intro j o' t' v' hj hjk hs' ho' hl' hlv' ht' hv' g hg hg'
    by_cases hji : j = i
    · subst hji
      have e : o' = oi := Option.some.inj (ho'.symm.trans hi)
      rw [e, hd] at ht'; cases ht'
      rw [hnew] at hv'
      cases hv'
      rcases hf g hg' with h | h
      · have := h5 g hg; omega
      · obtain ⟨_, _, c, hc, hdis⟩ := hvic g h
        exact hdis k o t u hk (hkc c hc) hs ho ht hl hlk h1 hg
    · rw [getD_set_ne false (Ne.symm hji)] at hl'
      have hne' := hown j o' t' i oi hj hs' ho' ht' hi hin (Ne.symm hji)
      rw [put_get_ne hne'] at hv'
      exact h4 j o' t' v' hj hjk hs' ho' hl' (live_back hlv') ht' hv' g hg hg'

theorem wpAny_of_G {g : Nat} {L : Array Bool → Act → Prop} {Q' : Exit → Act → World → Prop} (KK : Kills ops md n sp kl) (hR : ∀ k v w w' g, R k v w → Fr (fun j => g = some j) w w' → (∀ b, g = some b → W0.heap.size ≤ b ∧ blk v ≠ some b) → R k v w')
    (hown : ownSlots ops n sp) (sz : Nat) (hslots : ∀ i o, i < n → sp i = true → ops[i]? = some o → ∃ t, o.dst = some t ∧ t < sz)
    (hL : ∀ listed a w, Fr nob W0 w → Made ops W0 n sp R kl listed a w → L listed a → wpAny P md ops Q' g listed a w) :
    ∀ (f : Nat) (listed : Array Bool) (a : Act) (w : World), Fr nob W0 w → Made ops W0 n sp R kl listed a w → a.tmps.size = sz → listed.size = ops.size → wpAnyG P ops md W0 n sp R vals kl L f listed a → wpAny P md ops Q' (f + g) listed a w
  | 0, listed, a, w, fr, hJ, _, _, h => by rw [Nat.zero_add]; exact hL _ _ _ fr hJ h
  | f + 1, listed, a, w, fr, hJ, hsz, hls, h => by
    rw [show f + 1 + g = (f + g) + 1 by omega]
    refine ⟨fun h0 => absurd h0 h.1, fun i hi => ?_⟩
    obtain ⟨hin, hg⟩ := h.2 i hi
    obtain ⟨hun0, o, ho, haft⟩ := mem_ready.1 hi
    have hun := getD_both hun0
    have hlen : i < listed.size := by rw [hls]; exact (Array.getElem?_eq_some_iff.1 ho).1
    have hls' : (listed.setIfInBounds i true).size = ops.size := by simp [hls]
    have held : Held ops md n sp R o a w := by
      intro k o' t v hk hs hb ho' ht hlook hv
      obtain ⟨e, he, h2⟩ := Array.any_eq_true'.1 hb
      simp only [Bool.and_eq_true, beq_iff_eq] at h2
      have h1 := haft e he h2.1
      rw [h2.2] at h1
      have hlv : live n kl listed k := fun j hj hkj => by
        by_cases hji : j = i
        · subst hji; exact hun
        · exact absurd hlook (KK.only i j k o o' t hkj (Ne.symm hji) hin ho ho' ht)
      obtain ⟨u, k1, k2, _⟩ := hJ k o' t hk hs ho' ht h1 hlv
      rw [k1] at hv; cases hv
      exact k2
    unfold gOp at hg
    unfold wpOp
    simp only [ho] at hg ⊢
    by_cases hT : sp i = true
    · rw [if_pos hT] at hg
      obtain ⟨⟨hw, hv⟩, hK⟩ := hg
      obtain ⟨t, ht, htsz⟩ := hslots i o hin hT ho
      rw [if_pos hw]
      left
      have h3 := hv w fr held
      unfold Oper.wp
      have fin : ∀ u w', R i u w' → Fr (fun k => kb ops kl i a = some k) w w' → (∀ b, blk u = some b → w.heap.size ≤ b ∨ kb ops kl i a = some b) → (∀ b, blk u = some b → b < w'.heap.size) → wpAny P md ops Q' (f + g) (listed.setIfInBounds i true) (a.put o.dst u) w' := fun u w' e1 e2 e3 e4 => by
        obtain ⟨hM, frw'⟩ := hJ.new KK hR ho hin hun hlen haft ht (by rw [hsz]; exact htsz) hown hT fr e2 e1 e3 e4
        obtain ⟨q1, q2, q3, q4⟩ : ∃ v, (a.put o.dst u).tmps[t]? = some v ∧ v = u ∧ Fresh v W0 := by
          refine ⟨u, by rw [ht]; simp [Act.put, hsz, htsz], rfl, fun b hb => ?_⟩
          rcases e3 b hb with h | h
          · exact Nat.le_trans fr.size h
          · unfold kb at h
            cases hk : kl i with
            | none => rw [hk] at h; cases h
            | some c =>
              obtain ⟨hcn, hcs, oc, t2, h1, h2, h3, e, he1, he2, he3⟩ := KK.looks i o c ho hk
              simp only [hk, h1, h2, Option.bind_some] at h
              have hcl : listed.getD c false = true := by rw [← he3]; exact haft e he1 he2
              have hlive : live n kl listed c := fun j hj hkj => by rw [KK.one j i c hkj hk]; exact hun
              obtain ⟨u2, k1, _, k3, _⟩ := hJ c oc t2 hcn hcs h1 h2 hcl hlive
              rw [k1, Option.bind_some] at h
              exact k3 b h
        subst q3
        exact wpAny_of_G KK hR hown sz hslots hL f _ _ _ frw' hM (by rw [put_size]; exact hsz) hls' (hK _ ⟨w', frw', e1, q4⟩)
      generalize (execOp a.eval o).run P w = r at *
      cases r with
      | ok nx w' =>
        cases nx <;> simp only [newUpon] at h3 <;> simp only [Oper.upon]
        case value u =>
          obtain ⟨e1, e2, e3, e4⟩ := h3
          exact fin u w' e1 e2 e3 e4
        case enter fi args =>
          obtain ⟨e0, hc⟩ := h3
          rw [e0]
          exact hc.mono fun e w'' ⟨u, he, e1, e2, e3, e4⟩ => by
            subst he
            exact fin u w'' e1 e2 e3 e4
      | halt x w' => simp only [newUpon] at h3
    · rw [if_neg hT] at hg
      obtain ⟨hy, hK⟩ := hg
      rcases hy with ⟨hw, hv⟩ | ⟨hw, hv⟩
      · rw [if_pos hw]
        left
        have h3 := hv w fr held
        unfold Oper.wp
        generalize (execOp a.eval o).run P w = r at *
        cases r with
        | ok nx w' =>
          cases nx <;> simp only [growUpon] at h3 <;> simp only [Oper.upon]
          case value u =>
            obtain ⟨e1, e2⟩ := h3
            rw [e1, e2]
            exact wpAny_of_G KK hR hown sz hslots hL f _ _ _ fr (hJ.next hR ho hin hT hown (Fr.refl _ _)) (by rw [put_size]; exact hsz) hls' hK
          case skip =>
            obtain ⟨e1, e2⟩ := h3
            rw [e1, ← e2]
            exact wpAny_of_G KK hR hown sz hslots hL f _ _ _ fr (hJ.next hR ho hin hT hown (Fr.refl _ _)) (by rw [put_size]; exact hsz) hls' hK
          case enter fi args =>
            obtain ⟨e1, hc⟩ := h3
            rw [e1]
            exact hc.mono fun e w'' ⟨he, hw''⟩ => by
              subst he
              exact wpAny_of_G KK hR hown sz hslots hL f _ _ _ (fr.trans hw'' (fun _ _ h => h)) (hJ.next hR ho hin hT hown hw'') (by rw [put_size]; exact hsz) hls' hK
        | halt x w' => simp only [growUpon] at h3
      · rw [if_neg (by rw [hw]; exact Bool.false_ne_true), ← hv]
        exact wpAny_of_G KK hR hown sz hslots hL f _ _ _ fr (hJ.next hR ho hin hT hown (Fr.refl _ _)) (by rw [put_size]; exact hsz) hls' hK

/-! the kills, by computation -/
def killsB (ops : Array Oper) (md : Region.Mode) (n : Nat) (sp : Nat → Bool) (ks : List (Nat × Nat)) : Bool :=
  ks.all fun (i, c) => decide (c < n) && sp c && (match ops[i]?, ops[c]? with
    | some o, some oc => (match oc.dst with
      | some t => (o.looksAt ops).contains t && (o.after.any fun e => Region.binds md e && e.on == c) && (List.range n).all fun k => k == i || (match ops[k]? with | some ok => !(ok.looksAt ops).contains t | none => true)
      | none => false)
    | none, _ => false
    | _, none => false)
def klOf (ks : List (Nat × Nat)) (i : Nat) : Option Nat := (ks.find? fun p => p.1 == i).map (·.2)
theorem klOf_mem {ks : List (Nat × Nat)} {i c : Nat} (h : klOf ks i = some c) : (i, c) ∈ ks := by
  unfold klOf at h
  obtain ⟨p, hp, rfl⟩ := Option.map_eq_some_iff.1 h
  have h1 := List.find?_some hp
  have h2 := List.mem_of_find?_eq_some hp
  simp only [beq_iff_eq] at h1
  subst h1
  exact h2
theorem kills_of {ks : List (Nat × Nat)} (h : killsB ops md n sp ks = true) (h1 : (ks.map (·.2)).Nodup) : Kills ops md n sp (klOf ks) := by
  have key : ∀ i c, (i, c) ∈ ks → _ := fun i c hm => List.all_eq_true.1 h (i, c) hm
  refine ⟨fun i o c ho hk => ?_, fun i j c hi hj => ?_, fun i j c o oc t hj hij hin ho hoc ht => ?_⟩
  · have hm := klOf_mem hk
    have := key i c hm
    simp only [ho, Bool.and_eq_true, decide_eq_true_eq] at this
    obtain ⟨⟨g1, g2⟩, g3⟩ := this
    cases hoc : ops[c]? with
    | none => rw [hoc] at g3; cases g3
    | some oc =>
      rw [hoc] at g3
      cases hd : oc.dst with
      | none => simp only [hd] at g3; cases g3
      | some t =>
        simp only [hd, Bool.and_eq_true] at g3
        obtain ⟨⟨g4, g5⟩, _⟩ := g3
        obtain ⟨e, he, hb⟩ := Array.any_eq_true'.1 g5
        simp only [Bool.and_eq_true, beq_iff_eq] at hb
        exact ⟨g1, g2, oc, t, rfl, hd, by simpa using g4, e, he, hb.1, hb.2⟩
  · have a := klOf_mem hi
    have b := klOf_mem hj
    have inj : ∀ (l : List (Nat × Nat)), (l.map (·.2)).Nodup → (i, c) ∈ l → (j, c) ∈ l → i = j := by
      intro l
      induction l with
      | nil => intro _ h; cases h
      | cons p l ih =>
        intro hn h1 h2
        rw [List.map_cons, List.nodup_cons] at hn
        rcases List.mem_cons.1 h1 with e1 | e1 <;> rcases List.mem_cons.1 h2 with e2 | e2
        · rw [← e1] at e2; exact (Prod.mk.inj e2).1.symm
        · rw [← e1] at hn; exact absurd (List.mem_map_of_mem (f := (·.2)) e2) hn.1
        · rw [← e2] at hn; exact absurd (List.mem_map_of_mem (f := (·.2)) e1) hn.1
        · exact ih hn.2 e1 e2
    exact inj ks h1 a b
  · have hm := klOf_mem hj
    have := key j c hm
    simp only [Bool.and_eq_true, decide_eq_true_eq] at this
    obtain ⟨_, g3⟩ := this
    cases hoj : ops[j]? with
    | none => rw [hoj] at g3; cases g3
    | some oj =>
      simp only [hoj, hoc, ht, Bool.and_eq_true] at g3
      have g6 := List.all_eq_true.1 g3.2 i (List.mem_range.2 hin)
      simp only [ho, Bool.or_eq_true, beq_iff_eq] at g6
      rcases g6 with g6 | g6
      · exact absurd g6 hij
      · simpa using g6

/-- **THE RULE.** -/
theorem wp_region {id : Nat} {Q : Exit → Act → World → Prop} {a : Act} {w : World} {l : List Oper} (n sz : Nat) (sp : Nat → Bool) (ks : List (Nat × Nat)) (R : Nat → Value → World → Prop) (vals : Nat → Value) (hm : P.follows .mixedOrders = true) (hB : growB l n sz sp = true) (hk : killsB l.toArray .any n sp ks = true) (hk1 : (ks.map (·.2)).Nodup) (hsz : a.tmps.size = sz)
    (hR : ∀ k v w1 w' g, R k v w1 → Fr (fun j => g = some j) w1 w' → (∀ b, g = some b → w.heap.size ≤ b ∧ blk v ≠ some b) → R k v w') (hex : ∀ k, sp k = true → ∃ v w', Fr nob w w' ∧ R k v w' ∧ Fresh v w)
    (h : wpGrow P l.toArray .any w n sp R vals (klOf ks) (fun a' => ∀ w' listed, Fr nob w w' → (∀ i, i < n → listed.getD i false = true) → Made l.toArray w n sp R (klOf ks) listed a' w' → wpList P l.toArray Q (l.drop n) a' w') (l.take n) 0 a) :
    (Code.region id l.toArray true).wp P Q a w := by
  simp only [growB, Bool.and_eq_true] at hB
  obtain ⟨⟨hlt, hown⟩, hsl⟩ := hB
  simp only [Region.lexTailB, Bool.and_eq_true, decide_eq_true_eq] at hlt
  obtain ⟨⟨⟨⟨hsel, hn⟩, hs⟩, hc⟩, hlex⟩ := hlt
  have KK := kills_of hk hk1
  have hn' : n < l.length := by simpa using hn
  have htl : (l.take n).length = n := by simp; omega
  have hdl : (l.drop n).length = l.toArray.size - n := by simp
  have inv0 : HeadInv .any l.toArray n (Array.replicate l.toArray.size false) :=
    ⟨by simp, fun j oj _ hl => (by rw [getD_replicate_false] at hl; cases hl), fun t _ ht => getD_in (by simpa using ht) (getD_replicate_false _ _)⟩
  have H := wpAnyG_lex (md := .any) (g := l.toArray.size - n) KK hsel hex hs hc hn (l.take n) 0 _ a (fun j hj => by
    have hj' : j < n := by rw [htl] at hj; exact hj
    simp [hj']) (by simpa using htl) inv0 (by rw [htl]; exact hlex) h
  refine wp_region_any hm ?_
  have fr0 : Fr nob w { w with drawn := w.drawn + 1 } := ⟨rfl, rfl, rfl, Nat.le_refl _, fun _ _ _ => rfl⟩
  have := wpAny_of_G (Q' := Q) (g := l.toArray.size - n) KK hR (ownSlots_of hown) sz (slots_of hsl) (fun listed a' w' fr hJ hL => by
    have := wpAny_of_seq (md := .any) (Q' := Q) (l.drop n) n listed a' w' (fun j => by simp [List.getElem?_drop]) (by rw [hdl]; exact hL.1.1) (hL.2 w' listed fr (fun i hi => hL.1.2 i hi (.inr (Nat.zero_le _))) hJ)
    rwa [hdl] at this) _ _ _ _ fr0 (by intro i o t _ _ _ _ hl; rw [getD_replicate_false] at hl; cases hl) hsz (by simp) H
  rw [htl, show n + (l.toArray.size - n) = l.toArray.size by omega] at this
  exact this

section
variable {Q : Act → Prop} {o : Oper} {rest : List Oper} {k : Nat} {a : Act}
/-- an operation whose value is known -/
theorem step (v : Value) (hs : sp k = false) (he : vals k = v) (hw : Region.wanted o (yielded ops a.tmps) = true) (hv : ∀ w, Fr nob W0 w → Held ops md n sp R o a w → growUpon P w v ((execOp a.eval o).run P w))
    (hK : wpGrow P ops md W0 n sp R vals kl Q rest (k + 1) (a.put o.dst v)) : wpGrow P ops md W0 n sp R vals kl Q (o :: rest) k a := by
  unfold wpGrow
  rw [if_neg (by rw [hs]; exact Bool.false_ne_true), he]
  exact ⟨.inl ⟨hw, hv⟩, hK⟩
/-- an operation that gives back what can't be told ahead; g: the block that it may write into -/
theorem new (g : Option Nat) (hs : sp k = true) (hg : kb ops kl k a = g) (hw : Region.wanted o (yielded ops a.tmps) = true) (hv : ∀ w, Fr nob W0 w → Held ops md n sp R o a w → newUpon P w g (R k) ((execOp a.eval o).run P w))
    (hK : ∀ v, (∃ w, Fr nob W0 w ∧ R k v w ∧ Fresh v W0) → wpGrow P ops md W0 n sp R vals kl Q rest (k + 1) (a.put o.dst v)) : wpGrow P ops md W0 n sp R vals kl Q (o :: rest) k a := by
  unfold wpGrow
  rw [if_pos hs]
  exact ⟨⟨hw, by rw [hg]; exact hv⟩, hK⟩
theorem nil (h : Q a) : wpGrow P ops md W0 n sp R vals kl Q [] k a := h
end
end
end Go.Proofs.YtalnhlebgofiiaaGreatDoor.H
