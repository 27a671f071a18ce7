import Derived.OrdersIn
import Derived.TacticsIn
import Derived.RangeFuncCalls
import Derived.Test.YtalnhlebgofiiaaGreatDoorRule
namespace Go.Proofs.YtalnhlebgofiiaaGreatDoor
open Go.RowKit

/-! the rule of the text RuleB within a round of a range over a function: the fence is wide but for the round -/
section
variable {P : Program} {ops : Array Oper} {md : Region.Mode} {W0 : World} {vals : Nat → Value} {Z : TypeId → Array Value} {lr : Nat} {nd : Nat}

def noDefer (l : List Oper) : Bool := l.all fun o => match o.op with | .defer _ => false | _ => true
theorem noDefer_of {l : List Oper} (h : noDefer l = true) : ∀ (i : Nat) (o : Oper), l[i]? = some o → ∀ c, o.op ≠ Op.defer c := by
  intro i o hi c e
  have h1 := List.all_eq_true.1 h o (List.mem_of_getElem? hi)
  rw [e] at h1
  cases h1

theorem wpAnyIn_of_seq {F : Fence} {Q' : Exit → Act → World → Prop} : ∀ (l : List Oper) (k : Nat) (listed : Array Bool) (a : Act) (w : World), (∀ j, l[j]? = ops[k + j]?) →
    Region.seqB md ops l.length k listed = true → wpListIn F nd P ops Q' l a w → wpAnyIn F nd P md ops Q' l.length listed a w
  | [], _, _, _, _, _, hB, h => ⟨by simpa [Region.seqB] using hB, h⟩
  | o :: l, k, listed, a, w, hl, hB, h => by
    have h0 : ops[k]? = some o := by simpa using (hl 0).symm
    simp only [List.length_cons, Region.seqB, Bool.and_eq_true, decide_eq_true_eq] at hB
    refine ⟨fun h1 => (by rw [hB.1] at h1; cases h1), fun i hi => ?_⟩
    rw [hB.1] at hi
    have hik : i = k := by simpa using hi
    subst hik
    have hw : wpOpIn F nd P ops Q' i (wpListIn F nd P ops Q' l) a w := by unfold wpOpIn; simp only [h0]; exact h
    exact wpOpIn_mono (fun a' w' h' => wpAnyIn_of_seq l (i + 1) _ a' w' (fun j => by have := hl (j + 1); simpa [Nat.add_assoc, Nat.add_comm 1 j] using this) hB.2 h') hw

theorem wpAnyIn_of_G {n g : Nat} {L : Array Bool → Act → Prop} {Q' : Exit → Act → World → Prop}
    (hnd : ∀ (i : Nat) (o : Oper), ops[i]? = some o → ∀ c, o.op ≠ Op.defer c)
    (hZ : ∀ i o T, i < n → ops[i]? = some o → allocOf o = some T → ∀ (ρ : Operand → Value) w, (execOp ρ o).run P w = .ok (.value (ptr w.heap.size)) (w.alloc (.cells (Z T) T)))
    (hown : ownSlots ops n) (sz : Nat) (hslots : ∀ i o t, i < n → ops[i]? = some o → o.dst = some t → t < sz)
    (hL : ∀ listed a w, Fr nob W0 w → Made ops n W0 Z listed a w → L listed a → wpAnyIn (Fence.wide.inRound lr) nd P md ops Q' g listed a w) :
    ∀ (f : Nat) (listed : Array Bool) (a : Act) (w : World), Fr nob W0 w → Made ops n W0 Z listed a w → a.tmps.size = sz → wpAnyG P md ops W0 vals n L f listed a → wpAnyIn (Fence.wide.inRound lr) nd P md ops Q' (f + g) listed a w
  | 0, listed, a, w, fr, hJ, _, h => by rw [Nat.zero_add]; exact hL _ _ _ fr hJ h
  | f + 1, listed, a, w, fr, hJ, hsz, h => by
    rw [show f + 1 + g = (f + g) + 1 by omega]
    refine ⟨fun h0 => absurd h0 h.1, fun i hi => ?_⟩
    obtain ⟨hin, hg⟩ := h.2 i hi
    obtain ⟨_, o, ho, _⟩ := mem_ready.1 hi
    unfold gOp at hg
    unfold wpOpIn
    simp only [ho] at hg ⊢
    have hsem : Oper.semAt (Fence.wide.inRound lr).round a.eval o = execOp a.eval o := Oper.semAt_eq _ _ _ (hnd i o ho)
    cases hT : allocOf o with
    | some T =>
      simp only [hT] at hg
      obtain ⟨hop, hgd, t, ht⟩ := allocOf_spec hT
      rw [if_pos (by simp [Region.wanted, hgd])]
      refine ⟨fun _ _ => trivial, ?_⟩
      rw [hsem, hZ i o T hin ho hT]
      exact wpAnyIn_of_G hnd hZ hown sz hslots hL f _ _ _ (fr.alloc _) (hJ.new ho hin hT ht (by rw [hsz]; exact hslots i o t hin ho ht) hown fr) (by rw [put_size]; exact hsz) (hg w.heap.size fr.size)
    | none =>
      simp only [hT] at hg
      obtain ⟨hy, hK⟩ := hg
      rcases hy with ⟨hw, hv⟩ | ⟨hw, hv⟩
      · rw [if_pos hw]
        refine ⟨fun _ _ => trivial, ?_⟩
        rw [hsem]
        have h3 := hv w fr
        unfold growAt at h3
        generalize (execOp a.eval o).run P w = r at *
        cases r with
        | ok nx w' =>
          cases nx <;> simp only [growUpon] at h3 <;> simp only [Oper.uponIn]
          case value u =>
            obtain ⟨e1, e2⟩ := h3
            rw [e1, e2]
            exact wpAnyIn_of_G hnd hZ hown sz hslots hL f _ _ _ fr (hJ.next ho hin hT hown (Fr.refl _ _)) (by rw [put_size]; exact hsz) hK
          case skip =>
            obtain ⟨e1, e2⟩ := h3
            rw [e1, ← e2]
            exact wpAnyIn_of_G hnd hZ hown sz hslots hL f _ _ _ fr (hJ.next ho hin hT hown (Fr.refl _ _)) (by rw [put_size]; exact hsz) hK
          case enter fi args =>
            obtain ⟨e1, hc⟩ := h3
            rw [e1]
            refine ⟨fun h => (by cases h), CallsIn.inRound lr (callsIn_wide.2 (hc.mono fun e w'' ⟨he, hw''⟩ => ?_))⟩
            subst he
            exact wpAnyIn_of_G hnd hZ hown sz hslots hL f _ _ _ (fr.trans hw'' (fun _ _ h => h)) (hJ.next ho hin hT hown hw'') (by rw [put_size]; exact hsz) hK
        | halt x w' => simp only [growUpon] at h3
      · rw [if_neg (by rw [hw]; exact Bool.false_ne_true), ← hv]
        exact ⟨fun _ _ => trivial, wpAnyIn_of_G hnd hZ hown sz hslots hL f _ _ _ fr (hJ.next ho hin hT hown (Fr.refl _ _)) (by rw [put_size]; exact hsz) hK⟩

/-- **THE RULE, IN A ROUND.** -/
theorem wpIn_region_grow {id : Nat} {Q : Exit → Act → World → Prop} {a : Act} {w : World} {l : List Oper} (n sz : Nat) (hm : P.follows .mixedOrders = true) (hB : growB l n sz = true) (hd : noDefer l = true) (hsz : a.tmps.size = sz)
    (hts : allocTypes (l.take n) = [])
    (h : wpGrow P l.toArray w (fun a' => ∀ w', Fr nob w w' → wpListIn (Fence.wide.inRound lr) nd P l.toArray Q (l.drop n) a' w') (l.take n) a) :
    (Code.region id l.toArray true).wpIn (Fence.wide.inRound lr) nd P Q a w := by
  simp only [growB, Bool.and_eq_true] at hB
  obtain ⟨⟨⟨hlt, hown⟩, hsl⟩, hal⟩ := hB
  simp only [Region.lexTailB, Bool.and_eq_true, decide_eq_true_eq] at hlt
  obtain ⟨⟨⟨⟨hsel, hn⟩, hs⟩, hc⟩, hlex⟩ := hlt
  have hn' : n < l.length := by simpa using hn
  have htl : (l.take n).length = n := by simp; omega
  have hdl : (l.drop n).length = l.toArray.size - n := by simp
  have inv0 : HeadInv .any l.toArray n (Array.replicate l.toArray.size false) :=
    ⟨by simp, fun j oj _ hl => (by rw [getD_replicate_false] at hl; cases hl), fun t _ ht => getD_in (by simpa using ht) (getD_replicate_false _ _)⟩
  obtain ⟨vals, hV⟩ := growV_of (l.take n) 0 a hal h
  have H := wpAnyG_lex (md := .any) (g := l.toArray.size - n) hsel hs hc hn (l.take n) 0 _ a (fun j hj => by
    have hj' : j < n := by rw [htl] at hj; exact hj
    simp [hj']) (by simpa using htl) inv0 (by rw [htl]; exact hlex) hV
  refine wpIn_region_any hm ?_
  have fr0 : Fr nob w { w with drawn := w.drawn + 1 } := ⟨rfl, rfl, rfl, Nat.le_refl _, fun _ _ _ => rfl⟩
  have := wpAnyIn_of_G (lr := lr) (nd := nd) (Q' := Q) (g := l.toArray.size - n) (Z := fun _ => #[]) (fun i o ho => noDefer_of hd i o (by simpa using ho)) (fun i o T hi ho hT => by
    have hmem : T ∈ ([] : List TypeId) := by
      rw [← hts]
      refine List.mem_filterMap.2 ⟨o, List.mem_of_getElem? (i := i) ?_, hT⟩
      rw [List.getElem?_take, if_pos hi]; simpa using ho
    cases hmem) (ownSlots_of hown) sz (slots_of hsl) (fun listed a' w' fr hJ hL => by
    have := wpAnyIn_of_seq (F := Fence.wide.inRound lr) (nd := nd) (md := .any) (Q' := Q) (l.drop n) n listed a' w' (fun j => by simp [List.getElem?_drop]) (by rw [hdl]; exact hL.1.1) (hL.2 w' fr)
    rwa [hdl] at this) _ _ _ _ fr0 (by intro i o T t _ _ _ _ hl; rw [getD_replicate_false] at hl; cases hl) hsz H
  rw [htl, show n + (l.toArray.size - n) = l.toArray.size by omega] at this
  exact this
end
end Go.Proofs.YtalnhlebgofiiaaGreatDoor
