import Derived.Test.YtiainlccodnlmaaDoorBoths
import Derived.Test.YtiainlccodnlmaaDoorAllD
import Derived.Test.YtiainlccodnlmaaDoorRAll
import Derived.Test.YtiainlccodnlmaaDoorWake
namespace Go.Proofs.YtiainlccodnlmaaDoor
open Go.RowKit Go.Shelf
open Bd
attribute [local go_sem] Oper.semAt_some

section
variable {P : Program} {ops : Array Oper} {md : Region.Mode} {W0 : World} {vals : Nat → Value} {Z : TypeId → Array Value} {nd : Nat}
theorem wpAnyW_of_G {n g : Nat} {L : Array Bool → Act → Prop} {Q' : Exit → Act → World → Prop}
    (hnd : ∀ (i : Nat) (o : Oper), ops[i]? = some o → ∀ c, o.op ≠ Op.defer c)
    (hZ : ∀ i o T, i < n → ops[i]? = some o → allocOf o = some T → ∀ (ρ : Operand → Value) w, (execOp ρ o).run P w = .ok (.value (ptr w.heap.size)) (w.alloc (.cells (Z T) T)))
    (hown : ownSlots ops n) (sz : Nat) (hslots : ∀ i o t, i < n → ops[i]? = some o → o.dst = some t → t < sz)
    (hL : ∀ listed a w, Fr nob W0 w → Made ops n W0 Z listed a w → L listed a → wpAnyIn Fence.wide nd P md ops Q' g listed a w) :
    ∀ (f : Nat) (listed : Array Bool) (a : Act) (w : World), Fr nob W0 w → Made ops n W0 Z listed a w → a.tmps.size = sz → wpAnyG P md ops W0 vals n L f listed a → wpAnyIn Fence.wide nd P md ops Q' (f + g) listed a w
  | 0, listed, a, w, fr, hJ, _, h => by rw [Nat.zero_add]; exact hL _ _ _ fr hJ h
  | f + 1, listed, a, w, fr, hJ, hsz, h => by
    rw [show f + 1 + g = (f + g) + 1 by omega]
    refine ⟨fun h0 => absurd h0 h.1, fun i hi => ?_⟩
    obtain ⟨hin, hg⟩ := h.2 i hi
    obtain ⟨_, o, ho, _⟩ := mem_ready.1 hi
    unfold gOp at hg
    unfold wpOpIn
    simp only [ho] at hg ⊢
    have hsem : Oper.semAt Fence.wide.round a.eval o = execOp a.eval o := Oper.semAt_eq _ _ _ (hnd i o ho)
    cases hT : allocOf o with
    | some T =>
      simp only [hT] at hg
      obtain ⟨hop, hgd, t, ht⟩ := allocOf_spec hT
      rw [if_pos (by simp [Region.wanted, hgd])]
      refine ⟨fun _ _ => trivial, ?_⟩
      rw [hsem, hZ i o T hin ho hT]
      exact wpAnyW_of_G hnd hZ hown sz hslots hL f _ _ _ (fr.alloc _) (hJ.new ho hin hT ht (by rw [hsz]; exact hslots i o t hin ho ht) hown fr) (by rw [put_size]; exact hsz) (hg w.heap.size fr.size)
    | none =>
      simp only [hT] at hg
      obtain ⟨hy, hK⟩ := hg
      rcases hy with ⟨hw, hv⟩ | ⟨hw, hv⟩
      · rw [if_pos hw]
        refine ⟨fun _ _ => trivial, ?_⟩
        rw [hsem]
        have h3 := hv w fr
        unfold growAt at h3
        generalize (execOp a.eval o).run P w = r at *
        cases r with
        | ok nx w' =>
          cases nx <;> simp only [growUpon] at h3 <;> simp only [Oper.uponIn]
          case value u =>
            obtain ⟨e1, e2⟩ := h3
            rw [e1, e2]
            exact wpAnyW_of_G hnd hZ hown sz hslots hL f _ _ _ fr (hJ.next ho hin hT hown (Fr.refl _ _)) (by rw [put_size]; exact hsz) hK
          case skip =>
            obtain ⟨e1, e2⟩ := h3
            rw [e1, ← e2]
            exact wpAnyW_of_G hnd hZ hown sz hslots hL f _ _ _ fr (hJ.next ho hin hT hown (Fr.refl _ _)) (by rw [put_size]; exact hsz) hK
          case enter fi args =>
            obtain ⟨e1, hc⟩ := h3
            rw [e1]
            refine ⟨fun h => (by cases h), callsIn_wide.2 (hc.mono fun e w'' ⟨he, hw''⟩ => ?_)⟩
            subst he
            exact wpAnyW_of_G hnd hZ hown sz hslots hL f _ _ _ (fr.trans hw'' (fun _ _ h => h)) (hJ.next ho hin hT hown hw'') (by rw [put_size]; exact hsz) hK
        | halt x w' => simp only [growUpon] at h3
      · rw [if_neg (by rw [hw]; exact Bool.false_ne_true), ← hv]
        exact ⟨fun _ _ => trivial, wpAnyW_of_G hnd hZ hown sz hslots hL f _ _ _ fr (hJ.next ho hin hT hown (Fr.refl _ _)) (by rw [put_size]; exact hsz) hK⟩

/-- **THE RULE, OUT OF A ROUND.** -/
theorem wpW_region_grow {id : Nat} {Q : Exit → Act → World → Prop} {a : Act} {w : World} {l : List Oper} (n sz : Nat) (hm : P.follows .mixedOrders = true) (hB : growB l n sz = true) (hd : noDefer l = true) (hsz : a.tmps.size = sz)
    (hts : allocTypes (l.take n) = [])
    (h : wpGrow P l.toArray w (fun a' => ∀ w', Fr nob w w' → wpListIn Fence.wide nd P l.toArray Q (l.drop n) a' w') (l.take n) a) :
    (Code.region id l.toArray true).wpIn Fence.wide nd P Q a w := by
  simp only [growB, Bool.and_eq_true] at hB
  obtain ⟨⟨⟨hlt, hown⟩, hsl⟩, hal⟩ := hB
  simp only [Region.lexTailB, Bool.and_eq_true, decide_eq_true_eq] at hlt
  obtain ⟨⟨⟨⟨hsel, hn⟩, hs⟩, hc⟩, hlex⟩ := hlt
  have hn' : n < l.length := by simpa using hn
  have htl : (l.take n).length = n := by simp; omega
  have hdl : (l.drop n).length = l.toArray.size - n := by simp
  have inv0 : HeadInv .any l.toArray n (Array.replicate l.toArray.size false) :=
    ⟨by simp, fun j oj _ hl => (by rw [getD_replicate_false] at hl; cases hl), fun t _ ht => getD_in (by simpa using ht) (getD_replicate_false _ _)⟩
  obtain ⟨vals, hV⟩ := growV_of (l.take n) 0 a hal h
  have H := wpAnyG_lex (md := .any) (g := l.toArray.size - n) hsel hs hc hn (l.take n) 0 _ a (fun j hj => by
    have hj' : j < n := by rw [htl] at hj; exact hj
    simp [hj']) (by simpa using htl) inv0 (by rw [htl]; exact hlex) hV
  refine wpIn_region_any hm ?_
  have fr0 : Fr nob w { w with drawn := w.drawn + 1 } := ⟨rfl, rfl, rfl, Nat.le_refl _, fun _ _ _ => rfl⟩
  have := wpAnyW_of_G (nd := nd) (Q' := Q) (g := l.toArray.size - n) (Z := fun _ => #[]) (fun i o ho => noDefer_of hd i o (by simpa using ho)) (fun i o T hi ho hT => by
    have hmem : T ∈ ([] : List TypeId) := by
      rw [← hts]
      refine List.mem_filterMap.2 ⟨o, List.mem_of_getElem? (i := i) ?_, hT⟩
      rw [List.getElem?_take, if_pos hi]; simpa using ho
    cases hmem) (ownSlots_of hown) sz (slots_of hsl) (fun listed a' w' fr hJ hL => by
    have := wpAnyIn_of_seq (F := Fence.wide) (nd := nd) (md := .any) (Q' := Q) (l.drop n) n listed a' w' (fun j => by simp [List.getElem?_drop]) (by rw [hdl]; exact hL.1.1) (hL.2 w' fr)
    rwa [hdl] at this) _ _ _ _ fr0 (by intro i o T t _ _ _ _ hl; rw [getD_replicate_false] at hl; cases hl) hsz H
  rw [htl, show n + (l.toArray.size - n) = l.toArray.size by omega] at this
  exact this
end

/-- 'out = append(out, ..)' in a boxed variable: which blocks are kept -/
theorem app_box {W w1 : World} {n B : Nat} {t e : TypeId} {size : Nat} {v v' : Value} {k m : Nat} {xs ys : List Value} {tmp : Obj}
    (hv : Boxed W B t v) (hte : t ≠ e) (hrow : W.ownsRow n e size v k xs) (hown' : w1.ownsRow n e size v' m ys) (hgrow : (W.alloc tmp).grownBy w1 v.ownBlock) :
    Boxed w1 B t v ∧ Boxed (w1.setCell ⟨B, 0, none⟩ v') B t v' ∧ (w1.setCell ⟨B, 0, none⟩ v').ownsRow n e size v' m ys ∧ KeepsOthers W (w1.setCell ⟨B, 0, none⟩ v') ∧
      Fr (fun k => k = B ∨ some k = v.ownBlock) W (w1.setCell ⟨B, 0, none⟩ v') := by
  have hv1 : Boxed w1 B t v := (hv.alloc tmp).kept hgrow (hv.not_row hte hrow)
  refine ⟨hv1, hv1.set v', hown'.kept (grownBy_setCell' w1 B v') (.inr (hv1.not_row hte hown').symm), ?_, ?_⟩
  · refine ((KeepsOthers.alloc W tmp).trans (KeepsOthers.of_grownBy hgrow fun j o ej hj => ?_)).trans (KeepsOthers.setCell _ _ _)
    rcases (hrow.alloc tmp).2 with ⟨rfl, _⟩ | ⟨g, cap, cur, rfl, _, hgb, _⟩
    · simp [Value.ownBlock] at ej
    · obtain rfl : g = j := by simpa [Value.ownBlock] using ej
      rw [hgb] at hj; cases hj; rfl
  · have f1 : Fr (fun k => k = B ∨ some k = v.ownBlock) W (W.alloc tmp) := (Fr.refl _ W).alloc _
    have hs : W.heap.size ≤ (W.alloc tmp).heap.size := f1.size
    have g2 := grownBy_setCell' w1 B v'
    refine ⟨g2.os.trans (hgrow.os.trans f1.os), g2.tape.trans (hgrow.tape.trans f1.tape), g2.output.trans (hgrow.output.trans f1.output), Nat.le_trans hs (Nat.le_trans hgrow.size g2.size), fun k hk hS => ?_⟩
    have h1 := f1.block k hk hS
    have h2 := hgrow.block k (by omega) (fun e => hS (.inr e))
    have h3 := g2.block k (Nat.lt_of_lt_of_le (Nat.lt_of_lt_of_le hk hs) hgrow.size) (fun e => hS (.inl (by simpa using e)))
    exact h3.trans (h2.trans h1)
theorem ownBlock_type {W : World} {n e size k : Nat} {v : Value} {xs : List Value} (h : W.ownsRow n e size v k xs) {j : Nat} (hj : some j = v.ownBlock) : n ≤ j ∧ ∃ cs z, W.heap[j]? = some (.cells cs e z) := by
  rcases h.2 with ⟨rfl, _⟩ | ⟨g, cap, cur, rfl, hb, hgb, _⟩
  · simp [Value.ownBlock] at hj
  · obtain rfl : j = g := by simpa [Value.ownBlock] using hj
    exact ⟨hb, _, _, hgb⟩
/-- what a loop over a set's configurations has collected -/
def Coll (w1 : World) (q : Nat) (pre : List Nat) (W : World) : Prop := ∃ v, Boxed W q 53 v ∧ W.ownsRow w1.heap.size 29 1 v pre.length (pre.map uc) ∧ Fr (fun k => k = q) w1 W
theorem Coll.own (w1 : World) (q : Nat) : OwnFrom w1.heap.size (Coll w1 q) := by
  rintro pre W W' row ⟨v, hv, hr, hf⟩ hg hrow
  refine ⟨v, hv.kept hg (fun e' => ?_), hr.kept hg ?_, ?_⟩
  · obtain ⟨_, o, ho, hc⟩ := hrow q e'.symm
    rw [show W.heap[q]? = _ from hv] at ho; cases ho; cases hc
  · rcases hr.2 with ⟨rfl, _⟩ | ⟨g, cap, cur, rfl, _, hgb, _⟩
    · exact .inl rfl
    · refine .inr fun e' => ?_
      obtain ⟨_, o, ho, hc⟩ := hrow g (by simpa [Value.ownBlock] using e'.symm)
      rw [hgb] at ho; cases ho; cases hc
  · refine ⟨hg.os.trans hf.os, hg.tape.trans hf.tape, hg.output.trans hf.output, Nat.le_trans hf.size hg.size, fun k hk hS => (hg.block k (Nat.lt_of_lt_of_le hk hf.size) (fun e => ?_)).trans (hf.block k hk hS)⟩
    have := (hrow k e.symm).1; omega
/-- a round of the loop -/
theorem Coll.next {w1 : World} {q : Nat} {pre : List Nat} {x : Nat} {W w3 : World} {v v' : Value} {tmp : Obj} (hv : Boxed W q 53 v) (hr : W.ownsRow w1.heap.size 29 1 v pre.length (pre.map uc)) (hf : Fr (fun k => k = q) w1 W)
    (hown' : w3.ownsRow w1.heap.size 29 1 v' (pre.length + 1) (pre.map uc ++ [uc x])) (hgrow : (W.alloc tmp).grownBy w3 v.ownBlock) :
    Boxed w3 q 53 v ∧ Coll w1 q (pre ++ [x]) (w3.setCell ⟨q, 0, none⟩ v') ∧ KeepsOthers W (w3.setCell ⟨q, 0, none⟩ v') ∧ KeepsD W (w3.setCell ⟨q, 0, none⟩ v') := by
  obtain ⟨h1, h2, h3, h4, h5⟩ := app_box hv (by decide) hr hown' hgrow
  refine ⟨h1, ⟨v', h2, by rw [List.length_append, List.map_append]; exact h3, ?_⟩, h4, fun k cs z hk => ?_⟩
  · refine ⟨h5.os.trans hf.os, h5.tape.trans hf.tape, h5.output.trans hf.output, Nat.le_trans hf.size h5.size, fun k hk hS => (h5.block k (Nat.lt_of_lt_of_le hk hf.size) ?_).trans (hf.block k hk hS)⟩
    rintro (e | e)
    · exact hS e
    · have := (ownBlock_type hr e).1; omega
  · refine (h5.block k (Array.getElem?_eq_some_iff.1 hk).1 ?_).trans hk
    rintro (e | e)
    · subst e; rw [show W.heap[k]? = _ from hv] at hk; cases hk
    · obtain ⟨_, cs', z', hh⟩ := ownBlock_type hr e
      rw [hh] at hk; cases hk

theorem Coll.box {w1 : World} {q : Nat} {pre : List Nat} {W : World} (h : Coll w1 q pre W) {b : Nat} {t : TypeId} {v : Value} (hb : Boxed w1 b t v) (hne : b ≠ q) : Boxed W b t v := by
  obtain ⟨_, _, _, hf⟩ := h
  exact (hf.block _ hb.lt hne).trans hb
theorem cell_unset {W : World} {q b : Nat} {x v : Value} (h : (W.setCell ⟨q, 0, none⟩ x).cell? ⟨b, 0, none⟩ = some v) (_hne : b ≠ q) : W.cell? ⟨b, 0, none⟩ = some v := by
  rwa [World.cell?_setCell_other _ _ _ _ (by simp)] at h
theorem rf_own {α : Type} {F : Fence} {n : Nat} {P : Program} {g : Operand} {t : Tmp} {assign body : Code} {Q : Exit → Act → World → Prop} {a : Act} {w : World} (q : Tmp) (enc : α → Value)
    (hro : F.round = none) (h1 : 1 ≤ n) {gf : Nat} {lb : Array Value} (hg : a.eval g = .func (.func gf) #[] lb) (hFg : F.fn gf) (eg : ∀ args w, (callFunc gf args).run P w = .ok (.enter gf args) w)
    {S Sp : List α → Prop} {N : Nat} {w0 : World} (hseq : SeqStopsK F (n - 1) P gf lb (fun x => #[enc x]) KeepsD S Sp N w0) (hb0 : Below w0.heap.size w0 w)
    (I : List α → World → Prop) (Ix : Code → List α → World → Prop) (hI : OwnFrom w.heap.size I) (hIx : ∀ c, OwnFrom w.heap.size (Ix c)) (h0 : I [] w)
    (hassign : ∀ (l : Nat) (x : α) (W : World) (K : Act → World → Prop), K { tmps := (a.tmps.setIfInBounds t (enc x)).setIfInBounds q (enc x), defers := [] } W →
      assign.wpIn (F.inRound l) (n - 1 - 1) P (Exit.then K (fun _ _ _ => False)) { tmps := a.tmps.setIfInBounds t (enc x), defers := [] } W)
    (hbody : ∀ (l : Nat) (pre : List α) (x : α) (W : World), I pre W → pre.length < N → body.wpIn (F.inRound l) (n - 1 - 1) P (ownPostG w.heap.size KeepsD I Ix (pre ++ [x]) W) { tmps := (a.tmps.setIfInBounds t (enc x)).setIfInBounds q (enc x), defers := [] } W)
    (hdone : ∀ (D : Nat) (xs : List α) (W : World), w.heap.size ≤ D → S xs → I xs W → W.heap[D]? = some (.deferred (some [])) → Q .normal { a with defers := { target := .collected D, args := #[] } :: a.defers } W)
    (hstop : ∀ (D : Nat) (c : Code) (pre : List α) (W : World), w.heap.size ≤ D → Sp pre → Ix c pre W → W.heap[D]? = some (.deferred (some [])) → c.wpIn F n P Q { a with defers := { target := .collected D, args := #[] } :: a.defers } W) :
    (Code.rangeFunc g #[t] assign body).wpIn F n P Q a w :=
  wpIn_rangeFunc_ownG hro h1 hg hFg eg hseq (fun h k => h.trans k) (fun W l o o' _ h ho _ => KeepsD.putObj W l o o' h ho) hb0 (fun _ => rfl) I Ix hI hIx h0
    (fun x => { tmps := (a.tmps.setIfInBounds t (enc x)).setIfInBounds q (enc x), defers := [] }) (fun l x W K hK => by have h := hassign l x W K hK; simpa using h) hbody hdone hstop

theorem Coll.fr {w1 : World} {q : Nat} {pre : List Nat} {W : World} (h : Coll w1 q pre W) : Fr (fun k => k = q) w1 W := by
  obtain ⟨_, _, _, hf⟩ := h; exact hf
theorem Coll.srow {w1 : World} {q : Nat} {pre : List Nat} {W W' : World} (h : Coll w1 q pre W) {q2 : Nat} (hq2 : q2 < w1.heap.size) (hf : Fr (fun k => k = q2) W W') (hne : q ≠ q2) :
    ∃ a cap, Boxed W' q 53 (.slice a pre.length cap) ∧ SRow W' (.slice a pre.length cap) (pre.map uc) := by
  obtain ⟨v, hv, hr, _⟩ := h
  have hs := SRow.of_own hr
  obtain ⟨a, cap, e⟩ := hs.form
  rw [List.length_map] at e
  subst e
  refine ⟨a, cap, (hf.block q hv.lt hne).trans hv, a, cap, by rw [List.length_map], fun j u hj => ?_⟩
  obtain ⟨g, ha, hc⟩ := hs.at hj
  refine ⟨g, ha, hf.cell hc ?_⟩
  rcases hr.2 with ⟨e, _⟩ | ⟨g', cap', cur, e, hb, _⟩
  · subst ha; cases e
  · subst ha
    obtain rfl : g = g' := by simpa using congrArg (fun v => match v with | Value.slice (some a) _ _ => a.block | _ => 0) e
    show ¬ g = q2
    omega
theorem Coll.own_row {w1 : World} {q : Nat} {pre : List Nat} {W : World} (h : Coll w1 q pre W) :
    ∃ a cap, Boxed W q 53 (.slice a pre.length cap) ∧ SRow W (.slice a pre.length cap) (pre.map uc) := by
  obtain ⟨v, hv, hr, _⟩ := h
  have hs := SRow.of_own hr
  obtain ⟨a, cap, e⟩ := hs.form
  rw [List.length_map] at e
  subst e
  exact ⟨a, cap, hv, hs⟩
theorem _root_.Go.Boxed.kept' {W W' : World} {b : Nat} {t : TypeId} {v : Value} (h : Boxed W b t v) (f : Fr nob W W') : Boxed W' b t v := (f.block _ h.lt (fun h => h)).trans h
theorem heap_ne {W : World} {D q : Nat} {o : Obj} {t : TypeId} {v : Value} (h : W.heap[D]? = some o) (ho : o.isCells = false) (hb : Boxed W q t v) : D ≠ q := fun e => by
  subst e; rw [show W.heap[D]? = _ from hb] at h; cases h; cases ho

def LPost (w : World) (e : Ending) (w' : World) : Prop := e = .returned (.bool true) ∧ Below w.heap.size w w'

set_option maxRecDepth 100000 in
set_option maxHeartbeats 4000000 in
theorem lists_in (n : Nat) (hn : 6 ≤ n) (L : List OpD) (hx : ∀ x ∈ L, x.Fits) (nn : Int) (en : Nat) (hen : en < 256) (v : Value) (w : World) (hv : ORow w v L) (hg : 0 < w.heap.size) (hT : Tab32 w) :
    CallsIn Fence.wide n Tryd.prog 6 #[v, .int .i64 nn, .int .u8 (en : Int)] w (LPost w) := by
  have h1 : 1 ≤ n := by omega
  have hro : Fence.wide.round = none := rfl
  have hme := fun W (h : ORow W v L) => callsIn_wide (n := n - 1) |>.2 (Mentioned_any L hx v W h)
  have hwk := fun W => callsIn_wide (n := n - 1) |>.2 (wakes_any W)
  have HWK := Lib.hid hwk
  have HME := Lib.hid hme
  have HX := Lib.hid hx
  have HV := Lib.hid hv
  have HT := Lib.hid hT
  obtain ⟨a, cap, rfl⟩ := hv.form
  clear hv hx hT hwk hme
  have hf1 : Fence.wide.fn 8 := trivial
  have hf2 : Fence.wide.fn 9 := trivial
  have hf3 : Fence.wide.fn 10 := trivial
  have hf4 : Fence.wide.fn 31 := trivial
  have hf5 : Fence.wide.fn 32 := trivial
  refine callsIn_of_wp_marks Tryd.func6 rfl trivial ?_ hro
  simp only [Tryd.ntmps6, List.size_toArray, List.length_cons, List.length_nil, Nat.reduceAdd, Nat.reduceSub, Array.replicate_succ, Array.replicate_zero, List.push_toArray, List.append_toArray, List.nil_append, List.cons_append]
  gi_upto_region 1 with fail
  have f0 : Fr nob w (w.alloc (.cells #[.int .u8 (en : Int)] 5)) := (Fr.refl nob w).alloc _
  have B0 : Boxed (w.alloc (.cells #[.int .u8 (en : Int)] 5)) w.heap.size 5 (.int .u8 (en : Int)) := Boxed.new w _ _
  generalize w.alloc (.cells #[.int .u8 (en : Int)] 5) = W0 at *
  have HF0 := Lib.hid f0
  have HB0 := Lib.hid B0
  clear f0 B0
  gi_wp2_with fail
  refine (HME.out _ (HV.out.kept HF0.out)).mono ?_
  rintro e w1 ⟨b, rfl, hb, hb1⟩
  dsimp only
  rename_i hk1
  refine hk1 _ _ ?_
  clear hk1 HME
  have HF1 := Lib.hid (HF0.out.below hb1)
  have HB1 := Lib.hid (show Boxed w1 w.heap.size 5 (.int .u8 (en : Int)) from (hb1.block _ HB0.out.lt).trans HB0.out)
  clear hb1 HF0 HB0
  have HB := Lib.hid hb
  clear hb
  cases b with
  | false =>
    clear HB
    gi_wp2_with fail
    refine (HWK.out _).mono ?_
    rintro e w2 ⟨rfl, hb2⟩
    dsimp only
    rename_i hk1
    refine hk1 _ _ ?_
    clear hk1
    have HF2 := Lib.hid (HF1.out.below hb2)
    clear hb2
    gi_wp2_with fail
    exact ⟨.bool true, by simp [results, Tryd.results6, go_sem], rfl, HF2.out.to_below (Nat.le_refl _) (fun _ h => h.elim)⟩
  | true =>
    by_cases hn10 : 10 < nn
    · have d1 : decide (10 < nn) = true := by simpa using hn10
      gi_wp2_with fail
      refine (HWK.out _).mono ?_
      rintro e w2 ⟨rfl, hb2⟩
      dsimp only
      rename_i hk1
      refine hk1 _ _ ?_
      clear hk1
      have HF2 := Lib.hid (HF1.out.below hb2)
      clear hb2
      gi_wp2_with fail
      exact ⟨.bool true, by simp [results, Tryd.results6, go_sem], rfl, HF2.out.to_below (Nat.le_refl _) (fun _ h => h.elim)⟩
    · have d1 : decide (10 < nn) = false := by simpa using hn10
      obtain ⟨h12, h40⟩ := HB.out rfl
      have hbo := fun W (h : ORow W (.slice a L.length cap) L) (hW : 0 < W.heap.size) (hT : Tab32 W) => callsIn_wide (n := n - 1) |>.2 (Both_any L (by omega) (fun x hm => ⟨HX.out x hm, Nat.le_trans (h40 x hm) (by decide)⟩) _ W h hW hT)
      have hlen : (scr L).length = L.length + 1 := scr_len L
      have HOK := Lib.hid (ok_scr L)
      have hbo1 := hbo w1 (HV.out.kept HF1.out) (Nat.lt_of_lt_of_le hg HF1.out.size) (HT.out.below (HF1.out.to_below (B := w.heap.size) (Nat.le_refl _) (fun _ h => h.elim)) hg)
      clear hbo HB h40
      generalize scr L = s at *
      obtain ⟨m, hm⟩ : ∃ m, s.length = m + 1 := ⟨L.length, hlen⟩
      have hml : m < s.length := by omega
      have hm13 : m ≤ 12 := by omega
      have HBO := Lib.hid hbo1
      have HLEN := Lib.hid hm
      have HML := Lib.hid hml
      clear hlen hml hbo1 hm
      gi_wp2_with fail
      refine HBO.out.mono ?_
      rintro e w2 ⟨sv, tv, rfl, hS, hTr, hb2⟩
      dsimp only
      rename_i hk1
      refine hk1 _ _ ?_
      clear hk1 HBO
      have HF2 := Lib.hid (HF1.out.below hb2)
      have HB2 := Lib.hid (show Boxed w2 w.heap.size 5 (.int .u8 (en : Int)) from (hb2.block _ HB1.out.lt).trans HB1.out)
      clear hb2 HF1 HB1
      obtain ⟨aS, capS, rfl⟩ := hS.form
      obtain ⟨gT, capT, rfl⟩ := hTr.form
      have hml := HML.out
      obtain ⟨gS, rfl, c0, c1⟩ := hS.at (getD_some hml)
      obtain ⟨qY, nY, cY, tY, mY, dY, VY, e0, e1, hsY⟩ := hTr.at hml
      have hok := ok_getD HOK.out m
      have hm := HLEN.out
      rw [hm]
      clear hS hTr hml hm HML HLEN HOK
      generalize s.getD m .F = A at *
      have HC0 := Lib.hid c0
      have HC1 := Lib.hid c1
      have HE0 := Lib.hid e0
      have HE1 := Lib.hid e1
      have HSY := Lib.hid hsY
      clear c0 c1 e0 e1 hsY
      gi_wp2_with fail
      refine (HWK.out _).mono ?_
      rintro e w3 ⟨rfl, hb3⟩
      dsimp only
      rename_i hk1
      refine hk1 _ _ ?_
      clear hk1
      have f3 := (Fr.refl nob w2).below hb3
      have HF3 := Lib.hid (HF2.out.trans f3 (fun _ _ h => h))
      have HB3 := Lib.hid (show Boxed w3 w.heap.size 5 (.int .u8 (en : Int)) from (hb3.block _ HB2.out.lt).trans HB2.out)
      have c0 := f3.cell' HC0.out (fun h => h)
      have c1 := f3.cell' HC1.out (fun h => h)
      have e0 := f3.cell' HE0.out (fun h => h)
      have e1 := f3.cell' HE1.out (fun h => h)
      have hra := callsIn_wide (n := n - 1) |>.2 (RAll_any VY A.ev nn (by omega) _ w3 (HSY.out.kept f3))
      have hal := fun W => callsIn_wide (n := n - 1) |>.2 (All_any A hok nn (by omega) W)
      have HRA := Lib.hid hra
      have HAL := Lib.hid hal
      clear hra hal f3 hb3 HB2 HF2 HC0 HC1 HE0 HE1 HSY
      have em : ((m + 1 : Nat) : Int) - 1 = (m : Int) := by omega
      gi_wp2_with fail
      refine HRA.out.mono ?_
      rintro e w4 ⟨u, rfl, hu, hb4⟩
      obtain ⟨aW, capW, hue⟩ := hu.form
      rw [List.length_map] at hue
      subst hue
      dsimp only
      rename_i hk1
      refine hk1 _ _ ?_
      clear hk1 HRA e0 e1
      have f4 := (Fr.refl nob w3).below hb4
      have HF4 := Lib.hid (HF3.out.trans f4 (fun _ _ h => h))
      have HB4 := Lib.hid (show Boxed w4 w.heap.size 5 (.int .u8 (en : Int)) from (hb4.block _ HB3.out.lt).trans HB3.out)
      replace c0 := f4.cell' c0 (fun h => h)
      replace c1 := f4.cell' c1 (fun h => h)
      have hQ10 : 2 ^ nn.toNat ≤ 2 ^ 10 := Nat.pow_le_pow_right (by omega) (by omega)
      have hQl := lstN_len A.ev (2 ^ nn.toNat)
      obtain ⟨Q, hQ⟩ : ∃ Q, lstN A.ev (2 ^ nn.toNat) = Q := ⟨_, rfl⟩
      rw [hQ] at hu hQl ⊢
      have hQ1024 : Q.length ≤ 1024 := by omega
      have HQ := Lib.hid hQ
      have HU := Lib.hid hu
      clear hQ hu hQl hQ10 f4 hb4 HF3 HB3
      gi_wp2_with fail
      refine (HAL.out _).mono ?_
      rintro e w5 ⟨g, hh, X, rfl, hb5, hX, hD5, hn5⟩
      dsimp only
      rename_i hk1
      refine hk1 _ _ ?_
      clear hk1 HAL c0 c1
      have f5 := (Fr.refl nob w4).below hb5
      have HF5 := Lib.hid (HF4.out.trans f5 (fun _ _ h => h))
      have HB5 := Lib.hid (show Boxed w5 w.heap.size 5 (.int .u8 (en : Int)) from (hb5.block _ HB4.out.lt).trans HB4.out)
      have HU5 := Lib.hid (HU.out.kept f5)
      have HD5 := Lib.hid hD5
      have HN5 := Lib.hid hn5
      have HQX := Lib.hid (show lstN X.ev (2 ^ nn.toNat) = Q from hX.lst.trans HQ.out)
      have hXok := hX.1
      clear hX hD5 hn5 f5 hb5 HF4 HB4 HU HQ hok
      gi_wp2_with fail
      have f6 : Fr nob w5 ((w5.alloc (.cells #[.slice none 0 0] 53)).alloc (.cells #[.slice none 0 0] 53)) := ((Fr.refl nob w5).alloc _).alloc _
      have b6 : Boxed ((w5.alloc (.cells #[.slice none 0 0] 53)).alloc (.cells #[.slice none 0 0] 53)) w5.heap.size 53 (.slice none 0 0) := (Boxed.new w5 _ _).alloc _
      have b7 : Boxed ((w5.alloc (.cells #[.slice none 0 0] 53)).alloc (.cells #[.slice none 0 0] 53)) (w5.heap.size + 1) 53 (.slice none 0 0) := by
        have := Boxed.new (w5.alloc (.cells #[.slice none 0 0] 53)) 53 (.slice none 0 0)
        simpa using this
      generalize (w5.alloc (.cells #[.slice none 0 0] 53)).alloc (.cells #[.slice none 0 0] 53) = w6 at *
      have HF6 := Lib.hid (HF5.out.trans f6 (fun _ _ h => h))
      have HB6 := Lib.hid (show Boxed w6 w.heap.size 5 (.int .u8 (en : Int)) from (f6.block _ HB5.out.lt (fun h => h)).trans HB5.out)
      have HU6 := Lib.hid (HU5.out.kept f6)
      have HD6 := Lib.hid (HD5.out.kept f6 (fun h => h))
      have HN6 := Lib.hid (f6.cell HN5.out (fun h => h))
      have hq0 : w.heap.size < w5.heap.size := HB5.out.lt
      obtain ⟨q, hq⟩ : ∃ q, w5.heap.size = q := ⟨_, rfl⟩
      rw [hq] at b6 b7 hq0 ⊢
      have HQ1 := Lib.hid b6
      have HQ2 := Lib.hid b7
      have HF56 := Lib.hid f6
      have HQ5 := Lib.hid hq
      clear hq b6 b7 f6
      obtain ⟨i0, hi0, hz0, hz1, hz2⟩ := info_parts info_u32
      have hlN : (lstN X.ev (2 ^ nn.toNat)).length = Q.length := by rw [HQX.out]
      have HLN := Lib.hid hlN
      clear hlN
      refine rf_own 14 uc hro h1 (gf := 69) (lb := #[.pointer (some ⟨g, 0, none⟩), .pointer (some ⟨hh, 0, none⟩)]) rfl trivial (enters_of Tryd.func69 (by kernel_rfl) rfl)
        (all_stops (n - 1) (by omega) X hXok nn.toNat (by omega) g hh w6 HD6.out HN6.out) (Below.refl _ _)
        (fun pre W => pre.length ≤ en ∧ Coll w6 q pre W) (fun c pre W => c = .exit 0 ∧ pre.length = en + 1 ∧ Coll w6 q pre W)
        (fun s A B row hs hg hr => ⟨hs.1, Coll.own w6 q s A B row hs.2 hg hr⟩) (fun c s A B row hs hg hr => ⟨hs.1, hs.2.1, Coll.own w6 q s A B row hs.2.2 hg hr⟩)
        ⟨Nat.zero_le _, _, HQ1.out, World.ownsRow_nil _ _ _ _, Fr.refl _ _⟩ ?assign ?body ?done ?stop
      case assign =>
        intro l x W K hK
        simp only [List.setIfInBounds_toArray, List.set_cons_zero, List.set_cons_succ] at hK ⊢
        gi_wp2
        exact hK
      case body =>
        rintro l pre x W ⟨hlp, v, hv, hr, hf⟩ hlt
        simp only [List.setIfInBounds_toArray, List.set_cons_zero, List.set_cons_succ]
        have hlN := HLN.out
        have hlt' : pre.length < 1024 := by omega
        have hcell := hv.cell
        have hfz := hv.frozen
        have hbE : Boxed W w.heap.size 5 (.int .u8 (en : Int)) := (hf.block _ HB6.out.lt (by omega)).trans HB6.out
        have HBE := Lib.hid hbE
        have HV := Lib.hid hv
        have HR := Lib.hid hr
        have HFr := Lib.hid hf
        have hsz := hf.size
        clear hlN hlt hbE hv hf
        have hne1 : ¬ w.heap.size = q := by omega
        have hne2 : ¬ q = w.heap.size := by omega
        by_cases hgt : en < pre.length + 1
        · have d2 : decide ((en : Int) < (pre.length : Int) + 1) = true := by simp; omega
          gi_wp2_with (gi_at_builtin; refine wpListIn_append_own _ rfl _ _ 53 rfl w6.heap.size 29 i0 (.int .u32 0) 1 4 Tryd.underlying53 hi0 hz0 hz1 hz2 rfl (by decide) _ _ _ rfl (hr.alloc _) ⟨W.heap.size, 0, none⟩ 1 1 [uc x] rfl rfl (cell_one_new _ _ _) (by simp [Value.oneCell']) (by unfold maxLen; omega) (by omega) (by simp; omega) ?_; intro v' w7 hown' hgrow _; obtain ⟨g', cap', rfl⟩ := ownsRow_succ hown'; obtain ⟨hv1, hC1, hk1, hd1⟩ := Coll.next HV.out HR.out HFr.out hown' hgrow; have hc1 := hv1.cell; have hf1 := hv1.frozen; have hE1 := (hC1.box HB6.out (by omega)).cell; have hE2 := cell_unset hE1 (by omega); have HC1 := Lib.hid hC1; have HK1 := Lib.hid hk1; have HD1 := Lib.hid hd1; clear hC1 hk1 hd1 hv1 hown' hgrow)
          exact ⟨HK1.out.from _, rfl, by simp; omega, HC1.out⟩
        · have d2 : decide ((en : Int) < (pre.length : Int) + 1) = false := by simp; omega
          gi_wp2_with (gi_at_builtin; refine wpListIn_append_own _ rfl _ _ 53 rfl w6.heap.size 29 i0 (.int .u32 0) 1 4 Tryd.underlying53 hi0 hz0 hz1 hz2 rfl (by decide) _ _ _ rfl (hr.alloc _) ⟨W.heap.size, 0, none⟩ 1 1 [uc x] rfl rfl (cell_one_new _ _ _) (by simp [Value.oneCell']) (by unfold maxLen; omega) (by omega) (by simp; omega) ?_; intro v' w7 hown' hgrow _; obtain ⟨g', cap', rfl⟩ := ownsRow_succ hown'; obtain ⟨hv1, hC1, hk1, hd1⟩ := Coll.next HV.out HR.out HFr.out hown' hgrow; have hc1 := hv1.cell; have hf1 := hv1.frozen; have hE1 := (hC1.box HB6.out (by omega)).cell; have hE2 := cell_unset hE1 (by omega); have HC1 := Lib.hid hC1; have HK1 := Lib.hid hk1; have HD1 := Lib.hid hd1; clear hC1 hk1 hd1 hv1 hown' hgrow)
          exact ⟨HK1.out.from _, HD1.out, by simp; omega, HC1.out⟩
      case done =>
        rintro D fs W hD hxs ⟨hle, hC⟩ hK
        have hxQ : fs = Q := hxs.trans HQX.out
        have HPF := Lib.hid (show fs <+: Q by rw [hxQ]; exact List.prefix_rfl)
        have HFE := Lib.hid (show fs = Q ∨ fs.length = en + 1 from .inl hxQ)
        clear hxs hxQ hle
        have F5W : Fr nob w5 W := HF56.out.trans' hC.fr (T := nob) (fun _ _ h => h) (fun k hk h => by have e : k = q := h; have := HQ5.out; omega)
        have HC := Lib.hid hC
        have HKD := Lib.hid hK
        have hDq : D ≠ q + 1 := heap_ne hK rfl (hC.box HQ2.out (by omega))
        have HDQ := Lib.hid hDq
        have D1 := HD5.out.kept F5W (fun h => h)
        have N1 := F5W.cell HN5.out (fun h => h)
        have b7W := hC.box HQ2.out (b := q + 1) (by omega)
        have HF5W := Lib.hid F5W
        have HLW := Lib.hid (show w6.heap.size ≤ D from hD)
        have hDW : D < W.heap.size := (Array.getElem?_eq_some_iff.1 hK).1
        have HDW := Lib.hid hDW
        have HDD := Lib.hid D1
        have HNN := Lib.hid N1
        have HBB := Lib.hid b7W
        have hwq : w6.heap.size ≤ W.heap.size := hC.fr.size
        have HWQ := Lib.hid hwq
        clear hC hK hDq D1 N1 b7W F5W hDW hwq hD
        gi_wp2_with fail
        refine rf_own 15 uc hro h1 (gf := 69) (lb := #[.pointer (some ⟨g, 0, none⟩), .pointer (some ⟨hh, 0, none⟩)]) rfl trivial (enters_of Tryd.func69 (by kernel_rfl) rfl)
          (all_stops (n - 1) (by omega) X hXok nn.toNat (by omega) g hh W HDD.out HNN.out) (Below.refl _ _)
          (fun pre W' => Coll W (q + 1) pre W') (fun _ _ _ => False)
          (Coll.own W (q + 1)) (fun _ _ _ _ _ hs _ _ => hs)
          ⟨_, HBB.out, World.ownsRow_nil _ _ _ _, Fr.refl _ _⟩ ?assignA ?bodyA ?doneA ?stopA
        case assignA =>
          intro l x W K hK
          simp only [List.setIfInBounds_toArray, List.set_cons_zero, List.set_cons_succ] at hK ⊢
          gi_wp2
          exact hK
        case stopA =>
          rintro D c pre W _ _ h _
          exact h.elim
        case bodyA =>
          rintro l pre x W' ⟨v, hv, hr, hf⟩ hlt
          simp only [List.setIfInBounds_toArray, List.set_cons_zero, List.set_cons_succ]
          have hlN := HLN.out
          have hlt' : pre.length < 1024 := by omega
          have hcell := hv.cell
          have hfz := hv.frozen
          have HV := Lib.hid hv
          have HR := Lib.hid hr
          have HFr := Lib.hid hf
          have hsz := hf.size
          clear hlN hlt hv hf
          gi_wp2_with (gi_at_builtin; refine wpListIn_append_own _ rfl _ _ 53 rfl W.heap.size 29 i0 (.int .u32 0) 1 4 Tryd.underlying53 hi0 hz0 hz1 hz2 rfl (by decide) _ _ _ rfl (hr.alloc _) ⟨W'.heap.size, 0, none⟩ 1 1 [uc x] rfl rfl (cell_one_new _ _ _) (by simp [Value.oneCell']) (by unfold maxLen; omega) (by omega) (by simp; omega) ?_; intro v' w7 hown' hgrow _; obtain ⟨g', cap', rfl⟩ := ownsRow_succ hown'; obtain ⟨hv1, hC1, hk1, hd1⟩ := Coll.next HV.out HR.out HFr.out hown' hgrow; have hc1 := hv1.cell; have hf1 := hv1.frozen; have HC1 := Lib.hid hC1; have HK1 := Lib.hid hk1; have HD1 := Lib.hid hd1; clear hC1 hk1 hd1 hv1 hown' hgrow)
          exact ⟨HK1.out.from _, HD1.out, HC1.out⟩
        case doneA =>
          rintro D2 ys W2 hD2 hys hC2 hK2
          have hyQ : ys = Q := hys.trans HQX.out
          rw [hyQ] at hC2
          have hq7 : q + 1 < w6.heap.size := HQ2.out.lt
          obtain ⟨a1, cp1, hb1, hr1⟩ := HC.out.srow hq7 hC2.fr (by omega)
          obtain ⟨a2, cp2, hb2, hr2⟩ := hC2.own_row
          have F52 : Fr nob w5 W2 := HF5W.out.trans' hC2.fr (T := nob) (fun _ _ h => h) (fun k hk h => by have e : k = q + 1 := h; have := HQ5.out; omega)
          have HRW := Lib.hid (HU5.out.kept F52)
          have HBE := Lib.hid (show Boxed W2 w.heap.size 5 (.int .u8 (en : Int)) from (F52.block _ HB5.out.lt (fun h => h)).trans HB5.out)
          have HFR := Lib.hid (HF5.out.trans F52 (fun _ _ h => h))
          have HBA1 := Lib.hid hb1
          have HBA2 := Lib.hid hb2
          have HRA1 := Lib.hid hr1
          have HRA2 := Lib.hid hr2
          have HK2 := Lib.hid hK2
          have HK1 := Lib.hid (show W2.heap[D]? = some (.deferred (some [])) from (hC2.fr.block D HDW.out HDQ.out).trans HKD.out)
          have HL2 := Lib.hid (show D2 < W2.heap.size from (Array.getElem?_eq_some_iff.1 hK2).1)
          have HL1 := Lib.hid (show D < W2.heap.size from Nat.lt_of_lt_of_le HDW.out hC2.fr.size)
          have HNE := Lib.hid (show D ≠ D2 by have := HDW.out; omega)
          have hww : w.heap.size ≤ w6.heap.size := by omega
          have HW1 := Lib.hid (show w.heap.size ≤ D by have := HLW.out; omega)
          have HW2 := Lib.hid (show w.heap.size ≤ D2 by have := HWQ.out; omega)
          clear hys hyQ hb1 hb2 hr1 hr2 F52 hK2 hC2 hD2 hq7 hww HDD HNN HBB HC
          gi_wp2_with fail
          gi_loopw [16] (fun v wr => ∃ k : Nat, k ≤ fs.length ∧ v = .int .i64 (k : Int) ∧ Fr nob W2 wr) (fun v _ => fs.length - (intOf v).toNat)
          case atStart => exact ⟨0, Nat.zero_le _, rfl, Fr.refl _ _⟩
          case round =>
            obtain ⟨k, hk, rfl, hF⟩ := hrel
            have HFr := Lib.hid hF
            have cb1 := (HBA1.out.kept' HFr.out).cell
            clear hF
            by_cases hkQ : k < fs.length
            · have d3 : decide ((k : Int) < (fs.length : Int)) = true := by simp; omega
              have d3' : decide (k < fs.length) = true := by simp; omega
              have hpl := HPF.out.length_le
              have d4 : decide ((Q.length : Int) ≤ (k : Int)) = false := by simp; omega
              have d4' : decide (Q.length ≤ k) = false := by simp; omega
              have hkq : k < Q.length := by omega
              obtain ⟨x, hxf⟩ : ∃ x, fs[k]? = some x := ⟨fs[k], List.getElem?_eq_getElem hkQ⟩
              have hxQ : Q[k]? = some x := by
                obtain ⟨t, ht⟩ := HPF.out
                rw [← ht, List.getElem?_append_left hkQ, hxf]
              have hxm : (fs.map uc)[k]? = some (uc x) := by rw [List.getElem?_map, hxf]; rfl
              have hxn : (Q.map uc)[k]? = some (uc x) := by rw [List.getElem?_map, hxQ]; rfl
              obtain ⟨g1, rfl, ce1⟩ := HRA1.out.at hxm
              obtain ⟨gw, rfl, ce2⟩ := HRW.out.at hxn
              replace ce1 := HFr.out.cell ce1 (fun h => h)
              replace ce2 := HFr.out.cell ce2 (fun h => h)
              clear hxQ hxm hxn hxf hpl
              gi_wp2_with fail
              refine wpW_region_grow 14 123 (by kernel_rfl) (by kernel_rfl) (by kernel_rfl) rfl rfl ?_
              simp only [List.take_succ_cons, List.take_zero]
              refine grow_step (v := .int .i64 (k : Int)) rfl rfl ?s1 ?_
              case s1 =>
                intro w' hw'
                clear hw'
                refine growAt_value ?_
                go_simp
                try rfl
              simp only [Act.put, List.setIfInBounds_toArray, List.set_cons_zero, List.set_cons_succ]
              refine grow_step (v := .slice (some ⟨gw, 0, none⟩) Q.length capW) rfl rfl ?s2 ?_
              case s2 =>
                intro w' hw'
                clear hw'
                refine growAt_value ?_
                go_simp
                try rfl
              simp only [Act.put, List.setIfInBounds_toArray, List.set_cons_zero, List.set_cons_succ]
              refine grow_step (v := .int .i64 (Q.length : Int)) rfl rfl ?s3 ?_
              case s3 =>
                intro w' hw'
                clear hw'
                refine growAt_value ?_
                go_simp
                try rfl
              simp only [Act.put, List.setIfInBounds_toArray, List.set_cons_zero, List.set_cons_succ]
              refine grow_step (v := .bool false) rfl rfl ?s4 ?_
              case s4 =>
                intro w' hw'
                clear hw'
                refine growAt_value ?_
                go_simp
                try rfl
              simp only [Act.put, List.setIfInBounds_toArray, List.set_cons_zero, List.set_cons_succ]
              refine grow_step (v := .bool false) rfl rfl ?s5 ?_
              case s5 =>
                intro w' hw'
                clear hw'
                refine growAt_value ?_
                go_simp
                try rfl
              simp only [Act.put, List.setIfInBounds_toArray, List.set_cons_zero, List.set_cons_succ]
              refine grow_step (v := .slice (some ⟨g1, 0, none⟩) fs.length cp1) rfl rfl ?s6 ?_
              case s6 =>
                intro w' hw'
                have y0 := hw'.cell cb1 (fun h => h)
                clear hw'
                refine growAt_value ?_
                go_simp
                try rfl
              simp only [Act.put, List.setIfInBounds_toArray, List.set_cons_zero, List.set_cons_succ]
              refine grow_step (v := .int .i64 (k : Int)) rfl rfl ?s7 ?_
              case s7 =>
                intro w' hw'
                clear hw'
                refine growAt_value ?_
                go_simp
                try rfl
              simp only [Act.put, List.setIfInBounds_toArray, List.set_cons_zero, List.set_cons_succ]
              refine grow_step (v := .pointer (some ⟨g1, k, none⟩)) rfl rfl ?s8 ?_
              case s8 =>
                intro w' hw'
                clear hw'
                refine growAt_value ?_
                go_simp
                try rfl
              simp only [Act.put, List.setIfInBounds_toArray, List.set_cons_zero, List.set_cons_succ]
              refine grow_step (v := uc x) rfl rfl ?s9 ?_
              case s9 =>
                intro w' hw'
                have y0 := hw'.cell ce1 (fun h => h)
                clear hw'
                refine growAt_value ?_
                go_simp
                try rfl
              simp only [Act.put, List.setIfInBounds_toArray, List.set_cons_zero, List.set_cons_succ]
              refine grow_step (v := .slice (some ⟨gw, 0, none⟩) Q.length capW) rfl rfl ?s10 ?_
              case s10 =>
                intro w' hw'
                clear hw'
                refine growAt_value ?_
                go_simp
                try rfl
              simp only [Act.put, List.setIfInBounds_toArray, List.set_cons_zero, List.set_cons_succ]
              refine grow_step (v := .int .i64 (k : Int)) rfl rfl ?s11 ?_
              case s11 =>
                intro w' hw'
                clear hw'
                refine growAt_value ?_
                go_simp
                try rfl
              simp only [Act.put, List.setIfInBounds_toArray, List.set_cons_zero, List.set_cons_succ]
              refine grow_step (v := .pointer (some ⟨gw, k, none⟩)) rfl rfl ?s12 ?_
              case s12 =>
                intro w' hw'
                clear hw'
                refine growAt_value ?_
                go_simp
                try rfl
              simp only [Act.put, List.setIfInBounds_toArray, List.set_cons_zero, List.set_cons_succ]
              refine grow_step (v := uc x) rfl rfl ?s13 ?_
              case s13 =>
                intro w' hw'
                have y0 := hw'.cell ce2 (fun h => h)
                clear hw'
                refine growAt_value ?_
                go_simp
                try rfl
              simp only [Act.put, List.setIfInBounds_toArray, List.set_cons_zero, List.set_cons_succ]
              refine grow_step (v := .bool false) rfl rfl ?s14 ?_
              case s14 =>
                intro w' hw'
                clear hw'
                refine growAt_value ?_
                go_simp
                try rfl
              simp only [Act.put, List.setIfInBounds_toArray, List.set_cons_zero, List.set_cons_succ]
              refine grow_nil ?_
              rintro w9 fr9
              have HF9 := Lib.hid (HFr.out.trans fr9 (fun _ _ h => h))
              clear cb1 ce1 ce2 fr9 HFr
              gi_wp2_with fail
              go_roundw
              case rel => exact ⟨k + 1, by omega, by go_num, HF9.out⟩
              case measure => simp [intOf]; omega
            · have d3 : decide ((k : Int) < (fs.length : Int)) = false := by simp; omega
              have d3' : decide (k < fs.length) = false := by simp; omega
              have cbE := (HBE.out.kept' HFr.out).cell
              have cb2 := (HBA2.out.kept' HFr.out).cell
              have hen1 := HFE.out
              have HFA := Lib.hid HFr.out
              clear HFr
              by_cases hlq : fs.length < Q.length
              · have d5 : decide ((fs.length : Int) < (Q.length : Int)) = true := by simp; omega
                have d5' : decide (fs.length < Q.length) = true := by simp; omega
                have hfl : fs.length = en + 1 := by rcases hen1 with e | e; (rw [e] at hlq; omega); exact e
                have d6 : ((fs.length : Int) != (en : Int) + 1) = false := by simp; omega
                clear hen1 hfl
                gi_wp2_with fail
                gi_loopw [17] (fun v wr => ∃ k : Nat, k ≤ Q.length ∧ v = .int .i64 (k : Int) ∧ Fr nob W2 wr) (fun v _ => Q.length - (intOf v).toNat)
                case atStart => exact ⟨0, Nat.zero_le _, rfl, HFA.out⟩
                case round =>
                  clear HFA
                  obtain ⟨k, hk, rfl, hF⟩ := hrel
                  have HFr := Lib.hid hF
                  have cb2 := (HBA2.out.kept' HFr.out).cell
                  clear hF
                  by_cases hkQ : k < Q.length
                  · have d3 : decide ((k : Int) < (Q.length : Int)) = true := by simp; omega
                    have d3' : decide (k < Q.length) = true := by simp; omega
                    obtain ⟨x, hxQ⟩ : ∃ x, Q[k]? = some x := ⟨Q[k], List.getElem?_eq_getElem hkQ⟩
                    have hxm : (Q.map uc)[k]? = some (uc x) := by rw [List.getElem?_map, hxQ]; rfl
                    obtain ⟨g2, rfl, ce1⟩ := HRA2.out.at hxm
                    obtain ⟨gw, rfl, ce2⟩ := HRW.out.at hxm
                    replace ce1 := HFr.out.cell ce1 (fun h => h)
                    replace ce2 := HFr.out.cell ce2 (fun h => h)
                    clear hxQ hxm
                    gi_wp2_with fail
                    refine wpW_region_grow 8 123 (by kernel_rfl) (by kernel_rfl) (by kernel_rfl) rfl rfl ?_
                    simp only [List.take_succ_cons, List.take_zero]
                    refine grow_step (v := .slice (some ⟨g2, 0, none⟩) Q.length cp2) rfl rfl ?s15 ?_
                    case s15 =>
                      intro w' hw'
                      have y0 := hw'.cell cb2 (fun h => h)
                      clear hw'
                      refine growAt_value ?_
                      go_simp
                      try rfl
                    simp only [Act.put, List.setIfInBounds_toArray, List.set_cons_zero, List.set_cons_succ]
                    refine grow_step (v := .int .i64 (k : Int)) rfl rfl ?s16 ?_
                    case s16 =>
                      intro w' hw'
                      clear hw'
                      refine growAt_value ?_
                      go_simp
                      try rfl
                    simp only [Act.put, List.setIfInBounds_toArray, List.set_cons_zero, List.set_cons_succ]
                    refine grow_step (v := .pointer (some ⟨g2, k, none⟩)) rfl rfl ?s17 ?_
                    case s17 =>
                      intro w' hw'
                      clear hw'
                      refine growAt_value ?_
                      go_simp
                      try rfl
                    simp only [Act.put, List.setIfInBounds_toArray, List.set_cons_zero, List.set_cons_succ]
                    refine grow_step (v := uc x) rfl rfl ?s18 ?_
                    case s18 =>
                      intro w' hw'
                      have y0 := hw'.cell ce1 (fun h => h)
                      clear hw'
                      refine growAt_value ?_
                      go_simp
                      try rfl
                    simp only [Act.put, List.setIfInBounds_toArray, List.set_cons_zero, List.set_cons_succ]
                    refine grow_step (v := .slice (some ⟨gw, 0, none⟩) Q.length capW) rfl rfl ?s19 ?_
                    case s19 =>
                      intro w' hw'
                      clear hw'
                      refine growAt_value ?_
                      go_simp
                      try rfl
                    simp only [Act.put, List.setIfInBounds_toArray, List.set_cons_zero, List.set_cons_succ]
                    refine grow_step (v := .int .i64 (k : Int)) rfl rfl ?s20 ?_
                    case s20 =>
                      intro w' hw'
                      clear hw'
                      refine growAt_value ?_
                      go_simp
                      try rfl
                    simp only [Act.put, List.setIfInBounds_toArray, List.set_cons_zero, List.set_cons_succ]
                    refine grow_step (v := .pointer (some ⟨gw, k, none⟩)) rfl rfl ?s21 ?_
                    case s21 =>
                      intro w' hw'
                      clear hw'
                      refine growAt_value ?_
                      go_simp
                      try rfl
                    simp only [Act.put, List.setIfInBounds_toArray, List.set_cons_zero, List.set_cons_succ]
                    refine grow_step (v := uc x) rfl rfl ?s22 ?_
                    case s22 =>
                      intro w' hw'
                      have y0 := hw'.cell ce2 (fun h => h)
                      clear hw'
                      refine growAt_value ?_
                      go_simp
                      try rfl
                    simp only [Act.put, List.setIfInBounds_toArray, List.set_cons_zero, List.set_cons_succ]
                    refine grow_nil ?_
                    rintro w9 fr9
                    have HF9 := Lib.hid (HFr.out.trans fr9 (fun _ _ h => h))
                    clear cb2 ce1 ce2 fr9 HFr
                    gi_wp2_with fail
                    go_roundw
                    case rel => exact ⟨k + 1, by omega, by go_num, HF9.out⟩
                    case measure => simp [intOf]; omega
                  · have d3 : decide ((k : Int) < (Q.length : Int)) = false := by simp; omega
                    have d3' : decide (k < Q.length) = false := by simp; omega
                    clear cb2
                    gi_wp2_with fail
                    have k2 : wr.heap[D2]? = some (.deferred (some [])) := (HFr.out.block D2 HL2.out (fun h => h)).trans HK2.out
                    have k1 : wr.heap[D]? = some (.deferred (some [])) := (HFr.out.block D HL1.out (fun h => h)).trans HK1.out
                    have hne := HNE.out
                    have k1' : (wr.putObj D2 (.deferred none)).heap[D]? = some (.deferred (some [])) := (World.putObj_heap_other hne).trans k1
                    refine ⟨by simp, .inl ⟨_, _, rfl, run_takeDeferred k2, by simp, .inl ⟨_, _, rfl, run_takeDeferred k1', ?_⟩⟩⟩
                    refine ⟨.bool true, by simp [results, Tryd.results6, go_sem], rfl, ?_⟩
                    have hz := HFR.out.trans HFr.out (fun _ _ h => h)
                    exact ((hz.to_below (B := w.heap.size) (Nat.le_refl _) (fun _ h => h.elim)).trans (belowK_b (w := w) (Nat.le_refl _) wr D2 _ _ HW2.out k2 rfl rfl)).trans (belowK_b (w := w) (Nat.le_refl _) _ D _ _ HW1.out k1' rfl rfl)
              · have d5 : decide ((fs.length : Int) < (Q.length : Int)) = false := by simp; omega
                have d5' : decide (fs.length < Q.length) = false := by simp; omega
                clear hen1
                gi_wp2_with fail
                gi_loopw [17] (fun v wr => ∃ k : Nat, k ≤ Q.length ∧ v = .int .i64 (k : Int) ∧ Fr nob W2 wr) (fun v _ => Q.length - (intOf v).toNat)
                case atStart => exact ⟨0, Nat.zero_le _, rfl, HFA.out⟩
                case round =>
                  clear HFA
                  obtain ⟨k, hk, rfl, hF⟩ := hrel
                  have HFr := Lib.hid hF
                  have cb2 := (HBA2.out.kept' HFr.out).cell
                  clear hF
                  by_cases hkQ : k < Q.length
                  · have d3 : decide ((k : Int) < (Q.length : Int)) = true := by simp; omega
                    have d3' : decide (k < Q.length) = true := by simp; omega
                    obtain ⟨x, hxQ⟩ : ∃ x, Q[k]? = some x := ⟨Q[k], List.getElem?_eq_getElem hkQ⟩
                    have hxm : (Q.map uc)[k]? = some (uc x) := by rw [List.getElem?_map, hxQ]; rfl
                    obtain ⟨g2, rfl, ce1⟩ := HRA2.out.at hxm
                    obtain ⟨gw, rfl, ce2⟩ := HRW.out.at hxm
                    replace ce1 := HFr.out.cell ce1 (fun h => h)
                    replace ce2 := HFr.out.cell ce2 (fun h => h)
                    clear hxQ hxm
                    gi_wp2_with fail
                    refine wpW_region_grow 8 123 (by kernel_rfl) (by kernel_rfl) (by kernel_rfl) rfl rfl ?_
                    simp only [List.take_succ_cons, List.take_zero]
                    refine grow_step (v := .slice (some ⟨g2, 0, none⟩) Q.length cp2) rfl rfl ?s23 ?_
                    case s23 =>
                      intro w' hw'
                      have y0 := hw'.cell cb2 (fun h => h)
                      clear hw'
                      refine growAt_value ?_
                      go_simp
                      try rfl
                    simp only [Act.put, List.setIfInBounds_toArray, List.set_cons_zero, List.set_cons_succ]
                    refine grow_step (v := .int .i64 (k : Int)) rfl rfl ?s24 ?_
                    case s24 =>
                      intro w' hw'
                      clear hw'
                      refine growAt_value ?_
                      go_simp
                      try rfl
                    simp only [Act.put, List.setIfInBounds_toArray, List.set_cons_zero, List.set_cons_succ]
                    refine grow_step (v := .pointer (some ⟨g2, k, none⟩)) rfl rfl ?s25 ?_
                    case s25 =>
                      intro w' hw'
                      clear hw'
                      refine growAt_value ?_
                      go_simp
                      try rfl
                    simp only [Act.put, List.setIfInBounds_toArray, List.set_cons_zero, List.set_cons_succ]
                    refine grow_step (v := uc x) rfl rfl ?s26 ?_
                    case s26 =>
                      intro w' hw'
                      have y0 := hw'.cell ce1 (fun h => h)
                      clear hw'
                      refine growAt_value ?_
                      go_simp
                      try rfl
                    simp only [Act.put, List.setIfInBounds_toArray, List.set_cons_zero, List.set_cons_succ]
                    refine grow_step (v := .slice (some ⟨gw, 0, none⟩) Q.length capW) rfl rfl ?s27 ?_
                    case s27 =>
                      intro w' hw'
                      clear hw'
                      refine growAt_value ?_
                      go_simp
                      try rfl
                    simp only [Act.put, List.setIfInBounds_toArray, List.set_cons_zero, List.set_cons_succ]
                    refine grow_step (v := .int .i64 (k : Int)) rfl rfl ?s28 ?_
                    case s28 =>
                      intro w' hw'
                      clear hw'
                      refine growAt_value ?_
                      go_simp
                      try rfl
                    simp only [Act.put, List.setIfInBounds_toArray, List.set_cons_zero, List.set_cons_succ]
                    refine grow_step (v := .pointer (some ⟨gw, k, none⟩)) rfl rfl ?s29 ?_
                    case s29 =>
                      intro w' hw'
                      clear hw'
                      refine growAt_value ?_
                      go_simp
                      try rfl
                    simp only [Act.put, List.setIfInBounds_toArray, List.set_cons_zero, List.set_cons_succ]
                    refine grow_step (v := uc x) rfl rfl ?s30 ?_
                    case s30 =>
                      intro w' hw'
                      have y0 := hw'.cell ce2 (fun h => h)
                      clear hw'
                      refine growAt_value ?_
                      go_simp
                      try rfl
                    simp only [Act.put, List.setIfInBounds_toArray, List.set_cons_zero, List.set_cons_succ]
                    refine grow_nil ?_
                    rintro w9 fr9
                    have HF9 := Lib.hid (HFr.out.trans fr9 (fun _ _ h => h))
                    clear cb2 ce1 ce2 fr9 HFr
                    gi_wp2_with fail
                    go_roundw
                    case rel => exact ⟨k + 1, by omega, by go_num, HF9.out⟩
                    case measure => simp [intOf]; omega
                  · have d3 : decide ((k : Int) < (Q.length : Int)) = false := by simp; omega
                    have d3' : decide (k < Q.length) = false := by simp; omega
                    clear cb2
                    gi_wp2_with fail
                    have k2 : wr.heap[D2]? = some (.deferred (some [])) := (HFr.out.block D2 HL2.out (fun h => h)).trans HK2.out
                    have k1 : wr.heap[D]? = some (.deferred (some [])) := (HFr.out.block D HL1.out (fun h => h)).trans HK1.out
                    have hne := HNE.out
                    have k1' : (wr.putObj D2 (.deferred none)).heap[D]? = some (.deferred (some [])) := (World.putObj_heap_other hne).trans k1
                    refine ⟨by simp, .inl ⟨_, _, rfl, run_takeDeferred k2, by simp, .inl ⟨_, _, rfl, run_takeDeferred k1', ?_⟩⟩⟩
                    refine ⟨.bool true, by simp [results, Tryd.results6, go_sem], rfl, ?_⟩
                    have hz := HFR.out.trans HFr.out (fun _ _ h => h)
                    exact ((hz.to_below (B := w.heap.size) (Nat.le_refl _) (fun _ h => h.elim)).trans (belowK_b (w := w) (Nat.le_refl _) wr D2 _ _ HW2.out k2 rfl rfl)).trans (belowK_b (w := w) (Nat.le_refl _) _ D _ _ HW1.out k1' rfl rfl)
      case stop =>
        rintro D c fs W hD hpre ⟨rfl, hle, hC⟩ hK
        have HPF := Lib.hid (show fs <+: Q by rw [← HQX.out]; exact hpre)
        have HFE := Lib.hid (show fs = Q ∨ fs.length = en + 1 from .inr hle)
        clear hpre hle
        have F5W : Fr nob w5 W := HF56.out.trans' hC.fr (T := nob) (fun _ _ h => h) (fun k hk h => by have e : k = q := h; have := HQ5.out; omega)
        have HC := Lib.hid hC
        have HKD := Lib.hid hK
        have hDq : D ≠ q + 1 := heap_ne hK rfl (hC.box HQ2.out (by omega))
        have HDQ := Lib.hid hDq
        have D1 := HD5.out.kept F5W (fun h => h)
        have N1 := F5W.cell HN5.out (fun h => h)
        have b7W := hC.box HQ2.out (b := q + 1) (by omega)
        have HF5W := Lib.hid F5W
        have HLW := Lib.hid (show w6.heap.size ≤ D from hD)
        have hDW : D < W.heap.size := (Array.getElem?_eq_some_iff.1 hK).1
        have HDW := Lib.hid hDW
        have HDD := Lib.hid D1
        have HNN := Lib.hid N1
        have HBB := Lib.hid b7W
        have hwq : w6.heap.size ≤ W.heap.size := hC.fr.size
        have HWQ := Lib.hid hwq
        clear hC hK hDq D1 N1 b7W F5W hDW hwq hD
        gi_wp2_with fail
        refine rf_own 15 uc hro h1 (gf := 69) (lb := #[.pointer (some ⟨g, 0, none⟩), .pointer (some ⟨hh, 0, none⟩)]) rfl trivial (enters_of Tryd.func69 (by kernel_rfl) rfl)
          (all_stops (n - 1) (by omega) X hXok nn.toNat (by omega) g hh W HDD.out HNN.out) (Below.refl _ _)
          (fun pre W' => Coll W (q + 1) pre W') (fun _ _ _ => False)
          (Coll.own W (q + 1)) (fun _ _ _ _ _ hs _ _ => hs)
          ⟨_, HBB.out, World.ownsRow_nil _ _ _ _, Fr.refl _ _⟩ ?assignB ?bodyB ?doneB ?stopB
        case assignB =>
          intro l x W K hK
          simp only [List.setIfInBounds_toArray, List.set_cons_zero, List.set_cons_succ] at hK ⊢
          gi_wp2
          exact hK
        case stopB =>
          rintro D c pre W _ _ h _
          exact h.elim
        case bodyB =>
          rintro l pre x W' ⟨v, hv, hr, hf⟩ hlt
          simp only [List.setIfInBounds_toArray, List.set_cons_zero, List.set_cons_succ]
          have hlN := HLN.out
          have hlt' : pre.length < 1024 := by omega
          have hcell := hv.cell
          have hfz := hv.frozen
          have HV := Lib.hid hv
          have HR := Lib.hid hr
          have HFr := Lib.hid hf
          have hsz := hf.size
          clear hlN hlt hv hf
          gi_wp2_with (gi_at_builtin; refine wpListIn_append_own _ rfl _ _ 53 rfl W.heap.size 29 i0 (.int .u32 0) 1 4 Tryd.underlying53 hi0 hz0 hz1 hz2 rfl (by decide) _ _ _ rfl (hr.alloc _) ⟨W'.heap.size, 0, none⟩ 1 1 [uc x] rfl rfl (cell_one_new _ _ _) (by simp [Value.oneCell']) (by unfold maxLen; omega) (by omega) (by simp; omega) ?_; intro v' w7 hown' hgrow _; obtain ⟨g', cap', rfl⟩ := ownsRow_succ hown'; obtain ⟨hv1, hC1, hk1, hd1⟩ := Coll.next HV.out HR.out HFr.out hown' hgrow; have hc1 := hv1.cell; have hf1 := hv1.frozen; have HC1 := Lib.hid hC1; have HK1 := Lib.hid hk1; have HD1 := Lib.hid hd1; clear hC1 hk1 hd1 hv1 hown' hgrow)
          exact ⟨HK1.out.from _, HD1.out, HC1.out⟩
        case doneB =>
          rintro D2 ys W2 hD2 hys hC2 hK2
          have hyQ : ys = Q := hys.trans HQX.out
          rw [hyQ] at hC2
          have hq7 : q + 1 < w6.heap.size := HQ2.out.lt
          obtain ⟨a1, cp1, hb1, hr1⟩ := HC.out.srow hq7 hC2.fr (by omega)
          obtain ⟨a2, cp2, hb2, hr2⟩ := hC2.own_row
          have F52 : Fr nob w5 W2 := HF5W.out.trans' hC2.fr (T := nob) (fun _ _ h => h) (fun k hk h => by have e : k = q + 1 := h; have := HQ5.out; omega)
          have HRW := Lib.hid (HU5.out.kept F52)
          have HBE := Lib.hid (show Boxed W2 w.heap.size 5 (.int .u8 (en : Int)) from (F52.block _ HB5.out.lt (fun h => h)).trans HB5.out)
          have HFR := Lib.hid (HF5.out.trans F52 (fun _ _ h => h))
          have HBA1 := Lib.hid hb1
          have HBA2 := Lib.hid hb2
          have HRA1 := Lib.hid hr1
          have HRA2 := Lib.hid hr2
          have HK2 := Lib.hid hK2
          have HK1 := Lib.hid (show W2.heap[D]? = some (.deferred (some [])) from (hC2.fr.block D HDW.out HDQ.out).trans HKD.out)
          have HL2 := Lib.hid (show D2 < W2.heap.size from (Array.getElem?_eq_some_iff.1 hK2).1)
          have HL1 := Lib.hid (show D < W2.heap.size from Nat.lt_of_lt_of_le HDW.out hC2.fr.size)
          have HNE := Lib.hid (show D ≠ D2 by have := HDW.out; omega)
          have hww : w.heap.size ≤ w6.heap.size := by omega
          have HW1 := Lib.hid (show w.heap.size ≤ D by have := HLW.out; omega)
          have HW2 := Lib.hid (show w.heap.size ≤ D2 by have := HWQ.out; omega)
          clear hys hyQ hb1 hb2 hr1 hr2 F52 hK2 hC2 hD2 hq7 hww HDD HNN HBB HC
          gi_wp2_with fail
          gi_loopw [16] (fun v wr => ∃ k : Nat, k ≤ fs.length ∧ v = .int .i64 (k : Int) ∧ Fr nob W2 wr) (fun v _ => fs.length - (intOf v).toNat)
          case atStart => exact ⟨0, Nat.zero_le _, rfl, Fr.refl _ _⟩
          case round =>
            obtain ⟨k, hk, rfl, hF⟩ := hrel
            have HFr := Lib.hid hF
            have cb1 := (HBA1.out.kept' HFr.out).cell
            clear hF
            by_cases hkQ : k < fs.length
            · have d3 : decide ((k : Int) < (fs.length : Int)) = true := by simp; omega
              have d3' : decide (k < fs.length) = true := by simp; omega
              have hpl := HPF.out.length_le
              have d4 : decide ((Q.length : Int) ≤ (k : Int)) = false := by simp; omega
              have d4' : decide (Q.length ≤ k) = false := by simp; omega
              have hkq : k < Q.length := by omega
              obtain ⟨x, hxf⟩ : ∃ x, fs[k]? = some x := ⟨fs[k], List.getElem?_eq_getElem hkQ⟩
              have hxQ : Q[k]? = some x := by
                obtain ⟨t, ht⟩ := HPF.out
                rw [← ht, List.getElem?_append_left hkQ, hxf]
              have hxm : (fs.map uc)[k]? = some (uc x) := by rw [List.getElem?_map, hxf]; rfl
              have hxn : (Q.map uc)[k]? = some (uc x) := by rw [List.getElem?_map, hxQ]; rfl
              obtain ⟨g1, rfl, ce1⟩ := HRA1.out.at hxm
              obtain ⟨gw, rfl, ce2⟩ := HRW.out.at hxn
              replace ce1 := HFr.out.cell ce1 (fun h => h)
              replace ce2 := HFr.out.cell ce2 (fun h => h)
              clear hxQ hxm hxn hxf hpl
              gi_wp2_with fail
              refine wpW_region_grow 14 123 (by kernel_rfl) (by kernel_rfl) (by kernel_rfl) rfl rfl ?_
              simp only [List.take_succ_cons, List.take_zero]
              refine grow_step (v := .int .i64 (k : Int)) rfl rfl ?s31 ?_
              case s31 =>
                intro w' hw'
                clear hw'
                refine growAt_value ?_
                go_simp
                try rfl
              simp only [Act.put, List.setIfInBounds_toArray, List.set_cons_zero, List.set_cons_succ]
              refine grow_step (v := .slice (some ⟨gw, 0, none⟩) Q.length capW) rfl rfl ?s32 ?_
              case s32 =>
                intro w' hw'
                clear hw'
                refine growAt_value ?_
                go_simp
                try rfl
              simp only [Act.put, List.setIfInBounds_toArray, List.set_cons_zero, List.set_cons_succ]
              refine grow_step (v := .int .i64 (Q.length : Int)) rfl rfl ?s33 ?_
              case s33 =>
                intro w' hw'
                clear hw'
                refine growAt_value ?_
                go_simp
                try rfl
              simp only [Act.put, List.setIfInBounds_toArray, List.set_cons_zero, List.set_cons_succ]
              refine grow_step (v := .bool false) rfl rfl ?s34 ?_
              case s34 =>
                intro w' hw'
                clear hw'
                refine growAt_value ?_
                go_simp
                try rfl
              simp only [Act.put, List.setIfInBounds_toArray, List.set_cons_zero, List.set_cons_succ]
              refine grow_step (v := .bool false) rfl rfl ?s35 ?_
              case s35 =>
                intro w' hw'
                clear hw'
                refine growAt_value ?_
                go_simp
                try rfl
              simp only [Act.put, List.setIfInBounds_toArray, List.set_cons_zero, List.set_cons_succ]
              refine grow_step (v := .slice (some ⟨g1, 0, none⟩) fs.length cp1) rfl rfl ?s36 ?_
              case s36 =>
                intro w' hw'
                have y0 := hw'.cell cb1 (fun h => h)
                clear hw'
                refine growAt_value ?_
                go_simp
                try rfl
              simp only [Act.put, List.setIfInBounds_toArray, List.set_cons_zero, List.set_cons_succ]
              refine grow_step (v := .int .i64 (k : Int)) rfl rfl ?s37 ?_
              case s37 =>
                intro w' hw'
                clear hw'
                refine growAt_value ?_
                go_simp
                try rfl
              simp only [Act.put, List.setIfInBounds_toArray, List.set_cons_zero, List.set_cons_succ]
              refine grow_step (v := .pointer (some ⟨g1, k, none⟩)) rfl rfl ?s38 ?_
              case s38 =>
                intro w' hw'
                clear hw'
                refine growAt_value ?_
                go_simp
                try rfl
              simp only [Act.put, List.setIfInBounds_toArray, List.set_cons_zero, List.set_cons_succ]
              refine grow_step (v := uc x) rfl rfl ?s39 ?_
              case s39 =>
                intro w' hw'
                have y0 := hw'.cell ce1 (fun h => h)
                clear hw'
                refine growAt_value ?_
                go_simp
                try rfl
              simp only [Act.put, List.setIfInBounds_toArray, List.set_cons_zero, List.set_cons_succ]
              refine grow_step (v := .slice (some ⟨gw, 0, none⟩) Q.length capW) rfl rfl ?s40 ?_
              case s40 =>
                intro w' hw'
                clear hw'
                refine growAt_value ?_
                go_simp
                try rfl
              simp only [Act.put, List.setIfInBounds_toArray, List.set_cons_zero, List.set_cons_succ]
              refine grow_step (v := .int .i64 (k : Int)) rfl rfl ?s41 ?_
              case s41 =>
                intro w' hw'
                clear hw'
                refine growAt_value ?_
                go_simp
                try rfl
              simp only [Act.put, List.setIfInBounds_toArray, List.set_cons_zero, List.set_cons_succ]
              refine grow_step (v := .pointer (some ⟨gw, k, none⟩)) rfl rfl ?s42 ?_
              case s42 =>
                intro w' hw'
                clear hw'
                refine growAt_value ?_
                go_simp
                try rfl
              simp only [Act.put, List.setIfInBounds_toArray, List.set_cons_zero, List.set_cons_succ]
              refine grow_step (v := uc x) rfl rfl ?s43 ?_
              case s43 =>
                intro w' hw'
                have y0 := hw'.cell ce2 (fun h => h)
                clear hw'
                refine growAt_value ?_
                go_simp
                try rfl
              simp only [Act.put, List.setIfInBounds_toArray, List.set_cons_zero, List.set_cons_succ]
              refine grow_step (v := .bool false) rfl rfl ?s44 ?_
              case s44 =>
                intro w' hw'
                clear hw'
                refine growAt_value ?_
                go_simp
                try rfl
              simp only [Act.put, List.setIfInBounds_toArray, List.set_cons_zero, List.set_cons_succ]
              refine grow_nil ?_
              rintro w9 fr9
              have HF9 := Lib.hid (HFr.out.trans fr9 (fun _ _ h => h))
              clear cb1 ce1 ce2 fr9 HFr
              gi_wp2_with fail
              go_roundw
              case rel => exact ⟨k + 1, by omega, by go_num, HF9.out⟩
              case measure => simp [intOf]; omega
            · have d3 : decide ((k : Int) < (fs.length : Int)) = false := by simp; omega
              have d3' : decide (k < fs.length) = false := by simp; omega
              have cbE := (HBE.out.kept' HFr.out).cell
              have cb2 := (HBA2.out.kept' HFr.out).cell
              have hen1 := HFE.out
              have HFA := Lib.hid HFr.out
              clear HFr
              by_cases hlq : fs.length < Q.length
              · have d5 : decide ((fs.length : Int) < (Q.length : Int)) = true := by simp; omega
                have d5' : decide (fs.length < Q.length) = true := by simp; omega
                have hfl : fs.length = en + 1 := by rcases hen1 with e | e; (rw [e] at hlq; omega); exact e
                have d6 : ((fs.length : Int) != (en : Int) + 1) = false := by simp; omega
                clear hen1 hfl
                gi_wp2_with fail
                gi_loopw [17] (fun v wr => ∃ k : Nat, k ≤ Q.length ∧ v = .int .i64 (k : Int) ∧ Fr nob W2 wr) (fun v _ => Q.length - (intOf v).toNat)
                case atStart => exact ⟨0, Nat.zero_le _, rfl, HFA.out⟩
                case round =>
                  clear HFA
                  obtain ⟨k, hk, rfl, hF⟩ := hrel
                  have HFr := Lib.hid hF
                  have cb2 := (HBA2.out.kept' HFr.out).cell
                  clear hF
                  by_cases hkQ : k < Q.length
                  · have d3 : decide ((k : Int) < (Q.length : Int)) = true := by simp; omega
                    have d3' : decide (k < Q.length) = true := by simp; omega
                    obtain ⟨x, hxQ⟩ : ∃ x, Q[k]? = some x := ⟨Q[k], List.getElem?_eq_getElem hkQ⟩
                    have hxm : (Q.map uc)[k]? = some (uc x) := by rw [List.getElem?_map, hxQ]; rfl
                    obtain ⟨g2, rfl, ce1⟩ := HRA2.out.at hxm
                    obtain ⟨gw, rfl, ce2⟩ := HRW.out.at hxm
                    replace ce1 := HFr.out.cell ce1 (fun h => h)
                    replace ce2 := HFr.out.cell ce2 (fun h => h)
                    clear hxQ hxm
                    gi_wp2_with fail
                    refine wpW_region_grow 8 123 (by kernel_rfl) (by kernel_rfl) (by kernel_rfl) rfl rfl ?_
                    simp only [List.take_succ_cons, List.take_zero]
                    refine grow_step (v := .slice (some ⟨g2, 0, none⟩) Q.length cp2) rfl rfl ?s45 ?_
                    case s45 =>
                      intro w' hw'
                      have y0 := hw'.cell cb2 (fun h => h)
                      clear hw'
                      refine growAt_value ?_
                      go_simp
                      try rfl
                    simp only [Act.put, List.setIfInBounds_toArray, List.set_cons_zero, List.set_cons_succ]
                    refine grow_step (v := .int .i64 (k : Int)) rfl rfl ?s46 ?_
                    case s46 =>
                      intro w' hw'
                      clear hw'
                      refine growAt_value ?_
                      go_simp
                      try rfl
                    simp only [Act.put, List.setIfInBounds_toArray, List.set_cons_zero, List.set_cons_succ]
                    refine grow_step (v := .pointer (some ⟨g2, k, none⟩)) rfl rfl ?s47 ?_
                    case s47 =>
                      intro w' hw'
                      clear hw'
                      refine growAt_value ?_
                      go_simp
                      try rfl
                    simp only [Act.put, List.setIfInBounds_toArray, List.set_cons_zero, List.set_cons_succ]
                    refine grow_step (v := uc x) rfl rfl ?s48 ?_
                    case s48 =>
                      intro w' hw'
                      have y0 := hw'.cell ce1 (fun h => h)
                      clear hw'
                      refine growAt_value ?_
                      go_simp
                      try rfl
                    simp only [Act.put, List.setIfInBounds_toArray, List.set_cons_zero, List.set_cons_succ]
                    refine grow_step (v := .slice (some ⟨gw, 0, none⟩) Q.length capW) rfl rfl ?s49 ?_
                    case s49 =>
                      intro w' hw'
                      clear hw'
                      refine growAt_value ?_
                      go_simp
                      try rfl
                    simp only [Act.put, List.setIfInBounds_toArray, List.set_cons_zero, List.set_cons_succ]
                    refine grow_step (v := .int .i64 (k : Int)) rfl rfl ?s50 ?_
                    case s50 =>
                      intro w' hw'
                      clear hw'
                      refine growAt_value ?_
                      go_simp
                      try rfl
                    simp only [Act.put, List.setIfInBounds_toArray, List.set_cons_zero, List.set_cons_succ]
                    refine grow_step (v := .pointer (some ⟨gw, k, none⟩)) rfl rfl ?s51 ?_
                    case s51 =>
                      intro w' hw'
                      clear hw'
                      refine growAt_value ?_
                      go_simp
                      try rfl
                    simp only [Act.put, List.setIfInBounds_toArray, List.set_cons_zero, List.set_cons_succ]
                    refine grow_step (v := uc x) rfl rfl ?s52 ?_
                    case s52 =>
                      intro w' hw'
                      have y0 := hw'.cell ce2 (fun h => h)
                      clear hw'
                      refine growAt_value ?_
                      go_simp
                      try rfl
                    simp only [Act.put, List.setIfInBounds_toArray, List.set_cons_zero, List.set_cons_succ]
                    refine grow_nil ?_
                    rintro w9 fr9
                    have HF9 := Lib.hid (HFr.out.trans fr9 (fun _ _ h => h))
                    clear cb2 ce1 ce2 fr9 HFr
                    gi_wp2_with fail
                    go_roundw
                    case rel => exact ⟨k + 1, by omega, by go_num, HF9.out⟩
                    case measure => simp [intOf]; omega
                  · have d3 : decide ((k : Int) < (Q.length : Int)) = false := by simp; omega
                    have d3' : decide (k < Q.length) = false := by simp; omega
                    clear cb2
                    gi_wp2_with fail
                    have k2 : wr.heap[D2]? = some (.deferred (some [])) := (HFr.out.block D2 HL2.out (fun h => h)).trans HK2.out
                    have k1 : wr.heap[D]? = some (.deferred (some [])) := (HFr.out.block D HL1.out (fun h => h)).trans HK1.out
                    have hne := HNE.out
                    have k1' : (wr.putObj D2 (.deferred none)).heap[D]? = some (.deferred (some [])) := (World.putObj_heap_other hne).trans k1
                    refine ⟨by simp, .inl ⟨_, _, rfl, run_takeDeferred k2, by simp, .inl ⟨_, _, rfl, run_takeDeferred k1', ?_⟩⟩⟩
                    refine ⟨.bool true, by simp [results, Tryd.results6, go_sem], rfl, ?_⟩
                    have hz := HFR.out.trans HFr.out (fun _ _ h => h)
                    exact ((hz.to_below (B := w.heap.size) (Nat.le_refl _) (fun _ h => h.elim)).trans (belowK_b (w := w) (Nat.le_refl _) wr D2 _ _ HW2.out k2 rfl rfl)).trans (belowK_b (w := w) (Nat.le_refl _) _ D _ _ HW1.out k1' rfl rfl)
              · have d5 : decide ((fs.length : Int) < (Q.length : Int)) = false := by simp; omega
                have d5' : decide (fs.length < Q.length) = false := by simp; omega
                clear hen1
                gi_wp2_with fail
                gi_loopw [17] (fun v wr => ∃ k : Nat, k ≤ Q.length ∧ v = .int .i64 (k : Int) ∧ Fr nob W2 wr) (fun v _ => Q.length - (intOf v).toNat)
                case atStart => exact ⟨0, Nat.zero_le _, rfl, HFA.out⟩
                case round =>
                  clear HFA
                  obtain ⟨k, hk, rfl, hF⟩ := hrel
                  have HFr := Lib.hid hF
                  have cb2 := (HBA2.out.kept' HFr.out).cell
                  clear hF
                  by_cases hkQ : k < Q.length
                  · have d3 : decide ((k : Int) < (Q.length : Int)) = true := by simp; omega
                    have d3' : decide (k < Q.length) = true := by simp; omega
                    obtain ⟨x, hxQ⟩ : ∃ x, Q[k]? = some x := ⟨Q[k], List.getElem?_eq_getElem hkQ⟩
                    have hxm : (Q.map uc)[k]? = some (uc x) := by rw [List.getElem?_map, hxQ]; rfl
                    obtain ⟨g2, rfl, ce1⟩ := HRA2.out.at hxm
                    obtain ⟨gw, rfl, ce2⟩ := HRW.out.at hxm
                    replace ce1 := HFr.out.cell ce1 (fun h => h)
                    replace ce2 := HFr.out.cell ce2 (fun h => h)
                    clear hxQ hxm
                    gi_wp2_with fail
                    refine wpW_region_grow 8 123 (by kernel_rfl) (by kernel_rfl) (by kernel_rfl) rfl rfl ?_
                    simp only [List.take_succ_cons, List.take_zero]
                    refine grow_step (v := .slice (some ⟨g2, 0, none⟩) Q.length cp2) rfl rfl ?s53 ?_
                    case s53 =>
                      intro w' hw'
                      have y0 := hw'.cell cb2 (fun h => h)
                      clear hw'
                      refine growAt_value ?_
                      go_simp
                      try rfl
                    simp only [Act.put, List.setIfInBounds_toArray, List.set_cons_zero, List.set_cons_succ]
                    refine grow_step (v := .int .i64 (k : Int)) rfl rfl ?s54 ?_
                    case s54 =>
                      intro w' hw'
                      clear hw'
                      refine growAt_value ?_
                      go_simp
                      try rfl
                    simp only [Act.put, List.setIfInBounds_toArray, List.set_cons_zero, List.set_cons_succ]
                    refine grow_step (v := .pointer (some ⟨g2, k, none⟩)) rfl rfl ?s55 ?_
                    case s55 =>
                      intro w' hw'
                      clear hw'
                      refine growAt_value ?_
                      go_simp
                      try rfl
                    simp only [Act.put, List.setIfInBounds_toArray, List.set_cons_zero, List.set_cons_succ]
                    refine grow_step (v := uc x) rfl rfl ?s56 ?_
                    case s56 =>
                      intro w' hw'
                      have y0 := hw'.cell ce1 (fun h => h)
                      clear hw'
                      refine growAt_value ?_
                      go_simp
                      try rfl
                    simp only [Act.put, List.setIfInBounds_toArray, List.set_cons_zero, List.set_cons_succ]
                    refine grow_step (v := .slice (some ⟨gw, 0, none⟩) Q.length capW) rfl rfl ?s57 ?_
                    case s57 =>
                      intro w' hw'
                      clear hw'
                      refine growAt_value ?_
                      go_simp
                      try rfl
                    simp only [Act.put, List.setIfInBounds_toArray, List.set_cons_zero, List.set_cons_succ]
                    refine grow_step (v := .int .i64 (k : Int)) rfl rfl ?s58 ?_
                    case s58 =>
                      intro w' hw'
                      clear hw'
                      refine growAt_value ?_
                      go_simp
                      try rfl
                    simp only [Act.put, List.setIfInBounds_toArray, List.set_cons_zero, List.set_cons_succ]
                    refine grow_step (v := .pointer (some ⟨gw, k, none⟩)) rfl rfl ?s59 ?_
                    case s59 =>
                      intro w' hw'
                      clear hw'
                      refine growAt_value ?_
                      go_simp
                      try rfl
                    simp only [Act.put, List.setIfInBounds_toArray, List.set_cons_zero, List.set_cons_succ]
                    refine grow_step (v := uc x) rfl rfl ?s60 ?_
                    case s60 =>
                      intro w' hw'
                      have y0 := hw'.cell ce2 (fun h => h)
                      clear hw'
                      refine growAt_value ?_
                      go_simp
                      try rfl
                    simp only [Act.put, List.setIfInBounds_toArray, List.set_cons_zero, List.set_cons_succ]
                    refine grow_nil ?_
                    rintro w9 fr9
                    have HF9 := Lib.hid (HFr.out.trans fr9 (fun _ _ h => h))
                    clear cb2 ce1 ce2 fr9 HFr
                    gi_wp2_with fail
                    go_roundw
                    case rel => exact ⟨k + 1, by omega, by go_num, HF9.out⟩
                    case measure => simp [intOf]; omega
                  · have d3 : decide ((k : Int) < (Q.length : Int)) = false := by simp; omega
                    have d3' : decide (k < Q.length) = false := by simp; omega
                    clear cb2
                    gi_wp2_with fail
                    have k2 : wr.heap[D2]? = some (.deferred (some [])) := (HFr.out.block D2 HL2.out (fun h => h)).trans HK2.out
                    have k1 : wr.heap[D]? = some (.deferred (some [])) := (HFr.out.block D HL1.out (fun h => h)).trans HK1.out
                    have hne := HNE.out
                    have k1' : (wr.putObj D2 (.deferred none)).heap[D]? = some (.deferred (some [])) := (World.putObj_heap_other hne).trans k1
                    refine ⟨by simp, .inl ⟨_, _, rfl, run_takeDeferred k2, by simp, .inl ⟨_, _, rfl, run_takeDeferred k1', ?_⟩⟩⟩
                    refine ⟨.bool true, by simp [results, Tryd.results6, go_sem], rfl, ?_⟩
                    have hz := HFR.out.trans HFr.out (fun _ _ h => h)
                    exact ((hz.to_below (B := w.heap.size) (Nat.le_refl _) (fun _ h => h.elim)).trans (belowK_b (w := w) (Nat.le_refl _) wr D2 _ _ HW2.out k2 rfl rfl)).trans (belowK_b (w := w) (Nat.le_refl _) _ D _ _ HW1.out k1' rfl rfl)
end Go.Proofs.YtiainlccodnlmaaDoor
