import Derived.Test.YtbiheajnmjbdoaaQd2
import Derived.RegionTactic
import Derived.Test.YtbiheajnmjbdoaaQe6
import Derived.Deep.RegionWith
import Derived.Test.YtbiheajnmjbdoaaQe1
import Derived.Test.YtbiheajnmjbdoaaQd3
namespace Go.Proofs.Ytbiheajnmjbdoaa
open Go.RowKit

/-! a region that draws its order, by what holds of it whatever was done so far -/
theorem countP_lt {α : Type} {p q : α → Bool} : ∀ {l : List α} {x : α}, x ∈ l → (∀ y, q y = true → p y = true) → p x = true → q x = false → l.countP q < l.countP p
  | y :: ys, x, hx, hq, h1, h2 => by
    rw [List.countP_cons, List.countP_cons]
    have hle : ys.countP q ≤ ys.countP p := List.countP_mono_left fun z _ hz => hq z hz
    rcases List.mem_cons.1 hx with rfl | hx
    · rw [h1, h2]; simp; omega
    · have := countP_lt hx hq h1 h2
      cases hqy : q y with
      | false => simp; split <;> omega
      | true => rw [hq y hqy]; simp; omega
section
variable {P : Program} {ops : Array Oper} {Q : Exit → Act → World → Prop} {md : Region.Mode}
def undone (n : Nat) (listed : Array Bool) : Nat := (List.range n).countP fun i => listed.getD i true == false
theorem undone_set {n i : Nat} {listed : Array Bool} (hi : i < n) (hl : listed.getD i true = false) : undone n (listed.setIfInBounds i true) < undone n listed := by
  have hlt : i < listed.size := by
    rcases Nat.lt_or_ge i listed.size with h | h
    · exact h
    · simp [Array.getElem?_eq_none h] at hl
  refine countP_lt (List.mem_range.2 hi) (fun j hj => ?_) (by rw [hl]; rfl) (by simp [hlt])
  by_cases hij : i = j
  · subst hij; simp [hlt] at hj
  · rwa [getD_set_ne true hij] at hj
def backB (ops : Array Oper) : Bool := (List.range ops.size).all fun i => ((ops[i]?).map fun o => o.after.all fun e => decide (e.on < i)).getD true
theorem ready_none (hb : backB ops = true) {listed : Array Bool} (hs : listed.size = ops.size) (hr : Region.ready md ops listed = []) : ∀ i, i < ops.size → listed.getD i false = true := by
  intro i
  induction i using Nat.strongRecOn with
  | ind i ih =>
    intro hi
    cases hl : listed.getD i false with
    | true => rfl
    | false =>
      exfalso
      have hlt : i < listed.size := by omega
      have hm : i ∈ Region.ready md ops listed := by
        rw [mem_ready]
        refine ⟨by simpa [hlt] using hl, ops[i], Array.getElem?_eq_getElem hi, fun e he _ => ?_⟩
        have h1 := (List.all_eq_true.1 hb) i (List.mem_range.2 hi)
        rw [Array.getElem?_eq_getElem hi] at h1
        have h2 : (ops[i]).after.all (fun e => decide (e.on < i)) = true := h1
        rw [Array.all_eq_true_iff_forall_mem] at h2
        have h3 : e.on < i := by simpa using h2 e he
        exact ih e.on h3 (by omega)
      rw [hr] at hm; cases hm
theorem wpAny_inv (hb : backB ops = true) (Inv : Array Bool → Act → World → Prop)
    (hstep : ∀ listed a w i, Inv listed a w → i ∈ Region.ready md ops listed → wpOp P ops Q i (Inv (listed.setIfInBounds i true)) a w)
    (hend : ∀ listed a w, Inv listed a w → (∀ i, i < ops.size → listed.getD i false = true) → Q .normal a w) :
    ∀ fuel listed a w, listed.size = ops.size → undone ops.size listed ≤ fuel → Inv listed a w → wpAny P md ops Q fuel listed a w := by
  intro fuel
  induction fuel with
  | zero =>
    intro listed a w hs hu hI
    have hr : Region.ready md ops listed = [] := by
      cases hr : Region.ready md ops listed with
      | nil => rfl
      | cons i rs =>
        exfalso
        have hm : i ∈ Region.ready md ops listed := by rw [hr]; exact List.mem_cons_self
        obtain ⟨h0, o, ho, _⟩ := mem_ready.1 hm
        have hi : i < ops.size := (Array.getElem?_eq_some_iff.1 ho).1
        have := undone_set hi h0
        omega
    exact ⟨hr, hend listed a w hI (ready_none hb hs hr)⟩
  | succ fuel ih =>
    intro listed a w hs hu hI
    refine ⟨fun hr => hend listed a w hI (ready_none hb hs hr), fun i hi => ?_⟩
    obtain ⟨h0, o, ho, _⟩ := mem_ready.1 hi
    have hlt : i < ops.size := (Array.getElem?_eq_some_iff.1 ho).1
    have hu2 := undone_set hlt h0
    exact wpOp_mono (fun a' w' h => ih _ a' w' (by simpa using hs) (by omega) h) (hstep listed a w i hI hi)
theorem wp_region_inv {id : Nat} {a : Act} {w : World} (hm : P.follows .mixedOrders = true) (hb : backB ops = true) (Inv : Array Bool → Act → World → Prop)
    (h0 : Inv (Array.replicate ops.size false) a w.drew)
    (hstep : ∀ listed a w i, Inv listed a w → i ∈ Region.ready .any ops listed → wpOp P ops Q i (Inv (listed.setIfInBounds i true)) a w)
    (hend : ∀ listed a w, Inv listed a w → (∀ i, i < ops.size → listed.getD i false = true) → Q .normal a w) : (Code.region id ops true).wp P Q a w := by
  refine wp_region_any hm ?_
  have h : wpAny P .any ops Q ops.size (Array.replicate ops.size false) a w.drew := by
    refine wpAny_inv hb Inv hstep hend _ _ _ _ (by simp) ?_ h0
    unfold undone
    exact Nat.le_trans List.countP_le_length (by simp)
  exact h
theorem wp_region_inv' {id : Nat} {a : Act} {w : World} (hm : P.follows .mixedOrders = true) (hb : backB ops = true) (I : Act → World → Array Bool → Act → World → Prop)
    (h0 : I a w (Array.replicate ops.size false) a w.drew)
    (hstep : ∀ listed a' w' i, I a w listed a' w' → i ∈ Region.ready .any ops listed → wpOp P ops Q i (I a w (listed.setIfInBounds i true)) a' w')
    (hend : ∀ listed a' w', I a w listed a' w' → (∀ i, i < ops.size → listed.getD i false = true) → Q .normal a' w') : (Code.region id ops true).wp P Q a w :=
  wp_region_inv hm hb (I a w) h0 hstep hend
theorem inv_val {i : Nat} {o : Oper} {K : Act → World → Prop} {a : Act} {w w' : World} {v : Value} (ho : ops[i]? = some o) (hg : o.guard = none) (h : (execOp a.eval o).run P w = .ok (.value v) w') (k : K (a.put o.dst v) w') : wpOp P ops Q i K a w := by
  refine wpOp_step ho fun K' hK => ?_
  have hw : Region.wanted o (yielded ops a.tmps) = true := by simp [Region.wanted, hg]
  rw [if_pos hw]
  unfold Oper.wp
  rw [h]
  exact hK _ _ k
theorem inv_skip {i : Nat} {o : Oper} {K : Act → World → Prop} {a : Act} {w w' : World} (ho : ops[i]? = some o) (hg : o.guard = none) (hd : o.dst = none) (h : (execOp a.eval o).run P w = .ok .skip w') (k : K a w') : wpOp P ops Q i K a w := by
  refine wpOp_step ho fun K' hK => ?_
  have hw : Region.wanted o (yielded ops a.tmps) = true := by simp [Region.wanted, hg]
  rw [if_pos hw]
  unfold Oper.wp
  rw [h]
  show K' (a.put o.dst undef) w'
  rw [hd]
  exact hK _ _ k
theorem inv_call {i : Nat} {o : Oper} {K : Act → World → Prop} {a : Act} {w : World} {f : FuncId} {args : Array Value} (ho : ops[i]? = some o) (hg : o.guard = none) (h : (execOp a.eval o).run P w = .ok (.enter f args) w) (hc : Calls P f args w fun e w' => ∃ v, e = .returned v ∧ K (a.put o.dst v) w') : wpOp P ops Q i K a w := by
  refine wpOp_step ho fun K' hK => ?_
  have hw : Region.wanted o (yielded ops a.tmps) = true := by simp [Region.wanted, hg]
  rw [if_pos hw]
  unfold Oper.wp
  rw [h, Oper.upon_enter]
  refine hc.mono fun e w' hh => ?_
  obtain ⟨v, rfl, hk⟩ := hh
  exact hK _ _ hk
end
theorem load3 (t d : Tmp) (e : Array Edge) (a : Act) (w : World) (b : Nat) (x y z : Value) (ps : String) (h3 : a.tmps.getD t undef = .pointer (some ⟨b, 0, none⟩)) (hx : ∃ o : Int, x = .int .u8 o) (hy : ∃ s, y = .string s) (hz : ∃ a n c, z = .slice a n c) (c0 : w.cell? ⟨b, 0, none⟩ = some x) (c1 : w.cell? ⟨b, 1, none⟩ = some y) (c2 : w.cell? ⟨b, 2, none⟩ = some z) :
    (execOp a.eval { dst := some d, op := .load 25 (.tmp t), type := 25, pos := ps, after := e, guard := none }).run Try.prog w = .ok (.value (.agg #[x, y, z])) w := by
  have he : a.eval (.tmp t) = .pointer (some ⟨b, 0, none⟩) := h3
  obtain ⟨o, rfl⟩ := hx
  obtain ⟨s, rfl⟩ := hy
  obtain ⟨a', n, c, rfl⟩ := hz
  go_simp
theorem call1 (t d : Tmp) (e : Array Edge) (a : Act) (w : World) (v : Value) (ps : String) (h3 : a.tmps.getD t undef = v) :
    (execOp a.eval { dst := some d, op := .call { callee := .value (.func 15), args := #[.tmp t], argTypes := #[25] }, type := 25, pos := ps, after := e, guard := none }).run Try.prog w = .ok (.enter 15 #[v]) w := by
  have he : a.eval (.tmp t) = v := h3
  go_simp
theorem alloc3 (d : Tmp) (e : Array Edge) (a : Act) (w : World) (ps : String) :
    (execOp a.eval { dst := some d, op := .alloc 25, type := 0, pos := ps, after := e, guard := none }).run Try.prog w = .ok (.value (.pointer (some ⟨w.heap.size, 0, none⟩))) (w.alloc (.cells #[.int .u8 0, .string ⟨#[]⟩, .slice none 0 0] 25)) := by
  go_simp
theorem store3 (t u : Tmp) (e : Array Edge) (a : Act) (w : World) (b : Nat) (x y z x' y' z' : Value) (ps : String) (h3 : a.tmps.getD t undef = .pointer (some ⟨b, 0, none⟩)) (h4 : a.tmps.getD u undef = .agg #[x', y', z'])
    (hx : ∃ o : Int, x' = .int .u8 o) (hy : ∃ s, y' = .string s) (hz : ∃ a n c, z' = .slice a n c) (hB : Box3 w b x y z) :
    (execOp a.eval { dst := none, op := .store 25 (.tmp t) (.tmp u), type := 0, pos := ps, after := e, guard := none }).run Try.prog w = .ok .skip (((w.setCell ⟨b, 0, none⟩ x').setCell ⟨b, 1, none⟩ y').setCell ⟨b, 2, none⟩ z') := by
  have he : a.eval (.tmp t) = .pointer (some ⟨b, 0, none⟩) := h3
  have hf : a.eval (.tmp u) = .agg #[x', y', z'] := h4
  obtain ⟨o, rfl⟩ := hx
  obtain ⟨s, rfl⟩ := hy
  obtain ⟨a', n, c, rfl⟩ := hz
  have ⟨d0, d1, d2, df⟩ := hB
  have df0 := df 0
  have df1 := df 1
  have df2 := df 2
  clear df
  go_simp
theorem L_set {listed : Array Bool} {i j : Nat} (h : (listed.setIfInBounds i true).getD j false = true) : listed.getD j false = true ∨ j = i := by
  by_cases hij : i = j
  · exact .inr hij.symm
  · rw [getD_set_ne false hij] at h; exact .inl h
theorem put_ne {a : Act} {d u : Nat} {v : Value} (h : u ≠ d) : (a.put (some d) v).tmps[u]? = a.tmps[u]? := by
  show (a.tmps.setIfInBounds d v)[u]? = _
  rw [Array.getElem?_setIfInBounds_ne (Ne.symm h)]
theorem put_eq {a : Act} {d : Nat} {v : Value} (h : d < a.tmps.size) : (a.put (some d) v).tmps[d]? = some v := by
  show (a.tmps.setIfInBounds d v)[d]? = _
  simp [h]
theorem put_sz {a : Act} {d : Option Tmp} {v : Value} : (a.put d v).tmps.size = a.tmps.size := by
  cases d <;> simp [Act.put]
theorem put_df {a : Act} {d : Option Tmp} {v : Value} : (a.put d v).defers = a.defers := by
  cases d <;> rfl
theorem getD_of {a : Act} {d : Nat} {v : Value} (h : a.tmps[d]? = some v) : a.tmps.getD d undef = v := by
  simp [Array.getD_eq_getD_getElem?, h]
abbrev pt (b : Nat) : Value := .pointer (some ⟨b, 0, none⟩)
theorem pt_inj {b b' : Nat} (h : pt b = pt b') : b = b' := by
  cases h; rfl
end Go.Proofs.Ytbiheajnmjbdoaa
namespace Go.Proofs.Ytbiheajnmjbdoaa
open Go.RowKit

/-! own, put := Copied(e), Copied(by) -/
def CSR (w0 : World) (a : Act) (b : Nat) : Prop := w0.heap.size ≤ b ∧ a.tmps[(7 : Nat)]? ≠ some (pt b) ∧ a.tmps[(8 : Nat)]? ≠ some (pt b)
structure CIR (t tb : Tr) (w0 : World) (A0 : Act) (X Y : Value) (L : Nat → Prop) (a : Act) (w : World) : Prop where
  df : a.defers = A0.defers
  sz : a.tmps.size = A0.tmps.size
  ot : ∀ u : Nat, u ≠ 37 → u ≠ 38 → u ≠ 39 → u ≠ 40 → u ≠ 7 → u ≠ 8 → a.tmps[u]? = A0.tmps[u]?
  fr : Fr nob w0 w
  x : L 0 → a.tmps[(37 : Nat)]? = some X
  y : L 2 → a.tmps[(39 : Nat)]? = some Y
  v : L 1 → ∃ v, a.tmps[(38 : Nat)]? = some v ∧ TrV w (CSR w0 a) t v
  u : L 3 → ∃ v, a.tmps[(40 : Nat)]? = some v ∧ TrV w (CSR w0 a) tb v
  p : L 4 → ∃ b x y z, a.tmps[(7 : Nat)]? = some (pt b) ∧ w0.heap.size ≤ b ∧ Box3 w b x y z ∧ (L 6 → a.tmps[(38 : Nat)]? = some (.agg #[x, y, z]))
  q : L 5 → ∃ b x y z, a.tmps[(8 : Nat)]? = some (pt b) ∧ w0.heap.size ≤ b ∧ Box3 w b x y z ∧ (L 7 → a.tmps[(40 : Nat)]? = some (.agg #[x, y, z]))
  ne : L 4 → L 5 → a.tmps[(7 : Nat)]? ≠ a.tmps[(8 : Nat)]?
  pb : ∀ b, a.tmps[(7 : Nat)]? = some (pt b) → b < w.heap.size
  qb : ∀ b, a.tmps[(8 : Nat)]? = some (pt b) → b < w.heap.size
theorem ciR_0 {t tb : Tr} {w0 : World} {A0 : Act} {X Y : Value} {L L' : Nat → Prop} {a : Act} {w : World} (h : CIR t tb w0 A0 X Y L a w) (hL : ∀ j, L' j → L j ∨ j = 0) (hs : 37 < a.tmps.size) : CIR t tb w0 A0 X Y L' (a.put (some 37) X) w := by
  have hcs : ∀ b, CSR w0 a b → CSR w0 (a.put (some 37) X) b := fun b hb => ⟨hb.1, by rw [put_ne (by decide)]; exact hb.2.1, by rw [put_ne (by decide)]; exact hb.2.2⟩
  have no : ∀ j, j ≠ 0 → L' j → L j := fun j hj h' => (hL j h').resolve_right hj
  refine ⟨put_df.trans h.df, put_sz.trans h.sz, fun u h1 h2 h3 h4 h5 h6 => by rw [put_ne (by assumption)]; exact h.ot u h1 h2 h3 h4 h5 h6, h.fr, ?_, ?_, ?_, ?_, ?_, ?_, ?_, ?_, ?_⟩
  · intro _; rw [put_eq hs]
  · intro h'; rw [put_ne (by decide)]; exact h.y (no 2 (by decide) h')
  · intro h'; obtain ⟨v, h1, h2⟩ := h.v (no 1 (by decide) h'); exact ⟨v, by rw [put_ne (by decide)]; exact h1, h2.kept (Fr.refl nob w) (fun b hb _ => ⟨fun h => h, hcs b hb⟩)⟩
  · intro h'; obtain ⟨v, h1, h2⟩ := h.u (no 3 (by decide) h'); exact ⟨v, by rw [put_ne (by decide)]; exact h1, h2.kept (Fr.refl nob w) (fun b hb _ => ⟨fun h => h, hcs b hb⟩)⟩
  · intro h'; obtain ⟨b, x, y, z, h1, h2, h3, h4⟩ := h.p (no 4 (by decide) h'); exact ⟨b, x, y, z, by rw [put_ne (by decide)]; exact h1, h2, h3, fun h6 => by rw [put_ne (by decide)]; exact h4 (no 6 (by decide) h6)⟩
  · intro h'; obtain ⟨b, x, y, z, h1, h2, h3, h4⟩ := h.q (no 5 (by decide) h'); exact ⟨b, x, y, z, by rw [put_ne (by decide)]; exact h1, h2, h3, fun h6 => by rw [put_ne (by decide)]; exact h4 (no 7 (by decide) h6)⟩
  · intro h4 h5; rw [put_ne (by decide), put_ne (by decide)]; exact h.ne (no 4 (by decide) h4) (no 5 (by decide) h5)
  · intro b; rw [put_ne (by decide)]; exact h.pb b
  · intro b; rw [put_ne (by decide)]; exact h.qb b
theorem ciR_2 {t tb : Tr} {w0 : World} {A0 : Act} {X Y : Value} {L L' : Nat → Prop} {a : Act} {w : World} (h : CIR t tb w0 A0 X Y L a w) (hL : ∀ j, L' j → L j ∨ j = 2) (hs : 39 < a.tmps.size) : CIR t tb w0 A0 X Y L' (a.put (some 39) Y) w := by
  have hcs : ∀ b, CSR w0 a b → CSR w0 (a.put (some 39) Y) b := fun b hb => ⟨hb.1, by rw [put_ne (by decide)]; exact hb.2.1, by rw [put_ne (by decide)]; exact hb.2.2⟩
  have no : ∀ j, j ≠ 2 → L' j → L j := fun j hj h' => (hL j h').resolve_right hj
  refine ⟨put_df.trans h.df, put_sz.trans h.sz, fun u h1 h2 h3 h4 h5 h6 => by rw [put_ne (by assumption)]; exact h.ot u h1 h2 h3 h4 h5 h6, h.fr, ?_, ?_, ?_, ?_, ?_, ?_, ?_, ?_, ?_⟩
  · intro h'; rw [put_ne (by decide)]; exact h.x (no 0 (by decide) h')
  · intro _; rw [put_eq hs]
  · intro h'; obtain ⟨v, h1, h2⟩ := h.v (no 1 (by decide) h'); exact ⟨v, by rw [put_ne (by decide)]; exact h1, h2.kept (Fr.refl nob w) (fun b hb _ => ⟨fun h => h, hcs b hb⟩)⟩
  · intro h'; obtain ⟨v, h1, h2⟩ := h.u (no 3 (by decide) h'); exact ⟨v, by rw [put_ne (by decide)]; exact h1, h2.kept (Fr.refl nob w) (fun b hb _ => ⟨fun h => h, hcs b hb⟩)⟩
  · intro h'; obtain ⟨b, x, y, z, h1, h2, h3, h4⟩ := h.p (no 4 (by decide) h'); exact ⟨b, x, y, z, by rw [put_ne (by decide)]; exact h1, h2, h3, fun h6 => by rw [put_ne (by decide)]; exact h4 (no 6 (by decide) h6)⟩
  · intro h'; obtain ⟨b, x, y, z, h1, h2, h3, h4⟩ := h.q (no 5 (by decide) h'); exact ⟨b, x, y, z, by rw [put_ne (by decide)]; exact h1, h2, h3, fun h6 => by rw [put_ne (by decide)]; exact h4 (no 7 (by decide) h6)⟩
  · intro h4 h5; rw [put_ne (by decide), put_ne (by decide)]; exact h.ne (no 4 (by decide) h4) (no 5 (by decide) h5)
  · intro b; rw [put_ne (by decide)]; exact h.pb b
  · intro b; rw [put_ne (by decide)]; exact h.qb b
theorem ciR_1 {t tb : Tr} {w0 : World} {A0 : Act} {X Y : Value} {L L' : Nat → Prop} {a : Act} {w w' : World} {r : Value} (h : CIR t tb w0 A0 X Y L a w) (hL : ∀ j, L' j → L j ∨ j = 1) (hs : 38 < a.tmps.size) (hst : ¬ L 6) (F : Fr nob w w') (hr : TrV w' (fun b => w.heap.size ≤ b) t r) : CIR t tb w0 A0 X Y L' (a.put (some 38) r) w' := by
  have hp := h.pb
  have hq := h.qb
  have hcs : ∀ b, CSR w0 a b → CSR w0 (a.put (some 38) r) b := fun b hb => ⟨hb.1, by rw [put_ne (by decide)]; exact hb.2.1, by rw [put_ne (by decide)]; exact hb.2.2⟩
  have hcn : ∀ b, w.heap.size ≤ b → CSR w0 (a.put (some 38) r) b := fun b hb => ⟨Nat.le_trans h.fr.size hb, by rw [put_ne (by decide)]; exact fun e => absurd (hp b e) (by omega), by rw [put_ne (by decide)]; exact fun e => absurd (hq b e) (by omega)⟩
  have no : ∀ j, j ≠ 1 → L' j → L j := fun j hj h' => (hL j h').resolve_right hj
  refine ⟨put_df.trans h.df, put_sz.trans h.sz, fun u h1 h2 h3 h4 h5 h6 => by rw [put_ne (by assumption)]; exact h.ot u h1 h2 h3 h4 h5 h6, h.fr.trans F (fun _ _ h => h), ?_, ?_, ?_, ?_, ?_, ?_, ?_, ?_, ?_⟩
  · intro h'; rw [put_ne (by decide)]; exact h.x (no 0 (by decide) h')
  · intro h'; rw [put_ne (by decide)]; exact h.y (no 2 (by decide) h')
  · intro _; exact ⟨r, put_eq hs, hr.kept (Fr.refl nob w') (fun b hb _ => ⟨fun h => h, hcn b hb⟩)⟩
  · intro h'; obtain ⟨v, h1, h2⟩ := h.u (no 3 (by decide) h'); exact ⟨v, by rw [put_ne (by decide)]; exact h1, h2.kept F (fun b hb _ => ⟨fun h => h, hcs b hb⟩)⟩
  · intro h'; obtain ⟨b, x, y, z, h1, h2, h3, _⟩ := h.p (no 4 (by decide) h'); exact ⟨b, x, y, z, by rw [put_ne (by decide)]; exact h1, h2, h3.kept F (fun h => h), fun h6 => absurd (no 6 (by decide) h6) hst⟩
  · intro h'; obtain ⟨b, x, y, z, h1, h2, h3, h4⟩ := h.q (no 5 (by decide) h'); exact ⟨b, x, y, z, by rw [put_ne (by decide)]; exact h1, h2, h3.kept F (fun h => h), fun h6 => by rw [put_ne (by decide)]; exact h4 (no 7 (by decide) h6)⟩
  · intro h4 h5; rw [put_ne (by decide), put_ne (by decide)]; exact h.ne (no 4 (by decide) h4) (no 5 (by decide) h5)
  · intro b; rw [put_ne (by decide)]; exact fun e => Nat.lt_of_lt_of_le (h.pb b e) F.size
  · intro b; rw [put_ne (by decide)]; exact fun e => Nat.lt_of_lt_of_le (h.qb b e) F.size
theorem ciR_3 {t tb : Tr} {w0 : World} {A0 : Act} {X Y : Value} {L L' : Nat → Prop} {a : Act} {w w' : World} {r : Value} (h : CIR t tb w0 A0 X Y L a w) (hL : ∀ j, L' j → L j ∨ j = 3) (hs : 40 < a.tmps.size) (hst : ¬ L 7) (F : Fr nob w w') (hr : TrV w' (fun b => w.heap.size ≤ b) tb r) : CIR t tb w0 A0 X Y L' (a.put (some 40) r) w' := by
  have hp := h.pb
  have hq := h.qb
  have hcs : ∀ b, CSR w0 a b → CSR w0 (a.put (some 40) r) b := fun b hb => ⟨hb.1, by rw [put_ne (by decide)]; exact hb.2.1, by rw [put_ne (by decide)]; exact hb.2.2⟩
  have hcn : ∀ b, w.heap.size ≤ b → CSR w0 (a.put (some 40) r) b := fun b hb => ⟨Nat.le_trans h.fr.size hb, by rw [put_ne (by decide)]; exact fun e => absurd (hp b e) (by omega), by rw [put_ne (by decide)]; exact fun e => absurd (hq b e) (by omega)⟩
  have no : ∀ j, j ≠ 3 → L' j → L j := fun j hj h' => (hL j h').resolve_right hj
  refine ⟨put_df.trans h.df, put_sz.trans h.sz, fun u h1 h2 h3 h4 h5 h6 => by rw [put_ne (by assumption)]; exact h.ot u h1 h2 h3 h4 h5 h6, h.fr.trans F (fun _ _ h => h), ?_, ?_, ?_, ?_, ?_, ?_, ?_, ?_, ?_⟩
  · intro h'; rw [put_ne (by decide)]; exact h.x (no 0 (by decide) h')
  · intro h'; rw [put_ne (by decide)]; exact h.y (no 2 (by decide) h')
  · intro h'; obtain ⟨v, h1, h2⟩ := h.v (no 1 (by decide) h'); exact ⟨v, by rw [put_ne (by decide)]; exact h1, h2.kept F (fun b hb _ => ⟨fun h => h, hcs b hb⟩)⟩
  · intro _; exact ⟨r, put_eq hs, hr.kept (Fr.refl nob w') (fun b hb _ => ⟨fun h => h, hcn b hb⟩)⟩
  · intro h'; obtain ⟨b, x, y, z, h1, h2, h3, h4⟩ := h.p (no 4 (by decide) h'); exact ⟨b, x, y, z, by rw [put_ne (by decide)]; exact h1, h2, h3.kept F (fun h => h), fun h6 => by rw [put_ne (by decide)]; exact h4 (no 6 (by decide) h6)⟩
  · intro h'; obtain ⟨b, x, y, z, h1, h2, h3, _⟩ := h.q (no 5 (by decide) h'); exact ⟨b, x, y, z, by rw [put_ne (by decide)]; exact h1, h2, h3.kept F (fun h => h), fun h6 => absurd (no 7 (by decide) h6) hst⟩
  · intro h4 h5; rw [put_ne (by decide), put_ne (by decide)]; exact h.ne (no 4 (by decide) h4) (no 5 (by decide) h5)
  · intro b; rw [put_ne (by decide)]; exact fun e => Nat.lt_of_lt_of_le (h.pb b e) F.size
  · intro b; rw [put_ne (by decide)]; exact fun e => Nat.lt_of_lt_of_le (h.qb b e) F.size
theorem ciR_4 {t tb : Tr} {w0 : World} {A0 : Act} {X Y : Value} {L L' : Nat → Prop} {a : Act} {w : World} (h : CIR t tb w0 A0 X Y L a w) (hL : ∀ j, L' j → L j ∨ j = 4) (hs : 7 < a.tmps.size) (hst : ¬ L 6) : CIR t tb w0 A0 X Y L' (a.put (some 7) (pt w.heap.size)) (w.alloc (.cells #[.int .u8 0, .string ⟨#[]⟩, .slice none 0 0] 25)) := by
  have F : Fr nob w (w.alloc (.cells #[.int .u8 0, .string ⟨#[]⟩, .slice none 0 0] 25)) := (Fr.refl nob w).alloc _
  have hz : (w.alloc (.cells #[.int .u8 0, .string ⟨#[]⟩, .slice none 0 0] 25)).heap.size = w.heap.size + 1 := by simp
  have ho := h.qb
  have hcs : ∀ b, CSR w0 a b → b < w.heap.size → CSR w0 (a.put (some 7) (pt w.heap.size)) b := fun b hb hlt => ⟨hb.1, by rw [put_eq hs]; intro e; have := pt_inj (Option.some.inj e); omega, by rw [put_ne (by decide)]; exact hb.2.2⟩
  have no : ∀ j, j ≠ 4 → L' j → L j := fun j hj h' => (hL j h').resolve_right hj
  refine ⟨put_df.trans h.df, put_sz.trans h.sz, fun u h1 h2 h3 h4 h5 h6 => by rw [put_ne (by assumption)]; exact h.ot u h1 h2 h3 h4 h5 h6, h.fr.trans F (fun _ _ h => h), ?_, ?_, ?_, ?_, ?_, ?_, ?_, ?_, ?_⟩
  · intro h'; rw [put_ne (by decide)]; exact h.x (no 0 (by decide) h')
  · intro h'; rw [put_ne (by decide)]; exact h.y (no 2 (by decide) h')
  · intro h'; obtain ⟨v, h1, h2⟩ := h.v (no 1 (by decide) h'); exact ⟨v, by rw [put_ne (by decide)]; exact h1, h2.kept F (fun b hb hlt => ⟨fun h => h, hcs b hb hlt⟩)⟩
  · intro h'; obtain ⟨v, h1, h2⟩ := h.u (no 3 (by decide) h'); exact ⟨v, by rw [put_ne (by decide)]; exact h1, h2.kept F (fun b hb hlt => ⟨fun h => h, hcs b hb hlt⟩)⟩
  · intro _; exact ⟨_, _, _, _, put_eq hs, h.fr.size, Box3.new w _ _ _ _, fun h6 => absurd (no 6 (by decide) h6) hst⟩
  · intro h'; obtain ⟨b, x, y, z, h1, h2, h3, h4⟩ := h.q (no 5 (by decide) h'); exact ⟨b, x, y, z, by rw [put_ne (by decide)]; exact h1, h2, h3.kept F (fun h => h), fun h6 => by rw [put_ne (by decide)]; exact h4 (no 7 (by decide) h6)⟩
  · intro _ h5; rw [put_eq hs, put_ne (by decide)]; intro e; have := ho _ e.symm; omega
  · intro b e; rw [put_eq hs] at e; have := pt_inj (Option.some.inj e); omega
  · intro b; rw [put_ne (by decide)]; exact fun e => Nat.lt_of_lt_of_le (h.qb b e) F.size
theorem ciR_5 {t tb : Tr} {w0 : World} {A0 : Act} {X Y : Value} {L L' : Nat → Prop} {a : Act} {w : World} (h : CIR t tb w0 A0 X Y L a w) (hL : ∀ j, L' j → L j ∨ j = 5) (hs : 8 < a.tmps.size) (hst : ¬ L 7) : CIR t tb w0 A0 X Y L' (a.put (some 8) (pt w.heap.size)) (w.alloc (.cells #[.int .u8 0, .string ⟨#[]⟩, .slice none 0 0] 25)) := by
  have F : Fr nob w (w.alloc (.cells #[.int .u8 0, .string ⟨#[]⟩, .slice none 0 0] 25)) := (Fr.refl nob w).alloc _
  have hz : (w.alloc (.cells #[.int .u8 0, .string ⟨#[]⟩, .slice none 0 0] 25)).heap.size = w.heap.size + 1 := by simp
  have ho := h.pb
  have hcs : ∀ b, CSR w0 a b → b < w.heap.size → CSR w0 (a.put (some 8) (pt w.heap.size)) b := fun b hb hlt => ⟨hb.1, by rw [put_ne (by decide)]; exact hb.2.1, by rw [put_eq hs]; intro e; have := pt_inj (Option.some.inj e); omega⟩
  have no : ∀ j, j ≠ 5 → L' j → L j := fun j hj h' => (hL j h').resolve_right hj
  refine ⟨put_df.trans h.df, put_sz.trans h.sz, fun u h1 h2 h3 h4 h5 h6 => by rw [put_ne (by assumption)]; exact h.ot u h1 h2 h3 h4 h5 h6, h.fr.trans F (fun _ _ h => h), ?_, ?_, ?_, ?_, ?_, ?_, ?_, ?_, ?_⟩
  · intro h'; rw [put_ne (by decide)]; exact h.x (no 0 (by decide) h')
  · intro h'; rw [put_ne (by decide)]; exact h.y (no 2 (by decide) h')
  · intro h'; obtain ⟨v, h1, h2⟩ := h.v (no 1 (by decide) h'); exact ⟨v, by rw [put_ne (by decide)]; exact h1, h2.kept F (fun b hb hlt => ⟨fun h => h, hcs b hb hlt⟩)⟩
  · intro h'; obtain ⟨v, h1, h2⟩ := h.u (no 3 (by decide) h'); exact ⟨v, by rw [put_ne (by decide)]; exact h1, h2.kept F (fun b hb hlt => ⟨fun h => h, hcs b hb hlt⟩)⟩
  · intro h'; obtain ⟨b, x, y, z, h1, h2, h3, h4⟩ := h.p (no 4 (by decide) h'); exact ⟨b, x, y, z, by rw [put_ne (by decide)]; exact h1, h2, h3.kept F (fun h => h), fun h6 => by rw [put_ne (by decide)]; exact h4 (no 6 (by decide) h6)⟩
  · intro _; exact ⟨_, _, _, _, put_eq hs, h.fr.size, Box3.new w _ _ _ _, fun h6 => absurd (no 7 (by decide) h6) hst⟩
  · intro h4 _; rw [put_eq hs, put_ne (by decide)]; intro e; have := ho _ e; omega
  · intro b; rw [put_ne (by decide)]; exact fun e => Nat.lt_of_lt_of_le (h.pb b e) F.size
  · intro b e; rw [put_eq hs] at e; have := pt_inj (Option.some.inj e); omega
theorem ciR_6 {t tb : Tr} {w0 : World} {A0 : Act} {X Y : Value} {L L' : Nat → Prop} {a : Act} {w : World} {b : Nat} {x y z x' y' z' : Value} (h : CIR t tb w0 A0 X Y L a w) (hL : ∀ j, L' j → L j ∨ j = 6) (h4 : L 4) (h5 : L 5)
    (h1 : a.tmps[(7 : Nat)]? = some (pt b)) (h2 : w0.heap.size ≤ b) (hB : Box3 w b x y z) (hc : a.tmps[(38 : Nat)]? = some (.agg #[x', y', z'])) : CIR t tb w0 A0 X Y L' a (((w.setCell ⟨b, 0, none⟩ x').setCell ⟨b, 1, none⟩ y').setCell ⟨b, 2, none⟩ z') := by
  obtain ⟨XX, F⟩ := hB.set x' y' z'
  have no : ∀ j, j ≠ 6 → L' j → L j := fun j hj h' => (hL j h').resolve_right hj
  have hcs : ∀ k, CSR w0 a k → ¬ k = b := fun k hb e => hb.2.1 (by rw [e]; exact h1)
  refine ⟨h.df, h.sz, h.ot, h.fr.trans' (T := nob) F (fun _ _ h => h) (fun k hk (e : k = b) => absurd hk (by omega)), fun h' => h.x (no 0 (by decide) h'), fun h' => h.y (no 2 (by decide) h'), ?_, ?_, ?_, ?_, fun a1 a2 => h.ne (no 4 (by decide) a1) (no 5 (by decide) a2), fun k e => Nat.lt_of_lt_of_le (h.pb k e) F.size, fun k e => Nat.lt_of_lt_of_le (h.qb k e) F.size⟩
  · intro h'; obtain ⟨v, g1, g2⟩ := h.v (no 1 (by decide) h'); exact ⟨v, g1, g2.kept F (fun k hk _ => ⟨hcs k hk, hk⟩)⟩
  · intro h'; obtain ⟨v, g1, g2⟩ := h.u (no 3 (by decide) h'); exact ⟨v, g1, g2.kept F (fun k hk _ => ⟨hcs k hk, hk⟩)⟩
  · intro _; exact ⟨b, x', y', z', h1, h2, XX, fun _ => hc⟩
  · intro h'; obtain ⟨b2, x2, y2, z2, g1, g2, g3, g4⟩ := h.q (no 5 (by decide) h'); exact ⟨b2, x2, y2, z2, g1, g2, g3.kept F (fun e => h.ne h4 h5 (by rw [h1, g1, e])), fun h6 => g4 (no 7 (by decide) h6)⟩
theorem ciR_7 {t tb : Tr} {w0 : World} {A0 : Act} {X Y : Value} {L L' : Nat → Prop} {a : Act} {w : World} {b : Nat} {x y z x' y' z' : Value} (h : CIR t tb w0 A0 X Y L a w) (hL : ∀ j, L' j → L j ∨ j = 7) (h4 : L 4) (h5 : L 5)
    (h1 : a.tmps[(8 : Nat)]? = some (pt b)) (h2 : w0.heap.size ≤ b) (hB : Box3 w b x y z) (hc : a.tmps[(40 : Nat)]? = some (.agg #[x', y', z'])) : CIR t tb w0 A0 X Y L' a (((w.setCell ⟨b, 0, none⟩ x').setCell ⟨b, 1, none⟩ y').setCell ⟨b, 2, none⟩ z') := by
  obtain ⟨XX, F⟩ := hB.set x' y' z'
  have no : ∀ j, j ≠ 7 → L' j → L j := fun j hj h' => (hL j h').resolve_right hj
  have hcs : ∀ k, CSR w0 a k → ¬ k = b := fun k hb e => hb.2.2 (by rw [e]; exact h1)
  refine ⟨h.df, h.sz, h.ot, h.fr.trans' (T := nob) F (fun _ _ h => h) (fun k hk (e : k = b) => absurd hk (by omega)), fun h' => h.x (no 0 (by decide) h'), fun h' => h.y (no 2 (by decide) h'), ?_, ?_, ?_, ?_, fun a1 a2 => h.ne (no 4 (by decide) a1) (no 5 (by decide) a2), fun k e => Nat.lt_of_lt_of_le (h.pb k e) F.size, fun k e => Nat.lt_of_lt_of_le (h.qb k e) F.size⟩
  · intro h'; obtain ⟨v, g1, g2⟩ := h.v (no 1 (by decide) h'); exact ⟨v, g1, g2.kept F (fun k hk _ => ⟨hcs k hk, hk⟩)⟩
  · intro h'; obtain ⟨v, g1, g2⟩ := h.u (no 3 (by decide) h'); exact ⟨v, g1, g2.kept F (fun k hk _ => ⟨hcs k hk, hk⟩)⟩
  · intro h'; obtain ⟨b2, x2, y2, z2, g1, g2, g3, g4⟩ := h.p (no 4 (by decide) h'); exact ⟨b2, x2, y2, z2, g1, g2, g3.kept F (fun e => h.ne h4 h5 (by rw [h1, g1, e])), fun h6 => g4 (no 6 (by decide) h6)⟩
  · intro _; exact ⟨b, x', y', z', h1, h2, XX, fun _ => hc⟩
theorem actR {t tb : Tr} {w0 : World} {A0 : Act} {X Y V U B C : Value} {L : Nat → Prop} {a : Act} {w : World} (h : CIR t tb w0 A0 X Y L a w) (h1 : a.tmps[(37 : Nat)]? = some X) (h2 : a.tmps[(38 : Nat)]? = some V) (h3 : a.tmps[(39 : Nat)]? = some Y) (h4 : a.tmps[(40 : Nat)]? = some U) (h5 : a.tmps[(7 : Nat)]? = some B) (h6 : a.tmps[(8 : Nat)]? = some C) :
    a = (((((A0.put (some 37) X).put (some 38) V).put (some 39) Y).put (some 40) U).put (some 7) B).put (some 8) C := by
  have hlt : ∀ (j : Nat) (v : Value), a.tmps[j]? = some v → j < A0.tmps.size := fun j v e => by rw [← h.sz]; exact (Array.getElem?_eq_some_iff.1 e).1
  have hd : a.defers = ((((((A0.put (some 37) X).put (some 38) V).put (some 39) Y).put (some 40) U).put (some 7) B).put (some 8) C).defers := by simp only [put_df]; exact h.df
  have ht : a.tmps = ((((((A0.put (some 37) X).put (some 38) V).put (some 39) Y).put (some 40) U).put (some 7) B).put (some 8) C).tmps := by
    apply Array.ext_getElem?
    intro u
    by_cases e6 : u = 8
    · subst e6; rw [put_eq (by simp only [put_sz]; exact hlt _ _ h6)]; exact h6
    rw [put_ne e6]
    by_cases e5 : u = 7
    · subst e5; rw [put_eq (by simp only [put_sz]; exact hlt _ _ h5)]; exact h5
    rw [put_ne e5]
    by_cases e4 : u = 40
    · subst e4; rw [put_eq (by simp only [put_sz]; exact hlt _ _ h4)]; exact h4
    rw [put_ne e4]
    by_cases e3 : u = 39
    · subst e3; rw [put_eq (by simp only [put_sz]; exact hlt _ _ h3)]; exact h3
    rw [put_ne e3]
    by_cases e2 : u = 38
    · subst e2; rw [put_eq (by simp only [put_sz]; exact hlt _ _ h2)]; exact h2
    rw [put_ne e2]
    by_cases e1 : u = 37
    · subst e1; rw [put_eq (hlt _ _ h1)]; exact h1
    rw [put_ne e1]
    exact h.ot u e1 e2 e3 e4 e5 e6
  cases a
  simp only at hd ht
  rw [hd, ht]
end Go.Proofs.Ytbiheajnmjbdoaa
namespace Go.Proofs.Ytbiheajnmjbdoaa
open Go.RowKit

/-! FormulaReplaces -/
def LB (listed : Array Bool) (j : Nat) : Prop := listed.getD j false = true
theorem LB.up {listed : Array Bool} {i j : Nat} (h : LB listed j) : LB (listed.setIfInBounds i true) j := getD_set_true h
theorem LB.dn {listed : Array Bool} {i : Nat} : ∀ j, LB (listed.setIfInBounds i true) j → LB listed j ∨ j = i := fun _ h => L_set h
theorem LB.not {listed : Array Bool} {i : Nat} (h : listed.getD i true = false) : ¬ LB listed i := fun h' => by
  unfold LB at h'
  rcases Nat.lt_or_ge i listed.size with hl | hl
  · simp [hl] at h h'; rw [h] at h'; cases h'
  · simp [Array.getElem?_eq_none hl] at h
/-- both copies are made before either is stored -/
def Cl (listed : Array Bool) : Prop := (LB listed 6 → LB listed 1 ∧ LB listed 3 ∧ LB listed 4 ∧ LB listed 5) ∧ (LB listed 7 → LB listed 1 ∧ LB listed 3 ∧ LB listed 4 ∧ LB listed 5)
theorem Cl.set {listed : Array Bool} {i : Nat} (h : Cl listed) (h6 : i = 6 → LB listed 1 ∧ LB listed 3 ∧ LB listed 4 ∧ LB listed 5) (h7 : i = 7 → LB listed 1 ∧ LB listed 3 ∧ LB listed 4 ∧ LB listed 5) : Cl (listed.setIfInBounds i true) := by
  constructor
  · intro h'
    have h2 : LB listed 1 ∧ LB listed 3 ∧ LB listed 4 ∧ LB listed 5 := (LB.dn 6 h').elim h.1 (fun e => h6 e.symm)
    exact ⟨h2.1.up, h2.2.1.up, h2.2.2.1.up, h2.2.2.2.up⟩
  · intro h'
    have h2 : LB listed 1 ∧ LB listed 3 ∧ LB listed 4 ∧ LB listed 5 := (LB.dn 7 h').elim h.2 (fun e => h7 e.symm)
    exact ⟨h2.1.up, h2.2.1.up, h2.2.2.1.up, h2.2.2.2.up⟩
set_option maxHeartbeats 8000000 in
set_option maxRecDepth 20000 in
theorem replaces_any (s : List UInt8) (t tb : Tr) (v vb : Value) (w : World) (hs : s.length ≤ 9223372036854775807) (hw : wide t = true) (hwb : wide tb = true) (hT : TrO w (fun b => b < w.heap.size) t v) (hTb : TrO w (fun b => b < w.heap.size) tb vb) :
    Calls Try.prog 7 #[v, .string (txt s), vb] w fun e w' => e = .returned (.bool true) ∧ Fr nob w w' := by
  obtain ⟨op, nm, a, nk, cp, rfl⟩ := hT.form
  obtain ⟨ob, nmb, ab, nb, cb, rfl⟩ := hTb.form
  obtain ⟨W1, hW1⟩ : ∃ W1, (w.alloc (.cells #[.int .u8 (op : Int), .string (txt nm), .slice a nk cp] 25)).alloc (.cells #[.int .u8 (ob : Int), .string (txt nmb), .slice ab nb cb] 25) = W1 := ⟨_, rfl⟩
  have A1 : Fr nob w W1 := by rw [← hW1]; exact ((Fr.refl nob w).alloc _).alloc _
  have hbx : Box3 W1 w.heap.size (.int .u8 (op : Int)) (.string (txt nm)) (.slice a nk cp) := by
    rw [← hW1]; exact (Box3.new w _ _ _ _).kept ((Fr.refl nob _).alloc _) (fun h => h)
  have hby : Box3 W1 (w.heap.size + 1) (.int .u8 (ob : Int)) (.string (txt nmb)) (.slice ab nb cb) := by
    have h := Box3.new (w.alloc (.cells #[.int .u8 (op : Int), .string (txt nm), .slice a nk cp] 25)) (.int .u8 (ob : Int)) (.string (txt nmb)) (.slice ab nb cb) 25
    rw [hW1, World.size_alloc] at h; exact h
  have hT1 := hT.kept (T := fun b => b < w.heap.size) A1 (fun b h _ => ⟨fun h => h, h⟩)
  have hTb1 := hTb.kept (T := fun b => b < w.heap.size) A1 (fun b h _ => ⟨fun h => h, h⟩)
  have hG : Calls Try.prog 14 #[.agg #[.int .u8 (op : Int), .string (txt nm), .slice a nk cp], .int .i64 100] _ _ := great_any t _ _ W1 100 (by decide) hw hT1
  have HW := Lib.hid wakes_any
  have HWD := Lib.hid hw
  have HWDB := Lib.hid hwb
  have HT1 := Lib.hid hT1
  have HTB1 := Lib.hid hTb1
  have HBX := Lib.hid hbx
  have HBY := Lib.hid hby
  have HF1 := Lib.hid A1
  have ⟨b0, b1, b2, _⟩ := hbx
  clear hT hTb A1 hbx hby hT1 hTb1 hw hwb
  go_enter Try.func7, Try.ntmps7
  go_upto_region 1 with fail
  (try rw [hW1])
  clear hW1
  cases hgr : greatB t 100 with
  | true =>
    rw [hgr] at hG
    go_wp2_with (first | (go_at_call 14; with_reducible refine hG.mono ?_; rintro e w2 ⟨rfl, F2⟩) | (go_at_call 10; refine (HW.out _).mono ?_; rintro e w3 ⟨rfl, F3⟩) | fail)
    go_ret
    exact ⟨rfl, (HF1.out.trans F2 (fun _ _ h => h)).trans F3 (fun _ _ h => h)⟩
  | false =>
    rw [hgr] at hG
    have HM := Lib.hid (mild_of hgr)
    clear hgr
    go_wp2_with fail
    with_reducible refine hG.mono ?_
    rintro e w2 ⟨rfl, F2⟩
    have F2' := HF1.out.trans F2 (fun _ _ h => h)
    have HBX2 := Lib.hid (HBX.out.kept F2 (fun h => h))
    have HBY2 := Lib.hid (HBY.out.kept F2 (fun h => h))
    have HT2 := Lib.hid (HT1.out.kept (T := fun b => b < w.heap.size) F2 (fun b h _ => ⟨fun h => h, h⟩))
    have hTb2 := HTB1.out.kept (T := fun b => b < w.heap.size) F2 (fun b h _ => ⟨fun h => h, h⟩)
    have HTB2 := Lib.hid hTb2
    have HF2 := Lib.hid F2'
    have hGb : Calls Try.prog 14 #[.agg #[.int .u8 (ob : Int), .string (txt nmb), .slice ab nb cb], .int .i64 100] _ _ := great_any tb _ _ w2 100 (by decide) HWDB.out hTb2
    have ⟨y0, y1, y2, _⟩ := HBY2.out
    clear F2 F2' hG b0 b1 b2 HBX HBY HT1 HTB1 HF1 hTb2
    cases hgb : greatB tb 100 with
    | true =>
      rw [hgb] at hGb
      go_wp2_with (first | (go_at_call 14; with_reducible refine hGb.mono ?_; rintro e w3 ⟨rfl, F3⟩) | (go_at_call 10; refine (HW.out _).mono ?_; rintro e w4 ⟨rfl, F4⟩) | fail)
      go_ret
      exact ⟨rfl, (HF2.out.trans F3 (fun _ _ h => h)).trans F4 (fun _ _ h => h)⟩
    | false =>
      rw [hgb] at hGb
      have HMB := Lib.hid (mild_of hgb)
      clear hgb
      go_wp2_with fail
      with_reducible refine hGb.mono ?_
      rintro e w3 ⟨rfl, F3⟩
      have HBX3 := Lib.hid (HBX2.out.kept F3 (fun h => h))
      have HBY3 := Lib.hid (HBY2.out.kept F3 (fun h => h))
      have HT3 := Lib.hid (HT2.out.kept (T := fun b => b < w.heap.size) F3 (fun b h _ => ⟨fun h => h, h⟩))
      have HTB3 := Lib.hid (HTB2.out.kept (T := fun b => b < w.heap.size) F3 (fun b h _ => ⟨fun h => h, h⟩))
      have HF3 := Lib.hid (HF2.out.trans F3 (fun _ _ h => h))
      clear F3 hGb y0 y1 y2 HBX2 HBY2 HT2 HTB2 HF2
      have hsz : (txt s).size = s.length := txt_size s
      have ⟨b0, b1, b2, _⟩ := HBX3.out
      have hz3 := HF3.out.size
      have hR := row_any2 _ t (Nat.lt_succ_self _) _ (fun b => b < w.heap.size) w3 HWD.out (by have := HM.out.len; omega) (fun b h => by have h : b < w.heap.size := h; omega) HT3.out
      clear hz3 hsz
      rcases (show 100 < s.length ∨ (s.length ≤ 100 ∧ (preP t).length ≤ 100) ∨ (s.length ≤ 100 ∧ 100 < (preP t).length ∧ 100 < (preP tb).length) ∨ (s.length ≤ 100 ∧ 100 < (preP t).length ∧ (preP tb).length ≤ 100) by omega) with hc | hc | hc | hc
      case inl =>
        have q0 : (100 : Int) < (s.length : Int) := by omega
        clear hc
        go_wp2_with (first | (go_at_call 10; refine (HW.out _).mono ?_; rintro e w4 ⟨rfl, F4⟩) | fail)
        go_ret
        exact ⟨rfl, HF3.out.trans F4 (fun _ _ h => h)⟩
      case inr.inr.inl =>
        have q0 : ¬ (100 : Int) < (s.length : Int) := by omega
        obtain ⟨nT, hnT⟩ : ∃ nT, (preP t).length = nT := ⟨_, rfl⟩
        have q1 : (100 : Int) < (nT : Int) := by omega
        obtain ⟨nB, hnB⟩ : ∃ nB, (preP tb).length = nB := ⟨_, rfl⟩
        have q2 : (100 : Int) < (nB : Int) := by omega
        unfold RowPost at hR
        rw [hnT] at hR
        have HNB := Lib.hid hnB
        clear hc hnT hnB
        go_wp2_with fail
        with_reducible refine hR.mono ?_
        rintro e wq ⟨gq, capq, cellsq, rfl, _, _, Fq⟩
        have hFq := HF3.out.trans Fq (fun _ _ h => h)
        have hzq := hFq.size
        have ⟨y0, y1, y2, _⟩ := HBY3.out.kept Fq (fun h => h)
        have hR2 := row_any2 _ tb (Nat.lt_succ_self _) _ (fun b => b < w.heap.size) wq HWDB.out (by have := HMB.out.len; omega) (fun b h => by have h : b < w.heap.size := h; omega) (HTB3.out.kept (T := fun b => b < w.heap.size) Fq (fun b h _ => ⟨fun h => h, h⟩))
        unfold RowPost at hR2
        rw [HNB.out] at hR2
        have HFq := Lib.hid hFq
        clear hzq hFq Fq hR b0 b1 b2
        go_wp2_with fail
        with_reducible refine hR2.mono ?_
        rintro e w4 ⟨g4, cap4, cells4, rfl, _, _, F4⟩
        have HF4 := Lib.hid (HFq.out.trans F4 (fun _ _ h => h))
        clear F4 hR2 y0 y1 y2
        go_wp2_with (first | (go_at_call 10; refine (HW.out _).mono ?_; rintro e w5 ⟨rfl, F5⟩) | fail)
        go_ret
        exact ⟨rfl, HF4.out.trans F5 (fun _ _ h => h)⟩
      case' inr.inl =>
        have q0 : ¬ (100 : Int) < (s.length : Int) := by omega
        obtain ⟨nT, hnT⟩ : ∃ nT, (preP t).length = nT := ⟨_, rfl⟩
        have q1 : ¬ (100 : Int) < (nT : Int) := by omega
        have HOR : Hid ((preP t).length ≤ 100 ∨ (preP tb).length ≤ 100) := Lib.hid (by omega)
        unfold RowPost at hR
        rw [hnT] at hR
        clear hc hnT
        go_upto_region 3 with (first | (go_at_call 23; with_reducible refine hR.mono ?_; rintro e w4 ⟨g4, cap4, cells4, rfl, _, _, F4⟩) | fail)
        clear q1
      case' inr.inr.inr =>
        have q0 : ¬ (100 : Int) < (s.length : Int) := by omega
        obtain ⟨nT, hnT⟩ : ∃ nT, (preP t).length = nT := ⟨_, rfl⟩
        have q1 : (100 : Int) < (nT : Int) := by omega
        obtain ⟨nB, hnB⟩ : ∃ nB, (preP tb).length = nB := ⟨_, rfl⟩
        have q2 : ¬ (100 : Int) < (nB : Int) := by omega
        have HOR : Hid ((preP t).length ≤ 100 ∨ (preP tb).length ≤ 100) := Lib.hid (by omega)
        unfold RowPost at hR
        rw [hnT] at hR
        have HNB := Lib.hid hnB
        clear hc hnT hnB
        go_wp2_with fail
        with_reducible refine hR.mono ?_
        rintro e wq ⟨gq, capq, cellsq, rfl, _, _, Fq⟩
        have hFq := HF3.out.trans Fq (fun _ _ h => h)
        have hzq := hFq.size
        have ⟨y0, y1, y2, _⟩ := HBY3.out.kept Fq (fun h => h)
        have hR2 := row_any2 _ tb (Nat.lt_succ_self _) _ (fun b => b < w.heap.size) wq HWDB.out (by have := HMB.out.len; omega) (fun b h => by have h : b < w.heap.size := h; omega) (HTB3.out.kept (T := fun b => b < w.heap.size) Fq (fun b h _ => ⟨fun h => h, h⟩))
        unfold RowPost at hR2
        rw [HNB.out] at hR2
        have HFq := Lib.hid Fq
        clear hzq hFq Fq
        go_upto_region 3 with (first | (go_at_call 23; with_reducible refine hR2.mono ?_; rintro e w4 ⟨g4, cap4, cells4, rfl, _, _, Fr4⟩) | fail)
        have F4 := HFq.out.trans Fr4 (fun _ _ h => h)
        clear q1 q2 HNB HFq Fr4 hR2 y0 y1 y2
      all_goals (
        have hF4 := HF3.out.trans F4 (fun _ _ h => h)
        have HBX4 := Lib.hid (HBX3.out.kept F4 (fun h => h))
        have HBY4 := Lib.hid (HBY3.out.kept F4 (fun h => h))
        have HT4 := Lib.hid (HT3.out.kept (T := fun b => b < w.heap.size) F4 (fun b h _ => ⟨fun h => h, h⟩))
        have HTB4 := Lib.hid (HTB3.out.kept (T := fun b => b < w.heap.size) F4 (fun b h _ => ⟨fun h => h, h⟩))
        have HF4 := Lib.hid hF4
        clear F4 hF4 hR b0 b1 b2 HBX3 HBY3 HT3 HTB3 HF3
        refine wp_region_inv' (by kernel_rfl) (by kernel_rfl) (fun A0 W0 listed a' w' => CIR t tb W0.drew A0 (.agg #[.int .u8 (op : Int), .string (txt nm), .slice a nk cp]) (.agg #[.int .u8 (ob : Int), .string (txt nmb), .slice ab nb cb]) (LB listed) a' w' ∧ Cl listed) ?_ ?_ ?_
        · refine ⟨⟨rfl, rfl, fun u _ _ _ _ _ _ => rfl, Fr.refl _ _, ?_, ?_, ?_, ?_, ?_, ?_, ?_, ?_, ?_⟩, ?_, ?_⟩
          all_goals first | (intro h; exact absurd h (by simp [LB])) | (intro b h; cases h)
        · intro listed a' w' i hI hi
          obtain ⟨hI, hCl⟩ := hI
          obtain ⟨h0, o, ho, hall⟩ := mem_ready.1 hi
          have hlt : i < 8 := (Array.getElem?_eq_some_iff.1 ho).1
          have hsz : a'.tmps.size = 76 := hI.sz.trans rfl
          have hA3 : a'.tmps[(3 : Nat)]? = some (pt w.heap.size) := (hI.ot 3 (by decide) (by decide) (by decide) (by decide) (by decide) (by decide)).trans rfl
          have hA5 : a'.tmps[(5 : Nat)]? = some (pt (w.heap.size + 1)) := (hI.ot 5 (by decide) (by decide) (by decide) (by decide) (by decide) (by decide)).trans rfl
          have hFr : Fr nob w4 w' := ((Fr.refl nob w4).drew).trans hI.fr (fun _ _ h => h)
          have hX := HBX4.out.kept hFr (fun h => h)
          have hY := HBY4.out.kept hFr (fun h => h)
          have hszw := (HF4.out.trans hFr (fun _ _ h => h)).size
          have hTt := HT4.out.kept (T := fun b => b < w.heap.size) hFr (fun b h _ => ⟨fun h => h, h⟩)
          have hTtb := HTB4.out.kept (T := fun b => b < w.heap.size) hFr (fun b h _ => ⟨fun h => h, h⟩)
          rcases (show i = 0 ∨ i = 1 ∨ i = 2 ∨ i = 3 ∨ i = 4 ∨ i = 5 ∨ i = 6 ∨ i = 7 by omega) with rfl | rfl | rfl | rfl | rfl | rfl | rfl | rfl
          all_goals (obtain rfl := Option.some.inj ho)
          · refine inv_val rfl rfl (load3 3 37 _ a' w' _ _ _ _ _ (getD_of hA3) ⟨_, rfl⟩ ⟨_, rfl⟩ ⟨_, _, _, rfl⟩ hX.c0 hX.c1 hX.c2) ⟨ciR_0 hI LB.dn (by omega), hCl.set (fun e => by cases e) (fun e => by cases e)⟩
          · have L0 : LB listed 0 := hall ⟨0, .data⟩ (by simp) rfl
            refine inv_call rfl rfl (call1 37 38 _ a' w' _ _ (getD_of (hI.x L0))) ?_
            refine (cop_any _ t (Nat.lt_succ_self _) _ (fun b => b < w.heap.size) w' HWD.out (by have := HM.out.len; omega) (fun b h => by have h : b < w.heap.size := h; omega) hTt).mono ?_
            rintro e w5 ⟨v5, rfl, hT5, F5⟩
            exact ⟨v5, rfl, ciR_1 hI LB.dn (by omega) (fun h => LB.not h0 (hCl.1 h).1) F5 hT5, hCl.set (fun e => by cases e) (fun e => by cases e)⟩
          · refine inv_val rfl rfl (load3 5 39 _ a' w' _ _ _ _ _ (getD_of hA5) ⟨_, rfl⟩ ⟨_, rfl⟩ ⟨_, _, _, rfl⟩ hY.c0 hY.c1 hY.c2) ⟨ciR_2 hI LB.dn (by omega), hCl.set (fun e => by cases e) (fun e => by cases e)⟩
          · have L2 : LB listed 2 := hall ⟨2, .data⟩ (by simp) rfl
            refine inv_call rfl rfl (call1 39 40 _ a' w' _ _ (getD_of (hI.y L2))) ?_
            refine (cop_any _ tb (Nat.lt_succ_self _) _ (fun b => b < w.heap.size) w' HWDB.out (by have := HMB.out.len; omega) (fun b h => by have h : b < w.heap.size := h; omega) hTtb).mono ?_
            rintro e w5 ⟨v5, rfl, hT5, F5⟩
            exact ⟨v5, rfl, ciR_3 hI LB.dn (by omega) (fun h => LB.not h0 (hCl.2 h).2.1) F5 hT5, hCl.set (fun e => by cases e) (fun e => by cases e)⟩
          · exact inv_val rfl rfl (alloc3 7 _ a' w' _) ⟨ciR_4 hI LB.dn (by omega) (fun h => LB.not h0 (hCl.1 h).2.2.1), hCl.set (fun e => by cases e) (fun e => by cases e)⟩
          · exact inv_val rfl rfl (alloc3 8 _ a' w' _) ⟨ciR_5 hI LB.dn (by omega) (fun h => LB.not h0 (hCl.2 h).2.2.2), hCl.set (fun e => by cases e) (fun e => by cases e)⟩
          · have L4 : LB listed 4 := hall ⟨4, .data⟩ (by simp) rfl
            have L1 : LB listed 1 := hall ⟨1, .data⟩ (by simp) rfl
            have L3 : LB listed 3 := hall ⟨3, .chain⟩ (by simp) rfl
            have L5 : LB listed 5 := hall ⟨5, .phase⟩ (by simp) rfl
            obtain ⟨b, x, y, z, h1, h2, h3, _⟩ := hI.p L4
            obtain ⟨v5, g1, g2⟩ := hI.v L1
            obtain ⟨o5, nm5, a5, n5, c5, rfl⟩ := g2.form
            exact inv_skip rfl rfl rfl (store3 7 38 _ a' w' b x y z _ _ _ _ (getD_of h1) (getD_of g1) ⟨_, rfl⟩ ⟨_, rfl⟩ ⟨_, _, _, rfl⟩ h3) ⟨ciR_6 hI LB.dn L4 L5 h1 h2 h3 g1, hCl.set (fun _ => ⟨L1, L3, L4, L5⟩) (fun e => by cases e)⟩
          · have L5 : LB listed 5 := hall ⟨5, .data⟩ (by simp) rfl
            have L3 : LB listed 3 := hall ⟨3, .data⟩ (by simp) rfl
            have L6 : LB listed 6 := hall ⟨6, .chain⟩ (by simp) rfl
            obtain ⟨L1, _, L4, _⟩ := hCl.1 L6
            obtain ⟨b, x, y, z, h1, h2, h3, _⟩ := hI.q L5
            obtain ⟨v5, g1, g2⟩ := hI.u L3
            obtain ⟨o5, nm5, a5, n5, c5, rfl⟩ := g2.form
            exact inv_skip rfl rfl rfl (store3 8 40 _ a' w' b x y z _ _ _ _ (getD_of h1) (getD_of g1) ⟨_, rfl⟩ ⟨_, rfl⟩ ⟨_, _, _, rfl⟩ h3) ⟨ciR_7 hI LB.dn L4 L5 h1 h2 h3 g1, hCl.set (fun e => by cases e) (fun _ => ⟨L1, L3, L4, L5⟩)⟩
        · intro listed a' w5 hI hall
          obtain ⟨hI, _⟩ := hI
          have L : ∀ j, j < 8 → LB listed j := fun j hj => hall j hj
          obtain ⟨b7, x7, y7, z7, h1, h2, h3, h4⟩ := hI.p (L 4 (by decide))
          obtain ⟨b8, x8, y8, z8, k1, k2, k3, k4⟩ := hI.q (L 5 (by decide))
          obtain ⟨v5, g1, g2⟩ := hI.v (L 1 (by decide))
          obtain ⟨u5, j1, j2⟩ := hI.u (L 3 (by decide))
          have e1 := h4 (L 6 (by decide))
          have e2 := k4 (L 7 (by decide))
          rw [g1] at e1
          rw [j1] at e2
          obtain rfl := Option.some.inj e1
          obtain rfl := Option.some.inj e2
          have ha := actR hI (hI.x (L 0 (by decide))) g1 (hI.y (L 2 (by decide))) j1 h1 k1
          have hFr : Fr nob w4 w5 := ((Fr.refl nob w4).drew).trans hI.fr (fun _ _ h => h)
          have hlt8 := k3.lt
          have hlt7 := h3.lt
          obtain ⟨o7, nm7, a7, n7, c7, hform7⟩ := g2.form
          obtain ⟨rfl, rfl, rfl⟩ : x7 = .int .u8 (o7 : Int) ∧ y7 = .string (txt nm7) ∧ z7 = .slice a7 n7 c7 := by simpa using hform7
          obtain ⟨o8, nm8, a8, n8, c8, hform8⟩ := j2.form
          obtain ⟨rfl, rfl, rfl⟩ : x8 = .int .u8 (o8 : Int) ∧ y8 = .string (txt nm8) ∧ z8 = .slice a8 n8 c8 := by simpa using hform8
          have HX5 := Lib.hid (HBX4.out.kept hFr (fun h => h))
          have HY5 := Lib.hid (HBY4.out.kept hFr (fun h => h))
          have HT5 := Lib.hid (HT4.out.kept (T := fun b => b < w.heap.size) hFr (fun b h _ => ⟨fun h => h, h⟩))
          have HTB5 := Lib.hid (HTB4.out.kept (T := fun b => b < w.heap.size) hFr (fun b h _ => ⟨fun h => h, h⟩))
          have HF5 := Lib.hid (HF4.out.trans hFr (fun _ _ h => h))
          have HP5 := Lib.hid h3
          have HQ5 := Lib.hid k3
          have HV5 := Lib.hid (g2.toO.kept (T := fun b => b < w5.heap.size) (Fr.refl nob w5) (fun b _ h' => ⟨fun h => h, h'⟩))
          have HU5 := Lib.hid (j2.toO.kept (T := fun b => b < w5.heap.size) (Fr.refl nob w5) (fun b _ h' => ⟨fun h => h, h'⟩))
          have HGE := Lib.hid (And.intro h2 k2)
          clear hI L hall h1 h2 h3 h4 k1 k2 k3 k4 g1 g2 j1 j2 e1 e2 hFr hform7 hform8 hlt7 hlt8 HBX4 HBY4 HT4 HTB4 HF4
          subst ha
          simp only [Act.put, List.setIfInBounds_toArray, List.set_cons_succ, List.set_cons_zero]
          simp only [pt] at *
          have HMR := Lib.hid (rep_mod (s := s) HM.out HMB.out HOR.out)
          have ⟨p0, p1, p2, _⟩ := HP5.out
          have ⟨q3, q4, q5, _⟩ := HQ5.out
          have hRv := replace_any s t tb _ _ (fun b => b < w5.heap.size) w5 hs HM.out.mod HMB.out.mod HMR.out (fun b h => h) HV5.out HU5.out
          obtain ⟨r1, r2, hrv⟩ : ∃ r1 r2, rvP s t tb = (r1, r2) := ⟨_, _, rfl⟩
          rw [hrv] at hRv
          unfold RvPost at hRv
          have HRV := Lib.hid hrv
          clear hrv
          go_wp2_with fail
          refine hRv.mono ?_
          rintro e w6 ⟨v6, rfl, hT6, F6⟩
          obtain ⟨o6, nm6, a6, n6, c6, hform⟩ := hT6.form
          subst hform
          have A7 : Fr nob w6 (w6.alloc (.cells #[.int .u8 (o6 : Int), .string (txt nm6), .slice a6 n6 c6] 25)) := (Fr.refl nob w6).alloc _
          have G7 := F6.trans A7 (fun _ _ h => h)
          have HN7 := Lib.hid (Box3.new w6 (.int .u8 (o6 : Int)) (.string (txt nm6)) (.slice a6 n6 c6) 25)
          have HM7 := Lib.hid (hT6.toV.toO.kept (T := fun b => b < w6.heap.size) A7 (fun b h _ => ⟨fun h => h, h.2⟩))
          have HX7 := Lib.hid (HX5.out.kept G7 (fun h => h))
          have HY7 := Lib.hid (HY5.out.kept G7 (fun h => h))
          have HP7 := Lib.hid (HP5.out.kept G7 (fun h => h))
          have HQ7 := Lib.hid (HQ5.out.kept G7 (fun h => h))
          have HT7 := Lib.hid (HT5.out.kept (T := fun b => b < w.heap.size) G7 (fun b h _ => ⟨fun h => h, h⟩))
          have HTB7 := Lib.hid (HTB5.out.kept (T := fun b => b < w.heap.size) G7 (fun b h _ => ⟨fun h => h, h⟩))
          have HV7 := Lib.hid (HV5.out.kept (T := fun b => b < w5.heap.size) G7 (fun b h _ => ⟨fun h => h, h⟩))
          have HU7 := Lib.hid (HU5.out.kept (T := fun b => b < w5.heap.size) G7 (fun b h _ => ⟨fun h => h, h⟩))
          have HF7 := Lib.hid (HF5.out.trans G7 (fun _ _ h => h))
          clear hRv hT6 F6 A7 G7 p0 p1 p2 q3 q4 q5 HX5 HY5 HP5 HQ5 HT5 HTB5 HV5 HU5 HF5 HGE
          go_upto_region 5 with fail
          generalize w6.alloc (.cells #[.int .u8 (o6 : Int), .string (txt nm6), .slice a6 n6 c6] 25) = w7 at *
          have ⟨b0, b1, b2, _⟩ := HX7.out
          have ⟨y0, y1, y2, _⟩ := HY7.out
          have hz7 := HF7.out.size
          have hRr := rreplace_any s t tb _ _ (fun b => b < w.heap.size) w7 hs HM.out.mod HMB.out.mod HMR.out (fun b h => by have h : b < w.heap.size := h; omega) HT7.out HTB7.out
          rw [HRV.out] at hRr
          unfold RrPost at hRr
          clear hz7
          go_wp2_with fail
          refine hRr.mono ?_
          rintro e w8 ⟨v8, rfl, hT8, F8⟩
          obtain ⟨o9, nm9, a9, n9, c9, hform⟩ := hT8.form
          subst hform
          have A9 : Fr nob w8 (w8.alloc (.cells #[.int .u8 (o9 : Int), .string (txt nm9), .slice a9 n9 c9] 25)) := (Fr.refl nob w8).alloc _
          have G9 := F8.trans A9 (fun _ _ h => h)
          have HR9 := Lib.hid (Box3.new w8 (.int .u8 (o9 : Int)) (.string (txt nm9)) (.slice a9 n9 c9) 25)
          have HS9 := Lib.hid (hT8.kept (T := fun _ => True) A9 (fun b h _ => ⟨fun h => h, trivial⟩))
          have HN9 := Lib.hid (HN7.out.kept G9 (fun h => h))
          have HM9 := Lib.hid (HM7.out.kept (T := fun _ => True) G9 (fun b h _ => ⟨fun h => h, trivial⟩))
          have HX9 := Lib.hid (HX7.out.kept G9 (fun h => h))
          have HY9 := Lib.hid (HY7.out.kept G9 (fun h => h))
          have HP9 := Lib.hid (HP7.out.kept G9 (fun h => h))
          have HQ9 := Lib.hid (HQ7.out.kept G9 (fun h => h))
          have HT9 := Lib.hid (HT7.out.kept (T := fun _ => True) G9 (fun b h _ => ⟨fun h => h, trivial⟩))
          have HTB9 := Lib.hid (HTB7.out.kept (T := fun _ => True) G9 (fun b h _ => ⟨fun h => h, trivial⟩))
          have HV9 := Lib.hid (HV7.out.kept (T := fun _ => True) G9 (fun b h _ => ⟨fun h => h, trivial⟩))
          have HU9 := Lib.hid (HU7.out.kept (T := fun _ => True) G9 (fun b h _ => ⟨fun h => h, trivial⟩))
          have HF9 := Lib.hid (HF7.out.trans G9 (fun _ _ h => h))
          have hw2 : wide r2 = true := by
            have h : (rvP s t tb).2 = r2 := congrArg Prod.snd HRV.out
            unfold rvP at h
            split at h
            · rw [← h]; rfl
            split at h
            · rw [← h]; rfl
            split at h
            · rw [← h]; rfl
            · rw [← h]; exact HMR.out.wide
          have HWR := Lib.hid hw2
          clear hRr hT8 F8 A9 G9 b0 b1 b2 y0 y1 y2 HN7 HM7 HX7 HY7 HP7 HQ7 HT7 HTB7 HV7 HU7 HF7 hw2
          go_upto_region 6 with fail
          generalize w8.alloc (.cells #[.int .u8 (o9 : Int), .string (txt nm9), .slice a9 n9 c9] 25) = w9 at *
          have ⟨i0, i1, i2, _⟩ := HN9.out
          have ⟨j0, j1, j2, _⟩ := HR9.out
          have hS9 := same_any _ r2 (Nat.lt_succ_self _) r2 _ _ _ _ w9 HWR.out HWR.out HM9.out HS9.out
          rw [sameP_refl] at hS9
          go_wp2_with fail
          with_reducible refine hS9.mono ?_
          rintro e w10 ⟨rfl, F10⟩
          have ⟨p0, p1, p2, _⟩ := HP9.out.kept F10 (fun h => h)
          have ⟨b0, b1, b2, _⟩ := HX9.out.kept F10 (fun h => h)
          have hS10 := same_any _ t (Nat.lt_succ_self _) t _ _ _ _ w10 HWD.out HWD.out (HV9.out.kept (T := fun _ => True) F10 (fun b h _ => ⟨fun h => h, trivial⟩)) (HT9.out.kept (T := fun _ => True) F10 (fun b h _ => ⟨fun h => h, trivial⟩))
          rw [sameP_refl] at hS10
          have HF10 := Lib.hid F10
          clear hS9 F10 i0 i1 i2 j0 j1 j2
          go_wp2_with fail
          with_reducible refine hS10.mono ?_
          rintro e w11 ⟨rfl, F11⟩
          have G11 := HF10.out.trans F11 (fun _ _ h => h)
          have ⟨q3, q4, q5, _⟩ := HQ9.out.kept G11 (fun h => h)
          have ⟨y0, y1, y2, _⟩ := HY9.out.kept G11 (fun h => h)
          have hS11 := same_any _ tb (Nat.lt_succ_self _) tb _ _ _ _ w11 HWDB.out HWDB.out (HU9.out.kept (T := fun _ => True) G11 (fun b h _ => ⟨fun h => h, trivial⟩)) (HTB9.out.kept (T := fun _ => True) G11 (fun b h _ => ⟨fun h => h, trivial⟩))
          rw [sameP_refl] at hS11
          have HF11 := Lib.hid (HF9.out.trans G11 (fun _ _ h => h))
          clear hS10 F11 G11 p0 p1 p2 b0 b1 b2
          go_wp2_with fail
          with_reducible refine hS11.mono ?_
          rintro e w12 ⟨rfl, F12⟩
          have HF12 := Lib.hid (HF11.out.trans F12 (fun _ _ h => h))
          clear hS11 F12 q3 q4 q5 y0 y1 y2
          go_wp2_with (first | (go_at_call 10; refine (HW.out _).mono ?_; rintro e w13 ⟨rfl, F13⟩) | fail)
          go_ret
          exact ⟨rfl, HF12.out.trans F13 (fun _ _ h => h)⟩)
end Go.Proofs.Ytbiheajnmjbdoaa
/- Copied, the lists of its result apart in memory. -/
namespace Go.Proofs.Ytbiheajnmjbdoaa
open Go.RowKit
def CosC (t : Tr) : Prop := ∀ (v : Value) (S : Nat → Prop) (w : World), wide t = true → (preP t).length ≤ 1000000 → (∀ b, S b → b < w.heap.size) → TrO w S t v →
  Calls Try.prog 15 #[v] w fun e w' => ∃ v', e = .returned v' ∧ TrS w' t w.heap.size w'.heap.size v' ∧ Fr nob w w'
set_option maxRecDepth 20000 in
set_option maxHeartbeats 4000000 in
theorem cos_one (op : Nat) (nm : List UInt8) (kids : List Tr) (ih : ∀ t ∈ kids, CosC t) : CosC (.mk op nm kids) := by
  intro v S w hwd hln hS hT
  rw [TrO] at hT
  obtain ⟨a, cp, rfl, hK⟩ := hT
  rw [wide, Bool.and_eq_true, Bool.and_eq_true, decide_eq_true_iff, decide_eq_true_iff] at hwd
  obtain ⟨⟨ht1, ht2⟩, htk⟩ := hwd
  have HK := Lib.hid hK
  have HIH := Lib.hid ih
  have HTK := Lib.hid htk
  rw [preP, List.length_cons] at hln
  have hle : ∀ t ∈ kids, (preP t).length ≤ 1000000 := fun t ht => by have := preL_mem ht; omega
  have hkl := kids_le (kids := kids)
  have hnk6 : kids.length ≤ 1000000 := by omega
  have HLE := Lib.hid hle
  have HS := Lib.hid hS
  obtain ⟨nk, hnk⟩ : ∃ nk, kids.length = nk := ⟨_, rfl⟩
  rw [hnk] at hnk6 ⊢
  have HNK := Lib.hid hnk
  obtain ⟨i0, hi0, hi1, hi2, hi3⟩ := info_parts info_expr
  have A1 : Fr nob (w.alloc (.cells #[.int .u8 (op : Int), .string (txt nm), .slice a nk cp] 25)) ((w.alloc (.cells #[.int .u8 (op : Int), .string (txt nm), .slice a nk cp] 25)).alloc (.cells #[.int .u8 0, .string ⟨#[]⟩, .slice none 0 0] 25)) := (Fr.refl nob _).alloc _
  have HBX := Lib.hid ((Box3.new w (.int .u8 (op : Int)) (.string (txt nm)) (.slice a nk cp) 25).kept A1 (fun h => h))
  have hby := Box3.new (w.alloc (.cells #[.int .u8 (op : Int), .string (txt nm), .slice a nk cp] 25)) (.int .u8 0) (.string ⟨#[]⟩) (.slice none 0 0) 25
  simp only [World.size_alloc] at hby
  have HBY := Lib.hid hby
  have HF1 := Lib.hid (((Fr.refl nob w).alloc (.cells #[.int .u8 (op : Int), .string (txt nm), .slice a nk cp] 25)).alloc (.cells #[.int .u8 0, .string ⟨#[]⟩, .slice none 0 0] 25))
  have hz1 : ((w.alloc (.cells #[.int .u8 (op : Int), .string (txt nm), .slice a nk cp] 25)).alloc (.cells #[.int .u8 0, .string ⟨#[]⟩, .slice none 0 0] 25)).heap.size = w.heap.size + 2 := by simp
  have HZ1 := Lib.hid hz1
  clear hK ih htk hnk hS A1 hby hz1 hle hkl hln ht2
  go_enter Try.func15, Try.ntmps15
  go_upto_region 1 with fail
  generalize (w.alloc (.cells #[.int .u8 (op : Int), .string (txt nm), .slice a nk cp] 25)).alloc (.cells #[.int .u8 0, .string ⟨#[]⟩, .slice none 0 0] 25) = W1 at *
  have ⟨g0, g1, g2, _⟩ := HBX.out
  go_upto_region 2 with fail
  have A2 : Fr nob W1 (W1.alloc (.cells #[.int .u8 (op : Int), .string (txt nm), .slice none 0 0] 25)) := (Fr.refl nob W1).alloc _
  have HBX2 := Lib.hid (HBX.out.kept A2 (fun h => h))
  have HBY2 := Lib.hid (HBY.out.kept A2 (fun h => h))
  have hbz := Box3.new W1 (.int .u8 (op : Int)) (.string (txt nm)) (.slice none 0 0) 25
  rw [HZ1.out] at hbz ⊢
  have HBZ2 := Lib.hid hbz
  have HF2 := Lib.hid (HF1.out.trans A2 (fun _ _ h => h))
  have hz2 : (W1.alloc (.cells #[.int .u8 (op : Int), .string (txt nm), .slice none 0 0] 25)).heap.size = w.heap.size + 3 := by simp [HZ1.out]
  have HZ2 := Lib.hid hz2
  clear A2 hbz hz2 g0 g1 g2 HBX HBY HF1 HZ1
  generalize W1.alloc (.cells #[.int .u8 (op : Int), .string (txt nm), .slice none 0 0] 25) = W2 at *
  go_wp2_with fail
  go_loopg [4] nk (fun m iv wr => ∃ (k : Nat) (kv : Value) (cells : List Value), k + m = nk ∧ iv = .int .i64 (k : Int) ∧ (∃ la lc, kv = .slice la k lc) ∧ wr.ownsRow (w.heap.size + 3) 25 3 kv k cells ∧ RowS wr kv (kids.take k) (w.heap.size + 3) wr.heap.size cells ∧ Box3 wr w.heap.size (.int .u8 (op : Int)) (.string (txt nm)) (.slice a nk cp) ∧ Box3 wr (w.heap.size + 1) (.int .u8 0) (.string ⟨#[]⟩) (.slice none 0 0) ∧ Box3 wr (w.heap.size + 2) (.int .u8 (op : Int)) (.string (txt nm)) kv ∧ w.heap.size + 3 ≤ wr.heap.size ∧ Fr nob w wr)
  case atStart => exact ⟨0, .slice none 0 0, [], by omega, rfl, ⟨none, 0, rfl⟩, World.ownsRow_nil _ _ _ _, by rw [List.take_zero, HZ2.out]; exact ⟨rfl, Nat.le_refl _⟩, HBX2.out, HBY2.out, HBZ2.out, by rw [HZ2.out]; exact Nat.le_refl _, HF2.out⟩
  case round =>
    clear HBX2 HBY2 HBZ2 HF2 HZ2
    obtain ⟨k, kv, cells, hkm, rfl, ⟨la, lc, rfl⟩, hown, hKL, hB, hB1, hB2, hsz, hF⟩ := hrel
    have HO := Lib.hid hown
    have HKL := Lib.hid hKL
    have HB := Lib.hid hB
    have HB1 := Lib.hid hB1
    have HB2 := Lib.hid hB2
    have HF := Lib.hid hF
    have r2 := hB.c2
    have q4 : (0 : Int) ≤ (k : Int) := Int.natCast_nonneg _
    clear hown hKL hB hB1 hB2 hF
    cases gk with
    | zero =>
      obtain rfl : k = nk := by omega
      have ek : kids.take k = kids := List.take_of_length_le (by rw [HNK.out]; exact Nat.le_refl _)
      rw [ek] at HKL
      have ⟨b0, b1, b2, _⟩ := HB2.out
      have ⟨d0, d1, d2, df⟩ := HB1.out
      have df0 := df 0
      have df1 := df 1
      have df2 := df 2
      clear df
      go_wp2_with fail
      obtain ⟨X, FX⟩ := HB1.out.set (.int .u8 (op : Int)) (.string (txt nm)) (.slice la k lc)
      have own7 := FX.row HO.out (fun g hg (e : g = w.heap.size + 1) => by have := (HO.out.lt g hg).1; omega)
      have K7 := HKL.out.kept (hi' := wr.heap.size) FX (fun b (h : b = w.heap.size + 1) => .inl (by omega)) (Nat.le_refl _)
      have HZ7 := Lib.hid FX.size
      have F7 := HF.out.trans' (T := nob) FX (fun _ _ h => h) (fun j hj h => by have e : j = w.heap.size + 1 := h; omega)
      have x0 := X.c0
      have x1 := X.c1
      have x2 := X.c2
      clear d0 d1 d2 df0 df1 df2 b0 b1 b2 X FX r2
      generalize ((wr.setCell ⟨w.heap.size + 1, 0, none⟩ (.int .u8 (op : Int))).setCell ⟨w.heap.size + 1, 1, none⟩ (.string (txt nm))).setCell ⟨w.heap.size + 1, 2, none⟩ (.slice la k lc) = w7 at *
      refine bodyPost_ret (v := .agg #[.int .u8 (op : Int), .string (txt nm), .slice la k lc]) (by simp [results, Try.results15, go_sem, x0, x1, x2]) rfl ⟨_, rfl, ?_, F7⟩
      exact trS_row HNK.out own7 K7 (by omega) (by omega) HZ7.out (Nat.le_refl _)
    | succ m =>
      have q3 : (k : Int) < (nk : Int) := by omega
      have hk : k < kids.length := by rw [HNK.out]; omega
      have hkt : kids[k]? = some kids[k] := List.getElem?_eq_getElem hk
      have hmem : kids[k] ∈ kids := List.getElem_mem hk
      have htake : kids.take (k + 1) = kids.take k ++ [kids[k]] := List.take_succ_eq_append_getElem hk
      generalize kids[k] = t at hkt hmem htake
      obtain ⟨b, ob, rfl, hSb, hKV⟩ := HK.out (by intro e; rw [e] at hk; simp at hk)
      obtain ⟨x, y, z, e0, e1, e2, hT⟩ := hKV.at hkt
      rw [show 0 + k = k by omega] at e0 e1 e2
      have D : Fr nob wr wr.drew := (Fr.refl nob wr).drew
      have FD := HF.out.trans D (fun _ _ h => h)
      replace e0 := FD.cell e0 (fun h => h)
      replace e1 := FD.cell e1 (fun h => h)
      replace e2 := FD.cell e2 (fun h => h)
      have hT1 := hT.kept (T := S) FD (fun b h _ => ⟨fun h => h, h⟩)
      obtain ⟨o, nn, ka, kn, kc, hform⟩ := hT1.form
      obtain ⟨rfl, rfl, rfl⟩ : x = .int .u8 (o : Int) ∧ y = .string (txt nn) ∧ z = .slice ka kn kc := by simpa using hform
      have hsz0 := FD.size
      have hC := HIH.out t hmem _ S wr.drew (wideL_at HTK.out hkt) (HLE.out t hmem) (fun b h => by have := HS.out b h; omega) hT1
      have HTA := Lib.hid htake
      have HBd := Lib.hid (HB.out.kept D (fun h => h))
      have HB1d := Lib.hid (HB1.out.kept D (fun h => h))
      have HB2d := Lib.hid (HB2.out.kept D (fun h => h))
      have HOd := Lib.hid (D.row HO.out (fun _ _ h => h))
      have HKd := Lib.hid (HKL.out.kept (hi' := wr.drew.heap.size) D (fun b h => h.elim) D.size)
      have HFd := Lib.hid FD
      have rd2 := HBd.out.c2
      have sd2 := HB2d.out.c2
      have HSZ2 : Hid (w.heap.size + 3 ≤ wr.drew.heap.size) := Lib.hid hsz
      clear hsz hk hkt hmem hKV hT hT1 hform hSb htake D FD HB HB1 HB2 HF HO HKL hsz0
      go_wp2_with fail
      clear r2
      have hc4 : k + 1 ≤ maxLen := by unfold maxLen; omega
      have hc5 : (k + 1) * 48 ≤ 140737488355328 := by omega
      have HC45 := Lib.hid (And.intro hc4 hc5)
      clear hc4 hc5
      go_region_law (first
        | (go_simp; go_at_call 15; (with_reducible refine hC.mono ?_); rintro e w3 ⟨v3, rfl, hT3, F3⟩
           obtain ⟨o3, nm3, a3, n3, c3, rfl⟩ := hT3.form
           have s3 := F3.cell sd2 (fun h => h)
           have A3 : Fr nob w3 (w3.alloc (.cells #[.int .u8 (o3 : Int), .string (txt nm3), .slice a3 n3 c3] 25)) := (Fr.refl nob w3).alloc _
           have s4 := A3.cell s3 (fun h => h)
           have HO4 := Lib.hid (A3.row (F3.row HOd.out (fun _ _ h => h)) (fun _ _ h => h))
           have HC6 : Hid (w.heap.size + 3 ≤ (w3.alloc (.cells #[.int .u8 (o3 : Int), .string (txt nm3), .slice a3 n3 c3] 25)).heap.size) := Lib.hid (Nat.le_trans HSZ2.out (F3.trans A3 (fun _ _ h => h)).size)
           have HF3 := Lib.hid F3
           have HT3 := Lib.hid hT3
           have HB24 := Lib.hid ((HB2d.out.kept F3 (fun h => h)).kept A3 (fun h => h))
           clear hT3 A3 F3
           simp only [])
        | (refine step_append_own (by rfl) _ _ _ (by rfl) 25 i0 _ 3 48 Try.underlying23 hi0 hi1 hi2 hi3 rfl (by decide) (w.heap.size + 3) (.slice la k lc) k cells (by rfl) HO4.out ⟨w3.heap.size, 0, none⟩ 1 1 [.int .u8 (o3 : Int), .string (txt nm3), .slice a3 n3 c3] (by rfl) rfl (three_new w3 _ _ _ _) (three_one _ _ _ _ _) HC45.out.1 HC45.out.2 HC6.out ?_
           intro v6 w6 own6 gr6 hat
           have F6 : Fr (fun j => (Value.slice la k lc).ownBlock = some j) (w3.alloc (.cells #[.int .u8 (o3 : Int), .string (txt nm3), .slice a3 n3 c3] 25)) w6 := (Fr.refl _ _).grown gr6 (fun j hj _ => hj)
           have hB26 := HB24.out.kept F6 (fun h => by have := (HO4.out.lt _ h).1; omega)
           have s6 := hB26.c2
           have f6 := hB26.fr 2
           obtain ⟨g6, cap6, rfl, _⟩ := row_form (n := k) own6
           have HO6 := Lib.hid own6
           have HF6 := Lib.hid F6
           have HAT := Lib.hid hat
           have HB26 := Lib.hid hB26
           clear own6 gr6 hat F6 hB26))
      all_goals (
        have S7 := fr_store w6 (w.heap.size + 2) 2 (.slice (some ⟨g6, 0, none⟩) (k + 1) cap6)
        have hz0 : wr.heap.size ≤ w3.heap.size := HF3.out.size
        have hsz2 : w.heap.size + 3 ≤ wr.heap.size := HSZ2.out
        have A3 : Fr nob w3 (w3.alloc (.cells #[.int .u8 (o3 : Int), .string (txt nm3), .slice a3 n3 c3] 25)) := (Fr.refl nob w3).alloc _
        have holt : ∀ j, (Value.slice la k lc).ownBlock = some j → w.heap.size + 3 ≤ j ∧ j < wr.heap.size := fun j hj => HOd.out.lt j hj
        have hz6 : w3.heap.size ≤ w6.heap.size := Nat.le_trans (by simp) HF6.out.size
        have X7 := ((HKd.out.kept (hi' := wr.drew.heap.size) HF3.out (fun b h => h.elim) (Nat.le_refl _)).snoc HF3.out.size (fun g hg => .inl (holt g hg).2) HT3.out).kept (hi' := w3.heap.size) A3 (fun b h => h.elim) (Nat.le_refl _)
        have K7 := RowS.kept (hi' := (w6.setCell ⟨w.heap.size + 2, 2, none⟩ (.slice (some ⟨g6, 0, none⟩) (k + 1) cap6)).heap.size) S7 (fun b (h : b = w.heap.size + 2) => .inl (by omega)) (Nat.le_trans hz6 S7.size) (RowS.own (kv' := .slice (some ⟨g6, 0, none⟩) (k + 1) cap6) (fun g hg => by
          rcases HAT.out with h | h
          · exact .inl (by rw [← h]; exact hg)
          · right
            rw [h] at hg
            have e2 := Option.some.inj hg
            (try rw [World.size_alloc] at e2)
            omega) (X7.kept (hi' := w3.heap.size) HF6.out (fun b h => .inr (.inr h)) (Nat.le_refl _)))
        have HK7 := Lib.hid K7
        have G4 := HF3.out.trans A3 (fun _ _ h => h)
        have HB7 := Lib.hid (((HBd.out.kept G4 (fun h => h)).kept HF6.out (fun h => by have := (holt _ h).1; omega)).kept S7 (show ¬ w.heap.size = w.heap.size + 2 by omega))
        have HB17 := Lib.hid (((HB1d.out.kept G4 (fun h => h)).kept HF6.out (fun h => by have := (holt _ h).1; omega)).kept S7 (show ¬ w.heap.size + 1 = w.heap.size + 2 by omega))
        have ⟨z0, z1, z2, zf⟩ := HB26.out
        have HB27 : Hid (Box3 (w6.setCell ⟨w.heap.size + 2, 2, none⟩ (.slice (some ⟨g6, 0, none⟩) (k + 1) cap6)) (w.heap.size + 2) (.int .u8 (op : Int)) (.string (txt nm)) (.slice (some ⟨g6, 0, none⟩) (k + 1) cap6)) := Lib.hid
          ⟨by rw [World.cell?_setCell_other (h := by simp)]; exact z0, by rw [World.cell?_setCell_other (h := by simp)]; exact z1, World.cell?_setCell_same' _ _ _ (by rw [z2]; rfl), fun o => by rw [World.frozen?_setCell]; exact zf o⟩
        have HO7 := Lib.hid (S7.row HO6.out (fun g hg (e : g = w.heap.size + 2) => by have := (HO6.out.lt g hg).1; omega))
        have HF7 := Lib.hid (((HFd.out.trans G4 (fun _ _ h => h)).trans' (T := nob) HF6.out (fun _ _ h => h) (fun j hj h => by have := (holt j h).1; omega)).trans' (T := nob) S7 (fun _ _ h => h) (fun j hj h => by have e : j = w.heap.size + 2 := h; omega))
        have HZ7 : Hid (w.heap.size + 3 ≤ (w6.setCell ⟨w.heap.size + 2, 2, none⟩ (.slice (some ⟨g6, 0, none⟩) (k + 1) cap6)).heap.size) := Lib.hid (by have h1 := S7.size; have h2 := HF6.out.size; have h3 := HC6.out; omega)
        clear S7 hz0 hsz2 A3 hz6 X7 holt K7 G4 z0 z1 z2 zf s3 s4 s6 f6 HO4 HC6 HF3 HT3 HB24 HO6 HF6 HAT HB26 HKd HOd HBd HB1d HB2d HFd rd2 sd2 e0 e1 e2 hC
        generalize w6.setCell ⟨w.heap.size + 2, 2, none⟩ (.slice (some ⟨g6, 0, none⟩) (k + 1) cap6) = w7 at *
        go_wp2_with fail
        go_roundg m
        case measure => omega
        case rel => exact ⟨k + 1, .slice (some ⟨g6, 0, none⟩) (k + 1) cap6, _, by omega, by go_num, ⟨_, _, rfl⟩, HO7.out, by rw [HTA.out]; exact HK7.out, HB7.out, HB17.out, HB27.out, HZ7.out, HF7.out⟩)
theorem cos_any : ∀ (d : Nat) (t : Tr), SizeOf.sizeOf t < d → CosC t
  | 0, t, h => absurd h (Nat.not_lt_zero _)
  | d + 1, .mk op nm kids, h => cos_one op nm kids fun t ht => cos_any d t (by have := List.sizeOf_lt_of_mem ht; simp at h; omega)
end Go.Proofs.Ytbiheajnmjbdoaa
/- spoil: the names of a tree's kids, written in place. -/
namespace Go.Proofs.Ytbiheajnmjbdoaa
open Go.RowKit

/-! a kid of a tree whose lists lie apart, and another in its place -/
theorem KidsS.kept2 {w w' : World} {S' : Nat → Prop} (f : Fr S' w w') {g : Nat} : ∀ {ts : List Tr} {lo hi i : Nat}, (∀ o v, i * 3 ≤ o → w.cell? ⟨g, o, none⟩ = some v → w'.cell? ⟨g, o, none⟩ = some v) → (∀ b, S' b → b = g ∨ b < lo ∨ hi ≤ b) → KidsS w g ts lo hi i → KidsS w' g ts lo hi i
  | [], _, _, _, _, _, _ => by rw [KidsS]; trivial
  | t :: ts, lo, hi, i, hc, hS, h => by
    rw [KidsS] at h ⊢
    obtain ⟨x, y, z, l, m, e0, e1, e2, h3, h4, h5, h6, hT, hK⟩ := h
    exact ⟨x, y, z, l, m, hc _ _ (by omega) e0, hc _ _ (by omega) e1, hc _ _ (by omega) e2, h3, h4, h5, h6, TrS.kept f (fun b hb => by have := hS b hb; omega) (Nat.le_refl _) (Nat.le_refl _) hT, KidsS.kept2 f (fun o v ho => hc o v (by omega)) (fun b hb => by have := hS b hb; omega) hK⟩
theorem KidsS.kid {w : World} {g : Nat} : ∀ {ts : List Tr} {lo hi i k : Nat} {t : Tr}, KidsS w g ts lo hi i → ts[k]? = some t →
    ∃ x y z l m, w.cell? ⟨g, (i + k) * 3, none⟩ = some x ∧ w.cell? ⟨g, (i + k) * 3 + 1, none⟩ = some y ∧ w.cell? ⟨g, (i + k) * 3 + 2, none⟩ = some z ∧ lo ≤ l ∧ l ≤ m ∧ m ≤ hi ∧ (g < l ∨ m ≤ g) ∧ TrS w t l m (.agg #[x, y, z]) ∧
      ∀ (w' : World) (t' : Tr) (x' y' z' : Value), Fr (fun b => b = g ∨ (l ≤ b ∧ b < m)) w w' → (∀ o v, o ≠ (i + k) * 3 → o ≠ (i + k) * 3 + 1 → o ≠ (i + k) * 3 + 2 → w.cell? ⟨g, o, none⟩ = some v → w'.cell? ⟨g, o, none⟩ = some v) → w'.cell? ⟨g, (i + k) * 3, none⟩ = some x' → w'.cell? ⟨g, (i + k) * 3 + 1, none⟩ = some y' → w'.cell? ⟨g, (i + k) * 3 + 2, none⟩ = some z' → TrS w' t' l m (.agg #[x', y', z']) → KidsS w' g (ts.set k t') lo hi i
  | [], _, _, _, _, _, _, h => by simp at h
  | u :: ts, lo, hi, i, 0, t, h, ht => by
    obtain rfl : u = t := by simpa using ht
    rw [KidsS] at h
    obtain ⟨x, y, z, l, m, e0, e1, e2, h3, h4, h5, h6, hT, hK⟩ := h
    refine ⟨x, y, z, l, m, e0, e1, e2, h3, h4, h5, h6, hT, fun w' t' x' y' z' f hc c0 c1 c2 hT' => ?_⟩
    rw [List.set_cons_zero, KidsS]
    exact ⟨x', y', z', l, m, c0, c1, c2, h3, h4, h5, h6, hT', hK.kept2 f (fun o v ho => hc o v (by omega) (by omega) (by omega)) (fun b hb => by omega)⟩
  | u :: ts, lo, hi, i, k + 1, t, h, ht => by
    rw [KidsS] at h
    obtain ⟨x, y, z, l, m, e0, e1, e2, h3, h4, h5, h6, hT, hK⟩ := h
    obtain ⟨x1, y1, z1, l1, m1, d0, d1, d2, g3, g4, g5, g6, hT1, hN⟩ := KidsS.kid (k := k) (t := t) hK (by simpa using ht)
    rw [show i + 1 + k = i + (k + 1) by omega] at d0 d1 d2 hN
    refine ⟨x1, y1, z1, l1, m1, d0, d1, d2, by omega, g4, g5, g6, hT1, fun w' t' x' y' z' f hc c0 c1 c2 hT' => ?_⟩
    rw [List.set_cons_succ, KidsS]
    exact ⟨x, y, z, l, m, hc _ _ (by omega) (by omega) (by omega) e0, hc _ _ (by omega) (by omega) (by omega) e1, hc _ _ (by omega) (by omega) (by omega) e2, h3, h4, h5, h6, TrS.kept f (fun b hb => by omega) (Nat.le_refl _) (Nat.le_refl _) hT, hN w' t' x' y' z' f hc c0 c1 c2 hT'⟩
theorem TrS.kid {w : World} {op k lo hi n cp : Nat} {nm : List UInt8} {L : List Tr} {t : Tr} {X Y : Value} {a : Option Addr} (h : TrS w (.mk op nm L) lo hi (.agg #[X, Y, .slice a n cp])) (ht : L[k]? = some t) :
    ∃ g x y z l m, a = some ⟨g, 0, none⟩ ∧ lo ≤ g ∧ g < hi ∧ (∃ cs, w.heap[g]? = some (.cells cs 25 (0, 0))) ∧ w.cell? ⟨g, k * 3, none⟩ = some x ∧ w.cell? ⟨g, k * 3 + 1, none⟩ = some y ∧ w.cell? ⟨g, k * 3 + 2, none⟩ = some z ∧ lo ≤ l ∧ l ≤ m ∧ m ≤ hi ∧ (g < l ∨ m ≤ g) ∧ TrS w t l m (.agg #[x, y, z]) ∧
      ∀ (w' : World) (t' : Tr) (x' y' z' : Value), Fr (fun b => b = g ∨ (l ≤ b ∧ b < m)) w w' → (∃ cs, w'.heap[g]? = some (.cells cs 25 (0, 0))) → (∀ o v, o ≠ k * 3 → o ≠ k * 3 + 1 → o ≠ k * 3 + 2 → w.cell? ⟨g, o, none⟩ = some v → w'.cell? ⟨g, o, none⟩ = some v) → w'.cell? ⟨g, k * 3, none⟩ = some x' → w'.cell? ⟨g, k * 3 + 1, none⟩ = some y' → w'.cell? ⟨g, k * 3 + 2, none⟩ = some z' → TrS w' t' l m (.agg #[x', y', z']) → TrS w' (.mk op nm (L.set k t')) lo hi (.agg #[X, Y, .slice a n cp]) := by
  rw [TrS] at h
  obtain ⟨a', cap, e, hk⟩ := h
  obtain ⟨rfl, rfl, rfl, rfl, rfl⟩ : X = .int .u8 (op : Int) ∧ Y = .string (txt nm) ∧ a = a' ∧ n = L.length ∧ cp = cap := by simpa using e
  have hne : L ≠ [] := by intro e; rw [e] at ht; simp at ht
  obtain ⟨g, rfl, h1, h2, h3, hK⟩ := hk hne
  obtain ⟨x, y, z, l, m, e0, e1, e2, g3, g4, g5, g6, hT, hN⟩ := hK.kid ht
  rw [Nat.zero_add] at e0 e1 e2 hN
  refine ⟨g, x, y, z, l, m, rfl, h1, h2, h3, e0, e1, e2, g3, g4, g5, g6, hT, fun w' t' x' y' z' f hcs hc c0 c1 c2 hT' => ?_⟩
  rw [TrS]
  exact ⟨_, cp, by rw [List.length_set], fun _ => ⟨g, rfl, h1, h2, hcs, hN w' t' x' y' z' f hc c0 c1 c2 hT'⟩⟩

/-! spoil -/
def addx : Tr → Tr
  | .mk op nm ks => .mk op (nm ++ [120]) ks
mutual
def spP : Tr → Tr
  | .mk op nm ks => .mk op nm (spL ks)
def spL : List Tr → List Tr
  | [] => []
  | t :: ts => addx (spP t) :: spL ts
end
theorem spL_map : ∀ ts, spL ts = ts.map fun t => addx (spP t)
  | [] => by rw [spL]; rfl
  | t :: ts => by rw [spL, List.map_cons, spL_map ts]
/-- so many kids are done -/
def spK (ts : List Tr) (k : Nat) : List Tr := (ts.take k).map (fun t => addx (spP t)) ++ ts.drop k
theorem spK_zero (ts : List Tr) : spK ts 0 = ts := by simp [spK]
theorem spK_all {ts : List Tr} {k : Nat} (h : ts.length ≤ k) : spK ts k = spL ts := by rw [spL_map]; simp [spK, List.take_of_length_le h, List.drop_eq_nil_of_le h]
theorem spK_at {ts : List Tr} {k : Nat} {t : Tr} (h : ts[k]? = some t) : (spK ts k)[k]? = some t := by
  have hk := (List.getElem?_eq_some_iff.1 h).1
  rw [spK, List.getElem?_append_right (by simp; omega)]
  simp only [List.length_map, List.length_take]
  rw [List.getElem?_drop, show k + (k - min k ts.length) = k by omega]
  exact h
theorem spK_len (ts : List Tr) (k : Nat) : (spK ts k).length = ts.length := by simp [spK]; omega
theorem spK_set {ts : List Tr} {k : Nat} {t : Tr} (h : ts[k]? = some t) : (spK ts k).set k (addx (spP t)) = spK ts (k + 1) := by
  obtain ⟨hk, rfl⟩ := List.getElem?_eq_some_iff.1 h
  apply List.ext_getElem?
  intro j
  rw [spK, spK]
  by_cases hj : j < k
  · rw [List.getElem?_set_ne (by omega), List.getElem?_append_left (by simp; omega), List.getElem?_append_left (by simp; omega)]
    simp only [List.getElem?_map, List.getElem?_take]
    rw [if_pos hj, if_pos (by omega)]
  · by_cases hjk : j = k
    · subst hjk
      rw [List.getElem?_set_self (by simp; omega), List.getElem?_append_left (by simp; omega)]
      simp only [List.getElem?_map, List.getElem?_take]
      rw [if_pos (by omega)]
      simp [hk]
    · rw [List.getElem?_set_ne (by omega), List.getElem?_append_right (by simp; omega), List.getElem?_append_right (by simp; omega)]
      simp only [List.length_map, List.length_take, List.getElem?_drop]
      congr 1
      omega
theorem cells_set {w : World} {g o : Nat} {cs : Array Value} {T : TypeId} {v : Value} (h : w.heap[g]? = some (.cells cs T (0, 0))) : ∃ cs', (w.setCell ⟨g, o, none⟩ v).heap[g]? = some (.cells cs' T (0, 0)) := by
  refine ⟨cs.setIfInBounds o v, ?_⟩
  unfold World.setCell
  rw [Array.getElem?_modify, if_pos rfl, h]
  rfl
end Go.Proofs.Ytbiheajnmjbdoaa
namespace Go.Proofs.Ytbiheajnmjbdoaa
open Go.RowKit

/-- spoil of a tree: whatever its own name, its kids' names get a letter more, in place -/
def SpC (op : Nat) (ks : List Tr) : Prop := ∀ (nm : List UInt8) (v : Value) (lo hi : Nat) (w : World), nm.length ≤ 9223372036854775807 → (preL ks).length ≤ 1000000 → (∀ u ∈ preL ks, (nmT2 u).length ≤ 100) → hi ≤ w.heap.size → TrS w (.mk op nm ks) lo hi v →
  Calls Try.prog 29 #[v] w fun e w' => e = .returned (.tuple #[]) ∧ TrS w' (.mk op nm (spL ks)) lo hi v ∧ Fr (fun b => lo ≤ b ∧ b < hi) w w'
def kidsT : Tr → List Tr
  | .mk _ _ ks => ks
theorem txt_x (l : List UInt8) : txt l ++ ⟨#[120]⟩ = txt (l ++ [120]) := by
  apply ByteArray.ext
  simp [txt]
set_option maxRecDepth 20000 in
set_option maxHeartbeats 4000000 in
theorem sp_one (op : Nat) (kids : List Tr) (ih : ∀ t ∈ kids, SpC (opT t) (kidsT t)) : SpC op kids := by
  intro nm v lo hi w hnm hln hnms hhi hT
  have hT0 := hT
  rw [TrS] at hT0
  obtain ⟨a, cp, rfl, _⟩ := hT0
  have HT := Lib.hid hT
  have HIH := Lib.hid ih
  have HLN := Lib.hid hln
  have HNMS := Lib.hid hnms
  have hkl := kids_le (kids := kids)
  obtain ⟨nk, hnk⟩ : ∃ nk, kids.length = nk := ⟨_, rfl⟩
  have hnk6 : nk ≤ 1000000 := by omega
  rw [hnk] at HT ⊢
  have HNK := Lib.hid hnk
  obtain ⟨W1, hW1⟩ : ∃ W1, w.alloc (.cells #[.int .u8 (op : Int), .string (txt nm), .slice a nk cp] 25) = W1 := ⟨_, rfl⟩
  have A1 : Fr nob w W1 := by rw [← hW1]; exact (Fr.refl nob w).alloc _
  have hbx : Box3 W1 w.heap.size (.int .u8 (op : Int)) (.string (txt nm)) (.slice a nk cp) := by rw [← hW1]; exact Box3.new w _ _ _ _
  have HBX := Lib.hid hbx
  have HT1 := Lib.hid (HT.out.kept A1 (fun b h => h.elim) (Nat.le_refl _) (Nat.le_refl _))
  have HF1 := Lib.hid (A1.mono (T := fun b => lo ≤ b ∧ b < hi) (fun _ _ h => h.elim))
  have HHI := Lib.hid hhi
  have hz1 : w.heap.size < W1.heap.size := hbx.lt
  clear ih hln hnms hkl hnk A1 hbx hT HT hhi hnm hz1
  go_enter Try.func29, Try.ntmps29
  go_upto_region 1 with fail
  (try rw [hW1])
  clear hW1
  go_wp2_with fail
  go_loopg [2] nk (fun m iv wr => ∃ k : Nat, k + m = nk ∧ iv = .int .i64 (k : Int) ∧ TrS wr (.mk op nm (spK kids k)) lo hi (.agg #[.int .u8 (op : Int), .string (txt nm), .slice a nk cp]) ∧ Box3 wr w.heap.size (.int .u8 (op : Int)) (.string (txt nm)) (.slice a nk cp) ∧ Fr (fun b => lo ≤ b ∧ b < hi) w wr)
  case atStart => exact ⟨0, by omega, rfl, by rw [spK_zero]; exact HT1.out, HBX.out, HF1.out⟩
  case round =>
    clear HBX HT1 HF1
    obtain ⟨k, hkm, rfl, hTk, hB, hF⟩ := hrel
    have HTK := Lib.hid hTk
    have HB := Lib.hid hB
    have HF := Lib.hid hF
    have r2 := hB.c2
    have q4 : (0 : Int) ≤ (k : Int) := Int.natCast_nonneg _
    clear hTk hB hF
    cases gk with
    | zero =>
      obtain rfl : k = nk := by omega
      have ek : spK kids k = spL kids := spK_all (by rw [HNK.out]; exact Nat.le_refl _)
      rw [ek] at HTK
      have q3 : ¬ (k : Int) < (k : Int) := by omega
      go_wp2_with fail
      exact bodyPost_end (results_none rfl _ _ _) rfl ⟨rfl, HTK.out, HF.out⟩
    | succ m =>
      have q3 : (k : Int) < (nk : Int) := by omega
      have hk : k < kids.length := by rw [HNK.out]; omega
      have hkt : kids[k]? = some kids[k] := List.getElem?_eq_getElem hk
      have hmem : kids[k] ∈ kids := List.getElem_mem hk
      generalize kids[k] = t at hkt hmem
      obtain ⟨o, nn, kk⟩ := t
      obtain ⟨g, x, y, z, l, mm, rfl, hg1, hg2, ⟨cs, hcs⟩, e0, e1, e2, h3, h4, h5, h6, hT, hN⟩ := HTK.out.kid (spK_at hkt)
      have hT2 := hT
      rw [TrS] at hT2
      obtain ⟨ka, kc, e, _⟩ := hT2
      obtain ⟨kn, hkn⟩ : ∃ kn, kk.length = kn := ⟨_, rfl⟩
      rw [hkn] at e
      obtain ⟨rfl, rfl, rfl⟩ : x = .int .u8 (o : Int) ∧ y = .string (txt nn) ∧ z = .slice ka kn kc := by simpa using e
      have hf1 : wr.frozen? ⟨g, k * 3 + 1, none⟩ = false := by simp [World.frozen?, hcs]
      have hsub : ∀ u, u ∈ preP (.mk o nn kk) → u ∈ preL kids := fun u hu => preL_sub hmem hu
      have hnn : nn.length ≤ 100 := HNMS.out (.mk o nn kk) (hsub _ (by rw [preP]; exact List.mem_cons_self))
      have hS : SpC o kk := HIH.out _ hmem
      have hln : (preL kk).length ≤ 1000000 := by
        have h1 := preL_mem hmem
        rw [preP, List.length_cons] at h1
        have h2 := HLN.out
        omega
      have hr : Fr (fun b => b = g) wr ((wr.setCell ⟨g, k * 3 + 1, none⟩ (.string (txt (nn ++ [120])))).drew) := ((Fr.refl (fun b => b = g) wr).setCell (p := ⟨g, k * 3 + 1, none⟩) (fun _ => rfl) _).drew
      have hmz : mm ≤ (wr.setCell ⟨g, k * 3 + 1, none⟩ (.string (txt (nn ++ [120])))).drew.heap.size := by
        have h1 := hr.size
        have h2 := HF.out.size
        have h3 := HHI.out
        omega
      have hT3 : TrS ((wr.setCell ⟨g, k * 3 + 1, none⟩ (.string (txt (nn ++ [120])))).drew) (.mk o (nn ++ [120]) kk) l mm (.agg #[.int .u8 (o : Int), .string (txt (nn ++ [120])), .slice ka kn kc]) := by
        have h := hT.kept hr (fun b (hb : b = g) => by omega) (Nat.le_refl _) (Nat.le_refl _)
        rw [TrS] at h ⊢
        obtain ⟨a', c', e', hk'⟩ := h
        obtain ⟨rfl, rfl⟩ : ka = a' ∧ kc = c' := by
          simp only [Value.agg.injEq, Array.mk.injEq, List.cons.injEq, Value.slice.injEq] at e'
          exact ⟨e'.2.2.1.1, e'.2.2.1.2.2⟩
        exact ⟨ka, kc, by rw [hkn], hk'⟩
      have hC := hS (nn ++ [120]) _ l mm _ (by rw [List.length_append, List.length_singleton]; omega) hln (fun u hu => HNMS.out u (hsub u (by rw [preP]; exact List.mem_cons_of_mem _ hu))) hmz hT3
      have c0 : (wr.setCell ⟨g, k * 3 + 1, none⟩ (.string (txt (nn ++ [120])))).drew.cell? ⟨g, k * 3, none⟩ = some (.int .u8 (o : Int)) := by show (wr.setCell _ _).cell? _ = _; rw [World.cell?_setCell_other (h := by simp)]; exact e0
      have c1 : (wr.setCell ⟨g, k * 3 + 1, none⟩ (.string (txt (nn ++ [120])))).drew.cell? ⟨g, k * 3 + 1, none⟩ = some (.string (txt (nn ++ [120]))) := by show (wr.setCell _ _).cell? _ = _; exact World.cell?_setCell_same' _ _ _ (by rw [e1]; rfl)
      have c2 : (wr.setCell ⟨g, k * 3 + 1, none⟩ (.string (txt (nn ++ [120])))).drew.cell? ⟨g, k * 3 + 2, none⟩ = some (.slice ka kn kc) := by show (wr.setCell _ _).cell? _ = _; rw [World.cell?_setCell_other (h := by simp)]; exact e2
      have hco : ∀ q v, q ≠ k * 3 → q ≠ k * 3 + 1 → q ≠ k * 3 + 2 → wr.cell? ⟨g, q, none⟩ = some v → (wr.setCell ⟨g, k * 3 + 1, none⟩ (.string (txt (nn ++ [120])))).drew.cell? ⟨g, q, none⟩ = some v := by
        intro q v _ h1 _ hq
        show (wr.setCell _ _).cell? _ = _
        rw [World.cell?_setCell_other (h := by simp)]; exact hq
      obtain ⟨cs2, hcs2⟩ : ∃ cs2, (wr.setCell ⟨g, k * 3 + 1, none⟩ (.string (txt (nn ++ [120])))).drew.heap[g]? = some (.cells cs2 25 (0, 0)) := cells_set (w := wr) (g := g) (o := k * 3 + 1) (v := .string (txt (nn ++ [120]))) hcs
      have HCS := Lib.hid hcs2
      have HCO := Lib.hid hco
      have HR := Lib.hid hr
      have HC3 := Lib.hid (And.intro c0 (And.intro c1 c2))
      have HG := Lib.hid (And.intro hg1 (And.intro hg2 (And.intro h3 (And.intro h4 (And.intro h5 h6)))))
      have HN := Lib.hid hN
      have HKT := Lib.hid hkt
      have HB3 := Lib.hid (HB.out.kept hr (fun h => by have := HHI.out; omega))
      have HCC := Lib.hid hC
      have r2d : wr.drew.cell? ⟨w.heap.size, 2, none⟩ = some (.slice (some ⟨g, 0, none⟩) nk cp) := r2
      have e1d : wr.drew.cell? ⟨g, k * 3 + 1, none⟩ = some (.string (txt nn)) := e1
      have f1d : wr.drew.frozen? ⟨g, k * 3 + 1, none⟩ = false := hf1
      clear hkt hmem hg1 hg2 h3 h4 h5 h6 hcs hT hN hf1 e0 e1 e2 e hsub hS hln hr hmz hT3 hC c0 c1 c2 hco hcs2 HB
      go_upto_region 4 with fail
      go_region
      rw [txt_x]
      clear r2d e1d f1d hnn
      generalize (wr.setCell ⟨g, k * 3 + 1, none⟩ (.string (txt (nn ++ [120])))).drew = w1 at *
      have ⟨c0, c1, c2⟩ := HC3.out
      have r3 := HB3.out.c2
      have hC := HCC.out
      clear HCC
      go_wp2_with fail
      with_reducible refine hC.mono ?_
      rintro e w2 ⟨rfl, hT4, F4⟩
      have hng : ¬ (l ≤ g ∧ g < mm) := by have := HG.out; omega
      have hr2 : Fr (fun b => b = g ∨ (l ≤ b ∧ b < mm)) wr w2 := HR.out.trans' F4 (fun _ _ h => .inl h) (fun _ _ h => .inr h)
      have hT5 := HN.out w2 (addx (spP (.mk o nn kk))) _ _ _ hr2 ⟨cs2, (F4.block g (Array.getElem?_eq_some_iff.1 HCS.out).1 hng).trans HCS.out⟩ (fun q v a1 a2 a3 hq => F4.cell' (HCO.out q v a1 a2 a3 hq) hng) (F4.cell' c0 hng) (F4.cell' c1 hng) (F4.cell' c2 hng) (by rw [spP]; exact hT4)
      rw [spK_set HKT.out] at hT5
      have HT5 := Lib.hid hT5
      have HB5 := Lib.hid (HB3.out.kept F4 (fun h => by have h1 := HG.out; have h2 := HHI.out; omega))
      have HF5 := Lib.hid (HF.out.trans' (T := fun b => lo ≤ b ∧ b < hi) hr2 (fun _ _ h => h) (fun b _ h => by have h1 := HG.out; rcases h with h | h <;> omega))
      clear hT5 hr2 hT4 F4 hC c0 c1 c2 r3
      go_wp2_with fail
      go_roundg m
      case measure => omega
      case rel => exact ⟨k + 1, by omega, by go_num, HT5.out, HB5.out, HF5.out⟩
theorem sp_any : ∀ (d op : Nat) (ts : List Tr), SizeOf.sizeOf ts < d → SpC op ts
  | 0, _, ts, h => absurd h (Nat.not_lt_zero _)
  | d + 1, op, ts, h => sp_one op ts fun t ht => sp_any d (opT t) (kidsT t) (by
      have h1 := List.sizeOf_lt_of_mem ht
      have h2 : SizeOf.sizeOf (kidsT t) < SizeOf.sizeOf t := by cases t; simp [kidsT]; omega
      omega)
end Go.Proofs.Ytbiheajnmjbdoaa
namespace Go.Proofs.Ytbiheajnmjbdoaa
open Go.RowKit

/-! own, put := Copied(e), Copied(by) -/
def CSO (w0 : World) (a : Act) (b : Nat) : Prop := w0.heap.size ≤ b ∧ a.tmps[(5 : Nat)]? ≠ some (pt b) ∧ a.tmps[(6 : Nat)]? ≠ some (pt b)
structure CIO (t tb : Tr) (w0 : World) (A0 : Act) (X Y : Value) (L : Nat → Prop) (a : Act) (w : World) : Prop where
  df : a.defers = A0.defers
  sz : a.tmps.size = A0.tmps.size
  ot : ∀ u : Nat, u ≠ 29 → u ≠ 30 → u ≠ 31 → u ≠ 32 → u ≠ 5 → u ≠ 6 → a.tmps[u]? = A0.tmps[u]?
  fr : Fr nob w0 w
  x : L 0 → a.tmps[(29 : Nat)]? = some X
  y : L 2 → a.tmps[(31 : Nat)]? = some Y
  v : L 1 → ∃ v, a.tmps[(30 : Nat)]? = some v ∧ TrV w (CSO w0 a) t v
  u : L 3 → ∃ v, a.tmps[(32 : Nat)]? = some v ∧ TrV w (CSO w0 a) tb v
  p : L 4 → ∃ b x y z, a.tmps[(5 : Nat)]? = some (pt b) ∧ w0.heap.size ≤ b ∧ Box3 w b x y z ∧ (L 6 → a.tmps[(30 : Nat)]? = some (.agg #[x, y, z]))
  q : L 5 → ∃ b x y z, a.tmps[(6 : Nat)]? = some (pt b) ∧ w0.heap.size ≤ b ∧ Box3 w b x y z ∧ (L 7 → a.tmps[(32 : Nat)]? = some (.agg #[x, y, z]))
  ne : L 4 → L 5 → a.tmps[(5 : Nat)]? ≠ a.tmps[(6 : Nat)]?
  pb : ∀ b, a.tmps[(5 : Nat)]? = some (pt b) → b < w.heap.size
  qb : ∀ b, a.tmps[(6 : Nat)]? = some (pt b) → b < w.heap.size
theorem ciO_0 {t tb : Tr} {w0 : World} {A0 : Act} {X Y : Value} {L L' : Nat → Prop} {a : Act} {w : World} (h : CIO t tb w0 A0 X Y L a w) (hL : ∀ j, L' j → L j ∨ j = 0) (hs : 29 < a.tmps.size) : CIO t tb w0 A0 X Y L' (a.put (some 29) X) w := by
  have hcs : ∀ b, CSO w0 a b → CSO w0 (a.put (some 29) X) b := fun b hb => ⟨hb.1, by rw [put_ne (by decide)]; exact hb.2.1, by rw [put_ne (by decide)]; exact hb.2.2⟩
  have no : ∀ j, j ≠ 0 → L' j → L j := fun j hj h' => (hL j h').resolve_right hj
  refine ⟨put_df.trans h.df, put_sz.trans h.sz, fun u h1 h2 h3 h4 h5 h6 => by rw [put_ne (by assumption)]; exact h.ot u h1 h2 h3 h4 h5 h6, h.fr, ?_, ?_, ?_, ?_, ?_, ?_, ?_, ?_, ?_⟩
  · intro _; rw [put_eq hs]
  · intro h'; rw [put_ne (by decide)]; exact h.y (no 2 (by decide) h')
  · intro h'; obtain ⟨v, h1, h2⟩ := h.v (no 1 (by decide) h'); exact ⟨v, by rw [put_ne (by decide)]; exact h1, h2.kept (Fr.refl nob w) (fun b hb _ => ⟨fun h => h, hcs b hb⟩)⟩
  · intro h'; obtain ⟨v, h1, h2⟩ := h.u (no 3 (by decide) h'); exact ⟨v, by rw [put_ne (by decide)]; exact h1, h2.kept (Fr.refl nob w) (fun b hb _ => ⟨fun h => h, hcs b hb⟩)⟩
  · intro h'; obtain ⟨b, x, y, z, h1, h2, h3, h4⟩ := h.p (no 4 (by decide) h'); exact ⟨b, x, y, z, by rw [put_ne (by decide)]; exact h1, h2, h3, fun h6 => by rw [put_ne (by decide)]; exact h4 (no 6 (by decide) h6)⟩
  · intro h'; obtain ⟨b, x, y, z, h1, h2, h3, h4⟩ := h.q (no 5 (by decide) h'); exact ⟨b, x, y, z, by rw [put_ne (by decide)]; exact h1, h2, h3, fun h6 => by rw [put_ne (by decide)]; exact h4 (no 7 (by decide) h6)⟩
  · intro h4 h5; rw [put_ne (by decide), put_ne (by decide)]; exact h.ne (no 4 (by decide) h4) (no 5 (by decide) h5)
  · intro b; rw [put_ne (by decide)]; exact h.pb b
  · intro b; rw [put_ne (by decide)]; exact h.qb b
theorem ciO_2 {t tb : Tr} {w0 : World} {A0 : Act} {X Y : Value} {L L' : Nat → Prop} {a : Act} {w : World} (h : CIO t tb w0 A0 X Y L a w) (hL : ∀ j, L' j → L j ∨ j = 2) (hs : 31 < a.tmps.size) : CIO t tb w0 A0 X Y L' (a.put (some 31) Y) w := by
  have hcs : ∀ b, CSO w0 a b → CSO w0 (a.put (some 31) Y) b := fun b hb => ⟨hb.1, by rw [put_ne (by decide)]; exact hb.2.1, by rw [put_ne (by decide)]; exact hb.2.2⟩
  have no : ∀ j, j ≠ 2 → L' j → L j := fun j hj h' => (hL j h').resolve_right hj
  refine ⟨put_df.trans h.df, put_sz.trans h.sz, fun u h1 h2 h3 h4 h5 h6 => by rw [put_ne (by assumption)]; exact h.ot u h1 h2 h3 h4 h5 h6, h.fr, ?_, ?_, ?_, ?_, ?_, ?_, ?_, ?_, ?_⟩
  · intro h'; rw [put_ne (by decide)]; exact h.x (no 0 (by decide) h')
  · intro _; rw [put_eq hs]
  · intro h'; obtain ⟨v, h1, h2⟩ := h.v (no 1 (by decide) h'); exact ⟨v, by rw [put_ne (by decide)]; exact h1, h2.kept (Fr.refl nob w) (fun b hb _ => ⟨fun h => h, hcs b hb⟩)⟩
  · intro h'; obtain ⟨v, h1, h2⟩ := h.u (no 3 (by decide) h'); exact ⟨v, by rw [put_ne (by decide)]; exact h1, h2.kept (Fr.refl nob w) (fun b hb _ => ⟨fun h => h, hcs b hb⟩)⟩
  · intro h'; obtain ⟨b, x, y, z, h1, h2, h3, h4⟩ := h.p (no 4 (by decide) h'); exact ⟨b, x, y, z, by rw [put_ne (by decide)]; exact h1, h2, h3, fun h6 => by rw [put_ne (by decide)]; exact h4 (no 6 (by decide) h6)⟩
  · intro h'; obtain ⟨b, x, y, z, h1, h2, h3, h4⟩ := h.q (no 5 (by decide) h'); exact ⟨b, x, y, z, by rw [put_ne (by decide)]; exact h1, h2, h3, fun h6 => by rw [put_ne (by decide)]; exact h4 (no 7 (by decide) h6)⟩
  · intro h4 h5; rw [put_ne (by decide), put_ne (by decide)]; exact h.ne (no 4 (by decide) h4) (no 5 (by decide) h5)
  · intro b; rw [put_ne (by decide)]; exact h.pb b
  · intro b; rw [put_ne (by decide)]; exact h.qb b
theorem ciO_1 {t tb : Tr} {w0 : World} {A0 : Act} {X Y : Value} {L L' : Nat → Prop} {a : Act} {w w' : World} {r : Value} (h : CIO t tb w0 A0 X Y L a w) (hL : ∀ j, L' j → L j ∨ j = 1) (hs : 30 < a.tmps.size) (hst : ¬ L 6) (F : Fr nob w w') (hr : TrV w' (fun b => w.heap.size ≤ b) t r) : CIO t tb w0 A0 X Y L' (a.put (some 30) r) w' := by
  have hp := h.pb
  have hq := h.qb
  have hcs : ∀ b, CSO w0 a b → CSO w0 (a.put (some 30) r) b := fun b hb => ⟨hb.1, by rw [put_ne (by decide)]; exact hb.2.1, by rw [put_ne (by decide)]; exact hb.2.2⟩
  have hcn : ∀ b, w.heap.size ≤ b → CSO w0 (a.put (some 30) r) b := fun b hb => ⟨Nat.le_trans h.fr.size hb, by rw [put_ne (by decide)]; exact fun e => absurd (hp b e) (by omega), by rw [put_ne (by decide)]; exact fun e => absurd (hq b e) (by omega)⟩
  have no : ∀ j, j ≠ 1 → L' j → L j := fun j hj h' => (hL j h').resolve_right hj
  refine ⟨put_df.trans h.df, put_sz.trans h.sz, fun u h1 h2 h3 h4 h5 h6 => by rw [put_ne (by assumption)]; exact h.ot u h1 h2 h3 h4 h5 h6, h.fr.trans F (fun _ _ h => h), ?_, ?_, ?_, ?_, ?_, ?_, ?_, ?_, ?_⟩
  · intro h'; rw [put_ne (by decide)]; exact h.x (no 0 (by decide) h')
  · intro h'; rw [put_ne (by decide)]; exact h.y (no 2 (by decide) h')
  · intro _; exact ⟨r, put_eq hs, hr.kept (Fr.refl nob w') (fun b hb _ => ⟨fun h => h, hcn b hb⟩)⟩
  · intro h'; obtain ⟨v, h1, h2⟩ := h.u (no 3 (by decide) h'); exact ⟨v, by rw [put_ne (by decide)]; exact h1, h2.kept F (fun b hb _ => ⟨fun h => h, hcs b hb⟩)⟩
  · intro h'; obtain ⟨b, x, y, z, h1, h2, h3, _⟩ := h.p (no 4 (by decide) h'); exact ⟨b, x, y, z, by rw [put_ne (by decide)]; exact h1, h2, h3.kept F (fun h => h), fun h6 => absurd (no 6 (by decide) h6) hst⟩
  · intro h'; obtain ⟨b, x, y, z, h1, h2, h3, h4⟩ := h.q (no 5 (by decide) h'); exact ⟨b, x, y, z, by rw [put_ne (by decide)]; exact h1, h2, h3.kept F (fun h => h), fun h6 => by rw [put_ne (by decide)]; exact h4 (no 7 (by decide) h6)⟩
  · intro h4 h5; rw [put_ne (by decide), put_ne (by decide)]; exact h.ne (no 4 (by decide) h4) (no 5 (by decide) h5)
  · intro b; rw [put_ne (by decide)]; exact fun e => Nat.lt_of_lt_of_le (h.pb b e) F.size
  · intro b; rw [put_ne (by decide)]; exact fun e => Nat.lt_of_lt_of_le (h.qb b e) F.size
theorem ciO_3 {t tb : Tr} {w0 : World} {A0 : Act} {X Y : Value} {L L' : Nat → Prop} {a : Act} {w w' : World} {r : Value} (h : CIO t tb w0 A0 X Y L a w) (hL : ∀ j, L' j → L j ∨ j = 3) (hs : 32 < a.tmps.size) (hst : ¬ L 7) (F : Fr nob w w') (hr : TrV w' (fun b => w.heap.size ≤ b) tb r) : CIO t tb w0 A0 X Y L' (a.put (some 32) r) w' := by
  have hp := h.pb
  have hq := h.qb
  have hcs : ∀ b, CSO w0 a b → CSO w0 (a.put (some 32) r) b := fun b hb => ⟨hb.1, by rw [put_ne (by decide)]; exact hb.2.1, by rw [put_ne (by decide)]; exact hb.2.2⟩
  have hcn : ∀ b, w.heap.size ≤ b → CSO w0 (a.put (some 32) r) b := fun b hb => ⟨Nat.le_trans h.fr.size hb, by rw [put_ne (by decide)]; exact fun e => absurd (hp b e) (by omega), by rw [put_ne (by decide)]; exact fun e => absurd (hq b e) (by omega)⟩
  have no : ∀ j, j ≠ 3 → L' j → L j := fun j hj h' => (hL j h').resolve_right hj
  refine ⟨put_df.trans h.df, put_sz.trans h.sz, fun u h1 h2 h3 h4 h5 h6 => by rw [put_ne (by assumption)]; exact h.ot u h1 h2 h3 h4 h5 h6, h.fr.trans F (fun _ _ h => h), ?_, ?_, ?_, ?_, ?_, ?_, ?_, ?_, ?_⟩
  · intro h'; rw [put_ne (by decide)]; exact h.x (no 0 (by decide) h')
  · intro h'; rw [put_ne (by decide)]; exact h.y (no 2 (by decide) h')
  · intro h'; obtain ⟨v, h1, h2⟩ := h.v (no 1 (by decide) h'); exact ⟨v, by rw [put_ne (by decide)]; exact h1, h2.kept F (fun b hb _ => ⟨fun h => h, hcs b hb⟩)⟩
  · intro _; exact ⟨r, put_eq hs, hr.kept (Fr.refl nob w') (fun b hb _ => ⟨fun h => h, hcn b hb⟩)⟩
  · intro h'; obtain ⟨b, x, y, z, h1, h2, h3, h4⟩ := h.p (no 4 (by decide) h'); exact ⟨b, x, y, z, by rw [put_ne (by decide)]; exact h1, h2, h3.kept F (fun h => h), fun h6 => by rw [put_ne (by decide)]; exact h4 (no 6 (by decide) h6)⟩
  · intro h'; obtain ⟨b, x, y, z, h1, h2, h3, _⟩ := h.q (no 5 (by decide) h'); exact ⟨b, x, y, z, by rw [put_ne (by decide)]; exact h1, h2, h3.kept F (fun h => h), fun h6 => absurd (no 7 (by decide) h6) hst⟩
  · intro h4 h5; rw [put_ne (by decide), put_ne (by decide)]; exact h.ne (no 4 (by decide) h4) (no 5 (by decide) h5)
  · intro b; rw [put_ne (by decide)]; exact fun e => Nat.lt_of_lt_of_le (h.pb b e) F.size
  · intro b; rw [put_ne (by decide)]; exact fun e => Nat.lt_of_lt_of_le (h.qb b e) F.size
theorem ciO_4 {t tb : Tr} {w0 : World} {A0 : Act} {X Y : Value} {L L' : Nat → Prop} {a : Act} {w : World} (h : CIO t tb w0 A0 X Y L a w) (hL : ∀ j, L' j → L j ∨ j = 4) (hs : 5 < a.tmps.size) (hst : ¬ L 6) : CIO t tb w0 A0 X Y L' (a.put (some 5) (pt w.heap.size)) (w.alloc (.cells #[.int .u8 0, .string ⟨#[]⟩, .slice none 0 0] 25)) := by
  have F : Fr nob w (w.alloc (.cells #[.int .u8 0, .string ⟨#[]⟩, .slice none 0 0] 25)) := (Fr.refl nob w).alloc _
  have hz : (w.alloc (.cells #[.int .u8 0, .string ⟨#[]⟩, .slice none 0 0] 25)).heap.size = w.heap.size + 1 := by simp
  have ho := h.qb
  have hcs : ∀ b, CSO w0 a b → b < w.heap.size → CSO w0 (a.put (some 5) (pt w.heap.size)) b := fun b hb hlt => ⟨hb.1, by rw [put_eq hs]; intro e; have := pt_inj (Option.some.inj e); omega, by rw [put_ne (by decide)]; exact hb.2.2⟩
  have no : ∀ j, j ≠ 4 → L' j → L j := fun j hj h' => (hL j h').resolve_right hj
  refine ⟨put_df.trans h.df, put_sz.trans h.sz, fun u h1 h2 h3 h4 h5 h6 => by rw [put_ne (by assumption)]; exact h.ot u h1 h2 h3 h4 h5 h6, h.fr.trans F (fun _ _ h => h), ?_, ?_, ?_, ?_, ?_, ?_, ?_, ?_, ?_⟩
  · intro h'; rw [put_ne (by decide)]; exact h.x (no 0 (by decide) h')
  · intro h'; rw [put_ne (by decide)]; exact h.y (no 2 (by decide) h')
  · intro h'; obtain ⟨v, h1, h2⟩ := h.v (no 1 (by decide) h'); exact ⟨v, by rw [put_ne (by decide)]; exact h1, h2.kept F (fun b hb hlt => ⟨fun h => h, hcs b hb hlt⟩)⟩
  · intro h'; obtain ⟨v, h1, h2⟩ := h.u (no 3 (by decide) h'); exact ⟨v, by rw [put_ne (by decide)]; exact h1, h2.kept F (fun b hb hlt => ⟨fun h => h, hcs b hb hlt⟩)⟩
  · intro _; exact ⟨_, _, _, _, put_eq hs, h.fr.size, Box3.new w _ _ _ _, fun h6 => absurd (no 6 (by decide) h6) hst⟩
  · intro h'; obtain ⟨b, x, y, z, h1, h2, h3, h4⟩ := h.q (no 5 (by decide) h'); exact ⟨b, x, y, z, by rw [put_ne (by decide)]; exact h1, h2, h3.kept F (fun h => h), fun h6 => by rw [put_ne (by decide)]; exact h4 (no 7 (by decide) h6)⟩
  · intro _ h5; rw [put_eq hs, put_ne (by decide)]; intro e; have := ho _ e.symm; omega
  · intro b e; rw [put_eq hs] at e; have := pt_inj (Option.some.inj e); omega
  · intro b; rw [put_ne (by decide)]; exact fun e => Nat.lt_of_lt_of_le (h.qb b e) F.size
theorem ciO_5 {t tb : Tr} {w0 : World} {A0 : Act} {X Y : Value} {L L' : Nat → Prop} {a : Act} {w : World} (h : CIO t tb w0 A0 X Y L a w) (hL : ∀ j, L' j → L j ∨ j = 5) (hs : 6 < a.tmps.size) (hst : ¬ L 7) : CIO t tb w0 A0 X Y L' (a.put (some 6) (pt w.heap.size)) (w.alloc (.cells #[.int .u8 0, .string ⟨#[]⟩, .slice none 0 0] 25)) := by
  have F : Fr nob w (w.alloc (.cells #[.int .u8 0, .string ⟨#[]⟩, .slice none 0 0] 25)) := (Fr.refl nob w).alloc _
  have hz : (w.alloc (.cells #[.int .u8 0, .string ⟨#[]⟩, .slice none 0 0] 25)).heap.size = w.heap.size + 1 := by simp
  have ho := h.pb
  have hcs : ∀ b, CSO w0 a b → b < w.heap.size → CSO w0 (a.put (some 6) (pt w.heap.size)) b := fun b hb hlt => ⟨hb.1, by rw [put_ne (by decide)]; exact hb.2.1, by rw [put_eq hs]; intro e; have := pt_inj (Option.some.inj e); omega⟩
  have no : ∀ j, j ≠ 5 → L' j → L j := fun j hj h' => (hL j h').resolve_right hj
  refine ⟨put_df.trans h.df, put_sz.trans h.sz, fun u h1 h2 h3 h4 h5 h6 => by rw [put_ne (by assumption)]; exact h.ot u h1 h2 h3 h4 h5 h6, h.fr.trans F (fun _ _ h => h), ?_, ?_, ?_, ?_, ?_, ?_, ?_, ?_, ?_⟩
  · intro h'; rw [put_ne (by decide)]; exact h.x (no 0 (by decide) h')
  · intro h'; rw [put_ne (by decide)]; exact h.y (no 2 (by decide) h')
  · intro h'; obtain ⟨v, h1, h2⟩ := h.v (no 1 (by decide) h'); exact ⟨v, by rw [put_ne (by decide)]; exact h1, h2.kept F (fun b hb hlt => ⟨fun h => h, hcs b hb hlt⟩)⟩
  · intro h'; obtain ⟨v, h1, h2⟩ := h.u (no 3 (by decide) h'); exact ⟨v, by rw [put_ne (by decide)]; exact h1, h2.kept F (fun b hb hlt => ⟨fun h => h, hcs b hb hlt⟩)⟩
  · intro h'; obtain ⟨b, x, y, z, h1, h2, h3, h4⟩ := h.p (no 4 (by decide) h'); exact ⟨b, x, y, z, by rw [put_ne (by decide)]; exact h1, h2, h3.kept F (fun h => h), fun h6 => by rw [put_ne (by decide)]; exact h4 (no 6 (by decide) h6)⟩
  · intro _; exact ⟨_, _, _, _, put_eq hs, h.fr.size, Box3.new w _ _ _ _, fun h6 => absurd (no 7 (by decide) h6) hst⟩
  · intro h4 _; rw [put_eq hs, put_ne (by decide)]; intro e; have := ho _ e; omega
  · intro b; rw [put_ne (by decide)]; exact fun e => Nat.lt_of_lt_of_le (h.pb b e) F.size
  · intro b e; rw [put_eq hs] at e; have := pt_inj (Option.some.inj e); omega
theorem ciO_6 {t tb : Tr} {w0 : World} {A0 : Act} {X Y : Value} {L L' : Nat → Prop} {a : Act} {w : World} {b : Nat} {x y z x' y' z' : Value} (h : CIO t tb w0 A0 X Y L a w) (hL : ∀ j, L' j → L j ∨ j = 6) (h4 : L 4) (h5 : L 5)
    (h1 : a.tmps[(5 : Nat)]? = some (pt b)) (h2 : w0.heap.size ≤ b) (hB : Box3 w b x y z) (hc : a.tmps[(30 : Nat)]? = some (.agg #[x', y', z'])) : CIO t tb w0 A0 X Y L' a (((w.setCell ⟨b, 0, none⟩ x').setCell ⟨b, 1, none⟩ y').setCell ⟨b, 2, none⟩ z') := by
  obtain ⟨XX, F⟩ := hB.set x' y' z'
  have no : ∀ j, j ≠ 6 → L' j → L j := fun j hj h' => (hL j h').resolve_right hj
  have hcs : ∀ k, CSO w0 a k → ¬ k = b := fun k hb e => hb.2.1 (by rw [e]; exact h1)
  refine ⟨h.df, h.sz, h.ot, h.fr.trans' (T := nob) F (fun _ _ h => h) (fun k hk (e : k = b) => absurd hk (by omega)), fun h' => h.x (no 0 (by decide) h'), fun h' => h.y (no 2 (by decide) h'), ?_, ?_, ?_, ?_, fun a1 a2 => h.ne (no 4 (by decide) a1) (no 5 (by decide) a2), fun k e => Nat.lt_of_lt_of_le (h.pb k e) F.size, fun k e => Nat.lt_of_lt_of_le (h.qb k e) F.size⟩
  · intro h'; obtain ⟨v, g1, g2⟩ := h.v (no 1 (by decide) h'); exact ⟨v, g1, g2.kept F (fun k hk _ => ⟨hcs k hk, hk⟩)⟩
  · intro h'; obtain ⟨v, g1, g2⟩ := h.u (no 3 (by decide) h'); exact ⟨v, g1, g2.kept F (fun k hk _ => ⟨hcs k hk, hk⟩)⟩
  · intro _; exact ⟨b, x', y', z', h1, h2, XX, fun _ => hc⟩
  · intro h'; obtain ⟨b2, x2, y2, z2, g1, g2, g3, g4⟩ := h.q (no 5 (by decide) h'); exact ⟨b2, x2, y2, z2, g1, g2, g3.kept F (fun e => h.ne h4 h5 (by rw [h1, g1, e])), fun h6 => g4 (no 7 (by decide) h6)⟩
theorem ciO_7 {t tb : Tr} {w0 : World} {A0 : Act} {X Y : Value} {L L' : Nat → Prop} {a : Act} {w : World} {b : Nat} {x y z x' y' z' : Value} (h : CIO t tb w0 A0 X Y L a w) (hL : ∀ j, L' j → L j ∨ j = 7) (h4 : L 4) (h5 : L 5)
    (h1 : a.tmps[(6 : Nat)]? = some (pt b)) (h2 : w0.heap.size ≤ b) (hB : Box3 w b x y z) (hc : a.tmps[(32 : Nat)]? = some (.agg #[x', y', z'])) : CIO t tb w0 A0 X Y L' a (((w.setCell ⟨b, 0, none⟩ x').setCell ⟨b, 1, none⟩ y').setCell ⟨b, 2, none⟩ z') := by
  obtain ⟨XX, F⟩ := hB.set x' y' z'
  have no : ∀ j, j ≠ 7 → L' j → L j := fun j hj h' => (hL j h').resolve_right hj
  have hcs : ∀ k, CSO w0 a k → ¬ k = b := fun k hb e => hb.2.2 (by rw [e]; exact h1)
  refine ⟨h.df, h.sz, h.ot, h.fr.trans' (T := nob) F (fun _ _ h => h) (fun k hk (e : k = b) => absurd hk (by omega)), fun h' => h.x (no 0 (by decide) h'), fun h' => h.y (no 2 (by decide) h'), ?_, ?_, ?_, ?_, fun a1 a2 => h.ne (no 4 (by decide) a1) (no 5 (by decide) a2), fun k e => Nat.lt_of_lt_of_le (h.pb k e) F.size, fun k e => Nat.lt_of_lt_of_le (h.qb k e) F.size⟩
  · intro h'; obtain ⟨v, g1, g2⟩ := h.v (no 1 (by decide) h'); exact ⟨v, g1, g2.kept F (fun k hk _ => ⟨hcs k hk, hk⟩)⟩
  · intro h'; obtain ⟨v, g1, g2⟩ := h.u (no 3 (by decide) h'); exact ⟨v, g1, g2.kept F (fun k hk _ => ⟨hcs k hk, hk⟩)⟩
  · intro h'; obtain ⟨b2, x2, y2, z2, g1, g2, g3, g4⟩ := h.p (no 4 (by decide) h'); exact ⟨b2, x2, y2, z2, g1, g2, g3.kept F (fun e => h.ne h4 h5 (by rw [h1, g1, e])), fun h6 => g4 (no 6 (by decide) h6)⟩
  · intro _; exact ⟨b, x', y', z', h1, h2, XX, fun _ => hc⟩
theorem actO {t tb : Tr} {w0 : World} {A0 : Act} {X Y V U B C : Value} {L : Nat → Prop} {a : Act} {w : World} (h : CIO t tb w0 A0 X Y L a w) (h1 : a.tmps[(29 : Nat)]? = some X) (h2 : a.tmps[(30 : Nat)]? = some V) (h3 : a.tmps[(31 : Nat)]? = some Y) (h4 : a.tmps[(32 : Nat)]? = some U) (h5 : a.tmps[(5 : Nat)]? = some B) (h6 : a.tmps[(6 : Nat)]? = some C) :
    a = (((((A0.put (some 29) X).put (some 30) V).put (some 31) Y).put (some 32) U).put (some 5) B).put (some 6) C := by
  have hlt : ∀ (j : Nat) (v : Value), a.tmps[j]? = some v → j < A0.tmps.size := fun j v e => by rw [← h.sz]; exact (Array.getElem?_eq_some_iff.1 e).1
  have hd : a.defers = ((((((A0.put (some 29) X).put (some 30) V).put (some 31) Y).put (some 32) U).put (some 5) B).put (some 6) C).defers := by simp only [put_df]; exact h.df
  have ht : a.tmps = ((((((A0.put (some 29) X).put (some 30) V).put (some 31) Y).put (some 32) U).put (some 5) B).put (some 6) C).tmps := by
    apply Array.ext_getElem?
    intro u
    by_cases e6 : u = 6
    · subst e6; rw [put_eq (by simp only [put_sz]; exact hlt _ _ h6)]; exact h6
    rw [put_ne e6]
    by_cases e5 : u = 5
    · subst e5; rw [put_eq (by simp only [put_sz]; exact hlt _ _ h5)]; exact h5
    rw [put_ne e5]
    by_cases e4 : u = 32
    · subst e4; rw [put_eq (by simp only [put_sz]; exact hlt _ _ h4)]; exact h4
    rw [put_ne e4]
    by_cases e3 : u = 31
    · subst e3; rw [put_eq (by simp only [put_sz]; exact hlt _ _ h3)]; exact h3
    rw [put_ne e3]
    by_cases e2 : u = 30
    · subst e2; rw [put_eq (by simp only [put_sz]; exact hlt _ _ h2)]; exact h2
    rw [put_ne e2]
    by_cases e1 : u = 29
    · subst e1; rw [put_eq (hlt _ _ h1)]; exact h1
    rw [put_ne e1]
    exact h.ot u e1 e2 e3 e4 e5 e6
  cases a
  simp only at hd ht
  rw [hd, ht]
end Go.Proofs.Ytbiheajnmjbdoaa
/- FormulaOwn's walk. -/
namespace Go.Proofs.Ytbiheajnmjbdoaa
open Go.RowKit

mutual
theorem sp_wide : ∀ {t : Tr}, wide t = true → (∀ u ∈ preP t, (nmT2 u).length ≤ 100) → wide (addx (spP t)) = true
  | .mk op nm kids, h, hn => by
    rw [preP] at hn
    rw [wide, Bool.and_eq_true, Bool.and_eq_true, decide_eq_true_iff, decide_eq_true_iff] at h
    rw [spP, addx, wide, Bool.and_eq_true, Bool.and_eq_true, decide_eq_true_iff, decide_eq_true_iff]
    have h1 : nm.length ≤ 100 := hn _ List.mem_cons_self
    refine ⟨⟨by rw [List.length_append, List.length_singleton]; omega, ?_⟩, spL_wide h.2 fun u hu => hn u (List.mem_cons_of_mem _ hu)⟩
    rw [spL_map, List.length_map]; exact h.1.2
theorem spL_wide : ∀ {ts : List Tr}, wideL ts = true → (∀ u ∈ preL ts, (nmT2 u).length ≤ 100) → wideL (spL ts) = true
  | [], _, _ => by rw [spL, wideL]
  | t :: ts, h, hn => by
    rw [preL] at hn
    rw [wideL, Bool.and_eq_true] at h
    rw [spL, wideL, Bool.and_eq_true]
    exact ⟨sp_wide h.1 fun u hu => hn u (List.mem_append_left _ hu), spL_wide h.2 fun u hu => hn u (List.mem_append_right _ hu)⟩
end
set_option maxHeartbeats 8000000 in
set_option maxRecDepth 20000 in
theorem owns_any (t tb : Tr) (v vb : Value) (w : World) (hw : wide t = true) (hwb : wide tb = true) (hT : TrO w (fun b => b < w.heap.size) t v) (hTb : TrO w (fun b => b < w.heap.size) tb vb) :
    Calls Try.prog 8 #[v, vb] w fun e w' => e = .returned (.bool true) ∧ Fr nob w w' := by
  obtain ⟨op, nm, a, nk, cp, rfl⟩ := hT.form
  obtain ⟨ob, nmb, ab, nb, cb, rfl⟩ := hTb.form
  obtain ⟨W1, hW1⟩ : ∃ W1, (w.alloc (.cells #[.int .u8 (op : Int), .string (txt nm), .slice a nk cp] 25)).alloc (.cells #[.int .u8 (ob : Int), .string (txt nmb), .slice ab nb cb] 25) = W1 := ⟨_, rfl⟩
  have A1 : Fr nob w W1 := by rw [← hW1]; exact ((Fr.refl nob w).alloc _).alloc _
  have hbx : Box3 W1 w.heap.size (.int .u8 (op : Int)) (.string (txt nm)) (.slice a nk cp) := by
    rw [← hW1]; exact (Box3.new w _ _ _ _).kept ((Fr.refl nob _).alloc _) (fun h => h)
  have hby : Box3 W1 (w.heap.size + 1) (.int .u8 (ob : Int)) (.string (txt nmb)) (.slice ab nb cb) := by
    have h := Box3.new (w.alloc (.cells #[.int .u8 (op : Int), .string (txt nm), .slice a nk cp] 25)) (.int .u8 (ob : Int)) (.string (txt nmb)) (.slice ab nb cb) 25
    rw [hW1, World.size_alloc] at h; exact h
  have hT1 := hT.kept (T := fun b => b < w.heap.size) A1 (fun b h _ => ⟨fun h => h, h⟩)
  have hTb1 := hTb.kept (T := fun b => b < w.heap.size) A1 (fun b h _ => ⟨fun h => h, h⟩)
  have hG : Calls Try.prog 14 #[.agg #[.int .u8 (op : Int), .string (txt nm), .slice a nk cp], .int .i64 60] _ _ := great_any t _ _ W1 60 (by decide) hw hT1
  have HW := Lib.hid wakes_any
  have HWD := Lib.hid hw
  have HWDB := Lib.hid hwb
  have HT1 := Lib.hid hT1
  have HTB1 := Lib.hid hTb1
  have HBX := Lib.hid hbx
  have HBY := Lib.hid hby
  have HF1 := Lib.hid A1
  have ⟨b0, b1, b2, _⟩ := hbx
  clear hT hTb A1 hbx hby hT1 hTb1 hw hwb
  go_enter Try.func8, Try.ntmps8
  go_upto_region 1 with fail
  (try rw [hW1])
  clear hW1
  cases hgr : greatB t 60 with
  | true =>
    rw [hgr] at hG
    go_wp2_with (first | (go_at_call 14; with_reducible refine hG.mono ?_; rintro e w2 ⟨rfl, F2⟩) | (go_at_call 10; refine (HW.out _).mono ?_; rintro e w3 ⟨rfl, F3⟩) | fail)
    go_ret
    exact ⟨rfl, (HF1.out.trans F2 (fun _ _ h => h)).trans F3 (fun _ _ h => h)⟩
  | false =>
    rw [hgr] at hG
    have HM := Lib.hid (mild_of hgr)
    clear hgr
    go_wp2_with fail
    with_reducible refine hG.mono ?_
    rintro e w2 ⟨rfl, F2⟩
    have F2' := HF1.out.trans F2 (fun _ _ h => h)
    have HBX2 := Lib.hid (HBX.out.kept F2 (fun h => h))
    have HBY2 := Lib.hid (HBY.out.kept F2 (fun h => h))
    have HT2 := Lib.hid (HT1.out.kept (T := fun b => b < w.heap.size) F2 (fun b h _ => ⟨fun h => h, h⟩))
    have hTb2 := HTB1.out.kept (T := fun b => b < w.heap.size) F2 (fun b h _ => ⟨fun h => h, h⟩)
    have HTB2 := Lib.hid hTb2
    have HF2 := Lib.hid F2'
    have hGb : Calls Try.prog 14 #[.agg #[.int .u8 (ob : Int), .string (txt nmb), .slice ab nb cb], .int .i64 60] _ _ := great_any tb _ _ w2 60 (by decide) HWDB.out hTb2
    have ⟨y0, y1, y2, _⟩ := HBY2.out
    clear F2 F2' hG b0 b1 b2 HBX HBY HT1 HTB1 HF1 hTb2
    cases hgb : greatB tb 60 with
    | true =>
      rw [hgb] at hGb
      go_wp2_with (first | (go_at_call 14; with_reducible refine hGb.mono ?_; rintro e w3 ⟨rfl, F3⟩) | (go_at_call 10; refine (HW.out _).mono ?_; rintro e w4 ⟨rfl, F4⟩) | fail)
      go_ret
      exact ⟨rfl, (HF2.out.trans F3 (fun _ _ h => h)).trans F4 (fun _ _ h => h)⟩
    | false =>
      rw [hgb] at hGb
      have HMB := Lib.hid (mild_of hgb)
      clear hgb
      go_wp2_with fail
      with_reducible refine hGb.mono ?_
      rintro e w3 ⟨rfl, F3⟩
      have HBX3 := Lib.hid (HBX2.out.kept F3 (fun h => h))
      have HBY3 := Lib.hid (HBY2.out.kept F3 (fun h => h))
      have HT3 := Lib.hid (HT2.out.kept (T := fun b => b < w.heap.size) F3 (fun b h _ => ⟨fun h => h, h⟩))
      have HTB3 := Lib.hid (HTB2.out.kept (T := fun b => b < w.heap.size) F3 (fun b h _ => ⟨fun h => h, h⟩))
      have HF3 := Lib.hid (HF2.out.trans F3 (fun _ _ h => h))
      clear F3 hGb y0 y1 y2 HBX2 HBY2 HT2 HTB2 HF2
      have ⟨b0, b1, b2, _⟩ := HBX3.out
      have hz3 := HF3.out.size
      have hR := row_any2 _ t (Nat.lt_succ_self _) _ (fun b => b < w.heap.size) w3 HWD.out (by have := HM.out.len; omega) (fun b h => by have h : b < w.heap.size := h; omega) HT3.out
      clear hz3
      obtain ⟨nT, hnT⟩ : ∃ nT, (preP t).length = nT := ⟨_, rfl⟩
      unfold RowPost at hR
      rw [hnT] at hR
      rcases Nat.lt_or_ge 30 nT with hc | hc
      · have q1 : (30 : Int) < (nT : Int) := by omega
        clear hc hnT
        go_wp2_with fail
        with_reducible refine hR.mono ?_
        rintro e w4 ⟨g4, cap4, cells4, rfl, _, _, F4⟩
        have HF4 := Lib.hid (HF3.out.trans F4 (fun _ _ h => h))
        clear F4 hR b0 b1 b2
        go_wp2_with (first | (go_at_call 10; refine (HW.out _).mono ?_; rintro e w5 ⟨rfl, F5⟩) | fail)
        go_ret
        exact ⟨rfl, HF4.out.trans F5 (fun _ _ h => h)⟩
      have q1 : ¬ (30 : Int) < (nT : Int) := by omega
      have HNT : Hid ((preP t).length ≤ 30) := Lib.hid (by omega)
      clear hc hnT
      go_wp2_with fail
      with_reducible refine hR.mono ?_
      rintro e wq ⟨gq, capq, cellsq, rfl, _, _, Fq⟩
      have hFq := HF3.out.trans Fq (fun _ _ h => h)
      have hzq := hFq.size
      have ⟨y0, y1, y2, _⟩ := HBY3.out.kept Fq (fun h => h)
      have hR2 := row_any2 _ tb (Nat.lt_succ_self _) _ (fun b => b < w.heap.size) wq HWDB.out (by have := HMB.out.len; omega) (fun b h => by have h : b < w.heap.size := h; omega) (HTB3.out.kept (T := fun b => b < w.heap.size) Fq (fun b h _ => ⟨fun h => h, h⟩))
      obtain ⟨nB, hnB⟩ : ∃ nB, (preP tb).length = nB := ⟨_, rfl⟩
      unfold RowPost at hR2
      rw [hnB] at hR2
      have HFq := Lib.hid Fq
      clear hzq hFq Fq hR b0 b1 b2
      rcases Nat.lt_or_ge 30 nB with hc | hc
      · have q2 : (30 : Int) < (nB : Int) := by omega
        clear hc hnB
        go_wp2_with fail
        with_reducible refine hR2.mono ?_
        rintro e w4 ⟨g4, cap4, cells4, rfl, _, _, F4⟩
        have HF4 := Lib.hid ((HF3.out.trans HFq.out (fun _ _ h => h)).trans F4 (fun _ _ h => h))
        clear F4 hR2 y0 y1 y2
        go_wp2_with (first | (go_at_call 10; refine (HW.out _).mono ?_; rintro e w5 ⟨rfl, F5⟩) | fail)
        go_ret
        exact ⟨rfl, HF4.out.trans F5 (fun _ _ h => h)⟩
      have q2 : ¬ (30 : Int) < (nB : Int) := by omega
      clear hc hnB
      have HOR : Hid ((preP t).length ≤ 100 ∨ (preP tb).length ≤ 100) := Lib.hid (.inl (by have := HNT.out; omega))
      go_upto_region 3 with (first | (go_at_call 23; with_reducible refine hR2.mono ?_; rintro e w4 ⟨g4, cap4, cells4, rfl, _, _, Fr4⟩) | fail)
      have F4 := HFq.out.trans Fr4 (fun _ _ h => h)
      clear q1 q2 HFq Fr4 hR2 y0 y1 y2 HNT
      have hF4 := HF3.out.trans F4 (fun _ _ h => h)
      have HBX4 := Lib.hid (HBX3.out.kept F4 (fun h => h))
      have HBY4 := Lib.hid (HBY3.out.kept F4 (fun h => h))
      have HT4 := Lib.hid (HT3.out.kept (T := fun b => b < w.heap.size) F4 (fun b h _ => ⟨fun h => h, h⟩))
      have HTB4 := Lib.hid (HTB3.out.kept (T := fun b => b < w.heap.size) F4 (fun b h _ => ⟨fun h => h, h⟩))
      have HF4 := Lib.hid hF4
      clear F4 hF4 HBX3 HBY3 HT3 HTB3 HF3
      refine wp_region_inv' (by kernel_rfl) (by kernel_rfl) (fun A0 W0 listed a' w' => CIO t tb W0.drew A0 (.agg #[.int .u8 (op : Int), .string (txt nm), .slice a nk cp]) (.agg #[.int .u8 (ob : Int), .string (txt nmb), .slice ab nb cb]) (LB listed) a' w' ∧ Cl listed) ?_ ?_ ?_
      · refine ⟨⟨rfl, rfl, fun u _ _ _ _ _ _ => rfl, Fr.refl _ _, ?_, ?_, ?_, ?_, ?_, ?_, ?_, ?_, ?_⟩, ?_, ?_⟩
        all_goals first | (intro h; exact absurd h (by simp [LB])) | (intro b h; cases h)
      · intro listed a' w' i hI hi
        obtain ⟨hI, hCl⟩ := hI
        obtain ⟨h0, o, ho, hall⟩ := mem_ready.1 hi
        have hlt : i < 8 := (Array.getElem?_eq_some_iff.1 ho).1
        have hsz : a'.tmps.size = 64 := hI.sz.trans rfl
        have hA3 : a'.tmps[(2 : Nat)]? = some (pt w.heap.size) := (hI.ot 2 (by decide) (by decide) (by decide) (by decide) (by decide) (by decide)).trans rfl
        have hA5 : a'.tmps[(3 : Nat)]? = some (pt (w.heap.size + 1)) := (hI.ot 3 (by decide) (by decide) (by decide) (by decide) (by decide) (by decide)).trans rfl
        have hFr : Fr nob w4 w' := ((Fr.refl nob w4).drew).trans hI.fr (fun _ _ h => h)
        have hX := HBX4.out.kept hFr (fun h => h)
        have hY := HBY4.out.kept hFr (fun h => h)
        have hszw := (HF4.out.trans hFr (fun _ _ h => h)).size
        have hTt := HT4.out.kept (T := fun b => b < w.heap.size) hFr (fun b h _ => ⟨fun h => h, h⟩)
        have hTtb := HTB4.out.kept (T := fun b => b < w.heap.size) hFr (fun b h _ => ⟨fun h => h, h⟩)
        rcases (show i = 0 ∨ i = 1 ∨ i = 2 ∨ i = 3 ∨ i = 4 ∨ i = 5 ∨ i = 6 ∨ i = 7 by omega) with rfl | rfl | rfl | rfl | rfl | rfl | rfl | rfl
        all_goals (obtain rfl := Option.some.inj ho)
        · refine inv_val rfl rfl (load3 2 29 _ a' w' _ _ _ _ _ (getD_of hA3) ⟨_, rfl⟩ ⟨_, rfl⟩ ⟨_, _, _, rfl⟩ hX.c0 hX.c1 hX.c2) ⟨ciO_0 hI LB.dn (by omega), hCl.set (fun e => by cases e) (fun e => by cases e)⟩
        · have L0 : LB listed 0 := hall ⟨0, .data⟩ (by simp) rfl
          refine inv_call rfl rfl (call1 29 30 _ a' w' _ _ (getD_of (hI.x L0))) ?_
          refine (cop_any _ t (Nat.lt_succ_self _) _ (fun b => b < w.heap.size) w' HWD.out (by have := HM.out.len; omega) (fun b h => by have h : b < w.heap.size := h; omega) hTt).mono ?_
          rintro e w5 ⟨v5, rfl, hT5, F5⟩
          exact ⟨v5, rfl, ciO_1 hI LB.dn (by omega) (fun h => LB.not h0 (hCl.1 h).1) F5 hT5, hCl.set (fun e => by cases e) (fun e => by cases e)⟩
        · refine inv_val rfl rfl (load3 3 31 _ a' w' _ _ _ _ _ (getD_of hA5) ⟨_, rfl⟩ ⟨_, rfl⟩ ⟨_, _, _, rfl⟩ hY.c0 hY.c1 hY.c2) ⟨ciO_2 hI LB.dn (by omega), hCl.set (fun e => by cases e) (fun e => by cases e)⟩
        · have L2 : LB listed 2 := hall ⟨2, .data⟩ (by simp) rfl
          refine inv_call rfl rfl (call1 31 32 _ a' w' _ _ (getD_of (hI.y L2))) ?_
          refine (cop_any _ tb (Nat.lt_succ_self _) _ (fun b => b < w.heap.size) w' HWDB.out (by have := HMB.out.len; omega) (fun b h => by have h : b < w.heap.size := h; omega) hTtb).mono ?_
          rintro e w5 ⟨v5, rfl, hT5, F5⟩
          exact ⟨v5, rfl, ciO_3 hI LB.dn (by omega) (fun h => LB.not h0 (hCl.2 h).2.1) F5 hT5, hCl.set (fun e => by cases e) (fun e => by cases e)⟩
        · exact inv_val rfl rfl (alloc3 5 _ a' w' _) ⟨ciO_4 hI LB.dn (by omega) (fun h => LB.not h0 (hCl.1 h).2.2.1), hCl.set (fun e => by cases e) (fun e => by cases e)⟩
        · exact inv_val rfl rfl (alloc3 6 _ a' w' _) ⟨ciO_5 hI LB.dn (by omega) (fun h => LB.not h0 (hCl.2 h).2.2.2), hCl.set (fun e => by cases e) (fun e => by cases e)⟩
        · have L4 : LB listed 4 := hall ⟨4, .data⟩ (by simp) rfl
          have L1 : LB listed 1 := hall ⟨1, .data⟩ (by simp) rfl
          have L3 : LB listed 3 := hall ⟨3, .chain⟩ (by simp) rfl
          have L5 : LB listed 5 := hall ⟨5, .phase⟩ (by simp) rfl
          obtain ⟨b, x, y, z, h1, h2, h3, _⟩ := hI.p L4
          obtain ⟨v5, g1, g2⟩ := hI.v L1
          obtain ⟨o5, nm5, a5, n5, c5, rfl⟩ := g2.form
          exact inv_skip rfl rfl rfl (store3 5 30 _ a' w' b x y z _ _ _ _ (getD_of h1) (getD_of g1) ⟨_, rfl⟩ ⟨_, rfl⟩ ⟨_, _, _, rfl⟩ h3) ⟨ciO_6 hI LB.dn L4 L5 h1 h2 h3 g1, hCl.set (fun _ => ⟨L1, L3, L4, L5⟩) (fun e => by cases e)⟩
        · have L5 : LB listed 5 := hall ⟨5, .data⟩ (by simp) rfl
          have L3 : LB listed 3 := hall ⟨3, .data⟩ (by simp) rfl
          have L6 : LB listed 6 := hall ⟨6, .chain⟩ (by simp) rfl
          obtain ⟨L1, _, L4, _⟩ := hCl.1 L6
          obtain ⟨b, x, y, z, h1, h2, h3, _⟩ := hI.q L5
          obtain ⟨v5, g1, g2⟩ := hI.u L3
          obtain ⟨o5, nm5, a5, n5, c5, rfl⟩ := g2.form
          exact inv_skip rfl rfl rfl (store3 6 32 _ a' w' b x y z _ _ _ _ (getD_of h1) (getD_of g1) ⟨_, rfl⟩ ⟨_, rfl⟩ ⟨_, _, _, rfl⟩ h3) ⟨ciO_7 hI LB.dn L4 L5 h1 h2 h3 g1, hCl.set (fun e => by cases e) (fun _ => ⟨L1, L3, L4, L5⟩)⟩
      · intro listed a' w5 hI hall
        obtain ⟨hI, _⟩ := hI
        have L : ∀ j, j < 8 → LB listed j := fun j hj => hall j hj
        obtain ⟨b7, x7, y7, z7, h1, h2, h3, h4⟩ := hI.p (L 4 (by decide))
        obtain ⟨b8, x8, y8, z8, k1, k2, k3, k4⟩ := hI.q (L 5 (by decide))
        obtain ⟨v5, g1, g2⟩ := hI.v (L 1 (by decide))
        obtain ⟨u5, j1, j2⟩ := hI.u (L 3 (by decide))
        have e1 := h4 (L 6 (by decide))
        have e2 := k4 (L 7 (by decide))
        rw [g1] at e1
        rw [j1] at e2
        obtain rfl := Option.some.inj e1
        obtain rfl := Option.some.inj e2
        have ha := actO hI (hI.x (L 0 (by decide))) g1 (hI.y (L 2 (by decide))) j1 h1 k1
        have hFr : Fr nob w4 w5 := ((Fr.refl nob w4).drew).trans hI.fr (fun _ _ h => h)
        have hlt8 := k3.lt
        have hlt7 := h3.lt
        obtain ⟨o7, nm7, a7, n7, c7, hform7⟩ := g2.form
        obtain ⟨rfl, rfl, rfl⟩ : x7 = .int .u8 (o7 : Int) ∧ y7 = .string (txt nm7) ∧ z7 = .slice a7 n7 c7 := by simpa using hform7
        obtain ⟨o8, nm8, a8, n8, c8, hform8⟩ := j2.form
        obtain ⟨rfl, rfl, rfl⟩ : x8 = .int .u8 (o8 : Int) ∧ y8 = .string (txt nm8) ∧ z8 = .slice a8 n8 c8 := by simpa using hform8
        have HX5 := Lib.hid (HBX4.out.kept hFr (fun h => h))
        have HY5 := Lib.hid (HBY4.out.kept hFr (fun h => h))
        have HT5 := Lib.hid (HT4.out.kept (T := fun b => b < w.heap.size) hFr (fun b h _ => ⟨fun h => h, h⟩))
        have HTB5 := Lib.hid (HTB4.out.kept (T := fun b => b < w.heap.size) hFr (fun b h _ => ⟨fun h => h, h⟩))
        have HF5 := Lib.hid (HF4.out.trans hFr (fun _ _ h => h))
        have HP5 := Lib.hid h3
        have HQ5 := Lib.hid k3
        have HV5 := Lib.hid (g2.toO.kept (T := fun b => b < w5.heap.size) (Fr.refl nob w5) (fun b _ h' => ⟨fun h => h, h'⟩))
        have HU5 := Lib.hid (j2.toO.kept (T := fun b => b < w5.heap.size) (Fr.refl nob w5) (fun b _ h' => ⟨fun h => h, h'⟩))
        have HGE := Lib.hid (And.intro h2 k2)
        clear hI L hall h1 h2 h3 h4 k1 k2 k3 k4 g1 g2 j1 j2 e1 e2 hFr hform7 hform8 hlt7 hlt8 HBX4 HBY4 HT4 HTB4 HF4
        subst ha
        simp only [Act.put, List.setIfInBounds_toArray, List.set_cons_succ, List.set_cons_zero]
        simp only [pt] at *
        have HMR := Lib.hid (rep_mod (s := [97]) HM.out HMB.out HOR.out)
        have ⟨p0, p1, p2, _⟩ := HP5.out
        have ⟨q3, q4, q5, _⟩ := HQ5.out
        have hRv : Calls Try.prog 26 #[.agg #[.int .u8 (o7 : Int), .string (txt nm7), .slice a7 n7 c7], .string ⟨#[97]⟩, .agg #[.int .u8 (o8 : Int), .string (txt nm8), .slice a8 n8 c8]] w5 _ := replace_any [97] t tb _ _ (fun b => b < w5.heap.size) w5 (by decide) HM.out.mod HMB.out.mod HMR.out (fun b h => h) HV5.out HU5.out
        obtain ⟨r1, r2, hrv⟩ : ∃ r1 r2, rvP [97] t tb = (r1, r2) := ⟨_, _, rfl⟩
        rw [hrv] at hRv
        unfold RvPost at hRv
        have HRV := Lib.hid hrv
        clear hrv
        go_wp2_with fail
        refine hRv.mono ?_
        rintro e w6 ⟨v6, rfl, hT6, F6⟩
        obtain ⟨o6, nm6, a6, n6, c6, hform⟩ := hT6.form
        subst hform
        have A7 : Fr nob w6 (w6.alloc (.cells #[.int .u8 (o6 : Int), .string (txt nm6), .slice a6 n6 c6] 25)) := (Fr.refl nob w6).alloc _
        have G7 := F6.trans A7 (fun _ _ h => h)
        have HN7 := Lib.hid (Box3.new w6 (.int .u8 (o6 : Int)) (.string (txt nm6)) (.slice a6 n6 c6) 25)
        have HS7 := Lib.hid (hT6.kept A7 (fun b h => h.elim) (Nat.le_refl _) (Nat.le_refl _))
        have hz6 := F6.size
        have hz7 := HN7.out.lt
        have HZ7 : Hid (w5.heap.size ≤ w6.heap.size ∧ w6.heap.size < (w6.alloc (.cells #[.int .u8 (o6 : Int), .string (txt nm6), .slice a6 n6 c6] 25)).heap.size) := Lib.hid ⟨hz6, hz7⟩
        have HLT := Lib.hid (And.intro HX5.out.lt (And.intro HY5.out.lt (And.intro HP5.out.lt HQ5.out.lt)))
        clear hz6 hz7
        have HM7 := Lib.hid (hT6.toV.toO.kept (T := fun b => b < w6.heap.size) A7 (fun b h _ => ⟨fun h => h, h.2⟩))
        have HX7 := Lib.hid (HX5.out.kept G7 (fun h => h))
        have HY7 := Lib.hid (HY5.out.kept G7 (fun h => h))
        have HP7 := Lib.hid (HP5.out.kept G7 (fun h => h))
        have HQ7 := Lib.hid (HQ5.out.kept G7 (fun h => h))
        have HT7 := Lib.hid (HT5.out.kept (T := fun b => b < w.heap.size) G7 (fun b h _ => ⟨fun h => h, h⟩))
        have HTB7 := Lib.hid (HTB5.out.kept (T := fun b => b < w.heap.size) G7 (fun b h _ => ⟨fun h => h, h⟩))
        have HV7 := Lib.hid (HV5.out.kept (T := fun b => b < w5.heap.size) G7 (fun b h _ => ⟨fun h => h, h⟩))
        have HU7 := Lib.hid (HU5.out.kept (T := fun b => b < w5.heap.size) G7 (fun b h _ => ⟨fun h => h, h⟩))
        have HF7 := Lib.hid (HF5.out.trans G7 (fun _ _ h => h))
        clear hRv hT6 F6 A7 G7 p0 p1 p2 q3 q4 q5 HX5 HY5 HP5 HQ5 HT5 HTB5 HV5 HU5 HF5 HGE
        go_upto_region 5 with fail
        generalize w6.alloc (.cells #[.int .u8 (o6 : Int), .string (txt nm6), .slice a6 n6 c6] 25) = wz at *
        rcases Nat.eq_zero_or_pos r1 with hr1 | hr1
        case' inr =>
          have p0 : ((r1 : Int) == 0) = false := by simp; omega
          clear hr1 HN7 HS7 HM7
          go_upto_region 11 with fail
          clear p0
        case' inl =>
          subst hr1
          have hr2 : r2 = repP [97] tb t := by
            have h := HRV.out
            unfold rvP at h
            split at h
            · simp at h
            split at h
            · simp at h
            split at h
            · simp at h
            · exact (congrArg Prod.snd h).symm
          rw [hr2] at HS7
          clear hr2 HRV HM7
          have ⟨b0, b1, b2, _⟩ := HX7.out
          have ⟨y0, y1, y2, _⟩ := HY7.out
          have hz7 := HF7.out.size
          have hRr : Calls Try.prog 28 #[.agg #[.int .u8 (op : Int), .string (txt nm), .slice a nk cp], .string ⟨#[97]⟩, .agg #[.int .u8 (ob : Int), .string (txt nmb), .slice ab nb cb]] wz _ := rrp_any [97] tb _ t (Nat.lt_succ_self _) _ _ (fun b => b < w.heap.size) wz HWD.out (by have := HM.out.len; omega) (fun b h => by have h : b < w.heap.size := h; omega) HT7.out HTB7.out
          clear hz7
          go_wp2_with fail
          refine hRr.mono ?_
          rintro e w8 ⟨v8, rfl, hT8, F8⟩
          have hT9 := hT8.kept (T := fun b => b < w8.heap.size) (Fr.refl nob w8) (fun b _ h' => ⟨fun h => h, h'⟩)
          have hC := cos_any _ (repP [97] tb t) (Nat.lt_succ_self _) v8 (fun b => b < w8.heap.size) w8 HMR.out.wide HMR.out.len (fun b h => h) hT9
          obtain ⟨o8', nm8', a8', n8', c8', rfl⟩ := hT9.form
          have HF8 := Lib.hid F8
          clear hRr hT8 hT9 F8 b0 b1 b2 y0 y1 y2
          go_wp2_with fail
          refine hC.mono ?_
          rintro e w9 ⟨v9, rfl, hT9, F9⟩
          obtain ⟨o9, nm9, a9, n9, c9, rfl⟩ := hT9.form
          have A9 : Fr nob w9 (w9.alloc (.cells #[.int .u8 (o9 : Int), .string (txt nm9), .slice a9 n9 c9] 25)) := (Fr.refl nob w9).alloc _
          have G9 := (HF8.out.trans F9 (fun _ _ h => h)).trans A9 (fun _ _ h => h)
          have hz8 := HF8.out.size
          have hz9 := F9.size
          have hza := A9.size
          have HZ9 : Hid (wz.heap.size ≤ w8.heap.size ∧ w8.heap.size ≤ w9.heap.size ∧ w9.heap.size ≤ (w9.alloc (.cells #[.int .u8 (o9 : Int), .string (txt nm9), .slice a9 n9 c9] 25)).heap.size) := Lib.hid ⟨hz8, hz9, hza⟩
          have HR9 := Lib.hid (Box3.new w9 (.int .u8 (o9 : Int)) (.string (txt nm9)) (.slice a9 n9 c9) 25)
          have HV9 := Lib.hid (hT9.kept A9 (fun b h => h.elim) (Nat.le_refl _) (Nat.le_refl _))
          have HS9 := Lib.hid (HS7.out.kept G9 (fun b h => h.elim) (Nat.le_refl _) (Nat.le_refl _))
          have HN9 := Lib.hid (HN7.out.kept G9 (fun h => h))
          have HX9 := Lib.hid (HX7.out.kept G9 (fun h => h))
          have HY9 := Lib.hid (HY7.out.kept G9 (fun h => h))
          have HP9 := Lib.hid (HP7.out.kept G9 (fun h => h))
          have HQ9 := Lib.hid (HQ7.out.kept G9 (fun h => h))
          have HT9 := Lib.hid (HT7.out.kept (T := fun b => b < w.heap.size) G9 (fun b h _ => ⟨fun h => h, h⟩))
          have HTB9 := Lib.hid (HTB7.out.kept (T := fun b => b < w.heap.size) G9 (fun b h _ => ⟨fun h => h, h⟩))
          have HUU9 := Lib.hid (HV7.out.kept (T := fun b => b < w5.heap.size) G9 (fun b h _ => ⟨fun h => h, h⟩))
          have HU9 := Lib.hid (HU7.out.kept (T := fun b => b < w5.heap.size) G9 (fun b h _ => ⟨fun h => h, h⟩))
          have HF9 := Lib.hid (HF7.out.trans G9 (fun _ _ h => h))
          clear hC hT9 F9 A9 G9 HF8 hz8 hz9 hza HN7 HS7 HX7 HY7 HP7 HQ7 HT7 HTB7 HV7 HU7 HF7
          go_upto_region 7 with fail
          generalize w9.alloc (.cells #[.int .u8 (o9 : Int), .string (txt nm9), .slice a9 n9 c9] 25) = w10 at *
          obtain ⟨ro, rn, rk, hrt⟩ : ∃ ro rn rk, repP [97] tb t = .mk ro rn rk := by
            cases repP [97] tb t
            exact ⟨_, _, _, rfl⟩
          have hM1 := HMR.out.len
          have hM2 := HMR.out.nms
          have hM3 := HMR.out.wide
          rw [hrt] at HV9 HS9 hM1 hM2 hM3
          rw [preP] at hM1 hM2
          rw [List.length_cons] at hM1
          have hrn : rn.length ≤ 100 := hM2 _ List.mem_cons_self
          have hrk : ∀ u ∈ preL rk, (nmT2 u).length ≤ 100 := fun u hu => hM2 u (List.mem_cons_of_mem _ hu)
          rw [wide, Bool.and_eq_true, Bool.and_eq_true] at hM3
          have hwY : wide (.mk ro rn (spL rk)) = true := by
            rw [wide, Bool.and_eq_true, Bool.and_eq_true]
            refine ⟨⟨hM3.1.1, ?_⟩, spL_wide hM3.2 hrk⟩
            rw [spL_map, List.length_map]; exact hM3.1.2
          have HWY := Lib.hid hwY
          have hs1 := sp_any _ ro rk (Nat.lt_succ_self _) rn _ _ _ w10 (by omega) (by omega) hrk (HZ9.out.2.2) HV9.out
          have HS2 := Lib.hid (fun v lo hi w h1 h2 => sp_any _ ro rk (Nat.lt_succ_self _) rn v lo hi w (by omega) (by omega) hrk h1 h2)
          have ⟨c0, c1, c2, _⟩ := HR9.out
          clear hM1 hM2 hM3 hrn hrk hwY hrt
          go_wp2_with fail
          with_reducible refine hs1.mono ?_
          rintro e w11 ⟨rfl, hT11, F11⟩
          have HV11 := Lib.hid hT11
          have HS11 := Lib.hid (HS9.out.kept F11 (fun b h => by have := HZ9.out; have := HZ7.out; omega) (Nat.le_refl _) (Nat.le_refl _))
          have HR11 := Lib.hid (HR9.out.kept F11 (fun h => by omega))
          have HN11 := Lib.hid (HN9.out.kept F11 (fun h => by have := HZ9.out; have := HZ7.out; omega))
          have HX11 := Lib.hid (HX9.out.kept F11 (fun h => by have := HZ9.out; have := HZ7.out; have := HLT.out; omega))
          have HY11 := Lib.hid (HY9.out.kept F11 (fun h => by have := HZ9.out; have := HZ7.out; have := HLT.out; omega))
          have HP11 := Lib.hid (HP9.out.kept F11 (fun h => by have := HZ9.out; have := HZ7.out; have := HLT.out; omega))
          have HQ11 := Lib.hid (HQ9.out.kept F11 (fun h => by have := HZ9.out; have := HZ7.out; have := HLT.out; omega))
          have HT11 := Lib.hid (HT9.out.kept (T := fun b => b < w.heap.size) F11 (fun b h _ => ⟨fun h' => by have h : b < w.heap.size := h; have := HZ9.out; have := HZ7.out; have := HLT.out; omega, h⟩))
          have HTB11 := Lib.hid (HTB9.out.kept (T := fun b => b < w.heap.size) F11 (fun b h _ => ⟨fun h' => by have h : b < w.heap.size := h; have := HZ9.out; have := HZ7.out; have := HLT.out; omega, h⟩))
          have HUU11 := Lib.hid (HUU9.out.kept (T := fun b => b < w5.heap.size) F11 (fun b h _ => ⟨fun h' => by have h : b < w5.heap.size := h; have := HZ9.out; have := HZ7.out; omega, h⟩))
          have HU11 := Lib.hid (HU9.out.kept (T := fun b => b < w5.heap.size) F11 (fun b h _ => ⟨fun h' => by have h : b < w5.heap.size := h; have := HZ9.out; have := HZ7.out; omega, h⟩))
          have HF11 := Lib.hid (HF9.out.trans' (T := nob) F11 (fun _ _ h => h) (fun j hj h => by have := HZ9.out; have := HZ7.out; have := HLT.out; omega))
          have hz11 := F11.size
          have hs2 := HS2.out _ _ _ w11 (by have := HZ9.out; have := HZ7.out; omega) HS11.out
          have ⟨p0, p1, p2, _⟩ := HN11.out
          clear hs1 hT11 F11 c0 c1 c2 HV9 HS9 HR9 HN9 HX9 HY9 HP9 HQ9 HT9 HTB9 HUU9 HU9 HF9 HS2 hz11
          go_wp2_with fail
          with_reducible refine hs2.mono ?_
          rintro e w12 ⟨rfl, hT12, F12⟩
          have HV12 := Lib.hid (HV11.out.kept F12 (fun b h => by have := HZ9.out; have := HZ7.out; omega) (Nat.le_refl _) (Nat.le_refl _))
          have HS12 := Lib.hid hT12
          have HR12 := Lib.hid (HR11.out.kept F12 (fun h => by have := HZ9.out; have := HZ7.out; omega))
          have HN12 := Lib.hid (HN11.out.kept F12 (fun h => by omega))
          have HX12 := Lib.hid (HX11.out.kept F12 (fun h => by have := HLT.out; omega))
          have HY12 := Lib.hid (HY11.out.kept F12 (fun h => by have := HLT.out; omega))
          have HP12 := Lib.hid (HP11.out.kept F12 (fun h => by have := HLT.out; omega))
          have HQ12 := Lib.hid (HQ11.out.kept F12 (fun h => by have := HLT.out; omega))
          have HT12 := Lib.hid (HT11.out.kept (T := fun b => b < w.heap.size) F12 (fun b h _ => ⟨fun h' => by have h : b < w.heap.size := h; have := HLT.out; omega, h⟩))
          have HTB12 := Lib.hid (HTB11.out.kept (T := fun b => b < w.heap.size) F12 (fun b h _ => ⟨fun h' => by have h : b < w.heap.size := h; have := HLT.out; omega, h⟩))
          have HUU12 := Lib.hid (HUU11.out.kept (T := fun b => b < w5.heap.size) F12 (fun b h _ => ⟨fun h' => by have h : b < w5.heap.size := h; omega, h⟩))
          have HU12 := Lib.hid (HU11.out.kept (T := fun b => b < w5.heap.size) F12 (fun b h _ => ⟨fun h' => by have h : b < w5.heap.size := h; omega, h⟩))
          have HF12 := Lib.hid (HF11.out.trans' (T := nob) F12 (fun _ _ h => h) (fun j hj h => by have := HLT.out; omega))
          have ⟨p0, p1, p2, _⟩ := HN12.out
          have ⟨c0, c1, c2, _⟩ := HR12.out
          have hSm := same_any _ _ (Nat.lt_succ_self _) _ _ _ _ _ w12 HWY.out HWY.out HS12.out.toV.toO HV12.out.toV.toO
          rw [sameP_refl] at hSm
          clear hs2 hT12 F12 HV11 HS11 HR11 HN11 HX11 HY11 HP11 HQ11 HT11 HTB11 HUU11 HU11 HF11
          go_wp2_with fail
          with_reducible refine hSm.mono ?_
          rintro e wz ⟨rfl, F13⟩
          have HX7 := Lib.hid (HX12.out.kept F13 (fun h => h))
          have HY7 := Lib.hid (HY12.out.kept F13 (fun h => h))
          have HP7 := Lib.hid (HP12.out.kept F13 (fun h => h))
          have HQ7 := Lib.hid (HQ12.out.kept F13 (fun h => h))
          have HT7 := Lib.hid (HT12.out.kept (T := fun b => b < w.heap.size) F13 (fun b h _ => ⟨fun h => h, h⟩))
          have HTB7 := Lib.hid (HTB12.out.kept (T := fun b => b < w.heap.size) F13 (fun b h _ => ⟨fun h => h, h⟩))
          have HV7 := Lib.hid (HUU12.out.kept (T := fun b => b < w5.heap.size) F13 (fun b h _ => ⟨fun h => h, h⟩))
          have HU7 := Lib.hid (HU12.out.kept (T := fun b => b < w5.heap.size) F13 (fun b h _ => ⟨fun h => h, h⟩))
          have HF7 := Lib.hid (HF12.out.trans F13 (fun _ _ h => h))
          clear hSm F13 p0 p1 p2 c0 c1 c2 HV12 HS12 HR12 HN12 HX12 HY12 HP12 HQ12 HT12 HTB12 HUU12 HU12 HF12 HZ9
          go_upto_region 11 with fail
        all_goals (
          have ⟨p0, p1, p2, _⟩ := HP7.out
          have ⟨b0, b1, b2, _⟩ := HX7.out
          have hS10 := same_any _ t (Nat.lt_succ_self _) t _ _ _ _ wz HWD.out HWD.out HV7.out HT7.out
          rw [sameP_refl] at hS10
          go_wp2_with fail
          with_reducible refine hS10.mono ?_
          rintro e w21 ⟨rfl, F21⟩
          have HF21 := Lib.hid (HF7.out.trans F21 (fun _ _ h => h))
          have ⟨q3, q4, q5, _⟩ := HQ7.out.kept F21 (fun h => h)
          have ⟨y0, y1, y2, _⟩ := HY7.out.kept F21 (fun h => h)
          have hS11 := same_any _ tb (Nat.lt_succ_self _) tb _ _ _ _ w21 HWDB.out HWDB.out (HU7.out.kept (T := fun _ => True) F21 (fun b h _ => ⟨fun h => h, trivial⟩)) (HTB7.out.kept (T := fun _ => True) F21 (fun b h _ => ⟨fun h => h, trivial⟩))
          rw [sameP_refl] at hS11
          clear hS10 F21 p0 p1 p2 b0 b1 b2
          go_wp2_with fail
          with_reducible refine hS11.mono ?_
          rintro e w22 ⟨rfl, F22⟩
          have HF22 := Lib.hid (HF21.out.trans F22 (fun _ _ h => h))
          clear hS11 F22 q3 q4 q5 y0 y1 y2
          go_wp2_with (first | (go_at_call 10; refine (HW.out _).mono ?_; rintro e w23 ⟨rfl, F23⟩) | fail)
          go_ret
          exact ⟨rfl, HF22.out.trans F23 (fun _ _ h => h)⟩)
end Go.Proofs.Ytbiheajnmjbdoaa
