import Derived.Test.YtbiheajnmjbdoaaQd2
import Derived.RegionTactic
import Derived.Test.YtbiheajnmjbdoaaQe6
import Derived.Deep.RegionWith
namespace Go.Proofs.Ytbiheajnmjbdoaa
open Go.RowKit

/-! a region that draws its order, by what holds of it whatever was done so far -/
theorem countP_lt {α : Type} {p q : α → Bool} : ∀ {l : List α} {x : α}, x ∈ l → (∀ y, q y = true → p y = true) → p x = true → q x = false → l.countP q < l.countP p
  | y :: ys, x, hx, hq, h1, h2 => by
    rw [List.countP_cons, List.countP_cons]
    have hle : ys.countP q ≤ ys.countP p := List.countP_mono_left fun z _ hz => hq z hz
    rcases List.mem_cons.1 hx with rfl | hx
    · rw [h1, h2]; simp; omega
    · have := countP_lt hx hq h1 h2
      cases hqy : q y with
      | false => simp; split <;> omega
      | true => rw [hq y hqy]; simp; omega
section
variable {P : Program} {ops : Array Oper} {Q : Exit → Act → World → Prop} {md : Region.Mode}
def undone (n : Nat) (listed : Array Bool) : Nat := (List.range n).countP fun i => listed.getD i true == false
theorem undone_set {n i : Nat} {listed : Array Bool} (hi : i < n) (hl : listed.getD i true = false) : undone n (listed.setIfInBounds i true) < undone n listed := by
  have hlt : i < listed.size := by
    rcases Nat.lt_or_ge i listed.size with h | h
    · exact h
    · simp [Array.getElem?_eq_none h] at hl
  refine countP_lt (List.mem_range.2 hi) (fun j hj => ?_) (by rw [hl]; rfl) (by simp [hlt])
  by_cases hij : i = j
  · subst hij; simp [hlt] at hj
  · rwa [getD_set_ne true hij] at hj
def backB (ops : Array Oper) : Bool := (List.range ops.size).all fun i => ((ops[i]?).map fun o => o.after.all fun e => decide (e.on < i)).getD true
theorem ready_none (hb : backB ops = true) {listed : Array Bool} (hs : listed.size = ops.size) (hr : Region.ready md ops listed = []) : ∀ i, i < ops.size → listed.getD i false = true := by
  intro i
  induction i using Nat.strongRecOn with
  | ind i ih =>
    intro hi
    cases hl : listed.getD i false with
    | true => rfl
    | false =>
      exfalso
      have hlt : i < listed.size := by omega
      have hm : i ∈ Region.ready md ops listed := by
        rw [mem_ready]
        refine ⟨by simpa [hlt] using hl, ops[i], Array.getElem?_eq_getElem hi, fun e he _ => ?_⟩
        have h1 := (List.all_eq_true.1 hb) i (List.mem_range.2 hi)
        rw [Array.getElem?_eq_getElem hi] at h1
        have h2 : (ops[i]).after.all (fun e => decide (e.on < i)) = true := h1
        rw [Array.all_eq_true_iff_forall_mem] at h2
        have h3 : e.on < i := by simpa using h2 e he
        exact ih e.on h3 (by omega)
      rw [hr] at hm; cases hm
theorem wpAny_inv (hb : backB ops = true) (Inv : Array Bool → Act → World → Prop)
    (hstep : ∀ listed a w i, Inv listed a w → i ∈ Region.ready md ops listed → wpOp P ops Q i (Inv (listed.setIfInBounds i true)) a w)
    (hend : ∀ listed a w, Inv listed a w → (∀ i, i < ops.size → listed.getD i false = true) → Q .normal a w) :
    ∀ fuel listed a w, listed.size = ops.size → undone ops.size listed ≤ fuel → Inv listed a w → wpAny P md ops Q fuel listed a w := by
  intro fuel
  induction fuel with
  | zero =>
    intro listed a w hs hu hI
    have hr : Region.ready md ops listed = [] := by
      cases hr : Region.ready md ops listed with
      | nil => rfl
      | cons i rs =>
        exfalso
        have hm : i ∈ Region.ready md ops listed := by rw [hr]; exact List.mem_cons_self
        obtain ⟨h0, o, ho, _⟩ := mem_ready.1 hm
        have hi : i < ops.size := (Array.getElem?_eq_some_iff.1 ho).1
        have := undone_set hi h0
        omega
    exact ⟨hr, hend listed a w hI (ready_none hb hs hr)⟩
  | succ fuel ih =>
    intro listed a w hs hu hI
    refine ⟨fun hr => hend listed a w hI (ready_none hb hs hr), fun i hi => ?_⟩
    obtain ⟨h0, o, ho, _⟩ := mem_ready.1 hi
    have hlt : i < ops.size := (Array.getElem?_eq_some_iff.1 ho).1
    have hu2 := undone_set hlt h0
    exact wpOp_mono (fun a' w' h => ih _ a' w' (by simpa using hs) (by omega) h) (hstep listed a w i hI hi)
theorem wp_region_inv {id : Nat} {a : Act} {w : World} (hm : P.follows .mixedOrders = true) (hb : backB ops = true) (Inv : Array Bool → Act → World → Prop)
    (h0 : Inv (Array.replicate ops.size false) a w.drew)
    (hstep : ∀ listed a w i, Inv listed a w → i ∈ Region.ready .any ops listed → wpOp P ops Q i (Inv (listed.setIfInBounds i true)) a w)
    (hend : ∀ listed a w, Inv listed a w → (∀ i, i < ops.size → listed.getD i false = true) → Q .normal a w) : (Code.region id ops true).wp P Q a w := by
  refine wp_region_any hm ?_
  have h : wpAny P .any ops Q ops.size (Array.replicate ops.size false) a w.drew := by
    refine wpAny_inv hb Inv hstep hend _ _ _ _ (by simp) ?_ h0
    unfold undone
    exact Nat.le_trans List.countP_le_length (by simp)
  exact h
theorem wp_region_inv' {id : Nat} {a : Act} {w : World} (hm : P.follows .mixedOrders = true) (hb : backB ops = true) (I : Act → World → Array Bool → Act → World → Prop)
    (h0 : I a w (Array.replicate ops.size false) a w.drew)
    (hstep : ∀ listed a' w' i, I a w listed a' w' → i ∈ Region.ready .any ops listed → wpOp P ops Q i (I a w (listed.setIfInBounds i true)) a' w')
    (hend : ∀ listed a' w', I a w listed a' w' → (∀ i, i < ops.size → listed.getD i false = true) → Q .normal a' w') : (Code.region id ops true).wp P Q a w :=
  wp_region_inv hm hb (I a w) h0 hstep hend
theorem inv_val {i : Nat} {o : Oper} {K : Act → World → Prop} {a : Act} {w w' : World} {v : Value} (ho : ops[i]? = some o) (hg : o.guard = none) (h : (execOp a.eval o).run P w = .ok (.value v) w') (k : K (a.put o.dst v) w') : wpOp P ops Q i K a w := by
  refine wpOp_step ho fun K' hK => ?_
  have hw : Region.wanted o (yielded ops a.tmps) = true := by simp [Region.wanted, hg]
  rw [if_pos hw]
  unfold Oper.wp
  rw [h]
  exact hK _ _ k
theorem inv_skip {i : Nat} {o : Oper} {K : Act → World → Prop} {a : Act} {w w' : World} (ho : ops[i]? = some o) (hg : o.guard = none) (hd : o.dst = none) (h : (execOp a.eval o).run P w = .ok .skip w') (k : K a w') : wpOp P ops Q i K a w := by
  refine wpOp_step ho fun K' hK => ?_
  have hw : Region.wanted o (yielded ops a.tmps) = true := by simp [Region.wanted, hg]
  rw [if_pos hw]
  unfold Oper.wp
  rw [h]
  show K' (a.put o.dst undef) w'
  rw [hd]
  exact hK _ _ k
theorem inv_call {i : Nat} {o : Oper} {K : Act → World → Prop} {a : Act} {w : World} {f : FuncId} {args : Array Value} (ho : ops[i]? = some o) (hg : o.guard = none) (h : (execOp a.eval o).run P w = .ok (.enter f args) w) (hc : Calls P f args w fun e w' => ∃ v, e = .returned v ∧ K (a.put o.dst v) w') : wpOp P ops Q i K a w := by
  refine wpOp_step ho fun K' hK => ?_
  have hw : Region.wanted o (yielded ops a.tmps) = true := by simp [Region.wanted, hg]
  rw [if_pos hw]
  unfold Oper.wp
  rw [h, Oper.upon_enter]
  refine hc.mono fun e w' hh => ?_
  obtain ⟨v, rfl, hk⟩ := hh
  exact hK _ _ hk
end
theorem load3 (t d : Tmp) (e : Array Edge) (a : Act) (w : World) (b : Nat) (x y z : Value) (ps : String) (h3 : a.tmps.getD t undef = .pointer (some ⟨b, 0, none⟩)) (hx : ∃ o : Int, x = .int .u8 o) (hy : ∃ s, y = .string s) (hz : ∃ a n c, z = .slice a n c) (c0 : w.cell? ⟨b, 0, none⟩ = some x) (c1 : w.cell? ⟨b, 1, none⟩ = some y) (c2 : w.cell? ⟨b, 2, none⟩ = some z) :
    (execOp a.eval { dst := some d, op := .load 25 (.tmp t), type := 25, pos := ps, after := e, guard := none }).run Try.prog w = .ok (.value (.agg #[x, y, z])) w := by
  have he : a.eval (.tmp t) = .pointer (some ⟨b, 0, none⟩) := h3
  obtain ⟨o, rfl⟩ := hx
  obtain ⟨s, rfl⟩ := hy
  obtain ⟨a', n, c, rfl⟩ := hz
  go_simp
theorem call1 (t d : Tmp) (e : Array Edge) (a : Act) (w : World) (v : Value) (ps : String) (h3 : a.tmps.getD t undef = v) :
    (execOp a.eval { dst := some d, op := .call { callee := .value (.func 15), args := #[.tmp t], argTypes := #[25] }, type := 25, pos := ps, after := e, guard := none }).run Try.prog w = .ok (.enter 15 #[v]) w := by
  have he : a.eval (.tmp t) = v := h3
  go_simp
theorem alloc3 (d : Tmp) (e : Array Edge) (a : Act) (w : World) (ps : String) :
    (execOp a.eval { dst := some d, op := .alloc 25, type := 0, pos := ps, after := e, guard := none }).run Try.prog w = .ok (.value (.pointer (some ⟨w.heap.size, 0, none⟩))) (w.alloc (.cells #[.int .u8 0, .string ⟨#[]⟩, .slice none 0 0] 25)) := by
  go_simp
theorem store3 (t u : Tmp) (e : Array Edge) (a : Act) (w : World) (b : Nat) (x y z x' y' z' : Value) (ps : String) (h3 : a.tmps.getD t undef = .pointer (some ⟨b, 0, none⟩)) (h4 : a.tmps.getD u undef = .agg #[x', y', z'])
    (hx : ∃ o : Int, x' = .int .u8 o) (hy : ∃ s, y' = .string s) (hz : ∃ a n c, z' = .slice a n c) (hB : Box3 w b x y z) :
    (execOp a.eval { dst := none, op := .store 25 (.tmp t) (.tmp u), type := 0, pos := ps, after := e, guard := none }).run Try.prog w = .ok .skip (((w.setCell ⟨b, 0, none⟩ x').setCell ⟨b, 1, none⟩ y').setCell ⟨b, 2, none⟩ z') := by
  have he : a.eval (.tmp t) = .pointer (some ⟨b, 0, none⟩) := h3
  have hf : a.eval (.tmp u) = .agg #[x', y', z'] := h4
  obtain ⟨o, rfl⟩ := hx
  obtain ⟨s, rfl⟩ := hy
  obtain ⟨a', n, c, rfl⟩ := hz
  have ⟨d0, d1, d2, df⟩ := hB
  have df0 := df 0
  have df1 := df 1
  have df2 := df 2
  clear df
  go_simp
theorem L_set {listed : Array Bool} {i j : Nat} (h : (listed.setIfInBounds i true).getD j false = true) : listed.getD j false = true ∨ j = i := by
  by_cases hij : i = j
  · exact .inr hij.symm
  · rw [getD_set_ne false hij] at h; exact .inl h
theorem put_ne {a : Act} {d u : Nat} {v : Value} (h : u ≠ d) : (a.put (some d) v).tmps[u]? = a.tmps[u]? := by
  show (a.tmps.setIfInBounds d v)[u]? = _
  rw [Array.getElem?_setIfInBounds_ne (Ne.symm h)]
theorem put_eq {a : Act} {d : Nat} {v : Value} (h : d < a.tmps.size) : (a.put (some d) v).tmps[d]? = some v := by
  show (a.tmps.setIfInBounds d v)[d]? = _
  simp [h]
theorem put_sz {a : Act} {d : Option Tmp} {v : Value} : (a.put d v).tmps.size = a.tmps.size := by
  cases d <;> simp [Act.put]
theorem put_df {a : Act} {d : Option Tmp} {v : Value} : (a.put d v).defers = a.defers := by
  cases d <;> rfl
theorem getD_of {a : Act} {d : Nat} {v : Value} (h : a.tmps[d]? = some v) : a.tmps.getD d undef = v := by
  simp [Array.getD_eq_getD_getElem?, h]
abbrev pt (b : Nat) : Value := .pointer (some ⟨b, 0, none⟩)
theorem pt_inj {b b' : Nat} (h : pt b = pt b') : b = b' := by
  cases h; rfl
end Go.Proofs.Ytbiheajnmjbdoaa
namespace Go.Proofs.Ytbiheajnmjbdoaa
open Go.RowKit

/-! own, put := Copied(e), Copied(by) -/
def CSR (w0 : World) (a : Act) (b : Nat) : Prop := w0.heap.size ≤ b ∧ a.tmps[(7 : Nat)]? ≠ some (pt b) ∧ a.tmps[(8 : Nat)]? ≠ some (pt b)
structure CIR (t tb : Tr) (w0 : World) (A0 : Act) (X Y : Value) (L : Nat → Prop) (a : Act) (w : World) : Prop where
  df : a.defers = A0.defers
  sz : a.tmps.size = A0.tmps.size
  ot : ∀ u : Nat, u ≠ 37 → u ≠ 38 → u ≠ 39 → u ≠ 40 → u ≠ 7 → u ≠ 8 → a.tmps[u]? = A0.tmps[u]?
  fr : Fr nob w0 w
  x : L 0 → a.tmps[(37 : Nat)]? = some X
  y : L 2 → a.tmps[(39 : Nat)]? = some Y
  v : L 1 → ∃ v, a.tmps[(38 : Nat)]? = some v ∧ TrV w (CSR w0 a) t v
  u : L 3 → ∃ v, a.tmps[(40 : Nat)]? = some v ∧ TrV w (CSR w0 a) tb v
  p : L 4 → ∃ b x y z, a.tmps[(7 : Nat)]? = some (pt b) ∧ w0.heap.size ≤ b ∧ Box3 w b x y z ∧ (L 6 → a.tmps[(38 : Nat)]? = some (.agg #[x, y, z]))
  q : L 5 → ∃ b x y z, a.tmps[(8 : Nat)]? = some (pt b) ∧ w0.heap.size ≤ b ∧ Box3 w b x y z ∧ (L 7 → a.tmps[(40 : Nat)]? = some (.agg #[x, y, z]))
  ne : L 4 → L 5 → a.tmps[(7 : Nat)]? ≠ a.tmps[(8 : Nat)]?
  pb : ∀ b, a.tmps[(7 : Nat)]? = some (pt b) → b < w.heap.size
  qb : ∀ b, a.tmps[(8 : Nat)]? = some (pt b) → b < w.heap.size
theorem ciR_0 {t tb : Tr} {w0 : World} {A0 : Act} {X Y : Value} {L L' : Nat → Prop} {a : Act} {w : World} (h : CIR t tb w0 A0 X Y L a w) (hL : ∀ j, L' j → L j ∨ j = 0) (hs : 37 < a.tmps.size) : CIR t tb w0 A0 X Y L' (a.put (some 37) X) w := by
  have hcs : ∀ b, CSR w0 a b → CSR w0 (a.put (some 37) X) b := fun b hb => ⟨hb.1, by rw [put_ne (by decide)]; exact hb.2.1, by rw [put_ne (by decide)]; exact hb.2.2⟩
  have no : ∀ j, j ≠ 0 → L' j → L j := fun j hj h' => (hL j h').resolve_right hj
  refine ⟨put_df.trans h.df, put_sz.trans h.sz, fun u h1 h2 h3 h4 h5 h6 => by rw [put_ne (by assumption)]; exact h.ot u h1 h2 h3 h4 h5 h6, h.fr, ?_, ?_, ?_, ?_, ?_, ?_, ?_, ?_, ?_⟩
  · intro _; rw [put_eq hs]
  · intro h'; rw [put_ne (by decide)]; exact h.y (no 2 (by decide) h')
  · intro h'; obtain ⟨v, h1, h2⟩ := h.v (no 1 (by decide) h'); exact ⟨v, by rw [put_ne (by decide)]; exact h1, h2.kept (Fr.refl nob w) (fun b hb _ => ⟨fun h => h, hcs b hb⟩)⟩
  · intro h'; obtain ⟨v, h1, h2⟩ := h.u (no 3 (by decide) h'); exact ⟨v, by rw [put_ne (by decide)]; exact h1, h2.kept (Fr.refl nob w) (fun b hb _ => ⟨fun h => h, hcs b hb⟩)⟩
  · intro h'; obtain ⟨b, x, y, z, h1, h2, h3, h4⟩ := h.p (no 4 (by decide) h'); exact ⟨b, x, y, z, by rw [put_ne (by decide)]; exact h1, h2, h3, fun h6 => by rw [put_ne (by decide)]; exact h4 (no 6 (by decide) h6)⟩
  · intro h'; obtain ⟨b, x, y, z, h1, h2, h3, h4⟩ := h.q (no 5 (by decide) h'); exact ⟨b, x, y, z, by rw [put_ne (by decide)]; exact h1, h2, h3, fun h6 => by rw [put_ne (by decide)]; exact h4 (no 7 (by decide) h6)⟩
  · intro h4 h5; rw [put_ne (by decide), put_ne (by decide)]; exact h.ne (no 4 (by decide) h4) (no 5 (by decide) h5)
  · intro b; rw [put_ne (by decide)]; exact h.pb b
  · intro b; rw [put_ne (by decide)]; exact h.qb b
theorem ciR_2 {t tb : Tr} {w0 : World} {A0 : Act} {X Y : Value} {L L' : Nat → Prop} {a : Act} {w : World} (h : CIR t tb w0 A0 X Y L a w) (hL : ∀ j, L' j → L j ∨ j = 2) (hs : 39 < a.tmps.size) : CIR t tb w0 A0 X Y L' (a.put (some 39) Y) w := by
  have hcs : ∀ b, CSR w0 a b → CSR w0 (a.put (some 39) Y) b := fun b hb => ⟨hb.1, by rw [put_ne (by decide)]; exact hb.2.1, by rw [put_ne (by decide)]; exact hb.2.2⟩
  have no : ∀ j, j ≠ 2 → L' j → L j := fun j hj h' => (hL j h').resolve_right hj
  refine ⟨put_df.trans h.df, put_sz.trans h.sz, fun u h1 h2 h3 h4 h5 h6 => by rw [put_ne (by assumption)]; exact h.ot u h1 h2 h3 h4 h5 h6, h.fr, ?_, ?_, ?_, ?_, ?_, ?_, ?_, ?_, ?_⟩
  · intro h'; rw [put_ne (by decide)]; exact h.x (no 0 (by decide) h')
  · intro _; rw [put_eq hs]
  · intro h'; obtain ⟨v, h1, h2⟩ := h.v (no 1 (by decide) h'); exact ⟨v, by rw [put_ne (by decide)]; exact h1, h2.kept (Fr.refl nob w) (fun b hb _ => ⟨fun h => h, hcs b hb⟩)⟩
  · intro h'; obtain ⟨v, h1, h2⟩ := h.u (no 3 (by decide) h'); exact ⟨v, by rw [put_ne (by decide)]; exact h1, h2.kept (Fr.refl nob w) (fun b hb _ => ⟨fun h => h, hcs b hb⟩)⟩
  · intro h'; obtain ⟨b, x, y, z, h1, h2, h3, h4⟩ := h.p (no 4 (by decide) h'); exact ⟨b, x, y, z, by rw [put_ne (by decide)]; exact h1, h2, h3, fun h6 => by rw [put_ne (by decide)]; exact h4 (no 6 (by decide) h6)⟩
  · intro h'; obtain ⟨b, x, y, z, h1, h2, h3, h4⟩ := h.q (no 5 (by decide) h'); exact ⟨b, x, y, z, by rw [put_ne (by decide)]; exact h1, h2, h3, fun h6 => by rw [put_ne (by decide)]; exact h4 (no 7 (by decide) h6)⟩
  · intro h4 h5; rw [put_ne (by decide), put_ne (by decide)]; exact h.ne (no 4 (by decide) h4) (no 5 (by decide) h5)
  · intro b; rw [put_ne (by decide)]; exact h.pb b
  · intro b; rw [put_ne (by decide)]; exact h.qb b
theorem ciR_1 {t tb : Tr} {w0 : World} {A0 : Act} {X Y : Value} {L L' : Nat → Prop} {a : Act} {w w' : World} {r : Value} (h : CIR t tb w0 A0 X Y L a w) (hL : ∀ j, L' j → L j ∨ j = 1) (hs : 38 < a.tmps.size) (hst : ¬ L 6) (F : Fr nob w w') (hr : TrV w' (fun b => w.heap.size ≤ b) t r) : CIR t tb w0 A0 X Y L' (a.put (some 38) r) w' := by
  have hp := h.pb
  have hq := h.qb
  have hcs : ∀ b, CSR w0 a b → CSR w0 (a.put (some 38) r) b := fun b hb => ⟨hb.1, by rw [put_ne (by decide)]; exact hb.2.1, by rw [put_ne (by decide)]; exact hb.2.2⟩
  have hcn : ∀ b, w.heap.size ≤ b → CSR w0 (a.put (some 38) r) b := fun b hb => ⟨Nat.le_trans h.fr.size hb, by rw [put_ne (by decide)]; exact fun e => absurd (hp b e) (by omega), by rw [put_ne (by decide)]; exact fun e => absurd (hq b e) (by omega)⟩
  have no : ∀ j, j ≠ 1 → L' j → L j := fun j hj h' => (hL j h').resolve_right hj
  refine ⟨put_df.trans h.df, put_sz.trans h.sz, fun u h1 h2 h3 h4 h5 h6 => by rw [put_ne (by assumption)]; exact h.ot u h1 h2 h3 h4 h5 h6, h.fr.trans F (fun _ _ h => h), ?_, ?_, ?_, ?_, ?_, ?_, ?_, ?_, ?_⟩
  · intro h'; rw [put_ne (by decide)]; exact h.x (no 0 (by decide) h')
  · intro h'; rw [put_ne (by decide)]; exact h.y (no 2 (by decide) h')
  · intro _; exact ⟨r, put_eq hs, hr.kept (Fr.refl nob w') (fun b hb _ => ⟨fun h => h, hcn b hb⟩)⟩
  · intro h'; obtain ⟨v, h1, h2⟩ := h.u (no 3 (by decide) h'); exact ⟨v, by rw [put_ne (by decide)]; exact h1, h2.kept F (fun b hb _ => ⟨fun h => h, hcs b hb⟩)⟩
  · intro h'; obtain ⟨b, x, y, z, h1, h2, h3, _⟩ := h.p (no 4 (by decide) h'); exact ⟨b, x, y, z, by rw [put_ne (by decide)]; exact h1, h2, h3.kept F (fun h => h), fun h6 => absurd (no 6 (by decide) h6) hst⟩
  · intro h'; obtain ⟨b, x, y, z, h1, h2, h3, h4⟩ := h.q (no 5 (by decide) h'); exact ⟨b, x, y, z, by rw [put_ne (by decide)]; exact h1, h2, h3.kept F (fun h => h), fun h6 => by rw [put_ne (by decide)]; exact h4 (no 7 (by decide) h6)⟩
  · intro h4 h5; rw [put_ne (by decide), put_ne (by decide)]; exact h.ne (no 4 (by decide) h4) (no 5 (by decide) h5)
  · intro b; rw [put_ne (by decide)]; exact fun e => Nat.lt_of_lt_of_le (h.pb b e) F.size
  · intro b; rw [put_ne (by decide)]; exact fun e => Nat.lt_of_lt_of_le (h.qb b e) F.size
theorem ciR_3 {t tb : Tr} {w0 : World} {A0 : Act} {X Y : Value} {L L' : Nat → Prop} {a : Act} {w w' : World} {r : Value} (h : CIR t tb w0 A0 X Y L a w) (hL : ∀ j, L' j → L j ∨ j = 3) (hs : 40 < a.tmps.size) (hst : ¬ L 7) (F : Fr nob w w') (hr : TrV w' (fun b => w.heap.size ≤ b) tb r) : CIR t tb w0 A0 X Y L' (a.put (some 40) r) w' := by
  have hp := h.pb
  have hq := h.qb
  have hcs : ∀ b, CSR w0 a b → CSR w0 (a.put (some 40) r) b := fun b hb => ⟨hb.1, by rw [put_ne (by decide)]; exact hb.2.1, by rw [put_ne (by decide)]; exact hb.2.2⟩
  have hcn : ∀ b, w.heap.size ≤ b → CSR w0 (a.put (some 40) r) b := fun b hb => ⟨Nat.le_trans h.fr.size hb, by rw [put_ne (by decide)]; exact fun e => absurd (hp b e) (by omega), by rw [put_ne (by decide)]; exact fun e => absurd (hq b e) (by omega)⟩
  have no : ∀ j, j ≠ 3 → L' j → L j := fun j hj h' => (hL j h').resolve_right hj
  refine ⟨put_df.trans h.df, put_sz.trans h.sz, fun u h1 h2 h3 h4 h5 h6 => by rw [put_ne (by assumption)]; exact h.ot u h1 h2 h3 h4 h5 h6, h.fr.trans F (fun _ _ h => h), ?_, ?_, ?_, ?_, ?_, ?_, ?_, ?_, ?_⟩
  · intro h'; rw [put_ne (by decide)]; exact h.x (no 0 (by decide) h')
  · intro h'; rw [put_ne (by decide)]; exact h.y (no 2 (by decide) h')
  · intro h'; obtain ⟨v, h1, h2⟩ := h.v (no 1 (by decide) h'); exact ⟨v, by rw [put_ne (by decide)]; exact h1, h2.kept F (fun b hb _ => ⟨fun h => h, hcs b hb⟩)⟩
  · intro _; exact ⟨r, put_eq hs, hr.kept (Fr.refl nob w') (fun b hb _ => ⟨fun h => h, hcn b hb⟩)⟩
  · intro h'; obtain ⟨b, x, y, z, h1, h2, h3, h4⟩ := h.p (no 4 (by decide) h'); exact ⟨b, x, y, z, by rw [put_ne (by decide)]; exact h1, h2, h3.kept F (fun h => h), fun h6 => by rw [put_ne (by decide)]; exact h4 (no 6 (by decide) h6)⟩
  · intro h'; obtain ⟨b, x, y, z, h1, h2, h3, _⟩ := h.q (no 5 (by decide) h'); exact ⟨b, x, y, z, by rw [put_ne (by decide)]; exact h1, h2, h3.kept F (fun h => h), fun h6 => absurd (no 7 (by decide) h6) hst⟩
  · intro h4 h5; rw [put_ne (by decide), put_ne (by decide)]; exact h.ne (no 4 (by decide) h4) (no 5 (by decide) h5)
  · intro b; rw [put_ne (by decide)]; exact fun e => Nat.lt_of_lt_of_le (h.pb b e) F.size
  · intro b; rw [put_ne (by decide)]; exact fun e => Nat.lt_of_lt_of_le (h.qb b e) F.size
theorem ciR_4 {t tb : Tr} {w0 : World} {A0 : Act} {X Y : Value} {L L' : Nat → Prop} {a : Act} {w : World} (h : CIR t tb w0 A0 X Y L a w) (hL : ∀ j, L' j → L j ∨ j = 4) (hs : 7 < a.tmps.size) (hst : ¬ L 6) : CIR t tb w0 A0 X Y L' (a.put (some 7) (pt w.heap.size)) (w.alloc (.cells #[.int .u8 0, .string ⟨#[]⟩, .slice none 0 0] 25)) := by
  have F : Fr nob w (w.alloc (.cells #[.int .u8 0, .string ⟨#[]⟩, .slice none 0 0] 25)) := (Fr.refl nob w).alloc _
  have hz : (w.alloc (.cells #[.int .u8 0, .string ⟨#[]⟩, .slice none 0 0] 25)).heap.size = w.heap.size + 1 := by simp
  have ho := h.qb
  have hcs : ∀ b, CSR w0 a b → b < w.heap.size → CSR w0 (a.put (some 7) (pt w.heap.size)) b := fun b hb hlt => ⟨hb.1, by rw [put_eq hs]; intro e; have := pt_inj (Option.some.inj e); omega, by rw [put_ne (by decide)]; exact hb.2.2⟩
  have no : ∀ j, j ≠ 4 → L' j → L j := fun j hj h' => (hL j h').resolve_right hj
  refine ⟨put_df.trans h.df, put_sz.trans h.sz, fun u h1 h2 h3 h4 h5 h6 => by rw [put_ne (by assumption)]; exact h.ot u h1 h2 h3 h4 h5 h6, h.fr.trans F (fun _ _ h => h), ?_, ?_, ?_, ?_, ?_, ?_, ?_, ?_, ?_⟩
  · intro h'; rw [put_ne (by decide)]; exact h.x (no 0 (by decide) h')
  · intro h'; rw [put_ne (by decide)]; exact h.y (no 2 (by decide) h')
  · intro h'; obtain ⟨v, h1, h2⟩ := h.v (no 1 (by decide) h'); exact ⟨v, by rw [put_ne (by decide)]; exact h1, h2.kept F (fun b hb hlt => ⟨fun h => h, hcs b hb hlt⟩)⟩
  · intro h'; obtain ⟨v, h1, h2⟩ := h.u (no 3 (by decide) h'); exact ⟨v, by rw [put_ne (by decide)]; exact h1, h2.kept F (fun b hb hlt => ⟨fun h => h, hcs b hb hlt⟩)⟩
  · intro _; exact ⟨_, _, _, _, put_eq hs, h.fr.size, Box3.new w _ _ _ _, fun h6 => absurd (no 6 (by decide) h6) hst⟩
  · intro h'; obtain ⟨b, x, y, z, h1, h2, h3, h4⟩ := h.q (no 5 (by decide) h'); exact ⟨b, x, y, z, by rw [put_ne (by decide)]; exact h1, h2, h3.kept F (fun h => h), fun h6 => by rw [put_ne (by decide)]; exact h4 (no 7 (by decide) h6)⟩
  · intro _ h5; rw [put_eq hs, put_ne (by decide)]; intro e; have := ho _ e.symm; omega
  · intro b e; rw [put_eq hs] at e; have := pt_inj (Option.some.inj e); omega
  · intro b; rw [put_ne (by decide)]; exact fun e => Nat.lt_of_lt_of_le (h.qb b e) F.size
theorem ciR_5 {t tb : Tr} {w0 : World} {A0 : Act} {X Y : Value} {L L' : Nat → Prop} {a : Act} {w : World} (h : CIR t tb w0 A0 X Y L a w) (hL : ∀ j, L' j → L j ∨ j = 5) (hs : 8 < a.tmps.size) (hst : ¬ L 7) : CIR t tb w0 A0 X Y L' (a.put (some 8) (pt w.heap.size)) (w.alloc (.cells #[.int .u8 0, .string ⟨#[]⟩, .slice none 0 0] 25)) := by
  have F : Fr nob w (w.alloc (.cells #[.int .u8 0, .string ⟨#[]⟩, .slice none 0 0] 25)) := (Fr.refl nob w).alloc _
  have hz : (w.alloc (.cells #[.int .u8 0, .string ⟨#[]⟩, .slice none 0 0] 25)).heap.size = w.heap.size + 1 := by simp
  have ho := h.pb
  have hcs : ∀ b, CSR w0 a b → b < w.heap.size → CSR w0 (a.put (some 8) (pt w.heap.size)) b := fun b hb hlt => ⟨hb.1, by rw [put_ne (by decide)]; exact hb.2.1, by rw [put_eq hs]; intro e; have := pt_inj (Option.some.inj e); omega⟩
  have no : ∀ j, j ≠ 5 → L' j → L j := fun j hj h' => (hL j h').resolve_right hj
  refine ⟨put_df.trans h.df, put_sz.trans h.sz, fun u h1 h2 h3 h4 h5 h6 => by rw [put_ne (by assumption)]; exact h.ot u h1 h2 h3 h4 h5 h6, h.fr.trans F (fun _ _ h => h), ?_, ?_, ?_, ?_, ?_, ?_, ?_, ?_, ?_⟩
  · intro h'; rw [put_ne (by decide)]; exact h.x (no 0 (by decide) h')
  · intro h'; rw [put_ne (by decide)]; exact h.y (no 2 (by decide) h')
  · intro h'; obtain ⟨v, h1, h2⟩ := h.v (no 1 (by decide) h'); exact ⟨v, by rw [put_ne (by decide)]; exact h1, h2.kept F (fun b hb hlt => ⟨fun h => h, hcs b hb hlt⟩)⟩
  · intro h'; obtain ⟨v, h1, h2⟩ := h.u (no 3 (by decide) h'); exact ⟨v, by rw [put_ne (by decide)]; exact h1, h2.kept F (fun b hb hlt => ⟨fun h => h, hcs b hb hlt⟩)⟩
  · intro h'; obtain ⟨b, x, y, z, h1, h2, h3, h4⟩ := h.p (no 4 (by decide) h'); exact ⟨b, x, y, z, by rw [put_ne (by decide)]; exact h1, h2, h3.kept F (fun h => h), fun h6 => by rw [put_ne (by decide)]; exact h4 (no 6 (by decide) h6)⟩
  · intro _; exact ⟨_, _, _, _, put_eq hs, h.fr.size, Box3.new w _ _ _ _, fun h6 => absurd (no 7 (by decide) h6) hst⟩
  · intro h4 _; rw [put_eq hs, put_ne (by decide)]; intro e; have := ho _ e; omega
  · intro b; rw [put_ne (by decide)]; exact fun e => Nat.lt_of_lt_of_le (h.pb b e) F.size
  · intro b e; rw [put_eq hs] at e; have := pt_inj (Option.some.inj e); omega
theorem ciR_6 {t tb : Tr} {w0 : World} {A0 : Act} {X Y : Value} {L L' : Nat → Prop} {a : Act} {w : World} {b : Nat} {x y z x' y' z' : Value} (h : CIR t tb w0 A0 X Y L a w) (hL : ∀ j, L' j → L j ∨ j = 6) (h4 : L 4) (h5 : L 5)
    (h1 : a.tmps[(7 : Nat)]? = some (pt b)) (h2 : w0.heap.size ≤ b) (hB : Box3 w b x y z) (hc : a.tmps[(38 : Nat)]? = some (.agg #[x', y', z'])) : CIR t tb w0 A0 X Y L' a (((w.setCell ⟨b, 0, none⟩ x').setCell ⟨b, 1, none⟩ y').setCell ⟨b, 2, none⟩ z') := by
  obtain ⟨XX, F⟩ := hB.set x' y' z'
  have no : ∀ j, j ≠ 6 → L' j → L j := fun j hj h' => (hL j h').resolve_right hj
  have hcs : ∀ k, CSR w0 a k → ¬ k = b := fun k hb e => hb.2.1 (by rw [e]; exact h1)
  refine ⟨h.df, h.sz, h.ot, h.fr.trans' (T := nob) F (fun _ _ h => h) (fun k hk (e : k = b) => absurd hk (by omega)), fun h' => h.x (no 0 (by decide) h'), fun h' => h.y (no 2 (by decide) h'), ?_, ?_, ?_, ?_, fun a1 a2 => h.ne (no 4 (by decide) a1) (no 5 (by decide) a2), fun k e => Nat.lt_of_lt_of_le (h.pb k e) F.size, fun k e => Nat.lt_of_lt_of_le (h.qb k e) F.size⟩
  · intro h'; obtain ⟨v, g1, g2⟩ := h.v (no 1 (by decide) h'); exact ⟨v, g1, g2.kept F (fun k hk _ => ⟨hcs k hk, hk⟩)⟩
  · intro h'; obtain ⟨v, g1, g2⟩ := h.u (no 3 (by decide) h'); exact ⟨v, g1, g2.kept F (fun k hk _ => ⟨hcs k hk, hk⟩)⟩
  · intro _; exact ⟨b, x', y', z', h1, h2, XX, fun _ => hc⟩
  · intro h'; obtain ⟨b2, x2, y2, z2, g1, g2, g3, g4⟩ := h.q (no 5 (by decide) h'); exact ⟨b2, x2, y2, z2, g1, g2, g3.kept F (fun e => h.ne h4 h5 (by rw [h1, g1, e])), fun h6 => g4 (no 7 (by decide) h6)⟩
theorem ciR_7 {t tb : Tr} {w0 : World} {A0 : Act} {X Y : Value} {L L' : Nat → Prop} {a : Act} {w : World} {b : Nat} {x y z x' y' z' : Value} (h : CIR t tb w0 A0 X Y L a w) (hL : ∀ j, L' j → L j ∨ j = 7) (h4 : L 4) (h5 : L 5)
    (h1 : a.tmps[(8 : Nat)]? = some (pt b)) (h2 : w0.heap.size ≤ b) (hB : Box3 w b x y z) (hc : a.tmps[(40 : Nat)]? = some (.agg #[x', y', z'])) : CIR t tb w0 A0 X Y L' a (((w.setCell ⟨b, 0, none⟩ x').setCell ⟨b, 1, none⟩ y').setCell ⟨b, 2, none⟩ z') := by
  obtain ⟨XX, F⟩ := hB.set x' y' z'
  have no : ∀ j, j ≠ 7 → L' j → L j := fun j hj h' => (hL j h').resolve_right hj
  have hcs : ∀ k, CSR w0 a k → ¬ k = b := fun k hb e => hb.2.2 (by rw [e]; exact h1)
  refine ⟨h.df, h.sz, h.ot, h.fr.trans' (T := nob) F (fun _ _ h => h) (fun k hk (e : k = b) => absurd hk (by omega)), fun h' => h.x (no 0 (by decide) h'), fun h' => h.y (no 2 (by decide) h'), ?_, ?_, ?_, ?_, fun a1 a2 => h.ne (no 4 (by decide) a1) (no 5 (by decide) a2), fun k e => Nat.lt_of_lt_of_le (h.pb k e) F.size, fun k e => Nat.lt_of_lt_of_le (h.qb k e) F.size⟩
  · intro h'; obtain ⟨v, g1, g2⟩ := h.v (no 1 (by decide) h'); exact ⟨v, g1, g2.kept F (fun k hk _ => ⟨hcs k hk, hk⟩)⟩
  · intro h'; obtain ⟨v, g1, g2⟩ := h.u (no 3 (by decide) h'); exact ⟨v, g1, g2.kept F (fun k hk _ => ⟨hcs k hk, hk⟩)⟩
  · intro h'; obtain ⟨b2, x2, y2, z2, g1, g2, g3, g4⟩ := h.p (no 4 (by decide) h'); exact ⟨b2, x2, y2, z2, g1, g2, g3.kept F (fun e => h.ne h4 h5 (by rw [h1, g1, e])), fun h6 => g4 (no 6 (by decide) h6)⟩
  · intro _; exact ⟨b, x', y', z', h1, h2, XX, fun _ => hc⟩
theorem actR {t tb : Tr} {w0 : World} {A0 : Act} {X Y V U B C : Value} {L : Nat → Prop} {a : Act} {w : World} (h : CIR t tb w0 A0 X Y L a w) (h1 : a.tmps[(37 : Nat)]? = some X) (h2 : a.tmps[(38 : Nat)]? = some V) (h3 : a.tmps[(39 : Nat)]? = some Y) (h4 : a.tmps[(40 : Nat)]? = some U) (h5 : a.tmps[(7 : Nat)]? = some B) (h6 : a.tmps[(8 : Nat)]? = some C) :
    a = (((((A0.put (some 37) X).put (some 38) V).put (some 39) Y).put (some 40) U).put (some 7) B).put (some 8) C := by
  have hlt : ∀ (j : Nat) (v : Value), a.tmps[j]? = some v → j < A0.tmps.size := fun j v e => by rw [← h.sz]; exact (Array.getElem?_eq_some_iff.1 e).1
  have hd : a.defers = ((((((A0.put (some 37) X).put (some 38) V).put (some 39) Y).put (some 40) U).put (some 7) B).put (some 8) C).defers := by simp only [put_df]; exact h.df
  have ht : a.tmps = ((((((A0.put (some 37) X).put (some 38) V).put (some 39) Y).put (some 40) U).put (some 7) B).put (some 8) C).tmps := by
    apply Array.ext_getElem?
    intro u
    by_cases e6 : u = 8
    · subst e6; rw [put_eq (by simp only [put_sz]; exact hlt _ _ h6)]; exact h6
    rw [put_ne e6]
    by_cases e5 : u = 7
    · subst e5; rw [put_eq (by simp only [put_sz]; exact hlt _ _ h5)]; exact h5
    rw [put_ne e5]
    by_cases e4 : u = 40
    · subst e4; rw [put_eq (by simp only [put_sz]; exact hlt _ _ h4)]; exact h4
    rw [put_ne e4]
    by_cases e3 : u = 39
    · subst e3; rw [put_eq (by simp only [put_sz]; exact hlt _ _ h3)]; exact h3
    rw [put_ne e3]
    by_cases e2 : u = 38
    · subst e2; rw [put_eq (by simp only [put_sz]; exact hlt _ _ h2)]; exact h2
    rw [put_ne e2]
    by_cases e1 : u = 37
    · subst e1; rw [put_eq (hlt _ _ h1)]; exact h1
    rw [put_ne e1]
    exact h.ot u e1 e2 e3 e4 e5 e6
  cases a
  simp only at hd ht
  rw [hd, ht]
end Go.Proofs.Ytbiheajnmjbdoaa
namespace Go.Proofs.Ytbiheajnmjbdoaa
open Go.RowKit

/-! FormulaReplaces -/
def LB (listed : Array Bool) (j : Nat) : Prop := listed.getD j false = true
theorem LB.up {listed : Array Bool} {i j : Nat} (h : LB listed j) : LB (listed.setIfInBounds i true) j := getD_set_true h
theorem LB.dn {listed : Array Bool} {i : Nat} : ∀ j, LB (listed.setIfInBounds i true) j → LB listed j ∨ j = i := fun _ h => L_set h
theorem LB.not {listed : Array Bool} {i : Nat} (h : listed.getD i true = false) : ¬ LB listed i := fun h' => by
  unfold LB at h'
  rcases Nat.lt_or_ge i listed.size with hl | hl
  · simp [hl] at h h'; rw [h] at h'; cases h'
  · simp [Array.getElem?_eq_none hl] at h
/-- both copies are made before either is stored -/
def Cl (listed : Array Bool) : Prop := (LB listed 6 → LB listed 1 ∧ LB listed 3 ∧ LB listed 4 ∧ LB listed 5) ∧ (LB listed 7 → LB listed 1 ∧ LB listed 3 ∧ LB listed 4 ∧ LB listed 5)
theorem Cl.set {listed : Array Bool} {i : Nat} (h : Cl listed) (h6 : i = 6 → LB listed 1 ∧ LB listed 3 ∧ LB listed 4 ∧ LB listed 5) (h7 : i = 7 → LB listed 1 ∧ LB listed 3 ∧ LB listed 4 ∧ LB listed 5) : Cl (listed.setIfInBounds i true) := by
  constructor
  · intro h'
    have h2 : LB listed 1 ∧ LB listed 3 ∧ LB listed 4 ∧ LB listed 5 := (LB.dn 6 h').elim h.1 (fun e => h6 e.symm)
    exact ⟨h2.1.up, h2.2.1.up, h2.2.2.1.up, h2.2.2.2.up⟩
  · intro h'
    have h2 : LB listed 1 ∧ LB listed 3 ∧ LB listed 4 ∧ LB listed 5 := (LB.dn 7 h').elim h.2 (fun e => h7 e.symm)
    exact ⟨h2.1.up, h2.2.1.up, h2.2.2.1.up, h2.2.2.2.up⟩
set_option maxHeartbeats 8000000 in
set_option maxRecDepth 20000 in
theorem replaces_any (s : List UInt8) (t tb : Tr) (v vb : Value) (w : World) (hs : s.length ≤ 9223372036854775807) (hw : wide t = true) (hwb : wide tb = true) (hT : TrO w (fun b => b < w.heap.size) t v) (hTb : TrO w (fun b => b < w.heap.size) tb vb) :
    Calls Try.prog 7 #[v, .string (txt s), vb] w fun e w' => e = .returned (.bool true) ∧ Fr nob w w' := by
  obtain ⟨op, nm, a, nk, cp, rfl⟩ := hT.form
  obtain ⟨ob, nmb, ab, nb, cb, rfl⟩ := hTb.form
  obtain ⟨W1, hW1⟩ : ∃ W1, (w.alloc (.cells #[.int .u8 (op : Int), .string (txt nm), .slice a nk cp] 25)).alloc (.cells #[.int .u8 (ob : Int), .string (txt nmb), .slice ab nb cb] 25) = W1 := ⟨_, rfl⟩
  have A1 : Fr nob w W1 := by rw [← hW1]; exact ((Fr.refl nob w).alloc _).alloc _
  have hbx : Box3 W1 w.heap.size (.int .u8 (op : Int)) (.string (txt nm)) (.slice a nk cp) := by
    rw [← hW1]; exact (Box3.new w _ _ _ _).kept ((Fr.refl nob _).alloc _) (fun h => h)
  have hby : Box3 W1 (w.heap.size + 1) (.int .u8 (ob : Int)) (.string (txt nmb)) (.slice ab nb cb) := by
    have h := Box3.new (w.alloc (.cells #[.int .u8 (op : Int), .string (txt nm), .slice a nk cp] 25)) (.int .u8 (ob : Int)) (.string (txt nmb)) (.slice ab nb cb) 25
    rw [hW1, World.size_alloc] at h; exact h
  have hT1 := hT.kept (T := fun b => b < w.heap.size) A1 (fun b h _ => ⟨fun h => h, h⟩)
  have hTb1 := hTb.kept (T := fun b => b < w.heap.size) A1 (fun b h _ => ⟨fun h => h, h⟩)
  have hG : Calls Try.prog 14 #[.agg #[.int .u8 (op : Int), .string (txt nm), .slice a nk cp], .int .i64 100] _ _ := great_any t _ _ W1 100 (by decide) hw hT1
  have HW := Lib.hid wakes_any
  have HWD := Lib.hid hw
  have HWDB := Lib.hid hwb
  have HT1 := Lib.hid hT1
  have HTB1 := Lib.hid hTb1
  have HBX := Lib.hid hbx
  have HBY := Lib.hid hby
  have HF1 := Lib.hid A1
  have ⟨b0, b1, b2, _⟩ := hbx
  clear hT hTb A1 hbx hby hT1 hTb1 hw hwb
  go_enter Try.func7, Try.ntmps7
  go_upto_region 1 with fail
  (try rw [hW1])
  clear hW1
  cases hgr : greatB t 100 with
  | true =>
    rw [hgr] at hG
    go_wp2_with (first | (go_at_call 14; with_reducible refine hG.mono ?_; rintro e w2 ⟨rfl, F2⟩) | (go_at_call 10; refine (HW.out _).mono ?_; rintro e w3 ⟨rfl, F3⟩) | fail)
    go_ret
    exact ⟨rfl, (HF1.out.trans F2 (fun _ _ h => h)).trans F3 (fun _ _ h => h)⟩
  | false =>
    rw [hgr] at hG
    have HM := Lib.hid (mild_of hgr)
    clear hgr
    go_wp2_with fail
    with_reducible refine hG.mono ?_
    rintro e w2 ⟨rfl, F2⟩
    have F2' := HF1.out.trans F2 (fun _ _ h => h)
    have HBX2 := Lib.hid (HBX.out.kept F2 (fun h => h))
    have HBY2 := Lib.hid (HBY.out.kept F2 (fun h => h))
    have HT2 := Lib.hid (HT1.out.kept (T := fun b => b < w.heap.size) F2 (fun b h _ => ⟨fun h => h, h⟩))
    have hTb2 := HTB1.out.kept (T := fun b => b < w.heap.size) F2 (fun b h _ => ⟨fun h => h, h⟩)
    have HTB2 := Lib.hid hTb2
    have HF2 := Lib.hid F2'
    have hGb : Calls Try.prog 14 #[.agg #[.int .u8 (ob : Int), .string (txt nmb), .slice ab nb cb], .int .i64 100] _ _ := great_any tb _ _ w2 100 (by decide) HWDB.out hTb2
    have ⟨y0, y1, y2, _⟩ := HBY2.out
    clear F2 F2' hG b0 b1 b2 HBX HBY HT1 HTB1 HF1 hTb2
    cases hgb : greatB tb 100 with
    | true =>
      rw [hgb] at hGb
      go_wp2_with (first | (go_at_call 14; with_reducible refine hGb.mono ?_; rintro e w3 ⟨rfl, F3⟩) | (go_at_call 10; refine (HW.out _).mono ?_; rintro e w4 ⟨rfl, F4⟩) | fail)
      go_ret
      exact ⟨rfl, (HF2.out.trans F3 (fun _ _ h => h)).trans F4 (fun _ _ h => h)⟩
    | false =>
      rw [hgb] at hGb
      have HMB := Lib.hid (mild_of hgb)
      clear hgb
      go_wp2_with fail
      with_reducible refine hGb.mono ?_
      rintro e w3 ⟨rfl, F3⟩
      have HBX3 := Lib.hid (HBX2.out.kept F3 (fun h => h))
      have HBY3 := Lib.hid (HBY2.out.kept F3 (fun h => h))
      have HT3 := Lib.hid (HT2.out.kept (T := fun b => b < w.heap.size) F3 (fun b h _ => ⟨fun h => h, h⟩))
      have HTB3 := Lib.hid (HTB2.out.kept (T := fun b => b < w.heap.size) F3 (fun b h _ => ⟨fun h => h, h⟩))
      have HF3 := Lib.hid (HF2.out.trans F3 (fun _ _ h => h))
      clear F3 hGb y0 y1 y2 HBX2 HBY2 HT2 HTB2 HF2
      have hsz : (txt s).size = s.length := txt_size s
      have ⟨b0, b1, b2, _⟩ := HBX3.out
      have hz3 := HF3.out.size
      have hR := row_any2 _ t (Nat.lt_succ_self _) _ (fun b => b < w.heap.size) w3 HWD.out (by have := HM.out.len; omega) (fun b h => by have h : b < w.heap.size := h; omega) HT3.out
      clear hz3 hsz
      rcases (show 100 < s.length ∨ (s.length ≤ 100 ∧ (preP t).length ≤ 100) ∨ (s.length ≤ 100 ∧ 100 < (preP t).length ∧ 100 < (preP tb).length) ∨ (s.length ≤ 100 ∧ 100 < (preP t).length ∧ (preP tb).length ≤ 100) by omega) with hc | hc | hc | hc
      case inl =>
        have q0 : (100 : Int) < (s.length : Int) := by omega
        clear hc
        go_wp2_with (first | (go_at_call 10; refine (HW.out _).mono ?_; rintro e w4 ⟨rfl, F4⟩) | fail)
        go_ret
        exact ⟨rfl, HF3.out.trans F4 (fun _ _ h => h)⟩
      case inr.inr.inl =>
        have q0 : ¬ (100 : Int) < (s.length : Int) := by omega
        obtain ⟨nT, hnT⟩ : ∃ nT, (preP t).length = nT := ⟨_, rfl⟩
        have q1 : (100 : Int) < (nT : Int) := by omega
        obtain ⟨nB, hnB⟩ : ∃ nB, (preP tb).length = nB := ⟨_, rfl⟩
        have q2 : (100 : Int) < (nB : Int) := by omega
        unfold RowPost at hR
        rw [hnT] at hR
        have HNB := Lib.hid hnB
        clear hc hnT hnB
        go_wp2_with fail
        with_reducible refine hR.mono ?_
        rintro e wq ⟨gq, capq, cellsq, rfl, _, _, Fq⟩
        have hFq := HF3.out.trans Fq (fun _ _ h => h)
        have hzq := hFq.size
        have ⟨y0, y1, y2, _⟩ := HBY3.out.kept Fq (fun h => h)
        have hR2 := row_any2 _ tb (Nat.lt_succ_self _) _ (fun b => b < w.heap.size) wq HWDB.out (by have := HMB.out.len; omega) (fun b h => by have h : b < w.heap.size := h; omega) (HTB3.out.kept (T := fun b => b < w.heap.size) Fq (fun b h _ => ⟨fun h => h, h⟩))
        unfold RowPost at hR2
        rw [HNB.out] at hR2
        have HFq := Lib.hid hFq
        clear hzq hFq Fq hR b0 b1 b2
        go_wp2_with fail
        with_reducible refine hR2.mono ?_
        rintro e w4 ⟨g4, cap4, cells4, rfl, _, _, F4⟩
        have HF4 := Lib.hid (HFq.out.trans F4 (fun _ _ h => h))
        clear F4 hR2 y0 y1 y2
        go_wp2_with (first | (go_at_call 10; refine (HW.out _).mono ?_; rintro e w5 ⟨rfl, F5⟩) | fail)
        go_ret
        exact ⟨rfl, HF4.out.trans F5 (fun _ _ h => h)⟩
      case' inr.inl =>
        have q0 : ¬ (100 : Int) < (s.length : Int) := by omega
        obtain ⟨nT, hnT⟩ : ∃ nT, (preP t).length = nT := ⟨_, rfl⟩
        have q1 : ¬ (100 : Int) < (nT : Int) := by omega
        have HOR : Hid ((preP t).length ≤ 100 ∨ (preP tb).length ≤ 100) := Lib.hid (by omega)
        unfold RowPost at hR
        rw [hnT] at hR
        clear hc hnT
        go_upto_region 3 with (first | (go_at_call 23; with_reducible refine hR.mono ?_; rintro e w4 ⟨g4, cap4, cells4, rfl, _, _, F4⟩) | fail)
        clear q1
      case' inr.inr.inr =>
        have q0 : ¬ (100 : Int) < (s.length : Int) := by omega
        obtain ⟨nT, hnT⟩ : ∃ nT, (preP t).length = nT := ⟨_, rfl⟩
        have q1 : (100 : Int) < (nT : Int) := by omega
        obtain ⟨nB, hnB⟩ : ∃ nB, (preP tb).length = nB := ⟨_, rfl⟩
        have q2 : ¬ (100 : Int) < (nB : Int) := by omega
        have HOR : Hid ((preP t).length ≤ 100 ∨ (preP tb).length ≤ 100) := Lib.hid (by omega)
        unfold RowPost at hR
        rw [hnT] at hR
        have HNB := Lib.hid hnB
        clear hc hnT hnB
        go_wp2_with fail
        with_reducible refine hR.mono ?_
        rintro e wq ⟨gq, capq, cellsq, rfl, _, _, Fq⟩
        have hFq := HF3.out.trans Fq (fun _ _ h => h)
        have hzq := hFq.size
        have ⟨y0, y1, y2, _⟩ := HBY3.out.kept Fq (fun h => h)
        have hR2 := row_any2 _ tb (Nat.lt_succ_self _) _ (fun b => b < w.heap.size) wq HWDB.out (by have := HMB.out.len; omega) (fun b h => by have h : b < w.heap.size := h; omega) (HTB3.out.kept (T := fun b => b < w.heap.size) Fq (fun b h _ => ⟨fun h => h, h⟩))
        unfold RowPost at hR2
        rw [HNB.out] at hR2
        have HFq := Lib.hid Fq
        clear hzq hFq Fq
        go_upto_region 3 with (first | (go_at_call 23; with_reducible refine hR2.mono ?_; rintro e w4 ⟨g4, cap4, cells4, rfl, _, _, Fr4⟩) | fail)
        have F4 := HFq.out.trans Fr4 (fun _ _ h => h)
        clear q1 q2 HNB HFq Fr4 hR2 y0 y1 y2
      all_goals (
        have hF4 := HF3.out.trans F4 (fun _ _ h => h)
        have HBX4 := Lib.hid (HBX3.out.kept F4 (fun h => h))
        have HBY4 := Lib.hid (HBY3.out.kept F4 (fun h => h))
        have HT4 := Lib.hid (HT3.out.kept (T := fun b => b < w.heap.size) F4 (fun b h _ => ⟨fun h => h, h⟩))
        have HTB4 := Lib.hid (HTB3.out.kept (T := fun b => b < w.heap.size) F4 (fun b h _ => ⟨fun h => h, h⟩))
        have HF4 := Lib.hid hF4
        clear F4 hF4 hR b0 b1 b2 HBX3 HBY3 HT3 HTB3 HF3
        refine wp_region_inv' (by kernel_rfl) (by kernel_rfl) (fun A0 W0 listed a' w' => CIR t tb W0.drew A0 (.agg #[.int .u8 (op : Int), .string (txt nm), .slice a nk cp]) (.agg #[.int .u8 (ob : Int), .string (txt nmb), .slice ab nb cb]) (LB listed) a' w' ∧ Cl listed) ?_ ?_ ?_
        · refine ⟨⟨rfl, rfl, fun u _ _ _ _ _ _ => rfl, Fr.refl _ _, ?_, ?_, ?_, ?_, ?_, ?_, ?_, ?_, ?_⟩, ?_, ?_⟩
          all_goals first | (intro h; exact absurd h (by simp [LB])) | (intro b h; cases h)
        · intro listed a' w' i hI hi
          obtain ⟨hI, hCl⟩ := hI
          obtain ⟨h0, o, ho, hall⟩ := mem_ready.1 hi
          have hlt : i < 8 := (Array.getElem?_eq_some_iff.1 ho).1
          have hsz : a'.tmps.size = 76 := hI.sz.trans rfl
          have hA3 : a'.tmps[(3 : Nat)]? = some (pt w.heap.size) := (hI.ot 3 (by decide) (by decide) (by decide) (by decide) (by decide) (by decide)).trans rfl
          have hA5 : a'.tmps[(5 : Nat)]? = some (pt (w.heap.size + 1)) := (hI.ot 5 (by decide) (by decide) (by decide) (by decide) (by decide) (by decide)).trans rfl
          have hFr : Fr nob w4 w' := ((Fr.refl nob w4).drew).trans hI.fr (fun _ _ h => h)
          have hX := HBX4.out.kept hFr (fun h => h)
          have hY := HBY4.out.kept hFr (fun h => h)
          have hszw := (HF4.out.trans hFr (fun _ _ h => h)).size
          have hTt := HT4.out.kept (T := fun b => b < w.heap.size) hFr (fun b h _ => ⟨fun h => h, h⟩)
          have hTtb := HTB4.out.kept (T := fun b => b < w.heap.size) hFr (fun b h _ => ⟨fun h => h, h⟩)
          rcases (show i = 0 ∨ i = 1 ∨ i = 2 ∨ i = 3 ∨ i = 4 ∨ i = 5 ∨ i = 6 ∨ i = 7 by omega) with rfl | rfl | rfl | rfl | rfl | rfl | rfl | rfl
          all_goals (obtain rfl := Option.some.inj ho)
          · refine inv_val rfl rfl (load3 3 37 _ a' w' _ _ _ _ _ (getD_of hA3) ⟨_, rfl⟩ ⟨_, rfl⟩ ⟨_, _, _, rfl⟩ hX.c0 hX.c1 hX.c2) ⟨ciR_0 hI LB.dn (by omega), hCl.set (fun e => by cases e) (fun e => by cases e)⟩
          · have L0 : LB listed 0 := hall ⟨0, .data⟩ (by simp) rfl
            refine inv_call rfl rfl (call1 37 38 _ a' w' _ _ (getD_of (hI.x L0))) ?_
            refine (cop_any _ t (Nat.lt_succ_self _) _ (fun b => b < w.heap.size) w' HWD.out (by have := HM.out.len; omega) (fun b h => by have h : b < w.heap.size := h; omega) hTt).mono ?_
            rintro e w5 ⟨v5, rfl, hT5, F5⟩
            exact ⟨v5, rfl, ciR_1 hI LB.dn (by omega) (fun h => LB.not h0 (hCl.1 h).1) F5 hT5, hCl.set (fun e => by cases e) (fun e => by cases e)⟩
          · refine inv_val rfl rfl (load3 5 39 _ a' w' _ _ _ _ _ (getD_of hA5) ⟨_, rfl⟩ ⟨_, rfl⟩ ⟨_, _, _, rfl⟩ hY.c0 hY.c1 hY.c2) ⟨ciR_2 hI LB.dn (by omega), hCl.set (fun e => by cases e) (fun e => by cases e)⟩
          · have L2 : LB listed 2 := hall ⟨2, .data⟩ (by simp) rfl
            refine inv_call rfl rfl (call1 39 40 _ a' w' _ _ (getD_of (hI.y L2))) ?_
            refine (cop_any _ tb (Nat.lt_succ_self _) _ (fun b => b < w.heap.size) w' HWDB.out (by have := HMB.out.len; omega) (fun b h => by have h : b < w.heap.size := h; omega) hTtb).mono ?_
            rintro e w5 ⟨v5, rfl, hT5, F5⟩
            exact ⟨v5, rfl, ciR_3 hI LB.dn (by omega) (fun h => LB.not h0 (hCl.2 h).2.1) F5 hT5, hCl.set (fun e => by cases e) (fun e => by cases e)⟩
          · exact inv_val rfl rfl (alloc3 7 _ a' w' _) ⟨ciR_4 hI LB.dn (by omega) (fun h => LB.not h0 (hCl.1 h).2.2.1), hCl.set (fun e => by cases e) (fun e => by cases e)⟩
          · exact inv_val rfl rfl (alloc3 8 _ a' w' _) ⟨ciR_5 hI LB.dn (by omega) (fun h => LB.not h0 (hCl.2 h).2.2.2), hCl.set (fun e => by cases e) (fun e => by cases e)⟩
          · have L4 : LB listed 4 := hall ⟨4, .data⟩ (by simp) rfl
            have L1 : LB listed 1 := hall ⟨1, .data⟩ (by simp) rfl
            have L3 : LB listed 3 := hall ⟨3, .chain⟩ (by simp) rfl
            have L5 : LB listed 5 := hall ⟨5, .phase⟩ (by simp) rfl
            obtain ⟨b, x, y, z, h1, h2, h3, _⟩ := hI.p L4
            obtain ⟨v5, g1, g2⟩ := hI.v L1
            obtain ⟨o5, nm5, a5, n5, c5, rfl⟩ := g2.form
            exact inv_skip rfl rfl rfl (store3 7 38 _ a' w' b x y z _ _ _ _ (getD_of h1) (getD_of g1) ⟨_, rfl⟩ ⟨_, rfl⟩ ⟨_, _, _, rfl⟩ h3) ⟨ciR_6 hI LB.dn L4 L5 h1 h2 h3 g1, hCl.set (fun _ => ⟨L1, L3, L4, L5⟩) (fun e => by cases e)⟩
          · have L5 : LB listed 5 := hall ⟨5, .data⟩ (by simp) rfl
            have L3 : LB listed 3 := hall ⟨3, .data⟩ (by simp) rfl
            have L6 : LB listed 6 := hall ⟨6, .chain⟩ (by simp) rfl
            obtain ⟨L1, _, L4, _⟩ := hCl.1 L6
            obtain ⟨b, x, y, z, h1, h2, h3, _⟩ := hI.q L5
            obtain ⟨v5, g1, g2⟩ := hI.u L3
            obtain ⟨o5, nm5, a5, n5, c5, rfl⟩ := g2.form
            exact inv_skip rfl rfl rfl (store3 8 40 _ a' w' b x y z _ _ _ _ (getD_of h1) (getD_of g1) ⟨_, rfl⟩ ⟨_, rfl⟩ ⟨_, _, _, rfl⟩ h3) ⟨ciR_7 hI LB.dn L4 L5 h1 h2 h3 g1, hCl.set (fun e => by cases e) (fun _ => ⟨L1, L3, L4, L5⟩)⟩
        · intro listed a' w5 hI hall
          obtain ⟨hI, _⟩ := hI
          have L : ∀ j, j < 8 → LB listed j := fun j hj => hall j hj
          obtain ⟨b7, x7, y7, z7, h1, h2, h3, h4⟩ := hI.p (L 4 (by decide))
          obtain ⟨b8, x8, y8, z8, k1, k2, k3, k4⟩ := hI.q (L 5 (by decide))
          obtain ⟨v5, g1, g2⟩ := hI.v (L 1 (by decide))
          obtain ⟨u5, j1, j2⟩ := hI.u (L 3 (by decide))
          have e1 := h4 (L 6 (by decide))
          have e2 := k4 (L 7 (by decide))
          rw [g1] at e1
          rw [j1] at e2
          obtain rfl := Option.some.inj e1
          obtain rfl := Option.some.inj e2
          have ha := actR hI (hI.x (L 0 (by decide))) g1 (hI.y (L 2 (by decide))) j1 h1 k1
          have hFr : Fr nob w4 w5 := ((Fr.refl nob w4).drew).trans hI.fr (fun _ _ h => h)
          have hlt8 := k3.lt
          have hlt7 := h3.lt
          obtain ⟨o7, nm7, a7, n7, c7, hform7⟩ := g2.form
          obtain ⟨rfl, rfl, rfl⟩ : x7 = .int .u8 (o7 : Int) ∧ y7 = .string (txt nm7) ∧ z7 = .slice a7 n7 c7 := by simpa using hform7
          obtain ⟨o8, nm8, a8, n8, c8, hform8⟩ := j2.form
          obtain ⟨rfl, rfl, rfl⟩ : x8 = .int .u8 (o8 : Int) ∧ y8 = .string (txt nm8) ∧ z8 = .slice a8 n8 c8 := by simpa using hform8
          have HX5 := Lib.hid (HBX4.out.kept hFr (fun h => h))
          have HY5 := Lib.hid (HBY4.out.kept hFr (fun h => h))
          have HT5 := Lib.hid (HT4.out.kept (T := fun b => b < w.heap.size) hFr (fun b h _ => ⟨fun h => h, h⟩))
          have HTB5 := Lib.hid (HTB4.out.kept (T := fun b => b < w.heap.size) hFr (fun b h _ => ⟨fun h => h, h⟩))
          have HF5 := Lib.hid (HF4.out.trans hFr (fun _ _ h => h))
          have HP5 := Lib.hid h3
          have HQ5 := Lib.hid k3
          have HV5 := Lib.hid (g2.toO.kept (T := fun b => b < w5.heap.size) (Fr.refl nob w5) (fun b _ h' => ⟨fun h => h, h'⟩))
          have HU5 := Lib.hid (j2.toO.kept (T := fun b => b < w5.heap.size) (Fr.refl nob w5) (fun b _ h' => ⟨fun h => h, h'⟩))
          have HGE := Lib.hid (And.intro h2 k2)
          clear hI L hall h1 h2 h3 h4 k1 k2 k3 k4 g1 g2 j1 j2 e1 e2 hFr hform7 hform8 hlt7 hlt8 HBX4 HBY4 HT4 HTB4 HF4
          subst ha
          simp only [Act.put, List.setIfInBounds_toArray, List.set_cons_succ, List.set_cons_zero]
          simp only [pt] at *
          have HMR := Lib.hid (rep_mod (s := s) HM.out HMB.out HOR.out)
          have ⟨p0, p1, p2, _⟩ := HP5.out
          have ⟨q3, q4, q5, _⟩ := HQ5.out
          have hRv := replace_any s t tb _ _ (fun b => b < w5.heap.size) w5 hs HM.out.mod HMB.out.mod HMR.out (fun b h => h) HV5.out HU5.out
          obtain ⟨r1, r2, hrv⟩ : ∃ r1 r2, rvP s t tb = (r1, r2) := ⟨_, _, rfl⟩
          rw [hrv] at hRv
          unfold RvPost at hRv
          have HRV := Lib.hid hrv
          clear hrv
          go_wp2_with fail
          refine hRv.mono ?_
          rintro e w6 ⟨v6, rfl, hT6, F6⟩
          obtain ⟨o6, nm6, a6, n6, c6, hform⟩ := hT6.form
          subst hform
          have A7 : Fr nob w6 (w6.alloc (.cells #[.int .u8 (o6 : Int), .string (txt nm6), .slice a6 n6 c6] 25)) := (Fr.refl nob w6).alloc _
          have G7 := F6.trans A7 (fun _ _ h => h)
          have HN7 := Lib.hid (Box3.new w6 (.int .u8 (o6 : Int)) (.string (txt nm6)) (.slice a6 n6 c6) 25)
          have HM7 := Lib.hid (hT6.toV.toO.kept (T := fun b => b < w6.heap.size) A7 (fun b h _ => ⟨fun h => h, h.2⟩))
          have HX7 := Lib.hid (HX5.out.kept G7 (fun h => h))
          have HY7 := Lib.hid (HY5.out.kept G7 (fun h => h))
          have HP7 := Lib.hid (HP5.out.kept G7 (fun h => h))
          have HQ7 := Lib.hid (HQ5.out.kept G7 (fun h => h))
          have HT7 := Lib.hid (HT5.out.kept (T := fun b => b < w.heap.size) G7 (fun b h _ => ⟨fun h => h, h⟩))
          have HTB7 := Lib.hid (HTB5.out.kept (T := fun b => b < w.heap.size) G7 (fun b h _ => ⟨fun h => h, h⟩))
          have HV7 := Lib.hid (HV5.out.kept (T := fun b => b < w5.heap.size) G7 (fun b h _ => ⟨fun h => h, h⟩))
          have HU7 := Lib.hid (HU5.out.kept (T := fun b => b < w5.heap.size) G7 (fun b h _ => ⟨fun h => h, h⟩))
          have HF7 := Lib.hid (HF5.out.trans G7 (fun _ _ h => h))
          clear hRv hT6 F6 A7 G7 p0 p1 p2 q3 q4 q5 HX5 HY5 HP5 HQ5 HT5 HTB5 HV5 HU5 HF5 HGE
          go_upto_region 5 with fail
          generalize w6.alloc (.cells #[.int .u8 (o6 : Int), .string (txt nm6), .slice a6 n6 c6] 25) = w7 at *
          have ⟨b0, b1, b2, _⟩ := HX7.out
          have ⟨y0, y1, y2, _⟩ := HY7.out
          have hz7 := HF7.out.size
          have hRr := rreplace_any s t tb _ _ (fun b => b < w.heap.size) w7 hs HM.out.mod HMB.out.mod HMR.out (fun b h => by have h : b < w.heap.size := h; omega) HT7.out HTB7.out
          rw [HRV.out] at hRr
          unfold RrPost at hRr
          clear hz7
          go_wp2_with fail
          refine hRr.mono ?_
          rintro e w8 ⟨v8, rfl, hT8, F8⟩
          obtain ⟨o9, nm9, a9, n9, c9, hform⟩ := hT8.form
          subst hform
          have A9 : Fr nob w8 (w8.alloc (.cells #[.int .u8 (o9 : Int), .string (txt nm9), .slice a9 n9 c9] 25)) := (Fr.refl nob w8).alloc _
          have G9 := F8.trans A9 (fun _ _ h => h)
          have HR9 := Lib.hid (Box3.new w8 (.int .u8 (o9 : Int)) (.string (txt nm9)) (.slice a9 n9 c9) 25)
          have HS9 := Lib.hid (hT8.kept (T := fun _ => True) A9 (fun b h _ => ⟨fun h => h, trivial⟩))
          have HN9 := Lib.hid (HN7.out.kept G9 (fun h => h))
          have HM9 := Lib.hid (HM7.out.kept (T := fun _ => True) G9 (fun b h _ => ⟨fun h => h, trivial⟩))
          have HX9 := Lib.hid (HX7.out.kept G9 (fun h => h))
          have HY9 := Lib.hid (HY7.out.kept G9 (fun h => h))
          have HP9 := Lib.hid (HP7.out.kept G9 (fun h => h))
          have HQ9 := Lib.hid (HQ7.out.kept G9 (fun h => h))
          have HT9 := Lib.hid (HT7.out.kept (T := fun _ => True) G9 (fun b h _ => ⟨fun h => h, trivial⟩))
          have HTB9 := Lib.hid (HTB7.out.kept (T := fun _ => True) G9 (fun b h _ => ⟨fun h => h, trivial⟩))
          have HV9 := Lib.hid (HV7.out.kept (T := fun _ => True) G9 (fun b h _ => ⟨fun h => h, trivial⟩))
          have HU9 := Lib.hid (HU7.out.kept (T := fun _ => True) G9 (fun b h _ => ⟨fun h => h, trivial⟩))
          have HF9 := Lib.hid (HF7.out.trans G9 (fun _ _ h => h))
          have hw2 : wide r2 = true := by
            have h : (rvP s t tb).2 = r2 := congrArg Prod.snd HRV.out
            unfold rvP at h
            split at h
            · rw [← h]; rfl
            split at h
            · rw [← h]; rfl
            split at h
            · rw [← h]; rfl
            · rw [← h]; exact HMR.out.wide
          have HWR := Lib.hid hw2
          clear hRr hT8 F8 A9 G9 b0 b1 b2 y0 y1 y2 HN7 HM7 HX7 HY7 HP7 HQ7 HT7 HTB7 HV7 HU7 HF7 hw2
          go_upto_region 6 with fail
          generalize w8.alloc (.cells #[.int .u8 (o9 : Int), .string (txt nm9), .slice a9 n9 c9] 25) = w9 at *
          have ⟨i0, i1, i2, _⟩ := HN9.out
          have ⟨j0, j1, j2, _⟩ := HR9.out
          have hS9 := same_any _ r2 (Nat.lt_succ_self _) r2 _ _ _ _ w9 HWR.out HWR.out HM9.out HS9.out
          rw [sameP_refl] at hS9
          go_wp2_with fail
          with_reducible refine hS9.mono ?_
          rintro e w10 ⟨rfl, F10⟩
          have ⟨p0, p1, p2, _⟩ := HP9.out.kept F10 (fun h => h)
          have ⟨b0, b1, b2, _⟩ := HX9.out.kept F10 (fun h => h)
          have hS10 := same_any _ t (Nat.lt_succ_self _) t _ _ _ _ w10 HWD.out HWD.out (HV9.out.kept (T := fun _ => True) F10 (fun b h _ => ⟨fun h => h, trivial⟩)) (HT9.out.kept (T := fun _ => True) F10 (fun b h _ => ⟨fun h => h, trivial⟩))
          rw [sameP_refl] at hS10
          have HF10 := Lib.hid F10
          clear hS9 F10 i0 i1 i2 j0 j1 j2
          go_wp2_with fail
          with_reducible refine hS10.mono ?_
          rintro e w11 ⟨rfl, F11⟩
          have G11 := HF10.out.trans F11 (fun _ _ h => h)
          have ⟨q3, q4, q5, _⟩ := HQ9.out.kept G11 (fun h => h)
          have ⟨y0, y1, y2, _⟩ := HY9.out.kept G11 (fun h => h)
          have hS11 := same_any _ tb (Nat.lt_succ_self _) tb _ _ _ _ w11 HWDB.out HWDB.out (HU9.out.kept (T := fun _ => True) G11 (fun b h _ => ⟨fun h => h, trivial⟩)) (HTB9.out.kept (T := fun _ => True) G11 (fun b h _ => ⟨fun h => h, trivial⟩))
          rw [sameP_refl] at hS11
          have HF11 := Lib.hid (HF9.out.trans G11 (fun _ _ h => h))
          clear hS10 F11 G11 p0 p1 p2 b0 b1 b2
          go_wp2_with fail
          with_reducible refine hS11.mono ?_
          rintro e w12 ⟨rfl, F12⟩
          have HF12 := Lib.hid (HF11.out.trans F12 (fun _ _ h => h))
          clear hS11 F12 q3 q4 q5 y0 y1 y2
          go_wp2_with (first | (go_at_call 10; refine (HW.out _).mono ?_; rintro e w13 ⟨rfl, F13⟩) | fail)
          go_ret
          exact ⟨rfl, HF12.out.trans F13 (fun _ _ h => h)⟩)
end Go.Proofs.Ytbiheajnmjbdoaa
