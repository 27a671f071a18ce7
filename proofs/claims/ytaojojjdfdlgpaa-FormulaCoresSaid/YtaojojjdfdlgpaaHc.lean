import Derived.Test.YtaojojjdfdlgpaaHa
namespace Go.Proofs.Ytaojojjdfdlgpaa
open Go.RowKit
namespace Uq
/-! a core, one clause after another -/
section
variable {α β : Type}
def allS (e : α → β → Bool) (l : List (Nat × α)) (f : β) : Bool := l.all fun x => e x.2 f
theorem allS_app (e : α → β → Bool) (a b : List (Nat × α)) (f : β) : allS e (a ++ b) f = (allS e a f && allS e b f) := by unfold allS; rw [List.all_append]
theorem allS_cons (e : α → β → Bool) (x : Nat × α) (b : List (Nat × α)) (f : β) : allS e (x :: b) f = (e x.2 f && allS e b f) := rfl
inductive Gr (e : α → β → Bool) : (β → Bool) → List (Nat × α) → List (Nat × α) → Prop where
  | nil (c : β → Bool) : Gr e c [] []
  | drop {c : β → Bool} {x : Nat × α} {s k : List (Nat × α)} : (∀ f, (c f && allS e s f) = false) → Gr e c s k → Gr e c (x :: s) k
  | keep {c : β → Bool} {x : Nat × α} {s k : List (Nat × α)} : ¬ (∀ f, (c f && allS e s f) = false) → Gr e (fun f => c f && e x.2 f) s k → Gr e c (x :: s) (x :: k)
theorem Gr.det {e : α → β → Bool} {c : β → Bool} {s k : List (Nat × α)} (h : Gr e c s k) : ∀ {k' : List (Nat × α)}, Gr e c s k' → k = k' := by
  induction h with
  | nil => intro k' h'; cases h'; rfl
  | drop h1 _ ih =>
    intro k' h'
    cases h' with
    | drop _ h3 => exact ih h3
    | keep h2 _ => exact absurd h1 h2
  | keep h1 _ ih =>
    intro k' h'
    cases h' with
    | drop h2 _ => exact absurd h2 h1
    | keep _ h3 => rw [ih h3]
theorem Gr.congr {e : α → β → Bool} {c c' : β → Bool} {s k : List (Nat × α)} (h : Gr e c s k) (hc : ∀ f, c f = c' f) : Gr e c' s k := by
  have : c = c' := funext hc
  rw [← this]; exact h
theorem Gr.append {e : α → β → Bool} : ∀ {A B kA kB : List (Nat × α)} {c : β → Bool}, Gr e (fun f => c f && allS e B f) A kA → Gr e (fun f => c f && allS e kA f) B kB → Gr e c (A ++ B) (kA ++ kB)
  | [], B, kA, kB, c, h1, h2 => by
    cases h1
    exact h2.congr fun f => by simp [allS]
  | x :: A, B, kA, kB, c, h1, h2 => by
    cases h1 with
    | drop h3 h4 =>
      refine .drop (fun f => ?_) (Gr.append h4 h2)
      have h5 : (c f && allS e B f && allS e A f) = false := h3 f
      have h6 : allS e (A.append B) f = (allS e A f && allS e B f) := allS_app e A B f
      rw [h6, ← h5]
      cases c f <;> cases allS e A f <;> cases allS e B f <;> rfl
    | keep h3 h4 =>
      refine .keep (fun h5 => h3 fun f => ?_) (Gr.append (h4.congr fun f => ?_) (h2.congr fun f => ?_))
      · have h7 : (c f && allS e (A.append B) f) = false := h5 f
        have h6 : allS e (A.append B) f = (allS e A f && allS e B f) := allS_app e A B f
        rw [h6] at h7
        show (c f && allS e B f && allS e A f) = false
        rw [← h7]
        cases c f <;> cases allS e A f <;> cases allS e B f <;> rfl
      · show (c f && allS e B f && e x.2 f) = (c f && e x.2 f && allS e B f)
        cases c f <;> cases allS e B f <;> cases e x.2 f <;> rfl
      · show (c f && allS e (x :: _) f) = (c f && e x.2 f && allS e _ f)
        rw [allS_cons]
        exact (Bool.and_assoc _ _ _).symm
theorem Gr.dead {e : α → β → Bool} {c : β → Bool} (h : ∀ f, c f = false) : ∀ (s : List (Nat × α)), Gr e c s []
  | [] => .nil c
  | _ :: s => .drop (fun f => by rw [h f]; rfl) (Gr.dead h s)
theorem Gr.one {e : α → β → Bool} {c : β → Bool} (h : ¬ ∀ f, c f = false) (x : Nat × α) : Gr e c [x] [x] :=
  .keep (fun h2 => h fun f => by have := h2 f; simpa [allS] using this) (.nil _)
theorem Gr.sub {e : α → β → Bool} {c : β → Bool} {s k : List (Nat × α)} (h : Gr e c s k) : k.Sublist s := by
  induction h with
  | nil => exact .slnil
  | drop _ _ ih => exact .cons _ ih
  | keep _ _ ih => exact List.Sublist.cons_cons _ ih
theorem allS_sub {e : α → β → Bool} {s k : List (Nat × α)} (h : k.Sublist s) {f : β} (hs : allS e s f = true) : allS e k f = true := by
  unfold allS at *
  rw [List.all_eq_true] at *
  exact fun x hx => hs x (h.subset hx)
theorem Gr.unsat {e : α → β → Bool} {c : β → Bool} {s k : List (Nat × α)} (h : Gr e c s k) : (∀ f, (c f && allS e s f) = false) → ∀ f, (c f && allS e k f) = false := by
  induction h with
  | nil => exact fun h => h
  | drop h1 _ ih => exact fun _ => ih h1
  | keep _ _ ih =>
    intro h2 f
    have := ih (fun f => by have := h2 f; rw [allS_cons] at this; rw [← this]; exact Bool.and_assoc _ _ _) f
    rw [allS_cons, ← this]
    exact (Bool.and_assoc _ _ _).symm
/-- none of them can be left out -/
theorem Gr.least {e : α → β → Bool} {c : β → Bool} {s k : List (Nat × α)} (h : Gr e c s k) : ∀ {k1 k2 : List (Nat × α)} {x : Nat × α}, k = k1 ++ x :: k2 → ∃ f, (c f && allS e (k1 ++ k2) f) = true := by
  induction h with
  | nil => intro k1 k2 x e; simp at e
  | drop _ _ ih => exact fun e => ih e
  | @keep c y s k h1 h2 ih =>
    intro k1 k2 x he
    match k1, he with
    | [], he =>
      simp only [List.nil_append, List.cons.injEq] at he
      obtain ⟨f, hf⟩ := Classical.not_forall.1 h1
      rw [Bool.not_eq_false, Bool.and_eq_true] at hf
      refine ⟨f, ?_⟩
      rw [Bool.and_eq_true]
      refine ⟨hf.1, ?_⟩
      rw [List.nil_append, ← he.2]
      exact allS_sub h2.sub hf.2
    | z :: k1, he =>
      simp only [List.cons_append, List.cons.injEq] at he
      obtain ⟨f, hf⟩ := ih he.2
      refine ⟨f, ?_⟩
      rw [List.cons_append, allS_cons, ← he.1, ← hf]
      exact (Bool.and_assoc _ _ _).symm
end
end Uq
open Uq

/-! Core -/
def rowL (r : List Int) (f : Nat → Bool) : Bool := rowE f r
def idx (l : List (List Int)) : List (Nat × List Int) := l.zipIdx.map fun p => (p.2, p.1)
def seg (l : List (List Int)) (a b : Nat) : List (Nat × List Int) := ((idx l).drop a).take (b - a)
theorem idx_snd (l : List (List Int)) : (idx l).map (fun x => x.2) = l := by
  unfold idx
  rw [List.map_map]
  show List.map (fun p : List Int × Nat => p.1) l.zipIdx = l
  exact List.zipIdx_map_fst 0 l
theorem seg_snd (l : List (List Int)) (a b : Nat) : (seg l a b).map (fun x => x.2) = (l.drop a).take (b - a) := by
  unfold seg
  rw [List.map_take, List.map_drop, idx_snd]
theorem seg_all (l : List (List Int)) (a b : Nat) (f : Nat → Bool) : allS rowL (seg l a b) f = ((l.drop a).take (b - a)).all (rowE f) := by
  rw [← seg_snd]
  unfold allS
  rw [List.all_map]
  rfl
theorem seg_split (l : List (List Int)) {a h b : Nat} (h1 : a ≤ h) (h2 : h ≤ b) : seg l a b = seg l a h ++ seg l h b := by
  unfold seg
  have e : b - a = (h - a) + (b - h) := by omega
  rw [e, List.take_add, List.drop_drop, show a + (h - a) = h by omega]
theorem seg_one (l : List (List Int)) {a : Nat} {r : List Int} (h : l[a]? = some r) : seg l a (a + 1) = [(a, r)] := by
  have e : (idx l)[a]? = some (a, r) := by
    unfold idx
    rw [List.getElem?_map, List.getElem?_zipIdx, h]
    simp
  unfold seg
  rw [show a + 1 - a = 1 by omega, List.take_one, List.head?_drop, e]
  rfl
structure Cor (w : World) (cb : Nat) (lv : Value) (core : List Int) (cv : Value) : Prop where
  c0 : w.cell? ⟨cb, 0, none⟩ = some lv
  c1 : w.cell? ⟨cb, 1, none⟩ = some cv
  fz : w.frozen? ⟨cb, 1, none⟩ = false
  out : Outs (cb + 1) core.length core cv w
theorem Cor.kept {w w' : World} {cb : Nat} {lv cv : Value} {core : List Int} (h : Cor w cb lv core cv) (f : Fr nob w w') : Cor w' cb lv core cv :=
  ⟨f.cell h.c0 (fun h => h), f.cell h.c1 (fun h => h), (f.frozen (p := ⟨cb, 1, none⟩) (lt_of_cell h.c1) (fun h => h)).trans h.fz, h.out.1, f.row h.out.2 (fun _ _ h => h)⟩
theorem Cor.keptS {S : Nat → Prop} {w w' : World} {cb : Nat} {lv cv : Value} {core : List Int} (h : Cor w cb lv core cv) (f : Fr S w w') (h1 : ¬ S cb) (h2 : ∀ b, cv.ownBlock = some b → ¬ S b) : Cor w' cb lv core cv :=
  ⟨f.cell h.c0 h1, f.cell h.c1 h1, (f.frozen (p := ⟨cb, 1, none⟩) (lt_of_cell h.c1) h1).trans h.fz, h.out.1, f.row h.out.2 h2⟩
def RedPost (l : List (List Int)) (first last cb : Nat) (lv cv : Value) (core : List Int) (t : Dg.Bd.B) (w : World) (e : Ending) (w' : World) : Prop :=
  ∃ (k : List (Nat × List Int)) (R : Dg.Bd.B) (cv' : Value), Gr rowL t.ev (seg l first last) k ∧ R.ok 0 ∧ (∀ f, R.ev f = allS rowL k f) ∧ e = .returned (Dg.dval R) ∧
    Cor w' cb lv (core ++ k.map fun x => (x.1 : Int)) cv' ∧ Fr (fun b => b = cb ∨ cv.ownBlock = some b) w w' ∧ (cv'.ownBlock = cv.ownBlock ∨ ∀ b, cv'.ownBlock = some b → w.heap.size ≤ b)
set_option maxRecDepth 100000 in
set_option maxHeartbeats 4000000 in
theorem reduce_step (M : Nat) (l : List (List Int)) (first last cb : Nat) (lv cv : Value) (core : List Int) (t : Dg.Bd.B) (w : World) (hM : last = first + M) (hM1 : 1 ≤ M) (hll : last ≤ l.length) (hl : l.length ≤ 4096) (hL : ∀ r ∈ l, r.length ≤ 1000000 ∧ ∀ x ∈ r, Ltr x)
    (hv : RowsO w (fun b => b < cb) l lv) (hcap : ∃ a c, lv = .slice a l.length c ∧ l.length ≤ c) (hc : Cor w cb lv core cv) (hcl : core.length + M ≤ 4096) (ht : t.ok 0)
    (ih : ∀ (M' first' last' : Nat) (cv' : Value) (core' : List Int) (t' : Dg.Bd.B) (w' : World), M' < M → last' = first' + M' → 1 ≤ M' → last' ≤ l.length → RowsO w' (fun b => b < cb) l lv → Cor w' cb lv core' cv' → core'.length + M' ≤ 4096 → t'.ok 0 →
      Calls Try.prog 71 #[.pointer (some ⟨cb, 0, none⟩), .int .i64 (first' : Int), .int .i64 (last' : Int), Dg.dval t'] w' (RedPost l first' last' cb lv cv' core' t' w')) :
    Calls Try.prog 71 #[.pointer (some ⟨cb, 0, none⟩), .int .i64 (first : Int), .int .i64 (last : Int), Dg.dval t] w (RedPost l first last cb lv cv core t w) := by
  obtain ⟨la, lc, rfl, hlc⟩ := hcap
  obtain ⟨LN, hLN⟩ : ∃ LN, l.length = LN := ⟨_, rfl⟩
  obtain ⟨ca, ccp, rfl⟩ := hc.out.form
  obtain ⟨CN, hCN⟩ : ∃ CN, core.length = CN := ⟨_, rfl⟩
  obtain ⟨p, s, hps⟩ := dform t
  have hEm := fun w => Dg.Empty_any t w
  rw [hps] at hEm ⊢
  have hcl0 := lt_of_cell hc.c0
  have hA1 : Fr nob w (w.alloc (.cells #[.int .u32 p, .string s] 52)) := (Fr.refl nob w).alloc _
  have hB1 := Bx.new w (.int .u32 p) (.string s) 52
  have hA2 : Fr nob (w.alloc (.cells #[.int .u32 p, .string s] 52)) ((w.alloc (.cells #[.int .u32 p, .string s] 52)).alloc (.cells #[.int .u32 0, .string ⟨#[]⟩] 52)) := (Fr.refl nob _).alloc _
  have hB2 := Bx.new (w.alloc (.cells #[.int .u32 p, .string s] 52)) (.int .u32 0) (.string ⟨#[]⟩) 52
  have hs1 : (w.alloc (.cells #[.int .u32 p, .string s] 52)).heap.size = w.heap.size + 1 := by simp
  rw [hs1] at hB2
  have HB1 := Lib.hid (hB1.kept hA2 (fun h => h))
  have HB2 := Lib.hid hB2
  have HA := Lib.hid (hA1.trans hA2 (fun _ _ h => h))
  rw [hLN] at hll hl hlc hc hv ih ⊢
  rw [hCN] at hcl hc ⊢
  have HCB : Hid (∀ b, (Value.slice ca CN ccp).ownBlock = some b → cb + 1 ≤ b ∧ b < w.heap.size) := Lib.hid (fun b hb => hc.out.2.lt b hb)
  have HC := Lib.hid ((hc.kept hA1).kept hA2)
  have HV := Lib.hid hv
  have HL := Lib.hid hL
  have HLN := Lib.hid hLN
  have HCN := Lib.hid hCN
  have HT := Lib.hid ht
  have HPS := Lib.hid hps
  have HI := Lib.hid ih
  have HM := Lib.hid hM
  have e0 := HB1.out.c0
  have e1 := HB1.out.c1
  clear hc hv hL hLN hCN ht hps ih hA1 hB1 hA2 hB2 hs1 hM
  go_enter Try.func71, Try.ntmps71
  go_wp2_with fail
  refine (hEm _).mono ?_
  rintro e w3 ⟨rfl, b3⟩
  have F3 := (Fr.refl nob _).below b3
  have HF3 := Lib.hid (HA.out.trans F3 (fun _ _ h => h))
  have HC3 := Lib.hid (HC.out.kept F3)
  have HB13 := Lib.hid (HB1.out.kept F3 (fun h => h))
  have HB23 := Lib.hid (HB2.out.kept F3 (fun h => h))
  clear b3 F3 hEm e0 e1 HA HC HB1 HB2
  have HCL := Lib.hid (show cb < w.heap.size from hcl0)
  have HB3L : Hid (w.heap.size + 1 < w3.heap.size) := Lib.hid HB23.out.lt
  by_cases hF0 : t = .F
  · rw [decide_eq_true hF0]
    obtain ⟨p1, s1, hps1⟩ := dform .T
    have hT := fun w => Dg.True_any w
    rw [hps1] at hT
    have HP1 := Lib.hid hps1
    have HF0 := Lib.hid hF0
    clear hps1 hF0 HI
    go_wp2_with fail
    refine (hT _).mono ?_
    rintro e w4 ⟨rfl, b4⟩
    have F4 := (Fr.refl nob _).below b4
    have HF4 := Lib.hid (HF3.out.trans F4 (fun _ _ h => h))
    have HC4 := Lib.hid (HC3.out.kept F4)
    have HB4 := Lib.hid (HB23.out.kept F4 (fun h => h))
    have d0 := HB4.out.c0
    have d1 := HB4.out.c1
    have f0 := HB4.out.fr 0
    have f1 := HB4.out.fr 1
    clear b4 F4 hT HF3 HC3 HB13 HB23
    go_wp2_with fail
    obtain ⟨X, FX⟩ := HB4.out.set (.int .u32 p1) (.string s1)
    clear d0 d1 f0 f1
    generalize (w4.setCell ⟨w.heap.size + 1, 0, none⟩ (.int .u32 p1)).setCell ⟨w.heap.size + 1, 1, none⟩ (.string s1) = w5 at *
    have x0 := X.c0
    have x1 := X.c1
    have hC5 := HC4.out.keptS FX (fun e => by have h1 : cb = w.heap.size + 1 := e; have := HCL.out; omega) (fun b hb e => by have h1 : b = w.heap.size + 1 := e; have := (HCB.out b hb).2; omega)
    refine bodyPost_ret (v := .agg #[.int .u32 p1, .string s1]) (by simp [results, Try.results71, go_sem, x0, x1]) rfl ⟨[], Dg.Bd.B.T, _, Gr.dead (fun f => by rw [HF0.out]; rfl) _, trivial, fun _ => rfl, by rw [HP1.out], by rw [List.map_nil, List.append_nil]; exact hC5, ?_, .inl rfl⟩
    exact HF4.out.trans' FX (fun _ _ h => h.elim) (fun k hk h => by have h1 : k = w.heap.size + 1 := h; omega)
  · rw [decide_eq_false hF0]
    have HF0 := Lib.hid hF0
    clear hF0
    by_cases hM2 : M = 1
    · subst hM2
      have hlf : last = first + 1 := HM.out
      have hfl : first < l.length := by rw [HLN.out]; omega
      have hrt : l[first]? = some l[first] := List.getElem?_eq_getElem hfl
      have hmem : l[first] ∈ l := List.getElem_mem hfl
      generalize l[first] = r at hrt hmem
      obtain ⟨hr1, hr2⟩ := HL.out r hmem
      obtain ⟨p1, s1, hps1⟩ := dform (clB r)
      obtain ⟨i0, hi0, hz0, hz1, hz2⟩ := info_parts info_int
      have q1 : (((last : Int) - (first : Int)) == 1) = true := by simp; omega
      have q2 : (0 : Int) ≤ (first : Int) := Int.natCast_nonneg _
      have q3 : (first : Int) < (LN : Int) := by omega
      have q4 : (last : Int) ≤ 4096 := by omega
      have g0 := HC3.out.c0
      have g1 := HC3.out.c1
      have gf := HC3.out.fz
      have hcw := HCL.out
      have HRT := Lib.hid hrt
      have HR2 := Lib.hid hr2
      have HR1 := Lib.hid hr1
      have HP1 := Lib.hid hps1
      have HLF := Lib.hid hlf
      have h3w : cb + 1 ≤ w3.heap.size := by have := lt_of_cell g0; exact this
      have H3W := Lib.hid h3w
      have HFL := Lib.hid hfl
      clear hfl hrt hmem hr1 hr2 hps1 hlf h3w HI
      go_wp2_with (at_builtin; refine wpList_append_own_at _ rfl _ _ 37 rfl (cb + 1) 3 i0 (.int .i64 0) 1 8 Try.underlying37 hi0 hz0 hz1 hz2 rfl (by decide) (.slice ca CN ccp) CN (core.map (Value.int .i64)) rfl ((HCN.out ▸ HC3.out.out.2).alloc _) ⟨w3.heap.size, 0, none⟩ 1 1 [.int .i64 (first : Int)] rfl ?c1 ?c2 ?c3 ?c4 ?c5 ?c6 ?_)
      case c1 => rfl
      case c2 => exact cell_one_new _ _ _
      case c3 => intro u hu; simp at hu; subst hu; rfl
      case c4 => unfold maxLen; omega
      case c5 => omega
      case c6 => have := H3W.out; first | omega | (simp; omega)
      intro v6 w6 own6 gr6 _ hat
      have hF6 : Fr (fun j => (Value.slice ca CN ccp).ownBlock = some j) w3 w6 := ((Fr.refl _ w3).alloc (.cells #[.int .i64 (first : Int)] 3)).grown gr6 (fun j hj _ => hj)
      obtain ⟨g6, cap6, rfl⟩ : ∃ g6 cap6, v6 = .slice (some ⟨g6, 0, none⟩) (CN + 1) cap6 := by
        rcases own6.2 with ⟨rfl, h0⟩ | ⟨g', cap', cur, rfl, h1, h2, _⟩
        · simp at h0
        · exact ⟨g', cap', rfl⟩
      have hncb : (Value.slice ca CN ccp).ownBlock ≠ some cb := fun e => by have := (HCB.out cb e).1; omega
      have g1' := hF6.cell g1 hncb
      have gf' := (hF6.frozen (p := ⟨cb, 1, none⟩) (lt_of_cell g1) hncb).trans gf
      have hF7 := fr_store w6 cb 1 (.slice (some ⟨g6, 0, none⟩) (CN + 1) cap6)
      have hF37 : Fr (fun b => b = cb ∨ (Value.slice ca CN ccp).ownBlock = some b) w3 (w6.setCell ⟨cb, 1, none⟩ (.slice (some ⟨g6, 0, none⟩) (CN + 1) cap6)) := hF6.trans' hF7 (fun _ _ h => .inr h) (fun _ _ h => .inl h)
      have hsz3 := HF3.out.size
      have hB27 := HB23.out.kept hF37 (fun e => by
        have := HCL.out
        rcases e with e | e
        · omega
        · have := (HCB.out _ e).2; omega)
      have hV7 := (HV.out.kept (T := fun b => b < cb) HF3.out (fun b hb _ => ⟨fun h => h, hb⟩)).kept (T := fun b => b < cb) hF37 (fun b hb _ => ⟨fun e => by
        rcases e with e | e
        · omega
        · have := (HCB.out _ e).1; omega, hb⟩)
      obtain ⟨b, ob, rfl, hbl, a', cap', hcl7, hI7⟩ := hV7.at HRT.out
      have hS := setOf_any r _ _ (w6.setCell ⟨cb, 1, none⟩ (.slice (some ⟨g6, 0, none⟩) (CN + 1) cap6)) HR1.out HR2.out hI7
      rw [HP1.out] at hS
      have hg6 : g6 ≠ cb := fun e => by have := (own6.lt g6 rfl).1; omega
      have hC7 : Cor (w6.setCell ⟨cb, 1, none⟩ (.slice (some ⟨g6, 0, none⟩) (CN + 1) cap6)) cb (.slice (some ⟨b, ob, none⟩) LN lc) (core ++ [(first : Int)]) (.slice (some ⟨g6, 0, none⟩) (CN + 1) cap6) :=
        ⟨by rw [World.cell?_setCell_other (h := by intro e; injection e with _ e2 _; exact absurd e2 (by decide))]; exact hF6.cell g0 hncb, World.cell?_setCell_same' _ _ _ (by rw [g1']; rfl), (frozen_setCell _ _ _ _).trans gf', by
          have h1 : (core ++ [(first : Int)]).length = CN + 1 := by rw [List.length_append, HCN.out]; rfl
          rw [h1]
          exact ⟨h1, by rw [List.map_append]; exact hF7.row own6 (fun b hb (e : b = cb) => by have := (own6.lt b hb).1; omega)⟩⟩
      have c70 := hC7.c0
      have HC7 := Lib.hid hC7
      have HB7 := Lib.hid hB27
      have HF7 := Lib.hid ((HF3.out.mono (T := fun b => b = cb ∨ (Value.slice ca CN ccp).ownBlock = some b) (fun _ _ h => h.elim)).trans hF37 (fun _ _ h => h))
      have HAT := Lib.hid hat
      clear own6 gr6 hat hF6 hF7 hF37 hB27 hV7 hI7 hC7 hncb hg6 hsz3 HB13 HB23 HC3
      go_wp2_with fail
      refine hS.mono ?_
      rintro e w8 ⟨rfl, F8⟩
      have HC8 := Lib.hid (HC7.out.kept F8)
      have HB8 := Lib.hid (HB7.out.kept F8 (fun h => h))
      have HF8 := Lib.hid (HF7.out.trans F8 (fun _ _ h => h.elim))
      have d0 := HB8.out.c0
      have d1 := HB8.out.c1
      have f0 := HB8.out.fr 0
      have f1 := HB8.out.fr 1
      have hsz8 := HF8.out.size
      have HSZ8 := Lib.hid hsz8
      clear hS F8 HC7 HB7 HF7 c70 hcl7 g0 g1 gf g1' gf' hsz8
      go_wp2_with fail
      obtain ⟨X, FX⟩ := HB8.out.set (.int .u32 p1) (.string s1)
      clear d0 d1 f0 f1
      generalize (w8.setCell ⟨w.heap.size + 1, 0, none⟩ (.int .u32 p1)).setCell ⟨w.heap.size + 1, 1, none⟩ (.string s1) = w9 at *
      have x0 := X.c0
      have x1 := X.c1
      have hown : ∀ b, (Value.slice (some ⟨g6, 0, none⟩) (CN + 1) cap6).ownBlock = some b → b ≠ w.heap.size + 1 := fun b hb e => by
        rcases HAT.out with h | h
        · have := (HCB.out b (h ▸ hb)).2; omega
        · rw [h] at hb
          have h3 := HF3.out.size
          have h4 : w.heap.size + 1 < w3.heap.size := by have := HB3L.out; exact this
          simp only [Option.some.injEq] at hb
          omega
      have hC9 := HC8.out.keptS FX (fun e => by have h1 : cb = w.heap.size + 1 := e; omega) (fun b hb e => hown b hb e)
      refine bodyPost_ret (v := .agg #[.int .u32 p1, .string s1]) (by simp [results, Try.results71, go_sem, x0, x1]) rfl ⟨[(first, r)], clB r, _, ?_, ok_clB r, fun f => by rw [ev_clB HR2.out]; show rowE f r = (rowE f r && true); rw [Bool.and_true], by rw [HP1.out], hC9, ?_, ?_⟩
      · rw [HLF.out, seg_one l HRT.out]
        refine Gr.one (fun h => HF0.out ?_) _
        exact Dg.Bd.eq_of_ev (b := .F) HT.out trivial fun f => by rw [h f]; rfl
      · exact HF8.out.trans' FX (fun _ _ h => h) (fun k hk h => by have h1 : k = w.heap.size + 1 := h; omega)
      · rcases HAT.out with h | h
        · exact .inl h
        · refine .inr fun b hb => ?_
          rw [h] at hb
          have h3 := HF3.out.size
          simp only [Option.some.injEq] at hb
          omega
    · have hM := HM.out
      obtain ⟨H, hH⟩ : ∃ H, (first + last) / 2 = H := ⟨_, rfl⟩
      have hH1 : first < H := by omega
      have hH2 : H < last := by omega
      have hHi : ((first : Int) + (last : Int)) / 2 = (H : Int) := by omega
      have q0 : (((last : Int) - (first : Int)) == 1) = false := by simp; omega
      have q1 : (0 : Int) ≤ (H : Int) := Int.natCast_nonneg _
      have q2 : (H : Int) ≤ (last : Int) := by omega
      have q3 : (last : Int) ≤ (lc : Int) := by omega
      have q4 : (last : Int) ≤ 4096 := by omega
      have q5 : (0 : Int) ≤ (first : Int) := Int.natCast_nonneg _
      have q6 : ¬ lc = H := by omega
      have hfl : first < l.length := by rw [HLN.out]; omega
      have hrt : l[first]? = some l[first] := List.getElem?_eq_getElem hfl
      obtain ⟨b, ob, rfl, hbl, hxx⟩ := HV.out.at hrt
      have g0 := HC3.out.c0
      have e0 := HB13.out.c0
      have e1 := HB13.out.c1
      have HH := Lib.hid (And.intro hH1 hH2)
      have HBL := Lib.hid hbl
      clear hxx hrt hfl hM hM1 hM2 hH hH1 hH2 hbl
      have HK1 : Hid (∀ w' : World, Fr nob w3 w' → Calls Try.prog 73 #[.slice (some ⟨b, ob + H, none⟩) (last - H) (lc - H)] w' (AllPost ((l.drop H).take (last - H)) w')) := Lib.hid (fun w' f => by
        obtain ⟨h1, h2⟩ := HH.out
        have hlen : ((l.drop H).take (last - H)).length = last - H := by rw [List.length_take, List.length_drop, HLN.out]; omega
        have hV3 : RowsO w' (fun b => b < w'.heap.size) l (.slice (some ⟨b, ob, none⟩) LN lc) := HV.out.kept (HF3.out.trans f (fun _ _ h => h)) (fun b hb h => ⟨fun h => h, by have := HF3.out.size; have := f.size; omega⟩)
        exact allOf_any _ _ _ _ rfl (by rw [hlen]; omega) (fun r hr => HL.out r (List.mem_of_mem_drop (List.mem_of_mem_take hr))) ((hV3.rest (k := H) (m := LN - H) (c2 := lc - H) (o2 := ob + H) (by omega) (fun _ => rfl)).split (by omega) (by omega)) ⟨_, _, by rw [hlen], by rw [hlen]; omega⟩)
      have HAND : Hid (∀ (t2 : Dg.Bd.B) (_ : t2.ok 0), ∃ p3 s3, Dg.dval (Dg.Bd.ite t t2 .F) = .agg #[.int .u32 p3, .string s3] ∧ ∀ w : World, Calls Try.prog 106 #[.agg #[.int .u32 p, .string s], Dg.dval t2] w fun e w' => e = .returned (.agg #[.int .u32 p3, .string s3]) ∧ Fr nob w w') := Lib.hid (fun t2 h2 => by
        have h := fun w => Dg.And_any t t2 HT.out h2 w
        obtain ⟨p3, s3, h3⟩ := dform (Dg.Bd.ite t t2 .F)
        rw [HPS.out, h3] at h
        exact ⟨p3, s3, h3, fun w => (h w).mono fun e w' ⟨a, b⟩ => ⟨a, (Fr.refl nob w).below b⟩⟩)
      have HRED : Hid (∀ (t2 : Dg.Bd.B) (p2 : Int) (s2 : ByteArray) (_ : Dg.dval (Dg.Bd.ite t t2 .F) = .agg #[.int .u32 p2, .string s2]) (w' : World) (_ : Fr nob w3 w'), Calls Try.prog 71 #[.pointer (some ⟨cb, 0, none⟩), .int .i64 (first : Int), .int .i64 (H : Int), .agg #[.int .u32 p2, .string s2]] w' (RedPost l first H cb (.slice (some ⟨b, ob, none⟩) LN lc) (.slice ca CN ccp) core (Dg.Bd.ite t t2 .F) w')) := Lib.hid (fun t2 p2 s2 h2 w' f => by
        obtain ⟨h1, h3⟩ := HH.out
        have hM := HM.out
        have h := HI.out (H - first) first H (.slice ca CN ccp) core (Dg.Bd.ite t t2 .F) w' (by omega) (by omega) (by omega) (by omega) (HV.out.kept (HF3.out.trans f (fun _ _ h => h)) (fun b hb _ => ⟨fun h => h, hb⟩)) (HC3.out.kept f) (by rw [HCN.out]; omega) (Dg.Bd.ok_ite0 t t2 .F)
        rw [h2] at h
        exact h)
      have HNB : Hid (∀ k, w.heap.size ≤ k → ¬ (k = cb ∨ (Value.slice ca CN ccp).ownBlock = some k)) := Lib.hid (fun k hk e => by
        rcases e with e | e
        · omega
        · have := (HCB.out k e).2; omega)
      go_wp2_with fail
      (try simp only [hHi])
      go_cut [10] (fun s10 wx => ∃ (g10 : Nat) (k1 : List (Nat × List Int)) (R1 : Dg.Bd.B) (cv1 : Value) (p3 : Int) (s3 : ByteArray), s10 = .pointer (some ⟨g10, 0, none⟩) ∧ w3.heap.size ≤ g10 ∧ Dg.dval R1 = .agg #[.int .u32 p3, .string s3] ∧ Bx wx g10 (.int .u32 p3) (.string s3) ∧
        Gr rowL (fun f => t.ev f && allS rowL (seg l H last) f) (seg l first H) k1 ∧ R1.ok 0 ∧ (∀ f, R1.ev f = allS rowL k1 f) ∧ Cor wx cb (.slice (some ⟨b, ob, none⟩) LN lc) (core ++ k1.map fun x => (x.1 : Int)) cv1 ∧ Fr (fun b => b = cb ∨ (Value.slice ca CN ccp).ownBlock = some b) w3 wx ∧
        (cv1.ownBlock = (Value.slice ca CN ccp).ownBlock ∨ ∀ b, cv1.ownBlock = some b → w3.heap.size ≤ b ∧ b ≠ g10))
      case first =>
        go_region_held3 (fun w' => w'.cell? ⟨cb, 0, none⟩ = some (.slice (some ⟨b, ob, none⟩) LN lc) ∧ w'.cell? ⟨w.heap.size, 0, none⟩ = some (.int .u32 p) ∧ w'.cell? ⟨w.heap.size, 1, none⟩ = some (.string s))
          (first | exact ⟨g03, e03, e13⟩ | exact ⟨g02, e02, e12⟩ | exact ⟨g01, e01, e11⟩ | exact ⟨g0, e0, e1⟩ | (refine ⟨?_, ?_, ?_⟩ <;> (rw [World.cell?_setCell_other _ _ _ _ (by simp <;> omega), World.cell?_setCell_other _ _ _ _ (by simp <;> omega)]; assumption)) | (refine ⟨?_, ?_, ?_⟩ <;> go_keep) | go_keep)
          (first
          | (go_at_call 73; refine (HK1.out _ (by first | exact (Fr.refl nob w3).drew | exact ((Fr.refl nob w3).drew).alloc _)).mono ?_; rintro e w4 ⟨t2, ok2, ev2, rfl, F4⟩; have F34 : Fr nob w3 w4 := (by first | exact ((Fr.refl nob w3).drew).trans F4 (fun _ _ h => h) | exact (((Fr.refl nob w3).drew).alloc _).trans F4 (fun _ _ h => h)); have g01 := F34.cell g0 (fun h => h); have e01 := F34.cell e0 (fun h => h); have e11 := F34.cell e1 (fun h => h);
             (try have zb : Bx w4 w3.heap.size (.int .u32 0) (.string ⟨#[]⟩) := (Bx.new w3.drew (.int .u32 0) (.string ⟨#[]⟩) 52).kept F4 (fun h => h)))
          | (go_at_call 106; obtain ⟨p2, s2, hps2, hA⟩ := HAND.out t2 ok2; refine (hA _).mono ?_; rintro e w5 ⟨rfl, F5⟩; have F35 : Fr nob w3 w5 := (by first | exact F34.trans F5 (fun _ _ h => h) | exact (F34.alloc _).trans F5 (fun _ _ h => h)); have g02 := F35.cell g0 (fun h => h); have e02 := F35.cell e0 (fun h => h); have e12 := F35.cell e1 (fun h => h);
             (first | (have zb := zb.kept F5 (fun h => h)) | (have zb := (Bx.new w4 (.int .u32 0) (.string ⟨#[]⟩) 52).kept F5 (fun h => h)) | skip))
          | (go_at_call 71; refine (HRED.out t2 p2 s2 hps2 _ (by first | exact F35 | exact F35.alloc _)).mono ?_; rintro e w6 ⟨k1, R1, cv1, gr1, okR1, evR1, he1, hC6, F6, own1⟩; obtain ⟨p3, s3, hps3⟩ := dform R1; rw [hps3] at he1; subst he1; have F36 : Fr (fun b => b = cb ∨ (Value.slice ca CN ccp).ownBlock = some b) w3 w6 := (by first | exact (F35.mono (fun _ _ h => h.elim)).trans F6 (fun _ _ h => h) | exact ((F35.alloc _).mono (fun _ _ h => h.elim)).trans F6 (fun _ _ h => h)); have g03 := hC6.c0; have e03 := F36.cell e0 (HNB.out w.heap.size (Nat.le_refl _)); have e13 := F36.cell e1 (HNB.out w.heap.size (Nat.le_refl _));
             have hsz35 := F35.size; have hsz03 := HB3L.out; have hsz34 := F34.size; have hsz36 := F36.size;
             (first | (have zb := zb.kept F6 (HNB.out _ (by first | omega | (simp; omega)))) | (have zb := (Bx.new w5 (.int .u32 0) (.string ⟨#[]⟩) 52).kept F6 (HNB.out _ (by omega))) | skip);
             (try have zc0 := zb.c0); (try have zc1 := zb.c1); (try have zf0 := zb.fr 0); (try have zf1 := zb.fr 1)))
        all_goals (
          have gr2 : Gr rowL (fun f => t.ev f && allS rowL (seg l H last) f) (seg l first H) k1 := gr1.congr (fun f => by
            rw [Dg.Bd.ev_ite (z := .F) HT.out ok2 trivial, ev2 f, seg_all]
            cases t.ev f <;> rfl)
          have hd3 : w3.drew.heap.size = w3.heap.size := rfl
          have hf4 := F4.size
          have hf5 := F5.size
          have hf6 := F6.size
          have ho6 := hC6.out.2.lt
          (try simp only [World.size_alloc] at hf4)
          (try simp only [World.size_alloc] at hf5)
          (try simp only [World.size_alloc] at hf6)
          (try simp only [World.size_alloc] at own1)
          have hd4 : ∀ o : Obj, (w3.alloc o).drew.heap.size = w3.heap.size + 1 := fun o => by show (w3.alloc o).heap.size = _; simp
          (try rw [hd4] at hf4)
          clear gr1 hA HK1 HAND HRED g01 e01 e11 g02 e02 e12 g03 e03 e13
          (try clear zf0 zf1)
          go_wp2_with fail
          go_meet)
        all_goals first
          | exact ⟨_, k1, R1, cv1, p3, s3, rfl, by omega, hps3, Bx.new w6 _ _ _, gr2, okR1, evR1, hC6.kept ((Fr.refl nob w6).alloc _), F36.alloc _, own1.imp id (fun h b hb => ⟨by have := h b hb; omega, by have := (ho6 b hb).2; omega⟩)⟩
          | (obtain ⟨X, FX⟩ := zb.set (.int .u32 p3) (.string s3)
             exact ⟨_, k1, R1, cv1, p3, s3, rfl, by omega, hps3, X, gr2, okR1, evR1, hC6.keptS FX (fun e => by have h1 : cb = _ := e; omega) (fun b hb e => by
               have e2 : b = _ := e
               rcases own1 with h | h
               · have := (HCB.out b (h ▸ hb)).2; omega
               · have := h b hb; omega), F36.trans' FX (fun _ _ h => h) (fun k hk h => by have h1 : k = _ := h; omega), own1.imp id (fun h b hb => ⟨by have := h b hb; omega, fun e => by have := h b hb; omega⟩)⟩)
      case rest =>
        obtain ⟨g10, k1, R1, cv1, p3, s3, rfl, hg10, hps3, hB10, gr1, okR1, evR1, hC7, F37, own1⟩ := hcut
        have HSW := Lib.hid (show w3.heap.size ≤ wc.heap.size from F37.size)
        have HBc : Hid (Bx wc w.heap.size (.int .u32 p) (.string s)) := Lib.hid (HB13.out.kept F37 (HNB.out _ (Nat.le_refl _)))
        have HB8 : Hid (Bx wc (w.heap.size + 1) (.int .u32 0) (.string ⟨#[]⟩)) := Lib.hid (HB23.out.kept F37 (HNB.out _ (by omega)))
        have HO1 : Hid (∀ b, cv1.ownBlock = some b → cb + 1 ≤ b ∧ b < wc.heap.size ∧ b ≠ g10 ∧ (b = w.heap.size → False) ∧ (b = w.heap.size + 1 → False)) := Lib.hid (fun b hb => by
          have h1 := hC7.out.2.lt b hb
          have h3 := HB3L.out
          rcases own1 with h | h
          · have h2 := HCB.out b (h ▸ hb)
            exact ⟨h1.1, h1.2, by omega, fun e => by omega, fun e => by omega⟩
          · have h2 := h b hb
            exact ⟨h1.1, h1.2, h2.2, fun e => by omega, fun e => by omega⟩)
        have hk1l : k1.length ≤ H - first := Nat.le_trans gr1.sub.length_le (by unfold seg; rw [List.length_take]; exact Nat.min_le_left _ _)
        have HAND2 : Hid (∃ p4 s4, Dg.dval (Dg.Bd.ite t R1 .F) = .agg #[.int .u32 p4, .string s4] ∧ ∀ w : World, Calls Try.prog 106 #[.agg #[.int .u32 p, .string s], .agg #[.int .u32 p3, .string s3]] w fun e w' => e = .returned (.agg #[.int .u32 p4, .string s4]) ∧ Fr nob w w') := Lib.hid (by
          have h := fun w => Dg.And_any t R1 HT.out okR1 w
          obtain ⟨p4, s4, h4⟩ := dform (Dg.Bd.ite t R1 .F)
          rw [HPS.out, hps3, h4] at h
          exact ⟨p4, s4, h4, fun w => (h w).mono fun e w' ⟨a, b⟩ => ⟨a, (Fr.refl nob w).below b⟩⟩)
        obtain ⟨p4, s4, hps4, hAnd⟩ := HAND2.out
        have HRED2 : Hid (∀ w' : World, Fr nob wc w' → Calls Try.prog 71 #[.pointer (some ⟨cb, 0, none⟩), .int .i64 (H : Int), .int .i64 (last : Int), .agg #[.int .u32 p4, .string s4]] w' (RedPost l H last cb (.slice (some ⟨b, ob, none⟩) LN lc) cv1 (core ++ k1.map fun x => (x.1 : Int)) (Dg.Bd.ite t R1 .F) w')) := Lib.hid (fun w' f => by
          obtain ⟨h1, h3⟩ := HH.out
          have hM := HM.out
          have h := HI.out (last - H) H last cv1 (core ++ k1.map fun x => (x.1 : Int)) (Dg.Bd.ite t R1 .F) w' (by omega) (by omega) (by omega) (by omega) (((HV.out.kept (T := fun b => b < cb) HF3.out (fun b hb _ => ⟨fun h => h, hb⟩)).kept (T := fun b => b < cb) F37 (fun b hb _ => ⟨fun e => by
            rcases e with e | e
            · omega
            · have := (HCB.out _ e).1; omega, hb⟩)).kept f (fun b hb _ => ⟨fun h => h, hb⟩)) (hC7.kept f) (by rw [List.length_append, List.length_map, HCN.out]; omega) (Dg.Bd.ok_ite0 t R1 .F)
          rw [hps4] at h
          exact h)
        have h0 := hB10.c0
        have h1 := hB10.c1
        have e0 := HBc.out.c0
        have e1 := HBc.out.c1
        have HB10 := Lib.hid hB10
        have HC7 := Lib.hid hC7
        have HF7 : Hid (Fr (fun b => b = cb ∨ (Value.slice ca CN ccp).ownBlock = some b) w wc) := Lib.hid ((HF3.out.mono (fun _ _ h => h.elim)).trans F37 (fun _ _ h => h))
        have HGR1 := Lib.hid (And.intro gr1 (And.intro okR1 evR1))
        have HPS4 := Lib.hid hps4
        have HPS3 := Lib.hid hps3
        have HOWN1 := Lib.hid own1
        have HG10 := Lib.hid hg10
        have HAND3 := Lib.hid hAnd
        have HNB2 : Hid (∀ k, (k = w.heap.size ∨ k = w.heap.size + 1 ∨ k = g10 ∨ wc.heap.size ≤ k) → ¬ (k = cb ∨ cv1.ownBlock = some k)) := Lib.hid (fun k hk e => by
          have h3 := HB3L.out
          have h4 := HSW.out
          rcases e with e | e
          · omega
          · have h2 := HO1.out k e
            rcases hk with hk | hk | hk | hk
            · exact h2.2.2.2.1 hk
            · exact h2.2.2.2.2 hk
            · exact h2.2.2.1 hk
            · omega)
        clear hg10 hps3 hB10 gr1 okR1 evR1 hC7 F37 own1 hk1l HAND2 hps4 hAnd HBc HAND HRED HK1 HB13 HB23
        go_wp2_with fail
        refine (HAND3.out _).mono ?_
        rintro e w5 ⟨rfl, F5⟩
        have HF5 := Lib.hid F5
        clear h0 h1 e0 e1 F5
        go_wp2_with fail
        refine (HRED2.out _ HF5.out).mono ?_
        rintro e w6 ⟨k2, R2, cv2, gr2, okR2, evR2, he2, hC8, F6, own2⟩
        obtain ⟨p5, s5, hps5⟩ := dform R2
        rw [hps5] at he2
        subst he2
        have F66 := (HF5.out.mono (T := fun b => b = cb ∨ cv1.ownBlock = some b) (fun _ _ h => h.elim)).trans F6 (fun _ _ h => h)
        have hsz5 := HF5.out.size
        have hB10 := HB10.out.kept F66 (HNB2.out g10 (.inr (.inr (.inl rfl))))
        have hB8 := HB8.out.kept F66 (HNB2.out _ (.inr (.inl rfl)))
        have hAnd := fun w => Dg.And_any R1 R2 HGR1.out.2.1 okR2 w
        obtain ⟨p6, s6, hps6⟩ := dform (Dg.Bd.ite R1 R2 .F)
        rw [HPS3.out, hps5, hps6] at hAnd
        have A7 : Fr nob w6 (w6.alloc (.cells #[.int .u32 p5, .string s5] 52)) := (Fr.refl nob w6).alloc _
        have hB11 := Bx.new w6 (.int .u32 p5) (.string s5) 52
        have hB107 := hB10.kept A7 (fun h => h)
        have HB87 := Lib.hid (hB8.kept A7 (fun h => h))
        have HC87 := Lib.hid (hC8.kept A7)
        have h0 := hB107.c0
        have h1 := hB107.c1
        have e0 := hB11.c0
        have e1 := hB11.c1
        have HF66 := Lib.hid (F66.trans A7 (fun _ _ h => h.elim))
        have HGR2 := Lib.hid (And.intro gr2 (And.intro okR2 evR2))
        have HPS6 := Lib.hid hps6
        have HOWN2 := Lib.hid own2
        have HAND6 := Lib.hid hAnd
        have HSZ5 := Lib.hid hsz5
        clear gr2 okR2 evR2 hC8 F6 own2 hps5 F66 hsz5 hB10 hB8 hAnd hps6 A7 hB11 hB107
        go_wp2_with fail
        refine (HAND6.out _).mono ?_
        rintro e w8 ⟨rfl, b8⟩
        have F8 := (Fr.refl nob _).below b8
        have HB9 := Lib.hid (HB87.out.kept F8 (fun h => h))
        have HC9 := Lib.hid (HC87.out.kept F8)
        have HF9 := Lib.hid (HF66.out.trans F8 (fun _ _ h => h.elim))
        have d0 := HB9.out.c0
        have d1 := HB9.out.c1
        have f0 := HB9.out.fr 0
        have f1 := HB9.out.fr 1
        clear b8 F8 HB87 HC87 HF66 h0 h1 e0 e1
        go_wp2_with fail
        obtain ⟨X, FX⟩ := HB9.out.set (.int .u32 p6) (.string s6)
        clear d0 d1 f0 f1
        generalize (w8.setCell ⟨w.heap.size + 1, 0, none⟩ (.int .u32 p6)).setCell ⟨w.heap.size + 1, 1, none⟩ (.string s6) = w9 at *
        have x0 := X.c0
        have x1 := X.c1
        have hown : ∀ b, cv2.ownBlock = some b → b ≠ w.heap.size + 1 := fun b hb e => by
          rcases HOWN2.out with h | h
          · exact (HO1.out b (h ▸ hb)).2.2.2.2 e
          · have h2 := h b hb
            have h3 := HSZ5.out
            have h4 := HSW.out
            have h5 := HB3L.out
            omega
        have hC10 := HC9.out.keptS FX (fun e => by have h1 : cb = w.heap.size + 1 := e; omega) (fun b hb e => hown b hb e)
        rw [List.append_assoc, ← List.map_append] at hC10
        have hsg := seg_split l (a := first) (h := H) (b := last) (by have := HH.out.1; omega) (by have := HH.out.2; omega)
        refine bodyPost_ret (v := .agg #[.int .u32 p6, .string s6]) (by simp [results, Try.results71, go_sem, x0, x1]) rfl ⟨k1 ++ k2, Dg.Bd.ite R1 R2 .F, cv2, ?_, Dg.Bd.ok_ite0 R1 R2 .F, fun f => ?_, by rw [HPS6.out], hC10, ?_, ?_⟩
        · rw [hsg]
          refine Gr.append HGR1.out.1 (HGR2.out.1.congr fun f => ?_)
          rw [Dg.Bd.ev_ite (z := .F) HT.out HGR1.out.2.1 trivial, HGR1.out.2.2 f]
          cases t.ev f <;> rfl
        · rw [Dg.Bd.ev_ite (z := .F) HGR1.out.2.1 HGR2.out.2.1 trivial, HGR1.out.2.2 f, HGR2.out.2.2 f, allS_app]
          cases allS rowL k1 f <;> rfl
        · have hcw : Fr (fun b => b = cb ∨ (Value.slice ca CN ccp).ownBlock = some b) w w8 := HF7.out.trans' HF9.out (fun _ _ h => h) (fun k hk h => by
            rcases h with h | h
            · exact .inl h
            · rcases HOWN1.out with h2 | h2
              · exact .inr (h2 ▸ h)
              · have h3 := (h2 k h).1
                have h4 := HB3L.out
                omega)
          exact hcw.trans' FX (fun _ _ h => h) (fun k hk h => by have h1 : k = w.heap.size + 1 := h; omega)
        · rcases HOWN2.out with h | h
          · rcases HOWN1.out with h2 | h2
            · exact .inl (h.trans h2)
            · exact .inr fun b hb => by
                have h3 := (h2 b (h ▸ hb)).1
                have h4 := HB3L.out
                omega
          · exact .inr fun b hb => by
              have h3 := h b hb
              have h4 := HSZ5.out
              have h5 := HSW.out
              have h6 := HB3L.out
              omega
theorem reduce_any : ∀ (M : Nat) (l : List (List Int)) (first last cb : Nat) (lv cv : Value) (core : List Int) (t : Dg.Bd.B) (w : World), last = first + M → 1 ≤ M → last ≤ l.length → l.length ≤ 4096 → (∀ r ∈ l, r.length ≤ 1000000 ∧ ∀ x ∈ r, Ltr x) →
    RowsO w (fun b => b < cb) l lv → (∃ a c, lv = .slice a l.length c ∧ l.length ≤ c) → Cor w cb lv core cv → core.length + M ≤ 4096 → t.ok 0 →
    Calls Try.prog 71 #[.pointer (some ⟨cb, 0, none⟩), .int .i64 (first : Int), .int .i64 (last : Int), Dg.dval t] w (RedPost l first last cb lv cv core t w) := by
  intro M
  induction M using Nat.strongRecOn with
  | _ M ih =>
    intro l first last cb lv cv core t w h1 h2 h3 h4 h5 h6 h7 h8 h9 h10
    exact reduce_step M l first last cb lv cv core t w h1 h2 h3 h4 h5 h6 h7 h8 h9 h10 fun M' f' l' cv' core' t' w' a1 a2 a3 a4 a5 a6 a7 a8 => ih M' a1 l f' l' cb lv cv' core' t' w' a2 a3 a4 h4 h5 a5 h7 a6 a7 a8
theorem seg_whole (l : List (List Int)) : seg l 0 l.length = idx l := by
  unfold seg
  rw [List.drop_zero, Nat.sub_zero, List.take_of_length_le]
  unfold idx
  rw [List.length_map, List.length_zipIdx]
  exact Nat.le_refl _
/-- what Core answers -/
def CorePost (n : Int) (l : List (List Int)) (w : World) (e : Ending) (w' : World) : Prop :=
  Fr nob w w' ∧ ((chkP n l ≠ 0 ∧ e = .returned (.tuple #[.slice none 0 0, .int .i64 (chkP n l)])) ∨ (chkP n l = 0 ∧ (∃ f, l.all (rowE f) = true) ∧ e = .returned (.tuple #[.slice none 0 0, .int .i64 8])) ∨
    (chkP n l = 0 ∧ (∀ f, l.all (rowE f) = false) ∧ ∃ (k : List (Nat × List Int)) (a : Option Addr) (c : Nat), Gr rowL (fun _ => true) (idx l) k ∧ e = .returned (.tuple #[.slice a k.length c, .int .i64 0]) ∧ IntsO w' (fun b => b < w'.heap.size) (k.map fun x => (x.1 : Int)) (.slice a k.length c)))
set_option maxRecDepth 100000 in
set_option maxHeartbeats 4000000 in
theorem core_any (l : List (List Int)) (n : Int) (v : Value) (w : World) (hwd : Wide l) (hv : RowsO w (fun b => b < w.heap.size) l v) (hc : ∃ a c, v = .slice a l.length c ∧ l.length ≤ c) :
    Calls Try.prog 36 #[.int .i64 n, v] w (CorePost n l w) := by
  have hCj := conj_any l n v w hwd hv hc
  obtain ⟨a, cap, rfl, hcap⟩ := hc
  obtain ⟨LL, hLL⟩ : ∃ LL, l.length = LL := ⟨_, rfl⟩
  obtain ⟨K, hK⟩ : ∃ K, chkP n l = K := ⟨_, rfl⟩
  have HLL := Lib.hid hLL
  have HK := Lib.hid hK
  rw [hLL] at hCj hv hcap ⊢
  have HV := Lib.hid hv
  have HCP := Lib.hid hcap
  clear hv hcap hwd hLL
  go_enter Try.func36, Try.ntmps36
  go_wp2_with fail
  refine hCj.mono ?_
  rintro e w2 ⟨t, he, ok, ht0, hev, F2⟩
  obtain ⟨p, s, hps⟩ := dform t
  rw [hps, hK] at he
  subst he
  have A3 : Fr nob w2 (w2.alloc (.cells #[.int .u32 p, .string s] 52)) := (Fr.refl nob w2).alloc _
  have hB3 := Bx.new w2 (.int .u32 p) (.string s) 52
  have HF3 := Lib.hid (F2.trans A3 (fun _ _ h => h))
  have hEm := fun w => Dg.Empty_any t w
  rw [hps] at hEm
  clear hCj F2 A3
  by_cases hk : K = 0
  · subst hk
    have hev2 := hev hK
    have e0 := hB3.c0
    have e1 := hB3.c1
    by_cases hF : t = .F
    · have hun : ∀ f, l.all (rowE f) = false := fun f => by rw [← hev2 f, hF]; rfl
      have hne : 1 ≤ LL := by
        rcases Nat.eq_zero_or_pos LL with e | e
        · exfalso
          have h := hun (fun _ => false)
          rw [List.eq_nil_of_length_eq_zero (HLL.out.trans e)] at h
          cases h
        · exact e
      obtain ⟨hn0, hl1, hl2⟩ := chk_zero2 hK
      have hl3 := chk_ltr hK
      rw [HLL.out] at hl1
      have HUN := Lib.hid hun
      have HNE := Lib.hid hne
      have HL2 := Lib.hid (And.intro hl1 (And.intro (fun r hr => (hl2 r hr).1) hl3))
      obtain ⟨pT, sT, hpT⟩ := dform .T
      have hT := fun w => Dg.True_any w
      rw [hpT] at hT
      have HPT := Lib.hid hpT
      have HTR := Lib.hid hT
      have hEm2 := hEm
      rw [decide_eq_true hF] at hEm2
      clear hun hne hl1 hl2 hl3 hn0 hev hev2 ht0 hpT hT hEm hF hK hps
      go_wp2_with fail
      refine (hEm2 _).mono ?_
      rintro e w4 ⟨rfl, b4⟩
      have F4 := (Fr.refl nob _).below b4
      have HF4 := Lib.hid (HF3.out.trans F4 (fun _ _ h => h))
      clear b4 F4 hEm2 e0 e1 HF3
      have A5 : Fr nob w4 (w4.alloc (.cells #[.slice a LL cap, .slice none 0 0] 118)) := (Fr.refl nob w4).alloc _
      have hB5 := Bx.new w4 (.slice a LL cap) (.slice none 0 0) 118
      have HB5 := Lib.hid hB5
      have HF5 := Lib.hid (HF4.out.trans A5 (fun _ _ h => h))
      clear A5 hB5
      go_wp2_with fail
      refine (HTR.out _).mono ?_
      rintro e w6 ⟨rfl, b6⟩
      have F6 := (Fr.refl nob _).below b6
      have hB6 := HB5.out.kept F6 (fun h => h)
      have hF6 := HF5.out.trans F6 (fun _ _ h => h)
      have hR := reduce_any LL l 0 LL w4.heap.size (.slice a LL cap) (.slice none 0 0) [] .T w6 (by omega) HNE.out (by rw [HLL.out]; exact Nat.le_refl _) (by rw [HLL.out]; exact HL2.out.1) (fun r hr => ⟨Nat.le_trans (HL2.out.2.1 r hr) (by decide), HL2.out.2.2 r hr⟩)
        (HV.out.kept hF6 (fun b hb _ => ⟨fun h => h, by have := HF4.out.size; omega⟩)) ⟨a, cap, by rw [HLL.out], by rw [HLL.out]; exact HCP.out⟩ ⟨hB6.c0, hB6.c1, hB6.fr 1, rfl, World.ownsRow_nil _ _ _ _⟩ (by have := HL2.out.1; simp; omega) trivial
      rw [HPT.out] at hR
      have hR2 : Calls Try.prog 71 #[.pointer (some ⟨w4.heap.size, 0, none⟩), .int .i64 0, .int .i64 (LL : Int), .agg #[.int .u32 pT, .string sT]] w6 (RedPost l 0 LL w4.heap.size (.slice a LL cap) (.slice none 0 0) [] .T w6) := hR
      have HF6 := Lib.hid hF6
      clear b6 F6 hB6 hF6 hR HB5 HF5 HTR
      go_wp2_with fail
      refine hR2.mono ?_
      rintro e w7 ⟨k, R, cv', gr, okR, evR, he, hC, F7, _⟩
      obtain ⟨pR, sR, hpR⟩ := dform R
      rw [hpR] at he
      subst he
      rw [List.nil_append] at hC
      obtain ⟨ka, kc, rfl⟩ := hC.out.form
      have hcl : (k.map fun x => (x.1 : Int)).length = k.length := List.length_map _
      have hI := hC.out.ints
      rw [hcl] at hI
      have hc1 := hC.c1
      rw [hcl] at hc1
      have HI := Lib.hid hI
      have HGR := Lib.hid gr
      have HF7 : Hid (Fr nob w w7) := Lib.hid (HF6.out.trans' F7 (T := nob) (fun _ _ h => h) (fun b hb h => by
        have h2 := HF4.out.size
        rcases h with h | h
        · omega
        · cases h))
      clear hR2 gr okR evR hC F7 hcl hI hpR
      go_wp2_with fail
      go_ret2
      refine ⟨HF7.out, .inr (.inr ⟨HK.out, HUN.out, k, ka, kc, ?_, rfl, HI.out⟩)⟩
      have h := HGR.out
      rw [show seg l 0 LL = idx l by rw [← HLL.out]; exact seg_whole l] at h
      exact h
    · have hex : ∃ f, l.all (rowE f) = true := by
        refine Classical.byContradiction fun h => hF ?_
        refine Dg.Bd.eq_of_ev (b := .F) ok trivial fun f => ?_
        rw [hev2 f]
        cases hq : l.all (rowE f) with
        | false => rfl
        | true => exact absurd ⟨f, hq⟩ h
      have HEX := Lib.hid hex
      have hEm2 := hEm
      rw [decide_eq_false hF] at hEm2
      clear hex hev hev2 ht0 hEm hF hK hps
      go_wp2_with fail
      refine (hEm2 _).mono ?_
      rintro e w4 ⟨rfl, b4⟩
      have F4 := (Fr.refl nob _).below b4
      have HF4 := Lib.hid (HF3.out.trans F4 (fun _ _ h => h))
      clear b4 F4 hEm2 e0 e1 HF3
      go_wp2_with fail
      go_ret2
      exact ⟨HF4.out, .inr (.inl ⟨HK.out, HEX.out, rfl⟩)⟩
  · have q0 : (K != 0) = true := by simpa using hk
    have HKN := Lib.hid hk
    clear hev ht0 hEm hK hps hk hB3
    go_wp2_with fail
    go_ret2
    exact ⟨HF3.out, .inl ⟨by rw [HK.out]; exact HKN.out, by rw [HK.out]; rfl⟩⟩
end Go.Proofs.Ytaojojjdfdlgpaa
