import Derived.Test.YtaojojjdfdlgpaaRw
namespace Go.Proofs.Ytaojojjdfdlgpaa
open Go.RowKit

/-! Rows: clauses in memory of their own -/
theorem wpList_append_run2 {P : Program} (w : World) {ops : Array Oper} {rest : List Oper} {o : Oper} {a : Act} {Q : Exit → Act → World → Prop} (hgd : o.guard = none) (s x : Operand) (t : TypeId)
    (ho : o.op = .call { callee := .builtin .append, args := #[s, x], argTypes := #[t, t] }) (v u : Value) (hs : a.eval s = v) (hx : a.eval x = u) {v' : Value} {w' : World}
    (hr : (Builtin.append_ #[t, t] o.type #[v, u]).run P w = .ok v' w') (h : wpList P ops Q rest (a.put o.dst v') w') : wpList P ops Q (o :: rest) a w := by
  refine wpList_plain hgd fun K hK => ?_
  unfold Oper.wp execOp
  simp only [ho, resolve, invoke, builtin, Sem.run_bind, Sem.run_pure, Result.andThen_ok, List.map_toArray, List.map_cons, List.map_nil, hs, hx, hr]
  exact hK _ _ h
theorem info_intR : (Try.prog.info? 3).map (fun i => (i.zero, i.size, i.bytes)) = some (some (.int .i64 0), 1, 8) := by kernel_rfl
theorem info_intsR : (Try.prog.info? 37).map (fun i => (i.zero, i.size, i.bytes)) = some (some (.slice none 0 0), 1, 24) := by kernel_rfl
theorem intsO_of {w : World} {B : Nat} {l : List Int} {v : Value} {S : Nat → Prop} (h : w.ownsRow B 3 1 v l.length (l.map (Value.int .i64))) (hS : ∀ g, v.ownBlock = some g → S g) : IntsO w S l v := by
  rcases h.2 with ⟨h1, h2⟩ | ⟨g, cap, cur, h1, h2, h3, h4, h5, h6, h7⟩
  · exact ⟨none, 0, by rw [h1, h2], fun _ => rfl, fun hne => absurd (List.eq_nil_of_length_eq_zero h2) hne⟩
  · refine ⟨_, cap, h1, (fun e => by cases e), fun _ => ⟨g, 0, rfl, hS g (by rw [h1]; rfl), fun j x hj => ?_⟩⟩
    rw [Nat.zero_add, Lib.cell_of_heap h3]
    have hjl : j < l.length := (List.getElem?_eq_some_iff.1 hj).1
    have h8 := congrArg (fun l => l[j]?) h7
    simp only [List.getElem?_take, List.getElem?_map, hj, Option.map_some, Nat.mul_one, if_pos hjl] at h8
    simpa using h8
set_option maxRecDepth 100000 in
/-- append([]int(nil), l...): a row of one's own -/
theorem copyInts {w : World} {S : Nat → Prop} {l : List Int} {v : Value} (hl : l.length ≤ 1048576) (h : IntsO w S l v) :
    ∃ a c w', (Builtin.append_ #[37, 37] 37 #[.slice none 0 0, v]).run Try.prog w = .ok (.slice a l.length c) w' ∧ w'.ownsRow w.heap.size 3 1 (.slice a l.length c) l.length (l.map (Value.int .i64)) ∧ Fr nob w w' := by
  obtain ⟨a, cap, rfl, h0, hc⟩ := h
  cases a with
  | none =>
    obtain rfl := h0 rfl
    have hn : l = [] := by
      cases l with
      | nil => rfl
      | cons x t => obtain ⟨b, ob, h1, _⟩ := hc (by simp); cases h1
    subst hn
    refine ⟨none, 0, w, ?_, World.ownsRow_nil _ _ _ _, Fr.refl _ _⟩
    obtain ⟨i, hi, _⟩ := Option.map_eq_some_iff.1 info_intR
    simp [Builtin.append_, run_underlying (show Try.prog.underlying 37 = some (.slice 3) from Try.underlying37), sizeOf, typeInfo, hi, Builtin.lenOf, Builtin.firstCells]
  | some ad =>
    obtain ⟨i, hi, hz, hsz, hby⟩ := info_parts info_intR
    have hq1 : 0 + l.length ≤ maxLen := by unfold maxLen; omega
    have hq2 : (0 + l.length) * 8 ≤ 140737488355328 := by omega
    obtain ⟨v', w', hrun, r1, r2, _⟩ := run_append_own (P := Try.prog) w w.heap.size 37 37 3 i (.int .i64 0) 1 8 Try.underlying37 hi hz hsz hby rfl (by decide) (.slice none 0 0) 0 [] (World.ownsRow_nil w _ _ _) ad l.length cap (l.map (Value.int .i64)) (by simp)
      (fun j u hj => by
        rw [List.getElem?_map] at hj
        obtain ⟨x, hx, rfl⟩ := Option.map_eq_some_iff.1 hj
        obtain ⟨b, ob, h1, _, h2⟩ := hc (fun e => by rw [e] at hx; simp at hx)
        cases h1
        have := h2 j x hx
        unfold Addr.add
        split
        · rename_i e; rw [e] at this; exact this
        · exact this)
      (fun u hu => by obtain ⟨x, _, rfl⟩ := List.mem_map.1 hu; rfl) hq1 hq2 (Nat.le_refl _)
    rw [List.nil_append, Nat.zero_add] at r1
    have F := (Fr.refl nob w).grown r2 (fun k hk => by cases hk)
    rcases r1.2 with ⟨h1, h2⟩ | ⟨g, cap, cur, h1, _⟩
    · rw [h1] at hrun r1
      rw [h2] at hrun r1 ⊢
      exact ⟨none, 0, w', hrun, r1, F⟩
    · rw [h1] at hrun r1
      exact ⟨_, cap, w', hrun, r1, F⟩
/-- the rows that are finished: their blocks are new, and not that of the list -/
def RS1 (n : Nat) (kv : Value) (b : Nat) : Prop := n ≤ b ∧ kv.ownBlock ≠ some b
def Done (w : World) (S : Nat → Prop) (l : List (List Int)) (k : Nat) (cells : List Value) : Prop :=
  ∀ (j : Nat) r, j < k → l[j]? = some r → ∃ u, cells[j]? = some u ∧ IntsO w S r u
theorem Done.kept {w w' : World} {S S' T : Nat → Prop} (f : Fr S' w w') (hS : ∀ b, S b → b < w.heap.size → ¬ S' b ∧ T b) {l : List (List Int)} {k : Nat} {cells : List Value} (h : Done w S l k cells) : Done w' T l k cells :=
  fun j r hj hr => by obtain ⟨u, h1, h2⟩ := h j r hj hr; exact ⟨u, h1, h2.kept f hS⟩
set_option maxRecDepth 100000 in
set_option maxHeartbeats 1000000 in
theorem rows_any (l : List (List Int)) (v : Value) (S : Nat → Prop) (w : World) (hw1 : l.length ≤ 1048576) (hw2 : ∀ r ∈ l, r.length ≤ 1048576) (h : RowsO w S l v) :
    Calls Try.prog 24 #[v] w fun e w' => ∃ v', e = .returned v' ∧ RowsO w' (fun b => w.heap.size ≤ b) l v' ∧ Fr nob w w' := by
  obtain ⟨a, cap, rfl⟩ := h.form
  obtain ⟨c, hc⟩ : ∃ c, l.length = c := ⟨_, rfl⟩
  rw [hc] at hw1 h ⊢
  have HH := Lib.hid h
  have HN := Lib.hid hc
  have HW := Lib.hid hw2
  obtain ⟨i0, hi0, hz0, hz1, hz2⟩ := info_parts info_intsR
  clear h hc hw2
  go_enter Try.func24, Try.ntmps24
  go_wp2_with fail
  go_loopg [3, 4] c (fun m kv iv wr => ∃ (k : Nat) (cells : List Value), k + m = c ∧ iv = .int .i64 (k : Int) ∧ (∃ la lc, kv = .slice la k lc) ∧ wr.ownsRow w.heap.size 37 1 kv k cells ∧ Done wr (RS1 w.heap.size kv) l k cells ∧ Fr nob w wr)
  case atStart => exact ⟨0, [], by omega, rfl, ⟨none, 0, rfl⟩, World.ownsRow_nil _ _ _ _, fun j r hj => absurd hj (Nat.not_lt_zero _), Fr.refl _ _⟩
  case round =>
    obtain ⟨k, cells, hkm, rfl, ⟨la, lc, rfl⟩, hown, hD, hF⟩ := hrel
    have q4 : (0 : Int) ≤ (k : Int) := Int.natCast_nonneg _
    have HO := Lib.hid hown
    have HD := Lib.hid hD
    have HF := Lib.hid hF
    clear hown hD hF
    cases gk with
    | zero =>
      obtain rfl : k = c := by omega
      go_wp2_with fail
      go_ret
      refine ⟨.slice la k lc, rfl, ?_, HF.out⟩
      rcases HO.out.2 with ⟨h1, h2⟩ | ⟨g, cap', cur, h1, h2, h3, h4, h5, h6, h7⟩
      · refine ⟨none, 0, by rw [h1, HN.out, h2], fun _ => rfl, fun hne => absurd (List.eq_nil_of_length_eq_zero (by rw [HN.out]; exact h2)) hne⟩
      · cases h1
        refine ⟨_, _, by rw [HN.out], (fun e => by cases e), fun _ => ⟨g, 0, rfl, h2, fun j r hj => ?_⟩⟩
        obtain ⟨u, hu, hI⟩ := HD.out j r (by rw [← HN.out]; exact (List.getElem?_eq_some_iff.1 hj).1) hj
        refine ⟨u, ?_, hI.kept (Fr.refl nob _) (fun b hb _ => ⟨fun h => h, hb.1⟩)⟩
        rw [Nat.zero_add, Lib.cell_of_heap h3]
        have hjl : j < k := by rw [← HN.out]; exact (List.getElem?_eq_some_iff.1 hj).1
        have h8 := congrArg (fun l => l[j]?) h7
        simp only [List.getElem?_take, Nat.mul_one, if_pos hjl, hu] at h8
        simpa using h8
    | succ m =>
      have q3 : (k : Int) < (c : Int) := by omega
      have hk : k < l.length := by rw [HN.out]; omega
      have hkt : l[k]? = some l[k] := List.getElem?_eq_getElem hk
      have hmem : l[k] ∈ l := List.getElem_mem hk
      generalize l[k] = r at hkt hmem
      have hHr := HH.out.kept (T := S) HF.out (fun b h _ => ⟨fun h => h, h⟩)
      obtain ⟨b, ob, rfl, hSb, a', cap', hcl, hI⟩ := hHr.at hkt
      obtain ⟨ra, rc, w1, hrun, hown1, F1⟩ := copyInts (HW.out r hmem) hI
      have hclen : cells.length = k := by have := HO.out.1; omega
      have HR := Lib.hid hkt
      have HO1 := Lib.hid hown1
      have HF1 := Lib.hid F1
      have HCL := Lib.hid hclen
      have hO1 := (F1.row HO.out (fun _ _ h => h))
      have HOx := Lib.hid hO1
      clear hk hkt hmem hHr hI hown1 hO1 hclen
      go_wp2_with (first
        | (at_builtin; refine wpList_append_run2 _ rfl _ _ 37 rfl _ _ rfl rfl hrun ?_)
        | (at_builtin; refine wpList_append_own_at _ rfl _ _ 36 rfl w.heap.size 37 i0 (.slice none 0 0) 1 24 Try.underlying36 hi0 hz0 hz1 hz2 rfl (by decide) (.slice la k lc) k cells rfl (HOx.out.alloc _) ⟨w1.heap.size, 0, none⟩ 1 1 [.slice ra r.length rc] rfl ?c1 ?c2 ?c3 ?c4 ?c5 ?c6 ?_))
      case c1 => rfl
      case c2 => exact cell_one_new _ _ _
      case c3 => intro u hu; simp at hu; subst hu; rfl
      case c4 => unfold maxLen; omega
      case c5 => omega
      case c6 => have h1 := HF.out.size; have h2 := HF1.out.size; simp; omega
      intro v6 w6 own6 gr6 _ hat
      have A1 : Fr nob w1 (w1.alloc (.cells #[.slice ra r.length rc] 37)) := (Fr.refl nob w1).alloc _
      have F6 : Fr (fun j => (Value.slice la k lc).ownBlock = some j) (w1.alloc (.cells #[.slice ra r.length rc] 37)) w6 := (Fr.refl _ _).grown gr6 (fun j hj _ => hj)
      obtain ⟨g6, cap6, rfl⟩ : ∃ g6 cap6, v6 = .slice (some ⟨g6, 0, none⟩) (k + 1) cap6 := by
        rcases own6.2 with ⟨rfl, h0⟩ | ⟨g', cap', cur, rfl, h1, h2, _⟩
        · simp at h0
        · exact ⟨g', cap', rfl⟩
      have hz1 := HF.out.size
      have hz2 := HF1.out.size
      have holt : ∀ j, (Value.slice la k lc).ownBlock = some j → w.heap.size ≤ j ∧ j < wr.heap.size := fun j hj => HO.out.lt j hj
      have hg6 : ∀ b, b < w1.heap.size → (∀ j, (Value.slice la k lc).ownBlock = some j → j ≠ b) → (Value.slice (some ⟨g6, 0, none⟩) (k + 1) cap6).ownBlock ≠ some b := by
        intro b hb hold e
        rcases hat with h | h
        · rw [h] at e; exact hold b e rfl
        · rw [h] at e
          have e2 := Option.some.inj e
          omega
      have hI1 : IntsO w1 (fun b => wr.heap.size ≤ b ∧ b < w1.heap.size) r (.slice ra r.length rc) := intsO_of HO1.out (fun g hg => HO1.out.lt g hg)
      have hI6 := (hI1.kept (T := fun b => wr.heap.size ≤ b ∧ b < w1.heap.size) A1 (fun b h _ => ⟨fun h => h, h⟩)).kept (T := RS1 w.heap.size (.slice (some ⟨g6, 0, none⟩) (k + 1) cap6)) F6 (fun b h _ => ⟨fun e => by have := (holt b e).2; omega, by omega, hg6 b h.2 (fun j hj e => by have := (holt j hj).2; omega)⟩)
      have hD6 := ((HD.out.kept (T := fun b => RS1 w.heap.size (.slice la k lc) b ∧ b < w1.heap.size) HF1.out (fun b h h' => ⟨fun h => h, h, by omega⟩)).kept (T := fun b => RS1 w.heap.size (.slice la k lc) b ∧ b < w1.heap.size) A1 (fun b h _ => ⟨fun h => h, h⟩)).kept (T := RS1 w.heap.size (.slice (some ⟨g6, 0, none⟩) (k + 1) cap6)) F6 (fun b h _ => ⟨h.1.2, h.1.1, hg6 b h.2 (fun j hj e => h.1.2 (by rw [hj, e]))⟩)
      have hD7 : Done w6 (RS1 w.heap.size (.slice (some ⟨g6, 0, none⟩) (k + 1) cap6)) l (k + 1) (cells ++ [.slice ra r.length rc]) := by
        intro j q hj hq
        by_cases e : j = k
        · rw [e] at hq ⊢
          rw [HR.out] at hq
          cases hq
          exact ⟨_, by rw [List.getElem?_append_right (by rw [HCL.out]; exact Nat.le_refl _), HCL.out]; simp, hI6⟩
        · obtain ⟨u, h1, h2⟩ := hD6 j q (by omega) hq
          exact ⟨u, by rw [List.getElem?_append_left (by rw [HCL.out]; omega)]; exact h1, h2⟩
      have HD7 := Lib.hid hD7
      have HO7 := Lib.hid own6
      have HF7 := Lib.hid (((HF.out.trans HF1.out (fun _ _ h => h)).trans A1 (fun _ _ h => h)).trans' (T := nob) F6 (fun _ _ h => h) (fun j hj h => by have := (holt j h).1; omega))
      clear own6 gr6 hat A1 F6 hz1 hz2 holt hg6 hI1 hI6 hD6 hD7 hrun hcl HO HD HF HOx HO1 HF1
      go_wp2_with fail
      go_roundg m
      case measure => omega
      case rel => exact ⟨k + 1, _, by omega, by go_num, ⟨_, _, rfl⟩, HO7.out, HD7.out, HF7.out⟩
theorem IntsO.lt {w : World} {S : Nat → Prop} {l : List Int} {v : Value} (h : IntsO w S l v) : IntsO w (fun b => S b ∧ b < w.heap.size) l v := by
  obtain ⟨a, cap, rfl, h0, hk⟩ := h
  refine ⟨a, cap, rfl, h0, fun hne => ?_⟩
  obtain ⟨b, ob, rfl, hb, hc⟩ := hk hne
  have hlt : b < w.heap.size := by
    cases l with
    | nil => exact absurd rfl hne
    | cons x l => exact lt_of_cell (hc 0 x rfl)
  exact ⟨b, ob, rfl, ⟨hb, hlt⟩, hc⟩
theorem RowsO.lt {w : World} {S : Nat → Prop} {l : List (List Int)} {v : Value} (h : RowsO w S l v) : RowsO w (fun b => S b ∧ b < w.heap.size) l v := by
  obtain ⟨a, cap, rfl, h0, hk⟩ := h
  refine ⟨a, cap, rfl, h0, fun hne => ?_⟩
  obtain ⟨b, ob, rfl, hb, hc⟩ := hk hne
  have hlt : b < w.heap.size := by
    cases l with
    | nil => exact absurd rfl hne
    | cons x l => obtain ⟨u, hu, _⟩ := hc 0 x rfl; exact lt_of_cell hu
  exact ⟨b, ob, rfl, ⟨hb, hlt⟩, fun j r hj => by obtain ⟨u, hu, hI⟩ := hc j r hj; exact ⟨u, hu, hI.lt⟩⟩
theorem rows_in {w : World} {S : Nat → Prop} {l : List (List Int)} {v : Value} (h : RowsO w S l v) : RowsO w (fun b => b < w.heap.size) l v :=
  h.lt.kept (Fr.refl nob w) (fun _ hb _ => ⟨fun h => h, hb.2⟩)
end Go.Proofs.Ytaojojjdfdlgpaa
