import Derived.Test.YtalnhlebgofiiaaGreatDoorRefD
import Derived.Test.YtalnhlebgofiiaaGreatDoorRule
namespace Go.Proofs.YtalnhlebgofiiaaGreatDoor
open Go.RowKit
open Bd

theorem RSet.below {w w' : World} {v : Value} {V : List Nat} {f : Cfg → Bool} (h : RSet w v V f) (hb : Below w.heap.size w w') : RSet w' v V f := by
  obtain ⟨h1, h2, sv, st, h3, h4, h5⟩ := h
  exact ⟨h1, h2, sv, st, h3, h4.below hb, h5.below hb⟩

theorem SRow.keep2 {w1 w3 wr : World} {q : Option Addr} {n c g : Nat} {l : List Value} (h1 : SRow w1 (.slice q n c) l) (h3 : SRow w3 (.slice q n c) l) (fr : Fr (fun j => j = g) w3 wr) (hg : w1.heap.size ≤ g) : SRow wr (.slice q n c) l := by
  obtain ⟨a, cap, e, hc⟩ := h3
  refine ⟨a, cap, e, fun j u hj => ?_⟩
  obtain ⟨g', e1, e2⟩ := hc j u hj
  obtain ⟨g2, e3, e4⟩ := h1.at hj
  have ea : q = a := by injection e
  rw [ea, e1] at e3
  cases e3
  have h5 := lt_of_cell e4
  simp only at h5
  exact ⟨g', e1, fr.cell' e2 (by omega)⟩

theorem SRow.store2 {w1 w : World} {q : Option Addr} {n c b : Nat} {L : List Nat} (h1 : SRow w1 (.slice q n c) (L.map ik)) (h : SRow w (.slice q n c) (L.map ik)) (hb : w1.cell? ⟨b, 0, none⟩ = some (.slice none 0 0)) (o : Nat) (u : Value) : SRow (w.setCell ⟨b, o, none⟩ u) (.slice q n c) (L.map ik) := by
  obtain ⟨a, cap, e, hc⟩ := h
  refine ⟨a, cap, e, fun j u' hj => ?_⟩
  obtain ⟨g', e1, e2⟩ := hc j u' hj
  have ea : q = a := by injection e
  have hne : g' ≠ b := by
    rintro rfl
    cases L with
    | nil => simp at hj
    | cons x L =>
      obtain ⟨g2, e3, e4⟩ := h1.at (j := 0) (u := ik x) rfl
      rw [ea, e1] at e3
      cases e3
      rw [hb] at e4
      cases e4
  exact ⟨g', e1, (fr_store w b o u).cell e2 hne⟩

/-- a set that is made in a block of its own -/
def SetAt (w : World) (b : Nat) (v : Value) : Prop := ∃ sv st, v = .agg #[sv, st] ∧ w.cell? ⟨b, 0, none⟩ = some sv ∧ w.cell? ⟨b, 1, none⟩ = some st

def jnB (how : Nat) (x y : Bool) : Bool := if how = 0 then x && y else if how = 1 then x || y else x != y
theorem joinL_on {V W : List Nat} {f h : Cfg → Bool} (hV : rising V) (hW : rising W) (hf : onV V f) (hh : onV W h) (how : Nat) : onV (joinL V W) (fun c => jnB how (f c) (h c)) := by
  intro c d hc
  have e1 := hf c d (fun i hi => hc i ((mem_joinL hV hW).2 (.inl hi)))
  have e2 := hh c d (fun i hi => hc i ((mem_joinL hV hW).2 (.inr hi)))
  show jnB how (f c) (h c) = jnB how (f d) (h d)
  rw [e1, e2]

set_option maxRecDepth 100000 in
set_option maxHeartbeats 2000000 in
theorem RJoin0_any (V W : List Nat) (f h : Cfg → Bool) (va vb : Value) (w : World) (hsa : RSet w va V f) (hsb : RSet w vb W h) : Calls Tryz.prog 115 #[va, vb, .int .i64 0] w fun e w' => ∃ v', e = .returned v' ∧ RSet w' v' (joinL V W) (fun c => jnB 0 (f c) (h c)) ∧ Below w.heap.size w w' := by
  obtain ⟨hV, hf, sa, ta, rfl, ha1, ha2⟩ := id hsa
  obtain ⟨hW, hh, sb, tb, rfl, hb1, hb2⟩ := id hsb
  have hU := rising_featL (numN V ||| numN W)
  have hon := joinL_on hV hW hf hh 0
  have hl := rising_len hU
  change rising (joinL V W) at hU
  change (joinL V W).length ≤ 24 at hl
  have hTl := tab_length (joinL V W) (fun c => jnB 0 (f c) (h c))
  have hTk : ∀ k (hk : k < (tab (joinL V W) (fun c => jnB 0 (f c) (h c))).length), (tab (joinL V W) (fun c => jnB 0 (f c) (h c)))[k] = jnB 0 (f (bitsOf (cfgN (joinL V W) k))) (h (bitsOf (cfgN (joinL V W) k))) := fun k hk => by
    have := tab_at (V := joinL V W) (f := fun c => jnB 0 (f c) (h c)) (by rw [← hTl]; exact hk)
    exact (List.getElem?_eq_some_iff.1 this).2
  have HF : ∀ T, T = tab (joinL V W) (fun c => jnB 0 (f c) (h c)) → Hid (T = tab (joinL V W) (fun c => jnB 0 (f c) (h c))) := fun T e => Lib.hid e
  obtain ⟨T, hT⟩ : ∃ T, T = tab (joinL V W) (fun c => jnB 0 (f c) (h c)) := ⟨_, rfl⟩
  rw [← hT] at hTl hTk
  replace HF := HF T hT
  have Htl := Lib.hid hTl
  have HTk := Lib.hid hTk
  have hpow : 2 ^ (joinL V W).length ≤ 16777216 := Nat.pow_le_pow_right (by omega) hl
  have hT16 : T.length ≤ 16777216 := by omega
  have hk62 : ∀ k, k < T.length → k < 2 ^ 62 := fun k hk => Nat.lt_of_lt_of_le hk (Nat.le_trans hT16 (by decide))
  have Hk62 := Lib.hid hk62
  clear hT hTl hTk hk62 hpow
  obtain ⟨a0, a1⟩ := two_cells' w sa ta 36
  obtain ⟨b0, b1⟩ := two_cells' (w.alloc (.cells #[sa, ta] 36)) sb tb 36
  obtain ⟨r0, r1⟩ := two_cells' ((w.alloc (.cells #[sa, ta] 36)).alloc (.cells #[sb, tb] 36)) (.slice none 0 0) (.slice none 0 0) 36
  replace a0 := cell_alloc_l (cell_alloc_l a0 (.cells #[sb, tb] 36)) (.cells #[.slice none 0 0, .slice none 0 0] 36)
  replace a1 := cell_alloc_l (cell_alloc_l a1 (.cells #[sb, tb] 36)) (.cells #[.slice none 0 0, .slice none 0 0] 36)
  replace b0 := cell_alloc_l b0 (.cells #[.slice none 0 0, .slice none 0 0] 36)
  replace b1 := cell_alloc_l b1 (.cells #[.slice none 0 0, .slice none 0 0] 36)
  have fr : Fr nob w (((w.alloc (.cells #[sa, ta] 36)).alloc (.cells #[sb, tb] 36)).alloc (.cells #[.slice none 0 0, .slice none 0 0] 36)) := (((Fr.refl nob w).alloc _).alloc _).alloc _
  have hfz : ∀ o, (((w.alloc (.cells #[sa, ta] 36)).alloc (.cells #[sb, tb] 36)).alloc (.cells #[.slice none 0 0, .slice none 0 0] 36)).frozen? ⟨w.heap.size + 1 + 1, o, none⟩ = false := fun o => World.frozen?_alloc_at _ _ _ _ (by simp)
  have hz : w.heap.size + 1 + 1 < (((w.alloc (.cells #[sa, ta] 36)).alloc (.cells #[sb, tb] 36)).alloc (.cells #[.slice none 0 0, .slice none 0 0] 36)).heap.size := by simp
  simp only [World.size_alloc] at a0 a1 b0 b1 r0 r1
  obtain ⟨qa, ca, rfl⟩ := ha1.form
  obtain ⟨qt, ct, rfl⟩ := ha2.form
  obtain ⟨qb, cb, rfl⟩ := hb1.form
  obtain ⟨qu, cu, rfl⟩ := hb2.form
  have ha1' := ha1
  have hb1' := hb1
  have hsa' := hsa
  have hsb' := hsb
  generalize (List.map ik V).length = n1 at *
  generalize (List.map ik W).length = n2 at *
  generalize (List.map Value.bool (tab V f)).length = n3 at *
  generalize (List.map Value.bool (tab W h)).length = n4 at *
  go_enter Tryz.func115, Tryz.ntmps115
  go_wp2_with fail
  have bj := fun W0 (hf0 : Fr nob w W0) => Join_any V W hV hW _ _ W0 (ha1'.kept hf0) (hb1'.kept hf0)
  refine (bj _ fr).mono ?_
  clear bj
  rintro e w1 ⟨v1, rfl, hs1, hb⟩
  have fr1 : Fr nob _ w1 := (Fr.refl nob _).below hb
  replace a0 := fr1.cell' a0 (fun h => h)
  replace a1 := fr1.cell' a1 (fun h => h)
  replace b0 := fr1.cell' b0 (fun h => h)
  replace b1 := fr1.cell' b1 (fun h => h)
  have f0 := (fr1.frozen (p := ⟨w.heap.size + 1 + 1, 0, none⟩) hz (fun h => h)).trans (hfz 0)
  have f1 := (fr1.frozen (p := ⟨w.heap.size + 1 + 1, 1, none⟩) hz (fun h => h)).trans (hfz 1)
  replace r0 := fr1.cell' r0 (fun h => h)
  replace r1 := fr1.cell' r1 (fun h => h)
  have frw := fr.trans fr1 (fun _ _ h => h)
  obtain ⟨qv, cv, rfl⟩ := hs1.form
  rw [List.length_map] at hs1 ⊢
  have hsw1 := hs1
  have r0w := r0
  clear fr fr1 hb hfz hz ha1' hb1'
  go_wp2_with fail
  refine (Blank_len (joinL V W).length T.length hl Htl.out qv cv _).mono ?_
  rintro e w2 ⟨g, rfl, row2, hb2⟩
  have fr2 : Fr nob w1 w2 := (Fr.refl nob _).below hb2
  replace a0 := fr2.cell' a0 (fun h => h)
  replace a1 := fr2.cell' a1 (fun h => h)
  replace b0 := fr2.cell' b0 (fun h => h)
  replace b1 := fr2.cell' b1 (fun h => h)
  replace f0 := (fr2.frozen (p := ⟨w.heap.size + 1 + 1, 0, none⟩) (lt_of_cell r0) (fun h => h)).trans f0
  replace f1 := (fr2.frozen (p := ⟨w.heap.size + 1 + 1, 1, none⟩) (lt_of_cell r1) (fun h => h)).trans f1
  have lw1 := lt_of_cell r0
  simp only at lw1
  replace r0 := fr2.cell' r0 (fun h => h)
  replace r1 := fr2.cell' r1 (fun h => h)
  replace frw := frw.trans fr2 (fun _ _ h => h)
  replace hs1 := hs1.kept fr2
  obtain ⟨S0, hg1, hg2⟩ := FillSt.start (sv := .slice qv (joinL V W).length cv) (T0 := 36) rfl row2
  have fr3 : Fr nob w2 (w2.alloc (.cells #[.slice qv (joinL V W).length cv, .slice (some ⟨g, 0, none⟩) T.length T.length] 36)) := (Fr.refl nob w2).alloc _
  clear row2 fr2 hb2
  go_wp2_with fail
  generalize w2.alloc (.cells #[.slice qv (joinL V W).length cv, .slice (some ⟨g, 0, none⟩) T.length T.length] 36) = W3 at *
  replace a0 := fr3.cell' a0 (fun h => h)
  replace a1 := fr3.cell' a1 (fun h => h)
  replace b0 := fr3.cell' b0 (fun h => h)
  replace b1 := fr3.cell' b1 (fun h => h)
  replace f0 := (fr3.frozen (p := ⟨w.heap.size + 1 + 1, 0, none⟩) (lt_of_cell r0) (fun h => h)).trans f0
  replace f1 := (fr3.frozen (p := ⟨w.heap.size + 1 + 1, 1, none⟩) (lt_of_cell r1) (fun h => h)).trans f1
  have lw2 := lt_of_cell r0
  simp only at lw2
  replace r0 := fr3.cell' r0 (fun h => h)
  replace r1 := fr3.cell' r1 (fun h => h)
  have hs3 := hs1.kept fr3
  replace frw := frw.trans fr3 (fun _ _ h => h)
  have z3 := fr3.size
  clear fr3 hs1
  go_loopw [8] (fun kv wr => ∃ k : Nat, k ≤ T.length ∧ kv = ik k ∧ FillSt W3 w2.heap.size g (.slice qv (joinL V W).length cv) T k wr) (fun kv _ => T.length - (intOf kv).toNat)
  case atStart => exact ⟨0, Nat.zero_le _, rfl, S0⟩
  case round =>
    clear S0
    obtain ⟨k, hk, rfl, S⟩ := hrel
    have hBr : Below w.heap.size w wr := (frw.trans' S.fr (T := fun k => w.heap.size ≤ k) (fun _ _ h => h.elim) (fun j hj e => by omega)).to_below (Nat.le_refl _) (fun _ h => h)
    replace a0 := S.fr.cell' a0 (by omega)
    replace a1 := S.fr.cell' a1 (by omega)
    replace b0 := S.fr.cell' b0 (by omega)
    replace b1 := S.fr.cell' b1 (by omega)
    have o0 := S.o0
    have o1 := S.o1
    by_cases hlt : k < T.length
    · have hsr : SRow wr (.slice qv (joinL V W).length cv) ((joinL V W).map ik) := hsw1.keep2 hs3 S.fr hg1
      have hcf := Config_any (joinL V W) hU k (Hk62.out k hlt) (.slice qv (joinL V W).length cv) wr hsr
      have hc24 := cfgN_lt hU k
      have hxy := HTk.out k hlt
      have hA := RHas_any V f (cfgN (joinL V W) k) (Nat.lt_of_lt_of_le hc24 (by decide)) (.agg #[.slice qa n1 ca, .slice qt n3 ct])
      have hB := RHas_any W h (cfgN (joinL V W) k) (Nat.lt_of_lt_of_le hc24 (by decide)) (.agg #[.slice qb n2 cb, .slice qu n4 cu])
      generalize cfgN (joinL V W) k = cc at *
      generalize f (bitsOf cc) = x at *
      generalize h (bitsOf cc) = y at *
      go_wp2_with fail
      refine hcf.mono ?_
      rintro e wr' ⟨rfl, rfl⟩
      go_wp2_with fail
      refine wp_region_grow' 6 64 (fun _ => #[]) [] (by kernel_rfl) (by kernel_rfl) rfl rfl (by intro T h; cases h) ?_
      simp only [List.take_succ_cons, List.take_zero]
      refine grow_step (v := ?v0) rfl rfl ?a0 ?b0
      case a0 =>
        intro w' hw'
        have y_a0 := hw'.cell' a0 (fun h => h)
        have y_a1 := hw'.cell' a1 (fun h => h)
        clear hw'
        refine growAt_value ?_
        go_simp
        rfl
      simp only [Act.put, List.setIfInBounds_toArray, List.set_cons_zero, List.set_cons_succ]
      refine grow_step (v := ?v1) rfl rfl ?a1 ?b1
      case a1 =>
        intro w' hw'
        clear hw'
        refine growAt_value ?_
        go_simp
        rfl
      simp only [Act.put, List.setIfInBounds_toArray, List.set_cons_zero, List.set_cons_succ]
      refine grow_step (v := .bool x) rfl rfl ?a2 ?b2
      case a2 =>
        intro w' hw'
        refine growAt_call ?_ ((hA w' ((hsa'.below hBr).kept hw')).mono fun e w'' ⟨he, hb⟩ => ⟨he, (Fr.refl nob _).below hb⟩)
        go_simp
      simp only [Act.put, List.setIfInBounds_toArray, List.set_cons_zero, List.set_cons_succ]
      refine grow_step (v := ?v3) rfl rfl ?a3 ?b3
      case a3 =>
        intro w' hw'
        have y_b0 := hw'.cell' b0 (fun h => h)
        have y_b1 := hw'.cell' b1 (fun h => h)
        clear hw'
        refine growAt_value ?_
        go_simp
        rfl
      simp only [Act.put, List.setIfInBounds_toArray, List.set_cons_zero, List.set_cons_succ]
      refine grow_step (v := ?v4) rfl rfl ?a4 ?b4
      case a4 =>
        intro w' hw'
        clear hw'
        refine growAt_value ?_
        go_simp
        rfl
      simp only [Act.put, List.setIfInBounds_toArray, List.set_cons_zero, List.set_cons_succ]
      refine grow_step (v := .bool y) rfl rfl ?a5 ?b5
      case a5 =>
        intro w' hw'
        refine growAt_call ?_ ((hB w' ((hsb'.below hBr).kept hw')).mono fun e w'' ⟨he, hb⟩ => ⟨he, (Fr.refl nob _).below hb⟩)
        go_simp
      simp only [Act.put, List.setIfInBounds_toArray, List.set_cons_zero, List.set_cons_succ]
      refine grow_nil ?_
      intro w5 listed p5 _ _
      have S5 := S.kept p5
      clear S hA hB hcf hsr a0 a1 b0 b1 o0 o1 hBr p5
      have o0 := S5.o0
      have o1 := S5.o1
      have hSp := S5.put hlt hxy
      have hfz := S5.row.frozenAt k
      have hok : (w5.cell? ⟨g, k, none⟩).isSome = true := by
        rw [S5.row.cellAt k (by omega)]
        have : k < (part T k).length := by rw [part_length _ _ (by omega)]; exact hlt
        simp [this]
      obtain ⟨yv, hyv⟩ := Option.isSome_iff_exists.1 hok
      clear S5 hok hxy
      cases x <;> cases y
      all_goals
        simp only [jnB] at hSp
        go_wp2_with fail
        refine ⟨⟨k + 1, by omega, by go_num, hSp⟩, by simp [intOf]; omega⟩
    · obtain rfl : k = T.length := by omega
      have s0 := S.fr.cell' r0 (by omega)
      have s1 := S.fr.cell' r1 (by omega)
      have sf0 := (S.fr.frozen (p := ⟨w.heap.size + 1 + 1, 0, none⟩) (lt_of_cell r0) (by simp; omega)).trans f0
      have sf1 := (S.fr.frozen (p := ⟨w.heap.size + 1 + 1, 1, none⟩) (lt_of_cell r1) (by simp; omega)).trans f1
      have hd := S.done
      have hfw := frw.trans' S.fr (T := fun k => w.heap.size ≤ k) (fun _ _ h => h.elim) (fun j hj e => by omega)
      have hsr : SRow wr (.slice qv (joinL V W).length cv) ((joinL V W).map ik) := hsw1.keep2 hs3 S.fr hg1
      clear S a0 a1 b0 b1 hBr r0 r1 f0 f1
      go_wp2_with fail
      refine bodyPost_ret (v := .agg #[.slice qv (joinL V W).length cv, .slice (some ⟨g, 0, none⟩) T.length T.length]) (by simp [results, Tryz.results115, go_sem, s0, s1]) rfl ⟨_, rfl, ⟨hU, hon, _, _, rfl, ?_, ?_⟩, ?_⟩
      · exact SRow.store2 hsw1 (SRow.store2 hsw1 hsr r0w 0 _) r0w 1 _
      · rw [← HF.out]
        exact (hd.store (by omega) 0 _).store (by omega) 1 _
      · exact ((hfw.setCell (p := ⟨w.heap.size + 1 + 1, 0, none⟩) (by simp; omega) _).setCell (p := ⟨w.heap.size + 1 + 1, 1, none⟩) (by simp; omega) _).to_below (Nat.le_refl _) (fun _ h => h)

set_option maxRecDepth 100000 in
set_option maxHeartbeats 2000000 in
theorem RJoin1_any (V W : List Nat) (f h : Cfg → Bool) (va vb : Value) (w : World) (hsa : RSet w va V f) (hsb : RSet w vb W h) : Calls Tryz.prog 115 #[va, vb, .int .i64 1] w fun e w' => ∃ v', e = .returned v' ∧ RSet w' v' (joinL V W) (fun c => jnB 1 (f c) (h c)) ∧ Below w.heap.size w w' := by
  obtain ⟨hV, hf, sa, ta, rfl, ha1, ha2⟩ := id hsa
  obtain ⟨hW, hh, sb, tb, rfl, hb1, hb2⟩ := id hsb
  have hU := rising_featL (numN V ||| numN W)
  have hon := joinL_on hV hW hf hh 1
  have hl := rising_len hU
  change rising (joinL V W) at hU
  change (joinL V W).length ≤ 24 at hl
  have hTl := tab_length (joinL V W) (fun c => jnB 1 (f c) (h c))
  have hTk : ∀ k (hk : k < (tab (joinL V W) (fun c => jnB 1 (f c) (h c))).length), (tab (joinL V W) (fun c => jnB 1 (f c) (h c)))[k] = jnB 1 (f (bitsOf (cfgN (joinL V W) k))) (h (bitsOf (cfgN (joinL V W) k))) := fun k hk => by
    have := tab_at (V := joinL V W) (f := fun c => jnB 1 (f c) (h c)) (by rw [← hTl]; exact hk)
    exact (List.getElem?_eq_some_iff.1 this).2
  have HF : ∀ T, T = tab (joinL V W) (fun c => jnB 1 (f c) (h c)) → Hid (T = tab (joinL V W) (fun c => jnB 1 (f c) (h c))) := fun T e => Lib.hid e
  obtain ⟨T, hT⟩ : ∃ T, T = tab (joinL V W) (fun c => jnB 1 (f c) (h c)) := ⟨_, rfl⟩
  rw [← hT] at hTl hTk
  replace HF := HF T hT
  have Htl := Lib.hid hTl
  have HTk := Lib.hid hTk
  have hpow : 2 ^ (joinL V W).length ≤ 16777216 := Nat.pow_le_pow_right (by omega) hl
  have hT16 : T.length ≤ 16777216 := by omega
  have hk62 : ∀ k, k < T.length → k < 2 ^ 62 := fun k hk => Nat.lt_of_lt_of_le hk (Nat.le_trans hT16 (by decide))
  have Hk62 := Lib.hid hk62
  clear hT hTl hTk hk62 hpow
  obtain ⟨a0, a1⟩ := two_cells' w sa ta 36
  obtain ⟨b0, b1⟩ := two_cells' (w.alloc (.cells #[sa, ta] 36)) sb tb 36
  obtain ⟨r0, r1⟩ := two_cells' ((w.alloc (.cells #[sa, ta] 36)).alloc (.cells #[sb, tb] 36)) (.slice none 0 0) (.slice none 0 0) 36
  replace a0 := cell_alloc_l (cell_alloc_l a0 (.cells #[sb, tb] 36)) (.cells #[.slice none 0 0, .slice none 0 0] 36)
  replace a1 := cell_alloc_l (cell_alloc_l a1 (.cells #[sb, tb] 36)) (.cells #[.slice none 0 0, .slice none 0 0] 36)
  replace b0 := cell_alloc_l b0 (.cells #[.slice none 0 0, .slice none 0 0] 36)
  replace b1 := cell_alloc_l b1 (.cells #[.slice none 0 0, .slice none 0 0] 36)
  have fr : Fr nob w (((w.alloc (.cells #[sa, ta] 36)).alloc (.cells #[sb, tb] 36)).alloc (.cells #[.slice none 0 0, .slice none 0 0] 36)) := (((Fr.refl nob w).alloc _).alloc _).alloc _
  have hfz : ∀ o, (((w.alloc (.cells #[sa, ta] 36)).alloc (.cells #[sb, tb] 36)).alloc (.cells #[.slice none 0 0, .slice none 0 0] 36)).frozen? ⟨w.heap.size + 1 + 1, o, none⟩ = false := fun o => World.frozen?_alloc_at _ _ _ _ (by simp)
  have hz : w.heap.size + 1 + 1 < (((w.alloc (.cells #[sa, ta] 36)).alloc (.cells #[sb, tb] 36)).alloc (.cells #[.slice none 0 0, .slice none 0 0] 36)).heap.size := by simp
  simp only [World.size_alloc] at a0 a1 b0 b1 r0 r1
  obtain ⟨qa, ca, rfl⟩ := ha1.form
  obtain ⟨qt, ct, rfl⟩ := ha2.form
  obtain ⟨qb, cb, rfl⟩ := hb1.form
  obtain ⟨qu, cu, rfl⟩ := hb2.form
  have ha1' := ha1
  have hb1' := hb1
  have hsa' := hsa
  have hsb' := hsb
  generalize (List.map ik V).length = n1 at *
  generalize (List.map ik W).length = n2 at *
  generalize (List.map Value.bool (tab V f)).length = n3 at *
  generalize (List.map Value.bool (tab W h)).length = n4 at *
  go_enter Tryz.func115, Tryz.ntmps115
  go_wp2_with fail
  have bj := fun W0 (hf0 : Fr nob w W0) => Join_any V W hV hW _ _ W0 (ha1'.kept hf0) (hb1'.kept hf0)
  refine (bj _ fr).mono ?_
  clear bj
  rintro e w1 ⟨v1, rfl, hs1, hb⟩
  have fr1 : Fr nob _ w1 := (Fr.refl nob _).below hb
  replace a0 := fr1.cell' a0 (fun h => h)
  replace a1 := fr1.cell' a1 (fun h => h)
  replace b0 := fr1.cell' b0 (fun h => h)
  replace b1 := fr1.cell' b1 (fun h => h)
  have f0 := (fr1.frozen (p := ⟨w.heap.size + 1 + 1, 0, none⟩) hz (fun h => h)).trans (hfz 0)
  have f1 := (fr1.frozen (p := ⟨w.heap.size + 1 + 1, 1, none⟩) hz (fun h => h)).trans (hfz 1)
  replace r0 := fr1.cell' r0 (fun h => h)
  replace r1 := fr1.cell' r1 (fun h => h)
  have frw := fr.trans fr1 (fun _ _ h => h)
  obtain ⟨qv, cv, rfl⟩ := hs1.form
  rw [List.length_map] at hs1 ⊢
  have hsw1 := hs1
  have r0w := r0
  clear fr fr1 hb hfz hz ha1' hb1'
  go_wp2_with fail
  refine (Blank_len (joinL V W).length T.length hl Htl.out qv cv _).mono ?_
  rintro e w2 ⟨g, rfl, row2, hb2⟩
  have fr2 : Fr nob w1 w2 := (Fr.refl nob _).below hb2
  replace a0 := fr2.cell' a0 (fun h => h)
  replace a1 := fr2.cell' a1 (fun h => h)
  replace b0 := fr2.cell' b0 (fun h => h)
  replace b1 := fr2.cell' b1 (fun h => h)
  replace f0 := (fr2.frozen (p := ⟨w.heap.size + 1 + 1, 0, none⟩) (lt_of_cell r0) (fun h => h)).trans f0
  replace f1 := (fr2.frozen (p := ⟨w.heap.size + 1 + 1, 1, none⟩) (lt_of_cell r1) (fun h => h)).trans f1
  have lw1 := lt_of_cell r0
  simp only at lw1
  replace r0 := fr2.cell' r0 (fun h => h)
  replace r1 := fr2.cell' r1 (fun h => h)
  replace frw := frw.trans fr2 (fun _ _ h => h)
  replace hs1 := hs1.kept fr2
  obtain ⟨S0, hg1, hg2⟩ := FillSt.start (sv := .slice qv (joinL V W).length cv) (T0 := 36) rfl row2
  have fr3 : Fr nob w2 (w2.alloc (.cells #[.slice qv (joinL V W).length cv, .slice (some ⟨g, 0, none⟩) T.length T.length] 36)) := (Fr.refl nob w2).alloc _
  clear row2 fr2 hb2
  go_wp2_with fail
  generalize w2.alloc (.cells #[.slice qv (joinL V W).length cv, .slice (some ⟨g, 0, none⟩) T.length T.length] 36) = W3 at *
  replace a0 := fr3.cell' a0 (fun h => h)
  replace a1 := fr3.cell' a1 (fun h => h)
  replace b0 := fr3.cell' b0 (fun h => h)
  replace b1 := fr3.cell' b1 (fun h => h)
  replace f0 := (fr3.frozen (p := ⟨w.heap.size + 1 + 1, 0, none⟩) (lt_of_cell r0) (fun h => h)).trans f0
  replace f1 := (fr3.frozen (p := ⟨w.heap.size + 1 + 1, 1, none⟩) (lt_of_cell r1) (fun h => h)).trans f1
  have lw2 := lt_of_cell r0
  simp only at lw2
  replace r0 := fr3.cell' r0 (fun h => h)
  replace r1 := fr3.cell' r1 (fun h => h)
  have hs3 := hs1.kept fr3
  replace frw := frw.trans fr3 (fun _ _ h => h)
  have z3 := fr3.size
  clear fr3 hs1
  go_loopw [8] (fun kv wr => ∃ k : Nat, k ≤ T.length ∧ kv = ik k ∧ FillSt W3 w2.heap.size g (.slice qv (joinL V W).length cv) T k wr) (fun kv _ => T.length - (intOf kv).toNat)
  case atStart => exact ⟨0, Nat.zero_le _, rfl, S0⟩
  case round =>
    clear S0
    obtain ⟨k, hk, rfl, S⟩ := hrel
    have hBr : Below w.heap.size w wr := (frw.trans' S.fr (T := fun k => w.heap.size ≤ k) (fun _ _ h => h.elim) (fun j hj e => by omega)).to_below (Nat.le_refl _) (fun _ h => h)
    replace a0 := S.fr.cell' a0 (by omega)
    replace a1 := S.fr.cell' a1 (by omega)
    replace b0 := S.fr.cell' b0 (by omega)
    replace b1 := S.fr.cell' b1 (by omega)
    have o0 := S.o0
    have o1 := S.o1
    by_cases hlt : k < T.length
    · have hsr : SRow wr (.slice qv (joinL V W).length cv) ((joinL V W).map ik) := hsw1.keep2 hs3 S.fr hg1
      have hcf := Config_any (joinL V W) hU k (Hk62.out k hlt) (.slice qv (joinL V W).length cv) wr hsr
      have hc24 := cfgN_lt hU k
      have hxy := HTk.out k hlt
      have hA := RHas_any V f (cfgN (joinL V W) k) (Nat.lt_of_lt_of_le hc24 (by decide)) (.agg #[.slice qa n1 ca, .slice qt n3 ct])
      have hB := RHas_any W h (cfgN (joinL V W) k) (Nat.lt_of_lt_of_le hc24 (by decide)) (.agg #[.slice qb n2 cb, .slice qu n4 cu])
      generalize cfgN (joinL V W) k = cc at *
      generalize f (bitsOf cc) = x at *
      generalize h (bitsOf cc) = y at *
      go_wp2_with fail
      refine hcf.mono ?_
      rintro e wr' ⟨rfl, rfl⟩
      go_wp2_with fail
      refine wp_region_grow' 6 64 (fun _ => #[]) [] (by kernel_rfl) (by kernel_rfl) rfl rfl (by intro T h; cases h) ?_
      simp only [List.take_succ_cons, List.take_zero]
      refine grow_step (v := ?v0) rfl rfl ?a0 ?b0
      case a0 =>
        intro w' hw'
        have y_a0 := hw'.cell' a0 (fun h => h)
        have y_a1 := hw'.cell' a1 (fun h => h)
        clear hw'
        refine growAt_value ?_
        go_simp
        rfl
      simp only [Act.put, List.setIfInBounds_toArray, List.set_cons_zero, List.set_cons_succ]
      refine grow_step (v := ?v1) rfl rfl ?a1 ?b1
      case a1 =>
        intro w' hw'
        clear hw'
        refine growAt_value ?_
        go_simp
        rfl
      simp only [Act.put, List.setIfInBounds_toArray, List.set_cons_zero, List.set_cons_succ]
      refine grow_step (v := .bool x) rfl rfl ?a2 ?b2
      case a2 =>
        intro w' hw'
        refine growAt_call ?_ ((hA w' ((hsa'.below hBr).kept hw')).mono fun e w'' ⟨he, hb⟩ => ⟨he, (Fr.refl nob _).below hb⟩)
        go_simp
      simp only [Act.put, List.setIfInBounds_toArray, List.set_cons_zero, List.set_cons_succ]
      refine grow_step (v := ?v3) rfl rfl ?a3 ?b3
      case a3 =>
        intro w' hw'
        have y_b0 := hw'.cell' b0 (fun h => h)
        have y_b1 := hw'.cell' b1 (fun h => h)
        clear hw'
        refine growAt_value ?_
        go_simp
        rfl
      simp only [Act.put, List.setIfInBounds_toArray, List.set_cons_zero, List.set_cons_succ]
      refine grow_step (v := ?v4) rfl rfl ?a4 ?b4
      case a4 =>
        intro w' hw'
        clear hw'
        refine growAt_value ?_
        go_simp
        rfl
      simp only [Act.put, List.setIfInBounds_toArray, List.set_cons_zero, List.set_cons_succ]
      refine grow_step (v := .bool y) rfl rfl ?a5 ?b5
      case a5 =>
        intro w' hw'
        refine growAt_call ?_ ((hB w' ((hsb'.below hBr).kept hw')).mono fun e w'' ⟨he, hb⟩ => ⟨he, (Fr.refl nob _).below hb⟩)
        go_simp
      simp only [Act.put, List.setIfInBounds_toArray, List.set_cons_zero, List.set_cons_succ]
      refine grow_nil ?_
      intro w5 listed p5 _ _
      have S5 := S.kept p5
      clear S hA hB hcf hsr a0 a1 b0 b1 o0 o1 hBr p5
      have o0 := S5.o0
      have o1 := S5.o1
      have hSp := S5.put hlt hxy
      have hfz := S5.row.frozenAt k
      have hok : (w5.cell? ⟨g, k, none⟩).isSome = true := by
        rw [S5.row.cellAt k (by omega)]
        have : k < (part T k).length := by rw [part_length _ _ (by omega)]; exact hlt
        simp [this]
      obtain ⟨yv, hyv⟩ := Option.isSome_iff_exists.1 hok
      clear S5 hok hxy
      cases x <;> cases y
      all_goals
        simp only [jnB] at hSp
        go_wp2_with fail
        refine ⟨⟨k + 1, by omega, by go_num, hSp⟩, by simp [intOf]; omega⟩
    · obtain rfl : k = T.length := by omega
      have s0 := S.fr.cell' r0 (by omega)
      have s1 := S.fr.cell' r1 (by omega)
      have sf0 := (S.fr.frozen (p := ⟨w.heap.size + 1 + 1, 0, none⟩) (lt_of_cell r0) (by simp; omega)).trans f0
      have sf1 := (S.fr.frozen (p := ⟨w.heap.size + 1 + 1, 1, none⟩) (lt_of_cell r1) (by simp; omega)).trans f1
      have hd := S.done
      have hfw := frw.trans' S.fr (T := fun k => w.heap.size ≤ k) (fun _ _ h => h.elim) (fun j hj e => by omega)
      have hsr : SRow wr (.slice qv (joinL V W).length cv) ((joinL V W).map ik) := hsw1.keep2 hs3 S.fr hg1
      clear S a0 a1 b0 b1 hBr r0 r1 f0 f1
      go_wp2_with fail
      refine bodyPost_ret (v := .agg #[.slice qv (joinL V W).length cv, .slice (some ⟨g, 0, none⟩) T.length T.length]) (by simp [results, Tryz.results115, go_sem, s0, s1]) rfl ⟨_, rfl, ⟨hU, hon, _, _, rfl, ?_, ?_⟩, ?_⟩
      · exact SRow.store2 hsw1 (SRow.store2 hsw1 hsr r0w 0 _) r0w 1 _
      · rw [← HF.out]
        exact (hd.store (by omega) 0 _).store (by omega) 1 _
      · exact ((hfw.setCell (p := ⟨w.heap.size + 1 + 1, 0, none⟩) (by simp; omega) _).setCell (p := ⟨w.heap.size + 1 + 1, 1, none⟩) (by simp; omega) _).to_below (Nat.le_refl _) (fun _ h => h)

set_option maxRecDepth 100000 in
set_option maxHeartbeats 2000000 in
theorem RJoin2_any (V W : List Nat) (f h : Cfg → Bool) (va vb : Value) (w : World) (hsa : RSet w va V f) (hsb : RSet w vb W h) : Calls Tryz.prog 115 #[va, vb, .int .i64 2] w fun e w' => ∃ v', e = .returned v' ∧ RSet w' v' (joinL V W) (fun c => jnB 2 (f c) (h c)) ∧ Below w.heap.size w w' := by
  obtain ⟨hV, hf, sa, ta, rfl, ha1, ha2⟩ := id hsa
  obtain ⟨hW, hh, sb, tb, rfl, hb1, hb2⟩ := id hsb
  have hU := rising_featL (numN V ||| numN W)
  have hon := joinL_on hV hW hf hh 2
  have hl := rising_len hU
  change rising (joinL V W) at hU
  change (joinL V W).length ≤ 24 at hl
  have hTl := tab_length (joinL V W) (fun c => jnB 2 (f c) (h c))
  have hTk : ∀ k (hk : k < (tab (joinL V W) (fun c => jnB 2 (f c) (h c))).length), (tab (joinL V W) (fun c => jnB 2 (f c) (h c)))[k] = jnB 2 (f (bitsOf (cfgN (joinL V W) k))) (h (bitsOf (cfgN (joinL V W) k))) := fun k hk => by
    have := tab_at (V := joinL V W) (f := fun c => jnB 2 (f c) (h c)) (by rw [← hTl]; exact hk)
    exact (List.getElem?_eq_some_iff.1 this).2
  have HF : ∀ T, T = tab (joinL V W) (fun c => jnB 2 (f c) (h c)) → Hid (T = tab (joinL V W) (fun c => jnB 2 (f c) (h c))) := fun T e => Lib.hid e
  obtain ⟨T, hT⟩ : ∃ T, T = tab (joinL V W) (fun c => jnB 2 (f c) (h c)) := ⟨_, rfl⟩
  rw [← hT] at hTl hTk
  replace HF := HF T hT
  have Htl := Lib.hid hTl
  have HTk := Lib.hid hTk
  have hpow : 2 ^ (joinL V W).length ≤ 16777216 := Nat.pow_le_pow_right (by omega) hl
  have hT16 : T.length ≤ 16777216 := by omega
  have hk62 : ∀ k, k < T.length → k < 2 ^ 62 := fun k hk => Nat.lt_of_lt_of_le hk (Nat.le_trans hT16 (by decide))
  have Hk62 := Lib.hid hk62
  clear hT hTl hTk hk62 hpow
  obtain ⟨a0, a1⟩ := two_cells' w sa ta 36
  obtain ⟨b0, b1⟩ := two_cells' (w.alloc (.cells #[sa, ta] 36)) sb tb 36
  obtain ⟨r0, r1⟩ := two_cells' ((w.alloc (.cells #[sa, ta] 36)).alloc (.cells #[sb, tb] 36)) (.slice none 0 0) (.slice none 0 0) 36
  replace a0 := cell_alloc_l (cell_alloc_l a0 (.cells #[sb, tb] 36)) (.cells #[.slice none 0 0, .slice none 0 0] 36)
  replace a1 := cell_alloc_l (cell_alloc_l a1 (.cells #[sb, tb] 36)) (.cells #[.slice none 0 0, .slice none 0 0] 36)
  replace b0 := cell_alloc_l b0 (.cells #[.slice none 0 0, .slice none 0 0] 36)
  replace b1 := cell_alloc_l b1 (.cells #[.slice none 0 0, .slice none 0 0] 36)
  have fr : Fr nob w (((w.alloc (.cells #[sa, ta] 36)).alloc (.cells #[sb, tb] 36)).alloc (.cells #[.slice none 0 0, .slice none 0 0] 36)) := (((Fr.refl nob w).alloc _).alloc _).alloc _
  have hfz : ∀ o, (((w.alloc (.cells #[sa, ta] 36)).alloc (.cells #[sb, tb] 36)).alloc (.cells #[.slice none 0 0, .slice none 0 0] 36)).frozen? ⟨w.heap.size + 1 + 1, o, none⟩ = false := fun o => World.frozen?_alloc_at _ _ _ _ (by simp)
  have hz : w.heap.size + 1 + 1 < (((w.alloc (.cells #[sa, ta] 36)).alloc (.cells #[sb, tb] 36)).alloc (.cells #[.slice none 0 0, .slice none 0 0] 36)).heap.size := by simp
  simp only [World.size_alloc] at a0 a1 b0 b1 r0 r1
  obtain ⟨qa, ca, rfl⟩ := ha1.form
  obtain ⟨qt, ct, rfl⟩ := ha2.form
  obtain ⟨qb, cb, rfl⟩ := hb1.form
  obtain ⟨qu, cu, rfl⟩ := hb2.form
  have ha1' := ha1
  have hb1' := hb1
  have hsa' := hsa
  have hsb' := hsb
  generalize (List.map ik V).length = n1 at *
  generalize (List.map ik W).length = n2 at *
  generalize (List.map Value.bool (tab V f)).length = n3 at *
  generalize (List.map Value.bool (tab W h)).length = n4 at *
  go_enter Tryz.func115, Tryz.ntmps115
  go_wp2_with fail
  have bj := fun W0 (hf0 : Fr nob w W0) => Join_any V W hV hW _ _ W0 (ha1'.kept hf0) (hb1'.kept hf0)
  refine (bj _ fr).mono ?_
  clear bj
  rintro e w1 ⟨v1, rfl, hs1, hb⟩
  have fr1 : Fr nob _ w1 := (Fr.refl nob _).below hb
  replace a0 := fr1.cell' a0 (fun h => h)
  replace a1 := fr1.cell' a1 (fun h => h)
  replace b0 := fr1.cell' b0 (fun h => h)
  replace b1 := fr1.cell' b1 (fun h => h)
  have f0 := (fr1.frozen (p := ⟨w.heap.size + 1 + 1, 0, none⟩) hz (fun h => h)).trans (hfz 0)
  have f1 := (fr1.frozen (p := ⟨w.heap.size + 1 + 1, 1, none⟩) hz (fun h => h)).trans (hfz 1)
  replace r0 := fr1.cell' r0 (fun h => h)
  replace r1 := fr1.cell' r1 (fun h => h)
  have frw := fr.trans fr1 (fun _ _ h => h)
  obtain ⟨qv, cv, rfl⟩ := hs1.form
  rw [List.length_map] at hs1 ⊢
  have hsw1 := hs1
  have r0w := r0
  clear fr fr1 hb hfz hz ha1' hb1'
  go_wp2_with fail
  refine (Blank_len (joinL V W).length T.length hl Htl.out qv cv _).mono ?_
  rintro e w2 ⟨g, rfl, row2, hb2⟩
  have fr2 : Fr nob w1 w2 := (Fr.refl nob _).below hb2
  replace a0 := fr2.cell' a0 (fun h => h)
  replace a1 := fr2.cell' a1 (fun h => h)
  replace b0 := fr2.cell' b0 (fun h => h)
  replace b1 := fr2.cell' b1 (fun h => h)
  replace f0 := (fr2.frozen (p := ⟨w.heap.size + 1 + 1, 0, none⟩) (lt_of_cell r0) (fun h => h)).trans f0
  replace f1 := (fr2.frozen (p := ⟨w.heap.size + 1 + 1, 1, none⟩) (lt_of_cell r1) (fun h => h)).trans f1
  have lw1 := lt_of_cell r0
  simp only at lw1
  replace r0 := fr2.cell' r0 (fun h => h)
  replace r1 := fr2.cell' r1 (fun h => h)
  replace frw := frw.trans fr2 (fun _ _ h => h)
  replace hs1 := hs1.kept fr2
  obtain ⟨S0, hg1, hg2⟩ := FillSt.start (sv := .slice qv (joinL V W).length cv) (T0 := 36) rfl row2
  have fr3 : Fr nob w2 (w2.alloc (.cells #[.slice qv (joinL V W).length cv, .slice (some ⟨g, 0, none⟩) T.length T.length] 36)) := (Fr.refl nob w2).alloc _
  clear row2 fr2 hb2
  go_wp2_with fail
  generalize w2.alloc (.cells #[.slice qv (joinL V W).length cv, .slice (some ⟨g, 0, none⟩) T.length T.length] 36) = W3 at *
  replace a0 := fr3.cell' a0 (fun h => h)
  replace a1 := fr3.cell' a1 (fun h => h)
  replace b0 := fr3.cell' b0 (fun h => h)
  replace b1 := fr3.cell' b1 (fun h => h)
  replace f0 := (fr3.frozen (p := ⟨w.heap.size + 1 + 1, 0, none⟩) (lt_of_cell r0) (fun h => h)).trans f0
  replace f1 := (fr3.frozen (p := ⟨w.heap.size + 1 + 1, 1, none⟩) (lt_of_cell r1) (fun h => h)).trans f1
  have lw2 := lt_of_cell r0
  simp only at lw2
  replace r0 := fr3.cell' r0 (fun h => h)
  replace r1 := fr3.cell' r1 (fun h => h)
  have hs3 := hs1.kept fr3
  replace frw := frw.trans fr3 (fun _ _ h => h)
  have z3 := fr3.size
  clear fr3 hs1
  go_loopw [8] (fun kv wr => ∃ k : Nat, k ≤ T.length ∧ kv = ik k ∧ FillSt W3 w2.heap.size g (.slice qv (joinL V W).length cv) T k wr) (fun kv _ => T.length - (intOf kv).toNat)
  case atStart => exact ⟨0, Nat.zero_le _, rfl, S0⟩
  case round =>
    clear S0
    obtain ⟨k, hk, rfl, S⟩ := hrel
    have hBr : Below w.heap.size w wr := (frw.trans' S.fr (T := fun k => w.heap.size ≤ k) (fun _ _ h => h.elim) (fun j hj e => by omega)).to_below (Nat.le_refl _) (fun _ h => h)
    replace a0 := S.fr.cell' a0 (by omega)
    replace a1 := S.fr.cell' a1 (by omega)
    replace b0 := S.fr.cell' b0 (by omega)
    replace b1 := S.fr.cell' b1 (by omega)
    have o0 := S.o0
    have o1 := S.o1
    by_cases hlt : k < T.length
    · have hsr : SRow wr (.slice qv (joinL V W).length cv) ((joinL V W).map ik) := hsw1.keep2 hs3 S.fr hg1
      have hcf := Config_any (joinL V W) hU k (Hk62.out k hlt) (.slice qv (joinL V W).length cv) wr hsr
      have hc24 := cfgN_lt hU k
      have hxy := HTk.out k hlt
      have hA := RHas_any V f (cfgN (joinL V W) k) (Nat.lt_of_lt_of_le hc24 (by decide)) (.agg #[.slice qa n1 ca, .slice qt n3 ct])
      have hB := RHas_any W h (cfgN (joinL V W) k) (Nat.lt_of_lt_of_le hc24 (by decide)) (.agg #[.slice qb n2 cb, .slice qu n4 cu])
      generalize cfgN (joinL V W) k = cc at *
      generalize f (bitsOf cc) = x at *
      generalize h (bitsOf cc) = y at *
      go_wp2_with fail
      refine hcf.mono ?_
      rintro e wr' ⟨rfl, rfl⟩
      go_wp2_with fail
      refine wp_region_grow' 6 64 (fun _ => #[]) [] (by kernel_rfl) (by kernel_rfl) rfl rfl (by intro T h; cases h) ?_
      simp only [List.take_succ_cons, List.take_zero]
      refine grow_step (v := ?v0) rfl rfl ?a0 ?b0
      case a0 =>
        intro w' hw'
        have y_a0 := hw'.cell' a0 (fun h => h)
        have y_a1 := hw'.cell' a1 (fun h => h)
        clear hw'
        refine growAt_value ?_
        go_simp
        rfl
      simp only [Act.put, List.setIfInBounds_toArray, List.set_cons_zero, List.set_cons_succ]
      refine grow_step (v := ?v1) rfl rfl ?a1 ?b1
      case a1 =>
        intro w' hw'
        clear hw'
        refine growAt_value ?_
        go_simp
        rfl
      simp only [Act.put, List.setIfInBounds_toArray, List.set_cons_zero, List.set_cons_succ]
      refine grow_step (v := .bool x) rfl rfl ?a2 ?b2
      case a2 =>
        intro w' hw'
        refine growAt_call ?_ ((hA w' ((hsa'.below hBr).kept hw')).mono fun e w'' ⟨he, hb⟩ => ⟨he, (Fr.refl nob _).below hb⟩)
        go_simp
      simp only [Act.put, List.setIfInBounds_toArray, List.set_cons_zero, List.set_cons_succ]
      refine grow_step (v := ?v3) rfl rfl ?a3 ?b3
      case a3 =>
        intro w' hw'
        have y_b0 := hw'.cell' b0 (fun h => h)
        have y_b1 := hw'.cell' b1 (fun h => h)
        clear hw'
        refine growAt_value ?_
        go_simp
        rfl
      simp only [Act.put, List.setIfInBounds_toArray, List.set_cons_zero, List.set_cons_succ]
      refine grow_step (v := ?v4) rfl rfl ?a4 ?b4
      case a4 =>
        intro w' hw'
        clear hw'
        refine growAt_value ?_
        go_simp
        rfl
      simp only [Act.put, List.setIfInBounds_toArray, List.set_cons_zero, List.set_cons_succ]
      refine grow_step (v := .bool y) rfl rfl ?a5 ?b5
      case a5 =>
        intro w' hw'
        refine growAt_call ?_ ((hB w' ((hsb'.below hBr).kept hw')).mono fun e w'' ⟨he, hb⟩ => ⟨he, (Fr.refl nob _).below hb⟩)
        go_simp
      simp only [Act.put, List.setIfInBounds_toArray, List.set_cons_zero, List.set_cons_succ]
      refine grow_nil ?_
      intro w5 listed p5 _ _
      have S5 := S.kept p5
      clear S hA hB hcf hsr a0 a1 b0 b1 o0 o1 hBr p5
      have o0 := S5.o0
      have o1 := S5.o1
      have hSp := S5.put hlt hxy
      have hfz := S5.row.frozenAt k
      have hok : (w5.cell? ⟨g, k, none⟩).isSome = true := by
        rw [S5.row.cellAt k (by omega)]
        have : k < (part T k).length := by rw [part_length _ _ (by omega)]; exact hlt
        simp [this]
      obtain ⟨yv, hyv⟩ := Option.isSome_iff_exists.1 hok
      clear S5 hok hxy
      cases x <;> cases y
      all_goals
        simp only [jnB] at hSp
        go_wp2_with fail
        refine ⟨⟨k + 1, by omega, by go_num, hSp⟩, by simp [intOf]; omega⟩
    · obtain rfl : k = T.length := by omega
      have s0 := S.fr.cell' r0 (by omega)
      have s1 := S.fr.cell' r1 (by omega)
      have sf0 := (S.fr.frozen (p := ⟨w.heap.size + 1 + 1, 0, none⟩) (lt_of_cell r0) (by simp; omega)).trans f0
      have sf1 := (S.fr.frozen (p := ⟨w.heap.size + 1 + 1, 1, none⟩) (lt_of_cell r1) (by simp; omega)).trans f1
      have hd := S.done
      have hfw := frw.trans' S.fr (T := fun k => w.heap.size ≤ k) (fun _ _ h => h.elim) (fun j hj e => by omega)
      have hsr : SRow wr (.slice qv (joinL V W).length cv) ((joinL V W).map ik) := hsw1.keep2 hs3 S.fr hg1
      clear S a0 a1 b0 b1 hBr r0 r1 f0 f1
      go_wp2_with fail
      refine bodyPost_ret (v := .agg #[.slice qv (joinL V W).length cv, .slice (some ⟨g, 0, none⟩) T.length T.length]) (by simp [results, Tryz.results115, go_sem, s0, s1]) rfl ⟨_, rfl, ⟨hU, hon, _, _, rfl, ?_, ?_⟩, ?_⟩
      · exact SRow.store2 hsw1 (SRow.store2 hsw1 hsr r0w 0 _) r0w 1 _
      · rw [← HF.out]
        exact (hd.store (by omega) 0 _).store (by omega) 1 _
      · exact ((hfw.setCell (p := ⟨w.heap.size + 1 + 1, 0, none⟩) (by simp; omega) _).setCell (p := ⟨w.heap.size + 1 + 1, 1, none⟩) (by simp; omega) _).to_below (Nat.le_refl _) (fun _ h => h)
end Go.Proofs.YtalnhlebgofiiaaGreatDoor
