import Derived.Test.YtalnhlebgofiiaaGreatDoorRefF
namespace Go.Proofs.YtalnhlebgofiiaaGreatDoor
open Go.RowKit
open Bd

theorem bits_set (cc i : Nat) : bitsOf (cc ||| 2 ^ i) = up (bitsOf cc) i true := by
  funext j
  show (cc ||| 2 ^ i).testBit j = if j = i then true else cc.testBit j
  rw [Nat.testBit_or, Nat.testBit_two_pow]
  by_cases h : j = i
  · subst h; simp
  · have : ¬ i = j := fun e => h e.symm
    simp [h, this]
theorem bits_clear {cc i : Nat} (hb : cc.testBit i = true) : bitsOf (cc - 2 ^ i) = up (bitsOf cc) i false ∧ 2 ^ i ≤ cc := by
  have hq : cc / 2 ^ i % 2 = 1 := by
    rw [Nat.testBit_eq_decide_div_mod_eq] at hb; simpa using hb
  have hc : cc = 2 ^ i * (cc / 2 ^ i) + cc % 2 ^ i := (Nat.div_add_mod cc (2 ^ i)).symm
  have hr : cc % 2 ^ i < 2 ^ i := Nat.mod_lt _ (Nat.two_pow_pos _)
  generalize cc / 2 ^ i = q at *
  generalize cc % 2 ^ i = r at *
  subst hc
  have h1 : 1 ≤ q := by omega
  obtain ⟨m, rfl⟩ : ∃ m, q = 2 * m + 1 := ⟨q / 2, by omega⟩
  have e : 2 ^ i * (2 * m + 1) + r - 2 ^ i = 2 ^ i * (2 * m) + r := by rw [Nat.mul_add, Nat.mul_one]; omega
  refine ⟨?_, by rw [Nat.mul_add, Nat.mul_one]; omega⟩
  rw [e]
  funext j
  show (2 ^ i * (2 * m) + r).testBit j = if j = i then false else (2 ^ i * (2 * m + 1) + r).testBit j
  rw [Nat.testBit_two_pow_mul_add _ hr, Nat.testBit_two_pow_mul_add _ hr]
  by_cases h : j = i
  · subst h; simp
  · rw [if_neg h]
    by_cases hl : j < i
    · simp [hl]
    · rw [if_neg hl, if_neg hl]
      obtain ⟨d, hd⟩ : ∃ d, j - i = d + 1 := ⟨j - i - 1, by omega⟩
      rw [hd, Nat.testBit_succ, Nat.testBit_succ]
      congr 1
      omega
theorem bits_free {cc i : Nat} (hb : cc.testBit i = false) : bitsOf cc = up (bitsOf cc) i false := by
  funext j
  show cc.testBit j = if j = i then false else cc.testBit j
  by_cases h : j = i
  · subst h; simp [hb]
  · simp [h]
theorem sub_pow (cc i : Nat) (hc : cc < 2 ^ 24) (_hi : i < 24) (h : 2 ^ i ≤ cc) : (((cc : Int) - 2 ^ i % 4294967296) % 4294967296) = ((cc - 2 ^ i : Nat) : Int) := by
  rw [show (2 : Int) ^ i = ((2 ^ i : Nat) : Int) by simp]
  generalize 2 ^ i = p at *
  omega
theorem up_on {V : List Nat} {f : Cfg → Bool} (hf : onV V f) (i : Nat) (b : Bool) : onV V (fun c => f (up c i b)) := fun c d h => hf _ _ fun j hj => by
  simp only [up]; split
  · rfl
  · exact h j hj

set_option maxRecDepth 100000 in
set_option maxHeartbeats 2000000 in
theorem RWithOn_any (V : List Nat) (f : Cfg → Bool) (i : Nat) (hi : i < 24) (va : Value) (w : World) (hsa : RSet w va V f) : Calls Tryz.prog 84 #[va, ik i, .bool true] w fun e w' => ∃ v', e = .returned v' ∧ RSet w' v' V (fun c => f (up c i true)) ∧ Below w.heap.size w w' := by
  obtain ⟨hV, hf, sa, ta, rfl, ha1, ha2⟩ := id hsa
  have hon := up_on hf i true
  have hl := rising_len hV
  have hTl := tab_length V (fun c => f (up c i true))
  have hTk : ∀ k (hk : k < (tab V (fun c => f (up c i true))).length), (tab V (fun c => f (up c i true)))[k] = f (up (bitsOf (cfgN V k)) i true) := fun k hk => by
    have := tab_at (V := V) (f := fun c => f (up c i true)) (by rw [← hTl]; exact hk)
    exact (List.getElem?_eq_some_iff.1 this).2
  obtain ⟨T, hT⟩ : ∃ T, T = tab V (fun c => f (up c i true)) := ⟨_, rfl⟩
  rw [← hT] at hTl hTk
  have HF := Lib.hid hT
  have Htl := Lib.hid hTl
  have HTk := Lib.hid hTk
  have hpow : 2 ^ V.length ≤ 16777216 := Nat.pow_le_pow_right (by omega) hl
  have hT16 : T.length ≤ 16777216 := by omega
  have hk62 : ∀ k, k < T.length → k < 2 ^ 62 := fun k hk => Nat.lt_of_lt_of_le hk (Nat.le_trans hT16 (by decide))
  have Hk62 := Lib.hid hk62
  clear hT hTl hTk hk62 hpow
  obtain ⟨qa, ca, rfl⟩ := ha1.form
  obtain ⟨qt, ct, rfl⟩ := ha2.form
  rw [List.length_map] at *
  have hn3 : (List.map Value.bool (tab V f)).length = T.length := by rw [List.length_map, tab_length, Htl.out]
  have HN3 := Lib.hid hn3
  clear hn3
  have hsa' := hsa
  generalize (List.map Value.bool (tab V f)).length = n3 at *
  obtain rfl : n3 = T.length := HN3.out
  obtain ⟨n1, hn1⟩ : ∃ n1, n1 = V.length := ⟨_, rfl⟩
  obtain ⟨n3, hn3⟩ : ∃ n3, n3 = T.length := ⟨_, rfl⟩
  obtain ⟨a0, a1⟩ := two_cells' w (.slice qa V.length ca) (.slice qt T.length ct) 36
  obtain ⟨r0, r1⟩ := two_cells' (w.alloc (.cells #[.slice qa V.length ca, .slice qt T.length ct] 36)) (.slice none 0 0) (.slice none 0 0) 36
  replace a0 := cell_alloc_l a0 (.cells #[.slice none 0 0, .slice none 0 0] 36)
  replace a1 := cell_alloc_l a1 (.cells #[.slice none 0 0, .slice none 0 0] 36)
  have fr : Fr nob w ((w.alloc (.cells #[.slice qa V.length ca, .slice qt T.length ct] 36)).alloc (.cells #[.slice none 0 0, .slice none 0 0] 36)) := ((Fr.refl nob w).alloc _).alloc _
  have hfz : ∀ o, ((w.alloc (.cells #[.slice qa V.length ca, .slice qt T.length ct] 36)).alloc (.cells #[.slice none 0 0, .slice none 0 0] 36)).frozen? ⟨w.heap.size + 1, o, none⟩ = false := fun o => World.frozen?_alloc_at _ _ _ _ (by simp)
  simp only [World.size_alloc] at a0 a1 r0 r1
  have hi0 : (i : Int) < 24 := by omega
  clear hn1 hn3 n1 n3 HN3
  go_enter Tryz.func84, Tryz.ntmps84
  go_wp2_with fail
  generalize ((w.alloc (.cells #[.slice qa V.length ca, .slice qt T.length ct] 36)).alloc (.cells #[.slice none 0 0, .slice none 0 0] 36)) = W0 at *
  refine (Blank_len V.length T.length hl Htl.out qa ca _).mono ?_
  rintro e w2 ⟨g, rfl, row2, hb2⟩
  have fr2 : Fr nob W0 w2 := (Fr.refl nob _).below hb2
  replace a0 := fr2.cell' a0 (fun h => h)
  replace a1 := fr2.cell' a1 (fun h => h)
  have f0 := (fr2.frozen (p := ⟨w.heap.size + 1, 0, none⟩) (lt_of_cell r0) (fun h => h)).trans (hfz 0)
  have f1 := (fr2.frozen (p := ⟨w.heap.size + 1, 1, none⟩) (lt_of_cell r1) (fun h => h)).trans (hfz 1)
  have lw1 := lt_of_cell r0
  simp only at lw1
  replace r0 := fr2.cell' r0 (fun h => h)
  replace r1 := fr2.cell' r1 (fun h => h)
  have frw := fr.trans fr2 (fun _ _ h => h)
  obtain ⟨S0, hg1, hg2⟩ := FillSt.start (sv := .slice qa V.length ca) (T0 := 36) rfl row2
  have fr3 : Fr nob w2 (w2.alloc (.cells #[.slice qa V.length ca, .slice (some ⟨g, 0, none⟩) T.length T.length] 36)) := (Fr.refl nob w2).alloc _
  clear row2 fr2 hb2 hfz fr
  go_wp2_with fail
  generalize w2.alloc (.cells #[.slice qa V.length ca, .slice (some ⟨g, 0, none⟩) T.length T.length] 36) = W3 at *
  replace a0 := fr3.cell' a0 (fun h => h)
  replace a1 := fr3.cell' a1 (fun h => h)
  replace f0 := (fr3.frozen (p := ⟨w.heap.size + 1, 0, none⟩) (lt_of_cell r0) (fun h => h)).trans f0
  replace f1 := (fr3.frozen (p := ⟨w.heap.size + 1, 1, none⟩) (lt_of_cell r1) (fun h => h)).trans f1
  have lw2 := lt_of_cell r0
  simp only at lw2
  replace r0 := fr3.cell' r0 (fun h => h)
  replace r1 := fr3.cell' r1 (fun h => h)
  replace frw := frw.trans fr3 (fun _ _ h => h)
  have z3 := fr3.size
  clear fr3
  go_loopw [8] (fun kv wr => ∃ k : Nat, k ≤ T.length ∧ kv = ik k ∧ FillSt W3 w2.heap.size g (.slice qa V.length ca) T k wr) (fun kv _ => T.length - (intOf kv).toNat)
  case atStart => exact ⟨0, Nat.zero_le _, rfl, S0⟩
  case round =>
    clear S0
    obtain ⟨k, hk, rfl, S⟩ := hrel
    have hBr : Below w.heap.size w wr := (frw.trans' S.fr (T := fun k => w.heap.size ≤ k) (fun _ _ h => h.elim) (fun j hj e => by omega)).to_below (Nat.le_refl _) (fun _ h => h)
    replace a0 := S.fr.cell' a0 (by omega)
    replace a1 := S.fr.cell' a1 (by omega)
    have o0 := S.o0
    have o1 := S.o1
    by_cases hlt : k < T.length
    · have hsr : SRow wr (.slice qa V.length ca) (V.map ik) := ha1.below hBr
      have hcf := Config_any V hV k (Hk62.out k hlt) (.slice qa V.length ca) wr hsr
      have hc24 := cfgN_lt hV k
      have hxy := HTk.out k hlt
      generalize cfgN V k = cc at *
      have hc32 : cc < 2 ^ 32 := Nat.lt_of_lt_of_le hc24 (by decide)
      go_wp2_with fail
      refine hcf.mono ?_
      rintro e wr' ⟨rfl, rfl⟩
      clear hcf hsr
      have ho := or_u32 cc i hc24 hi
      rw [Nat.one_shiftLeft] at ho
      have HO := Lib.hid ho
      have hor : cc ||| 2 ^ i < 2 ^ 32 := Nat.or_lt_two_pow hc32 (Nat.pow_lt_pow_right (by omega) (by omega))
      have hA := RHas_any V f (cc ||| 2 ^ i) hor (.agg #[.slice qa V.length ca, .slice qt T.length ct])
      rw [← bits_set] at hxy
      generalize hgx : cc ||| 2 ^ i = c2 at *
      have HG := Lib.hid hgx
      clear hgx ho
      generalize f (bitsOf c2) = x at *
      go_upto_region 12 with (fail)
      rw [HO.out]
      refine wp_region_grow' 7 53 (fun _ => #[]) [] (by kernel_rfl) (by kernel_rfl) rfl rfl (by intro T h; cases h) ?_
      simp only [List.take_succ_cons, List.take_zero]
      refine grow_step (v := ?v0) rfl rfl ?a0 ?b0
      case a0 =>
        intro w' hw'
        clear hw'
        refine growAt_value ?_
        go_simp
        rfl
      simp only [Act.put, List.setIfInBounds_toArray, List.set_cons_zero, List.set_cons_succ]
      refine grow_step (v := ?v1) rfl rfl ?a1 ?b1
      case a1 =>
        intro w' hw'
        have y_o0 := hw'.cell' o0 (fun h => h)
        have y_o1 := hw'.cell' o1 (fun h => h)
        clear hw'
        refine growAt_value ?_
        go_simp
        rfl
      simp only [Act.put, List.setIfInBounds_toArray, List.set_cons_zero, List.set_cons_succ]
      refine grow_step (v := ?v2) rfl rfl ?a2 ?b2
      case a2 =>
        intro w' hw'
        clear hw'
        refine growAt_value ?_
        go_simp
        rfl
      simp only [Act.put, List.setIfInBounds_toArray, List.set_cons_zero, List.set_cons_succ]
      refine grow_step (v := ?v3) rfl rfl ?a3 ?b3
      case a3 =>
        intro w' hw'
        have y_a0 := hw'.cell' a0 (fun h => h)
        have y_a1 := hw'.cell' a1 (fun h => h)
        clear hw'
        refine growAt_value ?_
        go_simp
        rfl
      simp only [Act.put, List.setIfInBounds_toArray, List.set_cons_zero, List.set_cons_succ]
      refine grow_step (v := ?v4) rfl rfl ?a4 ?b4
      case a4 =>
        intro w' hw'
        clear hw'
        refine growAt_value ?_
        go_simp
        rfl
      simp only [Act.put, List.setIfInBounds_toArray, List.set_cons_zero, List.set_cons_succ]
      refine grow_step (v := .bool x) rfl rfl ?a5 ?b5
      case a5 =>
        intro w' hw'
        refine growAt_call ?_ ((hA w' ((hsa'.below hBr).kept hw')).mono fun e w'' ⟨he, hb⟩ => ⟨he, (Fr.refl nob _).below hb⟩)
        go_simp
      simp only [Act.put, List.setIfInBounds_toArray, List.set_cons_zero, List.set_cons_succ]
      refine grow_step (v := ?v6) rfl rfl ?a6 ?b6
      case a6 =>
        intro w' hw'
        clear hw'
        refine growAt_value ?_
        go_simp
        rfl
      simp only [Act.put, List.setIfInBounds_toArray, List.set_cons_zero, List.set_cons_succ]
      refine grow_nil ?_
      intro w5 listed p5 _ _
      have S5 := S.kept p5
      clear S hA a0 a1 o0 o1 hBr p5
      have o0 := S5.o0
      have o1 := S5.o1
      have hSp := S5.put hlt hxy
      have hfz := S5.row.frozenAt k
      have hok : (w5.cell? ⟨g, k, none⟩).isSome = true := by
        rw [S5.row.cellAt k (by omega)]
        have : k < (part T k).length := by rw [part_length _ _ (by omega)]; exact hlt
        simp [this]
      obtain ⟨yv, hyv⟩ := Option.isSome_iff_exists.1 hok
      clear S5 hok hxy
      go_wp2_with fail
      refine ⟨⟨k + 1, by omega, by go_num, hSp⟩, by simp [intOf]; omega⟩
    · obtain rfl : k = T.length := by omega
      have s0 := S.fr.cell' r0 (by omega)
      have s1 := S.fr.cell' r1 (by omega)
      have sf0 := (S.fr.frozen (p := ⟨w.heap.size + 1, 0, none⟩) (lt_of_cell r0) (by simp; omega)).trans f0
      have sf1 := (S.fr.frozen (p := ⟨w.heap.size + 1, 1, none⟩) (lt_of_cell r1) (by simp; omega)).trans f1
      have hd := S.done
      have hfw := frw.trans' S.fr (T := fun k => w.heap.size ≤ k) (fun _ _ h => h.elim) (fun j hj e => by omega)
      clear S hBr r0 r1 f0 f1
      go_wp2_with fail
      have hBf := (((hfw.setCell (p := ⟨w.heap.size + 1, 0, none⟩) (by simp) (.slice qa V.length ca)).setCell (p := ⟨w.heap.size + 1, 1, none⟩) (by simp) (.slice (some ⟨g, 0, none⟩) T.length T.length)).to_below (Nat.le_refl _) (fun _ h => h))
      refine bodyPost_ret (v := .agg #[.slice qa V.length ca, .slice (some ⟨g, 0, none⟩) T.length T.length]) (by simp [results, Tryz.results84, go_sem, s0, s1]) rfl ⟨_, rfl, ⟨hV, hon, _, _, rfl, ha1.below hBf, ?_⟩, hBf⟩
      rw [← HF.out]
      exact (hd.store (by omega) 0 _).store (by omega) 1 _

set_option maxRecDepth 100000 in
set_option maxHeartbeats 2000000 in
theorem RWithOff_any (V : List Nat) (f : Cfg → Bool) (i : Nat) (hi : i < 24) (va : Value) (w : World) (hsa : RSet w va V f) : Calls Tryz.prog 84 #[va, ik i, .bool false] w fun e w' => ∃ v', e = .returned v' ∧ RSet w' v' V (fun c => f (up c i false)) ∧ Below w.heap.size w w' := by
  obtain ⟨hV, hf, sa, ta, rfl, ha1, ha2⟩ := id hsa
  have hon := up_on hf i false
  have hl := rising_len hV
  have hTl := tab_length V (fun c => f (up c i false))
  have hTk : ∀ k (hk : k < (tab V (fun c => f (up c i false))).length), (tab V (fun c => f (up c i false)))[k] = f (up (bitsOf (cfgN V k)) i false) := fun k hk => by
    have := tab_at (V := V) (f := fun c => f (up c i false)) (by rw [← hTl]; exact hk)
    exact (List.getElem?_eq_some_iff.1 this).2
  obtain ⟨T, hT⟩ : ∃ T, T = tab V (fun c => f (up c i false)) := ⟨_, rfl⟩
  rw [← hT] at hTl hTk
  have HF := Lib.hid hT
  have Htl := Lib.hid hTl
  have HTk := Lib.hid hTk
  have hpow : 2 ^ V.length ≤ 16777216 := Nat.pow_le_pow_right (by omega) hl
  have hT16 : T.length ≤ 16777216 := by omega
  have hk62 : ∀ k, k < T.length → k < 2 ^ 62 := fun k hk => Nat.lt_of_lt_of_le hk (Nat.le_trans hT16 (by decide))
  have Hk62 := Lib.hid hk62
  clear hT hTl hTk hk62 hpow
  obtain ⟨qa, ca, rfl⟩ := ha1.form
  obtain ⟨qt, ct, rfl⟩ := ha2.form
  rw [List.length_map] at *
  have hn3 : (List.map Value.bool (tab V f)).length = T.length := by rw [List.length_map, tab_length, Htl.out]
  have HN3 := Lib.hid hn3
  clear hn3
  have hsa' := hsa
  generalize (List.map Value.bool (tab V f)).length = n3 at *
  obtain rfl : n3 = T.length := HN3.out
  obtain ⟨n1, hn1⟩ : ∃ n1, n1 = V.length := ⟨_, rfl⟩
  obtain ⟨n3, hn3⟩ : ∃ n3, n3 = T.length := ⟨_, rfl⟩
  obtain ⟨a0, a1⟩ := two_cells' w (.slice qa V.length ca) (.slice qt T.length ct) 36
  obtain ⟨r0, r1⟩ := two_cells' (w.alloc (.cells #[.slice qa V.length ca, .slice qt T.length ct] 36)) (.slice none 0 0) (.slice none 0 0) 36
  replace a0 := cell_alloc_l a0 (.cells #[.slice none 0 0, .slice none 0 0] 36)
  replace a1 := cell_alloc_l a1 (.cells #[.slice none 0 0, .slice none 0 0] 36)
  have fr : Fr nob w ((w.alloc (.cells #[.slice qa V.length ca, .slice qt T.length ct] 36)).alloc (.cells #[.slice none 0 0, .slice none 0 0] 36)) := ((Fr.refl nob w).alloc _).alloc _
  have hfz : ∀ o, ((w.alloc (.cells #[.slice qa V.length ca, .slice qt T.length ct] 36)).alloc (.cells #[.slice none 0 0, .slice none 0 0] 36)).frozen? ⟨w.heap.size + 1, o, none⟩ = false := fun o => World.frozen?_alloc_at _ _ _ _ (by simp)
  simp only [World.size_alloc] at a0 a1 r0 r1
  have hi0 : (i : Int) < 24 := by omega
  clear hn1 hn3 n1 n3 HN3
  go_enter Tryz.func84, Tryz.ntmps84
  go_wp2_with fail
  generalize ((w.alloc (.cells #[.slice qa V.length ca, .slice qt T.length ct] 36)).alloc (.cells #[.slice none 0 0, .slice none 0 0] 36)) = W0 at *
  refine (Blank_len V.length T.length hl Htl.out qa ca _).mono ?_
  rintro e w2 ⟨g, rfl, row2, hb2⟩
  have fr2 : Fr nob W0 w2 := (Fr.refl nob _).below hb2
  replace a0 := fr2.cell' a0 (fun h => h)
  replace a1 := fr2.cell' a1 (fun h => h)
  have f0 := (fr2.frozen (p := ⟨w.heap.size + 1, 0, none⟩) (lt_of_cell r0) (fun h => h)).trans (hfz 0)
  have f1 := (fr2.frozen (p := ⟨w.heap.size + 1, 1, none⟩) (lt_of_cell r1) (fun h => h)).trans (hfz 1)
  have lw1 := lt_of_cell r0
  simp only at lw1
  replace r0 := fr2.cell' r0 (fun h => h)
  replace r1 := fr2.cell' r1 (fun h => h)
  have frw := fr.trans fr2 (fun _ _ h => h)
  obtain ⟨S0, hg1, hg2⟩ := FillSt.start (sv := .slice qa V.length ca) (T0 := 36) rfl row2
  have fr3 : Fr nob w2 (w2.alloc (.cells #[.slice qa V.length ca, .slice (some ⟨g, 0, none⟩) T.length T.length] 36)) := (Fr.refl nob w2).alloc _
  clear row2 fr2 hb2 hfz fr
  go_wp2_with fail
  generalize w2.alloc (.cells #[.slice qa V.length ca, .slice (some ⟨g, 0, none⟩) T.length T.length] 36) = W3 at *
  replace a0 := fr3.cell' a0 (fun h => h)
  replace a1 := fr3.cell' a1 (fun h => h)
  replace f0 := (fr3.frozen (p := ⟨w.heap.size + 1, 0, none⟩) (lt_of_cell r0) (fun h => h)).trans f0
  replace f1 := (fr3.frozen (p := ⟨w.heap.size + 1, 1, none⟩) (lt_of_cell r1) (fun h => h)).trans f1
  have lw2 := lt_of_cell r0
  simp only at lw2
  replace r0 := fr3.cell' r0 (fun h => h)
  replace r1 := fr3.cell' r1 (fun h => h)
  replace frw := frw.trans fr3 (fun _ _ h => h)
  have z3 := fr3.size
  clear fr3
  go_loopw [8] (fun kv wr => ∃ k : Nat, k ≤ T.length ∧ kv = ik k ∧ FillSt W3 w2.heap.size g (.slice qa V.length ca) T k wr) (fun kv _ => T.length - (intOf kv).toNat)
  case atStart => exact ⟨0, Nat.zero_le _, rfl, S0⟩
  case round =>
    clear S0
    obtain ⟨k, hk, rfl, S⟩ := hrel
    have hBr : Below w.heap.size w wr := (frw.trans' S.fr (T := fun k => w.heap.size ≤ k) (fun _ _ h => h.elim) (fun j hj e => by omega)).to_below (Nat.le_refl _) (fun _ h => h)
    replace a0 := S.fr.cell' a0 (by omega)
    replace a1 := S.fr.cell' a1 (by omega)
    have o0 := S.o0
    have o1 := S.o1
    by_cases hlt : k < T.length
    · have hsr : SRow wr (.slice qa V.length ca) (V.map ik) := ha1.below hBr
      have hcf := Config_any V hV k (Hk62.out k hlt) (.slice qa V.length ca) wr hsr
      have hc24 := cfgN_lt hV k
      have hxy := HTk.out k hlt
      generalize cfgN V k = cc at *
      have hc32 : cc < 2 ^ 32 := Nat.lt_of_lt_of_le hc24 (by decide)
      go_wp2_with fail
      refine hcf.mono ?_
      rintro e wr' ⟨rfl, rfl⟩
      clear hcf hsr
      have hsel := selected_any cc i hc32 hi
      cases hb : cc.testBit i with
      | true =>
        obtain ⟨e1, e2⟩ := bits_clear hb
        rw [hb] at hsel
        have hp : 2 ^ i ≤ 16777216 := Nat.pow_le_pow_right (by omega) (Nat.le_of_lt hi)
        have hA := RHas_any V f (cc - 2 ^ i) (Nat.lt_of_le_of_lt (Nat.sub_le _ _) hc32) (.agg #[.slice qa V.length ca, .slice qt T.length ct])
        rw [← e1] at hxy
        have hsub := sub_pow cc i hc24 hi e2
        have HSU := Lib.hid hsub
        clear hsub e1 e2 hb hp
        generalize cc - 2 ^ i = c2 at *
        generalize f (bitsOf c2) = x at *
        go_wp2_with fail
        refine (hsel _).mono ?_
        rintro e wr' ⟨rfl, rfl⟩
        clear hsel
        go_upto_region 12 with (fail)
        rw [HSU.out]
        refine wp_region_grow' 7 53 (fun _ => #[]) [] (by kernel_rfl) (by kernel_rfl) rfl rfl (by intro T h; cases h) ?_
        simp only [List.take_succ_cons, List.take_zero]
        refine grow_step (v := ?v0) rfl rfl ?a0 ?b0
        case a0 =>
          intro w' hw'
          clear hw'
          refine growAt_value ?_
          go_simp
          rfl
        simp only [Act.put, List.setIfInBounds_toArray, List.set_cons_zero, List.set_cons_succ]
        refine grow_step (v := ?v1) rfl rfl ?a1 ?b1
        case a1 =>
          intro w' hw'
          have y_o0 := hw'.cell' o0 (fun h => h)
          have y_o1 := hw'.cell' o1 (fun h => h)
          clear hw'
          refine growAt_value ?_
          go_simp
          rfl
        simp only [Act.put, List.setIfInBounds_toArray, List.set_cons_zero, List.set_cons_succ]
        refine grow_step (v := ?v2) rfl rfl ?a2 ?b2
        case a2 =>
          intro w' hw'
          clear hw'
          refine growAt_value ?_
          go_simp
          rfl
        simp only [Act.put, List.setIfInBounds_toArray, List.set_cons_zero, List.set_cons_succ]
        refine grow_step (v := ?v3) rfl rfl ?a3 ?b3
        case a3 =>
          intro w' hw'
          have y_a0 := hw'.cell' a0 (fun h => h)
          have y_a1 := hw'.cell' a1 (fun h => h)
          clear hw'
          refine growAt_value ?_
          go_simp
          rfl
        simp only [Act.put, List.setIfInBounds_toArray, List.set_cons_zero, List.set_cons_succ]
        refine grow_step (v := ?v4) rfl rfl ?a4 ?b4
        case a4 =>
          intro w' hw'
          clear hw'
          refine growAt_value ?_
          go_simp
          rfl
        simp only [Act.put, List.setIfInBounds_toArray, List.set_cons_zero, List.set_cons_succ]
        refine grow_step (v := .bool x) rfl rfl ?a5 ?b5
        case a5 =>
          intro w' hw'
          refine growAt_call ?_ ((hA w' ((hsa'.below hBr).kept hw')).mono fun e w'' ⟨he, hb⟩ => ⟨he, (Fr.refl nob _).below hb⟩)
          go_simp
        simp only [Act.put, List.setIfInBounds_toArray, List.set_cons_zero, List.set_cons_succ]
        refine grow_step (v := ?v6) rfl rfl ?a6 ?b6
        case a6 =>
          intro w' hw'
          clear hw'
          refine growAt_value ?_
          go_simp
          rfl
        simp only [Act.put, List.setIfInBounds_toArray, List.set_cons_zero, List.set_cons_succ]
        refine grow_nil ?_
        intro w5 listed p5 _ _
        have S5 := S.kept p5
        clear S hA a0 a1 o0 o1 hBr p5
        have o0 := S5.o0
        have o1 := S5.o1
        have hSp := S5.put hlt hxy
        have hfz := S5.row.frozenAt k
        have hok : (w5.cell? ⟨g, k, none⟩).isSome = true := by
          rw [S5.row.cellAt k (by omega)]
          have : k < (part T k).length := by rw [part_length _ _ (by omega)]; exact hlt
          simp [this]
        obtain ⟨yv, hyv⟩ := Option.isSome_iff_exists.1 hok
        clear S5 hok hxy
        go_wp2_with fail
        refine ⟨⟨k + 1, by omega, by go_num, hSp⟩, by simp [intOf]; omega⟩
      | false =>
        have e1 := bits_free hb
        rw [hb] at hsel
        have hA := RHas_any V f cc hc32 (.agg #[.slice qa V.length ca, .slice qt T.length ct])
        rw [← e1] at hxy
        clear e1 hb
        generalize f (bitsOf cc) = x at *
        go_wp2_with fail
        refine (hsel _).mono ?_
        rintro e wr' ⟨rfl, rfl⟩
        clear hsel
        go_upto_region 12 with (fail)
        refine wp_region_grow' 7 53 (fun _ => #[]) [] (by kernel_rfl) (by kernel_rfl) rfl rfl (by intro T h; cases h) ?_
        simp only [List.take_succ_cons, List.take_zero]
        refine grow_step (v := ?zv0) rfl rfl ?za0 ?zb0
        case za0 =>
          intro w' hw'
          clear hw'
          refine growAt_value ?_
          go_simp
          rfl
        simp only [Act.put, List.setIfInBounds_toArray, List.set_cons_zero, List.set_cons_succ]
        refine grow_step (v := ?zv1) rfl rfl ?za1 ?zb1
        case za1 =>
          intro w' hw'
          have y_o0 := hw'.cell' o0 (fun h => h)
          have y_o1 := hw'.cell' o1 (fun h => h)
          clear hw'
          refine growAt_value ?_
          go_simp
          rfl
        simp only [Act.put, List.setIfInBounds_toArray, List.set_cons_zero, List.set_cons_succ]
        refine grow_step (v := ?zv2) rfl rfl ?za2 ?zb2
        case za2 =>
          intro w' hw'
          clear hw'
          refine growAt_value ?_
          go_simp
          rfl
        simp only [Act.put, List.setIfInBounds_toArray, List.set_cons_zero, List.set_cons_succ]
        refine grow_step (v := ?zv3) rfl rfl ?za3 ?zb3
        case za3 =>
          intro w' hw'
          have y_a0 := hw'.cell' a0 (fun h => h)
          have y_a1 := hw'.cell' a1 (fun h => h)
          clear hw'
          refine growAt_value ?_
          go_simp
          rfl
        simp only [Act.put, List.setIfInBounds_toArray, List.set_cons_zero, List.set_cons_succ]
        refine grow_step (v := ?zv4) rfl rfl ?za4 ?zb4
        case za4 =>
          intro w' hw'
          clear hw'
          refine growAt_value ?_
          go_simp
          rfl
        simp only [Act.put, List.setIfInBounds_toArray, List.set_cons_zero, List.set_cons_succ]
        refine grow_step (v := .bool x) rfl rfl ?za5 ?zb5
        case za5 =>
          intro w' hw'
          refine growAt_call ?_ ((hA w' ((hsa'.below hBr).kept hw')).mono fun e w'' ⟨he, hb⟩ => ⟨he, (Fr.refl nob _).below hb⟩)
          go_simp
        simp only [Act.put, List.setIfInBounds_toArray, List.set_cons_zero, List.set_cons_succ]
        refine grow_step (v := ?zv6) rfl rfl ?za6 ?zb6
        case za6 =>
          intro w' hw'
          clear hw'
          refine growAt_value ?_
          go_simp
          rfl
        simp only [Act.put, List.setIfInBounds_toArray, List.set_cons_zero, List.set_cons_succ]
        refine grow_nil ?_
        intro w5 listed p5 _ _
        have S5 := S.kept p5
        clear S hA a0 a1 o0 o1 hBr p5
        have o0 := S5.o0
        have o1 := S5.o1
        have hSp := S5.put hlt hxy
        have hfz := S5.row.frozenAt k
        have hok : (w5.cell? ⟨g, k, none⟩).isSome = true := by
          rw [S5.row.cellAt k (by omega)]
          have : k < (part T k).length := by rw [part_length _ _ (by omega)]; exact hlt
          simp [this]
        obtain ⟨yv, hyv⟩ := Option.isSome_iff_exists.1 hok
        clear S5 hok hxy
        go_wp2_with fail
        refine ⟨⟨k + 1, by omega, by go_num, hSp⟩, by simp [intOf]; omega⟩
    · obtain rfl : k = T.length := by omega
      have s0 := S.fr.cell' r0 (by omega)
      have s1 := S.fr.cell' r1 (by omega)
      have sf0 := (S.fr.frozen (p := ⟨w.heap.size + 1, 0, none⟩) (lt_of_cell r0) (by simp; omega)).trans f0
      have sf1 := (S.fr.frozen (p := ⟨w.heap.size + 1, 1, none⟩) (lt_of_cell r1) (by simp; omega)).trans f1
      have hd := S.done
      have hfw := frw.trans' S.fr (T := fun k => w.heap.size ≤ k) (fun _ _ h => h.elim) (fun j hj e => by omega)
      clear S hBr r0 r1 f0 f1
      go_wp2_with fail
      have hBf := (((hfw.setCell (p := ⟨w.heap.size + 1, 0, none⟩) (by simp) (.slice qa V.length ca)).setCell (p := ⟨w.heap.size + 1, 1, none⟩) (by simp) (.slice (some ⟨g, 0, none⟩) T.length T.length)).to_below (Nat.le_refl _) (fun _ h => h))
      refine bodyPost_ret (v := .agg #[.slice qa V.length ca, .slice (some ⟨g, 0, none⟩) T.length T.length]) (by simp [results, Tryz.results84, go_sem, s0, s1]) rfl ⟨_, rfl, ⟨hV, hon, _, _, rfl, ha1.below hBf, ?_⟩, hBf⟩
      rw [← HF.out]
      exact (hd.store (by omega) 0 _).store (by omega) 1 _
end Go.Proofs.YtalnhlebgofiiaaGreatDoor
namespace Go.Proofs.YtalnhlebgofiiaaGreatDoor
open Go.RowKit
open Bd

theorem stored_far {W : World} {b o k : Nat} {x y v : Value} (h : W.cell? ⟨b, o, none⟩ = some v) (hne : b ≠ k) : ((W.setCell ⟨k, 0, none⟩ x).setCell ⟨k, 1, none⟩ y).cell? ⟨b, o, none⟩ = some v :=
  (fr_store1 _ k 1 y).cell ((fr_store1 W k 0 x).cell h (by simpa using hne)) (by simpa using hne)

set_option maxRecDepth 100000 in
set_option maxHeartbeats 4000000 in
theorem RIte_any (V W U : List Nat) (f h u : Cfg → Bool) (va vb vc : Value) (w : World) (hsa : RSet w va V f) (hsb : RSet w vb W h) (hsc : RSet w vc U u) : Calls Tryz.prog 83 #[va, vb, vc] w fun e w' => ∃ v' X, e = .returned v' ∧ RSet w' v' X (fun c => if f c then h c else u c) ∧ Below w.heap.size w w' := by
  obtain ⟨qa, na, ca, ua, ma, da, rfl⟩ := hsa.form
  obtain ⟨qb, nb, cb, ub, mb, db, rfl⟩ := hsb.form
  obtain ⟨qc, nc, cc, uc, mc, dc, rfl⟩ := hsc.form
  obtain ⟨a0, a1⟩ := two_cells' w (.slice qa na ca) (.slice ua ma da) 36
  obtain ⟨b0, b1⟩ := two_cells' (w.alloc (.cells #[.slice qa na ca, .slice ua ma da] 36)) (.slice qb nb cb) (.slice ub mb db) 36
  obtain ⟨c0, c1⟩ := two_cells' ((w.alloc (.cells #[.slice qa na ca, .slice ua ma da] 36)).alloc (.cells #[.slice qb nb cb, .slice ub mb db] 36)) (.slice qc nc cc) (.slice uc mc dc) 36
  obtain ⟨r0, r1⟩ := two_cells' (((w.alloc (.cells #[.slice qa na ca, .slice ua ma da] 36)).alloc (.cells #[.slice qb nb cb, .slice ub mb db] 36)).alloc (.cells #[.slice qc nc cc, .slice uc mc dc] 36)) (.slice none 0 0) (.slice none 0 0) 36
  replace a0 := cell_alloc_l (cell_alloc_l (cell_alloc_l a0 (.cells #[.slice qb nb cb, .slice ub mb db] 36)) (.cells #[.slice qc nc cc, .slice uc mc dc] 36)) (.cells #[.slice none 0 0, .slice none 0 0] 36)
  replace a1 := cell_alloc_l (cell_alloc_l (cell_alloc_l a1 (.cells #[.slice qb nb cb, .slice ub mb db] 36)) (.cells #[.slice qc nc cc, .slice uc mc dc] 36)) (.cells #[.slice none 0 0, .slice none 0 0] 36)
  replace b0 := cell_alloc_l (cell_alloc_l b0 (.cells #[.slice qc nc cc, .slice uc mc dc] 36)) (.cells #[.slice none 0 0, .slice none 0 0] 36)
  replace b1 := cell_alloc_l (cell_alloc_l b1 (.cells #[.slice qc nc cc, .slice uc mc dc] 36)) (.cells #[.slice none 0 0, .slice none 0 0] 36)
  replace c0 := cell_alloc_l c0 (.cells #[.slice none 0 0, .slice none 0 0] 36)
  replace c1 := cell_alloc_l c1 (.cells #[.slice none 0 0, .slice none 0 0] 36)
  have fr : Fr nob w ((((w.alloc (.cells #[.slice qa na ca, .slice ua ma da] 36)).alloc (.cells #[.slice qb nb cb, .slice ub mb db] 36)).alloc (.cells #[.slice qc nc cc, .slice uc mc dc] 36)).alloc (.cells #[.slice none 0 0, .slice none 0 0] 36)) := ((((Fr.refl nob w).alloc _).alloc _).alloc _).alloc _
  have f0 : ((((w.alloc (.cells #[.slice qa na ca, .slice ua ma da] 36)).alloc (.cells #[.slice qb nb cb, .slice ub mb db] 36)).alloc (.cells #[.slice qc nc cc, .slice uc mc dc] 36)).alloc (.cells #[.slice none 0 0, .slice none 0 0] 36)).frozen? ⟨w.heap.size + 1 + 1 + 1, 0, none⟩ = false := World.frozen?_alloc_at _ _ _ _ (by simp)
  have f1 : ((((w.alloc (.cells #[.slice qa na ca, .slice ua ma da] 36)).alloc (.cells #[.slice qb nb cb, .slice ub mb db] 36)).alloc (.cells #[.slice qc nc cc, .slice uc mc dc] 36)).alloc (.cells #[.slice none 0 0, .slice none 0 0] 36)).frozen? ⟨w.heap.size + 1 + 1 + 1, 1, none⟩ = false := World.frozen?_alloc_at _ _ _ _ (by simp)
  simp only [World.size_alloc] at a0 a1 b0 b1 c0 c1 r0 r1
  go_enter Tryz.func83, Tryz.ntmps83
  go_wp2_with fail
  generalize ((((w.alloc (.cells #[.slice qa na ca, .slice ua ma da] 36)).alloc (.cells #[.slice qb nb cb, .slice ub mb db] 36)).alloc (.cells #[.slice qc nc cc, .slice uc mc dc] 36)).alloc (.cells #[.slice none 0 0, .slice none 0 0] 36)) = W0 at *
  have hA : ∀ W, Fr nob W0 W → RSet W (.agg #[.slice qa na ca, .slice ua ma da]) V f := fun W h => (hsa.kept fr).kept h
  have hB : ∀ W', Fr nob W0 W' → RSet W' (.agg #[.slice qb nb cb, .slice ub mb db]) W h := fun W h => (hsb.kept fr).kept h
  have hC : ∀ W, Fr nob W0 W → RSet W (.agg #[.slice qc nc cc, .slice uc mc dc]) U u := fun W h => (hsc.kept fr).kept h
  have F : Fr nob W0 W0.drew := (Fr.refl nob W0).drew
  clear hsa hsb hsc
  go_region_held3 (fun w' => (w'.cell? ⟨w.heap.size, 0, none⟩ = some (.slice qa na ca) ∧ w'.cell? ⟨w.heap.size, 1, none⟩ = some (.slice ua ma da)) ∧ (w'.cell? ⟨w.heap.size + 1, 0, none⟩ = some (.slice qb nb cb) ∧ w'.cell? ⟨w.heap.size + 1, 1, none⟩ = some (.slice ub mb db)) ∧
      w'.cell? ⟨w.heap.size + 1 + 1, 0, none⟩ = some (.slice qc nc cc) ∧ w'.cell? ⟨w.heap.size + 1 + 1, 1, none⟩ = some (.slice uc mc dc))
    (first
      | (go_keep; done)
      | exact ⟨⟨F.cell' a0 (fun h => h), F.cell' a1 (fun h => h)⟩, ⟨F.cell' b0 (fun h => h), F.cell' b1 (fun h => h)⟩, F.cell' c0 (fun h => h), F.cell' c1 (fun h => h)⟩
      | (go_split_ands; exact ⟨⟨F.cell' a0 (fun h => h), F.cell' a1 (fun h => h)⟩, ⟨F.cell' b0 (fun h => h), F.cell' b1 (fun h => h)⟩, F.cell' c0 (fun h => h), F.cell' c1 (fun h => h)⟩)
      | (refine ⟨⟨stored_far (F.cell' a0 (fun h => h)) ?_, stored_far (F.cell' a1 (fun h => h)) ?_⟩, ⟨stored_far (F.cell' b0 (fun h => h)) ?_, stored_far (F.cell' b1 (fun h => h)) ?_⟩, stored_far (F.cell' c0 (fun h => h)) ?_, stored_far (F.cell' c1 (fun h => h)) ?_⟩
         all_goals omega))
    (first
            | (go_at_call 80
               (with_reducible refine (RAnd_any V W f h (.agg #[.slice qa na ca, .slice ua ma da]) (.agg #[.slice qb nb cb, .slice ub mb db]) _ (hA _ F) (hB _ F)).mono ?_)
               rintro e wP ⟨vP, rfl, hsP, hbP⟩
               have fP := (Fr.refl nob _).below hbP
               replace F := F.trans fP (fun _ _ h => h)
               try replace GN := GN.trans fP (fun _ _ h => h)
               try replace GQ := GQ.trans fP (fun _ _ h => h)
               have GP := Fr.refl nob wP
               have hP := fun W (h : Fr nob wP W) => hsP.kept h
               clear hbP fP hsP)
            | (go_at_call 79
               (with_reducible refine (RNot_any V f (.agg #[.slice qa na ca, .slice ua ma da]) _ (hA _ F)).mono ?_)
               rintro e wN ⟨vN, rfl, hsN, hbN⟩
               have fN := (Fr.refl nob _).below hbN
               replace F := F.trans fN (fun _ _ h => h)
               try replace GP := GP.trans fN (fun _ _ h => h)
               try replace GQ := GQ.trans fN (fun _ _ h => h)
               have GN := Fr.refl nob wN
               have hN := fun W (h : Fr nob wN W) => hsN.kept h
               clear hbN fN hsN)
            | (go_at_call 80
               (with_reducible refine (RAnd_any V U (fun c => !f c) u vN (.agg #[.slice qc nc cc, .slice uc mc dc]) _ (hN _ GN) (hC _ F)).mono ?_)
               rintro e wQ ⟨vQ, rfl, hsQ, hbQ⟩
               have fQ := (Fr.refl nob _).below hbQ
               replace F := F.trans fQ (fun _ _ h => h)
               try replace GP := GP.trans fQ (fun _ _ h => h)
               try replace GN := GN.trans fQ (fun _ _ h => h)
               have GQ := Fr.refl nob wQ
               have hQ := fun W (h : Fr nob wQ W) => hsQ.kept h
               clear hbQ fQ hsQ)
            | (go_at_call 81
               (with_reducible refine (ROr_any (joinL V W) (joinL V U) (fun c => jnB 0 (f c) (h c)) (fun c => jnB 0 (!f c) (u c)) vP vQ _ (hP _ GP) (hQ _ GQ)).mono ?_)
               rintro e wO ⟨vO, rfl, hsO, hbO⟩
               have fO := (Fr.refl nob _).below hbO
               replace F := F.trans fO (fun _ _ h => h)
               have GO := Fr.refl nob wO
               have hO := fun W (h : Fr nob wO W) => hsO.kept h
               obtain ⟨q1, m1, c1', q2, m2, c2', rfl⟩ := hsO.form
               have y0 := F.cell' r0 (fun h => h)
               have y1 := F.cell' r1 (fun h => h)
               have yf0 := (F.frozen (p := ⟨w.heap.size + 1 + 1 + 1, 0, none⟩) (lt_of_cell r0) (fun h => h)).trans f0
               have yf1 := (F.frozen (p := ⟨w.heap.size + 1 + 1 + 1, 1, none⟩) (lt_of_cell r1) (fun h => h)).trans f1))
  all_goals
    have hst := hsO.stored y0 (.slice q1 m1 c1') (.slice q2 m2 c2')
    have frA := fr.trans F (fun _ _ h => h)
    clear hsO hA hB hC
    go_wp2_with fail
    refine bodyPost_ret (v := .agg #[.slice q1 m1 c1', .slice q2 m2 c2']) (by simp [results, Tryz.results83, go_sem, y0, y1]) rfl ⟨_, _, rfl, hst.congr ?_, ?_⟩
    · intro c
      cases f c <;> simp [jnB]
    · exact ((frA.set1 (by omega) _).set1 (by omega) _).to_below (Nat.le_refl _) (fun _ h => h.elim)

theorem dep_iff {f : Cfg → Bool} (i : Nat) : ¬ (∀ c, f (up c i true) = f (up c i false)) ↔ dep f i := by
  constructor
  · intro h
    exact Classical.byContradiction fun hn => h fun c => Classical.byContradiction fun hc => hn ⟨c, fun e => hc e.symm⟩
  · rintro ⟨c, hc⟩ h
    exact hc (h c).symm

/-- the features on which a set depends, of the first j -/
noncomputable def depL (f : Cfg → Bool) (V : List Nat) : List Nat := by classical exact V.filter fun i => decide (dep f i)
theorem depL_snoc (f : Cfg → Bool) (V : List Nat) (i : Nat) : (dep f i → depL f (V ++ [i]) = depL f V ++ [i]) ∧ (¬ dep f i → depL f (V ++ [i]) = depL f V) := by
  constructor <;> intro h <;> simp [depL, List.filter_append, h]
theorem mem_depL {f : Cfg → Bool} {V : List Nat} {i : Nat} : i ∈ depL f V ↔ i ∈ V ∧ dep f i := by simp [depL]
theorem depL_len (f : Cfg → Bool) (V : List Nat) : (depL f V).length ≤ V.length := List.length_filter_le _ _

set_option maxRecDepth 100000 in
set_option maxHeartbeats 4000000 in
theorem RSupport_any (V : List Nat) (f : Cfg → Bool) (va : Value) (w : World) (hsa : RSet w va V f) : Calls Tryz.prog 46 #[va] w fun e w' => e = .returned (.int .u32 (numN (depL f V) : Int)) ∧ Below w.heap.size w w' := by
  obtain ⟨i0, hi0, hz0, hz1, hz2⟩ := info_parts info_int
  obtain ⟨hV, hf, sa, ta, rfl, ha1, ha2⟩ := id hsa
  have hl := rising_len hV
  obtain ⟨qa, ca, rfl⟩ := ha1.form
  obtain ⟨ua, da, rfl⟩ := ha2.form
  rw [List.length_map] at *
  generalize (List.map Value.bool (tab V f)).length = ma at *
  obtain ⟨a0, a1⟩ := two_cells' w (.slice qa V.length ca) (.slice ua ma da) 36
  have fr : Fr nob w (w.alloc (.cells #[.slice qa V.length ca, .slice ua ma da] 36)) := (Fr.refl nob w).alloc _
  go_enter Tryz.func46, Tryz.ntmps46
  go_wp2_with fail
  generalize w.alloc (.cells #[.slice qa V.length ca, .slice ua ma da] 36) = W0 at *
  go_loopw [3, 4] (fun ov jv wr => ∃ j : Nat, j ≤ V.length ∧ jv = ik j ∧ wr.ownsRow W0.heap.size 3 1 ov (depL f (V.take j)).length ((depL f (V.take j)).map ik) ∧ Below W0.heap.size W0 wr) (fun _ jv _ => V.length - (intOf jv).toNat)
  case atStart => exact ⟨0, Nat.zero_le _, rfl, by simp [depL]; exact World.ownsRow_nil _ _ _ _, Below.refl _ _⟩
  case round =>
    obtain ⟨j, hj, rfl, hown, hB⟩ := hrel
    have frr := (Fr.refl nob W0).below hB
    replace a0 := frr.cell' a0 (fun h => h)
    replace a1 := frr.cell' a1 (fun h => h)
    by_cases hlt : j < V.length
    · have hc : (V.map ik)[j]? = some (ik V[j]) := by simp [hlt]
      obtain ⟨g, rfl, hcell⟩ := (ha1.kept (fr.trans frr (fun _ _ h => h))).at hc
      have hv24 : V[j] < 24 := hV.2 _ (List.getElem_mem hlt)
      have hsr := (hsa.kept fr).kept frr
      have hT := RWithOn_any V f V[j] hv24 (.agg #[.slice (some ⟨g, 0, none⟩) V.length ca, .slice ua ma da])
      have hF := RWithOff_any V f V[j] hv24 (.agg #[.slice (some ⟨g, 0, none⟩) V.length ca, .slice ua ma da])
      have hA : ∀ W, Fr nob wr W → RSet W (.agg #[.slice (some ⟨g, 0, none⟩) V.length ca, .slice ua ma da]) V f := fun W h => hsr.kept h
      have hdl := depL_len f (V.take j)
      rw [List.length_take] at hdl
      have htk : V.take (j + 1) = V.take j ++ [V[j]] := List.take_succ_eq_append_getElem hlt
      obtain ⟨hd1, hd2⟩ := depL_snoc f (V.take j) V[j]
      rw [← htk] at hd1 hd2
      have hdi := dep_iff (f := f) V[j]
      have hk1 : (j : Int) < (V.length : Int) := by omega
      have hk0 : (0 : Int) ≤ (j : Int) := by omega
      have F : Fr nob wr wr.drew := (Fr.refl nob wr).drew
      clear hsr htk hc
      generalize V[j] = x at *
      go_wp2_with fail
      go_region_held3 (fun w' => w'.cell? ⟨w.heap.size, 0, none⟩ = some (.slice (some ⟨g, 0, none⟩) V.length ca) ∧ w'.cell? ⟨w.heap.size, 1, none⟩ = some (.slice ua ma da) ∧ w'.cell? ⟨g, j, none⟩ = some (ik x))
        (first
          | (go_keep; done)
          | exact ⟨F.cell' a0 (fun h => h), F.cell' a1 (fun h => h), F.cell' hcell (fun h => h)⟩
          | (go_split_ands; exact ⟨F.cell' a0 (fun h => h), F.cell' a1 (fun h => h), F.cell' hcell (fun h => h)⟩))
        (first
          | (go_at_call 84
             (with_reducible refine (hT _ (hA _ F)).mono ?_)
             rintro e w5 ⟨v5, rfl, hs5, hb5⟩
             have f5 := (Fr.refl nob _).below hb5
             replace F := F.trans f5 (fun _ _ h => h)
             try replace G6 := G6.trans f5 (fun _ _ h => h)
             have G5 := Fr.refl nob w5
             have h5 := fun W (h : Fr nob w5 W) => hs5.kept h
             clear hb5 f5 hs5)
          | (go_at_call 84
             (with_reducible refine (hF _ (hA _ F)).mono ?_)
             rintro e w6 ⟨v6, rfl, hs6, hb6⟩
             have f6 := (Fr.refl nob _).below hb6
             replace F := F.trans f6 (fun _ _ h => h)
             try replace G5 := G5.trans f6 (fun _ _ h => h)
             have G6 := Fr.refl nob w6
             have h6 := fun W (h : Fr nob w6 W) => hs6.kept h
             clear hb6 f6 hs6)
          | (go_at_call 94
             (with_reducible refine (RSame_any V V (fun c => f (up c x true)) (fun c => f (up c x false)) v5 v6 _ (h5 _ G5) (h6 _ G6)).mono ?_)
             rintro e w7 ⟨bb, rfl, hbb, hb7⟩
             have f7 := (Fr.refl nob _).below hb7
             replace F := F.trans f7 (fun _ _ h => h)
             clear hb7 f7))
      all_goals
        have x0 := F.cell' a0 (fun h => h)
        have x1 := F.cell' a1 (fun h => h)
        have x2 := F.cell' hcell (fun h => h)
        have row7 := F.row hown (fun _ _ h => h)
        have hB7 : Below W0.heap.size W0 w7 := ((frr.trans F (fun _ _ h => h))).to_below (Nat.le_refl _) (fun _ h => h.elim)
        have z7 := hB7.size
        clear h5 h6 hT hF hA G5 G6 hown a0 a1 hcell hB
        rw [← hbb] at hdi
        cases bb with
        | true =>
          have hnd : ¬ dep f x := fun h => (hdi.2 h) rfl
          have e1 := hd2 hnd
          clear hd1 hd2 hdi hbb hnd F
          go_wp2_with fail
          refine ⟨⟨j + 1, by omega, by go_num, by rw [e1]; exact row7, hB7⟩, by simp [intOf]; omega⟩
        | false =>
          have hd : dep f x := hdi.1 (by simp)
          have e1 := hd1 hd
          have E1 := Lib.hid e1
          clear hd1 hd2 hdi hbb hd F e1
          go_wp2_with (at_builtin; refine wpList_append_own _ rfl _ _ 33 rfl W0.heap.size 3 i0 (.int .i64 0) 1 8 Tryz.underlying33 hi0 hz0 hz1 hz2 rfl (by decide) _ _ _ rfl (row7.alloc _) ⟨w7.heap.size, 0, none⟩ 1 1 [ik x] rfl rfl ?c1 ?c2 ?c3 ?c4 ?c5 ?_)
          case c1 => exact one_news _ _ _
          case c2 => simp [Value.oneCell']
          case c3 => unfold maxLen; omega
          case c4 => omega
          case c5 => simp; omega
          intro v' w8 hown' hgrow _
          have row' : w8.ownsRow W0.heap.size 3 1 v' (depL f (V.take (j + 1))).length ((depL f (V.take (j + 1))).map ik) := by
            rw [E1.out, List.map_append, List.length_append]; exact hown'
          have hB' : Below W0.heap.size W0 w8 := (hB7.alloc hB7.size _).grown hgrow (by simp; omega) (fun i hi => (row7.lt i hi).1)
          clear row7 hown' hgrow hB7
          go_wp2_with fail
          refine ⟨⟨j + 1, by omega, by go_num, row', hB'⟩, by simp [intOf]; omega⟩
    · obtain rfl : j = V.length := by omega
      rw [List.take_length] at hown
      have hnum := Number_any (depL f V) (fun v hv => hV.2 v (mem_depL.1 hv).1) (by have := depL_len f V; omega) _ wr (SRow.of_own hown)
      have hBw := (fr.trans frr (fun _ _ h => h)).to_below (Nat.le_refl _) (fun _ h => h.elim)
      clear hown
      go_wp2_with fail
      refine hnum.mono ?_
      rintro e w9 ⟨rfl, rfl⟩
      go_wp2_with fail
      go_ret
      exact ⟨rfl, hBw⟩
end Go.Proofs.YtalnhlebgofiiaaGreatDoor
