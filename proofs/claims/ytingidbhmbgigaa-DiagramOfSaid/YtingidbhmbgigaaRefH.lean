import Derived.Test.YtingidbhmbgigaaRefG
namespace Go.Proofs.Ytingidbhmbgigaa
open Go.RowKit
open Bd

theorem bits_set (cc i : Nat) : bitsOf (cc ||| 2 ^ i) = up (bitsOf cc) i true := by
  funext j
  show (cc ||| 2 ^ i).testBit j = if j = i then true else cc.testBit j
  rw [Nat.testBit_or, Nat.testBit_two_pow]
  by_cases h : j = i
  · subst h; simp
  · have : ¬ i = j := fun e => h e.symm
    simp [h, this]
theorem bits_clear {cc i : Nat} (hb : cc.testBit i = true) : bitsOf (cc - 2 ^ i) = up (bitsOf cc) i false ∧ 2 ^ i ≤ cc := by
  have hq : cc / 2 ^ i % 2 = 1 := by
    rw [Nat.testBit_eq_decide_div_mod_eq] at hb; simpa using hb
  have hc : cc = 2 ^ i * (cc / 2 ^ i) + cc % 2 ^ i := (Nat.div_add_mod cc (2 ^ i)).symm
  have hr : cc % 2 ^ i < 2 ^ i := Nat.mod_lt _ (Nat.two_pow_pos _)
  generalize cc / 2 ^ i = q at *
  generalize cc % 2 ^ i = r at *
  subst hc
  have h1 : 1 ≤ q := by omega
  obtain ⟨m, rfl⟩ : ∃ m, q = 2 * m + 1 := ⟨q / 2, by omega⟩
  have e : 2 ^ i * (2 * m + 1) + r - 2 ^ i = 2 ^ i * (2 * m) + r := by rw [Nat.mul_add, Nat.mul_one]; omega
  refine ⟨?_, by rw [Nat.mul_add, Nat.mul_one]; omega⟩
  rw [e]
  funext j
  show (2 ^ i * (2 * m) + r).testBit j = if j = i then false else (2 ^ i * (2 * m + 1) + r).testBit j
  rw [Nat.testBit_two_pow_mul_add _ hr, Nat.testBit_two_pow_mul_add _ hr]
  by_cases h : j = i
  · subst h; simp
  · rw [if_neg h]
    by_cases hl : j < i
    · simp [hl]
    · rw [if_neg hl, if_neg hl]
      obtain ⟨d, hd⟩ : ∃ d, j - i = d + 1 := ⟨j - i - 1, by omega⟩
      rw [hd, Nat.testBit_succ, Nat.testBit_succ]
      congr 1
      omega
theorem bits_free {cc i : Nat} (hb : cc.testBit i = false) : bitsOf cc = up (bitsOf cc) i false := by
  funext j
  show cc.testBit j = if j = i then false else cc.testBit j
  by_cases h : j = i
  · subst h; simp [hb]
  · simp [h]
theorem sub_pow (cc i : Nat) (hc : cc < 2 ^ 24) (_hi : i < 24) (h : 2 ^ i ≤ cc) : (((cc : Int) - 2 ^ i % 4294967296) % 4294967296) = ((cc - 2 ^ i : Nat) : Int) := by
  rw [show (2 : Int) ^ i = ((2 ^ i : Nat) : Int) by simp]
  generalize 2 ^ i = p at *
  omega
theorem up_on {V : List Nat} {f : Cfg → Bool} (hf : onV V f) (i : Nat) (b : Bool) : onV V (fun c => f (up c i b)) := fun c d h => hf _ _ fun j hj => by
  simp only [up]; split
  · rfl
  · exact h j hj

set_option maxRecDepth 100000 in
set_option maxHeartbeats 2000000 in
theorem RWithOn_any (V : List Nat) (f : Cfg → Bool) (i : Nat) (hi : i < 24) (va : Value) (w : World) (hsa : RSet w va V f) : Calls Try.prog 46 #[va, ik i, .bool true] w fun e w' => ∃ v', e = .returned v' ∧ RSet w' v' V (fun c => f (up c i true)) ∧ Below w.heap.size w w' := by
  obtain ⟨hV, hf, sa, ta, rfl, ha1, ha2⟩ := id hsa
  have hon := up_on hf i true
  have hl := rising_len hV
  have hTl := tab_length V (fun c => f (up c i true))
  have hTk : ∀ k (hk : k < (tab V (fun c => f (up c i true))).length), (tab V (fun c => f (up c i true)))[k] = f (up (bitsOf (cfgN V k)) i true) := fun k hk => by
    have := tab_at (V := V) (f := fun c => f (up c i true)) (by rw [← hTl]; exact hk)
    exact (List.getElem?_eq_some_iff.1 this).2
  obtain ⟨T, hT⟩ : ∃ T, T = tab V (fun c => f (up c i true)) := ⟨_, rfl⟩
  rw [← hT] at hTl hTk
  have HF := Lib.hid hT
  have Htl := Lib.hid hTl
  have HTk := Lib.hid hTk
  have hpow : 2 ^ V.length ≤ 16777216 := Nat.pow_le_pow_right (by omega) hl
  have hT16 : T.length ≤ 16777216 := by omega
  have hk62 : ∀ k, k < T.length → k < 2 ^ 62 := fun k hk => Nat.lt_of_lt_of_le hk (Nat.le_trans hT16 (by decide))
  have Hk62 := Lib.hid hk62
  clear hT hTl hTk hk62 hpow
  obtain ⟨qa, ca, rfl⟩ := ha1.form
  obtain ⟨qt, ct, rfl⟩ := ha2.form
  rw [List.length_map] at *
  have hn3 : (List.map Value.bool (tab V f)).length = T.length := by rw [List.length_map, tab_length, Htl.out]
  have HN3 := Lib.hid hn3
  clear hn3
  have hsa' := hsa
  generalize (List.map Value.bool (tab V f)).length = n3 at *
  obtain rfl : n3 = T.length := HN3.out
  obtain ⟨n1, hn1⟩ : ∃ n1, n1 = V.length := ⟨_, rfl⟩
  obtain ⟨n3, hn3⟩ : ∃ n3, n3 = T.length := ⟨_, rfl⟩
  obtain ⟨a0, a1⟩ := two_cells' w (.slice qa V.length ca) (.slice qt T.length ct) 37
  obtain ⟨r0, r1⟩ := two_cells' (w.alloc (.cells #[.slice qa V.length ca, .slice qt T.length ct] 37)) (.slice none 0 0) (.slice none 0 0) 37
  replace a0 := cell_alloc_l a0 (.cells #[.slice none 0 0, .slice none 0 0] 37)
  replace a1 := cell_alloc_l a1 (.cells #[.slice none 0 0, .slice none 0 0] 37)
  have fr : Fr nob w ((w.alloc (.cells #[.slice qa V.length ca, .slice qt T.length ct] 37)).alloc (.cells #[.slice none 0 0, .slice none 0 0] 37)) := ((Fr.refl nob w).alloc _).alloc _
  have hfz : ∀ o, ((w.alloc (.cells #[.slice qa V.length ca, .slice qt T.length ct] 37)).alloc (.cells #[.slice none 0 0, .slice none 0 0] 37)).frozen? ⟨w.heap.size + 1, o, none⟩ = false := fun o => World.frozen?_alloc_at _ _ _ _ (by simp)
  simp only [World.size_alloc] at a0 a1 r0 r1
  have hi0 : (i : Int) < 24 := by omega
  clear hn1 hn3 n1 n3 HN3
  go_enter Try.func46, Try.ntmps46
  go_wp2_with fail
  generalize ((w.alloc (.cells #[.slice qa V.length ca, .slice qt T.length ct] 37)).alloc (.cells #[.slice none 0 0, .slice none 0 0] 37)) = W0 at *
  refine (Blank_len V.length T.length hl Htl.out qa ca _).mono ?_
  rintro e w2 ⟨g, rfl, row2, hb2⟩
  have fr2 : Fr nob W0 w2 := (Fr.refl nob _).below hb2
  replace a0 := fr2.cell' a0 (fun h => h)
  replace a1 := fr2.cell' a1 (fun h => h)
  have f0 := (fr2.frozen (p := ⟨w.heap.size + 1, 0, none⟩) (lt_of_cell r0) (fun h => h)).trans (hfz 0)
  have f1 := (fr2.frozen (p := ⟨w.heap.size + 1, 1, none⟩) (lt_of_cell r1) (fun h => h)).trans (hfz 1)
  have lw1 := lt_of_cell r0
  simp only at lw1
  replace r0 := fr2.cell' r0 (fun h => h)
  replace r1 := fr2.cell' r1 (fun h => h)
  have frw := fr.trans fr2 (fun _ _ h => h)
  obtain ⟨S0, hg1, hg2⟩ := FillSt.start (sv := .slice qa V.length ca) (T0 := 37) rfl row2
  have fr3 : Fr nob w2 (w2.alloc (.cells #[.slice qa V.length ca, .slice (some ⟨g, 0, none⟩) T.length T.length] 37)) := (Fr.refl nob w2).alloc _
  clear row2 fr2 hb2 hfz fr
  go_wp2_with fail
  generalize w2.alloc (.cells #[.slice qa V.length ca, .slice (some ⟨g, 0, none⟩) T.length T.length] 37) = W3 at *
  replace a0 := fr3.cell' a0 (fun h => h)
  replace a1 := fr3.cell' a1 (fun h => h)
  replace f0 := (fr3.frozen (p := ⟨w.heap.size + 1, 0, none⟩) (lt_of_cell r0) (fun h => h)).trans f0
  replace f1 := (fr3.frozen (p := ⟨w.heap.size + 1, 1, none⟩) (lt_of_cell r1) (fun h => h)).trans f1
  have lw2 := lt_of_cell r0
  simp only at lw2
  replace r0 := fr3.cell' r0 (fun h => h)
  replace r1 := fr3.cell' r1 (fun h => h)
  replace frw := frw.trans fr3 (fun _ _ h => h)
  have z3 := fr3.size
  clear fr3
  go_loopw [8] (fun kv wr => ∃ k : Nat, k ≤ T.length ∧ kv = ik k ∧ FillSt W3 w2.heap.size g (.slice qa V.length ca) T k wr) (fun kv _ => T.length - (intOf kv).toNat)
  case atStart => exact ⟨0, Nat.zero_le _, rfl, S0⟩
  case round =>
    clear S0
    obtain ⟨k, hk, rfl, S⟩ := hrel
    have hBr : Below w.heap.size w wr := (frw.trans' S.fr (T := fun k => w.heap.size ≤ k) (fun _ _ h => h.elim) (fun j hj e => by omega)).to_below (Nat.le_refl _) (fun _ h => h)
    replace a0 := S.fr.cell' a0 (by omega)
    replace a1 := S.fr.cell' a1 (by omega)
    have o0 := S.o0
    have o1 := S.o1
    by_cases hlt : k < T.length
    · have hsr : SRow wr (.slice qa V.length ca) (V.map ik) := ha1.below hBr
      have hcf := Config_any V hV k (Hk62.out k hlt) (.slice qa V.length ca) wr hsr
      have hc24 := cfgN_lt hV k
      have hxy := HTk.out k hlt
      generalize cfgN V k = cc at *
      have hc32 : cc < 2 ^ 32 := Nat.lt_of_lt_of_le hc24 (by decide)
      go_wp2_with fail
      refine hcf.mono ?_
      rintro e wr' ⟨rfl, rfl⟩
      clear hcf hsr
      have ho := or_u32 cc i hc24 hi
      rw [Nat.one_shiftLeft] at ho
      have HO := Lib.hid ho
      have hor : cc ||| 2 ^ i < 2 ^ 32 := Nat.or_lt_two_pow hc32 (Nat.pow_lt_pow_right (by omega) (by omega))
      have hA := RHas_any V f (cc ||| 2 ^ i) hor (.agg #[.slice qa V.length ca, .slice qt T.length ct])
      rw [← bits_set] at hxy
      generalize hgx : cc ||| 2 ^ i = c2 at *
      have HG := Lib.hid hgx
      clear hgx ho
      generalize f (bitsOf c2) = x at *
      go_upto_region 12 with (fail)
      rw [HO.out]
      refine wp_region_grow' 7 53 (fun _ => #[]) [] (by kernel_rfl) (by kernel_rfl) rfl rfl (by intro T h; cases h) ?_
      simp only [List.take_succ_cons, List.take_zero]
      refine grow_step (v := ?v0) rfl rfl ?a0 ?b0
      case a0 =>
        intro w' hw'
        clear hw'
        refine growAt_value ?_
        go_simp
        rfl
      simp only [Act.put, List.setIfInBounds_toArray, List.set_cons_zero, List.set_cons_succ]
      refine grow_step (v := ?v1) rfl rfl ?a1 ?b1
      case a1 =>
        intro w' hw'
        have y_o0 := hw'.cell' o0 (fun h => h)
        have y_o1 := hw'.cell' o1 (fun h => h)
        clear hw'
        refine growAt_value ?_
        go_simp
        rfl
      simp only [Act.put, List.setIfInBounds_toArray, List.set_cons_zero, List.set_cons_succ]
      refine grow_step (v := ?v2) rfl rfl ?a2 ?b2
      case a2 =>
        intro w' hw'
        clear hw'
        refine growAt_value ?_
        go_simp
        rfl
      simp only [Act.put, List.setIfInBounds_toArray, List.set_cons_zero, List.set_cons_succ]
      refine grow_step (v := ?v3) rfl rfl ?a3 ?b3
      case a3 =>
        intro w' hw'
        have y_a0 := hw'.cell' a0 (fun h => h)
        have y_a1 := hw'.cell' a1 (fun h => h)
        clear hw'
        refine growAt_value ?_
        go_simp
        rfl
      simp only [Act.put, List.setIfInBounds_toArray, List.set_cons_zero, List.set_cons_succ]
      refine grow_step (v := ?v4) rfl rfl ?a4 ?b4
      case a4 =>
        intro w' hw'
        clear hw'
        refine growAt_value ?_
        go_simp
        rfl
      simp only [Act.put, List.setIfInBounds_toArray, List.set_cons_zero, List.set_cons_succ]
      refine grow_step (v := .bool x) rfl rfl ?a5 ?b5
      case a5 =>
        intro w' hw'
        refine growAt_call ?_ ((hA w' ((hsa'.below hBr).kept hw')).mono fun e w'' ⟨he, hb⟩ => ⟨he, (Fr.refl nob _).below hb⟩)
        go_simp
      simp only [Act.put, List.setIfInBounds_toArray, List.set_cons_zero, List.set_cons_succ]
      refine grow_step (v := ?v6) rfl rfl ?a6 ?b6
      case a6 =>
        intro w' hw'
        clear hw'
        refine growAt_value ?_
        go_simp
        rfl
      simp only [Act.put, List.setIfInBounds_toArray, List.set_cons_zero, List.set_cons_succ]
      refine grow_nil ?_
      intro w5 listed p5 _ _
      have S5 := S.kept p5
      clear S hA a0 a1 o0 o1 hBr p5
      have o0 := S5.o0
      have o1 := S5.o1
      have hSp := S5.put hlt hxy
      have hfz := S5.row.frozenAt k
      have hok : (w5.cell? ⟨g, k, none⟩).isSome = true := by
        rw [S5.row.cellAt k (by omega)]
        have : k < (part T k).length := by rw [part_length _ _ (by omega)]; exact hlt
        simp [this]
      obtain ⟨yv, hyv⟩ := Option.isSome_iff_exists.1 hok
      clear S5 hok hxy
      go_wp2_with fail
      refine ⟨⟨k + 1, by omega, by go_num, hSp⟩, by simp [intOf]; omega⟩
    · obtain rfl : k = T.length := by omega
      have s0 := S.fr.cell' r0 (by omega)
      have s1 := S.fr.cell' r1 (by omega)
      have sf0 := (S.fr.frozen (p := ⟨w.heap.size + 1, 0, none⟩) (lt_of_cell r0) (by simp; omega)).trans f0
      have sf1 := (S.fr.frozen (p := ⟨w.heap.size + 1, 1, none⟩) (lt_of_cell r1) (by simp; omega)).trans f1
      have hd := S.done
      have hfw := frw.trans' S.fr (T := fun k => w.heap.size ≤ k) (fun _ _ h => h.elim) (fun j hj e => by omega)
      clear S hBr r0 r1 f0 f1
      go_wp2_with fail
      have hBf := (((hfw.setCell (p := ⟨w.heap.size + 1, 0, none⟩) (by simp) (.slice qa V.length ca)).setCell (p := ⟨w.heap.size + 1, 1, none⟩) (by simp) (.slice (some ⟨g, 0, none⟩) T.length T.length)).to_below (Nat.le_refl _) (fun _ h => h))
      refine bodyPost_ret (v := .agg #[.slice qa V.length ca, .slice (some ⟨g, 0, none⟩) T.length T.length]) (by simp [results, Try.results46, go_sem, s0, s1]) rfl ⟨_, rfl, ⟨hV, hon, _, _, rfl, ha1.below hBf, ?_⟩, hBf⟩
      rw [← HF.out]
      exact (hd.store (by omega) 0 _).store (by omega) 1 _

set_option maxRecDepth 100000 in
set_option maxHeartbeats 2000000 in
theorem RWithOff_any (V : List Nat) (f : Cfg → Bool) (i : Nat) (hi : i < 24) (va : Value) (w : World) (hsa : RSet w va V f) : Calls Try.prog 46 #[va, ik i, .bool false] w fun e w' => ∃ v', e = .returned v' ∧ RSet w' v' V (fun c => f (up c i false)) ∧ Below w.heap.size w w' := by
  obtain ⟨hV, hf, sa, ta, rfl, ha1, ha2⟩ := id hsa
  have hon := up_on hf i false
  have hl := rising_len hV
  have hTl := tab_length V (fun c => f (up c i false))
  have hTk : ∀ k (hk : k < (tab V (fun c => f (up c i false))).length), (tab V (fun c => f (up c i false)))[k] = f (up (bitsOf (cfgN V k)) i false) := fun k hk => by
    have := tab_at (V := V) (f := fun c => f (up c i false)) (by rw [← hTl]; exact hk)
    exact (List.getElem?_eq_some_iff.1 this).2
  obtain ⟨T, hT⟩ : ∃ T, T = tab V (fun c => f (up c i false)) := ⟨_, rfl⟩
  rw [← hT] at hTl hTk
  have HF := Lib.hid hT
  have Htl := Lib.hid hTl
  have HTk := Lib.hid hTk
  have hpow : 2 ^ V.length ≤ 16777216 := Nat.pow_le_pow_right (by omega) hl
  have hT16 : T.length ≤ 16777216 := by omega
  have hk62 : ∀ k, k < T.length → k < 2 ^ 62 := fun k hk => Nat.lt_of_lt_of_le hk (Nat.le_trans hT16 (by decide))
  have Hk62 := Lib.hid hk62
  clear hT hTl hTk hk62 hpow
  obtain ⟨qa, ca, rfl⟩ := ha1.form
  obtain ⟨qt, ct, rfl⟩ := ha2.form
  rw [List.length_map] at *
  have hn3 : (List.map Value.bool (tab V f)).length = T.length := by rw [List.length_map, tab_length, Htl.out]
  have HN3 := Lib.hid hn3
  clear hn3
  have hsa' := hsa
  generalize (List.map Value.bool (tab V f)).length = n3 at *
  obtain rfl : n3 = T.length := HN3.out
  obtain ⟨n1, hn1⟩ : ∃ n1, n1 = V.length := ⟨_, rfl⟩
  obtain ⟨n3, hn3⟩ : ∃ n3, n3 = T.length := ⟨_, rfl⟩
  obtain ⟨a0, a1⟩ := two_cells' w (.slice qa V.length ca) (.slice qt T.length ct) 37
  obtain ⟨r0, r1⟩ := two_cells' (w.alloc (.cells #[.slice qa V.length ca, .slice qt T.length ct] 37)) (.slice none 0 0) (.slice none 0 0) 37
  replace a0 := cell_alloc_l a0 (.cells #[.slice none 0 0, .slice none 0 0] 37)
  replace a1 := cell_alloc_l a1 (.cells #[.slice none 0 0, .slice none 0 0] 37)
  have fr : Fr nob w ((w.alloc (.cells #[.slice qa V.length ca, .slice qt T.length ct] 37)).alloc (.cells #[.slice none 0 0, .slice none 0 0] 37)) := ((Fr.refl nob w).alloc _).alloc _
  have hfz : ∀ o, ((w.alloc (.cells #[.slice qa V.length ca, .slice qt T.length ct] 37)).alloc (.cells #[.slice none 0 0, .slice none 0 0] 37)).frozen? ⟨w.heap.size + 1, o, none⟩ = false := fun o => World.frozen?_alloc_at _ _ _ _ (by simp)
  simp only [World.size_alloc] at a0 a1 r0 r1
  have hi0 : (i : Int) < 24 := by omega
  clear hn1 hn3 n1 n3 HN3
  go_enter Try.func46, Try.ntmps46
  go_wp2_with fail
  generalize ((w.alloc (.cells #[.slice qa V.length ca, .slice qt T.length ct] 37)).alloc (.cells #[.slice none 0 0, .slice none 0 0] 37)) = W0 at *
  refine (Blank_len V.length T.length hl Htl.out qa ca _).mono ?_
  rintro e w2 ⟨g, rfl, row2, hb2⟩
  have fr2 : Fr nob W0 w2 := (Fr.refl nob _).below hb2
  replace a0 := fr2.cell' a0 (fun h => h)
  replace a1 := fr2.cell' a1 (fun h => h)
  have f0 := (fr2.frozen (p := ⟨w.heap.size + 1, 0, none⟩) (lt_of_cell r0) (fun h => h)).trans (hfz 0)
  have f1 := (fr2.frozen (p := ⟨w.heap.size + 1, 1, none⟩) (lt_of_cell r1) (fun h => h)).trans (hfz 1)
  have lw1 := lt_of_cell r0
  simp only at lw1
  replace r0 := fr2.cell' r0 (fun h => h)
  replace r1 := fr2.cell' r1 (fun h => h)
  have frw := fr.trans fr2 (fun _ _ h => h)
  obtain ⟨S0, hg1, hg2⟩ := FillSt.start (sv := .slice qa V.length ca) (T0 := 37) rfl row2
  have fr3 : Fr nob w2 (w2.alloc (.cells #[.slice qa V.length ca, .slice (some ⟨g, 0, none⟩) T.length T.length] 37)) := (Fr.refl nob w2).alloc _
  clear row2 fr2 hb2 hfz fr
  go_wp2_with fail
  generalize w2.alloc (.cells #[.slice qa V.length ca, .slice (some ⟨g, 0, none⟩) T.length T.length] 37) = W3 at *
  replace a0 := fr3.cell' a0 (fun h => h)
  replace a1 := fr3.cell' a1 (fun h => h)
  replace f0 := (fr3.frozen (p := ⟨w.heap.size + 1, 0, none⟩) (lt_of_cell r0) (fun h => h)).trans f0
  replace f1 := (fr3.frozen (p := ⟨w.heap.size + 1, 1, none⟩) (lt_of_cell r1) (fun h => h)).trans f1
  have lw2 := lt_of_cell r0
  simp only at lw2
  replace r0 := fr3.cell' r0 (fun h => h)
  replace r1 := fr3.cell' r1 (fun h => h)
  replace frw := frw.trans fr3 (fun _ _ h => h)
  have z3 := fr3.size
  clear fr3
  go_loopw [8] (fun kv wr => ∃ k : Nat, k ≤ T.length ∧ kv = ik k ∧ FillSt W3 w2.heap.size g (.slice qa V.length ca) T k wr) (fun kv _ => T.length - (intOf kv).toNat)
  case atStart => exact ⟨0, Nat.zero_le _, rfl, S0⟩
  case round =>
    clear S0
    obtain ⟨k, hk, rfl, S⟩ := hrel
    have hBr : Below w.heap.size w wr := (frw.trans' S.fr (T := fun k => w.heap.size ≤ k) (fun _ _ h => h.elim) (fun j hj e => by omega)).to_below (Nat.le_refl _) (fun _ h => h)
    replace a0 := S.fr.cell' a0 (by omega)
    replace a1 := S.fr.cell' a1 (by omega)
    have o0 := S.o0
    have o1 := S.o1
    by_cases hlt : k < T.length
    · have hsr : SRow wr (.slice qa V.length ca) (V.map ik) := ha1.below hBr
      have hcf := Config_any V hV k (Hk62.out k hlt) (.slice qa V.length ca) wr hsr
      have hc24 := cfgN_lt hV k
      have hxy := HTk.out k hlt
      generalize cfgN V k = cc at *
      have hc32 : cc < 2 ^ 32 := Nat.lt_of_lt_of_le hc24 (by decide)
      go_wp2_with fail
      refine hcf.mono ?_
      rintro e wr' ⟨rfl, rfl⟩
      clear hcf hsr
      have hsel := selected_any cc i hc32 hi
      cases hb : cc.testBit i with
      | true =>
        obtain ⟨e1, e2⟩ := bits_clear hb
        rw [hb] at hsel
        have hp : 2 ^ i ≤ 16777216 := Nat.pow_le_pow_right (by omega) (Nat.le_of_lt hi)
        have hA := RHas_any V f (cc - 2 ^ i) (Nat.lt_of_le_of_lt (Nat.sub_le _ _) hc32) (.agg #[.slice qa V.length ca, .slice qt T.length ct])
        rw [← e1] at hxy
        have hsub := sub_pow cc i hc24 hi e2
        have HSU := Lib.hid hsub
        clear hsub e1 e2 hb hp
        generalize cc - 2 ^ i = c2 at *
        generalize f (bitsOf c2) = x at *
        go_wp2_with fail
        refine (hsel _).mono ?_
        rintro e wr' ⟨rfl, rfl⟩
        clear hsel
        go_upto_region 12 with (fail)
        rw [HSU.out]
        refine wp_region_grow' 7 53 (fun _ => #[]) [] (by kernel_rfl) (by kernel_rfl) rfl rfl (by intro T h; cases h) ?_
        simp only [List.take_succ_cons, List.take_zero]
        refine grow_step (v := ?v0) rfl rfl ?a0 ?b0
        case a0 =>
          intro w' hw'
          clear hw'
          refine growAt_value ?_
          go_simp
          rfl
        simp only [Act.put, List.setIfInBounds_toArray, List.set_cons_zero, List.set_cons_succ]
        refine grow_step (v := ?v1) rfl rfl ?a1 ?b1
        case a1 =>
          intro w' hw'
          have y_o0 := hw'.cell' o0 (fun h => h)
          have y_o1 := hw'.cell' o1 (fun h => h)
          clear hw'
          refine growAt_value ?_
          go_simp
          rfl
        simp only [Act.put, List.setIfInBounds_toArray, List.set_cons_zero, List.set_cons_succ]
        refine grow_step (v := ?v2) rfl rfl ?a2 ?b2
        case a2 =>
          intro w' hw'
          clear hw'
          refine growAt_value ?_
          go_simp
          rfl
        simp only [Act.put, List.setIfInBounds_toArray, List.set_cons_zero, List.set_cons_succ]
        refine grow_step (v := ?v3) rfl rfl ?a3 ?b3
        case a3 =>
          intro w' hw'
          have y_a0 := hw'.cell' a0 (fun h => h)
          have y_a1 := hw'.cell' a1 (fun h => h)
          clear hw'
          refine growAt_value ?_
          go_simp
          rfl
        simp only [Act.put, List.setIfInBounds_toArray, List.set_cons_zero, List.set_cons_succ]
        refine grow_step (v := ?v4) rfl rfl ?a4 ?b4
        case a4 =>
          intro w' hw'
          clear hw'
          refine growAt_value ?_
          go_simp
          rfl
        simp only [Act.put, List.setIfInBounds_toArray, List.set_cons_zero, List.set_cons_succ]
        refine grow_step (v := .bool x) rfl rfl ?a5 ?b5
        case a5 =>
          intro w' hw'
          refine growAt_call ?_ ((hA w' ((hsa'.below hBr).kept hw')).mono fun e w'' ⟨he, hb⟩ => ⟨he, (Fr.refl nob _).below hb⟩)
          go_simp
        simp only [Act.put, List.setIfInBounds_toArray, List.set_cons_zero, List.set_cons_succ]
        refine grow_step (v := ?v6) rfl rfl ?a6 ?b6
        case a6 =>
          intro w' hw'
          clear hw'
          refine growAt_value ?_
          go_simp
          rfl
        simp only [Act.put, List.setIfInBounds_toArray, List.set_cons_zero, List.set_cons_succ]
        refine grow_nil ?_
        intro w5 listed p5 _ _
        have S5 := S.kept p5
        clear S hA a0 a1 o0 o1 hBr p5
        have o0 := S5.o0
        have o1 := S5.o1
        have hSp := S5.put hlt hxy
        have hfz := S5.row.frozenAt k
        have hok : (w5.cell? ⟨g, k, none⟩).isSome = true := by
          rw [S5.row.cellAt k (by omega)]
          have : k < (part T k).length := by rw [part_length _ _ (by omega)]; exact hlt
          simp [this]
        obtain ⟨yv, hyv⟩ := Option.isSome_iff_exists.1 hok
        clear S5 hok hxy
        go_wp2_with fail
        refine ⟨⟨k + 1, by omega, by go_num, hSp⟩, by simp [intOf]; omega⟩
      | false =>
        have e1 := bits_free hb
        rw [hb] at hsel
        have hA := RHas_any V f cc hc32 (.agg #[.slice qa V.length ca, .slice qt T.length ct])
        rw [← e1] at hxy
        clear e1 hb
        generalize f (bitsOf cc) = x at *
        go_wp2_with fail
        refine (hsel _).mono ?_
        rintro e wr' ⟨rfl, rfl⟩
        clear hsel
        go_upto_region 12 with (fail)
        refine wp_region_grow' 7 53 (fun _ => #[]) [] (by kernel_rfl) (by kernel_rfl) rfl rfl (by intro T h; cases h) ?_
        simp only [List.take_succ_cons, List.take_zero]
        refine grow_step (v := ?zv0) rfl rfl ?za0 ?zb0
        case za0 =>
          intro w' hw'
          clear hw'
          refine growAt_value ?_
          go_simp
          rfl
        simp only [Act.put, List.setIfInBounds_toArray, List.set_cons_zero, List.set_cons_succ]
        refine grow_step (v := ?zv1) rfl rfl ?za1 ?zb1
        case za1 =>
          intro w' hw'
          have y_o0 := hw'.cell' o0 (fun h => h)
          have y_o1 := hw'.cell' o1 (fun h => h)
          clear hw'
          refine growAt_value ?_
          go_simp
          rfl
        simp only [Act.put, List.setIfInBounds_toArray, List.set_cons_zero, List.set_cons_succ]
        refine grow_step (v := ?zv2) rfl rfl ?za2 ?zb2
        case za2 =>
          intro w' hw'
          clear hw'
          refine growAt_value ?_
          go_simp
          rfl
        simp only [Act.put, List.setIfInBounds_toArray, List.set_cons_zero, List.set_cons_succ]
        refine grow_step (v := ?zv3) rfl rfl ?za3 ?zb3
        case za3 =>
          intro w' hw'
          have y_a0 := hw'.cell' a0 (fun h => h)
          have y_a1 := hw'.cell' a1 (fun h => h)
          clear hw'
          refine growAt_value ?_
          go_simp
          rfl
        simp only [Act.put, List.setIfInBounds_toArray, List.set_cons_zero, List.set_cons_succ]
        refine grow_step (v := ?zv4) rfl rfl ?za4 ?zb4
        case za4 =>
          intro w' hw'
          clear hw'
          refine growAt_value ?_
          go_simp
          rfl
        simp only [Act.put, List.setIfInBounds_toArray, List.set_cons_zero, List.set_cons_succ]
        refine grow_step (v := .bool x) rfl rfl ?za5 ?zb5
        case za5 =>
          intro w' hw'
          refine growAt_call ?_ ((hA w' ((hsa'.below hBr).kept hw')).mono fun e w'' ⟨he, hb⟩ => ⟨he, (Fr.refl nob _).below hb⟩)
          go_simp
        simp only [Act.put, List.setIfInBounds_toArray, List.set_cons_zero, List.set_cons_succ]
        refine grow_step (v := ?zv6) rfl rfl ?za6 ?zb6
        case za6 =>
          intro w' hw'
          clear hw'
          refine growAt_value ?_
          go_simp
          rfl
        simp only [Act.put, List.setIfInBounds_toArray, List.set_cons_zero, List.set_cons_succ]
        refine grow_nil ?_
        intro w5 listed p5 _ _
        have S5 := S.kept p5
        clear S hA a0 a1 o0 o1 hBr p5
        have o0 := S5.o0
        have o1 := S5.o1
        have hSp := S5.put hlt hxy
        have hfz := S5.row.frozenAt k
        have hok : (w5.cell? ⟨g, k, none⟩).isSome = true := by
          rw [S5.row.cellAt k (by omega)]
          have : k < (part T k).length := by rw [part_length _ _ (by omega)]; exact hlt
          simp [this]
        obtain ⟨yv, hyv⟩ := Option.isSome_iff_exists.1 hok
        clear S5 hok hxy
        go_wp2_with fail
        refine ⟨⟨k + 1, by omega, by go_num, hSp⟩, by simp [intOf]; omega⟩
    · obtain rfl : k = T.length := by omega
      have s0 := S.fr.cell' r0 (by omega)
      have s1 := S.fr.cell' r1 (by omega)
      have sf0 := (S.fr.frozen (p := ⟨w.heap.size + 1, 0, none⟩) (lt_of_cell r0) (by simp; omega)).trans f0
      have sf1 := (S.fr.frozen (p := ⟨w.heap.size + 1, 1, none⟩) (lt_of_cell r1) (by simp; omega)).trans f1
      have hd := S.done
      have hfw := frw.trans' S.fr (T := fun k => w.heap.size ≤ k) (fun _ _ h => h.elim) (fun j hj e => by omega)
      clear S hBr r0 r1 f0 f1
      go_wp2_with fail
      have hBf := (((hfw.setCell (p := ⟨w.heap.size + 1, 0, none⟩) (by simp) (.slice qa V.length ca)).setCell (p := ⟨w.heap.size + 1, 1, none⟩) (by simp) (.slice (some ⟨g, 0, none⟩) T.length T.length)).to_below (Nat.le_refl _) (fun _ h => h))
      refine bodyPost_ret (v := .agg #[.slice qa V.length ca, .slice (some ⟨g, 0, none⟩) T.length T.length]) (by simp [results, Try.results46, go_sem, s0, s1]) rfl ⟨_, rfl, ⟨hV, hon, _, _, rfl, ha1.below hBf, ?_⟩, hBf⟩
      rw [← HF.out]
      exact (hd.store (by omega) 0 _).store (by omega) 1 _
end Go.Proofs.Ytingidbhmbgigaa
