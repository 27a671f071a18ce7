import Derived.Test.YtnkcdkmfeokljaaDoorRefH
import Derived.Test.YtnkcdkmfeokljaaDoorHas
namespace Go.Proofs.YtnkcdkmfeokljaaDoor
open Go.RowKit
open Bd

theorem supR_num {b : B} (hb : b.ok 0) {V : List Nat} {f : Cfg → Bool} (hf : onV V f) (he : ∀ c, f c = b.ev c) : numN (depL f V) = supR (li b) := by
  have hfe : f = b.ev := funext he
  apply Nat.eq_of_testBit_eq
  intro i
  rw [Bool.eq_iff_iff, numN_bit, supR_dep hb, mem_depL, hfe]
  constructor
  · exact fun h => h.2
  · intro h
    refine ⟨Classical.byContradiction fun hn => ?_, h⟩
    obtain ⟨c, hc⟩ := h
    rw [← hfe] at hc
    exact hc (hf _ _ fun j hj => by
      have : j ≠ i := fun e => hn (e ▸ hj)
      simp [up, this])

theorem ev_high {b : B} (hb : b.ok 0) (c : Nat) : b.ev (bitsOf (c ||| 4278190080)) = b.ev (bitsOf c) := ev_agree hb fun j _ hj => by
  show (c ||| 4278190080).testBit j = c.testBit j
  rw [Nat.testBit_or]
  have h : (4278190080 : Nat) = 2 ^ 24 * 255 := by decide
  rw [h, Nat.testBit_two_pow_mul]
  simp; omega

set_option maxRecDepth 100000 in
set_option maxHeartbeats 4000000 in
theorem Alike_any (b : B) (hb : b.ok 0) (V : List Nat) (f : Cfg → Bool) (v : Value) (w : World) (hs : RSet w v V f) (he : ∀ c, f c = b.ev c) : Calls Tryd.prog 48 #[dval b, v] w fun e w' => e = .returned (.bool true) ∧ Below w.heap.size w w' := by
  obtain ⟨hV, hf, sa, ta, rfl, ha1, ha2⟩ := id hs
  have hsupp := supR_num hb hf he
  have hl := rising_len hV
  have hTl := tab_length V f
  have hTk : ∀ k (hk : k < (tab V f).length), (tab V f)[k] = b.ev (bitsOf (cfgN V k)) := fun k hk => by
    have := tab_at (V := V) (f := f) (by rw [← hTl]; exact hk)
    rw [(List.getElem?_eq_some_iff.1 this).2, he]
  have hRS := RSupport_any V f
  rw [hsupp] at hRS
  obtain ⟨qa, ca, rfl⟩ := ha1.form
  obtain ⟨ua, da, rfl⟩ := ha2.form
  simp only [List.length_map] at *
  have hsup := hRS (.agg #[.slice qa V.length ca, .slice ua (tab V f).length da])
  have hpow : 2 ^ V.length ≤ 16777216 := Nat.pow_le_pow_right (by omega) hl
  obtain ⟨T, hT⟩ : ∃ T, T = tab V f := ⟨_, rfl⟩
  rw [← hT] at hTl hTk hsup ha2 hs
  rw [← hT]
  have HTk := Lib.hid hTk
  have hT16 : T.length ≤ 16777216 := by omega
  have Hk62 := Lib.hid (show ∀ k, k < T.length → k < 2 ^ 62 from fun k hk => Nat.lt_of_lt_of_le hk (Nat.le_trans hT16 (by decide)))
  clear hTl hTk hRS hsupp hT hpow he
  obtain ⟨d0, d1⟩ := two_cells' w (.int .u32 (place (li b) b : Int)) (.string ⟨(code (rows (li b))).toArray⟩) 26
  obtain ⟨v0, v1⟩ := two_cells' (w.alloc (.cells #[.int .u32 (place (li b) b : Int), .string ⟨(code (rows (li b))).toArray⟩] 26)) (.slice qa V.length ca) (.slice ua T.length da) 73
  replace d0 := cell_alloc_l d0 (.cells #[.slice qa V.length ca, .slice ua T.length da] 73)
  replace d1 := cell_alloc_l d1 (.cells #[.slice qa V.length ca, .slice ua T.length da] 73)
  simp only [World.size_alloc] at v0 v1
  have fr : Fr nob w ((w.alloc (.cells #[.int .u32 (place (li b) b : Int), .string ⟨(code (rows (li b))).toArray⟩] 26)).alloc (.cells #[.slice qa V.length ca, .slice ua T.length da] 73)) := ((Fr.refl nob w).alloc _).alloc _
  go_enter Tryd.func48, Tryd.ntmps48
  go_wp2_with fail
  generalize ((w.alloc (.cells #[.int .u32 (place (li b) b : Int), .string ⟨(code (rows (li b))).toArray⟩] 26)).alloc (.cells #[.slice qa V.length ca, .slice ua T.length da] 73)) = W0 at *
  have hs0 := hs.kept fr
  refine wp_region_grow' 4 44 (fun _ => #[]) [] (by kernel_rfl) (by kernel_rfl) rfl rfl (by intro T h; cases h) ?_
  simp only [List.take_succ_cons, List.take_zero]
  refine grow_step (v := ?sv0) rfl rfl ?sa0 ?sb0
  case sa0 =>
    intro w' hw'
    have yd0 := hw'.cell' d0 (fun h => h)
    have yd1 := hw'.cell' d1 (fun h => h)
    clear hw'
    refine growAt_value ?_
    go_simp
    rfl
  simp only [Act.put, List.setIfInBounds_toArray, List.set_cons_zero, List.set_cons_succ]
  refine grow_step (v := .int .u32 (supR (li b) : Int)) rfl rfl ?sa1 ?sb1
  case sa1 =>
    intro w' hw'
    refine growAt_call ?_ ((Support_any b hb w').mono fun e w'' ⟨he, hb⟩ => ⟨he, (Fr.refl nob _).below hb⟩)
    go_simp
  simp only [Act.put, List.setIfInBounds_toArray, List.set_cons_zero, List.set_cons_succ]
  refine grow_step (v := ?sv2) rfl rfl ?sa2 ?sb2
  case sa2 =>
    intro w' hw'
    have yv0 := hw'.cell' v0 (fun h => h)
    have yv1 := hw'.cell' v1 (fun h => h)
    clear hw'
    refine growAt_value ?_
    go_simp
    rfl
  simp only [Act.put, List.setIfInBounds_toArray, List.set_cons_zero, List.set_cons_succ]
  refine grow_step (v := .int .u32 (supR (li b) : Int)) rfl rfl ?sa3 ?sb3
  case sa3 =>
    intro w' hw'
    refine growAt_call ?_ ((hsup w' (hs0.kept hw')).mono fun e w'' ⟨he, hb⟩ => ⟨he, (Fr.refl nob _).below hb⟩)
    go_simp
  simp only [Act.put, List.setIfInBounds_toArray, List.set_cons_zero, List.set_cons_succ]
  refine grow_nil ?_
  intro w1 listed p1 _ _
  replace d0 := p1.cell' d0 (fun h => h)
  replace d1 := p1.cell' d1 (fun h => h)
  replace v0 := p1.cell' v0 (fun h => h)
  replace v1 := p1.cell' v1 (fun h => h)
  have fr1 := fr.trans p1 (fun _ _ h => h)
  have ha1' := ha1.kept fr1
  have ha2' := ha2.kept fr1
  clear hs0 hsup p1 fr
  go_wp2_with fail
  go_loopw [5] (fun kv wr => ∃ k : Nat, k ≤ T.length ∧ kv = ik k ∧ Fr nob w1 wr) (fun kv _ => T.length - (intOf kv).toNat)
  case atStart => exact ⟨0, Nat.zero_le _, rfl, Fr.refl _ _⟩
  case round =>
    obtain ⟨k, hk, rfl, fwr⟩ := hrel
    replace d0 := fwr.cell' d0 (fun h => h)
    replace d1 := fwr.cell' d1 (fun h => h)
    replace v0 := fwr.cell' v0 (fun h => h)
    replace v1 := fwr.cell' v1 (fun h => h)
    by_cases hlt : k < T.length
    · have hcf := Config_any V hV k (Hk62.out k hlt) (.slice qa V.length ca) wr (ha1'.kept fwr)
      have hc24 := cfgN_lt hV k
      have hxy := HTk.out k hlt
      have hcc : (T.map Value.bool)[k]? = some (.bool T[k]) := by simp [hlt]
      obtain ⟨g, rfl, hcell⟩ := (ha2'.kept fwr).at hcc
      rw [hxy] at hcell
      generalize cfgN V k = cc at *
      have hc32 : cc < 2 ^ 32 := Nat.lt_of_lt_of_le hc24 (by decide)
      have hA : ∀ W, Calls Tryd.prog 43 #[dval b, .int .u32 (cc : Int)] W fun e w' => e = .returned (.bool (b.ev (bitsOf cc))) ∧ Below W.heap.size W w' := fun W => Has_any b hb cc hc32 W
      have hor : bits BinOp.or IntKind.u32 (cc : Int) 4278190080 = ((cc ||| 4278190080 : Nat) : Int) := (bits_nat .u32 32 (by decide) wraps_u32 cc 4278190080 hc32 (by decide)).2
      have hA2 : ∀ W, Calls Tryd.prog 43 #[dval b, .int .u32 (bits BinOp.or IntKind.u32 (cc : Int) 4278190080)] W fun e w' => e = .returned (.bool (b.ev (bitsOf cc))) ∧ Below W.heap.size W w' := fun W => by
        rw [hor, ← ev_high hb cc]; exact Has_any b hb (cc ||| 4278190080) (Nat.or_lt_two_pow hc32 (by decide)) W
      generalize b.ev (bitsOf cc) = x at *
      have hk0 : (0 : Int) ≤ (k : Int) := Int.natCast_nonneg _
      have hk1 : (k : Int) < (T.length : Int) := by omega
      have hxx : (x != x) = false := by simp
      clear hxy hcc hor ha1' ha2'
      go_wp2_with fail
      refine hcf.mono ?_
      rintro e wr' ⟨rfl, rfl⟩
      clear hcf
      go_wp2_with fail
      refine wp_region_grow' 20 44 (fun _ => #[]) [] (by kernel_rfl) (by kernel_rfl) rfl rfl (by intro T h; cases h) ?_
      simp only [List.take_succ_cons, List.take_zero]
      refine grow_step (v := ?tv0) rfl rfl ?ta0 ?tb0
      case ta0 =>
        intro w' hw'
        have yd0 := hw'.cell' d0 (fun h => h)
        have yd1 := hw'.cell' d1 (fun h => h)
        clear hw'
        refine growAt_value ?_
        go_simp
        rfl
      simp only [Act.put, List.setIfInBounds_toArray, List.set_cons_zero, List.set_cons_succ]
      refine grow_step (v := ?tv1) rfl rfl ?ta1 ?tb1
      case ta1 =>
        intro w' hw'
        clear hw'
        refine growAt_value ?_
        go_simp
        rfl
      simp only [Act.put, List.setIfInBounds_toArray, List.set_cons_zero, List.set_cons_succ]
      refine grow_step (v := .bool x) rfl rfl ?ta2 ?tb2
      case ta2 =>
        intro w' hw'
        refine growAt_call ?_ ((hA w').mono fun e w'' ⟨he, hb⟩ => ⟨he, (Fr.refl nob _).below hb⟩)
        go_simp
      simp only [Act.put, List.setIfInBounds_toArray, List.set_cons_zero, List.set_cons_succ]
      refine grow_step (v := ?tv3) rfl rfl ?ta3 ?tb3
      case ta3 =>
        intro w' hw'
        clear hw'
        refine growAt_value ?_
        go_simp
        rfl
      simp only [Act.put, List.setIfInBounds_toArray, List.set_cons_zero, List.set_cons_succ]
      refine grow_step (v := ?tv4) rfl rfl ?ta4 ?tb4
      case ta4 =>
        intro w' hw'
        have yv1 := hw'.cell' v1 (fun h => h)
        clear hw'
        refine growAt_value ?_
        go_simp
        rfl
      simp only [Act.put, List.setIfInBounds_toArray, List.set_cons_zero, List.set_cons_succ]
      refine grow_step (v := ?tv5) rfl rfl ?ta5 ?tb5
      case ta5 =>
        intro w' hw'
        clear hw'
        refine growAt_value ?_
        go_simp
        rfl
      simp only [Act.put, List.setIfInBounds_toArray, List.set_cons_zero, List.set_cons_succ]
      refine grow_step (v := ?tv6) rfl rfl ?ta6 ?tb6
      case ta6 =>
        intro w' hw'
        clear hw'
        refine growAt_value ?_
        go_simp
        rfl
      simp only [Act.put, List.setIfInBounds_toArray, List.set_cons_zero, List.set_cons_succ]
      refine grow_step (v := ?tv7) rfl rfl ?ta7 ?tb7
      case ta7 =>
        intro w' hw'
        have yhcell := hw'.cell' hcell (fun h => h)
        clear hw'
        refine growAt_value ?_
        go_simp
        rfl
      simp only [Act.put, List.setIfInBounds_toArray, List.set_cons_zero, List.set_cons_succ]
      refine grow_step (v := ?tv8) rfl rfl ?ta8 ?tb8
      case ta8 =>
        intro w' hw'
        clear hw'
        refine growAt_value ?_
        go_simp
        rfl
      simp only [Act.put, List.setIfInBounds_toArray, List.set_cons_zero, List.set_cons_succ]
      refine grow_step (v := ?tv9) rfl rfl ?ta9 ?tb9
      case ta9 =>
        intro w' hw'
        clear hw'
        refine growAt_value ?_
        go_simp
        rfl
      simp only [Act.put, List.setIfInBounds_toArray, List.set_cons_zero, List.set_cons_succ]
      refine grow_step (v := ?tv10) rfl rfl ?ta10 ?tb10
      case ta10 =>
        intro w' hw'
        have yd0 := hw'.cell' d0 (fun h => h)
        have yd1 := hw'.cell' d1 (fun h => h)
        clear hw'
        refine growAt_value ?_
        go_simp
        rfl
      simp only [Act.put, List.setIfInBounds_toArray, List.set_cons_zero, List.set_cons_succ]
      refine grow_step (v := ?tv11) rfl rfl ?ta11 ?tb11
      case ta11 =>
        intro w' hw'
        clear hw'
        refine growAt_value ?_
        go_simp
        rfl
      simp only [Act.put, List.setIfInBounds_toArray, List.set_cons_zero, List.set_cons_succ]
      refine grow_step (v := ?tv12) rfl rfl ?ta12 ?tb12
      case ta12 =>
        intro w' hw'
        clear hw'
        refine growAt_value ?_
        go_simp
        rfl
      simp only [Act.put, List.setIfInBounds_toArray, List.set_cons_zero, List.set_cons_succ]
      refine grow_step (v := .bool x) rfl rfl ?ta13 ?tb13
      case ta13 =>
        intro w' hw'
        refine growAt_call ?_ ((hA2 w').mono fun e w'' ⟨he, hb⟩ => ⟨he, (Fr.refl nob _).below hb⟩)
        go_simp
      simp only [Act.put, List.setIfInBounds_toArray, List.set_cons_zero, List.set_cons_succ]
      refine grow_step (v := ?tv14) rfl rfl ?ta14 ?tb14
      case ta14 =>
        intro w' hw'
        clear hw'
        refine growAt_value ?_
        go_simp
        rfl
      simp only [Act.put, List.setIfInBounds_toArray, List.set_cons_zero, List.set_cons_succ]
      refine grow_step (v := ?tv15) rfl rfl ?ta15 ?tb15
      case ta15 =>
        intro w' hw'
        have yv1 := hw'.cell' v1 (fun h => h)
        clear hw'
        refine growAt_value ?_
        go_simp
        rfl
      simp only [Act.put, List.setIfInBounds_toArray, List.set_cons_zero, List.set_cons_succ]
      refine grow_step (v := ?tv16) rfl rfl ?ta16 ?tb16
      case ta16 =>
        intro w' hw'
        clear hw'
        refine growAt_value ?_
        go_simp
        rfl
      simp only [Act.put, List.setIfInBounds_toArray, List.set_cons_zero, List.set_cons_succ]
      refine grow_step (v := ?tv17) rfl rfl ?ta17 ?tb17
      case ta17 =>
        intro w' hw'
        clear hw'
        refine growAt_value ?_
        go_simp
        rfl
      simp only [Act.put, List.setIfInBounds_toArray, List.set_cons_zero, List.set_cons_succ]
      refine grow_step (v := ?tv18) rfl rfl ?ta18 ?tb18
      case ta18 =>
        intro w' hw'
        have yhcell := hw'.cell' hcell (fun h => h)
        clear hw'
        refine growAt_value ?_
        go_simp
        rfl
      simp only [Act.put, List.setIfInBounds_toArray, List.set_cons_zero, List.set_cons_succ]
      refine grow_step (v := ?tv19) rfl rfl ?ta19 ?tb19
      case ta19 =>
        intro w' hw'
        clear hw'
        refine growAt_value ?_
        go_simp
        rfl
      simp only [Act.put, List.setIfInBounds_toArray, List.set_cons_zero, List.set_cons_succ]
      refine grow_nil ?_
      intro w5 listed p5 _ _
      have f5 := fwr.trans p5 (fun _ _ h => h)
      clear d0 d1 v0 v1 hcell hA hA2 p5
      go_wp2_with fail
      refine ⟨⟨k + 1, by omega, by go_num, f5⟩, by simp [intOf]; omega⟩
    · obtain rfl : k = T.length := by omega
      go_wp2_with fail
      go_ret
      exact ⟨rfl, (fr1.trans fwr (fun _ _ h => h)).to_below (Nat.le_refl _) (fun _ h => h.elim)⟩
end Go.Proofs.YtnkcdkmfeokljaaDoor
