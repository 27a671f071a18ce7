import Derived.Test.YtiainlccodnlmaaDoorCmpO
import Derived.Test.YtiainlccodnlmaaDoorOfr
import Derived.Test.YtiainlccodnlmaaDoorFoldO
import Derived.Test.YtiainlccodnlmaaDoorRuleG
import Derived.Great.BuildSlice
import Derived.Laws.BitsAllLaws
namespace Go.Proofs.YtiainlccodnlmaaDoor
open Go.RowKit
open Bd

theorem Box2.putO0 {w : World} {g : Nat} {a b : Value} (h : Box2 w g a b) (x : Value) : Box2 (w.setCell ⟨g, 0, none⟩ x) g x b ∧ Fr (fun k => k = g) w (w.setCell ⟨g, 0, none⟩ x) := by
  refine ⟨⟨World.cell?_setCell_same' _ _ _ (by rw [h.c0]; rfl), ?_, fun o => by rw [World.frozen?_setCell]; exact h.fz o⟩, fr_store w g 0 x⟩
  rw [World.cell?_setCell_other _ _ _ _ (by simp)]; exact h.c1
theorem Box2.putO1 {w : World} {g : Nat} {a b : Value} (h : Box2 w g a b) (x : Value) : Box2 (w.setCell ⟨g, 1, none⟩ x) g a x ∧ Fr (fun k => k = g) w (w.setCell ⟨g, 1, none⟩ x) := by
  refine ⟨⟨?_, World.cell?_setCell_same' _ _ _ (by rw [h.c1]; rfl), fun o => by rw [World.frozen?_setCell]; exact h.fz o⟩, fr_store w g 1 x⟩
  rw [World.cell?_setCell_other _ _ _ _ (by simp)]; exact h.c0
theorem or_stb (s i : Nat) (hs : s < 2 ^ 24) (hi : i < 24) : bits BinOp.or IntKind.u32 (s : Int) (IntKind.u32.wrap (2 ^ i)) = ((stb s i true : Nat) : Int) := by
  have := or_u32 s i hs hi
  rw [Nat.one_shiftLeft] at this
  rw [IntKind.wrap_u32]; exact this
theorem andNot_stb (s i : Nat) (hs : s < 2 ^ 24) (hi : i < 24) : bits BinOp.andNot IntKind.u32 (s : Int) (IntKind.u32.wrap (2 ^ i)) = ((stb s i false : Nat) : Int) := by
  have hp : 2 ^ i < 2 ^ 24 := Nat.pow_lt_pow_right (by omega) hi
  have e : IntKind.u32.wrap (2 ^ i) = ((2 ^ i : Nat) : Int) := by
    rw [IntKind.wrap_u32, show (2 : Int) ^ i = ((2 ^ i : Nat) : Int) by simp]
    generalize 2 ^ i = m at *
    omega
  rw [e, u32_andNot_nat s (2 ^ i) (by omega) (by omega)]
  congr 1
  refine Nat.eq_of_testBit_eq fun j => ?_
  rw [stb_at, Nat.testBit_and, show (4294967295 : Nat) - 2 ^ i = 2 ^ 32 - (2 ^ i + 1) by omega, Nat.testBit_two_pow_sub_succ (by omega), Nat.testBit_two_pow]
  by_cases h : j = i
  · subst h; simp
  · rw [if_neg h]
    have h' : ¬ i = j := fun e => h e.symm
    by_cases hj : j < 32
    · simp [h', hj]
    · have : s.testBit j = false := Nat.testBit_lt_two_pow (Nat.lt_of_lt_of_le hs (Nat.pow_le_pow_right (by omega) (by omega)))
      rw [this]; simp

theorem cw_at (cw : Nat → Int) {i : Nat} (hi : i < 24) : (#[.int .i64 (cw 0), .int .i64 (cw 1), .int .i64 (cw 2), .int .i64 (cw 3), .int .i64 (cw 4), .int .i64 (cw 5), .int .i64 (cw 6), .int .i64 (cw 7), .int .i64 (cw 8), .int .i64 (cw 9), .int .i64 (cw 10), .int .i64 (cw 11), .int .i64 (cw 12), .int .i64 (cw 13), .int .i64 (cw 14), .int .i64 (cw 15), .int .i64 (cw 16), .int .i64 (cw 17), .int .i64 (cw 18), .int .i64 (cw 19), .int .i64 (cw 20), .int .i64 (cw 21), .int .i64 (cw 22), .int .i64 (cw 23)] : Array Value)[i]? = some (.int .i64 (cw i)) := by
  match i, hi with
  | 0, _ => rfl
  | 1, _ => rfl
  | 2, _ => rfl
  | 3, _ => rfl
  | 4, _ => rfl
  | 5, _ => rfl
  | 6, _ => rfl
  | 7, _ => rfl
  | 8, _ => rfl
  | 9, _ => rfl
  | 10, _ => rfl
  | 11, _ => rfl
  | 12, _ => rfl
  | 13, _ => rfl
  | 14, _ => rfl
  | 15, _ => rfl
  | 16, _ => rfl
  | 17, _ => rfl
  | 18, _ => rfl
  | 19, _ => rfl
  | 20, _ => rfl
  | 21, _ => rfl
  | 22, _ => rfl
  | 23, _ => rfl
  | i + 24, h => omega

/-- a price of features as a value -/
abbrev pv (cw : Nat → Int) : Value := wv cw
/-- the better one of two offers -/
def bet (x e1 e2 : Int) (k1 k2 : Nat) : Int × Nat := if e1 + max (- x) 0 < e2 + max x 0 ∨ (e1 + max (- x) 0 = e2 + max x 0 ∧ k1 < k2) then (e1 + max (- x) 0, k1) else (e2 + max x 0, k2)
abbrev ov (o : Int × Nat) : Value := .agg #[.int .i64 o.1, .int .u32 (o.2 : Int)]

set_option maxRecDepth 100000 in
set_option maxHeartbeats 4000000 in
theorem better_any (cw : Nat → Int) (i : Nat) (hi : i < 24) (hcw : -2147483648 ≤ cw i ∧ cw i ≤ 2147483648) (e1 e2 : Int) (he1 : 0 ≤ e1 ∧ e1 ≤ 4398046511104) (he2 : 0 ≤ e2 ∧ e2 ≤ 4398046511104) (c1 c2 : Nat) (hc1 : c1 < 2 ^ 24) (hc2 : c2 < 2 ^ 24) (w : World) :
    Calls Tryd.prog 103 #[pv cw, .int .i64 (i : Int), .agg #[.int .i64 e1, .int .u32 (c1 : Int)], .agg #[.int .i64 e2, .int .u32 (c2 : Int)]] w fun e w' => e = .returned (ov (bet (cw i) e1 e2 (stb c1 i false) (stb c2 i true))) ∧ Below w.heap.size w w' := by
  have box := heap_alloc_new w (.cells #[.int .i64 (cw 0), .int .i64 (cw 1), .int .i64 (cw 2), .int .i64 (cw 3), .int .i64 (cw 4), .int .i64 (cw 5), .int .i64 (cw 6), .int .i64 (cw 7), .int .i64 (cw 8), .int .i64 (cw 9), .int .i64 (cw 10), .int .i64 (cw 11), .int .i64 (cw 12), .int .i64 (cw 13), .int .i64 (cw 14), .int .i64 (cw 15), .int .i64 (cw 16), .int .i64 (cw 17), .int .i64 (cw 18), .int .i64 (cw 19), .int .i64 (cw 20), .int .i64 (cw 21), .int .i64 (cw 22), .int .i64 (cw 23)] 145)
  have D1 := ((Box2.new (w.alloc (.cells #[.int .i64 (cw 0), .int .i64 (cw 1), .int .i64 (cw 2), .int .i64 (cw 3), .int .i64 (cw 4), .int .i64 (cw 5), .int .i64 (cw 6), .int .i64 (cw 7), .int .i64 (cw 8), .int .i64 (cw 9), .int .i64 (cw 10), .int .i64 (cw 11), .int .i64 (cw 12), .int .i64 (cw 13), .int .i64 (cw 14), .int .i64 (cw 15), .int .i64 (cw 16), .int .i64 (cw 17), .int .i64 (cw 18), .int .i64 (cw 19), .int .i64 (cw 20), .int .i64 (cw 21), .int .i64 (cw 22), .int .i64 (cw 23)] 145)) (.int .i64 e1) (.int .u32 (c1 : Int)) 147).kept ((Fr.refl nob _).alloc (.cells #[.int .i64 e2, .int .u32 (c2 : Int)] 147)) (fun h => h)).kept ((Fr.refl nob _).alloc (.cells #[.int .i64 0, .int .u32 0] 147)) (fun h => h)
  have D2 := (Box2.new ((w.alloc (.cells #[.int .i64 (cw 0), .int .i64 (cw 1), .int .i64 (cw 2), .int .i64 (cw 3), .int .i64 (cw 4), .int .i64 (cw 5), .int .i64 (cw 6), .int .i64 (cw 7), .int .i64 (cw 8), .int .i64 (cw 9), .int .i64 (cw 10), .int .i64 (cw 11), .int .i64 (cw 12), .int .i64 (cw 13), .int .i64 (cw 14), .int .i64 (cw 15), .int .i64 (cw 16), .int .i64 (cw 17), .int .i64 (cw 18), .int .i64 (cw 19), .int .i64 (cw 20), .int .i64 (cw 21), .int .i64 (cw 22), .int .i64 (cw 23)] 145)).alloc (.cells #[.int .i64 e1, .int .u32 (c1 : Int)] 147)) (.int .i64 e2) (.int .u32 (c2 : Int)) 147).kept ((Fr.refl nob _).alloc (.cells #[.int .i64 0, .int .u32 0] 147)) (fun h => h)
  have D3 := Box2.new (((w.alloc (.cells #[.int .i64 (cw 0), .int .i64 (cw 1), .int .i64 (cw 2), .int .i64 (cw 3), .int .i64 (cw 4), .int .i64 (cw 5), .int .i64 (cw 6), .int .i64 (cw 7), .int .i64 (cw 8), .int .i64 (cw 9), .int .i64 (cw 10), .int .i64 (cw 11), .int .i64 (cw 12), .int .i64 (cw 13), .int .i64 (cw 14), .int .i64 (cw 15), .int .i64 (cw 16), .int .i64 (cw 17), .int .i64 (cw 18), .int .i64 (cw 19), .int .i64 (cw 20), .int .i64 (cw 21), .int .i64 (cw 22), .int .i64 (cw 23)] 145)).alloc (.cells #[.int .i64 e1, .int .u32 (c1 : Int)] 147)).alloc (.cells #[.int .i64 e2, .int .u32 (c2 : Int)] 147)) (.int .i64 0) (.int .u32 0) 147
  have fr : Fr nob w ((((w.alloc (.cells #[.int .i64 (cw 0), .int .i64 (cw 1), .int .i64 (cw 2), .int .i64 (cw 3), .int .i64 (cw 4), .int .i64 (cw 5), .int .i64 (cw 6), .int .i64 (cw 7), .int .i64 (cw 8), .int .i64 (cw 9), .int .i64 (cw 10), .int .i64 (cw 11), .int .i64 (cw 12), .int .i64 (cw 13), .int .i64 (cw 14), .int .i64 (cw 15), .int .i64 (cw 16), .int .i64 (cw 17), .int .i64 (cw 18), .int .i64 (cw 19), .int .i64 (cw 20), .int .i64 (cw 21), .int .i64 (cw 22), .int .i64 (cw 23)] 145)).alloc (.cells #[.int .i64 e1, .int .u32 (c1 : Int)] 147)).alloc (.cells #[.int .i64 e2, .int .u32 (c2 : Int)] 147)).alloc (.cells #[.int .i64 0, .int .u32 0] 147)) := ((((Fr.refl nob w).alloc _).alloc _).alloc _).alloc _
  have f14 : Fr nob (w.alloc (.cells #[.int .i64 (cw 0), .int .i64 (cw 1), .int .i64 (cw 2), .int .i64 (cw 3), .int .i64 (cw 4), .int .i64 (cw 5), .int .i64 (cw 6), .int .i64 (cw 7), .int .i64 (cw 8), .int .i64 (cw 9), .int .i64 (cw 10), .int .i64 (cw 11), .int .i64 (cw 12), .int .i64 (cw 13), .int .i64 (cw 14), .int .i64 (cw 15), .int .i64 (cw 16), .int .i64 (cw 17), .int .i64 (cw 18), .int .i64 (cw 19), .int .i64 (cw 20), .int .i64 (cw 21), .int .i64 (cw 22), .int .i64 (cw 23)] 145)) ((((w.alloc (.cells #[.int .i64 (cw 0), .int .i64 (cw 1), .int .i64 (cw 2), .int .i64 (cw 3), .int .i64 (cw 4), .int .i64 (cw 5), .int .i64 (cw 6), .int .i64 (cw 7), .int .i64 (cw 8), .int .i64 (cw 9), .int .i64 (cw 10), .int .i64 (cw 11), .int .i64 (cw 12), .int .i64 (cw 13), .int .i64 (cw 14), .int .i64 (cw 15), .int .i64 (cw 16), .int .i64 (cw 17), .int .i64 (cw 18), .int .i64 (cw 19), .int .i64 (cw 20), .int .i64 (cw 21), .int .i64 (cw 22), .int .i64 (cw 23)] 145)).alloc (.cells #[.int .i64 e1, .int .u32 (c1 : Int)] 147)).alloc (.cells #[.int .i64 e2, .int .u32 (c2 : Int)] 147)).alloc (.cells #[.int .i64 0, .int .u32 0] 147)) := (((Fr.refl nob (w.alloc (.cells #[.int .i64 (cw 0), .int .i64 (cw 1), .int .i64 (cw 2), .int .i64 (cw 3), .int .i64 (cw 4), .int .i64 (cw 5), .int .i64 (cw 6), .int .i64 (cw 7), .int .i64 (cw 8), .int .i64 (cw 9), .int .i64 (cw 10), .int .i64 (cw 11), .int .i64 (cw 12), .int .i64 (cw 13), .int .i64 (cw 14), .int .i64 (cw 15), .int .i64 (cw 16), .int .i64 (cw 17), .int .i64 (cw 18), .int .i64 (cw 19), .int .i64 (cw 20), .int .i64 (cw 21), .int .i64 (cw 22), .int .i64 (cw 23)] 145))).alloc _).alloc _).alloc _
  have pw : ((((w.alloc (.cells #[.int .i64 (cw 0), .int .i64 (cw 1), .int .i64 (cw 2), .int .i64 (cw 3), .int .i64 (cw 4), .int .i64 (cw 5), .int .i64 (cw 6), .int .i64 (cw 7), .int .i64 (cw 8), .int .i64 (cw 9), .int .i64 (cw 10), .int .i64 (cw 11), .int .i64 (cw 12), .int .i64 (cw 13), .int .i64 (cw 14), .int .i64 (cw 15), .int .i64 (cw 16), .int .i64 (cw 17), .int .i64 (cw 18), .int .i64 (cw 19), .int .i64 (cw 20), .int .i64 (cw 21), .int .i64 (cw 22), .int .i64 (cw 23)] 145)).alloc (.cells #[.int .i64 e1, .int .u32 (c1 : Int)] 147)).alloc (.cells #[.int .i64 e2, .int .u32 (c2 : Int)] 147)).alloc (.cells #[.int .i64 0, .int .u32 0] 147)).cell? ⟨w.heap.size, i, none⟩ = some (.int .i64 (cw i)) := by
    refine f14.cell' ?_ (fun h => h)
    rw [cell_of_row _ w.heap.size i _ _ (0, 0) box]
    exact cw_at cw hi
  simp only [World.size_alloc] at D1 D2 D3
  clear box f14
  have o1 := andNot_stb c1 i hc1 hi
  have o2 := or_stb c2 i hc2 hi
  have hi0 : (i : Int) < 24 := by omega
  have HI := Lib.hid hi
  generalize hx : cw i = x at *
  have HX := Lib.hid hx
  clear hx
  go_enter Tryd.func103, Tryd.ntmps103
  go_upto_region 1 with fail
  generalize ((((w.alloc (.cells #[.int .i64 (cw 0), .int .i64 (cw 1), .int .i64 (cw 2), .int .i64 (cw 3), .int .i64 (cw 4), .int .i64 (cw 5), .int .i64 (cw 6), .int .i64 (cw 7), .int .i64 (cw 8), .int .i64 (cw 9), .int .i64 (cw 10), .int .i64 (cw 11), .int .i64 (cw 12), .int .i64 (cw 13), .int .i64 (cw 14), .int .i64 (cw 15), .int .i64 (cw 16), .int .i64 (cw 17), .int .i64 (cw 18), .int .i64 (cw 19), .int .i64 (cw 20), .int .i64 (cw 21), .int .i64 (cw 22), .int .i64 (cw 23)] 145)).alloc (.cells #[.int .i64 e1, .int .u32 (c1 : Int)] 147)).alloc (.cells #[.int .i64 e2, .int .u32 (c2 : Int)] 147)).alloc (.cells #[.int .i64 0, .int .u32 0] 147)) = W0 at *
  have a1 := D1.c1
  refine wp_region_grow' 6 55 (fun _ => #[]) [] (by kernel_rfl) (by kernel_rfl) rfl rfl (by intro T h; cases h) ?_
  simp only [List.take_succ_cons, List.take_zero]
  refine grow_step (v := .pointer (some ⟨w.heap.size + 1, 1, none⟩)) rfl rfl ?a0p ?b0p
  case a0p =>
    intro w' hw'
    clear hw'
    refine growAt_value ?_
    go_simp
    try rfl
  simp only [Act.put, List.setIfInBounds_toArray, List.set_cons_zero, List.set_cons_succ]
  refine grow_step (v := .int .u32 (c1 : Int)) rfl rfl ?a1p ?b1p
  case a1p =>
    intro w' hw'
    have y0 := hw'.cell' a1 (fun h => h)
    clear hw'
    refine growAt_value ?_
    go_simp
    try rfl
  simp only [Act.put, List.setIfInBounds_toArray, List.set_cons_zero, List.set_cons_succ]
  refine grow_step (v := ik i) rfl rfl ?a2p ?b2p
  case a2p =>
    intro w' hw'
    clear hw'
    refine growAt_value ?_
    go_simp
    try rfl
  simp only [Act.put, List.setIfInBounds_toArray, List.set_cons_zero, List.set_cons_succ]
  refine grow_step (v := ?v3p) rfl rfl ?a3p ?b3p
  case a3p =>
    intro w' hw'
    clear hw'
    refine growAt_value ?_
    go_simp
    rfl
  simp only [Act.put, List.setIfInBounds_toArray, List.set_cons_zero, List.set_cons_succ]
  refine grow_step (v := .int .u32 ((stb c1 i false : Nat) : Int)) rfl rfl ?a4p ?b4p
  case a4p =>
    intro w' hw'
    clear hw'
    refine growAt_value ?_
    go_simp
    try rfl
  simp only [Act.put, List.setIfInBounds_toArray, List.set_cons_zero, List.set_cons_succ]
  refine grow_step (v := .pointer (some ⟨w.heap.size + 1, 1, none⟩)) rfl rfl ?a5p ?b5p
  case a5p =>
    intro w' hw'
    clear hw'
    refine growAt_value ?_
    go_simp
    try rfl
  simp only [Act.put, List.setIfInBounds_toArray, List.set_cons_zero, List.set_cons_succ]
  clear a1 o1
  refine grow_nil ?_
  intro w5 listed p5 _ _
  have frB := fr.trans p5 (fun _ _ h => h)
  have E1 := D1.kept p5 (fun h => h)
  have E2 := D2.kept p5 (fun h => h)
  have E3 := D3.kept p5 (fun h => h)
  have pw5 := p5.cell' pw (fun h => h)
  have s0 := E1.c0
  have s1 := E1.c1
  have sf := E1.fz 1
  obtain ⟨P1, F1⟩ := E1.putO1 (.int .u32 ((stb c1 i false : Nat) : Int))
  have G1 := Lib.hid P1
  have G2 := Lib.hid (E2.kept F1 (by omega))
  have G3 := Lib.hid (E3.kept F1 (by omega))
  have GP := Lib.hid (F1.cell' pw5 (by omega))
  have GF := Lib.hid (frB.trans F1 (fun j hj e => by exfalso; omega))
  clear fr p5 pw5 pw D1 D2 D3 E1 E2 E3 P1 F1 frB
  go_upto_region 2 with fail
  clear s0 s1 sf
  generalize w5.setCell ⟨w.heap.size + 1, 1, none⟩ (.int .u32 ((stb c1 i false : Nat) : Int)) = WN at *
  have D1 := G1.out
  have D2 := G2.out
  have D3 := G3.out
  have pw := GP.out
  have fr := GF.out
  clear G1 G2 G3 GP GF
  have a1 := D2.c1
  refine wp_region_grow' 6 55 (fun _ => #[]) [] (by kernel_rfl) (by kernel_rfl) rfl rfl (by intro T h; cases h) ?_
  simp only [List.take_succ_cons, List.take_zero]
  refine grow_step (v := .pointer (some ⟨w.heap.size + 1 + 1, 1, none⟩)) rfl rfl ?a0q ?b0q
  case a0q =>
    intro w' hw'
    clear hw'
    refine growAt_value ?_
    go_simp
    try rfl
  simp only [Act.put, List.setIfInBounds_toArray, List.set_cons_zero, List.set_cons_succ]
  refine grow_step (v := .int .u32 (c2 : Int)) rfl rfl ?a1q ?b1q
  case a1q =>
    intro w' hw'
    have y0 := hw'.cell' a1 (fun h => h)
    clear hw'
    refine growAt_value ?_
    go_simp
    try rfl
  simp only [Act.put, List.setIfInBounds_toArray, List.set_cons_zero, List.set_cons_succ]
  refine grow_step (v := ik i) rfl rfl ?a2q ?b2q
  case a2q =>
    intro w' hw'
    clear hw'
    refine growAt_value ?_
    go_simp
    try rfl
  simp only [Act.put, List.setIfInBounds_toArray, List.set_cons_zero, List.set_cons_succ]
  refine grow_step (v := ?v3q) rfl rfl ?a3q ?b3q
  case a3q =>
    intro w' hw'
    clear hw'
    refine growAt_value ?_
    go_simp
    rfl
  simp only [Act.put, List.setIfInBounds_toArray, List.set_cons_zero, List.set_cons_succ]
  refine grow_step (v := .int .u32 ((stb c2 i true : Nat) : Int)) rfl rfl ?a4q ?b4q
  case a4q =>
    intro w' hw'
    clear hw'
    refine growAt_value ?_
    go_simp
    try rfl
  simp only [Act.put, List.setIfInBounds_toArray, List.set_cons_zero, List.set_cons_succ]
  refine grow_step (v := .pointer (some ⟨w.heap.size + 1 + 1, 1, none⟩)) rfl rfl ?a5q ?b5q
  case a5q =>
    intro w' hw'
    clear hw'
    refine growAt_value ?_
    go_simp
    try rfl
  simp only [Act.put, List.setIfInBounds_toArray, List.set_cons_zero, List.set_cons_succ]
  clear a1 o2
  refine grow_nil ?_
  intro w5 listed p5 _ _
  have frB := fr.trans p5 (fun _ _ h => h)
  have E1 := D1.kept p5 (fun h => h)
  have E2 := D2.kept p5 (fun h => h)
  have E3 := D3.kept p5 (fun h => h)
  have pw5 := p5.cell' pw (fun h => h)
  have s0 := E2.c0
  have s1 := E2.c1
  have sf := E2.fz 1
  obtain ⟨P1, F1⟩ := E2.putO1 (.int .u32 ((stb c2 i true : Nat) : Int))
  have G2 := Lib.hid P1
  have G1 := Lib.hid (E1.kept F1 (by omega))
  have G3 := Lib.hid (E3.kept F1 (by omega))
  have GP := Lib.hid (F1.cell' pw5 (by omega))
  have GF := Lib.hid (frB.trans F1 (fun j hj e => by exfalso; omega))
  clear fr p5 pw5 pw D1 D2 D3 E1 E2 E3 P1 F1 frB
  go_upto_region 3 with fail
  clear s0 s1 sf
  generalize w5.setCell ⟨w.heap.size + 1 + 1, 1, none⟩ (.int .u32 ((stb c2 i true : Nat) : Int)) = WN at *
  have D1 := G1.out
  have D2 := G2.out
  have D3 := G3.out
  have pw := GP.out
  have fr := GF.out
  clear G1 G2 G3 GP GF
  have l1 := stb_lt hc1 HI.out false
  have l2 := stb_lt hc2 HI.out true
  generalize hs1 : stb c1 i false = k1 at *
  generalize hs2 : stb c2 i true = k2 at *
  have HS1 := Lib.hid hs1
  have HS2 := Lib.hid hs2
  clear hs1 hs2
  have a0 := D1.c0
  refine wp_region_grow' 10 55 (fun _ => #[]) [] (by kernel_rfl) (by kernel_rfl) rfl rfl (by intro T h; cases h) ?_
  simp only [List.take_succ_cons, List.take_zero]
  refine grow_step (v := .pointer (some ⟨w.heap.size + 1, 0, none⟩)) rfl rfl ?a0r ?b0r
  case a0r =>
    intro w' hw'
    clear hw'
    refine growAt_value ?_
    go_simp
    try rfl
  simp only [Act.put, List.setIfInBounds_toArray, List.set_cons_zero, List.set_cons_succ]
  refine grow_step (v := .int .i64 e1) rfl rfl ?a1r ?b1r
  case a1r =>
    intro w' hw'
    have y0 := hw'.cell' a0 (fun h => h)
    clear hw'
    refine growAt_value ?_
    go_simp
    try rfl
  simp only [Act.put, List.setIfInBounds_toArray, List.set_cons_zero, List.set_cons_succ]
  refine grow_step (v := ik i) rfl rfl ?a2r ?b2r
  case a2r =>
    intro w' hw'
    clear hw'
    refine growAt_value ?_
    go_simp
    try rfl
  simp only [Act.put, List.setIfInBounds_toArray, List.set_cons_zero, List.set_cons_succ]
  refine grow_step (v := .pointer (some ⟨w.heap.size, 0, none⟩)) rfl rfl ?a3r ?b3r
  case a3r =>
    intro w' hw'
    clear hw'
    refine growAt_value ?_
    go_simp
    try rfl
  simp only [Act.put, List.setIfInBounds_toArray, List.set_cons_zero, List.set_cons_succ]
  refine grow_step (v := .pointer (some ⟨w.heap.size, i, none⟩)) rfl rfl ?a4r ?b4r
  case a4r =>
    intro w' hw'
    clear hw'
    refine growAt_value ?_
    go_simp
    try rfl
  simp only [Act.put, List.setIfInBounds_toArray, List.set_cons_zero, List.set_cons_succ]
  refine grow_step (v := .int .i64 x) rfl rfl ?a5r ?b5r
  case a5r =>
    intro w' hw'
    have y0 := hw'.cell' pw (fun h => h)
    clear hw'
    refine growAt_value ?_
    go_simp
    try rfl
  simp only [Act.put, List.setIfInBounds_toArray, List.set_cons_zero, List.set_cons_succ]
  refine grow_step (v := .int .i64 (- x)) rfl rfl ?a6r ?b6r
  case a6r =>
    intro w' hw'
    clear hw'
    refine growAt_value ?_
    go_simp
    first | rfl | (rw [IntKind.wrap_i64]; omega)
  simp only [Act.put, List.setIfInBounds_toArray, List.set_cons_zero, List.set_cons_succ]
  refine grow_step (v := .int .i64 (max (- x) 0)) rfl rfl ?a7r ?b7r
  case a7r =>
    intro w' hw'
    clear hw'
    refine growAt_value ?_
    go_simp
    try rfl
  simp only [Act.put, List.setIfInBounds_toArray, List.set_cons_zero, List.set_cons_succ]
  refine grow_step (v := .int .i64 (e1 + max (- x) 0)) rfl rfl ?a8r ?b8r
  case a8r =>
    intro w' hw'
    clear hw'
    refine growAt_value ?_
    go_simp
    first | rfl | (rw [IntKind.wrap_i64]; omega)
  simp only [Act.put, List.setIfInBounds_toArray, List.set_cons_zero, List.set_cons_succ]
  refine grow_step (v := .pointer (some ⟨w.heap.size + 1, 0, none⟩)) rfl rfl ?a9r ?b9r
  case a9r =>
    intro w' hw'
    clear hw'
    refine growAt_value ?_
    go_simp
    try rfl
  simp only [Act.put, List.setIfInBounds_toArray, List.set_cons_zero, List.set_cons_succ]
  clear a0
  refine grow_nil ?_
  intro w5 listed p5 _ _
  have frB := fr.trans p5 (fun _ _ h => h)
  have E1 := D1.kept p5 (fun h => h)
  have E2 := D2.kept p5 (fun h => h)
  have E3 := D3.kept p5 (fun h => h)
  have pw5 := p5.cell' pw (fun h => h)
  have s0 := E1.c0
  have s1 := E1.c1
  have sf := E1.fz 0
  obtain ⟨P1, F1⟩ := E1.putO0 (.int .i64 (e1 + max (- x) 0))
  have G1 := Lib.hid P1
  have G2 := Lib.hid (E2.kept F1 (by omega))
  have G3 := Lib.hid (E3.kept F1 (by omega))
  have GP := Lib.hid (F1.cell' pw5 (by omega))
  have GF := Lib.hid (frB.trans F1 (fun j hj e => by exfalso; omega))
  clear fr p5 pw5 pw D1 D2 D3 E1 E2 E3 P1 F1 frB
  go_upto_region 4 with fail
  clear s0 s1 sf
  generalize w5.setCell ⟨w.heap.size + 1, 0, none⟩ (.int .i64 (e1 + max (- x) 0)) = WN at *
  have D1 := G1.out
  have D2 := G2.out
  have D3 := G3.out
  have pw := GP.out
  have fr := GF.out
  clear G1 G2 G3 GP GF
  have a0 := D2.c0
  refine wp_region_grow' 9 55 (fun _ => #[]) [] (by kernel_rfl) (by kernel_rfl) rfl rfl (by intro T h; cases h) ?_
  simp only [List.take_succ_cons, List.take_zero]
  refine grow_step (v := .pointer (some ⟨w.heap.size + 1 + 1, 0, none⟩)) rfl rfl ?a0s ?b0s
  case a0s =>
    intro w' hw'
    clear hw'
    refine growAt_value ?_
    go_simp
    try rfl
  simp only [Act.put, List.setIfInBounds_toArray, List.set_cons_zero, List.set_cons_succ]
  refine grow_step (v := .int .i64 e2) rfl rfl ?a1s ?b1s
  case a1s =>
    intro w' hw'
    have y0 := hw'.cell' a0 (fun h => h)
    clear hw'
    refine growAt_value ?_
    go_simp
    try rfl
  simp only [Act.put, List.setIfInBounds_toArray, List.set_cons_zero, List.set_cons_succ]
  refine grow_step (v := ik i) rfl rfl ?a2s ?b2s
  case a2s =>
    intro w' hw'
    clear hw'
    refine growAt_value ?_
    go_simp
    try rfl
  simp only [Act.put, List.setIfInBounds_toArray, List.set_cons_zero, List.set_cons_succ]
  refine grow_step (v := .pointer (some ⟨w.heap.size, 0, none⟩)) rfl rfl ?a3s ?b3s
  case a3s =>
    intro w' hw'
    clear hw'
    refine growAt_value ?_
    go_simp
    try rfl
  simp only [Act.put, List.setIfInBounds_toArray, List.set_cons_zero, List.set_cons_succ]
  refine grow_step (v := .pointer (some ⟨w.heap.size, i, none⟩)) rfl rfl ?a4s ?b4s
  case a4s =>
    intro w' hw'
    clear hw'
    refine growAt_value ?_
    go_simp
    try rfl
  simp only [Act.put, List.setIfInBounds_toArray, List.set_cons_zero, List.set_cons_succ]
  refine grow_step (v := .int .i64 x) rfl rfl ?a5s ?b5s
  case a5s =>
    intro w' hw'
    have y0 := hw'.cell' pw (fun h => h)
    clear hw'
    refine growAt_value ?_
    go_simp
    try rfl
  simp only [Act.put, List.setIfInBounds_toArray, List.set_cons_zero, List.set_cons_succ]
  refine grow_step (v := .int .i64 (max x 0)) rfl rfl ?a6s ?b6s
  case a6s =>
    intro w' hw'
    clear hw'
    refine growAt_value ?_
    go_simp
    try rfl
  simp only [Act.put, List.setIfInBounds_toArray, List.set_cons_zero, List.set_cons_succ]
  refine grow_step (v := .int .i64 (e2 + max x 0)) rfl rfl ?a7s ?b7s
  case a7s =>
    intro w' hw'
    clear hw'
    refine growAt_value ?_
    go_simp
    first | rfl | (rw [IntKind.wrap_i64]; omega)
  simp only [Act.put, List.setIfInBounds_toArray, List.set_cons_zero, List.set_cons_succ]
  refine grow_step (v := .pointer (some ⟨w.heap.size + 1 + 1, 0, none⟩)) rfl rfl ?a8s ?b8s
  case a8s =>
    intro w' hw'
    clear hw'
    refine growAt_value ?_
    go_simp
    try rfl
  simp only [Act.put, List.setIfInBounds_toArray, List.set_cons_zero, List.set_cons_succ]
  clear a0
  refine grow_nil ?_
  intro w5 listed p5 _ _
  have frB := fr.trans p5 (fun _ _ h => h)
  have E1 := D1.kept p5 (fun h => h)
  have E2 := D2.kept p5 (fun h => h)
  have E3 := D3.kept p5 (fun h => h)
  have pw5 := p5.cell' pw (fun h => h)
  have s0 := E2.c0
  have s1 := E2.c1
  have sf := E2.fz 0
  obtain ⟨P1, F1⟩ := E2.putO0 (.int .i64 (e2 + max x 0))
  have G2 := Lib.hid P1
  have G1 := Lib.hid (E1.kept F1 (by omega))
  have G3 := Lib.hid (E3.kept F1 (by omega))
  have GP := Lib.hid (F1.cell' pw5 (by omega))
  have GF := Lib.hid (frB.trans F1 (fun j hj e => by exfalso; omega))
  clear fr p5 pw5 pw D1 D2 D3 E1 E2 E3 P1 F1 frB
  go_upto_region 5 with fail
  clear s0 s1 sf
  generalize w5.setCell ⟨w.heap.size + 1 + 1, 0, none⟩ (.int .i64 (e2 + max x 0)) = WN at *
  have D1 := G1.out
  have D2 := G2.out
  have D3 := G3.out
  have pw := GP.out
  have fr := GF.out
  clear G1 G2 G3 GP GF
  generalize hy1 : e1 + max (- x) 0 = y1 at *
  generalize hy2 : e2 + max x 0 = y2 at *
  have HY1 := Lib.hid hy1
  have HY2 := Lib.hid hy2
  clear hy1 hy2
  have a0 := D1.c0
  have a1 := D1.c1
  have b0 := D2.c0
  have b1 := D2.c1
  have HP := Lib.hid (or2_lt y1 y2 (k1 : Int) (k2 : Int))
  refine G.wp_region 12 55 (fun k => k == 10) (fun _ v w => ∃ g, v = .slice (some ⟨g, 0, none⟩) 2 2 ∧ w.cell? ⟨g, 0, none⟩ = some (.int .i64 (cmpZ y1 y2)) ∧ w.cell? ⟨g, 1, none⟩ = some (.int .i64 (cmpZ (k1 : Int) (k2 : Int)))) (fun k => List.getD [Value.pointer (some ⟨w.heap.size + 1, 0, none⟩), Value.int .i64 y1, Value.pointer (some ⟨w.heap.size + 1 + 1, 0, none⟩), Value.int .i64 y2, Value.int .i64 (cmpZ y1 y2), Value.pointer (some ⟨w.heap.size + 1, 1, none⟩), Value.int .u32 (k1 : Int), Value.pointer (some ⟨w.heap.size + 1 + 1, 1, none⟩), Value.int .u32 (k2 : Int), Value.int .i64 (cmpZ (k1 : Int) (k2 : Int)), undef, Value.int .i64 (or2 (cmpZ y1 y2) (cmpZ (k1 : Int) (k2 : Int)))] k undef) (by kernel_rfl) (by kernel_rfl) rfl (fun _ _ _ _ ⟨g, e, h1, h2⟩ f => ⟨g, e, f.cell' h1 (fun h => h), f.cell' h2 (fun h => h)⟩) (fun k _ => ⟨_, _, (Fr.refl nob WN).alloc (.cells #[.int .i64 (cmpZ y1 y2), .int .i64 (cmpZ (k1 : Int) (k2 : Int))] 3), ⟨_, rfl, (two_cells' WN _ _ _).1, (two_cells' WN _ _ _).2⟩, fun g hg => by cases hg; exact Nat.le_refl _⟩) ?_
  simp only [List.take_succ_cons, List.take_zero]
  refine G.step (Value.pointer (some ⟨w.heap.size + 1, 0, none⟩)) rfl rfl rfl ?a0t ?b0t
  case a0t =>
    intro w' hw' hh
    clear hw' hh
    refine G.upon_value ?_
    go_simp
    try rfl
  simp only [Act.put, List.setIfInBounds_toArray, List.set_cons_zero, List.set_cons_succ]
  refine G.step (Value.int .i64 y1) rfl rfl rfl ?a1t ?b1t
  case a1t =>
    intro w' hw' hh
    have y0 := hw'.cell' a0 (fun h => h)
    clear hw' hh
    refine G.upon_value ?_
    go_simp
    try rfl
  simp only [Act.put, List.setIfInBounds_toArray, List.set_cons_zero, List.set_cons_succ]
  refine G.step (Value.pointer (some ⟨w.heap.size + 1 + 1, 0, none⟩)) rfl rfl rfl ?a2t ?b2t
  case a2t =>
    intro w' hw' hh
    clear hw' hh
    refine G.upon_value ?_
    go_simp
    try rfl
  simp only [Act.put, List.setIfInBounds_toArray, List.set_cons_zero, List.set_cons_succ]
  refine G.step (Value.int .i64 y2) rfl rfl rfl ?a3t ?b3t
  case a3t =>
    intro w' hw' hh
    have y0 := hw'.cell' b0 (fun h => h)
    clear hw' hh
    refine G.upon_value ?_
    go_simp
    try rfl
  simp only [Act.put, List.setIfInBounds_toArray, List.set_cons_zero, List.set_cons_succ]
  refine G.step (Value.int .i64 (cmpZ y1 y2)) rfl rfl rfl ?a4t ?b4t
  case a4t =>
    intro w' hw' hh
    refine G.upon_call ?_ ((compareL_any y1 y2 w').mono fun e w'' ⟨he, hb⟩ => ⟨he, by subst hb; exact Fr.refl nob _⟩)
    clear hw' hh
    go_simp
  simp only [Act.put, List.setIfInBounds_toArray, List.set_cons_zero, List.set_cons_succ]
  refine G.step (Value.pointer (some ⟨w.heap.size + 1, 1, none⟩)) rfl rfl rfl ?a5t ?b5t
  case a5t =>
    intro w' hw' hh
    clear hw' hh
    refine G.upon_value ?_
    go_simp
    try rfl
  simp only [Act.put, List.setIfInBounds_toArray, List.set_cons_zero, List.set_cons_succ]
  refine G.step (Value.int .u32 (k1 : Int)) rfl rfl rfl ?a6t ?b6t
  case a6t =>
    intro w' hw' hh
    have y0 := hw'.cell' a1 (fun h => h)
    clear hw' hh
    refine G.upon_value ?_
    go_simp
    try rfl
  simp only [Act.put, List.setIfInBounds_toArray, List.set_cons_zero, List.set_cons_succ]
  refine G.step (Value.pointer (some ⟨w.heap.size + 1 + 1, 1, none⟩)) rfl rfl rfl ?a7t ?b7t
  case a7t =>
    intro w' hw' hh
    clear hw' hh
    refine G.upon_value ?_
    go_simp
    try rfl
  simp only [Act.put, List.setIfInBounds_toArray, List.set_cons_zero, List.set_cons_succ]
  refine G.step (Value.int .u32 (k2 : Int)) rfl rfl rfl ?a8t ?b8t
  case a8t =>
    intro w' hw' hh
    have y0 := hw'.cell' b1 (fun h => h)
    clear hw' hh
    refine G.upon_value ?_
    go_simp
    try rfl
  simp only [Act.put, List.setIfInBounds_toArray, List.set_cons_zero, List.set_cons_succ]
  refine G.step (Value.int .i64 (cmpZ (k1 : Int) (k2 : Int))) rfl rfl rfl ?a9t ?b9t
  case a9t =>
    intro w' hw' hh
    refine G.upon_call ?_ ((compareV_any (k1 : Int) (k2 : Int) w').mono fun e w'' ⟨he, hb⟩ => ⟨he, by subst hb; exact Fr.refl nob _⟩)
    clear hw' hh
    go_simp
  simp only [Act.put, List.setIfInBounds_toArray, List.set_cons_zero, List.set_cons_succ]
  refine G.new rfl rfl ?a10t ?b10t
  case a10t =>
    intro w' hw' hh
    clear hw' hh
    refine G.new_alloc (v := .slice (some ⟨w'.heap.size, 0, none⟩) 2 2) (b := .cells #[.int .i64 (cmpZ y1 y2), .int .i64 (cmpZ (k1 : Int) (k2 : Int))] 3) ?_ rfl ⟨_, rfl, (two_cells' w' _ _ _).1, (two_cells' w' _ _ _).2⟩
    go_simp
    try rfl
  rintro v10 ⟨wv, -, ⟨g10, rfl, -⟩, -⟩
  simp only [Act.put, List.setIfInBounds_toArray, List.set_cons_zero, List.set_cons_succ]
  refine G.step (Value.int .i64 (or2 (cmpZ y1 y2) (cmpZ (k1 : Int) (k2 : Int)))) rfl rfl rfl ?a11t ?b11t
  case a11t =>
    intro w' hw' hh
    have eb := hh 10 _ 50 _ (by decide) rfl (by kernel_rfl) rfl rfl (by decide) rfl
    obtain ⟨g, eb', h1, h2⟩ := eb
    obtain rfl : g10 = g := by simpa using eb'
    refine G.upon_call ?_ ((or2_any g10 2 _ _ w' h1 h2).mono fun e w'' ⟨he, hb⟩ => ⟨he, by subst hb; exact Fr.refl nob _⟩)
    clear hw' hh
    go_simp
  simp only [Act.put, List.setIfInBounds_toArray, List.set_cons_zero, List.set_cons_succ]
  refine G.nil ?_
  rintro w9 listed fr9 hall hmade
  clear hall hmade
  have E1 := D1.kept fr9 (fun h => h)
  have E2 := D2.kept fr9 (fun h => h)
  have E3 := D3.kept fr9 (fun h => h)
  have HF0 := Lib.hid (fr.trans fr9 (fun _ _ h => h))
  clear D1 D2 D3 fr fr9 pw a0 a1 b0 b1
  have a0 := E1.c0
  have a1 := E1.c1
  have b0 := E2.c0
  have b1 := E2.c1
  have r0 := E3.c0
  have r1 := E3.c1
  have rf0 := E3.fz 0
  have rf1 := E3.fz 1
  generalize hor : or2 (cmpZ y1 y2) (cmpZ (k1 : Int) (k2 : Int)) = o at *
  by_cases hif : y1 < y2 ∨ (y1 = y2 ∧ k1 < k2)
  · have hlt : o < 0 := HP.out.2 (hif.imp id (fun h => ⟨h.1, Int.ofNat_lt.2 h.2⟩))
    obtain ⟨⟨z0, z1, _⟩, hfr⟩ := E3.set (.int .i64 y1) (.int .u32 (k1 : Int))
    have HF := Lib.hid (HF0.out.trans hfr (fun j hj e => by exfalso; omega))
    have HIF := Lib.hid hif
    clear hif hor hfr E1 E2 E3 HP
    have Z0 := Lib.hid z0
    have Z1 := Lib.hid z1
    clear z0 z1
    go_wp2_with fail
    have z0 := Z0.out
    have z1 := Z1.out
    refine bodyPost_ret (v := .agg #[.int .i64 y1, .int .u32 (k1 : Int)]) (by simp [results, Tryd.results103, go_sem, z0, z1]) rfl ⟨?_, HF.out.to_below (Nat.le_refl _) (fun _ h => h.elim)⟩
    rw [HS1.out, HS2.out]
    unfold bet
    rw [HY1.out, HY2.out, if_pos HIF.out]
  · have hlt : ¬ o < 0 := fun h => hif ((HP.out.1 h).imp id (fun h => ⟨h.1, Int.ofNat_lt.1 h.2⟩))
    obtain ⟨⟨z0, z1, _⟩, hfr⟩ := E3.set (.int .i64 y2) (.int .u32 (k2 : Int))
    have HF := Lib.hid (HF0.out.trans hfr (fun j hj e => by exfalso; omega))
    have HIF := Lib.hid hif
    clear hif hor hfr E1 E2 E3 HP
    have Z0 := Lib.hid z0
    have Z1 := Lib.hid z1
    clear z0 z1
    go_wp2_with fail
    have z0 := Z0.out
    have z1 := Z1.out
    refine bodyPost_ret (v := .agg #[.int .i64 y2, .int .u32 (k2 : Int)]) (by simp [results, Tryd.results103, go_sem, z0, z1]) rfl ⟨?_, HF.out.to_below (Nat.le_refl _) (fun _ h => h.elim)⟩
    rw [HS1.out, HS2.out]
    unfold bet
    rw [HY1.out, HY2.out, if_neg HIF.out]
end Go.Proofs.YtiainlccodnlmaaDoor
