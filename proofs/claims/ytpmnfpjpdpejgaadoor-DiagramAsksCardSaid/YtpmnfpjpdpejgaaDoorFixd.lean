import Derived.Test.YtpmnfpjpdpejgaaDoorFoldX
namespace Go.Proofs.YtpmnfpjpdpejgaaDoor
open Go.RowKit
open Bd

/-! Fixed of the program: what all configurations have, and what none has -/
def fxV : B → Nat × Nat
  | .F => (16777215, 16777215)
  | .T => (0, 0)
  | .N i lo hi => ((fxV lo).1 &&& ((fxV hi).1 ||| 2 ^ i), ((fxV lo).2 ||| 2 ^ i) &&& (fxV hi).2)
def fxI (b : B) : Int × Int := (((fxV b).1 : Nat), ((fxV b).2 : Nat))
theorem fx_lt : ∀ {b : B} {n : Nat}, b.ok n → (fxV b).1 < 2 ^ 24 ∧ (fxV b).2 < 2 ^ 24
  | .F, _, _ => ⟨by decide, by decide⟩
  | .T, _, _ => ⟨by decide, by decide⟩
  | .N i lo hi, _, h => by
    obtain ⟨_, _, _, h4, h5⟩ := h
    exact ⟨Nat.lt_of_le_of_lt Nat.and_le_left (fx_lt h4).1, Nat.lt_of_le_of_lt Nat.and_le_right (fx_lt h5).2⟩
theorem fx_bit : ∀ {b : B} {n : Nat} (_ : b.ok n) (j : Nat) (_ : j < 24), ((fxV b).1.testBit j = true ↔ ∀ c, b.ev c = true → c j = true) ∧ ((fxV b).2.testBit j = true ↔ ∀ c, b.ev c = true → c j = false)
  | .F, _, _, j, hj => by
    have : (16777215 : Nat).testBit j = true := by rw [show 16777215 = 2 ^ 24 - 1 by decide, Nat.testBit_two_pow_sub_one]; simpa using hj
    simp [fxV, B.ev, this]
  | .T, _, _, j, _ => by
    refine ⟨⟨fun h => ?_, fun h => absurd (h (fun _ => false) rfl) (by simp)⟩, ⟨fun h => ?_, fun h => absurd (h (fun _ => true) rfl) (by simp)⟩⟩
    · simp [fxV] at h
    · simp [fxV] at h
  | .N i lo hi, _, h, j, hj => by
    obtain ⟨_, h2, _, h4, h5⟩ := h
    have il := fx_bit h4 j hj
    have ih := fx_bit h5 j hj
    have el : ∀ (c : Cfg) (v : Bool), lo.ev (up c i v) = lo.ev c := fun c v => up_free h4 c v
    have eh : ∀ (c : Cfg) (v : Bool), hi.ev (up c i v) = hi.ev c := fun c v => up_free h5 c v
    have n0 : ∀ c : Cfg, (B.N i lo hi).ev (up c i false) = lo.ev c := fun c => by simp only [B.ev]; rw [if_neg (by simp [up]), el]
    have n1 : ∀ c : Cfg, (B.N i lo hi).ev (up c i true) = hi.ev c := fun c => by simp only [B.ev]; rw [if_pos (by simp [up]), eh]
    have back : ∀ c : Cfg, (B.N i lo hi).ev c = if c i then hi.ev c else lo.ev c := fun c => rfl
    simp only [fxV, Nat.testBit_and, Nat.testBit_or, Nat.testBit_two_pow, Bool.and_eq_true, Bool.or_eq_true, decide_eq_true_eq]
    rw [il.1, ih.1, il.2, ih.2]
    constructor
    · constructor
      · rintro ⟨a, b⟩ c hc
        rw [back] at hc
        by_cases hci : c i = true
        · rw [if_pos hci] at hc
          rcases b with b | rfl
          · exact b c hc
          · exact hci
        · rw [if_neg hci] at hc
          exact a c hc
      · intro H
        by_cases e : i = j
        · subst e
          refine ⟨fun c hc => ?_, .inr rfl⟩
          have := H (up c i false) (by rw [n0]; exact hc)
          simp [up] at this
        · have hne : ∀ (c : Cfg) v, up c i v j = c j := fun c v => by simp [up]; intro h; exact absurd h.symm e
          exact ⟨fun c hc => by have := H _ ((n0 c).trans hc); rwa [hne] at this, .inl fun c hc => by have := H _ ((n1 c).trans hc); rwa [hne] at this⟩
    · constructor
      · rintro ⟨a, b⟩ c hc
        rw [back] at hc
        by_cases hci : c i = true
        · rw [if_pos hci] at hc
          exact b c hc
        · rw [if_neg hci] at hc
          rcases a with a | rfl
          · exact a c hc
          · simpa using hci
      · intro H
        by_cases e : i = j
        · subst e
          refine ⟨.inr rfl, fun c hc => ?_⟩
          have := H (up c i true) (by rw [n1]; exact hc)
          simp [up] at this
        · have hne : ∀ (c : Cfg) v, up c i v j = c j := fun c v => by simp [up]; intro h; exact absurd h.symm e
          exact ⟨.inl fun c hc => by have := H _ ((n0 c).trans hc); rwa [hne] at this, fun c hc => by have := H _ ((n1 c).trans hc); rwa [hne] at this⟩

theorem Box2.put0 {w : World} {g : Nat} {a b : Value} (h : Box2 w g a b) (x : Value) : Box2 (w.setCell ⟨g, 0, none⟩ x) g x b ∧ Fr (fun k => k = g) w (w.setCell ⟨g, 0, none⟩ x) := by
  refine ⟨⟨World.cell?_setCell_same' _ _ _ (by rw [h.c0]; rfl), ?_, fun o => by rw [World.frozen?_setCell]; exact h.fz o⟩, fr_store w g 0 x⟩
  rw [World.cell?_setCell_other _ _ _ _ (by simp)]; exact h.c1
theorem Box2.put1 {w : World} {g : Nat} {a b : Value} (h : Box2 w g a b) (x : Value) : Box2 (w.setCell ⟨g, 1, none⟩ x) g a x ∧ Fr (fun k => k = g) w (w.setCell ⟨g, 1, none⟩ x) := by
  refine ⟨⟨?_, World.cell?_setCell_same' _ _ _ (by rw [h.c1]; rfl), fun o => by rw [World.frozen?_setCell]; exact h.fz o⟩, fr_store w g 1 x⟩
  rw [World.cell?_setCell_other _ _ _ _ (by simp)]; exact h.c0
theorem or_u32w (s i : Nat) (hs : s < 2 ^ 24) (hi : i < 24) : bits BinOp.or IntKind.u32 (s : Int) (IntKind.u32.wrap (2 ^ i)) = ((s ||| 2 ^ i : Nat) : Int) := by
  have := or_u32 s i hs hi
  rw [Nat.one_shiftLeft] at this
  rw [IntKind.wrap_u32]; exact this
theorem and_24 (a b : Nat) (ha : a < 2 ^ 24) (hb : b < 2 ^ 24) : bits BinOp.and IntKind.u32 (a : Int) (b : Int) = ((a &&& b : Nat) : Int) := (bits_nat .u32 32 (by decide) wraps_u32 a b (by omega) (by omega)).1

set_option maxRecDepth 100000 in
set_option maxHeartbeats 1000000 in
theorem joinFixed_any (i : Nat) (hi : i < 24) (a b c d : Nat) (ha : a < 2 ^ 24) (hb : b < 2 ^ 24) (hc : c < 2 ^ 24) (hd : d < 2 ^ 24) (w : World) :
    Calls Tryd.prog 62 #[.int .i64 (i : Int), .agg #[.int .u32 (a : Int), .int .u32 (b : Int)], .agg #[.int .u32 (c : Int), .int .u32 (d : Int)]] w fun e w' => e = .returned (.agg #[.int .u32 ((a &&& (c ||| 2 ^ i) : Nat) : Int), .int .u32 (((b ||| 2 ^ i) &&& d : Nat) : Int)]) ∧ Below w.heap.size w w' := by
  have D1 := ((Box2.new w (.int .u32 (a : Int)) (.int .u32 (b : Int)) 105).kept ((Fr.refl nob _).alloc (.cells #[.int .u32 (c : Int), .int .u32 (d : Int)] 105)) (fun h => h)).kept ((Fr.refl nob _).alloc (.cells #[.int .u32 0, .int .u32 0] 105)) (fun h => h)
  have D2 := (Box2.new (w.alloc (.cells #[.int .u32 (a : Int), .int .u32 (b : Int)] 105)) (.int .u32 (c : Int)) (.int .u32 (d : Int)) 105).kept ((Fr.refl nob _).alloc (.cells #[.int .u32 0, .int .u32 0] 105)) (fun h => h)
  have D3 := Box2.new ((w.alloc (.cells #[.int .u32 (a : Int), .int .u32 (b : Int)] 105)).alloc (.cells #[.int .u32 (c : Int), .int .u32 (d : Int)] 105)) (.int .u32 0) (.int .u32 0) 105
  have fr : Fr nob w (((w.alloc (.cells #[.int .u32 (a : Int), .int .u32 (b : Int)] 105)).alloc (.cells #[.int .u32 (c : Int), .int .u32 (d : Int)] 105)).alloc (.cells #[.int .u32 0, .int .u32 0] 105)) := (((Fr.refl nob w).alloc _).alloc _).alloc _
  simp only [World.size_alloc] at D1 D2 D3
  have o1 := or_u32w b i hb hi
  have o2 := or_u32w c i hc hi
  have l1 : b ||| 2 ^ i < 2 ^ 24 := Nat.or_lt_two_pow hb (Nat.pow_lt_pow_right (by omega) hi)
  have l2 : c ||| 2 ^ i < 2 ^ 24 := Nat.or_lt_two_pow hc (Nat.pow_lt_pow_right (by omega) hi)
  have n1 := and_24 a (c ||| 2 ^ i) ha l2
  have n2 := and_24 (b ||| 2 ^ i) d l1 hd
  have hi0 : (i : Int) < 24 := by omega
  have a0 := D1.c0
  have a1 := D1.c1
  have af1 := D1.fz 1
  have b0 := D2.c0
  have b1 := D2.c1
  have bf0 := D2.fz 0
  go_enter Tryd.func62, Tryd.ntmps62
  go_upto_region 1 with fail
  generalize (((w.alloc (.cells #[.int .u32 (a : Int), .int .u32 (b : Int)] 105)).alloc (.cells #[.int .u32 (c : Int), .int .u32 (d : Int)] 105)).alloc (.cells #[.int .u32 0, .int .u32 0] 105)) = W0 at *
  refine wp_region_grow' 6 30 (fun _ => #[]) [] (by kernel_rfl) (by kernel_rfl) rfl rfl (by intro T h; cases h) ?_
  simp only [List.take_succ_cons, List.take_zero]
  refine grow_step (v := .pointer (some ⟨w.heap.size, 1, none⟩)) rfl rfl ?a0p ?b0p
  case a0p =>
    intro w' hw'
    clear hw'
    refine growAt_value ?_
    go_simp
    try rfl
  simp only [Act.put, List.setIfInBounds_toArray, List.set_cons_zero, List.set_cons_succ]
  refine grow_step (v := .int .u32 (b : Int)) rfl rfl ?a1p ?b1p
  case a1p =>
    intro w' hw'
    have y0 := hw'.cell' a1 (fun h => h)
    clear hw'
    refine growAt_value ?_
    go_simp
    try rfl
  simp only [Act.put, List.setIfInBounds_toArray, List.set_cons_zero, List.set_cons_succ]
  refine grow_step (v := .int .i64 (i : Int)) rfl rfl ?a2p ?b2p
  case a2p =>
    intro w' hw'
    clear hw'
    refine growAt_value ?_
    go_simp
    try rfl
  simp only [Act.put, List.setIfInBounds_toArray, List.set_cons_zero, List.set_cons_succ]
  refine grow_step (v := ?v3p) rfl rfl ?a3p ?b3p
  case a3p =>
    intro w' hw'
    clear hw'
    refine growAt_value ?_
    go_simp
    rfl
  simp only [Act.put, List.setIfInBounds_toArray, List.set_cons_zero, List.set_cons_succ]
  refine grow_step (v := .int .u32 ((b ||| 2 ^ i : Nat) : Int)) rfl rfl ?a4p ?b4p
  case a4p =>
    intro w' hw'
    clear hw'
    refine growAt_value ?_
    go_simp
    try rfl
  simp only [Act.put, List.setIfInBounds_toArray, List.set_cons_zero, List.set_cons_succ]
  refine grow_step (v := .pointer (some ⟨w.heap.size, 1, none⟩)) rfl rfl ?a5p ?b5p
  case a5p =>
    intro w' hw'
    clear hw'
    refine growAt_value ?_
    go_simp
    try rfl
  simp only [Act.put, List.setIfInBounds_toArray, List.set_cons_zero, List.set_cons_succ]
  refine grow_nil ?_
  intro w5 listed p5 _ _
  have frB := fr.trans p5 (fun _ _ h => h)
  have E1 := D1.kept p5 (fun h => h)
  have E2 := D2.kept p5 (fun h => h)
  have E3 := D3.kept p5 (fun h => h)
  have c0 := E1.c0
  have c1 := E1.c1
  have cf := E1.fz 1
  obtain ⟨P1, F1⟩ := E1.put1 (.int .u32 ((b ||| 2 ^ i : Nat) : Int))
  have G1 := Lib.hid P1
  have G2 := Lib.hid (E2.kept F1 (by omega))
  have G3 := Lib.hid (E3.kept F1 (by omega))
  have GF := Lib.hid (frB.trans F1 (fun j hj e => by exfalso; omega))
  clear fr p5 D1 D2 D3 E1 E2 E3 P1 F1 a0 a1 af1 b0 b1 bf0 frB o1
  go_upto_region 2 with fail
  clear c0 c1 cf
  generalize w5.setCell ⟨w.heap.size, 1, none⟩ (.int .u32 ((b ||| 2 ^ i : Nat) : Int)) = W1 at *
  have D1 := G1.out
  have D2 := G2.out
  have D3 := G3.out
  have fr := GF.out
  clear G1 G2 G3 GF
  have b0 := D2.c0
  have b1 := D2.c1
  refine wp_region_grow' 6 30 (fun _ => #[]) [] (by kernel_rfl) (by kernel_rfl) rfl rfl (by intro T h; cases h) ?_
  simp only [List.take_succ_cons, List.take_zero]
  refine grow_step (v := .pointer (some ⟨w.heap.size + 1, 0, none⟩)) rfl rfl ?a0q ?b0q
  case a0q =>
    intro w' hw'
    clear hw'
    refine growAt_value ?_
    go_simp
    try rfl
  simp only [Act.put, List.setIfInBounds_toArray, List.set_cons_zero, List.set_cons_succ]
  refine grow_step (v := .int .u32 (c : Int)) rfl rfl ?a1q ?b1q
  case a1q =>
    intro w' hw'
    have y0 := hw'.cell' b0 (fun h => h)
    clear hw'
    refine growAt_value ?_
    go_simp
    try rfl
  simp only [Act.put, List.setIfInBounds_toArray, List.set_cons_zero, List.set_cons_succ]
  refine grow_step (v := .int .i64 (i : Int)) rfl rfl ?a2q ?b2q
  case a2q =>
    intro w' hw'
    clear hw'
    refine growAt_value ?_
    go_simp
    try rfl
  simp only [Act.put, List.setIfInBounds_toArray, List.set_cons_zero, List.set_cons_succ]
  refine grow_step (v := ?v3q) rfl rfl ?a3q ?b3q
  case a3q =>
    intro w' hw'
    clear hw'
    refine growAt_value ?_
    go_simp
    rfl
  simp only [Act.put, List.setIfInBounds_toArray, List.set_cons_zero, List.set_cons_succ]
  refine grow_step (v := .int .u32 ((c ||| 2 ^ i : Nat) : Int)) rfl rfl ?a4q ?b4q
  case a4q =>
    intro w' hw'
    clear hw'
    refine growAt_value ?_
    go_simp
    try rfl
  simp only [Act.put, List.setIfInBounds_toArray, List.set_cons_zero, List.set_cons_succ]
  refine grow_step (v := .pointer (some ⟨w.heap.size + 1, 0, none⟩)) rfl rfl ?a5q ?b5q
  case a5q =>
    intro w' hw'
    clear hw'
    refine growAt_value ?_
    go_simp
    try rfl
  simp only [Act.put, List.setIfInBounds_toArray, List.set_cons_zero, List.set_cons_succ]
  refine grow_nil ?_
  intro w5 listed p5 _ _
  have frB := fr.trans p5 (fun _ _ h => h)
  have E1 := D1.kept p5 (fun h => h)
  have E2 := D2.kept p5 (fun h => h)
  have E3 := D3.kept p5 (fun h => h)
  have c0 := E2.c0
  have c1 := E2.c1
  have cf := E2.fz 0
  obtain ⟨P1, F1⟩ := E2.put0 (.int .u32 ((c ||| 2 ^ i : Nat) : Int))
  have G1 := E1.kept F1 (by omega)
  have G2 := P1
  have G3 := E3.kept F1 (by omega)
  have GF := Lib.hid (frB.trans F1 (fun j hj e => by exfalso; omega))
  clear fr p5 D1 D2 D3 E1 E2 E3 P1 F1 b0 b1 frB o2
  go_upto_region 3 with fail
  clear c0 c1 cf
  generalize w5.setCell ⟨w.heap.size + 1, 0, none⟩ (.int .u32 ((c ||| 2 ^ i : Nat) : Int)) = W2 at *
  have a0 := G1.c0
  have a1 := G1.c1
  have b0 := G2.c0
  have b1 := G2.c1
  have r0 := G3.c0
  have r1 := G3.c1
  have rf0 := G3.fz 0
  have rf1 := G3.fz 1
  obtain ⟨P3, F3⟩ := G3.set (.int .u32 ((a &&& (c ||| 2 ^ i) : Nat) : Int)) (.int .u32 (((b ||| 2 ^ i) &&& d : Nat) : Int))
  have HF := Lib.hid (GF.out.trans F3 (fun j hj e => by exfalso; omega))
  have z0 := Lib.hid P3.c0
  have z1 := Lib.hid P3.c1
  have N1 := Lib.hid n1
  have N2 := Lib.hid n2
  clear G1 G2 G3 GF P3 F3 n1 n2
  generalize hc' : c ||| 2 ^ i = c' at *
  generalize hb' : b ||| 2 ^ i = b' at *
  have HC := Lib.hid hc'
  have HB := Lib.hid hb'
  clear hc' hb'
  go_wp2_with fail
  rw [N1.out, N2.out]
  have z0 := z0.out
  have z1 := z1.out
  refine bodyPost_ret (v := .agg #[.int .u32 ((a &&& c' : Nat) : Int), .int .u32 ((b' &&& d : Nat) : Int)]) (by simp [results, Tryd.results62, go_sem, z0, z1]) rfl ⟨by rw [HC.out, HB.out], HF.out.to_below (Nat.le_refl _) (fun _ h => h.elim)⟩

theorem fix_join (A : B) (hA : A.ok 0) (u : Unit) : FoldPX A fxI (fun ft _ _ => ft = nob) u := by
  refine ⟨?_, ?_, ?_⟩
  · intro ft R w w' S h _ _; exact h
  · rintro ft R w rfl k hk; exact hk.elim
  · rintro ft R i lo hi w rfl hs
    have hok := (small_suffix hs (small_li hA)).2 (.N i lo hi) List.mem_cons_self
    obtain ⟨_, h2, _, h4, h5⟩ := id hok
    have hl := fx_lt h4
    have hh := fx_lt h5
    refine (joinFixed_any i h2 _ _ _ _ hl.1 hl.2 hh.1 hh.2 w).mono ?_
    rintro e w' ⟨rfl, hB⟩
    exact ⟨nob, rfl, rfl, (Fr.refl nob w).below hB, fun _ h => .inl h⟩
/-- what Fixed answers -/
def fixV (A : B) : Nat × Nat := if A = .F then (0, 0) else fxV A

set_option maxRecDepth 100000 in
set_option maxHeartbeats 1000000 in
theorem Fixed_any (A : B) (hA : A.ok 0) (w : World) : Calls Tryd.prog 23 #[dval A] w fun e w' => e = .returned (.tuple #[.int .u32 ((fixV A).1 : Int), .int .u32 ((fixV A).2 : Int)]) ∧ Below w.heap.size w w' := by
  have hF := fun W => (show Calls Tryd.prog 61 #[dval A, .agg #[.int .u32 16777215, .int .u32 16777215], .agg #[.int .u32 0, .int .u32 0], .func (.func 62) #[] #[]] W fun e w' => e = .returned (.agg #[.int .u32 ((fxV A).1 : Int), .int .u32 ((fxV A).2 : Int)]) ∧ Fr nob W w' from
    (foldX_any A hA fxI (fun ft _ _ => ft = nob) () (fix_join A hA ()) (16777215, 16777215) (0, 0) rfl rfl nob W rfl).mono (by
      rintro e w' ⟨ft', rfl, -, fr, -⟩
      exact ⟨rfl, fr⟩))
  have a0 : (w.alloc (.cells #[.int .u32 (place (li A) A : Int), .string ⟨(code (rows (li A))).toArray⟩] 26)).cell? ⟨w.heap.size, 0, none⟩ = some (.int .u32 (place (li A) A : Int)) := World.cell?_alloc_at _ _ _ _ (by simp)
  have a1 : (w.alloc (.cells #[.int .u32 (place (li A) A : Int), .string ⟨(code (rows (li A))).toArray⟩] 26)).cell? ⟨w.heap.size, 1, none⟩ = some (.string ⟨(code (rows (li A))).toArray⟩) := World.cell?_alloc_at _ _ _ _ (by simp)
  have fr : Fr nob w (w.alloc (.cells #[.int .u32 (place (li A) A : Int), .string ⟨(code (rows (li A))).toArray⟩] 26)) := (Fr.refl nob w).alloc _
  have hE := Empty_any A
  have hv : fixV A = if A = .F then (0, 0) else fxV A := rfl
  have HV := Lib.hid hv
  clear hv
  go_enter Tryd.func23, Tryd.ntmps23
  go_wp2_with fail
  generalize w.alloc (.cells #[.int .u32 (place (li A) A : Int), .string ⟨(code (rows (li A))).toArray⟩] 26) = W at *
  refine (hE _).mono ?_
  rintro e w1 ⟨rfl, hb⟩
  replace a0 := ((Fr.refl nob W).below hb).cell a0 (fun h => h)
  replace a1 := ((Fr.refl nob W).below hb).cell a1 (fun h => h)
  replace fr := fr.below hb
  clear hb hE
  by_cases hA0 : A = .F
  · have hd : decide (A = .F) = true := by simp [hA0]
    rw [hd]
    clear hF
    go_wp2_with fail
    go_ret2
    exact ⟨by rw [HV.out, if_pos hA0]; rfl, fr.to_below (Nat.le_refl _) (fun _ h => h.elim)⟩
  · have hd : decide (A = .F) = false := by simp [hA0]
    rw [hd]
    have HN := Lib.hid (show fixV A = fxV A by rw [HV.out, if_neg hA0])
    generalize fxV A = fx at *
    obtain ⟨f1, f2⟩ := fx
    clear hA0 HV hd
    go_wp2_with fail
    refine (hF _).mono ?_
    rintro e w2 ⟨rfl, g2⟩
    have D := Box2.new w2 (.int .u32 (f1 : Int)) (.int .u32 (f2 : Int)) 105
    have b0 := D.c0
    have b1 := D.c1
    have frw := (fr.trans g2 (fun _ _ h => h)).alloc (.cells #[.int .u32 (f1 : Int), .int .u32 (f2 : Int)] 105)
    clear hF a0 a1 fr g2 D
    go_wp2_with fail
    go_region
    have HF := frw
    go_wp2_with fail
    refine bodyPost_ret (v := .tuple #[.int .u32 (f1 : Int), .int .u32 (f2 : Int)]) (by simp [results, Tryd.results23, go_sem]) rfl ⟨by rw [HN.out], (HF.drewN _).to_below (Nat.le_refl _) (fun _ h => h.elim)⟩
end Go.Proofs.YtpmnfpjpdpejgaaDoor
