import Derived.Test.YtiainlccodnlmaaDoorFoldU
import Derived.Test.YtiainlccodnlmaaDoorCube
import Derived.Test.YtiainlccodnlmaaDoorFoldC
import Derived.Test.YtiainlccodnlmaaDoorStep
namespace Go.Proofs.YtiainlccodnlmaaDoor
open Go.RowKit
open Bd

abbrev exA : B := .N 0 .F .T
abbrev exB : B := .N 1 .F .T
abbrev exC : B := .N 2 .F .T
abbrev exX : B := .N 0 (.N 2 .F .T) (.N 1 (.N 2 .F .T) .T)

theorem okA : exA.ok 0 := by simp [B.ok]
theorem okB : exB.ok 0 := by simp [B.ok]
theorem okC : exC.ok 0 := by simp [B.ok]
theorem okX : exX.ok 0 := by simp [B.ok]
theorem ex_a : cubeB (2 ^ 0) 0 = exA := by decide
theorem ex_b : cubeB (2 ^ 1) 0 = exB := by decide
theorem ex_c : cubeB (2 ^ 2) 0 = exC := by decide
theorem ex_and : ite exA exB .F = .N 0 .F (.N 1 .F .T) := eq_of_ev (ok_ite0 _ _ _) (by simp [B.ok]) (fun c => by rw [ev_ite (z := .F) okA okB trivial]; cases h0 : c 0 <;> cases h1 : c 1 <;> simp [B.ev, h0, h1])
theorem ex_x : ite (.N 0 .F (.N 1 .F .T)) .T exC = exX := eq_of_ev (ok_ite0 _ _ _) okX (fun c => by rw [ev_ite (x := .N 0 .F (.N 1 .F .T)) (y := .T) (by simp [B.ok]) trivial okC]; cases h0 : c 0 <;> cases h1 : c 1 <;> cases h2 : c 2 <;> simp [B.ev, h0, h1, h2])
theorem ex_xor : ite exA exA.neg exA = .F := eq_of_ev (ok_ite0 _ _ _) trivial (fun c => by rw [ev_ite okA (ok_neg okA) okA, ev_neg]; cases exA.ev c <;> simp [B.ev])
theorem ex_cnt : cnt exX / 2 ^ (24 - 3) = 5 := by decide
theorem ex_len : (li exX).length = 3 := by decide
theorem ex_sup : supR (li exX) / 2 ^ 3 = 0 := by decide
theorem ex_has4 : (exX.ev fun i => (4 : Nat).testBit i) = true := by decide
theorem ex_has2 : (exX.ev fun i => (2 : Nat).testBit i) = false := by decide

theorem v0 (w : World) : Calls Tryd.prog 44 #[.int .i64 0] w fun e w' => e = .returned (.tuple #[dval exA, .int .i64 0]) ∧ Below w.heap.size w w' := by have h := Var_yes 0 (by decide) w; rw [ex_a] at h; exact h
theorem v1 (w : World) : Calls Tryd.prog 44 #[.int .i64 1] w fun e w' => e = .returned (.tuple #[dval exB, .int .i64 0]) ∧ Below w.heap.size w w' := by have h := Var_yes 1 (by decide) w; rw [ex_b] at h; exact h
theorem v2 (w : World) : Calls Tryd.prog 44 #[.int .i64 2] w fun e w' => e = .returned (.tuple #[dval exC, .int .i64 0]) ∧ Below w.heap.size w w' := by have h := Var_yes 2 (by decide) w; rw [ex_c] at h; exact h
theorem and_ab (w : World) : Calls Tryd.prog 42 #[dval exA, dval exB] w fun e w' => e = .returned (dval (.N 0 .F (.N 1 .F .T))) ∧ Below w.heap.size w w' := by have h := And_any exA exB okA okB w; rw [ex_and] at h; exact h
theorem or_xc (w : World) : Calls Tryd.prog 45 #[dval (.N 0 .F (.N 1 .F .T)), dval exC] w fun e w' => e = .returned (dval exX) ∧ Below w.heap.size w w' := by have h := Or_any (.N 0 .F (.N 1 .F .T)) exC (by simp [B.ok]) okC w; rw [ex_x] at h; exact h
theorem count_x (w : World) : Calls Tryd.prog 46 #[dval exX, .int .i64 3] w fun e w' => e = .returned (.tuple #[.int .u64 5, .int .i64 0]) ∧ Below w.heap.size w w' := by have h := Count_ok exX okX 3 (by decide) ex_sup w; rw [ex_cnt] at h; exact h
theorem size_x (w : World) : Calls Tryd.prog 27 #[dval exX] w fun e w' => e = .returned (.int .i64 3) ∧ Below w.heap.size w w' := by have h := Size_any exX okX w; rw [ex_len] at h; exact h
theorem has4_x (w : World) : Calls Tryd.prog 39 #[dval exX, .int .u32 4] w fun e w' => e = .returned (.bool true) ∧ Below w.heap.size w w' := by have h := Has_any exX okX 4 (by decide) w; rw [ex_has4] at h; exact h
theorem has2_x (w : World) : Calls Tryd.prog 39 #[dval exX, .int .u32 2] w fun e w' => e = .returned (.bool false) ∧ Below w.heap.size w w' := by have h := Has_any exX okX 2 (by decide) w; rw [ex_has2] at h; exact h
theorem xor_aa (w : World) : Calls Tryd.prog 47 #[dval exA, dval exA] w fun e w' => e = .returned (dval .F) ∧ Below w.heap.size w w' := by have h := Xor_any exA exA okA okA w; rw [ex_xor] at h; exact h
theorem empty_F (w : World) : Calls Tryd.prog 14 #[dval .F] w fun e w' => e = .returned (.bool true) ∧ Below w.heap.size w w' := by have h := Empty_any .F w; simpa using h

theorem block2 {w : World} {g : Nat} {a b : Value} {T : TypeId} (h : w.heap[g]? = some (.cells #[a, b] T)) : w.cell? ⟨g, 0, none⟩ = some a ∧ w.cell? ⟨g, 1, none⟩ = some b ∧ ∀ o, w.frozen? ⟨g, o, none⟩ = false := by
  refine ⟨?_, ?_, fun o => ?_⟩ <;> simp [World.cell?, World.frozen?, h]

theorem two_cells (w : World) (a b : Value) (T : TypeId) : (w.alloc (.cells #[a, b] T)).cell? ⟨w.heap.size, 0, none⟩ = some a ∧ (w.alloc (.cells #[a, b] T)).cell? ⟨w.heap.size, 1, none⟩ = some b := ⟨World.cell?_alloc_at _ _ _ _ (by simp), World.cell?_alloc_at _ _ _ _ (by simp)⟩

set_option maxRecDepth 100000 in
set_option maxHeartbeats 2000000 in
theorem wakes_any (w : World) : Calls Tryd.prog 9 #[] w fun e w' => e = .returned (.bool true) ∧ Below w.heap.size w w' := by
  go_enter Tryd.func9, Tryd.ntmps9
  go_wp2_with fail
  refine (v0 _).mono ?_
  rintro e w1 ⟨rfl, hb1⟩
  have fr1 : Fr nob w w1 := (Fr.refl nob w).below hb1
  clear hb1
  go_wp2_with fail
  obtain ⟨a0, a1⟩ := two_cells w1 (.int .u32 (place (li exA) exA : Int)) (.string ⟨(code (rows (li exA))).toArray⟩) 31
  have q1 : Fr nob w1 (w1.alloc (.cells #[.int .u32 (place (li exA) exA : Int), .string ⟨(code (rows (li exA))).toArray⟩] 31)) := (Fr.refl nob w1).alloc _
  generalize w1.alloc (.cells #[.int .u32 (place (li exA) exA : Int), .string ⟨(code (rows (li exA))).toArray⟩] 31) = W1 at *
  have F1 : Fr nob w W1 := fr1.trans q1 (fun _ _ h => h)
  clear q1 fr1
  refine (v1 _).mono ?_
  rintro e w2 ⟨rfl, hb2⟩
  have p2 : Fr nob W1 w2 := (Fr.refl nob _).below hb2
  replace a0 := p2.cell' a0 (fun h => h)
  replace a1 := p2.cell' a1 (fun h => h)
  have fr2 := F1.trans p2 (fun _ _ h => h)
  clear hb2 p2 F1
  go_wp2_with fail
  obtain ⟨b0, b1⟩ := two_cells w2 (.int .u32 (place (li exB) exB : Int)) (.string ⟨(code (rows (li exB))).toArray⟩) 31
  have q2 : Fr nob w2 (w2.alloc (.cells #[.int .u32 (place (li exB) exB : Int), .string ⟨(code (rows (li exB))).toArray⟩] 31)) := (Fr.refl nob w2).alloc _
  generalize w2.alloc (.cells #[.int .u32 (place (li exB) exB : Int), .string ⟨(code (rows (li exB))).toArray⟩] 31) = W2 at *
  replace a0 := q2.cell' a0 (fun h => h)
  replace a1 := q2.cell' a1 (fun h => h)
  have F2 : Fr nob w W2 := fr2.trans q2 (fun _ _ h => h)
  clear q2 fr2
  refine (v2 _).mono ?_
  rintro e w3 ⟨rfl, hb3⟩
  have p3 : Fr nob W2 w3 := (Fr.refl nob _).below hb3
  replace a0 := p3.cell' a0 (fun h => h)
  replace a1 := p3.cell' a1 (fun h => h)
  replace b0 := p3.cell' b0 (fun h => h)
  replace b1 := p3.cell' b1 (fun h => h)
  have fr3 := F2.trans p3 (fun _ _ h => h)
  clear hb3 p3 F2
  go_wp2_with fail
  obtain ⟨c0, c1⟩ := two_cells w3 (.int .u32 (place (li exC) exC : Int)) (.string ⟨(code (rows (li exC))).toArray⟩) 31
  have q3 : Fr nob w3 (w3.alloc (.cells #[.int .u32 (place (li exC) exC : Int), .string ⟨(code (rows (li exC))).toArray⟩] 31)) := (Fr.refl nob w3).alloc _
  generalize w3.alloc (.cells #[.int .u32 (place (li exC) exC : Int), .string ⟨(code (rows (li exC))).toArray⟩] 31) = W3 at *
  replace a0 := q3.cell' a0 (fun h => h)
  replace a1 := q3.cell' a1 (fun h => h)
  replace b0 := q3.cell' b0 (fun h => h)
  replace b1 := q3.cell' b1 (fun h => h)
  have F3 : Fr nob w W3 := fr3.trans q3 (fun _ _ h => h)
  clear q3 fr3
  refine (Var_no 24 (.inr (by decide)) _).mono ?_
  rintro e w4 ⟨rfl, hb4⟩
  have p4 : Fr nob W3 w4 := (Fr.refl nob _).below hb4
  replace a0 := p4.cell' a0 (fun h => h)
  replace a1 := p4.cell' a1 (fun h => h)
  replace b0 := p4.cell' b0 (fun h => h)
  replace b1 := p4.cell' b1 (fun h => h)
  replace c0 := p4.cell' c0 (fun h => h)
  replace c1 := p4.cell' c1 (fun h => h)
  have fr4 := F3.trans p4 (fun _ _ h => h)
  clear hb4 p4 F3
  go_wp2_with fail
  have q4 : Fr nob w4 (w4.alloc (.cells #[.int .u32 (place (li .F) .F : Int), .string ⟨(code (rows (li .F))).toArray⟩] 31)) := (Fr.refl nob w4).alloc _
  generalize w4.alloc (.cells #[.int .u32 (place (li .F) .F : Int), .string ⟨(code (rows (li .F))).toArray⟩] 31) = W4 at *
  replace a0 := q4.cell' a0 (fun h => h)
  replace a1 := q4.cell' a1 (fun h => h)
  replace b0 := q4.cell' b0 (fun h => h)
  replace b1 := q4.cell' b1 (fun h => h)
  replace c0 := q4.cell' c0 (fun h => h)
  replace c1 := q4.cell' c1 (fun h => h)
  have F4 : Fr nob w W4 := fr4.trans q4 (fun _ _ h => h)
  clear q4 fr4
  refine wp_region_grow' 6 80 (fun _ => #[.int .u32 0, .string ⟨#[]⟩]) [31] (by kernel_rfl) (by kernel_rfl) rfl rfl (by intro T h w; simp at h; subst h; rfl) ?_
  simp only [List.take_succ_cons, List.take_zero]
  refine grow_step (v := ?v0) rfl rfl ?a0 ?b0
  case a0 =>
    intro w' hw'
    have y_a0 := hw'.cell' a0 (fun h => h)
    have y_a1 := hw'.cell' a1 (fun h => h)
    clear hw'
    refine growAt_value ?_
    go_simp
    rfl
  simp only [Act.put, List.setIfInBounds_toArray, List.set_cons_zero, List.set_cons_succ]
  refine grow_step (v := ?v1) rfl rfl ?a1 ?b1
  case a1 =>
    intro w' hw'
    have y_b0 := hw'.cell' b0 (fun h => h)
    have y_b1 := hw'.cell' b1 (fun h => h)
    clear hw'
    refine growAt_value ?_
    go_simp
    rfl
  simp only [Act.put, List.setIfInBounds_toArray, List.set_cons_zero, List.set_cons_succ]
  refine grow_step (v := dval (.N 0 .F (.N 1 .F .T))) rfl rfl ?a2 ?b2
  case a2 =>
    intro w' hw'
    refine growAt_call ?_ ((and_ab w').mono fun e w'' ⟨he, hb⟩ => ⟨he, (Fr.refl nob _).below hb⟩)
    go_simp
  simp only [Act.put, List.setIfInBounds_toArray, List.set_cons_zero, List.set_cons_succ]
  refine grow_step (v := ?v3) rfl rfl ?a3 ?b3
  case a3 =>
    intro w' hw'
    have y_c0 := hw'.cell' c0 (fun h => h)
    have y_c1 := hw'.cell' c1 (fun h => h)
    clear hw'
    refine growAt_value ?_
    go_simp
    rfl
  simp only [Act.put, List.setIfInBounds_toArray, List.set_cons_zero, List.set_cons_succ]
  refine grow_step (v := dval exX) rfl rfl ?a4 ?b4
  case a4 =>
    intro w' hw'
    refine growAt_call ?_ ((or_xc w').mono fun e w'' ⟨he, hb⟩ => ⟨he, (Fr.refl nob _).below hb⟩)
    go_simp
  simp only [Act.put, List.setIfInBounds_toArray, List.set_cons_zero, List.set_cons_succ]
  refine grow_alloc rfl fun g9 hg9 => ?_
  simp only [Act.put, List.setIfInBounds_toArray, List.set_cons_zero, List.set_cons_succ]
  refine grow_nil ?_
  intro w5 listed p5 hl hM
  obtain ⟨b9, m91, _, m93, _⟩ := hM 5 _ 31 9 (by omega) rfl rfl rfl (hl 5 (by omega))
  clear hM hl
  obtain rfl : g9 = b9 := by simpa using m91
  clear m91
  obtain ⟨k0, k1, k2⟩ := block2 m93
  have kf0 := k2 0
  have kf1 := k2 1
  have la : w1.heap.size < W4.heap.size := lt_of_cell a0
  replace a0 := p5.cell' a0 (fun h => h)
  replace a1 := p5.cell' a1 (fun h => h)
  have na : w1.heap.size ≠ g9 := by omega
  have F5' := F4.trans p5 (fun _ _ h => h)
  have zz : w.heap.size ≤ g9 := by have := F4.size; omega
  clear b0 b1 c0 c1 p5 F4 k2 m93
  go_wp2_with fail
  have x0 : ((w5.setCell ⟨g9, 0, none⟩ (.int .u32 (place (li exX) exX : Int))).setCell ⟨g9, 1, none⟩ (.string ⟨(code (rows (li exX))).toArray⟩)).cell? ⟨g9, 0, none⟩ = some (.int .u32 (place (li exX) exX : Int)) := by
    rw [World.cell?_setCell_other _ _ _ _ (by simp)]; exact World.cell?_setCell_same' _ _ _ (by rw [k0]; rfl)
  have x1 : ((w5.setCell ⟨g9, 0, none⟩ (.int .u32 (place (li exX) exX : Int))).setCell ⟨g9, 1, none⟩ (.string ⟨(code (rows (li exX))).toArray⟩)).cell? ⟨g9, 1, none⟩ = some (.string ⟨(code (rows (li exX))).toArray⟩) :=
    World.cell?_setCell_same' _ _ _ (by rw [World.cell?_setCell_other _ _ _ _ (by simp), k1]; rfl)
  have F5 := (F5'.set1 zz (o := 0) (.int .u32 (place (li exX) exX : Int))).set1 zz (o := 1) (.string ⟨(code (rows (li exX))).toArray⟩)
  have q5 : Fr (fun k => k = g9) w5 ((w5.setCell ⟨g9, 0, none⟩ (.int .u32 (place (li exX) exX : Int))).setCell ⟨g9, 1, none⟩ (.string ⟨(code (rows (li exX))).toArray⟩)) := (fr_store w5 g9 0 _).trans (fr_store _ g9 1 _) (fun _ _ h => h)
  replace a0 := q5.cell' a0 na
  replace a1 := q5.cell' a1 na
  generalize (w5.setCell ⟨g9, 0, none⟩ (.int .u32 (place (li exX) exX : Int))).setCell ⟨g9, 1, none⟩ (.string ⟨(code (rows (li exX))).toArray⟩) = W5 at *
  clear q5 k0 k1 kf0 kf1 F5'
  refine (count_x _).mono ?_
  rintro e w6 ⟨rfl, hb6⟩
  have p6 : Fr nob W5 w6 := (Fr.refl nob _).below hb6
  replace a0 := p6.cell' a0 (fun h => h)
  replace a1 := p6.cell' a1 (fun h => h)
  replace x0 := p6.cell' x0 (fun h => h)
  replace x1 := p6.cell' x1 (fun h => h)
  have fr6 := F5.trans p6 (fun _ _ h => h)
  clear hb6 p6 F5
  have F6 := fr6
  clear fr6
  go_wp2_with fail
  refine (size_x _).mono ?_
  rintro e w7 ⟨rfl, hb7⟩
  have p7 : Fr nob w6 w7 := (Fr.refl nob _).below hb7
  replace a0 := p7.cell' a0 (fun h => h)
  replace a1 := p7.cell' a1 (fun h => h)
  replace x0 := p7.cell' x0 (fun h => h)
  replace x1 := p7.cell' x1 (fun h => h)
  have fr7 := F6.trans p7 (fun _ _ h => h)
  clear hb7 p7 F6
  have F7 := fr7
  clear fr7
  go_wp2_with fail
  refine (has4_x _).mono ?_
  rintro e w8 ⟨rfl, hb8⟩
  have p8 : Fr nob w7 w8 := (Fr.refl nob _).below hb8
  replace a0 := p8.cell' a0 (fun h => h)
  replace a1 := p8.cell' a1 (fun h => h)
  replace x0 := p8.cell' x0 (fun h => h)
  replace x1 := p8.cell' x1 (fun h => h)
  have fr8 := F7.trans p8 (fun _ _ h => h)
  clear hb8 p8 F7
  have F8 := fr8
  clear fr8
  go_wp2_with fail
  refine (has2_x _).mono ?_
  rintro e w9 ⟨rfl, hb9⟩
  have p9 : Fr nob w8 w9 := (Fr.refl nob _).below hb9
  replace a0 := p9.cell' a0 (fun h => h)
  replace a1 := p9.cell' a1 (fun h => h)
  replace x0 := p9.cell' x0 (fun h => h)
  replace x1 := p9.cell' x1 (fun h => h)
  have fr9 := F8.trans p9 (fun _ _ h => h)
  clear hb9 p9 F8
  have F9 := fr9
  clear fr9
  go_wp2_with fail
  refine (xor_aa _).mono ?_
  rintro e w10 ⟨rfl, hb10⟩
  have p10 : Fr nob w9 w10 := (Fr.refl nob _).below hb10
  replace a0 := p10.cell' a0 (fun h => h)
  replace a1 := p10.cell' a1 (fun h => h)
  replace x0 := p10.cell' x0 (fun h => h)
  replace x1 := p10.cell' x1 (fun h => h)
  have fr10 := F9.trans p10 (fun _ _ h => h)
  clear hb10 p10 F9
  have F10 := fr10
  clear fr10
  go_wp2_with fail
  refine (empty_F _).mono ?_
  rintro e w11 ⟨rfl, hb11⟩
  have p11 : Fr nob w10 w11 := (Fr.refl nob _).below hb11
  replace a0 := p11.cell' a0 (fun h => h)
  replace a1 := p11.cell' a1 (fun h => h)
  replace x0 := p11.cell' x0 (fun h => h)
  replace x1 := p11.cell' x1 (fun h => h)
  have fr11 := F10.trans p11 (fun _ _ h => h)
  clear hb11 p11 F10
  go_wp2_with fail
  go_ret
  exact ⟨by simp, fr11.to_below (Nat.le_refl _) (fun _ h => h.elim)⟩
end Go.Proofs.YtiainlccodnlmaaDoor
