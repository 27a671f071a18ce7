import Derived.Test.YtalnhlebgofiiaaGreatDoorSem
import Derived.Laws.StructEq
namespace Go.Proofs.YtalnhlebgofiiaaGreatDoor
open Go.RowKit
open Bd

theorem at_any (b x : B) (hb : b.ok 0) (hx : inn (li b) x) (w : World) : Calls Tryz.prog 58 #[dval b, .int .u32 (place (li b) x : Int)] w fun e w' => e = .returned (nk (rowB (li b) x)) ∧ Below w.heap.size w w' := by
  cases x with
  | F => exact at_small _ 0 _ _ w rfl (by omega)
  | T => exact at_small _ 1 _ _ w rfl (by omega)
  | N i l u =>
    have hm : B.N i l u ∈ li b := hx.resolve_left (by simp [B.const])
    obtain ⟨h1, h2, h3⟩ := rows_at (good_li b) hm
    have hs := rows_small (good_li b) (small_li hb) _ (List.mem_of_getElem? h1)
    exact at_row _ (pos (li b) (.N i l u)) _ _ (rows (li b)) (i, place (li b) l, place (li b) u) w rfl (by simp) h1 (by rw [rows_length (good_li b)]; exact (small_li hb).1) (by simp only at hs ⊢; omega)

noncomputable abbrev chB (A B' C : B) : Value := chv (place (li A) A) (place (li B') B') (place (li C) C) ⟨(code (rows (li A))).toArray⟩ ⟨(code (rows (li B'))).toArray⟩ ⟨(code (rows (li C))).toArray⟩

theorem split_any (A B' C : B) (hA : A.ok 0) (hB : B'.ok 0) (hC : C.ok 0) (k : Nat × Nat × Nat) (w : World) (hk : valT A B' C k) :
    Calls Tryz.prog 108 #[chB A B' C, tk k] w fun e w' => e = .returned (.tuple #[.int .i64 ((spT A B' C k).1 : Int), tk (spT A B' C k).2.1, tk (spT A B' C k).2.2]) ∧ Below w.heap.size w w' := by
  obtain ⟨x, y, z, hx, hy, hz, rfl⟩ := hk
  have e : spT A B' C (place (li A) x, place (li B') y, place (li C) z) = splitN (place (li A) x, place (li B') y, place (li C) z) (rowB (li A) x) (rowB (li B') y) (rowB (li C) z) := by
    simp only [spT, nodeAt_place hx, nodeAt_place hy, nodeAt_place hz]
  rw [e]
  cases hd : (decidedN (place (li A) x, place (li B') y, place (li C) z)).2 with
  | true =>
    have hp : (decidedN (place (li A) x, place (li B') y, place (li C) z)).1 < 2 := by
      unfold decidedN at hd ⊢
      split at hd
      · rename_i h; rw [if_pos h]; exact of_decide_eq_true hd
      · rename_i h; rw [if_neg h]
        split at hd
        · rename_i h'; rw [if_pos h']; exact of_decide_eq_true hd
        · cases hd
    have e2 : splitN (place (li A) x, place (li B') y, place (li C) z) (rowB (li A) x) (rowB (li B') y) (rowB (li C) z) = (24 + (decidedN (place (li A) x, place (li B') y, place (li C) z)).1, (place (li A) x, place (li B') y, place (li C) z), (place (li A) x, place (li B') y, place (li C) z)) := by
      simp only [splitN, hd, if_true]
    rw [e2]
    exact split_leaf _ _ _ _ _ _ _ _ _ hd hp w
  | false =>
    exact split_step _ _ _ _ _ _ _ _ _ _ _ _ hd w (Nat.lt_succ_of_le (top_le (ok_of_inn hA hx))) (Nat.lt_succ_of_le (top_le (ok_of_inn hB hy))) (Nat.lt_succ_of_le (top_le (ok_of_inn hC hz)))
      (fun w => at_any A x hA hx w) (fun w => at_any B' y hB hy w) (fun w => at_any C z hC hz w)

theorem growIte (A B' C : B) (hA : A.ok 0) (hB : B'.ok 0) (hC : C.ok 0) (w : World) :
    Calls Tryz.prog 107 #[tk (place (li A) A, place (li B') B', place (li C) C), .func (.func 108) #[chB A B' C] #[]] w fun e w' => e = .returned (dval (ite A B' C)) ∧ Below w.heap.size w w' := by
  have hv : valT A B' C (place (li A) A, place (li B') B', place (li C) C) := ⟨A, B', C, inn_li A, inn_li B', inn_li C, rfl⟩
  have hs : semT A B' C (place (li A) A, place (li B') B', place (li C) C) = ite A B' C := by simp only [semT, nodeAt_place (inn_li A), nodeAt_place (inn_li B'), nodeAt_place (inn_li C)]
  have := growT_any (splT A B' C hA hB hC) (chB A B' C) (fun k hk => ?_) (fun k w hk => split_any A B' C hA hB hC k w hk) _ w hv (by rw [hs]; exact ok_ite0 _ _ _)
  · rw [hs] at this; exact this
  · obtain ⟨x, y, z, hx, hy, hz, rfl⟩ := hk
    have h1 := place_small (small_li hA) hx
    have h2 := place_small (small_li hB) hy
    have h3 := place_small (small_li hC) hz
    simp only; omega

theorem of_bytes_beq {a b : ByteArray} (h : (a == b) = true) : a = b := by
  rcases a with ⟨a⟩
  rcases b with ⟨b⟩
  have h' : (a == b) = true := h
  rw [eq_of_beq h']

theorem beq_dec (p q : Nat) : ((p : Int) == (q : Int)) = decide (p = q) := run_neq_nat p q

set_option maxRecDepth 100000 in
set_option maxHeartbeats 400000 in
theorem Full_any (A : B) (w : World) : Calls Tryz.prog 64 #[dval A] w fun e w' => e = .returned (.bool (decide (A = .T))) ∧ Below w.heap.size w w' := by
  have h : ((place (li A) A : Int) == 1) = decide (A = .T) := by
    rw [show (1 : Int) = ((1 : Nat) : Int) from rfl, beq_dec]
    exact decide_eq_decide.2 place_T
  have H := Lib.hid h
  clear h
  go_enter Tryz.func64, Tryz.ntmps64
  go_wp2
  go_ret
  exact ⟨by rw [← H.out]; rfl, (Below.refl _ _).alloc (Nat.le_refl _) _⟩

set_option maxRecDepth 100000 in
set_option maxHeartbeats 400000 in
theorem Empty_any (A : B) (w : World) : Calls Tryz.prog 25 #[dval A] w fun e w' => e = .returned (.bool (decide (A = .F))) ∧ Below w.heap.size w w' := by
  have h : ((place (li A) A : Int) == 0) = decide (A = .F) := by
    rw [show (0 : Int) = ((0 : Nat) : Int) from rfl, beq_dec]
    exact decide_eq_decide.2 place_F
  have H := Lib.hid h
  clear h
  go_enter Tryz.func25, Tryz.ntmps25
  go_wp2
  go_ret
  exact ⟨by rw [← H.out]; rfl, (Below.refl _ _).alloc (Nat.le_refl _) _⟩

set_option maxRecDepth 100000 in
set_option maxHeartbeats 400000 in
theorem same_raw (p q : Nat) (S T : ByteArray) (r : Bool) (h : (p = q ∧ S = T ∧ r = true) ∨ (p = q ∧ ¬ S.toList = T.toList ∧ r = false) ∨ (¬ p = q ∧ r = false)) (w : World) :
    Calls Tryz.prog 66 #[.agg #[.int .u32 (p : Int), .string S], .agg #[.int .u32 (q : Int), .string T]] w fun e w' => e = .returned (.bool r) ∧ Below w.heap.size w w' := by
  have fin := ((Below.refl w.heap.size w).alloc (Nat.le_refl _) (.cells #[.int .u32 (p : Int), .string S] 32)).alloc (by simp) (.cells #[.int .u32 (q : Int), .string T] 32)
  rcases h with ⟨rfl, rfl, rfl⟩ | ⟨rfl, h2, rfl⟩ | ⟨h1, rfl⟩
  · go_enter Tryz.func66, Tryz.ntmps66
    go_wp2
    go_ret
    exact ⟨rfl, fin⟩
  · go_enter Tryz.func66, Tryz.ntmps66
    go_wp2
    go_ret
    exact ⟨rfl, fin⟩
  · have h2 : ¬ ((p : Int) = (q : Int)) := by omega
    go_enter Tryz.func66, Tryz.ntmps66
    go_wp2
    go_ret
    exact ⟨rfl, fin⟩

theorem Same_any (A B' : B) (hA : A.ok 0) (hB : B'.ok 0) (w : World) : Calls Tryz.prog 66 #[dval A, dval B'] w fun e w' => e = .returned (.bool (decide (A = B'))) ∧ Below w.heap.size w w' := by
  refine same_raw _ _ _ _ _ ?_ w
  by_cases h : A = B'
  · subst h; exact .inl ⟨rfl, rfl, by simp⟩
  · by_cases h1 : place (li A) A = place (li B') B'
    · refine .inr (.inl ⟨h1, fun e => ?_, by simp [h]⟩)
      have e' : (⟨(code (rows (li A))).toArray⟩ : ByteArray) = ⟨(code (rows (li B'))).toArray⟩ := by
        have := beq_toListBytes (⟨(code (rows (li A))).toArray⟩ : ByteArray) ⟨(code (rows (li B'))).toArray⟩
        rw [e, beq_self_eq_true] at this
        exact of_bytes_beq this
      injection e' with e'
      exact h (enc_inj hA hB h1 (by simpa using congrArg Array.toList e'))
    · exact .inr (.inr ⟨h1, by simp [h]⟩)
end Go.Proofs.YtalnhlebgofiiaaGreatDoor
namespace Go.Proofs.YtalnhlebgofiiaaGreatDoor
open Go.RowKit
open Bd

/-- the variables of Ite -/
structure IteSt (A B' C : B) (w0 w : World) : Prop where
  fr : Fr nob w0 w
  a0 : w.cell? ⟨w0.heap.size, 0, none⟩ = some (.int .u32 (place (li A) A : Int))
  a1 : w.cell? ⟨w0.heap.size, 1, none⟩ = some (.string ⟨(code (rows (li A))).toArray⟩)
  b0 : w.cell? ⟨w0.heap.size + 1, 0, none⟩ = some (.int .u32 (place (li B') B' : Int))
  b1 : w.cell? ⟨w0.heap.size + 1, 1, none⟩ = some (.string ⟨(code (rows (li B'))).toArray⟩)
  c0 : w.cell? ⟨w0.heap.size + 1 + 1, 0, none⟩ = some (.int .u32 (place (li C) C : Int))
  c1 : w.cell? ⟨w0.heap.size + 1 + 1, 1, none⟩ = some (.string ⟨(code (rows (li C))).toArray⟩)
  r0 : w.cell? ⟨w0.heap.size + 1 + 1 + 1, 0, none⟩ = some (.int .u32 0)
  r1 : w.cell? ⟨w0.heap.size + 1 + 1 + 1, 1, none⟩ = some (.string ⟨#[]⟩)
  f0 : w.frozen? ⟨w0.heap.size + 1 + 1 + 1, 0, none⟩ = false
  f1 : w.frozen? ⟨w0.heap.size + 1 + 1 + 1, 1, none⟩ = false

theorem IteSt.kept {A B' C : B} {w0 w w' : World} (h : IteSt A B' C w0 w) (hb : Below w.heap.size w w') : IteSt A B' C w0 w' := by
  have fr : Fr nob w w' := (Fr.refl nob w).below hb
  have l1 : w0.heap.size + 1 + 1 + 1 < w.heap.size := lt_of_cell h.r0
  have c : ∀ {p : Addr} {v : Value}, w.cell? p = some v → _ := fun h => fr.cell h (fun h => h)
  exact ⟨h.fr.trans fr (fun _ _ h => h), c h.a0, c h.a1, c h.b0, c h.b1, c h.c0, c h.c1, c h.r0, c h.r1, (fr.frozen (p := ⟨w0.heap.size + 1 + 1 + 1, 0, none⟩) l1 (fun h => h)).trans h.f0, (fr.frozen (p := ⟨w0.heap.size + 1 + 1 + 1, 1, none⟩) l1 (fun h => h)).trans h.f1⟩

theorem IteSt.start (A B' C : B) (w : World) : IteSt A B' C w ((((w.alloc (.cells #[.int .u32 (place (li A) A : Int), .string ⟨(code (rows (li A))).toArray⟩] 32)).alloc (.cells #[.int .u32 (place (li B') B' : Int), .string ⟨(code (rows (li B'))).toArray⟩] 32)).alloc
    (.cells #[.int .u32 (place (li C) C : Int), .string ⟨(code (rows (li C))).toArray⟩] 32)).alloc (.cells #[.int .u32 0, .string ⟨#[]⟩] 32)) :=
  ⟨(((((Fr.refl nob w).alloc _).alloc _).alloc _).alloc _), cell_alloc_l (cell_alloc_l (cell_alloc_l (World.cell?_alloc_at _ _ _ _ (by simp)) _) _) _, cell_alloc_l (cell_alloc_l (cell_alloc_l (World.cell?_alloc_at _ _ _ _ (by simp)) _) _) _,
    cell_alloc_l (cell_alloc_l (World.cell?_alloc_at _ _ _ _ (by simp)) _) _, cell_alloc_l (cell_alloc_l (World.cell?_alloc_at _ _ _ _ (by simp)) _) _, cell_alloc_l (World.cell?_alloc_at _ _ _ _ (by simp)) _, cell_alloc_l (World.cell?_alloc_at _ _ _ _ (by simp)) _,
    World.cell?_alloc_at _ _ _ _ (by simp), World.cell?_alloc_at _ _ _ _ (by simp), World.frozen?_alloc_at _ _ _ _ (by simp), World.frozen?_alloc_at _ _ _ _ (by simp)⟩

theorem ite_T {B' C : B} (hB : B'.ok 0) (hC : C.ok 0) : ite .T B' C = B' := eq_of_ev (ok_ite0 _ _ _) hB (fun c => by rw [ev_ite (x := .T) trivial hB hC]; simp [B.ev])
theorem ite_F {B' C : B} (hB : B'.ok 0) (hC : C.ok 0) : ite .F B' C = C := eq_of_ev (ok_ite0 _ _ _) hC (fun c => by rw [ev_ite (x := .F) trivial hB hC]; simp [B.ev])
theorem ite_same {A B' : B} (hA : A.ok 0) (hB : B'.ok 0) : ite A B' B' = B' := eq_of_ev (ok_ite0 _ _ _) hB (fun c => by rw [ev_ite hA hB hB]; simp)
theorem ite_TF {A : B} (hA : A.ok 0) : ite A .T .F = A := eq_of_ev (ok_ite0 _ _ _) hA (fun c => by rw [ev_ite (y := .T) (z := .F) hA trivial trivial]; simp [B.ev])

set_option maxRecDepth 100000 in
set_option maxHeartbeats 1000000 in
theorem Ite_any (A B' C : B) (hA : A.ok 0) (hB : B'.ok 0) (hC : C.ok 0) (w : World) : Calls Tryz.prog 62 #[dval A, dval B', dval C] w fun e w' => e = .returned (dval (ite A B' C)) ∧ Below w.heap.size w w' := by
  have S0 := IteSt.start A B' C w
  have hmf : ∀ (fn : Fn) (first cap : Array Value) (w : World), (Instr.makeFunc fn first cap).run Tryz.prog w = .ok (.func fn first cap) w := fun _ _ _ _ => rfl
  go_enter Tryz.func62, Tryz.ntmps62
  go_wp2_with fail
  refine (Full_any A _).mono ?_
  rintro e w1 ⟨rfl, hb⟩
  have S1 := S0.kept hb
  clear hb
  by_cases h1 : A = .T
  · subst h1
    have ⟨_, a01, a11, b01, b11, c01, c11, r01, r11, f01, f11⟩ := S1
    rw [show decide (B.T = .T) = true by simp]
    go_wp2_with fail
    refine bodyPost_ret (v := dval B') (by simp [results, Tryz.results62, go_sem, r01, r11]) rfl ⟨by rw [ite_T hB hC], ?_⟩
    exact ((S1.fr.set1 (by omega) _).set1 (by omega) _).to_below (Nat.le_refl _) (fun _ h => h.elim)
  rw [show decide (A = .T) = false by simp [h1]]
  have ⟨_, a01, a11, b01, b11, c01, c11, r01, r11, f01, f11⟩ := S1
  go_wp2_with fail
  clear a01 a11 b01 b11 c01 c11 r01 r11 f01 f11
  refine (Same_any B' C hB hC _).mono ?_
  rintro e w2 ⟨rfl, hb⟩
  have S2 := S1.kept hb
  clear hb
  by_cases h2 : B' = C
  · subst h2
    rw [show decide (B' = B') = true by simp]
    have ⟨_, a02, a12, b02, b12, c02, c12, r02, r12, f02, f12⟩ := S2
    go_wp2_with fail
    refine bodyPost_ret (v := dval B') (by simp [results, Tryz.results62, go_sem, r02, r12]) rfl ⟨by rw [ite_same hA hB], ?_⟩
    exact ((S2.fr.set1 (by omega) _).set1 (by omega) _).to_below (Nat.le_refl _) (fun _ h => h.elim)
  rw [show decide (B' = C) = false by simp [h2]]
  have ⟨_, a02, a12, b02, b12, c02, c12, r02, r12, f02, f12⟩ := S2
  go_wp2_with fail
  clear a02 a12 b02 b12 c02 c12 r02 r12 f02 f12
  refine (Empty_any A _).mono ?_
  rintro e w3 ⟨rfl, hb⟩
  have S3 := S2.kept hb
  clear hb
  by_cases h3 : A = .F
  · subst h3
    rw [show decide (B.F = .F) = true by simp]
    have ⟨_, a03, a13, b03, b13, c03, c13, r03, r13, f03, f13⟩ := S3
    go_wp2_with fail
    refine bodyPost_ret (v := dval C) (by simp [results, Tryz.results62, go_sem, r03, r13]) rfl ⟨by rw [ite_F hB hC], ?_⟩
    exact ((S3.fr.set1 (by omega) _).set1 (by omega) _).to_below (Nat.le_refl _) (fun _ h => h.elim)
  rw [show decide (A = .F) = false by simp [h3]]
  have ⟨_, a03, a13, b03, b13, c03, c13, r03, r13, f03, f13⟩ := S3
  go_wp2_with fail
  clear a03 a13 b03 b13 c03 c13 r03 r13 f03 f13
  refine (Full_any B' _).mono ?_
  rintro e w4 ⟨rfl, hb⟩
  have S4 := S3.kept hb
  clear hb
  by_cases h4 : B' = .T
  · subst h4
    rw [show decide (B.T = .T) = true by simp]
    have ⟨_, a04, a14, b04, b14, c04, c14, r04, r14, f04, f14⟩ := S4
    go_wp2_with fail
    clear a04 a14 b04 b14 c04 c14 r04 r14 f04 f14
    refine (Empty_any C _).mono ?_
    rintro e w5 ⟨rfl, hb⟩
    have S5 := S4.kept hb
    clear hb
    by_cases h5 : C = .F
    · rw [show decide (C = .F) = true by simp [h5]]
      have ⟨_, a05, a15, b05, b15, c05, c15, r05, r15, f05, f15⟩ := S5
      go_wp2_with fail
      refine bodyPost_ret (v := dval A) (by simp [results, Tryz.results62, go_sem, r05, r15]) rfl ⟨by rw [h5, ite_TF hA], ?_⟩
      exact ((S5.fr.set1 (by omega) _).set1 (by omega) _).to_below (Nat.le_refl _) (fun _ h => h.elim)
    · rw [show decide (C = .F) = false by simp [h5]]
      have ⟨_, a05, a15, b05, b15, c05, c15, r05, r15, f05, f15⟩ := S5
      have a0' := cell_alloc_l a05
      have b0' := cell_alloc_l b05
      have c0' := cell_alloc_l c05
      go_wp2_with fail
      have fr5 := S5.fr
      clear a0' b0' c0'
      refine (growIte A .T C hA hB hC _).mono ?_
      rintro e w6 ⟨rfl, hb⟩
      have F := (Fr.refl nob _).below hb
      have r0 := F.cell (cell_alloc_l r05 _) (fun h => h)
      have r1 := F.cell (cell_alloc_l r15 _) (fun h => h)
      have l0 := lt_of_cell r05
      have f0 := (F.frozen (p := ⟨w.heap.size + 1 + 1 + 1, 0, none⟩) (by rw [World.size_alloc]; exact Nat.lt_succ_of_lt l0) (fun h => h)).trans ((World.frozen?_of_block (Below.heap_alloc _ _ _ l0)).trans f05)
      have f1 := (F.frozen (p := ⟨w.heap.size + 1 + 1 + 1, 1, none⟩) (by rw [World.size_alloc]; exact Nat.lt_succ_of_lt l0) (fun h => h)).trans ((World.frozen?_of_block (a := ⟨w.heap.size + 1 + 1 + 1, 1, none⟩) (Below.heap_alloc _ _ _ l0)).trans f15)
      have G := (fr5.alloc _).trans F (fun _ _ h => h)
      clear F hb
      go_wp2_with fail
      refine bodyPost_ret (v := dval (Bd.ite A .T C)) (by simp [results, Tryz.results62, go_sem, r0, r1]) rfl ⟨rfl, ?_⟩
      exact ((G.set1 (by omega) _).set1 (by omega) _).to_below (Nat.le_refl _) (fun _ h => h.elim)
  · rw [show decide (B' = .T) = false by simp [h4]]
    have ⟨_, a04, a14, b04, b14, c04, c14, r04, r14, f04, f14⟩ := S4
    have a0' := cell_alloc_l a04
    have b0' := cell_alloc_l b04
    have c0' := cell_alloc_l c04
    go_wp2_with fail
    have fr4 := S4.fr
    clear a0' b0' c0'
    refine (growIte A B' C hA hB hC _).mono ?_
    rintro e w5 ⟨rfl, hb⟩
    have F := (Fr.refl nob _).below hb
    have r0 := F.cell (cell_alloc_l r04 _) (fun h => h)
    have r1 := F.cell (cell_alloc_l r14 _) (fun h => h)
    have l0 := lt_of_cell r04
    have f0 := (F.frozen (p := ⟨w.heap.size + 1 + 1 + 1, 0, none⟩) (by rw [World.size_alloc]; exact Nat.lt_succ_of_lt l0) (fun h => h)).trans ((World.frozen?_of_block (Below.heap_alloc _ _ _ l0)).trans f04)
    have f1 := (F.frozen (p := ⟨w.heap.size + 1 + 1 + 1, 1, none⟩) (by rw [World.size_alloc]; exact Nat.lt_succ_of_lt l0) (fun h => h)).trans ((World.frozen?_of_block (a := ⟨w.heap.size + 1 + 1 + 1, 1, none⟩) (Below.heap_alloc _ _ _ l0)).trans f14)
    have G := (fr4.alloc _).trans F (fun _ _ h => h)
    clear F hb
    go_wp2_with fail
    refine bodyPost_ret (v := dval (Bd.ite A B' C)) (by simp [results, Tryz.results62, go_sem, r0, r1]) rfl ⟨rfl, ?_⟩
    exact ((G.set1 (by omega) _).set1 (by omega) _).to_below (Nat.le_refl _) (fun _ h => h.elim)
end Go.Proofs.YtalnhlebgofiiaaGreatDoor
