import Derived.Test.YtiainlccodnlmaaGreatDoorCmp
import Derived.Test.YtiainlccodnlmaaGreatDoorRuleD
namespace Go.Proofs.YtiainlccodnlmaaGreatDoor
open Go.RowKit Go.Sort
open Bd

theorem or3_cmp (x y : Cub) : or3 (cmp3 (popN x.1.val + popN x.2.val) (popN y.1.val + popN y.2.val)) (cmp3 x.1.val y.1.val) (cmp3 x.2.val y.2.val) = cubeCmp popN x y := rfl

theorem three_new (w : World) (a b c : Value) (T : TypeId) : (w.alloc (.cells #[a, b, c] T)).cell? ⟨w.heap.size, 0, none⟩ = some a ∧ (w.alloc (.cells #[a, b, c] T)).cell? ⟨w.heap.size, 1, none⟩ = some b ∧ (w.alloc (.cells #[a, b, c] T)).cell? ⟨w.heap.size, 2, none⟩ = some c := ⟨World.cell?_alloc_at _ _ _ _ (by simp), World.cell?_alloc_at _ _ _ _ (by simp), World.cell?_alloc_at _ _ _ _ (by simp)⟩

set_option maxRecDepth 100000 in
set_option maxHeartbeats 1000000 in
theorem cmpC_any (x y : Cub) (w : World) : Calls Tryz.prog 52 #[.agg #[.int .u32 (x.1.val : Int), .int .u32 (x.2.val : Int)], .agg #[.int .u32 (y.1.val : Int), .int .u32 (y.2.val : Int)]] w fun e w' => e = .returned (.int .i64 (cubeCmp popN x y)) ∧ ∃ q os', w' = grow (w.drewN q) os' := by
  rw [← or3_cmp]
  obtain ⟨p0, p1⟩ := two_new w (.int .u32 (x.1.val : Int)) (.int .u32 (x.2.val : Int)) 49
  have c0 := cell_alloc_l p0 (.cells #[.int .u32 (y.1.val : Int), .int .u32 (y.2.val : Int)] 49)
  have c1 := cell_alloc_l p1 (.cells #[.int .u32 (y.1.val : Int), .int .u32 (y.2.val : Int)] 49)
  obtain ⟨d0, d1⟩ := two_new (w.alloc (.cells #[.int .u32 (x.1.val : Int), .int .u32 (x.2.val : Int)] 49)) (.int .u32 (y.1.val : Int)) (.int .u32 (y.2.val : Int)) 49
  rw [World.size_alloc] at d0 d1
  have fr : D.FrD w ((w.alloc (.cells #[.int .u32 (x.1.val : Int), .int .u32 (x.2.val : Int)] 49)).alloc (.cells #[.int .u32 (y.1.val : Int), .int .u32 (y.2.val : Int)] 49)) := ((D.FrD.refl w).alloc _).alloc _
  clear p0 p1
  go_enter Tryz.func52, Tryz.ntmps52
  go_wp2_with fail
  generalize (w.alloc (.cells #[.int .u32 (x.1.val : Int), .int .u32 (x.2.val : Int)] 49)).alloc (.cells #[.int .u32 (y.1.val : Int), .int .u32 (y.2.val : Int)] 49) = W at *
  refine D.wp_region_grow' 15 22 (fun _ => #[]) [] (by kernel_rfl) (by kernel_rfl) rfl rfl (by intro T h; cases h) ?_
  simp only [List.take_succ_cons, List.take_zero]
  refine D.grow_step (v := ?v0) rfl rfl ?a0 ?b0
  case a0 =>
    intro w' hw'
    have y0 := hw'.fr.cell c0 (fun h => h)
    have y1 := hw'.fr.cell c1 (fun h => h)
    have y2 := hw'.fr.cell d0 (fun h => h)
    have y3 := hw'.fr.cell d1 (fun h => h)
    clear hw'
    refine D.growAt_value ?_
    go_simp
    rfl
  simp only [Act.put, List.setIfInBounds_toArray, List.set_cons_zero, List.set_cons_succ]
  refine D.grow_step (v := .int .i64 ((popN x.1.val + popN x.2.val : Nat) : Int)) rfl rfl ?a1 ?b1
  case a1 =>
    intro w' hw'
    refine D.growAt_call ?_ ((cubeSize_any x w').mono fun e w'' ⟨he, hb⟩ => ⟨he, D.FrD.of_grown hb⟩)
    go_simp
  simp only [Act.put, List.setIfInBounds_toArray, List.set_cons_zero, List.set_cons_succ]
  refine D.grow_step (v := ?v2) rfl rfl ?a2 ?b2
  case a2 =>
    intro w' hw'
    have y0 := hw'.fr.cell c0 (fun h => h)
    have y1 := hw'.fr.cell c1 (fun h => h)
    have y2 := hw'.fr.cell d0 (fun h => h)
    have y3 := hw'.fr.cell d1 (fun h => h)
    clear hw'
    refine D.growAt_value ?_
    go_simp
    rfl
  simp only [Act.put, List.setIfInBounds_toArray, List.set_cons_zero, List.set_cons_succ]
  refine D.grow_step (v := .int .i64 ((popN y.1.val + popN y.2.val : Nat) : Int)) rfl rfl ?a3 ?b3
  case a3 =>
    intro w' hw'
    refine D.growAt_call ?_ ((cubeSize_any y w').mono fun e w'' ⟨he, hb⟩ => ⟨he, D.FrD.of_grown hb⟩)
    go_simp
  simp only [Act.put, List.setIfInBounds_toArray, List.set_cons_zero, List.set_cons_succ]
  refine D.grow_step (v := .int .i64 (cmp3 (popN x.1.val + popN x.2.val : Nat) (popN y.1.val + popN y.2.val : Nat))) rfl rfl ?a4 ?b4
  case a4 =>
    intro w' hw'
    refine D.growAt_call ?_ ((compareI_any (popN x.1.val + popN x.2.val : Nat) (popN y.1.val + popN y.2.val : Nat) w').mono fun e w'' ⟨he, hb⟩ => ⟨he, hb ▸ D.FrD.refl _⟩)
    go_simp
  simp only [Act.put, List.setIfInBounds_toArray, List.set_cons_zero, List.set_cons_succ]
  refine D.grow_step (v := ?v5) rfl rfl ?a5 ?b5
  case a5 =>
    intro w' hw'
    have y0 := hw'.fr.cell c0 (fun h => h)
    have y1 := hw'.fr.cell c1 (fun h => h)
    have y2 := hw'.fr.cell d0 (fun h => h)
    have y3 := hw'.fr.cell d1 (fun h => h)
    clear hw'
    refine D.growAt_value ?_
    go_simp
    rfl
  simp only [Act.put, List.setIfInBounds_toArray, List.set_cons_zero, List.set_cons_succ]
  refine D.grow_step (v := ?v6) rfl rfl ?a6 ?b6
  case a6 =>
    intro w' hw'
    have y0 := hw'.fr.cell c0 (fun h => h)
    have y1 := hw'.fr.cell c1 (fun h => h)
    have y2 := hw'.fr.cell d0 (fun h => h)
    have y3 := hw'.fr.cell d1 (fun h => h)
    clear hw'
    refine D.growAt_value ?_
    go_simp
    rfl
  simp only [Act.put, List.setIfInBounds_toArray, List.set_cons_zero, List.set_cons_succ]
  refine D.grow_step (v := ?v7) rfl rfl ?a7 ?b7
  case a7 =>
    intro w' hw'
    have y0 := hw'.fr.cell c0 (fun h => h)
    have y1 := hw'.fr.cell c1 (fun h => h)
    have y2 := hw'.fr.cell d0 (fun h => h)
    have y3 := hw'.fr.cell d1 (fun h => h)
    clear hw'
    refine D.growAt_value ?_
    go_simp
    rfl
  simp only [Act.put, List.setIfInBounds_toArray, List.set_cons_zero, List.set_cons_succ]
  refine D.grow_step (v := ?v8) rfl rfl ?a8 ?b8
  case a8 =>
    intro w' hw'
    have y0 := hw'.fr.cell c0 (fun h => h)
    have y1 := hw'.fr.cell c1 (fun h => h)
    have y2 := hw'.fr.cell d0 (fun h => h)
    have y3 := hw'.fr.cell d1 (fun h => h)
    clear hw'
    refine D.growAt_value ?_
    go_simp
    rfl
  simp only [Act.put, List.setIfInBounds_toArray, List.set_cons_zero, List.set_cons_succ]
  refine D.grow_step (v := .int .i64 (cmp3 x.1.val y.1.val)) rfl rfl ?a9 ?b9
  case a9 =>
    intro w' hw'
    refine D.growAt_call ?_ ((compareU_any x.1.val y.1.val w').mono fun e w'' ⟨he, hb⟩ => ⟨he, hb ▸ D.FrD.refl _⟩)
    go_simp
  simp only [Act.put, List.setIfInBounds_toArray, List.set_cons_zero, List.set_cons_succ]
  refine D.grow_step (v := ?v10) rfl rfl ?a10 ?b10
  case a10 =>
    intro w' hw'
    have y0 := hw'.fr.cell c0 (fun h => h)
    have y1 := hw'.fr.cell c1 (fun h => h)
    have y2 := hw'.fr.cell d0 (fun h => h)
    have y3 := hw'.fr.cell d1 (fun h => h)
    clear hw'
    refine D.growAt_value ?_
    go_simp
    rfl
  simp only [Act.put, List.setIfInBounds_toArray, List.set_cons_zero, List.set_cons_succ]
  refine D.grow_step (v := ?v11) rfl rfl ?a11 ?b11
  case a11 =>
    intro w' hw'
    have y0 := hw'.fr.cell c0 (fun h => h)
    have y1 := hw'.fr.cell c1 (fun h => h)
    have y2 := hw'.fr.cell d0 (fun h => h)
    have y3 := hw'.fr.cell d1 (fun h => h)
    clear hw'
    refine D.growAt_value ?_
    go_simp
    rfl
  simp only [Act.put, List.setIfInBounds_toArray, List.set_cons_zero, List.set_cons_succ]
  refine D.grow_step (v := ?v12) rfl rfl ?a12 ?b12
  case a12 =>
    intro w' hw'
    have y0 := hw'.fr.cell c0 (fun h => h)
    have y1 := hw'.fr.cell c1 (fun h => h)
    have y2 := hw'.fr.cell d0 (fun h => h)
    have y3 := hw'.fr.cell d1 (fun h => h)
    clear hw'
    refine D.growAt_value ?_
    go_simp
    rfl
  simp only [Act.put, List.setIfInBounds_toArray, List.set_cons_zero, List.set_cons_succ]
  refine D.grow_step (v := ?v13) rfl rfl ?a13 ?b13
  case a13 =>
    intro w' hw'
    have y0 := hw'.fr.cell c0 (fun h => h)
    have y1 := hw'.fr.cell c1 (fun h => h)
    have y2 := hw'.fr.cell d0 (fun h => h)
    have y3 := hw'.fr.cell d1 (fun h => h)
    clear hw'
    refine D.growAt_value ?_
    go_simp
    rfl
  simp only [Act.put, List.setIfInBounds_toArray, List.set_cons_zero, List.set_cons_succ]
  refine D.grow_step (v := .int .i64 (cmp3 x.2.val y.2.val)) rfl rfl ?a14 ?b14
  case a14 =>
    intro w' hw'
    refine D.growAt_call ?_ ((compareU_any x.2.val y.2.val w').mono fun e w'' ⟨he, hb⟩ => ⟨he, hb ▸ D.FrD.refl _⟩)
    go_simp
  simp only [Act.put, List.setIfInBounds_toArray, List.set_cons_zero, List.set_cons_succ]
  refine D.grow_nil ?_
  intro w2 listed fr2 _ _
  have G := fr.trans fr2
  clear c0 c1 d0 d1 fr fr2
  obtain ⟨e0, e1, e2⟩ := three_new w2 (.int .i64 (cmp3 (popN x.1.val + popN x.2.val) (popN y.1.val + popN y.2.val))) (.int .i64 (cmp3 x.1.val y.1.val)) (.int .i64 (cmp3 x.2.val y.2.val)) 3
  go_wp2_with fail
  refine (or3_any _ _ _ _ _ _ e0 e1 e2).mono ?_
  rintro e w3 ⟨rfl, rfl⟩
  clear e0 e1 e2
  go_wp2_with fail
  go_ret
  exact ⟨rfl, (G.alloc _).grown⟩
end Go.Proofs.YtiainlccodnlmaaGreatDoor
