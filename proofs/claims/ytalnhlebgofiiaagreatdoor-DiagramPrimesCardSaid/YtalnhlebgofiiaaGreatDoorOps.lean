import Derived.Test.YtalnhlebgofiiaaGreatDoorIte
namespace Go.Proofs.YtalnhlebgofiiaaGreatDoor
open Go.RowKit
open Bd

set_option maxRecDepth 100000 in
set_option maxHeartbeats 400000 in
theorem True_any (w : World) : Calls Tryz.prog 63 #[] w fun e w' => e = .returned (dval .T) ∧ Below w.heap.size w w' := by
  go_enter Tryz.func63, Tryz.ntmps63
  go_wp2
  refine bodyPost_ret (v := dval .T) (by simp [results, Tryz.results63, go_sem, dval]; exact ⟨rfl, rfl⟩) rfl ⟨rfl, ?_⟩
  exact (Below.refl _ _).alloc (Nat.le_refl _) _

set_option maxRecDepth 100000 in
set_option maxHeartbeats 400000 in
theorem False_any (w : World) : Calls Tryz.prog 23 #[] w fun e w' => e = .returned (dval .F) ∧ Below w.heap.size w w' := by
  go_enter Tryz.func23, Tryz.ntmps23
  go_wp2
  refine bodyPost_ret (v := dval .F) (by simp [results, Tryz.results23, go_sem, dval]; exact ⟨rfl, rfl⟩) rfl ⟨rfl, ?_⟩
  exact (Below.refl _ _).alloc (Nat.le_refl _) _

set_option maxRecDepth 100000 in
set_option maxHeartbeats 400000 in
theorem And_any (A B' : B) (hA : A.ok 0) (hB : B'.ok 0) (w : World) : Calls Tryz.prog 30 #[dval A, dval B'] w fun e w' => e = .returned (dval (ite A B' .F)) ∧ Below w.heap.size w w' := by
  have a0 := cell_alloc_l (cell_alloc_l (World.cell?_alloc_at _ _ _ _ (by simp) : (w.alloc (.cells #[.int .u32 (place (li A) A : Int), .string ⟨(code (rows (li A))).toArray⟩] 32)).cell? ⟨w.heap.size, 0, none⟩ = some (.int .u32 (place (li A) A : Int))) (.cells #[.int .u32 (place (li B') B' : Int), .string ⟨(code (rows (li B'))).toArray⟩] 32)) (.cells #[.int .u32 0, .string ⟨#[]⟩] 32)
  have a1 := cell_alloc_l (cell_alloc_l (World.cell?_alloc_at _ _ _ _ (by simp) : (w.alloc (.cells #[.int .u32 (place (li A) A : Int), .string ⟨(code (rows (li A))).toArray⟩] 32)).cell? ⟨w.heap.size, 1, none⟩ = some (.string ⟨(code (rows (li A))).toArray⟩)) (.cells #[.int .u32 (place (li B') B' : Int), .string ⟨(code (rows (li B'))).toArray⟩] 32)) (.cells #[.int .u32 0, .string ⟨#[]⟩] 32)
  have b0 := cell_alloc_l (World.cell?_alloc_at _ _ _ _ (by simp) : (((w.alloc (.cells #[.int .u32 (place (li A) A : Int), .string ⟨(code (rows (li A))).toArray⟩] 32)).alloc (.cells #[.int .u32 (place (li B') B' : Int), .string ⟨(code (rows (li B'))).toArray⟩] 32)).cell? ⟨w.heap.size + 1, 0, none⟩ = some (.int .u32 (place (li B') B' : Int)))) (.cells #[.int .u32 0, .string ⟨#[]⟩] 32)
  have b1 := cell_alloc_l (World.cell?_alloc_at _ _ _ _ (by simp) : (((w.alloc (.cells #[.int .u32 (place (li A) A : Int), .string ⟨(code (rows (li A))).toArray⟩] 32)).alloc (.cells #[.int .u32 (place (li B') B' : Int), .string ⟨(code (rows (li B'))).toArray⟩] 32)).cell? ⟨w.heap.size + 1, 1, none⟩ = some (.string ⟨(code (rows (li B'))).toArray⟩))) (.cells #[.int .u32 0, .string ⟨#[]⟩] 32)
  have fr := ((Fr.refl nob w).alloc (.cells #[.int .u32 (place (li A) A : Int), .string ⟨(code (rows (li A))).toArray⟩] 32)).alloc (.cells #[.int .u32 (place (li B') B' : Int), .string ⟨(code (rows (li B'))).toArray⟩] 32) |>.alloc (.cells #[.int .u32 0, .string ⟨#[]⟩] 32)
  have r0 : ((((w.alloc (.cells #[.int .u32 (place (li A) A : Int), .string ⟨(code (rows (li A))).toArray⟩] 32)).alloc (.cells #[.int .u32 (place (li B') B' : Int), .string ⟨(code (rows (li B'))).toArray⟩] 32)).alloc (.cells #[.int .u32 0, .string ⟨#[]⟩] 32))).cell? ⟨w.heap.size + 1 + 1, 0, none⟩ = some (.int .u32 0) := World.cell?_alloc_at _ _ _ _ (by simp)
  have r1 : ((((w.alloc (.cells #[.int .u32 (place (li A) A : Int), .string ⟨(code (rows (li A))).toArray⟩] 32)).alloc (.cells #[.int .u32 (place (li B') B' : Int), .string ⟨(code (rows (li B'))).toArray⟩] 32)).alloc (.cells #[.int .u32 0, .string ⟨#[]⟩] 32))).cell? ⟨w.heap.size + 1 + 1, 1, none⟩ = some (.string ⟨#[]⟩) := World.cell?_alloc_at _ _ _ _ (by simp)
  have f0 : ((((w.alloc (.cells #[.int .u32 (place (li A) A : Int), .string ⟨(code (rows (li A))).toArray⟩] 32)).alloc (.cells #[.int .u32 (place (li B') B' : Int), .string ⟨(code (rows (li B'))).toArray⟩] 32)).alloc (.cells #[.int .u32 0, .string ⟨#[]⟩] 32))).frozen? ⟨w.heap.size + 1 + 1, 0, none⟩ = false := World.frozen?_alloc_at _ _ _ _ (by simp)
  have f1 : ((((w.alloc (.cells #[.int .u32 (place (li A) A : Int), .string ⟨(code (rows (li A))).toArray⟩] 32)).alloc (.cells #[.int .u32 (place (li B') B' : Int), .string ⟨(code (rows (li B'))).toArray⟩] 32)).alloc (.cells #[.int .u32 0, .string ⟨#[]⟩] 32))).frozen? ⟨w.heap.size + 1 + 1, 1, none⟩ = false := World.frozen?_alloc_at _ _ _ _ (by simp)
  go_enter Tryz.func30, Tryz.ntmps30
  go_wp2_with fail
  refine wp_region_grow' 4 9 (fun _ => #[]) [] (by kernel_rfl) (by kernel_rfl) rfl rfl (by intro T h; cases h) ?_
  generalize (((w.alloc (.cells #[.int .u32 (place (li A) A : Int), .string ⟨(code (rows (li A))).toArray⟩] 32)).alloc (.cells #[.int .u32 (place (li B') B' : Int), .string ⟨(code (rows (li B'))).toArray⟩] 32)).alloc (.cells #[.int .u32 0, .string ⟨#[]⟩] 32)) = W at *
  simp only [List.take_succ_cons, List.take_zero]
  refine grow_step (v := ?v0) rfl rfl ?a0 ?b0
  case a0 =>
    intro w' hw'
    have y_a0 := hw'.cell a0 (fun h => h)
    have y_a1 := hw'.cell a1 (fun h => h)
    clear hw'
    refine growAt_value ?_
    go_simp
    rfl
  simp only [Act.put, List.setIfInBounds_toArray, List.set_cons_zero, List.set_cons_succ]
  refine grow_step (v := ?v1) rfl rfl ?a1 ?b1
  case a1 =>
    intro w' hw'
    have y_b0 := hw'.cell b0 (fun h => h)
    have y_b1 := hw'.cell b1 (fun h => h)
    clear hw'
    refine growAt_value ?_
    go_simp
    rfl
  simp only [Act.put, List.setIfInBounds_toArray, List.set_cons_zero, List.set_cons_succ]
  refine grow_step (v := dval .F) rfl rfl ?a2 ?b2
  case a2 =>
    intro w' hw'
    refine growAt_call ?_ ((False_any w').mono fun e w'' ⟨he, hb⟩ => ⟨he, (Fr.refl nob _).below hb⟩)
    go_simp
  simp only [Act.put, List.setIfInBounds_toArray, List.set_cons_zero, List.set_cons_succ]
  refine grow_step (v := dval (ite A B' .F)) rfl rfl ?a3 ?b3
  case a3 =>
    intro w' hw'
    refine growAt_call ?_ ((Ite_any A B' .F hA hB trivial w').mono fun e w'' ⟨he, hb⟩ => ⟨he, (Fr.refl nob _).below hb⟩)
    go_simp
  simp only [Act.put, List.setIfInBounds_toArray, List.set_cons_zero, List.set_cons_succ]
  refine grow_nil ?_
  intro w2 listed fr2 _ _
  have r02 := fr2.cell r0 (fun h => h)
  have r12 := fr2.cell r1 (fun h => h)
  have l0 := lt_of_cell r0
  have f02 := (fr2.frozen (p := ⟨w.heap.size + 1 + 1, 0, none⟩) l0 (fun h => h)).trans f0
  have f12 := (fr2.frozen (p := ⟨w.heap.size + 1 + 1, 1, none⟩) l0 (fun h => h)).trans f1
  have G := fr.trans fr2 (fun _ _ h => h)
  clear a0 a1 b0 b1 fr fr2 r0 r1 f0 f1
  go_wp2_with fail
  refine bodyPost_ret (v := dval (ite A B' .F)) (by simp [results, Tryz.results30, go_sem, r02, r12]) rfl ⟨rfl, ?_⟩
  exact ((G.set1 (by omega) _).set1 (by omega) _).to_below (Nat.le_refl _) (fun _ h => h.elim)

set_option maxRecDepth 100000 in
set_option maxHeartbeats 400000 in
theorem Or_any (A B' : B) (hA : A.ok 0) (hB : B'.ok 0) (w : World) : Calls Tryz.prog 27 #[dval A, dval B'] w fun e w' => e = .returned (dval (ite A .T B')) ∧ Below w.heap.size w w' := by
  have a0 := cell_alloc_l (cell_alloc_l (World.cell?_alloc_at _ _ _ _ (by simp) : (w.alloc (.cells #[.int .u32 (place (li A) A : Int), .string ⟨(code (rows (li A))).toArray⟩] 32)).cell? ⟨w.heap.size, 0, none⟩ = some (.int .u32 (place (li A) A : Int))) (.cells #[.int .u32 (place (li B') B' : Int), .string ⟨(code (rows (li B'))).toArray⟩] 32)) (.cells #[.int .u32 0, .string ⟨#[]⟩] 32)
  have a1 := cell_alloc_l (cell_alloc_l (World.cell?_alloc_at _ _ _ _ (by simp) : (w.alloc (.cells #[.int .u32 (place (li A) A : Int), .string ⟨(code (rows (li A))).toArray⟩] 32)).cell? ⟨w.heap.size, 1, none⟩ = some (.string ⟨(code (rows (li A))).toArray⟩)) (.cells #[.int .u32 (place (li B') B' : Int), .string ⟨(code (rows (li B'))).toArray⟩] 32)) (.cells #[.int .u32 0, .string ⟨#[]⟩] 32)
  have b0 := cell_alloc_l (World.cell?_alloc_at _ _ _ _ (by simp) : (((w.alloc (.cells #[.int .u32 (place (li A) A : Int), .string ⟨(code (rows (li A))).toArray⟩] 32)).alloc (.cells #[.int .u32 (place (li B') B' : Int), .string ⟨(code (rows (li B'))).toArray⟩] 32)).cell? ⟨w.heap.size + 1, 0, none⟩ = some (.int .u32 (place (li B') B' : Int)))) (.cells #[.int .u32 0, .string ⟨#[]⟩] 32)
  have b1 := cell_alloc_l (World.cell?_alloc_at _ _ _ _ (by simp) : (((w.alloc (.cells #[.int .u32 (place (li A) A : Int), .string ⟨(code (rows (li A))).toArray⟩] 32)).alloc (.cells #[.int .u32 (place (li B') B' : Int), .string ⟨(code (rows (li B'))).toArray⟩] 32)).cell? ⟨w.heap.size + 1, 1, none⟩ = some (.string ⟨(code (rows (li B'))).toArray⟩))) (.cells #[.int .u32 0, .string ⟨#[]⟩] 32)
  have fr := ((Fr.refl nob w).alloc (.cells #[.int .u32 (place (li A) A : Int), .string ⟨(code (rows (li A))).toArray⟩] 32)).alloc (.cells #[.int .u32 (place (li B') B' : Int), .string ⟨(code (rows (li B'))).toArray⟩] 32) |>.alloc (.cells #[.int .u32 0, .string ⟨#[]⟩] 32)
  have r0 : ((((w.alloc (.cells #[.int .u32 (place (li A) A : Int), .string ⟨(code (rows (li A))).toArray⟩] 32)).alloc (.cells #[.int .u32 (place (li B') B' : Int), .string ⟨(code (rows (li B'))).toArray⟩] 32)).alloc (.cells #[.int .u32 0, .string ⟨#[]⟩] 32))).cell? ⟨w.heap.size + 1 + 1, 0, none⟩ = some (.int .u32 0) := World.cell?_alloc_at _ _ _ _ (by simp)
  have r1 : ((((w.alloc (.cells #[.int .u32 (place (li A) A : Int), .string ⟨(code (rows (li A))).toArray⟩] 32)).alloc (.cells #[.int .u32 (place (li B') B' : Int), .string ⟨(code (rows (li B'))).toArray⟩] 32)).alloc (.cells #[.int .u32 0, .string ⟨#[]⟩] 32))).cell? ⟨w.heap.size + 1 + 1, 1, none⟩ = some (.string ⟨#[]⟩) := World.cell?_alloc_at _ _ _ _ (by simp)
  have f0 : ((((w.alloc (.cells #[.int .u32 (place (li A) A : Int), .string ⟨(code (rows (li A))).toArray⟩] 32)).alloc (.cells #[.int .u32 (place (li B') B' : Int), .string ⟨(code (rows (li B'))).toArray⟩] 32)).alloc (.cells #[.int .u32 0, .string ⟨#[]⟩] 32))).frozen? ⟨w.heap.size + 1 + 1, 0, none⟩ = false := World.frozen?_alloc_at _ _ _ _ (by simp)
  have f1 : ((((w.alloc (.cells #[.int .u32 (place (li A) A : Int), .string ⟨(code (rows (li A))).toArray⟩] 32)).alloc (.cells #[.int .u32 (place (li B') B' : Int), .string ⟨(code (rows (li B'))).toArray⟩] 32)).alloc (.cells #[.int .u32 0, .string ⟨#[]⟩] 32))).frozen? ⟨w.heap.size + 1 + 1, 1, none⟩ = false := World.frozen?_alloc_at _ _ _ _ (by simp)
  go_enter Tryz.func27, Tryz.ntmps27
  go_wp2_with fail
  refine wp_region_grow' 4 9 (fun _ => #[]) [] (by kernel_rfl) (by kernel_rfl) rfl rfl (by intro T h; cases h) ?_
  generalize (((w.alloc (.cells #[.int .u32 (place (li A) A : Int), .string ⟨(code (rows (li A))).toArray⟩] 32)).alloc (.cells #[.int .u32 (place (li B') B' : Int), .string ⟨(code (rows (li B'))).toArray⟩] 32)).alloc (.cells #[.int .u32 0, .string ⟨#[]⟩] 32)) = W at *
  simp only [List.take_succ_cons, List.take_zero]
  refine grow_step (v := ?v0) rfl rfl ?a0 ?b0
  case a0 =>
    intro w' hw'
    have y_a0 := hw'.cell a0 (fun h => h)
    have y_a1 := hw'.cell a1 (fun h => h)
    clear hw'
    refine growAt_value ?_
    go_simp
    rfl
  simp only [Act.put, List.setIfInBounds_toArray, List.set_cons_zero, List.set_cons_succ]
  refine grow_step (v := dval .T) rfl rfl ?a1 ?b1
  case a1 =>
    intro w' hw'
    refine growAt_call ?_ ((True_any w').mono fun e w'' ⟨he, hb⟩ => ⟨he, (Fr.refl nob _).below hb⟩)
    go_simp
  simp only [Act.put, List.setIfInBounds_toArray, List.set_cons_zero, List.set_cons_succ]
  refine grow_step (v := ?v2) rfl rfl ?a2 ?b2
  case a2 =>
    intro w' hw'
    have y_b0 := hw'.cell b0 (fun h => h)
    have y_b1 := hw'.cell b1 (fun h => h)
    clear hw'
    refine growAt_value ?_
    go_simp
    rfl
  simp only [Act.put, List.setIfInBounds_toArray, List.set_cons_zero, List.set_cons_succ]
  refine grow_step (v := dval (ite A .T B')) rfl rfl ?a3 ?b3
  case a3 =>
    intro w' hw'
    refine growAt_call ?_ ((Ite_any A .T B' hA trivial hB w').mono fun e w'' ⟨he, hb⟩ => ⟨he, (Fr.refl nob _).below hb⟩)
    go_simp
  simp only [Act.put, List.setIfInBounds_toArray, List.set_cons_zero, List.set_cons_succ]
  refine grow_nil ?_
  intro w2 listed fr2 _ _
  have r02 := fr2.cell r0 (fun h => h)
  have r12 := fr2.cell r1 (fun h => h)
  have l0 := lt_of_cell r0
  have f02 := (fr2.frozen (p := ⟨w.heap.size + 1 + 1, 0, none⟩) l0 (fun h => h)).trans f0
  have f12 := (fr2.frozen (p := ⟨w.heap.size + 1 + 1, 1, none⟩) l0 (fun h => h)).trans f1
  have G := fr.trans fr2 (fun _ _ h => h)
  clear a0 a1 b0 b1 fr fr2 r0 r1 f0 f1
  go_wp2_with fail
  refine bodyPost_ret (v := dval (ite A .T B')) (by simp [results, Tryz.results27, go_sem, r02, r12]) rfl ⟨rfl, ?_⟩
  exact ((G.set1 (by omega) _).set1 (by omega) _).to_below (Nat.le_refl _) (fun _ h => h.elim)
end Go.Proofs.YtalnhlebgofiiaaGreatDoor
