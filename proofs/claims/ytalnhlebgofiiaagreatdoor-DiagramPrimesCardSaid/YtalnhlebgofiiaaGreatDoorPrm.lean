import Derived.Test.YtalnhlebgofiiaaGreatDoorCmp
import Derived.Test.YtalnhlebgofiiaaGreatDoorRuleD
import Derived.Test.YtalnhlebgofiiaaGreatDoorLayS
import Derived.RangeFuncWrites
import Derived.Test.YtalnhlebgofiiaaGreatDoorMem
import Derived.Test.YtalnhlebgofiiaaGreatDoorRefA
import Derived.Test.YtalnhlebgofiiaaGreatDoorTbD
import Derived.Deep.RegionHeld3
import Derived.Deep.RegionWith
import Derived.Deep.CutRange
namespace Go.Proofs.YtalnhlebgofiiaaGreatDoor
open Go.RowKit Go.Sort
open Bd

theorem or3_cmp (x y : Cub) : or3 (cmp3 (popN x.1.val + popN x.2.val) (popN y.1.val + popN y.2.val)) (cmp3 x.1.val y.1.val) (cmp3 x.2.val y.2.val) = cubeCmp popN x y := rfl

theorem three_new (w : World) (a b c : Value) (T : TypeId) : (w.alloc (.cells #[a, b, c] T)).cell? ⟨w.heap.size, 0, none⟩ = some a ∧ (w.alloc (.cells #[a, b, c] T)).cell? ⟨w.heap.size, 1, none⟩ = some b ∧ (w.alloc (.cells #[a, b, c] T)).cell? ⟨w.heap.size, 2, none⟩ = some c := ⟨World.cell?_alloc_at _ _ _ _ (by simp), World.cell?_alloc_at _ _ _ _ (by simp), World.cell?_alloc_at _ _ _ _ (by simp)⟩

set_option maxRecDepth 100000 in
set_option maxHeartbeats 1000000 in
theorem cmpC_any (x y : Cub) (w : World) : Calls Tryz.prog 52 #[.agg #[.int .u32 (x.1.val : Int), .int .u32 (x.2.val : Int)], .agg #[.int .u32 (y.1.val : Int), .int .u32 (y.2.val : Int)]] w fun e w' => e = .returned (.int .i64 (cubeCmp popN x y)) ∧ ∃ q os', w' = grow (w.drewN q) os' := by
  rw [← or3_cmp]
  obtain ⟨p0, p1⟩ := two_new w (.int .u32 (x.1.val : Int)) (.int .u32 (x.2.val : Int)) 49
  have c0 := cell_alloc_l p0 (.cells #[.int .u32 (y.1.val : Int), .int .u32 (y.2.val : Int)] 49)
  have c1 := cell_alloc_l p1 (.cells #[.int .u32 (y.1.val : Int), .int .u32 (y.2.val : Int)] 49)
  obtain ⟨d0, d1⟩ := two_new (w.alloc (.cells #[.int .u32 (x.1.val : Int), .int .u32 (x.2.val : Int)] 49)) (.int .u32 (y.1.val : Int)) (.int .u32 (y.2.val : Int)) 49
  rw [World.size_alloc] at d0 d1
  have fr : D.FrD w ((w.alloc (.cells #[.int .u32 (x.1.val : Int), .int .u32 (x.2.val : Int)] 49)).alloc (.cells #[.int .u32 (y.1.val : Int), .int .u32 (y.2.val : Int)] 49)) := ((D.FrD.refl w).alloc _).alloc _
  clear p0 p1
  go_enter Tryz.func52, Tryz.ntmps52
  go_wp2_with fail
  generalize (w.alloc (.cells #[.int .u32 (x.1.val : Int), .int .u32 (x.2.val : Int)] 49)).alloc (.cells #[.int .u32 (y.1.val : Int), .int .u32 (y.2.val : Int)] 49) = W at *
  refine D.wp_region_grow' 15 22 (fun _ => #[]) [] (by kernel_rfl) (by kernel_rfl) rfl rfl (by intro T h; cases h) ?_
  simp only [List.take_succ_cons, List.take_zero]
  refine D.grow_step (v := ?v0) rfl rfl ?a0 ?b0
  case a0 =>
    intro w' hw'
    have y0 := hw'.fr.cell c0 (fun h => h)
    have y1 := hw'.fr.cell c1 (fun h => h)
    have y2 := hw'.fr.cell d0 (fun h => h)
    have y3 := hw'.fr.cell d1 (fun h => h)
    clear hw'
    refine D.growAt_value ?_
    go_simp
    rfl
  simp only [Act.put, List.setIfInBounds_toArray, List.set_cons_zero, List.set_cons_succ]
  refine D.grow_step (v := .int .i64 ((popN x.1.val + popN x.2.val : Nat) : Int)) rfl rfl ?a1 ?b1
  case a1 =>
    intro w' hw'
    refine D.growAt_call ?_ ((cubeSize_any x w').mono fun e w'' ⟨he, hb⟩ => ⟨he, D.FrD.of_grown hb⟩)
    go_simp
  simp only [Act.put, List.setIfInBounds_toArray, List.set_cons_zero, List.set_cons_succ]
  refine D.grow_step (v := ?v2) rfl rfl ?a2 ?b2
  case a2 =>
    intro w' hw'
    have y0 := hw'.fr.cell c0 (fun h => h)
    have y1 := hw'.fr.cell c1 (fun h => h)
    have y2 := hw'.fr.cell d0 (fun h => h)
    have y3 := hw'.fr.cell d1 (fun h => h)
    clear hw'
    refine D.growAt_value ?_
    go_simp
    rfl
  simp only [Act.put, List.setIfInBounds_toArray, List.set_cons_zero, List.set_cons_succ]
  refine D.grow_step (v := .int .i64 ((popN y.1.val + popN y.2.val : Nat) : Int)) rfl rfl ?a3 ?b3
  case a3 =>
    intro w' hw'
    refine D.growAt_call ?_ ((cubeSize_any y w').mono fun e w'' ⟨he, hb⟩ => ⟨he, D.FrD.of_grown hb⟩)
    go_simp
  simp only [Act.put, List.setIfInBounds_toArray, List.set_cons_zero, List.set_cons_succ]
  refine D.grow_step (v := .int .i64 (cmp3 (popN x.1.val + popN x.2.val : Nat) (popN y.1.val + popN y.2.val : Nat))) rfl rfl ?a4 ?b4
  case a4 =>
    intro w' hw'
    refine D.growAt_call ?_ ((compareI_any (popN x.1.val + popN x.2.val : Nat) (popN y.1.val + popN y.2.val : Nat) w').mono fun e w'' ⟨he, hb⟩ => ⟨he, hb ▸ D.FrD.refl _⟩)
    go_simp
  simp only [Act.put, List.setIfInBounds_toArray, List.set_cons_zero, List.set_cons_succ]
  refine D.grow_step (v := ?v5) rfl rfl ?a5 ?b5
  case a5 =>
    intro w' hw'
    have y0 := hw'.fr.cell c0 (fun h => h)
    have y1 := hw'.fr.cell c1 (fun h => h)
    have y2 := hw'.fr.cell d0 (fun h => h)
    have y3 := hw'.fr.cell d1 (fun h => h)
    clear hw'
    refine D.growAt_value ?_
    go_simp
    rfl
  simp only [Act.put, List.setIfInBounds_toArray, List.set_cons_zero, List.set_cons_succ]
  refine D.grow_step (v := ?v6) rfl rfl ?a6 ?b6
  case a6 =>
    intro w' hw'
    have y0 := hw'.fr.cell c0 (fun h => h)
    have y1 := hw'.fr.cell c1 (fun h => h)
    have y2 := hw'.fr.cell d0 (fun h => h)
    have y3 := hw'.fr.cell d1 (fun h => h)
    clear hw'
    refine D.growAt_value ?_
    go_simp
    rfl
  simp only [Act.put, List.setIfInBounds_toArray, List.set_cons_zero, List.set_cons_succ]
  refine D.grow_step (v := ?v7) rfl rfl ?a7 ?b7
  case a7 =>
    intro w' hw'
    have y0 := hw'.fr.cell c0 (fun h => h)
    have y1 := hw'.fr.cell c1 (fun h => h)
    have y2 := hw'.fr.cell d0 (fun h => h)
    have y3 := hw'.fr.cell d1 (fun h => h)
    clear hw'
    refine D.growAt_value ?_
    go_simp
    rfl
  simp only [Act.put, List.setIfInBounds_toArray, List.set_cons_zero, List.set_cons_succ]
  refine D.grow_step (v := ?v8) rfl rfl ?a8 ?b8
  case a8 =>
    intro w' hw'
    have y0 := hw'.fr.cell c0 (fun h => h)
    have y1 := hw'.fr.cell c1 (fun h => h)
    have y2 := hw'.fr.cell d0 (fun h => h)
    have y3 := hw'.fr.cell d1 (fun h => h)
    clear hw'
    refine D.growAt_value ?_
    go_simp
    rfl
  simp only [Act.put, List.setIfInBounds_toArray, List.set_cons_zero, List.set_cons_succ]
  refine D.grow_step (v := .int .i64 (cmp3 x.1.val y.1.val)) rfl rfl ?a9 ?b9
  case a9 =>
    intro w' hw'
    refine D.growAt_call ?_ ((compareU_any x.1.val y.1.val w').mono fun e w'' ⟨he, hb⟩ => ⟨he, hb ▸ D.FrD.refl _⟩)
    go_simp
  simp only [Act.put, List.setIfInBounds_toArray, List.set_cons_zero, List.set_cons_succ]
  refine D.grow_step (v := ?v10) rfl rfl ?a10 ?b10
  case a10 =>
    intro w' hw'
    have y0 := hw'.fr.cell c0 (fun h => h)
    have y1 := hw'.fr.cell c1 (fun h => h)
    have y2 := hw'.fr.cell d0 (fun h => h)
    have y3 := hw'.fr.cell d1 (fun h => h)
    clear hw'
    refine D.growAt_value ?_
    go_simp
    rfl
  simp only [Act.put, List.setIfInBounds_toArray, List.set_cons_zero, List.set_cons_succ]
  refine D.grow_step (v := ?v11) rfl rfl ?a11 ?b11
  case a11 =>
    intro w' hw'
    have y0 := hw'.fr.cell c0 (fun h => h)
    have y1 := hw'.fr.cell c1 (fun h => h)
    have y2 := hw'.fr.cell d0 (fun h => h)
    have y3 := hw'.fr.cell d1 (fun h => h)
    clear hw'
    refine D.growAt_value ?_
    go_simp
    rfl
  simp only [Act.put, List.setIfInBounds_toArray, List.set_cons_zero, List.set_cons_succ]
  refine D.grow_step (v := ?v12) rfl rfl ?a12 ?b12
  case a12 =>
    intro w' hw'
    have y0 := hw'.fr.cell c0 (fun h => h)
    have y1 := hw'.fr.cell c1 (fun h => h)
    have y2 := hw'.fr.cell d0 (fun h => h)
    have y3 := hw'.fr.cell d1 (fun h => h)
    clear hw'
    refine D.growAt_value ?_
    go_simp
    rfl
  simp only [Act.put, List.setIfInBounds_toArray, List.set_cons_zero, List.set_cons_succ]
  refine D.grow_step (v := ?v13) rfl rfl ?a13 ?b13
  case a13 =>
    intro w' hw'
    have y0 := hw'.fr.cell c0 (fun h => h)
    have y1 := hw'.fr.cell c1 (fun h => h)
    have y2 := hw'.fr.cell d0 (fun h => h)
    have y3 := hw'.fr.cell d1 (fun h => h)
    clear hw'
    refine D.growAt_value ?_
    go_simp
    rfl
  simp only [Act.put, List.setIfInBounds_toArray, List.set_cons_zero, List.set_cons_succ]
  refine D.grow_step (v := .int .i64 (cmp3 x.2.val y.2.val)) rfl rfl ?a14 ?b14
  case a14 =>
    intro w' hw'
    refine D.growAt_call ?_ ((compareU_any x.2.val y.2.val w').mono fun e w'' ⟨he, hb⟩ => ⟨he, hb ▸ D.FrD.refl _⟩)
    go_simp
  simp only [Act.put, List.setIfInBounds_toArray, List.set_cons_zero, List.set_cons_succ]
  refine D.grow_nil ?_
  intro w2 listed fr2 _ _
  have G := fr.trans fr2
  clear c0 c1 d0 d1 fr fr2
  obtain ⟨e0, e1, e2⟩ := three_new w2 (.int .i64 (cmp3 (popN x.1.val + popN x.2.val) (popN y.1.val + popN y.2.val))) (.int .i64 (cmp3 x.1.val y.1.val)) (.int .i64 (cmp3 x.2.val y.2.val)) 3
  go_wp2_with fail
  refine (or3_any _ _ _ _ _ _ e0 e1 e2).mono ?_
  rintro e w3 ⟨rfl, rfl⟩
  clear e0 e1 e2
  go_wp2_with fail
  go_ret
  exact ⟨rfl, (G.alloc _).grown⟩
end Go.Proofs.YtalnhlebgofiiaaGreatDoor
namespace Go.Proofs.YtalnhlebgofiiaaGreatDoor
open Go.RowKit Go.Sort
open Bd

/-- the cells of a list of cubes -/
def ccells (L : List Cub) : List Value := L.flatMap encC
theorem ccells_length (L : List Cub) : (ccells L).length = L.length * 2 := by
  unfold ccells; rw [Bd.length_flat _ _ 2 (by intro; rfl)]
theorem ccells_at : ∀ {L : List Cub} {k : Nat} {x : Cub}, L[k]? = some x → (ccells L)[k * 2]? = some (.int .u32 (x.1.val : Int)) ∧ (ccells L)[k * 2 + 1]? = some (.int .u32 (x.2.val : Int))
  | [], _, _, h => by simp at h
  | d :: L, k, x, h => by
    have e : ccells (d :: L) = .int .u32 (d.1.val : Int) :: .int .u32 (d.2.val : Int) :: ccells L := rfl
    cases k with
    | zero => simp at h; subst h; simp [e]
    | succ k =>
      have := ccells_at (L := L) (k := k) (x := x) (by simpa using h)
      rw [e, show (k + 1) * 2 = k * 2 + 1 + 1 by omega]
      simpa using this
/-- a list of cubes, read off memory -/
def CRow (w : World) (v : Value) (L : List Cub) : Prop := ∃ (a : Option Addr) (cap : Nat), v = .slice a L.length cap ∧ ∀ k x, L[k]? = some x → ∃ b, a = some ⟨b, 0, none⟩ ∧ w.cell? ⟨b, k * 2, none⟩ = some (.int .u32 (x.1.val : Int)) ∧ w.cell? ⟨b, k * 2 + 1, none⟩ = some (.int .u32 (x.2.val : Int))
theorem CRow.kept {w w' : World} {v : Value} {L : List Cub} (h : CRow w v L) (fr : Fr nob w w') : CRow w' v L := by
  obtain ⟨a, cap, rfl, hc⟩ := h
  refine ⟨a, cap, rfl, fun k x hx => ?_⟩
  obtain ⟨b, h1, h2, h3⟩ := hc k x hx
  exact ⟨b, h1, fr.cell h2 (fun h => h), fr.cell h3 (fun h => h)⟩
theorem holds_own {w : World} {T : TypeId} {base blk cap : Nat} {L : List Cub} (h : w.ownsRow base T 2 (.slice (some ⟨blk, 0, none⟩) L.length cap) L.length (ccells L)) : HoldsK encC 2 w blk 0 L.toArray := by
  intro j hj
  rw [size_flatK] at hj
  have hj' : j < L.length * 2 := by simpa using hj
  refine ⟨?_, ?_⟩
  · rw [Nat.zero_add, h.cellAt j hj', get_flatK _ _ _ _ (by simpa using hj')]
    have hk : j / 2 < L.length := by omega
    have hx : L[j / 2]? = some L[j / 2] := by simp [hk]
    obtain ⟨e0, e1⟩ := ccells_at hx
    have hg : L.toArray[j / 2]! = L[j / 2] := by rw [getElem!_pos L.toArray (j / 2) (by simpa using hk)]; simp
    rw [hg]
    rcases (by omega : j = j / 2 * 2 ∨ j = j / 2 * 2 + 1) with e | e
    · rw [show (ccells L)[j]? = (ccells L)[j / 2 * 2]? from congrArg _ e, e0, show j % 2 = 0 by omega]; rfl
    · rw [show (ccells L)[j]? = (ccells L)[j / 2 * 2 + 1]? from congrArg _ e, e1, show j % 2 = 1 by omega]; rfl
  · rcases h.2 with ⟨h, _⟩ | ⟨g, c, cur, h, _, hg, _⟩
    · simp at h
    · simp only [Value.slice.injEq, Option.some.injEq, Addr.mk.injEq] at h
      obtain ⟨⟨rfl, _⟩, _⟩ := h
      simp [World.frozen?, hg]
theorem crow_holds {w : World} {blk cap : Nat} {L : List Cub} (h : HoldsK encC 2 w blk 0 L.toArray) : CRow w (.slice (some ⟨blk, 0, none⟩) L.length cap) L := by
  refine ⟨_, cap, rfl, fun k x hx => ⟨blk, rfl, ?_, ?_⟩⟩
  all_goals
    have hk := (List.getElem?_eq_some_iff.1 hx).1
    have hg : L.toArray[k]! = x := by rw [getElem!_pos L.toArray k (by simpa using hk)]; simpa using (List.getElem?_eq_some_iff.1 hx).2
  · have := (h (k * 2) (by rw [size_flatK]; simp; omega)).1
    rw [Nat.zero_add, get_flatK _ _ _ _ (by simp; omega), show k * 2 / 2 = k by omega, show k * 2 % 2 = 0 by omega, hg] at this
    exact this
  · have := (h (k * 2 + 1) (by rw [size_flatK]; simp; omega)).1
    rw [Nat.zero_add, get_flatK _ _ _ _ (by simp; omega), show (k * 2 + 1) / 2 = k by omega, show (k * 2 + 1) % 2 = 1 by omega, hg] at this
    exact this
theorem sort_fr (w : World) (blk m : Nat) (d : Array Cub) (os : Array Obj) : Fr (fun j => j = blk) w (sortWorldK encC 2 w blk 0 m d os) := by
  refine ⟨rfl, rfl, rfl, size_sortWorldK_c _ _ _ _ _ _ _ _, fun k hk hne => ?_⟩
  have e : (putRowK encC 2 (Go.Sort.ahead w m) blk 0 d).heap[k]? = w.heap[k]? := by
    show (w.heap.modify blk _)[k]? = _
    rw [Array.getElem?_modify, if_neg (fun h => hne h.symm)]
  have hs : k < (putRowK encC 2 (Go.Sort.ahead w m) blk 0 d).heap.size := by
    have := size_putRow id (Go.Sort.ahead w m) blk 0 (flatK encC 2 d)
    show k < (putRow id (Go.Sort.ahead w m) blk 0 (flatK encC 2 d)).heap.size
    rw [this]; exact hk
  show ((putRowK encC 2 (Go.Sort.ahead w m) blk 0 d).heap ++ os)[k]? = _
  rw [Array.getElem?_append_left hs, e]

set_option maxHeartbeats 1000000 in
theorem sort_any (L : List Cub) (blk cap base : Nat) (T : TypeId) (w : World) (hrow : w.ownsRow base T 2 (.slice (some ⟨blk, 0, none⟩) L.length cap) L.length (ccells L)) (hblk : blk < w.heap.size) (hl : L.length < 4611686018427387904) :
    Calls Tryz.prog 51 #[.slice (some ⟨blk, 0, none⟩) L.length cap, .func (.func 52) #[] #[]] w fun e w' => e = .returned (.tuple #[]) ∧ CRow w' (.slice (some ⟨blk, 0, none⟩) L.length cap) (L.mergeSort fun x y => !(ltOf (cubeCmp popN)) y x) ∧ Fr (fun j => j = blk) w w' := by
  have hH := holds_own hrow
  have h := AnyQ.slices_SortFunc_total Tryz.sortCube 2 Tryz.isAgg49 Tryz.sizeOf49 encC (fun _ => rfl) (fun x v hv => by simp [encC] at hv; rcases hv with rfl | rfl <;> rfl) (cubeCmp popN) (swo_cube popN) 52 #[] blk 0 cap L.toArray w (enters_of Tryz.func52 (by kernel_rfl) rfl) (fun m os dk _ x y => cmpC_any x y _) hH hblk (by simpa using hl) (tot_cube popN)
  have hsz : L.toArray.size = L.length := by simp
  rw [hsz] at h
  refine Calls.mono (P := Tryz.prog) (f := 51) h ?_
  rintro e w' ⟨rfl, n, os, rfl⟩
  refine ⟨rfl, ?_, sort_fr _ _ _ _ _⟩
  have hp := List.mergeSort_perm L (fun x y => !(ltOf (cubeCmp popN)) y x)
  have hlen := hp.length_eq
  rw [← hlen]
  exact crow_holds (holdsK_sortWorldK_c encC 2 w blk 0 L.toArray _ n os hH hblk (by simp [hlen]))
end Go.Proofs.YtalnhlebgofiiaaGreatDoor
namespace Go.Proofs.YtalnhlebgofiiaaGreatDoor
open Go.RowKit Go.Shelf
open Bd
attribute [local go_sem] Oper.semAt_some

theorem info_int9 : (Tryz.prog.info? 3).map (fun i => (i.zero, i.size, i.bytes)) = some (some (.int .i64 0), 1, 8) := by kernel_rfl

set_option maxRecDepth 100000 in
set_option maxHeartbeats 2000000 in
/-- slices.AppendSeq(nil, members(m)) -/
theorem appSeq_any (n : Nat) (hn : 3 ≤ n) (Bn m : Nat) (hm : m < 4294967296) (w : World) (hBn : Bn < w.heap.size) (hg : 0 < w.heap.size) (hc : w.cell? ⟨Bn, 0, none⟩ = some (.int .u32 (m : Int))) (hT : Tab32 w) :
    CallsIn Fence.wide n Tryz.prog 95 #[.slice none 0 0, .func (.func 91) #[] #[.pointer (some ⟨Bn, 0, none⟩)]] w fun e W' => ∃ v, e = .returned v ∧ W'.ownsRow w.heap.size 3 1 v (ints (featL m)).length ((ints (featL m)).map (Value.int .i64)) ∧ Below w.heap.size w W' := by
  have h1 : 1 ≤ n := by omega
  have hro : Fence.wide.round = none := rfl
  have hlen : (featL m).length ≤ 24 := by unfold featL; exact Nat.le_trans (List.length_filter_le _ _) (by simp)
  obtain ⟨i0, hi, hz0, hz1, hz2⟩ := info_parts info_int9
  refine callsIn_of_wp_marks Tryz.func95 rfl trivial ?_ hro
  simp only [Tryz.ntmps95, List.size_toArray, List.length_cons, List.length_nil, Nat.reduceAdd, Nat.reduceSub, Array.replicate_succ, Array.replicate_zero, List.push_toArray, List.append_toArray, List.nil_append, List.cons_append]
  gi_wp2
  have bO := Boxed.new w 33 (.slice none 0 0)
  have hB0 : Below w.heap.size w (w.alloc (.cells #[.slice none 0 0] 33)) := (Below.refl _ w).alloc (Nat.le_refl _) _
  refine wpIn_rangeFunc_ownG hro h1 (gf := 91) (lb := #[.pointer (some ⟨Bn, 0, none⟩)]) rfl trivial (enters_of Tryz.func91 (by kernel_rfl) rfl)
    (mem_stops (n - 1) (by omega) Bn w.heap.size m hm _ (by simp; omega) (by simp) hg (cell_alloc_l hc _) (hT.below hB0 hg)) belowK_t (belowK_b (by simp)) (Below.refl _ _) (fun _ => rfl)
    (fun pre W => (∃ v, Boxed W w.heap.size 33 v ∧ W.ownsRow w.heap.size 3 1 v pre.length (pre.map (Value.int .i64)) ∧ (v = .slice none 0 0 ↔ pre = [])) ∧ Below w.heap.size w W)
    (fun _ _ _ => False)
    (OwnFrom.and (Own.from (holdsRow_own w.heap.size w.heap.size 33 3 1 (fun pre : List Int => pre.length) (fun pre => pre.map (Value.int .i64)) (fun pre v => v = .slice none 0 0 ↔ pre = [])) _) (ownFrom_below (Nat.le_refl _) (by simp)))
    (fun _ _ _ _ _ hs _ _ => hs)
    ⟨⟨_, bO, World.ownsRow_nil _ _ _ _, by simp⟩, hB0⟩
    (fun x => { tmps := #[.slice none 0 0, .func (.func 91) #[] #[.pointer (some ⟨Bn, 0, none⟩)], .pointer (some ⟨w.heap.size, 0, none⟩), undef, .slice none 0 0, .int .i64 x, .func (.func 91) #[] #[.pointer (some ⟨Bn, 0, none⟩)], .int .i64 x, undef, undef, undef, undef, undef], defers := [] }) ?assign ?body ?done ?stop
  case assign =>
    intro l x W K hK
    gi_wp2
    exact hK
  case body =>
    rintro l pre x W ⟨⟨v, hv, hrow, hnil⟩, hB⟩ hlt
    have hc := hv.cell
    gi_wp2_with (gi_at_builtin; refine wpListIn_append_own _ rfl _ _ 33 rfl w.heap.size 3 i0 (.int .i64 0) 1 8 Tryz.underlying33 hi hz0 hz1 hz2 rfl (by decide) _ _ _ rfl (hrow.alloc _) ⟨W.heap.size, 0, none⟩ 1 1 [.int .i64 x] rfl rfl (cell_one_new _ _ _) (by simp [Value.oneCell']) (by unfold maxLen; omega) (by omega) (by have := hB.size; simp; omega) ?_; intro v' w1 hown' hgrow _; obtain ⟨g', cap', rfl⟩ := ownsRow_succ hown'; obtain ⟨hv1, hv2, hr2, hk2, hb2⟩ := hv.appended (by decide) hrow hB.size (Nat.le_refl _) hown' hgrow; have hc1 := hv1.cell; have hf1 := hv1.frozen)
    exact ⟨hk2.from _, hb2, ⟨_, hv2, by simpa using hr2, by simp⟩, hB.trans hb2⟩
  case done =>
    rintro D ys W hD rfl ⟨⟨v, hv, hrow, hnil⟩, hB⟩ hK
    have hc := hv.cell
    gi_wp2
    refine ⟨by simp, .inl ⟨_, _, rfl, run_takeDeferred hK, ?_⟩⟩
    exact ⟨_, results_tmp rfl _ _ _, v, rfl, ownsRow_putObj hrow _ hK rfl, hB.trans (belowK_b (w := w) (Nat.le_refl _) W D _ _ (by simp at hD; omega) hK rfl rfl)⟩
  case stop =>
    rintro D c pre W _ _ h _
    exact h.elim

set_option maxRecDepth 100000 in
set_option maxHeartbeats 1000000 in
/-- slices.Collect(members(m)) -/
theorem collect_any (Bn m : Nat) (hm : m < 4294967296) (w : World) (hBn : Bn < w.heap.size) (hg : 0 < w.heap.size) (hc : w.cell? ⟨Bn, 0, none⟩ = some (.int .u32 (m : Int))) (hT : Tab32 w) :
    Calls Tryz.prog 47 #[.func (.func 91) #[] #[.pointer (some ⟨Bn, 0, none⟩)]] w fun e W' => ∃ v, e = .returned v ∧ SRow W' v ((featL m).map ik) ∧ (∀ g, v.ownBlock = some g → w.heap.size ≤ g ∧ g < W'.heap.size) ∧ Below w.heap.size w W' := by
  have hap := fun W (h1 : Bn < W.heap.size) (h2 : 0 < W.heap.size) (h3 : W.cell? ⟨Bn, 0, none⟩ = some (.int .u32 (m : Int))) (h4 : Tab32 W) => (callsIn_wide (n := 4)).1 (appSeq_any 4 (by omega) Bn m hm W h1 h2 h3 h4)
  go_enter Tryz.func47, Tryz.ntmps47
  go_wp2_with (go_at_call 95; refine (hap _ hBn hg hc hT).mono ?_; rintro e w' ⟨v, rfl, hrow, hb⟩)
  go_ret
  have e : (ints (featL m)).map (Value.int .i64) = (featL m).map ik := by simp [ints, List.map_map, Function.comp_def]
  rw [e] at hrow
  exact ⟨v, rfl, SRow.of_own hrow, fun g hg' => hrow.lt g hg', hb⟩
end Go.Proofs.YtalnhlebgofiiaaGreatDoor
namespace Go.Proofs.YtalnhlebgofiiaaGreatDoor
open Go.RowKit
open Bd

theorem one_new (w : World) (a : Value) (T : TypeId) : (w.alloc (.cells #[a] T)).cell? ⟨w.heap.size, 0, none⟩ = some a := World.cell?_alloc_at _ _ _ _ (by simp)
theorem four_new (w : World) (a b c d : Value) (T : TypeId) : (w.alloc (.cells #[a, b, c, d] T)).cell? ⟨w.heap.size, 0, none⟩ = some a ∧ (w.alloc (.cells #[a, b, c, d] T)).cell? ⟨w.heap.size, 1, none⟩ = some b ∧ (w.alloc (.cells #[a, b, c, d] T)).cell? ⟨w.heap.size, 2, none⟩ = some c ∧ (w.alloc (.cells #[a, b, c, d] T)).cell? ⟨w.heap.size, 3, none⟩ = some d ∧
    (w.alloc (.cells #[a, b, c, d] T)).frozen? ⟨w.heap.size, 0, none⟩ = false ∧ (w.alloc (.cells #[a, b, c, d] T)).frozen? ⟨w.heap.size, 1, none⟩ = false ∧ (w.alloc (.cells #[a, b, c, d] T)).frozen? ⟨w.heap.size, 2, none⟩ = false ∧ (w.alloc (.cells #[a, b, c, d] T)).frozen? ⟨w.heap.size, 3, none⟩ = false :=
  ⟨World.cell?_alloc_at _ _ _ _ (by simp), World.cell?_alloc_at _ _ _ _ (by simp), World.cell?_alloc_at _ _ _ _ (by simp), World.cell?_alloc_at _ _ _ _ (by simp), World.frozen?_alloc_at _ _ _ _ (by simp), World.frozen?_alloc_at _ _ _ _ (by simp), World.frozen?_alloc_at _ _ _ _ (by simp), World.frozen?_alloc_at _ _ _ _ (by simp)⟩
theorem four_kept {w w' : World} {T : TypeId} {n : Nat} (W : World) (hW : W = w.alloc (.cells #[.int .u32 0, .string ⟨#[]⟩, .slice none 0 0, .slice none 0 0] T)) (f : Fr nob W w') (hn : n = w.heap.size) :
    (w'.cell? ⟨n, 0, none⟩ = some (.int .u32 0) ∧ w'.cell? ⟨n, 1, none⟩ = some (.string ⟨#[]⟩) ∧ w'.cell? ⟨n, 2, none⟩ = some (.slice none 0 0) ∧ w'.cell? ⟨n, 3, none⟩ = some (.slice none 0 0)) ∧ w'.frozen? ⟨n, 0, none⟩ = false ∧ w'.frozen? ⟨n, 1, none⟩ = false ∧ w'.frozen? ⟨n, 2, none⟩ = false ∧ w'.frozen? ⟨n, 3, none⟩ = false := by
  subst hn hW
  obtain ⟨h0, h1, h2, h3, k0, k1, k2, k3⟩ := four_new w (.int .u32 0) (.string ⟨#[]⟩) (.slice none 0 0) (.slice none 0 0) T
  have l := lt_of_cell h0
  exact ⟨⟨f.cell h0 (fun h => h), f.cell h1 (fun h => h), f.cell h2 (fun h => h), f.cell h3 (fun h => h)⟩, (f.frozen (p := ⟨w.heap.size, 0, none⟩) l (fun h => h)).trans k0, (f.frozen (p := ⟨w.heap.size, 1, none⟩) l (fun h => h)).trans k1, (f.frozen (p := ⟨w.heap.size, 2, none⟩) l (fun h => h)).trans k2, (f.frozen (p := ⟨w.heap.size, 3, none⟩) l (fun h => h)).trans k3⟩
theorem Tab32.lt {w : World} (h : Tab32 w) : 0 < w.heap.size := lt_of_cell (h 0 (by decide))
theorem Tab32.kept {w w' : World} (h : Tab32 w) (hb : Below w.heap.size w w') : Tab32 w' := h.below hb h.lt

theorem four_keep2 {w w' : World} {n : Nat} (f : Fr nob w w') (h : (w.cell? ⟨n, 0, none⟩ = some (.int .u32 0) ∧ w.cell? ⟨n, 1, none⟩ = some (.string ⟨#[]⟩) ∧ w.cell? ⟨n, 2, none⟩ = some (.slice none 0 0) ∧ w.cell? ⟨n, 3, none⟩ = some (.slice none 0 0)) ∧ w.frozen? ⟨n, 0, none⟩ = false ∧ w.frozen? ⟨n, 1, none⟩ = false ∧ w.frozen? ⟨n, 2, none⟩ = false ∧ w.frozen? ⟨n, 3, none⟩ = false) :
    (w'.cell? ⟨n, 0, none⟩ = some (.int .u32 0) ∧ w'.cell? ⟨n, 1, none⟩ = some (.string ⟨#[]⟩) ∧ w'.cell? ⟨n, 2, none⟩ = some (.slice none 0 0) ∧ w'.cell? ⟨n, 3, none⟩ = some (.slice none 0 0)) ∧ w'.frozen? ⟨n, 0, none⟩ = false ∧ w'.frozen? ⟨n, 1, none⟩ = false ∧ w'.frozen? ⟨n, 2, none⟩ = false ∧ w'.frozen? ⟨n, 3, none⟩ = false := by
  obtain ⟨⟨h0, h1, h2, h3⟩, k0, k1, k2, k3⟩ := h
  have l := lt_of_cell h0
  exact ⟨⟨f.cell h0 (fun h => h), f.cell h1 (fun h => h), f.cell h2 (fun h => h), f.cell h3 (fun h => h)⟩, (f.frozen (p := ⟨n, 0, none⟩) l (fun h => h)).trans k0, (f.frozen (p := ⟨n, 1, none⟩) l (fun h => h)).trans k1, (f.frozen (p := ⟨n, 2, none⟩) l (fun h => h)).trans k2, (f.frozen (p := ⟨n, 3, none⟩) l (fun h => h)).trans k3⟩
theorem members_ex (m : Nat) (w : World) : Calls Tryz.prog 41 #[.int .u32 (m : Int)] w fun e w' => ∃ bn, e = .returned (.func (.func 91) #[] #[.pointer (some ⟨bn, 0, none⟩)]) ∧ bn < w'.heap.size ∧ w'.cell? ⟨bn, 0, none⟩ = some (.int .u32 (m : Int)) ∧ Below w.heap.size w w' :=
  (members_any m w).mono fun e w' ⟨he, hw⟩ => ⟨w.heap.size, he, by rw [hw]; simp, by rw [hw]; exact one_new _ _ _, by rw [hw]; exact (Below.refl _ _).alloc (Nat.le_refl _) _⟩

def set4 (w : World) (n : Nat) (a b c d : Value) : World := (((w.setCell ⟨n, 0, none⟩ a).setCell ⟨n, 1, none⟩ b).setCell ⟨n, 2, none⟩ c).setCell ⟨n, 3, none⟩ d
theorem set4_far {w : World} {n b o : Nat} {a' b' c' d' v : Value} (h : w.cell? ⟨b, o, none⟩ = some v) (hne : n ≠ b) : (set4 w n a' b' c' d').cell? ⟨b, o, none⟩ = some v := by
  have q : ∀ (x y : Nat), (⟨n, x, none⟩ : Addr) ≠ ⟨b, y, none⟩ := fun x y h => by injection h with h1; exact hne h1
  unfold set4
  rw [World.cell?_setCell_other _ _ _ _ (q _ _), World.cell?_setCell_other _ _ _ _ (q _ _), World.cell?_setCell_other _ _ _ _ (q _ _), World.cell?_setCell_other _ _ _ _ (q _ _)]
  exact h
theorem set4_facts {w : World} {n : Nat} {a b c d va vb vc vd : Value} (h0 : w.cell? ⟨n, 0, none⟩ = some va) (h1 : w.cell? ⟨n, 1, none⟩ = some vb) (h2 : w.cell? ⟨n, 2, none⟩ = some vc) (h3 : w.cell? ⟨n, 3, none⟩ = some vd) :
    (set4 w n a b c d).cell? ⟨n, 0, none⟩ = some a ∧ (set4 w n a b c d).cell? ⟨n, 1, none⟩ = some b ∧ (set4 w n a b c d).cell? ⟨n, 2, none⟩ = some c ∧ (set4 w n a b c d).cell? ⟨n, 3, none⟩ = some d ∧ Fr (fun k => k = n) w (set4 w n a b c d) ∧ ∀ p, (set4 w n a b c d).frozen? p = w.frozen? p := by
  have q : ∀ (x y : Nat), x ≠ y → (⟨n, x, none⟩ : Addr) ≠ ⟨n, y, none⟩ := fun x y hne h => by injection h with _ h2; exact hne h2
  have o := fun (W : World) (x y : Nat) (u : Value) (hne : x ≠ y) => World.cell?_setCell_other W ⟨n, x, none⟩ ⟨n, y, none⟩ u (q x y hne)
  unfold set4
  refine ⟨?_, ?_, ?_, ?_, (((fr_store w n 0 a).trans (fr_store _ n 1 b) (fun _ _ h => h)).trans (fr_store _ n 2 c) (fun _ _ h => h)).trans (fr_store _ n 3 d) (fun _ _ h => h), fun p => by rw [World.frozen?_setCell, World.frozen?_setCell, World.frozen?_setCell, World.frozen?_setCell]⟩
  · rw [o _ 3 0 _ (by decide), o _ 2 0 _ (by decide), o _ 1 0 _ (by decide)]; exact World.cell?_setCell_same' _ _ _ (by rw [h0]; rfl)
  · rw [o _ 3 1 _ (by decide), o _ 2 1 _ (by decide)]; exact World.cell?_setCell_same' _ _ _ (by rw [o _ 0 1 _ (by decide), h1]; rfl)
  · rw [o _ 3 2 _ (by decide)]; exact World.cell?_setCell_same' _ _ _ (by rw [o _ 1 2 _ (by decide), o _ 0 2 _ (by decide), h2]; rfl)
  · exact World.cell?_setCell_same' _ _ _ (by rw [o _ 2 3 _ (by decide), o _ 1 3 _ (by decide), o _ 0 3 _ (by decide), h3]; rfl)

/-- the table that Primes has made -/
structure PSt (A : B) (w : World) (tb : Nat) (sv : Value) (wx : World) : Prop where
  below : Fr nob w wx
  new : w.heap.size ≤ tb
  t0 : wx.cell? ⟨tb, 0, none⟩ = some (.int .u32 (place (li A) A : Int))
  t1 : wx.cell? ⟨tb, 1, none⟩ = some (.string ⟨(code (rows (li A))).toArray⟩)
  t2 : wx.cell? ⟨tb, 2, none⟩ = some sv
  t3 : wx.cell? ⟨tb, 3, none⟩ = some (.slice none 0 0)
  f3 : wx.frozen? ⟨tb, 3, none⟩ = false
  hs : SRow wx sv ((featL (supR (li A))).map ik)
  hne : sv.ownBlock ≠ some tb
  hlt : ∀ g, sv.ownBlock = some g → g < wx.heap.size
theorem PSt.made {A : B} {w wX : World} {n : Nat} {sv : Value} (fr : Fr nob w wX) (hn : w.heap.size ≤ n)
    (hq : (wX.cell? ⟨n, 0, none⟩ = some (.int .u32 0) ∧ wX.cell? ⟨n, 1, none⟩ = some (.string ⟨#[]⟩) ∧ wX.cell? ⟨n, 2, none⟩ = some (.slice none 0 0) ∧ wX.cell? ⟨n, 3, none⟩ = some (.slice none 0 0)) ∧ wX.frozen? ⟨n, 0, none⟩ = false ∧ wX.frozen? ⟨n, 1, none⟩ = false ∧ wX.frozen? ⟨n, 2, none⟩ = false ∧ wX.frozen? ⟨n, 3, none⟩ = false)
    (hs : SRow wX sv ((featL (supR (li A))).map ik)) (hne : sv.ownBlock ≠ some n) (hlt : ∀ g, sv.ownBlock = some g → g < wX.heap.size) :
    PSt A w n sv (set4 wX n (.int .u32 (place (li A) A : Int)) (.string ⟨(code (rows (li A))).toArray⟩) sv (.slice none 0 0)) := by
  obtain ⟨⟨q0, q1, q2, q3⟩, _, _, _, k3⟩ := hq
  obtain ⟨x0, x1, x2, x3, fx, kx⟩ := set4_facts (a := .int .u32 (place (li A) A : Int)) (b := .string ⟨(code (rows (li A))).toArray⟩) (c := sv) (d := .slice none 0 0) q0 q1 q2 q3
  exact ⟨fr.trans' fx (fun _ _ h => h) (fun k hk h => by omega), hn, x0, x1, x2, x3, (kx _).trans k3, hs.keptS fx (fun g hg e => hne (by rw [hg, e])), hne, fun g hg => Nat.lt_of_lt_of_le (hlt g hg) fx.size⟩
theorem PSt.made2 {A : B} {w w4 : World} {sv : Value} (fr : Fr nob w w4) (hs : SRow w4 sv ((featL (supR (li A))).map ik)) (hlt : ∀ g, sv.ownBlock = some g → g < w4.heap.size) :
    PSt A w w4.heap.size sv (w4.alloc (.cells #[.int .u32 (place (li A) A : Int), .string ⟨(code (rows (li A))).toArray⟩, sv, .slice none 0 0] 88)) := by
  obtain ⟨h0, h1, h2, h3, _, _, _, k3⟩ := four_new w4 (.int .u32 (place (li A) A : Int)) (.string ⟨(code (rows (li A))).toArray⟩) sv (.slice none 0 0) 88
  exact ⟨fr.alloc _, fr.size, h0, h1, h2, h3, k3, hs.kept ((Fr.refl nob w4).alloc _), fun h => by have := hlt _ h; omega, fun g hg => by have := hlt g hg; simp; omega⟩
theorem PSt.drew {A : B} {w wx : World} {tb : Nat} {sv : Value} (h : PSt A w tb sv wx) : PSt A w tb sv wx.drew :=
  ⟨h.below.drew, h.new, h.t0, h.t1, h.t2, h.t3, h.f3, h.hs.kept (Fr.refl nob _).drew, h.hne, h.hlt⟩

/-- a cube of masks below 2 ^ 32 -/
def toCub (p : Nat × Nat) : Cub := (Fin.ofNat _ p.1, Fin.ofNat _ p.2)
theorem toCub_1 {p : Nat × Nat} (h : p.1 < 2 ^ 24) : (toCub p).1.val = p.1 := Nat.mod_eq_of_lt (Nat.lt_trans h (by decide))
theorem toCub_2 {p : Nat × Nat} (h : p.2 < 2 ^ 24) : (toCub p).2.val = p.2 := Nat.mod_eq_of_lt (Nat.lt_trans h (by decide))
/-- the prime cubes with numbers below k -/
noncomputable def clist (V : List Nat) (f : Cfg → Bool) (k : Nat) : List Cub := ((List.range k).filter (primB V f)).map fun i => toCub (cubeAt V i)
theorem clist_yes {V : List Nat} {f : Cfg → Bool} {k : Nat} (h : primB V f k = true) : clist V f (k + 1) = clist V f k ++ [toCub (cubeAt V k)] := by
  unfold clist; rw [List.range_succ, List.filter_append, List.map_append]; simp [h]
theorem clist_no {V : List Nat} {f : Cfg → Bool} {k : Nat} (h : primB V f k = false) : clist V f (k + 1) = clist V f k := by
  unfold clist; rw [List.range_succ, List.filter_append, List.map_append]; simp [h]
theorem clist_len (V : List Nat) (f : Cfg → Bool) (k : Nat) : (clist V f k).length ≤ k := by
  unfold clist; rw [List.length_map]; exact Nat.le_trans (List.length_filter_le _ _) (by simp)
theorem ccells_snoc (L : List Cub) (x : Cub) : ccells (L ++ [x]) = ccells L ++ [.int .u32 (x.1.val : Int), .int .u32 (x.2.val : Int)] := by simp [ccells, encC]
theorem info_cube : (Tryz.prog.info? 49).map (fun i => (i.zero, i.size, i.bytes)) = some (some (.agg #[.int .u32 0, .int .u32 0]), 2, 8) := by kernel_rfl
theorem ev_agree {c c' : Cfg} : ∀ {b : B}, (∀ i lo hi, sub (.N i lo hi) b → c i = c' i) → b.ev c = b.ev c'
  | .F, _ => rfl
  | .T, _ => rfl
  | .N i l u, h => by
    have e1 := ev_agree (b := l) (fun j lo hi hs => h j lo hi (.inr (.inl hs)))
    have e2 := ev_agree (b := u) (fun j lo hi hs => h j lo hi (.inr (.inr hs)))
    have e3 := h i l u (sub_self _)
    show (if c i then u.ev c else l.ev c) = (if c' i then u.ev c' else l.ev c')
    rw [e1, e2, e3]
/-- a set depends on its features alone -/
theorem supp_on {A : B} (hA : A.ok 0) {V : List Nat} (hV : V = featL (supR (li A))) (c c' : Cfg) (h : ∀ j (hj : j < V.length), c V[j] = c' V[j]) : A.ev c = A.ev c' := by
  refine ev_agree fun i lo hi hs => ?_
  have hb : (supR (li A)).testBit i = true := supR_bit.2 ⟨_, mem_li.2 ⟨rfl, hs⟩, rfl⟩
  have hi : i < 24 := Classical.byContradiction fun hn => by
    rw [Nat.testBit_lt_two_pow (Nat.lt_of_lt_of_le (supR_lt24 hA) (Nat.pow_le_pow_right (by omega) (by omega)))] at hb; cases hb
  have hm : i ∈ V := by rw [hV, mem_featL]; exact ⟨hi, hb⟩
  obtain ⟨j, hj, rfl⟩ := List.mem_iff_getElem.1 hm
  exact h j hj

set_option maxRecDepth 100000 in
set_option maxHeartbeats 4000000 in
theorem Primes_any (A : B) (hA : A.ok 0) (w : World) (hT : Tab32 w) : Calls Tryz.prog 18 #[dval A] w fun e w' =>
    (((featL (supR (li A))).length ≤ 12 ∧ ∃ lv, e = .returned (.tuple #[lv, .int .i64 0]) ∧ CRow w' lv ((clist (featL (supR (li A))) A.ev (3 ^ (featL (supR (li A))).length)).mergeSort fun x y => !(ltOf (cubeCmp popN)) y x)) ∨
      (12 < (featL (supR (li A))).length ∧ e = .returned (.tuple #[.slice none 0 0, .int .i64 5]))) ∧ Below w.heap.size w w' := by
  obtain ⟨a0, a1⟩ := two_cells' w (.int .u32 (place (li A) A : Int)) (.string ⟨(code (rows (li A))).toArray⟩) 32
  have fr : Fr nob w (w.alloc (.cells #[.int .u32 (place (li A) A : Int), .string ⟨(code (rows (li A))).toArray⟩] 32)) := (Fr.refl nob w).alloc _
  have hT1 : Tab32 (w.alloc (.cells #[.int .u32 (place (li A) A : Int), .string ⟨(code (rows (li A))).toArray⟩] 32)) := hT.kept (fr.to_below (Nat.le_refl _) (fun _ h => h.elim))
  have zW : w.heap.size < (w.alloc (.cells #[.int .u32 (place (li A) A : Int), .string ⟨(code (rows (li A))).toArray⟩] 32)).heap.size := by simp
  have hs24 := supR_lt24 hA
  go_enter Tryz.func18, Tryz.ntmps18
  go_wp2_with fail
  generalize w.alloc (.cells #[.int .u32 (place (li A) A : Int), .string ⟨(code (rows (li A))).toArray⟩] 32) = W at *
  have hsup := fun W' => Support_any A hA W'
  have hT1d : Tab32 W.drew := fun j hj => hT1 j hj
  go_cut [4] from 7 to 12 (fun p wx => ∃ tb sv, p = .pointer (some ⟨tb, 0, none⟩) ∧ PSt A w tb sv wx)
  case first =>
    generalize hm : supR (li A) = m at *
    have a0' := cell_alloc_l a0 (.cells #[.int .u32 0, .string ⟨#[]⟩, .slice none 0 0, .slice none 0 0] 88)
    have a1' := cell_alloc_l a1 (.cells #[.int .u32 0, .string ⟨#[]⟩, .slice none 0 0, .slice none 0 0] 88)
    go_region_with
      (first
        | (go_at_call 22
           refine (hsup _).mono ?_
           rintro e w2 ⟨rfl, hb2⟩
           have f2 := (Fr.refl nob _).below hb2
           have F2 : Fr nob W w2 := by first | exact ((Fr.refl nob W).drew).trans f2 (fun _ _ h => h) | exact (((Fr.refl nob W).drew).alloc _).trans f2 (fun _ _ h => h)
           have x0 := F2.cell' a0 (fun h => h)
           have x1 := F2.cell' a1 (fun h => h)
           have x0' := cell_alloc_l x0 (.cells #[.int .u32 0, .string ⟨#[]⟩, .slice none 0 0, .slice none 0 0] 88)
           have x1' := cell_alloc_l x1 (.cells #[.int .u32 0, .string ⟨#[]⟩, .slice none 0 0, .slice none 0 0] 88)
           have hT2 := hT1.kept (F2.to_below (Nat.le_refl _) (fun _ h => h.elim))
           have s2 := F2.size
           try have Q := four_kept (n := W.heap.size) _ rfl (Fr.trans ((Fr.refl nob (W.alloc (.cells #[.int .u32 0, .string ⟨#[]⟩, .slice none 0 0, .slice none 0 0] 88))).drew) f2 (fun _ _ h => h)) rfl
           clear hb2)
        | (go_at_call 41
           refine (members_ex m _).mono ?_
           rintro e w3 ⟨bn, rfl, hbn, cbn, hb3⟩
           have f3 := (Fr.refl nob _).below hb3
           have F3 : Fr nob w2 w3 := by first | exact f3 | exact ((Fr.refl nob w2).alloc _).trans f3 (fun _ _ h => h)
           have y0 := F3.cell' x0 (fun h => h)
           have y1 := F3.cell' x1 (fun h => h)
           have y0' := cell_alloc_l y0 (.cells #[.int .u32 0, .string ⟨#[]⟩, .slice none 0 0, .slice none 0 0] 88)
           have y1' := cell_alloc_l y1 (.cells #[.int .u32 0, .string ⟨#[]⟩, .slice none 0 0, .slice none 0 0] 88)
           have hT3 := hT2.kept (F3.to_below (Nat.le_refl _) (fun _ h => h.elim))
           have s3 := F3.size
           first | (have Q := four_keep2 f3 Q) | (have Q := four_kept (n := w2.heap.size) _ rfl f3 rfl) | skip
           have hcol := fun W' (h : Fr nob w3 W') => collect_any bn m (by omega) W' (Nat.lt_of_lt_of_le hbn h.size) (Nat.lt_of_lt_of_le hT3.lt h.size) (h.cell cbn (fun h => h)) (hT3.kept (h.to_below (Nat.le_refl _) (fun _ h => h.elim)))
           clear hb3)
        | (go_at_call 47
           refine (hcol _ ?_).mono ?_
           · first | exact Fr.refl _ _ | exact (Fr.refl _ _).alloc _
           rintro e w4 ⟨v, rfl, hrow, hown, hb4⟩
           obtain ⟨aa, cc, rfl⟩ := hrow.form
           have f4 := (Fr.refl nob _).below hb4
           have F4 : Fr nob w3 w4 := by first | exact f4 | exact ((Fr.refl nob w3).alloc _).trans f4 (fun _ _ h => h)
           have z0 := F4.cell' y0 (fun h => h)
           have z1 := F4.cell' y1 (fun h => h)
           have s4 := F4.size
           have z0' := cell_alloc_l z0 (.cells #[.int .u32 0, .string ⟨#[]⟩, .slice none 0 0, .slice none 0 0] 88)
           have z1' := cell_alloc_l z1 (.cells #[.int .u32 0, .string ⟨#[]⟩, .slice none 0 0, .slice none 0 0] 88)
           first | (have Q := four_keep2 f4 Q) | (have Q := four_kept (n := w3.heap.size) _ rfl f4 rfl) | skip
           try obtain ⟨⟨q0, q1, q2, q3⟩, k0, k1, k2, k3⟩ := Q))
    all_goals go_wp2_with fail
    all_goals go_meet
    all_goals
      subst hm
      simp only [List.length_map] at hrow hown
      have frA := ((fr.trans F2 (fun _ _ h => h)).trans F3 (fun _ _ h => h)).trans F4 (fun _ _ h => h)
      first
        | exact ⟨_, _, rfl, PSt.made2 frA hrow (fun g hg => (hown g hg).2)⟩
        | exact ⟨_, _, rfl, (PSt.made2 frA hrow (fun g hg => (hown g hg).2)).drew⟩
        | (refine ⟨_, _, rfl, PSt.made frA (by omega) ⟨⟨q0, q1, q2, q3⟩, k0, k1, k2, k3⟩ hrow (fun h => ?_) (fun g hg => (hown g hg).2)⟩
           have z1 := (hown _ h).1
           have z2 := f2.size
           have z3 := f3.size
           simp at z1 z2 z3
           omega)
        | (refine ⟨_, _, rfl, (PSt.made frA (by omega) ⟨⟨q0, q1, q2, q3⟩, k0, k1, k2, k3⟩ hrow (fun h => ?_) (fun g hg => (hown g hg).2)).drew⟩
           have z1 := (hown _ h).1
           have z2 := f2.size
           have z3 := f3.size
           simp at z1 z2 z3
           omega)
  case rest =>
    obtain ⟨tb, sv, rfl, st⟩ := hcut
    clear a0 a1 fr hT1 hT1d hsup zW W
    have hV := fun v hv => (mem_featL.1 (hv : v ∈ featL (supR (li A)))).1
    have hnd : (featL (supR (li A))).Nodup := (rising_featL (supR (li A))).1.imp fun h => Nat.ne_of_lt h
    obtain ⟨h1, hnew, t0, t1, t2, t3, f3, hs, hne, hlt⟩ := st
    obtain ⟨V, hVe⟩ : ∃ V, V = featL (supR (li A)) := ⟨_, rfl⟩
    rw [← hVe] at hs hnd
    have hon := supp_on hA hVe
    simp only [← hVe] at hV
    have HV := Lib.hid hVe
    clear hVe
    obtain ⟨aa, cc, rfl⟩ := hs.form
    rw [List.length_map] at *
    by_cases hn : V.length ≤ 12
    · have hfill := fill_any tb A hA V hV hnd hon hn _ wc t0 t1 t2 t3 f3 hs hne hlt
      have hn' : (V.length : Int) ≤ 12 := by omega
      go_wp2_with fail
      refine hfill.mono ?_
      clear hfill t3 f3
      rintro e w6 ⟨rfl, fr6, t2', ib, c2, hib, c3, hcells⟩
      have hs6 := hs.keptS fr6 (fun g hg e => hne (by rw [hg, e]))
      have frA : Fr nob w w6 := h1.trans' fr6 (fun _ _ h => h) (fun k hk h => by omega)
      clear fr6 hs hne hlt t0 t1 t2
      obtain ⟨i0, hi0, hz0, hz1, hz2⟩ := info_parts info_cube
      obtain ⟨N, hN⟩ : ∃ N, N = 3 ^ V.length := ⟨_, rfl⟩
      have hN2 : N ≤ 531441 := by rw [hN]; exact pow3_le (Nat.le_refl _) hn
      rw [← hN] at c3 hcells
      have HN := Lib.hid hN
      clear hN
      go_wp2_with fail
      go_loopw [5, 6, 21] (fun lv _ p wr => ∃ k : Nat, k ≤ N ∧ p = .int .i64 (k : Int) ∧ Fr nob w6 wr ∧ wr.ownsRow w6.heap.size 49 2 lv (clist V A.ev k).length (ccells (clist V A.ev k))) (fun _ _ p _ => N - (intOf p).toNat)
      case atStart => exact ⟨0, Nat.zero_le _, rfl, Fr.refl _ _, World.ownsRow_nil _ _ _ _⟩
      case round =>
        obtain ⟨k, hk, rfl, frk, row⟩ := hrel
        by_cases hkN : k < N
        · have hk3 : k < 3 ^ V.length := by rw [← HN.out]; exact hkN
          have hkI : (k : Int) < (N : Int) := by omega
          have hp := prime_any tb ib aa V.length cc c2 k (insB V A.ev) hn hk3 wr (frk.cell t2' (fun h => h)) (by rw [← HN.out]; exact frk.cell c3 (fun h => h)) (fun i hi => frk.cell (hcells i (by rw [HN.out]; exact hi)) (fun h => h))
          rw [isPrimB_ins hk3 (fun i _ => rfl)] at hp
          have hc := cube_any tb V hV k (by omega) hn _ wr (frk.cell t2' (fun h => h)) (hs6.kept frk)
          have hm1 := msk_lt 1 hV k V.length (Nat.le_refl _)
          have hm0 := msk_lt 0 hV k V.length (Nat.le_refl _)
          have cl := clist_len V A.ev k
          cases hb : primB V A.ev k with
          | false =>
            rw [hb] at hp
            clear hc
            go_wp2_with fail
            refine hp.mono ?_
            clear hp
            rintro e w' ⟨rfl, rfl⟩
            go_wp2_with fail
            exact ⟨⟨k + 1, by omega, by simp, frk, by rw [clist_no hb]; exact row⟩, by simp [intOf]; omega⟩
          | true =>
            rw [hb] at hp
            go_wp2_with fail
            refine hp.mono ?_
            clear hp
            rintro e w' ⟨rfl, rfl⟩
            go_wp2_with fail
            refine hc.mono ?_
            clear hc
            rintro e w7 ⟨rfl, hb7⟩
            have e1 : (cubeAt V k).1 = (toCub (cubeAt V k)).1.val := (toCub_1 hm1).symm
            have e2 : (cubeAt V k).2 = (toCub (cubeAt V k)).2.val := (toCub_2 hm0).symm
            have e3 := clist_yes hb
            rw [e1, e2]
            generalize toCub (cubeAt V k) = x at *
            obtain ⟨d0, d1⟩ := two_new w7 (.int .u32 (x.1.val : Int)) (.int .u32 (x.2.val : Int)) 49
            have f7 := ((Fr.refl nob _).below hb7).alloc (.cells #[.int .u32 (x.1.val : Int), .int .u32 (x.2.val : Int)] 49)
            have row7 := f7.row row (fun g _ h => h)
            have frk7 := frk.trans f7 (fun _ _ h => h)
            clear e1 e2 hb7 row
            go_wp2_with (at_builtin; refine wpList_append_own _ rfl _ _ 45 rfl w6.heap.size 49 i0 (.agg #[.int .u32 0, .int .u32 0]) 2 8 Tryz.underlying45 hi0 hz0 hz1 hz2 rfl (by decide) _ (clist V A.ev k).length (ccells (clist V A.ev k)) rfl row7 ⟨w7.heap.size, 0, none⟩ 1 1 [.int .u32 (x.1.val : Int), .int .u32 (x.2.val : Int)] rfl ?c1 ?c2 ?c3 ?c4 ?c5 ?c6 ?_)
            case c1 => rfl
            case c2 =>
              intro j u hj
              match j, hj with
              | 0, h => simp at h; subst h; exact d0
              | 1, h => simp at h; subst h; exact d1
            case c3 => intro u hu; simp at hu; rcases hu with rfl | rfl <;> rfl
            case c4 => unfold maxLen; omega
            case c5 => omega
            case c6 => exact frk7.size
            intro vo w8 row8 gr8 _
            have frk8 := frk7.grown gr8 (fun g hg hlt => absurd hlt (by have := (row7.lt g hg).1; omega))
            go_wp2_with fail
            refine ⟨⟨k + 1, by omega, by simp, frk8, ?_⟩, by simp [intOf]; omega⟩
            rw [e3, ccells_snoc, List.length_append]
            exact row8
        · obtain rfl : k = N := by omega
          have cl := clist_len V A.ev k
          obtain ⟨L, hL⟩ : ∃ L, L = clist V A.ev k := ⟨_, rfl⟩
          rw [← hL] at row cl
          have HL := Lib.hid hL
          clear hL
          rcases row.2 with ⟨rfl, h0⟩ | ⟨g, cap, cur, rfl, _⟩
          · have e0 : L = [] := List.length_eq_zero_iff.1 h0
            subst e0
            have hsn := AnyF.slices_SortFunc_none { Tryz.sortCube with } none 0 (.func (.func 52) #[] #[]) wr
            change Calls Tryz.prog 51 _ _ _ at hsn
            go_wp2_with fail
            refine hsn.mono ?_
            clear hsn
            rintro e w9 ⟨rfl, rfl⟩
            go_wp2_with fail
            go_ret2
            refine ⟨.inl ⟨by rw [← HV.out]; exact hn, .slice none 0 0, rfl, ?_⟩, (frA.trans frk (fun _ _ h => h)).to_below (Nat.le_refl _) (fun _ h => h.elim)⟩
            rw [← HV.out, ← HN.out, ← HL.out]
            exact ⟨none, 0, by simp, fun k x hx => by simp at hx⟩
          · have hso := sort_any L g cap w6.heap.size 49 wr row (row.lt g rfl).2 (by omega)
            have hgl := (row.lt g rfl).1
            go_wp2_with fail
            refine hso.mono ?_
            clear hso
            rintro e w9 ⟨rfl, hcr, fr9⟩
            go_wp2_with fail
            go_ret2
            refine ⟨.inl ⟨by rw [← HV.out]; exact hn, .slice (some ⟨g, 0, none⟩) L.length cap, rfl, ?_⟩, ((frA.trans frk (fun _ _ h => h)).trans' fr9 (T := fun j => w.heap.size ≤ j) (fun _ _ h => h.elim) (fun j hj h => by have := frA.size; omega)).to_below (Nat.le_refl _) (fun _ h => h)⟩
            rw [← HV.out, ← HN.out, ← HL.out]
            exact hcr
    · have hn' : (12 : Int) < (V.length : Int) := by omega
      clear hs hon hV hnd t0 t1 t3 f3
      go_wp2_with fail
      go_ret2
      exact ⟨.inr ⟨by rw [← HV.out]; omega, rfl⟩, h1.to_below (Nat.le_refl _) (fun _ h => h.elim)⟩
end Go.Proofs.YtalnhlebgofiiaaGreatDoor
