import Derived.Test.YtalnhlebgofiiaaGreatDoorPur
import Derived.Shelf.SlSortCmp.NoneTotal
import Derived.Test.YtalnhlebgofiiaaGreatDoorNode
import Derived.LoopTactic
import Derived.Shelf.SlSortCmp.QuietGrown
import Derived.BigQuiet
import Derived.Lib.Hide
import Derived.Laws.BitsLemmas
namespace Go.Proofs.YtalnhlebgofiiaaGreatDoor
open Go.RowKit Go.Sort

abbrev U32 := Fin 4294967296
abbrev Cub := U32 × U32
def encC (x : Cub) : List Value := [.int .u32 (x.1.val : Int), .int .u32 (x.2.val : Int)]
/-- as cmp.Compare says it -/
def cmp3 (a b : Nat) : Int := if a < b then -1 else if b < a then 1 else 0
/-- as compareCubes says it: the size, then On, then Off -/
def cubeCmp (pc : Nat → Nat) (x y : Cub) : Int :=
  if cmp3 (pc x.1.val + pc x.2.val) (pc y.1.val + pc y.2.val) ≠ 0 then cmp3 (pc x.1.val + pc x.2.val) (pc y.1.val + pc y.2.val)
  else if cmp3 x.1.val y.1.val ≠ 0 then cmp3 x.1.val y.1.val else cmp3 x.2.val y.2.val

theorem cmp3_cases (a b : Nat) : (a < b ∧ cmp3 a b = -1) ∨ (b < a ∧ cmp3 a b = 1) ∨ (a = b ∧ cmp3 a b = 0) := by
  unfold cmp3
  by_cases h1 : a < b
  · simp [h1]
  · by_cases h2 : b < a
    · simp [h1, h2]
    · simp [h1, h2]; omega
theorem ltOf_cube (pc : Nat → Nat) (x y : Cub) : ltOf (cubeCmp pc) x y = true ↔
    (pc x.1.val + pc x.2.val < pc y.1.val + pc y.2.val ∨ (pc x.1.val + pc x.2.val = pc y.1.val + pc y.2.val ∧ (x.1.val < y.1.val ∨ (x.1.val = y.1.val ∧ x.2.val < y.2.val)))) := by
  unfold ltOf cubeCmp
  rw [decide_eq_true_iff]
  rcases cmp3_cases (pc x.1.val + pc x.2.val) (pc y.1.val + pc y.2.val) with ⟨h, e⟩ | ⟨h, e⟩ | ⟨h, e⟩ <;> rw [e]
  · simp; omega
  · simp; omega
  · rcases cmp3_cases x.1.val y.1.val with ⟨h1, e1⟩ | ⟨h1, e1⟩ | ⟨h1, e1⟩ <;> rw [e1]
    · simp; omega
    · simp; omega
    · rcases cmp3_cases x.2.val y.2.val with ⟨h2, e2⟩ | ⟨h2, e2⟩ | ⟨h2, e2⟩ <;> rw [e2] <;> simp <;> omega
theorem ltOf_cube_not (pc : Nat → Nat) (x y : Cub) : ltOf (cubeCmp pc) x y = false ↔
    ¬ (pc x.1.val + pc x.2.val < pc y.1.val + pc y.2.val ∨ (pc x.1.val + pc x.2.val = pc y.1.val + pc y.2.val ∧ (x.1.val < y.1.val ∨ (x.1.val = y.1.val ∧ x.2.val < y.2.val)))) := by
  rw [← ltOf_cube, Bool.not_eq_true]
theorem swo_cube (pc : Nat → Nat) : SWO (ltOf (cubeCmp pc)) where
  irrefl x := by rw [ltOf_cube_not]; omega
  trans x y z h1 h2 := by rw [ltOf_cube] at *; omega
  ntrans x y z h1 h2 := by rw [ltOf_cube_not] at *; omega
theorem tot_cube (pc : Nat → Nat) (x y : Cub) (h1 : ltOf (cubeCmp pc) x y = false) (h2 : ltOf (cubeCmp pc) y x = false) : x = y := by
  rw [ltOf_cube_not] at h1 h2
  have : x.1.val = y.1.val ∧ x.2.val = y.2.val := by omega
  exact Prod.ext (Fin.ext this.1) (Fin.ext this.2)

/-- the sorted list is the one list that is a permutation and rises -/
theorem sort_cube (pc : Nat → Nat) {l L : List Cub} (hp : l.Perm L) (hs : L.Pairwise fun x y => ltOf (cubeCmp pc) y x = false) : (l.mergeSort fun x y => !(ltOf (cubeCmp pc)) y x) = L := by
  have O := swo_cube pc
  refine List.Perm.eq_of_pairwise (le := fun x y => (!ltOf (cubeCmp pc) y x) = true) ?_ ?_ ?_ ((List.mergeSort_perm _ _).trans hp)
  · intro a b _ _ h1 h2
    simp only [Bool.not_eq_true'] at h1 h2
    exact tot_cube pc a b h2 h1
  · refine List.pairwise_mergeSort ?_ ?_ _
    · intro a b c h1 h2
      simp only [Bool.not_eq_true'] at h1 h2 ⊢
      exact O.ntrans _ _ _ h2 h1
    · intro a b
      cases h : ltOf (cubeCmp pc) b a with
      | false => simp
      | true =>
        cases h' : ltOf (cubeCmp pc) a b with
        | false => simp
        | true => have := O.trans _ _ _ h h'; rw [O.irrefl] at this; cases this
  · refine hs.imp ?_
    intro a b h; rw [h]; rfl
end Go.Proofs.YtalnhlebgofiiaaGreatDoor
namespace Go.Proofs.YtalnhlebgofiiaaGreatDoor
open Go.RowKit Go.Sort
open Bd

set_option maxRecDepth 100000 in
set_option maxHeartbeats 1000000 in
theorem isNaNI_any (x : Int) (w : World) : Calls Tryz.prog 129 #[.int .i64 x] w fun e w' => e = .returned (.bool false) ∧ w' = w := by
  go_enter Tryz.func129, Tryz.ntmps129
  go_wp2
  go_ret
  exact ⟨by simp, rfl⟩
set_option maxRecDepth 100000 in
set_option maxHeartbeats 1000000 in
theorem isNaNU_any (x : Int) (w : World) : Calls Tryz.prog 131 #[.int .u32 x] w fun e w' => e = .returned (.bool false) ∧ w' = w := by
  go_enter Tryz.func131, Tryz.ntmps131
  go_wp2
  go_ret
  exact ⟨by simp, rfl⟩

set_option maxRecDepth 100000 in
set_option maxHeartbeats 1000000 in
theorem compareI_any (a b : Nat) (w : World) : Calls Tryz.prog 100 #[.int .i64 (a : Int), .int .i64 (b : Int)] w fun e w' => e = .returned (.int .i64 (cmp3 a b)) ∧ w' = w := by
  rcases cmp3_cases a b with ⟨h, e⟩ | ⟨h, e⟩ | ⟨h, e⟩ <;> rw [e]
  · have h1 : (a : Int) < (b : Int) := by omega
    clear e
    go_enter Tryz.func100, Tryz.ntmps100
    go_wp2_with (go_at_call 129; refine (isNaNI_any _ _).mono ?_; rintro e w' ⟨rfl, rfl⟩)
    go_ret
    exact ⟨rfl, rfl⟩
  · have h1 : (b : Int) < (a : Int) := by omega
    have h2 : ¬ (a : Int) < (b : Int) := by omega
    clear e
    go_enter Tryz.func100, Tryz.ntmps100
    go_wp2_with (go_at_call 129; refine (isNaNI_any _ _).mono ?_; rintro e w' ⟨rfl, rfl⟩)
    go_ret
    exact ⟨rfl, rfl⟩
  · subst h
    clear e
    go_enter Tryz.func100, Tryz.ntmps100
    go_wp2_with (go_at_call 129; refine (isNaNI_any _ _).mono ?_; rintro e w' ⟨rfl, rfl⟩)
    go_ret
    exact ⟨rfl, rfl⟩
set_option maxRecDepth 100000 in
set_option maxHeartbeats 1000000 in
theorem compareU_any (a b : Nat) (w : World) : Calls Tryz.prog 102 #[.int .u32 (a : Int), .int .u32 (b : Int)] w fun e w' => e = .returned (.int .i64 (cmp3 a b)) ∧ w' = w := by
  rcases cmp3_cases a b with ⟨h, e⟩ | ⟨h, e⟩ | ⟨h, e⟩ <;> rw [e]
  · have h1 : (a : Int) < (b : Int) := by omega
    clear e
    go_enter Tryz.func102, Tryz.ntmps102
    go_wp2_with (go_at_call 131; refine (isNaNU_any _ _).mono ?_; rintro e w' ⟨rfl, rfl⟩)
    go_ret
    exact ⟨rfl, rfl⟩
  · have h1 : (b : Int) < (a : Int) := by omega
    have h2 : ¬ (a : Int) < (b : Int) := by omega
    clear e
    go_enter Tryz.func102, Tryz.ntmps102
    go_wp2_with (go_at_call 131; refine (isNaNU_any _ _).mono ?_; rintro e w' ⟨rfl, rfl⟩)
    go_ret
    exact ⟨rfl, rfl⟩
  · subst h
    clear e
    go_enter Tryz.func102, Tryz.ntmps102
    go_wp2_with (go_at_call 131; refine (isNaNU_any _ _).mono ?_; rintro e w' ⟨rfl, rfl⟩)
    go_ret
    exact ⟨rfl, rfl⟩

/-- the first that is not 0 -/
def or3 (a b c : Int) : Int := if a ≠ 0 then a else if b ≠ 0 then b else c
set_option maxRecDepth 100000 in
set_option maxHeartbeats 1000000 in
theorem or3_any (g cap : Nat) (a b c : Int) (w : World) (h0 : w.cell? ⟨g, 0, none⟩ = some (.int .i64 a)) (h1 : w.cell? ⟨g, 1, none⟩ = some (.int .i64 b)) (h2 : w.cell? ⟨g, 2, none⟩ = some (.int .i64 c)) : Calls Tryz.prog 99 #[.slice (some ⟨g, 0, none⟩) 3 cap] w fun e w' => e = .returned (.int .i64 (or3 a b c)) ∧ w' = w := by
  unfold or3
  by_cases ha : a = 0
  · by_cases hb : b = 0
    · subst ha hb
      by_cases hc : c = 0
      · subst hc
        go_enter Tryz.func99, Tryz.ntmps99
        go_wp2
        refine wp_loop_rounds 4 ?_
        rw [rounds_succ]
        go_wp2
        rw [rounds_succ]
        go_wp2
        rw [rounds_succ]
        go_wp2
        rw [rounds_succ]
        go_wp2
        go_ret
        exact ⟨by simp, rfl⟩
      · have hc' : (c == 0) = false := by simpa using hc
        go_enter Tryz.func99, Tryz.ntmps99
        go_wp2
        refine wp_loop_rounds 4 ?_
        rw [rounds_succ]
        go_wp2
        rw [rounds_succ]
        go_wp2
        rw [rounds_succ]
        go_wp2
        go_ret
        exact ⟨by simp, rfl⟩
    · subst ha
      have hb' : (b == 0) = false := by simpa using hb
      go_enter Tryz.func99, Tryz.ntmps99
      go_wp2
      refine wp_loop_rounds 4 ?_
      rw [rounds_succ]
      go_wp2
      rw [rounds_succ]
      go_wp2
      go_ret
      exact ⟨by simp, rfl⟩
  · have ha' : (a == 0) = false := by simpa using ha
    go_enter Tryz.func99, Tryz.ntmps99
    go_wp2
    refine wp_loop_rounds 4 ?_
    rw [rounds_succ]
    go_wp2
    go_ret
    exact ⟨by simp, rfl⟩
end Go.Proofs.YtalnhlebgofiiaaGreatDoor
namespace Go.Proofs.YtalnhlebgofiiaaGreatDoor
open Go.RowKit Go.Sort
open Bd

def pop1 (i : Nat) : Nat := ((Go.Lib.pop8tab[i]?).getD 0).toNat
theorem pop1_at (i : Nat) (h : i < Go.Lib.pop8tab.size) : (Go.Lib.pop8tab[i]'h).toNat = pop1 i := by
  unfold pop1
  rw [getElem?_pos Go.Lib.pop8tab i h]
  rfl
theorem pop1_le : ∀ i : Fin 256, pop1 i.val ≤ 8 := by decide +kernel
/-- the number of ones, as the library's table has it -/
def popN (x : Nat) : Nat := pop1 (x / 16777216) + pop1 (x / 65536 % 256) + pop1 (x / 256 % 256) + pop1 (x % 256)
theorem popN_le (x : Nat) (hx : x < 4294967296) : popN x ≤ 32 := by
  unfold popN
  have l0 := pop1_le ⟨x % 256, by omega⟩
  have l1 := pop1_le ⟨x / 256 % 256, by omega⟩
  have l2 := pop1_le ⟨x / 65536 % 256, by omega⟩
  have l3 := pop1_le ⟨x / 16777216, by omega⟩
  simp only at l0 l1 l2 l3
  omega
theorem pop_size : Go.Lib.pop8tab.size = 256 := by decide +kernel
theorem and255 (a : Nat) (ha : a < 2 ^ 32) : bits BinOp.and IntKind.u32 (a : Int) 255 = ((a % 256 : Nat) : Int) := by
  have h := (bits_nat .u32 32 (by decide) (fun n h0 h1 => by rw [IntKind.wrap_u32]; omega) a 255 ha (by decide)).1
  rw [show (255 : Int) = ((255 : Nat) : Int) from rfl, h, show (255 : Nat) = 2 ^ 8 - 1 from rfl, Nat.and_two_pow_sub_one_eq_mod]

set_option maxRecDepth 100000 in
set_option maxHeartbeats 1000000 in
theorem ones_any (x : Nat) (hx : x < 4294967296) (w : World) : Calls Tryz.prog 130 #[.int .u32 (x : Int)] w fun e w' => e = .returned (.int .i64 (popN x : Nat)) ∧ ∃ q, w' = w.drewN q := by
  have hs := pop_size
  have b0 := and255 x (by omega)
  have b1 := and255 (x / 256) (by omega)
  have b2 := and255 (x / 65536) (by omega)
  rw [show (((x / 256 : Nat)) : Int) = (x : Int) / 256 by simp] at b1
  rw [show (((x / 65536 : Nat)) : Int) = (x : Int) / 65536 by simp] at b2
  unfold popN
  have j0 : x % 256 < 256 := by omega
  have j1 : x / 256 % 256 < 256 := by omega
  have j2 : x / 65536 % 256 < 256 := by omega
  have j3 : x / 16777216 < 256 := by omega
  have e3 : (x : Int) / 16777216 = ((x / 16777216 : Nat) : Int) := by simp
  generalize x / 16777216 = i3 at *
  generalize x / 65536 % 256 = i2 at *
  generalize x / 256 % 256 = i1 at *
  generalize x % 256 = i0 at *
  have q0 : i0 < Go.Lib.pop8tab.size := by omega
  have p0 := pop1_at i0 q0
  have q1 : i1 < Go.Lib.pop8tab.size := by omega
  have p1 := pop1_at i1 q1
  have q2 : i2 < Go.Lib.pop8tab.size := by omega
  have p2 := pop1_at i2 q2
  have q3 : i3 < Go.Lib.pop8tab.size := by omega
  have p3 := pop1_at i3 q3
  have l0 : pop1 i0 ≤ 8 := pop1_le ⟨i0, j0⟩
  have l1 : pop1 i1 ≤ 8 := pop1_le ⟨i1, j1⟩
  have l2 : pop1 i2 ≤ 8 := pop1_le ⟨i2, j2⟩
  have l3 : pop1 i3 ≤ 8 := pop1_le ⟨i3, j3⟩
  have s0 : (i0 : Int) < (Go.Lib.pop8tab.size : Int) := by omega
  have s1 : (i1 : Int) < (Go.Lib.pop8tab.size : Int) := by omega
  have s2 : (i2 : Int) < (Go.Lib.pop8tab.size : Int) := by omega
  have s3 : (i3 : Int) < (Go.Lib.pop8tab.size : Int) := by omega
  clear hs
  go_enter Tryz.func130, Tryz.ntmps130
  go_wp2_with fail
  go_quiet (fail)
  go_wp2_with fail
  go_ret
  exact ⟨by simp, nq, rfl⟩

theorem two_new (w : World) (a b : Value) (T : TypeId) : (w.alloc (.cells #[a, b] T)).cell? ⟨w.heap.size, 0, none⟩ = some a ∧ (w.alloc (.cells #[a, b] T)).cell? ⟨w.heap.size, 1, none⟩ = some b := ⟨World.cell?_alloc_at _ _ _ _ (by simp), World.cell?_alloc_at _ _ _ _ (by simp)⟩

set_option maxRecDepth 100000 in
set_option maxHeartbeats 1000000 in
theorem cubeSize_any (x : Cub) (w : World) : Calls Tryz.prog 101 #[.agg #[.int .u32 (x.1.val : Int), .int .u32 (x.2.val : Int)]] w fun e w' => e = .returned (.int .i64 ((popN x.1.val + popN x.2.val : Nat) : Int)) ∧ ∃ q os', w' = grow (w.drewN q) os' := by
  obtain ⟨a0, a1⟩ := two_new w (.int .u32 (x.1.val : Int)) (.int .u32 (x.2.val : Int)) 49
  have h1 := x.1.isLt
  have h2 := x.2.isLt
  have p1 := popN_le x.1.val x.1.isLt
  have p2 := popN_le x.2.val x.2.isLt
  generalize x.1.val = on at *
  generalize x.2.val = off at *
  go_enter Tryz.func101, Tryz.ntmps101
  go_wp2_with fail
  have hW : w.alloc (.cells #[.int .u32 (on : Int), .int .u32 (off : Int)] 49) = grow w #[.cells #[.int .u32 (on : Int), .int .u32 (off : Int)] 49] := alloc_eq_grow _ _
  generalize w.alloc (.cells #[.int .u32 (on : Int), .int .u32 (off : Int)] 49) = W at *
  have HW := Lib.hid hW
  clear hW
  go_quiet (first | (go_at_call 130; refine Calls.quiet_of (ones_any _ (by assumption) _)))
  go_wp2_with fail
  go_ret
  refine ⟨by simp, nq, _, by rw [HW.out]; rfl⟩
end Go.Proofs.YtalnhlebgofiiaaGreatDoor
