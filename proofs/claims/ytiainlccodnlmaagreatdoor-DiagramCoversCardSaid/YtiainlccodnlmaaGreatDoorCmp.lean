import Derived.Test.YtiainlccodnlmaaGreatDoorNode
import Derived.Test.YtiainlccodnlmaaGreatDoorOrd
import Derived.LoopTactic
import Derived.Shelf.SlSortCmp.QuietGrown
import Derived.BigQuiet
import Derived.Lib.Hide
import Derived.Laws.BitsLemmas
namespace Go.Proofs.YtiainlccodnlmaaGreatDoor
open Go.RowKit Go.Sort
open Bd

set_option maxRecDepth 100000 in
set_option maxHeartbeats 1000000 in
theorem isNaNI_any (x : Int) (w : World) : Calls Tryz.prog 129 #[.int .i64 x] w fun e w' => e = .returned (.bool false) ∧ w' = w := by
  go_enter Tryz.func129, Tryz.ntmps129
  go_wp2
  go_ret
  exact ⟨by simp, rfl⟩
set_option maxRecDepth 100000 in
set_option maxHeartbeats 1000000 in
theorem isNaNU_any (x : Int) (w : World) : Calls Tryz.prog 131 #[.int .u32 x] w fun e w' => e = .returned (.bool false) ∧ w' = w := by
  go_enter Tryz.func131, Tryz.ntmps131
  go_wp2
  go_ret
  exact ⟨by simp, rfl⟩

set_option maxRecDepth 100000 in
set_option maxHeartbeats 1000000 in
theorem compareI_any (a b : Nat) (w : World) : Calls Tryz.prog 100 #[.int .i64 (a : Int), .int .i64 (b : Int)] w fun e w' => e = .returned (.int .i64 (cmp3 a b)) ∧ w' = w := by
  rcases cmp3_cases a b with ⟨h, e⟩ | ⟨h, e⟩ | ⟨h, e⟩ <;> rw [e]
  · have h1 : (a : Int) < (b : Int) := by omega
    clear e
    go_enter Tryz.func100, Tryz.ntmps100
    go_wp2_with (go_at_call 129; refine (isNaNI_any _ _).mono ?_; rintro e w' ⟨rfl, rfl⟩)
    go_ret
    exact ⟨rfl, rfl⟩
  · have h1 : (b : Int) < (a : Int) := by omega
    have h2 : ¬ (a : Int) < (b : Int) := by omega
    clear e
    go_enter Tryz.func100, Tryz.ntmps100
    go_wp2_with (go_at_call 129; refine (isNaNI_any _ _).mono ?_; rintro e w' ⟨rfl, rfl⟩)
    go_ret
    exact ⟨rfl, rfl⟩
  · subst h
    clear e
    go_enter Tryz.func100, Tryz.ntmps100
    go_wp2_with (go_at_call 129; refine (isNaNI_any _ _).mono ?_; rintro e w' ⟨rfl, rfl⟩)
    go_ret
    exact ⟨rfl, rfl⟩
set_option maxRecDepth 100000 in
set_option maxHeartbeats 1000000 in
theorem compareU_any (a b : Nat) (w : World) : Calls Tryz.prog 102 #[.int .u32 (a : Int), .int .u32 (b : Int)] w fun e w' => e = .returned (.int .i64 (cmp3 a b)) ∧ w' = w := by
  rcases cmp3_cases a b with ⟨h, e⟩ | ⟨h, e⟩ | ⟨h, e⟩ <;> rw [e]
  · have h1 : (a : Int) < (b : Int) := by omega
    clear e
    go_enter Tryz.func102, Tryz.ntmps102
    go_wp2_with (go_at_call 131; refine (isNaNU_any _ _).mono ?_; rintro e w' ⟨rfl, rfl⟩)
    go_ret
    exact ⟨rfl, rfl⟩
  · have h1 : (b : Int) < (a : Int) := by omega
    have h2 : ¬ (a : Int) < (b : Int) := by omega
    clear e
    go_enter Tryz.func102, Tryz.ntmps102
    go_wp2_with (go_at_call 131; refine (isNaNU_any _ _).mono ?_; rintro e w' ⟨rfl, rfl⟩)
    go_ret
    exact ⟨rfl, rfl⟩
  · subst h
    clear e
    go_enter Tryz.func102, Tryz.ntmps102
    go_wp2_with (go_at_call 131; refine (isNaNU_any _ _).mono ?_; rintro e w' ⟨rfl, rfl⟩)
    go_ret
    exact ⟨rfl, rfl⟩

/-- the first that is not 0 -/
def or3 (a b c : Int) : Int := if a ≠ 0 then a else if b ≠ 0 then b else c
set_option maxRecDepth 100000 in
set_option maxHeartbeats 1000000 in
theorem or3_any (g cap : Nat) (a b c : Int) (w : World) (h0 : w.cell? ⟨g, 0, none⟩ = some (.int .i64 a)) (h1 : w.cell? ⟨g, 1, none⟩ = some (.int .i64 b)) (h2 : w.cell? ⟨g, 2, none⟩ = some (.int .i64 c)) : Calls Tryz.prog 99 #[.slice (some ⟨g, 0, none⟩) 3 cap] w fun e w' => e = .returned (.int .i64 (or3 a b c)) ∧ w' = w := by
  unfold or3
  by_cases ha : a = 0
  · by_cases hb : b = 0
    · subst ha hb
      by_cases hc : c = 0
      · subst hc
        go_enter Tryz.func99, Tryz.ntmps99
        go_wp2
        refine wp_loop_rounds 4 ?_
        rw [rounds_succ]
        go_wp2
        rw [rounds_succ]
        go_wp2
        rw [rounds_succ]
        go_wp2
        rw [rounds_succ]
        go_wp2
        go_ret
        exact ⟨by simp, rfl⟩
      · have hc' : (c == 0) = false := by simpa using hc
        go_enter Tryz.func99, Tryz.ntmps99
        go_wp2
        refine wp_loop_rounds 4 ?_
        rw [rounds_succ]
        go_wp2
        rw [rounds_succ]
        go_wp2
        rw [rounds_succ]
        go_wp2
        go_ret
        exact ⟨by simp, rfl⟩
    · subst ha
      have hb' : (b == 0) = false := by simpa using hb
      go_enter Tryz.func99, Tryz.ntmps99
      go_wp2
      refine wp_loop_rounds 4 ?_
      rw [rounds_succ]
      go_wp2
      rw [rounds_succ]
      go_wp2
      go_ret
      exact ⟨by simp, rfl⟩
  · have ha' : (a == 0) = false := by simpa using ha
    go_enter Tryz.func99, Tryz.ntmps99
    go_wp2
    refine wp_loop_rounds 4 ?_
    rw [rounds_succ]
    go_wp2
    go_ret
    exact ⟨by simp, rfl⟩
end Go.Proofs.YtiainlccodnlmaaGreatDoor
namespace Go.Proofs.YtiainlccodnlmaaGreatDoor
open Go.RowKit Go.Sort
open Bd

def pop1 (i : Nat) : Nat := ((Go.Lib.pop8tab[i]?).getD 0).toNat
theorem pop1_at (i : Nat) (h : i < Go.Lib.pop8tab.size) : (Go.Lib.pop8tab[i]'h).toNat = pop1 i := by
  unfold pop1
  rw [getElem?_pos Go.Lib.pop8tab i h]
  rfl
theorem pop1_le : ∀ i : Fin 256, pop1 i.val ≤ 8 := by decide +kernel
/-- the number of ones, as the library's table has it -/
def popN (x : Nat) : Nat := pop1 (x / 16777216) + pop1 (x / 65536 % 256) + pop1 (x / 256 % 256) + pop1 (x % 256)
theorem popN_le (x : Nat) (hx : x < 4294967296) : popN x ≤ 32 := by
  unfold popN
  have l0 := pop1_le ⟨x % 256, by omega⟩
  have l1 := pop1_le ⟨x / 256 % 256, by omega⟩
  have l2 := pop1_le ⟨x / 65536 % 256, by omega⟩
  have l3 := pop1_le ⟨x / 16777216, by omega⟩
  simp only at l0 l1 l2 l3
  omega
theorem pop_size : Go.Lib.pop8tab.size = 256 := by decide +kernel
theorem and255 (a : Nat) (ha : a < 2 ^ 32) : bits BinOp.and IntKind.u32 (a : Int) 255 = ((a % 256 : Nat) : Int) := by
  have h := (bits_nat .u32 32 (by decide) (fun n h0 h1 => by rw [IntKind.wrap_u32]; omega) a 255 ha (by decide)).1
  rw [show (255 : Int) = ((255 : Nat) : Int) from rfl, h, show (255 : Nat) = 2 ^ 8 - 1 from rfl, Nat.and_two_pow_sub_one_eq_mod]

set_option maxRecDepth 100000 in
set_option maxHeartbeats 1000000 in
theorem ones_any (x : Nat) (hx : x < 4294967296) (w : World) : Calls Tryz.prog 130 #[.int .u32 (x : Int)] w fun e w' => e = .returned (.int .i64 (popN x : Nat)) ∧ ∃ q, w' = w.drewN q := by
  have hs := pop_size
  have b0 := and255 x (by omega)
  have b1 := and255 (x / 256) (by omega)
  have b2 := and255 (x / 65536) (by omega)
  rw [show (((x / 256 : Nat)) : Int) = (x : Int) / 256 by simp] at b1
  rw [show (((x / 65536 : Nat)) : Int) = (x : Int) / 65536 by simp] at b2
  unfold popN
  have j0 : x % 256 < 256 := by omega
  have j1 : x / 256 % 256 < 256 := by omega
  have j2 : x / 65536 % 256 < 256 := by omega
  have j3 : x / 16777216 < 256 := by omega
  have e3 : (x : Int) / 16777216 = ((x / 16777216 : Nat) : Int) := by simp
  generalize x / 16777216 = i3 at *
  generalize x / 65536 % 256 = i2 at *
  generalize x / 256 % 256 = i1 at *
  generalize x % 256 = i0 at *
  have q0 : i0 < Go.Lib.pop8tab.size := by omega
  have p0 := pop1_at i0 q0
  have q1 : i1 < Go.Lib.pop8tab.size := by omega
  have p1 := pop1_at i1 q1
  have q2 : i2 < Go.Lib.pop8tab.size := by omega
  have p2 := pop1_at i2 q2
  have q3 : i3 < Go.Lib.pop8tab.size := by omega
  have p3 := pop1_at i3 q3
  have l0 : pop1 i0 ≤ 8 := pop1_le ⟨i0, j0⟩
  have l1 : pop1 i1 ≤ 8 := pop1_le ⟨i1, j1⟩
  have l2 : pop1 i2 ≤ 8 := pop1_le ⟨i2, j2⟩
  have l3 : pop1 i3 ≤ 8 := pop1_le ⟨i3, j3⟩
  have s0 : (i0 : Int) < (Go.Lib.pop8tab.size : Int) := by omega
  have s1 : (i1 : Int) < (Go.Lib.pop8tab.size : Int) := by omega
  have s2 : (i2 : Int) < (Go.Lib.pop8tab.size : Int) := by omega
  have s3 : (i3 : Int) < (Go.Lib.pop8tab.size : Int) := by omega
  clear hs
  go_enter Tryz.func130, Tryz.ntmps130
  go_wp2_with fail
  go_quiet (fail)
  go_wp2_with fail
  go_ret
  exact ⟨by simp, nq, rfl⟩

theorem two_new (w : World) (a b : Value) (T : TypeId) : (w.alloc (.cells #[a, b] T)).cell? ⟨w.heap.size, 0, none⟩ = some a ∧ (w.alloc (.cells #[a, b] T)).cell? ⟨w.heap.size, 1, none⟩ = some b := ⟨World.cell?_alloc_at _ _ _ _ (by simp), World.cell?_alloc_at _ _ _ _ (by simp)⟩

set_option maxRecDepth 100000 in
set_option maxHeartbeats 1000000 in
theorem cubeSize_any (x : Cub) (w : World) : Calls Tryz.prog 101 #[.agg #[.int .u32 (x.1.val : Int), .int .u32 (x.2.val : Int)]] w fun e w' => e = .returned (.int .i64 ((popN x.1.val + popN x.2.val : Nat) : Int)) ∧ ∃ q os', w' = grow (w.drewN q) os' := by
  obtain ⟨a0, a1⟩ := two_new w (.int .u32 (x.1.val : Int)) (.int .u32 (x.2.val : Int)) 49
  have h1 := x.1.isLt
  have h2 := x.2.isLt
  have p1 := popN_le x.1.val x.1.isLt
  have p2 := popN_le x.2.val x.2.isLt
  generalize x.1.val = on at *
  generalize x.2.val = off at *
  go_enter Tryz.func101, Tryz.ntmps101
  go_wp2_with fail
  have hW : w.alloc (.cells #[.int .u32 (on : Int), .int .u32 (off : Int)] 49) = grow w #[.cells #[.int .u32 (on : Int), .int .u32 (off : Int)] 49] := alloc_eq_grow _ _
  generalize w.alloc (.cells #[.int .u32 (on : Int), .int .u32 (off : Int)] 49) = W at *
  have HW := Lib.hid hW
  clear hW
  go_quiet (first | (go_at_call 130; refine Calls.quiet_of (ones_any _ (by assumption) _)))
  go_wp2_with fail
  go_ret
  refine ⟨by simp, nq, _, by rw [HW.out]; rfl⟩
end Go.Proofs.YtiainlccodnlmaaGreatDoor
