import Derived.Test.YtfhjpldlhhgcnaaDoorGrowTT
import Derived.Test.YtfhjpldlhhgcnaaDoorRuleB
import Derived.Test.YtfhjpldlhhgcnaaDoorRead
namespace Go.Proofs.YtfhjpldlhhgcnaaDoor
open Go.RowKit
open Bd

/-- whether the chosen set is empty or full whatever else is fixed -/
def decidedN (k : Nat × Nat × Nat) : Nat × Bool :=
  if k.1 = 1 ∨ k.2.1 = k.2.2 then (k.2.1, decide (k.2.1 < 2)) else if k.1 = 0 then (k.2.2, decide (k.2.2 < 2)) else (0, false)
def plainN (k : Nat × Nat × Nat) : Nat × Nat × Nat :=
  if k.1 = 0 then (0, 0, k.2.2) else if k.1 = 1 then (1, k.2.1, 0) else k

theorem run_neq_nat (a b : Nat) : ((a : Int) == (b : Int)) = decide (a = b) := by
  by_cases h : a = b
  · simp [h]
  · have : ¬ ((a : Int) = (b : Int)) := by omega
    simp [h, this]

set_option maxRecDepth 100000 in
set_option maxHeartbeats 400000 in
theorem decided_any (a b c : Nat) (w : World) : Calls Tryd.prog 123 #[tk (a, b, c)] w fun e w' => e = .returned (.tuple #[.int .u32 ((decidedN (a, b, c)).1 : Int), .bool (decidedN (a, b, c)).2]) ∧ Below w.heap.size w w' := by
  have fin : ∀ n, Below w.heap.size w ((w.alloc (.cells #[.int .u32 (a : Int), .int .u32 (b : Int), .int .u32 (c : Int)] 116)).drewN n) := fun n => (((Fr.refl nob w).alloc _).drewN n).to_below (Nat.le_refl _) (fun _ h => h.elim)
  by_cases h1 : a = 1
  · subst h1
    have e : decidedN (1, b, c) = (b, decide (b < 2)) := by simp [decidedN]
    rw [e]
    go_enter Tryd.func123, Tryd.ntmps123
    go_wp2
    go_quiet (fail)
    go_wp2
    go_ret2
    exact ⟨by simp; omega, fin _⟩
  have n1 : ((a : Int) == 1) = false := by simp; omega
  by_cases h2 : b = c
  · subst h2
    have e : decidedN (a, b, b) = (b, decide (b < 2)) := by simp [decidedN]
    rw [e]
    go_enter Tryd.func123, Tryd.ntmps123
    go_wp2
    go_quiet (fail)
    go_wp2
    go_ret2
    exact ⟨by simp; omega, fin _⟩
  have n2 : ((b : Int) == (c : Int)) = false := by simp; omega
  by_cases h3 : a = 0
  · subst h3
    have e : decidedN (0, b, c) = (c, decide (c < 2)) := by simp [decidedN, h2]
    rw [e]
    clear n1
    go_enter Tryd.func123, Tryd.ntmps123
    go_wp2
    go_quiet (fail)
    go_wp2
    go_ret2
    exact ⟨by simp; omega, fin _⟩
  · have n3 : ((a : Int) == 0) = false := by simp; omega
    have e : decidedN (a, b, c) = (0, false) := by simp [decidedN, h1, h2, h3]
    rw [e]
    go_enter Tryd.func123, Tryd.ntmps123
    go_wp2
    go_ret2
    exact ⟨rfl, fin 0⟩

set_option maxRecDepth 100000 in
set_option maxHeartbeats 400000 in
theorem plain_any (a b c : Nat) (w : World) : Calls Tryd.prog 124 #[tk (a, b, c)] w fun e w' => e = .returned (tk (plainN (a, b, c))) ∧ Below w.heap.size w w' := by
  by_cases h0 : a = 0
  · subst h0
    have e : plainN (0, b, c) = (0, 0, c) := by simp [plainN]
    rw [e]
    go_enter Tryd.func124, Tryd.ntmps124
    go_wp2
    refine bodyPost_ret (v := tk (0, 0, c)) (by simp [results, Tryd.results124, go_sem]) rfl ⟨rfl, ?_⟩
    exact ((Below.refl _ _).alloc (Nat.le_refl _) _).alloc (by simp) _
  have n0 : ((a : Int) == 0) = false := by simp; omega
  by_cases h1 : a = 1
  · subst h1
    have e : plainN (1, b, c) = (1, b, 0) := by simp [plainN]
    rw [e]
    clear n0
    go_enter Tryd.func124, Tryd.ntmps124
    go_wp2
    refine bodyPost_ret (v := tk (1, b, 0)) (by simp [results, Tryd.results124, go_sem]) rfl ⟨rfl, ?_⟩
    exact ((Below.refl _ _).alloc (Nat.le_refl _) _).alloc (by simp) _
  · have n1 : ((a : Int) == 1) = false := by simp; omega
    have e : plainN (a, b, c) = (a, b, c) := by simp [plainN, h0, h1]
    rw [e]
    go_enter Tryd.func124, Tryd.ntmps124
    go_wp2
    refine bodyPost_ret (v := tk (a, b, c)) (by simp [results, Tryd.results124, go_sem]) rfl ⟨rfl, ?_⟩
    exact ((Below.refl _ _).alloc (Nat.le_refl _) _).alloc (by simp) _
end Go.Proofs.YtfhjpldlhhgcnaaDoor
