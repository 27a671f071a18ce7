import Derived.Test.YtiainlccodnlmaaGreatDoorNode
import Derived.Test.YtiainlccodnlmaaGreatDoorPur
import Derived.LoopTactic
import Derived.Lib.Hide
namespace Go.Proofs.YtiainlccodnlmaaGreatDoor
open Go.RowKit
open Bd

theorem pow3_le {j n : Nat} (h : j ≤ n) (hn : n ≤ 12) : 3 ^ j ≤ 531441 := Nat.le_trans (Nat.pow_le_pow_right (by decide) (Nat.le_trans h hn)) (by decide)
theorem dig_div (k j : Nat) : dig k j = k / 3 ^ j % 3 := rfl

theorem digI (k q : Nat) (hk : k < 531441) : (wrap64 ((k : Int) / (q : Int))).tmod 3 = ((k / q % 3 : Nat) : Int) := by
  have h1 : k / q ≤ k := Nat.div_le_self _ _
  have e : (k : Int) / (q : Int) = ((k / q : Nat) : Int) := by simp
  rw [e]
  generalize k / q = m at *
  have h2 : wrap64 (m : Int) = m := by unfold wrap64; omega
  rw [h2, Int.tmod_eq_emod_of_nonneg (by omega)]
  omega

set_option maxRecDepth 100000 in
set_option maxHeartbeats 400000 in
/-- the weight of the first open digit -/
theorem firstOpen_any (tb : Nat) (a : Option Addr) (n cap k : Nat) (hn : n ≤ 12) (hk : k < 531441) (w : World) (hc : w.cell? ⟨tb, 2, none⟩ = some (.slice a n cap)) : Calls Tryz.prog 96 #[.pointer (some ⟨tb, 0, none⟩), .int .i64 (k : Int)] w fun e w' => (∃ r : Nat, e = .returned (.int .i64 (r : Int)) ∧ ((r = 0 ∧ ∀ j, j < n → dig k j ≠ 2) ∨ ∃ j, j < n ∧ dig k j = 2 ∧ r = 3 ^ j)) ∧ w' = w := by
  go_enter Tryz.func96, Tryz.ntmps96
  go_wp2_with fail
  go_loop [5, 11] (fun v p => ∃ j q : Nat, j ≤ n ∧ q = 3 ^ j ∧ v = .int .i64 (q : Int) ∧ p = .int .i64 (j : Int) ∧ ∀ i, i < j → dig k i ≠ 2) (fun _ p => n - (intOf p).toNat)
  case atStart => exact ⟨0, 1, Nat.zero_le _, rfl, rfl, rfl, fun i hi => absurd hi (Nat.not_lt_zero _)⟩
  case round =>
    obtain ⟨j, q, hj, hq, rfl, rfl, hi⟩ := hrel
    have hq1 : q ≤ 531441 := by rw [hq]; exact pow3_le hj hn
    have hq0 : 0 < q := by rw [hq]; exact Nat.pow_pos (by decide)
    have hqz : ((q : Int) == 0) = false := by simp; omega
    have hd0 := digI k q hk
    have hdq : dig k j = k / q % 3 := by rw [hq]; rfl
    have hm : wrap64 ((q : Int) * 3) = ((q * 3 : Nat) : Int) := by unfold wrap64; omega
    have HQ := Lib.hid hq
    clear hq
    by_cases hlt : j < n
    · by_cases hd : k / q % 3 = 2
      · have e2 : ((wrap64 ((k : Int) / (q : Int))).tmod 3 == 2) = true := by rw [hd0, hd]; rfl
        clear hd0
        go_wp2_with fail
        go_ret
        exact ⟨⟨q, rfl, .inr ⟨j, hlt, hdq.trans hd, HQ.out⟩⟩, rfl⟩
      · have e2 : ((wrap64 ((k : Int) / (q : Int))).tmod 3 == 2) = false := by rw [hd0]; simp only [beq_eq_false_iff_ne]; omega
        clear hd0
        go_wp2_with fail
        refine ⟨⟨j + 1, q * 3, by omega, by rw [HQ.out, Nat.pow_succ], rfl, by simp, fun i hi' => ?_⟩, by simp [intOf]; omega⟩
        rcases Nat.lt_succ_iff_lt_or_eq.1 hi' with h | rfl
        · exact hi i h
        · rw [hdq]; exact hd
    · obtain rfl : j = n := by omega
      go_wp2_with fail
      go_ret
      exact ⟨⟨0, rfl, .inl ⟨rfl, hi⟩⟩, rfl⟩
end Go.Proofs.YtiainlccodnlmaaGreatDoor
namespace Go.Proofs.YtiainlccodnlmaaGreatDoor
open Go.RowKit
namespace Bd
theorem add_lt {d : Nat} : ∀ {j n k : Nat}, j < n → k < 3 ^ n → dig k j + d < 3 → k + d * 3 ^ j < 3 ^ n
  | _, 0, _, h, _, _ => absurd h (Nat.not_lt_zero _)
  | 0, n + 1, k, _, hk, h => by
    rw [dig_zero] at h
    rw [Nat.pow_succ] at *
    generalize 3 ^ n = q at *
    omega
  | j + 1, n + 1, k, hj, hk, h => by
    rw [dig_succ] at h
    rw [Nat.pow_succ] at hk
    have := add_lt (j := j) (n := n) (k := k / 3) (by omega) (by omega) h
    have e : d * 3 ^ (j + 1) = 3 * (d * 3 ^ j) := by rw [Nat.pow_succ, ← Nat.mul_assoc, Nat.mul_comm]
    rw [e, Nat.pow_succ]
    generalize d * 3 ^ j = x at *
    omega
/-- as the program asks it of a table -/
def isPrim (n : Nat) (f : Nat → Bool) (k : Nat) : Prop := f k = true ∧ ∀ j, j < n → dig k j ≠ 2 → f (k + (2 - dig k j) * 3 ^ j) = false
theorem isPrim_ins {V : List Nat} {g : Cfg → Bool} {k : Nat} {f : Nat → Bool} (hk : k < 3 ^ V.length) (hf : ∀ i, i < 3 ^ V.length → f i = insB V g i) : isPrim V.length f k ↔ primB V g k = true := by
  rw [primB_iff]
  unfold isPrim prim
  rw [hf k hk, insB_iff]
  refine and_congr Iff.rfl ⟨fun h j hj hd => ?_, fun h j hj hd => ?_⟩
  · have := h j hj hd
    have hl := dig_lt k j
    rw [hf _ (add_lt hj hk (by omega))] at this
    intro hi
    rw [insB_iff.2 hi] at this; cases this
  · have := h j hj hd
    have hl := dig_lt k j
    rw [hf _ (add_lt hj hk (by omega))]
    cases hx : insB V g (k + (2 - dig k j) * 3 ^ j) with
    | false => rfl
    | true => exact absurd (insB_iff.1 hx) this
noncomputable def isPrimB (n : Nat) (f : Nat → Bool) (k : Nat) : Bool := @decide (isPrim n f k) (Classical.propDecidable _)
theorem isPrimB_iff {n : Nat} {f : Nat → Bool} {k : Nat} : isPrimB n f k = true ↔ isPrim n f k := by unfold isPrimB; rw [@decide_eq_true_iff]
theorem isPrimB_no {n : Nat} {f : Nat → Bool} {k : Nat} (h : ¬ isPrim n f k) : isPrimB n f k = false := by
  cases hx : isPrimB n f k with
  | false => rfl
  | true => exact absurd (isPrimB_iff.1 hx) h
theorem isPrimB_ins {V : List Nat} {g : Cfg → Bool} {k : Nat} {f : Nat → Bool} (hk : k < 3 ^ V.length) (hf : ∀ i, i < 3 ^ V.length → f i = insB V g i) : isPrimB V.length f k = primB V g k := by
  rw [Bool.eq_iff_iff, isPrimB_iff]; exact isPrim_ins hk hf
end Bd
open Bd

set_option maxRecDepth 100000 in
set_option maxHeartbeats 1000000 in
theorem prime_any (tb ib : Nat) (a : Option Addr) (n cap c2 k : Nat) (f : Nat → Bool) (hn : n ≤ 12) (hk : k < 3 ^ n) (w : World) (hc : w.cell? ⟨tb, 2, none⟩ = some (.slice a n cap)) (hi : w.cell? ⟨tb, 3, none⟩ = some (.slice (some ⟨ib, 0, none⟩) (3 ^ n) c2)) (hf : ∀ i, i < 3 ^ n → w.cell? ⟨ib, i, none⟩ = some (.bool (f i))) :
    Calls Tryz.prog 49 #[.pointer (some ⟨tb, 0, none⟩), .int .i64 (k : Int)] w fun e w' => e = .returned (.bool (isPrimB n f k)) ∧ w' = w := by
  obtain ⟨N, hN⟩ : ∃ N, N = 3 ^ n := ⟨_, rfl⟩
  have hN2 : N ≤ 531441 := by rw [hN]; exact pow3_le (Nat.le_refl _) hn
  rw [← hN] at hi hf hk
  have HN := Lib.hid hN
  clear hN
  have hk' : (k : Int) < (N : Int) := by omega
  have hfk := hf k hk
  cases hfv : f k with
  | false =>
    rw [hfv] at hfk
    go_enter Tryz.func49, Tryz.ntmps49
    go_wp2_with fail
    go_ret
    exact ⟨by rw [isPrimB_no (fun h => by rw [h.1] at hfv; cases hfv)]; rfl, rfl⟩
  | true =>
    rw [hfv] at hfk
    go_enter Tryz.func49, Tryz.ntmps49
    go_wp2_with fail
    go_loop [5, 6, 20] (fun v _ p => ∃ j q : Nat, j ≤ n ∧ q = 3 ^ j ∧ v = .int .i64 (q : Int) ∧ p = .int .i64 (j : Int) ∧ ∀ i, i < j → dig k i ≠ 2 → f (k + (2 - dig k i) * 3 ^ i) = false) (fun _ _ p => n - (intOf p).toNat)
    case atStart => exact ⟨0, 1, Nat.zero_le _, rfl, rfl, rfl, fun i hi => absurd hi (Nat.not_lt_zero _)⟩
    case round =>
      obtain ⟨j, q, hj, hq, rfl, rfl, hal⟩ := hrel
      have hq1 : q ≤ 531441 := by rw [hq]; exact pow3_le hj hn
      have hq0 : 0 < q := by rw [hq]; exact Nat.pow_pos (by decide)
      have hqz : ((q : Int) == 0) = false := by simp; omega
      have hd0 := digI k q (by omega)
      have hdq : dig k j = k / q % 3 := by rw [hq]; rfl
      have hm : wrap64 ((q : Int) * 3) = ((q * 3 : Nat) : Int) := by unfold wrap64; omega
      have hin : j < n → dig k j ≠ 2 → k + (2 - dig k j) * q < N := fun h1 h2 => by
        rw [HN.out, hq]; have := dig_lt k j; exact add_lt h1 (by rw [← HN.out]; exact hk) (by omega)
      have HQ := Lib.hid hq
      clear hq
      have hd3 := dig_lt k j
      by_cases hlt : j < n
      · by_cases hd : dig k j = 2
        · rw [← hdq, hd] at hd0
          go_wp2_with fail
          refine ⟨⟨j + 1, q * 3, by omega, by rw [HQ.out, Nat.pow_succ], by simp, by simp, fun i hi' => ?_⟩, by simp [intOf]; omega⟩
          rcases Nat.lt_succ_iff_lt_or_eq.1 hi' with h | rfl
          · exact hal i h
          · exact fun h => absurd hd h
        · have hin' := hin hlt hd
          have hfi := hf _ hin'
          rcases (by omega : dig k j = 0 ∨ dig k j = 1) with e | e
          · rw [← hdq, e] at hd0
            rw [e] at hin' hfi
            have hi2 : (k : Int) + 2 * (q : Int) < (N : Int) := by omega
            cases hfw : f (k + (2 - 0) * q) with
            | true =>
              rw [hfw] at hfi
              go_wp2_with fail
              go_ret
              exact ⟨by rw [isPrimB_no (fun h => by have := h.2 j hlt hd; rw [e, ← HQ.out, hfw] at this; cases this)]; rfl, rfl⟩
            | false =>
              rw [hfw] at hfi
              go_wp2_with fail
              refine ⟨⟨j + 1, q * 3, by omega, by rw [HQ.out, Nat.pow_succ], by simp, by simp, fun i hi' => ?_⟩, by simp [intOf]; omega⟩
              rcases Nat.lt_succ_iff_lt_or_eq.1 hi' with h | rfl
              · exact hal i h
              · intro _; rw [e, ← HQ.out]; exact hfw
          · rw [← hdq, e] at hd0
            rw [e] at hin' hfi
            have e1 : (2 - 1) * q = q := by omega
            rw [e1] at hin' hfi
            have hi2 : (k : Int) + (q : Int) < (N : Int) := by omega
            cases hfw : f (k + q) with
            | true =>
              rw [hfw] at hfi
              go_wp2_with fail
              go_ret
              exact ⟨by rw [isPrimB_no (fun h => by have := h.2 j hlt hd; rw [e, ← HQ.out, e1, hfw] at this; cases this)]; rfl, rfl⟩
            | false =>
              rw [hfw] at hfi
              go_wp2_with fail
              refine ⟨⟨j + 1, q * 3, by omega, by rw [HQ.out, Nat.pow_succ], by simp, by simp, fun i hi' => ?_⟩, by simp [intOf]; omega⟩
              rcases Nat.lt_succ_iff_lt_or_eq.1 hi' with h | rfl
              · exact hal i h
              · intro _; rw [e, ← HQ.out, e1]; exact hfw
      · obtain rfl : j = n := by omega
        go_wp2_with fail
        go_ret
        exact ⟨by rw [isPrimB_iff.2 ⟨hfv, hal⟩]; rfl, rfl⟩
end Go.Proofs.YtiainlccodnlmaaGreatDoor
