import Derived.Test.YtalnhlebgofiiaaGreatDoorNode
import Derived.Test.YtalnhlebgofiiaaGreatDoorPur
import Derived.LoopTactic
import Derived.Lib.Hide
import Derived.Test.YtalnhlebgofiiaaGreatDoorRefA
import Derived.Test.YtalnhlebgofiiaaGreatDoorRule
import Derived.Test.YtalnhlebgofiiaaGreatDoorHas
import Derived.Deep.RegionHeld3
import Derived.BigRegion
namespace Go.Proofs.YtalnhlebgofiiaaGreatDoor
open Go.RowKit
open Bd

theorem pow3_le {j n : Nat} (h : j ≤ n) (hn : n ≤ 12) : 3 ^ j ≤ 531441 := Nat.le_trans (Nat.pow_le_pow_right (by decide) (Nat.le_trans h hn)) (by decide)
theorem dig_div (k j : Nat) : dig k j = k / 3 ^ j % 3 := rfl

theorem digI (k q : Nat) (hk : k < 531441) : (wrap64 ((k : Int) / (q : Int))).tmod 3 = ((k / q % 3 : Nat) : Int) := by
  have h1 : k / q ≤ k := Nat.div_le_self _ _
  have e : (k : Int) / (q : Int) = ((k / q : Nat) : Int) := by simp
  rw [e]
  generalize k / q = m at *
  have h2 : wrap64 (m : Int) = m := by unfold wrap64; omega
  rw [h2, Int.tmod_eq_emod_of_nonneg (by omega)]
  omega

set_option maxRecDepth 100000 in
set_option maxHeartbeats 400000 in
/-- the weight of the first open digit -/
theorem firstOpen_any (tb : Nat) (a : Option Addr) (n cap k : Nat) (hn : n ≤ 12) (hk : k < 531441) (w : World) (hc : w.cell? ⟨tb, 2, none⟩ = some (.slice a n cap)) : Calls Tryz.prog 96 #[.pointer (some ⟨tb, 0, none⟩), .int .i64 (k : Int)] w fun e w' => (∃ r : Nat, e = .returned (.int .i64 (r : Int)) ∧ ((r = 0 ∧ ∀ j, j < n → dig k j ≠ 2) ∨ ∃ j, j < n ∧ dig k j = 2 ∧ r = 3 ^ j)) ∧ w' = w := by
  go_enter Tryz.func96, Tryz.ntmps96
  go_wp2_with fail
  go_loop [5, 11] (fun v p => ∃ j q : Nat, j ≤ n ∧ q = 3 ^ j ∧ v = .int .i64 (q : Int) ∧ p = .int .i64 (j : Int) ∧ ∀ i, i < j → dig k i ≠ 2) (fun _ p => n - (intOf p).toNat)
  case atStart => exact ⟨0, 1, Nat.zero_le _, rfl, rfl, rfl, fun i hi => absurd hi (Nat.not_lt_zero _)⟩
  case round =>
    obtain ⟨j, q, hj, hq, rfl, rfl, hi⟩ := hrel
    have hq1 : q ≤ 531441 := by rw [hq]; exact pow3_le hj hn
    have hq0 : 0 < q := by rw [hq]; exact Nat.pow_pos (by decide)
    have hqz : ((q : Int) == 0) = false := by simp; omega
    have hd0 := digI k q hk
    have hdq : dig k j = k / q % 3 := by rw [hq]; rfl
    have hm : wrap64 ((q : Int) * 3) = ((q * 3 : Nat) : Int) := by unfold wrap64; omega
    have HQ := Lib.hid hq
    clear hq
    by_cases hlt : j < n
    · by_cases hd : k / q % 3 = 2
      · have e2 : ((wrap64 ((k : Int) / (q : Int))).tmod 3 == 2) = true := by rw [hd0, hd]; rfl
        clear hd0
        go_wp2_with fail
        go_ret
        exact ⟨⟨q, rfl, .inr ⟨j, hlt, hdq.trans hd, HQ.out⟩⟩, rfl⟩
      · have e2 : ((wrap64 ((k : Int) / (q : Int))).tmod 3 == 2) = false := by rw [hd0]; simp only [beq_eq_false_iff_ne]; omega
        clear hd0
        go_wp2_with fail
        refine ⟨⟨j + 1, q * 3, by omega, by rw [HQ.out, Nat.pow_succ], rfl, by simp, fun i hi' => ?_⟩, by simp [intOf]; omega⟩
        rcases Nat.lt_succ_iff_lt_or_eq.1 hi' with h | rfl
        · exact hi i h
        · rw [hdq]; exact hd
    · obtain rfl : j = n := by omega
      go_wp2_with fail
      go_ret
      exact ⟨⟨0, rfl, .inl ⟨rfl, hi⟩⟩, rfl⟩
end Go.Proofs.YtalnhlebgofiiaaGreatDoor
namespace Go.Proofs.YtalnhlebgofiiaaGreatDoor
open Go.RowKit
namespace Bd
theorem add_lt {d : Nat} : ∀ {j n k : Nat}, j < n → k < 3 ^ n → dig k j + d < 3 → k + d * 3 ^ j < 3 ^ n
  | _, 0, _, h, _, _ => absurd h (Nat.not_lt_zero _)
  | 0, n + 1, k, _, hk, h => by
    rw [dig_zero] at h
    rw [Nat.pow_succ] at *
    generalize 3 ^ n = q at *
    omega
  | j + 1, n + 1, k, hj, hk, h => by
    rw [dig_succ] at h
    rw [Nat.pow_succ] at hk
    have := add_lt (j := j) (n := n) (k := k / 3) (by omega) (by omega) h
    have e : d * 3 ^ (j + 1) = 3 * (d * 3 ^ j) := by rw [Nat.pow_succ, ← Nat.mul_assoc, Nat.mul_comm]
    rw [e, Nat.pow_succ]
    generalize d * 3 ^ j = x at *
    omega
/-- as the program asks it of a table -/
def isPrim (n : Nat) (f : Nat → Bool) (k : Nat) : Prop := f k = true ∧ ∀ j, j < n → dig k j ≠ 2 → f (k + (2 - dig k j) * 3 ^ j) = false
theorem isPrim_ins {V : List Nat} {g : Cfg → Bool} {k : Nat} {f : Nat → Bool} (hk : k < 3 ^ V.length) (hf : ∀ i, i < 3 ^ V.length → f i = insB V g i) : isPrim V.length f k ↔ primB V g k = true := by
  rw [primB_iff]
  unfold isPrim prim
  rw [hf k hk, insB_iff]
  refine and_congr Iff.rfl ⟨fun h j hj hd => ?_, fun h j hj hd => ?_⟩
  · have := h j hj hd
    have hl := dig_lt k j
    rw [hf _ (add_lt hj hk (by omega))] at this
    intro hi
    rw [insB_iff.2 hi] at this; cases this
  · have := h j hj hd
    have hl := dig_lt k j
    rw [hf _ (add_lt hj hk (by omega))]
    cases hx : insB V g (k + (2 - dig k j) * 3 ^ j) with
    | false => rfl
    | true => exact absurd (insB_iff.1 hx) this
noncomputable def isPrimB (n : Nat) (f : Nat → Bool) (k : Nat) : Bool := @decide (isPrim n f k) (Classical.propDecidable _)
theorem isPrimB_iff {n : Nat} {f : Nat → Bool} {k : Nat} : isPrimB n f k = true ↔ isPrim n f k := by unfold isPrimB; rw [@decide_eq_true_iff]
theorem isPrimB_no {n : Nat} {f : Nat → Bool} {k : Nat} (h : ¬ isPrim n f k) : isPrimB n f k = false := by
  cases hx : isPrimB n f k with
  | false => rfl
  | true => exact absurd (isPrimB_iff.1 hx) h
theorem isPrimB_ins {V : List Nat} {g : Cfg → Bool} {k : Nat} {f : Nat → Bool} (hk : k < 3 ^ V.length) (hf : ∀ i, i < 3 ^ V.length → f i = insB V g i) : isPrimB V.length f k = primB V g k := by
  rw [Bool.eq_iff_iff, isPrimB_iff]; exact isPrim_ins hk hf
end Bd
open Bd

set_option maxRecDepth 100000 in
set_option maxHeartbeats 1000000 in
theorem prime_any (tb ib : Nat) (a : Option Addr) (n cap c2 k : Nat) (f : Nat → Bool) (hn : n ≤ 12) (hk : k < 3 ^ n) (w : World) (hc : w.cell? ⟨tb, 2, none⟩ = some (.slice a n cap)) (hi : w.cell? ⟨tb, 3, none⟩ = some (.slice (some ⟨ib, 0, none⟩) (3 ^ n) c2)) (hf : ∀ i, i < 3 ^ n → w.cell? ⟨ib, i, none⟩ = some (.bool (f i))) :
    Calls Tryz.prog 49 #[.pointer (some ⟨tb, 0, none⟩), .int .i64 (k : Int)] w fun e w' => e = .returned (.bool (isPrimB n f k)) ∧ w' = w := by
  obtain ⟨N, hN⟩ : ∃ N, N = 3 ^ n := ⟨_, rfl⟩
  have hN2 : N ≤ 531441 := by rw [hN]; exact pow3_le (Nat.le_refl _) hn
  rw [← hN] at hi hf hk
  have HN := Lib.hid hN
  clear hN
  have hk' : (k : Int) < (N : Int) := by omega
  have hfk := hf k hk
  cases hfv : f k with
  | false =>
    rw [hfv] at hfk
    go_enter Tryz.func49, Tryz.ntmps49
    go_wp2_with fail
    go_ret
    exact ⟨by rw [isPrimB_no (fun h => by rw [h.1] at hfv; cases hfv)]; rfl, rfl⟩
  | true =>
    rw [hfv] at hfk
    go_enter Tryz.func49, Tryz.ntmps49
    go_wp2_with fail
    go_loop [5, 6, 20] (fun v _ p => ∃ j q : Nat, j ≤ n ∧ q = 3 ^ j ∧ v = .int .i64 (q : Int) ∧ p = .int .i64 (j : Int) ∧ ∀ i, i < j → dig k i ≠ 2 → f (k + (2 - dig k i) * 3 ^ i) = false) (fun _ _ p => n - (intOf p).toNat)
    case atStart => exact ⟨0, 1, Nat.zero_le _, rfl, rfl, rfl, fun i hi => absurd hi (Nat.not_lt_zero _)⟩
    case round =>
      obtain ⟨j, q, hj, hq, rfl, rfl, hal⟩ := hrel
      have hq1 : q ≤ 531441 := by rw [hq]; exact pow3_le hj hn
      have hq0 : 0 < q := by rw [hq]; exact Nat.pow_pos (by decide)
      have hqz : ((q : Int) == 0) = false := by simp; omega
      have hd0 := digI k q (by omega)
      have hdq : dig k j = k / q % 3 := by rw [hq]; rfl
      have hm : wrap64 ((q : Int) * 3) = ((q * 3 : Nat) : Int) := by unfold wrap64; omega
      have hin : j < n → dig k j ≠ 2 → k + (2 - dig k j) * q < N := fun h1 h2 => by
        rw [HN.out, hq]; have := dig_lt k j; exact add_lt h1 (by rw [← HN.out]; exact hk) (by omega)
      have HQ := Lib.hid hq
      clear hq
      have hd3 := dig_lt k j
      by_cases hlt : j < n
      · by_cases hd : dig k j = 2
        · rw [← hdq, hd] at hd0
          go_wp2_with fail
          refine ⟨⟨j + 1, q * 3, by omega, by rw [HQ.out, Nat.pow_succ], by simp, by simp, fun i hi' => ?_⟩, by simp [intOf]; omega⟩
          rcases Nat.lt_succ_iff_lt_or_eq.1 hi' with h | rfl
          · exact hal i h
          · exact fun h => absurd hd h
        · have hin' := hin hlt hd
          have hfi := hf _ hin'
          rcases (by omega : dig k j = 0 ∨ dig k j = 1) with e | e
          · rw [← hdq, e] at hd0
            rw [e] at hin' hfi
            have hi2 : (k : Int) + 2 * (q : Int) < (N : Int) := by omega
            cases hfw : f (k + (2 - 0) * q) with
            | true =>
              rw [hfw] at hfi
              go_wp2_with fail
              go_ret
              exact ⟨by rw [isPrimB_no (fun h => by have := h.2 j hlt hd; rw [e, ← HQ.out, hfw] at this; cases this)]; rfl, rfl⟩
            | false =>
              rw [hfw] at hfi
              go_wp2_with fail
              refine ⟨⟨j + 1, q * 3, by omega, by rw [HQ.out, Nat.pow_succ], by simp, by simp, fun i hi' => ?_⟩, by simp [intOf]; omega⟩
              rcases Nat.lt_succ_iff_lt_or_eq.1 hi' with h | rfl
              · exact hal i h
              · intro _; rw [e, ← HQ.out]; exact hfw
          · rw [← hdq, e] at hd0
            rw [e] at hin' hfi
            have e1 : (2 - 1) * q = q := by omega
            rw [e1] at hin' hfi
            have hi2 : (k : Int) + (q : Int) < (N : Int) := by omega
            cases hfw : f (k + q) with
            | true =>
              rw [hfw] at hfi
              go_wp2_with fail
              go_ret
              exact ⟨by rw [isPrimB_no (fun h => by have := h.2 j hlt hd; rw [e, ← HQ.out, e1, hfw] at this; cases this)]; rfl, rfl⟩
            | false =>
              rw [hfw] at hfi
              go_wp2_with fail
              refine ⟨⟨j + 1, q * 3, by omega, by rw [HQ.out, Nat.pow_succ], by simp, by simp, fun i hi' => ?_⟩, by simp [intOf]; omega⟩
              rcases Nat.lt_succ_iff_lt_or_eq.1 hi' with h | rfl
              · exact hal i h
              · intro _; rw [e, ← HQ.out, e1]; exact hfw
      · obtain rfl : j = n := by omega
        go_wp2_with fail
        go_ret
        exact ⟨by rw [isPrimB_iff.2 ⟨hfv, hal⟩]; rfl, rfl⟩
end Go.Proofs.YtalnhlebgofiiaaGreatDoor
namespace Go.Proofs.YtalnhlebgofiiaaGreatDoor
open Go.RowKit
open Bd

theorem or_u32' (s i : Nat) (hs : s < 2 ^ 24) (hi : i < 24) : bits BinOp.or IntKind.u32 (s : Int) (2 ^ i % 4294967296) = ((s ||| 2 ^ i : Nat) : Int) := by
  rw [or_u32 s i hs hi, Nat.one_shiftLeft]

set_option maxRecDepth 100000 in
set_option maxHeartbeats 1000000 in
/-- the cube with a number -/
theorem cube_any (tb : Nat) (V : List Nat) (hV : ∀ v ∈ V, v < 24) (k : Nat) (hk : k < 531441) (hn : V.length ≤ 12) (sv : Value) (w : World) (hc : w.cell? ⟨tb, 2, none⟩ = some sv) (hs : SRow w sv (V.map ik)) :
    Calls Tryz.prog 50 #[.pointer (some ⟨tb, 0, none⟩), .int .i64 (k : Int)] w fun e w' => e = .returned (.agg #[.int .u32 ((cubeAt V k).1 : Int), .int .u32 ((cubeAt V k).2 : Int)]) ∧ Below w.heap.size w w' := by
  obtain ⟨a, cap, rfl⟩ := hs.form
  rw [List.length_map] at *
  have htb := lt_of_cell hc
  simp only at htb
  obtain ⟨r0, r1⟩ := two_cells' w (.int .u32 0) (.int .u32 0) 49
  obtain ⟨x0, x1⟩ := two_cells' (w.alloc (.cells #[.int .u32 0, .int .u32 0] 49)) (.int .u32 0) (.int .u32 0) 49
  have p0 : Fr nob w ((w.alloc (.cells #[.int .u32 0, .int .u32 0] 49)).alloc (.cells #[.int .u32 0, .int .u32 0] 49)) := ((Fr.refl nob w).alloc _).alloc _
  rw [World.size_alloc] at x0 x1
  have hc1 := p0.cell hc (fun h => h)
  go_enter Tryz.func50, Tryz.ntmps50
  go_wp2_with fail
  have ff0 : ((w.alloc (.cells #[.int .u32 0, .int .u32 0] 49)).alloc (.cells #[.int .u32 0, .int .u32 0] 49)).frozen? ⟨w.heap.size, 0, none⟩ = false := by
    rw [(((Fr.refl nob _).alloc _).frozen (p := ⟨w.heap.size, 0, none⟩) (by simp) (fun h => h))]; exact World.frozen?_alloc_at _ _ _ _ (by simp)
  have ff1 : ((w.alloc (.cells #[.int .u32 0, .int .u32 0] 49)).alloc (.cells #[.int .u32 0, .int .u32 0] 49)).frozen? ⟨w.heap.size, 1, none⟩ = false := by
    rw [(((Fr.refl nob _).alloc _).frozen (p := ⟨w.heap.size, 1, none⟩) (by simp) (fun h => h))]; exact World.frozen?_alloc_at _ _ _ _ (by simp)
  have fx0 : ((w.alloc (.cells #[.int .u32 0, .int .u32 0] 49)).alloc (.cells #[.int .u32 0, .int .u32 0] 49)).frozen? ⟨(w.alloc (.cells #[.int .u32 0, .int .u32 0] 49)).heap.size, 0, none⟩ = false := World.frozen?_alloc_at _ _ _ _ (by simp)
  rw [World.size_alloc] at fx0
  have fx1 : ((w.alloc (.cells #[.int .u32 0, .int .u32 0] 49)).alloc (.cells #[.int .u32 0, .int .u32 0] 49)).frozen? ⟨(w.alloc (.cells #[.int .u32 0, .int .u32 0] 49)).heap.size, 1, none⟩ = false := World.frozen?_alloc_at _ _ _ _ (by simp)
  rw [World.size_alloc] at fx1
  replace r0 := cell_alloc_l r0 (.cells #[.int .u32 0, .int .u32 0] 49)
  replace r1 := cell_alloc_l r1 (.cells #[.int .u32 0, .int .u32 0] 49)
  generalize (w.alloc (.cells #[.int .u32 0, .int .u32 0] 49)).alloc (.cells #[.int .u32 0, .int .u32 0] 49) = W at *
  go_loopw [1, 7, 13] (fun kv _ p wr => ∃ j : Nat, j ≤ V.length ∧ kv = .int .i64 ((k / 3 ^ j : Nat) : Int) ∧ p = .int .i64 (j : Int) ∧ Fr nob w wr ∧
      (wr.cell? ⟨w.heap.size, 0, none⟩ = some (.int .u32 0) ∧ wr.cell? ⟨w.heap.size, 1, none⟩ = some (.int .u32 0) ∧ wr.cell? ⟨w.heap.size + 1, 0, none⟩ = some (.int .u32 (msk 1 V k j : Int)) ∧ wr.cell? ⟨w.heap.size + 1, 1, none⟩ = some (.int .u32 (msk 0 V k j : Int))) ∧
      (wr.frozen? ⟨w.heap.size, 0, none⟩ = false ∧ wr.frozen? ⟨w.heap.size, 1, none⟩ = false ∧ wr.frozen? ⟨w.heap.size + 1, 0, none⟩ = false ∧ wr.frozen? ⟨w.heap.size + 1, 1, none⟩ = false)) (fun _ _ p _ => V.length - (intOf p).toNat)
  case atStart => exact ⟨0, Nat.zero_le _, by simp, rfl, p0, ⟨r0, r1, x0, x1⟩, ff0, ff1, fx0, fx1⟩
  case round =>
    clear r0 r1 x0 x1 ff0 ff1 fx0 fx1 hc1 p0
    obtain ⟨j, hj, rfl, rfl, fr, ⟨r0, r1, x0, x1⟩, ff0, ff1, fx0, fx1⟩ := hrel
    by_cases hlt : j < V.length
    · obtain ⟨g, rfl, hg⟩ := (hs.kept fr).at (j := j) (u := ik V[j]) (by simp [hlt])
      have hv := hV V[j] (List.getElem_mem hlt)
      have hgd : V.getD j 0 = V[j] := by rw [List.getD_eq_getElem?_getD, List.getElem?_eq_getElem hlt]; rfl
      have m0 := msk_lt 0 hV k j hj
      have m1 := msk_lt 1 hV k j hj
      have s0 : msk 0 V k (j + 1) = if dig k j = 0 then msk 0 V k j ||| 2 ^ V[j] else msk 0 V k j := by rw [msk, hgd]
      have s1 : msk 1 V k (j + 1) = if dig k j = 1 then msk 1 V k j ||| 2 ^ V[j] else msk 1 V k j := by rw [msk, hgd]
      have o0 := or_u32' (msk 0 V k j) V[j] m0 hv
      have o1 := or_u32' (msk 1 V k j) V[j] m1 hv
      have hq : k / 3 ^ (j + 1) = k / 3 ^ j / 3 := by rw [Nat.pow_succ, Nat.div_div_eq_div_mul]
      have hkle : k / 3 ^ j ≤ k := Nat.div_le_self _ _
      have hdd := dig_div k j
      have hd3 := dig_lt k j
      obtain ⟨kj, hkj⟩ : ∃ m, m = k / 3 ^ j := ⟨_, rfl⟩
      rw [← hkj] at hq hkle hdd ⊢
      have hd : (kj : Int).tmod 3 = (dig k j : Int) := by rw [Int.tmod_eq_emod_of_nonneg (by omega), hdd]; omega
      have hj1 : (j : Int) < (V.length : Int) := by omega
      have HQ := Lib.hid (And.intro hq (And.intro s0 s1))
      clear hkj s0 s1 hq hgd
      obtain ⟨a0, ha0⟩ : ∃ m, m = msk 0 V k j := ⟨_, rfl⟩
      obtain ⟨a1, ha1⟩ : ∃ m, m = msk 1 V k j := ⟨_, rfl⟩
      rw [← ha0] at x1 m0 o0
      rw [← ha1] at x0 m1 o1
      have HA := Lib.hid (And.intro ha0 ha1)
      clear ha0 ha1
      generalize V[j] = v at *
      rcases (by omega : dig k j = 0 ∨ dig k j = 1 ∨ dig k j = 2) with e | e | e
      · rw [e] at hd
        clear hdd
        go_wp2_with fail
        go_region
        have q0 : (wr.setCell ⟨w.heap.size + 1, 1, none⟩ (.int .u32 ((a0 ||| 2 ^ v : Nat) : Int))).drew.cell? ⟨w.heap.size + 1, 1, none⟩ = some (.int .u32 ((a0 ||| 2 ^ v : Nat) : Int)) := World.cell?_setCell_same' _ _ _ (by rw [x1]; rfl)
        have q1 : (wr.setCell ⟨w.heap.size + 1, 1, none⟩ (.int .u32 ((a0 ||| 2 ^ v : Nat) : Int))).drew.cell? ⟨w.heap.size + 1, 0, none⟩ = some (.int .u32 (a1 : Int)) := (World.cell?_setCell_other _ _ _ _ (by simp)).trans x0
        have q2 : (wr.setCell ⟨w.heap.size + 1, 1, none⟩ (.int .u32 ((a0 ||| 2 ^ v : Nat) : Int))).drew.cell? ⟨w.heap.size, 0, none⟩ = some (.int .u32 0) := (World.cell?_setCell_other _ _ _ _ (by simp)).trans r0
        have q3 : (wr.setCell ⟨w.heap.size + 1, 1, none⟩ (.int .u32 ((a0 ||| 2 ^ v : Nat) : Int))).drew.cell? ⟨w.heap.size, 1, none⟩ = some (.int .u32 0) := (World.cell?_setCell_other _ _ _ _ (by simp)).trans r1
        have qf : ∀ p, (wr.setCell ⟨w.heap.size + 1, 1, none⟩ (.int .u32 ((a0 ||| 2 ^ v : Nat) : Int))).drew.frozen? p = wr.frozen? p := fun p => World.frozen?_setCell _ _ _ _
        have frn : Fr nob w (wr.setCell ⟨w.heap.size + 1, 1, none⟩ (.int .u32 ((a0 ||| 2 ^ v : Nat) : Int))).drew := (fr.set1 (by omega) _).drew
        rw [← qf] at ff0 ff1 fx0 fx1
        generalize (wr.setCell ⟨w.heap.size + 1, 1, none⟩ (.int .u32 ((a0 ||| 2 ^ v : Nat) : Int))).drew = W1 at *
        clear r0 r1 x0 x1 qf fr
        go_wp2_with fail
        obtain ⟨hq, s0, s1⟩ := HQ.out
        rw [e] at s0 s1
        obtain ⟨ha0, ha1⟩ := HA.out
        refine ⟨⟨j + 1, by omega, by rw [hq]; rfl, by simp, frn, ⟨q2, q3, by rw [s1, if_neg (by decide), ← ha1]; exact q1, by rw [s0, if_pos rfl, ← ha0]; exact q0⟩, ff0, ff1, fx0, fx1⟩, by simp [intOf]; omega⟩
      · rw [e] at hd
        clear hdd
        go_wp2_with fail
        go_region
        have q0 : (wr.setCell ⟨w.heap.size + 1, 0, none⟩ (.int .u32 ((a1 ||| 2 ^ v : Nat) : Int))).drew.cell? ⟨w.heap.size + 1, 0, none⟩ = some (.int .u32 ((a1 ||| 2 ^ v : Nat) : Int)) := World.cell?_setCell_same' _ _ _ (by rw [x0]; rfl)
        have q1 : (wr.setCell ⟨w.heap.size + 1, 0, none⟩ (.int .u32 ((a1 ||| 2 ^ v : Nat) : Int))).drew.cell? ⟨w.heap.size + 1, 1, none⟩ = some (.int .u32 (a0 : Int)) := (World.cell?_setCell_other _ _ _ _ (by simp)).trans x1
        have q2 : (wr.setCell ⟨w.heap.size + 1, 0, none⟩ (.int .u32 ((a1 ||| 2 ^ v : Nat) : Int))).drew.cell? ⟨w.heap.size, 0, none⟩ = some (.int .u32 0) := (World.cell?_setCell_other _ _ _ _ (by simp)).trans r0
        have q3 : (wr.setCell ⟨w.heap.size + 1, 0, none⟩ (.int .u32 ((a1 ||| 2 ^ v : Nat) : Int))).drew.cell? ⟨w.heap.size, 1, none⟩ = some (.int .u32 0) := (World.cell?_setCell_other _ _ _ _ (by simp)).trans r1
        have qf : ∀ p, (wr.setCell ⟨w.heap.size + 1, 0, none⟩ (.int .u32 ((a1 ||| 2 ^ v : Nat) : Int))).drew.frozen? p = wr.frozen? p := fun p => World.frozen?_setCell _ _ _ _
        have frn : Fr nob w (wr.setCell ⟨w.heap.size + 1, 0, none⟩ (.int .u32 ((a1 ||| 2 ^ v : Nat) : Int))).drew := (fr.set1 (by omega) _).drew
        rw [← qf] at ff0 ff1 fx0 fx1
        generalize (wr.setCell ⟨w.heap.size + 1, 0, none⟩ (.int .u32 ((a1 ||| 2 ^ v : Nat) : Int))).drew = W1 at *
        clear r0 r1 x0 x1 qf fr
        go_wp2_with fail
        obtain ⟨hq, s0, s1⟩ := HQ.out
        rw [e] at s0 s1
        obtain ⟨ha0, ha1⟩ := HA.out
        refine ⟨⟨j + 1, by omega, by rw [hq]; rfl, by simp, frn, ⟨q2, q3, by rw [s1, if_pos rfl, ← ha1]; exact q0, by rw [s0, if_neg (by decide), ← ha0]; exact q1⟩, ff0, ff1, fx0, fx1⟩, by simp [intOf]; omega⟩
      · rw [e] at hd
        clear hdd
        go_wp2_with fail
        obtain ⟨hq, s0, s1⟩ := HQ.out
        rw [e] at s0 s1
        obtain ⟨ha0, ha1⟩ := HA.out
        refine ⟨⟨j + 1, by omega, by rw [hq]; rfl, by simp, fr, ⟨r0, r1, by rw [s1, if_neg (by decide), ← ha1]; exact x0, by rw [s0, if_neg (by decide), ← ha0]; exact x1⟩, ff0, ff1, fx0, fx1⟩, by simp [intOf]; omega⟩
    · obtain rfl : j = V.length := by omega
      go_wp2_with fail
      refine bodyPost_ret (v := .agg #[.int .u32 ((cubeAt V k).1 : Int), .int .u32 ((cubeAt V k).2 : Int)]) (by simp [results, Tryz.results50, go_sem, r0, r1, cubeAt]) rfl ⟨rfl, ?_⟩
      exact ((fr.set1 (Nat.le_refl _) _).set1 (Nat.le_refl _) _).to_below (Nat.le_refl _) (fun _ h => h.elim)
end Go.Proofs.YtalnhlebgofiiaaGreatDoor
namespace Go.Proofs.YtalnhlebgofiiaaGreatDoor
open Go.RowKit
open Bd

theorem SRow.keptS {S : Nat → Prop} {w w' : World} {v : Value} {l : List Value} (h : SRow w v l) (fr : Fr S w w') (hS : ∀ g, v.ownBlock = some g → ¬ S g) : SRow w' v l := by
  obtain ⟨a, cap, rfl, hc⟩ := h
  refine ⟨a, cap, rfl, fun j u hj => ?_⟩
  obtain ⟨g, rfl, h2⟩ := hc j u hj
  exact ⟨g, rfl, fr.cell h2 (hS g rfl)⟩


/-- the loop of fill: behind k cubes -/
structure FillStT (tb ib : Nat) (A : B) (sv : Value) (V : List Nat) (N k : Nat) (w wr : World) : Prop where
  fr : Fr (fun j => j = tb) w wr
  t0 : wr.cell? ⟨tb, 0, none⟩ = some (.int .u32 (place (li A) A : Int))
  t1 : wr.cell? ⟨tb, 1, none⟩ = some (.string ⟨(code (rows (li A))).toArray⟩)
  t2 : wr.cell? ⟨tb, 2, none⟩ = some sv
  t3 : wr.cell? ⟨tb, 3, none⟩ = some (.slice (some ⟨ib, 0, none⟩) N N)
  hs : SRow wr sv (V.map ik)
  cells : ∀ i, i < N → wr.cell? ⟨ib, i, none⟩ = some (.bool (if i < k then insB V A.ev i else false))
  frz : ∀ o, wr.frozen? ⟨ib, o, none⟩ = false

theorem FillStT.next {tb ib : Nat} {A : B} {sv : Value} {V : List Nat} {N k : Nat} {w wr w2 : World} (h : FillStT tb ib A sv V N k w wr) (f2 : Fr nob wr w2) (hib : w.heap.size ≤ ib) (hne : ib ≠ tb) (hsv : sv.ownBlock ≠ some ib) (hk : k < N) {b : Bool} (hb : b = insB V A.ev k) :
    FillStT tb ib A sv V N (k + 1) w (w2.setCell ⟨ib, k, none⟩ (.bool b)) := by
  obtain ⟨h1, h2, h3, h4, h5, h6, h7, h8⟩ := h
  have z := lt_of_cell (h7 k hk)
  simp only at z
  have fs := fr_store w2 ib k (.bool b)
  refine ⟨(h1.trans f2 (fun _ _ h => h.elim)).set1 hib _, ?_, ?_, ?_, ?_, (h6.kept f2).keptS fs (fun g hg e => hsv (by rw [hg, e])), fun i hi => ?_, fun o => ?_⟩
  · exact fs.cell (f2.cell h2 (fun h => h)) (fun e => hne e.symm)
  · exact fs.cell (f2.cell h3 (fun h => h)) (fun e => hne e.symm)
  · exact fs.cell (f2.cell h4 (fun h => h)) (fun e => hne e.symm)
  · exact fs.cell (f2.cell h5 (fun h => h)) (fun e => hne e.symm)
  · by_cases e : i = k
    · subst e
      rw [World.cell?_setCell_same' _ _ _ (by rw [f2.cell (h7 i hi) (fun h => h)]; rfl), if_pos (by omega), hb]
    · rw [World.cell?_setCell_other _ _ _ _ (fun h => e (by injection h with _ h2; first | exact h2 | exact h2.symm)), f2.cell (h7 i hi) (fun h => h)]
      by_cases h' : i < k
      · rw [if_pos h', if_pos (by omega)]
      · rw [if_neg h', if_neg (by omega)]
  · rw [World.frozen?_setCell]
    exact (f2.frozen (p := ⟨ib, o, none⟩) z (fun h => h)).trans (h8 o)

theorem fill_nums (k q0 q : Nat) (hk : k < q) (hq : q ≤ 531441) (h0 : 0 < q0) (h2 : 2 * q0 ≤ k) : ∃ k1 k2 : Nat, k1 = k - 1 * q0 ∧ k2 = k - 2 * q0 ∧ wrap64 ((k : Int) - (q0 : Int)) = (k1 : Int) ∧ wrap64 ((k : Int) - 2 * (q0 : Int)) = (k2 : Int) ∧ k1 < k ∧ k2 < k ∧ (k1 : Int) < (q : Int) ∧ (k2 : Int) < (q : Int) ∧
    wrap64 (q0 : Int) = (q0 : Int) ∧ wrap64 (2 * (q0 : Int)) = 2 * (q0 : Int) ∧ (0 : Int) < (q0 : Int) ∧ k1 < q ∧ k2 < q ∧ k ≠ k1 ∧ k ≠ k2 ∧ (IntKind.i64.wrap ((k : Int) - (q0 : Int)) = (k1 : Int) ∧ IntKind.i64.wrap ((k : Int) - 2 * (q0 : Int)) = (k2 : Int) ∧ IntKind.i64.wrap (q0 : Int) = (q0 : Int) ∧ IntKind.i64.wrap (2 * (q0 : Int)) = 2 * (q0 : Int) ∧ (0 : Int) ≤ (k1 : Int) ∧ (0 : Int) ≤ (k2 : Int)) := by
  refine ⟨k - 1 * q0, k - 2 * q0, rfl, rfl, ?_, ?_, ?_, ?_, ?_, ?_, ?_, ?_, ?_, ?_, ?_, ?_, ?_, ?_, ?_, ?_, ?_, ?_, ?_⟩ <;> (try rw [IntKind.wrap_i64]) <;> (try unfold wrap64) <;> omega

theorem FillStT.drew {tb ib : Nat} {A : B} {sv : Value} {V : List Nat} {N k : Nat} {w wr : World} (h : FillStT tb ib A sv V N k w wr) : FillStT tb ib A sv V N k w wr.drew := by
  obtain ⟨h1, h2, h3, h4, h5, h6, h7, h8⟩ := h
  exact ⟨h1.drew, h2, h3, h4, h5, h6.kept (Fr.refl nob _).drew, h7, h8⟩

set_option maxRecDepth 100000 in
set_option maxHeartbeats 4000000 in
theorem fill_any (tb : Nat) (A : B) (hA : A.ok 0) (V : List Nat) (hV : ∀ v ∈ V, v < 24) (hnd : V.Nodup) (hon : ∀ c c' : Cfg, (∀ j (h : j < V.length), c V[j] = c' V[j]) → A.ev c = A.ev c') (hn : V.length ≤ 12) (sv : Value) (w : World)
    (t0 : w.cell? ⟨tb, 0, none⟩ = some (.int .u32 (place (li A) A : Int))) (t1 : w.cell? ⟨tb, 1, none⟩ = some (.string ⟨(code (rows (li A))).toArray⟩)) (t2 : w.cell? ⟨tb, 2, none⟩ = some sv) (t3 : w.cell? ⟨tb, 3, none⟩ = some (.slice none 0 0)) (f3 : w.frozen? ⟨tb, 3, none⟩ = false)
    (hs : SRow w sv (V.map ik)) (hne : sv.ownBlock ≠ some tb) (hlt : ∀ g, sv.ownBlock = some g → g < w.heap.size) :
    Calls Tryz.prog 48 #[.pointer (some ⟨tb, 0, none⟩)] w fun e w' => e = .returned (.tuple #[]) ∧ Fr (fun k => k = tb) w w' ∧ w'.cell? ⟨tb, 2, none⟩ = some sv ∧ ∃ ib c2, w.heap.size ≤ ib ∧ w'.cell? ⟨tb, 3, none⟩ = some (.slice (some ⟨ib, 0, none⟩) (3 ^ V.length) c2) ∧ ∀ i, i < 3 ^ V.length → w'.cell? ⟨ib, i, none⟩ = some (.bool (insB V A.ev i)) := by
  obtain ⟨i0, hi0, hz0, hz1, hz2⟩ := info_parts info_bool
  have hsf := hs
  obtain ⟨a, cap, rfl⟩ := hs.form
  rw [List.length_map] at *
  have htb := lt_of_cell t2
  simp only at htb
  go_enter Tryz.func48, Tryz.ntmps48
  go_wp2_with fail
  go_loop [2, 10] (fun cv p => ∃ j q : Nat, j ≤ V.length ∧ q = 3 ^ j ∧ cv = .int .i64 (q : Int) ∧ p = .int .i64 (j : Int)) (fun _ p => V.length - (intOf p).toNat)
  case atStart => exact ⟨0, 1, Nat.zero_le _, rfl, rfl, rfl⟩
  case round =>
    obtain ⟨j, q, hj, hq, rfl, rfl⟩ := hrel
    have hq1 : q ≤ 531441 := by rw [hq]; exact pow3_le hj hn
    have HQ := Lib.hid hq
    clear hq
    by_cases hjn : j < V.length
    · go_wp2_with fail
      exact ⟨⟨j + 1, q * 3, by omega, by rw [HQ.out, Nat.pow_succ], by simp, by simp⟩, by simp [intOf]; omega⟩
    · obtain rfl : j = V.length := by omega
      go_wp2_with (at_make; refine wpList_make_full _ rfl _ _ 34 rfl w.heap.size 4 i0 (.bool false) 1 Tryz.underlying34 hi0 hz0 hz1 .i64 .i64 (q : Int) (q : Int) q rfl rfl rfl rfl ?c1 ?c2 (Nat.le_refl _) ?_)
      case c1 => omega
      case c2 => unfold maxLen; omega
      intro w1 row1 gr1
      have fr1 := (Fr.refl nob w).grown gr1 (fun k h => by cases h)
      have c1 : ∀ i, i < q → w1.cell? ⟨w.heap.size, i, none⟩ = some (.bool false) := fun i hi => by
        rw [row1.cellAt i (by omega)]
        show (madeCells #[Value.bool false] q).toList[i]? = _
        rw [toList_madeCells_one, List.getElem?_replicate, if_pos (by omega)]
      have z1 : ∀ o, w1.frozen? ⟨w.heap.size, o, none⟩ = false := fun o => by
        rcases row1.2 with ⟨h, _⟩ | ⟨g, cap, cur, h, _, hg, _⟩
        · simp at h
        · obtain rfl : w.heap.size = g := by simpa [Value.ownBlock] using congrArg Value.ownBlock h
          simp [World.frozen?, hg]
      have y3 := fr1.cell t3 (fun h => h)
      have y3f := (fr1.frozen (p := ⟨tb, 3, none⟩) htb (fun h => h)).trans f3
      have st0 : FillStT tb w.heap.size A (.slice a V.length cap) V q 0 w (w1.setCell ⟨tb, 3, none⟩ (.slice (some ⟨w.heap.size, 0, none⟩) q q)) := by
        have fs := fr_store w1 tb 3 (.slice (some ⟨w.heap.size, 0, none⟩) q q)
        refine ⟨(fr1.mono (fun _ _ h => h.elim)).trans fs (fun _ _ h => h), ?_, ?_, ?_, World.cell?_setCell_same' _ _ _ (by rw [y3]; rfl), (hsf.kept fr1).keptS fs (fun g hg e => hne (by rw [hg, e])), fun i hi => ?_, fun o => ?_⟩
        · exact (World.cell?_setCell_other _ _ _ _ (by simp)).trans (fr1.cell t0 (fun h => h))
        · exact (World.cell?_setCell_other _ _ _ _ (by simp)).trans (fr1.cell t1 (fun h => h))
        · exact (World.cell?_setCell_other _ _ _ _ (by simp)).trans (fr1.cell t2 (fun h => h))
        · rw [if_neg (Nat.not_lt_zero _)]
          exact (World.cell?_setCell_other _ _ _ _ (by simp <;> omega)).trans (c1 i hi)
        · rw [World.frozen?_setCell]; exact z1 o
      have s3 := st0.t3
      go_wp2_with fail
      generalize w1.setCell ⟨tb, 3, none⟩ (.slice (some ⟨w.heap.size, 0, none⟩) q q) = W at *
      clear row1 gr1 fr1 c1 z1 y3 y3f s3 t0 t1 t2 t3 f3
      have hsv : (Value.slice a V.length cap).ownBlock ≠ some w.heap.size := fun h => by have := hlt _ h; omega
      go_loopw [3, 4, 25] (fun _ _ p wr => ∃ k : Nat, k ≤ q ∧ p = .int .i64 (k : Int) ∧ FillStT tb w.heap.size A (.slice a V.length cap) V q k w wr) (fun _ _ p _ => q - (intOf p).toNat)
      case atStart => exact ⟨0, Nat.zero_le _, rfl, st0⟩
      case round =>
        clear st0
        obtain ⟨k, hk, rfl, st⟩ := hrel
        by_cases hkq : k < q
        · have hk3 : k < 3 ^ V.length := by rw [← HQ.out]; exact hkq
          have hkI : (k : Int) < (q : Int) := by omega
          have hfo := firstOpen_any tb a V.length cap k hn (by omega) wr st.t2
          go_wp2_with fail
          refine hfo.mono ?_
          clear hfo
          rintro e w' ⟨⟨r, rfl, hr⟩, rfl⟩
          have t0 := st.t0
          have t1 := st.t1
          have t2 := st.t2
          have t3 := st.t3
          rcases hr with ⟨rfl, hall⟩ | ⟨j, hj, hd, rfl⟩
          · go_wp2_with fail
            refine wp_region_grow' 15 77 (fun _ => #[]) [] (by kernel_rfl) (by kernel_rfl) rfl rfl (by intro T h; cases h) ?_
            simp only [List.take_succ_cons, List.take_zero]
            refine grow_step (v := ?zv0) rfl rfl ?za0 ?zb0
            case za0 =>
              intro w' hw'
              have y_t0 := hw'.cell t0 (fun h => h)
              have y_t1 := hw'.cell t1 (fun h => h)
              have y_t2 := hw'.cell t2 (fun h => h)
              have y_t3 := hw'.cell t3 (fun h => h)
              clear hw'
              refine growAt_value ?_
              go_simp
              rfl
            simp only [Act.put, List.setIfInBounds_toArray, List.set_cons_zero, List.set_cons_succ]
            refine grow_step (v := ?zv1) rfl rfl ?za1 ?zb1
            case za1 =>
              intro w' hw'
              have y_t0 := hw'.cell t0 (fun h => h)
              have y_t1 := hw'.cell t1 (fun h => h)
              have y_t2 := hw'.cell t2 (fun h => h)
              have y_t3 := hw'.cell t3 (fun h => h)
              clear hw'
              refine growAt_value ?_
              go_simp
              rfl
            simp only [Act.put, List.setIfInBounds_toArray, List.set_cons_zero, List.set_cons_succ]
            refine grow_step (v := ?zv2) rfl rfl ?za2 ?zb2
            case za2 =>
              intro w' hw'
              have y_t0 := hw'.cell t0 (fun h => h)
              have y_t1 := hw'.cell t1 (fun h => h)
              have y_t2 := hw'.cell t2 (fun h => h)
              have y_t3 := hw'.cell t3 (fun h => h)
              clear hw'
              refine growAt_value ?_
              go_simp
              rfl
            simp only [Act.put, List.setIfInBounds_toArray, List.set_cons_zero, List.set_cons_succ]
            refine grow_step (v := ?zv3) rfl rfl ?za3 ?zb3
            case za3 =>
              intro w' hw'
              have y_t0 := hw'.cell t0 (fun h => h)
              have y_t1 := hw'.cell t1 (fun h => h)
              have y_t2 := hw'.cell t2 (fun h => h)
              have y_t3 := hw'.cell t3 (fun h => h)
              clear hw'
              refine growAt_value ?_
              go_simp
              rfl
            simp only [Act.put, List.setIfInBounds_toArray, List.set_cons_zero, List.set_cons_succ]
            refine grow_step (v := ?zv4) rfl rfl ?za4 ?zb4
            case za4 =>
              intro w' hw'
              have y_t0 := hw'.cell t0 (fun h => h)
              have y_t1 := hw'.cell t1 (fun h => h)
              have y_t2 := hw'.cell t2 (fun h => h)
              have y_t3 := hw'.cell t3 (fun h => h)
              clear hw'
              refine growAt_value ?_
              go_simp
              rfl
            simp only [Act.put, List.setIfInBounds_toArray, List.set_cons_zero, List.set_cons_succ]
            refine grow_step (v := ?zv5) rfl rfl ?za5 ?zb5
            case za5 =>
              intro w' hw'
              have y_t0 := hw'.cell t0 (fun h => h)
              have y_t1 := hw'.cell t1 (fun h => h)
              have y_t2 := hw'.cell t2 (fun h => h)
              have y_t3 := hw'.cell t3 (fun h => h)
              clear hw'
              refine growAt_value ?_
              go_simp
              rfl
            simp only [Act.put, List.setIfInBounds_toArray, List.set_cons_zero, List.set_cons_succ]
            refine grow_step (v := ?zv6) rfl rfl ?za6 ?zb6
            case za6 =>
              intro w' hw'
              have y_t0 := hw'.cell t0 (fun h => h)
              have y_t1 := hw'.cell t1 (fun h => h)
              have y_t2 := hw'.cell t2 (fun h => h)
              have y_t3 := hw'.cell t3 (fun h => h)
              clear hw'
              refine growAt_value ?_
              go_simp
              rfl
            simp only [Act.put, List.setIfInBounds_toArray, List.set_cons_zero, List.set_cons_succ]
            refine grow_step (v := ?zv7) rfl rfl ?za7 ?zb7
            case za7 =>
              intro w' hw'
              have y_t0 := hw'.cell t0 (fun h => h)
              have y_t1 := hw'.cell t1 (fun h => h)
              have y_t2 := hw'.cell t2 (fun h => h)
              have y_t3 := hw'.cell t3 (fun h => h)
              clear hw'
              refine growAt_value ?_
              go_simp
              rfl
            simp only [Act.put, List.setIfInBounds_toArray, List.set_cons_zero, List.set_cons_succ]
            refine grow_step (v := ?zv8) rfl rfl ?za8 ?zb8
            case za8 =>
              intro w' hw'
              have y_t0 := hw'.cell t0 (fun h => h)
              have y_t1 := hw'.cell t1 (fun h => h)
              have y_t2 := hw'.cell t2 (fun h => h)
              have y_t3 := hw'.cell t3 (fun h => h)
              clear hw'
              refine growAt_value ?_
              go_simp
              rfl
            simp only [Act.put, List.setIfInBounds_toArray, List.set_cons_zero, List.set_cons_succ]
            refine grow_step (v := ?zv9) rfl rfl ?za9 ?zb9
            case za9 =>
              intro w' hw'
              have y_t0 := hw'.cell t0 (fun h => h)
              have y_t1 := hw'.cell t1 (fun h => h)
              have y_t2 := hw'.cell t2 (fun h => h)
              have y_t3 := hw'.cell t3 (fun h => h)
              clear hw'
              refine growAt_value ?_
              go_simp
              rfl
            simp only [Act.put, List.setIfInBounds_toArray, List.set_cons_zero, List.set_cons_succ]
            refine grow_step (v := ?zv10) rfl rfl ?za10 ?zb10
            case za10 =>
              intro w' hw'
              have y_t0 := hw'.cell t0 (fun h => h)
              have y_t1 := hw'.cell t1 (fun h => h)
              have y_t2 := hw'.cell t2 (fun h => h)
              have y_t3 := hw'.cell t3 (fun h => h)
              clear hw'
              refine growAt_value ?_
              go_simp
              rfl
            simp only [Act.put, List.setIfInBounds_toArray, List.set_cons_zero, List.set_cons_succ]
            refine grow_step (v := .agg #[.int .u32 ((cubeAt V k).1 : Int), .int .u32 ((cubeAt V k).2 : Int)]) rfl rfl ?za11 ?zb11
            case za11 =>
              intro w' hw'
              refine growAt_call ?_ ((cube_any tb V hV k (by omega) hn _ w' (hw'.cell t2 (fun h => h)) (st.hs.kept hw')).mono fun e w'' ⟨he, hb⟩ => ⟨he, (Fr.refl nob _).below hb⟩)
              go_simp
            simp only [Act.put, List.setIfInBounds_toArray, List.set_cons_zero, List.set_cons_succ]
            refine grow_step (v := ?zv12) rfl rfl ?za12 ?zb12
            case za12 =>
              intro w' hw'
              have y_t0 := hw'.cell t0 (fun h => h)
              have y_t1 := hw'.cell t1 (fun h => h)
              have y_t2 := hw'.cell t2 (fun h => h)
              have y_t3 := hw'.cell t3 (fun h => h)
              clear hw'
              refine growAt_value ?_
              go_simp
              rfl
            simp only [Act.put, List.setIfInBounds_toArray, List.set_cons_zero, List.set_cons_succ]
            refine grow_step (v := .bool (A.ev fun i => (cubeAt V k).1.testBit i)) rfl rfl ?za13 ?zb13
            case za13 =>
              intro w' hw'
              refine growAt_call ?_ ((Has_any A hA (cubeAt V k).1 (Nat.lt_trans (msk_lt 1 hV k V.length (Nat.le_refl _)) (by decide)) w').mono fun e w'' ⟨he, hb⟩ => ⟨he, (Fr.refl nob _).below hb⟩)
              go_simp
            simp only [Act.put, List.setIfInBounds_toArray, List.set_cons_zero, List.set_cons_succ]
            refine grow_step (v := ?zv14) rfl rfl ?za14 ?zb14
            case za14 =>
              intro w' hw'
              have y_t0 := hw'.cell t0 (fun h => h)
              have y_t1 := hw'.cell t1 (fun h => h)
              have y_t2 := hw'.cell t2 (fun h => h)
              have y_t3 := hw'.cell t3 (fun h => h)
              clear hw'
              refine growAt_value ?_
              go_simp
              rfl
            simp only [Act.put, List.setIfInBounds_toArray, List.set_cons_zero, List.set_cons_succ]
            refine grow_nil ?_
            intro w2 listed fr2 _ _
            have z2 := (fr2.frozen (p := ⟨w.heap.size, k, none⟩) (by have := st.fr.size; have := lt_of_cell (st.cells k hkq); simpa using this) (fun h => h)).trans (st.frz k)
            have c2 := fr2.cell (st.cells k hkq) (fun h => h)
            have st2 := st.next fr2 (Nat.le_refl _) (by omega) hsv hkq (b := A.ev fun i => (cubeAt V k).1.testBit i) (by rw [Bool.eq_iff_iff, insB_iff]; exact (ins_full hon hall (msk_cfg hnd k)).symm)
            clear st fr2 t0 t1 t2 t3 hsf hs
            go_wp2_with fail
            exact ⟨⟨k + 1, by omega, by simp, st2⟩, by simp [intOf]; omega⟩
          · have hw0 : 0 < 3 ^ j := Nat.pow_pos (by decide)
            have hw1 : 3 ^ j ≤ 531441 := pow3_le (Nat.le_of_lt hj) hn
            have hop := insB_open (f := A.ev) hj hd
            have hsub := (dig_sub (d := 2) (j := j) (k := k) (by rw [hd]; exact Nat.le_refl _)).1
            have ha := fill_nums k (3 ^ j) q hkq hq1 hw0 hsub
            have hj' : j < V.length := hj
            generalize 3 ^ j = q0 at *
            obtain ⟨k1, k2, hk1, hk2, hx1, hx2, l1, l2, m1, m2, hw2, hw3, hq0, p1, p2, n1, n2, hx3, hx4, hw4, hw5, hz1', hz2'⟩ := ha
            rw [← hk1, ← hk2] at hop
            have ci1 := st.cells k1 p1
            have ci2 := st.cells k2 p2
            rw [if_pos l1] at ci1
            rw [if_pos l2] at ci2
            have fz := st.frz k
            have ck := st.cells k hkq
            rw [if_neg (Nat.lt_irrefl k)] at ck
            have keep : ∀ (W : World) (p : Addr) (u v : Value), W.cell? p = some v → (⟨w.heap.size, k, none⟩ : Addr) ≠ p → (W.setCell ⟨w.heap.size, k, none⟩ u).drew.cell? p = some v := fun W p u v h hne => (World.cell?_setCell_other _ _ _ _ hne).trans h
            have ne3 : (⟨w.heap.size, k, none⟩ : Addr) ≠ ⟨tb, 3, none⟩ := fun h => by injection h with h1 h2; omega
            have ne1 : (⟨w.heap.size, k, none⟩ : Addr) ≠ ⟨w.heap.size, k1, none⟩ := fun h => by injection h with h1 h2; exact n1 h2
            have ne2 : (⟨w.heap.size, k, none⟩ : Addr) ≠ ⟨w.heap.size, k2, none⟩ := fun h => by injection h with h1 h2; exact n2 h2
            have hk0 : (0 : Int) ≤ (k : Int) := Int.natCast_nonneg _
            clear hk1 hk2 hsub hd hw1 hw0 hk3 p1 p2 l1 l2
            cases hb1 : insB V A.ev k1 with
            | false =>
              rw [hb1] at hop ci1
              rw [Bool.false_and] at hop
              go_wp2_with fail
              refine wp_region_grow' 28 77 (fun _ => #[]) [] (by kernel_rfl) ?hB28 rfl rfl (by intro T h; cases h) ?_
              case hB28 =>
                refine growB_of (by kernel_rfl) (by kernel_rfl) (by kernel_rfl) (by kernel_rfl) ?_ (by kernel_rfl) (by kernel_rfl) (by kernel_rfl)
                refine lexHead_start (l' := #[false, false, false, false, false, false, false, false, false, false, false, false, false, false, false, false, false, false, false, false, false, false, false, false, false, false, false, false, false]) (by kernel_rfl) ?_
                refine lexHead_cons (l' := #[true, false, false, false, false, false, false, false, false, false, false, false, false, false, false, false, false, false, false, false, false, false, false, false, false, false, false, false, false]) (by kernel_rfl) (by kernel_rfl) ?_
                refine lexHead_cons (l' := #[true, true, false, false, false, false, false, false, false, false, false, false, false, false, false, false, false, false, false, false, false, false, false, false, false, false, false, false, false]) (by kernel_rfl) (by kernel_rfl) ?_
                refine lexHead_cons (l' := #[true, true, true, false, false, false, false, false, false, false, false, false, false, false, false, false, false, false, false, false, false, false, false, false, false, false, false, false, false]) (by kernel_rfl) (by kernel_rfl) ?_
                refine lexHead_cons (l' := #[true, true, true, true, false, false, false, false, false, false, false, false, false, false, false, false, false, false, false, false, false, false, false, false, false, false, false, false, false]) (by kernel_rfl) (by kernel_rfl) ?_
                refine lexHead_cons (l' := #[true, true, true, true, true, false, false, false, false, false, false, false, false, false, false, false, false, false, false, false, false, false, false, false, false, false, false, false, false]) (by kernel_rfl) (by kernel_rfl) ?_
                refine lexHead_cons (l' := #[true, true, true, true, true, true, false, false, false, false, false, false, false, false, false, false, false, false, false, false, false, false, false, false, false, false, false, false, false]) (by kernel_rfl) (by kernel_rfl) ?_
                refine lexHead_cons (l' := #[true, true, true, true, true, true, true, false, false, false, false, false, false, false, false, false, false, false, false, false, false, false, false, false, false, false, false, false, false]) (by kernel_rfl) (by kernel_rfl) ?_
                refine lexHead_cons (l' := #[true, true, true, true, true, true, true, true, false, false, false, false, false, false, false, false, false, false, false, false, false, false, false, false, false, false, false, false, false]) (by kernel_rfl) (by kernel_rfl) ?_
                refine lexHead_cons (l' := #[true, true, true, true, true, true, true, true, true, false, false, false, false, false, false, false, false, false, false, false, false, false, false, false, false, false, false, false, false]) (by kernel_rfl) (by kernel_rfl) ?_
                refine lexHead_cons (l' := #[true, true, true, true, true, true, true, true, true, true, false, false, false, false, false, false, false, false, false, false, false, false, false, false, false, false, false, false, false]) (by kernel_rfl) (by kernel_rfl) ?_
                refine lexHead_cons (l' := #[true, true, true, true, true, true, true, true, true, true, true, false, false, false, false, false, false, false, false, false, false, false, false, false, false, false, false, false, false]) (by kernel_rfl) (by kernel_rfl) ?_
                refine lexHead_cons (l' := #[true, true, true, true, true, true, true, true, true, true, true, true, false, false, false, false, false, false, false, false, false, false, false, false, false, false, false, false, false]) (by kernel_rfl) (by kernel_rfl) ?_
                refine lexHead_cons (l' := #[true, true, true, true, true, true, true, true, true, true, true, true, true, false, false, false, false, false, false, false, false, false, false, false, false, false, false, false, false]) (by kernel_rfl) (by kernel_rfl) ?_
                refine lexHead_cons (l' := #[true, true, true, true, true, true, true, true, true, true, true, true, true, true, false, false, false, false, false, false, false, false, false, false, false, false, false, false, false]) (by kernel_rfl) (by kernel_rfl) ?_
                refine lexHead_cons (l' := #[true, true, true, true, true, true, true, true, true, true, true, true, true, true, true, false, false, false, false, false, false, false, false, false, false, false, false, false, false]) (by kernel_rfl) (by kernel_rfl) ?_
                refine lexHead_cons (l' := #[true, true, true, true, true, true, true, true, true, true, true, true, true, true, true, true, false, false, false, false, false, false, false, false, false, false, false, false, false]) (by kernel_rfl) (by kernel_rfl) ?_
                refine lexHead_cons (l' := #[true, true, true, true, true, true, true, true, true, true, true, true, true, true, true, true, true, false, false, false, false, false, false, false, false, false, false, false, false]) (by kernel_rfl) (by kernel_rfl) ?_
                refine lexHead_cons (l' := #[true, true, true, true, true, true, true, true, true, true, true, true, true, true, true, true, true, true, false, false, false, false, false, false, false, false, false, false, false]) (by kernel_rfl) (by kernel_rfl) ?_
                refine lexHead_cons (l' := #[true, true, true, true, true, true, true, true, true, true, true, true, true, true, true, true, true, true, true, false, false, false, false, false, false, false, false, false, false]) (by kernel_rfl) (by kernel_rfl) ?_
                refine lexHead_cons (l' := #[true, true, true, true, true, true, true, true, true, true, true, true, true, true, true, true, true, true, true, true, false, false, false, false, false, false, false, false, false]) (by kernel_rfl) (by kernel_rfl) ?_
                refine lexHead_cons (l' := #[true, true, true, true, true, true, true, true, true, true, true, true, true, true, true, true, true, true, true, true, true, false, false, false, false, false, false, false, false]) (by kernel_rfl) (by kernel_rfl) ?_
                refine lexHead_cons (l' := #[true, true, true, true, true, true, true, true, true, true, true, true, true, true, true, true, true, true, true, true, true, true, false, false, false, false, false, false, false]) (by kernel_rfl) (by kernel_rfl) ?_
                refine lexHead_cons (l' := #[true, true, true, true, true, true, true, true, true, true, true, true, true, true, true, true, true, true, true, true, true, true, true, false, false, false, false, false, false]) (by kernel_rfl) (by kernel_rfl) ?_
                refine lexHead_cons (l' := #[true, true, true, true, true, true, true, true, true, true, true, true, true, true, true, true, true, true, true, true, true, true, true, true, false, false, false, false, false]) (by kernel_rfl) (by kernel_rfl) ?_
                refine lexHead_cons (l' := #[true, true, true, true, true, true, true, true, true, true, true, true, true, true, true, true, true, true, true, true, true, true, true, true, true, false, false, false, false]) (by kernel_rfl) (by kernel_rfl) ?_
                refine lexHead_cons (l' := #[true, true, true, true, true, true, true, true, true, true, true, true, true, true, true, true, true, true, true, true, true, true, true, true, true, true, false, false, false]) (by kernel_rfl) (by kernel_rfl) ?_
                refine lexHead_cons (l' := #[true, true, true, true, true, true, true, true, true, true, true, true, true, true, true, true, true, true, true, true, true, true, true, true, true, true, true, false, false]) (by kernel_rfl) (by kernel_rfl) ?_
                refine lexHead_cons (l' := #[true, true, true, true, true, true, true, true, true, true, true, true, true, true, true, true, true, true, true, true, true, true, true, true, true, true, true, true, false]) (by kernel_rfl) (by kernel_rfl) ?_
                kernel_rfl
              simp only [List.take_succ_cons, List.take_zero]
              refine grow_step (v := ?v0) rfl rfl ?a0 ?b0
              case a0 =>
                intro w' hw'
                have y_t3 := hw'.cell t3 (fun h => h)
                have y_ci1 := hw'.cell ci1 (fun h => h)
                have y_ci2 := hw'.cell ci2 (fun h => h)
                clear hw'
                refine growAt_value ?_
                go_simp
                rfl
              simp only [Act.put, List.setIfInBounds_toArray, List.set_cons_zero, List.set_cons_succ]
              refine grow_step (v := ?v1) rfl rfl ?a1 ?b1
              case a1 =>
                intro w' hw'
                have y_t3 := hw'.cell t3 (fun h => h)
                have y_ci1 := hw'.cell ci1 (fun h => h)
                have y_ci2 := hw'.cell ci2 (fun h => h)
                clear hw'
                refine growAt_value ?_
                go_simp
                rfl
              simp only [Act.put, List.setIfInBounds_toArray, List.set_cons_zero, List.set_cons_succ]
              refine grow_step (v := ?v2) rfl rfl ?a2 ?b2
              case a2 =>
                intro w' hw'
                have y_t3 := hw'.cell t3 (fun h => h)
                have y_ci1 := hw'.cell ci1 (fun h => h)
                have y_ci2 := hw'.cell ci2 (fun h => h)
                clear hw'
                refine growAt_value ?_
                go_simp
                rfl
              simp only [Act.put, List.setIfInBounds_toArray, List.set_cons_zero, List.set_cons_succ]
              refine grow_step (v := ?v3) rfl rfl ?a3 ?b3
              case a3 =>
                intro w' hw'
                have y_t3 := hw'.cell t3 (fun h => h)
                have y_ci1 := hw'.cell ci1 (fun h => h)
                have y_ci2 := hw'.cell ci2 (fun h => h)
                clear hw'
                refine growAt_value ?_
                go_simp
                rfl
              simp only [Act.put, List.setIfInBounds_toArray, List.set_cons_zero, List.set_cons_succ]
              refine grow_step (v := ?v4) rfl rfl ?a4 ?b4
              case a4 =>
                intro w' hw'
                have y_t3 := hw'.cell t3 (fun h => h)
                have y_ci1 := hw'.cell ci1 (fun h => h)
                have y_ci2 := hw'.cell ci2 (fun h => h)
                clear hw'
                refine growAt_value ?_
                go_simp
                rfl
              simp only [Act.put, List.setIfInBounds_toArray, List.set_cons_zero, List.set_cons_succ]
              refine grow_step (v := ?v5) rfl rfl ?a5 ?b5
              case a5 =>
                intro w' hw'
                have y_t3 := hw'.cell t3 (fun h => h)
                have y_ci1 := hw'.cell ci1 (fun h => h)
                have y_ci2 := hw'.cell ci2 (fun h => h)
                clear hw'
                refine growAt_value ?_
                go_simp
                rfl
              simp only [Act.put, List.setIfInBounds_toArray, List.set_cons_zero, List.set_cons_succ]
              refine grow_step (v := ?v6) rfl rfl ?a6 ?b6
              case a6 =>
                intro w' hw'
                have y_t3 := hw'.cell t3 (fun h => h)
                have y_ci1 := hw'.cell ci1 (fun h => h)
                have y_ci2 := hw'.cell ci2 (fun h => h)
                clear hw'
                refine growAt_value ?_
                go_simp
                rfl
              simp only [Act.put, List.setIfInBounds_toArray, List.set_cons_zero, List.set_cons_succ]
              refine grow_step (v := ?v7) rfl rfl ?a7 ?b7
              case a7 =>
                intro w' hw'
                have y_t3 := hw'.cell t3 (fun h => h)
                have y_ci1 := hw'.cell ci1 (fun h => h)
                have y_ci2 := hw'.cell ci2 (fun h => h)
                clear hw'
                refine growAt_value ?_
                go_simp
                rfl
              simp only [Act.put, List.setIfInBounds_toArray, List.set_cons_zero, List.set_cons_succ]
              refine grow_step (v := ?v8) rfl rfl ?a8 ?b8
              case a8 =>
                intro w' hw'
                have y_t3 := hw'.cell t3 (fun h => h)
                have y_ci1 := hw'.cell ci1 (fun h => h)
                have y_ci2 := hw'.cell ci2 (fun h => h)
                clear hw'
                refine growAt_value ?_
                go_simp
                rfl
              simp only [Act.put, List.setIfInBounds_toArray, List.set_cons_zero, List.set_cons_succ]
              refine grow_step (v := ?v9) rfl rfl ?a9 ?b9
              case a9 =>
                intro w' hw'
                have y_t3 := hw'.cell t3 (fun h => h)
                have y_ci1 := hw'.cell ci1 (fun h => h)
                have y_ci2 := hw'.cell ci2 (fun h => h)
                clear hw'
                refine growAt_value ?_
                go_simp
                rfl
              simp only [Act.put, List.setIfInBounds_toArray, List.set_cons_zero, List.set_cons_succ]
              refine grow_step (v := ?v10) rfl rfl ?a10 ?b10
              case a10 =>
                intro w' hw'
                have y_t3 := hw'.cell t3 (fun h => h)
                have y_ci1 := hw'.cell ci1 (fun h => h)
                have y_ci2 := hw'.cell ci2 (fun h => h)
                clear hw'
                refine growAt_value ?_
                go_simp
                rfl
              simp only [Act.put, List.setIfInBounds_toArray, List.set_cons_zero, List.set_cons_succ]
              refine grow_step (v := ?v11) rfl rfl ?a11 ?b11
              case a11 =>
                intro w' hw'
                have y_t3 := hw'.cell t3 (fun h => h)
                have y_ci1 := hw'.cell ci1 (fun h => h)
                have y_ci2 := hw'.cell ci2 (fun h => h)
                clear hw'
                refine growAt_value ?_
                go_simp
                rfl
              simp only [Act.put, List.setIfInBounds_toArray, List.set_cons_zero, List.set_cons_succ]
              refine grow_step (v := ?v12) rfl rfl ?a12 ?b12
              case a12 =>
                intro w' hw'
                have y_t3 := hw'.cell t3 (fun h => h)
                have y_ci1 := hw'.cell ci1 (fun h => h)
                have y_ci2 := hw'.cell ci2 (fun h => h)
                clear hw'
                refine growAt_value ?_
                go_simp
                rfl
              simp only [Act.put, List.setIfInBounds_toArray, List.set_cons_zero, List.set_cons_succ]
              refine grow_step (v := ?v13) rfl rfl ?a13 ?b13
              case a13 =>
                intro w' hw'
                have y_t3 := hw'.cell t3 (fun h => h)
                have y_ci1 := hw'.cell ci1 (fun h => h)
                have y_ci2 := hw'.cell ci2 (fun h => h)
                clear hw'
                refine growAt_value ?_
                go_simp
                rfl
              simp only [Act.put, List.setIfInBounds_toArray, List.set_cons_zero, List.set_cons_succ]
              refine grow_step (v := ?v14) rfl rfl ?a14 ?b14
              case a14 =>
                intro w' hw'
                have y_t3 := hw'.cell t3 (fun h => h)
                have y_ci1 := hw'.cell ci1 (fun h => h)
                have y_ci2 := hw'.cell ci2 (fun h => h)
                clear hw'
                refine growAt_value ?_
                go_simp
                rfl
              simp only [Act.put, List.setIfInBounds_toArray, List.set_cons_zero, List.set_cons_succ]
              refine grow_step (v := ?v15) rfl rfl ?a15 ?b15
              case a15 =>
                intro w' hw'
                have y_t3 := hw'.cell t3 (fun h => h)
                have y_ci1 := hw'.cell ci1 (fun h => h)
                have y_ci2 := hw'.cell ci2 (fun h => h)
                clear hw'
                refine growAt_value ?_
                go_simp
                rfl
              simp only [Act.put, List.setIfInBounds_toArray, List.set_cons_zero, List.set_cons_succ]
              refine grow_skip rfl rfl ?_
              simp only [Act.put, List.setIfInBounds_toArray, List.set_cons_zero, List.set_cons_succ]
              refine grow_skip rfl rfl ?_
              simp only [Act.put, List.setIfInBounds_toArray, List.set_cons_zero, List.set_cons_succ]
              refine grow_skip rfl rfl ?_
              simp only [Act.put, List.setIfInBounds_toArray, List.set_cons_zero, List.set_cons_succ]
              refine grow_skip rfl rfl ?_
              simp only [Act.put, List.setIfInBounds_toArray, List.set_cons_zero, List.set_cons_succ]
              refine grow_skip rfl rfl ?_
              simp only [Act.put, List.setIfInBounds_toArray, List.set_cons_zero, List.set_cons_succ]
              refine grow_skip rfl rfl ?_
              simp only [Act.put, List.setIfInBounds_toArray, List.set_cons_zero, List.set_cons_succ]
              refine grow_skip rfl rfl ?_
              simp only [Act.put, List.setIfInBounds_toArray, List.set_cons_zero, List.set_cons_succ]
              refine grow_skip rfl rfl ?_
              simp only [Act.put, List.setIfInBounds_toArray, List.set_cons_zero, List.set_cons_succ]
              refine grow_skip rfl rfl ?_
              simp only [Act.put, List.setIfInBounds_toArray, List.set_cons_zero, List.set_cons_succ]
              refine grow_skip rfl rfl ?_
              simp only [Act.put, List.setIfInBounds_toArray, List.set_cons_zero, List.set_cons_succ]
              refine grow_step (v := ?v26) rfl rfl ?a26 ?b26
              case a26 =>
                intro w' hw'
                have y_t3 := hw'.cell t3 (fun h => h)
                have y_ci1 := hw'.cell ci1 (fun h => h)
                have y_ci2 := hw'.cell ci2 (fun h => h)
                clear hw'
                refine growAt_value ?_
                go_simp
                rfl
              simp only [Act.put, List.setIfInBounds_toArray, List.set_cons_zero, List.set_cons_succ]
              refine grow_step (v := ?v27) rfl rfl ?a27 ?b27
              case a27 =>
                intro w' hw'
                have y_t3 := hw'.cell t3 (fun h => h)
                have y_ci1 := hw'.cell ci1 (fun h => h)
                have y_ci2 := hw'.cell ci2 (fun h => h)
                clear hw'
                refine growAt_value ?_
                go_simp
                rfl
              simp only [Act.put, List.setIfInBounds_toArray, List.set_cons_zero, List.set_cons_succ]
              refine grow_nil ?_
              intro w2 listed fr2 _ _
              have z2 := (fr2.frozen (p := ⟨w.heap.size, k, none⟩) (lt_of_cell ck) (fun h => h)).trans fz
              have c2 := fr2.cell ck (fun h => h)
              have st2 := st.next fr2 (Nat.le_refl _) (by omega) hsv hkq hop.symm
              clear st fr2 t0 t1 t2 t3 hsf hs ci1 ci2 ck fz
              go_wp2_with fail
              exact ⟨⟨k + 1, by omega, by simp, st2⟩, by simp [intOf]; omega⟩
            | true =>
              rw [hb1] at hop ci1
              rw [Bool.true_and] at hop
              go_wp2_with fail
              go_region_held3 (fun w' => w'.cell? ⟨tb, 3, none⟩ = some (.slice (some ⟨w.heap.size, 0, none⟩) q q) ∧ w'.cell? ⟨w.heap.size, k1, none⟩ = some (.bool true) ∧ w'.cell? ⟨w.heap.size, k2, none⟩ = some (.bool (insB V A.ev k2)))
                (first | go_keep | (go_split_ands; refine ⟨keep _ _ _ _ ?_ ne3, keep _ _ _ _ ?_ ne1, keep _ _ _ _ ?_ ne2⟩ <;> assumption)) (fail)
              have st2 := (st.next (Fr.refl nob _) (Nat.le_refl _) (by omega) hsv hkq hop.symm).drew
              clear st t0 t1 t2 t3 hsf hs ci1 ci2 ck fz keep ne1 ne2 ne3
              go_wp2_with fail
              exact ⟨⟨k + 1, by omega, by simp, st2⟩, by simp [intOf]; omega⟩
        · obtain rfl : k = q := by omega
          go_wp2_with fail
          go_end0
          refine ⟨rfl, st.fr, st.t2, w.heap.size, k, Nat.le_refl _, by rw [← HQ.out]; exact st.t3, fun i hi => ?_⟩
          rw [← HQ.out] at hi
          rw [st.cells i hi, if_pos hi]
end Go.Proofs.YtalnhlebgofiiaaGreatDoor
