import Derived.Test.YtiainlccodnlmaaGreatDoorTbA
import Derived.Test.YtiainlccodnlmaaGreatDoorRefA
namespace Go.Proofs.YtiainlccodnlmaaGreatDoor
open Go.RowKit
open Bd

theorem or_u32' (s i : Nat) (hs : s < 2 ^ 24) (hi : i < 24) : bits BinOp.or IntKind.u32 (s : Int) (2 ^ i % 4294967296) = ((s ||| 2 ^ i : Nat) : Int) := by
  rw [or_u32 s i hs hi, Nat.one_shiftLeft]

set_option maxRecDepth 100000 in
set_option maxHeartbeats 1000000 in
/-- the cube with a number -/
theorem cube_any (tb : Nat) (V : List Nat) (hV : ∀ v ∈ V, v < 24) (k : Nat) (hk : k < 531441) (hn : V.length ≤ 12) (sv : Value) (w : World) (hc : w.cell? ⟨tb, 2, none⟩ = some sv) (hs : SRow w sv (V.map ik)) :
    Calls Tryz.prog 50 #[.pointer (some ⟨tb, 0, none⟩), .int .i64 (k : Int)] w fun e w' => e = .returned (.agg #[.int .u32 ((cubeAt V k).1 : Int), .int .u32 ((cubeAt V k).2 : Int)]) ∧ Below w.heap.size w w' := by
  obtain ⟨a, cap, rfl⟩ := hs.form
  rw [List.length_map] at *
  have htb := lt_of_cell hc
  simp only at htb
  obtain ⟨r0, r1⟩ := two_cells' w (.int .u32 0) (.int .u32 0) 49
  obtain ⟨x0, x1⟩ := two_cells' (w.alloc (.cells #[.int .u32 0, .int .u32 0] 49)) (.int .u32 0) (.int .u32 0) 49
  have p0 : Fr nob w ((w.alloc (.cells #[.int .u32 0, .int .u32 0] 49)).alloc (.cells #[.int .u32 0, .int .u32 0] 49)) := ((Fr.refl nob w).alloc _).alloc _
  rw [World.size_alloc] at x0 x1
  have hc1 := p0.cell hc (fun h => h)
  go_enter Tryz.func50, Tryz.ntmps50
  go_wp2_with fail
  have ff0 : ((w.alloc (.cells #[.int .u32 0, .int .u32 0] 49)).alloc (.cells #[.int .u32 0, .int .u32 0] 49)).frozen? ⟨w.heap.size, 0, none⟩ = false := by
    rw [(((Fr.refl nob _).alloc _).frozen (p := ⟨w.heap.size, 0, none⟩) (by simp) (fun h => h))]; exact World.frozen?_alloc_at _ _ _ _ (by simp)
  have ff1 : ((w.alloc (.cells #[.int .u32 0, .int .u32 0] 49)).alloc (.cells #[.int .u32 0, .int .u32 0] 49)).frozen? ⟨w.heap.size, 1, none⟩ = false := by
    rw [(((Fr.refl nob _).alloc _).frozen (p := ⟨w.heap.size, 1, none⟩) (by simp) (fun h => h))]; exact World.frozen?_alloc_at _ _ _ _ (by simp)
  have fx0 : ((w.alloc (.cells #[.int .u32 0, .int .u32 0] 49)).alloc (.cells #[.int .u32 0, .int .u32 0] 49)).frozen? ⟨(w.alloc (.cells #[.int .u32 0, .int .u32 0] 49)).heap.size, 0, none⟩ = false := World.frozen?_alloc_at _ _ _ _ (by simp)
  rw [World.size_alloc] at fx0
  have fx1 : ((w.alloc (.cells #[.int .u32 0, .int .u32 0] 49)).alloc (.cells #[.int .u32 0, .int .u32 0] 49)).frozen? ⟨(w.alloc (.cells #[.int .u32 0, .int .u32 0] 49)).heap.size, 1, none⟩ = false := World.frozen?_alloc_at _ _ _ _ (by simp)
  rw [World.size_alloc] at fx1
  replace r0 := cell_alloc_l r0 (.cells #[.int .u32 0, .int .u32 0] 49)
  replace r1 := cell_alloc_l r1 (.cells #[.int .u32 0, .int .u32 0] 49)
  generalize (w.alloc (.cells #[.int .u32 0, .int .u32 0] 49)).alloc (.cells #[.int .u32 0, .int .u32 0] 49) = W at *
  go_loopw [1, 7, 13] (fun kv _ p wr => ∃ j : Nat, j ≤ V.length ∧ kv = .int .i64 ((k / 3 ^ j : Nat) : Int) ∧ p = .int .i64 (j : Int) ∧ Fr nob w wr ∧
      (wr.cell? ⟨w.heap.size, 0, none⟩ = some (.int .u32 0) ∧ wr.cell? ⟨w.heap.size, 1, none⟩ = some (.int .u32 0) ∧ wr.cell? ⟨w.heap.size + 1, 0, none⟩ = some (.int .u32 (msk 1 V k j : Int)) ∧ wr.cell? ⟨w.heap.size + 1, 1, none⟩ = some (.int .u32 (msk 0 V k j : Int))) ∧
      (wr.frozen? ⟨w.heap.size, 0, none⟩ = false ∧ wr.frozen? ⟨w.heap.size, 1, none⟩ = false ∧ wr.frozen? ⟨w.heap.size + 1, 0, none⟩ = false ∧ wr.frozen? ⟨w.heap.size + 1, 1, none⟩ = false)) (fun _ _ p _ => V.length - (intOf p).toNat)
  case atStart => exact ⟨0, Nat.zero_le _, by simp, rfl, p0, ⟨r0, r1, x0, x1⟩, ff0, ff1, fx0, fx1⟩
  case round =>
    clear r0 r1 x0 x1 ff0 ff1 fx0 fx1 hc1 p0
    obtain ⟨j, hj, rfl, rfl, fr, ⟨r0, r1, x0, x1⟩, ff0, ff1, fx0, fx1⟩ := hrel
    by_cases hlt : j < V.length
    · obtain ⟨g, rfl, hg⟩ := (hs.kept fr).at (j := j) (u := ik V[j]) (by simp [hlt])
      have hv := hV V[j] (List.getElem_mem hlt)
      have hgd : V.getD j 0 = V[j] := by rw [List.getD_eq_getElem?_getD, List.getElem?_eq_getElem hlt]; rfl
      have m0 := msk_lt 0 hV k j hj
      have m1 := msk_lt 1 hV k j hj
      have s0 : msk 0 V k (j + 1) = if dig k j = 0 then msk 0 V k j ||| 2 ^ V[j] else msk 0 V k j := by rw [msk, hgd]
      have s1 : msk 1 V k (j + 1) = if dig k j = 1 then msk 1 V k j ||| 2 ^ V[j] else msk 1 V k j := by rw [msk, hgd]
      have o0 := or_u32' (msk 0 V k j) V[j] m0 hv
      have o1 := or_u32' (msk 1 V k j) V[j] m1 hv
      have hq : k / 3 ^ (j + 1) = k / 3 ^ j / 3 := by rw [Nat.pow_succ, Nat.div_div_eq_div_mul]
      have hkle : k / 3 ^ j ≤ k := Nat.div_le_self _ _
      have hdd := dig_div k j
      have hd3 := dig_lt k j
      obtain ⟨kj, hkj⟩ : ∃ m, m = k / 3 ^ j := ⟨_, rfl⟩
      rw [← hkj] at hq hkle hdd ⊢
      have hd : (kj : Int).tmod 3 = (dig k j : Int) := by rw [Int.tmod_eq_emod_of_nonneg (by omega), hdd]; omega
      have hj1 : (j : Int) < (V.length : Int) := by omega
      have HQ := Lib.hid (And.intro hq (And.intro s0 s1))
      clear hkj s0 s1 hq hgd
      obtain ⟨a0, ha0⟩ : ∃ m, m = msk 0 V k j := ⟨_, rfl⟩
      obtain ⟨a1, ha1⟩ : ∃ m, m = msk 1 V k j := ⟨_, rfl⟩
      rw [← ha0] at x1 m0 o0
      rw [← ha1] at x0 m1 o1
      have HA := Lib.hid (And.intro ha0 ha1)
      clear ha0 ha1
      generalize V[j] = v at *
      rcases (by omega : dig k j = 0 ∨ dig k j = 1 ∨ dig k j = 2) with e | e | e
      · rw [e] at hd
        clear hdd
        go_wp2_with fail
        go_region
        have q0 : (wr.setCell ⟨w.heap.size + 1, 1, none⟩ (.int .u32 ((a0 ||| 2 ^ v : Nat) : Int))).drew.cell? ⟨w.heap.size + 1, 1, none⟩ = some (.int .u32 ((a0 ||| 2 ^ v : Nat) : Int)) := World.cell?_setCell_same' _ _ _ (by rw [x1]; rfl)
        have q1 : (wr.setCell ⟨w.heap.size + 1, 1, none⟩ (.int .u32 ((a0 ||| 2 ^ v : Nat) : Int))).drew.cell? ⟨w.heap.size + 1, 0, none⟩ = some (.int .u32 (a1 : Int)) := (World.cell?_setCell_other _ _ _ _ (by simp)).trans x0
        have q2 : (wr.setCell ⟨w.heap.size + 1, 1, none⟩ (.int .u32 ((a0 ||| 2 ^ v : Nat) : Int))).drew.cell? ⟨w.heap.size, 0, none⟩ = some (.int .u32 0) := (World.cell?_setCell_other _ _ _ _ (by simp)).trans r0
        have q3 : (wr.setCell ⟨w.heap.size + 1, 1, none⟩ (.int .u32 ((a0 ||| 2 ^ v : Nat) : Int))).drew.cell? ⟨w.heap.size, 1, none⟩ = some (.int .u32 0) := (World.cell?_setCell_other _ _ _ _ (by simp)).trans r1
        have qf : ∀ p, (wr.setCell ⟨w.heap.size + 1, 1, none⟩ (.int .u32 ((a0 ||| 2 ^ v : Nat) : Int))).drew.frozen? p = wr.frozen? p := fun p => World.frozen?_setCell _ _ _ _
        have frn : Fr nob w (wr.setCell ⟨w.heap.size + 1, 1, none⟩ (.int .u32 ((a0 ||| 2 ^ v : Nat) : Int))).drew := (fr.set1 (by omega) _).drew
        rw [← qf] at ff0 ff1 fx0 fx1
        generalize (wr.setCell ⟨w.heap.size + 1, 1, none⟩ (.int .u32 ((a0 ||| 2 ^ v : Nat) : Int))).drew = W1 at *
        clear r0 r1 x0 x1 qf fr
        go_wp2_with fail
        obtain ⟨hq, s0, s1⟩ := HQ.out
        rw [e] at s0 s1
        obtain ⟨ha0, ha1⟩ := HA.out
        refine ⟨⟨j + 1, by omega, by rw [hq]; rfl, by simp, frn, ⟨q2, q3, by rw [s1, if_neg (by decide), ← ha1]; exact q1, by rw [s0, if_pos rfl, ← ha0]; exact q0⟩, ff0, ff1, fx0, fx1⟩, by simp [intOf]; omega⟩
      · rw [e] at hd
        clear hdd
        go_wp2_with fail
        go_region
        have q0 : (wr.setCell ⟨w.heap.size + 1, 0, none⟩ (.int .u32 ((a1 ||| 2 ^ v : Nat) : Int))).drew.cell? ⟨w.heap.size + 1, 0, none⟩ = some (.int .u32 ((a1 ||| 2 ^ v : Nat) : Int)) := World.cell?_setCell_same' _ _ _ (by rw [x0]; rfl)
        have q1 : (wr.setCell ⟨w.heap.size + 1, 0, none⟩ (.int .u32 ((a1 ||| 2 ^ v : Nat) : Int))).drew.cell? ⟨w.heap.size + 1, 1, none⟩ = some (.int .u32 (a0 : Int)) := (World.cell?_setCell_other _ _ _ _ (by simp)).trans x1
        have q2 : (wr.setCell ⟨w.heap.size + 1, 0, none⟩ (.int .u32 ((a1 ||| 2 ^ v : Nat) : Int))).drew.cell? ⟨w.heap.size, 0, none⟩ = some (.int .u32 0) := (World.cell?_setCell_other _ _ _ _ (by simp)).trans r0
        have q3 : (wr.setCell ⟨w.heap.size + 1, 0, none⟩ (.int .u32 ((a1 ||| 2 ^ v : Nat) : Int))).drew.cell? ⟨w.heap.size, 1, none⟩ = some (.int .u32 0) := (World.cell?_setCell_other _ _ _ _ (by simp)).trans r1
        have qf : ∀ p, (wr.setCell ⟨w.heap.size + 1, 0, none⟩ (.int .u32 ((a1 ||| 2 ^ v : Nat) : Int))).drew.frozen? p = wr.frozen? p := fun p => World.frozen?_setCell _ _ _ _
        have frn : Fr nob w (wr.setCell ⟨w.heap.size + 1, 0, none⟩ (.int .u32 ((a1 ||| 2 ^ v : Nat) : Int))).drew := (fr.set1 (by omega) _).drew
        rw [← qf] at ff0 ff1 fx0 fx1
        generalize (wr.setCell ⟨w.heap.size + 1, 0, none⟩ (.int .u32 ((a1 ||| 2 ^ v : Nat) : Int))).drew = W1 at *
        clear r0 r1 x0 x1 qf fr
        go_wp2_with fail
        obtain ⟨hq, s0, s1⟩ := HQ.out
        rw [e] at s0 s1
        obtain ⟨ha0, ha1⟩ := HA.out
        refine ⟨⟨j + 1, by omega, by rw [hq]; rfl, by simp, frn, ⟨q2, q3, by rw [s1, if_pos rfl, ← ha1]; exact q0, by rw [s0, if_neg (by decide), ← ha0]; exact q1⟩, ff0, ff1, fx0, fx1⟩, by simp [intOf]; omega⟩
      · rw [e] at hd
        clear hdd
        go_wp2_with fail
        obtain ⟨hq, s0, s1⟩ := HQ.out
        rw [e] at s0 s1
        obtain ⟨ha0, ha1⟩ := HA.out
        refine ⟨⟨j + 1, by omega, by rw [hq]; rfl, by simp, fr, ⟨r0, r1, by rw [s1, if_neg (by decide), ← ha1]; exact x0, by rw [s0, if_neg (by decide), ← ha0]; exact x1⟩, ff0, ff1, fx0, fx1⟩, by simp [intOf]; omega⟩
    · obtain rfl : j = V.length := by omega
      go_wp2_with fail
      refine bodyPost_ret (v := .agg #[.int .u32 ((cubeAt V k).1 : Int), .int .u32 ((cubeAt V k).2 : Int)]) (by simp [results, Tryz.results50, go_sem, r0, r1, cubeAt]) rfl ⟨rfl, ?_⟩
      exact ((fr.set1 (Nat.le_refl _) _).set1 (Nat.le_refl _) _).to_below (Nat.le_refl _) (fun _ h => h.elim)
end Go.Proofs.YtiainlccodnlmaaGreatDoor
