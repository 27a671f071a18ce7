import Derived.Test.YtgciflemoeffcaaDoorFoldC
namespace Go.Proofs.YtgciflemoeffcaaDoor
open Go.RowKit
open Bd

set_option maxRecDepth 100000 in
set_option maxHeartbeats 400000 in
theorem mean_any (i a b : Nat) (ha : a ≤ 16777216) (hb : b ≤ 16777216) (w : World) : Calls Tryd.prog 86 #[.int .i64 (i : Int), .int .u64 (a : Int), .int .u64 (b : Int)] w fun e w' => e = .returned (.int .u64 (((a + b) / 2 : Nat) : Int)) ∧ w = w' := by
  go_enter Tryd.func86, Tryd.ntmps86
  go_wp2
  go_ret
  exact ⟨by simp, rfl⟩

theorem cnt_le_of {A b : B} (hA : A.ok 0) (h : inn (li A) b) : cnt b ≤ 16777216 := cnt_le (ok_of_inn hA h)

theorem cnt_join (A : B) (hA : A.ok 0) (u : Unit) : FoldPC A cnt (fun ft _ _ => ft = nob) u := by
  refine ⟨?_, ?_, ?_⟩
  · intro ft R w w' S h _ _; exact h
  · rintro ft R w rfl k hk; exact hk.elim
  · rintro ft R i lo hi w rfl hs
    obtain ⟨hn, hl, hh, hR⟩ := good_suffix (good_li A) hs
    have hsR : R <:+ li A := (List.suffix_cons _ _).trans hs
    refine (mean_any i (cnt lo) (cnt hi) (cnt_le_of hA (hl.mono hsR.subset)) (cnt_le_of hA (hh.mono hsR.subset)) w).mono ?_
    rintro e w' ⟨rfl, rfl⟩
    exact ⟨nob, rfl, rfl, Fr.refl _ _, fun _ h => .inl h⟩

set_option maxRecDepth 100000 in
set_option maxHeartbeats 1000000 in
/-- Count, where the features fit -/
theorem Count_ok (A : B) (hA : A.ok 0) (n : Nat) (hn : n ≤ 24) (hs : supR (li A) / 2 ^ n = 0) (w : World) : Calls Tryd.prog 37 #[dval A, .int .i64 (n : Int)] w fun e w' => e = .returned (.tuple #[.int .u64 ((cnt A / 2 ^ (24 - n) : Nat) : Int), .int .i64 0]) ∧ Below w.heap.size w w' := by
  have a0 : (w.alloc (.cells #[.int .u32 (place (li A) A : Int), .string ⟨(code (rows (li A))).toArray⟩] 26)).cell? ⟨w.heap.size, 0, none⟩ = some (.int .u32 (place (li A) A : Int)) := World.cell?_alloc_at _ _ _ _ (by simp)
  have a1 : (w.alloc (.cells #[.int .u32 (place (li A) A : Int), .string ⟨(code (rows (li A))).toArray⟩] 26)).cell? ⟨w.heap.size, 1, none⟩ = some (.string ⟨(code (rows (li A))).toArray⟩) := World.cell?_alloc_at _ _ _ _ (by simp)
  have fr : Fr nob w (w.alloc (.cells #[.int .u32 (place (li A) A : Int), .string ⟨(code (rows (li A))).toArray⟩] 26)) := (Fr.refl nob w).alloc _
  have hn' : (n : Int) ≤ 24 := by omega
  have hs' : ((supR (li A) : Int) / 2 ^ n) = 0 := by
    rw [show (2 : Int) ^ n = ((2 ^ n : Nat) : Int) by simp, ← Int.natCast_ediv, hs]; rfl
  have e24 : (24 : Int) - (n : Int) = ((24 - n : Nat) : Int) := by omega
  go_enter Tryd.func37, Tryd.ntmps37
  go_wp2_with fail
  generalize w.alloc (.cells #[.int .u32 (place (li A) A : Int), .string ⟨(code (rows (li A))).toArray⟩] 26) = W at *
  refine (Support_any A hA _).mono ?_
  rintro e w1 ⟨rfl, hb⟩
  have fr1 : Fr nob W w1 := (Fr.refl nob W).below hb
  have b0 := fr1.cell a0 (fun h => h)
  have b1 := fr1.cell a1 (fun h => h)
  clear a0 a1 hb
  go_wp2_with fail
  refine (foldC_any A hA cnt (fun ft _ _ => ft = nob) () (cnt_join A hA ()) 0 16777216 rfl rfl nob _ rfl).mono ?_
  rintro e w2 ⟨ft, rfl, _, fr2, _⟩
  clear b0 b1
  go_wp2_with fail
  go_ret2
  exact ⟨by simp, ((fr.trans fr1 (fun _ _ h => h)).trans fr2 (fun _ _ h => h)).to_below (Nat.le_refl _) (fun _ h => h.elim)⟩

set_option maxRecDepth 100000 in
set_option maxHeartbeats 400000 in
/-- Count, where n is out of range -/
theorem Count_range (A : B) (n : Int) (hn : n < 0 ∨ 24 < n) (w : World) : Calls Tryd.prog 37 #[dval A, .int .i64 n] w fun e w' => e = .returned (.tuple #[.int .u64 0, .int .i64 3]) ∧ Below w.heap.size w w' := by
  rcases hn with h | h
  all_goals
    go_enter Tryd.func37, Tryd.ntmps37
    go_wp2_with fail
    go_ret2
    exact ⟨by simp, (Below.refl _ _).alloc (Nat.le_refl _) _⟩

set_option maxRecDepth 100000 in
set_option maxHeartbeats 400000 in
/-- Count, where the set depends on a feature from n on -/
theorem Count_arg (A : B) (hA : A.ok 0) (n : Nat) (hn : n ≤ 24) (hs : supR (li A) / 2 ^ n ≠ 0) (w : World) : Calls Tryd.prog 37 #[dval A, .int .i64 (n : Int)] w fun e w' => e = .returned (.tuple #[.int .u64 0, .int .i64 2]) ∧ Below w.heap.size w w' := by
  have a0 : (w.alloc (.cells #[.int .u32 (place (li A) A : Int), .string ⟨(code (rows (li A))).toArray⟩] 26)).cell? ⟨w.heap.size, 0, none⟩ = some (.int .u32 (place (li A) A : Int)) := World.cell?_alloc_at _ _ _ _ (by simp)
  have a1 : (w.alloc (.cells #[.int .u32 (place (li A) A : Int), .string ⟨(code (rows (li A))).toArray⟩] 26)).cell? ⟨w.heap.size, 1, none⟩ = some (.string ⟨(code (rows (li A))).toArray⟩) := World.cell?_alloc_at _ _ _ _ (by simp)
  have fr : Fr nob w (w.alloc (.cells #[.int .u32 (place (li A) A : Int), .string ⟨(code (rows (li A))).toArray⟩] 26)) := (Fr.refl nob w).alloc _
  have hn' : (n : Int) ≤ 24 := by omega
  have hs' : (((supR (li A) : Int) / 2 ^ n) == 0) = false := by
    rw [show (2 : Int) ^ n = ((2 ^ n : Nat) : Int) by simp, ← Int.natCast_ediv]
    simp only [beq_eq_false_iff_ne]; omega
  have hs2 : (((supR (li A) : Int) / 2 ^ n) != 0) = true := by rw [bne, hs']; rfl
  go_enter Tryd.func37, Tryd.ntmps37
  go_wp2_with fail
  generalize w.alloc (.cells #[.int .u32 (place (li A) A : Int), .string ⟨(code (rows (li A))).toArray⟩] 26) = W at *
  refine (Support_any A hA _).mono ?_
  rintro e w1 ⟨rfl, hb⟩
  clear a0 a1
  go_wp2_with fail
  go_ret2
  exact ⟨by simp, (fr.below hb).to_below (Nat.le_refl _) (fun _ h => h.elim)⟩
end Go.Proofs.YtgciflemoeffcaaDoor
