import Derived.Test.YtgciflemoeffcaaDoorWid
import Derived.Deep.RegionWith
import Derived.Laws.StructEq
namespace Go.Proofs.YtgciflemoeffcaaDoor
open Go.RowKit
open Bd

theorem primes_A (f : Nat) (w : World) (hT : Tab32 w) : Calls Tryd.prog 17 #[dval (cubeB f 0)] w fun e w' =>
    (((featL f).length ≤ 12 ∧ ∃ lv, e = .returned (.tuple #[lv, .int .i64 0]) ∧ CRow w' lv [toCub (f % 2 ^ 24, 0)]) ∨ (12 < (featL f).length ∧ e = .returned (.tuple #[.slice none 0 0, .int .i64 5]))) ∧ Below w.heap.size w w' := by
  have h := Primes_any (cubeB f 0) (ok_cubeB f 0) w hT
  rw [feats_all, ev_all, sorted_all] at h
  exact h
theorem primes_B (f : Nat) (w : World) (hT : Tab32 w) : Calls Tryd.prog 17 #[dval (cubeB 0 f).neg] w fun e w' =>
    (((featL f).length ≤ 12 ∧ ∃ lv, e = .returned (.tuple #[lv, .int .i64 0]) ∧ CRow w' lv ((featL f).map fun v => toCub (2 ^ v, 0))) ∨ (12 < (featL f).length ∧ e = .returned (.tuple #[.slice none 0 0, .int .i64 5]))) ∧ Below w.heap.size w w' := by
  have h := Primes_any (cubeB 0 f).neg (ok_neg (ok_cubeB 0 f)) w hT
  rw [feats_any, ev_any, sorted_any] at h
  exact h

theorem CRow.at {w : World} {a : Option Addr} {n cap : Nat} {L : List Cub} (h : CRow w (.slice a n cap) L) {k : Nat} {x : Cub} (hx : L[k]? = some x) : ∃ b, a = some ⟨b, 0, none⟩ ∧ w.cell? ⟨b, k * 2, none⟩ = some (.int .u32 (x.1.val : Int)) ∧ w.cell? ⟨b, k * 2 + 1, none⟩ = some (.int .u32 (x.2.val : Int)) := by
  obtain ⟨a', cap', e, hc⟩ := h
  cases e
  exact hc k x hx
theorem CRow.form {w : World} {v : Value} {L : List Cub} (h : CRow w v L) : ∃ a cap, v = .slice a L.length cap := by
  obtain ⟨a, cap, e, _⟩ := h; exact ⟨a, cap, e⟩

theorem shl_w {i : Nat} (hi : i < 24) : IntKind.u32.wrap (2 ^ min (IntKind.u64.wrap (i : Int)).toNat 32) = ((2 ^ i : Nat) : Int) := by
  have e : (IntKind.u64.wrap (i : Int)).toNat = i := by rw [IntKind.wrap_u64]; omega
  have h : (2 : Nat) ^ i < 2 ^ 24 := Nat.pow_lt_pow_right (by omega) hi
  rw [e, Nat.min_eq_left (by omega), IntKind.wrap_u32, show (2 : Int) ^ i = ((2 ^ i : Nat) : Int) by simp]
  generalize 2 ^ i = m at *
  omega

set_option maxRecDepth 100000 in
set_option maxHeartbeats 4000000 in
theorem lawW_any (f : Nat) (hf : f < 2 ^ 32) (w : World) (hT : Tab32 w) : Calls Tryd.prog 3 #[.int .u32 (f : Int)] w fun e w' => e = .returned (.bool true) ∧ Below w.heap.size w w' := by
  have hfe := Features_any f hf
  have hcA := Cube_any f 0 hf (by decide)
  have hcB := Cube_any 0 f (by decide) hf
  have hno := Not_any (cubeB 0 f) (ok_cubeB 0 f)
  have hpA := primes_A f
  have hpB := primes_B f
  have hwk := wakes_any
  have hL : (featL f).length ≤ 24 := by unfold featL; exact Nat.le_trans (List.length_filter_le _ _) (by simp)
  generalize cubeB f 0 = A at *
  generalize (cubeB 0 f).neg = C at *
  generalize cubeB 0 f = B0 at *
  go_enter Tryd.func3, Tryd.ntmps3
  go_wp2_with fail
  refine (hfe _).mono ?_
  rintro e w1 ⟨v1, rfl, hs1, hb1⟩
  obtain ⟨q1, c1, rfl⟩ := hs1.form
  rw [List.length_map]
  have fr1 := (Fr.refl nob w).below hb1
  clear hb1 hs1
  go_wp2_with fail
  refine (hcA _).mono ?_
  rintro e w2 ⟨rfl, hb2⟩
  have fr2 := fr1.below hb2
  clear hb2
  go_wp2_with fail
  refine (hcB _).mono ?_
  rintro e w3 ⟨rfl, hb3⟩
  have fr3 := fr2.below hb3
  clear hb3
  go_wp2_with fail
  refine (hno _).mono ?_
  rintro e w4 ⟨rfl, hb4⟩
  have fr4 := fr3.below hb4
  clear hb4 fr1 fr2 fr3 hcA hcB hno
  go_wp2_with fail
  have p0 := cell_alloc_l (two_new w4 (.int .u32 (place (li A) A : Int)) (.string ⟨(code (rows (li A))).toArray⟩) 26).1 (.cells #[.int .u32 (place (li C) C : Int), .string ⟨(code (rows (li C))).toArray⟩] 26)
  obtain ⟨d0, d1⟩ := two_new (w4.alloc (.cells #[.int .u32 (place (li A) A : Int), .string ⟨(code (rows (li A))).toArray⟩] 26)) (.int .u32 (place (li C) C : Int)) (.string ⟨(code (rows (li C))).toArray⟩) 26
  rw [World.size_alloc] at d0 d1
  have fr5 := (fr4.alloc (.cells #[.int .u32 (place (li A) A : Int), .string ⟨(code (rows (li A))).toArray⟩] 26)).alloc (.cells #[.int .u32 (place (li C) C : Int), .string ⟨(code (rows (li C))).toArray⟩] 26)
  generalize (w4.alloc (.cells #[.int .u32 (place (li A) A : Int), .string ⟨(code (rows (li A))).toArray⟩] 26)).alloc (.cells #[.int .u32 (place (li C) C : Int), .string ⟨(code (rows (li C))).toArray⟩] 26) = W5 at *
  have hT5 := hT.kept (fr5.to_below (Nat.le_refl _) (fun _ h => h.elim))
  clear fr4 p0
  refine (hpA _ hT5).mono ?_
  clear hpA
  by_cases hn : (featL f).length ≤ 12
  · have hn' : ((featL f).length : Int) ≤ 12 := by omega
    rintro e w6 ⟨⟨_, la, rfl, hra⟩ | ⟨h, _⟩, hb6⟩
    case inr => omega
    have f6 := (Fr.refl nob W5).below hb6
    have fr6 := fr5.below hb6
    have hT6 := hT5.kept hb6
    replace d0 := f6.cell d0 (fun h => h)
    replace d1 := f6.cell d1 (fun h => h)
    obtain ⟨aa, ca, rfl⟩ := hra.form
    clear hb6 hT5 f6 fr5
    go_wp2_with fail
    refine (hpB _ hT6).mono ?_
    clear hpB
    rintro e w7 ⟨⟨_, lb, rfl, hrb⟩ | ⟨h, _⟩, hb7⟩
    case inr => omega
    have f7 := (Fr.refl nob w6).below hb7
    have fr7 := fr6.below hb7
    obtain ⟨ab, cb, rfl⟩ := hrb.form
    obtain ⟨ga, rfl, x0, x1⟩ := (hra.kept f7).at (k := 0) (x := toCub (f % 2 ^ 24, 0)) rfl
    rw [toCub_1 (Nat.mod_lt _ (by decide))] at x0
    rw [toCub_2 (p := (f % 2 ^ 24, 0)) (show (0 : Nat) < 2 ^ 24 by decide)] at x1
    have x0' : w7.cell? ⟨ga, 0, none⟩ = some (.int .u32 ((f : Int) % 16777216)) := x0
    have x1' : w7.cell? ⟨ga, 1, none⟩ = some (.int .u32 0) := x1
    rw [List.length_map] at *
    have hll : (((featL f).length : Int) == ((featL f).length : Int)) = true := by simp
    clear hb7 hT6 f7 fr6 hra x0 x1 d0 d1
    go_wp2_with fail
    go_loopw [10] (fun iv wr => ∃ i : Nat, i ≤ (featL f).length ∧ iv = .int .i64 (i : Int) ∧ Fr nob w7 wr) (fun iv _ => (featL f).length - (intOf iv).toNat)
    case atStart => exact ⟨0, Nat.zero_le _, rfl, Fr.refl _ _⟩
    case round =>
      obtain ⟨i, hi, rfl, frk⟩ := hrel
      by_cases hlt : i < (featL f).length
      · have hv := (mem_featL.1 (List.getElem_mem hlt)).1
        obtain ⟨gb, rfl, y0, y1⟩ := (hrb.kept frk).at (k := i) (x := toCub (2 ^ (featL f)[i], 0)) (by simp [hlt])
        rw [toCub_1 (p := (2 ^ (featL f)[i], 0)) (Nat.pow_lt_pow_right (by decide) hv)] at y0
        rw [toCub_2 (p := (2 ^ (featL f)[i], 0)) (show (0 : Nat) < 2 ^ 24 by decide)] at y1
        have hsh := shl_w hv
        have hget : ((featL f).map ik)[i]? = some (ik (featL f)[i]) := by simp [hlt]
        have hat := fun (W : World) (a : Option Addr) (c : Nat) (h : SRow W (.slice a (featL f).length c) ((featL f).map ik)) => h.at hget
        obtain ⟨v, hve⟩ : ∃ v, v = (featL f)[i] := ⟨_, rfl⟩
        rw [← hve] at y0 hsh hv
        simp only [← hve] at hat
        clear hve hget
        obtain ⟨on, hon⟩ : ∃ m, m = 2 ^ v := ⟨_, rfl⟩
        have y0' : wr.cell? ⟨gb, i * 2, none⟩ = some (.int .u32 (on : Int)) := by rw [hon]; exact y0
        have y1' : wr.cell? ⟨gb, i * 2 + 1, none⟩ = some (.int .u32 0) := y1
        rw [← hon] at hsh
        have hi0 : (0 : Int) ≤ (i : Int) := Int.natCast_nonneg _
        have hi1 : (i : Int) < ((featL f).length : Int) := by omega
        clear y0 y1 hon x0' x1'
        go_wp2_with fail
        go_region_with
          (first
            | (go_at_call 14
               refine (hfe _).mono ?_
               rintro e w9 ⟨v9, rfl, hs9, hb9⟩
               obtain ⟨q9, c9, rfl⟩ := hs9.form
               rw [List.length_map] at *
               obtain ⟨g9, rfl, y9⟩ := hat _ _ _ hs9
               have f9 := (Fr.refl nob _).below hb9
               have z0 := f9.cell' y0' (fun h => h)
               have z1 := f9.cell' y1' (fun h => h)))
        all_goals go_wp2_with fail
        all_goals exact ⟨⟨i + 1, by omega, by simp, by first | exact frk.trans f9 (fun _ _ h => h) | exact frk.drew.trans f9 (fun _ _ h => h)⟩, by simp [intOf]; omega⟩
      · obtain rfl : i = (featL f).length := by omega
        go_wp2_with fail
        refine (hwk _).mono ?_
        rintro e w8 ⟨rfl, hb8⟩
        go_wp2_with fail
        go_ret
        exact ⟨rfl, ((fr7.trans frk (fun _ _ h => h)).below hb8).to_below (Nat.le_refl _) (fun _ h => h.elim)⟩
  · have hn' : (12 : Int) < ((featL f).length : Int) := by omega
    rintro e w6 ⟨⟨h, _⟩ | ⟨_, rfl⟩, hb6⟩
    case inl => omega
    have f6 := (Fr.refl nob W5).below hb6
    have fr6 := fr5.below hb6
    have hT6 := hT5.kept hb6
    replace d0 := f6.cell d0 (fun h => h)
    replace d1 := f6.cell d1 (fun h => h)
    clear hb6 hT5 f6 fr5
    go_wp2_with fail
    refine (hpB _ hT6).mono ?_
    clear hpB
    rintro e w7 ⟨⟨h, _⟩ | ⟨_, rfl⟩, hb7⟩
    case inl => omega
    have fr7 := fr6.below hb7
    clear hb7 hT6 fr6 d0 d1
    go_wp2_with fail
    refine (hwk _).mono ?_
    rintro e w8 ⟨rfl, hb8⟩
    go_wp2_with fail
    go_ret
    exact ⟨rfl, (fr7.below hb8).to_below (Nat.le_refl _) (fun _ h => h.elim)⟩
end Go.Proofs.YtgciflemoeffcaaDoor
