import Derived.Test.YtgciflemoeffcaaDoorRefA
namespace Go.Proofs.YtgciflemoeffcaaDoor
open Go.RowKit
open Bd

set_option maxRecDepth 100000 in
set_option maxHeartbeats 1000000 in
theorem REmpty_any (V : List Nat) (f : Cfg → Bool) (v : Value) (w : World) (hs : RSet w v V f) : Calls Tryd.prog 52 #[v] w fun e w' => e = .returned (.bool (decide (many (tab V f) = 0))) ∧ Below w.heap.size w w' := by
  have hm := fun W (h : Fr nob w W) => Many_any V f v W (hs.kept h)
  generalize many (tab V f) = m at *
  obtain ⟨hV, hf, sv, st, rfl, h1, h2⟩ := hs
  obtain ⟨b0, b1⟩ := two_cells' w sv st 73
  have fr : Fr nob w (w.alloc (.cells #[sv, st] 73)) := (Fr.refl nob w).alloc _
  obtain ⟨a, cap, e1⟩ := h1.form
  obtain ⟨a2, cap2, e2⟩ := h2.form
  generalize (List.map ik V).length = n1 at e1
  generalize (List.map Value.bool (tab V f)).length = n2 at e2
  clear h1 h2 hf
  subst e1 e2
  go_enter Tryd.func52, Tryd.ntmps52
  go_wp2_with fail
  refine (hm _ fr).mono ?_
  rintro e w1 ⟨rfl, hb⟩
  go_wp2_with fail
  go_ret
  exact ⟨by have h := run_neq_nat m 0; simpa using h, (fr.below hb).to_below (Nat.le_refl _) (fun _ h => h.elim)⟩

theorem empty_dec {V : List Nat} {f : Cfg → Bool} (hV : rising V) (hf : onV V f) : many (tab V f) = 0 ↔ ∀ c, f c = false := by
  rw [many_zero]; exact all_tab hV hf

theorem info_int : (Tryd.prog.info? 3).map (fun i => (i.zero, i.size, i.bytes)) = some (some (.int .i64 0), 1, 8) := by kernel_rfl
theorem info_bool : (Tryd.prog.info? 4).map (fun i => (i.zero, i.size, i.bytes)) = some (some (.bool false), 1, 1) := by kernel_rfl

set_option maxRecDepth 100000 in
set_option maxHeartbeats 1000000 in
theorem Features_any (f : Nat) (hf : f < 2 ^ 32) (w : World) : Calls Tryd.prog 14 #[.int .u32 (f : Int)] w fun e w' => ∃ v, e = .returned v ∧ SRow w' v ((featL f).map ik) ∧ Below w.heap.size w w' := by
  obtain ⟨i0, hi0, hz0, hz1, hz2⟩ := info_parts info_int
  go_enter Tryd.func14, Tryd.ntmps14
  go_wp2_with fail
  go_loopw [0, 3, 4] (fun fv ov iv wr => ∃ k q : Nat, k ≤ 24 ∧ iv = ik k ∧ fv = .int .u32 (q : Int) ∧ q = f / 2 ^ k ∧ wr.ownsRow w.heap.size 3 1 ov (featK f k).length ((featK f k).map ik) ∧ Below w.heap.size w wr) (fun _ _ iv _ => 24 - (intOf iv).toNat)
  case atStart => exact ⟨0, f, Nat.zero_le _, rfl, rfl, by simp, World.ownsRow_nil _ _ _ _, Below.refl _ _⟩
  case round =>
    obtain ⟨k, q, hk, rfl, rfl, hq, hown, hB⟩ := hrel
    have Hq := Lib.hid hq
    have hq32 : q < 4294967296 := by rw [hq]; exact Nat.lt_of_le_of_lt (Nat.div_le_self _ _) hf
    clear hq
    by_cases hlt : k < 24
    · have hm : ((q : Int) % 2 == 1) = decide (q % 2 = 1) := by
        rw [show (2 : Int) = ((2 : Nat) : Int) from rfl, ← Int.natCast_emod, show (1 : Int) = ((1 : Nat) : Int) from rfl]; exact beq_dec _ _
      have hbit : f.testBit k = decide (q % 2 = 1) := by rw [Hq.out, Nat.testBit_eq_decide_div_mod_eq]
      have HD := Lib.hid (show q / 2 = f / 2 ^ (k + 1) by rw [Hq.out, Nat.div_div_eq_div_mul, Nat.pow_succ])
      have HS := Lib.hid (featK_succ f k)
      have hlen : (featK f k).length ≤ 24 := by
        have := List.length_filter_le f.testBit (List.range k)
        rw [List.length_range] at this; exact Nat.le_trans this (by omega)
      by_cases hb : q % 2 = 1
      · have hm' : ((q : Int) % 2 == 1) = true := by rw [hm]; simp [hb]
        have HB := Lib.hid (hbit.trans (decide_eq_true hb))
        clear hm hbit hb
        go_wp2_with (at_builtin; refine wpList_append_own _ rfl _ _ 23 rfl w.heap.size 3 i0 (.int .i64 0) 1 8 Tryd.underlying23 hi0 hz0 hz1 hz2 rfl (by decide) _ _ _ rfl (hown.alloc _) ⟨wr.heap.size, 0, none⟩ 1 1 [ik k] rfl rfl ?c1 ?c2 ?c3 ?c4 ?c5 ?_)
        case c1 => exact one_news _ _ _
        case c2 => simp [Value.oneCell']
        case c3 => unfold maxLen; omega
        case c4 => omega
        case c5 => have := hB.size; simp; omega
        intro v' w1 hown' hgrow _
        have e1 : featK f (k + 1) = featK f k ++ [k] := by rw [HS.out, if_pos HB.out]
        have row' : w1.ownsRow w.heap.size 3 1 v' (featK f (k + 1)).length ((featK f (k + 1)).map ik) := by
          rw [e1, List.map_append, List.length_append]; exact hown'
        have hB' : Below w.heap.size w w1 := (hB.alloc hB.size _).grown hgrow (by have := hB.size; simp; omega) (fun j hj => (hown.lt j hj).1)
        clear hown hown' hgrow hB e1
        go_wp2_with fail
        refine ⟨⟨k + 1, q / 2, by omega, by go_num, by go_num, HD.out, row', hB'⟩, by simp [intOf]; omega⟩
      · have hm' : ((q : Int) % 2 == 1) = false := by rw [hm]; simp [hb]
        have HB := Lib.hid (hbit.trans (decide_eq_false hb))
        clear hm hbit hb
        go_wp2_with fail
        have e1 : featK f (k + 1) = featK f k := by rw [HS.out, HB.out]; simp
        refine ⟨⟨k + 1, q / 2, by omega, by go_num, by go_num, HD.out, by rw [e1]; exact hown, hB⟩, by simp [intOf]; omega⟩
    · obtain rfl : k = 24 := by omega
      go_wp2_with fail
      go_ret
      exact ⟨_, rfl, SRow.of_own hown, hB⟩
end Go.Proofs.YtgciflemoeffcaaDoor
