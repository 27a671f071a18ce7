import Derived.RangeFuncWrites
import Derived.Test.YtiainlccodnlmaaGreatDoorMem
import Derived.Test.YtiainlccodnlmaaGreatDoorRefA
namespace Go.Proofs.YtiainlccodnlmaaGreatDoor
open Go.RowKit Go.Shelf
open Bd
attribute [local go_sem] Oper.semAt_some

theorem info_int9 : (Tryz.prog.info? 3).map (fun i => (i.zero, i.size, i.bytes)) = some (some (.int .i64 0), 1, 8) := by kernel_rfl

set_option maxRecDepth 100000 in
set_option maxHeartbeats 2000000 in
/-- slices.AppendSeq(nil, members(m)) -/
theorem appSeq_any (n : Nat) (hn : 3 ≤ n) (Bn m : Nat) (hm : m < 4294967296) (w : World) (hBn : Bn < w.heap.size) (hg : 0 < w.heap.size) (hc : w.cell? ⟨Bn, 0, none⟩ = some (.int .u32 (m : Int))) (hT : Tab32 w) :
    CallsIn Fence.wide n Tryz.prog 95 #[.slice none 0 0, .func (.func 91) #[] #[.pointer (some ⟨Bn, 0, none⟩)]] w fun e W' => ∃ v, e = .returned v ∧ W'.ownsRow w.heap.size 3 1 v (ints (featL m)).length ((ints (featL m)).map (Value.int .i64)) ∧ Below w.heap.size w W' := by
  have h1 : 1 ≤ n := by omega
  have hro : Fence.wide.round = none := rfl
  have hlen : (featL m).length ≤ 24 := by unfold featL; exact Nat.le_trans (List.length_filter_le _ _) (by simp)
  obtain ⟨i0, hi, hz0, hz1, hz2⟩ := info_parts info_int9
  refine callsIn_of_wp_marks Tryz.func95 rfl trivial ?_ hro
  simp only [Tryz.ntmps95, List.size_toArray, List.length_cons, List.length_nil, Nat.reduceAdd, Nat.reduceSub, Array.replicate_succ, Array.replicate_zero, List.push_toArray, List.append_toArray, List.nil_append, List.cons_append]
  gi_wp2
  have bO := Boxed.new w 33 (.slice none 0 0)
  have hB0 : Below w.heap.size w (w.alloc (.cells #[.slice none 0 0] 33)) := (Below.refl _ w).alloc (Nat.le_refl _) _
  refine wpIn_rangeFunc_ownG hro h1 (gf := 91) (lb := #[.pointer (some ⟨Bn, 0, none⟩)]) rfl trivial (enters_of Tryz.func91 (by kernel_rfl) rfl)
    (mem_stops (n - 1) (by omega) Bn w.heap.size m hm _ (by simp; omega) (by simp) hg (cell_alloc_l hc _) (hT.below hB0 hg)) belowK_t (belowK_b (by simp)) (Below.refl _ _) (fun _ => rfl)
    (fun pre W => (∃ v, Boxed W w.heap.size 33 v ∧ W.ownsRow w.heap.size 3 1 v pre.length (pre.map (Value.int .i64)) ∧ (v = .slice none 0 0 ↔ pre = [])) ∧ Below w.heap.size w W)
    (fun _ _ _ => False)
    (OwnFrom.and (Own.from (holdsRow_own w.heap.size w.heap.size 33 3 1 (fun pre : List Int => pre.length) (fun pre => pre.map (Value.int .i64)) (fun pre v => v = .slice none 0 0 ↔ pre = [])) _) (ownFrom_below (Nat.le_refl _) (by simp)))
    (fun _ _ _ _ _ hs _ _ => hs)
    ⟨⟨_, bO, World.ownsRow_nil _ _ _ _, by simp⟩, hB0⟩
    (fun x => { tmps := #[.slice none 0 0, .func (.func 91) #[] #[.pointer (some ⟨Bn, 0, none⟩)], .pointer (some ⟨w.heap.size, 0, none⟩), undef, .slice none 0 0, .int .i64 x, .func (.func 91) #[] #[.pointer (some ⟨Bn, 0, none⟩)], .int .i64 x, undef, undef, undef, undef, undef], defers := [] }) ?assign ?body ?done ?stop
  case assign =>
    intro l x W K hK
    gi_wp2
    exact hK
  case body =>
    rintro l pre x W ⟨⟨v, hv, hrow, hnil⟩, hB⟩ hlt
    have hc := hv.cell
    gi_wp2_with (gi_at_builtin; refine wpListIn_append_own _ rfl _ _ 33 rfl w.heap.size 3 i0 (.int .i64 0) 1 8 Tryz.underlying33 hi hz0 hz1 hz2 rfl (by decide) _ _ _ rfl (hrow.alloc _) ⟨W.heap.size, 0, none⟩ 1 1 [.int .i64 x] rfl rfl (cell_one_new _ _ _) (by simp [Value.oneCell']) (by unfold maxLen; omega) (by omega) (by have := hB.size; simp; omega) ?_; intro v' w1 hown' hgrow _; obtain ⟨g', cap', rfl⟩ := ownsRow_succ hown'; obtain ⟨hv1, hv2, hr2, hk2, hb2⟩ := hv.appended (by decide) hrow hB.size (Nat.le_refl _) hown' hgrow; have hc1 := hv1.cell; have hf1 := hv1.frozen)
    exact ⟨hk2.from _, hb2, ⟨_, hv2, by simpa using hr2, by simp⟩, hB.trans hb2⟩
  case done =>
    rintro D ys W hD rfl ⟨⟨v, hv, hrow, hnil⟩, hB⟩ hK
    have hc := hv.cell
    gi_wp2
    refine ⟨by simp, .inl ⟨_, _, rfl, run_takeDeferred hK, ?_⟩⟩
    exact ⟨_, results_tmp rfl _ _ _, v, rfl, ownsRow_putObj hrow _ hK rfl, hB.trans (belowK_b (w := w) (Nat.le_refl _) W D _ _ (by simp at hD; omega) hK rfl rfl)⟩
  case stop =>
    rintro D c pre W _ _ h _
    exact h.elim

set_option maxRecDepth 100000 in
set_option maxHeartbeats 1000000 in
/-- slices.Collect(members(m)) -/
theorem collect_any (Bn m : Nat) (hm : m < 4294967296) (w : World) (hBn : Bn < w.heap.size) (hg : 0 < w.heap.size) (hc : w.cell? ⟨Bn, 0, none⟩ = some (.int .u32 (m : Int))) (hT : Tab32 w) :
    Calls Tryz.prog 47 #[.func (.func 91) #[] #[.pointer (some ⟨Bn, 0, none⟩)]] w fun e W' => ∃ v, e = .returned v ∧ SRow W' v ((featL m).map ik) ∧ (∀ g, v.ownBlock = some g → w.heap.size ≤ g ∧ g < W'.heap.size) ∧ Below w.heap.size w W' := by
  have hap := fun W (h1 : Bn < W.heap.size) (h2 : 0 < W.heap.size) (h3 : W.cell? ⟨Bn, 0, none⟩ = some (.int .u32 (m : Int))) (h4 : Tab32 W) => (callsIn_wide (n := 4)).1 (appSeq_any 4 (by omega) Bn m hm W h1 h2 h3 h4)
  go_enter Tryz.func47, Tryz.ntmps47
  go_wp2_with (go_at_call 95; refine (hap _ hBn hg hc hT).mono ?_; rintro e w' ⟨v, rfl, hrow, hb⟩)
  go_ret
  have e : (ints (featL m)).map (Value.int .i64) = (featL m).map ik := by simp [ints, List.map_map, Function.comp_def]
  rw [e] at hrow
  exact ⟨v, rfl, SRow.of_own hrow, fun g hg' => hrow.lt g hg', hb⟩
end Go.Proofs.YtiainlccodnlmaaGreatDoor
