import Derived.Test.YtiainlccodnlmaaGreatDoorNear
import Derived.Test.YtiainlccodnlmaaGreatDoorCostC
namespace Go.Proofs.YtiainlccodnlmaaGreatDoor
open Go.RowKit Go.Shelf
open Bd
attribute [local go_sem] Oper.semAt_some

/-- what the listed features cost together -/
def csL (cw : Nat → Int) (V : List Int) : Int := (V.map fun j => cw j.toNat).sum
theorem csL_snoc (cw : Nat → Int) (ys : List F24) (x : F24) : csL cw (fints (ys ++ [x])) = csL cw (fints ys) + cw x.val := by
  unfold csL
  rw [fints_snoc, List.map_append, List.sum_append]
  simp
theorem csL_bound {cw : Nat → Int} (h : ∀ j, -2147483648 ≤ cw j ∧ cw j ≤ 2147483648) : ∀ V : List Int, -2147483648 * (V.length : Int) ≤ csL cw V ∧ csL cw V ≤ 2147483648 * (V.length : Int)
  | [] => by simp [csL]
  | x :: V => by
    have ih := csL_bound h V
    have hx := h x.toNat
    have e : csL cw (x :: V) = cw x.toNat + csL cw V := by simp [csL]
    rw [e, List.length_cons]
    omega
structure CsSt (cw : Nat → Int) (ys : List F24) (w0 W : World) : Prop where
  c : ∀ j, j < 24 → W.cell? ⟨w0.heap.size, j, none⟩ = some (.int .i64 (cw j))
  s : W.cell? ⟨w0.heap.size + 1, 0, none⟩ = some (.int .i64 (csL cw (fints ys)))
  z : W.frozen? ⟨w0.heap.size + 1, 0, none⟩ = false
  bel : Below w0.heap.size w0 W
theorem CsSt.lt {cw : Nat → Int} {ys : List F24} {w0 W : World} (h : CsSt cw ys w0 W) : w0.heap.size + 1 < W.heap.size := lt_of_cell h.s
theorem CsSt.own (cw : Nat → Int) (B' : Nat) (w0 : World) (hB : w0.heap.size ≤ B') : OwnFrom B' (fun pre W => CsSt cw pre w0 W) := by
  intro s W W' row hs hg hr
  have hrow := fun r e => (hr r e).2
  exact ⟨fun j hj => cell_kept (hs.c j hj) hg hrow, cell_kept hs.s hg hrow, (frozen_kept hs.s hg hrow).trans hs.z,
    ownFrom_below (β := List F24) (Nat.le_refl _) hB s W W' row hs.bel hg hr⟩
theorem CsSt.kept {cw : Nat → Int} {ys : List F24} {w0 W W' : World} (h : CsSt cw ys w0 W) (fr : Fr nob W W') : CsSt cw ys w0 W' :=
  ⟨fun j hj => fr.cell (h.c j hj) (fun h => h), fr.cell h.s (fun h => h), (fr.frozen (p := ⟨w0.heap.size + 1, 0, none⟩) h.lt (fun h => h)).trans h.z, h.bel.trans ((fr.to_below (Nat.le_refl _) (fun _ h => h.elim)).mono (by have := h.lt; omega))⟩
theorem CsSt.store {cw : Nat → Int} {ys : List F24} {w0 W : World} (h : CsSt cw ys w0 W) (y : F24) : CsSt cw (ys ++ [y]) w0 (W.setCell ⟨w0.heap.size + 1, 0, none⟩ (.int .i64 (csL cw (fints ys) + cw y.val))) := by
  have fs := fr_store W (w0.heap.size + 1) 0 (.int .i64 (csL cw (fints ys) + cw y.val))
  have hn : ¬ w0.heap.size = w0.heap.size + 1 := by omega
  refine ⟨fun j hj => ?_, ?_, by rw [World.frozen?_setCell]; exact h.z, h.bel.trans (fs.to_below (by have := h.lt; omega) (fun k hk => by have e : k = w0.heap.size + 1 := hk; omega))⟩
  · rw [World.cell?_setCell_other _ _ _ _ (by simp only [ne_eq, Addr.mk.injEq, and_true]; omega), h.c j hj]
  · rw [World.cell?_setCell_same' _ _ _ (by rw [h.s]; rfl), csL_snoc]

set_option maxRecDepth 100000 in
set_option maxHeartbeats 2000000 in
theorem cost_in (n : Nat) (hn : 6 ≤ n) (cw : Nat → Int) (hcw : ∀ j, -2147483648 ≤ cw j ∧ cw j ≤ 2147483648) (m : Nat) (hm : m < 4294967296) (w : World) (hg : 0 < w.heap.size) (hT : Tab32 w) :
    CallsIn Fence.wide n Tryz.prog 43 #[wv cw, .int .u32 (m : Int)] w fun e W' => e = .returned (.int .i64 (csL cw (ints (featL m)))) ∧ Below w.heap.size w W' := by
  have h1 : 1 ≤ n := by omega
  have hro : Fence.wide.round = none := rfl
  have hfM : Fence.wide.fn 41 := trivial
  have hlen : (featL m).length ≤ 24 := by unfold featL; exact Nat.le_trans (List.length_filter_le _ _) (by simp)
  have hmem := fun w => callsIn_wide (n := n - 1) |>.2 (members_any m w)
  refine callsIn_of_wp_marks Tryz.func43 rfl trivial ?_ hro
  simp only [Tryz.ntmps43, List.size_toArray, List.length_cons, List.length_nil, Nat.reduceAdd, Nat.reduceSub, Array.replicate_succ, Array.replicate_zero, List.push_toArray, List.append_toArray, List.nil_append, List.cons_append]
  gi_upto_region 2 with fail
  have S0 : CsSt cw [] w ((w.alloc (.cells #[.int .i64 (cw 0), .int .i64 (cw 1), .int .i64 (cw 2), .int .i64 (cw 3), .int .i64 (cw 4), .int .i64 (cw 5), .int .i64 (cw 6), .int .i64 (cw 7), .int .i64 (cw 8), .int .i64 (cw 9), .int .i64 (cw 10), .int .i64 (cw 11), .int .i64 (cw 12), .int .i64 (cw 13), .int .i64 (cw 14), .int .i64 (cw 15), .int .i64 (cw 16), .int .i64 (cw 17), .int .i64 (cw 18), .int .i64 (cw 19), .int .i64 (cw 20), .int .i64 (cw 21), .int .i64 (cw 22), .int .i64 (cw 23)] 75)).alloc (.cells #[.int .i64 0] 2)) := by
    have c0 : ∀ j, j < 24 → (w.alloc (.cells #[.int .i64 (cw 0), .int .i64 (cw 1), .int .i64 (cw 2), .int .i64 (cw 3), .int .i64 (cw 4), .int .i64 (cw 5), .int .i64 (cw 6), .int .i64 (cw 7), .int .i64 (cw 8), .int .i64 (cw 9), .int .i64 (cw 10), .int .i64 (cw 11), .int .i64 (cw 12), .int .i64 (cw 13), .int .i64 (cw 14), .int .i64 (cw 15), .int .i64 (cw 16), .int .i64 (cw 17), .int .i64 (cw 18), .int .i64 (cw 19), .int .i64 (cw 20), .int .i64 (cw 21), .int .i64 (cw 22), .int .i64 (cw 23)] 75)).cell? ⟨w.heap.size, j, none⟩ = some (.int .i64 (cw j)) := by
      intro j hj
      match j, hj with
      | 0, _ => exact World.cell?_alloc_at _ _ _ _ (by simp)
      | 1, _ => exact World.cell?_alloc_at _ _ _ _ (by simp)
      | 2, _ => exact World.cell?_alloc_at _ _ _ _ (by simp)
      | 3, _ => exact World.cell?_alloc_at _ _ _ _ (by simp)
      | 4, _ => exact World.cell?_alloc_at _ _ _ _ (by simp)
      | 5, _ => exact World.cell?_alloc_at _ _ _ _ (by simp)
      | 6, _ => exact World.cell?_alloc_at _ _ _ _ (by simp)
      | 7, _ => exact World.cell?_alloc_at _ _ _ _ (by simp)
      | 8, _ => exact World.cell?_alloc_at _ _ _ _ (by simp)
      | 9, _ => exact World.cell?_alloc_at _ _ _ _ (by simp)
      | 10, _ => exact World.cell?_alloc_at _ _ _ _ (by simp)
      | 11, _ => exact World.cell?_alloc_at _ _ _ _ (by simp)
      | 12, _ => exact World.cell?_alloc_at _ _ _ _ (by simp)
      | 13, _ => exact World.cell?_alloc_at _ _ _ _ (by simp)
      | 14, _ => exact World.cell?_alloc_at _ _ _ _ (by simp)
      | 15, _ => exact World.cell?_alloc_at _ _ _ _ (by simp)
      | 16, _ => exact World.cell?_alloc_at _ _ _ _ (by simp)
      | 17, _ => exact World.cell?_alloc_at _ _ _ _ (by simp)
      | 18, _ => exact World.cell?_alloc_at _ _ _ _ (by simp)
      | 19, _ => exact World.cell?_alloc_at _ _ _ _ (by simp)
      | 20, _ => exact World.cell?_alloc_at _ _ _ _ (by simp)
      | 21, _ => exact World.cell?_alloc_at _ _ _ _ (by simp)
      | 22, _ => exact World.cell?_alloc_at _ _ _ _ (by simp)
      | 23, _ => exact World.cell?_alloc_at _ _ _ _ (by simp)
      | n + 24, h => omega
    have e1 : (w.alloc (.cells #[.int .i64 (cw 0), .int .i64 (cw 1), .int .i64 (cw 2), .int .i64 (cw 3), .int .i64 (cw 4), .int .i64 (cw 5), .int .i64 (cw 6), .int .i64 (cw 7), .int .i64 (cw 8), .int .i64 (cw 9), .int .i64 (cw 10), .int .i64 (cw 11), .int .i64 (cw 12), .int .i64 (cw 13), .int .i64 (cw 14), .int .i64 (cw 15), .int .i64 (cw 16), .int .i64 (cw 17), .int .i64 (cw 18), .int .i64 (cw 19), .int .i64 (cw 20), .int .i64 (cw 21), .int .i64 (cw 22), .int .i64 (cw 23)] 75)).heap.size = w.heap.size + 1 := by simp
    refine ⟨fun j hj => ((Fr.refl nob _).alloc _).cell (c0 j hj) (fun h => h), ?_, ?_, (((Fr.refl nob w).alloc _).alloc _).to_below (Nat.le_refl _) (fun _ h => h.elim)⟩
    · rw [← e1]; exact World.cell?_alloc_at _ _ _ _ (by simp; try rfl)
    · have hb := heap_alloc_new (w.alloc (.cells #[.int .i64 (cw 0), .int .i64 (cw 1), .int .i64 (cw 2), .int .i64 (cw 3), .int .i64 (cw 4), .int .i64 (cw 5), .int .i64 (cw 6), .int .i64 (cw 7), .int .i64 (cw 8), .int .i64 (cw 9), .int .i64 (cw 10), .int .i64 (cw 11), .int .i64 (cw 12), .int .i64 (cw 13), .int .i64 (cw 14), .int .i64 (cw 15), .int .i64 (cw 16), .int .i64 (cw 17), .int .i64 (cw 18), .int .i64 (cw 19), .int .i64 (cw 20), .int .i64 (cw 21), .int .i64 (cw 22), .int .i64 (cw 23)] 75)) (.cells #[.int .i64 0] 2)
      rw [e1] at hb
      unfold World.frozen?; simp only [hb]; simp
  have e2 : ((w.alloc (.cells #[.int .i64 (cw 0), .int .i64 (cw 1), .int .i64 (cw 2), .int .i64 (cw 3), .int .i64 (cw 4), .int .i64 (cw 5), .int .i64 (cw 6), .int .i64 (cw 7), .int .i64 (cw 8), .int .i64 (cw 9), .int .i64 (cw 10), .int .i64 (cw 11), .int .i64 (cw 12), .int .i64 (cw 13), .int .i64 (cw 14), .int .i64 (cw 15), .int .i64 (cw 16), .int .i64 (cw 17), .int .i64 (cw 18), .int .i64 (cw 19), .int .i64 (cw 20), .int .i64 (cw 21), .int .i64 (cw 22), .int .i64 (cw 23)] 75)).alloc (.cells #[.int .i64 0] 2)).heap.size = w.heap.size + 1 + 1 := by simp
  generalize (w.alloc (.cells #[.int .i64 (cw 0), .int .i64 (cw 1), .int .i64 (cw 2), .int .i64 (cw 3), .int .i64 (cw 4), .int .i64 (cw 5), .int .i64 (cw 6), .int .i64 (cw 7), .int .i64 (cw 8), .int .i64 (cw 9), .int .i64 (cw 10), .int .i64 (cw 11), .int .i64 (cw 12), .int .i64 (cw 13), .int .i64 (cw 14), .int .i64 (cw 15), .int .i64 (cw 16), .int .i64 (cw 17), .int .i64 (cw 18), .int .i64 (cw 19), .int .i64 (cw 20), .int .i64 (cw 21), .int .i64 (cw 22), .int .i64 (cw 23)] 75)).alloc (.cells #[.int .i64 0] 2) = W0 at *
  gi_wp2_with (gi_at_call 41; refine (hmem _).mono ?_; rintro e w' ⟨rfl, rfl⟩)
  have S1 := S0.kept ((Fr.refl nob W0).alloc (.cells #[.int .u32 (m : Int)] 23))
  have hcm : (W0.alloc (.cells #[.int .u32 (m : Int)] 23)).cell? ⟨W0.heap.size, 0, none⟩ = some (.int .u32 (m : Int)) := World.cell?_alloc_at _ _ _ _ (by simp)
  have hsz : (W0.alloc (.cells #[.int .u32 (m : Int)] 23)).heap.size = W0.heap.size + 1 := by simp
  have l1 := S0.lt
  rw [e2] at hcm hsz
  generalize W0.alloc (.cells #[.int .u32 (m : Int)] 23) = W1 at *
  clear S0
  refine wpIn_rangeFunc_ownG hro h1 (gf := 91) (lb := #[.pointer (some ⟨w.heap.size + 1 + 1, 0, none⟩)]) rfl trivial (enters_of Tryz.func91 (by kernel_rfl) rfl)
    (mem_stops24 (n - 1) (by omega) (w.heap.size + 1 + 1) w.heap.size m hm W1 (by omega) (by omega) hg hcm (hT.below S1.bel hg)) belowK_t (belowK_b (by omega)) (Below.refl _ _) (fun _ => rfl)
    (fun pre W => CsSt cw pre w W) (fun _ _ _ => False)
    (CsSt.own cw W1.heap.size w (by omega))
    (fun _ _ _ _ _ hs _ _ => hs)
    S1
    (fun x => { tmps := #[wv cw, .int .u32 (m : Int), .pointer (some ⟨w.heap.size, 0, none⟩), undef, .int .i64 0, .pointer (some ⟨w.heap.size + 1, 0, none⟩), .int .i64 ((x.val : Nat) : Int), .int .u32 (m : Int), .func (.func 91) #[] #[.pointer (some ⟨w.heap.size + 1 + 1, 0, none⟩)], .int .i64 ((x.val : Nat) : Int), undef, undef, undef, undef, undef, undef], defers := [] }) ?assign ?body ?done ?stop
  case assign =>
    intro l x W K hK
    gi_wp2
    exact hK
  case body =>
    rintro l pre x W S hlt
    have hx0 : (0 : Int) ≤ ((x.val : Nat) : Int) := by omega
    have hx1 : ((x.val : Nat) : Int) < 24 := by have := x.isLt; omega
    have S2 := S.store x
    have cx := S.c x.val x.isLt
    have sx := S.s
    have zx := S.z
    have ko := KeepsOthers.setCell W ⟨w.heap.size + 1, 0, none⟩ (.int .i64 (csL cw (fints pre) + cw x.val))
    have hb2 : Below w.heap.size W (W.setCell ⟨w.heap.size + 1, 0, none⟩ (.int .i64 (csL cw (fints pre) + cw x.val))) := (fr_store W (w.heap.size + 1) 0 (.int .i64 (csL cw (fints pre) + cw x.val))).to_below (by have := S.lt; omega) (fun k hk => by have e : k = w.heap.size + 1 := hk; omega)
    have hl2 : (fints pre).length = pre.length := by simp [fints]
    have hbd := csL_bound hcw (fints pre)
    have hcx := hcw x.val
    have ho1 : -9223372036854775808 ≤ csL cw (fints pre) + cw x.val := by omega
    have ho2 : csL cw (fints pre) + cw x.val < 9223372036854775808 := by omega
    clear hl2 hbd hcx
    generalize csL cw (fints pre) = sm at *
    generalize cw x.val = cv at *
    have hwr : IntKind.i64.wrap (sm + cv) = sm + cv := by rw [IntKind.wrap_i64]; omega
    gi_wp2_with fail
    gi_region
    all_goals
      exact ⟨(ko.trans (KeepsOthers.drew _)).from _, hb2.drew, S2.kept ((Fr.refl nob _).drew)⟩
  case done =>
    rintro D ys W hD hys S hK
    have hys' : fints ys = ints (featL m) := hys
    have sx := S.s
    have zx := S.z
    rw [hys'] at sx
    have bel := S.bel
    gi_wp2_with fail
    refine ⟨by simp, .inl ⟨_, _, rfl, run_takeDeferred hK, ?_⟩⟩
    refine ⟨.int .i64 (csL cw (ints (featL m))), by simp [results, Tryz.results43, go_sem], rfl, bel.trans (belowK_b (w := w) (Nat.le_refl _) W D _ _ (by have := S1.bel.size; omega) hK rfl rfl)⟩
  case stop =>
    rintro D c pre W _ _ h _
    exact h.elim

theorem cost_any (cw : Nat → Int) (hcw : ∀ j, -2147483648 ≤ cw j ∧ cw j ≤ 2147483648) (m : Nat) (hm : m < 4294967296) (w : World) (hg : 0 < w.heap.size) (hT : Tab32 w) :
    Calls Tryz.prog 43 #[wv cw, .int .u32 (m : Int)] w fun e W' => e = .returned (.int .i64 (csL cw (ints (featL m)))) ∧ Below w.heap.size w W' :=
  callsIn_wide.1 (cost_in 6 (by omega) cw hcw m hm w hg hT)
end Go.Proofs.YtiainlccodnlmaaGreatDoor
namespace Go.Proofs.YtiainlccodnlmaaGreatDoor
open Go.RowKit
open Bd

/-- what Cheapest answers -/
def chpV (cw : Nat → Int) (ok : Bool) (A : B) : Value := if ok then (if A = .F then .tuple #[.int .u32 0, .int .i64 0, .int .i64 8] else .tuple #[.int .u32 (bstN cw A : Int), .int .i64 (csL cw (ints (featL (bstN cw A)))), .int .i64 0]) else .tuple #[.int .u32 0, .int .i64 0, .int .i64 2]
theorem chpV_bad (cw : Nat → Int) (A : B) : chpV cw false A = .tuple #[.int .u32 0, .int .i64 0, .int .i64 2] := rfl
theorem chpV_none (cw : Nat → Int) : chpV cw true .F = .tuple #[.int .u32 0, .int .i64 0, .int .i64 8] := by unfold chpV; simp
theorem chpV_ok (cw : Nat → Int) {A : B} (h : A ≠ .F) : chpV cw true A = .tuple #[.int .u32 (bstN cw A : Int), .int .i64 (csL cw (ints (featL (bstN cw A)))), .int .i64 0] := by unfold chpV; simp [h]

set_option maxRecDepth 100000 in
set_option maxHeartbeats 2000000 in
theorem chp_in (A : B) (hA : A.ok 0) (cw : Nat → Int) (hcw : ∀ j, -2147483648 ≤ cw j ∧ cw j ≤ 2147483648) (ok : Bool) (v : Value) (w : World) (hbm : bstN cw A < 4294967296)
    (hwg : ∀ W, Fr nob w W → Calls Tryz.prog 42 #[v] W fun e w' => e = .returned (.tuple #[wv cw, .bool ok]) ∧ Below W.heap.size W w')
    (hg : 0 < w.heap.size) (hT : Tab32 w) :
    Calls Tryz.prog 15 #[dval A, v] w fun e W' => e = .returned (chpV cw ok A) ∧ Below w.heap.size w W' := by
  have D0 := Box2.new w (.int .u32 (place (li A) A : Int)) (.string ⟨(code (rows (li A))).toArray⟩) 32
  have fr : Fr nob w (w.alloc (.cells #[.int .u32 (place (li A) A : Int), .string ⟨(code (rows (li A))).toArray⟩] 32)) := (Fr.refl nob w).alloc _
  have hwg0 := hwg _ fr
  have HT := Lib.hid hT
  have HCW := Lib.hid hcw
  have HBM := Lib.hid hbm
  clear hT hcw hbm hwg
  go_enter Tryz.func15, Tryz.ntmps15
  go_upto_region 1 with fail
  generalize w.alloc (.cells #[.int .u32 (place (li A) A : Int), .string ⟨(code (rows (li A))).toArray⟩] 32) = W0 at *
  have HI' := Lib.hid (show (Tryz.prog.info? 75).map (·.size) = some (#[.int .i64 (cw 0), .int .i64 (cw 1), .int .i64 (cw 2), .int .i64 (cw 3), .int .i64 (cw 4), .int .i64 (cw 5), .int .i64 (cw 6), .int .i64 (cw 7), .int .i64 (cw 8), .int .i64 (cw 9), .int .i64 (cw 10), .int .i64 (cw 11), .int .i64 (cw 12), .int .i64 (cw 13), .int .i64 (cw 14), .int .i64 (cw 15), .int .i64 (cw 16), .int .i64 (cw 17), .int .i64 (cw 18), .int .i64 (cw 19), .int .i64 (cw 20), .int .i64 (cw 21), .int .i64 (cw 22), .int .i64 (cw 23)] : Array Value).size from info_w)
  have HI := Lib.hid (show (Tryz.prog.info? 75).map (·.size) = some ([.int .i64 (cw 0), .int .i64 (cw 1), .int .i64 (cw 2), .int .i64 (cw 3), .int .i64 (cw 4), .int .i64 (cw 5), .int .i64 (cw 6), .int .i64 (cw 7), .int .i64 (cw 8), .int .i64 (cw 9), .int .i64 (cw 10), .int .i64 (cw 11), .int .i64 (cw 12), .int .i64 (cw 13), .int .i64 (cw 14), .int .i64 (cw 15), .int .i64 (cw 16), .int .i64 (cw 17), .int .i64 (cw 18), .int .i64 (cw 19), .int .i64 (cw 20), .int .i64 (cw 21), .int .i64 (cw 22), .int .i64 (cw 23)] : List Value).length from info_w)
  go_wp2_with fail
  refine hwg0.mono ?_
  rintro e w1 ⟨rfl, hb1⟩
  dsimp only
  rename_i hk1
  refine hk1 _ _ ?_
  refine wpList_val (v := .tuple #[wv cw, .bool ok]) (w' := w1) rfl ?v0 ?_
  case v0 =>
    go_simp
    try rfl
  simp only [Act.put, List.setIfInBounds_toArray, List.set_cons_zero, List.set_cons_succ]
  refine wpList_val (v := wv cw) (w' := w1) rfl ?v1 ?_
  case v1 =>
    go_simp
    try rfl
  simp only [Act.put, List.setIfInBounds_toArray, List.set_cons_zero, List.set_cons_succ]
  refine wpList_val (v := .bool ok) (w' := w1) rfl ?v2 ?_
  case v2 =>
    go_simp
    try rfl
  simp only [Act.put, List.setIfInBounds_toArray, List.set_cons_zero, List.set_cons_succ]
  refine wpList_val (v := .pointer (some ⟨w1.heap.size, 0, none⟩)) (w' := w1.alloc (.cells #[.int .i64 0, .int .i64 0, .int .i64 0, .int .i64 0, .int .i64 0, .int .i64 0, .int .i64 0, .int .i64 0, .int .i64 0, .int .i64 0, .int .i64 0, .int .i64 0, .int .i64 0, .int .i64 0, .int .i64 0, .int .i64 0, .int .i64 0, .int .i64 0, .int .i64 0, .int .i64 0, .int .i64 0, .int .i64 0, .int .i64 0, .int .i64 0] 75)) rfl ?v3 ?_
  case v3 =>
    go_simp
    try rfl
  simp only [Act.put, List.setIfInBounds_toArray, List.set_cons_zero, List.set_cons_succ]
  refine wpList_store_mid rfl 75 (.tmp 7) (.tmp 14) rfl w1.heap.size 0 #[.int .i64 (cw 0), .int .i64 (cw 1), .int .i64 (cw 2), .int .i64 (cw 3), .int .i64 (cw 4), .int .i64 (cw 5), .int .i64 (cw 6), .int .i64 (cw 7), .int .i64 (cw 8), .int .i64 (cw 9), .int .i64 (cw 10), .int .i64 (cw 11), .int .i64 (cw 12), .int .i64 (cw 13), .int .i64 (cw 14), .int .i64 (cw 15), .int .i64 (cw 16), .int .i64 (cw 17), .int .i64 (cw 18), .int .i64 (cw 19), .int .i64 (cw 20), .int .i64 (cw 21), .int .i64 (cw 22), .int .i64 (cw 23)] rfl rfl (there_new w1 #[.int .i64 0, .int .i64 0, .int .i64 0, .int .i64 0, .int .i64 0, .int .i64 0, .int .i64 0, .int .i64 0, .int .i64 0, .int .i64 0, .int .i64 0, .int .i64 0, .int .i64 0, .int .i64 0, .int .i64 0, .int .i64 0, .int .i64 0, .int .i64 0, .int .i64 0, .int .i64 0, .int .i64 0, .int .i64 0, .int .i64 0, .int .i64 0] 75) HI'.out (by simp [Value.oneCell']) ?_
  simp only [Act.put]
  have g1 := (Fr.refl nob W0).below hb1
  have hr := World.rangeAt_setCells_same (w1.alloc (.cells #[.int .i64 0, .int .i64 0, .int .i64 0, .int .i64 0, .int .i64 0, .int .i64 0, .int .i64 0, .int .i64 0, .int .i64 0, .int .i64 0, .int .i64 0, .int .i64 0, .int .i64 0, .int .i64 0, .int .i64 0, .int .i64 0, .int .i64 0, .int .i64 0, .int .i64 0, .int .i64 0, .int .i64 0, .int .i64 0, .int .i64 0, .int .i64 0] 75)) w1.heap.size 0 [.int .i64 (cw 0), .int .i64 (cw 1), .int .i64 (cw 2), .int .i64 (cw 3), .int .i64 (cw 4), .int .i64 (cw 5), .int .i64 (cw 6), .int .i64 (cw 7), .int .i64 (cw 8), .int .i64 (cw 9), .int .i64 (cw 10), .int .i64 (cw 11), .int .i64 (cw 12), .int .i64 (cw 13), .int .i64 (cw 14), .int .i64 (cw 15), .int .i64 (cw 16), .int .i64 (cw 17), .int .i64 (cw 18), .int .i64 (cw 19), .int .i64 (cw 20), .int .i64 (cw 21), .int .i64 (cw 22), .int .i64 (cw 23)] (there_new w1 #[.int .i64 0, .int .i64 0, .int .i64 0, .int .i64 0, .int .i64 0, .int .i64 0, .int .i64 0, .int .i64 0, .int .i64 0, .int .i64 0, .int .i64 0, .int .i64 0, .int .i64 0, .int .i64 0, .int .i64 0, .int .i64 0, .int .i64 0, .int .i64 0, .int .i64 0, .int .i64 0, .int .i64 0, .int .i64 0, .int .i64 0, .int .i64 0] 75)
  have F2 : Fr nob w1 ((w1.alloc (.cells #[.int .i64 0, .int .i64 0, .int .i64 0, .int .i64 0, .int .i64 0, .int .i64 0, .int .i64 0, .int .i64 0, .int .i64 0, .int .i64 0, .int .i64 0, .int .i64 0, .int .i64 0, .int .i64 0, .int .i64 0, .int .i64 0, .int .i64 0, .int .i64 0, .int .i64 0, .int .i64 0, .int .i64 0, .int .i64 0, .int .i64 0, .int .i64 0] 75)).setCells w1.heap.size 0 [.int .i64 (cw 0), .int .i64 (cw 1), .int .i64 (cw 2), .int .i64 (cw 3), .int .i64 (cw 4), .int .i64 (cw 5), .int .i64 (cw 6), .int .i64 (cw 7), .int .i64 (cw 8), .int .i64 (cw 9), .int .i64 (cw 10), .int .i64 (cw 11), .int .i64 (cw 12), .int .i64 (cw 13), .int .i64 (cw 14), .int .i64 (cw 15), .int .i64 (cw 16), .int .i64 (cw 17), .int .i64 (cw 18), .int .i64 (cw 19), .int .i64 (cw 20), .int .i64 (cw 21), .int .i64 (cw 22), .int .i64 (cw 23)]) := ((Fr.refl nob w1).alloc _).trans (fr_setCells w1.heap.size [.int .i64 (cw 0), .int .i64 (cw 1), .int .i64 (cw 2), .int .i64 (cw 3), .int .i64 (cw 4), .int .i64 (cw 5), .int .i64 (cw 6), .int .i64 (cw 7), .int .i64 (cw 8), .int .i64 (cw 9), .int .i64 (cw 10), .int .i64 (cw 11), .int .i64 (cw 12), .int .i64 (cw 13), .int .i64 (cw 14), .int .i64 (cw 15), .int .i64 (cw 16), .int .i64 (cw 17), .int .i64 (cw 18), .int .i64 (cw 19), .int .i64 (cw 20), .int .i64 (cw 21), .int .i64 (cw 22), .int .i64 (cw 23)] 0 _) (fun j hj e => by exfalso; omega)
  have D2 := (D0.kept g1 (fun h => h)).kept F2 (fun h => h)
  have fr2 := (fr.trans g1 (fun _ _ h => h)).trans F2 (fun _ _ h => h)
  have l0 : w.heap.size < w1.heap.size := (D0.kept g1 (fun h => h)).lt
  generalize (w1.alloc (.cells #[.int .i64 0, .int .i64 0, .int .i64 0, .int .i64 0, .int .i64 0, .int .i64 0, .int .i64 0, .int .i64 0, .int .i64 0, .int .i64 0, .int .i64 0, .int .i64 0, .int .i64 0, .int .i64 0, .int .i64 0, .int .i64 0, .int .i64 0, .int .i64 0, .int .i64 0, .int .i64 0, .int .i64 0, .int .i64 0, .int .i64 0, .int .i64 0] 75)).setCells w1.heap.size 0 [.int .i64 (cw 0), .int .i64 (cw 1), .int .i64 (cw 2), .int .i64 (cw 3), .int .i64 (cw 4), .int .i64 (cw 5), .int .i64 (cw 6), .int .i64 (cw 7), .int .i64 (cw 8), .int .i64 (cw 9), .int .i64 (cw 10), .int .i64 (cw 11), .int .i64 (cw 12), .int .i64 (cw 13), .int .i64 (cw 14), .int .i64 (cw 15), .int .i64 (cw 16), .int .i64 (cw 17), .int .i64 (cw 18), .int .i64 (cw 19), .int .i64 (cw 20), .int .i64 (cw 21), .int .i64 (cw 22), .int .i64 (cw 23)] = W2 at *
  clear hwg0 D0 fr hb1 g1 F2
  generalize w1.heap.size = g at *
  have a0 := D2.c0
  have a1 := D2.c1
  have HFR := Lib.hid fr2
  have HR := Lib.hid hr
  clear D2 fr2 hr l0 hk1
  cases ok with
  | false =>
    go_wp2_with fail
    exact bodyPost_ret (v := .tuple #[.int .u32 0, .int .i64 0, .int .i64 2]) (by simp [results, Tryz.results15, go_sem]) rfl ⟨by rw [chpV_bad], HFR.out.to_below (Nat.le_refl _) (fun _ h => h.elim)⟩
  | true =>
    by_cases hAF : A = .F
    · have hd : (!decide (A = .F)) = false := by simp [hAF]
      have hb := bst_any A hA cw HCW.out W2
      rw [hd] at hb
      have hpost : chpV cw true A = .tuple #[.int .u32 0, .int .i64 0, .int .i64 8] := by rw [hAF]; exact chpV_none cw
      have HP := Lib.hid hpost
      clear hd hAF hpost
      go_wp2_with (first
        | (refine wpList_load_mid rfl 75 (.tmp 7) rfl g 0 rfl [.int .i64 (cw 0), .int .i64 (cw 1), .int .i64 (cw 2), .int .i64 (cw 3), .int .i64 (cw 4), .int .i64 (cw 5), .int .i64 (cw 6), .int .i64 (cw 7), .int .i64 (cw 8), .int .i64 (cw 9), .int .i64 (cw 10), .int .i64 (cw 11), .int .i64 (cw 12), .int .i64 (cw 13), .int .i64 (cw 14), .int .i64 (cw 15), .int .i64 (cw 16), .int .i64 (cw 17), .int .i64 (cw 18), .int .i64 (cw 19), .int .i64 (cw 20), .int .i64 (cw 21), .int .i64 (cw 22), .int .i64 (cw 23)] _ HR.out under_w rfl HI.out ?_)
        | (go_at_call 38
           refine hb.mono ?_
           rintro e w3 ⟨rfl, hb3⟩
           have HB3 := Lib.hid (HFR.out.below hb3)
           clear hb3 hb))
      exact bodyPost_ret (v := .tuple #[.int .u32 0, .int .i64 0, .int .i64 8]) (by simp [results, Tryz.results15, go_sem]) rfl ⟨by rw [HP.out], HB3.out.to_below (Nat.le_refl _) (fun _ h => h.elim)⟩
    · have hd : (!decide (A = .F)) = true := by simp [hAF]
      have hb := bst_any A hA cw HCW.out W2
      rw [hd] at hb
      have HP := Lib.hid (chpV_ok cw hAF)
      clear hd hAF
      generalize bstN cw A = bm at *
      go_wp2_with (first
        | (refine wpList_load_mid rfl 75 (.tmp 7) rfl g 0 rfl [.int .i64 (cw 0), .int .i64 (cw 1), .int .i64 (cw 2), .int .i64 (cw 3), .int .i64 (cw 4), .int .i64 (cw 5), .int .i64 (cw 6), .int .i64 (cw 7), .int .i64 (cw 8), .int .i64 (cw 9), .int .i64 (cw 10), .int .i64 (cw 11), .int .i64 (cw 12), .int .i64 (cw 13), .int .i64 (cw 14), .int .i64 (cw 15), .int .i64 (cw 16), .int .i64 (cw 17), .int .i64 (cw 18), .int .i64 (cw 19), .int .i64 (cw 20), .int .i64 (cw 21), .int .i64 (cw 22), .int .i64 (cw 23)] _ HR.out under_w rfl HI.out ?_)
        | (refine wpList_load_mid rfl 75 (.tmp 7) rfl g 0 rfl [.int .i64 (cw 0), .int .i64 (cw 1), .int .i64 (cw 2), .int .i64 (cw 3), .int .i64 (cw 4), .int .i64 (cw 5), .int .i64 (cw 6), .int .i64 (cw 7), .int .i64 (cw 8), .int .i64 (cw 9), .int .i64 (cw 10), .int .i64 (cw 11), .int .i64 (cw 12), .int .i64 (cw 13), .int .i64 (cw 14), .int .i64 (cw 15), .int .i64 (cw 16), .int .i64 (cw 17), .int .i64 (cw 18), .int .i64 (cw 19), .int .i64 (cw 20), .int .i64 (cw 21), .int .i64 (cw 22), .int .i64 (cw 23)] _ HR3.out under_w rfl HI.out ?_)
        | (go_at_call 38
           refine hb.mono ?_
           rintro e w3 ⟨rfl, hb3⟩
           have HB3 := Lib.hid (HFR.out.below hb3)
           have HR3 := Lib.hid (range_kept HR.out ((Fr.refl nob W2).below hb3) (fun h => h))
           clear hb3 hb)
        | (go_at_call 43
           refine (cost_any cw HCW.out bm HBM.out w3 (Nat.lt_of_lt_of_le hg HB3.out.size) (HT.out.below (HB3.out.to_below (Nat.le_refl _) (fun _ h => h.elim)) hg)).mono ?_
           rintro e w4 ⟨rfl, hb4⟩
           have HB4 := Lib.hid (HB3.out.to_below (Nat.le_refl _) (fun _ h => h.elim) |>.trans (hb4.mono HB3.out.size))
           clear hb4))
      exact bodyPost_ret (v := .tuple #[.int .u32 (bm : Int), .int .i64 (csL cw (ints (featL bm))), .int .i64 0]) (by simp [results, Tryz.results15, go_sem]) rfl ⟨by rw [HP.out], HB4.out⟩

theorem bstN_lt {cw : Nat → Int} (hw : ∀ j, -2147483648 ≤ cw j ∧ cw j ≤ 2147483648) {A : B} (hA : A.ok 0) : bstN cw A < 16777216 := by
  unfold bstN
  split
  · decide
  · exact (ofr_bound hw (usN_lt cw (k := 24) (Nat.le_refl _)) hA).2
theorem Cheapest_any (A : B) (hA : A.ok 0) (l : List Int) (hlen : l.length ≤ 1073741824) (v : Value) (w : World) (hv : SRow w v (l.map (Value.int .i64))) (hg : 0 < w.heap.size) (hT : Tab32 w) :
    Calls Tryz.prog 15 #[dval A, v] w fun e W' => e = .returned (chpV (wC l) (wOk l) A) ∧ Below w.heap.size w W' :=
  chp_in A hA (wC l) (wC_bound l) (wOk l) v w (by have := bstN_lt (wC_bound l) hA; omega) (fun W fr => weigh_any l hlen v W (hv.kept fr)) hg hT
end Go.Proofs.YtiainlccodnlmaaGreatDoor
