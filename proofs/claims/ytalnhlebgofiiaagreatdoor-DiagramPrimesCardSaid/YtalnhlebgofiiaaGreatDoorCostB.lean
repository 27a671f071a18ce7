import Derived.Test.YtalnhlebgofiiaaGreatDoorExi
import Derived.Test.YtalnhlebgofiiaaGreatDoorCost
namespace Go.Proofs.YtalnhlebgofiiaaGreatDoor
open Go.RowKit
open Bd
namespace Bd
noncomputable def faL (V : List Int) (A : B) : B := (exL V A.neg).neg
theorem ok_faL {A : B} (hA : A.ok 0) (V : List Int) : (faL V A).ok 0 := ok_neg (ok_exL (ok_neg hA) V)
end Bd

set_option maxRecDepth 100000 in
set_option maxHeartbeats 1000000 in
/-- Forall, for any mask -/
theorem Forall_any (A : B) (hA : A.ok 0) (m : Nat) (hm : m < 4294967296) (w : World) (hg : 0 < w.heap.size) (hT : Tab32 w) :
    Calls Tryz.prog 73 #[dval A, .int .u32 (m : Int)] w fun e W' => e = .returned (dval (faL (ints (featL m)) A)) ∧ Below w.heap.size w W' := by
  have S := WithSt.start A w
  have hn1 := Not_any A hA
  have hn2 := Not_any (exL (ints (featL m)) A.neg) (ok_exL (ok_neg hA) _)
  have hex := fun w (h1 : 0 < w.heap.size) (h2 : Tab32 w) => Exists_any A.neg (ok_neg hA) m hm w h1 h2
  have ⟨_, a0, a1, _, _, _, _⟩ := S
  go_enter Tryz.func73, Tryz.ntmps73
  go_wp2_with fail
  clear a0 a1
  refine (hn1 _).mono ?_
  rintro e w1 ⟨rfl, hb1⟩
  have S1 := S.kept hb1
  clear hb1
  go_wp2_with fail
  refine (hex w1 (by have := S1.fr.size; omega) (hT.below (S1.fr.to_below (B := w.heap.size) (Nat.le_refl _) (fun _ h => h.elim)) hg)).mono ?_
  rintro e w2 ⟨rfl, hb2⟩
  have S2 := S1.kept hb2
  clear hb2
  go_wp2_with fail
  refine (hn2 _).mono ?_
  rintro e w3 ⟨rfl, hb3⟩
  have S3 := S2.kept hb3
  clear hb3 S S1 S2 hn1 hn2 hex
  have ⟨G, _, _, r0, r1, f0, f1⟩ := S3
  go_wp2_with fail
  refine bodyPost_ret (v := dval (exL (ints (featL m)) A.neg).neg) (by simp [results, Tryz.results73, go_sem, r0, r1]) rfl ⟨rfl, ?_⟩
  exact ((G.set1 (by omega) _).set1 (by omega) _).to_below (Nat.le_refl _) (fun _ h => h.elim)
end Go.Proofs.YtalnhlebgofiiaaGreatDoor
namespace Go.Proofs.YtalnhlebgofiiaaGreatDoor
open Go.RowKit Go.Shelf
open Bd
attribute [local go_sem] Oper.semAt_some

theorem costB_none {cw : Nat → Int} {lo hi : Int} (h : hi < lo) : costB cw lo hi 24 0 = .F := by
  refine eq_of_ev (ok_costB0 _ _ _ _ _) trivial fun c => ?_
  rw [ev_costB cw lo hi (Nat.le_refl _)]
  show _ = false
  rw [Bool.and_eq_false_iff, decide_eq_false_iff_not, decide_eq_false_iff_not]
  omega

set_option maxRecDepth 100000 in
set_option maxHeartbeats 1000000 in
theorem costing_none {cw : Nat → Int} {lo hi : Int} (hle : hi < lo) (w : World) :
    Calls Tryz.prog 113 #[wv cw, .int .i64 lo, .int .i64 hi] w fun e w' => e = .returned (dval .F) ∧ Below w.heap.size w w' := by
  go_enter Tryz.func113, Tryz.ntmps113
  go_upto_region 2 with fail
  have rb := Box2.of_heap (heap_alloc_new (w.alloc (.cells #[.int .i64 (cw 0), .int .i64 (cw 1), .int .i64 (cw 2), .int .i64 (cw 3), .int .i64 (cw 4), .int .i64 (cw 5), .int .i64 (cw 6), .int .i64 (cw 7), .int .i64 (cw 8), .int .i64 (cw 9), .int .i64 (cw 10), .int .i64 (cw 11), .int .i64 (cw 12), .int .i64 (cw 13), .int .i64 (cw 14), .int .i64 (cw 15), .int .i64 (cw 16), .int .i64 (cw 17), .int .i64 (cw 18), .int .i64 (cw 19), .int .i64 (cw 20), .int .i64 (cw 21), .int .i64 (cw 22), .int .i64 (cw 23)] 75)) (.cells #[.int .u32 0, .string ⟨#[]⟩] 32))
  simp only [World.size_alloc] at rb
  have frw : Fr nob w ((w.alloc (.cells #[.int .i64 (cw 0), .int .i64 (cw 1), .int .i64 (cw 2), .int .i64 (cw 3), .int .i64 (cw 4), .int .i64 (cw 5), .int .i64 (cw 6), .int .i64 (cw 7), .int .i64 (cw 8), .int .i64 (cw 9), .int .i64 (cw 10), .int .i64 (cw 11), .int .i64 (cw 12), .int .i64 (cw 13), .int .i64 (cw 14), .int .i64 (cw 15), .int .i64 (cw 16), .int .i64 (cw 17), .int .i64 (cw 18), .int .i64 (cw 19), .int .i64 (cw 20), .int .i64 (cw 21), .int .i64 (cw 22), .int .i64 (cw 23)] 75)).alloc (.cells #[.int .u32 0, .string ⟨#[]⟩] 32)) := ((Fr.refl nob w).alloc _).alloc _
  generalize ((w.alloc (.cells #[.int .i64 (cw 0), .int .i64 (cw 1), .int .i64 (cw 2), .int .i64 (cw 3), .int .i64 (cw 4), .int .i64 (cw 5), .int .i64 (cw 6), .int .i64 (cw 7), .int .i64 (cw 8), .int .i64 (cw 9), .int .i64 (cw 10), .int .i64 (cw 11), .int .i64 (cw 12), .int .i64 (cw 13), .int .i64 (cw 14), .int .i64 (cw 15), .int .i64 (cw 16), .int .i64 (cw 17), .int .i64 (cw 18), .int .i64 (cw 19), .int .i64 (cw 20), .int .i64 (cw 21), .int .i64 (cw 22), .int .i64 (cw 23)] 75)).alloc (.cells #[.int .u32 0, .string ⟨#[]⟩] 32)) = W2 at *
  go_wp2_with fail
  refine (False_any _).mono ?_
  rintro e w3 ⟨rfl, hb⟩
  have fr3 := (Fr.refl nob W2).below hb
  have rb3 := rb.kept fr3 (fun h => h)
  have ⟨r0, r1, rf⟩ := rb3
  have rf0 := rf 0
  have rf1 := rf 1
  have G := frw.trans fr3 (fun _ _ h => h)
  clear rf
  go_wp2_with fail
  obtain ⟨r', _⟩ := rb3.set (.int .u32 (place (li .F) .F : Int)) (.string ⟨(code (rows (li .F))).toArray⟩)
  have ⟨q0, q1, _⟩ := r'
  refine bodyPost_ret (v := dval .F) (by simp [results, Tryz.results113, go_sem, q0, q1]) rfl ⟨rfl, ?_⟩
  exact ((G.set1 (by omega) _).set1 (by omega) _).to_below (Nat.le_refl _) (fun _ h => h.elim)

/-- COSTING. -/
theorem costing_any {cw : Nat → Int} {lo hi : Int} (hcw : ∀ j, -2147483648 ≤ cw j ∧ cw j ≤ 2147483648) (w : World) :
    Calls Tryz.prog 113 #[wv cw, .int .i64 lo, .int .i64 hi] w fun e w' => e = .returned (dval (costB cw lo hi 24 0)) ∧ Below w.heap.size w w' := by
  by_cases h : lo ≤ hi
  · exact costing_in hcw h w
  · rw [costB_none (by omega)]
    exact costing_none (by omega) w

theorem wpListIn_load_mid {F : Fence} {n : Nat} {P : Program} {w : World} {ops : Array Oper} {rest : List Oper} {o : Oper} {a : Act} {Q : Exit → Act → World → Prop} (hgd : o.guard = none) (ty : TypeId) (x : Operand) (ho : o.op = .load ty x)
    (b off : Nat) (hx : a.eval x = .pointer (some ⟨b, off, none⟩)) (cs : List Value) (d : TypeDesc) (hc : w.rangeAt b off cs) (hu : P.underlying ty = some d) (hd : d.isRow = true) (hi : (P.info? ty).map (·.size) = some cs.length)
    (h : wpListIn F n P ops Q rest (a.put o.dst (.agg cs.toArray)) w) : wpListIn F n P ops Q (o :: rest) a w := by
  refine wpListIn_plain hgd fun K hK' => ?_
  unfold Oper.wpIn
  refine ⟨?_, ?_⟩
  · simp [Oper.about, ho]
  · rw [Oper.semAt_plain F _ _ (by rw [ho]; intro c hc'; cases hc'), exec_load_mid ty x ho b off hx cs d hc hu hd hi]
    simp only [Oper.uponIn]
    exact hK' _ _ h

/-- one for each feature of a set -/
def cwM (V : List Int) : Nat → Int := fun j => if (j : Int) ∈ V then 1 else 0
theorem cwM_bound (V : List Int) : ∀ j, -2147483648 ≤ cwM V j ∧ cwM V j ≤ 2147483648 := fun j => by unfold cwM; split <;> omega
/-- the variables of Between -/
structure BtSt (ys : List F24) (w0 W : World) : Prop where
  r : Box2 W w0.heap.size (.int .u32 0) (.string ⟨#[]⟩)
  c : ∀ j, j < 24 → W.cell? ⟨w0.heap.size + 1, j, none⟩ = some (.int .i64 (cwM (fints ys) j))
  z : ∀ j, j < 24 → W.frozen? ⟨w0.heap.size + 1, j, none⟩ = false
  bel : Below w0.heap.size w0 W
theorem BtSt.lt {ys : List F24} {w0 W : World} (h : BtSt ys w0 W) : w0.heap.size + 1 < W.heap.size := lt_of_cell (h.c 0 (by omega))
theorem Box2.keptG {W W' : World} {row : Option Nat} {g : Nat} {a b : Value} (h : Box2 W g a b) (hg : W.grownBy W' row) (hrow : ∀ r, row = some r → ∃ o : Obj, W.heap[r]? = some o ∧ o.isCells = false) : Box2 W' g a b := by
  obtain ⟨o, ho, hc⟩ := cells_of_cell h.c0
  have e := grownBy_keeps_cells hg hrow ho hc
  exact ⟨(World.cell?_of_block (a := ⟨g, 0, none⟩) e).trans h.c0, (World.cell?_of_block (a := ⟨g, 1, none⟩) e).trans h.c1, fun o => (World.frozen?_of_block (a := ⟨g, o, none⟩) e).trans (h.fz o)⟩
theorem BtSt.own (B' : Nat) (w0 : World) (hB : w0.heap.size ≤ B') : OwnFrom B' (fun pre W => BtSt pre w0 W) := by
  intro s W W' row hs hg hr
  have hrow := fun r e => (hr r e).2
  exact ⟨hs.r.keptG hg hrow, fun j hj => cell_kept (hs.c j hj) hg hrow, fun j hj => (frozen_kept (hs.c j hj) hg hrow).trans (hs.z j hj),
    ownFrom_below (β := List F24) (Nat.le_refl _) hB s W W' row hs.bel hg hr⟩
theorem BtSt.kept {ys : List F24} {w0 W W' : World} (h : BtSt ys w0 W) (fr : Fr nob W W') : BtSt ys w0 W' :=
  ⟨h.r.kept fr (fun h => h), fun j hj => fr.cell (h.c j hj) (fun h => h), fun j hj => (fr.frozen (p := ⟨w0.heap.size + 1, j, none⟩) h.lt (fun h => h)).trans (h.z j hj), h.bel.trans ((fr.to_below (Nat.le_refl _) (fun _ h => h.elim)).mono (by have := h.lt; omega))⟩
theorem BtSt.store {ys : List F24} {w0 W : World} (h : BtSt ys w0 W) (y : F24) : BtSt (ys ++ [y]) w0 (W.setCell ⟨w0.heap.size + 1, y.val, none⟩ (.int .i64 1)) := by
  have fs := fr_store W (w0.heap.size + 1) y.val (.int .i64 1)
  have hn : ¬ w0.heap.size = w0.heap.size + 1 := by omega
  refine ⟨h.r.kept fs hn, fun j hj => ?_, fun j hj => by rw [World.frozen?_setCell]; exact h.z j hj, h.bel.trans (fs.to_below (by have := h.lt; omega) (fun k hk => by have e : k = w0.heap.size + 1 := hk; omega))⟩
  by_cases e : j = y.val
  · subst e
    rw [World.cell?_setCell_same' _ _ _ (by rw [h.c _ y.isLt]; rfl)]
    unfold cwM
    rw [if_pos (by rw [fints_snoc]; simp)]
  · rw [World.cell?_setCell_other _ _ _ _ (by simp only [ne_eq, Addr.mk.injEq, true_and, and_true]; omega), h.c j hj]
    unfold cwM
    rw [fints_snoc]
    simp only [List.mem_append, List.mem_singleton]
    have e2 : ¬ ((j : Int) = ((y.val : Nat) : Int)) := by omega
    simp only [e2, or_false]
theorem BtSt.range {ys : List F24} {w0 W : World} (h : BtSt ys w0 W) : W.rangeAt (w0.heap.size + 1) 0 [.int .i64 (cwM (fints ys) 0), .int .i64 (cwM (fints ys) 1), .int .i64 (cwM (fints ys) 2), .int .i64 (cwM (fints ys) 3), .int .i64 (cwM (fints ys) 4), .int .i64 (cwM (fints ys) 5), .int .i64 (cwM (fints ys) 6), .int .i64 (cwM (fints ys) 7), .int .i64 (cwM (fints ys) 8), .int .i64 (cwM (fints ys) 9), .int .i64 (cwM (fints ys) 10), .int .i64 (cwM (fints ys) 11), .int .i64 (cwM (fints ys) 12), .int .i64 (cwM (fints ys) 13), .int .i64 (cwM (fints ys) 14), .int .i64 (cwM (fints ys) 15), .int .i64 (cwM (fints ys) 16), .int .i64 (cwM (fints ys) 17), .int .i64 (cwM (fints ys) 18), .int .i64 (cwM (fints ys) 19), .int .i64 (cwM (fints ys) 20), .int .i64 (cwM (fints ys) 21), .int .i64 (cwM (fints ys) 22), .int .i64 (cwM (fints ys) 23)] := by
  intro j u hu
  have hj : j < 24 := by have := (List.getElem?_eq_some_iff.1 hu).1; simpa using this
  rw [Nat.zero_add, h.c j hj, ← hu]
  have key : ∀ (f : Nat → Int) (j : Nat), j < 24 → some (Value.int .i64 (f j)) = [Value.int .i64 (f 0), Value.int .i64 (f 1), Value.int .i64 (f 2), Value.int .i64 (f 3), Value.int .i64 (f 4), Value.int .i64 (f 5), Value.int .i64 (f 6), Value.int .i64 (f 7), Value.int .i64 (f 8), Value.int .i64 (f 9), Value.int .i64 (f 10), Value.int .i64 (f 11), Value.int .i64 (f 12), Value.int .i64 (f 13), Value.int .i64 (f 14), Value.int .i64 (f 15), Value.int .i64 (f 16), Value.int .i64 (f 17), Value.int .i64 (f 18), Value.int .i64 (f 19), Value.int .i64 (f 20), Value.int .i64 (f 21), Value.int .i64 (f 22), Value.int .i64 (f 23)][j]? := by
    intro f j hj
    match j, hj with
    | 0, _ => rfl
    | 1, _ => rfl
    | 2, _ => rfl
    | 3, _ => rfl
    | 4, _ => rfl
    | 5, _ => rfl
    | 6, _ => rfl
    | 7, _ => rfl
    | 8, _ => rfl
    | 9, _ => rfl
    | 10, _ => rfl
    | 11, _ => rfl
    | 12, _ => rfl
    | 13, _ => rfl
    | 14, _ => rfl
    | 15, _ => rfl
    | 16, _ => rfl
    | 17, _ => rfl
    | 18, _ => rfl
    | 19, _ => rfl
    | 20, _ => rfl
    | 21, _ => rfl
    | 22, _ => rfl
    | 23, _ => rfl
    | n + 24, h => omega
  exact key _ j hj

set_option maxRecDepth 100000 in
set_option maxHeartbeats 2000000 in
/-- Between, for any mask -/
theorem Between_in (n : Nat) (hn : 6 ≤ n) (lo hi : Int) (m : Nat) (hm : m < 4294967296) (w : World) (hg : 0 < w.heap.size) (hT : Tab32 w) :
    CallsIn Fence.wide n Tryz.prog 74 #[.int .u32 (m : Int), .int .i64 lo, .int .i64 hi] w fun e W' => e = .returned (dval (costB (cwM (ints (featL m))) lo hi 24 0)) ∧ Below w.heap.size w W' := by
  have h1 : 1 ≤ n := by omega
  have hro : Fence.wide.round = none := rfl
  have hfM : Fence.wide.fn 41 := trivial
  have hfC : Fence.wide.fn 113 := trivial
  have hlen : (featL m).length ≤ 24 := by unfold featL; exact Nat.le_trans (List.length_filter_le _ _) (by simp)
  have hmem := fun w => callsIn_wide (n := n - 1) |>.2 (members_any m w)
  refine callsIn_of_wp_marks Tryz.func74 rfl trivial ?_ hro
  simp only [Tryz.ntmps74, List.size_toArray, List.length_cons, List.length_nil, Nat.reduceAdd, Nat.reduceSub, Array.replicate_succ, Array.replicate_zero, List.push_toArray, List.append_toArray, List.nil_append, List.cons_append]
  gi_wp2_with (gi_at_call 41; refine (hmem _).mono ?_; rintro e w' ⟨rfl, rfl⟩)
  have S0 : BtSt [] w ((w.alloc (.cells #[.int .u32 0, .string ⟨#[]⟩] 32)).alloc (.cells #[.int .i64 0, .int .i64 0, .int .i64 0, .int .i64 0, .int .i64 0, .int .i64 0, .int .i64 0, .int .i64 0, .int .i64 0, .int .i64 0, .int .i64 0, .int .i64 0, .int .i64 0, .int .i64 0, .int .i64 0, .int .i64 0, .int .i64 0, .int .i64 0, .int .i64 0, .int .i64 0, .int .i64 0, .int .i64 0, .int .i64 0, .int .i64 0] 75)) := by
    have hb := heap_alloc_new (w.alloc (.cells #[.int .u32 0, .string ⟨#[]⟩] 32)) (.cells #[.int .i64 0, .int .i64 0, .int .i64 0, .int .i64 0, .int .i64 0, .int .i64 0, .int .i64 0, .int .i64 0, .int .i64 0, .int .i64 0, .int .i64 0, .int .i64 0, .int .i64 0, .int .i64 0, .int .i64 0, .int .i64 0, .int .i64 0, .int .i64 0, .int .i64 0, .int .i64 0, .int .i64 0, .int .i64 0, .int .i64 0, .int .i64 0] 75)
    rw [World.size_alloc] at hb
    have z24 : ∀ j, j < 24 → (#[.int .i64 0, .int .i64 0, .int .i64 0, .int .i64 0, .int .i64 0, .int .i64 0, .int .i64 0, .int .i64 0, .int .i64 0, .int .i64 0, .int .i64 0, .int .i64 0, .int .i64 0, .int .i64 0, .int .i64 0, .int .i64 0, .int .i64 0, .int .i64 0, .int .i64 0, .int .i64 0, .int .i64 0, .int .i64 0, .int .i64 0, .int .i64 0] : Array Value)[j]? = some (.int .i64 (cwM (fints []) j)) := by
      intro j hj
      have e : cwM (fints []) j = 0 := by unfold cwM fints; simp
      rw [e]
      match j, hj with
      | 0, _ => rfl
      | 1, _ => rfl
      | 2, _ => rfl
      | 3, _ => rfl
      | 4, _ => rfl
      | 5, _ => rfl
      | 6, _ => rfl
      | 7, _ => rfl
      | 8, _ => rfl
      | 9, _ => rfl
      | 10, _ => rfl
      | 11, _ => rfl
      | 12, _ => rfl
      | 13, _ => rfl
      | 14, _ => rfl
      | 15, _ => rfl
      | 16, _ => rfl
      | 17, _ => rfl
      | 18, _ => rfl
      | 19, _ => rfl
      | 20, _ => rfl
      | 21, _ => rfl
      | 22, _ => rfl
      | 23, _ => rfl
      | n + 24, h => omega
    refine ⟨(Box2.new w _ _ _).kept ((Fr.refl nob _).alloc _) (fun h => h), fun j hj => ?_, fun j hj => ?_, (((Fr.refl nob w).alloc _).alloc _).to_below (Nat.le_refl _) (fun _ h => h.elim)⟩
    · rw [cell_of_row _ (w.heap.size + 1) j _ _ (0, 0) hb]; exact z24 j hj
    · unfold World.frozen?; simp only [hb]; simp
  have hz0 : ((w.alloc (.cells #[.int .u32 0, .string ⟨#[]⟩] 32)).alloc (.cells #[.int .i64 0, .int .i64 0, .int .i64 0, .int .i64 0, .int .i64 0, .int .i64 0, .int .i64 0, .int .i64 0, .int .i64 0, .int .i64 0, .int .i64 0, .int .i64 0, .int .i64 0, .int .i64 0, .int .i64 0, .int .i64 0, .int .i64 0, .int .i64 0, .int .i64 0, .int .i64 0, .int .i64 0, .int .i64 0, .int .i64 0, .int .i64 0] 75)).heap.size = w.heap.size + 1 + 1 := by simp
  generalize (w.alloc (.cells #[.int .u32 0, .string ⟨#[]⟩] 32)).alloc (.cells #[.int .i64 0, .int .i64 0, .int .i64 0, .int .i64 0, .int .i64 0, .int .i64 0, .int .i64 0, .int .i64 0, .int .i64 0, .int .i64 0, .int .i64 0, .int .i64 0, .int .i64 0, .int .i64 0, .int .i64 0, .int .i64 0, .int .i64 0, .int .i64 0, .int .i64 0, .int .i64 0, .int .i64 0, .int .i64 0, .int .i64 0, .int .i64 0] 75) = W0 at *
  have S1 := S0.kept ((Fr.refl nob W0).alloc (.cells #[.int .u32 (m : Int)] 23))
  have hcm : (W0.alloc (.cells #[.int .u32 (m : Int)] 23)).cell? ⟨W0.heap.size, 0, none⟩ = some (.int .u32 (m : Int)) := World.cell?_alloc_at _ _ _ _ (by simp)
  have hsz : (W0.alloc (.cells #[.int .u32 (m : Int)] 23)).heap.size = W0.heap.size + 1 := by simp
  rw [hz0] at hcm
  generalize W0.alloc (.cells #[.int .u32 (m : Int)] 23) = W1 at *
  clear S0
  refine wpIn_rangeFunc_ownG hro h1 (gf := 91) (lb := #[.pointer (some ⟨w.heap.size + 1 + 1, 0, none⟩)]) rfl trivial (enters_of Tryz.func91 (by kernel_rfl) rfl)
    (mem_stops24 (n - 1) (by omega) (w.heap.size + 1 + 1) w.heap.size m hm W1 (by omega) (by omega) hg hcm (hT.below S1.bel hg)) belowK_t (belowK_b (by omega)) (Below.refl _ _) (fun _ => rfl)
    (fun pre W => BtSt pre w W) (fun _ _ _ => False)
    (BtSt.own W1.heap.size w (by omega))
    (fun _ _ _ _ _ hs _ _ => hs)
    S1
    (fun x => { tmps := #[.int .u32 (m : Int), .int .i64 lo, .int .i64 hi, undef, undef, undef, .pointer (some ⟨w.heap.size, 0, none⟩), .pointer (some ⟨w.heap.size + 1, 0, none⟩), .int .i64 ((x.val : Nat) : Int), .int .u32 (m : Int), .func (.func 91) #[] #[.pointer (some ⟨w.heap.size + 1 + 1, 0, none⟩)], .int .i64 ((x.val : Nat) : Int), undef, undef, undef, undef, undef, undef], defers := [] }) ?assign ?body ?done ?stop
  case assign =>
    intro l x W K hK
    gi_wp2
    exact hK
  case body =>
    rintro l pre x W S hlt
    have hx0 : (0 : Int) ≤ ((x.val : Nat) : Int) := by omega
    have hx1 : ((x.val : Nat) : Int) < 24 := by have := x.isLt; omega
    have S2 := S.store x
    have cx := S.c x.val x.isLt
    have fx := S.z x.val x.isLt
    have ko := KeepsOthers.setCell W ⟨w.heap.size + 1, x.val, none⟩ (.int .i64 1)
    have hb2 : Below w.heap.size W (W.setCell ⟨w.heap.size + 1, x.val, none⟩ (.int .i64 1)) := (fr_store W (w.heap.size + 1) x.val (.int .i64 1)).to_below (by have := S.lt; omega) (fun k hk => by have e : k = w.heap.size + 1 := hk; omega)
    gi_wp2_with fail
    exact ⟨ko.from _, hb2, S2⟩
  case done =>
    rintro D ys W hD hys S hK
    have hys' : fints ys = ints (featL m) := hys
    have hr := S.range
    rw [hys'] at hr
    have hi24 : (Tryz.prog.info? 75).map (·.size) = some ([.int .i64 (cwM (ints (featL m)) 0), .int .i64 (cwM (ints (featL m)) 1), .int .i64 (cwM (ints (featL m)) 2), .int .i64 (cwM (ints (featL m)) 3), .int .i64 (cwM (ints (featL m)) 4), .int .i64 (cwM (ints (featL m)) 5), .int .i64 (cwM (ints (featL m)) 6), .int .i64 (cwM (ints (featL m)) 7), .int .i64 (cwM (ints (featL m)) 8), .int .i64 (cwM (ints (featL m)) 9), .int .i64 (cwM (ints (featL m)) 10), .int .i64 (cwM (ints (featL m)) 11), .int .i64 (cwM (ints (featL m)) 12), .int .i64 (cwM (ints (featL m)) 13), .int .i64 (cwM (ints (featL m)) 14), .int .i64 (cwM (ints (featL m)) 15), .int .i64 (cwM (ints (featL m)) 16), .int .i64 (cwM (ints (featL m)) 17), .int .i64 (cwM (ints (featL m)) 18), .int .i64 (cwM (ints (featL m)) 19), .int .i64 (cwM (ints (featL m)) 20), .int .i64 (cwM (ints (featL m)) 21), .int .i64 (cwM (ints (featL m)) 22), .int .i64 (cwM (ints (featL m)) 23)] : List Value).length := info_w
    have hcost := callsIn_wide (n := n - 1) |>.2 (costing_any (lo := lo) (hi := hi) (cwM_bound (ints (featL m))) W)
    have R := S.r
    have bel := S.bel
    gi_wp2_with (first
               | (refine wpListIn_load_mid rfl 75 (.tmp 7) rfl (w.heap.size + 1) 0 rfl [.int .i64 (cwM (ints (featL m)) 0), .int .i64 (cwM (ints (featL m)) 1), .int .i64 (cwM (ints (featL m)) 2), .int .i64 (cwM (ints (featL m)) 3), .int .i64 (cwM (ints (featL m)) 4), .int .i64 (cwM (ints (featL m)) 5), .int .i64 (cwM (ints (featL m)) 6), .int .i64 (cwM (ints (featL m)) 7), .int .i64 (cwM (ints (featL m)) 8), .int .i64 (cwM (ints (featL m)) 9), .int .i64 (cwM (ints (featL m)) 10), .int .i64 (cwM (ints (featL m)) 11), .int .i64 (cwM (ints (featL m)) 12), .int .i64 (cwM (ints (featL m)) 13), .int .i64 (cwM (ints (featL m)) 14), .int .i64 (cwM (ints (featL m)) 15), .int .i64 (cwM (ints (featL m)) 16), .int .i64 (cwM (ints (featL m)) 17), .int .i64 (cwM (ints (featL m)) 18), .int .i64 (cwM (ints (featL m)) 19), .int .i64 (cwM (ints (featL m)) 20), .int .i64 (cwM (ints (featL m)) 21), .int .i64 (cwM (ints (featL m)) 22), .int .i64 (cwM (ints (featL m)) 23)] _ hr under_w rfl hi24 ?_)
               | (gi_at_call 113
                  refine hcost.mono ?_
                  rintro e W3 ⟨rfl, hb3⟩
                  have hK3 : W3.heap[D]? = some (.deferred (some [])) := (hb3.block D (Array.getElem?_eq_some_iff.1 hK).1).trans hK
                  have R3 := R.kept ((Fr.refl nob W).below hb3) (fun h => h)
                  have ⟨r0, r1, rf⟩ := R3
                  have f0 := rf 0
                  have f1 := rf 1
                  have hb := bel.trans (hb3.mono (by have := S.lt; omega))
                  clear rf hcost))
    obtain ⟨R4, pfr⟩ := R3.set (.int .u32 (place (li (costB (cwM (ints (featL m))) lo hi 24 0)) (costB (cwM (ints (featL m))) lo hi 24 0) : Int)) (.string ⟨(code (rows (li (costB (cwM (ints (featL m))) lo hi 24 0)))).toArray⟩)
    have hK2 := ((KeepsOthers.setCell W3 ⟨w.heap.size, 0, none⟩ (.int .u32 (place (li (costB (cwM (ints (featL m))) lo hi 24 0)) (costB (cwM (ints (featL m))) lo hi 24 0) : Int))).trans (KeepsOthers.setCell _ ⟨w.heap.size, 1, none⟩ (.string ⟨(code (rows (li (costB (cwM (ints (featL m))) lo hi 24 0)))).toArray⟩))).same D _ hK3 rfl
    have hb4 := hb.trans (pfr.to_below (B := w.heap.size) (by have := hb.size; omega) (fun k hk => by have e : k = w.heap.size := hk; omega))
    refine ⟨by simp, .inl ⟨_, _, rfl, run_takeDeferred hK2, ?_⟩⟩
    generalize ((W3.setCell ⟨w.heap.size, 0, none⟩ (.int .u32 (place (li (costB (cwM (ints (featL m))) lo hi 24 0)) (costB (cwM (ints (featL m))) lo hi 24 0) : Int))).setCell ⟨w.heap.size, 1, none⟩ (.string ⟨(code (rows (li (costB (cwM (ints (featL m))) lo hi 24 0)))).toArray⟩)) = W4 at *
    have hrow : ∀ r, some D = some r → ∃ o : Obj, W4.heap[r]? = some o ∧ o.isCells = false := fun r e => by cases e; exact ⟨_, hK2, rfl⟩
    have R5 := R4.keptG (grownBy_putObj' W4 D (.deferred none)) hrow
    have ⟨q0, q1, _⟩ := R5
    refine ⟨dval (costB (cwM (ints (featL m))) lo hi 24 0), by simp [results, Tryz.results74, go_sem, q0, q1], rfl, hb4.trans (belowK_b (w := w) (Nat.le_refl _) W4 D _ _ (by have := S1.bel.size; omega) hK2 rfl rfl)⟩
  case stop =>
    rintro D c pre W _ _ h _
    exact h.elim

theorem Between_any (lo hi : Int) (m : Nat) (hm : m < 4294967296) (w : World) (hg : 0 < w.heap.size) (hT : Tab32 w) :
    Calls Tryz.prog 74 #[.int .u32 (m : Int), .int .i64 lo, .int .i64 hi] w fun e W' => e = .returned (dval (costB (cwM (ints (featL m))) lo hi 24 0)) ∧ Below w.heap.size w W' :=
  callsIn_wide.1 (Between_in 6 (by omega) lo hi m hm w hg hT)
end Go.Proofs.YtalnhlebgofiiaaGreatDoor
