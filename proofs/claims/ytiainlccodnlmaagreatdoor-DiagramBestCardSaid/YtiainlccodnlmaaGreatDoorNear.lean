import Derived.Test.YtiainlccodnlmaaGreatDoorBet
import Derived.Test.YtiainlccodnlmaaGreatDoorCostB
import Derived.Sort.CutIn
namespace Go.Proofs.YtiainlccodnlmaaGreatDoor
open Go.RowKit Go.Shelf
open Bd
attribute [local go_sem] Oper.semAt_some

theorem wpListIn_store_mid {F : Fence} {n : Nat} {P : Program} {w : World} {ops : Array Oper} {rest : List Oper} {o : Oper} {a : Act} {Q : Exit → Act → World → Prop} (hgd : o.guard = none) (ty : TypeId) (x y : Operand) (ho : o.op = .store ty x y)
    (b off : Nat) (cells : Array Value) (hx : a.eval x = .pointer (some ⟨b, off, none⟩)) (hy : a.eval y = .agg cells) (ht : w.there b off cells.size) (hi : (P.info? ty).map (·.size) = some cells.size) (h1 : cells.all (·.oneCell') = true)
    (h : wpListIn F n P ops Q rest (a.put o.dst undef) (w.setCells b off cells.toList)) : wpListIn F n P ops Q (o :: rest) a w := by
  refine wpListIn_plain hgd fun K hK' => ?_
  unfold Oper.wpIn
  refine ⟨?_, ?_⟩
  · simp [Oper.about, ho]
  · rw [Oper.semAt_plain F _ _ (by rw [ho]; intro c hc'; cases hc')]
    unfold execOp
    simp only [ho, hx, hy, Instr.storeAt, Instr.sureAddr, Sem.run_bind, Sem.run_pure, Result.andThen_ok, run_storeVar_mid w b off ty cells ht hi h1]
    simp only [Oper.uponIn]
    exact hK' _ _ h

theorem frozen_setCells (b : Nat) (p : Addr) : ∀ (vs : List Value) (o : Nat) (w : World), (w.setCells b o vs).frozen? p = w.frozen? p
  | [], _, _ => rfl
  | v :: vs, o, w => by
    show ((w.setCell ⟨b, o, none⟩ v).setCells b (o + 1) vs).frozen? p = _
    rw [frozen_setCells b p vs (o + 1) _, World.frozen?_setCell]
/-- nearest: what is left out makes a difference -/
def cwN (V : List Int) : Nat → Int := fun j => if (j : Int) ∈ V then -1 else 1
theorem cwN_bound (V : List Int) : ∀ j, -2147483648 ≤ cwN V j ∧ cwN V j ≤ 2147483648 := fun j => by unfold cwN; split <;> omega
structure NrSt (A : B) (g : Nat) (ys : List F24) (w0 W : World) : Prop where
  r : Box2 W w0.heap.size (.int .u32 (place (li A) A : Int)) (.string ⟨(code (rows (li A))).toArray⟩)
  c : ∀ j, j < 24 → W.cell? ⟨g, j, none⟩ = some (.int .i64 (cwN (fints ys) j))
  z : ∀ j, j < 24 → W.frozen? ⟨g, j, none⟩ = false
  hg : w0.heap.size < g
  bel : Below w0.heap.size w0 W
theorem NrSt.lt {A : B} {g : Nat} {ys : List F24} {w0 W : World} (h : NrSt A g ys w0 W) : g < W.heap.size := lt_of_cell (h.c 0 (by omega))
theorem NrSt.own (A : B) (g : Nat) (B' : Nat) (w0 : World) (hB : w0.heap.size ≤ B') : OwnFrom B' (fun pre W => NrSt A g pre w0 W) := by
  intro s W W' row hs hg hr
  have hrow := fun r e => (hr r e).2
  exact ⟨hs.r.keptG hg hrow, fun j hj => cell_kept (hs.c j hj) hg hrow, fun j hj => (frozen_kept (hs.c j hj) hg hrow).trans (hs.z j hj), hs.hg,
    ownFrom_below (β := List F24) (Nat.le_refl _) hB s W W' row hs.bel hg hr⟩
theorem NrSt.kept {A : B} {g : Nat} {ys : List F24} {w0 W W' : World} (h : NrSt A g ys w0 W) (fr : Fr nob W W') : NrSt A g ys w0 W' :=
  ⟨h.r.kept fr (fun h => h), fun j hj => fr.cell (h.c j hj) (fun h => h), fun j hj => (fr.frozen (p := ⟨g, j, none⟩) h.lt (fun h => h)).trans (h.z j hj), h.hg, h.bel.trans ((fr.to_below (Nat.le_refl _) (fun _ h => h.elim)).mono (by have := h.lt; have := h.hg; omega))⟩
theorem NrSt.store {A : B} {g : Nat} {ys : List F24} {w0 W : World} (h : NrSt A g ys w0 W) (y : F24) : NrSt A g (ys ++ [y]) w0 (W.setCell ⟨g, y.val, none⟩ (.int .i64 (-1))) := by
  have fs := fr_store W g y.val (.int .i64 (-1))
  have hgg := h.hg
  have hn : ¬ w0.heap.size = g := by omega
  refine ⟨h.r.kept fs hn, fun j hj => ?_, fun j hj => by rw [World.frozen?_setCell]; exact h.z j hj, h.hg, h.bel.trans (fs.to_below (by have := h.lt; omega) (fun k hk => by have e : k = g := hk; omega))⟩
  by_cases e : j = y.val
  · subst e
    rw [World.cell?_setCell_same' _ _ _ (by rw [h.c _ y.isLt]; rfl)]
    unfold cwN
    rw [if_pos (by rw [fints_snoc]; simp)]
  · rw [World.cell?_setCell_other _ _ _ _ (by simp only [ne_eq, Addr.mk.injEq, true_and, and_true]; omega), h.c j hj]
    unfold cwN
    rw [fints_snoc]
    simp only [List.mem_append, List.mem_singleton]
    have e2 : ¬ ((j : Int) = ((y.val : Nat) : Int)) := by omega
    simp only [e2, or_false]
theorem NrSt.range {A : B} {g : Nat} {ys : List F24} {w0 W : World} (h : NrSt A g ys w0 W) : W.rangeAt g 0 [.int .i64 (cwN (fints ys) 0), .int .i64 (cwN (fints ys) 1), .int .i64 (cwN (fints ys) 2), .int .i64 (cwN (fints ys) 3), .int .i64 (cwN (fints ys) 4), .int .i64 (cwN (fints ys) 5), .int .i64 (cwN (fints ys) 6), .int .i64 (cwN (fints ys) 7), .int .i64 (cwN (fints ys) 8), .int .i64 (cwN (fints ys) 9), .int .i64 (cwN (fints ys) 10), .int .i64 (cwN (fints ys) 11), .int .i64 (cwN (fints ys) 12), .int .i64 (cwN (fints ys) 13), .int .i64 (cwN (fints ys) 14), .int .i64 (cwN (fints ys) 15), .int .i64 (cwN (fints ys) 16), .int .i64 (cwN (fints ys) 17), .int .i64 (cwN (fints ys) 18), .int .i64 (cwN (fints ys) 19), .int .i64 (cwN (fints ys) 20), .int .i64 (cwN (fints ys) 21), .int .i64 (cwN (fints ys) 22), .int .i64 (cwN (fints ys) 23)] := by
  intro j u hu
  have hj : j < 24 := by have := (List.getElem?_eq_some_iff.1 hu).1; simpa using this
  rw [Nat.zero_add, h.c j hj, ← hu]
  have key : ∀ (f : Nat → Int) (j : Nat), j < 24 → some (Value.int .i64 (f j)) = [Value.int .i64 (f 0), Value.int .i64 (f 1), Value.int .i64 (f 2), Value.int .i64 (f 3), Value.int .i64 (f 4), Value.int .i64 (f 5), Value.int .i64 (f 6), Value.int .i64 (f 7), Value.int .i64 (f 8), Value.int .i64 (f 9), Value.int .i64 (f 10), Value.int .i64 (f 11), Value.int .i64 (f 12), Value.int .i64 (f 13), Value.int .i64 (f 14), Value.int .i64 (f 15), Value.int .i64 (f 16), Value.int .i64 (f 17), Value.int .i64 (f 18), Value.int .i64 (f 19), Value.int .i64 (f 20), Value.int .i64 (f 21), Value.int .i64 (f 22), Value.int .i64 (f 23)][j]? := by
    intro f j hj
    match j, hj with
    | 0, _ => rfl
    | 1, _ => rfl
    | 2, _ => rfl
    | 3, _ => rfl
    | 4, _ => rfl
    | 5, _ => rfl
    | 6, _ => rfl
    | 7, _ => rfl
    | 8, _ => rfl
    | 9, _ => rfl
    | 10, _ => rfl
    | 11, _ => rfl
    | 12, _ => rfl
    | 13, _ => rfl
    | 14, _ => rfl
    | 15, _ => rfl
    | 16, _ => rfl
    | 17, _ => rfl
    | 18, _ => rfl
    | 19, _ => rfl
    | 20, _ => rfl
    | 21, _ => rfl
    | 22, _ => rfl
    | 23, _ => rfl
    | n + 24, h => omega
  exact key _ j hj

set_option maxRecDepth 100000 in
set_option maxHeartbeats 2000000 in
theorem Nearest_in (n : Nat) (hn : 6 ≤ n) (A : B) (hA : A.ok 0) (m : Nat) (hm : m < 4294967296) (w : World) (hg : 0 < w.heap.size) (hT : Tab32 w) :
    CallsIn Fence.wide n Tryz.prog 13 #[dval A, .int .u32 (m : Int)] w fun e W' => e = .returned (.tuple #[.int .u32 (bstN (cwN (ints (featL m))) A : Int), .bool (!decide (A = .F))]) ∧ Below w.heap.size w W' := by
  have h1 : 1 ≤ n := by omega
  have hro : Fence.wide.round = none := rfl
  have hfM : Fence.wide.fn 41 := trivial
  have hfL : Fence.wide.fn 40 := trivial
  have hfB : Fence.wide.fn 38 := trivial
  have hlen : (featL m).length ≤ 24 := by unfold featL; exact Nat.le_trans (List.length_filter_le _ _) (by simp)
  have hal := fun w => callsIn_wide (n := n - 1) |>.2 (alike_any w)
  have hmem := fun w => callsIn_wide (n := n - 1) |>.2 (members_any m w)
  have D0 := Box2.new w (.int .u32 (place (li A) A : Int)) (.string ⟨(code (rows (li A))).toArray⟩) 32
  have fr : Fr nob w (w.alloc (.cells #[.int .u32 (place (li A) A : Int), .string ⟨(code (rows (li A))).toArray⟩] 32)) := (Fr.refl nob w).alloc _
  refine callsIn_of_wp_marks Tryz.func13 rfl trivial ?_ hro
  simp only [Tryz.ntmps13, List.size_toArray, List.length_cons, List.length_nil, Nat.reduceAdd, Nat.reduceSub, Array.replicate_succ, Array.replicate_zero, List.push_toArray, List.append_toArray, List.nil_append, List.cons_append]
  gi_upto_region 1 with fail
  generalize w.alloc (.cells #[.int .u32 (place (li A) A : Int), .string ⟨(code (rows (li A))).toArray⟩] 32) = W0 at *
  gi_step
  gi_step
  gi_step
  refine (hal W0).mono ?_
  rintro e w1 ⟨rfl, hb1⟩
  dsimp only
  rename_i hk1
  refine hk1 _ _ ?_
  gi_step
  gi_step
  gi_step
  have HT := Lib.hid (show (w1.alloc (.cells #[.int .i64 0, .int .i64 0, .int .i64 0, .int .i64 0, .int .i64 0, .int .i64 0, .int .i64 0, .int .i64 0, .int .i64 0, .int .i64 0, .int .i64 0, .int .i64 0, .int .i64 0, .int .i64 0, .int .i64 0, .int .i64 0, .int .i64 0, .int .i64 0, .int .i64 0, .int .i64 0, .int .i64 0, .int .i64 0, .int .i64 0, .int .i64 0] 75)).there w1.heap.size 0 (#[.int .i64 1, .int .i64 1, .int .i64 1, .int .i64 1, .int .i64 1, .int .i64 1, .int .i64 1, .int .i64 1, .int .i64 1, .int .i64 1, .int .i64 1, .int .i64 1, .int .i64 1, .int .i64 1, .int .i64 1, .int .i64 1, .int .i64 1, .int .i64 1, .int .i64 1, .int .i64 1, .int .i64 1, .int .i64 1, .int .i64 1, .int .i64 1] : Array Value).size from there_new w1 #[.int .i64 0, .int .i64 0, .int .i64 0, .int .i64 0, .int .i64 0, .int .i64 0, .int .i64 0, .int .i64 0, .int .i64 0, .int .i64 0, .int .i64 0, .int .i64 0, .int .i64 0, .int .i64 0, .int .i64 0, .int .i64 0, .int .i64 0, .int .i64 0, .int .i64 0, .int .i64 0, .int .i64 0, .int .i64 0, .int .i64 0, .int .i64 0] 75)
  have HI' := Lib.hid (show (Tryz.prog.info? 75).map (·.size) = some (#[.int .i64 1, .int .i64 1, .int .i64 1, .int .i64 1, .int .i64 1, .int .i64 1, .int .i64 1, .int .i64 1, .int .i64 1, .int .i64 1, .int .i64 1, .int .i64 1, .int .i64 1, .int .i64 1, .int .i64 1, .int .i64 1, .int .i64 1, .int .i64 1, .int .i64 1, .int .i64 1, .int .i64 1, .int .i64 1, .int .i64 1, .int .i64 1] : Array Value).size from info_w)
  refine wpListIn_store_mid rfl 75 (.tmp 6) (.tmp 8) rfl w1.heap.size 0 #[.int .i64 1, .int .i64 1, .int .i64 1, .int .i64 1, .int .i64 1, .int .i64 1, .int .i64 1, .int .i64 1, .int .i64 1, .int .i64 1, .int .i64 1, .int .i64 1, .int .i64 1, .int .i64 1, .int .i64 1, .int .i64 1, .int .i64 1, .int .i64 1, .int .i64 1, .int .i64 1, .int .i64 1, .int .i64 1, .int .i64 1, .int .i64 1] rfl rfl HT.out HI'.out (by simp [Value.oneCell']) ?_
  simp only [Act.put]
  have g1 := (Fr.refl nob W0).below hb1
  have F2 : Fr nob w1 ((w1.alloc (.cells #[.int .i64 0, .int .i64 0, .int .i64 0, .int .i64 0, .int .i64 0, .int .i64 0, .int .i64 0, .int .i64 0, .int .i64 0, .int .i64 0, .int .i64 0, .int .i64 0, .int .i64 0, .int .i64 0, .int .i64 0, .int .i64 0, .int .i64 0, .int .i64 0, .int .i64 0, .int .i64 0, .int .i64 0, .int .i64 0, .int .i64 0, .int .i64 0] 75)).setCells w1.heap.size 0 [.int .i64 1, .int .i64 1, .int .i64 1, .int .i64 1, .int .i64 1, .int .i64 1, .int .i64 1, .int .i64 1, .int .i64 1, .int .i64 1, .int .i64 1, .int .i64 1, .int .i64 1, .int .i64 1, .int .i64 1, .int .i64 1, .int .i64 1, .int .i64 1, .int .i64 1, .int .i64 1, .int .i64 1, .int .i64 1, .int .i64 1, .int .i64 1]) := ((Fr.refl nob w1).alloc _).trans (fr_setCells w1.heap.size [.int .i64 1, .int .i64 1, .int .i64 1, .int .i64 1, .int .i64 1, .int .i64 1, .int .i64 1, .int .i64 1, .int .i64 1, .int .i64 1, .int .i64 1, .int .i64 1, .int .i64 1, .int .i64 1, .int .i64 1, .int .i64 1, .int .i64 1, .int .i64 1, .int .i64 1, .int .i64 1, .int .i64 1, .int .i64 1, .int .i64 1, .int .i64 1] 0 _) (fun j hj e => by exfalso; omega)
  have l0 : w.heap.size < w1.heap.size := (D0.kept g1 (fun h => h)).lt
  have S0 : NrSt A w1.heap.size [] w ((w1.alloc (.cells #[.int .i64 0, .int .i64 0, .int .i64 0, .int .i64 0, .int .i64 0, .int .i64 0, .int .i64 0, .int .i64 0, .int .i64 0, .int .i64 0, .int .i64 0, .int .i64 0, .int .i64 0, .int .i64 0, .int .i64 0, .int .i64 0, .int .i64 0, .int .i64 0, .int .i64 0, .int .i64 0, .int .i64 0, .int .i64 0, .int .i64 0, .int .i64 0] 75)).setCells w1.heap.size 0 [.int .i64 1, .int .i64 1, .int .i64 1, .int .i64 1, .int .i64 1, .int .i64 1, .int .i64 1, .int .i64 1, .int .i64 1, .int .i64 1, .int .i64 1, .int .i64 1, .int .i64 1, .int .i64 1, .int .i64 1, .int .i64 1, .int .i64 1, .int .i64 1, .int .i64 1, .int .i64 1, .int .i64 1, .int .i64 1, .int .i64 1, .int .i64 1]) := by
    have hr := World.rangeAt_setCells_same (w1.alloc (.cells #[.int .i64 0, .int .i64 0, .int .i64 0, .int .i64 0, .int .i64 0, .int .i64 0, .int .i64 0, .int .i64 0, .int .i64 0, .int .i64 0, .int .i64 0, .int .i64 0, .int .i64 0, .int .i64 0, .int .i64 0, .int .i64 0, .int .i64 0, .int .i64 0, .int .i64 0, .int .i64 0, .int .i64 0, .int .i64 0, .int .i64 0, .int .i64 0] 75)) w1.heap.size 0 [.int .i64 1, .int .i64 1, .int .i64 1, .int .i64 1, .int .i64 1, .int .i64 1, .int .i64 1, .int .i64 1, .int .i64 1, .int .i64 1, .int .i64 1, .int .i64 1, .int .i64 1, .int .i64 1, .int .i64 1, .int .i64 1, .int .i64 1, .int .i64 1, .int .i64 1, .int .i64 1, .int .i64 1, .int .i64 1, .int .i64 1, .int .i64 1] HT.out
    refine ⟨(D0.kept g1 (fun h => h)).kept F2 (fun h => h), fun j hj => ?_, fun j hj => ?_, l0, ((fr.trans g1 (fun _ _ h => h)).trans F2 (fun _ _ h => h)).to_below (Nat.le_refl _) (fun _ h => h.elim)⟩
    · have e : cwN (fints []) j = 1 := by unfold cwN fints; simp
      rw [e]
      have := hr j (.int .i64 1) (by
        match j, hj with
        | 0, _ => rfl
        | 1, _ => rfl
        | 2, _ => rfl
        | 3, _ => rfl
        | 4, _ => rfl
        | 5, _ => rfl
        | 6, _ => rfl
        | 7, _ => rfl
        | 8, _ => rfl
        | 9, _ => rfl
        | 10, _ => rfl
        | 11, _ => rfl
        | 12, _ => rfl
        | 13, _ => rfl
        | 14, _ => rfl
        | 15, _ => rfl
        | 16, _ => rfl
        | 17, _ => rfl
        | 18, _ => rfl
        | 19, _ => rfl
        | 20, _ => rfl
        | 21, _ => rfl
        | 22, _ => rfl
        | 23, _ => rfl
        | n + 24, h => omega)
      rwa [Nat.zero_add] at this
    · have h2 := (HT.out j hj).2
      rw [Nat.zero_add] at h2
      rw [frozen_setCells]; exact h2
  generalize (w1.alloc (.cells #[.int .i64 0, .int .i64 0, .int .i64 0, .int .i64 0, .int .i64 0, .int .i64 0, .int .i64 0, .int .i64 0, .int .i64 0, .int .i64 0, .int .i64 0, .int .i64 0, .int .i64 0, .int .i64 0, .int .i64 0, .int .i64 0, .int .i64 0, .int .i64 0, .int .i64 0, .int .i64 0, .int .i64 0, .int .i64 0, .int .i64 0, .int .i64 0] 75)).setCells w1.heap.size 0 [.int .i64 1, .int .i64 1, .int .i64 1, .int .i64 1, .int .i64 1, .int .i64 1, .int .i64 1, .int .i64 1, .int .i64 1, .int .i64 1, .int .i64 1, .int .i64 1, .int .i64 1, .int .i64 1, .int .i64 1, .int .i64 1, .int .i64 1, .int .i64 1, .int .i64 1, .int .i64 1, .int .i64 1, .int .i64 1, .int .i64 1, .int .i64 1] = W2 at *
  clear HT HI' g1 F2 D0 fr hb1 hal
  gi_wp2_with (gi_at_call 41; refine (hmem _).mono ?_; rintro e w' ⟨rfl, rfl⟩)
  have S1 := S0.kept ((Fr.refl nob W2).alloc (.cells #[.int .u32 (m : Int)] 23))
  have hcm : (W2.alloc (.cells #[.int .u32 (m : Int)] 23)).cell? ⟨W2.heap.size, 0, none⟩ = some (.int .u32 (m : Int)) := World.cell?_alloc_at _ _ _ _ (by simp)
  have hsz : (W2.alloc (.cells #[.int .u32 (m : Int)] 23)).heap.size = W2.heap.size + 1 := by simp
  have l1 := S0.lt
  generalize hq : W2.heap.size = q at *
  generalize W2.alloc (.cells #[.int .u32 (m : Int)] 23) = W1 at *
  clear S0
  generalize hgg : w1.heap.size = g at *
  refine wpIn_rangeFunc_ownG hro h1 (gf := 91) (lb := #[.pointer (some ⟨q, 0, none⟩)]) rfl trivial (enters_of Tryz.func91 (by kernel_rfl) rfl)
    (mem_stops24 (n - 1) (by omega) q w.heap.size m hm W1 (by omega) (by omega) hg hcm (hT.below S1.bel hg)) belowK_t (belowK_b (by omega)) (Below.refl _ _) (fun _ => rfl)
    (fun pre W => NrSt A g pre w W) (fun _ _ _ => False)
    (NrSt.own A g W1.heap.size w (by omega))
    (fun _ _ _ _ _ hs _ _ => hs)
    S1
    (fun x => { tmps := #[dval A, .int .u32 (m : Int), .pointer (some ⟨w.heap.size, 0, none⟩), undef, .int .u32 0, .bool false, .pointer (some ⟨g, 0, none⟩), .int .i64 ((x.val : Nat) : Int), .agg #[.int .i64 1, .int .i64 1, .int .i64 1, .int .i64 1, .int .i64 1, .int .i64 1, .int .i64 1, .int .i64 1, .int .i64 1, .int .i64 1, .int .i64 1, .int .i64 1, .int .i64 1, .int .i64 1, .int .i64 1, .int .i64 1, .int .i64 1, .int .i64 1, .int .i64 1, .int .i64 1, .int .i64 1, .int .i64 1, .int .i64 1, .int .i64 1], .int .u32 (m : Int), .func (.func 91) #[] #[.pointer (some ⟨q, 0, none⟩)], .int .i64 ((x.val : Nat) : Int), undef, undef, undef, undef, undef, undef, undef], defers := [] }) ?assign ?body ?done ?stop
  case assign =>
    intro l x W K hK
    gi_wp2
    exact hK
  case body =>
    rintro l pre x W S hlt
    have hx0 : (0 : Int) ≤ ((x.val : Nat) : Int) := by omega
    have hx1 : ((x.val : Nat) : Int) < 24 := by have := x.isLt; omega
    have S2 := S.store x
    have cx := S.c x.val x.isLt
    have fx := S.z x.val x.isLt
    have ko := KeepsOthers.setCell W ⟨g, x.val, none⟩ (.int .i64 (-1))
    have hb2 : Below w.heap.size W (W.setCell ⟨g, x.val, none⟩ (.int .i64 (-1))) := (fr_store W g x.val (.int .i64 (-1))).to_below (by have := S.lt; omega) (fun k hk => by have e : k = g := hk; omega)
    gi_wp2_with fail
    exact ⟨ko.from _, hb2, S2⟩
  case done =>
    rintro D ys W hD hys S hK
    have hys' : fints ys = ints (featL m) := hys
    have hr := S.range
    rw [hys'] at hr
    have hi24 : (Tryz.prog.info? 75).map (·.size) = some ([.int .i64 (cwN (ints (featL m)) 0), .int .i64 (cwN (ints (featL m)) 1), .int .i64 (cwN (ints (featL m)) 2), .int .i64 (cwN (ints (featL m)) 3), .int .i64 (cwN (ints (featL m)) 4), .int .i64 (cwN (ints (featL m)) 5), .int .i64 (cwN (ints (featL m)) 6), .int .i64 (cwN (ints (featL m)) 7), .int .i64 (cwN (ints (featL m)) 8), .int .i64 (cwN (ints (featL m)) 9), .int .i64 (cwN (ints (featL m)) 10), .int .i64 (cwN (ints (featL m)) 11), .int .i64 (cwN (ints (featL m)) 12), .int .i64 (cwN (ints (featL m)) 13), .int .i64 (cwN (ints (featL m)) 14), .int .i64 (cwN (ints (featL m)) 15), .int .i64 (cwN (ints (featL m)) 16), .int .i64 (cwN (ints (featL m)) 17), .int .i64 (cwN (ints (featL m)) 18), .int .i64 (cwN (ints (featL m)) 19), .int .i64 (cwN (ints (featL m)) 20), .int .i64 (cwN (ints (featL m)) 21), .int .i64 (cwN (ints (featL m)) 22), .int .i64 (cwN (ints (featL m)) 23)] : List Value).length := info_w
    have hbst := callsIn_wide (n := n - 1) |>.2 (bst_any A hA (cwN (ints (featL m))) (cwN_bound _) W)
    have R := S.r
    have bel := S.bel
    have ⟨r0, r1, rf⟩ := R
    have f0 := rf 0
    have f1 := rf 1
    gi_wp2_with (first
               | (refine wpListIn_load_mid rfl 75 (.tmp 6) rfl g 0 rfl [.int .i64 (cwN (ints (featL m)) 0), .int .i64 (cwN (ints (featL m)) 1), .int .i64 (cwN (ints (featL m)) 2), .int .i64 (cwN (ints (featL m)) 3), .int .i64 (cwN (ints (featL m)) 4), .int .i64 (cwN (ints (featL m)) 5), .int .i64 (cwN (ints (featL m)) 6), .int .i64 (cwN (ints (featL m)) 7), .int .i64 (cwN (ints (featL m)) 8), .int .i64 (cwN (ints (featL m)) 9), .int .i64 (cwN (ints (featL m)) 10), .int .i64 (cwN (ints (featL m)) 11), .int .i64 (cwN (ints (featL m)) 12), .int .i64 (cwN (ints (featL m)) 13), .int .i64 (cwN (ints (featL m)) 14), .int .i64 (cwN (ints (featL m)) 15), .int .i64 (cwN (ints (featL m)) 16), .int .i64 (cwN (ints (featL m)) 17), .int .i64 (cwN (ints (featL m)) 18), .int .i64 (cwN (ints (featL m)) 19), .int .i64 (cwN (ints (featL m)) 20), .int .i64 (cwN (ints (featL m)) 21), .int .i64 (cwN (ints (featL m)) 22), .int .i64 (cwN (ints (featL m)) 23)] _ hr under_w rfl hi24 ?_)
               | (gi_at_call 38
                  refine hbst.mono ?_
                  rintro e W3 ⟨rfl, hb3⟩
                  have hK3 : W3.heap[D]? = some (.deferred (some [])) := (hb3.block D (Array.getElem?_eq_some_iff.1 hK).1).trans hK
                  have hb := bel.trans (hb3.mono (by have := S.lt; omega))))
    refine ⟨by simp, .inl ⟨_, _, rfl, run_takeDeferred hK3, ?_⟩⟩
    refine ⟨.tuple #[.int .u32 (bstN (cwN (ints (featL m))) A : Int), .bool (!decide (A = .F))], by simp [results, Tryz.results13, go_sem], rfl, hb.trans (belowK_b (w := w) (Nat.le_refl _) W3 D _ _ (by have := S1.bel.size; omega) hK3 rfl rfl)⟩
  case stop =>
    rintro D c pre W _ _ h _
    exact h.elim

theorem Nearest_any (A : B) (hA : A.ok 0) (m : Nat) (hm : m < 4294967296) (w : World) (hg : 0 < w.heap.size) (hT : Tab32 w) :
    Calls Tryz.prog 13 #[dval A, .int .u32 (m : Int)] w fun e W' => e = .returned (.tuple #[.int .u32 (bstN (cwN (ints (featL m))) A : Int), .bool (!decide (A = .F))]) ∧ Below w.heap.size w W' :=
  callsIn_wide.1 (Nearest_in 6 (by omega) A hA m hm w hg hT)
end Go.Proofs.YtiainlccodnlmaaGreatDoor
