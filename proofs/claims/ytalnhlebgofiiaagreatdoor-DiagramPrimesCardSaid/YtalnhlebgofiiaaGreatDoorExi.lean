import Derived.RangeFuncWrites
import Derived.Test.YtalnhlebgofiiaaGreatDoorMem
import Derived.Test.YtalnhlebgofiiaaGreatDoorRuleI
import Derived.Test.YtalnhlebgofiiaaGreatDoorWith
import Derived.Test.YtalnhlebgofiiaaGreatDoorOps
import Derived.Test.YtalnhlebgofiiaaGreatDoorFoldU
namespace Go.Proofs.YtalnhlebgofiiaaGreatDoor
open Go.RowKit Go.Shelf
open Bd
attribute [local go_sem] Oper.semAt_some
namespace Bd
noncomputable def exStep (x : B) (i : Int) : B := ite (withI x i false) .T (withI x i true)
noncomputable def exL (V : List Int) (A : B) : B := V.foldl exStep A
theorem exL_nil (A : B) : exL [] A = A := rfl
theorem exL_snoc (V : List Int) (i : Int) (A : B) : exL (V ++ [i]) A = exStep (exL V A) i := by simp [exL, List.foldl_append]
theorem ok_exStep (x : B) (i : Int) : (exStep x i).ok 0 := ok_ite0 _ _ _
theorem ok_exL {A : B} (hA : A.ok 0) : ∀ V : List Int, (exL V A).ok 0 := by
  intro V
  induction V generalizing A with
  | nil => exact hA
  | cons i V ih => exact ih (ok_exStep A i)
end Bd

/-- the variables of Exists -/
structure ExSt (x : B) (w0 W : World) : Prop where
  a0 : W.cell? ⟨w0.heap.size, 0, none⟩ = some (.int .u32 (place (li x) x : Int))
  a1 : W.cell? ⟨w0.heap.size, 1, none⟩ = some (.string ⟨(code (rows (li x))).toArray⟩)
  r0 : W.cell? ⟨w0.heap.size + 1, 0, none⟩ = some (.int .u32 0)
  r1 : W.cell? ⟨w0.heap.size + 1, 1, none⟩ = some (.string ⟨#[]⟩)
  fa0 : W.frozen? ⟨w0.heap.size, 0, none⟩ = false
  fa1 : W.frozen? ⟨w0.heap.size, 1, none⟩ = false
  fr0 : W.frozen? ⟨w0.heap.size + 1, 0, none⟩ = false
  fr1 : W.frozen? ⟨w0.heap.size + 1, 1, none⟩ = false
  bel : Below w0.heap.size w0 W
theorem ExSt.own (f : List Int → B) (B' : Nat) (w0 : World) (hB : w0.heap.size ≤ B') : OwnFrom B' (fun pre W => ExSt (f pre) w0 W) := by
  intro s W W' row hs hg hr
  have hrow := fun r e => (hr r e).2
  exact ⟨cell_kept hs.a0 hg hrow, cell_kept hs.a1 hg hrow, cell_kept hs.r0 hg hrow, cell_kept hs.r1 hg hrow, (frozen_kept hs.a0 hg hrow).trans hs.fa0, (frozen_kept hs.a1 hg hrow).trans hs.fa1, (frozen_kept hs.r0 hg hrow).trans hs.fr0, (frozen_kept hs.r1 hg hrow).trans hs.fr1,
    ownFrom_below (β := List Int) (Nat.le_refl _) hB s W W' row hs.bel hg hr⟩
theorem ExSt.kept {x : B} {w0 W W' : World} (h : ExSt x w0 W) (fr : Fr nob W W') : ExSt x w0 W' := by
  have l0 : w0.heap.size < W.heap.size := lt_of_cell h.a0
  have l1 : w0.heap.size + 1 < W.heap.size := lt_of_cell h.r0
  have c : ∀ {p : Addr} {v : Value}, W.cell? p = some v → _ := fun h => fr.cell h (fun h => h)
  have f : ∀ (b o : Nat), b < W.heap.size → W'.frozen? ⟨b, o, none⟩ = W.frozen? ⟨b, o, none⟩ := fun b o l => fr.frozen (p := ⟨b, o, none⟩) l (fun h => h)
  exact ⟨c h.a0, c h.a1, c h.r0, c h.r1, (f _ _ l0).trans h.fa0, (f _ _ l0).trans h.fa1, (f _ _ l1).trans h.fr0, (f _ _ l1).trans h.fr1, h.bel.trans ((fr.to_below (Nat.le_refl _) (fun _ h => h.elim)).mono (Nat.le_of_lt l0))⟩
/-- a set is written into the variable -/
abbrev put2 (w : World) (g : Nat) (u v : Value) : World := (w.setCell ⟨g, 0, none⟩ u).setCell ⟨g, 1, none⟩ v
theorem put2_facts {w : World} {g : Nat} {va vb : Value} (u v : Value) (h0 : w.cell? ⟨g, 0, none⟩ = some va) (h1 : w.cell? ⟨g, 1, none⟩ = some vb) :
    (put2 w g u v).cell? ⟨g, 0, none⟩ = some u ∧ (put2 w g u v).cell? ⟨g, 1, none⟩ = some v ∧ Fr (fun k => k = g) w (put2 w g u v) ∧ ∀ p, (put2 w g u v).frozen? p = w.frozen? p := by
  have e1 : (w.setCell ⟨g, 0, none⟩ u).cell? ⟨g, 1, none⟩ = some vb := by rw [World.cell?_setCell_other _ _ _ _ (by simp)]; exact h1
  refine ⟨?_, World.cell?_setCell_same' _ _ _ (by rw [e1]; rfl), (fr_store w g 0 u).trans (fr_store _ g 1 v) (fun _ _ h => h), fun p => by rw [World.frozen?_setCell, World.frozen?_setCell]⟩
  rw [World.cell?_setCell_other _ _ _ _ (by simp)]
  exact World.cell?_setCell_same' _ _ _ (by rw [h0]; rfl)
theorem ExSt.store {x : B} (y : B) {w0 W : World} (h : ExSt x w0 W) : ExSt y w0 (put2 W w0.heap.size (.int .u32 (place (li y) y : Int)) (.string ⟨(code (rows (li y))).toArray⟩)) := by
  obtain ⟨p0, p1, fr, pf⟩ := put2_facts (.int .u32 (place (li y) y : Int)) (.string ⟨(code (rows (li y))).toArray⟩) h.a0 h.a1
  have hn : ¬ (w0.heap.size + 1 = w0.heap.size) := by omega
  exact ⟨p0, p1, fr.cell h.r0 hn, fr.cell h.r1 hn, (pf _).trans h.fa0, (pf _).trans h.fa1, (pf _).trans h.fr0, (pf _).trans h.fr1, h.bel.trans (fr.to_below (Nat.le_of_lt (lt_of_cell h.a0)) (fun k hk => by omega))⟩
theorem keepsOthers_of_fr {W W' : World} (fr : Fr nob W W') : KeepsOthers W W' := ⟨fr.size, fun k _ hk _ => (fr.block k (Array.getElem?_eq_some_iff.1 hk).1 (fun h => h)).trans hk⟩

set_option maxRecDepth 100000 in
set_option maxHeartbeats 2000000 in
/-- Exists, for any mask -/
theorem Exists_in (n : Nat) (hn : 6 ≤ n) (A : B) (hA : A.ok 0) (m : Nat) (hm : m < 4294967296) (w : World) (hg : 0 < w.heap.size) (hT : Tab32 w) :
    CallsIn Fence.wide n Tryz.prog 72 #[dval A, .int .u32 (m : Int)] w fun e W' => e = .returned (dval (exL (ints (featL m)) A)) ∧ Below w.heap.size w W' := by
  have h1 : 1 ≤ n := by omega
  have hro : Fence.wide.round = none := rfl
  have hfM : Fence.wide.fn 41 := trivial
  have hlen : (featL m).length ≤ 24 := by unfold featL; exact Nat.le_trans (List.length_filter_le _ _) (by simp)
  have hmem := fun w => callsIn_wide (n := n - 1) |>.2 (members_any m w)
  refine callsIn_of_wp_marks Tryz.func72 rfl trivial ?_ hro
  simp only [Tryz.ntmps72, List.size_toArray, List.length_cons, List.length_nil, Nat.reduceAdd, Nat.reduceSub, Array.replicate_succ, Array.replicate_zero, List.push_toArray, List.append_toArray, List.nil_append, List.cons_append]
  gi_wp2_with (gi_at_call 41; refine (hmem _).mono ?_; rintro e w' ⟨rfl, rfl⟩)
  have S0 : ExSt A w ((w.alloc (.cells #[.int .u32 (place (li A) A : Int), .string ⟨(code (rows (li A))).toArray⟩] 32)).alloc (.cells #[.int .u32 0, .string ⟨#[]⟩] 32)) :=
    ⟨cell_alloc_l (World.cell?_alloc_at _ _ _ _ (by simp)) _, cell_alloc_l (World.cell?_alloc_at _ _ _ _ (by simp)) _, World.cell?_alloc_at _ _ _ _ (by simp), World.cell?_alloc_at _ _ _ _ (by simp),
      (World.frozen?_of_block (Below.heap_alloc _ _ _ (by simp))).trans (World.frozen?_alloc_at _ _ _ _ (by simp)), (World.frozen?_of_block (a := ⟨w.heap.size, 1, none⟩) (Below.heap_alloc _ _ _ (by simp))).trans (World.frozen?_alloc_at _ _ _ _ (by simp)), World.frozen?_alloc_at _ _ _ _ (by simp), World.frozen?_alloc_at _ _ _ _ (by simp),
      (((Fr.refl nob w).alloc _).alloc _).to_below (Nat.le_refl _) (fun _ h => h.elim)⟩
  have hz0 : ((w.alloc (.cells #[.int .u32 (place (li A) A : Int), .string ⟨(code (rows (li A))).toArray⟩] 32)).alloc (.cells #[.int .u32 0, .string ⟨#[]⟩] 32)).heap.size = w.heap.size + 1 + 1 := by simp
  generalize (w.alloc (.cells #[.int .u32 (place (li A) A : Int), .string ⟨(code (rows (li A))).toArray⟩] 32)).alloc (.cells #[.int .u32 0, .string ⟨#[]⟩] 32) = W0 at *
  have S1 := S0.kept ((Fr.refl nob W0).alloc (.cells #[.int .u32 (m : Int)] 23))
  have hcm : (W0.alloc (.cells #[.int .u32 (m : Int)] 23)).cell? ⟨W0.heap.size, 0, none⟩ = some (.int .u32 (m : Int)) := World.cell?_alloc_at _ _ _ _ (by simp)
  have hsz : (W0.alloc (.cells #[.int .u32 (m : Int)] 23)).heap.size = W0.heap.size + 1 := by simp
  rw [hz0] at hcm
  generalize W0.alloc (.cells #[.int .u32 (m : Int)] 23) = W1 at *
  clear S0
  refine wpIn_rangeFunc_ownG hro h1 (gf := 91) (lb := #[.pointer (some ⟨w.heap.size + 1 + 1, 0, none⟩)]) rfl trivial (enters_of Tryz.func91 (by kernel_rfl) rfl)
    (mem_stops (n - 1) (by omega) (w.heap.size + 1 + 1) w.heap.size m hm W1 (by omega) (by omega) hg hcm (hT.below S1.bel hg)) belowK_t (belowK_b (by omega)) (Below.refl _ _) (fun _ => rfl)
    (fun pre W => ExSt (exL pre A) w W) (fun _ _ _ => False)
    (ExSt.own (fun pre => exL pre A) W1.heap.size w (by omega))
    (fun _ _ _ _ _ hs _ _ => hs)
    S1
    (fun x => { tmps := #[dval A, .int .u32 (m : Int), .pointer (some ⟨w.heap.size, 0, none⟩), undef, .pointer (some ⟨w.heap.size + 1, 0, none⟩), .int .i64 x, .int .u32 (m : Int), .func (.func 91) #[] #[.pointer (some ⟨w.heap.size + 1 + 1, 0, none⟩)], .int .i64 x, undef, undef, undef, undef, undef, undef, undef, undef], defers := [] }) ?assign ?body ?done ?stop
  case assign =>
    intro l x W K hK
    gi_wp2
    exact hK
  case body =>
    rintro l pre x W S hlt
    have hx := ok_exL hA pre
    have e9 : exL (pre ++ [x]) A = ite (withI (exL pre A) x false) .T (withI (exL pre A) x true) := exL_snoc pre x A
    have HE := Lib.hid e9
    clear e9
    generalize exL pre A = X at *
    have wl := With_any X hx x false
    have wu := With_any X hx x true
    have ol := ok_withI hx x false
    have ou := ok_withI hx x true
    have orr := Or_any (withI X x false) (withI X x true) ol ou
    gi_wp2_with fail
    refine wpIn_region_grow 7 17 (by kernel_rfl) (by kernel_rfl) (by kernel_rfl) rfl rfl ?_
    simp only [List.take_succ_cons, List.take_zero]
    refine grow_step (v := dval X) rfl rfl ?a0 ?b0
    case a0 =>
      intro w' hw'
      have y_a0 := hw'.cell S.a0 (fun h => h)
      have y_a1 := hw'.cell S.a1 (fun h => h)
      clear hw'
      refine growAt_value ?_
      go_simp
      try rfl
    simp only [Act.put, List.setIfInBounds_toArray, List.set_cons_zero, List.set_cons_succ]
    refine grow_step (v := .int .i64 x) rfl rfl ?a1 ?b1
    case a1 =>
      intro w' hw'
      refine growAt_value ?_
      go_simp
      try rfl
    simp only [Act.put, List.setIfInBounds_toArray, List.set_cons_zero, List.set_cons_succ]
    refine grow_step (v := dval (withI X x false)) rfl rfl ?a2 ?b2
    case a2 =>
      intro w' hw'
      refine growAt_call ?_ ((wl w').mono fun e w'' ⟨he, hb⟩ => ⟨he, (Fr.refl nob _).below hb⟩)
      go_simp
    simp only [Act.put, List.setIfInBounds_toArray, List.set_cons_zero, List.set_cons_succ]
    refine grow_step (v := dval X) rfl rfl ?a3 ?b3
    case a3 =>
      intro w' hw'
      have y_a0 := hw'.cell S.a0 (fun h => h)
      have y_a1 := hw'.cell S.a1 (fun h => h)
      clear hw'
      refine growAt_value ?_
      go_simp
      try rfl
    simp only [Act.put, List.setIfInBounds_toArray, List.set_cons_zero, List.set_cons_succ]
    refine grow_step (v := .int .i64 x) rfl rfl ?a4 ?b4
    case a4 =>
      intro w' hw'
      refine growAt_value ?_
      go_simp
      try rfl
    simp only [Act.put, List.setIfInBounds_toArray, List.set_cons_zero, List.set_cons_succ]
    refine grow_step (v := dval (withI X x true)) rfl rfl ?a5 ?b5
    case a5 =>
      intro w' hw'
      refine growAt_call ?_ ((wu w').mono fun e w'' ⟨he, hb⟩ => ⟨he, (Fr.refl nob _).below hb⟩)
      go_simp
    simp only [Act.put, List.setIfInBounds_toArray, List.set_cons_zero, List.set_cons_succ]
    refine grow_step (v := dval (ite (withI X x false) .T (withI X x true))) rfl rfl ?a6 ?b6
    case a6 =>
      intro w' hw'
      refine growAt_call ?_ ((orr w').mono fun e w'' ⟨he, hb⟩ => ⟨he, (Fr.refl nob _).below hb⟩)
      go_simp
    simp only [Act.put, List.setIfInBounds_toArray, List.set_cons_zero, List.set_cons_succ]
    refine grow_nil ?_
    intro w2 fr2
    have S2 := S.kept fr2
    have ⟨a0, a1, r0, r1, fa0, fa1, f0, f1, bel⟩ := S2
    have ko := keepsOthers_of_fr fr2
    have hb2 : Below w.heap.size W w2 := (fr2.to_below (Nat.le_refl _) (fun _ h => h.elim)).mono (Nat.le_of_lt (lt_of_cell S.a0))
    clear wl wu orr fr2
    gi_wp2_with fail
    refine ⟨((ko.trans (KeepsOthers.setCell _ _ _)).trans (KeepsOthers.setCell _ _ _)).from _, hb2.trans ((put2_facts _ _ a0 a1).2.2.1.to_below (Nat.le_of_lt (lt_of_cell a0)) (fun k hk => by omega)), ?_⟩
    show ExSt (exL (pre ++ [x]) A) w _
    rw [HE.out]
    exact S2.store _
  case done =>
    rintro D ys W hD rfl S hK
    have ⟨a0, a1, r0, r1, fa0, fa1, f0, f1, bel⟩ := S
    gi_wp2_with fail
    obtain ⟨p0, p1, pfr, ppf⟩ := put2_facts (.int .u32 (place (li (exL (ints (featL m)) A)) (exL (ints (featL m)) A) : Int)) (.string ⟨(code (rows (li (exL (ints (featL m)) A)))).toArray⟩) r0 r1
    have hK2 := ((KeepsOthers.setCell W ⟨w.heap.size + 1, 0, none⟩ (.int .u32 (place (li (exL (ints (featL m)) A)) (exL (ints (featL m)) A) : Int))).trans (KeepsOthers.setCell _ ⟨w.heap.size + 1, 1, none⟩ (.string ⟨(code (rows (li (exL (ints (featL m)) A)))).toArray⟩))).same D _ hK rfl
    have hb3 := bel.trans (pfr.to_below (B := w.heap.size) (Nat.le_of_lt (lt_of_cell a0)) (fun k hk => by omega))
    refine ⟨by simp, .inl ⟨_, _, rfl, run_takeDeferred hK2, ?_⟩⟩
    unfold put2 at *
    generalize ((W.setCell ⟨w.heap.size + 1, 0, none⟩ (.int .u32 (place (li (exL (ints (featL m)) A)) (exL (ints (featL m)) A) : Int))).setCell ⟨w.heap.size + 1, 1, none⟩ (.string ⟨(code (rows (li (exL (ints (featL m)) A)))).toArray⟩)) = W2 at *
    have hrow : ∀ r, some D = some r → ∃ o : Obj, W2.heap[r]? = some o ∧ o.isCells = false := fun r e => by cases e; exact ⟨_, hK2, rfl⟩
    have q0 := cell_kept p0 (grownBy_putObj' W2 D (.deferred none)) hrow
    have q1 := cell_kept p1 (grownBy_putObj' W2 D (.deferred none)) hrow
    refine ⟨dval (exL (ints (featL m)) A), by simp [results, Tryz.results72, go_sem, q0, q1], rfl, hb3.trans (belowK_b (w := w) (Nat.le_refl _) W2 D _ _ (by have := S1.bel.size; omega) hK2 rfl rfl)⟩
  case stop =>
    rintro D c pre W _ _ h _
    exact h.elim

theorem Exists_any (A : B) (hA : A.ok 0) (m : Nat) (hm : m < 4294967296) (w : World) (hg : 0 < w.heap.size) (hT : Tab32 w) :
    Calls Tryz.prog 72 #[dval A, .int .u32 (m : Int)] w fun e W' => e = .returned (dval (exL (ints (featL m)) A)) ∧ Below w.heap.size w W' :=
  callsIn_wide.1 (Exists_in 6 (by omega) A hA m hm w hg hT)
end Go.Proofs.YtalnhlebgofiiaaGreatDoor
namespace Go.Proofs.YtalnhlebgofiiaaGreatDoor
open Go.RowKit
open Bd
/-- a list of sets, read off memory -/
def DRow (w : World) (v : Value) (L : List B) : Prop := ∃ (a : Option Addr) (cap : Nat), v = .slice a L.length cap ∧ ∀ (k : Nat) (x : B), L[k]? = some x → ∃ b, a = some ⟨b, 0, none⟩ ∧ w.cell? ⟨b, k * 2, none⟩ = some (.int .u32 (place (li x) x : Int)) ∧ w.cell? ⟨b, k * 2 + 1, none⟩ = some (.string ⟨(code (rows (li x))).toArray⟩)
theorem DRow.kept {w w' : World} {v : Value} {L : List B} (h : DRow w v L) (f : Fr nob w w') : DRow w' v L := by
  obtain ⟨a, cap, rfl, hc⟩ := h
  refine ⟨a, cap, rfl, fun k d hd => ?_⟩
  obtain ⟨b, h1, h2, h3⟩ := hc k d hd
  exact ⟨b, h1, f.cell' h2 (fun h => h), f.cell' h3 (fun h => h)⟩
theorem DRow.form {w : World} {v : Value} {L : List B} (h : DRow w v L) : ∃ a cap, v = .slice a L.length cap := by
  obtain ⟨a, cap, e, _⟩ := h; exact ⟨a, cap, e⟩
theorem DRow.at {w : World} {a : Option Addr} {n cap : Nat} {L : List B} (h : DRow w (.slice a n cap) L) {k : Nat} {x : B} (hd : L[k]? = some x) : ∃ b, a = some ⟨b, 0, none⟩ ∧ w.cell? ⟨b, k * 2, none⟩ = some (.int .u32 (place (li x) x : Int)) ∧ w.cell? ⟨b, k * 2 + 1, none⟩ = some (.string ⟨(code (rows (li x))).toArray⟩) := by
  obtain ⟨a', cap', e, hc⟩ := h
  cases e
  exact hc k x hd
namespace Bd
noncomputable def andL (L : List B) : B := L.foldl (fun x y => ite x y .F) .T
noncomputable def orL (L : List B) : B := L.foldl (fun x y => ite x .T y) .F
theorem ok_foldB {f : B → B → B} (hf : ∀ x y, (f x y).ok 0) : ∀ (L : List B) (z : B), z.ok 0 → (L.foldl f z).ok 0
  | [], _, h => h
  | y :: L, z, _ => ok_foldB hf L _ (hf z y)
theorem ok_andL (L : List B) : (andL L).ok 0 := ok_foldB (fun _ _ => ok_ite0 _ _ _) L _ trivial
theorem ok_orL (L : List B) : (orL L).ok 0 := ok_foldB (fun _ _ => ok_ite0 _ _ _) L _ trivial
theorem andL_snoc (L : List B) (y : B) : andL (L ++ [y]) = ite (andL L) y .F := by simp [andL, List.foldl_append]
theorem orL_snoc (L : List B) (y : B) : orL (L ++ [y]) = ite (orL L) .T y := by simp [orL, List.foldl_append]
end Bd
/-- the variables of AndAll, OrAll -/
structure AllSt (x : B) (w0 : World) (g : Nat) (W : World) : Prop where
  fr : Fr nob w0 W
  a0 : W.cell? ⟨g, 0, none⟩ = some (.int .u32 (place (li x) x : Int))
  a1 : W.cell? ⟨g, 1, none⟩ = some (.string ⟨(code (rows (li x))).toArray⟩)
  r0 : W.cell? ⟨w0.heap.size, 0, none⟩ = some (.int .u32 0)
  r1 : W.cell? ⟨w0.heap.size, 1, none⟩ = some (.string ⟨#[]⟩)
  fa0 : W.frozen? ⟨g, 0, none⟩ = false
  fa1 : W.frozen? ⟨g, 1, none⟩ = false
  fr0 : W.frozen? ⟨w0.heap.size, 0, none⟩ = false
  fr1 : W.frozen? ⟨w0.heap.size, 1, none⟩ = false
  hg : w0.heap.size < g
theorem AllSt.kept {x : B} {g : Nat} {w0 W W' : World} (h : AllSt x w0 g W) (fr : Fr nob W W') : AllSt x w0 g W' := by
  have l0 : w0.heap.size < W.heap.size := lt_of_cell h.r0
  have l1 : g < W.heap.size := lt_of_cell h.a0
  have c : ∀ {p : Addr} {v : Value}, W.cell? p = some v → _ := fun h => fr.cell h (fun h => h)
  have f : ∀ (b o : Nat), b < W.heap.size → W'.frozen? ⟨b, o, none⟩ = W.frozen? ⟨b, o, none⟩ := fun b o l => fr.frozen (p := ⟨b, o, none⟩) l (fun h => h)
  exact ⟨h.fr.trans fr (fun _ _ h => h), c h.a0, c h.a1, c h.r0, c h.r1, (f _ _ l1).trans h.fa0, (f _ _ l1).trans h.fa1, (f _ _ l0).trans h.fr0, (f _ _ l0).trans h.fr1, h.hg⟩
theorem AllSt.store {x : B} {g : Nat} (y : B) {w0 W : World} (h : AllSt x w0 g W) : AllSt y w0 g (put2 W g (.int .u32 (place (li y) y : Int)) (.string ⟨(code (rows (li y))).toArray⟩)) := by
  obtain ⟨p0, p1, fr, pf⟩ := put2_facts (.int .u32 (place (li y) y : Int)) (.string ⟨(code (rows (li y))).toArray⟩) h.a0 h.a1
  have hn : ¬ (w0.heap.size = g) := by have := h.hg; omega
  have hg := h.hg
  exact ⟨(h.fr.set1 (by omega) _).set1 (by omega) _, p0, p1, fr.cell h.r0 hn, fr.cell h.r1 hn, (pf _).trans h.fa0, (pf _).trans h.fa1, (pf _).trans h.fr0, (pf _).trans h.fr1, hg⟩

set_option maxRecDepth 100000 in
set_option maxHeartbeats 1000000 in
theorem AndAll_any (L : List B) (hok : ∀ x, x ∈ L → x.ok 0) (hL : L.length ≤ 65536) (v : Value) (w : World) (hv : DRow w v L) : Calls Tryz.prog 76 #[v] w fun e w' => e = .returned (dval (andL L)) ∧ Below w.heap.size w w' := by
  obtain ⟨a, cap, rfl⟩ := hv.form
  obtain ⟨r0, r1⟩ := two_cells' w (.int .u32 0) (.string ⟨#[]⟩) 32
  have f0 : (w.alloc (.cells #[.int .u32 0, .string ⟨#[]⟩] 32)).frozen? ⟨w.heap.size, 0, none⟩ = false := World.frozen?_alloc_at _ _ _ _ (by simp)
  have f1 : (w.alloc (.cells #[.int .u32 0, .string ⟨#[]⟩] 32)).frozen? ⟨w.heap.size, 1, none⟩ = false := World.frozen?_alloc_at _ _ _ _ (by simp)
  have fr : Fr nob w (w.alloc (.cells #[.int .u32 0, .string ⟨#[]⟩] 32)) := (Fr.refl nob w).alloc _
  have hsz : (w.alloc (.cells #[.int .u32 0, .string ⟨#[]⟩] 32)).heap.size = w.heap.size + 1 := by simp
  go_enter Tryz.func76, Tryz.ntmps76
  go_wp2_with fail
  generalize w.alloc (.cells #[.int .u32 0, .string ⟨#[]⟩] 32) = W0 at *
  refine (True_any _).mono ?_
  rintro e w1 ⟨rfl, hb1⟩
  have F1 : Fr nob W0 w1 := (Fr.refl nob _).below hb1
  have l0 := lt_of_cell r0
  replace f0 := (F1.frozen (p := ⟨w.heap.size, 0, none⟩) l0 (fun h => h)).trans f0
  replace f1 := (F1.frozen (p := ⟨w.heap.size, 1, none⟩) l0 (fun h => h)).trans f1
  replace r0 := F1.cell r0 (fun h => h)
  replace r1 := F1.cell r1 (fun h => h)
  have hw1 : w.heap.size < w1.heap.size := by have := F1.size; omega
  have G1 := fr.trans F1 (fun _ _ h => h)
  clear hb1 F1 fr l0
  go_wp2_with fail
  have S0 : AllSt .T w w1.heap.size (w1.alloc (.cells #[.int .u32 (place (li .T) .T : Int), .string ⟨(code (rows (li .T))).toArray⟩] 32)) :=
    ⟨G1.alloc _, World.cell?_alloc_at _ _ _ _ (by simp), World.cell?_alloc_at _ _ _ _ (by simp), cell_alloc_l r0 _, cell_alloc_l r1 _, World.frozen?_alloc_at _ _ _ _ (by simp), World.frozen?_alloc_at _ _ _ _ (by simp),
      (World.frozen?_of_block (a := ⟨w.heap.size, 0, none⟩) (Below.heap_alloc _ _ _ hw1)).trans f0, (World.frozen?_of_block (a := ⟨w.heap.size, 1, none⟩) (Below.heap_alloc _ _ _ hw1)).trans f1, hw1⟩
  clear r0 r1 f0 f1 G1
  generalize w1.alloc (.cells #[.int .u32 (place (li .T) .T : Int), .string ⟨(code (rows (li .T))).toArray⟩] 32) = W1 at *
  generalize w1.heap.size = g at *
  go_loopw [9] (fun iv wr => ∃ n : Nat, n ≤ L.length ∧ iv = .int .i64 (n : Int) ∧ AllSt (andL (L.take n)) w g wr) (fun iv _ => L.length - (intOf iv).toNat)
  case atStart => exact ⟨0, Nat.zero_le _, rfl, S0⟩
  case round =>
    clear S0
    obtain ⟨n, hn, rfl, S⟩ := hrel
    by_cases hlt : n < L.length
    · have hd : L[n]? = some L[n] := by simp [hlt]
      have ht : L.take (n + 1) = L.take n ++ [L[n]] := by rw [List.take_add_one, hd]; rfl
      have hoy : (L[n]).ok 0 := hok _ (List.getElem_mem hlt)
      have hnext : andL (L.take (n + 1)) = ite (andL (L.take n)) L[n] .F := by rw [ht, andL_snoc]
      have hcall := And_any (andL (L.take n)) L[n] (ok_andL _) hoy
      have HN := Lib.hid hnext
      clear hnext ht
      obtain ⟨b, rfl, c0, c1⟩ := (hv.kept S.fr).at hd
      generalize L[n] = y at *
      generalize andL (L.take n) = X at *
      have lb := lt_of_cell c0
      have hlt' : (n : Int) < (L.length : Int) := by omega
      have c0' := cell_alloc_l c0
      have c1' := cell_alloc_l c1
      have S2 := S.kept ((Fr.refl nob wr).alloc (.cells #[.int .u32 (place (li y) y : Int), .string ⟨(code (rows (li y))).toArray⟩] 32))
      have ⟨_, a0, a1, _, _, _, _, _, _, _⟩ := S
      have a0' := cell_alloc_l a0
      have a1' := cell_alloc_l a1
      go_wp2_with fail
      clear a0 a1 a0' a1' c0 c1 c0' c1'
      refine (hcall _).mono ?_
      rintro e w3 ⟨rfl, hb3⟩
      have S3 := S2.kept ((Fr.refl nob _).below hb3)
      clear S S2 hb3 hcall
      have ⟨_, a0, a1, _, _, fa0, fa1, _, _, _⟩ := S3
      go_wp2_with fail
      go_roundw
      case rel => exact ⟨n + 1, hlt, rfl, by rw [HN.out]; exact S3.store _⟩
      case measure => simp only [intOf]; omega
    · have e : n = L.length := by omega
      subst e
      rw [List.take_length] at S
      have ⟨G, a0, a1, r0, r1, _, _, f0, f1, hg⟩ := S
      go_wp2_with fail
      refine bodyPost_ret (v := dval (andL L)) (by simp [results, Tryz.results76, go_sem, r0, r1]) rfl ⟨rfl, ?_⟩
      exact ((G.set1 (Nat.le_refl _) _).set1 (Nat.le_refl _) _).to_below (Nat.le_refl _) (fun _ h => h.elim)

set_option maxRecDepth 100000 in
set_option maxHeartbeats 1000000 in
theorem OrAll_any (L : List B) (hok : ∀ x, x ∈ L → x.ok 0) (hL : L.length ≤ 65536) (v : Value) (w : World) (hv : DRow w v L) : Calls Tryz.prog 77 #[v] w fun e w' => e = .returned (dval (orL L)) ∧ Below w.heap.size w w' := by
  obtain ⟨a, cap, rfl⟩ := hv.form
  obtain ⟨r0, r1⟩ := two_cells' w (.int .u32 0) (.string ⟨#[]⟩) 32
  have f0 : (w.alloc (.cells #[.int .u32 0, .string ⟨#[]⟩] 32)).frozen? ⟨w.heap.size, 0, none⟩ = false := World.frozen?_alloc_at _ _ _ _ (by simp)
  have f1 : (w.alloc (.cells #[.int .u32 0, .string ⟨#[]⟩] 32)).frozen? ⟨w.heap.size, 1, none⟩ = false := World.frozen?_alloc_at _ _ _ _ (by simp)
  have fr : Fr nob w (w.alloc (.cells #[.int .u32 0, .string ⟨#[]⟩] 32)) := (Fr.refl nob w).alloc _
  have hsz : (w.alloc (.cells #[.int .u32 0, .string ⟨#[]⟩] 32)).heap.size = w.heap.size + 1 := by simp
  go_enter Tryz.func77, Tryz.ntmps77
  go_wp2_with fail
  generalize w.alloc (.cells #[.int .u32 0, .string ⟨#[]⟩] 32) = W0 at *
  refine (False_any _).mono ?_
  rintro e w1 ⟨rfl, hb1⟩
  have F1 : Fr nob W0 w1 := (Fr.refl nob _).below hb1
  have l0 := lt_of_cell r0
  replace f0 := (F1.frozen (p := ⟨w.heap.size, 0, none⟩) l0 (fun h => h)).trans f0
  replace f1 := (F1.frozen (p := ⟨w.heap.size, 1, none⟩) l0 (fun h => h)).trans f1
  replace r0 := F1.cell r0 (fun h => h)
  replace r1 := F1.cell r1 (fun h => h)
  have hw1 : w.heap.size < w1.heap.size := by have := F1.size; omega
  have G1 := fr.trans F1 (fun _ _ h => h)
  clear hb1 F1 fr l0
  go_wp2_with fail
  have S0 : AllSt .F w w1.heap.size (w1.alloc (.cells #[.int .u32 (place (li .F) .F : Int), .string ⟨(code (rows (li .F))).toArray⟩] 32)) :=
    ⟨G1.alloc _, World.cell?_alloc_at _ _ _ _ (by simp), World.cell?_alloc_at _ _ _ _ (by simp), cell_alloc_l r0 _, cell_alloc_l r1 _, World.frozen?_alloc_at _ _ _ _ (by simp), World.frozen?_alloc_at _ _ _ _ (by simp),
      (World.frozen?_of_block (a := ⟨w.heap.size, 0, none⟩) (Below.heap_alloc _ _ _ hw1)).trans f0, (World.frozen?_of_block (a := ⟨w.heap.size, 1, none⟩) (Below.heap_alloc _ _ _ hw1)).trans f1, hw1⟩
  clear r0 r1 f0 f1 G1
  generalize w1.alloc (.cells #[.int .u32 (place (li .F) .F : Int), .string ⟨(code (rows (li .F))).toArray⟩] 32) = W1 at *
  generalize w1.heap.size = g at *
  go_loopw [9] (fun iv wr => ∃ n : Nat, n ≤ L.length ∧ iv = .int .i64 (n : Int) ∧ AllSt (orL (L.take n)) w g wr) (fun iv _ => L.length - (intOf iv).toNat)
  case atStart => exact ⟨0, Nat.zero_le _, rfl, S0⟩
  case round =>
    clear S0
    obtain ⟨n, hn, rfl, S⟩ := hrel
    by_cases hlt : n < L.length
    · have hd : L[n]? = some L[n] := by simp [hlt]
      have ht : L.take (n + 1) = L.take n ++ [L[n]] := by rw [List.take_add_one, hd]; rfl
      have hoy : (L[n]).ok 0 := hok _ (List.getElem_mem hlt)
      have hnext : orL (L.take (n + 1)) = ite (orL (L.take n)) .T L[n] := by rw [ht, orL_snoc]
      have hcall := Or_any (orL (L.take n)) L[n] (ok_orL _) hoy
      have HN := Lib.hid hnext
      clear hnext ht
      obtain ⟨b, rfl, c0, c1⟩ := (hv.kept S.fr).at hd
      generalize L[n] = y at *
      generalize orL (L.take n) = X at *
      have lb := lt_of_cell c0
      have hlt' : (n : Int) < (L.length : Int) := by omega
      have c0' := cell_alloc_l c0
      have c1' := cell_alloc_l c1
      have S2 := S.kept ((Fr.refl nob wr).alloc (.cells #[.int .u32 (place (li y) y : Int), .string ⟨(code (rows (li y))).toArray⟩] 32))
      have ⟨_, a0, a1, _, _, _, _, _, _, _⟩ := S
      have a0' := cell_alloc_l a0
      have a1' := cell_alloc_l a1
      go_wp2_with fail
      clear a0 a1 a0' a1' c0 c1 c0' c1'
      refine (hcall _).mono ?_
      rintro e w3 ⟨rfl, hb3⟩
      have S3 := S2.kept ((Fr.refl nob _).below hb3)
      clear S S2 hb3 hcall
      have ⟨_, a0, a1, _, _, fa0, fa1, _, _, _⟩ := S3
      go_wp2_with fail
      go_roundw
      case rel => exact ⟨n + 1, hlt, rfl, by rw [HN.out]; exact S3.store _⟩
      case measure => simp only [intOf]; omega
    · have e : n = L.length := by omega
      subst e
      rw [List.take_length] at S
      have ⟨G, a0, a1, r0, r1, _, _, f0, f1, hg⟩ := S
      go_wp2_with fail
      refine bodyPost_ret (v := dval (orL L)) (by simp [results, Tryz.results77, go_sem, r0, r1]) rfl ⟨rfl, ?_⟩
      exact ((G.set1 (Nat.le_refl _) _).set1 (Nat.le_refl _) _).to_below (Nat.le_refl _) (fun _ h => h.elim)
end Go.Proofs.YtalnhlebgofiiaaGreatDoor
