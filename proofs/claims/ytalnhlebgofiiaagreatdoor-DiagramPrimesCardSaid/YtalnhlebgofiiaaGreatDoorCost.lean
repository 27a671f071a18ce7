import Derived.Test.YtalnhlebgofiiaaGreatDoorSumG
import Derived.Test.YtalnhlebgofiiaaGreatDoorRuleE
import Derived.Deep.DeepCutAuto
import Derived.Deep.MidRow
namespace Go.Proofs.YtalnhlebgofiiaaGreatDoor
open Go.RowKit
open Bd

/-- the costs as a value of Go -/
abbrev wv (cw : Nat → Int) : Value := .agg #[.int .i64 (cw 0), .int .i64 (cw 1), .int .i64 (cw 2), .int .i64 (cw 3), .int .i64 (cw 4), .int .i64 (cw 5), .int .i64 (cw 6), .int .i64 (cw 7), .int .i64 (cw 8), .int .i64 (cw 9), .int .i64 (cw 10), .int .i64 (cw 11), .int .i64 (cw 12), .int .i64 (cw 13), .int .i64 (cw 14), .int .i64 (cw 15), .int .i64 (cw 16), .int .i64 (cw 17), .int .i64 (cw 18), .int .i64 (cw 19), .int .i64 (cw 20), .int .i64 (cw 21), .int .i64 (cw 22), .int .i64 (cw 23)]
/-- the variable of costing: fresh, and set -/
abbrev z51 : Array Value := #[.pointer none, .int .i64 0, .int .i64 0, .int .i64 0, .int .i64 0, .int .i64 0, .int .i64 0, .int .i64 0, .int .i64 0, .int .i64 0, .int .i64 0, .int .i64 0, .int .i64 0, .int .i64 0, .int .i64 0, .int .i64 0, .int .i64 0, .int .i64 0, .int .i64 0, .int .i64 0, .int .i64 0, .int .i64 0, .int .i64 0, .int .i64 0, .int .i64 0, .int .i64 0, .int .i64 0, .slice none 0 0, .slice none 0 0, .slice none 0 0, .slice none 0 0, .slice none 0 0, .slice none 0 0, .slice none 0 0, .slice none 0 0, .slice none 0 0, .slice none 0 0, .slice none 0 0, .slice none 0 0, .slice none 0 0, .slice none 0 0, .slice none 0 0, .slice none 0 0, .slice none 0 0, .slice none 0 0, .slice none 0 0, .slice none 0 0, .slice none 0 0, .slice none 0 0, .slice none 0 0, .slice none 0 0]
abbrev f51 (cw : Nat → Int) (lo hi : Int) (wb : Nat) : Array Value := #[.pointer (some ⟨wb, 0, none⟩), .int .i64 (cw 0), .int .i64 (cw 1), .int .i64 (cw 2), .int .i64 (cw 3), .int .i64 (cw 4), .int .i64 (cw 5), .int .i64 (cw 6), .int .i64 (cw 7), .int .i64 (cw 8), .int .i64 (cw 9), .int .i64 (cw 10), .int .i64 (cw 11), .int .i64 (cw 12), .int .i64 (cw 13), .int .i64 (cw 14), .int .i64 (cw 15), .int .i64 (cw 16), .int .i64 (cw 17), .int .i64 (cw 18), .int .i64 (cw 19), .int .i64 (cw 20), .int .i64 (cw 21), .int .i64 (cw 22), .int .i64 (cw 23), .int .i64 lo, .int .i64 hi, .slice none 0 0, .slice none 0 0, .slice none 0 0, .slice none 0 0, .slice none 0 0, .slice none 0 0, .slice none 0 0, .slice none 0 0, .slice none 0 0, .slice none 0 0, .slice none 0 0, .slice none 0 0, .slice none 0 0, .slice none 0 0, .slice none 0 0, .slice none 0 0, .slice none 0 0, .slice none 0 0, .slice none 0 0, .slice none 0 0, .slice none 0 0, .slice none 0 0, .slice none 0 0, .slice none 0 0]
theorem info_sum : (Tryz.prog.info? 190).map (·.size) = some 51 := by kernel_rfl
theorem f51_at (cw : Nat → Int) (lo hi : Int) (wb : Nat) : ∀ j, j < 24 → (f51 cw lo hi wb)[1 + j]? = some (.int .i64 (cw j)) ∧ (f51 cw lo hi wb)[27 + j]? = some (.slice none 0 0) := by
  intro j hj
  match j, hj with
  | 0, _ => exact ⟨rfl, rfl⟩
  | 1, _ => exact ⟨rfl, rfl⟩
  | 2, _ => exact ⟨rfl, rfl⟩
  | 3, _ => exact ⟨rfl, rfl⟩
  | 4, _ => exact ⟨rfl, rfl⟩
  | 5, _ => exact ⟨rfl, rfl⟩
  | 6, _ => exact ⟨rfl, rfl⟩
  | 7, _ => exact ⟨rfl, rfl⟩
  | 8, _ => exact ⟨rfl, rfl⟩
  | 9, _ => exact ⟨rfl, rfl⟩
  | 10, _ => exact ⟨rfl, rfl⟩
  | 11, _ => exact ⟨rfl, rfl⟩
  | 12, _ => exact ⟨rfl, rfl⟩
  | 13, _ => exact ⟨rfl, rfl⟩
  | 14, _ => exact ⟨rfl, rfl⟩
  | 15, _ => exact ⟨rfl, rfl⟩
  | 16, _ => exact ⟨rfl, rfl⟩
  | 17, _ => exact ⟨rfl, rfl⟩
  | 18, _ => exact ⟨rfl, rfl⟩
  | 19, _ => exact ⟨rfl, rfl⟩
  | 20, _ => exact ⟨rfl, rfl⟩
  | 21, _ => exact ⟨rfl, rfl⟩
  | 22, _ => exact ⟨rfl, rfl⟩
  | 23, _ => exact ⟨rfl, rfl⟩
  | n + 24, h => omega

theorem under_w : Tryz.prog.underlying 75 = some (.array 24 2) := Tryz.underlying75
theorem info_w : (Tryz.prog.info? 75).map (·.size) = some 24 := by kernel_rfl
theorem there_new (w : World) (cs : Array Value) (T : TypeId) : (w.alloc (.cells cs T)).there w.heap.size 0 cs.size := fun j hj => by
  have hg := heap_alloc_new w (.cells cs T)
  exact ⟨by rw [Nat.zero_add, cell_of_row _ w.heap.size j cs T (0, 0) hg]; simp [hj], by unfold World.frozen?; simp only [hg]; simp⟩
theorem there_kept {S : Nat → Prop} {w w' : World} {b o n : Nat} (h : w.there b o n) (fr : Fr S w w') (hl : b < w.heap.size) (hS : ¬ S b) : w'.there b o n := fun j hj => by
  obtain ⟨h1, h2⟩ := h j hj
  obtain ⟨v, hv⟩ := Option.isSome_iff_exists.1 h1
  exact ⟨by rw [fr.cell hv hS]; rfl, (fr.frozen (p := ⟨b, o + j, none⟩) hl hS).trans h2⟩
theorem range_kept {S : Nat → Prop} {w w' : World} {b o : Nat} {cs : List Value} (h : w.rangeAt b o cs) (fr : Fr S w w') (hS : ¬ S b) : w'.rangeAt b o cs := fun j v hv => fr.cell (h j v hv) hS
theorem fr_setCells (b : Nat) : ∀ (vs : List Value) (o : Nat) (w : World), Fr (fun k => k = b) w (w.setCells b o vs)
  | [], _, w => Fr.refl _ w
  | v :: vs, o, w => (fr_store w b o v).trans (fr_setCells b vs (o + 1) _) (fun _ _ h => h)

theorem exec_load_mid {P : Program} {o : Oper} {a : Act} {w : World} (ty : TypeId) (x : Operand) (ho : o.op = .load ty x) (b off : Nat) (hx : a.eval x = .pointer (some ⟨b, off, none⟩)) (cs : List Value) (d : TypeDesc) (hc : w.rangeAt b off cs)
    (hu : P.underlying ty = some d) (hd : d.isRow = true) (hi : (P.info? ty).map (·.size) = some cs.length) : (execOp a.eval o).run P w = .ok (.value (.agg cs.toArray)) w := by
  unfold execOp
  simp only [ho, hx, Instr.loadAt, Instr.sureAddr, Sem.run_bind, Sem.run_pure, Result.andThen_ok, run_loadVar_mid w b off ty cs d hc hu hd hi]

theorem sm_start {cw : Nat → Int} {lo hi : Int} {g wb mb : Nat} {wx : World} (hW : Work wx wb mb (.slice none 0 0) []) (hg : wx.rangeAt g 0 (f51 cw lo hi wb).toList) (ht : wx.there g 0 51) (n1 : g ≠ wb) (n2 : g ≠ mb) :
    Sm cw lo hi g wb mb wx (.slice none 0 0) [] (fun _ => .slice none 0 0) (fun _ => []) := by
  have c : ∀ o u, (f51 cw lo hi wb)[o]? = some u → wx.cell? ⟨g, o, none⟩ = some u := fun o u h => by have := hg o u (by simpa using h); rwa [Nat.zero_add] at this
  refine ⟨hW, c 0 _ rfl, fun j hj => c _ _ (f51_at cw lo hi wb j hj).1, c 25 _ rfl, c 26 _ rfl, fun j hj => c _ _ (f51_at cw lo hi wb j hj).2, (fun o ho => by have := (ht o ho).2; rwa [Nat.zero_add] at this), fun j _ => World.ownsRow_nil _ _ _ _, (fun j _ x hx => by cases hx), ?_, (fun j _ g' h => by cases h), (fun _ _ _ _ _ g' h => by cases h)⟩
  rintro (h | h | h)
  · exact n1 h
  · exact n2 h
  · cases h

/-- a variable of two cells -/
structure Box2 (w : World) (g : Nat) (a b : Value) : Prop where
  c0 : w.cell? ⟨g, 0, none⟩ = some a
  c1 : w.cell? ⟨g, 1, none⟩ = some b
  fz : ∀ o, w.frozen? ⟨g, o, none⟩ = false
theorem Box2.of_heap {w : World} {g : Nat} {a b : Value} {T : TypeId} (h : w.heap[g]? = some (.cells #[a, b] T)) : Box2 w g a b := by
  refine ⟨?_, ?_, fun o => ?_⟩ <;> simp [World.cell?, World.frozen?, h]
theorem Box2.new (w : World) (a b : Value) (T : TypeId) : Box2 (w.alloc (.cells #[a, b] T)) w.heap.size a b := .of_heap (heap_alloc_new w _)
theorem Box2.lt {w : World} {g : Nat} {a b : Value} (h : Box2 w g a b) : g < w.heap.size := lt_of_cell h.c0
theorem Box2.kept {S : Nat → Prop} {w w' : World} {g : Nat} {a b : Value} (h : Box2 w g a b) (fr : Fr S w w') (hS : ¬ S g) : Box2 w' g a b :=
  ⟨fr.cell h.c0 hS, fr.cell h.c1 hS, fun o => (fr.frozen (p := ⟨g, o, none⟩) h.lt hS).trans (h.fz o)⟩
theorem Box2.set {w : World} {g : Nat} {a b : Value} (h : Box2 w g a b) (x y : Value) :
    Box2 ((w.setCell ⟨g, 0, none⟩ x).setCell ⟨g, 1, none⟩ y) g x y ∧ Fr (fun k => k = g) w ((w.setCell ⟨g, 0, none⟩ x).setCell ⟨g, 1, none⟩ y) := by
  have e1 : (w.setCell ⟨g, 0, none⟩ x).cell? ⟨g, 1, none⟩ = some b := by rw [World.cell?_setCell_other _ _ _ _ (by simp)]; exact h.c1
  refine ⟨⟨?_, World.cell?_setCell_same' _ _ _ (by rw [e1]; rfl), fun o => by rw [World.frozen?_setCell, World.frozen?_setCell]; exact h.fz o⟩, (fr_store w g 0 x).trans (fr_store _ g 1 y) (fun _ _ h => h)⟩
  rw [World.cell?_setCell_other _ _ _ _ (by simp)]
  exact World.cell?_setCell_same' _ _ _ (by rw [h.c0]; rfl)
end Go.Proofs.YtalnhlebgofiiaaGreatDoor
namespace Go.Proofs.YtalnhlebgofiiaaGreatDoor
open Go.RowKit
open Bd

set_option maxRecDepth 100000 in
set_option maxHeartbeats 2000000 in
theorem costing_in {cw : Nat → Int} {lo hi : Int} (hcw : ∀ j, -2147483648 ≤ cw j ∧ cw j ≤ 2147483648) (hle : lo ≤ hi) (w : World) :
    Calls Tryz.prog 113 #[wv cw, .int .i64 lo, .int .i64 hi] w fun e w' => e = .returned (dval (costB cw lo hi 24 0)) ∧ Below w.heap.size w w' := by
  go_enter Tryz.func113, Tryz.ntmps113
  go_upto_region 3 with fail
  have box := heap_alloc_new w (.cells #[.int .i64 (cw 0), .int .i64 (cw 1), .int .i64 (cw 2), .int .i64 (cw 3), .int .i64 (cw 4), .int .i64 (cw 5), .int .i64 (cw 6), .int .i64 (cw 7), .int .i64 (cw 8), .int .i64 (cw 9), .int .i64 (cw 10), .int .i64 (cw 11), .int .i64 (cw 12), .int .i64 (cw 13), .int .i64 (cw 14), .int .i64 (cw 15), .int .i64 (cw 16), .int .i64 (cw 17), .int .i64 (cw 18), .int .i64 (cw 19), .int .i64 (cw 20), .int .i64 (cw 21), .int .i64 (cw 22), .int .i64 (cw 23)] 75)
  have box2 := ((Fr.refl nob _).alloc (.cells #[.int .u32 0, .string ⟨#[]⟩] 32)).block w.heap.size (by simp) (fun h => h) |>.trans box
  have rb := Box2.of_heap (heap_alloc_new (w.alloc (.cells #[.int .i64 (cw 0), .int .i64 (cw 1), .int .i64 (cw 2), .int .i64 (cw 3), .int .i64 (cw 4), .int .i64 (cw 5), .int .i64 (cw 6), .int .i64 (cw 7), .int .i64 (cw 8), .int .i64 (cw 9), .int .i64 (cw 10), .int .i64 (cw 11), .int .i64 (cw 12), .int .i64 (cw 13), .int .i64 (cw 14), .int .i64 (cw 15), .int .i64 (cw 16), .int .i64 (cw 17), .int .i64 (cw 18), .int .i64 (cw 19), .int .i64 (cw 20), .int .i64 (cw 21), .int .i64 (cw 22), .int .i64 (cw 23)] 75)) (.cells #[.int .u32 0, .string ⟨#[]⟩] 32))
  simp only [World.size_alloc] at rb
  have frw : Fr nob w ((w.alloc (.cells #[.int .i64 (cw 0), .int .i64 (cw 1), .int .i64 (cw 2), .int .i64 (cw 3), .int .i64 (cw 4), .int .i64 (cw 5), .int .i64 (cw 6), .int .i64 (cw 7), .int .i64 (cw 8), .int .i64 (cw 9), .int .i64 (cw 10), .int .i64 (cw 11), .int .i64 (cw 12), .int .i64 (cw 13), .int .i64 (cw 14), .int .i64 (cw 15), .int .i64 (cw 16), .int .i64 (cw 17), .int .i64 (cw 18), .int .i64 (cw 19), .int .i64 (cw 20), .int .i64 (cw 21), .int .i64 (cw 22), .int .i64 (cw 23)] 75)).alloc (.cells #[.int .u32 0, .string ⟨#[]⟩] 32)) := ((Fr.refl nob w).alloc _).alloc _
  have hsz : ((w.alloc (.cells #[.int .i64 (cw 0), .int .i64 (cw 1), .int .i64 (cw 2), .int .i64 (cw 3), .int .i64 (cw 4), .int .i64 (cw 5), .int .i64 (cw 6), .int .i64 (cw 7), .int .i64 (cw 8), .int .i64 (cw 9), .int .i64 (cw 10), .int .i64 (cw 11), .int .i64 (cw 12), .int .i64 (cw 13), .int .i64 (cw 14), .int .i64 (cw 15), .int .i64 (cw 16), .int .i64 (cw 17), .int .i64 (cw 18), .int .i64 (cw 19), .int .i64 (cw 20), .int .i64 (cw 21), .int .i64 (cw 22), .int .i64 (cw 23)] 75)).alloc (.cells #[.int .u32 0, .string ⟨#[]⟩] 32)).heap.size = w.heap.size + 1 + 1 := by simp
  generalize ((w.alloc (.cells #[.int .i64 (cw 0), .int .i64 (cw 1), .int .i64 (cw 2), .int .i64 (cw 3), .int .i64 (cw 4), .int .i64 (cw 5), .int .i64 (cw 6), .int .i64 (cw 7), .int .i64 (cw 8), .int .i64 (cw 9), .int .i64 (cw 10), .int .i64 (cw 11), .int .i64 (cw 12), .int .i64 (cw 13), .int .i64 (cw 14), .int .i64 (cw 15), .int .i64 (cw 16), .int .i64 (cw 17), .int .i64 (cw 18), .int .i64 (cw 19), .int .i64 (cw 20), .int .i64 (cw 21), .int .i64 (cw 22), .int .i64 (cw 23)] 75)).alloc (.cells #[.int .u32 0, .string ⟨#[]⟩] 32)) = W2 at *
  clear box
  have HSZ := Lib.hid hsz
  have HCW := Lib.hid hcw
  clear hsz hcw
  have hr2 : W2.rangeAt w.heap.size 0 [.int .i64 (cw 0), .int .i64 (cw 1), .int .i64 (cw 2), .int .i64 (cw 3), .int .i64 (cw 4), .int .i64 (cw 5), .int .i64 (cw 6), .int .i64 (cw 7), .int .i64 (cw 8), .int .i64 (cw 9), .int .i64 (cw 10), .int .i64 (cw 11), .int .i64 (cw 12), .int .i64 (cw 13), .int .i64 (cw 14), .int .i64 (cw 15), .int .i64 (cw 16), .int .i64 (cw 17), .int .i64 (cw 18), .int .i64 (cw 19), .int .i64 (cw 20), .int .i64 (cw 21), .int .i64 (cw 22), .int .i64 (cw 23)] := fun j u h => by rw [Nat.zero_add, cell_of_row W2 w.heap.size j _ _ (0, 0) box2]; simpa using h
  have hi24 : (Tryz.prog.info? 75).map (·.size) = some ([.int .i64 (cw 0), .int .i64 (cw 1), .int .i64 (cw 2), .int .i64 (cw 3), .int .i64 (cw 4), .int .i64 (cw 5), .int .i64 (cw 6), .int .i64 (cw 7), .int .i64 (cw 8), .int .i64 (cw 9), .int .i64 (cw 10), .int .i64 (cw 11), .int .i64 (cw 12), .int .i64 (cw 13), .int .i64 (cw 14), .int .i64 (cw 15), .int .i64 (cw 16), .int .i64 (cw 17), .int .i64 (cw 18), .int .i64 (cw 19), .int .i64 (cw 20), .int .i64 (cw 21), .int .i64 (cw 22), .int .i64 (cw 23)] : List Value).length := info_w
  refine E.wp_region_any_call 8 24 0 (fun i => i == 3 || i == 5 || i == 6) (fun w' => Fr nob W2 w') (fun v w' => ∃ wb mb, v = .pointer (some ⟨wb, 0, none⟩) ∧ Fr nob W2 w' ∧ Work w' wb mb (.slice none 0 0) [] ∧ W2.heap.size ≤ wb ∧ W2.heap.size ≤ mb) (fun v => ∃ wb, v = .pointer (some ⟨wb, 0, none⟩))
    (fun _ => z51) [190] (by kernel_rfl) (by kernel_rfl) rfl (by decide) (by kernel_rfl) (by kernel_rfl) (fun _ h => h) (fun _ h => h.size) (fun _ _ h k => h.trans k (fun _ _ h => h)) ⟨_, 0, rfl⟩ (fun v w' ⟨wb, mb, h, _⟩ => ⟨wb, h⟩) (fun v w' ⟨_, _, _, h, _⟩ => h.size)
    (fun v w' w'' ⟨wb, mb, h1, h2, h3, h4, h5⟩ k => ⟨wb, mb, h1, h2.trans k (fun _ _ h => h), h3.kept k (fun _ _ h => h), h4, h5⟩) rfl (by intro T h w; simp at h; subst h; rfl) ?_
  rintro v ⟨wb, rfl⟩
  simp only [List.take_succ_cons, List.take_zero]
  refine E.anyc_call 59 #[] rfl rfl rfl (fun w' => by go_simp) ?c0 ?_
  case c0 =>
    intro w' hf
    refine (newWork_any w').mono ?_
    rintro e w1 ⟨wb, mb, rfl, hW1, fr1, lwb, lmb⟩
    exact ⟨_, rfl, ⟨wb, mb, rfl, hf.trans fr1 (fun _ _ h => h), hW1, Nat.le_trans hf.size lwb, Nat.le_trans hf.size lmb⟩, fr1.size, fun b _ hb => fr1.block b hb (fun h => h)⟩
  simp only [Act.put, List.setIfInBounds_toArray, List.set_cons_zero, List.set_cons_succ]
  refine E.anyc_value (v := wv cw) rfl rfl rfl rfl ?c1 ?_
  case c1 =>
    intro w' h
    have fr : Fr nob W2 w' := h.elim id (fun ⟨_, _, _, h, _⟩ => h)
    exact exec_load_mid 75 (.tmp 3) rfl w.heap.size 0 rfl [.int .i64 (cw 0), .int .i64 (cw 1), .int .i64 (cw 2), .int .i64 (cw 3), .int .i64 (cw 4), .int .i64 (cw 5), .int .i64 (cw 6), .int .i64 (cw 7), .int .i64 (cw 8), .int .i64 (cw 9), .int .i64 (cw 10), .int .i64 (cw 11), .int .i64 (cw 12), .int .i64 (cw 13), .int .i64 (cw 14), .int .i64 (cw 15), .int .i64 (cw 16), .int .i64 (cw 17), .int .i64 (cw 18), .int .i64 (cw 19), .int .i64 (cw 20), .int .i64 (cw 21), .int .i64 (cw 22), .int .i64 (cw 23)] _ (range_kept hr2 fr (fun h => h)) under_w rfl hi24
  simp only [Act.put, List.setIfInBounds_toArray, List.set_cons_zero, List.set_cons_succ]
  refine E.anyc_value (v := .int .i64 lo) rfl rfl rfl rfl ?c2 ?_
  case c2 =>
    intro w' _
    go_simp
    try rfl
  simp only [Act.put, List.setIfInBounds_toArray, List.set_cons_zero, List.set_cons_succ]
  refine E.anyc_behind (v := .int .i64 (nearN lo)) rfl rfl rfl rfl ?c3 ?_
  case c3 =>
    intro w' _
    refine E.upon_call ?_ ((nearer_any lo w').mono fun e w'' ⟨h1, h2⟩ => ⟨h1, by rw [h2]; exact Fr.refl _ _⟩)
    go_simp
  simp only [Act.put, List.setIfInBounds_toArray, List.set_cons_zero, List.set_cons_succ]
  refine E.anyc_value (v := .int .i64 hi) rfl rfl rfl rfl ?c4 ?_
  case c4 =>
    intro w' _
    go_simp
    try rfl
  simp only [Act.put, List.setIfInBounds_toArray, List.set_cons_zero, List.set_cons_succ]
  refine E.anyc_behind (v := .int .i64 (nearN hi)) rfl rfl rfl rfl ?c5 ?_
  case c5 =>
    intro w' _
    refine E.upon_call ?_ ((nearer_any hi w').mono fun e w'' ⟨h1, h2⟩ => ⟨h1, by rw [h2]; exact Fr.refl _ _⟩)
    go_simp
  simp only [Act.put, List.setIfInBounds_toArray, List.set_cons_zero, List.set_cons_succ]
  refine E.anyc_behind (v := .agg (f51 cw (nearN lo) (nearN hi) wb)) rfl rfl rfl rfl ?c6 ?_
  case c6 =>
    intro w' _
    refine E.upon_value ?_
    go_simp
    try rfl
  simp only [Act.put, List.setIfInBounds_toArray, List.set_cons_zero, List.set_cons_succ]
  refine E.anyc_alloc rfl fun g hg => ?_
  simp only [Act.put, List.setIfInBounds_toArray, List.set_cons_zero, List.set_cons_succ]
  refine E.anyc_nil ?_
  rintro w3 listed ⟨wb', mb, hwb, fr3, hW3, lwb, lmb⟩ hl hM
  obtain rfl : wb' = wb := by simpa using hwb.symm
  obtain ⟨b9, m91, _, m93, _⟩ := hM 7 _ 190 7 (by omega) rfl rfl rfl (hl 7 (by omega))
  clear hM hl hwb
  obtain rfl : g = b9 := by simpa using m91
  clear m91
  have rb3 := rb.kept fr3 (fun h => h)
  have hg51 : w3.there g 0 51 := fun j hj => ⟨by rw [Nat.zero_add, cell_of_row w3 g j z51 _ (0, 0) m93, Array.getElem?_eq_getElem (show j < z51.size from hj)]; rfl, by unfold World.frozen?; simp only [m93]; simp⟩
  have n1 : g ≠ wb' := by
    rintro rfl
    have h1 := hW3.wk.code
    rw [cell_of_row w3 g 0 z51 _ (0, 0) m93] at h1
    cases h1
  have n2 : g ≠ mb := by
    rintro rfl
    obtain ⟨es, clock, h1, _⟩ := hW3.wk.map
    rw [m93] at h1
    cases h1
  refine wpList_store_mid rfl 190 (.tmp 7) (.tmp 18) rfl g 0 (f51 cw (nearN lo) (nearN hi) wb') rfl rfl hg51 info_sum (by simp [Value.oneCell']) ?_
  have frs := fr_setCells g (f51 cw (nearN lo) (nearN hi) wb').toList 0 w3
  have hS := sm_start (hW3.kept frs (fun k hk e => by
    have e' : k = g := e
    subst e'
    rcases hk with h | h | h
    · exact n1 h
    · exact n2 h
    · cases h)) (World.rangeAt_setCells_same w3 g 0 _ hg51) (World.there_setCells hg51 g 0 _) n1 n2
  have lrb : w.heap.size + 1 < W2.heap.size := rb.lt
  have hgw := hg
  have rb4 := rb3.kept frs (show ¬ w.heap.size + 1 = g by omega)
  have fr4 : Fr nob W2 (w3.setCells g 0 (f51 cw (nearN lo) (nearN hi) wb').toList) := (fr3.trans' frs (T := fun k => k = g) (fun _ _ h => h.elim) (fun _ _ h => h)).mono (fun k hk e => by have e' : k = g := e; omega)
  generalize w3.setCells g 0 (f51 cw (nearN lo) (nearN hi) wb').toList = W4 at *
  clear rb rb3 frs hr2 box2 m93 hg51 fr3 hW3
  have hft : ∀ k, footS g wb' mb (.slice none 0 0) (fun _ => .slice none 0 0) k → W2.heap.size ≤ k := by
    rintro k (h | h | ⟨j, _, h⟩)
    · omega
    · rcases h with h | h | h
      · omega
      · omega
      · cases h
    · cases h
  have hok : (costB cw (nearN lo) (nearN hi) 24 0).ok 0 := ok_costB0 _ _ _ _ _
  have hlo' : -1099511627776 ≤ nearN lo ∧ nearN lo ≤ 1099511627776 := by unfold nearN; omega
  have hhi' : -1099511627776 ≤ nearN hi ∧ nearN hi ≤ 1099511627776 := by unfold nearN; omega
  have hnear := costB_near cw HCW.out lo hi
  have hfrom := fun W' (h : Fr nob W4 W') => from_any (sb := g) (wb := wb') (mb := mb) HCW.out hlo' hhi' 24 0 rfl 0 W' (.slice none 0 0) [] _ _ (by omega) (hS.keptNew h) (small_li hok) (fun j _ hj => by
    have : 2 ^ (j - 0) ≤ 2 ^ 23 := Nat.pow_le_pow_right (by omega) (by omega)
    simp only [List.length_nil, Nat.zero_add]
    exact Nat.le_trans this (by decide))
  go_wp2_with fail
  refine E.wp_region_any_call 5 24 2 (fun i => i == 3 || i == 4) (fun w' => Fr nob W4 w')
    (fun v w' => ∃ (x : Span) (v' : Value) (sv' : Nat → Value) (L' : Nat → List Span), v = spv x.1 x.2.1 x.2.2 ∧ x.2.2 = place (li (costB cw (nearN lo) (nearN hi) 24 0)) (costB cw (nearN lo) (nearN hi) 24 0) ∧
      Sm cw (nearN lo) (nearN hi) g wb' mb w' v' (li (costB cw (nearN lo) (nearN hi) 24 0)) sv' L' ∧ Fr (footS g wb' mb (.slice none 0 0) (fun _ => .slice none 0 0)) W4 w')
    (fun v => ∃ x : Span, v = spv x.1 x.2.1 x.2.2 ∧ x.2.2 = place (li (costB cw (nearN lo) (nearN hi) 24 0)) (costB cw (nearN lo) (nearN hi) 24 0))
    (fun _ => #[]) [] (by kernel_rfl) (by kernel_rfl) rfl (by decide) (by kernel_rfl) (by kernel_rfl) (fun _ h => h) (fun _ h => h.size) (fun _ _ h k => h.trans k (fun _ _ h => h)) ⟨_, (0, 0, _), rfl, rfl⟩ (fun v w' ⟨x, _, _, _, h1, h2, _⟩ => ⟨x, h1, h2⟩) (fun v w' ⟨_, _, _, _, _, _, _, h⟩ => h.size)
    (fun v w' w'' ⟨x, v', sv', L', h1, h2, h3, h4⟩ k => ⟨x, v', sv', L', h1, h2, h3.keptNew k, h4.trans k (fun _ _ h => h.elim)⟩) rfl (by intro T h; cases h) ?_
  rintro v ⟨x, rfl, hx⟩
  simp only [List.take_succ_cons, List.take_zero]
  refine E.anyc_value (v := .pointer (some ⟨g, 0, none⟩)) rfl rfl rfl rfl ?d0 ?_
  case d0 =>
    intro w' _
    go_simp
    try rfl
  simp only [Act.put, List.setIfInBounds_toArray, List.set_cons_zero, List.set_cons_succ]
  refine E.anyc_value (v := .pointer (some ⟨wb', 0, none⟩)) rfl rfl rfl rfl ?d1 ?_
  case d1 =>
    intro w' h
    have y : w'.cell? ⟨g, 0, none⟩ = some (.pointer (some ⟨wb', 0, none⟩)) := h.elim (fun h => h.cell hS.cwk (fun h => h)) (fun ⟨_, _, _, _, _, _, h, _⟩ => h.cwk)
    clear h
    go_simp
    try rfl
  simp only [Act.put, List.setIfInBounds_toArray, List.set_cons_zero, List.set_cons_succ]
  refine E.anyc_call 139 #[.pointer (some ⟨g, 0, none⟩), .int .i64 0, .int .i64 0] rfl rfl rfl (fun w' => by go_simp) ?d2 ?_
  case d2 =>
    intro w' hf
    refine (hfrom w' hf).mono ?_
    rintro e w1 ⟨y, v1, sv1, L1, rfl, _, _, hin, hS1, fr1, _, _, _⟩
    refine ⟨_, rfl, ⟨y, v1, sv1, L1, rfl, hin.pl, hS1, hf.trans' fr1 (fun _ _ h => h.elim) (fun _ _ h => h)⟩, fr1.size, fun b hb1 hb => fr1.block b hb (fun h => ?_)⟩
    have := hS.foot_lt b h
    omega
  simp only [Act.put, List.setIfInBounds_toArray, List.set_cons_zero, List.set_cons_succ]
  refine E.anyc_behind (v := .int .u32 (x.2.2 : Int)) rfl rfl rfl rfl ?d3 ?_
  case d3 =>
    intro w' _
    refine E.upon_value ?_
    go_simp
    try rfl
  simp only [Act.put, List.setIfInBounds_toArray, List.set_cons_zero, List.set_cons_succ]
  refine E.anyc_behind (v := dval (costB cw (nearN lo) (nearN hi) 24 0)) rfl rfl rfl rfl ?d4 ?_
  case d4 =>
    rintro w' ⟨y, v1, sv1, L1, _, _, hS1, _⟩
    refine E.upon_call ?_ ((set_any wb' mb v1 _ x.2.2 w' hS1.work).mono fun e w'' ⟨he, hb⟩ => ⟨?_, (Fr.refl nob _).below hb⟩)
    · go_simp
    · rw [he, hx]
  simp only [Act.put, List.setIfInBounds_toArray, List.set_cons_zero, List.set_cons_succ]
  refine E.anyc_nil ?_
  rintro w5 listed ⟨_, _, _, _, _, _, _, fr5⟩ _ _
  have rb5 := rb4.kept fr5 (fun h => by have := hft _ h; omega)
  have G := frw.trans' (fr4.trans' fr5 (T := fun k => W2.heap.size ≤ k) (fun _ _ h => h.elim) (fun k _ h => hft k h)) (T := fun k => w.heap.size ≤ k) (fun _ _ h => h.elim) (fun k hk h => by have := frw.size; omega)
  have ⟨r0, r1, rf⟩ := rb5
  have rf0 := rf 0
  have rf1 := rf 1
  rw [hnear]
  clear rf
  go_wp2_with fail
  obtain ⟨r', _⟩ := rb5.set (.int .u32 (place (li (costB cw lo hi 24 0)) (costB cw lo hi 24 0) : Int)) (.string ⟨(code (rows (li (costB cw lo hi 24 0)))).toArray⟩)
  have ⟨q0, q1, _⟩ := r'
  refine bodyPost_ret (v := dval (costB cw lo hi 24 0)) (by simp [results, Tryz.results113, go_sem, q0, q1]) rfl ⟨rfl, ?_⟩
  exact ((G.set1 (by omega) _).set1 (by omega) _).to_below (Nat.le_refl _) (fun _ h => h)
end Go.Proofs.YtalnhlebgofiiaaGreatDoor
