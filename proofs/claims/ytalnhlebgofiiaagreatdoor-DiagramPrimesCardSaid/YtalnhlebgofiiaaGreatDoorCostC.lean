import Derived.Test.YtalnhlebgofiiaaGreatDoorCostB
import Derived.Test.YtalnhlebgofiiaaGreatDoorRefA
namespace Go.Proofs.YtalnhlebgofiiaaGreatDoor
open Go.RowKit Go.Shelf
open Bd

/-- costs that are valid, and the weights that they give -/
def wOk (l : List Int) : Bool := decide (l.length ≤ 24) && l.all fun x => decide (-2147483648 ≤ x) && decide (x ≤ 2147483648)
def gl (l : List Int) (j : Nat) : Int := l.getD j 0
def wC (l : List Int) : Nat → Int := fun j => if wOk l then gl l j else 0
theorem wOk_iff {l : List Int} : wOk l = true ↔ l.length ≤ 24 ∧ ∀ x ∈ l, -2147483648 ≤ x ∧ x ≤ 2147483648 := by
  unfold wOk
  simp [List.all_eq_true]
theorem wC_bound (l : List Int) : ∀ j, -2147483648 ≤ wC l j ∧ wC l j ≤ 2147483648 := by
  intro j
  unfold wC
  split
  · rename_i h
    obtain ⟨_, h⟩ := wOk_iff.1 h
    unfold gl
    rw [List.getD_eq_getElem?_getD]
    cases e : l[j]? with
    | none => simp
    | some x => exact h x (List.mem_of_getElem? e)
  · omega

theorem run_copy_none {P : Program} (w : World) (dT sT ty elem : TypeId) (K g o dLen dCap sCap : Nat) (hu : P.underlying dT = some (.slice elem)) (hs : (P.info? elem).map (·.size) = some K) :
    (Builtin.copy_ #[dT, sT] ty #[.slice (some ⟨g, o, none⟩) dLen dCap, .slice none 0 sCap]).run P w = .ok (goInt 0) w := by
  cases hq : P.info? elem with
  | none => simp [hq] at hs
  | some i => simp [Builtin.copy_, run_underlying hu, Builtin.lenOf, Builtin.firstCells, sizeOf, typeInfo, hq, storeCells]
theorem wpList_copy_none {P : Program} {w : World} {ops : Array Oper} {rest : List Oper} {o : Oper} {a : Act} {Q : Exit → Act → World → Prop} (hgd : o.guard = none) (d s : Operand) (dT sT : TypeId)
    (ho : o.op = .call { callee := .builtin .copy, args := #[d, s], argTypes := #[dT, sT] }) (elem : TypeId) (K : Nat) (hu : P.underlying dT = some (.slice elem)) (hsz : (P.info? elem).map (·.size) = some K)
    (g off dLen dCap sCap : Nat) (hd : a.eval d = .slice (some ⟨g, off, none⟩) dLen dCap) (hs : a.eval s = .slice none 0 sCap)
    (h : wpList P ops Q rest (a.put o.dst (goInt 0)) w) : wpList P ops Q (o :: rest) a w := by
  refine wpList_plain hgd fun K' hK => ?_
  have hrun := run_copy_none (P := P) w dT sT o.type elem K g off dLen dCap sCap hu hsz
  unfold Oper.wp
  simp [execOp, ho, resolve, invoke, builtin, hd, hs, hrun, Result.andThen]
  exact hK _ _ h

theorem info_i64 : (Tryz.prog.info? 2).map (·.size) = some 1 := by kernel_rfl
theorem zrange (g : Nat) (W : World) (h : W.heap[g]? = some (.cells #[.int .i64 0, .int .i64 0, .int .i64 0, .int .i64 0, .int .i64 0, .int .i64 0, .int .i64 0, .int .i64 0, .int .i64 0, .int .i64 0, .int .i64 0, .int .i64 0, .int .i64 0, .int .i64 0, .int .i64 0, .int .i64 0, .int .i64 0, .int .i64 0, .int .i64 0, .int .i64 0, .int .i64 0, .int .i64 0, .int .i64 0, .int .i64 0] 75 (0, 0))) : W.rangeAt g 0 [.int .i64 0, .int .i64 0, .int .i64 0, .int .i64 0, .int .i64 0, .int .i64 0, .int .i64 0, .int .i64 0, .int .i64 0, .int .i64 0, .int .i64 0, .int .i64 0, .int .i64 0, .int .i64 0, .int .i64 0, .int .i64 0, .int .i64 0, .int .i64 0, .int .i64 0, .int .i64 0, .int .i64 0, .int .i64 0, .int .i64 0, .int .i64 0] ∧ W.there g 0 24 := by
  refine ⟨fun j u hu => ?_, fun j hj => ⟨?_, ?_⟩⟩
  · rw [Nat.zero_add, cell_of_row W g j _ _ (0, 0) h]; simpa using hu
  · rw [Nat.zero_add, cell_of_row W g j _ _ (0, 0) h, Array.getElem?_eq_getElem (show j < (#[.int .i64 0, .int .i64 0, .int .i64 0, .int .i64 0, .int .i64 0, .int .i64 0, .int .i64 0, .int .i64 0, .int .i64 0, .int .i64 0, .int .i64 0, .int .i64 0, .int .i64 0, .int .i64 0, .int .i64 0, .int .i64 0, .int .i64 0, .int .i64 0, .int .i64 0, .int .i64 0, .int .i64 0, .int .i64 0, .int .i64 0, .int .i64 0] : Array Value).size from hj)]; rfl
  · unfold World.frozen?; simp only [h]; simp
/-- the costs behind the copy -/
theorem copied {l : List Int} (h : l.length ≤ 24) : l.map (Value.int .i64) ++ ([.int .i64 0, .int .i64 0, .int .i64 0, .int .i64 0, .int .i64 0, .int .i64 0, .int .i64 0, .int .i64 0, .int .i64 0, .int .i64 0, .int .i64 0, .int .i64 0, .int .i64 0, .int .i64 0, .int .i64 0, .int .i64 0, .int .i64 0, .int .i64 0, .int .i64 0, .int .i64 0, .int .i64 0, .int .i64 0, .int .i64 0, .int .i64 0] : List Value).drop l.length = [.int .i64 (gl l 0), .int .i64 (gl l 1), .int .i64 (gl l 2), .int .i64 (gl l 3), .int .i64 (gl l 4), .int .i64 (gl l 5), .int .i64 (gl l 6), .int .i64 (gl l 7), .int .i64 (gl l 8), .int .i64 (gl l 9), .int .i64 (gl l 10), .int .i64 (gl l 11), .int .i64 (gl l 12), .int .i64 (gl l 13), .int .i64 (gl l 14), .int .i64 (gl l 15), .int .i64 (gl l 16), .int .i64 (gl l 17), .int .i64 (gl l 18), .int .i64 (gl l 19), .int .i64 (gl l 20), .int .i64 (gl l 21), .int .i64 (gl l 22), .int .i64 (gl l 23)] := by
  apply List.ext_getElem?
  intro j
  have hz : ∀ j, j < 24 → ([.int .i64 0, .int .i64 0, .int .i64 0, .int .i64 0, .int .i64 0, .int .i64 0, .int .i64 0, .int .i64 0, .int .i64 0, .int .i64 0, .int .i64 0, .int .i64 0, .int .i64 0, .int .i64 0, .int .i64 0, .int .i64 0, .int .i64 0, .int .i64 0, .int .i64 0, .int .i64 0, .int .i64 0, .int .i64 0, .int .i64 0, .int .i64 0] : List Value)[j]? = some (.int .i64 0) := by
    intro j hj
    match j, hj with
    | 0, _ => rfl
    | 1, _ => rfl
    | 2, _ => rfl
    | 3, _ => rfl
    | 4, _ => rfl
    | 5, _ => rfl
    | 6, _ => rfl
    | 7, _ => rfl
    | 8, _ => rfl
    | 9, _ => rfl
    | 10, _ => rfl
    | 11, _ => rfl
    | 12, _ => rfl
    | 13, _ => rfl
    | 14, _ => rfl
    | 15, _ => rfl
    | 16, _ => rfl
    | 17, _ => rfl
    | 18, _ => rfl
    | 19, _ => rfl
    | 20, _ => rfl
    | 21, _ => rfl
    | 22, _ => rfl
    | 23, _ => rfl
    | n + 24, h => omega
  have key : ∀ (f : Nat → Int) (j : Nat), j < 24 → [Value.int .i64 (f 0), Value.int .i64 (f 1), Value.int .i64 (f 2), Value.int .i64 (f 3), Value.int .i64 (f 4), Value.int .i64 (f 5), Value.int .i64 (f 6), Value.int .i64 (f 7), Value.int .i64 (f 8), Value.int .i64 (f 9), Value.int .i64 (f 10), Value.int .i64 (f 11), Value.int .i64 (f 12), Value.int .i64 (f 13), Value.int .i64 (f 14), Value.int .i64 (f 15), Value.int .i64 (f 16), Value.int .i64 (f 17), Value.int .i64 (f 18), Value.int .i64 (f 19), Value.int .i64 (f 20), Value.int .i64 (f 21), Value.int .i64 (f 22), Value.int .i64 (f 23)][j]? = some (Value.int .i64 (f j)) := by
    intro f j hj
    match j, hj with
    | 0, _ => rfl
    | 1, _ => rfl
    | 2, _ => rfl
    | 3, _ => rfl
    | 4, _ => rfl
    | 5, _ => rfl
    | 6, _ => rfl
    | 7, _ => rfl
    | 8, _ => rfl
    | 9, _ => rfl
    | 10, _ => rfl
    | 11, _ => rfl
    | 12, _ => rfl
    | 13, _ => rfl
    | 14, _ => rfl
    | 15, _ => rfl
    | 16, _ => rfl
    | 17, _ => rfl
    | 18, _ => rfl
    | 19, _ => rfl
    | 20, _ => rfl
    | 21, _ => rfl
    | 22, _ => rfl
    | 23, _ => rfl
    | n + 24, h => omega
  by_cases hj : j < 24
  · rw [key (gl l) j hj]
    by_cases hl : j < l.length
    · rw [List.getElem?_append_left (by simpa using hl)]
      simp [hl, gl]
    · rw [List.getElem?_append_right (by simp; omega), List.getElem?_drop, List.length_map, show l.length + (j - l.length) = j by omega, hz j hj]
      simp [gl, show l[j]? = none from by simp; omega]
  · rw [List.getElem?_eq_none (by simp; omega), List.getElem?_eq_none (by simp; omega)]

set_option maxRecDepth 100000 in
set_option maxHeartbeats 400000 in
/-- weigh -/
theorem weigh_in (l : List Int) (hlen : l.length ≤ 1073741824) (v : Value) (w : World) (hv : SRow w v (l.map (Value.int .i64))) (R : Value) (b : Bool) (hyes : wOk l = true → R = .agg #[.int .i64 (gl l 0), .int .i64 (gl l 1), .int .i64 (gl l 2), .int .i64 (gl l 3), .int .i64 (gl l 4), .int .i64 (gl l 5), .int .i64 (gl l 6), .int .i64 (gl l 7), .int .i64 (gl l 8), .int .i64 (gl l 9), .int .i64 (gl l 10), .int .i64 (gl l 11), .int .i64 (gl l 12), .int .i64 (gl l 13), .int .i64 (gl l 14), .int .i64 (gl l 15), .int .i64 (gl l 16), .int .i64 (gl l 17), .int .i64 (gl l 18), .int .i64 (gl l 19), .int .i64 (gl l 20), .int .i64 (gl l 21), .int .i64 (gl l 22), .int .i64 (gl l 23)] ∧ b = true) (hno : wOk l = false → R = .agg #[.int .i64 0, .int .i64 0, .int .i64 0, .int .i64 0, .int .i64 0, .int .i64 0, .int .i64 0, .int .i64 0, .int .i64 0, .int .i64 0, .int .i64 0, .int .i64 0, .int .i64 0, .int .i64 0, .int .i64 0, .int .i64 0, .int .i64 0, .int .i64 0, .int .i64 0, .int .i64 0, .int .i64 0, .int .i64 0, .int .i64 0, .int .i64 0] ∧ b = false) :
    Calls Tryz.prog 42 #[v] w fun e w' => e = .returned (.tuple #[R, .bool b]) ∧ Below w.heap.size w w' := by
  obtain ⟨a, cap, rfl⟩ := hv.form
  rw [List.length_map] at *
  go_enter Tryz.func42, Tryz.ntmps42
  go_upto_region 2 with fail
  have z2 := heap_alloc_new (w.alloc (.cells #[.int .i64 0, .int .i64 0, .int .i64 0, .int .i64 0, .int .i64 0, .int .i64 0, .int .i64 0, .int .i64 0, .int .i64 0, .int .i64 0, .int .i64 0, .int .i64 0, .int .i64 0, .int .i64 0, .int .i64 0, .int .i64 0, .int .i64 0, .int .i64 0, .int .i64 0, .int .i64 0, .int .i64 0, .int .i64 0, .int .i64 0, .int .i64 0] 75)) (.cells #[.int .i64 0, .int .i64 0, .int .i64 0, .int .i64 0, .int .i64 0, .int .i64 0, .int .i64 0, .int .i64 0, .int .i64 0, .int .i64 0, .int .i64 0, .int .i64 0, .int .i64 0, .int .i64 0, .int .i64 0, .int .i64 0, .int .i64 0, .int .i64 0, .int .i64 0, .int .i64 0, .int .i64 0, .int .i64 0, .int .i64 0, .int .i64 0] 75)
  rw [World.size_alloc] at z2
  have z1 := ((Fr.refl nob (w.alloc (.cells #[.int .i64 0, .int .i64 0, .int .i64 0, .int .i64 0, .int .i64 0, .int .i64 0, .int .i64 0, .int .i64 0, .int .i64 0, .int .i64 0, .int .i64 0, .int .i64 0, .int .i64 0, .int .i64 0, .int .i64 0, .int .i64 0, .int .i64 0, .int .i64 0, .int .i64 0, .int .i64 0, .int .i64 0, .int .i64 0, .int .i64 0, .int .i64 0] 75))).alloc (.cells #[.int .i64 0, .int .i64 0, .int .i64 0, .int .i64 0, .int .i64 0, .int .i64 0, .int .i64 0, .int .i64 0, .int .i64 0, .int .i64 0, .int .i64 0, .int .i64 0, .int .i64 0, .int .i64 0, .int .i64 0, .int .i64 0, .int .i64 0, .int .i64 0, .int .i64 0, .int .i64 0, .int .i64 0, .int .i64 0, .int .i64 0, .int .i64 0] 75)).block w.heap.size (by simp) (fun h => h) |>.trans (heap_alloc_new w _)
  have fr : Fr nob w ((w.alloc (.cells #[.int .i64 0, .int .i64 0, .int .i64 0, .int .i64 0, .int .i64 0, .int .i64 0, .int .i64 0, .int .i64 0, .int .i64 0, .int .i64 0, .int .i64 0, .int .i64 0, .int .i64 0, .int .i64 0, .int .i64 0, .int .i64 0, .int .i64 0, .int .i64 0, .int .i64 0, .int .i64 0, .int .i64 0, .int .i64 0, .int .i64 0, .int .i64 0] 75)).alloc (.cells #[.int .i64 0, .int .i64 0, .int .i64 0, .int .i64 0, .int .i64 0, .int .i64 0, .int .i64 0, .int .i64 0, .int .i64 0, .int .i64 0, .int .i64 0, .int .i64 0, .int .i64 0, .int .i64 0, .int .i64 0, .int .i64 0, .int .i64 0, .int .i64 0, .int .i64 0, .int .i64 0, .int .i64 0, .int .i64 0, .int .i64 0, .int .i64 0] 75)) := ((Fr.refl nob w).alloc _).alloc _
  generalize (w.alloc (.cells #[.int .i64 0, .int .i64 0, .int .i64 0, .int .i64 0, .int .i64 0, .int .i64 0, .int .i64 0, .int .i64 0, .int .i64 0, .int .i64 0, .int .i64 0, .int .i64 0, .int .i64 0, .int .i64 0, .int .i64 0, .int .i64 0, .int .i64 0, .int .i64 0, .int .i64 0, .int .i64 0, .int .i64 0, .int .i64 0, .int .i64 0, .int .i64 0] 75)).alloc (.cells #[.int .i64 0, .int .i64 0, .int .i64 0, .int .i64 0, .int .i64 0, .int .i64 0, .int .i64 0, .int .i64 0, .int .i64 0, .int .i64 0, .int .i64 0, .int .i64 0, .int .i64 0, .int .i64 0, .int .i64 0, .int .i64 0, .int .i64 0, .int .i64 0, .int .i64 0, .int .i64 0, .int .i64 0, .int .i64 0, .int .i64 0, .int .i64 0] 75) = W at *
  have hv2 := hv.kept fr
  obtain ⟨hr1, ht1⟩ := zrange _ _ z1
  obtain ⟨hr2, ht2⟩ := zrange _ _ z2
  have hi24 : (Tryz.prog.info? 75).map (·.size) = some ([.int .i64 0, .int .i64 0, .int .i64 0, .int .i64 0, .int .i64 0, .int .i64 0, .int .i64 0, .int .i64 0, .int .i64 0, .int .i64 0, .int .i64 0, .int .i64 0, .int .i64 0, .int .i64 0, .int .i64 0, .int .i64 0, .int .i64 0, .int .i64 0, .int .i64 0, .int .i64 0, .int .i64 0, .int .i64 0, .int .i64 0, .int .i64 0] : List Value).length := info_w
  have hi24' : (Tryz.prog.info? 75).map (·.size) = some (#[.int .i64 0, .int .i64 0, .int .i64 0, .int .i64 0, .int .i64 0, .int .i64 0, .int .i64 0, .int .i64 0, .int .i64 0, .int .i64 0, .int .i64 0, .int .i64 0, .int .i64 0, .int .i64 0, .int .i64 0, .int .i64 0, .int .i64 0, .int .i64 0, .int .i64 0, .int .i64 0, .int .i64 0, .int .i64 0, .int .i64 0, .int .i64 0] : Array Value).size := info_w
  have hr3 := World.rangeAt_setCells_same W w.heap.size 0 [.int .i64 0, .int .i64 0, .int .i64 0, .int .i64 0, .int .i64 0, .int .i64 0, .int .i64 0, .int .i64 0, .int .i64 0, .int .i64 0, .int .i64 0, .int .i64 0, .int .i64 0, .int .i64 0, .int .i64 0, .int .i64 0, .int .i64 0, .int .i64 0, .int .i64 0, .int .i64 0, .int .i64 0, .int .i64 0, .int .i64 0, .int .i64 0] ht1
  have hres := run_loadVar_mid (P := Tryz.prog) _ w.heap.size 0 75 [.int .i64 0, .int .i64 0, .int .i64 0, .int .i64 0, .int .i64 0, .int .i64 0, .int .i64 0, .int .i64 0, .int .i64 0, .int .i64 0, .int .i64 0, .int .i64 0, .int .i64 0, .int .i64 0, .int .i64 0, .int .i64 0, .int .i64 0, .int .i64 0, .int .i64 0, .int .i64 0, .int .i64 0, .int .i64 0, .int .i64 0, .int .i64 0] _ hr3 under_w rfl hi24
  have f3 := fr.trans' (fr_setCells w.heap.size [.int .i64 0, .int .i64 0, .int .i64 0, .int .i64 0, .int .i64 0, .int .i64 0, .int .i64 0, .int .i64 0, .int .i64 0, .int .i64 0, .int .i64 0, .int .i64 0, .int .i64 0, .int .i64 0, .int .i64 0, .int .i64 0, .int .i64 0, .int .i64 0, .int .i64 0, .int .i64 0, .int .i64 0, .int .i64 0, .int .i64 0, .int .i64 0] 0 W) (T := fun k => w.heap.size ≤ k) (fun _ _ h => h.elim) (fun k _ h => by have e : k = w.heap.size := h; omega)
  have HB := f3.to_below (B := w.heap.size) (Nat.le_refl _) (fun _ h => h)
  have HR2 := Lib.hid hr2
  have HT1 := Lib.hid ht1
  have HRES := Lib.hid hres
  have HBB := Lib.hid HB
  have HFR := Lib.hid fr
  have HZ1 := Lib.hid (Array.getElem?_eq_some_iff.1 z1).1
  have HI := Lib.hid hi24
  have HI' := Lib.hid hi24'
  have HYES := Lib.hid hyes
  have HNO := Lib.hid hno
  have z2' := z2
  clear hr1 hr2 ht1 ht2 hres HB fr z1 z2 hi24 hi24' hr3 f3 hyes hno
  by_cases h24 : l.length ≤ 24
  · have h24' : ¬ (24 : Int) < (l.length : Int) := by omega
    go_wp2_with fail
    go_loop [6, 13] (fun xv kv => ∃ k : Nat, k ≤ l.length ∧ kv = .int .i64 (k : Int) ∧ ∀ x ∈ l.take k, -2147483648 ≤ x ∧ x ≤ 2147483648) (fun _ kv => l.length - (intOf kv).toNat)
    case atStart => exact ⟨0, Nat.zero_le _, rfl, fun x hx => by simp at hx⟩
    case round =>
      obtain ⟨k, hk, rfl, hall⟩ := hrel
      by_cases hlt : k < l.length
      · have hk1 : (k : Int) < (l.length : Int) := by omega
        have hget : (l.map (Value.int .i64))[k]? = some (.int .i64 l[k]) := by simp [hlt]
        obtain ⟨g, rfl, y⟩ := hv2.at hget
        have hx : ∀ x, l[k] = x → ((-2147483648 ≤ x ∧ x ≤ 2147483648) → ∀ z ∈ l.take (k + 1), -2147483648 ≤ z ∧ z ≤ 2147483648) ∧ (¬ (-2147483648 ≤ x ∧ x ≤ 2147483648) → wOk l = false) := by
          intro x hx
          refine ⟨fun h z hz => ?_, fun h => ?_⟩
          · rw [List.take_add_one, List.mem_append] at hz
            rcases hz with hz | hz
            · exact hall z hz
            · simp [hlt] at hz
              rw [hz, hx]; exact h
          · rw [← Bool.not_eq_true, wOk_iff]
            exact fun h2 => h (hx ▸ h2.2 _ (List.getElem_mem hlt))
        generalize l[k] = x at *
        have HX := Lib.hid (hx x rfl)
        clear hget hx hall
        by_cases b1 : x < -2147483648
        · obtain ⟨rfl, rfl⟩ := HNO.out (HX.out.2 (by omega))
          go_upto_region 8 with fail
          refine wp_region_lit ?_
          refine wpList_load_mid rfl 75 (.tmp 4) rfl (w.heap.size + 1) 0 rfl [.int .i64 0, .int .i64 0, .int .i64 0, .int .i64 0, .int .i64 0, .int .i64 0, .int .i64 0, .int .i64 0, .int .i64 0, .int .i64 0, .int .i64 0, .int .i64 0, .int .i64 0, .int .i64 0, .int .i64 0, .int .i64 0, .int .i64 0, .int .i64 0, .int .i64 0, .int .i64 0, .int .i64 0, .int .i64 0, .int .i64 0, .int .i64 0] _ HR2.out under_w rfl HI.out ?_
          refine wpList_store_mid rfl 75 (.tmp 2) (.tmp 23) rfl w.heap.size 0 #[.int .i64 0, .int .i64 0, .int .i64 0, .int .i64 0, .int .i64 0, .int .i64 0, .int .i64 0, .int .i64 0, .int .i64 0, .int .i64 0, .int .i64 0, .int .i64 0, .int .i64 0, .int .i64 0, .int .i64 0, .int .i64 0, .int .i64 0, .int .i64 0, .int .i64 0, .int .i64 0, .int .i64 0, .int .i64 0, .int .i64 0, .int .i64 0] rfl rfl HT1.out HI'.out (by simp [Value.oneCell']) ?_
          go_wp2_with fail
          exact bodyPost_ret (v := .tuple #[.agg #[.int .i64 0, .int .i64 0, .int .i64 0, .int .i64 0, .int .i64 0, .int .i64 0, .int .i64 0, .int .i64 0, .int .i64 0, .int .i64 0, .int .i64 0, .int .i64 0, .int .i64 0, .int .i64 0, .int .i64 0, .int .i64 0, .int .i64 0, .int .i64 0, .int .i64 0, .int .i64 0, .int .i64 0, .int .i64 0, .int .i64 0, .int .i64 0], .bool false]) (by simp [results, Tryz.results42, asAddr, HRES.out]) rfl ⟨rfl, HBB.out⟩
        · by_cases b2 : 2147483648 < x
          · obtain ⟨rfl, rfl⟩ := HNO.out (HX.out.2 (by omega))
            go_upto_region 8 with fail
            refine wp_region_lit ?_
            refine wpList_load_mid rfl 75 (.tmp 4) rfl (w.heap.size + 1) 0 rfl [.int .i64 0, .int .i64 0, .int .i64 0, .int .i64 0, .int .i64 0, .int .i64 0, .int .i64 0, .int .i64 0, .int .i64 0, .int .i64 0, .int .i64 0, .int .i64 0, .int .i64 0, .int .i64 0, .int .i64 0, .int .i64 0, .int .i64 0, .int .i64 0, .int .i64 0, .int .i64 0, .int .i64 0, .int .i64 0, .int .i64 0, .int .i64 0] _ HR2.out under_w rfl HI.out ?_
            refine wpList_store_mid rfl 75 (.tmp 2) (.tmp 23) rfl w.heap.size 0 #[.int .i64 0, .int .i64 0, .int .i64 0, .int .i64 0, .int .i64 0, .int .i64 0, .int .i64 0, .int .i64 0, .int .i64 0, .int .i64 0, .int .i64 0, .int .i64 0, .int .i64 0, .int .i64 0, .int .i64 0, .int .i64 0, .int .i64 0, .int .i64 0, .int .i64 0, .int .i64 0, .int .i64 0, .int .i64 0, .int .i64 0, .int .i64 0] rfl rfl HT1.out HI'.out (by simp [Value.oneCell']) ?_
            go_wp2_with fail
            exact bodyPost_ret (v := .tuple #[.agg #[.int .i64 0, .int .i64 0, .int .i64 0, .int .i64 0, .int .i64 0, .int .i64 0, .int .i64 0, .int .i64 0, .int .i64 0, .int .i64 0, .int .i64 0, .int .i64 0, .int .i64 0, .int .i64 0, .int .i64 0, .int .i64 0, .int .i64 0, .int .i64 0, .int .i64 0, .int .i64 0, .int .i64 0, .int .i64 0, .int .i64 0, .int .i64 0], .bool false]) (by simp [results, Tryz.results42, asAddr, HRES.out]) rfl ⟨rfl, HBB.out⟩
          · go_wp2_with fail
            refine ⟨⟨k + 1, by omega, by go_num, HX.out.1 (by omega)⟩, by simp [intOf]; omega⟩
      · obtain rfl : k = l.length := by omega
        rw [List.take_length] at hall
        obtain ⟨rfl, rfl⟩ := HYES.out (wOk_iff.2 ⟨h24, hall⟩)
        have h64 : Tryz.prog.underlying 24 = some (.slice 2) := Tryz.underlying24
        have hcp := copied h24
        have HC := Lib.hid hcp
        clear hall hcp
        have fin : ∀ W' : World, Fr (fun k => k = w.heap.size + 1) W W' → W'.rangeAt (w.heap.size + 1) 0 [.int .i64 (gl l 0), .int .i64 (gl l 1), .int .i64 (gl l 2), .int .i64 (gl l 3), .int .i64 (gl l 4), .int .i64 (gl l 5), .int .i64 (gl l 6), .int .i64 (gl l 7), .int .i64 (gl l 8), .int .i64 (gl l 9), .int .i64 (gl l 10), .int .i64 (gl l 11), .int .i64 (gl l 12), .int .i64 (gl l 13), .int .i64 (gl l 14), .int .i64 (gl l 15), .int .i64 (gl l 16), .int .i64 (gl l 17), .int .i64 (gl l 18), .int .i64 (gl l 19), .int .i64 (gl l 20), .int .i64 (gl l 21), .int .i64 (gl l 22), .int .i64 (gl l 23)] → (W'.setCells w.heap.size 0 [.int .i64 (gl l 0), .int .i64 (gl l 1), .int .i64 (gl l 2), .int .i64 (gl l 3), .int .i64 (gl l 4), .int .i64 (gl l 5), .int .i64 (gl l 6), .int .i64 (gl l 7), .int .i64 (gl l 8), .int .i64 (gl l 9), .int .i64 (gl l 10), .int .i64 (gl l 11), .int .i64 (gl l 12), .int .i64 (gl l 13), .int .i64 (gl l 14), .int .i64 (gl l 15), .int .i64 (gl l 16), .int .i64 (gl l 17), .int .i64 (gl l 18), .int .i64 (gl l 19), .int .i64 (gl l 20), .int .i64 (gl l 21), .int .i64 (gl l 22), .int .i64 (gl l 23)]).rangeAt w.heap.size 0 [.int .i64 (gl l 0), .int .i64 (gl l 1), .int .i64 (gl l 2), .int .i64 (gl l 3), .int .i64 (gl l 4), .int .i64 (gl l 5), .int .i64 (gl l 6), .int .i64 (gl l 7), .int .i64 (gl l 8), .int .i64 (gl l 9), .int .i64 (gl l 10), .int .i64 (gl l 11), .int .i64 (gl l 12), .int .i64 (gl l 13), .int .i64 (gl l 14), .int .i64 (gl l 15), .int .i64 (gl l 16), .int .i64 (gl l 17), .int .i64 (gl l 18), .int .i64 (gl l 19), .int .i64 (gl l 20), .int .i64 (gl l 21), .int .i64 (gl l 22), .int .i64 (gl l 23)] ∧ Below w.heap.size w (W'.setCells w.heap.size 0 [.int .i64 (gl l 0), .int .i64 (gl l 1), .int .i64 (gl l 2), .int .i64 (gl l 3), .int .i64 (gl l 4), .int .i64 (gl l 5), .int .i64 (gl l 6), .int .i64 (gl l 7), .int .i64 (gl l 8), .int .i64 (gl l 9), .int .i64 (gl l 10), .int .i64 (gl l 11), .int .i64 (gl l 12), .int .i64 (gl l 13), .int .i64 (gl l 14), .int .i64 (gl l 15), .int .i64 (gl l 16), .int .i64 (gl l 17), .int .i64 (gl l 18), .int .i64 (gl l 19), .int .i64 (gl l 20), .int .i64 (gl l 21), .int .i64 (gl l 22), .int .i64 (gl l 23)]) ∧ W'.there w.heap.size 0 24 := fun W' f4 h4 => by
          have t4 := there_kept HT1.out f4 HZ1.out (show ¬ w.heap.size = w.heap.size + 1 by omega)
          refine ⟨World.rangeAt_setCells_same W' w.heap.size 0 [.int .i64 (gl l 0), .int .i64 (gl l 1), .int .i64 (gl l 2), .int .i64 (gl l 3), .int .i64 (gl l 4), .int .i64 (gl l 5), .int .i64 (gl l 6), .int .i64 (gl l 7), .int .i64 (gl l 8), .int .i64 (gl l 9), .int .i64 (gl l 10), .int .i64 (gl l 11), .int .i64 (gl l 12), .int .i64 (gl l 13), .int .i64 (gl l 14), .int .i64 (gl l 15), .int .i64 (gl l 16), .int .i64 (gl l 17), .int .i64 (gl l 18), .int .i64 (gl l 19), .int .i64 (gl l 20), .int .i64 (gl l 21), .int .i64 (gl l 22), .int .i64 (gl l 23)] t4, ?_, t4⟩
          exact ((HFR.out.trans' f4 (T := fun k => w.heap.size ≤ k) (fun _ _ h => h.elim) (fun k _ h => by have e : k = w.heap.size + 1 := h; omega)).trans (fr_setCells w.heap.size [.int .i64 (gl l 0), .int .i64 (gl l 1), .int .i64 (gl l 2), .int .i64 (gl l 3), .int .i64 (gl l 4), .int .i64 (gl l 5), .int .i64 (gl l 6), .int .i64 (gl l 7), .int .i64 (gl l 8), .int .i64 (gl l 9), .int .i64 (gl l 10), .int .i64 (gl l 11), .int .i64 (gl l 12), .int .i64 (gl l 13), .int .i64 (gl l 14), .int .i64 (gl l 15), .int .i64 (gl l 16), .int .i64 (gl l 17), .int .i64 (gl l 18), .int .i64 (gl l 19), .int .i64 (gl l 20), .int .i64 (gl l 21), .int .i64 (gl l 22), .int .i64 (gl l 23)] 0 W') (fun k _ h => by have e : k = w.heap.size := h; omega)).to_below (Nat.le_refl _) (fun _ h => h)
        have hi24g : (Tryz.prog.info? 75).map (·.size) = some ([.int .i64 (gl l 0), .int .i64 (gl l 1), .int .i64 (gl l 2), .int .i64 (gl l 3), .int .i64 (gl l 4), .int .i64 (gl l 5), .int .i64 (gl l 6), .int .i64 (gl l 7), .int .i64 (gl l 8), .int .i64 (gl l 9), .int .i64 (gl l 10), .int .i64 (gl l 11), .int .i64 (gl l 12), .int .i64 (gl l 13), .int .i64 (gl l 14), .int .i64 (gl l 15), .int .i64 (gl l 16), .int .i64 (gl l 17), .int .i64 (gl l 18), .int .i64 (gl l 19), .int .i64 (gl l 20), .int .i64 (gl l 21), .int .i64 (gl l 22), .int .i64 (gl l 23)] : List Value).length := info_w
        have hi24g' : (Tryz.prog.info? 75).map (·.size) = some (#[.int .i64 (gl l 0), .int .i64 (gl l 1), .int .i64 (gl l 2), .int .i64 (gl l 3), .int .i64 (gl l 4), .int .i64 (gl l 5), .int .i64 (gl l 6), .int .i64 (gl l 7), .int .i64 (gl l 8), .int .i64 (gl l 9), .int .i64 (gl l 10), .int .i64 (gl l 11), .int .i64 (gl l 12), .int .i64 (gl l 13), .int .i64 (gl l 14), .int .i64 (gl l 15), .int .i64 (gl l 16), .int .i64 (gl l 17), .int .i64 (gl l 18), .int .i64 (gl l 19), .int .i64 (gl l 20), .int .i64 (gl l 21), .int .i64 (gl l 22), .int .i64 (gl l 23)] : Array Value).size := info_w
        have HI24g := Lib.hid hi24g
        have HI24g' := Lib.hid hi24g'
        have HZ2 := Lib.hid z2'
        clear hi24g hi24g' z2'
        have done : ∀ W' : World, Fr (fun k => k = w.heap.size + 1) W W' → W'.rangeAt (w.heap.size + 1) 0 [.int .i64 (gl l 0), .int .i64 (gl l 1), .int .i64 (gl l 2), .int .i64 (gl l 3), .int .i64 (gl l 4), .int .i64 (gl l 5), .int .i64 (gl l 6), .int .i64 (gl l 7), .int .i64 (gl l 8), .int .i64 (gl l 9), .int .i64 (gl l 10), .int .i64 (gl l 11), .int .i64 (gl l 12), .int .i64 (gl l 13), .int .i64 (gl l 14), .int .i64 (gl l 15), .int .i64 (gl l 16), .int .i64 (gl l 17), .int .i64 (gl l 18), .int .i64 (gl l 19), .int .i64 (gl l 20), .int .i64 (gl l 21), .int .i64 (gl l 22), .int .i64 (gl l 23)] → (loadVar 75 ⟨w.heap.size, 0, none⟩).run Tryz.prog (W'.setCells w.heap.size 0 [.int .i64 (gl l 0), .int .i64 (gl l 1), .int .i64 (gl l 2), .int .i64 (gl l 3), .int .i64 (gl l 4), .int .i64 (gl l 5), .int .i64 (gl l 6), .int .i64 (gl l 7), .int .i64 (gl l 8), .int .i64 (gl l 9), .int .i64 (gl l 10), .int .i64 (gl l 11), .int .i64 (gl l 12), .int .i64 (gl l 13), .int .i64 (gl l 14), .int .i64 (gl l 15), .int .i64 (gl l 16), .int .i64 (gl l 17), .int .i64 (gl l 18), .int .i64 (gl l 19), .int .i64 (gl l 20), .int .i64 (gl l 21), .int .i64 (gl l 22), .int .i64 (gl l 23)]) = .ok (.agg #[.int .i64 (gl l 0), .int .i64 (gl l 1), .int .i64 (gl l 2), .int .i64 (gl l 3), .int .i64 (gl l 4), .int .i64 (gl l 5), .int .i64 (gl l 6), .int .i64 (gl l 7), .int .i64 (gl l 8), .int .i64 (gl l 9), .int .i64 (gl l 10), .int .i64 (gl l 11), .int .i64 (gl l 12), .int .i64 (gl l 13), .int .i64 (gl l 14), .int .i64 (gl l 15), .int .i64 (gl l 16), .int .i64 (gl l 17), .int .i64 (gl l 18), .int .i64 (gl l 19), .int .i64 (gl l 20), .int .i64 (gl l 21), .int .i64 (gl l 22), .int .i64 (gl l 23)]) (W'.setCells w.heap.size 0 [.int .i64 (gl l 0), .int .i64 (gl l 1), .int .i64 (gl l 2), .int .i64 (gl l 3), .int .i64 (gl l 4), .int .i64 (gl l 5), .int .i64 (gl l 6), .int .i64 (gl l 7), .int .i64 (gl l 8), .int .i64 (gl l 9), .int .i64 (gl l 10), .int .i64 (gl l 11), .int .i64 (gl l 12), .int .i64 (gl l 13), .int .i64 (gl l 14), .int .i64 (gl l 15), .int .i64 (gl l 16), .int .i64 (gl l 17), .int .i64 (gl l 18), .int .i64 (gl l 19), .int .i64 (gl l 20), .int .i64 (gl l 21), .int .i64 (gl l 22), .int .i64 (gl l 23)]) := fun W' f4 h4 =>
          run_loadVar_mid (P := Tryz.prog) _ w.heap.size 0 75 [.int .i64 (gl l 0), .int .i64 (gl l 1), .int .i64 (gl l 2), .int .i64 (gl l 3), .int .i64 (gl l 4), .int .i64 (gl l 5), .int .i64 (gl l 6), .int .i64 (gl l 7), .int .i64 (gl l 8), .int .i64 (gl l 9), .int .i64 (gl l 10), .int .i64 (gl l 11), .int .i64 (gl l 12), .int .i64 (gl l 13), .int .i64 (gl l 14), .int .i64 (gl l 15), .int .i64 (gl l 16), .int .i64 (gl l 17), .int .i64 (gl l 18), .int .i64 (gl l 19), .int .i64 (gl l 20), .int .i64 (gl l 21), .int .i64 (gl l 22), .int .i64 (gl l 23)] _ (fin W' f4 h4).1 under_w rfl HI24g.out
        have FIN := Lib.hid fin
        have DONE := Lib.hid done
        clear fin done
        cases a with
        | none =>
          have hl0 : l.length = 0 := by
            refine Classical.byContradiction fun h => ?_
            obtain ⟨g, h1, _⟩ := hv2.at (j := 0) (u := .int .i64 l[0]) (by simp [show 0 < l.length by omega])
            cases h1
          have hrg : W.rangeAt (w.heap.size + 1) 0 [.int .i64 (gl l 0), .int .i64 (gl l 1), .int .i64 (gl l 2), .int .i64 (gl l 3), .int .i64 (gl l 4), .int .i64 (gl l 5), .int .i64 (gl l 6), .int .i64 (gl l 7), .int .i64 (gl l 8), .int .i64 (gl l 9), .int .i64 (gl l 10), .int .i64 (gl l 11), .int .i64 (gl l 12), .int .i64 (gl l 13), .int .i64 (gl l 14), .int .i64 (gl l 15), .int .i64 (gl l 16), .int .i64 (gl l 17), .int .i64 (gl l 18), .int .i64 (gl l 19), .int .i64 (gl l 20), .int .i64 (gl l 21), .int .i64 (gl l 22), .int .i64 (gl l 23)] := by
            have e := HC.out
            have e0 : l = [] := List.length_eq_zero_iff.1 hl0
            subst e0
            exact HR2.out
          have F0 := Lib.hid (FIN.out W (Fr.refl _ _) hrg)
          have D0 := Lib.hid (DONE.out W (Fr.refl _ _) hrg)
          have HRG := Lib.hid hrg
          clear hrg
          have hl0' : (l.length : Int) = 0 := by omega
          go_upto_region 11 with (refine wpList_copy_none rfl (.tmp 25) (.tmp 26) 24 24 rfl 2 1 h64 info_i64 (w.heap.size + 1) 0 24 24 cap rfl (by first | rfl | (rw [hl0]; rfl)) ?_)
          refine wp_region_lit ?_
          refine wpList_load_mid rfl 75 (.tmp 4) rfl (w.heap.size + 1) 0 rfl [.int .i64 (gl l 0), .int .i64 (gl l 1), .int .i64 (gl l 2), .int .i64 (gl l 3), .int .i64 (gl l 4), .int .i64 (gl l 5), .int .i64 (gl l 6), .int .i64 (gl l 7), .int .i64 (gl l 8), .int .i64 (gl l 9), .int .i64 (gl l 10), .int .i64 (gl l 11), .int .i64 (gl l 12), .int .i64 (gl l 13), .int .i64 (gl l 14), .int .i64 (gl l 15), .int .i64 (gl l 16), .int .i64 (gl l 17), .int .i64 (gl l 18), .int .i64 (gl l 19), .int .i64 (gl l 20), .int .i64 (gl l 21), .int .i64 (gl l 22), .int .i64 (gl l 23)] _ HRG.out under_w rfl HI24g.out ?_
          refine wpList_store_mid rfl 75 (.tmp 2) (.tmp 28) rfl w.heap.size 0 #[.int .i64 (gl l 0), .int .i64 (gl l 1), .int .i64 (gl l 2), .int .i64 (gl l 3), .int .i64 (gl l 4), .int .i64 (gl l 5), .int .i64 (gl l 6), .int .i64 (gl l 7), .int .i64 (gl l 8), .int .i64 (gl l 9), .int .i64 (gl l 10), .int .i64 (gl l 11), .int .i64 (gl l 12), .int .i64 (gl l 13), .int .i64 (gl l 14), .int .i64 (gl l 15), .int .i64 (gl l 16), .int .i64 (gl l 17), .int .i64 (gl l 18), .int .i64 (gl l 19), .int .i64 (gl l 20), .int .i64 (gl l 21), .int .i64 (gl l 22), .int .i64 (gl l 23)] rfl rfl F0.out.2.2 HI24g'.out (by simp [Value.oneCell']) ?_
          go_wp2_with fail
          exact bodyPost_ret (v := .tuple #[.agg #[.int .i64 (gl l 0), .int .i64 (gl l 1), .int .i64 (gl l 2), .int .i64 (gl l 3), .int .i64 (gl l 4), .int .i64 (gl l 5), .int .i64 (gl l 6), .int .i64 (gl l 7), .int .i64 (gl l 8), .int .i64 (gl l 9), .int .i64 (gl l 10), .int .i64 (gl l 11), .int .i64 (gl l 12), .int .i64 (gl l 13), .int .i64 (gl l 14), .int .i64 (gl l 15), .int .i64 (gl l 16), .int .i64 (gl l 17), .int .i64 (gl l 18), .int .i64 (gl l 19), .int .i64 (gl l 20), .int .i64 (gl l 21), .int .i64 (gl l 22), .int .i64 (gl l 23)], .bool true]) (by simp [results, Tryz.results42, asAddr, D0.out]) rfl ⟨rfl, F0.out.2.1⟩
        | some ad =>
          have hsrc : ∀ j u, (l.map (Value.int .i64))[j]? = some u → W.cell? (ad.add j) = some u := fun j u hu => by
            obtain ⟨g, h1, h2⟩ := hv2.at hu
            cases h1
            rw [add_plain, Nat.zero_add]; exact h2
          have key : ∀ C : Array Value, C.toList = [.int .i64 (gl l 0), .int .i64 (gl l 1), .int .i64 (gl l 2), .int .i64 (gl l 3), .int .i64 (gl l 4), .int .i64 (gl l 5), .int .i64 (gl l 6), .int .i64 (gl l 7), .int .i64 (gl l 8), .int .i64 (gl l 9), .int .i64 (gl l 10), .int .i64 (gl l 11), .int .i64 (gl l 12), .int .i64 (gl l 13), .int .i64 (gl l 14), .int .i64 (gl l 15), .int .i64 (gl l 16), .int .i64 (gl l 17), .int .i64 (gl l 18), .int .i64 (gl l 19), .int .i64 (gl l 20), .int .i64 (gl l 21), .int .i64 (gl l 22), .int .i64 (gl l 23)] → Fr (fun k => k = w.heap.size + 1) W (W.setRow (w.heap.size + 1) C) ∧ (W.setRow (w.heap.size + 1) C).rangeAt (w.heap.size + 1) 0 [.int .i64 (gl l 0), .int .i64 (gl l 1), .int .i64 (gl l 2), .int .i64 (gl l 3), .int .i64 (gl l 4), .int .i64 (gl l 5), .int .i64 (gl l 6), .int .i64 (gl l 7), .int .i64 (gl l 8), .int .i64 (gl l 9), .int .i64 (gl l 10), .int .i64 (gl l 11), .int .i64 (gl l 12), .int .i64 (gl l 13), .int .i64 (gl l 14), .int .i64 (gl l 15), .int .i64 (gl l 16), .int .i64 (gl l 17), .int .i64 (gl l 18), .int .i64 (gl l 19), .int .i64 (gl l 20), .int .i64 (gl l 21), .int .i64 (gl l 22), .int .i64 (gl l 23)] := fun C hC => by
            refine ⟨⟨rfl, rfl, rfl, by simp [World.setRow], fun j _ hj => setRow_other W _ j _ hj⟩, fun j u hu => ?_⟩
            rw [Nat.zero_add]
            refine (cell_of_row _ (w.heap.size + 1) j _ _ (0, 0) (setRow_heap W (w.heap.size + 1) #[.int .i64 0, .int .i64 0, .int .i64 0, .int .i64 0, .int .i64 0, .int .i64 0, .int .i64 0, .int .i64 0, .int .i64 0, .int .i64 0, .int .i64 0, .int .i64 0, .int .i64 0, .int .i64 0, .int .i64 0, .int .i64 0, .int .i64 0, .int .i64 0, .int .i64 0, .int .i64 0, .int .i64 0, .int .i64 0, .int .i64 0, .int .i64 0] C _ (0, 0) HZ2.out)).trans ?_
            rw [← hC] at hu
            simpa using hu
          have KEY := Lib.hid key
          have HSRC := Lib.hid hsrc
          clear key hsrc
          go_upto_region 11 with (refine wpList_copyK rfl (.tmp 25) (.tmp 26) 24 24 rfl 2 1 h64 info_i64 (w.heap.size + 1) 0 24 24 ad l.length cap rfl rfl #[.int .i64 0, .int .i64 0, .int .i64 0, .int .i64 0, .int .i64 0, .int .i64 0, .int .i64 0, .int .i64 0, .int .i64 0, .int .i64 0, .int .i64 0, .int .i64 0, .int .i64 0, .int .i64 0, .int .i64 0, .int .i64 0, .int .i64 0, .int .i64 0, .int .i64 0, .int .i64 0, .int .i64 0, .int .i64 0, .int .i64 0, .int .i64 0] 75 HZ2.out (l.map (Value.int .i64)) ?hn HSRC.out ?hfit ?hone ?_)
          case hone => intro u hu; rfl
          refine (show ∀ C : Array Value, C.toList = [.int .i64 (gl l 0), .int .i64 (gl l 1), .int .i64 (gl l 2), .int .i64 (gl l 3), .int .i64 (gl l 4), .int .i64 (gl l 5), .int .i64 (gl l 6), .int .i64 (gl l 7), .int .i64 (gl l 8), .int .i64 (gl l 9), .int .i64 (gl l 10), .int .i64 (gl l 11), .int .i64 (gl l 12), .int .i64 (gl l 13), .int .i64 (gl l 14), .int .i64 (gl l 15), .int .i64 (gl l 16), .int .i64 (gl l 17), .int .i64 (gl l 18), .int .i64 (gl l 19), .int .i64 (gl l 20), .int .i64 (gl l 21), .int .i64 (gl l 22), .int .i64 (gl l 23)] → Code.wp _ _ _ _ (W.setRow (w.heap.size + 1) C) from fun C hC => ?_) _ ?hcc
          case hcc =>
            refine Eq.trans ?_ HC.out
            simp
          obtain ⟨frS, hrg⟩ := KEY.out C hC
          have F0 := Lib.hid (FIN.out _ frS hrg)
          have D0 := Lib.hid (DONE.out _ frS hrg)
          have HRG := Lib.hid hrg
          clear hrg frS hC
          refine wp_region_lit ?_
          refine wpList_load_mid rfl 75 (.tmp 4) rfl (w.heap.size + 1) 0 rfl [.int .i64 (gl l 0), .int .i64 (gl l 1), .int .i64 (gl l 2), .int .i64 (gl l 3), .int .i64 (gl l 4), .int .i64 (gl l 5), .int .i64 (gl l 6), .int .i64 (gl l 7), .int .i64 (gl l 8), .int .i64 (gl l 9), .int .i64 (gl l 10), .int .i64 (gl l 11), .int .i64 (gl l 12), .int .i64 (gl l 13), .int .i64 (gl l 14), .int .i64 (gl l 15), .int .i64 (gl l 16), .int .i64 (gl l 17), .int .i64 (gl l 18), .int .i64 (gl l 19), .int .i64 (gl l 20), .int .i64 (gl l 21), .int .i64 (gl l 22), .int .i64 (gl l 23)] _ HRG.out under_w rfl HI24g.out ?_
          refine wpList_store_mid rfl 75 (.tmp 2) (.tmp 28) rfl w.heap.size 0 #[.int .i64 (gl l 0), .int .i64 (gl l 1), .int .i64 (gl l 2), .int .i64 (gl l 3), .int .i64 (gl l 4), .int .i64 (gl l 5), .int .i64 (gl l 6), .int .i64 (gl l 7), .int .i64 (gl l 8), .int .i64 (gl l 9), .int .i64 (gl l 10), .int .i64 (gl l 11), .int .i64 (gl l 12), .int .i64 (gl l 13), .int .i64 (gl l 14), .int .i64 (gl l 15), .int .i64 (gl l 16), .int .i64 (gl l 17), .int .i64 (gl l 18), .int .i64 (gl l 19), .int .i64 (gl l 20), .int .i64 (gl l 21), .int .i64 (gl l 22), .int .i64 (gl l 23)] rfl rfl F0.out.2.2 HI24g'.out (by simp [Value.oneCell']) ?_
          go_wp2_with fail
          exact bodyPost_ret (v := .tuple #[.agg #[.int .i64 (gl l 0), .int .i64 (gl l 1), .int .i64 (gl l 2), .int .i64 (gl l 3), .int .i64 (gl l 4), .int .i64 (gl l 5), .int .i64 (gl l 6), .int .i64 (gl l 7), .int .i64 (gl l 8), .int .i64 (gl l 9), .int .i64 (gl l 10), .int .i64 (gl l 11), .int .i64 (gl l 12), .int .i64 (gl l 13), .int .i64 (gl l 14), .int .i64 (gl l 15), .int .i64 (gl l 16), .int .i64 (gl l 17), .int .i64 (gl l 18), .int .i64 (gl l 19), .int .i64 (gl l 20), .int .i64 (gl l 21), .int .i64 (gl l 22), .int .i64 (gl l 23)], .bool true]) (by simp [results, Tryz.results42, asAddr, D0.out]) rfl ⟨rfl, F0.out.2.1⟩
  · have hwo : wOk l = false := by rw [← Bool.not_eq_true, wOk_iff]; omega
    obtain ⟨rfl, rfl⟩ := HNO.out hwo
    have h24' : (24 : Int) < (l.length : Int) := by omega
    go_upto_region 3 with fail
    refine wp_region_lit ?_
    refine wpList_load_mid rfl 75 (.tmp 4) rfl (w.heap.size + 1) 0 rfl [.int .i64 0, .int .i64 0, .int .i64 0, .int .i64 0, .int .i64 0, .int .i64 0, .int .i64 0, .int .i64 0, .int .i64 0, .int .i64 0, .int .i64 0, .int .i64 0, .int .i64 0, .int .i64 0, .int .i64 0, .int .i64 0, .int .i64 0, .int .i64 0, .int .i64 0, .int .i64 0, .int .i64 0, .int .i64 0, .int .i64 0, .int .i64 0] _ HR2.out under_w rfl HI.out ?_
    refine wpList_store_mid rfl 75 (.tmp 2) (.tmp 10) rfl w.heap.size 0 #[.int .i64 0, .int .i64 0, .int .i64 0, .int .i64 0, .int .i64 0, .int .i64 0, .int .i64 0, .int .i64 0, .int .i64 0, .int .i64 0, .int .i64 0, .int .i64 0, .int .i64 0, .int .i64 0, .int .i64 0, .int .i64 0, .int .i64 0, .int .i64 0, .int .i64 0, .int .i64 0, .int .i64 0, .int .i64 0, .int .i64 0, .int .i64 0] rfl rfl HT1.out HI'.out (by simp [Value.oneCell']) ?_
    go_wp2_with fail
    exact bodyPost_ret (v := .tuple #[.agg #[.int .i64 0, .int .i64 0, .int .i64 0, .int .i64 0, .int .i64 0, .int .i64 0, .int .i64 0, .int .i64 0, .int .i64 0, .int .i64 0, .int .i64 0, .int .i64 0, .int .i64 0, .int .i64 0, .int .i64 0, .int .i64 0, .int .i64 0, .int .i64 0, .int .i64 0, .int .i64 0, .int .i64 0, .int .i64 0, .int .i64 0, .int .i64 0], .bool false]) (by simp [results, Tryz.results42, asAddr, HRES.out]) rfl ⟨rfl, HBB.out⟩

theorem weigh_any (l : List Int) (hlen : l.length ≤ 1073741824) (v : Value) (w : World) (hv : SRow w v (l.map (Value.int .i64))) : Calls Tryz.prog 42 #[v] w fun e w' => e = .returned (.tuple #[wv (wC l), .bool (wOk l)]) ∧ Below w.heap.size w w' :=
  weigh_in l hlen v w hv (wv (wC l)) (wOk l) (fun h => ⟨by unfold wC; rw [h]; rfl, h⟩) (fun h => ⟨by unfold wC; rw [h]; rfl, h⟩)
end Go.Proofs.YtalnhlebgofiiaaGreatDoor
namespace Go.Proofs.YtalnhlebgofiiaaGreatDoor
open Go.RowKit Go.Shelf
open Bd

/-- Linear, as a set and an error -/
noncomputable def linB (l : List Int) (rel : Nat) (bound : Int) : B :=
  if wOk l then (if rel = 1 then costB (wC l) (-1099511627776) bound 24 0 else if rel = 2 then costB (wC l) bound 1099511627776 24 0 else if rel = 3 then costB (wC l) bound bound 24 0 else .F) else .F
def linE (l : List Int) (rel : Nat) : Int := if wOk l then (if rel = 1 ∨ rel = 2 ∨ rel = 3 then 0 else 2) else 2
theorem ok_linB (l : List Int) (rel : Nat) (bound : Int) : (linB l rel bound).ok 0 := by
  unfold linB
  repeat' split
  all_goals first | exact ok_costB0 _ _ _ _ _ | trivial

set_option maxRecDepth 100000 in
set_option maxHeartbeats 400000 in
theorem lin_in (l : List Int) (v : Value) (rel : Nat) (bound : Int) (w : World) (hv : SRow w v (l.map (Value.int .i64))) (cw : Nat → Int) (ok : Bool) (C : Array Value) (hC : C.size = 24) (hC1 : C.all (·.oneCell') = true) (hcw : ∀ lo hi W, Calls Tryz.prog 113 #[.agg C, .int .i64 lo, .int .i64 hi] W fun e w' => e = .returned (dval (costB cw lo hi 24 0)) ∧ Below W.heap.size W w')
    (hw : ∀ W, SRow W v (l.map (Value.int .i64)) → Calls Tryz.prog 42 #[v] W fun e w' => e = .returned (.tuple #[.agg C, .bool ok]) ∧ Below W.heap.size W w')
    (b : B) (er : Int) (h0 : ok = false → b = .F ∧ er = 2) (h1 : ok = true → rel = 1 → b = costB cw (-1099511627776) bound 24 0 ∧ er = 0) (h2 : ok = true → rel = 2 → b = costB cw bound 1099511627776 24 0 ∧ er = 0) (h3 : ok = true → rel = 3 → b = costB cw bound bound 24 0 ∧ er = 0) (h4 : ok = true → rel ≠ 1 → rel ≠ 2 → rel ≠ 3 → b = .F ∧ er = 2) :
    Calls Tryz.prog 75 #[v, .int .u8 (rel : Int), .int .i64 bound] w fun e w' => e = .returned (.tuple #[dval b, .int .i64 er]) ∧ Below w.heap.size w w' := by
  obtain ⟨a, cap, rfl⟩ := hv.form
  rw [List.length_map] at *
  have rb := Box2.new w (.int .u32 0) (.string ⟨#[]⟩) 32
  have hv1 := hv.kept ((Fr.refl nob w).alloc (.cells #[.int .u32 0, .string ⟨#[]⟩] 32))
  have hwc := hw _ hv1
  have H0 := Lib.hid h0
  have H1 := Lib.hid h1
  have H2 := Lib.hid h2
  have H3 := Lib.hid h3
  have H4 := Lib.hid h4
  have HCW := Lib.hid hcw
  have fr1 : Fr nob w (w.alloc (.cells #[.int .u32 0, .string ⟨#[]⟩] 32)) := (Fr.refl nob w).alloc _
  clear h0 h1 h2 h3 h4 hcw hw hv hv1
  go_enter Tryz.func75, Tryz.ntmps75
  go_wp2_with fail
  refine hwc.mono ?_
  rintro e w2 ⟨rfl, hb2⟩
  have fr2 := fr1.below hb2
  have rb2 := rb.kept ((Fr.refl nob _).below hb2) (fun h => h)
  clear hwc hb2 fr1 rb
  have box := heap_alloc_new w2 (.cells #[.int .i64 0, .int .i64 0, .int .i64 0, .int .i64 0, .int .i64 0, .int .i64 0, .int .i64 0, .int .i64 0, .int .i64 0, .int .i64 0, .int .i64 0, .int .i64 0, .int .i64 0, .int .i64 0, .int .i64 0, .int .i64 0, .int .i64 0, .int .i64 0, .int .i64 0, .int .i64 0, .int .i64 0, .int .i64 0, .int .i64 0, .int .i64 0] 75)
  have fr3 := fr2.alloc (.cells #[.int .i64 0, .int .i64 0, .int .i64 0, .int .i64 0, .int .i64 0, .int .i64 0, .int .i64 0, .int .i64 0, .int .i64 0, .int .i64 0, .int .i64 0, .int .i64 0, .int .i64 0, .int .i64 0, .int .i64 0, .int .i64 0, .int .i64 0, .int .i64 0, .int .i64 0, .int .i64 0, .int .i64 0, .int .i64 0, .int .i64 0, .int .i64 0] 75)
  have rb3 := rb2.kept ((Fr.refl nob w2).alloc (.cells #[.int .i64 0, .int .i64 0, .int .i64 0, .int .i64 0, .int .i64 0, .int .i64 0, .int .i64 0, .int .i64 0, .int .i64 0, .int .i64 0, .int .i64 0, .int .i64 0, .int .i64 0, .int .i64 0, .int .i64 0, .int .i64 0, .int .i64 0, .int .i64 0, .int .i64 0, .int .i64 0, .int .i64 0, .int .i64 0, .int .i64 0, .int .i64 0] 75)) (fun h => h)
  have lt2 := rb2.lt
  have hst0 := run_storeCells_from (P := Tryz.prog) w2.heap.size 75 C.toList 0 #[.int .i64 0, .int .i64 0, .int .i64 0, .int .i64 0, .int .i64 0, .int .i64 0, .int .i64 0, .int .i64 0, .int .i64 0, .int .i64 0, .int .i64 0, .int .i64 0, .int .i64 0, .int .i64 0, .int .i64 0, .int .i64 0, .int .i64 0, .int .i64 0, .int .i64 0, .int .i64 0, .int .i64 0, .int .i64 0, .int .i64 0, .int .i64 0] _ box (by rw [Array.length_toList, hC]; rfl) (fun v hv => (Array.all_eq_true_iff_forall_mem.1 hC1) v (by simpa using hv))
  have hrow := setRow_heap (w2.alloc (.cells #[.int .i64 0, .int .i64 0, .int .i64 0, .int .i64 0, .int .i64 0, .int .i64 0, .int .i64 0, .int .i64 0, .int .i64 0, .int .i64 0, .int .i64 0, .int .i64 0, .int .i64 0, .int .i64 0, .int .i64 0, .int .i64 0, .int .i64 0, .int .i64 0, .int .i64 0, .int .i64 0, .int .i64 0, .int .i64 0, .int .i64 0, .int .i64 0] 75)) w2.heap.size #[.int .i64 0, .int .i64 0, .int .i64 0, .int .i64 0, .int .i64 0, .int .i64 0, .int .i64 0, .int .i64 0, .int .i64 0, .int .i64 0, .int .i64 0, .int .i64 0, .int .i64 0, .int .i64 0, .int .i64 0, .int .i64 0, .int .i64 0, .int .i64 0, .int .i64 0, .int .i64 0, .int .i64 0, .int .i64 0, .int .i64 0, .int .i64 0] ((#[.int .i64 0, .int .i64 0, .int .i64 0, .int .i64 0, .int .i64 0, .int .i64 0, .int .i64 0, .int .i64 0, .int .i64 0, .int .i64 0, .int .i64 0, .int .i64 0, .int .i64 0, .int .i64 0, .int .i64 0, .int .i64 0, .int .i64 0, .int .i64 0, .int .i64 0, .int .i64 0, .int .i64 0, .int .i64 0, .int .i64 0, .int .i64 0] : Array Value).toList.take 0 ++ C.toList).toArray _ (0, 0) box
  have frs : Fr (fun k => k = w2.heap.size) (w2.alloc (.cells #[.int .i64 0, .int .i64 0, .int .i64 0, .int .i64 0, .int .i64 0, .int .i64 0, .int .i64 0, .int .i64 0, .int .i64 0, .int .i64 0, .int .i64 0, .int .i64 0, .int .i64 0, .int .i64 0, .int .i64 0, .int .i64 0, .int .i64 0, .int .i64 0, .int .i64 0, .int .i64 0, .int .i64 0, .int .i64 0, .int .i64 0, .int .i64 0] 75)) ((w2.alloc (.cells #[.int .i64 0, .int .i64 0, .int .i64 0, .int .i64 0, .int .i64 0, .int .i64 0, .int .i64 0, .int .i64 0, .int .i64 0, .int .i64 0, .int .i64 0, .int .i64 0, .int .i64 0, .int .i64 0, .int .i64 0, .int .i64 0, .int .i64 0, .int .i64 0, .int .i64 0, .int .i64 0, .int .i64 0, .int .i64 0, .int .i64 0, .int .i64 0] 75)).setRow w2.heap.size ((#[.int .i64 0, .int .i64 0, .int .i64 0, .int .i64 0, .int .i64 0, .int .i64 0, .int .i64 0, .int .i64 0, .int .i64 0, .int .i64 0, .int .i64 0, .int .i64 0, .int .i64 0, .int .i64 0, .int .i64 0, .int .i64 0, .int .i64 0, .int .i64 0, .int .i64 0, .int .i64 0, .int .i64 0, .int .i64 0, .int .i64 0, .int .i64 0] : Array Value).toList.take 0 ++ C.toList).toArray) := ⟨rfl, rfl, rfl, by simp [World.setRow], fun j _ hj => setRow_other _ _ j _ hj⟩
  obtain ⟨W3, hW3⟩ : ∃ W3, W3 = ((w2.alloc (.cells #[.int .i64 0, .int .i64 0, .int .i64 0, .int .i64 0, .int .i64 0, .int .i64 0, .int .i64 0, .int .i64 0, .int .i64 0, .int .i64 0, .int .i64 0, .int .i64 0, .int .i64 0, .int .i64 0, .int .i64 0, .int .i64 0, .int .i64 0, .int .i64 0, .int .i64 0, .int .i64 0, .int .i64 0, .int .i64 0, .int .i64 0, .int .i64 0] 75)).setRow w2.heap.size ((#[.int .i64 0, .int .i64 0, .int .i64 0, .int .i64 0, .int .i64 0, .int .i64 0, .int .i64 0, .int .i64 0, .int .i64 0, .int .i64 0, .int .i64 0, .int .i64 0, .int .i64 0, .int .i64 0, .int .i64 0, .int .i64 0, .int .i64 0, .int .i64 0, .int .i64 0, .int .i64 0, .int .i64 0, .int .i64 0, .int .i64 0, .int .i64 0] : Array Value).toList.take 0 ++ C.toList).toArray) := ⟨_, rfl⟩
  rw [← hW3] at hst0 hrow frs
  rw [List.take_zero, List.nil_append, Array.toArray_toList] at hrow
  have hr3 : W3.rangeAt w2.heap.size 0 C.toList := fun j u h => by rw [Nat.zero_add, cell_of_row W3 w2.heap.size j _ _ (0, 0) hrow]; simpa using h
  have hi24 : (Tryz.prog.info? 75).map (·.size) = some C.toList.length := by rw [Array.length_toList, hC]; exact info_w
  replace fr3 := fr3.trans' frs (T := nob) (fun _ _ h => h) (fun k hk h => by have e : k = w2.heap.size := h; have := fr2.size; omega)
  replace rb3 := rb3.kept frs (show ¬ w.heap.size = w2.heap.size by omega)
  have HI := Lib.hid hi24
  have HR := Lib.hid hr3
  have hsz24 : C.size = 24 := hC
  clear hrow frs hi24 hr3 hW3 box
  go_upto_region 2 with fail
  have ⟨r0, r1, rf⟩ := rb3
  have rf0 := rf 0
  have rf1 := rf 1
  clear rf fr2 rb2
  have Z := (rb3.set (.int .u32 0) (.string ⟨#[]⟩)).1
  have HZ := Lib.hid Z
  have HB : Below w.heap.size w ((W3.setCell ⟨w.heap.size, 0, none⟩ (.int .u32 0)).setCell ⟨w.heap.size, 1, none⟩ (.string ⟨#[]⟩)) := ((fr3.set1 (Nat.le_refl _) _).set1 (Nat.le_refl _) _).to_below (Nat.le_refl _) (fun _ h => h.elim)
  have HBB := Lib.hid HB
  clear Z HB
  cases ok with
  | false =>
    obtain ⟨rfl, rfl⟩ := H0.out rfl
    go_wp2_with fail
    have ⟨q0, q1, _⟩ := HZ.out
    exact bodyPost_ret (v := .tuple #[dval .F, .int .i64 2]) (by simp [results, Tryz.results75, go_sem, q0, q1]; exact ⟨rfl, rfl⟩) rfl ⟨rfl, HBB.out⟩
  | true =>
    by_cases e1 : rel = 1
    · subst e1
      obtain ⟨rfl, rfl⟩ := H1.out rfl rfl
      go_upto_region 6 with fail
      refine wp_region_lit ?_
      refine wpList_load_mid rfl 75 (.tmp 8) rfl w2.heap.size 0 rfl C.toList _ HR.out under_w rfl HI.out ?_
      go_wp2_with fail
      refine (HCW.out _ _ _).mono ?_
      rintro e w4 ⟨rfl, hb4⟩
      have rb4 := rb3.kept ((Fr.refl nob W3).below hb4) (fun h => h)
      have G := fr3.below hb4
      have ⟨s0, s1, sf⟩ := rb4
      have sf0 := sf 0
      have sf1 := sf 1
      clear sf
      go_wp2_with fail
      obtain ⟨R', _⟩ := rb4.set (.int .u32 (place (li (costB cw (-1099511627776) bound 24 0)) (costB cw (-1099511627776) bound 24 0) : Int)) (.string ⟨(code (rows (li (costB cw (-1099511627776) bound 24 0)))).toArray⟩)
      have ⟨q0, q1, _⟩ := R'
      refine bodyPost_ret (v := .tuple #[dval (costB cw (-1099511627776) bound 24 0), .int .i64 0]) (by simp [results, Tryz.results75, go_sem, q0, q1]) rfl ⟨rfl, ?_⟩
      exact ((G.set1 (Nat.le_refl _) _).set1 (Nat.le_refl _) _).to_below (Nat.le_refl _) (fun _ h => h.elim)
    · by_cases e2 : rel = 2
      · subst e2
        obtain ⟨rfl, rfl⟩ := H2.out rfl rfl
        go_upto_region 8 with fail
        refine wp_region_lit ?_
        refine wpList_load_mid rfl 75 (.tmp 8) rfl w2.heap.size 0 rfl C.toList _ HR.out under_w rfl HI.out ?_
        go_wp2_with fail
        refine (HCW.out _ _ _).mono ?_
        rintro e w4 ⟨rfl, hb4⟩
        have rb4 := rb3.kept ((Fr.refl nob W3).below hb4) (fun h => h)
        have G := fr3.below hb4
        have ⟨s0, s1, sf⟩ := rb4
        have sf0 := sf 0
        have sf1 := sf 1
        clear sf
        go_wp2_with fail
        obtain ⟨R', _⟩ := rb4.set (.int .u32 (place (li (costB cw bound 1099511627776 24 0)) (costB cw bound 1099511627776 24 0) : Int)) (.string ⟨(code (rows (li (costB cw bound 1099511627776 24 0)))).toArray⟩)
        have ⟨q0, q1, _⟩ := R'
        refine bodyPost_ret (v := .tuple #[dval (costB cw bound 1099511627776 24 0), .int .i64 0]) (by simp [results, Tryz.results75, go_sem, q0, q1]) rfl ⟨rfl, ?_⟩
        exact ((G.set1 (Nat.le_refl _) _).set1 (Nat.le_refl _) _).to_below (Nat.le_refl _) (fun _ h => h.elim)
      · by_cases e3 : rel = 3
        · subst e3
          obtain ⟨rfl, rfl⟩ := H3.out rfl rfl
          go_upto_region 10 with fail
          refine wp_region_lit ?_
          refine wpList_load_mid rfl 75 (.tmp 8) rfl w2.heap.size 0 rfl C.toList _ HR.out under_w rfl HI.out ?_
          go_wp2_with fail
          refine (HCW.out _ _ _).mono ?_
          rintro e w4 ⟨rfl, hb4⟩
          have rb4 := rb3.kept ((Fr.refl nob W3).below hb4) (fun h => h)
          have G := fr3.below hb4
          have ⟨s0, s1, sf⟩ := rb4
          have sf0 := sf 0
          have sf1 := sf 1
          clear sf
          go_wp2_with fail
          obtain ⟨R', _⟩ := rb4.set (.int .u32 (place (li (costB cw bound bound 24 0)) (costB cw bound bound 24 0) : Int)) (.string ⟨(code (rows (li (costB cw bound bound 24 0)))).toArray⟩)
          have ⟨q0, q1, _⟩ := R'
          refine bodyPost_ret (v := .tuple #[dval (costB cw bound bound 24 0), .int .i64 0]) (by simp [results, Tryz.results75, go_sem, q0, q1]) rfl ⟨rfl, ?_⟩
          exact ((G.set1 (Nat.le_refl _) _).set1 (Nat.le_refl _) _).to_below (Nat.le_refl _) (fun _ h => h.elim)
        · obtain ⟨rfl, rfl⟩ := H4.out rfl e1 e2 e3
          have n1 : ((rel : Int) == 1) = false := by simp only [beq_eq_false_iff_ne]; omega
          have n2 : ((rel : Int) == 2) = false := by simp only [beq_eq_false_iff_ne]; omega
          have n3 : ((rel : Int) == 3) = false := by simp only [beq_eq_false_iff_ne]; omega
          go_wp2_with fail
          have ⟨q0, q1, _⟩ := HZ.out
          exact bodyPost_ret (v := .tuple #[dval .F, .int .i64 2]) (by simp [results, Tryz.results75, go_sem, q0, q1]; exact ⟨rfl, rfl⟩) rfl ⟨rfl, HBB.out⟩

theorem Linear_any (l : List Int) (hlen : l.length ≤ 1073741824) (v : Value) (rel : Nat) (bound : Int) (w : World) (hv : SRow w v (l.map (Value.int .i64))) :
    Calls Tryz.prog 75 #[v, .int .u8 (rel : Int), .int .i64 bound] w fun e w' => e = .returned (.tuple #[dval (linB l rel bound), .int .i64 (linE l rel)]) ∧ Below w.heap.size w w' := by
  refine lin_in l v rel bound w hv (wC l) (wOk l) _ rfl (by simp [Value.oneCell']) (fun lo hi W => costing_any (wC_bound l) W) (fun W h => weigh_any l hlen v W h) _ _ ?_ ?_ ?_ ?_ ?_
  · intro h; simp [linB, linE, h]
  · rintro h rfl; simp [linB, linE, h]
  · rintro h rfl; simp [linB, linE, h]
  · rintro h rfl; simp [linB, linE, h]
  · intro h a b c; simp [linB, linE, h, a, b, c]
end Go.Proofs.YtalnhlebgofiiaaGreatDoor
