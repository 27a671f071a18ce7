import Derived.Test.YtfhjpldlhhgcnaaDoorVis
import Derived.Laws.BytesString
import Derived.Laws.Cells
namespace Go.Proofs.YtfhjpldlhhgcnaaDoor
open Go.RowKit
open Bd

/-- a set as a value of the program -/
noncomputable abbrev dval (b : B) : Value := .agg #[.int .u32 (place (li b) b : Int), .string ⟨(code (rows (li b))).toArray⟩]

theorem fold_push : ∀ (l : List UInt8) (s : ByteArray), (l.map fun x => (x.toNat : Int)).foldl (fun r n => r.push (UInt8.ofNat n.toNat)) s = ⟨s.data ++ l.toArray⟩
  | [], s => by simp
  | x :: l, s => by
    simp only [List.map_cons, List.foldl_cons]
    rw [fold_push l]
    congr 1
    simp [ByteArray.push]

theorem run_string_of_row {w : World} {v : Value} {n : Nat} {l : List UInt8} (h : w.ownsRow 0 5 1 v n (bs l)) : (convert 154 9 v).run Tryd.prog w = .ok (.string ⟨l.toArray⟩) w := by
  have hlen : l.length = n := by have := h.1; simp [bs] at this; omega
  rcases h.2 with ⟨rfl, h0⟩ | ⟨g, cap, cur, rfl, _⟩
  · rw [run_convert_bytes_string w _ _ 5 _ _ _ Tryd.underlying154 Tryd.underlying5 Tryd.underlying9]
    have : l = [] := List.length_eq_zero_iff.1 (by omega)
    subst this
    rfl
  · rw [run_convert_bytes_string w _ _ 5 _ _ _ Tryd.underlying154 Tryd.underlying5 Tryd.underlying9]
    have e : (loadCells ⟨g, 0, none⟩ n).run Tryd.prog w = .ok ((l.map fun x => (x.toNat : Int)).map (Value.int .u8)).toArray w := by
      have := run_loadCells_list (P := Tryd.prog) (w := w) ⟨g, 0, none⟩ (bs l) (h.cells rfl)
      rw [show (bs l).length = n by simp [bs, hlen]] at this
      rw [this, bs, List.map_map]
      rfl
    rw [run_bytesToString w _ _ _ _ e, fold_push]
    simp

set_option maxRecDepth 100000 in
set_option maxHeartbeats 400000 in
theorem newWork_any (w : World) : Calls Tryd.prog 67 #[] w fun e w' => ∃ wb mb, e = .returned (.pointer (some ⟨wb, 0, none⟩)) ∧ Work w' wb mb (.slice none 0 0) [] ∧ Fr nob w w' ∧ w.heap.size ≤ wb ∧ w.heap.size ≤ mb := by
  have hmm := @run_makeMap Tryd.prog
  go_enter Tryd.func67, Tryd.ntmps67
  go_wp2
  go_ret
  have hm := IsMap.made w Tryd.prog 123 nk
  have fr : Fr nob (w.alloc (.map #[] 0)) ((w.alloc (.map #[] 0)).alloc (.cells #[.slice none 0 0, .map (some w.heap.size)] 156)) := (Fr.refl nob _).alloc _
  refine ⟨w.heap.size + 1, w.heap.size, rfl, ⟨⟨World.cell?_alloc_at _ _ _ _ (by simp), World.cell?_alloc_at _ _ _ _ (by simp), World.frozen?_alloc_at _ _ _ _ (by simp), World.ownsRow_nil _ _ _ _, fr.map hm (fun h => h), by omega, fun g h => by cases h⟩, trivial, ⟨by simp, by simp⟩⟩, ((Fr.refl nob w).alloc _).alloc _, by omega, Nat.le_refl _⟩

set_option maxRecDepth 100000 in
set_option maxHeartbeats 400000 in
theorem set_any (wb mb : Nat) (v : Value) (R : List B) (p : Nat) (w : World) (hW : Work w wb mb v R) :
    Calls Tryd.prog 69 #[.pointer (some ⟨wb, 0, none⟩), .int .u32 (p : Int)] w fun e w' => e = .returned (.agg #[.int .u32 (p : Int), .string ⟨(code (rows R)).toArray⟩]) ∧ Below w.heap.size w w' := by
  have hc := cell_alloc_l hW.wk.code
  have hwb := lt_of_cell hW.wk.code
  have hcv := fun o => run_string_of_row (hW.wk.row.alloc o)
  go_enter Tryd.func69, Tryd.ntmps69
  go_wp2
  exact bodyPost_ret (v := .agg #[.int .u32 (p : Int), .string ⟨(code (rows R)).toArray⟩]) (by simp [results, Tryd.results69, go_sem]) rfl ⟨rfl, (Below.refl _ _).alloc (Nat.le_refl _) _⟩
end Go.Proofs.YtfhjpldlhhgcnaaDoor
