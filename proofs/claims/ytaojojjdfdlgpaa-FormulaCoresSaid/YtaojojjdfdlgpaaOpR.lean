/- Arguments that are lists of numbers, or lists of these, opened: from the reading as data to lists in memory. -/
import Derived.Test.YtaojojjdfdlgpaaChecked
import Derived.Test.YtaojojjdfdlgpaaRw
import Derived.WalkKit
import Derived.ProofKit
import Derived.OpenShut
import Derived.Carry
import Derived.Deep.Slices
import Derived.Deep.Matrix
import Derived.ChangeSame
import Derived.ChangeMaps5
namespace Go.Proofs.Ytaojojjdfdlgpaa
open Go.ChangeShapes Go.WideShapes Go.ChangeAt Go.RowKit Go.WideElems Go.Deep

section
variable {H : Type} {enc : TypeId × Value → H} {w : World} {base : Nat} {held : Bool}
theorem addr_off (ab ao j : Nat) : (⟨ab, ao, none⟩ : Addr).add j = ⟨ab, ao + j, none⟩ := by
  unfold Addr.add
  split
  · rename_i h; subst h; rfl
  · rfl
theorem intSize1 : Try.prog.cellsOf 3 = 1 := by kernel_rfl
theorem intsSize1 : Try.prog.cellsOf 37 = 1 := by kernel_rfl
theorem take_get {zs : List Int} {L j : Nat} {x : Int} (h : (zs.take L)[j]? = some x) : j < L ∧ zs.getD j 0 = x := by
  have h1 := List.getElem?_take (l := zs) (i := L) (j := j)
  rw [h] at h1
  split at h1
  · rename_i hl
    exact ⟨hl, by rw [List.getD_eq_getElem?_getD, ← h1]; rfl⟩
  · cases h1
theorem ints_of (A : Option Addr) (L C : Nat) (zs : List Int) (h1 : L ≤ C) (h2 : zs.length = C) (h3 : A = none → C = 0)
    (h4 : ∀ a', A = some a' → ∀ c, c < C → w.cell? (a'.add c) = some (.int .i64 (zs.getD c 0))) : IntsO w (fun b => b < w.heap.size) (zs.take L) (.slice A L C) := by
  have hl : (zs.take L).length = L := by rw [List.length_take]; omega
  refine ⟨A, C, by rw [hl], h3, fun hne => ?_⟩
  have hpos : 0 < L := by rw [← hl]; exact List.length_pos_iff.2 hne
  cases A with
  | none => have := h3 rfl; omega
  | some a' =>
    have c0 := h4 a' rfl 0 (by omega)
    obtain ⟨ab, ao, sp⟩ := a'
    have hsp : sp = none := by
      have := World.cell?_spot c0
      exact this
    subst hsp
    have hlt := World.block_lt_of_cell? w _ c0
    rw [addr_off] at hlt
    refine ⟨ab, ao, rfl, hlt, fun j x hj => ?_⟩
    obtain ⟨hj1, hj2⟩ := take_get hj
    have := h4 _ rfl j (by omega)
    rw [addr_off, hj2] at this
    exact this
theorem open_rows {fuel : Nat} {cs : List Value} {x : DataW H × List MemPlace} (h : DataW.trod enc Try.prog w base (fun _ => true) held fuel 36 cs = some x) :
    ∃ (l : List (List Int)) (v : Value), cs = [v] ∧ RowsO w (fun b => b < w.heap.size) l v ∧ Wide l := by
  rcases open_int_rows Try.underlying36 Try.underlying37 Try.underlying3 intsSize1 intSize1 h with ⟨hc, _⟩ | ⟨a, len, cap, A, L, C, Z, hc, _, hl, hm, _, hr⟩
  · exact ⟨[], _, hc, ⟨none, 0, rfl, fun _ => rfl, fun e => absurd rfl e⟩, by unfold Wide; simp⟩
  · have hlen : ((List.range len).map fun r => (Z r).take (L r)).length = len := by simp
    have hmax : ∀ r, r < len → ((Z r).take (L r)).length ≤ 9223372036854775807 := fun r hrl => by
      obtain ⟨_, r1, r2, r3, _⟩ := hr r (by omega)
      rw [List.length_take]
      unfold maxLen at r2
      omega
    refine ⟨(List.range len).map fun r => (Z r).take (L r), _, hc, ⟨some a, cap, by rw [hlen], (fun e => by cases e), fun hne => ?_⟩, by rw [hlen]; unfold maxLen at hm; omega, fun r hrm => ?_⟩
    · have hpos : 0 < len := by rw [← hlen]; exact List.length_pos_iff.2 hne
      have c0 := (hr 0 (by omega)).1
      obtain ⟨ab, ao, sp⟩ := a
      have hsp : sp = none := World.cell?_spot c0
      subst hsp
      have hlt := World.block_lt_of_cell? w _ c0
      rw [addr_off] at hlt
      refine ⟨ab, ao, rfl, hlt, fun j r hj => ?_⟩
      rw [List.getElem?_map] at hj
      obtain ⟨k, hk, rfl⟩ := Option.map_eq_some_iff.1 hj
      obtain ⟨hkl, rfl⟩ := List.getElem?_eq_some_iff.1 hk
      rw [List.length_range] at hkl
      rw [List.getElem_range]
      obtain ⟨r0, r1, r2, r3, _, r5, r6⟩ := hr j (by omega)
      rw [addr_off] at r0
      exact ⟨_, r0, ints_of (A j) (L j) (C j) (Z j) r1 r3 r5 (fun a' ha => (r6 a' ha).2)⟩
    · obtain ⟨k, hk, rfl⟩ := List.mem_map.1 hrm
      exact hmax k (List.mem_range.1 hk)
end
end Go.Proofs.Ytaojojjdfdlgpaa
