import Derived.Test.YtiainlccodnlmaaGreatDoorCmpC
import Derived.Test.YtiainlccodnlmaaGreatDoorLayS
namespace Go.Proofs.YtiainlccodnlmaaGreatDoor
open Go.RowKit Go.Sort
open Bd

/-- the cells of a list of cubes -/
def ccells (L : List Cub) : List Value := L.flatMap encC
theorem ccells_length (L : List Cub) : (ccells L).length = L.length * 2 := by
  unfold ccells; rw [Bd.length_flat _ _ 2 (by intro; rfl)]
theorem ccells_at : ∀ {L : List Cub} {k : Nat} {x : Cub}, L[k]? = some x → (ccells L)[k * 2]? = some (.int .u32 (x.1.val : Int)) ∧ (ccells L)[k * 2 + 1]? = some (.int .u32 (x.2.val : Int))
  | [], _, _, h => by simp at h
  | d :: L, k, x, h => by
    have e : ccells (d :: L) = .int .u32 (d.1.val : Int) :: .int .u32 (d.2.val : Int) :: ccells L := rfl
    cases k with
    | zero => simp at h; subst h; simp [e]
    | succ k =>
      have := ccells_at (L := L) (k := k) (x := x) (by simpa using h)
      rw [e, show (k + 1) * 2 = k * 2 + 1 + 1 by omega]
      simpa using this
/-- a list of cubes, read off memory -/
def CRow (w : World) (v : Value) (L : List Cub) : Prop := ∃ (a : Option Addr) (cap : Nat), v = .slice a L.length cap ∧ ∀ k x, L[k]? = some x → ∃ b, a = some ⟨b, 0, none⟩ ∧ w.cell? ⟨b, k * 2, none⟩ = some (.int .u32 (x.1.val : Int)) ∧ w.cell? ⟨b, k * 2 + 1, none⟩ = some (.int .u32 (x.2.val : Int))
theorem CRow.kept {w w' : World} {v : Value} {L : List Cub} (h : CRow w v L) (fr : Fr nob w w') : CRow w' v L := by
  obtain ⟨a, cap, rfl, hc⟩ := h
  refine ⟨a, cap, rfl, fun k x hx => ?_⟩
  obtain ⟨b, h1, h2, h3⟩ := hc k x hx
  exact ⟨b, h1, fr.cell h2 (fun h => h), fr.cell h3 (fun h => h)⟩
theorem holds_own {w : World} {T : TypeId} {base blk cap : Nat} {L : List Cub} (h : w.ownsRow base T 2 (.slice (some ⟨blk, 0, none⟩) L.length cap) L.length (ccells L)) : HoldsK encC 2 w blk 0 L.toArray := by
  intro j hj
  rw [size_flatK] at hj
  have hj' : j < L.length * 2 := by simpa using hj
  refine ⟨?_, ?_⟩
  · rw [Nat.zero_add, h.cellAt j hj', get_flatK _ _ _ _ (by simpa using hj')]
    have hk : j / 2 < L.length := by omega
    have hx : L[j / 2]? = some L[j / 2] := by simp [hk]
    obtain ⟨e0, e1⟩ := ccells_at hx
    have hg : L.toArray[j / 2]! = L[j / 2] := by rw [getElem!_pos L.toArray (j / 2) (by simpa using hk)]; simp
    rw [hg]
    rcases (by omega : j = j / 2 * 2 ∨ j = j / 2 * 2 + 1) with e | e
    · rw [show (ccells L)[j]? = (ccells L)[j / 2 * 2]? from congrArg _ e, e0, show j % 2 = 0 by omega]; rfl
    · rw [show (ccells L)[j]? = (ccells L)[j / 2 * 2 + 1]? from congrArg _ e, e1, show j % 2 = 1 by omega]; rfl
  · rcases h.2 with ⟨h, _⟩ | ⟨g, c, cur, h, _, hg, _⟩
    · simp at h
    · simp only [Value.slice.injEq, Option.some.injEq, Addr.mk.injEq] at h
      obtain ⟨⟨rfl, _⟩, _⟩ := h
      simp [World.frozen?, hg]
theorem crow_holds {w : World} {blk cap : Nat} {L : List Cub} (h : HoldsK encC 2 w blk 0 L.toArray) : CRow w (.slice (some ⟨blk, 0, none⟩) L.length cap) L := by
  refine ⟨_, cap, rfl, fun k x hx => ⟨blk, rfl, ?_, ?_⟩⟩
  all_goals
    have hk := (List.getElem?_eq_some_iff.1 hx).1
    have hg : L.toArray[k]! = x := by rw [getElem!_pos L.toArray k (by simpa using hk)]; simpa using (List.getElem?_eq_some_iff.1 hx).2
  · have := (h (k * 2) (by rw [size_flatK]; simp; omega)).1
    rw [Nat.zero_add, get_flatK _ _ _ _ (by simp; omega), show k * 2 / 2 = k by omega, show k * 2 % 2 = 0 by omega, hg] at this
    exact this
  · have := (h (k * 2 + 1) (by rw [size_flatK]; simp; omega)).1
    rw [Nat.zero_add, get_flatK _ _ _ _ (by simp; omega), show (k * 2 + 1) / 2 = k by omega, show (k * 2 + 1) % 2 = 1 by omega, hg] at this
    exact this
theorem sort_fr (w : World) (blk m : Nat) (d : Array Cub) (os : Array Obj) : Fr (fun j => j = blk) w (sortWorldK encC 2 w blk 0 m d os) := by
  refine ⟨rfl, rfl, rfl, size_sortWorldK_c _ _ _ _ _ _ _ _, fun k hk hne => ?_⟩
  have e : (putRowK encC 2 (Go.Sort.ahead w m) blk 0 d).heap[k]? = w.heap[k]? := by
    show (w.heap.modify blk _)[k]? = _
    rw [Array.getElem?_modify, if_neg (fun h => hne h.symm)]
  have hs : k < (putRowK encC 2 (Go.Sort.ahead w m) blk 0 d).heap.size := by
    have := size_putRow id (Go.Sort.ahead w m) blk 0 (flatK encC 2 d)
    show k < (putRow id (Go.Sort.ahead w m) blk 0 (flatK encC 2 d)).heap.size
    rw [this]; exact hk
  show ((putRowK encC 2 (Go.Sort.ahead w m) blk 0 d).heap ++ os)[k]? = _
  rw [Array.getElem?_append_left hs, e]

set_option maxHeartbeats 1000000 in
theorem sort_any (L : List Cub) (blk cap base : Nat) (T : TypeId) (w : World) (hrow : w.ownsRow base T 2 (.slice (some ⟨blk, 0, none⟩) L.length cap) L.length (ccells L)) (hblk : blk < w.heap.size) (hl : L.length < 4611686018427387904) :
    Calls Tryz.prog 51 #[.slice (some ⟨blk, 0, none⟩) L.length cap, .func (.func 52) #[] #[]] w fun e w' => e = .returned (.tuple #[]) ∧ CRow w' (.slice (some ⟨blk, 0, none⟩) L.length cap) (L.mergeSort fun x y => !(ltOf (cubeCmp popN)) y x) ∧ Fr (fun j => j = blk) w w' := by
  have hH := holds_own hrow
  have h := AnyQ.slices_SortFunc_total Tryz.sortCube 2 Tryz.isAgg49 Tryz.sizeOf49 encC (fun _ => rfl) (fun x v hv => by simp [encC] at hv; rcases hv with rfl | rfl <;> rfl) (cubeCmp popN) (swo_cube popN) 52 #[] blk 0 cap L.toArray w (enters_of Tryz.func52 (by kernel_rfl) rfl) (fun m os dk _ x y => cmpC_any x y _) hH hblk (by simpa using hl) (tot_cube popN)
  have hsz : L.toArray.size = L.length := by simp
  rw [hsz] at h
  refine Calls.mono (P := Tryz.prog) (f := 51) h ?_
  rintro e w' ⟨rfl, n, os, rfl⟩
  refine ⟨rfl, ?_, sort_fr _ _ _ _ _⟩
  have hp := List.mergeSort_perm L (fun x y => !(ltOf (cubeCmp popN)) y x)
  have hlen := hp.length_eq
  rw [← hlen]
  exact crow_holds (holdsK_sortWorldK_c encC 2 w blk 0 L.toArray _ n os hH hblk (by simp [hlen]))
end Go.Proofs.YtiainlccodnlmaaGreatDoor
