import Derived.Test.YtiainlccodnlmaaGreatDoorPur
import Derived.Shelf.SlSortCmp.NoneTotal
namespace Go.Proofs.YtiainlccodnlmaaGreatDoor
open Go.RowKit Go.Sort

abbrev U32 := Fin 4294967296
abbrev Cub := U32 × U32
def encC (x : Cub) : List Value := [.int .u32 (x.1.val : Int), .int .u32 (x.2.val : Int)]
/-- as cmp.Compare says it -/
def cmp3 (a b : Nat) : Int := if a < b then -1 else if b < a then 1 else 0
/-- as compareCubes says it: the size, then On, then Off -/
def cubeCmp (pc : Nat → Nat) (x y : Cub) : Int :=
  if cmp3 (pc x.1.val + pc x.2.val) (pc y.1.val + pc y.2.val) ≠ 0 then cmp3 (pc x.1.val + pc x.2.val) (pc y.1.val + pc y.2.val)
  else if cmp3 x.1.val y.1.val ≠ 0 then cmp3 x.1.val y.1.val else cmp3 x.2.val y.2.val

theorem cmp3_cases (a b : Nat) : (a < b ∧ cmp3 a b = -1) ∨ (b < a ∧ cmp3 a b = 1) ∨ (a = b ∧ cmp3 a b = 0) := by
  unfold cmp3
  by_cases h1 : a < b
  · simp [h1]
  · by_cases h2 : b < a
    · simp [h1, h2]
    · simp [h1, h2]; omega
theorem ltOf_cube (pc : Nat → Nat) (x y : Cub) : ltOf (cubeCmp pc) x y = true ↔
    (pc x.1.val + pc x.2.val < pc y.1.val + pc y.2.val ∨ (pc x.1.val + pc x.2.val = pc y.1.val + pc y.2.val ∧ (x.1.val < y.1.val ∨ (x.1.val = y.1.val ∧ x.2.val < y.2.val)))) := by
  unfold ltOf cubeCmp
  rw [decide_eq_true_iff]
  rcases cmp3_cases (pc x.1.val + pc x.2.val) (pc y.1.val + pc y.2.val) with ⟨h, e⟩ | ⟨h, e⟩ | ⟨h, e⟩ <;> rw [e]
  · simp; omega
  · simp; omega
  · rcases cmp3_cases x.1.val y.1.val with ⟨h1, e1⟩ | ⟨h1, e1⟩ | ⟨h1, e1⟩ <;> rw [e1]
    · simp; omega
    · simp; omega
    · rcases cmp3_cases x.2.val y.2.val with ⟨h2, e2⟩ | ⟨h2, e2⟩ | ⟨h2, e2⟩ <;> rw [e2] <;> simp <;> omega
theorem ltOf_cube_not (pc : Nat → Nat) (x y : Cub) : ltOf (cubeCmp pc) x y = false ↔
    ¬ (pc x.1.val + pc x.2.val < pc y.1.val + pc y.2.val ∨ (pc x.1.val + pc x.2.val = pc y.1.val + pc y.2.val ∧ (x.1.val < y.1.val ∨ (x.1.val = y.1.val ∧ x.2.val < y.2.val)))) := by
  rw [← ltOf_cube, Bool.not_eq_true]
theorem swo_cube (pc : Nat → Nat) : SWO (ltOf (cubeCmp pc)) where
  irrefl x := by rw [ltOf_cube_not]; omega
  trans x y z h1 h2 := by rw [ltOf_cube] at *; omega
  ntrans x y z h1 h2 := by rw [ltOf_cube_not] at *; omega
theorem tot_cube (pc : Nat → Nat) (x y : Cub) (h1 : ltOf (cubeCmp pc) x y = false) (h2 : ltOf (cubeCmp pc) y x = false) : x = y := by
  rw [ltOf_cube_not] at h1 h2
  have : x.1.val = y.1.val ∧ x.2.val = y.2.val := by omega
  exact Prod.ext (Fin.ext this.1) (Fin.ext this.2)

/-- the sorted list is the one list that is a permutation and rises -/
theorem sort_cube (pc : Nat → Nat) {l L : List Cub} (hp : l.Perm L) (hs : L.Pairwise fun x y => ltOf (cubeCmp pc) y x = false) : (l.mergeSort fun x y => !(ltOf (cubeCmp pc)) y x) = L := by
  have O := swo_cube pc
  refine List.Perm.eq_of_pairwise (le := fun x y => (!ltOf (cubeCmp pc) y x) = true) ?_ ?_ ?_ ((List.mergeSort_perm _ _).trans hp)
  · intro a b _ _ h1 h2
    simp only [Bool.not_eq_true'] at h1 h2
    exact tot_cube pc a b h2 h1
  · refine List.pairwise_mergeSort ?_ ?_ _
    · intro a b c h1 h2
      simp only [Bool.not_eq_true'] at h1 h2 ⊢
      exact O.ntrans _ _ _ h2 h1
    · intro a b
      cases h : ltOf (cubeCmp pc) b a with
      | false => simp
      | true =>
        cases h' : ltOf (cubeCmp pc) a b with
        | false => simp
        | true => have := O.trans _ _ _ h h'; rw [O.irrefl] at this; cases this
  · refine hs.imp ?_
    intro a b h; rw [h]; rfl
end Go.Proofs.YtiainlccodnlmaaGreatDoor
