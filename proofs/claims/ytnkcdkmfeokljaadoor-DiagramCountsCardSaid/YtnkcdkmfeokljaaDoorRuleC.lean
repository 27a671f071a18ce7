import Derived.Test.YtnkcdkmfeokljaaDoorRule
namespace Go.Proofs.YtnkcdkmfeokljaaDoor
open Go.RowKit

/-! The rule's condition for a great region, checked step by step: each step over a list that is written out. -/
theorem growB_of {l : List Oper} {n sz : Nat} (h1 : Region.noSelect l.toArray = true) (h2 : decide (n < l.toArray.size) = true) (h3 : Region.sinkB .any l.toArray n = true) (h4 : Region.chainB .any l.toArray n = true)
    (h5 : Region.lexHead .any l.toArray (l.toArray.size - n) n 0 (Array.replicate l.toArray.size false) = true) (h6 : ownSlotsB l.toArray n = true) (h7 : slotsB l.toArray n sz = true) (h8 : allocsLast (l.take n) = true) : growB l n sz = true := by
  unfold growB Region.lexTailB
  rw [h1, h2, h3, h4, h5, h6, h7, h8]; rfl
theorem lexHead_start {md : Region.Mode} {ops : Array Oper} {g f k : Nat} {listed l' : Array Bool} (hl : listed = l') (h : Region.lexHead md ops g f k l' = true) : Region.lexHead md ops g f k listed = true := by rw [hl]; exact h
theorem lexHead_cons {md : Region.Mode} {ops : Array Oper} {g f k : Nat} {listed l' : Array Bool} (h : ((Region.ready md ops listed).contains k && Region.free md ops listed k) = true) (hl : listed.setIfInBounds k true = l') (h' : Region.lexHead md ops g f (k + 1) l' = true) : Region.lexHead md ops g (f + 1) k listed = true := by
  rw [Region.lexHead, h, hl, h']; rfl
end Go.Proofs.YtnkcdkmfeokljaaDoor
