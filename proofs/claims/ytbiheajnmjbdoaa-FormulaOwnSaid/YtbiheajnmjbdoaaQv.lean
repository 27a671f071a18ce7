import Derived.Test.YtbiheajnmjbdoaaQk
import Derived.Test.YtbiheajnmjbdoaaQu
namespace Go.Proofs.Ytbiheajnmjbdoaa
open Go.RowKit

/-! all of the parser -/
structure AllC (s : ByteArray) (n : Nat) : Prop where
  least : LeastC s n
  form : FormC s n
  join : JoinC s n
  row : RowC s n
  two : TwoC s n
theorem all_zero (s : ByteArray) : AllC s 0 := by
  refine ⟨?_, ?_, ?_, ?_, ?_⟩
  · intro p i w _ _ h; rw [leastF] at h; exact absurd rfl h
  · intro l p i w _ _ _ h; rw [formF] at h; exact absurd rfl h
  · intro k e v S p i w _ _ _ _ _ h; rw [joinF] at h; exact absurd rfl h
  · intro op e v S p i w _ _ _ _ _ h; rw [rowF] at h; exact absurd rfl h
  · intro op e v S p i w _ _ _ _ _ h; rw [twoF] at h; exact absurd rfl h
theorem join_any (s : ByteArray) (hs : s.size ≤ 9223372036854775807) (n : Nat) (ih : AllC s n) : JoinC s (n + 1) := by
  intro k t v S p i w hk hT hS h hi hro
  rw [joinF] at hro ⊢
  by_cases h5 : k = 5
  · subst h5
    exact join_5 s n ih.row t v S p i w hT hS h hi hro
  rw [if_neg h5] at hro ⊢
  by_cases h4 : k = 4
  · subst h4
    exact join_4 s n ih.row t v S p i w hT hS h hi hro
  rw [if_neg h4] at hro ⊢
  by_cases h3 : k = 3
  · subst h3
    exact join_3 s n ih.row t v S p i w hT hS h hi hro
  rw [if_neg h3] at hro ⊢
  by_cases h2 : k = 2
  · subst h2
    exact join_2 s n ih.two t v S p i w hT hS h hi hro
  rw [if_neg h2] at hro ⊢
  by_cases h1 : k = 1
  · subst h1
    exact join_1 s n ih.two t v S p i w hT hS h hi hro
  rw [if_neg h1] at hro ⊢
  obtain rfl : k = 0 := by omega
  by_cases ht : tokP (TX s) i = [63]
  · rw [if_pos ht] at hro ⊢
    exact join_yes s hs n ih.form t v S p i w hT hS h hi ht _ rfl hro
  · rw [if_neg ht]
    exact join_no s t v S p i w hT h hi ht
theorem all_any (s : ByteArray) (hs : s.size ≤ 9223372036854775807) : ∀ n, n ≤ 1000000000000 → ∀ m, m ≤ n → AllC s m
  | 0, _, m, hm => by
    obtain rfl : m = 0 := by omega
    exact all_zero s
  | n + 1, hn, m, hm => by
    have ih := all_any s hs n (by omega)
    by_cases h : m ≤ n
    · exact ih m h
    · obtain rfl : m = n + 1 := by omega
      have i := ih n (Nat.le_refl _)
      exact ⟨least_any s hs n i.least i.form, form_any s n i.least (fun m hm => (ih m (by omega)).join), join_any s hs n i, row_any s hs n (by omega) (fun m hm => (ih m (by omega)).form), two_any s hs n i.form⟩
/-- the formula of a text, or where none can be: with as many steps as any text wants -/
def wholeP (s : List UInt8) : Res (Tr × Nat) :=
  (stepP s 0).bind fun i => (formF s (12 * s.length + 2) 0 i).bind fun x => if x.2 < s.length then .bad x.2 else .ok x
end Go.Proofs.Ytbiheajnmjbdoaa
