import Derived.Test.YtbiheajnmjbdoaaQc7
import Derived.Test.YtbiheajnmjbdoaaQx
namespace Go.Proofs.Ytbiheajnmjbdoaa
open Go.RowKit

/-! both Valids are one -/
theorem lvlL_le_iff : ∀ {ts : List Tr} {n m : Nat}, lvlL ts n ≤ m ↔ n ≤ m ∧ ∀ t ∈ ts, lvlP t ≤ m
  | [], n, m => by rw [lvlL]; simp
  | t :: ts, n, m => by
    rw [lvlL, lvlL_le_iff, Nat.max_le]
    simp only [List.mem_cons, forall_eq_or_imp]
    exact ⟨fun h => ⟨h.1.1, h.1.2, h.2⟩, fun h => ⟨⟨h.1, h.2.1⟩, h.2.2⟩⟩
theorem kc_cases (op : Nat) : (op = 1 ∨ op = 2 ∨ op = 3 ∨ op = 4 ∨ op = 5 ∨ op = 6 ∨ op = 7 ∨ op = 8 ∨ op = 9 ∨ op = 10) ∨ (op ≠ 1 ∧ op ≠ 2 ∧ op ≠ 3 ∧ op ≠ 4 ∧ op ≠ 5 ∧ op ≠ 6 ∧ op ≠ 7 ∧ op ≠ 8 ∧ op ≠ 9 ∧ op ≠ 10) := by omega
theorem shape_one (op : Nat) (nm : List UInt8) (n : Nat) (hn : n ≤ 1000) : shapeB op nm n = oneB op nm n := by
  rcases kc_cases op with (rfl | rfl | rfl | rfl | rfl | rfl | rfl | rfl | rfl | rfl) | ⟨h1, h2, h3, h4, h5, h6, h7, h8, h9, h10⟩
  case inr => simp [shapeB, oneB, kcP, h1, h2, h3, h4, h5, h6, h7, h8, h9, h10]; intro _ h; omega
  all_goals
    simp [shapeB, oneB, kcP]
    try (rw [Bool.and_assoc]; congr 1; rw [Bool.eq_iff_iff]; simp; omega)
    try first | (intro _ _; omega) | (rw [show decide (n = 0) = (n == 0) from by rw [Bool.eq_iff_iff]; simp])
theorem kids_le {kids : List Tr} : kids.length ≤ (preL kids).length := by
  induction kids with
  | nil => rw [preL]; exact Nat.le_refl _
  | cons t ts ih =>
    rw [preL, List.length_append, List.length_cons]
    have := preP_pos t
    omega
mutual
theorem fit_iffP : ∀ {t : Tr} {c l : Nat}, c ≤ 1000 → ((fitP t c l).1 = true ↔ c + (preP t).length ≤ 1000 ∧ l + lvlP t ≤ 65 ∧ (preP t).all oneT = true) ∧ ((fitP t c l).1 = true → (fitP t c l).2 = c + (preP t).length)
  | .mk op nm kids, c, l, hc => by
    have hkl := kids_le (kids := kids)
    rw [fitP, preP, lvlP, List.length_cons]
    by_cases h : 1000 < c + 1 ∨ 64 < l ∨ shapeB op nm kids.length = false
    · rw [if_pos h]
      refine ⟨⟨fun h => (by cases h), fun h' => ?_⟩, fun h => by cases h⟩
      exfalso
      obtain ⟨h1, h2, h3⟩ := h'
      rw [List.all_cons, Bool.and_eq_true] at h3
      rcases h with h | h | h
      · omega
      · omega
      · rw [shape_one op nm kids.length (by omega)] at h
        have h4 : oneB op nm kids.length = true := h3.1
        rw [h4] at h
        cases h
    · rw [if_neg h]
      have h1 : c + 1 ≤ 1000 := by omega
      have h2 : l ≤ 64 := by omega
      have h3 : shapeB op nm kids.length = true := by
        cases hs : shapeB op nm kids.length with
        | true => rfl
        | false => exact absurd (.inr (.inr hs)) h
      obtain ⟨i1, i2⟩ := fit_iffL (ts := kids) (c := c + 1) (l := l + 1) h1
      refine ⟨?_, fun hh => by rw [i2 hh]; omega⟩
      rw [i1, List.all_cons, Bool.and_eq_true]
      constructor
      · rintro ⟨j1, j2, j3⟩
        refine ⟨by omega, ?_, ?_, j3⟩
        · have h5 : lvlL kids 0 ≤ 64 - l := lvlL_le_iff.2 ⟨Nat.zero_le _, fun t ht => by have := j2 t ht; omega⟩
          omega
        · show oneB op nm kids.length = true
          rw [← shape_one op nm kids.length (by omega)]; exact h3
      · rintro ⟨j1, j2, j3, j4⟩
        refine ⟨by omega, fun t ht => ?_, j4⟩
        have h5 : lvlL kids 0 ≤ 64 - l := by omega
        have := (lvlL_le_iff.1 h5).2 t ht
        omega
theorem fit_iffL : ∀ {ts : List Tr} {c l : Nat}, c ≤ 1000 → ((fitL ts c l).1 = true ↔ c + (preL ts).length ≤ 1000 ∧ (∀ t ∈ ts, l + lvlP t ≤ 65) ∧ (preL ts).all oneT = true) ∧ ((fitL ts c l).1 = true → (fitL ts c l).2 = c + (preL ts).length)
  | [], c, l, hc => by rw [fitL, preL]; simp; exact hc
  | t :: ts, c, l, hc => by
    obtain ⟨i1, i2⟩ := fit_iffP (t := t) (c := c) (l := l) hc
    rw [fitL, preL, List.length_append, List.all_append, Bool.and_eq_true]
    by_cases h : (fitP t c l).1 = true
    · rw [if_pos h]
      have h2 := i1.1 h
      have h3 := i2 h
      obtain ⟨j1, j2⟩ := fit_iffL (ts := ts) (c := (fitP t c l).2) (l := l) (by omega)
      refine ⟨?_, fun hh => by rw [j2 hh]; omega⟩
      rw [j1, h3]
      constructor
      · rintro ⟨k1, k2, k3⟩
        refine ⟨by omega, fun u hu => ?_, h2.2.2, k3⟩
        rcases List.mem_cons.1 hu with rfl | hu
        · exact h2.2.1
        · exact k2 u hu
      · rintro ⟨k1, k2, _, k3⟩
        exact ⟨by omega, fun u hu => k2 u (List.mem_cons_of_mem _ hu), k3⟩
    · rw [if_neg h]
      refine ⟨⟨fun h => (by cases h), fun h' => ?_⟩, fun h => by cases h⟩
      exact absurd (i1.2 ⟨by omega, h'.2.1 t List.mem_cons_self, h'.2.2.1⟩) h
end
theorem refV_eq (t : Tr) : refV t = validB t := by
  have h := (fit_iffP (t := t) (c := 0) (l := 1) (by omega)).1
  rw [Bool.eq_iff_iff]
  unfold validB refV
  rw [h]
  simp only [Bool.and_eq_true, decide_eq_true_iff]
  constructor
  · rintro ⟨h1, h2, h3⟩; exact ⟨by omega, by omega, h1⟩
  · rintro ⟨h1, h2, h3⟩; exact ⟨h3, by omega, by omega⟩
end Go.Proofs.Ytbiheajnmjbdoaa
