import Derived.Test.YtbiheajnmjbdoaaQu
import Derived.Test.YtbiheajnmjbdoaaQv
namespace Go.Proofs.Ytbiheajnmjbdoaa
open Go.RowKit

/-! a byte that begins no token -/
theorem wlen_stop : ∀ (xs : List UInt8), wlen (xs ++ [36]) ≤ xs.length
  | [] => by decide
  | c :: xs => by
    have ih := wlen_stop xs
    show wlen (c :: (xs ++ [36])) ≤ _
    unfold wlen
    split
    · simp only [List.length_cons]; omega
    · exact Nat.zero_le _
theorem find_stop : ∀ (l : List (List UInt8)) (xs : List UInt8), (∀ y ∈ l, (36 : UInt8) ∉ y) → ((l.find? fun x => x.isPrefixOf (xs ++ [36])).getD []).length ≤ xs.length
  | [], xs, _ => by simp
  | y :: l, xs, h => by
    rw [List.find?_cons]
    cases hy : y.isPrefixOf (xs ++ [36]) with
    | false => exact find_stop l xs fun z hz => h z (List.mem_cons_of_mem _ hz)
    | true =>
      show y.length ≤ xs.length
      rcases Nat.lt_or_ge xs.length y.length with hlt | hge
      · exfalso
        have hp := List.isPrefixOf_iff_prefix.1 hy
        have he : y = xs ++ [36] := List.IsPrefix.eq_of_length hp (by have := hp.length_le; simp at this ⊢; omega)
        exact h y List.mem_cons_self (by rw [he]; simp)
      · exact hge
theorem firstTok_stop (xs : List UInt8) : (firstTok (xs ++ [36])).length ≤ xs.length := by
  unfold firstTok
  split
  · rw [List.length_take]; have := wlen_stop xs; omega
  · exact find_stop signs xs (by decide)
theorem blanks_stop : ∀ (xs : List UInt8), blanks (xs ++ [36]) ≤ xs.length
  | [] => by decide
  | c :: xs => by
    have ih := blanks_stop xs
    show blanks (c :: (xs ++ [36])) ≤ _
    unfold blanks
    split
    · simp only [List.length_cons]; omega
    · exact Nat.zero_le _
theorem drop_stop {xs : List UInt8} {i : Nat} (hi : i ≤ xs.length) : (xs ++ [36]).drop i = xs.drop i ++ [36] := List.drop_append_of_le_length hi
theorem next_stop {xs : List UInt8} {J : Nat} (hJ : J ≤ xs.length) : (∀ k, nextP (xs ++ [36]) J = .ok k → J ≤ k ∧ k ≤ xs.length) ∧ ∀ k, nextP (xs ++ [36]) J = .error k → k ≤ xs.length := by
  have hb := blanks_stop (xs.drop J)
  rw [List.length_drop] at hb
  have hk : J + blanks ((xs ++ [36]).drop J) ≤ xs.length := by rw [drop_stop hJ]; omega
  unfold nextP
  simp only
  constructor
  · intro k h
    split at h
    · cases h
    · cases h; exact ⟨Nat.le_add_right _ _, hk⟩
  · intro k h
    split at h
    · cases h; exact hk
    · cases h
theorem stop_at (xs : List UInt8) : Stop (xs ++ [36]) xs.length := by
  intro i hi
  have ht : i + (tokP (xs ++ [36]) i).length ≤ xs.length := by
    unfold tokP
    rw [drop_stop hi]
    have := firstTok_stop (xs.drop i)
    rw [List.length_drop] at this
    omega
  obtain ⟨h1, h2⟩ := next_stop ht
  constructor
  · intro k hk
    unfold accP stepP at hk
    split at hk
    · rename_i m hm
      cases hk
      obtain ⟨h3, h4⟩ := h1 _ hm
      exact ⟨by omega, h4, fun hne => by have := List.length_pos_iff.2 hne; omega⟩
    · cases hk
  · intro k hk
    unfold accP stepP at hk
    split at hk
    · cases hk
    · rename_i m hm
      cases hk
      exact h2 _ hm
theorem whole_stop (xs : List UInt8) : ∃ k, wholeP (xs ++ [36]) = .bad k ∧ k ≤ xs.length := by
  obtain ⟨h1, h2⟩ := next_stop (xs := xs) (J := 0) (Nat.zero_le _)
  unfold wholeP stepP
  cases hn : nextP (xs ++ [36]) 0 with
  | error k => exact ⟨k, rfl, h2 k hn⟩
  | ok i =>
    obtain ⟨_, hi⟩ := h1 i hn
    have hg := (far_any (xs ++ [36]) xs.length (stop_at xs) (12 * (xs ++ [36]).length + 2)).form 0 i hi
    show ∃ k, ((formF (xs ++ [36]) (12 * (xs ++ [36]).length + 2) 0 i).bind fun x => if x.2 < (xs ++ [36]).length then .bad x.2 else .ok x) = .bad k ∧ k ≤ xs.length
    cases hf : formF (xs ++ [36]) (12 * (xs ++ [36]).length + 2) 0 i with
    | out =>
      rw [hf] at hg
      have hg2 : ¬ (12 * (xs.length - i) + 2 ≤ 12 * (xs ++ [36]).length + 2) := hg
      exact absurd (by simp; omega) hg2
    | bad k =>
      rw [hf] at hg
      exact ⟨k, rfl, hg⟩
    | ok x =>
      rw [hf] at hg
      refine ⟨x.2, ?_, hg.2⟩
      show (if x.2 < (xs ++ [36]).length then Res.bad x.2 else .ok x) = .bad x.2
      rw [if_pos (by have := hg.2; simp; omega)]

/-! blanks, and 0 -/
theorem blanks_rep : ∀ (k : Nat) (c : UInt8) (l : List UInt8), c ≠ 32 → blanks (List.replicate k 32 ++ c :: l) = k
  | 0, c, l, h => by
    show blanks (c :: l) = 0
    unfold blanks
    rw [if_neg h]
  | k + 1, c, l, h => by
    have ih := blanks_rep k c l h
    rw [List.replicate_succ]
    show blanks (32 :: (List.replicate k 32 ++ c :: l)) = k + 1
    unfold blanks
    rw [if_pos rfl, ih]
theorem form_zero (s : List UInt8) (i j n : Nat) (h1 : tokP s i = [48]) (h2 : accP s i = .ok j) (h3 : tokP s j = []) : formF s (n + 12) 0 i = .ok (.mk 1 [] [], j) := by
  simp [formF, leastF, joinsF, joinF, rowF, twoF, h1, h2, h3, Res.bind, sgnP]
theorem whole_zero (k : Nat) : wholeP (List.replicate k 32 ++ [48]) = .ok (.mk 1 [] [], k + 1) := by
  have hl : (List.replicate k (32 : UInt8) ++ [48]).length = k + 1 := by simp
  have hd : (List.replicate k (32 : UInt8) ++ [48]).drop k = [48] := by rw [List.drop_append_of_le_length (by simp)]; simp
  have hd2 : (List.replicate k (32 : UInt8) ++ [48]).drop (k + 1) = [] := by rw [List.drop_eq_nil_iff]; simp
  have t1 : tokP (List.replicate k 32 ++ [48]) k = [48] := by unfold tokP; rw [hd]; decide
  have t2 : tokP (List.replicate k 32 ++ [48]) (k + 1) = [] := by unfold tokP; rw [hd2]; decide
  have n0 : nextP (List.replicate k 32 ++ [48]) 0 = .ok k := nextP_ok (by rw [List.drop_zero, blanks_rep k 48 [] (by decide)]; omega) (by rw [hd]; rintro ⟨h, _⟩; exact absurd h (by decide))
  have n1 : nextP (List.replicate k 32 ++ [48]) (k + 1) = .ok (k + 1) := nextP_ok (by rw [hd2]; rfl) (by rw [hl]; omega)
  have a1 : accP (List.replicate k 32 ++ [48]) k = .ok (k + 1) := by unfold accP stepP; rw [t1]; show (match nextP _ (k + 1) with | .ok j => Res.ok j | .error k => .bad k) = _; rw [n1]
  have s0 : stepP (List.replicate k 32 ++ [48]) 0 = .ok k := by unfold stepP; rw [n0]
  unfold wholeP
  rw [s0, hl, show 12 * (k + 1) + 2 = (12 * k + 2) + 12 by omega, Res.bind_ok, form_zero _ k (k + 1) _ t1 a1 t2, Res.bind_ok, if_neg (by show ¬ k + 1 < k + 1; omega)]
end Go.Proofs.Ytbiheajnmjbdoaa
