import Derived.Test.YtaojojjdfdlgpaaQp
import Derived.Test.YtaojojjdfdlgpaaQk
namespace Go.Proofs.Ytaojojjdfdlgpaa
open Go.RowKit

/-! how far the parser goes, and that it comes to an end -/
/-- no token goes past q -/
def Stop (s : List UInt8) (q : Nat) : Prop := ∀ i, i ≤ q → (∀ k, accP s i = .ok k → i ≤ k ∧ k ≤ q ∧ (tokP s i ≠ [] → i < k)) ∧ (∀ k, accP s i = .bad k → k ≤ q)
def Good {α : Type} (q lo : Nat) (b : Prop) : Res (α × Nat) → Prop
  | .ok x => lo ≤ x.2 ∧ x.2 ≤ q
  | .bad k => k ≤ q
  | .out => ¬ b
theorem Good.bind {α β : Type} {q lo lo' : Nat} {b b' : Prop} {r : Res (α × Nat)} {f : α × Nat → Res (β × Nat)} (h : Good q lo b r) (hb : b' → b) (hf : ∀ t j, lo ≤ j → j ≤ q → Good q lo' b' (f (t, j))) : Good q lo' b' (r.bind f) := by
  cases r with
  | out => exact fun h' => h (hb h')
  | bad k => exact h
  | ok x => exact hf x.1 x.2 h.1 h.2
theorem acc_out (s : List UInt8) (i : Nat) : accP s i ≠ .out := by
  unfold accP stepP
  split <;> simp
theorem Stop.bind {β : Type} {s : List UInt8} {q lo : Nat} {b : Prop} {i : Nat} {f : Nat → Res (β × Nat)} (h : Stop s q) (hi : i ≤ q) (ht : tokP s i ≠ []) (hf : ∀ k, i < k → k ≤ q → Good q lo b (f k)) : Good q lo b ((accP s i).bind f) := by
  obtain ⟨h1, h2⟩ := h i hi
  cases hr : accP s i with
  | out => exact absurd hr (acc_out s i)
  | bad k => exact h2 k hr
  | ok k => exact hf k ((h1 k hr).2.2 ht) (h1 k hr).2.1
theorem Stop.exp {β : Type} {s t : List UInt8} {q lo : Nat} {b : Prop} {i : Nat} {f : Nat → Res (β × Nat)} (h : Stop s q) (hi : i ≤ q) (ht : t ≠ []) (hf : ∀ k, i < k → k ≤ q → Good q lo b (f k)) : Good q lo b ((expP s t i).bind f) := by
  unfold expP
  split
  · rename_i e
    exact h.bind hi (by rw [e]; exact ht) hf
  · exact hi
theorem sgn_ne {op : Nat} (h : op = 5 ∨ op = 6 ∨ op = 7 ∨ op = 8 ∨ op = 9) : sgnP op 1 ≠ [] := by
  rcases h with rfl | rfl | rfl | rfl | rfl <;> decide
structure Far (s : List UInt8) (q n : Nat) : Prop where
  least : ∀ i, i ≤ q → Good q (i + 1) (12 * (q - i) + 1 ≤ n) (leastF s n i)
  form : ∀ level i, i ≤ q → Good q (i + 1) (12 * (q - i) + 2 ≤ n) (formF s n level i)
  joins : ∀ d level e j, j ≤ q → d ≤ 6 → level + d ≤ 6 → Good q j (12 * (q - j) + d + 4 ≤ n) (joinsF s n d level e j)
  join : ∀ k e j, j ≤ q → Good q j (12 * (q - j) + 3 ≤ n) (joinF s n k e j)
  row : ∀ op e j, op = 5 ∨ op = 6 ∨ op = 7 → j ≤ q → Good q j (12 * (q - j) + 2 ≤ n) (rowF s n op e j)
  kids : ∀ op l j, op = 5 ∨ op = 6 ∨ op = 7 → j ≤ q → Good q j (12 * (q - j) + 1 ≤ n) (kidsF s n op l j)
  two : ∀ op e j, op = 8 ∨ op = 9 → j ≤ q → Good q j (12 * (q - j) + 1 ≤ n) (twoF s n op e j)
theorem Good.low {α : Type} {q lo lo' : Nat} {b : Prop} {r : Res (α × Nat)} (h : Good q lo b r) (hl : lo' ≤ lo) : Good q lo' b r := by
  cases r with
  | out => exact h
  | bad k => exact h
  | ok x => exact ⟨Nat.le_trans hl h.1, h.2⟩
theorem Good.req {α : Type} {q lo : Nat} {b b' : Prop} {r : Res (α × Nat)} (h : Good q lo b r) (hb : b' → b) : Good q lo b' r := by
  cases r with
  | out => exact fun h' => h (hb h')
  | bad k => exact h
  | ok x => exact h
theorem far_any (s : List UInt8) (q : Nat) (hq : Stop s q) : ∀ n, Far s q n
  | 0 => by
    refine ⟨?_, ?_, ?_, ?_, ?_, ?_, ?_⟩
    · intro i _; rw [leastF]; exact fun h => by omega
    · intro l i _; rw [formF]; exact fun h => by omega
    · intro d l e j _ _ _; rw [joinsF]; exact fun h => by omega
    · intro k e j _; rw [joinF]; exact fun h => by omega
    · intro op e j _ _; rw [rowF]; exact fun h => by omega
    · intro op e j _ _; rw [kidsF]; exact fun h => by omega
    · intro op e j _ _; rw [twoF]; exact fun h => by omega
  | n + 1 => by
    have ih := far_any s q hq n
    refine ⟨?_, ?_, ?_, ?_, ?_, ?_, ?_⟩
    · intro i hi
      rw [leastF]
      split
      · rename_i e
        exact hq.bind hi (by rw [e]; decide) fun k h1 h2 => (ih.least k h2).bind (fun h => by omega) fun t j h3 h4 => ⟨by show i + 1 ≤ j; omega, h4⟩
      split
      · rename_i e
        exact hq.bind hi (by rw [e]; decide) fun k h1 h2 => (ih.form 0 k h2).bind (fun h => by omega) fun t j h3 h4 => hq.exp h4 (by decide) fun m h5 h6 => ⟨by show i + 1 ≤ m; omega, h6⟩
      split
      · rename_i e
        exact hq.bind hi (by rw [e]; decide) fun k h1 h2 => ⟨by show i + 1 ≤ k; omega, h2⟩
      split
      · rename_i e
        exact hq.bind hi (by rw [e]; decide) fun k h1 h2 => ⟨by show i + 1 ≤ k; omega, h2⟩
      split
      · rename_i e
        exact hq.bind hi (by intro h; rw [h] at e; exact absurd e (by decide)) fun k h1 h2 => ⟨by show i + 1 ≤ k; omega, h2⟩
      · exact hi
    · intro level i hi
      rw [formF]
      by_cases hl : level ≤ 6
      · exact (ih.least i hi).bind (fun h => by omega) fun t j h1 h2 => ((ih.joins (6 - level) level t j h2 (by omega) (by omega)).req (fun h => by omega)).low (by omega)
      · have e : 6 - level = 0 := by omega
        rw [e]
        refine (ih.least i hi).bind (fun h => by omega) fun t j h1 h2 => ?_
        cases n with
        | zero => rw [joinsF]; exact fun h => by omega
        | succ n => rw [joinsF]; exact ⟨h1, h2⟩
    · intro d level e j hj hd hld
      cases d with
      | zero => rw [joinsF]; exact ⟨Nat.le_refl _, hj⟩
      | succ d =>
        rw [joinsF]
        exact (ih.join (level + d) e j hj).bind (fun h => by omega) fun t k h1 h2 => ((ih.joins d level t k h2 (by omega) (by omega)).req (fun h => by omega)).low h1
    · intro k e j hj
      rw [joinF]
      split
      · exact (ih.row 5 e j (by simp) hj).req (fun h => by omega)
      split
      · exact (ih.row 7 e j (by simp) hj).req (fun h => by omega)
      split
      · exact (ih.row 6 e j (by simp) hj).req (fun h => by omega)
      split
      · exact (ih.two 8 e j (by simp) hj).req (fun h => by omega)
      split
      · exact (ih.two 9 e j (by simp) hj).req (fun h => by omega)
      split
      · rename_i ht
        exact hq.bind hj (by rw [ht]; decide) fun a h1 h2 => (ih.form 0 a h2).bind (fun h => by omega) fun t b h3 h4 => hq.exp h4 (by decide) fun c h5 h6 => (ih.form 0 c h6).bind (fun h => by omega) fun t' d h7 h8 => ⟨by show j ≤ d; omega, h8⟩
      · exact ⟨Nat.le_refl _, hj⟩
    · intro op e j hop hj
      rw [rowF]
      split
      · exact (ih.kids op [e] j hop hj).bind (fun h => by omega) fun l k h1 h2 => ⟨h1, h2⟩
      · exact ⟨Nat.le_refl _, hj⟩
    · intro op l j hop hj
      rw [kidsF]
      split
      · rename_i ht
        exact hq.bind hj (by rw [ht]; exact sgn_ne (by omega)) fun a h1 h2 => (ih.form _ a h2).bind (fun h => by omega) fun t b h3 h4 => ((ih.kids op _ b hop h4).req (fun h => by omega)).low (by omega)
      · exact ⟨Nat.le_refl _, hj⟩
    · intro op e j hop hj
      rw [twoF]
      split
      · rename_i ht
        exact hq.bind hj (by rw [ht]; exact sgn_ne (by omega)) fun a h1 h2 => (ih.form _ a h2).bind (fun h => by omega) fun t b h3 h4 => ⟨by show j ≤ b; omega, h4⟩
      · exact ⟨Nat.le_refl _, hj⟩
theorem stop_len (s : List UInt8) : Stop s s.length := by
  intro i hi
  have ht := tokP_len hi
  have hb := blanks_le (s.drop (i + (tokP s i).length))
  rw [List.length_drop] at hb
  constructor
  · intro k hk
    unfold accP stepP at hk
    split at hk
    · rename_i m hm
      cases hk
      have := nextP_le ht hm
      exact ⟨by omega, this.2, fun hne => by have := List.length_pos_iff.2 hne; omega⟩
    · cases hk
  · intro k hk
    unfold accP stepP at hk
    split at hk
    · cases hk
    · rename_i m hm
      cases hk
      unfold nextP at hm
      simp only at hm
      split at hm
      · cases hm; omega
      · cases hm
end Go.Proofs.Ytaojojjdfdlgpaa
namespace Go.Proofs.Ytaojojjdfdlgpaa
open Go.RowKit

/-! all of the parser -/
structure AllC (s : ByteArray) (n : Nat) : Prop where
  least : LeastC s n
  form : FormC s n
  join : JoinC s n
  row : RowC s n
  two : TwoC s n
theorem all_zero (s : ByteArray) : AllC s 0 := by
  refine ⟨?_, ?_, ?_, ?_, ?_⟩
  · intro p i w _ _ h; rw [leastF] at h; exact absurd rfl h
  · intro l p i w _ _ _ h; rw [formF] at h; exact absurd rfl h
  · intro k e v S p i w _ _ _ _ _ h; rw [joinF] at h; exact absurd rfl h
  · intro op e v S p i w _ _ _ _ _ h; rw [rowF] at h; exact absurd rfl h
  · intro op e v S p i w _ _ _ _ _ h; rw [twoF] at h; exact absurd rfl h
theorem join_any (s : ByteArray) (hs : s.size ≤ 9223372036854775807) (n : Nat) (ih : AllC s n) : JoinC s (n + 1) := by
  intro k t v S p i w hk hT hS h hi hro
  rw [joinF] at hro ⊢
  by_cases h5 : k = 5
  · subst h5
    exact join_5 s n ih.row t v S p i w hT hS h hi hro
  rw [if_neg h5] at hro ⊢
  by_cases h4 : k = 4
  · subst h4
    exact join_4 s n ih.row t v S p i w hT hS h hi hro
  rw [if_neg h4] at hro ⊢
  by_cases h3 : k = 3
  · subst h3
    exact join_3 s n ih.row t v S p i w hT hS h hi hro
  rw [if_neg h3] at hro ⊢
  by_cases h2 : k = 2
  · subst h2
    exact join_2 s n ih.two t v S p i w hT hS h hi hro
  rw [if_neg h2] at hro ⊢
  by_cases h1 : k = 1
  · subst h1
    exact join_1 s n ih.two t v S p i w hT hS h hi hro
  rw [if_neg h1] at hro ⊢
  obtain rfl : k = 0 := by omega
  by_cases ht : tokP (TX s) i = [63]
  · rw [if_pos ht] at hro ⊢
    exact join_yes s hs n ih.form t v S p i w hT hS h hi ht _ rfl hro
  · rw [if_neg ht]
    exact join_no s t v S p i w hT h hi ht
theorem all_any (s : ByteArray) (hs : s.size ≤ 9223372036854775807) : ∀ n, n ≤ 1000000000000 → ∀ m, m ≤ n → AllC s m
  | 0, _, m, hm => by
    obtain rfl : m = 0 := by omega
    exact all_zero s
  | n + 1, hn, m, hm => by
    have ih := all_any s hs n (by omega)
    by_cases h : m ≤ n
    · exact ih m h
    · obtain rfl : m = n + 1 := by omega
      have i := ih n (Nat.le_refl _)
      exact ⟨least_any s hs n i.least i.form, form_any s n i.least (fun m hm => (ih m (by omega)).join), join_any s hs n i, row_any s hs n (by omega) (fun m hm => (ih m (by omega)).form), two_any s hs n i.form⟩
/-- the formula of a text, or where none can be: with as many steps as any text wants -/
def wholeP (s : List UInt8) : Res (Tr × Nat) :=
  (stepP s 0).bind fun i => (formF s (12 * s.length + 2) 0 i).bind fun x => if x.2 < s.length then .bad x.2 else .ok x
end Go.Proofs.Ytaojojjdfdlgpaa
