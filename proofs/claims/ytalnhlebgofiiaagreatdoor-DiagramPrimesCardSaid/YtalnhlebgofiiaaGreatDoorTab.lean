import Derived.Test.YtalnhlebgofiiaaGreatDoorHas
namespace Go.Proofs.YtalnhlebgofiiaaGreatDoor
open Go.RowKit
namespace Bd

/-! ### truth tables over features: what the reference keeps -/
def bitsOf (n : Nat) : Cfg := fun i => n.testBit i
def cfgN : List Nat → Nat → Nat
  | [], _ => 0
  | v :: V, k => (if k % 2 = 1 then 2 ^ v else 0) + cfgN V (k / 2)
def idxN : List Nat → Nat → Nat
  | [], _ => 0
  | v :: V, c => (if c.testBit v then 1 else 0) + 2 * idxN V c
/-- features, rising -/
def rising (V : List Nat) : Prop := V.Pairwise (· < ·) ∧ ∀ v ∈ V, v < 24

theorem idxN_lt : ∀ (V : List Nat) (c : Nat), idxN V c < 2 ^ V.length
  | [], _ => by simp [idxN]
  | v :: V, c => by
    have := idxN_lt V c
    rw [idxN, List.length_cons, Nat.pow_succ]; split <;> omega

theorem cfgN_bit : ∀ {V : List Nat} (k : Nat), V.Pairwise (· < ·) → ∀ i, (cfgN V k).testBit i = true ↔ ∃ j, V[j]? = some i ∧ k.testBit j = true := by
  intro V
  induction V with
  | nil => intro k _ i; simp [cfgN]
  | cons v V ih =>
    intro k hp i
    obtain ⟨hv, hp'⟩ := List.pairwise_cons.1 hp
    have h0 : ∀ j, (v :: V)[j + 1]? = V[j]? := fun j => rfl
    have key : cfgN (v :: V) k = (if k % 2 = 1 then 2 ^ v else 0) ||| cfgN V (k / 2) := by
      rw [cfgN]
      split
      · have hb : (cfgN V (k / 2)).testBit v = false := by
          rw [Bool.eq_false_iff]; intro hc
          obtain ⟨j, hj, _⟩ := (ih (k / 2) hp' v).1 hc
          have := hv v (List.mem_of_getElem? hj); omega
        have hz : 2 ^ v &&& cfgN V (k / 2) = 0 := by
          apply Nat.eq_of_testBit_eq; intro m
          rw [Nat.testBit_and, Nat.testBit_two_pow, Nat.zero_testBit]
          by_cases hm : v = m
          · subst hm; simp [hb]
          · simp [hm]
        have hlow : ∀ m, m ≤ v → (cfgN V (k / 2)).testBit m = false := fun m hm => by
          rw [Bool.eq_false_iff]; intro hc
          obtain ⟨j, hj, _⟩ := (ih (k / 2) hp' m).1 hc
          have := hv m (List.mem_of_getElem? hj); omega
        have hdiv : cfgN V (k / 2) = 2 ^ (v + 1) * (cfgN V (k / 2) / 2 ^ (v + 1)) := by
          apply Nat.eq_of_testBit_eq; intro m
          rw [Nat.testBit_two_pow_mul]
          by_cases hm : v + 1 ≤ m
          · rw [Nat.testBit_div_two_pow]; simp [hm]
          · simp [hm, hlow m (by omega)]
        rw [hdiv, Nat.or_comm, Nat.add_comm]
        exact Nat.two_pow_add_eq_or_of_lt (Nat.pow_lt_pow_right (by omega) (by omega)) _
      · simp
    rw [key, Nat.testBit_or, Bool.or_eq_true, ih (k / 2) hp' i]
    constructor
    · rintro (h | ⟨j, h1, h2⟩)
      · split at h
        · rw [Nat.testBit_two_pow] at h
          refine ⟨0, by simp at h; simp [h], ?_⟩
          rw [Nat.testBit_zero]; simp; assumption
        · simp at h
      · exact ⟨j + 1, h1, by rw [Nat.testBit_succ]; exact h2⟩
    · rintro ⟨j, h1, h2⟩
      cases j with
      | zero =>
        left
        simp at h1; subst h1
        rw [Nat.testBit_zero] at h2; simp at h2
        rw [if_pos h2, Nat.testBit_two_pow]; simp
      | succ j => exact .inr ⟨j, h1, by rw [Nat.testBit_succ] at h2; exact h2⟩

theorem cfgN_lt {V : List Nat} (hV : rising V) (k : Nat) : cfgN V k < 2 ^ 24 := by
  apply Nat.lt_pow_two_of_testBit
  intro i hi
  rw [Bool.eq_false_iff]; intro hc
  obtain ⟨j, hj, _⟩ := (cfgN_bit k hV.1 i).1 hc
  have := hV.2 i (List.mem_of_getElem? hj); omega

theorem idxN_bit : ∀ {V : List Nat} (c j : Nat), (idxN V c).testBit j = true ↔ ∃ v, V[j]? = some v ∧ c.testBit v = true := by
  intro V
  induction V with
  | nil => intro c j; simp [idxN]
  | cons v V ih =>
    intro c j
    rw [idxN]
    cases j with
    | zero =>
      rw [Nat.testBit_zero]
      have : ((if c.testBit v = true then 1 else 0) + 2 * idxN V c) % 2 = if c.testBit v = true then 1 else 0 := by split <;> omega
      rw [this]; simp
    | succ j =>
      rw [Nat.testBit_succ]
      have : ((if c.testBit v = true then 1 else 0) + 2 * idxN V c) / 2 = idxN V c := by split <;> omega
      rw [this, ih]; simp

/-- The configuration of the index of c is c, on the features. -/
theorem cfg_idx {V : List Nat} (hV : V.Pairwise (· < ·)) (c : Nat) {i : Nat} (hi : i ∈ V) : bitsOf (cfgN V (idxN V c)) i = bitsOf c i := by
  obtain ⟨j, hj⟩ := List.getElem?_of_mem hi
  show (cfgN V (idxN V c)).testBit i = c.testBit i
  rw [Bool.eq_iff_iff, cfgN_bit _ hV]
  constructor
  · rintro ⟨j', h1, h2⟩
    obtain ⟨v, h3, h4⟩ := (idxN_bit c j').1 h2
    rw [h1] at h3; cases h3; exact h4
  · exact fun h => ⟨j, hj, (idxN_bit c j).2 ⟨i, hj, h⟩⟩

theorem idx_cfg {V : List Nat} (hV : V.Pairwise (· < ·)) {k : Nat} (hk : k < 2 ^ V.length) : idxN V (cfgN V k) = k := by
  apply Nat.eq_of_testBit_eq; intro j
  rw [Bool.eq_iff_iff, idxN_bit]
  constructor
  · rintro ⟨v, h1, h2⟩
    obtain ⟨j', h3, h4⟩ := (cfgN_bit k hV v).1 h2
    have hl := (List.getElem?_eq_some_iff.1 h1).1
    have hl' := (List.getElem?_eq_some_iff.1 h3).1
    have e1 := (List.getElem?_eq_some_iff.1 h1).2
    have e2 := (List.getElem?_eq_some_iff.1 h3).2
    have : j = j' := by
      rcases Nat.lt_trichotomy j j' with h | h | h
      · have := List.pairwise_iff_getElem.1 hV j j' hl hl' h; omega
      · exact h
      · have := List.pairwise_iff_getElem.1 hV j' j hl' hl h; omega
    rw [this]; exact h4
  · intro h
    have hl : j < V.length := by
      refine Classical.byContradiction fun hn => ?_
      rw [Nat.testBit_lt_two_pow (Nat.lt_of_lt_of_le hk (Nat.pow_le_pow_right (by omega) (by omega)))] at h; cases h
    exact ⟨V[j], by simp [hl], (cfgN_bit k hV _).2 ⟨j, by simp [hl], h⟩⟩

/-- a set that depends on no feature but these -/
def onV (V : List Nat) (f : Cfg → Bool) : Prop := ∀ c d : Cfg, (∀ i ∈ V, c i = d i) → f c = f d
def tab (V : List Nat) (f : Cfg → Bool) : List Bool := (List.range (2 ^ V.length)).map fun k => f (bitsOf (cfgN V k))
theorem tab_length (V : List Nat) (f : Cfg → Bool) : (tab V f).length = 2 ^ V.length := by simp [tab]
theorem tab_at {V : List Nat} {f : Cfg → Bool} {k : Nat} (h : k < 2 ^ V.length) : (tab V f)[k]? = some (f (bitsOf (cfgN V k))) := by simp [tab, h]
theorem tab_idx {V : List Nat} {f : Cfg → Bool} (hV : V.Pairwise (· < ·)) (hf : onV V f) (c : Nat) : (tab V f)[idxN V c]? = some (f (bitsOf c)) := by
  rw [tab_at (idxN_lt V c)]
  exact congrArg some (hf _ _ fun i hi => cfg_idx hV c hi)

/-- a configuration as a number -/
theorem num_ex (V : List Nat) (hV : rising V) (c : Cfg) : ∃ k, k < 2 ^ V.length ∧ ∀ i ∈ V, bitsOf (cfgN V k) i = c i := by
  have h : ∀ (V : List Nat), ∃ k, k < 2 ^ V.length ∧ ∀ j v, V[j]? = some v → k.testBit j = c v := by
    intro V
    induction V with
    | nil => exact ⟨0, by simp, by simp⟩
    | cons v V ih =>
      obtain ⟨k, h1, h2⟩ := ih
      refine ⟨(if c v then 1 else 0) + 2 * k, by rw [List.length_cons, Nat.pow_succ]; split <;> omega, ?_⟩
      intro j u hj
      cases j with
      | zero =>
        simp at hj; subst hj
        rw [Nat.testBit_zero]; cases c v <;> simp
      | succ j =>
        rw [Nat.testBit_succ, show ((if c v then 1 else 0) + 2 * k) / 2 = k by split <;> omega]
        exact h2 j u (by simpa using hj)
  obtain ⟨k, h1, h2⟩ := h V
  refine ⟨k, h1, fun i hi => ?_⟩
  obtain ⟨j, hj⟩ := List.getElem?_of_mem hi
  show (cfgN V k).testBit i = c i
  rw [← h2 j i hj, Bool.eq_iff_iff, cfgN_bit _ hV.1]
  constructor
  · rintro ⟨j', h3, h4⟩
    have hl := (List.getElem?_eq_some_iff.1 hj).1
    have hl' := (List.getElem?_eq_some_iff.1 h3).1
    have e1 := (List.getElem?_eq_some_iff.1 hj).2
    have e2 := (List.getElem?_eq_some_iff.1 h3).2
    have : j = j' := by
      rcases Nat.lt_trichotomy j j' with h | h | h
      · have := List.pairwise_iff_getElem.1 hV.1 j j' hl hl' h; omega
      · exact h
      · have := List.pairwise_iff_getElem.1 hV.1 j' j hl' hl h; omega
    rw [this]; exact h4
  · exact fun h => ⟨j, hj, h⟩

theorem all_tab {V : List Nat} {f : Cfg → Bool} (hV : rising V) (hf : onV V f) {b : Bool} : (∀ x ∈ tab V f, x = b) ↔ ∀ c, f c = b := by
  constructor
  · intro h c
    obtain ⟨k, hk, he⟩ := num_ex V hV c
    rw [← hf _ c he]
    exact h _ (List.mem_of_getElem? (tab_at hk))
  · intro h x hx
    obtain ⟨k, _, rfl⟩ := List.mem_map.1 hx
    exact h _

/-! ### numbers of features -/
def featL (f : Nat) : List Nat := (List.range 24).filter f.testBit
theorem rising_featL (f : Nat) : rising (featL f) :=
  ⟨(List.pairwise_lt_range).filter _, fun _ hv => List.mem_range.1 (List.mem_filter.1 hv).1⟩
theorem mem_featL {f i : Nat} : i ∈ featL f ↔ i < 24 ∧ f.testBit i = true := by simp [featL]
def numN : List Nat → Nat
  | [] => 0
  | v :: V => 2 ^ v ||| numN V
theorem numN_bit {i : Nat} : ∀ {V : List Nat}, (numN V).testBit i = true ↔ i ∈ V
  | [] => by simp [numN]
  | v :: V => by rw [numN, Nat.testBit_or, Bool.or_eq_true, numN_bit, Nat.testBit_two_pow, List.mem_cons]; simp [eq_comm]
theorem numN_snoc (V : List Nat) (v : Nat) : numN (V ++ [v]) = numN V ||| 2 ^ v := by
  induction V with
  | nil => simp [numN]
  | cons a V ih => simp only [List.cons_append, numN, ih, Nat.or_assoc]
theorem numN_lt {V : List Nat} (h : ∀ v ∈ V, v < 24) : numN V < 2 ^ 24 := by
  apply Nat.lt_pow_two_of_testBit
  intro i hi
  rw [Bool.eq_false_iff]; intro hc
  have := h i (numN_bit.1 hc); omega
def joinL (V W : List Nat) : List Nat := featL (numN V ||| numN W)
theorem mem_joinL {V W : List Nat} (hV : rising V) (hW : rising W) {i : Nat} : i ∈ joinL V W ↔ i ∈ V ∨ i ∈ W := by
  rw [joinL, mem_featL, Nat.testBit_or, Bool.or_eq_true, numN_bit, numN_bit]
  constructor
  · exact fun h => h.2
  · exact fun h => ⟨by rcases h with h | h; exact hV.2 i h; exact hW.2 i h, h⟩

theorem onV_mono {V W : List Nat} {f : Cfg → Bool} (h : onV V f) (hs : ∀ i ∈ V, i ∈ W) : onV W f := fun c d hc => h c d fun i hi => hc i (hs i hi)

/-- what loops leave behind j rounds -/
theorem cfgN_take (V : List Nat) (k : Nat) : ∀ j (h : j < V.length), cfgN (V.take (j + 1)) k = cfgN (V.take j) k + if k / 2 ^ j % 2 = 1 then 2 ^ V[j] else 0 := by
  induction V generalizing k with
  | nil => intro j h; simp at h
  | cons v V ih =>
    intro j h
    cases j with
    | zero => simp [cfgN]
    | succ j =>
      have := ih (k / 2) j (by simpa using h)
      simp only [List.take_succ_cons, cfgN, List.getElem_cons_succ]
      rw [this, Nat.div_div_eq_div_mul, Nat.pow_succ, Nat.mul_comm 2]; omega
theorem idxN_take (V : List Nat) (c : Nat) : ∀ j (h : j < V.length), idxN (V.take (j + 1)) c = idxN (V.take j) c + if c.testBit V[j] then 2 ^ j else 0 := by
  induction V with
  | nil => intro j h; simp at h
  | cons v V ih =>
    intro j h
    cases j with
    | zero => simp [idxN]
    | succ j =>
      have := ih j (by simpa using h)
      simp only [List.take_succ_cons, idxN, List.getElem_cons_succ]
      rw [this, Nat.pow_succ]; generalize 2 ^ j = p
      split <;> split <;> simp_all <;> omega
theorem numN_take (V : List Nat) (j : Nat) (h : j < V.length) : numN (V.take (j + 1)) = numN (V.take j) ||| 2 ^ V[j] := by
  rw [List.take_succ_eq_append_getElem h, numN_snoc]
def featK (f k : Nat) : List Nat := (List.range k).filter f.testBit
theorem featK_succ (f k : Nat) : featK f (k + 1) = featK f k ++ if f.testBit k then [k] else [] := by
  rw [featK, List.range_succ, List.filter_append]; congr 1; simp [List.filter_cons]
theorem featK_24 (f : Nat) : featK f 24 = featL f := rfl
end Bd
end Go.Proofs.YtalnhlebgofiiaaGreatDoor
