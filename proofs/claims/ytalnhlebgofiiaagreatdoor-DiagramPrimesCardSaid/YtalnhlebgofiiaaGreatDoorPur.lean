import Derived.Test.YtalnhlebgofiiaaGreatDoorBdd
namespace Go.Proofs.YtalnhlebgofiiaaGreatDoor.Bd

/-- the digit of a cube's number for the feature in place j: 0 off, 1 on, 2 open -/
def dig (k j : Nat) : Nat := k / 3 ^ j % 3
theorem dig_zero (k : Nat) : dig k 0 = k % 3 := by simp [dig]
theorem dig_succ (k j : Nat) : dig k (j + 1) = dig (k / 3) j := by
  unfold dig; rw [Nat.pow_succ, Nat.mul_comm, Nat.div_div_eq_div_mul]
theorem dig_lt (k j : Nat) : dig k j < 3 := Nat.mod_lt _ (by decide)

theorem dig_add {d : Nat} : ∀ {j k : Nat}, dig k j + d < 3 → ∀ j', dig (k + d * 3 ^ j) j' = if j' = j then dig k j + d else dig k j'
  | 0, k, h, 0 => by rw [dig_zero] at h; simp [dig_zero]; omega
  | 0, k, h, j' + 1 => by
    rw [dig_zero] at h
    rw [dig_succ, dig_succ, if_neg (by omega), Nat.pow_zero, Nat.mul_one, show (k + d) / 3 = k / 3 by omega]
  | j + 1, k, h, 0 => by
    rw [dig_zero, dig_zero, if_neg (by omega), Nat.pow_succ]
    have : d * (3 ^ j * 3) = 3 * (d * 3 ^ j) := by rw [← Nat.mul_assoc, Nat.mul_comm]
    omega
  | j + 1, k, h, j' + 1 => by
    rw [dig_succ] at h
    have e : (k + d * 3 ^ (j + 1)) / 3 = k / 3 + d * 3 ^ j := by
      have : d * 3 ^ (j + 1) = 3 * (d * 3 ^ j) := by rw [Nat.pow_succ, ← Nat.mul_assoc, Nat.mul_comm]
      omega
    rw [dig_succ, e, dig_add h j', dig_succ, dig_succ]
    simp

theorem dig_sub {d : Nat} : ∀ {j k : Nat}, d ≤ dig k j → d * 3 ^ j ≤ k ∧ ∀ j', dig (k - d * 3 ^ j) j' = if j' = j then dig k j - d else dig k j' := by
  intro j k h
  have hle : d * 3 ^ j ≤ k := by
    have h1 : d ≤ k / 3 ^ j := Nat.le_trans h (Nat.mod_le _ _)
    exact (Nat.le_div_iff_mul_le (Nat.pow_pos (by decide))).1 h1
  refine ⟨hle, fun j' => ?_⟩
  have hj : dig (k - d * 3 ^ j) j = dig k j - d := by
    unfold dig at h ⊢
    have e : (k - d * 3 ^ j) / 3 ^ j = k / 3 ^ j - d := by rw [Nat.mul_comm]; exact Nat.sub_mul_div _ _ _
    rw [e]
    generalize k / 3 ^ j = q at *
    omega
  have hlt := dig_lt k j
  have := dig_add (d := d) (j := j) (k := k - d * 3 ^ j) (by omega) j'
  rw [Nat.sub_add_cancel hle] at this
  by_cases e : j' = j
  · subst e; simp [hj]
  · rw [if_neg e] at this ⊢; exact this.symm

/-- a number below 3 ^ n is told by its n digits -/
theorem dig_inj : ∀ {n k l : Nat}, k < 3 ^ n → l < 3 ^ n → (∀ j, j < n → dig k j = dig l j) → k = l
  | 0, k, l, hk, hl, _ => by simp at hk hl; omega
  | n + 1, k, l, hk, hl, h => by
    rw [Nat.pow_succ] at hk hl
    have h0 := h 0 (by omega)
    rw [dig_zero, dig_zero] at h0
    have := dig_inj (n := n) (k := k / 3) (l := l / 3) (by omega) (by omega) (fun j hj => by have := h (j + 1) (by omega); rwa [dig_succ, dig_succ] at this)
    omega

/-- a configuration lies in the cube with the number k over the features V -/
def fit (V : List Nat) (k : Nat) (c : Cfg) : Prop := ∀ j (h : j < V.length), (dig k j = 1 → c V[j] = true) ∧ (dig k j = 0 → c V[j] = false)
/-- the cube lies in the set -/
def ins (V : List Nat) (f : Cfg → Bool) (k : Nat) : Prop := ∀ c, fit V k c → f c = true

theorem ins_open {V : List Nat} {f : Cfg → Bool} {k j : Nat} (hj : j < V.length) (h : dig k j = 2) : ins V f k ↔ ins V f (k - 1 * 3 ^ j) ∧ ins V f (k - 2 * 3 ^ j) := by
  obtain ⟨_, d1⟩ := dig_sub (d := 1) (j := j) (k := k) (by omega)
  obtain ⟨_, d2⟩ := dig_sub (d := 2) (j := j) (k := k) (by omega)
  constructor
  · intro hi
    constructor
    · intro c hc
      refine hi c fun j' hj' => ?_
      have h1 := hc j' hj'
      rw [d1] at h1
      by_cases e : j' = j
      · subst e; rw [h]; exact ⟨fun h => absurd h (by decide), fun h => absurd h (by decide)⟩
      · rwa [if_neg e] at h1
    · intro c hc
      refine hi c fun j' hj' => ?_
      have h1 := hc j' hj'
      rw [d2] at h1
      by_cases e : j' = j
      · subst e; rw [h]; exact ⟨fun h => absurd h (by decide), fun h => absurd h (by decide)⟩
      · rwa [if_neg e] at h1
  · rintro ⟨h1, h2⟩ c hc
    cases hv : c V[j] with
    | true =>
      refine h1 c fun j' hj' => ?_
      rw [d1]
      by_cases e : j' = j
      · subst e; rw [if_pos rfl, h]; exact ⟨fun _ => hv, fun h => absurd h (by decide)⟩
      · rw [if_neg e]; exact hc j' hj'
    | false =>
      refine h2 c fun j' hj' => ?_
      rw [d2]
      by_cases e : j' = j
      · subst e; rw [if_pos rfl, h]; exact ⟨fun h => absurd h (by decide), fun _ => hv⟩
      · rw [if_neg e]; exact hc j' hj'
end Go.Proofs.YtalnhlebgofiiaaGreatDoor.Bd
namespace Go.Proofs.YtalnhlebgofiiaaGreatDoor.Bd

/-- the configuration that is on where the number says so, and nowhere else -/
noncomputable def cfgOf (V : List Nat) (k : Nat) : Cfg := fun v => @decide (∃ j, ∃ h : j < V.length, V[j] = v ∧ dig k j = 1) (Classical.propDecidable _)
theorem cfgOf_at {V : List Nat} (hV : V.Nodup) {k j : Nat} (hj : j < V.length) : cfgOf V k V[j] = true ↔ dig k j = 1 := by
  unfold cfgOf
  rw [@decide_eq_true_iff]
  constructor
  · rintro ⟨j', hj', e, hd⟩
    have : j' = j := Classical.byContradiction fun hne => by
      have hp := List.pairwise_iff_getElem.1 hV
      rcases Nat.lt_or_gt_of_ne hne with h | h
      · exact hp _ _ hj' hj h e
      · exact hp _ _ hj hj' h e.symm
    rwa [this] at hd
  · exact fun hd => ⟨j, hj, rfl, hd⟩
theorem fit_cfgOf {V : List Nat} (hV : V.Nodup) (k : Nat) : fit V k (cfgOf V k) := by
  intro j hj
  refine ⟨fun h => (cfgOf_at hV hj).2 h, fun h => ?_⟩
  cases hc : cfgOf V k V[j] with
  | false => rfl
  | true => rw [(cfgOf_at hV hj).1 hc] at h; cases h

theorem ins_full {V : List Nat} {f : Cfg → Bool} (hf : ∀ c c' : Cfg, (∀ j (h : j < V.length), c V[j] = c' V[j]) → f c = f c') {k : Nat} (hk : ∀ j, j < V.length → dig k j ≠ 2) {c0 : Cfg} (h0 : fit V k c0) : ins V f k ↔ f c0 = true := by
  refine ⟨fun h => h c0 h0, fun h c hc => ?_⟩
  rw [hf c c0 (fun j hj => ?_)]
  · exact h
  · have h1 := hc j hj
    have h2 := h0 j hj
    have h3 := hk j hj
    have h4 := dig_lt k j
    rcases (by omega : dig k j = 0 ∨ dig k j = 1) with e | e
    · rw [h1.2 e, h2.2 e]
    · rw [h1.1 e, h2.1 e]

/-- the cube lies in the set, and none that leaves one feature more open -/
def prim (V : List Nat) (f : Cfg → Bool) (k : Nat) : Prop := ins V f k ∧ ∀ j, j < V.length → dig k j ≠ 2 → ¬ ins V f (k + (2 - dig k j) * 3 ^ j)

theorem ins_all {V : List Nat} (hV : V.Nodup) (k : Nat) : ins V (fun c => V.all c) k ↔ ∀ j, j < V.length → dig k j = 1 := by
  constructor
  · intro h j hj
    have := h _ (fit_cfgOf hV k)
    rw [List.all_eq_true] at this
    exact (cfgOf_at hV hj).1 (this _ (List.getElem_mem hj))
  · intro h c hc
    rw [List.all_eq_true]
    intro v hv
    obtain ⟨j, hj, rfl⟩ := List.mem_iff_getElem.1 hv
    exact (hc j hj).1 (h j hj)
theorem prim_all {V : List Nat} (hV : V.Nodup) (k : Nat) : prim V (fun c => V.all c) k ↔ ∀ j, j < V.length → dig k j = 1 := by
  unfold prim
  rw [ins_all hV]
  refine ⟨fun h => h.1, fun h => ⟨h, fun j hj _ hi => ?_⟩⟩
  rw [ins_all hV] at hi
  have := hi j hj
  rw [dig_add (by rw [h j hj]; decide), if_pos rfl, h j hj] at this
  cases this

/-- a configuration of the cube that is on only where it must be -/
theorem ins_any {V : List Nat} (hV : V.Nodup) (k : Nat) : ins V (fun c => V.any c) k ↔ ∃ j, j < V.length ∧ dig k j = 1 := by
  constructor
  · intro h
    have := h _ (fit_cfgOf hV k)
    rw [List.any_eq_true] at this
    obtain ⟨v, hv, hc⟩ := this
    obtain ⟨j, hj, rfl⟩ := List.mem_iff_getElem.1 hv
    exact ⟨j, hj, (cfgOf_at hV hj).1 hc⟩
  · rintro ⟨j, hj, hd⟩ c hc
    rw [List.any_eq_true]
    exact ⟨V[j], List.getElem_mem hj, (hc j hj).1 hd⟩
theorem prim_any {V : List Nat} (hV : V.Nodup) (k : Nat) : prim V (fun c => V.any c) k ↔ ∃ j, j < V.length ∧ dig k j = 1 ∧ ∀ j', j' < V.length → j' ≠ j → dig k j' = 2 := by
  unfold prim
  rw [ins_any hV]
  constructor
  · rintro ⟨⟨j, hj, hd⟩, h⟩
    refine ⟨j, hj, hd, fun j' hj' hne => Classical.byContradiction fun hn => h j' hj' hn ?_⟩
    rw [ins_any hV]
    have hlt := dig_lt k j'
    refine ⟨j, hj, ?_⟩
    rw [dig_add (by omega), if_neg (Ne.symm hne), hd]
  · rintro ⟨j, hj, hd, h⟩
    refine ⟨⟨j, hj, hd⟩, fun j' hj' hn hi => ?_⟩
    rw [ins_any hV] at hi
    obtain ⟨l, hl, hdl⟩ := hi
    have hlt := dig_lt k j'
    rw [dig_add (by omega)] at hdl
    obtain rfl : j' = j := Classical.byContradiction fun hne => hn (h j' hj' hne)
    by_cases e : l = j'
    · rw [if_pos e] at hdl; omega
    · rw [if_neg e] at hdl
      rw [h l hl e] at hdl; cases hdl
end Go.Proofs.YtalnhlebgofiiaaGreatDoor.Bd
namespace Go.Proofs.YtalnhlebgofiiaaGreatDoor.Bd

/-- the mask of those of the first n features whose digit is e -/
def msk (e : Nat) (V : List Nat) (k : Nat) : Nat → Nat
  | 0 => 0
  | j + 1 => if dig k j = e then msk e V k j ||| 2 ^ V.getD j 0 else msk e V k j
theorem msk_bit (e : Nat) (V : List Nat) (k v : Nat) : ∀ n, n ≤ V.length → ((msk e V k n).testBit v = true ↔ ∃ j, ∃ h : j < V.length, j < n ∧ V[j] = v ∧ dig k j = e)
  | 0, _ => by simp [msk]
  | n + 1, hn => by
    have ih := msk_bit e V k v n (by omega)
    have hg : V.getD n 0 = V[n]'(by omega) := by rw [List.getD_eq_getElem?_getD, List.getElem?_eq_getElem (by omega : n < V.length)]; rfl
    unfold msk
    by_cases hd : dig k n = e
    · rw [if_pos hd, Nat.testBit_or, Bool.or_eq_true, ih, hg, Nat.testBit_two_pow, decide_eq_true_iff]
      constructor
      · rintro (⟨j, hj, h1, h2, h3⟩ | h)
        · exact ⟨j, hj, by omega, h2, h3⟩
        · exact ⟨n, by omega, by omega, h, hd⟩
      · rintro ⟨j, hj, h1, h2, h3⟩
        by_cases e' : j = n
        · subst e'; exact .inr h2
        · exact .inl ⟨j, hj, by omega, h2, h3⟩
    · rw [if_neg hd, ih]
      constructor
      · rintro ⟨j, hj, h1, h2, h3⟩; exact ⟨j, hj, by omega, h2, h3⟩
      · rintro ⟨j, hj, h1, h2, h3⟩
        by_cases e' : j = n
        · subst e'; exact absurd h3 hd
        · exact ⟨j, hj, by omega, h2, h3⟩
theorem msk_lt (e : Nat) {V : List Nat} (hV : ∀ v ∈ V, v < 24) (k : Nat) : ∀ n, n ≤ V.length → msk e V k n < 2 ^ 24
  | 0, _ => by simp [msk]
  | n + 1, hn => by
    have ih := msk_lt e hV k n (by omega)
    have hg : V.getD n 0 = V[n]'(by omega) := by rw [List.getD_eq_getElem?_getD, List.getElem?_eq_getElem (by omega : n < V.length)]; rfl
    unfold msk
    split
    · rw [hg]; exact Nat.or_lt_two_pow ih (Nat.pow_lt_pow_right (by omega) (hV _ (List.getElem_mem _)))
    · exact ih
/-- what is on in the mask is what the number says -/
theorem msk_cfg {V : List Nat} (hV : V.Nodup) (k : Nat) : fit V k (fun v => (msk 1 V k V.length).testBit v) := by
  intro j hj
  have hb := msk_bit 1 V k V[j] V.length (Nat.le_refl _)
  have hc := cfgOf_at hV (k := k) hj
  have e : (msk 1 V k V.length).testBit V[j] = true ↔ dig k j = 1 := by
    rw [hb, ← hc]
    unfold cfgOf
    rw [@decide_eq_true_iff]
    constructor
    · rintro ⟨j', h', _, h2, h3⟩; exact ⟨j', h', h2, h3⟩
    · rintro ⟨j', h', h2, h3⟩; exact ⟨j', h', h', h2, h3⟩
  refine ⟨fun h => e.2 h, fun h => ?_⟩
  show (msk 1 V k V.length).testBit V[j] = false
  cases hx : (msk 1 V k V.length).testBit V[j] with
  | false => rfl
  | true => rw [e.1 hx] at h; cases h
end Go.Proofs.YtalnhlebgofiiaaGreatDoor.Bd
namespace Go.Proofs.YtalnhlebgofiiaaGreatDoor.Bd

/-- the number with these digits -/
def num (d : Nat → Nat) : Nat → Nat
  | 0 => 0
  | n + 1 => num d n + d n * 3 ^ n
theorem dig_big {k n j : Nat} (h : k < 3 ^ n) (hj : n ≤ j) : dig k j = 0 := by
  unfold dig
  rw [Nat.div_eq_of_lt (Nat.lt_of_lt_of_le h (Nat.pow_le_pow_right (by decide) hj))]
theorem num_spec {d : Nat → Nat} : ∀ n, (∀ j, j < n → d j < 3) → num d n < 3 ^ n ∧ ∀ j, j < n → dig (num d n) j = d j
  | 0, _ => ⟨by simp [num], fun j h => absurd h (Nat.not_lt_zero _)⟩
  | n + 1, h => by
    obtain ⟨h1, h2⟩ := num_spec (d := d) n (fun j hj => h j (by omega))
    have h3 := h n (by omega)
    have hz : dig (num d n) n = 0 := dig_big h1 (Nat.le_refl _)
    refine ⟨?_, fun j hj => ?_⟩
    · unfold num
      have : d n * 3 ^ n ≤ 2 * 3 ^ n := Nat.mul_le_mul_right _ (by omega)
      rw [Nat.pow_succ]; omega
    · unfold num
      rw [dig_add (by rw [hz]; omega)]
      by_cases e : j = n
      · rw [if_pos e, hz, e]; omega
      · rw [if_neg e]; exact h2 j (by omega)

noncomputable def primB (V : List Nat) (f : Cfg → Bool) (k : Nat) : Bool := @decide (prim V f k) (Classical.propDecidable _)
theorem primB_iff {V : List Nat} {f : Cfg → Bool} {k : Nat} : primB V f k = true ↔ prim V f k := by unfold primB; rw [@decide_eq_true_iff]
noncomputable def insB (V : List Nat) (f : Cfg → Bool) (k : Nat) : Bool := @decide (ins V f k) (Classical.propDecidable _)
theorem insB_iff {V : List Nat} {f : Cfg → Bool} {k : Nat} : insB V f k = true ↔ ins V f k := by unfold insB; rw [@decide_eq_true_iff]
theorem insB_open {V : List Nat} {f : Cfg → Bool} {k j : Nat} (hj : j < V.length) (h : dig k j = 2) : insB V f k = (insB V f (k - 1 * 3 ^ j) && insB V f (k - 2 * 3 ^ j)) := by
  rw [Bool.eq_iff_iff, Bool.and_eq_true, insB_iff, insB_iff, insB_iff]; exact ins_open hj h

/-- the cube with the number k: the masks of its features -/
def cubeAt (V : List Nat) (k : Nat) : Nat × Nat := (msk 1 V k V.length, msk 0 V k V.length)
noncomputable def primesOf (V : List Nat) (f : Cfg → Bool) : List (Nat × Nat) := ((List.range (3 ^ V.length)).filter (primB V f)).map (cubeAt V)

theorem filter_perm {V : List Nat} {f : Cfg → Bool} {K : List Nat} (hK : K.Nodup) (h : ∀ k, (k < 3 ^ V.length ∧ prim V f k) ↔ k ∈ K) : ((List.range (3 ^ V.length)).filter (primB V f)).Perm K := by
  refine (List.perm_ext_iff_of_nodup (List.nodup_range.filter _) hK).2 fun k => ?_
  rw [List.mem_filter, List.mem_range, primB_iff]
  exact h k

theorem mem_lt_len {V : List Nat} {j : Nat} (hj : j < V.length) : V[j] ∈ V := List.getElem_mem hj
theorem msk_mem {e : Nat} {V : List Nat} {k : Nat} (h : ∀ j, j < V.length → dig k j = e) (v : Nat) : (msk e V k V.length).testBit v = true ↔ v ∈ V := by
  rw [msk_bit e V k v _ (Nat.le_refl _)]
  constructor
  · rintro ⟨j, hj, _, rfl, _⟩; exact List.getElem_mem hj
  · intro hv
    obtain ⟨j, hj, rfl⟩ := List.mem_iff_getElem.1 hv
    exact ⟨j, hj, hj, rfl, h j hj⟩
theorem msk_none {e : Nat} {V : List Nat} {k : Nat} (h : ∀ j, j < V.length → dig k j ≠ e) : msk e V k V.length = 0 := by
  refine Nat.eq_of_testBit_eq fun v => ?_
  rw [Nat.zero_testBit]
  cases hx : (msk e V k V.length).testBit v with
  | false => rfl
  | true =>
    obtain ⟨j, hj, _, _, hd⟩ := (msk_bit e V k v _ (Nat.le_refl _)).1 hx
    exact absurd hd (h j hj)
theorem msk_one {e : Nat} {V : List Nat} {k j : Nat} (hj : j < V.length) (h1 : dig k j = e) (h2 : ∀ i, i < V.length → i ≠ j → dig k i ≠ e) : msk e V k V.length = 2 ^ V[j] := by
  refine Nat.eq_of_testBit_eq fun v => ?_
  rw [Bool.eq_iff_iff, msk_bit e V k v _ (Nat.le_refl _), Nat.testBit_two_pow, decide_eq_true_iff]
  constructor
  · rintro ⟨i, hi, _, hv, hd⟩
    obtain rfl : i = j := Classical.byContradiction fun hne => h2 i hi hne hd
    exact hv
  · intro hv; exact ⟨j, hj, hj, hv, h1⟩

/-- the primes of 'all of these features' -/
theorem primes_all {V : List Nat} (hV : V.Nodup) {m : Nat} (hm : ∀ v, m.testBit v = true ↔ v ∈ V) : (primesOf V (fun c => V.all c)).Perm [(m, 0)] := by
  obtain ⟨s1, s2⟩ := num_spec (d := fun _ => 1) V.length (fun _ _ => by decide)
  have hp := filter_perm (V := V) (f := fun c => V.all c) (K := [num (fun _ => 1) V.length]) (by simp) (fun k => by
    rw [prim_all hV, List.mem_singleton]
    constructor
    · rintro ⟨hk, h⟩
      exact dig_inj hk s1 (fun j hj => by rw [h j hj, s2 j hj])
    · rintro rfl; exact ⟨s1, s2⟩)
  have := hp.map (cubeAt V)
  have e : cubeAt V (num (fun _ => 1) V.length) = (m, 0) := by
    unfold cubeAt
    rw [msk_none (e := 0) (fun j hj => by rw [s2 j hj]; decide)]
    congr 1
    refine Nat.eq_of_testBit_eq fun v => ?_
    rw [Bool.eq_iff_iff, msk_mem s2, hm]
  unfold primesOf
  simpa [e] using this

/-- the primes of 'one at least of these features' -/
theorem primes_any {V : List Nat} (hV : V.Nodup) : (primesOf V (fun c => V.any c)).Perm (V.map fun v => (2 ^ v, 0)) := by
  have sp := fun j (hj : j < V.length) => num_spec (d := fun i => if i = j then 1 else 2) V.length (fun i _ => by split <;> decide)
  have hp := filter_perm (V := V) (f := fun c => V.any c) (K := (List.range V.length).map fun j => num (fun i => if i = j then 1 else 2) V.length) (by
    refine List.Pairwise.map _ ?_ (List.Pairwise.and_mem.1 (List.nodup_range (n := V.length)))
    rintro a b ⟨ha, hb, hne⟩ e
    rw [List.mem_range] at ha hb
    have h1 := (sp a ha).2 a ha
    have h2 := (sp b hb).2 a ha
    rw [e, h2] at h1
    simp [hne] at h1) (fun k => by
    rw [prim_any hV, List.mem_map]
    constructor
    · rintro ⟨hk, j, hj, h1, h2⟩
      refine ⟨j, List.mem_range.2 hj, (dig_inj (sp j hj).1 hk (fun i hi => ?_))⟩
      rw [(sp j hj).2 i hi]
      by_cases e : i = j
      · subst e; simp [h1]
      · simp [e, h2 i hi e]
    · rintro ⟨j, hj, rfl⟩
      have hj := List.mem_range.1 hj
      refine ⟨(sp j hj).1, j, hj, by rw [(sp j hj).2 j hj]; simp, fun i hi hne => by rw [(sp j hj).2 i hi]; simp [hne]⟩)
  have := hp.map (cubeAt V)
  have e : (((List.range V.length).map fun j => num (fun i => if i = j then 1 else 2) V.length).map (cubeAt V)) = V.map fun v => (2 ^ v, 0) := by
    refine List.ext_getElem (by simp) fun j h1 h2 => ?_
    simp only [List.length_map, List.length_range] at h1
    simp only [List.getElem_map, List.getElem_range]
    have s := (sp j h1).2
    unfold cubeAt
    rw [msk_none (e := 0) (fun i hi => by rw [s i hi]; split <;> decide), msk_one h1 (by rw [s j h1]; simp) (fun i hi hne => by rw [s i hi]; simp [hne])]
  unfold primesOf
  rw [e] at this
  exact this
end Go.Proofs.YtalnhlebgofiiaaGreatDoor.Bd
