import Derived.Test.YtalnhlebgofiiaaGreatDoorExi
namespace Go.Proofs.YtalnhlebgofiiaaGreatDoor
open Go.RowKit
open Bd

/-! the prime cubes of a set: they lie in it, cover it, and none lies in another one -/
theorem dig_up {k j : Nat} (_h : dig k j ≠ 2) (i : Nat) : dig (k + (2 - dig k j) * 3 ^ j) i = if i = j then 2 else dig k i := by
  have hl := dig_lt k j
  rw [dig_add (by omega) i]
  split <;> omega
theorem up_lt : ∀ {j n k d : Nat}, j < n → k < 3 ^ n → dig k j + d < 3 → k + d * 3 ^ j < 3 ^ n
  | _, 0, _, _, h, _, _ => absurd h (Nat.not_lt_zero _)
  | 0, n + 1, k, d, _, hk, h => by
    rw [dig_zero] at h
    rw [Nat.pow_succ] at *
    generalize 3 ^ n = q at *
    omega
  | j + 1, n + 1, k, d, hj, hk, h => by
    rw [dig_succ] at h
    rw [Nat.pow_succ] at hk
    have := up_lt (j := j) (n := n) (k := k / 3) (d := d) (by omega) (by omega) h
    have e : d * 3 ^ (j + 1) = 3 * (d * 3 ^ j) := by rw [Nat.pow_succ, ← Nat.mul_assoc, Nat.mul_comm]
    rw [e, Nat.pow_succ]
    generalize d * 3 ^ j = x at *
    omega
section
variable {V : List Nat} {f : Cfg → Bool}
/-- a fixed feature of a cube that contains another one is fixed there alike -/
theorem fit_fixed (hV : V.Nodup) {k1 k2 : Nat} (h : ∀ c, fit V k1 c → fit V k2 c) {j : Nat} (hj : j < V.length) (h2 : dig k2 j ≠ 2) : dig k1 j = dig k2 j := by
  have hl1 := dig_lt k1 j
  have hl2 := dig_lt k2 j
  have hat : ∀ c : Cfg, ∀ b : Bool, fit V k1 c → (dig k1 j = 1 → b = true) → (dig k1 j = 0 → b = false) → fit V k2 (fun v => if v = V[j] then b else c v) := fun c b hc h1 h0 => h _ fun i hi => by
    by_cases e : V[i] = V[j]
    · have : i = j := Classical.byContradiction fun hne => by
        have hp := List.pairwise_iff_getElem.1 hV
        rcases Nat.lt_or_gt_of_ne hne with h | h
        · exact hp _ _ hi hj h e
        · exact hp _ _ hj hi h e.symm
      subst this
      simp only
      exact ⟨h1, h0⟩
    · simp only [if_neg e]; exact hc i hi
  have hc := fit_cfgOf hV k1
  have key : ∀ b : Bool, (dig k1 j = 1 → b = true) → (dig k1 j = 0 → b = false) → (dig k2 j = 1 → b = true) ∧ (dig k2 j = 0 → b = false) := fun b h1 h0 => by
    have := hat _ b hc h1 h0 j hj
    simpa using this
  by_cases e1 : dig k1 j = 2
  · have a := (key true (fun _ => rfl) (fun h => by omega)).2
    have b := (key false (fun h => by omega) (fun _ => rfl)).1
    rcases (by omega : dig k2 j = 0 ∨ dig k2 j = 1) with e | e
    · exact absurd (a e) (by simp)
    · exact absurd (b e) (by simp)
  · rcases (by omega : dig k1 j = 0 ∨ dig k1 j = 1) with e | e
    · have b := (key false (fun h => by omega) (fun _ => rfl)).1
      rcases (by omega : dig k2 j = 0 ∨ dig k2 j = 1) with e2 | e2
      · omega
      · exact absurd (b e2) (by simp)
    · have a := (key true (fun _ => rfl) (fun h => by omega)).2
      rcases (by omega : dig k2 j = 0 ∨ dig k2 j = 1) with e2 | e2
      · exact absurd (a e2) (by simp)
      · omega
/-- no prime cube lies in another one -/
theorem prim_apart (hV : V.Nodup) {k1 k2 : Nat} (h1 : k1 < 3 ^ V.length) (h2 : k2 < 3 ^ V.length) (p1 : prim V f k1) (p2 : prim V f k2) (hne : k1 ≠ k2) : ¬ ∀ c, fit V k1 c → fit V k2 c := fun h => by
  have hd : ∃ j, j < V.length ∧ dig k1 j ≠ dig k2 j := Classical.byContradiction fun hn => hne (dig_inj h1 h2 fun j hj => Classical.byContradiction fun e => hn ⟨j, hj, e⟩)
  obtain ⟨j0, hj0, hd0⟩ := hd
  have e2 : dig k2 j0 = 2 := Classical.byContradiction fun e => hd0 (fit_fixed hV h hj0 e)
  have e1 : dig k1 j0 ≠ 2 := fun e => hd0 (by rw [e, e2])
  refine p1.2 j0 hj0 e1 fun c hc => p2.1 c fun i hi => ?_
  by_cases ei : i = j0
  · subst ei; rw [e2]; exact ⟨fun h => by omega, fun h => by omega⟩
  · by_cases e : dig k2 i = 2
    · rw [e]; exact ⟨fun h => by omega, fun h => by omega⟩
    · have := hc i hi
      rw [dig_up e1 i, if_neg ei, fit_fixed hV h hi e] at this
      exact this
/-- a cube that lies in the set lies in a prime one -/
theorem prim_ext {c : Cfg} : ∀ (m k : Nat), 3 ^ V.length - k ≤ m → k < 3 ^ V.length → ins V f k → fit V k c → ∃ k', k' < 3 ^ V.length ∧ prim V f k' ∧ fit V k' c
  | 0, k, hm, hk, _, _ => by omega
  | m + 1, k, hm, hk, hi, hf => by
    by_cases hp : prim V f k
    · exact ⟨k, hk, hp, hf⟩
    · have hex : ∃ j, j < V.length ∧ dig k j ≠ 2 ∧ ins V f (k + (2 - dig k j) * 3 ^ j) := Classical.byContradiction fun hn => hp ⟨hi, fun j hj h2 hi' => hn ⟨j, hj, h2, hi'⟩⟩
      obtain ⟨j, hj, h2, hi'⟩ := hex
      have hl := dig_lt k j
      have hpos : 0 < (2 - dig k j) * 3 ^ j := Nat.mul_pos (by omega) (Nat.pos_of_ne_zero (by simp))
      refine prim_ext m _ (by omega) (up_lt hj hk (by omega)) hi' fun i hi => ?_
      rw [dig_up h2 i]
      by_cases e : i = j
      · rw [if_pos e]; exact ⟨fun h => by omega, fun h => by omega⟩
      · rw [if_neg e]; exact hf i hi
theorem prim_covers (hon : ∀ c c' : Cfg, (∀ j (h : j < V.length), c V[j] = c' V[j]) → f c = f c') {c : Cfg} (hc : f c = true) : ∃ k, k < 3 ^ V.length ∧ prim V f k ∧ fit V k c := by
  obtain ⟨h1, h2⟩ := num_spec (d := fun j => if c (V.getD j 0) = true then 1 else 0) V.length (fun j _ => by split <;> omega)
  have hd : ∀ j (h : j < V.length), dig (num (fun j => if c (V.getD j 0) = true then 1 else 0) V.length) j = if c V[j] = true then 1 else 0 := fun j h => by
    rw [h2 j h]; simp [List.getD, h]
  generalize num (fun j => if c (V.getD j 0) = true then 1 else 0) V.length = k at *
  have hfit : fit V k c := fun j hj => by
    rw [hd j hj]
    cases hb : c V[j] <;> simp
  exact prim_ext _ k (Nat.le_refl _) h1 ((ins_full hon (fun j hj => by rw [hd j hj]; split <;> omega) hfit).2 hc) hfit
end

theorem ev_cubeB' (on off : Nat) (c : Cfg) : (cubeB on off).ev c = true ↔ ∀ i, i < 24 → (on.testBit i = true → c i = true) ∧ (off.testBit i = true → c i = false) := by
  unfold cubeB
  by_cases h : on &&& off &&& 16777215 = 0
  · rw [if_pos h, ev_cubeP24]
    have hno : ∀ i, i < 24 → ¬ (on.testBit i = true ∧ off.testBit i = true) := fun i hi ⟨h1, h2⟩ => by
      have h3 : (on &&& off &&& 16777215).testBit i = true := by
        rw [Nat.testBit_and, Nat.testBit_and, h1, h2, show (16777215 : Nat) = 2 ^ 24 - 1 by decide, Nat.testBit_two_pow_sub_one]; simpa using hi
      rw [h, Nat.zero_testBit] at h3; cases h3
    constructor
    · intro hh i hi
      refine ⟨(hh i hi).1, fun ho => (hh i hi).2 ?_ ho⟩
      cases hb : on.testBit i with
      | false => rfl
      | true => exact absurd ⟨hb, ho⟩ (hno i hi)
    · exact fun hh i hi => ⟨(hh i hi).1, fun _ => (hh i hi).2⟩
  · rw [if_neg h]
    constructor
    · intro hh; cases hh
    · intro hh
      exfalso
      apply h
      refine Nat.eq_of_testBit_eq fun i => ?_
      rw [Nat.zero_testBit, Nat.testBit_and, Nat.testBit_and, show (16777215 : Nat) = 2 ^ 24 - 1 by decide, Nat.testBit_two_pow_sub_one]
      cases h1 : on.testBit i <;> cases h2 : off.testBit i <;> simp
      refine Classical.byContradiction fun h3 => ?_
      have hi : i < 24 := by omega
      have a := (hh i hi).1 h1
      have b := (hh i hi).2 h2
      rw [a] at b; cases b
/-- the cube of a number -/
theorem ev_cubeAt {V : List Nat} (hV : ∀ v ∈ V, v < 24) (k : Nat) (c : Cfg) : (cubeB (cubeAt V k).1 (cubeAt V k).2).ev c = true ↔ fit V k c := by
  rw [ev_cubeB']
  unfold cubeAt fit
  constructor
  · intro h j hj
    have hm := hV _ (List.getElem_mem hj)
    exact ⟨fun e => (h _ hm).1 ((msk_bit 1 V k V[j] V.length (Nat.le_refl _)).2 ⟨j, hj, hj, rfl, e⟩), fun e => (h _ hm).2 ((msk_bit 0 V k V[j] V.length (Nat.le_refl _)).2 ⟨j, hj, hj, rfl, e⟩)⟩
  · intro h i _
    refine ⟨fun hb => ?_, fun hb => ?_⟩
    · obtain ⟨j, hj, _, rfl, e⟩ := (msk_bit 1 V k i V.length (Nat.le_refl _)).1 hb
      exact (h j hj).1 e
    · obtain ⟨j, hj, _, rfl, e⟩ := (msk_bit 0 V k i V.length (Nat.le_refl _)).1 hb
      exact (h j hj).2 e
theorem ev_orL : ∀ (L : List B) (_ : ∀ x ∈ L, x.ok 0) (c : Cfg), (orL L).ev c = L.any fun x => x.ev c := by
  have key : ∀ (L : List B) (z : B), z.ok 0 → (∀ x ∈ L, x.ok 0) → ∀ c, (L.foldl (fun x y => ite x .T y) z).ev c = (z.ev c || L.any fun x => x.ev c) := by
    intro L
    induction L with
    | nil => intro z _ _ c; simp
    | cons y L ih =>
      intro z hz hL c
      have hy := hL y (by simp)
      rw [List.foldl_cons, ih _ (ok_ite0 _ _ _) (fun x hx => hL x (by simp [hx])), ev_ite hz (show (B.T).ok 0 from trivial) hy, List.any_cons]
      cases z.ev c <;> simp [B.ev]
  intro L hL c
  unfold orL
  rw [key L .F trivial hL c]; simp [B.ev]
/-- what the law asks of the cubes -/
theorem cov_in {A : B} (hA : A.ok 0) {V : List Nat} (hV : V.Nodup) (hV24 : ∀ v ∈ V, v < 24) {k : Nat} (hp : prim V A.ev k) : cubeB (cubeAt V k).1 (cubeAt V k).2 ≠ .F ∧ ite (cubeB (cubeAt V k).1 (cubeAt V k).2) A .T = .T := by
  constructor
  · intro h
    have := (ev_cubeAt hV24 k (cfgOf V k)).2 (fit_cfgOf hV k)
    rw [h] at this; cases this
  · refine eq_of_ev (ok_ite0 _ _ _) (show (B.T).ok 0 from trivial) fun c => ?_
    rw [ev_ite (ok_cubeB _ _) hA (show (B.T).ok 0 from trivial)]
    cases hc : (cubeB (cubeAt V k).1 (cubeAt V k).2).ev c with
    | false => rfl
    | true => rw [if_pos rfl, hp.1 c ((ev_cubeAt hV24 k c).1 hc)]; rfl
theorem cov_apart {A : B} {V : List Nat} (hV : V.Nodup) (hV24 : ∀ v ∈ V, v < 24) {k1 k2 : Nat} (h1 : k1 < 3 ^ V.length) (h2 : k2 < 3 ^ V.length) (p1 : prim V A.ev k1) (p2 : prim V A.ev k2) (hne : k1 ≠ k2) :
    ite (cubeB (cubeAt V k1).1 (cubeAt V k1).2) (cubeB (cubeAt V k2).1 (cubeAt V k2).2) .T ≠ .T := fun h => by
  refine prim_apart hV h1 h2 p1 p2 hne fun c hc => ?_
  have h3 : (ite (cubeB (cubeAt V k1).1 (cubeAt V k1).2) (cubeB (cubeAt V k2).1 (cubeAt V k2).2) .T).ev c = true := by rw [h]; rfl
  rw [ev_ite (ok_cubeB _ _) (ok_cubeB _ _) (show (B.T).ok 0 from trivial), if_pos ((ev_cubeAt hV24 k1 c).2 hc)] at h3
  exact (ev_cubeAt hV24 k2 c).1 h3
theorem cov_all {A : B} (hA : A.ok 0) {V : List Nat} (hV24 : ∀ v ∈ V, v < 24) (hon : ∀ c c' : Cfg, (∀ j (h : j < V.length), c V[j] = c' V[j]) → A.ev c = A.ev c')
    {L : List (Nat × Nat)} (hL : ∀ x, x ∈ L ↔ ∃ k, k < 3 ^ V.length ∧ prim V A.ev k ∧ x = cubeAt V k) : orL (L.map fun x => cubeB x.1 x.2) = A := by
  have hok : ∀ x ∈ L.map (fun x => cubeB x.1 x.2), x.ok 0 := fun x hx => by
    obtain ⟨y, _, rfl⟩ := List.mem_map.1 hx; exact ok_cubeB _ _
  refine eq_of_ev (ok_orL _) hA fun c => ?_
  rw [ev_orL _ hok c, Bool.eq_iff_iff, List.any_eq_true]
  constructor
  · rintro ⟨x, hx, hc⟩
    obtain ⟨y, hy, rfl⟩ := List.mem_map.1 hx
    obtain ⟨k, hk, hp, rfl⟩ := (hL y).1 hy
    exact hp.1 c ((ev_cubeAt hV24 k c).1 hc)
  · intro hc
    obtain ⟨k, hk, hp, hf⟩ := prim_covers hon hc
    exact ⟨_, List.mem_map.2 ⟨cubeAt V k, (hL _).2 ⟨k, hk, hp, rfl⟩, rfl⟩, (ev_cubeAt hV24 k c).2 hf⟩
theorem cubeAt_inj {V : List Nat} (hV : V.Nodup) {k1 k2 : Nat} (h1 : k1 < 3 ^ V.length) (h2 : k2 < 3 ^ V.length) (h : cubeAt V k1 = cubeAt V k2) : k1 = k2 := by
  have hb : ∀ e, (e = 0 ∨ e = 1) → ∀ j (hj : j < V.length) (k : Nat), (msk e V k V.length).testBit V[j] = true ↔ dig k j = e := fun e _ j hj k => by
    rw [msk_bit e V k V[j] V.length (Nat.le_refl _)]
    constructor
    · rintro ⟨i, hi, _, ei, hd⟩
      have : i = j := Classical.byContradiction fun hne => by
        have hp := List.pairwise_iff_getElem.1 hV
        rcases Nat.lt_or_gt_of_ne hne with h | h
        · exact hp _ _ hi hj h ei
        · exact hp _ _ hj hi h ei.symm
      subst this; exact hd
    · exact fun hd => ⟨j, hj, hj, rfl, hd⟩
  unfold cubeAt at h
  have e1 := congrArg Prod.fst h
  have e0 := congrArg Prod.snd h
  simp only at e1 e0
  refine dig_inj h1 h2 fun j hj => ?_
  have a1 := hb 1 (.inr rfl) j hj k1
  have a2 := hb 1 (.inr rfl) j hj k2
  have b1 := hb 0 (.inl rfl) j hj k1
  have b2 := hb 0 (.inl rfl) j hj k2
  rw [e1, a2] at a1
  rw [e0, b2] at b1
  have l1 := dig_lt k1 j
  have l2 := dig_lt k2 j
  omega
end Go.Proofs.YtalnhlebgofiiaaGreatDoor
