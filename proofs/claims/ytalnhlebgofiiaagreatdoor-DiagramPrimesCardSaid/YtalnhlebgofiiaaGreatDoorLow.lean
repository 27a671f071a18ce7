import Derived.Test.YtalnhlebgofiiaaGreatDoorPur
import Derived.Test.YtalnhlebgofiiaaGreatDoorTab
import Derived.Lib.TrailingZeros
namespace Go.Proofs.YtalnhlebgofiiaaGreatDoor
namespace Bd

/-- x has just these bits -/
def hasBits (x : Nat) (V : List Nat) : Prop := ∀ i, x.testBit i = true ↔ i ∈ V
theorem hasBits_nil {x : Nat} : hasBits x [] → x = 0 := fun h => by
  refine Nat.eq_of_testBit_eq fun i => ?_
  rw [Nat.zero_testBit]
  cases hx : x.testBit i with
  | false => rfl
  | true => exact absurd ((h i).1 hx) (by simp)
theorem hasBits_featL (m : Nat) : hasBits (m % 2 ^ 24) (featL m) := fun i => by
  rw [mem_featL, Nat.testBit_mod_two_pow, Bool.and_eq_true, decide_eq_true_iff]
theorem low_bit {x v : Nat} {V : List Nat} (h : hasBits x (v :: V)) (hr : (v :: V).Pairwise (· < ·)) (hx : x < 2 ^ 32) :
    x ≠ 0 ∧ Go.Lib.ctz 32 x = v ∧ hasBits (x &&& (x - 1)) V ∧ x - 1 < x := by
  have h0 : x ≠ 0 := by
    rintro rfl
    have := (h v).2 List.mem_cons_self
    rw [Nat.zero_testBit] at this; cases this
  obtain ⟨m, hm, hc⟩ := Go.Lib.ctzFrom_spec 32 x (by omega) hx
  have hz : Go.Lib.ctz 32 x = Go.Lib.ctzFrom 32 x := by unfold Go.Lib.ctz; rw [if_neg h0]
  rw [hz]
  generalize Go.Lib.ctzFrom 32 x = c at *
  have hpos : 0 < 2 ^ c := Nat.two_pow_pos c
  have b1 : ∀ i, x.testBit i = if i < c then false else (2 * m + 1).testBit (i - c) := fun i => by
    have := Nat.testBit_two_pow_mul_add (2 * m + 1) (b := 0) (i := c) hpos i
    rw [Nat.add_zero, ← hm, Nat.zero_testBit] at this
    exact this
  have hx1 : x - 1 = 2 ^ c * (2 * m) + (2 ^ c - 1) := by
    rw [hm, Nat.mul_add, Nat.mul_one]; omega
  have b2 : ∀ i, (x - 1).testBit i = if i < c then (2 ^ c - 1).testBit i else (2 * m).testBit (i - c) := fun i => by
    rw [hx1]; exact Nat.testBit_two_pow_mul_add (2 * m) (by omega) i
  obtain ⟨hv, hV⟩ := List.pairwise_cons.1 hr
  have hcv : c = v := by
    have hcb : x.testBit c = true := by rw [b1, if_neg (Nat.lt_irrefl c), Nat.sub_self]; simp
    have hvb := (h v).2 List.mem_cons_self
    rcases List.mem_cons.1 ((h c).1 hcb) with e | e
    · exact e
    · have hlt := hv c e
      rw [b1, if_pos hlt] at hvb; cases hvb
  subst hcv
  refine ⟨h0, rfl, fun i => ?_, by omega⟩
  rw [Nat.testBit_and, Bool.and_eq_true]
  constructor
  · rintro ⟨e1, e2⟩
    rcases List.mem_cons.1 ((h i).1 e1) with e | e
    · subst e
      rw [b2, if_neg (Nat.lt_irrefl _), Nat.sub_self] at e2
      simp at e2
    · exact e
  · intro hi
    have e1 := (h i).2 (List.mem_cons_of_mem _ hi)
    refine ⟨e1, ?_⟩
    have hlt := hv i hi
    rw [b1, if_neg (by omega)] at e1
    rw [b2, if_neg (by omega)]
    obtain ⟨j, hj⟩ : ∃ j, i - c = j + 1 := ⟨i - c - 1, by omega⟩
    rw [hj, Nat.testBit_succ] at e1 ⊢
    rwa [show (2 * m + 1) / 2 = 2 * m / 2 by omega] at e1
end Bd
end Go.Proofs.YtalnhlebgofiiaaGreatDoor
