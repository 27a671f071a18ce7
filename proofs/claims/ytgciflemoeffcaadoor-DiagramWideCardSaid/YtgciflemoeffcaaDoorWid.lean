import Derived.Test.YtgciflemoeffcaaDoorPrm
import Derived.Test.YtgciflemoeffcaaDoorNot
import Derived.Test.YtgciflemoeffcaaDoorRefB
import Derived.Test.YtgciflemoeffcaaDoorWake
namespace Go.Proofs.YtgciflemoeffcaaDoor
open Go.RowKit
namespace Bd

theorem ev_all (f : Nat) : (cubeB f 0).ev = fun c => (featL f).all c := by
  funext c
  have e : cubeB f 0 = cubeP f 0 24 := if_pos (by simp)
  rw [e, ev_cubeP, Bool.eq_iff_iff]
  simp only [cubeEv, List.all_eq_true, List.mem_range, mem_featL, Nat.zero_testBit]
  constructor
  · rintro h v ⟨hv, hb⟩
    have := h (23 - v) (by omega)
    rw [show 23 - (23 - v) = v by omega, hb] at this
    simpa using this
  · intro h j hj
    cases hb : f.testBit (23 - j) with
    | false => simp
    | true => simpa using h (23 - j) ⟨by omega, hb⟩
theorem ev_any (f : Nat) : (cubeB 0 f).neg.ev = fun c => (featL f).any c := by
  funext c
  have e : cubeB 0 f = cubeP 0 f 24 := if_pos (by simp)
  rw [ev_neg, e, ev_cubeP, Bool.eq_iff_iff, Bool.not_eq_true', ← Bool.not_eq_true]
  simp only [cubeEv, List.all_eq_true, List.any_eq_true, List.mem_range, mem_featL, Nat.zero_testBit]
  constructor
  · intro h
    refine Classical.byContradiction fun hn => h fun j hj => ?_
    cases hb : f.testBit (23 - j) with
    | false => simp
    | true =>
      cases hc : c (23 - j) with
      | false => simp
      | true => exact absurd ⟨23 - j, ⟨by omega, hb⟩, hc⟩ hn
  · rintro ⟨v, ⟨hv, hb⟩, hc⟩ h
    have := h (23 - v) (by omega)
    rw [show 23 - (23 - v) = v by omega, hb, hc] at this
    simp at this
/-- the features of a set, by what it depends on -/
theorem featL_dep {A : B} (hA : A.ok 0) {f : Nat} (h : ∀ i, i < 24 → (dep A.ev i ↔ f.testBit i = true)) : featL (supR (li A)) = featL f := by
  unfold featL
  refine List.filter_congr fun i hi => ?_
  rw [Bool.eq_iff_iff, supR_dep hA]
  exact h i (List.mem_range.1 hi)
theorem dep_all (V : List Nat) (i : Nat) : dep (fun c => V.all c) i ↔ i ∈ V := by
  constructor
  · rintro ⟨c, hc⟩
    refine Classical.byContradiction fun hn => hc ?_
    show V.all (up c i false) = V.all (up c i true)
    rw [Bool.eq_iff_iff, List.all_eq_true, List.all_eq_true]
    have e : ∀ x ∈ V, ∀ b, up c i b x = c x := fun x hx b => by unfold up; rw [if_neg (fun h : x = i => hn (h ▸ hx))]
    exact ⟨fun h x hx => by rw [e x hx]; have := h x hx; rwa [e x hx] at this, fun h x hx => by rw [e x hx]; have := h x hx; rwa [e x hx] at this⟩
  · intro hi
    refine ⟨fun _ => true, fun h => ?_⟩
    have h1 : V.all (up (fun _ => true) i true) = true := by
      rw [List.all_eq_true]; intro x _; unfold up; split <;> rfl
    have h : V.all (up (fun _ => true) i false) = V.all (up (fun _ => true) i true) := h
    rw [h1, List.all_eq_true] at h
    have := h i hi
    unfold up at this; simp at this
theorem dep_any (V : List Nat) (i : Nat) : dep (fun c => V.any c) i ↔ i ∈ V := by
  constructor
  · rintro ⟨c, hc⟩
    refine Classical.byContradiction fun hn => hc ?_
    show V.any (up c i false) = V.any (up c i true)
    rw [Bool.eq_iff_iff, List.any_eq_true, List.any_eq_true]
    have e : ∀ x ∈ V, ∀ b, up c i b x = c x := fun x hx b => by unfold up; rw [if_neg (fun h : x = i => hn (h ▸ hx))]
    exact ⟨fun ⟨x, hx, h⟩ => ⟨x, hx, by rw [e x hx] at h ⊢; exact h⟩, fun ⟨x, hx, h⟩ => ⟨x, hx, by rw [e x hx] at h ⊢; exact h⟩⟩
  · intro hi
    refine ⟨fun _ => false, fun h => ?_⟩
    have h1 : V.any (up (fun _ => false) i true) = true := by
      rw [List.any_eq_true]; exact ⟨i, hi, by unfold up; simp⟩
    have h0 : V.any (up (fun _ => false) i false) = false := by
      rw [← Bool.not_eq_true, List.any_eq_true]
      rintro ⟨x, _, hx⟩
      unfold up at hx; split at hx <;> cases hx
    have h : V.any (up (fun _ => false) i false) = V.any (up (fun _ => false) i true) := h
    rw [h0, h1] at h; cases h
theorem feats_all (f : Nat) : featL (supR (li (cubeB f 0))) = featL f := featL_dep (ok_cubeB f 0) fun i hi => by
  rw [ev_all, dep_all, mem_featL]; exact ⟨fun h => h.2, fun h => ⟨hi, h⟩⟩
theorem feats_any (f : Nat) : featL (supR (li (cubeB 0 f).neg)) = featL f := featL_dep (ok_neg (ok_cubeB 0 f)) fun i hi => by
  rw [ev_any, dep_any, mem_featL]; exact ⟨fun h => h.2, fun h => ⟨hi, h⟩⟩
end Bd
open Bd

theorem clist_perm {V : List Nat} {g : Cfg → Bool} {L : List (Nat × Nat)} (h : (primesOf V g).Perm L) : (clist V g (3 ^ V.length)).Perm (L.map toCub) := by
  have := h.map toCub
  unfold primesOf at this
  rw [List.map_map] at this
  exact this
theorem pop_one : ∀ v : _root_.Fin 24, popN (2 ^ v.val) + popN 0 = 1 := by decide +kernel
/-- the sorted primes of 'all of these features' -/
theorem sorted_all (f : Nat) : ((clist (featL f) (fun c => (featL f).all c) (3 ^ (featL f).length)).mergeSort fun x y => !(ltOf (cubeCmp popN)) y x) = [toCub (f % 2 ^ 24, 0)] := by
  have hV := (rising_featL f).1.imp (S := (· ≠ ·)) fun h => Nat.ne_of_lt h
  exact sort_cube popN (clist_perm (primes_all hV (m := f % 2 ^ 24) (hasBits_featL f))) (by simp)
/-- the sorted primes of 'one at least of these features' -/
theorem sorted_any (f : Nat) : ((clist (featL f) (fun c => (featL f).any c) (3 ^ (featL f).length)).mergeSort fun x y => !(ltOf (cubeCmp popN)) y x) = (featL f).map fun v => toCub (2 ^ v, 0) := by
  have hV := (rising_featL f).1.imp (S := (· ≠ ·)) fun h => Nat.ne_of_lt h
  have hp := clist_perm (primes_any hV)
  rw [List.map_map] at hp
  refine sort_cube popN hp ?_
  refine List.Pairwise.map _ ?_ (List.Pairwise.and_mem.1 (rising_featL f).1)
  rintro a b ⟨ha, hb, hlt⟩
  have ha := (mem_featL.1 ha).1
  have hb := (mem_featL.1 hb).1
  have ta : (2 ^ a : Nat) < 2 ^ 24 := Nat.pow_lt_pow_right (by omega) ha
  have tb : (2 ^ b : Nat) < 2 ^ 24 := Nat.pow_lt_pow_right (by omega) hb
  have tab : (2 ^ a : Nat) < 2 ^ b := Nat.pow_lt_pow_right (by omega) hlt
  rw [ltOf_cube_not]
  show ¬ (popN (toCub (2 ^ b, 0)).1.val + popN (toCub (2 ^ b, 0)).2.val < _ ∨ _)
  rw [toCub_1 (p := (2 ^ b, 0)) tb, toCub_2 (p := (2 ^ b, 0)) (show (0 : Nat) < 2 ^ 24 by decide)]
  show ¬ (_ < popN (toCub (2 ^ a, 0)).1.val + popN (toCub (2 ^ a, 0)).2.val ∨ _)
  rw [toCub_1 (p := (2 ^ a, 0)) ta, toCub_2 (p := (2 ^ a, 0)) (show (0 : Nat) < 2 ^ 24 by decide)]
  have p1 := pop_one ⟨a, ha⟩
  have p2 := pop_one ⟨b, hb⟩
  simp only at p1 p2 ⊢
  omega
end Go.Proofs.YtgciflemoeffcaaDoor
