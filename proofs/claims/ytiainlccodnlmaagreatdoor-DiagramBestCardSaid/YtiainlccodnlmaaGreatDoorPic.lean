import Derived.Test.YtiainlccodnlmaaGreatDoorChp
import Derived.Test.YtiainlccodnlmaaGreatDoorRefL
namespace Go.Proofs.YtiainlccodnlmaaGreatDoor
open Go.RowKit
open Bd

/-! what is picked: the price of best in plain sums -/

/-- what a configuration costs -/
def cst (w : Nat → Int) (c : Nat) : Int := sumF (fun j => if c.testBit j then w j else 0) 24
theorem sumF_sub {f g h : Nat → Int} : ∀ {n : Nat}, (∀ j, j < n → f j = g j - h j) → sumF f n = sumF g n - sumF h n
  | 0, _ => by simp [sumF]
  | n + 1, H => by
    have ih := sumF_sub (n := n) (f := f) (g := g) (h := h) fun j hj => H j (by omega)
    have := H n (by omega)
    simp only [sumF]
    omega
theorem pr_cst {w : Nat → Int} {us : Nat} (hu : ∀ j, j < 24 → us.testBit j = decide (w j < 0)) (c : Nat) : pr w us c = cst w c - cst w us :=
  sumF_sub fun j hj => by
    have h := hu j hj
    unfold prj
    rw [h]
    by_cases hw : w j < 0
    · cases hc : c.testBit j <;> simp [hw]
    · cases hc : c.testBit j <;> simp [hw]
theorem usN_24 (w : Nat → Int) : ∀ j, j < 24 → (usN w 24).testBit j = decide (w j < 0) := fun j hj => by rw [usN_bit]; simp [hj]
/-- what best picks is in the set, and none is before it -/
theorem pick_all {w : Nat → Int} (hw : ∀ j, -2147483648 ≤ w j ∧ w j ≤ 2147483648) {A : B} (hA : A.ok 0) (hF : A ≠ .F) :
    bstN w A < 16777216 ∧ A.ev (bitsOf (bstN w A)) = true ∧ ∀ d, A.ev (bitsOf d) = true → cst w (bstN w A) < cst w d ∨ (cst w (bstN w A) = cst w d ∧ bstN w A ≤ d) := by
  have H := best_all hw (usN_lt w (k := 24) (Nat.le_refl _)) (usN_24 w) hA hF
  have e : bstN w A = (ofr w (usN w 24) A).2 := by unfold bstN; rw [if_neg hF]
  have hm := H.min
  have hl := H.lt
  have he := H.ev
  rw [← e] at hm hl he
  refine ⟨hl, he, fun d hd => ?_⟩
  have := hm d hd
  rw [pr_cst (usN_24 w), pr_cst (usN_24 w)] at this
  omega
theorem sumF_snoc (f : Nat → Int) (n : Nat) : sumF f (n + 1) = sumF f n + f n := by simp [sumF]
theorem csL_range (w : Nat → Int) (p : Nat → Bool) : ∀ n : Nat, csL w (ints ((List.range n).filter p)) = sumF (fun j => if p j then w j else 0) n
  | 0 => by simp [csL, ints, sumF]
  | n + 1 => by
    rw [List.range_succ, List.filter_append, sumF_snoc, ← csL_range w p n]
    unfold csL ints
    rw [List.map_append, List.map_append, List.sum_append]
    cases h : p n <;> simp [h]
theorem csL_cst (w : Nat → Int) (c : Nat) : csL w (ints (featL c)) = cst w c := csL_range w c.testBit 24
theorem len_range (p : Nat → Bool) : ∀ n : Nat, (((List.range n).filter p).length : Int) = sumF (fun j => if p j then 1 else 0) n
  | 0 => by simp [sumF]
  | n + 1 => by
    rw [List.range_succ, List.filter_append, sumF_snoc, ← len_range p n]
    cases h : p n <;> simp [h]
theorem len_cst (c : Nat) : ((featL c).length : Int) = cst (fun _ => 1) c := len_range c.testBit 24
theorem costN_sumF (w : Nat → Int) (c : Cfg) : ∀ n : Nat, n ≤ 24 → costN w n c + sumF (fun j => if c j then w j else 0) (24 - n) = sumF (fun j => if c j then w j else 0) 24
  | 0, _ => by simp [costN]
  | n + 1, h => by
    have ih := costN_sumF w c n (by omega)
    obtain ⟨k, hk⟩ : ∃ k, 24 - n = k + 1 := ⟨23 - n, by omega⟩
    have e1 : 24 - (n + 1) = k := by omega
    have e2 : 23 - n = k := by omega
    rw [hk, sumF_snoc] at ih
    rw [e1, costN_succ, e2]
    omega
theorem costN_cst (w : Nat → Int) (c : Nat) : costN w 24 (bitsOf c) = cst w c := by
  have := costN_sumF w (bitsOf c) 24 (Nat.le_refl _)
  have h0 : sumF (fun j => if bitsOf c j then w j else 0) (24 - 24) = 0 := by simp [sumF]
  rw [h0, Int.add_zero] at this
  exact this
theorem sumC_sumF (g : Nat → Int) (c : Cfg) : ∀ n : Nat, sumC g c n = sumF (fun j => if c j then g j else 0) n
  | 0 => by simp [sumC, sumF]
  | n + 1 => by rw [sumF_snoc, ← sumC_sumF g c n]; rfl
theorem sumF_more {f : Nat → Int} {n : Nat} (hf : ∀ j, n ≤ j → f j = 0) : ∀ k : Nat, sumF f (n + k) = sumF f n
  | 0 => rfl
  | k + 1 => by rw [show n + (k + 1) = (n + k) + 1 from rfl, sumF_snoc, hf (n + k) (by omega), sumF_more hf k]; omega
/-- the reference's cost is the program's -/
theorem sumC_cst {l : List Int} (hl : wOk l = true) (c : Nat) : sumC (gl l) (bitsOf c) l.length = cst (wC l) c := by
  have hlen := (wOk_iff.1 hl).1
  have hg : wC l = gl l := by funext j; unfold wC; rw [if_pos hl]
  rw [sumC_sumF, hg]
  obtain ⟨k, hk⟩ : ∃ k, 24 = l.length + k := ⟨24 - l.length, by omega⟩
  unfold cst
  rw [hk, sumF_more]
  · rfl
  · intro j hj
    have : gl l j = 0 := by unfold gl; simp [hj]
    rw [this]; split <;> rfl
theorem least_le {A : B} (hA : A.ok 0) (hF : A ≠ .F) {d : Nat} (hd : A.ev (bitsOf d) = true) : bstN (fun _ => 0) A ≤ d := by
  have h := (pick_all (w := fun _ => 0) (fun _ => by omega) hA hF).2.2 d hd
  have hz : ∀ c, cst (fun _ => 0) c = 0 := fun c => by
    unfold cst
    have : ∀ n, sumF (fun j => if c.testBit j then (0 : Int) else 0) n = 0 := fun n => by
      induction n with
      | zero => rfl
      | succ n ih => rw [sumF_snoc, ih]; split <;> rfl
    exact this 24
  rw [hz, hz] at h
  omega
theorem small_le {A : B} (hA : A.ok 0) (hF : A ≠ .F) {d : Nat} (hd : A.ev (bitsOf d) = true) : (featL (bstN (fun _ => 1) A)).length ≤ (featL d).length := by
  have h := (pick_all (w := fun _ => 1) (fun _ => by omega) hA hF).2.2 d hd
  rw [← len_cst, ← len_cst] at h
  omega
theorem cheap_le {w : Nat → Int} (hw : ∀ j, -2147483648 ≤ w j ∧ w j ≤ 2147483648) {A : B} (hA : A.ok 0) (hF : A ≠ .F) {d : Nat} (hd : A.ev (bitsOf d) = true) : cst w (bstN w A) ≤ cst w d := by
  have h := (pick_all hw hA hF).2.2 d hd
  omega
theorem cwN_neg (m j : Nat) (hj : j < 24) : decide (cwN (ints (featL m)) j < 0) = m.testBit j := by
  have e : ((j : Int) ∈ ints (featL m)) ↔ m.testBit j = true := by
    unfold ints featL
    simp only [List.mem_map, List.mem_filter, List.mem_range]
    constructor
    · rintro ⟨a, ⟨_, h⟩, h2⟩
      have : a = j := by omega
      subst this; exact h
    · intro h; exact ⟨j, ⟨hj, h⟩, rfl⟩
  unfold cwN
  by_cases h : m.testBit j = true
  · rw [if_pos (e.2 h), h]; rfl
  · rw [if_neg (fun x => h (e.1 x))]
    have : m.testBit j = false := by simpa using h
    rw [this]; rfl
theorem us_near (m : Nat) : usN (cwN (ints (featL m))) 24 = m % 2 ^ 24 := Nat.eq_of_testBit_eq fun j => by
  rw [usN_bit, Nat.testBit_mod_two_pow]
  by_cases hj : j < 24
  · rw [← cwN_neg m j hj]; simp [hj]
  · simp [hj]
theorem pr_near (m c : Nat) : pr (cwN (ints (featL m))) (m % 2 ^ 24) c = ((featL (c ^^^ (m % 2 ^ 24))).length : Int) := by
  rw [len_cst]
  refine sumF_congr fun j hj => ?_
  have hw : cwN (ints (featL m)) j = -1 ∨ cwN (ints (featL m)) j = 1 := by unfold cwN; split <;> simp
  unfold prj
  rw [Nat.testBit_xor]
  cases h1 : c.testBit j <;> cases h2 : (m % 2 ^ 24).testBit j <;> rcases hw with h | h <;> simp [h]
theorem near_le {A : B} (hA : A.ok 0) (hF : A ≠ .F) (m : Nat) {d : Nat} (hd : A.ev (bitsOf d) = true) : (featL (bstN (cwN (ints (featL m))) A ^^^ (m % 2 ^ 24))).length ≤ (featL (d ^^^ (m % 2 ^ 24))).length := by
  have h := (pick_all (cwN_bound (ints (featL m))) hA hF).2.2 d hd
  have e := fun c => pr_cst (usN_24 (cwN (ints (featL m)))) c
  rw [us_near] at e
  have e1 := e (bstN (cwN (ints (featL m))) A)
  have e2 := e d
  rw [pr_near] at e1 e2
  omega
theorem near_self {A : B} (hA : A.ok 0) (m : Nat) (hd : A.ev (bitsOf (m % 2 ^ 24)) = true) : bstN (cwN (ints (featL m))) A = m % 2 ^ 24 := by
  have hF : A ≠ .F := fun h => by subst h; cases hd
  have h := near_le hA hF m hd
  have hb : bstN (cwN (ints (featL m))) A < 2 ^ 24 := (pick_all (cwN_bound (ints (featL m))) hA hF).1
  rw [Nat.xor_self] at h
  have h0 : (featL 0).length = 0 := by decide
  have hz : featL (bstN (cwN (ints (featL m))) A ^^^ (m % 2 ^ 24)) = [] := List.eq_nil_of_length_eq_zero (by omega)
  refine Nat.eq_of_testBit_eq fun j => ?_
  by_cases hj : j < 24
  · have : ¬ (bstN (cwN (ints (featL m))) A ^^^ (m % 2 ^ 24)).testBit j = true := fun h => by
      have hm : j ∈ featL (bstN (cwN (ints (featL m))) A ^^^ (m % 2 ^ 24)) := by unfold featL; simp only [List.mem_filter, List.mem_range]; exact ⟨hj, h⟩
      rw [hz] at hm; cases hm
    rw [Nat.testBit_xor] at this
    revert this
    cases (bstN (cwN (ints (featL m))) A).testBit j <;> cases (m % 2 ^ 24).testBit j <;> simp
  · rw [Nat.testBit_lt_two_pow (Nat.lt_of_lt_of_le hb (Nat.pow_le_pow_right (by omega) (show 24 ≤ j by omega))), Nat.testBit_lt_two_pow (Nat.lt_of_lt_of_le (Nat.mod_lt _ (by decide)) (Nat.pow_le_pow_right (by omega) (show 24 ≤ j by omega)))]
theorem len_one (i : Nat) : (featL (2 ^ i)).length ≤ 1 := by
  by_cases hi : i < 24
  · have : ∀ i, i < 24 → (featL (2 ^ i)).length ≤ 1 := by decide
    exact this i hi
  · have : featL (2 ^ i) = [] := by
      unfold featL
      rw [List.filter_eq_nil_iff]
      intro a ha
      have := List.mem_range.1 ha
      rw [Nat.testBit_two_pow]
      simp; omega
    rw [this]; simp
theorem near_flip {A : B} (hA : A.ok 0) (hF : A ≠ .F) (m i : Nat) (hd : A.ev (bitsOf ((m % 2 ^ 24) ^^^ 2 ^ i)) = true) : (featL (bstN (cwN (ints (featL m))) A ^^^ (m % 2 ^ 24))).length ≤ 1 := by
  have h := near_le hA hF m hd
  have e : (m % 2 ^ 24) ^^^ 2 ^ i ^^^ (m % 2 ^ 24) = 2 ^ i := by rw [Nat.xor_comm (m % 2 ^ 24), Nat.xor_assoc, Nat.xor_self, Nat.xor_zero]
  rw [e] at h
  exact Nat.le_trans h (len_one i)
/-- none has fewer features than the smallest -/
theorem small_empty {A : B} (hA : A.ok 0) (hF : A ≠ .F) : ite A (costB (cwM (ints (featL 16777215))) 0 (((featL (bstN (fun _ => 1) A)).length : Int) - 1) 24 0) .F = .F :=
  eq_of_ev (ok_ite0 _ _ _) (show (B.F).ok 0 from trivial) fun c => by
    rw [ev_ite hA (ok_costB0 _ _ _ _ _) (show (B.F).ok 0 from trivial)]
    cases hc : A.ev c with
    | false => rfl
    | true =>
      obtain ⟨k, -, hb⟩ := num_ex (List.range 24) (by unfold rising; decide) c
      generalize cfgN (List.range 24) k = d at hb
      have he : A.ev (bitsOf d) = true := by
        rw [← hc]; exact ev_agree hA fun j _ hj => hb j (List.mem_range.2 hj)
      have hs := small_le hA hF he
      have hw : cst (cwM (ints (featL 16777215))) d = ((featL d).length : Int) := by
        rw [len_cst]
        refine sumF_congr fun j hj => ?_
        have : cwM (ints (featL 16777215)) j = 1 := by
          have : ∀ j, j < 24 → cwM (ints (featL 16777215)) j = 1 := by decide
          exact this j hj
        rw [this]
      rw [if_pos rfl, ev_costB _ _ _ (Nat.le_refl _), ← costN_agree _ 24 (bitsOf d) c (Nat.le_refl _) (fun j _ hj => hb j (List.mem_range.2 hj)), costN_cst, hw]
      have : decide (0 + ((featL d).length : Int) ≤ ((featL (bstN (fun _ => 1) A)).length : Int) - 1) = false := by simp; omega
      rw [this, Bool.and_false]; rfl
end Go.Proofs.YtiainlccodnlmaaGreatDoor
