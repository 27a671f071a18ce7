import Derived.Test.YtiainlccodnlmaaDoorRefH
import Derived.Test.YtiainlccodnlmaaDoorHas
namespace Go.Proofs.YtiainlccodnlmaaDoor
open Go.RowKit
open Bd

/-! what is offered: the cheapest configuration of a set; of several, the least -/
theorem eq_of_bitsOf {c d : Nat} (h : bitsOf c = bitsOf d) : c = d := Nat.eq_of_testBit_eq fun i => congrFun h i
theorem or_add {c i : Nat} (h : c.testBit i = false) : c ||| 2 ^ i = c + 2 ^ i := by
  have hb : (c ||| 2 ^ i).testBit i = true := by rw [Nat.testBit_or, Nat.testBit_two_pow]; simp
  obtain ⟨e1, e2⟩ := bits_clear hb
  have : (c ||| 2 ^ i) - 2 ^ i = c := eq_of_bitsOf (by
    rw [e1, bits_set]
    funext j
    simp only [up]
    by_cases hj : j = i
    · subst hj; simp; exact h
    · simp [hj])
  omega
/-- a number with one bit set so -/
def stb (c i : Nat) (v : Bool) : Nat := if v then c ||| 2 ^ i else if c.testBit i then c - 2 ^ i else c
theorem stb_bits (c i : Nat) (v : Bool) : bitsOf (stb c i v) = up (bitsOf c) i v := by
  unfold stb
  cases v with
  | true => simp only [if_true]; exact bits_set c i
  | false =>
    simp only [Bool.false_eq_true, if_false]
    cases h : c.testBit i with
    | true => simp only [if_true]; exact (bits_clear h).1
    | false => simp only [Bool.false_eq_true, if_false]; exact bits_free h
theorem stb_at (c i : Nat) (v : Bool) (j : Nat) : (stb c i v).testBit j = if j = i then v else c.testBit j := congrFun (stb_bits c i v) j
theorem stb_self {c i : Nat} {v : Bool} (h : c.testBit i = v) : stb c i v = c := eq_of_bitsOf (by rw [stb_bits]; funext j; simp only [up]; by_cases e : j = i; (subst e; simp [← h]; rfl); simp [e])
theorem stb_le {c d i : Nat} (h : c.testBit i = d.testBit i) (v : Bool) : stb c i v ≤ stb d i v ↔ c ≤ d := by
  unfold stb
  cases v with
  | true =>
    simp only [if_true]
    cases hc : c.testBit i with
    | true =>
      have e1 : c ||| 2 ^ i = c := by have := stb_self (v := true) hc; simpa [stb] using this
      have e2 : d ||| 2 ^ i = d := by have := stb_self (v := true) (h.symm.trans hc); simpa [stb] using this
      rw [e1, e2]
    | false => rw [or_add hc, or_add (h.symm.trans hc)]; omega
  | false =>
    simp only [Bool.false_eq_true, if_false]
    cases hc : c.testBit i with
    | true =>
      have hd := h.symm.trans hc
      rw [if_pos hd]
      simp only [if_true]
      have h1 := (bits_clear hc).2
      have h2 := (bits_clear hd).2
      omega
    | false => simp only [h.symm.trans hc, Bool.false_eq_true, if_false]
theorem stb_lt {c i : Nat} (hc : c < 2 ^ 24) (hi : i < 24) (v : Bool) : stb c i v < 2 ^ 24 := by
  unfold stb
  cases v with
  | true => simp only [if_true]; exact Nat.or_lt_two_pow hc (Nat.pow_lt_pow_right (by omega) hi)
  | false => simp only [Bool.false_eq_true, if_false]; split; exact Nat.lt_of_le_of_lt (Nat.sub_le _ _) hc; exact hc

/-- a sum over the features -/
def sumF (f : Nat → Int) : Nat → Int
  | 0 => 0
  | n + 1 => sumF f n + f n
theorem sumF_congr {f g : Nat → Int} : ∀ {n : Nat}, (∀ j, j < n → f j = g j) → sumF f n = sumF g n
  | 0, _ => rfl
  | n + 1, h => by simp only [sumF]; rw [sumF_congr (fun j hj => h j (by omega)), h n (by omega)]
theorem sumF_one {f g : Nat → Int} {i : Nat} : ∀ {n : Nat}, i < n → (∀ j, j < n → j ≠ i → f j = g j) → sumF f n = sumF g n + (f i - g i)
  | 0, hi, _ => absurd hi (Nat.not_lt_zero _)
  | n + 1, hi, h => by
    simp only [sumF]
    by_cases e : i = n
    · subst e
      rw [sumF_congr (f := f) (g := g) (fun j hj => h j (by omega) (by omega))]
      omega
    · rw [sumF_one (f := f) (g := g) (n := n) (by omega) (fun j hj hne => h j (by omega) hne), h n (by omega) (fun e' => e e'.symm)]
      omega
theorem sumF_nonneg {f : Nat → Int} : ∀ {n : Nat}, (∀ j, j < n → 0 ≤ f j) → 0 ≤ sumF f n
  | 0, _ => Int.le_refl _
  | n + 1, h => by
    have h1 := sumF_nonneg (f := f) (n := n) (fun j hj => h j (by omega))
    have h2 := h n (by omega)
    simp only [sumF]; omega
theorem sumF_zero {f : Nat → Int} : ∀ {n : Nat}, (∀ j, j < n → 0 ≤ f j) → sumF f n ≤ 0 → ∀ j, j < n → f j = 0
  | 0, _, _, j, hj => absurd hj (Nat.not_lt_zero _)
  | n + 1, h, hs, j, hj => by
    have h1 := sumF_nonneg (f := f) (n := n) (fun j hj => h j (by omega))
    have h2 := h n (by omega)
    simp only [sumF] at hs
    by_cases e : j = n
    · subst e; omega
    · exact sumF_zero (n := n) (fun j hj => h j (by omega)) (by omega) j (by omega)
theorem sumF_le {f : Nat → Int} {M : Int} : ∀ {n : Nat}, (∀ j, j < n → f j ≤ M) → sumF f n ≤ n * M
  | 0, _ => by simp [sumF]
  | n + 1, h => by
    have h1 := sumF_le (f := f) (n := n) (fun j hj => h j (by omega))
    have h2 := h n (by omega)
    simp only [sumF]
    have : ((n + 1 : Nat) : Int) * M = (n : Int) * M + M := by rw [Int.natCast_add, Int.add_mul]; simp
    omega

/-- what a configuration costs more than the usual one -/
def prj (w : Nat → Int) (us c j : Nat) : Int := if c.testBit j = us.testBit j then 0 else if w j < 0 then - w j else w j
def pr (w : Nat → Int) (us c : Nat) : Int := sumF (prj w us c) 24
theorem prj_nonneg (w : Nat → Int) (us c j : Nat) : 0 ≤ prj w us c j := by unfold prj; split <;> (try split) <;> omega
theorem pr_nonneg (w : Nat → Int) (us c : Nat) : 0 ≤ pr w us c := sumF_nonneg fun j _ => prj_nonneg w us c j
theorem pr_stb (w : Nat → Int) (us c : Nat) {i : Nat} (hi : i < 24) (v : Bool) : pr w us (stb c i v) = pr w us c + (prj w us (stb c i v) i - prj w us c i) :=
  sumF_one hi fun j _ hne => by unfold prj; rw [stb_at, if_neg hne]
theorem pr_lt {w : Nat → Int} (hw : ∀ j, -2147483648 ≤ w j ∧ w j ≤ 2147483648) (us c : Nat) : pr w us c < 1099511627776 := by
  have := sumF_le (f := prj w us c) (M := 2147483648) (n := 24) (fun j _ => by unfold prj; have := hw j; split <;> (try split) <;> omega)
  unfold pr; omega

/-- the offers of the nodes -/
def ofr (w : Nat → Int) (us : Nat) : B → Int × Nat
  | .F => (1099511627776, 0)
  | .T => (0, us)
  | .N i lo hi =>
    let l := ((ofr w us lo).1 + max (- w i) 0, stb (ofr w us lo).2 i false)
    let h := ((ofr w us hi).1 + max (w i) 0, stb (ofr w us hi).2 i true)
    if l.1 < h.1 ∨ (l.1 = h.1 ∧ l.2 < h.2) then l else h
/-- what is cheapest of a set that is not empty -/
structure Best (w : Nat → Int) (us : Nat) (b : B) (n : Nat) : Prop where
  lt : (ofr w us b).2 < 2 ^ 24
  ev : b.ev (bitsOf (ofr w us b).2) = true
  low : ∀ j, j < n → (ofr w us b).2.testBit j = us.testBit j
  pr : (ofr w us b).1 = pr w us (ofr w us b).2
  min : ∀ d, b.ev (bitsOf d) = true → Go.Proofs.YtiainlccodnlmaaDoor.pr w us (ofr w us b).2 < Go.Proofs.YtiainlccodnlmaaDoor.pr w us d ∨ (Go.Proofs.YtiainlccodnlmaaDoor.pr w us (ofr w us b).2 = Go.Proofs.YtiainlccodnlmaaDoor.pr w us d ∧ (ofr w us b).2 ≤ d)

/-- a candidate behind one more feature -/
theorem best_step {w : Nat → Int} {us i : Nat} (hi : i < 24) {x : B} (hx : x.ok (i + 1)) (B0 : Best w us x (i + 1)) (v : Bool) (d : Int) (hd : d = if v = us.testBit i then 0 else if w i < 0 then - w i else w i) (c : Nat) (hc : c = stb (ofr w us x).2 i v) :
    c < 2 ^ 24 ∧ x.ev (bitsOf c) = true ∧ (∀ j, j < i → c.testBit j = us.testBit j) ∧ c.testBit i = v ∧ (ofr w us x).1 + d = pr w us c ∧ ∀ e, x.ev (bitsOf e) = true → e.testBit i = v → pr w us c < pr w us e ∨ (pr w us c = pr w us e ∧ c ≤ e) := by
  subst hc
  have hbi := B0.low i (by omega)
  refine ⟨stb_lt B0.lt hi v, ?_, fun j hj => ?_, ?_, ?_, fun e he hv => ?_⟩
  · rw [stb_bits, up_free hx]; exact B0.ev
  · rw [stb_at, if_neg (by omega)]; exact B0.low j (by omega)
  · rw [stb_at, if_pos rfl]
  · rw [pr_stb w us _ hi, B0.pr, hd]
    unfold prj
    rw [stb_at, if_pos rfl, if_pos hbi]
    omega
  · have h1 := B0.min (stb e i (us.testBit i)) (by rw [stb_bits, up_free hx]; exact he)
    have e1 := pr_stb w us e hi (us.testBit i)
    have e2 := pr_stb w us (ofr w us x).2 hi v
    have z1 : prj w us (stb e i (us.testBit i)) i = 0 := by unfold prj; rw [stb_at, if_pos rfl, if_pos rfl]
    have z2 : prj w us (ofr w us x).2 i = 0 := by unfold prj; rw [if_pos hbi]
    have z3 : prj w us (stb (ofr w us x).2 i v) i = prj w us e i := by unfold prj; rw [stb_at, if_pos rfl, hv]
    have l1 := stb_le (c := (ofr w us x).2) (d := stb e i (us.testBit i)) (i := i) (by rw [stb_at, if_pos rfl, hbi]) v
    have e3 : stb (stb e i (us.testBit i)) i v = e := eq_of_bitsOf (by rw [stb_bits, stb_bits]; funext j; simp only [up]; by_cases hj : j = i; (subst hj; simp [← hv]; rfl); simp [hj])
    rw [e3] at l1
    rcases h1 with h1 | ⟨h1, h2⟩
    · left; omega
    · right; exact ⟨by omega, l1.2 h2⟩
theorem best_all {w : Nat → Int} (hw : ∀ j, -2147483648 ≤ w j ∧ w j ≤ 2147483648) {us : Nat} (hus : us < 2 ^ 24) (hu : ∀ j, j < 24 → us.testBit j = decide (w j < 0)) : ∀ {b : B} {n : Nat}, b.ok n → b ≠ .F → Best w us b n
  | .F, _, _, h => absurd rfl h
  | .T, n, _, _ => by
    have hz : pr w us us = 0 := by
      unfold pr
      rw [sumF_congr (g := fun _ => 0) (fun j _ => by unfold prj; rw [if_pos rfl])]
      rfl
    refine ⟨hus, rfl, fun _ _ => rfl, hz.symm, fun d _ => ?_⟩
    show pr w us us < pr w us d ∨ (pr w us us = pr w us d ∧ us ≤ d)
    rw [hz]
    have h0 := pr_nonneg w us d
    by_cases h : pr w us d = 0
    · right
      refine ⟨h.symm, ?_⟩
      have hall := sumF_zero (f := prj w us d) (n := 24) (fun j _ => prj_nonneg w us d j) (by unfold pr at h; omega)
      have : us &&& d = us := Nat.eq_of_testBit_eq fun j => by
        rw [Nat.testBit_and]
        cases hb : us.testBit j with
        | false => rfl
        | true =>
          have hj : j < 24 := Classical.byContradiction fun hn => by
            rw [Nat.testBit_lt_two_pow (Nat.lt_of_lt_of_le hus (Nat.pow_le_pow_right (by omega) (by omega)))] at hb
            cases hb
          have hp := hall j hj
          have hneg := (hu j hj).symm.trans hb
          simp only [decide_eq_true_eq] at hneg
          unfold prj at hp
          by_cases e : d.testBit j = us.testBit j
          · rw [e, hb]; rfl
          · rw [if_neg e, if_pos hneg] at hp; omega
      rw [← this]; exact Nat.and_le_right
    · left; omega
  | .N i lo hi, n, hok, _ => by
    obtain ⟨h1, h2, h3, h4, h5⟩ := hok
    have dl : max (- w i) 0 = if false = us.testBit i then 0 else if w i < 0 then - w i else w i := by
      rw [hu i h2]
      by_cases e : w i < 0
      · rw [decide_eq_true e, if_neg (by decide), if_pos e]; omega
      · rw [decide_eq_false e, if_pos rfl]; omega
    have dh : max (w i) 0 = if true = us.testBit i then 0 else if w i < 0 then - w i else w i := by
      rw [hu i h2]
      by_cases e : w i < 0
      · rw [decide_eq_true e, if_pos rfl]; omega
      · rw [decide_eq_false e, if_neg (by decide), if_neg e]; omega
    have evN : ∀ c : Nat, (B.N i lo hi).ev (bitsOf c) = if c.testBit i = true then hi.ev (bitsOf c) else lo.ev (bitsOf c) := fun c => rfl
    obtain ⟨lc, hlc⟩ : ∃ lc, lc = stb (ofr w us lo).2 i false := ⟨_, rfl⟩
    obtain ⟨hc, hhc⟩ : ∃ hc, hc = stb (ofr w us hi).2 i true := ⟨_, rfl⟩
    have eN : ofr w us (.N i lo hi) = if (ofr w us lo).1 + max (- w i) 0 < (ofr w us hi).1 + max (w i) 0 ∨ ((ofr w us lo).1 + max (- w i) 0 = (ofr w us hi).1 + max (w i) 0 ∧ lc < hc) then ((ofr w us lo).1 + max (- w i) 0, lc) else ((ofr w us hi).1 + max (w i) 0, hc) := by
      rw [hlc, hhc]; rfl
    by_cases hl : lo = .F
    · have hh : hi ≠ .F := fun e => h3 (hl.trans e.symm)
      obtain ⟨q1, q2, q3, q4, q5, q6⟩ := best_step h2 h5 (best_all hw hus hu h5 hh) true _ dh hc hhc
      have e0 : (ofr w us lo).1 = 1099511627776 := by rw [hl]; rfl
      have hp := pr_lt hw us hc
      have e1 : ofr w us (.N i lo hi) = ((ofr w us hi).1 + max (w i) 0, hc) := by
        rw [eN, if_neg]
        rintro (h | ⟨h, _⟩) <;> omega
      refine ⟨by rw [e1]; exact q1, by rw [e1, evN, if_pos q4]; exact q2, fun j hj => by rw [e1]; exact q3 j (by omega), by rw [e1]; exact q5, fun d hd => ?_⟩
      rw [e1]
      rw [evN] at hd
      by_cases hb : d.testBit i = true
      · rw [if_pos hb] at hd; exact q6 d hd hb
      · rw [if_neg hb, hl] at hd; cases hd
    · obtain ⟨p1, p2, p3, p4, p5, p6⟩ := best_step h2 h4 (best_all hw hus hu h4 hl) false _ dl lc hlc
      have hpl := pr_lt hw us lc
      by_cases hh : hi = .F
      · have e0 : (ofr w us hi).1 = 1099511627776 := by rw [hh]; rfl
        have e1 : ofr w us (.N i lo hi) = ((ofr w us lo).1 + max (- w i) 0, lc) := by
          rw [eN, if_pos (.inl (by omega))]
        refine ⟨by rw [e1]; exact p1, by rw [e1, evN, if_neg (by rw [p4]; decide)]; exact p2, fun j hj => by rw [e1]; exact p3 j (by omega), by rw [e1]; exact p5, fun d hd => ?_⟩
        rw [e1]
        rw [evN] at hd
        by_cases hb : d.testBit i = true
        · rw [if_pos hb, hh] at hd; cases hd
        · rw [if_neg hb] at hd; exact p6 d hd (by simpa using hb)
      · obtain ⟨q1, q2, q3, q4, q5, q6⟩ := best_step h2 h5 (best_all hw hus hu h5 hh) true _ dh hc hhc
        by_cases hcmp : (ofr w us lo).1 + max (- w i) 0 < (ofr w us hi).1 + max (w i) 0 ∨ ((ofr w us lo).1 + max (- w i) 0 = (ofr w us hi).1 + max (w i) 0 ∧ lc < hc)
        · have e1 : ofr w us (.N i lo hi) = ((ofr w us lo).1 + max (- w i) 0, lc) := by rw [eN, if_pos hcmp]
          rw [p5, q5] at hcmp
          refine ⟨by rw [e1]; exact p1, by rw [e1, evN, if_neg (by rw [p4]; decide)]; exact p2, fun j hj => by rw [e1]; exact p3 j (by omega), by rw [e1]; exact p5, fun d hd => ?_⟩
          rw [e1]
          rw [evN] at hd
          by_cases hb : d.testBit i = true
          · rw [if_pos hb] at hd
            have := q6 d hd hb
            show pr w us lc < pr w us d ∨ (pr w us lc = pr w us d ∧ lc ≤ d)
            omega
          · rw [if_neg hb] at hd; exact p6 d hd (by simpa using hb)
        · have e1 : ofr w us (.N i lo hi) = ((ofr w us hi).1 + max (w i) 0, hc) := by rw [eN, if_neg hcmp]
          rw [p5, q5] at hcmp
          refine ⟨by rw [e1]; exact q1, by rw [e1, evN, if_pos q4]; exact q2, fun j hj => by rw [e1]; exact q3 j (by omega), by rw [e1]; exact q5, fun d hd => ?_⟩
          rw [e1]
          rw [evN] at hd
          by_cases hb : d.testBit i = true
          · rw [if_pos hb] at hd; exact q6 d hd hb
          · rw [if_neg hb] at hd
            have := p6 d hd (by simpa using hb)
            show pr w us hc < pr w us d ∨ (pr w us hc = pr w us d ∧ hc ≤ d)
            omega
end Go.Proofs.YtiainlccodnlmaaDoor
