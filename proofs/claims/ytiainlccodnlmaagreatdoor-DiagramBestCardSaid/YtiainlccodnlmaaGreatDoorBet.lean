import Derived.Test.YtiainlccodnlmaaGreatDoorStep
import Derived.LoopTactic
import Derived.BigQuiet
import Derived.Lib.Hide
import Derived.Test.YtiainlccodnlmaaGreatDoorRefH
import Derived.Test.YtiainlccodnlmaaGreatDoorHas
import Derived.Test.YtiainlccodnlmaaGreatDoorFoldO
import Derived.Test.YtiainlccodnlmaaGreatDoorRuleG
import Derived.Great.BuildSlice
import Derived.Laws.BitsAllLaws
import Derived.Test.YtiainlccodnlmaaGreatDoorCost
import Derived.Deep.MidRow
namespace Go.Proofs.YtiainlccodnlmaaGreatDoor
open Go.RowKit

/-! Compare of int64 and uint32, Or of two -/
def cmpZ (a b : Int) : Int := if a < b then -1 else if b < a then 1 else 0
set_option maxRecDepth 100000 in
set_option maxHeartbeats 1000000 in
theorem isNaNL_any (x : Int) (w : World) : Calls Tryz.prog 141 #[.int .i64 x] w fun e w' => e = .returned (.bool false) ∧ w' = w := by
  go_enter Tryz.func141, Tryz.ntmps141
  go_wp2
  go_ret
  exact ⟨by simp, rfl⟩
set_option maxRecDepth 100000 in
set_option maxHeartbeats 1000000 in
theorem isNaNU2_any (x : Int) (w : World) : Calls Tryz.prog 131 #[.int .u32 x] w fun e w' => e = .returned (.bool false) ∧ w' = w := by
  go_enter Tryz.func131, Tryz.ntmps131
  go_wp2
  go_ret
  exact ⟨by simp, rfl⟩
theorem cmpZ_cases (a b : Int) : (a < b ∧ cmpZ a b = -1) ∨ (b < a ∧ cmpZ a b = 1) ∨ (a = b ∧ cmpZ a b = 0) := by
  unfold cmpZ
  by_cases h1 : a < b
  · exact .inl ⟨h1, if_pos h1⟩
  · by_cases h2 : b < a
    · exact .inr (.inl ⟨h2, by rw [if_neg h1, if_pos h2]⟩)
    · exact .inr (.inr ⟨by omega, by rw [if_neg h1, if_neg h2]⟩)
set_option maxRecDepth 100000 in
set_option maxHeartbeats 1000000 in
theorem compareL_any (a b : Int) (w : World) : Calls Tryz.prog 118 #[.int .i64 a, .int .i64 b] w fun e w' => e = .returned (.int .i64 (cmpZ a b)) ∧ w' = w := by
  rcases cmpZ_cases a b with ⟨h, e⟩ | ⟨h, e⟩ | ⟨h, e⟩ <;> rw [e]
  · clear e
    go_enter Tryz.func118, Tryz.ntmps118
    go_wp2_with (go_at_call 141; refine (isNaNL_any _ _).mono ?_; rintro e w' ⟨rfl, rfl⟩)
    go_ret
    exact ⟨rfl, rfl⟩
  · have h2 : ¬ a < b := by omega
    clear e
    go_enter Tryz.func118, Tryz.ntmps118
    go_wp2_with (go_at_call 141; refine (isNaNL_any _ _).mono ?_; rintro e w' ⟨rfl, rfl⟩)
    go_ret
    exact ⟨rfl, rfl⟩
  · subst h
    clear e
    go_enter Tryz.func118, Tryz.ntmps118
    go_wp2_with (go_at_call 141; refine (isNaNL_any _ _).mono ?_; rintro e w' ⟨rfl, rfl⟩)
    go_ret
    exact ⟨rfl, rfl⟩
set_option maxRecDepth 100000 in
set_option maxHeartbeats 1000000 in
theorem compareV_any (a b : Int) (w : World) : Calls Tryz.prog 102 #[.int .u32 a, .int .u32 b] w fun e w' => e = .returned (.int .i64 (cmpZ a b)) ∧ w' = w := by
  rcases cmpZ_cases a b with ⟨h, e⟩ | ⟨h, e⟩ | ⟨h, e⟩ <;> rw [e]
  · clear e
    go_enter Tryz.func102, Tryz.ntmps102
    go_wp2_with (go_at_call 131; refine (isNaNU2_any _ _).mono ?_; rintro e w' ⟨rfl, rfl⟩)
    go_ret
    exact ⟨rfl, rfl⟩
  · have h2 : ¬ a < b := by omega
    clear e
    go_enter Tryz.func102, Tryz.ntmps102
    go_wp2_with (go_at_call 131; refine (isNaNU2_any _ _).mono ?_; rintro e w' ⟨rfl, rfl⟩)
    go_ret
    exact ⟨rfl, rfl⟩
  · subst h
    clear e
    go_enter Tryz.func102, Tryz.ntmps102
    go_wp2_with (go_at_call 131; refine (isNaNU2_any _ _).mono ?_; rintro e w' ⟨rfl, rfl⟩)
    go_ret
    exact ⟨rfl, rfl⟩
def or2 (a b : Int) : Int := if a ≠ 0 then a else b
set_option maxRecDepth 100000 in
set_option maxHeartbeats 1000000 in
theorem or2_any (g cap : Nat) (a b : Int) (w : World) (h0 : w.cell? ⟨g, 0, none⟩ = some (.int .i64 a)) (h1 : w.cell? ⟨g, 1, none⟩ = some (.int .i64 b)) : Calls Tryz.prog 99 #[.slice (some ⟨g, 0, none⟩) 2 cap] w fun e w' => e = .returned (.int .i64 (or2 a b)) ∧ w' = w := by
  unfold or2
  by_cases ha : a = 0
  · subst ha
    by_cases hb : b = 0
    · subst hb
      go_enter Tryz.func99, Tryz.ntmps99
      go_wp2
      refine wp_loop_rounds 3 ?_
      rw [rounds_succ]
      go_wp2
      rw [rounds_succ]
      go_wp2
      rw [rounds_succ]
      go_wp2
      go_ret
      exact ⟨by simp, rfl⟩
    · have hb' : (b == 0) = false := by simpa using hb
      go_enter Tryz.func99, Tryz.ntmps99
      go_wp2
      refine wp_loop_rounds 3 ?_
      rw [rounds_succ]
      go_wp2
      rw [rounds_succ]
      go_wp2
      go_ret
      exact ⟨by simp, rfl⟩
  · have ha' : (a == 0) = false := by simpa using ha
    go_enter Tryz.func99, Tryz.ntmps99
    go_wp2
    refine wp_loop_rounds 3 ?_
    rw [rounds_succ]
    go_wp2
    go_ret
    exact ⟨by simp, rfl⟩
theorem or2_lt (a b : Int) (c d : Int) : or2 (cmpZ a b) (cmpZ c d) < 0 ↔ a < b ∨ (a = b ∧ c < d) := by
  unfold or2
  rcases cmpZ_cases a b with ⟨h, e⟩ | ⟨h, e⟩ | ⟨h, e⟩ <;> rw [e]
  · simp; left; exact h
  · simp; omega
  · rcases cmpZ_cases c d with ⟨h', e'⟩ | ⟨h', e'⟩ | ⟨h', e'⟩ <;> rw [e'] <;> simp <;> omega
end Go.Proofs.YtiainlccodnlmaaGreatDoor
namespace Go.Proofs.YtiainlccodnlmaaGreatDoor
open Go.RowKit
open Bd

/-! what is offered: the cheapest configuration of a set; of several, the least -/
theorem eq_of_bitsOf {c d : Nat} (h : bitsOf c = bitsOf d) : c = d := Nat.eq_of_testBit_eq fun i => congrFun h i
theorem or_add {c i : Nat} (h : c.testBit i = false) : c ||| 2 ^ i = c + 2 ^ i := by
  have hb : (c ||| 2 ^ i).testBit i = true := by rw [Nat.testBit_or, Nat.testBit_two_pow]; simp
  obtain ⟨e1, e2⟩ := bits_clear hb
  have : (c ||| 2 ^ i) - 2 ^ i = c := eq_of_bitsOf (by
    rw [e1, bits_set]
    funext j
    simp only [up]
    by_cases hj : j = i
    · subst hj; simp; exact h
    · simp [hj])
  omega
/-- a number with one bit set so -/
def stb (c i : Nat) (v : Bool) : Nat := if v then c ||| 2 ^ i else if c.testBit i then c - 2 ^ i else c
theorem stb_bits (c i : Nat) (v : Bool) : bitsOf (stb c i v) = up (bitsOf c) i v := by
  unfold stb
  cases v with
  | true => simp only [if_true]; exact bits_set c i
  | false =>
    simp only [Bool.false_eq_true, if_false]
    cases h : c.testBit i with
    | true => simp only [if_true]; exact (bits_clear h).1
    | false => simp only [Bool.false_eq_true, if_false]; exact bits_free h
theorem stb_at (c i : Nat) (v : Bool) (j : Nat) : (stb c i v).testBit j = if j = i then v else c.testBit j := congrFun (stb_bits c i v) j
theorem stb_self {c i : Nat} {v : Bool} (h : c.testBit i = v) : stb c i v = c := eq_of_bitsOf (by rw [stb_bits]; funext j; simp only [up]; by_cases e : j = i; (subst e; simp [← h]; rfl); simp [e])
theorem stb_le {c d i : Nat} (h : c.testBit i = d.testBit i) (v : Bool) : stb c i v ≤ stb d i v ↔ c ≤ d := by
  unfold stb
  cases v with
  | true =>
    simp only [if_true]
    cases hc : c.testBit i with
    | true =>
      have e1 : c ||| 2 ^ i = c := by have := stb_self (v := true) hc; simpa [stb] using this
      have e2 : d ||| 2 ^ i = d := by have := stb_self (v := true) (h.symm.trans hc); simpa [stb] using this
      rw [e1, e2]
    | false => rw [or_add hc, or_add (h.symm.trans hc)]; omega
  | false =>
    simp only [Bool.false_eq_true, if_false]
    cases hc : c.testBit i with
    | true =>
      have hd := h.symm.trans hc
      rw [if_pos hd]
      simp only [if_true]
      have h1 := (bits_clear hc).2
      have h2 := (bits_clear hd).2
      omega
    | false => simp only [h.symm.trans hc, Bool.false_eq_true, if_false]
theorem stb_lt {c i : Nat} (hc : c < 2 ^ 24) (hi : i < 24) (v : Bool) : stb c i v < 2 ^ 24 := by
  unfold stb
  cases v with
  | true => simp only [if_true]; exact Nat.or_lt_two_pow hc (Nat.pow_lt_pow_right (by omega) hi)
  | false => simp only [Bool.false_eq_true, if_false]; split; exact Nat.lt_of_le_of_lt (Nat.sub_le _ _) hc; exact hc

/-- a sum over the features -/
def sumF (f : Nat → Int) : Nat → Int
  | 0 => 0
  | n + 1 => sumF f n + f n
theorem sumF_congr {f g : Nat → Int} : ∀ {n : Nat}, (∀ j, j < n → f j = g j) → sumF f n = sumF g n
  | 0, _ => rfl
  | n + 1, h => by simp only [sumF]; rw [sumF_congr (fun j hj => h j (by omega)), h n (by omega)]
theorem sumF_one {f g : Nat → Int} {i : Nat} : ∀ {n : Nat}, i < n → (∀ j, j < n → j ≠ i → f j = g j) → sumF f n = sumF g n + (f i - g i)
  | 0, hi, _ => absurd hi (Nat.not_lt_zero _)
  | n + 1, hi, h => by
    simp only [sumF]
    by_cases e : i = n
    · subst e
      rw [sumF_congr (f := f) (g := g) (fun j hj => h j (by omega) (by omega))]
      omega
    · rw [sumF_one (f := f) (g := g) (n := n) (by omega) (fun j hj hne => h j (by omega) hne), h n (by omega) (fun e' => e e'.symm)]
      omega
theorem sumF_nonneg {f : Nat → Int} : ∀ {n : Nat}, (∀ j, j < n → 0 ≤ f j) → 0 ≤ sumF f n
  | 0, _ => Int.le_refl _
  | n + 1, h => by
    have h1 := sumF_nonneg (f := f) (n := n) (fun j hj => h j (by omega))
    have h2 := h n (by omega)
    simp only [sumF]; omega
theorem sumF_zero {f : Nat → Int} : ∀ {n : Nat}, (∀ j, j < n → 0 ≤ f j) → sumF f n ≤ 0 → ∀ j, j < n → f j = 0
  | 0, _, _, j, hj => absurd hj (Nat.not_lt_zero _)
  | n + 1, h, hs, j, hj => by
    have h1 := sumF_nonneg (f := f) (n := n) (fun j hj => h j (by omega))
    have h2 := h n (by omega)
    simp only [sumF] at hs
    by_cases e : j = n
    · subst e; omega
    · exact sumF_zero (n := n) (fun j hj => h j (by omega)) (by omega) j (by omega)
theorem sumF_le {f : Nat → Int} {M : Int} : ∀ {n : Nat}, (∀ j, j < n → f j ≤ M) → sumF f n ≤ n * M
  | 0, _ => by simp [sumF]
  | n + 1, h => by
    have h1 := sumF_le (f := f) (n := n) (fun j hj => h j (by omega))
    have h2 := h n (by omega)
    simp only [sumF]
    have : ((n + 1 : Nat) : Int) * M = (n : Int) * M + M := by rw [Int.natCast_add, Int.add_mul]; simp
    omega

/-- what a configuration costs more than the usual one -/
def prj (w : Nat → Int) (us c j : Nat) : Int := if c.testBit j = us.testBit j then 0 else if w j < 0 then - w j else w j
def pr (w : Nat → Int) (us c : Nat) : Int := sumF (prj w us c) 24
theorem prj_nonneg (w : Nat → Int) (us c j : Nat) : 0 ≤ prj w us c j := by unfold prj; split <;> (try split) <;> omega
theorem pr_nonneg (w : Nat → Int) (us c : Nat) : 0 ≤ pr w us c := sumF_nonneg fun j _ => prj_nonneg w us c j
theorem pr_stb (w : Nat → Int) (us c : Nat) {i : Nat} (hi : i < 24) (v : Bool) : pr w us (stb c i v) = pr w us c + (prj w us (stb c i v) i - prj w us c i) :=
  sumF_one hi fun j _ hne => by unfold prj; rw [stb_at, if_neg hne]
theorem pr_lt {w : Nat → Int} (hw : ∀ j, -2147483648 ≤ w j ∧ w j ≤ 2147483648) (us c : Nat) : pr w us c < 1099511627776 := by
  have := sumF_le (f := prj w us c) (M := 2147483648) (n := 24) (fun j _ => by unfold prj; have := hw j; split <;> (try split) <;> omega)
  unfold pr; omega

/-- the offers of the nodes -/
def ofr (w : Nat → Int) (us : Nat) : B → Int × Nat
  | .F => (1099511627776, 0)
  | .T => (0, us)
  | .N i lo hi =>
    let l := ((ofr w us lo).1 + max (- w i) 0, stb (ofr w us lo).2 i false)
    let h := ((ofr w us hi).1 + max (w i) 0, stb (ofr w us hi).2 i true)
    if l.1 < h.1 ∨ (l.1 = h.1 ∧ l.2 < h.2) then l else h
/-- what is cheapest of a set that is not empty -/
structure Best (w : Nat → Int) (us : Nat) (b : B) (n : Nat) : Prop where
  lt : (ofr w us b).2 < 2 ^ 24
  ev : b.ev (bitsOf (ofr w us b).2) = true
  low : ∀ j, j < n → (ofr w us b).2.testBit j = us.testBit j
  pr : (ofr w us b).1 = pr w us (ofr w us b).2
  min : ∀ d, b.ev (bitsOf d) = true → Go.Proofs.YtiainlccodnlmaaGreatDoor.pr w us (ofr w us b).2 < Go.Proofs.YtiainlccodnlmaaGreatDoor.pr w us d ∨ (Go.Proofs.YtiainlccodnlmaaGreatDoor.pr w us (ofr w us b).2 = Go.Proofs.YtiainlccodnlmaaGreatDoor.pr w us d ∧ (ofr w us b).2 ≤ d)

/-- a candidate behind one more feature -/
theorem best_step {w : Nat → Int} {us i : Nat} (hi : i < 24) {x : B} (hx : x.ok (i + 1)) (B0 : Best w us x (i + 1)) (v : Bool) (d : Int) (hd : d = if v = us.testBit i then 0 else if w i < 0 then - w i else w i) (c : Nat) (hc : c = stb (ofr w us x).2 i v) :
    c < 2 ^ 24 ∧ x.ev (bitsOf c) = true ∧ (∀ j, j < i → c.testBit j = us.testBit j) ∧ c.testBit i = v ∧ (ofr w us x).1 + d = pr w us c ∧ ∀ e, x.ev (bitsOf e) = true → e.testBit i = v → pr w us c < pr w us e ∨ (pr w us c = pr w us e ∧ c ≤ e) := by
  subst hc
  have hbi := B0.low i (by omega)
  refine ⟨stb_lt B0.lt hi v, ?_, fun j hj => ?_, ?_, ?_, fun e he hv => ?_⟩
  · rw [stb_bits, up_free hx]; exact B0.ev
  · rw [stb_at, if_neg (by omega)]; exact B0.low j (by omega)
  · rw [stb_at, if_pos rfl]
  · rw [pr_stb w us _ hi, B0.pr, hd]
    unfold prj
    rw [stb_at, if_pos rfl, if_pos hbi]
    omega
  · have h1 := B0.min (stb e i (us.testBit i)) (by rw [stb_bits, up_free hx]; exact he)
    have e1 := pr_stb w us e hi (us.testBit i)
    have e2 := pr_stb w us (ofr w us x).2 hi v
    have z1 : prj w us (stb e i (us.testBit i)) i = 0 := by unfold prj; rw [stb_at, if_pos rfl, if_pos rfl]
    have z2 : prj w us (ofr w us x).2 i = 0 := by unfold prj; rw [if_pos hbi]
    have z3 : prj w us (stb (ofr w us x).2 i v) i = prj w us e i := by unfold prj; rw [stb_at, if_pos rfl, hv]
    have l1 := stb_le (c := (ofr w us x).2) (d := stb e i (us.testBit i)) (i := i) (by rw [stb_at, if_pos rfl, hbi]) v
    have e3 : stb (stb e i (us.testBit i)) i v = e := eq_of_bitsOf (by rw [stb_bits, stb_bits]; funext j; simp only [up]; by_cases hj : j = i; (subst hj; simp [← hv]; rfl); simp [hj])
    rw [e3] at l1
    rcases h1 with h1 | ⟨h1, h2⟩
    · left; omega
    · right; exact ⟨by omega, l1.2 h2⟩
theorem best_all {w : Nat → Int} (hw : ∀ j, -2147483648 ≤ w j ∧ w j ≤ 2147483648) {us : Nat} (hus : us < 2 ^ 24) (hu : ∀ j, j < 24 → us.testBit j = decide (w j < 0)) : ∀ {b : B} {n : Nat}, b.ok n → b ≠ .F → Best w us b n
  | .F, _, _, h => absurd rfl h
  | .T, n, _, _ => by
    have hz : pr w us us = 0 := by
      unfold pr
      rw [sumF_congr (g := fun _ => 0) (fun j _ => by unfold prj; rw [if_pos rfl])]
      rfl
    refine ⟨hus, rfl, fun _ _ => rfl, hz.symm, fun d _ => ?_⟩
    show pr w us us < pr w us d ∨ (pr w us us = pr w us d ∧ us ≤ d)
    rw [hz]
    have h0 := pr_nonneg w us d
    by_cases h : pr w us d = 0
    · right
      refine ⟨h.symm, ?_⟩
      have hall := sumF_zero (f := prj w us d) (n := 24) (fun j _ => prj_nonneg w us d j) (by unfold pr at h; omega)
      have : us &&& d = us := Nat.eq_of_testBit_eq fun j => by
        rw [Nat.testBit_and]
        cases hb : us.testBit j with
        | false => rfl
        | true =>
          have hj : j < 24 := Classical.byContradiction fun hn => by
            rw [Nat.testBit_lt_two_pow (Nat.lt_of_lt_of_le hus (Nat.pow_le_pow_right (by omega) (by omega)))] at hb
            cases hb
          have hp := hall j hj
          have hneg := (hu j hj).symm.trans hb
          simp only [decide_eq_true_eq] at hneg
          unfold prj at hp
          by_cases e : d.testBit j = us.testBit j
          · rw [e, hb]; rfl
          · rw [if_neg e, if_pos hneg] at hp; omega
      rw [← this]; exact Nat.and_le_right
    · left; omega
  | .N i lo hi, n, hok, _ => by
    obtain ⟨h1, h2, h3, h4, h5⟩ := hok
    have dl : max (- w i) 0 = if false = us.testBit i then 0 else if w i < 0 then - w i else w i := by
      rw [hu i h2]
      by_cases e : w i < 0
      · rw [decide_eq_true e, if_neg (by decide), if_pos e]; omega
      · rw [decide_eq_false e, if_pos rfl]; omega
    have dh : max (w i) 0 = if true = us.testBit i then 0 else if w i < 0 then - w i else w i := by
      rw [hu i h2]
      by_cases e : w i < 0
      · rw [decide_eq_true e, if_pos rfl]; omega
      · rw [decide_eq_false e, if_neg (by decide), if_neg e]; omega
    have evN : ∀ c : Nat, (B.N i lo hi).ev (bitsOf c) = if c.testBit i = true then hi.ev (bitsOf c) else lo.ev (bitsOf c) := fun c => rfl
    obtain ⟨lc, hlc⟩ : ∃ lc, lc = stb (ofr w us lo).2 i false := ⟨_, rfl⟩
    obtain ⟨hc, hhc⟩ : ∃ hc, hc = stb (ofr w us hi).2 i true := ⟨_, rfl⟩
    have eN : ofr w us (.N i lo hi) = if (ofr w us lo).1 + max (- w i) 0 < (ofr w us hi).1 + max (w i) 0 ∨ ((ofr w us lo).1 + max (- w i) 0 = (ofr w us hi).1 + max (w i) 0 ∧ lc < hc) then ((ofr w us lo).1 + max (- w i) 0, lc) else ((ofr w us hi).1 + max (w i) 0, hc) := by
      rw [hlc, hhc]; rfl
    by_cases hl : lo = .F
    · have hh : hi ≠ .F := fun e => h3 (hl.trans e.symm)
      obtain ⟨q1, q2, q3, q4, q5, q6⟩ := best_step h2 h5 (best_all hw hus hu h5 hh) true _ dh hc hhc
      have e0 : (ofr w us lo).1 = 1099511627776 := by rw [hl]; rfl
      have hp := pr_lt hw us hc
      have e1 : ofr w us (.N i lo hi) = ((ofr w us hi).1 + max (w i) 0, hc) := by
        rw [eN, if_neg]
        rintro (h | ⟨h, _⟩) <;> omega
      refine ⟨by rw [e1]; exact q1, by rw [e1, evN, if_pos q4]; exact q2, fun j hj => by rw [e1]; exact q3 j (by omega), by rw [e1]; exact q5, fun d hd => ?_⟩
      rw [e1]
      rw [evN] at hd
      by_cases hb : d.testBit i = true
      · rw [if_pos hb] at hd; exact q6 d hd hb
      · rw [if_neg hb, hl] at hd; cases hd
    · obtain ⟨p1, p2, p3, p4, p5, p6⟩ := best_step h2 h4 (best_all hw hus hu h4 hl) false _ dl lc hlc
      have hpl := pr_lt hw us lc
      by_cases hh : hi = .F
      · have e0 : (ofr w us hi).1 = 1099511627776 := by rw [hh]; rfl
        have e1 : ofr w us (.N i lo hi) = ((ofr w us lo).1 + max (- w i) 0, lc) := by
          rw [eN, if_pos (.inl (by omega))]
        refine ⟨by rw [e1]; exact p1, by rw [e1, evN, if_neg (by rw [p4]; decide)]; exact p2, fun j hj => by rw [e1]; exact p3 j (by omega), by rw [e1]; exact p5, fun d hd => ?_⟩
        rw [e1]
        rw [evN] at hd
        by_cases hb : d.testBit i = true
        · rw [if_pos hb, hh] at hd; cases hd
        · rw [if_neg hb] at hd; exact p6 d hd (by simpa using hb)
      · obtain ⟨q1, q2, q3, q4, q5, q6⟩ := best_step h2 h5 (best_all hw hus hu h5 hh) true _ dh hc hhc
        by_cases hcmp : (ofr w us lo).1 + max (- w i) 0 < (ofr w us hi).1 + max (w i) 0 ∨ ((ofr w us lo).1 + max (- w i) 0 = (ofr w us hi).1 + max (w i) 0 ∧ lc < hc)
        · have e1 : ofr w us (.N i lo hi) = ((ofr w us lo).1 + max (- w i) 0, lc) := by rw [eN, if_pos hcmp]
          rw [p5, q5] at hcmp
          refine ⟨by rw [e1]; exact p1, by rw [e1, evN, if_neg (by rw [p4]; decide)]; exact p2, fun j hj => by rw [e1]; exact p3 j (by omega), by rw [e1]; exact p5, fun d hd => ?_⟩
          rw [e1]
          rw [evN] at hd
          by_cases hb : d.testBit i = true
          · rw [if_pos hb] at hd
            have := q6 d hd hb
            show pr w us lc < pr w us d ∨ (pr w us lc = pr w us d ∧ lc ≤ d)
            omega
          · rw [if_neg hb] at hd; exact p6 d hd (by simpa using hb)
        · have e1 : ofr w us (.N i lo hi) = ((ofr w us hi).1 + max (w i) 0, hc) := by rw [eN, if_neg hcmp]
          rw [p5, q5] at hcmp
          refine ⟨by rw [e1]; exact q1, by rw [e1, evN, if_pos q4]; exact q2, fun j hj => by rw [e1]; exact q3 j (by omega), by rw [e1]; exact q5, fun d hd => ?_⟩
          rw [e1]
          rw [evN] at hd
          by_cases hb : d.testBit i = true
          · rw [if_pos hb] at hd; exact q6 d hd hb
          · rw [if_neg hb] at hd
            have := p6 d hd (by simpa using hb)
            show pr w us hc < pr w us d ∨ (pr w us hc = pr w us d ∧ hc ≤ d)
            omega
end Go.Proofs.YtiainlccodnlmaaGreatDoor
namespace Go.Proofs.YtiainlccodnlmaaGreatDoor
open Go.RowKit
open Bd

theorem Box2.putO0 {w : World} {g : Nat} {a b : Value} (h : Box2 w g a b) (x : Value) : Box2 (w.setCell ⟨g, 0, none⟩ x) g x b ∧ Fr (fun k => k = g) w (w.setCell ⟨g, 0, none⟩ x) := by
  refine ⟨⟨World.cell?_setCell_same' _ _ _ (by rw [h.c0]; rfl), ?_, fun o => by rw [World.frozen?_setCell]; exact h.fz o⟩, fr_store w g 0 x⟩
  rw [World.cell?_setCell_other _ _ _ _ (by simp)]; exact h.c1
theorem Box2.putO1 {w : World} {g : Nat} {a b : Value} (h : Box2 w g a b) (x : Value) : Box2 (w.setCell ⟨g, 1, none⟩ x) g a x ∧ Fr (fun k => k = g) w (w.setCell ⟨g, 1, none⟩ x) := by
  refine ⟨⟨?_, World.cell?_setCell_same' _ _ _ (by rw [h.c1]; rfl), fun o => by rw [World.frozen?_setCell]; exact h.fz o⟩, fr_store w g 1 x⟩
  rw [World.cell?_setCell_other _ _ _ _ (by simp)]; exact h.c0
theorem or_stb (s i : Nat) (hs : s < 2 ^ 24) (hi : i < 24) : bits BinOp.or IntKind.u32 (s : Int) (IntKind.u32.wrap (2 ^ i)) = ((stb s i true : Nat) : Int) := by
  have := or_u32 s i hs hi
  rw [Nat.one_shiftLeft] at this
  rw [IntKind.wrap_u32]; exact this
theorem andNot_stb (s i : Nat) (hs : s < 2 ^ 24) (hi : i < 24) : bits BinOp.andNot IntKind.u32 (s : Int) (IntKind.u32.wrap (2 ^ i)) = ((stb s i false : Nat) : Int) := by
  have hp : 2 ^ i < 2 ^ 24 := Nat.pow_lt_pow_right (by omega) hi
  have e : IntKind.u32.wrap (2 ^ i) = ((2 ^ i : Nat) : Int) := by
    rw [IntKind.wrap_u32, show (2 : Int) ^ i = ((2 ^ i : Nat) : Int) by simp]
    generalize 2 ^ i = m at *
    omega
  rw [e, u32_andNot_nat s (2 ^ i) (by omega) (by omega)]
  congr 1
  refine Nat.eq_of_testBit_eq fun j => ?_
  rw [stb_at, Nat.testBit_and, show (4294967295 : Nat) - 2 ^ i = 2 ^ 32 - (2 ^ i + 1) by omega, Nat.testBit_two_pow_sub_succ (by omega), Nat.testBit_two_pow]
  by_cases h : j = i
  · subst h; simp
  · rw [if_neg h]
    have h' : ¬ i = j := fun e => h e.symm
    by_cases hj : j < 32
    · simp [h', hj]
    · have : s.testBit j = false := Nat.testBit_lt_two_pow (Nat.lt_of_lt_of_le hs (Nat.pow_le_pow_right (by omega) (by omega)))
      rw [this]; simp

theorem cw_at (cw : Nat → Int) {i : Nat} (hi : i < 24) : (#[.int .i64 (cw 0), .int .i64 (cw 1), .int .i64 (cw 2), .int .i64 (cw 3), .int .i64 (cw 4), .int .i64 (cw 5), .int .i64 (cw 6), .int .i64 (cw 7), .int .i64 (cw 8), .int .i64 (cw 9), .int .i64 (cw 10), .int .i64 (cw 11), .int .i64 (cw 12), .int .i64 (cw 13), .int .i64 (cw 14), .int .i64 (cw 15), .int .i64 (cw 16), .int .i64 (cw 17), .int .i64 (cw 18), .int .i64 (cw 19), .int .i64 (cw 20), .int .i64 (cw 21), .int .i64 (cw 22), .int .i64 (cw 23)] : Array Value)[i]? = some (.int .i64 (cw i)) := by
  match i, hi with
  | 0, _ => rfl
  | 1, _ => rfl
  | 2, _ => rfl
  | 3, _ => rfl
  | 4, _ => rfl
  | 5, _ => rfl
  | 6, _ => rfl
  | 7, _ => rfl
  | 8, _ => rfl
  | 9, _ => rfl
  | 10, _ => rfl
  | 11, _ => rfl
  | 12, _ => rfl
  | 13, _ => rfl
  | 14, _ => rfl
  | 15, _ => rfl
  | 16, _ => rfl
  | 17, _ => rfl
  | 18, _ => rfl
  | 19, _ => rfl
  | 20, _ => rfl
  | 21, _ => rfl
  | 22, _ => rfl
  | 23, _ => rfl
  | i + 24, h => omega

/-- a price of features as a value -/
abbrev pv (cw : Nat → Int) : Value := wv cw
/-- the better one of two offers -/
def bet (x e1 e2 : Int) (k1 k2 : Nat) : Int × Nat := if e1 + max (- x) 0 < e2 + max x 0 ∨ (e1 + max (- x) 0 = e2 + max x 0 ∧ k1 < k2) then (e1 + max (- x) 0, k1) else (e2 + max x 0, k2)
abbrev ov (o : Int × Nat) : Value := .agg #[.int .i64 o.1, .int .u32 (o.2 : Int)]

set_option maxRecDepth 100000 in
set_option maxHeartbeats 4000000 in
theorem better_any (cw : Nat → Int) (i : Nat) (hi : i < 24) (hcw : -2147483648 ≤ cw i ∧ cw i ≤ 2147483648) (e1 e2 : Int) (he1 : 0 ≤ e1 ∧ e1 ≤ 4398046511104) (he2 : 0 ≤ e2 ∧ e2 ≤ 4398046511104) (c1 c2 : Nat) (hc1 : c1 < 2 ^ 24) (hc2 : c2 < 2 ^ 24) (w : World) :
    Calls Tryz.prog 89 #[pv cw, .int .i64 (i : Int), .agg #[.int .i64 e1, .int .u32 (c1 : Int)], .agg #[.int .i64 e2, .int .u32 (c2 : Int)]] w fun e w' => e = .returned (ov (bet (cw i) e1 e2 (stb c1 i false) (stb c2 i true))) ∧ Below w.heap.size w w' := by
  have box := heap_alloc_new w (.cells #[.int .i64 (cw 0), .int .i64 (cw 1), .int .i64 (cw 2), .int .i64 (cw 3), .int .i64 (cw 4), .int .i64 (cw 5), .int .i64 (cw 6), .int .i64 (cw 7), .int .i64 (cw 8), .int .i64 (cw 9), .int .i64 (cw 10), .int .i64 (cw 11), .int .i64 (cw 12), .int .i64 (cw 13), .int .i64 (cw 14), .int .i64 (cw 15), .int .i64 (cw 16), .int .i64 (cw 17), .int .i64 (cw 18), .int .i64 (cw 19), .int .i64 (cw 20), .int .i64 (cw 21), .int .i64 (cw 22), .int .i64 (cw 23)] 124)
  have D1 := ((Box2.new (w.alloc (.cells #[.int .i64 (cw 0), .int .i64 (cw 1), .int .i64 (cw 2), .int .i64 (cw 3), .int .i64 (cw 4), .int .i64 (cw 5), .int .i64 (cw 6), .int .i64 (cw 7), .int .i64 (cw 8), .int .i64 (cw 9), .int .i64 (cw 10), .int .i64 (cw 11), .int .i64 (cw 12), .int .i64 (cw 13), .int .i64 (cw 14), .int .i64 (cw 15), .int .i64 (cw 16), .int .i64 (cw 17), .int .i64 (cw 18), .int .i64 (cw 19), .int .i64 (cw 20), .int .i64 (cw 21), .int .i64 (cw 22), .int .i64 (cw 23)] 124)) (.int .i64 e1) (.int .u32 (c1 : Int)) 126).kept ((Fr.refl nob _).alloc (.cells #[.int .i64 e2, .int .u32 (c2 : Int)] 126)) (fun h => h)).kept ((Fr.refl nob _).alloc (.cells #[.int .i64 0, .int .u32 0] 126)) (fun h => h)
  have D2 := (Box2.new ((w.alloc (.cells #[.int .i64 (cw 0), .int .i64 (cw 1), .int .i64 (cw 2), .int .i64 (cw 3), .int .i64 (cw 4), .int .i64 (cw 5), .int .i64 (cw 6), .int .i64 (cw 7), .int .i64 (cw 8), .int .i64 (cw 9), .int .i64 (cw 10), .int .i64 (cw 11), .int .i64 (cw 12), .int .i64 (cw 13), .int .i64 (cw 14), .int .i64 (cw 15), .int .i64 (cw 16), .int .i64 (cw 17), .int .i64 (cw 18), .int .i64 (cw 19), .int .i64 (cw 20), .int .i64 (cw 21), .int .i64 (cw 22), .int .i64 (cw 23)] 124)).alloc (.cells #[.int .i64 e1, .int .u32 (c1 : Int)] 126)) (.int .i64 e2) (.int .u32 (c2 : Int)) 126).kept ((Fr.refl nob _).alloc (.cells #[.int .i64 0, .int .u32 0] 126)) (fun h => h)
  have D3 := Box2.new (((w.alloc (.cells #[.int .i64 (cw 0), .int .i64 (cw 1), .int .i64 (cw 2), .int .i64 (cw 3), .int .i64 (cw 4), .int .i64 (cw 5), .int .i64 (cw 6), .int .i64 (cw 7), .int .i64 (cw 8), .int .i64 (cw 9), .int .i64 (cw 10), .int .i64 (cw 11), .int .i64 (cw 12), .int .i64 (cw 13), .int .i64 (cw 14), .int .i64 (cw 15), .int .i64 (cw 16), .int .i64 (cw 17), .int .i64 (cw 18), .int .i64 (cw 19), .int .i64 (cw 20), .int .i64 (cw 21), .int .i64 (cw 22), .int .i64 (cw 23)] 124)).alloc (.cells #[.int .i64 e1, .int .u32 (c1 : Int)] 126)).alloc (.cells #[.int .i64 e2, .int .u32 (c2 : Int)] 126)) (.int .i64 0) (.int .u32 0) 126
  have fr : Fr nob w ((((w.alloc (.cells #[.int .i64 (cw 0), .int .i64 (cw 1), .int .i64 (cw 2), .int .i64 (cw 3), .int .i64 (cw 4), .int .i64 (cw 5), .int .i64 (cw 6), .int .i64 (cw 7), .int .i64 (cw 8), .int .i64 (cw 9), .int .i64 (cw 10), .int .i64 (cw 11), .int .i64 (cw 12), .int .i64 (cw 13), .int .i64 (cw 14), .int .i64 (cw 15), .int .i64 (cw 16), .int .i64 (cw 17), .int .i64 (cw 18), .int .i64 (cw 19), .int .i64 (cw 20), .int .i64 (cw 21), .int .i64 (cw 22), .int .i64 (cw 23)] 124)).alloc (.cells #[.int .i64 e1, .int .u32 (c1 : Int)] 126)).alloc (.cells #[.int .i64 e2, .int .u32 (c2 : Int)] 126)).alloc (.cells #[.int .i64 0, .int .u32 0] 126)) := ((((Fr.refl nob w).alloc _).alloc _).alloc _).alloc _
  have f14 : Fr nob (w.alloc (.cells #[.int .i64 (cw 0), .int .i64 (cw 1), .int .i64 (cw 2), .int .i64 (cw 3), .int .i64 (cw 4), .int .i64 (cw 5), .int .i64 (cw 6), .int .i64 (cw 7), .int .i64 (cw 8), .int .i64 (cw 9), .int .i64 (cw 10), .int .i64 (cw 11), .int .i64 (cw 12), .int .i64 (cw 13), .int .i64 (cw 14), .int .i64 (cw 15), .int .i64 (cw 16), .int .i64 (cw 17), .int .i64 (cw 18), .int .i64 (cw 19), .int .i64 (cw 20), .int .i64 (cw 21), .int .i64 (cw 22), .int .i64 (cw 23)] 124)) ((((w.alloc (.cells #[.int .i64 (cw 0), .int .i64 (cw 1), .int .i64 (cw 2), .int .i64 (cw 3), .int .i64 (cw 4), .int .i64 (cw 5), .int .i64 (cw 6), .int .i64 (cw 7), .int .i64 (cw 8), .int .i64 (cw 9), .int .i64 (cw 10), .int .i64 (cw 11), .int .i64 (cw 12), .int .i64 (cw 13), .int .i64 (cw 14), .int .i64 (cw 15), .int .i64 (cw 16), .int .i64 (cw 17), .int .i64 (cw 18), .int .i64 (cw 19), .int .i64 (cw 20), .int .i64 (cw 21), .int .i64 (cw 22), .int .i64 (cw 23)] 124)).alloc (.cells #[.int .i64 e1, .int .u32 (c1 : Int)] 126)).alloc (.cells #[.int .i64 e2, .int .u32 (c2 : Int)] 126)).alloc (.cells #[.int .i64 0, .int .u32 0] 126)) := (((Fr.refl nob (w.alloc (.cells #[.int .i64 (cw 0), .int .i64 (cw 1), .int .i64 (cw 2), .int .i64 (cw 3), .int .i64 (cw 4), .int .i64 (cw 5), .int .i64 (cw 6), .int .i64 (cw 7), .int .i64 (cw 8), .int .i64 (cw 9), .int .i64 (cw 10), .int .i64 (cw 11), .int .i64 (cw 12), .int .i64 (cw 13), .int .i64 (cw 14), .int .i64 (cw 15), .int .i64 (cw 16), .int .i64 (cw 17), .int .i64 (cw 18), .int .i64 (cw 19), .int .i64 (cw 20), .int .i64 (cw 21), .int .i64 (cw 22), .int .i64 (cw 23)] 124))).alloc _).alloc _).alloc _
  have pw : ((((w.alloc (.cells #[.int .i64 (cw 0), .int .i64 (cw 1), .int .i64 (cw 2), .int .i64 (cw 3), .int .i64 (cw 4), .int .i64 (cw 5), .int .i64 (cw 6), .int .i64 (cw 7), .int .i64 (cw 8), .int .i64 (cw 9), .int .i64 (cw 10), .int .i64 (cw 11), .int .i64 (cw 12), .int .i64 (cw 13), .int .i64 (cw 14), .int .i64 (cw 15), .int .i64 (cw 16), .int .i64 (cw 17), .int .i64 (cw 18), .int .i64 (cw 19), .int .i64 (cw 20), .int .i64 (cw 21), .int .i64 (cw 22), .int .i64 (cw 23)] 124)).alloc (.cells #[.int .i64 e1, .int .u32 (c1 : Int)] 126)).alloc (.cells #[.int .i64 e2, .int .u32 (c2 : Int)] 126)).alloc (.cells #[.int .i64 0, .int .u32 0] 126)).cell? ⟨w.heap.size, i, none⟩ = some (.int .i64 (cw i)) := by
    refine f14.cell' ?_ (fun h => h)
    rw [cell_of_row _ w.heap.size i _ _ (0, 0) box]
    exact cw_at cw hi
  simp only [World.size_alloc] at D1 D2 D3
  clear box f14
  have o1 := andNot_stb c1 i hc1 hi
  have o2 := or_stb c2 i hc2 hi
  have hi0 : (i : Int) < 24 := by omega
  have HI := Lib.hid hi
  generalize hx : cw i = x at *
  have HX := Lib.hid hx
  clear hx
  go_enter Tryz.func89, Tryz.ntmps89
  go_upto_region 1 with fail
  generalize ((((w.alloc (.cells #[.int .i64 (cw 0), .int .i64 (cw 1), .int .i64 (cw 2), .int .i64 (cw 3), .int .i64 (cw 4), .int .i64 (cw 5), .int .i64 (cw 6), .int .i64 (cw 7), .int .i64 (cw 8), .int .i64 (cw 9), .int .i64 (cw 10), .int .i64 (cw 11), .int .i64 (cw 12), .int .i64 (cw 13), .int .i64 (cw 14), .int .i64 (cw 15), .int .i64 (cw 16), .int .i64 (cw 17), .int .i64 (cw 18), .int .i64 (cw 19), .int .i64 (cw 20), .int .i64 (cw 21), .int .i64 (cw 22), .int .i64 (cw 23)] 124)).alloc (.cells #[.int .i64 e1, .int .u32 (c1 : Int)] 126)).alloc (.cells #[.int .i64 e2, .int .u32 (c2 : Int)] 126)).alloc (.cells #[.int .i64 0, .int .u32 0] 126)) = W0 at *
  have a1 := D1.c1
  refine wp_region_grow' 6 55 (fun _ => #[]) [] (by kernel_rfl) (by kernel_rfl) rfl rfl (by intro T h; cases h) ?_
  simp only [List.take_succ_cons, List.take_zero]
  refine grow_step (v := .pointer (some ⟨w.heap.size + 1, 1, none⟩)) rfl rfl ?a0p ?b0p
  case a0p =>
    intro w' hw'
    clear hw'
    refine growAt_value ?_
    go_simp
    try rfl
  simp only [Act.put, List.setIfInBounds_toArray, List.set_cons_zero, List.set_cons_succ]
  refine grow_step (v := .int .u32 (c1 : Int)) rfl rfl ?a1p ?b1p
  case a1p =>
    intro w' hw'
    have y0 := hw'.cell' a1 (fun h => h)
    clear hw'
    refine growAt_value ?_
    go_simp
    try rfl
  simp only [Act.put, List.setIfInBounds_toArray, List.set_cons_zero, List.set_cons_succ]
  refine grow_step (v := ik i) rfl rfl ?a2p ?b2p
  case a2p =>
    intro w' hw'
    clear hw'
    refine growAt_value ?_
    go_simp
    try rfl
  simp only [Act.put, List.setIfInBounds_toArray, List.set_cons_zero, List.set_cons_succ]
  refine grow_step (v := ?v3p) rfl rfl ?a3p ?b3p
  case a3p =>
    intro w' hw'
    clear hw'
    refine growAt_value ?_
    go_simp
    rfl
  simp only [Act.put, List.setIfInBounds_toArray, List.set_cons_zero, List.set_cons_succ]
  refine grow_step (v := .int .u32 ((stb c1 i false : Nat) : Int)) rfl rfl ?a4p ?b4p
  case a4p =>
    intro w' hw'
    clear hw'
    refine growAt_value ?_
    go_simp
    try rfl
  simp only [Act.put, List.setIfInBounds_toArray, List.set_cons_zero, List.set_cons_succ]
  refine grow_step (v := .pointer (some ⟨w.heap.size + 1, 1, none⟩)) rfl rfl ?a5p ?b5p
  case a5p =>
    intro w' hw'
    clear hw'
    refine growAt_value ?_
    go_simp
    try rfl
  simp only [Act.put, List.setIfInBounds_toArray, List.set_cons_zero, List.set_cons_succ]
  clear a1 o1
  refine grow_nil ?_
  intro w5 listed p5 _ _
  have frB := fr.trans p5 (fun _ _ h => h)
  have E1 := D1.kept p5 (fun h => h)
  have E2 := D2.kept p5 (fun h => h)
  have E3 := D3.kept p5 (fun h => h)
  have pw5 := p5.cell' pw (fun h => h)
  have s0 := E1.c0
  have s1 := E1.c1
  have sf := E1.fz 1
  obtain ⟨P1, F1⟩ := E1.putO1 (.int .u32 ((stb c1 i false : Nat) : Int))
  have G1 := Lib.hid P1
  have G2 := Lib.hid (E2.kept F1 (by omega))
  have G3 := Lib.hid (E3.kept F1 (by omega))
  have GP := Lib.hid (F1.cell' pw5 (by omega))
  have GF := Lib.hid (frB.trans F1 (fun j hj e => by exfalso; omega))
  clear fr p5 pw5 pw D1 D2 D3 E1 E2 E3 P1 F1 frB
  go_upto_region 2 with fail
  clear s0 s1 sf
  generalize w5.setCell ⟨w.heap.size + 1, 1, none⟩ (.int .u32 ((stb c1 i false : Nat) : Int)) = WN at *
  have D1 := G1.out
  have D2 := G2.out
  have D3 := G3.out
  have pw := GP.out
  have fr := GF.out
  clear G1 G2 G3 GP GF
  have a1 := D2.c1
  refine wp_region_grow' 6 55 (fun _ => #[]) [] (by kernel_rfl) (by kernel_rfl) rfl rfl (by intro T h; cases h) ?_
  simp only [List.take_succ_cons, List.take_zero]
  refine grow_step (v := .pointer (some ⟨w.heap.size + 1 + 1, 1, none⟩)) rfl rfl ?a0q ?b0q
  case a0q =>
    intro w' hw'
    clear hw'
    refine growAt_value ?_
    go_simp
    try rfl
  simp only [Act.put, List.setIfInBounds_toArray, List.set_cons_zero, List.set_cons_succ]
  refine grow_step (v := .int .u32 (c2 : Int)) rfl rfl ?a1q ?b1q
  case a1q =>
    intro w' hw'
    have y0 := hw'.cell' a1 (fun h => h)
    clear hw'
    refine growAt_value ?_
    go_simp
    try rfl
  simp only [Act.put, List.setIfInBounds_toArray, List.set_cons_zero, List.set_cons_succ]
  refine grow_step (v := ik i) rfl rfl ?a2q ?b2q
  case a2q =>
    intro w' hw'
    clear hw'
    refine growAt_value ?_
    go_simp
    try rfl
  simp only [Act.put, List.setIfInBounds_toArray, List.set_cons_zero, List.set_cons_succ]
  refine grow_step (v := ?v3q) rfl rfl ?a3q ?b3q
  case a3q =>
    intro w' hw'
    clear hw'
    refine growAt_value ?_
    go_simp
    rfl
  simp only [Act.put, List.setIfInBounds_toArray, List.set_cons_zero, List.set_cons_succ]
  refine grow_step (v := .int .u32 ((stb c2 i true : Nat) : Int)) rfl rfl ?a4q ?b4q
  case a4q =>
    intro w' hw'
    clear hw'
    refine growAt_value ?_
    go_simp
    try rfl
  simp only [Act.put, List.setIfInBounds_toArray, List.set_cons_zero, List.set_cons_succ]
  refine grow_step (v := .pointer (some ⟨w.heap.size + 1 + 1, 1, none⟩)) rfl rfl ?a5q ?b5q
  case a5q =>
    intro w' hw'
    clear hw'
    refine growAt_value ?_
    go_simp
    try rfl
  simp only [Act.put, List.setIfInBounds_toArray, List.set_cons_zero, List.set_cons_succ]
  clear a1 o2
  refine grow_nil ?_
  intro w5 listed p5 _ _
  have frB := fr.trans p5 (fun _ _ h => h)
  have E1 := D1.kept p5 (fun h => h)
  have E2 := D2.kept p5 (fun h => h)
  have E3 := D3.kept p5 (fun h => h)
  have pw5 := p5.cell' pw (fun h => h)
  have s0 := E2.c0
  have s1 := E2.c1
  have sf := E2.fz 1
  obtain ⟨P1, F1⟩ := E2.putO1 (.int .u32 ((stb c2 i true : Nat) : Int))
  have G2 := Lib.hid P1
  have G1 := Lib.hid (E1.kept F1 (by omega))
  have G3 := Lib.hid (E3.kept F1 (by omega))
  have GP := Lib.hid (F1.cell' pw5 (by omega))
  have GF := Lib.hid (frB.trans F1 (fun j hj e => by exfalso; omega))
  clear fr p5 pw5 pw D1 D2 D3 E1 E2 E3 P1 F1 frB
  go_upto_region 3 with fail
  clear s0 s1 sf
  generalize w5.setCell ⟨w.heap.size + 1 + 1, 1, none⟩ (.int .u32 ((stb c2 i true : Nat) : Int)) = WN at *
  have D1 := G1.out
  have D2 := G2.out
  have D3 := G3.out
  have pw := GP.out
  have fr := GF.out
  clear G1 G2 G3 GP GF
  have l1 := stb_lt hc1 HI.out false
  have l2 := stb_lt hc2 HI.out true
  generalize hs1 : stb c1 i false = k1 at *
  generalize hs2 : stb c2 i true = k2 at *
  have HS1 := Lib.hid hs1
  have HS2 := Lib.hid hs2
  clear hs1 hs2
  have a0 := D1.c0
  refine wp_region_grow' 10 55 (fun _ => #[]) [] (by kernel_rfl) (by kernel_rfl) rfl rfl (by intro T h; cases h) ?_
  simp only [List.take_succ_cons, List.take_zero]
  refine grow_step (v := .pointer (some ⟨w.heap.size + 1, 0, none⟩)) rfl rfl ?a0r ?b0r
  case a0r =>
    intro w' hw'
    clear hw'
    refine growAt_value ?_
    go_simp
    try rfl
  simp only [Act.put, List.setIfInBounds_toArray, List.set_cons_zero, List.set_cons_succ]
  refine grow_step (v := .int .i64 e1) rfl rfl ?a1r ?b1r
  case a1r =>
    intro w' hw'
    have y0 := hw'.cell' a0 (fun h => h)
    clear hw'
    refine growAt_value ?_
    go_simp
    try rfl
  simp only [Act.put, List.setIfInBounds_toArray, List.set_cons_zero, List.set_cons_succ]
  refine grow_step (v := ik i) rfl rfl ?a2r ?b2r
  case a2r =>
    intro w' hw'
    clear hw'
    refine growAt_value ?_
    go_simp
    try rfl
  simp only [Act.put, List.setIfInBounds_toArray, List.set_cons_zero, List.set_cons_succ]
  refine grow_step (v := .pointer (some ⟨w.heap.size, 0, none⟩)) rfl rfl ?a3r ?b3r
  case a3r =>
    intro w' hw'
    clear hw'
    refine growAt_value ?_
    go_simp
    try rfl
  simp only [Act.put, List.setIfInBounds_toArray, List.set_cons_zero, List.set_cons_succ]
  refine grow_step (v := .pointer (some ⟨w.heap.size, i, none⟩)) rfl rfl ?a4r ?b4r
  case a4r =>
    intro w' hw'
    clear hw'
    refine growAt_value ?_
    go_simp
    try rfl
  simp only [Act.put, List.setIfInBounds_toArray, List.set_cons_zero, List.set_cons_succ]
  refine grow_step (v := .int .i64 x) rfl rfl ?a5r ?b5r
  case a5r =>
    intro w' hw'
    have y0 := hw'.cell' pw (fun h => h)
    clear hw'
    refine growAt_value ?_
    go_simp
    try rfl
  simp only [Act.put, List.setIfInBounds_toArray, List.set_cons_zero, List.set_cons_succ]
  refine grow_step (v := .int .i64 (- x)) rfl rfl ?a6r ?b6r
  case a6r =>
    intro w' hw'
    clear hw'
    refine growAt_value ?_
    go_simp
    first | rfl | (rw [IntKind.wrap_i64]; omega)
  simp only [Act.put, List.setIfInBounds_toArray, List.set_cons_zero, List.set_cons_succ]
  refine grow_step (v := .int .i64 (max (- x) 0)) rfl rfl ?a7r ?b7r
  case a7r =>
    intro w' hw'
    clear hw'
    refine growAt_value ?_
    go_simp
    try rfl
  simp only [Act.put, List.setIfInBounds_toArray, List.set_cons_zero, List.set_cons_succ]
  refine grow_step (v := .int .i64 (e1 + max (- x) 0)) rfl rfl ?a8r ?b8r
  case a8r =>
    intro w' hw'
    clear hw'
    refine growAt_value ?_
    go_simp
    first | rfl | (rw [IntKind.wrap_i64]; omega)
  simp only [Act.put, List.setIfInBounds_toArray, List.set_cons_zero, List.set_cons_succ]
  refine grow_step (v := .pointer (some ⟨w.heap.size + 1, 0, none⟩)) rfl rfl ?a9r ?b9r
  case a9r =>
    intro w' hw'
    clear hw'
    refine growAt_value ?_
    go_simp
    try rfl
  simp only [Act.put, List.setIfInBounds_toArray, List.set_cons_zero, List.set_cons_succ]
  clear a0
  refine grow_nil ?_
  intro w5 listed p5 _ _
  have frB := fr.trans p5 (fun _ _ h => h)
  have E1 := D1.kept p5 (fun h => h)
  have E2 := D2.kept p5 (fun h => h)
  have E3 := D3.kept p5 (fun h => h)
  have pw5 := p5.cell' pw (fun h => h)
  have s0 := E1.c0
  have s1 := E1.c1
  have sf := E1.fz 0
  obtain ⟨P1, F1⟩ := E1.putO0 (.int .i64 (e1 + max (- x) 0))
  have G1 := Lib.hid P1
  have G2 := Lib.hid (E2.kept F1 (by omega))
  have G3 := Lib.hid (E3.kept F1 (by omega))
  have GP := Lib.hid (F1.cell' pw5 (by omega))
  have GF := Lib.hid (frB.trans F1 (fun j hj e => by exfalso; omega))
  clear fr p5 pw5 pw D1 D2 D3 E1 E2 E3 P1 F1 frB
  go_upto_region 4 with fail
  clear s0 s1 sf
  generalize w5.setCell ⟨w.heap.size + 1, 0, none⟩ (.int .i64 (e1 + max (- x) 0)) = WN at *
  have D1 := G1.out
  have D2 := G2.out
  have D3 := G3.out
  have pw := GP.out
  have fr := GF.out
  clear G1 G2 G3 GP GF
  have a0 := D2.c0
  refine wp_region_grow' 9 55 (fun _ => #[]) [] (by kernel_rfl) (by kernel_rfl) rfl rfl (by intro T h; cases h) ?_
  simp only [List.take_succ_cons, List.take_zero]
  refine grow_step (v := .pointer (some ⟨w.heap.size + 1 + 1, 0, none⟩)) rfl rfl ?a0s ?b0s
  case a0s =>
    intro w' hw'
    clear hw'
    refine growAt_value ?_
    go_simp
    try rfl
  simp only [Act.put, List.setIfInBounds_toArray, List.set_cons_zero, List.set_cons_succ]
  refine grow_step (v := .int .i64 e2) rfl rfl ?a1s ?b1s
  case a1s =>
    intro w' hw'
    have y0 := hw'.cell' a0 (fun h => h)
    clear hw'
    refine growAt_value ?_
    go_simp
    try rfl
  simp only [Act.put, List.setIfInBounds_toArray, List.set_cons_zero, List.set_cons_succ]
  refine grow_step (v := ik i) rfl rfl ?a2s ?b2s
  case a2s =>
    intro w' hw'
    clear hw'
    refine growAt_value ?_
    go_simp
    try rfl
  simp only [Act.put, List.setIfInBounds_toArray, List.set_cons_zero, List.set_cons_succ]
  refine grow_step (v := .pointer (some ⟨w.heap.size, 0, none⟩)) rfl rfl ?a3s ?b3s
  case a3s =>
    intro w' hw'
    clear hw'
    refine growAt_value ?_
    go_simp
    try rfl
  simp only [Act.put, List.setIfInBounds_toArray, List.set_cons_zero, List.set_cons_succ]
  refine grow_step (v := .pointer (some ⟨w.heap.size, i, none⟩)) rfl rfl ?a4s ?b4s
  case a4s =>
    intro w' hw'
    clear hw'
    refine growAt_value ?_
    go_simp
    try rfl
  simp only [Act.put, List.setIfInBounds_toArray, List.set_cons_zero, List.set_cons_succ]
  refine grow_step (v := .int .i64 x) rfl rfl ?a5s ?b5s
  case a5s =>
    intro w' hw'
    have y0 := hw'.cell' pw (fun h => h)
    clear hw'
    refine growAt_value ?_
    go_simp
    try rfl
  simp only [Act.put, List.setIfInBounds_toArray, List.set_cons_zero, List.set_cons_succ]
  refine grow_step (v := .int .i64 (max x 0)) rfl rfl ?a6s ?b6s
  case a6s =>
    intro w' hw'
    clear hw'
    refine growAt_value ?_
    go_simp
    try rfl
  simp only [Act.put, List.setIfInBounds_toArray, List.set_cons_zero, List.set_cons_succ]
  refine grow_step (v := .int .i64 (e2 + max x 0)) rfl rfl ?a7s ?b7s
  case a7s =>
    intro w' hw'
    clear hw'
    refine growAt_value ?_
    go_simp
    first | rfl | (rw [IntKind.wrap_i64]; omega)
  simp only [Act.put, List.setIfInBounds_toArray, List.set_cons_zero, List.set_cons_succ]
  refine grow_step (v := .pointer (some ⟨w.heap.size + 1 + 1, 0, none⟩)) rfl rfl ?a8s ?b8s
  case a8s =>
    intro w' hw'
    clear hw'
    refine growAt_value ?_
    go_simp
    try rfl
  simp only [Act.put, List.setIfInBounds_toArray, List.set_cons_zero, List.set_cons_succ]
  clear a0
  refine grow_nil ?_
  intro w5 listed p5 _ _
  have frB := fr.trans p5 (fun _ _ h => h)
  have E1 := D1.kept p5 (fun h => h)
  have E2 := D2.kept p5 (fun h => h)
  have E3 := D3.kept p5 (fun h => h)
  have pw5 := p5.cell' pw (fun h => h)
  have s0 := E2.c0
  have s1 := E2.c1
  have sf := E2.fz 0
  obtain ⟨P1, F1⟩ := E2.putO0 (.int .i64 (e2 + max x 0))
  have G2 := Lib.hid P1
  have G1 := Lib.hid (E1.kept F1 (by omega))
  have G3 := Lib.hid (E3.kept F1 (by omega))
  have GP := Lib.hid (F1.cell' pw5 (by omega))
  have GF := Lib.hid (frB.trans F1 (fun j hj e => by exfalso; omega))
  clear fr p5 pw5 pw D1 D2 D3 E1 E2 E3 P1 F1 frB
  go_upto_region 5 with fail
  clear s0 s1 sf
  generalize w5.setCell ⟨w.heap.size + 1 + 1, 0, none⟩ (.int .i64 (e2 + max x 0)) = WN at *
  have D1 := G1.out
  have D2 := G2.out
  have D3 := G3.out
  have pw := GP.out
  have fr := GF.out
  clear G1 G2 G3 GP GF
  generalize hy1 : e1 + max (- x) 0 = y1 at *
  generalize hy2 : e2 + max x 0 = y2 at *
  have HY1 := Lib.hid hy1
  have HY2 := Lib.hid hy2
  clear hy1 hy2
  have a0 := D1.c0
  have a1 := D1.c1
  have b0 := D2.c0
  have b1 := D2.c1
  have HP := Lib.hid (or2_lt y1 y2 (k1 : Int) (k2 : Int))
  refine G.wp_region 12 55 (fun k => k == 10) (fun _ v w => ∃ g, v = .slice (some ⟨g, 0, none⟩) 2 2 ∧ w.cell? ⟨g, 0, none⟩ = some (.int .i64 (cmpZ y1 y2)) ∧ w.cell? ⟨g, 1, none⟩ = some (.int .i64 (cmpZ (k1 : Int) (k2 : Int)))) (fun k => List.getD [Value.pointer (some ⟨w.heap.size + 1, 0, none⟩), Value.int .i64 y1, Value.pointer (some ⟨w.heap.size + 1 + 1, 0, none⟩), Value.int .i64 y2, Value.int .i64 (cmpZ y1 y2), Value.pointer (some ⟨w.heap.size + 1, 1, none⟩), Value.int .u32 (k1 : Int), Value.pointer (some ⟨w.heap.size + 1 + 1, 1, none⟩), Value.int .u32 (k2 : Int), Value.int .i64 (cmpZ (k1 : Int) (k2 : Int)), undef, Value.int .i64 (or2 (cmpZ y1 y2) (cmpZ (k1 : Int) (k2 : Int)))] k undef) (by kernel_rfl) (by kernel_rfl) rfl (fun _ _ _ _ ⟨g, e, h1, h2⟩ f => ⟨g, e, f.cell' h1 (fun h => h), f.cell' h2 (fun h => h)⟩) (fun k _ => ⟨_, _, (Fr.refl nob WN).alloc (.cells #[.int .i64 (cmpZ y1 y2), .int .i64 (cmpZ (k1 : Int) (k2 : Int))] 3), ⟨_, rfl, (two_cells' WN _ _ _).1, (two_cells' WN _ _ _).2⟩, fun g hg => by cases hg; exact Nat.le_refl _⟩) ?_
  simp only [List.take_succ_cons, List.take_zero]
  refine G.step (Value.pointer (some ⟨w.heap.size + 1, 0, none⟩)) rfl rfl rfl ?a0t ?b0t
  case a0t =>
    intro w' hw' hh
    clear hw' hh
    refine G.upon_value ?_
    go_simp
    try rfl
  simp only [Act.put, List.setIfInBounds_toArray, List.set_cons_zero, List.set_cons_succ]
  refine G.step (Value.int .i64 y1) rfl rfl rfl ?a1t ?b1t
  case a1t =>
    intro w' hw' hh
    have y0 := hw'.cell' a0 (fun h => h)
    clear hw' hh
    refine G.upon_value ?_
    go_simp
    try rfl
  simp only [Act.put, List.setIfInBounds_toArray, List.set_cons_zero, List.set_cons_succ]
  refine G.step (Value.pointer (some ⟨w.heap.size + 1 + 1, 0, none⟩)) rfl rfl rfl ?a2t ?b2t
  case a2t =>
    intro w' hw' hh
    clear hw' hh
    refine G.upon_value ?_
    go_simp
    try rfl
  simp only [Act.put, List.setIfInBounds_toArray, List.set_cons_zero, List.set_cons_succ]
  refine G.step (Value.int .i64 y2) rfl rfl rfl ?a3t ?b3t
  case a3t =>
    intro w' hw' hh
    have y0 := hw'.cell' b0 (fun h => h)
    clear hw' hh
    refine G.upon_value ?_
    go_simp
    try rfl
  simp only [Act.put, List.setIfInBounds_toArray, List.set_cons_zero, List.set_cons_succ]
  refine G.step (Value.int .i64 (cmpZ y1 y2)) rfl rfl rfl ?a4t ?b4t
  case a4t =>
    intro w' hw' hh
    refine G.upon_call ?_ ((compareL_any y1 y2 w').mono fun e w'' ⟨he, hb⟩ => ⟨he, by subst hb; exact Fr.refl nob _⟩)
    clear hw' hh
    go_simp
  simp only [Act.put, List.setIfInBounds_toArray, List.set_cons_zero, List.set_cons_succ]
  refine G.step (Value.pointer (some ⟨w.heap.size + 1, 1, none⟩)) rfl rfl rfl ?a5t ?b5t
  case a5t =>
    intro w' hw' hh
    clear hw' hh
    refine G.upon_value ?_
    go_simp
    try rfl
  simp only [Act.put, List.setIfInBounds_toArray, List.set_cons_zero, List.set_cons_succ]
  refine G.step (Value.int .u32 (k1 : Int)) rfl rfl rfl ?a6t ?b6t
  case a6t =>
    intro w' hw' hh
    have y0 := hw'.cell' a1 (fun h => h)
    clear hw' hh
    refine G.upon_value ?_
    go_simp
    try rfl
  simp only [Act.put, List.setIfInBounds_toArray, List.set_cons_zero, List.set_cons_succ]
  refine G.step (Value.pointer (some ⟨w.heap.size + 1 + 1, 1, none⟩)) rfl rfl rfl ?a7t ?b7t
  case a7t =>
    intro w' hw' hh
    clear hw' hh
    refine G.upon_value ?_
    go_simp
    try rfl
  simp only [Act.put, List.setIfInBounds_toArray, List.set_cons_zero, List.set_cons_succ]
  refine G.step (Value.int .u32 (k2 : Int)) rfl rfl rfl ?a8t ?b8t
  case a8t =>
    intro w' hw' hh
    have y0 := hw'.cell' b1 (fun h => h)
    clear hw' hh
    refine G.upon_value ?_
    go_simp
    try rfl
  simp only [Act.put, List.setIfInBounds_toArray, List.set_cons_zero, List.set_cons_succ]
  refine G.step (Value.int .i64 (cmpZ (k1 : Int) (k2 : Int))) rfl rfl rfl ?a9t ?b9t
  case a9t =>
    intro w' hw' hh
    refine G.upon_call ?_ ((compareV_any (k1 : Int) (k2 : Int) w').mono fun e w'' ⟨he, hb⟩ => ⟨he, by subst hb; exact Fr.refl nob _⟩)
    clear hw' hh
    go_simp
  simp only [Act.put, List.setIfInBounds_toArray, List.set_cons_zero, List.set_cons_succ]
  refine G.new rfl rfl ?a10t ?b10t
  case a10t =>
    intro w' hw' hh
    clear hw' hh
    refine G.new_alloc (v := .slice (some ⟨w'.heap.size, 0, none⟩) 2 2) (b := .cells #[.int .i64 (cmpZ y1 y2), .int .i64 (cmpZ (k1 : Int) (k2 : Int))] 3) ?_ rfl ⟨_, rfl, (two_cells' w' _ _ _).1, (two_cells' w' _ _ _).2⟩
    go_simp
    try rfl
  rintro v10 ⟨wv, -, ⟨g10, rfl, -⟩, -⟩
  simp only [Act.put, List.setIfInBounds_toArray, List.set_cons_zero, List.set_cons_succ]
  refine G.step (Value.int .i64 (or2 (cmpZ y1 y2) (cmpZ (k1 : Int) (k2 : Int)))) rfl rfl rfl ?a11t ?b11t
  case a11t =>
    intro w' hw' hh
    have eb := hh 10 _ 50 _ (by decide) rfl (by kernel_rfl) rfl rfl (by decide) rfl
    obtain ⟨g, eb', h1, h2⟩ := eb
    obtain rfl : g10 = g := by simpa using eb'
    refine G.upon_call ?_ ((or2_any g10 2 _ _ w' h1 h2).mono fun e w'' ⟨he, hb⟩ => ⟨he, by subst hb; exact Fr.refl nob _⟩)
    clear hw' hh
    go_simp
  simp only [Act.put, List.setIfInBounds_toArray, List.set_cons_zero, List.set_cons_succ]
  refine G.nil ?_
  rintro w9 listed fr9 hall hmade
  clear hall hmade
  have E1 := D1.kept fr9 (fun h => h)
  have E2 := D2.kept fr9 (fun h => h)
  have E3 := D3.kept fr9 (fun h => h)
  have HF0 := Lib.hid (fr.trans fr9 (fun _ _ h => h))
  clear D1 D2 D3 fr fr9 pw a0 a1 b0 b1
  have a0 := E1.c0
  have a1 := E1.c1
  have b0 := E2.c0
  have b1 := E2.c1
  have r0 := E3.c0
  have r1 := E3.c1
  have rf0 := E3.fz 0
  have rf1 := E3.fz 1
  generalize hor : or2 (cmpZ y1 y2) (cmpZ (k1 : Int) (k2 : Int)) = o at *
  by_cases hif : y1 < y2 ∨ (y1 = y2 ∧ k1 < k2)
  · have hlt : o < 0 := HP.out.2 (hif.imp id (fun h => ⟨h.1, Int.ofNat_lt.2 h.2⟩))
    obtain ⟨⟨z0, z1, _⟩, hfr⟩ := E3.set (.int .i64 y1) (.int .u32 (k1 : Int))
    have HF := Lib.hid (HF0.out.trans hfr (fun j hj e => by exfalso; omega))
    have HIF := Lib.hid hif
    clear hif hor hfr E1 E2 E3 HP
    have Z0 := Lib.hid z0
    have Z1 := Lib.hid z1
    clear z0 z1
    go_wp2_with fail
    have z0 := Z0.out
    have z1 := Z1.out
    refine bodyPost_ret (v := .agg #[.int .i64 y1, .int .u32 (k1 : Int)]) (by simp [results, Tryz.results89, go_sem, z0, z1]) rfl ⟨?_, HF.out.to_below (Nat.le_refl _) (fun _ h => h.elim)⟩
    rw [HS1.out, HS2.out]
    unfold bet
    rw [HY1.out, HY2.out, if_pos HIF.out]
  · have hlt : ¬ o < 0 := fun h => hif ((HP.out.1 h).imp id (fun h => ⟨h.1, Int.ofNat_lt.1 h.2⟩))
    obtain ⟨⟨z0, z1, _⟩, hfr⟩ := E3.set (.int .i64 y2) (.int .u32 (k2 : Int))
    have HF := Lib.hid (HF0.out.trans hfr (fun j hj e => by exfalso; omega))
    have HIF := Lib.hid hif
    clear hif hor hfr E1 E2 E3 HP
    have Z0 := Lib.hid z0
    have Z1 := Lib.hid z1
    clear z0 z1
    go_wp2_with fail
    have z0 := Z0.out
    have z1 := Z1.out
    refine bodyPost_ret (v := .agg #[.int .i64 y2, .int .u32 (k2 : Int)]) (by simp [results, Tryz.results89, go_sem, z0, z1]) rfl ⟨?_, HF.out.to_below (Nat.le_refl _) (fun _ h => h.elim)⟩
    rw [HS1.out, HS2.out]
    unfold bet
    rw [HY1.out, HY2.out, if_neg HIF.out]
end Go.Proofs.YtiainlccodnlmaaGreatDoor
namespace Go.Proofs.YtiainlccodnlmaaGreatDoor
open Go.RowKit
open Bd

theorem ofr_bound {cw : Nat → Int} (hw : ∀ j, -2147483648 ≤ cw j ∧ cw j ≤ 2147483648) {us : Nat} (hus : us < 2 ^ 24) : ∀ {b : B} {n : Nat}, b.ok n → (0 ≤ (ofr cw us b).1 ∧ (ofr cw us b).1 ≤ 1099511627776 + ((24 - n : Nat) : Int) * 2147483648) ∧ (ofr cw us b).2 < 2 ^ 24
  | .F, n, _ => ⟨⟨by show (0 : Int) ≤ 1099511627776; decide, by show (1099511627776 : Int) ≤ _; omega⟩, by show 0 < 2 ^ 24; decide⟩
  | .T, n, _ => ⟨⟨Int.le_refl _, by show (0 : Int) ≤ _; omega⟩, hus⟩
  | .N i lo hi, n, h => by
    obtain ⟨h1, h2, _, h4, h5⟩ := h
    obtain ⟨⟨a1, a2⟩, a3⟩ := ofr_bound hw hus h4
    obtain ⟨⟨b1, b2⟩, b3⟩ := ofr_bound hw hus h5
    have hwi := hw i
    have e : ofr cw us (.N i lo hi) = if (ofr cw us lo).1 + max (- cw i) 0 < (ofr cw us hi).1 + max (cw i) 0 ∨ ((ofr cw us lo).1 + max (- cw i) 0 = (ofr cw us hi).1 + max (cw i) 0 ∧ stb (ofr cw us lo).2 i false < stb (ofr cw us hi).2 i true) then ((ofr cw us lo).1 + max (- cw i) 0, stb (ofr cw us lo).2 i false) else ((ofr cw us hi).1 + max (cw i) 0, stb (ofr cw us hi).2 i true) := rfl
    have m1 : 0 ≤ max (- cw i) 0 ∧ max (- cw i) 0 ≤ 2147483648 := by omega
    have m2 : 0 ≤ max (cw i) 0 ∧ max (cw i) 0 ≤ 2147483648 := by omega
    have k : (24 - (i + 1) : Nat) + 1 ≤ 24 - n := by omega
    have k' : ((24 - (i + 1) : Nat) : Int) + 1 ≤ ((24 - n : Nat) : Int) := by omega
    rw [e]
    split
    · exact ⟨⟨by simp only; omega, by simp only; omega⟩, stb_lt a3 h2 false⟩
    · exact ⟨⟨by simp only; omega, by simp only; omega⟩, stb_lt b3 h2 true⟩
/-- the usual configuration: what is cheaper with than without -/
def usN (cw : Nat → Int) : Nat → Nat
  | 0 => 0
  | k + 1 => if cw k < 0 then usN cw k ||| 2 ^ k else usN cw k
theorem usN_bit (cw : Nat → Int) (j : Nat) : ∀ k, (usN cw k).testBit j = decide (j < k ∧ cw j < 0)
  | 0 => by simp [usN]
  | k + 1 => by
    unfold usN
    by_cases h : cw k < 0
    · rw [if_pos h, Nat.testBit_or, usN_bit cw j k, Nat.testBit_two_pow, Bool.eq_iff_iff]
      simp only [Bool.or_eq_true, decide_eq_true_eq]
      constructor
      · rintro (⟨a, b⟩ | rfl)
        · exact ⟨by omega, b⟩
        · exact ⟨by omega, h⟩
      · rintro ⟨a, b⟩
        by_cases e : k = j
        · exact .inr e
        · exact .inl ⟨by omega, b⟩
    · rw [if_neg h, usN_bit cw j k, Bool.eq_iff_iff]
      simp only [decide_eq_true_eq]
      constructor
      · rintro ⟨a, b⟩; exact ⟨by omega, b⟩
      · rintro ⟨a, b⟩
        refine ⟨?_, b⟩
        by_cases e : j = k
        · subst e; exact absurd b h
        · omega
theorem usN_lt (cw : Nat → Int) {k : Nat} (hk : k ≤ 24) : usN cw k < 2 ^ 24 := Nat.lt_pow_two_of_testBit _ fun i hi => by
  rw [usN_bit]; simp; omega

theorem off_join (A : B) (hA : A.ok 0) (cw : Nat → Int) (hcw : ∀ j, -2147483648 ≤ cw j ∧ cw j ≤ 2147483648) {us : Nat} (hus : us < 2 ^ 24) : FoldPO A (fun b => ((ofr cw us b).1, ((ofr cw us b).2 : Int))) (fun ft _ _ => ft = nob) (pv cw) := by
  refine ⟨?_, ?_, ?_⟩
  · intro ft R w w' S h _ _; exact h
  · rintro ft R w rfl k hk; exact hk.elim
  · rintro ft R i lo hi w rfl hs
    have hok := (small_suffix hs (small_li hA)).2 (.N i lo hi) List.mem_cons_self
    obtain ⟨_, h2, _, h4, h5⟩ := id hok
    obtain ⟨⟨a1, a2⟩, a3⟩ := ofr_bound hcw hus h4
    obtain ⟨⟨b1, b2⟩, b3⟩ := ofr_bound hcw hus h5
    refine (better_any cw i h2 (hcw i) _ _ ⟨a1, by omega⟩ ⟨b1, by omega⟩ _ _ a3 b3 w).mono ?_
    rintro e w' ⟨rfl, hB⟩
    exact ⟨nob, rfl, rfl, (Fr.refl nob w).below hB, fun _ h => .inl h⟩
theorem run_w (cw : Nat → Int) {k : Nat} (hk : k < 24) (W : World) : (Instr.index 75 (wv cw) (ik k)).run Tryz.prog W = .ok (.int .i64 (cw k)) W := by
  match k, hk with
  | 0, _ => exact (show (Instr.index 75 (wv cw) (ik 0)).run Tryz.prog W = .ok (.int .i64 (cw 0)) W by kernel_rfl)
  | 1, _ => exact (show (Instr.index 75 (wv cw) (ik 1)).run Tryz.prog W = .ok (.int .i64 (cw 1)) W by kernel_rfl)
  | 2, _ => exact (show (Instr.index 75 (wv cw) (ik 2)).run Tryz.prog W = .ok (.int .i64 (cw 2)) W by kernel_rfl)
  | 3, _ => exact (show (Instr.index 75 (wv cw) (ik 3)).run Tryz.prog W = .ok (.int .i64 (cw 3)) W by kernel_rfl)
  | 4, _ => exact (show (Instr.index 75 (wv cw) (ik 4)).run Tryz.prog W = .ok (.int .i64 (cw 4)) W by kernel_rfl)
  | 5, _ => exact (show (Instr.index 75 (wv cw) (ik 5)).run Tryz.prog W = .ok (.int .i64 (cw 5)) W by kernel_rfl)
  | 6, _ => exact (show (Instr.index 75 (wv cw) (ik 6)).run Tryz.prog W = .ok (.int .i64 (cw 6)) W by kernel_rfl)
  | 7, _ => exact (show (Instr.index 75 (wv cw) (ik 7)).run Tryz.prog W = .ok (.int .i64 (cw 7)) W by kernel_rfl)
  | 8, _ => exact (show (Instr.index 75 (wv cw) (ik 8)).run Tryz.prog W = .ok (.int .i64 (cw 8)) W by kernel_rfl)
  | 9, _ => exact (show (Instr.index 75 (wv cw) (ik 9)).run Tryz.prog W = .ok (.int .i64 (cw 9)) W by kernel_rfl)
  | 10, _ => exact (show (Instr.index 75 (wv cw) (ik 10)).run Tryz.prog W = .ok (.int .i64 (cw 10)) W by kernel_rfl)
  | 11, _ => exact (show (Instr.index 75 (wv cw) (ik 11)).run Tryz.prog W = .ok (.int .i64 (cw 11)) W by kernel_rfl)
  | 12, _ => exact (show (Instr.index 75 (wv cw) (ik 12)).run Tryz.prog W = .ok (.int .i64 (cw 12)) W by kernel_rfl)
  | 13, _ => exact (show (Instr.index 75 (wv cw) (ik 13)).run Tryz.prog W = .ok (.int .i64 (cw 13)) W by kernel_rfl)
  | 14, _ => exact (show (Instr.index 75 (wv cw) (ik 14)).run Tryz.prog W = .ok (.int .i64 (cw 14)) W by kernel_rfl)
  | 15, _ => exact (show (Instr.index 75 (wv cw) (ik 15)).run Tryz.prog W = .ok (.int .i64 (cw 15)) W by kernel_rfl)
  | 16, _ => exact (show (Instr.index 75 (wv cw) (ik 16)).run Tryz.prog W = .ok (.int .i64 (cw 16)) W by kernel_rfl)
  | 17, _ => exact (show (Instr.index 75 (wv cw) (ik 17)).run Tryz.prog W = .ok (.int .i64 (cw 17)) W by kernel_rfl)
  | 18, _ => exact (show (Instr.index 75 (wv cw) (ik 18)).run Tryz.prog W = .ok (.int .i64 (cw 18)) W by kernel_rfl)
  | 19, _ => exact (show (Instr.index 75 (wv cw) (ik 19)).run Tryz.prog W = .ok (.int .i64 (cw 19)) W by kernel_rfl)
  | 20, _ => exact (show (Instr.index 75 (wv cw) (ik 20)).run Tryz.prog W = .ok (.int .i64 (cw 20)) W by kernel_rfl)
  | 21, _ => exact (show (Instr.index 75 (wv cw) (ik 21)).run Tryz.prog W = .ok (.int .i64 (cw 21)) W by kernel_rfl)
  | 22, _ => exact (show (Instr.index 75 (wv cw) (ik 22)).run Tryz.prog W = .ok (.int .i64 (cw 22)) W by kernel_rfl)
  | 23, _ => exact (show (Instr.index 75 (wv cw) (ik 23)).run Tryz.prog W = .ok (.int .i64 (cw 23)) W by kernel_rfl)
  | k + 24, h => omega
theorem run_offer_c (a b : Value) (w : World) : (Instr.field 126 (.agg #[a, b]) 1).run Tryz.prog w = .ok b w := by kernel_rfl
theorem wpList_val {P : Program} {ops : Array Oper} {rest : List Oper} {o : Oper} {a : Act} {w w' : World} {Q : Exit → Act → World → Prop} {v : Value} (hg : o.guard = none) (h : (execOp a.eval o).run P w = .ok (.value v) w') (k : wpList P ops Q rest (a.put o.dst v) w') : wpList P ops Q (o :: rest) a w := by
  refine wpList_plain hg fun K hK => ?_
  unfold Oper.wp
  rw [h]
  exact hK _ _ k
/-- what best picks -/
def bstN (cw : Nat → Int) (A : B) : Nat := if A = .F then 0 else (ofr cw (usN cw 24) A).2

set_option maxRecDepth 100000 in
set_option maxHeartbeats 4000000 in
theorem bst_any (A : B) (hA : A.ok 0) (cw : Nat → Int) (hcw : ∀ j, -2147483648 ≤ cw j ∧ cw j ≤ 2147483648) (w : World) : Calls Tryz.prog 38 #[dval A, wv cw] w fun e w' => e = .returned (.tuple #[.int .u32 (bstN cw A : Int), .bool (!decide (A = .F))]) ∧ Below w.heap.size w w' := by
  have hus := usN_lt cw (k := 24) (Nat.le_refl _)
  have hF := fun W => (show Calls Tryz.prog 88 #[dval A, .agg #[.int .i64 1099511627776, .int .u32 0], .agg #[.int .i64 0, .int .u32 (usN cw 24 : Int)], .func (.func 89) #[pv cw] #[]] W fun e w' => e = .returned (.agg #[.int .i64 (ofr cw (usN cw 24) A).1, .int .u32 ((ofr cw (usN cw 24) A).2 : Int)]) ∧ Fr nob W w' from
    (foldO_any A hA (fun b => ((ofr cw (usN cw 24) b).1, ((ofr cw (usN cw 24) b).2 : Int))) (fun ft _ _ => ft = nob) (pv cw) (off_join A hA cw hcw hus) (1099511627776, 0) (0, (usN cw 24 : Int)) rfl rfl nob W rfl).mono (by
      rintro e w' ⟨ft', rfl, -, fr, -⟩
      exact ⟨rfl, fr⟩))
  have hE := Empty_any A
  have HV := Lib.hid (show bstN cw A = if A = .F then 0 else (ofr cw (usN cw 24) A).2 from rfl)
  have D0 := (Box2.new w (.int .u32 (place (li A) A : Int)) (.string ⟨(code (rows (li A))).toArray⟩) 32).kept ((Fr.refl nob _).alloc (.cells #[.int .i64 (cw 0), .int .i64 (cw 1), .int .i64 (cw 2), .int .i64 (cw 3), .int .i64 (cw 4), .int .i64 (cw 5), .int .i64 (cw 6), .int .i64 (cw 7), .int .i64 (cw 8), .int .i64 (cw 9), .int .i64 (cw 10), .int .i64 (cw 11), .int .i64 (cw 12), .int .i64 (cw 13), .int .i64 (cw 14), .int .i64 (cw 15), .int .i64 (cw 16), .int .i64 (cw 17), .int .i64 (cw 18), .int .i64 (cw 19), .int .i64 (cw 20), .int .i64 (cw 21), .int .i64 (cw 22), .int .i64 (cw 23)] 75)) (fun h => h)
  have box := heap_alloc_new (w.alloc (.cells #[.int .u32 (place (li A) A : Int), .string ⟨(code (rows (li A))).toArray⟩] 32)) (.cells #[.int .i64 (cw 0), .int .i64 (cw 1), .int .i64 (cw 2), .int .i64 (cw 3), .int .i64 (cw 4), .int .i64 (cw 5), .int .i64 (cw 6), .int .i64 (cw 7), .int .i64 (cw 8), .int .i64 (cw 9), .int .i64 (cw 10), .int .i64 (cw 11), .int .i64 (cw 12), .int .i64 (cw 13), .int .i64 (cw 14), .int .i64 (cw 15), .int .i64 (cw 16), .int .i64 (cw 17), .int .i64 (cw 18), .int .i64 (cw 19), .int .i64 (cw 20), .int .i64 (cw 21), .int .i64 (cw 22), .int .i64 (cw 23)] 75)
  simp only [World.size_alloc] at box
  have fr : Fr nob w ((w.alloc (.cells #[.int .u32 (place (li A) A : Int), .string ⟨(code (rows (li A))).toArray⟩] 32)).alloc (.cells #[.int .i64 (cw 0), .int .i64 (cw 1), .int .i64 (cw 2), .int .i64 (cw 3), .int .i64 (cw 4), .int .i64 (cw 5), .int .i64 (cw 6), .int .i64 (cw 7), .int .i64 (cw 8), .int .i64 (cw 9), .int .i64 (cw 10), .int .i64 (cw 11), .int .i64 (cw 12), .int .i64 (cw 13), .int .i64 (cw 14), .int .i64 (cw 15), .int .i64 (cw 16), .int .i64 (cw 17), .int .i64 (cw 18), .int .i64 (cw 19), .int .i64 (cw 20), .int .i64 (cw 21), .int .i64 (cw 22), .int .i64 (cw 23)] 75)) := ((Fr.refl nob w).alloc _).alloc _
  go_enter Tryz.func38, Tryz.ntmps38
  go_upto_region 1 with fail
  generalize (w.alloc (.cells #[.int .u32 (place (li A) A : Int), .string ⟨(code (rows (li A))).toArray⟩] 32)).alloc (.cells #[.int .i64 (cw 0), .int .i64 (cw 1), .int .i64 (cw 2), .int .i64 (cw 3), .int .i64 (cw 4), .int .i64 (cw 5), .int .i64 (cw 6), .int .i64 (cw 7), .int .i64 (cw 8), .int .i64 (cw 9), .int .i64 (cw 10), .int .i64 (cw 11), .int .i64 (cw 12), .int .i64 (cw 13), .int .i64 (cw 14), .int .i64 (cw 15), .int .i64 (cw 16), .int .i64 (cw 17), .int .i64 (cw 18), .int .i64 (cw 19), .int .i64 (cw 20), .int .i64 (cw 21), .int .i64 (cw 22), .int .i64 (cw 23)] 75) = W0 at *
  have a0 := D0.c0
  have a1 := D0.c1
  go_wp2_with fail
  refine (hE _).mono ?_
  rintro e w1 ⟨rfl, hb⟩
  have g1 := (Fr.refl nob W0).below hb
  replace D0 := D0.kept g1 (fun h => h)
  replace box := (g1.block (w.heap.size + 1) (Array.getElem?_eq_some_iff.1 box).1 (fun h => h)).trans box
  replace fr := fr.trans g1 (fun _ _ h => h)
  clear hb hE g1 a0 a1
  have a0 := D0.c0
  have a1 := D0.c1
  by_cases hA0 : A = .F
  · have hd : decide (A = .F) = true := by simp [hA0]
    rw [hd]
    have HD := Lib.hid hd
    have H0 := Lib.hid (show bstN cw A = 0 by rw [HV.out, if_pos hA0])
    clear hF hA0 hd
    go_wp2_with fail
    go_ret2
    exact ⟨by rw [H0.out, HD.out]; rfl, fr.to_below (Nat.le_refl _) (fun _ h => h.elim)⟩
  · have hd : decide (A = .F) = false := by simp [hA0]
    rw [hd]
    have HD := Lib.hid hd
    have HN := Lib.hid (show bstN cw A = (ofr cw (usN cw 24) A).2 by rw [HV.out, if_neg hA0])
    clear HV hd hA0
    have hra : w1.rangeAt (w.heap.size + 1) 0 [.int .i64 (cw 0), .int .i64 (cw 1), .int .i64 (cw 2), .int .i64 (cw 3), .int .i64 (cw 4), .int .i64 (cw 5), .int .i64 (cw 6), .int .i64 (cw 7), .int .i64 (cw 8), .int .i64 (cw 9), .int .i64 (cw 10), .int .i64 (cw 11), .int .i64 (cw 12), .int .i64 (cw 13), .int .i64 (cw 14), .int .i64 (cw 15), .int .i64 (cw 16), .int .i64 (cw 17), .int .i64 (cw 18), .int .i64 (cw 19), .int .i64 (cw 20), .int .i64 (cw 21), .int .i64 (cw 22), .int .i64 (cw 23)] := fun j v hv => by
      rw [Nat.zero_add, cell_of_row _ (w.heap.size + 1) j _ _ (0, 0) box]; simpa using hv
    have HI := Lib.hid (show (Tryz.prog.info? 75).map (·.size) = some ([.int .i64 (cw 0), .int .i64 (cw 1), .int .i64 (cw 2), .int .i64 (cw 3), .int .i64 (cw 4), .int .i64 (cw 5), .int .i64 (cw 6), .int .i64 (cw 7), .int .i64 (cw 8), .int .i64 (cw 9), .int .i64 (cw 10), .int .i64 (cw 11), .int .i64 (cw 12), .int .i64 (cw 13), .int .i64 (cw 14), .int .i64 (cw 15), .int .i64 (cw 16), .int .i64 (cw 17), .int .i64 (cw 18), .int .i64 (cw 19), .int .i64 (cw 20), .int .i64 (cw 21), .int .i64 (cw 22), .int .i64 (cw 23)] : List Value).length from info_w)
    go_upto_region 4 with fail
    refine wp_region_lit ?_
    refine wpList_load_mid rfl 75 (.tmp 3) rfl (w.heap.size + 1) 0 rfl [.int .i64 (cw 0), .int .i64 (cw 1), .int .i64 (cw 2), .int .i64 (cw 3), .int .i64 (cw 4), .int .i64 (cw 5), .int .i64 (cw 6), .int .i64 (cw 7), .int .i64 (cw 8), .int .i64 (cw 9), .int .i64 (cw 10), .int .i64 (cw 11), .int .i64 (cw 12), .int .i64 (cw 13), .int .i64 (cw 14), .int .i64 (cw 15), .int .i64 (cw 16), .int .i64 (cw 17), .int .i64 (cw 18), .int .i64 (cw 19), .int .i64 (cw 20), .int .i64 (cw 21), .int .i64 (cw 22), .int .i64 (cw 23)] _ hra under_w rfl HI.out ?_
    go_wp2_with fail
    have HBX := Lib.hid box
    have HD0 := Lib.hid D0
    have HFR := Lib.hid fr
    have HCW := Lib.hid hcw
    have HRA := Lib.hid hra
    clear box D0 fr hra a0 a1 hcw
    go_loop [6, 13] (fun uv kv => ∃ k : Nat, k ≤ 24 ∧ kv = ik k ∧ uv = .int .u32 (usN cw k : Int)) (fun _ kv => 24 - (intOf kv).toNat)
    case atStart => exact ⟨0, Nat.zero_le _, rfl, rfl⟩
    case round =>
      obtain ⟨k, hk, rfl, rfl⟩ := hrel
      by_cases hlt : k < 24
      · have hk1 : (k : Int) < 24 := by omega
        have hat := run_w cw hlt w1
        have HU := Lib.hid (show usN cw (k + 1) = if cw k < 0 then usN cw k ||| 2 ^ k else usN cw k from rfl)
        have hul := usN_lt cw hk
        by_cases hn : cw k < 0
        · have ho := or_u32 (usN cw k) k hul hlt
          rw [Nat.one_shiftLeft] at ho
          go_wp2_with fail
          refine ⟨⟨k + 1, by omega, by go_num, ?_⟩, by simp [intOf]; omega⟩
          rw [HU.out, if_pos hn, ← ho]
        · go_wp2_with fail
          refine ⟨⟨k + 1, by omega, by go_num, ?_⟩, by simp [intOf]; omega⟩
          rw [HU.out, if_neg hn]
      · obtain rfl : k = 24 := by omega
        have HIP := Lib.hid (show (Tryz.prog.info? 124).map (·.size) = some ([.int .i64 (cw 0), .int .i64 (cw 1), .int .i64 (cw 2), .int .i64 (cw 3), .int .i64 (cw 4), .int .i64 (cw 5), .int .i64 (cw 6), .int .i64 (cw 7), .int .i64 (cw 8), .int .i64 (cw 9), .int .i64 (cw 10), .int .i64 (cw 11), .int .i64 (cw 12), .int .i64 (cw 13), .int .i64 (cw 14), .int .i64 (cw 15), .int .i64 (cw 16), .int .i64 (cw 17), .int .i64 (cw 18), .int .i64 (cw 19), .int .i64 (cw 20), .int .i64 (cw 21), .int .i64 (cw 22), .int .i64 (cw 23)] : List Value).length by kernel_rfl)
        have HIQ := Lib.hid (show (Tryz.prog.info? 124).map (·.size) = some (#[.int .i64 (cw 0), .int .i64 (cw 1), .int .i64 (cw 2), .int .i64 (cw 3), .int .i64 (cw 4), .int .i64 (cw 5), .int .i64 (cw 6), .int .i64 (cw 7), .int .i64 (cw 8), .int .i64 (cw 9), .int .i64 (cw 10), .int .i64 (cw 11), .int .i64 (cw 12), .int .i64 (cw 13), .int .i64 (cw 14), .int .i64 (cw 15), .int .i64 (cw 16), .int .i64 (cw 17), .int .i64 (cw 18), .int .i64 (cw 19), .int .i64 (cw 20), .int .i64 (cw 21), .int .i64 (cw 22), .int .i64 (cw 23)] : Array Value).size by kernel_rfl)
        have HTH := Lib.hid (show (w1.alloc (.cells #[.int .i64 0, .int .i64 0, .int .i64 0, .int .i64 0, .int .i64 0, .int .i64 0, .int .i64 0, .int .i64 0, .int .i64 0, .int .i64 0, .int .i64 0, .int .i64 0, .int .i64 0, .int .i64 0, .int .i64 0, .int .i64 0, .int .i64 0, .int .i64 0, .int .i64 0, .int .i64 0, .int .i64 0, .int .i64 0, .int .i64 0, .int .i64 0] 124)).there w1.heap.size 0 (#[.int .i64 (cw 0), .int .i64 (cw 1), .int .i64 (cw 2), .int .i64 (cw 3), .int .i64 (cw 4), .int .i64 (cw 5), .int .i64 (cw 6), .int .i64 (cw 7), .int .i64 (cw 8), .int .i64 (cw 9), .int .i64 (cw 10), .int .i64 (cw 11), .int .i64 (cw 12), .int .i64 (cw 13), .int .i64 (cw 14), .int .i64 (cw 15), .int .i64 (cw 16), .int .i64 (cw 17), .int .i64 (cw 18), .int .i64 (cw 19), .int .i64 (cw 20), .int .i64 (cw 21), .int .i64 (cw 22), .int .i64 (cw 23)] : Array Value).size from there_new w1 #[.int .i64 0, .int .i64 0, .int .i64 0, .int .i64 0, .int .i64 0, .int .i64 0, .int .i64 0, .int .i64 0, .int .i64 0, .int .i64 0, .int .i64 0, .int .i64 0, .int .i64 0, .int .i64 0, .int .i64 0, .int .i64 0, .int .i64 0, .int .i64 0, .int .i64 0, .int .i64 0, .int .i64 0, .int .i64 0, .int .i64 0, .int .i64 0] 124)
        go_upto_region 10 with fail
        refine wp_region_lit ?_
        refine wpList_load_mid rfl 75 (.tmp 3) rfl (w.heap.size + 1) 0 rfl [.int .i64 (cw 0), .int .i64 (cw 1), .int .i64 (cw 2), .int .i64 (cw 3), .int .i64 (cw 4), .int .i64 (cw 5), .int .i64 (cw 6), .int .i64 (cw 7), .int .i64 (cw 8), .int .i64 (cw 9), .int .i64 (cw 10), .int .i64 (cw 11), .int .i64 (cw 12), .int .i64 (cw 13), .int .i64 (cw 14), .int .i64 (cw 15), .int .i64 (cw 16), .int .i64 (cw 17), .int .i64 (cw 18), .int .i64 (cw 19), .int .i64 (cw 20), .int .i64 (cw 21), .int .i64 (cw 22), .int .i64 (cw 23)] _ HRA.out under_w rfl HI.out ?_
        simp only [Act.put, List.setIfInBounds_toArray, List.set_cons_zero, List.set_cons_succ]
        refine wpList_val (v := .agg #[.int .i64 (cw 0), .int .i64 (cw 1), .int .i64 (cw 2), .int .i64 (cw 3), .int .i64 (cw 4), .int .i64 (cw 5), .int .i64 (cw 6), .int .i64 (cw 7), .int .i64 (cw 8), .int .i64 (cw 9), .int .i64 (cw 10), .int .i64 (cw 11), .int .i64 (cw 12), .int .i64 (cw 13), .int .i64 (cw 14), .int .i64 (cw 15), .int .i64 (cw 16), .int .i64 (cw 17), .int .i64 (cw 18), .int .i64 (cw 19), .int .i64 (cw 20), .int .i64 (cw 21), .int .i64 (cw 22), .int .i64 (cw 23)]) (w' := w1) rfl ?vb ?_
        case vb =>
          go_simp
          try rfl
        simp only [Act.put, List.setIfInBounds_toArray, List.set_cons_zero, List.set_cons_succ]
        refine wpList_val (v := .pointer (some ⟨w1.heap.size, 0, none⟩)) (w' := w1.alloc (.cells #[.int .i64 0, .int .i64 0, .int .i64 0, .int .i64 0, .int .i64 0, .int .i64 0, .int .i64 0, .int .i64 0, .int .i64 0, .int .i64 0, .int .i64 0, .int .i64 0, .int .i64 0, .int .i64 0, .int .i64 0, .int .i64 0, .int .i64 0, .int .i64 0, .int .i64 0, .int .i64 0, .int .i64 0, .int .i64 0, .int .i64 0, .int .i64 0] 124)) rfl ?va ?_
        case va =>
          go_simp
          try rfl
        simp only [Act.put, List.setIfInBounds_toArray, List.set_cons_zero, List.set_cons_succ]
        refine wpList_store_mid rfl 124 (.tmp 9) (.tmp 25) rfl w1.heap.size 0 #[.int .i64 (cw 0), .int .i64 (cw 1), .int .i64 (cw 2), .int .i64 (cw 3), .int .i64 (cw 4), .int .i64 (cw 5), .int .i64 (cw 6), .int .i64 (cw 7), .int .i64 (cw 8), .int .i64 (cw 9), .int .i64 (cw 10), .int .i64 (cw 11), .int .i64 (cw 12), .int .i64 (cw 13), .int .i64 (cw 14), .int .i64 (cw 15), .int .i64 (cw 16), .int .i64 (cw 17), .int .i64 (cw 18), .int .i64 (cw 19), .int .i64 (cw 20), .int .i64 (cw 21), .int .i64 (cw 22), .int .i64 (cw 23)] rfl rfl HTH.out HIQ.out (by simp [Value.oneCell']) ?_
        have fp : Fr nob w1 ((w1.alloc (.cells #[.int .i64 0, .int .i64 0, .int .i64 0, .int .i64 0, .int .i64 0, .int .i64 0, .int .i64 0, .int .i64 0, .int .i64 0, .int .i64 0, .int .i64 0, .int .i64 0, .int .i64 0, .int .i64 0, .int .i64 0, .int .i64 0, .int .i64 0, .int .i64 0, .int .i64 0, .int .i64 0, .int .i64 0, .int .i64 0, .int .i64 0, .int .i64 0] 124)).setCells w1.heap.size 0 [.int .i64 (cw 0), .int .i64 (cw 1), .int .i64 (cw 2), .int .i64 (cw 3), .int .i64 (cw 4), .int .i64 (cw 5), .int .i64 (cw 6), .int .i64 (cw 7), .int .i64 (cw 8), .int .i64 (cw 9), .int .i64 (cw 10), .int .i64 (cw 11), .int .i64 (cw 12), .int .i64 (cw 13), .int .i64 (cw 14), .int .i64 (cw 15), .int .i64 (cw 16), .int .i64 (cw 17), .int .i64 (cw 18), .int .i64 (cw 19), .int .i64 (cw 20), .int .i64 (cw 21), .int .i64 (cw 22), .int .i64 (cw 23)]) := ((Fr.refl nob w1).alloc _).trans (fr_setCells w1.heap.size [.int .i64 (cw 0), .int .i64 (cw 1), .int .i64 (cw 2), .int .i64 (cw 3), .int .i64 (cw 4), .int .i64 (cw 5), .int .i64 (cw 6), .int .i64 (cw 7), .int .i64 (cw 8), .int .i64 (cw 9), .int .i64 (cw 10), .int .i64 (cw 11), .int .i64 (cw 12), .int .i64 (cw 13), .int .i64 (cw 14), .int .i64 (cw 15), .int .i64 (cw 16), .int .i64 (cw 17), .int .i64 (cw 18), .int .i64 (cw 19), .int .i64 (cw 20), .int .i64 (cw 21), .int .i64 (cw 22), .int .i64 (cw 23)] 0 _) (fun j hj e => by exfalso; omega)
        have E0 := HD0.out.kept fp (fun h => h)
        have frp := HFR.out.trans fp (fun _ _ h => h)
        have DP := Lib.hid (World.rangeAt_setCells_same (w1.alloc (.cells #[.int .i64 0, .int .i64 0, .int .i64 0, .int .i64 0, .int .i64 0, .int .i64 0, .int .i64 0, .int .i64 0, .int .i64 0, .int .i64 0, .int .i64 0, .int .i64 0, .int .i64 0, .int .i64 0, .int .i64 0, .int .i64 0, .int .i64 0, .int .i64 0, .int .i64 0, .int .i64 0, .int .i64 0, .int .i64 0, .int .i64 0, .int .i64 0] 124)) w1.heap.size 0 [.int .i64 (cw 0), .int .i64 (cw 1), .int .i64 (cw 2), .int .i64 (cw 3), .int .i64 (cw 4), .int .i64 (cw 5), .int .i64 (cw 6), .int .i64 (cw 7), .int .i64 (cw 8), .int .i64 (cw 9), .int .i64 (cw 10), .int .i64 (cw 11), .int .i64 (cw 12), .int .i64 (cw 13), .int .i64 (cw 14), .int .i64 (cw 15), .int .i64 (cw 16), .int .i64 (cw 17), .int .i64 (cw 18), .int .i64 (cw 19), .int .i64 (cw 20), .int .i64 (cw 21), .int .i64 (cw 22), .int .i64 (cw 23)] HTH.out)
        simp only [Act.put]
        generalize (w1.alloc (.cells #[.int .i64 0, .int .i64 0, .int .i64 0, .int .i64 0, .int .i64 0, .int .i64 0, .int .i64 0, .int .i64 0, .int .i64 0, .int .i64 0, .int .i64 0, .int .i64 0, .int .i64 0, .int .i64 0, .int .i64 0, .int .i64 0, .int .i64 0, .int .i64 0, .int .i64 0, .int .i64 0, .int .i64 0, .int .i64 0, .int .i64 0, .int .i64 0] 124)).setCells w1.heap.size 0 [.int .i64 (cw 0), .int .i64 (cw 1), .int .i64 (cw 2), .int .i64 (cw 3), .int .i64 (cw 4), .int .i64 (cw 5), .int .i64 (cw 6), .int .i64 (cw 7), .int .i64 (cw 8), .int .i64 (cw 9), .int .i64 (cw 10), .int .i64 (cw 11), .int .i64 (cw 12), .int .i64 (cw 13), .int .i64 (cw 14), .int .i64 (cw 15), .int .i64 (cw 16), .int .i64 (cw 17), .int .i64 (cw 18), .int .i64 (cw 19), .int .i64 (cw 20), .int .i64 (cw 21), .int .i64 (cw 22), .int .i64 (cw 23)] = W2 at *
        go_upto_region 11 with fail
        have HRB := Lib.hid DP.out
        have a0 := E0.c0
        have a1 := E0.c1
        have hmf : ∀ (fn : Fn) (first cap : Array Value) (w : World), (Instr.makeFunc fn first cap).run Tryz.prog w = .ok (.func fn first cap) w := fun _ _ _ _ => rfl
        clear DP fp E0 HD0 HFR HRA HBX HCW hus HTH HIQ
        go_wp2_with (refine wpList_load_mid rfl 124 (.tmp 9) rfl w1.heap.size 0 rfl [.int .i64 (cw 0), .int .i64 (cw 1), .int .i64 (cw 2), .int .i64 (cw 3), .int .i64 (cw 4), .int .i64 (cw 5), .int .i64 (cw 6), .int .i64 (cw 7), .int .i64 (cw 8), .int .i64 (cw 9), .int .i64 (cw 10), .int .i64 (cw 11), .int .i64 (cw 12), .int .i64 (cw 13), .int .i64 (cw 14), .int .i64 (cw 15), .int .i64 (cw 16), .int .i64 (cw 17), .int .i64 (cw 18), .int .i64 (cw 19), .int .i64 (cw 20), .int .i64 (cw 21), .int .i64 (cw 22), .int .i64 (cw 23)] _ HRB.out Tryz.underlying124 rfl HIP.out ?_)
        refine (hF _).mono ?_
        rintro e w3 ⟨rfl, f3⟩
        have HF3 := Lib.hid (frp.trans f3 (fun _ _ h => h))
        have H0 := Lib.hid (show bstN cw A = (ofr cw (usN cw 24) A).2 from HN.out)
        clear hF a0 a1 f3 frp
        have hfd := run_offer_c (.int .i64 (ofr cw (usN cw 24) A).1) (.int .u32 ((ofr cw (usN cw 24) A).2 : Int))
        go_wp2_with fail
        refine bodyPost_ret (v := .tuple #[.int .u32 ((ofr cw (usN cw 24) A).2 : Int), .bool true]) (by simp [results, Tryz.results38, go_sem]) rfl ⟨by rw [H0.out, HD.out]; rfl, HF3.out.to_below (Nat.le_refl _) (fun _ h => h.elim)⟩
end Go.Proofs.YtiainlccodnlmaaGreatDoor
namespace Go.Proofs.YtiainlccodnlmaaGreatDoor
open Go.RowKit
open Bd

set_option maxRecDepth 100000 in
set_option maxHeartbeats 1000000 in
theorem Least_any (A : B) (hA : A.ok 0) (w : World) : Calls Tryz.prog 9 #[dval A] w fun e w' => e = .returned (.tuple #[.int .u32 (bstN (fun _ => 0) A : Int), .bool (!decide (A = .F))]) ∧ Below w.heap.size w w' := by
  have hB := fun W => (show Calls Tryz.prog 38 #[dval A, .agg #[.int .i64 0, .int .i64 0, .int .i64 0, .int .i64 0, .int .i64 0, .int .i64 0, .int .i64 0, .int .i64 0, .int .i64 0, .int .i64 0, .int .i64 0, .int .i64 0, .int .i64 0, .int .i64 0, .int .i64 0, .int .i64 0, .int .i64 0, .int .i64 0, .int .i64 0, .int .i64 0, .int .i64 0, .int .i64 0, .int .i64 0, .int .i64 0]] W fun e w' => e = .returned (.tuple #[.int .u32 (bstN (fun _ => 0) A : Int), .bool (!decide (A = .F))]) ∧ Below W.heap.size W w' from bst_any A hA (fun _ => 0) (fun _ => by omega) W)
  have D0 := Box2.new w (.int .u32 (place (li A) A : Int)) (.string ⟨(code (rows (li A))).toArray⟩) 32
  have fr : Fr nob w (w.alloc (.cells #[.int .u32 (place (li A) A : Int), .string ⟨(code (rows (li A))).toArray⟩] 32)) := (Fr.refl nob w).alloc _
  have a0 := D0.c0
  have a1 := D0.c1
  generalize bstN (fun _ => 0) A = r at *
  generalize (!decide (A = .F)) = b at *
  clear D0
  go_enter Tryz.func9, Tryz.ntmps9
  go_wp2_with fail
  generalize w.alloc (.cells #[.int .u32 (place (li A) A : Int), .string ⟨(code (rows (li A))).toArray⟩] 32) = W at *
  refine (hB W).mono ?_
  rintro e w1 ⟨rfl, hb⟩
  have HB := Lib.hid (fr.below hb)
  clear hB hb a0 a1 fr
  go_wp2_with fail
  go_ret2
  exact ⟨rfl, HB.out.to_below (Nat.le_refl _) (fun _ h => h.elim)⟩

theorem cells_putW {w : World} {g : Nat} {c : Array Value} {T : TypeId} (h : w.heap[g]? = some (.cells c T (0, 0))) (o : Nat) (x : Value) : (w.setCell ⟨g, o, none⟩ x).heap[g]? = some (.cells (c.setIfInBounds o x) T (0, 0)) := by
  obtain ⟨hlt, hk⟩ := Array.getElem?_eq_some_iff.1 h
  show (w.heap.modify g _)[g]? = _
  rw [Array.getElem?_eq_getElem (by rw [Array.size_modify]; exact hlt), Array.getElem_modify_self, hk]
  rfl
/-- ones up to k -/
def oneA : Nat → Array Value
  | k => ((List.range 24).map fun j => (Value.int .i64 (if j < k then 1 else 0))).toArray
theorem oneA_set {k : Nat} (hk : k < 24) : (oneA k).setIfInBounds k (.int .i64 1) = oneA (k + 1) := by
  match k, hk with
  | 0, _ => rfl
  | 1, _ => rfl
  | 2, _ => rfl
  | 3, _ => rfl
  | 4, _ => rfl
  | 5, _ => rfl
  | 6, _ => rfl
  | 7, _ => rfl
  | 8, _ => rfl
  | 9, _ => rfl
  | 10, _ => rfl
  | 11, _ => rfl
  | 12, _ => rfl
  | 13, _ => rfl
  | 14, _ => rfl
  | 15, _ => rfl
  | 16, _ => rfl
  | 17, _ => rfl
  | 18, _ => rfl
  | 19, _ => rfl
  | 20, _ => rfl
  | 21, _ => rfl
  | 22, _ => rfl
  | 23, _ => rfl
  | k + 24, h => omega
theorem oneA_0 : oneA 0 = #[.int .i64 0, .int .i64 0, .int .i64 0, .int .i64 0, .int .i64 0, .int .i64 0, .int .i64 0, .int .i64 0, .int .i64 0, .int .i64 0, .int .i64 0, .int .i64 0, .int .i64 0, .int .i64 0, .int .i64 0, .int .i64 0, .int .i64 0, .int .i64 0, .int .i64 0, .int .i64 0, .int .i64 0, .int .i64 0, .int .i64 0, .int .i64 0] := rfl
theorem oneA_24 : oneA 24 = #[.int .i64 1, .int .i64 1, .int .i64 1, .int .i64 1, .int .i64 1, .int .i64 1, .int .i64 1, .int .i64 1, .int .i64 1, .int .i64 1, .int .i64 1, .int .i64 1, .int .i64 1, .int .i64 1, .int .i64 1, .int .i64 1, .int .i64 1, .int .i64 1, .int .i64 1, .int .i64 1, .int .i64 1, .int .i64 1, .int .i64 1, .int .i64 1] := rfl

set_option maxRecDepth 100000 in
set_option maxHeartbeats 1000000 in
theorem alike_any (w : World) : Calls Tryz.prog 40 #[] w fun e w' => e = .returned (.agg #[.int .i64 1, .int .i64 1, .int .i64 1, .int .i64 1, .int .i64 1, .int .i64 1, .int .i64 1, .int .i64 1, .int .i64 1, .int .i64 1, .int .i64 1, .int .i64 1, .int .i64 1, .int .i64 1, .int .i64 1, .int .i64 1, .int .i64 1, .int .i64 1, .int .i64 1, .int .i64 1, .int .i64 1, .int .i64 1, .int .i64 1, .int .i64 1]) ∧ Below w.heap.size w w' := by
  have X1 := heap_alloc_new (w.alloc (.cells #[.int .i64 0, .int .i64 0, .int .i64 0, .int .i64 0, .int .i64 0, .int .i64 0, .int .i64 0, .int .i64 0, .int .i64 0, .int .i64 0, .int .i64 0, .int .i64 0, .int .i64 0, .int .i64 0, .int .i64 0, .int .i64 0, .int .i64 0, .int .i64 0, .int .i64 0, .int .i64 0, .int .i64 0, .int .i64 0, .int .i64 0, .int .i64 0] 75)) (.cells #[.int .i64 0, .int .i64 0, .int .i64 0, .int .i64 0, .int .i64 0, .int .i64 0, .int .i64 0, .int .i64 0, .int .i64 0, .int .i64 0, .int .i64 0, .int .i64 0, .int .i64 0, .int .i64 0, .int .i64 0, .int .i64 0, .int .i64 0, .int .i64 0, .int .i64 0, .int .i64 0, .int .i64 0, .int .i64 0, .int .i64 0, .int .i64 0] 75)
  have T0 := there_kept (S := nob) (there_new w #[.int .i64 0, .int .i64 0, .int .i64 0, .int .i64 0, .int .i64 0, .int .i64 0, .int .i64 0, .int .i64 0, .int .i64 0, .int .i64 0, .int .i64 0, .int .i64 0, .int .i64 0, .int .i64 0, .int .i64 0, .int .i64 0, .int .i64 0, .int .i64 0, .int .i64 0, .int .i64 0, .int .i64 0, .int .i64 0, .int .i64 0, .int .i64 0] 75) ((Fr.refl nob (w.alloc (.cells #[.int .i64 0, .int .i64 0, .int .i64 0, .int .i64 0, .int .i64 0, .int .i64 0, .int .i64 0, .int .i64 0, .int .i64 0, .int .i64 0, .int .i64 0, .int .i64 0, .int .i64 0, .int .i64 0, .int .i64 0, .int .i64 0, .int .i64 0, .int .i64 0, .int .i64 0, .int .i64 0, .int .i64 0, .int .i64 0, .int .i64 0, .int .i64 0] 75))).alloc (.cells #[.int .i64 0, .int .i64 0, .int .i64 0, .int .i64 0, .int .i64 0, .int .i64 0, .int .i64 0, .int .i64 0, .int .i64 0, .int .i64 0, .int .i64 0, .int .i64 0, .int .i64 0, .int .i64 0, .int .i64 0, .int .i64 0, .int .i64 0, .int .i64 0, .int .i64 0, .int .i64 0, .int .i64 0, .int .i64 0, .int .i64 0, .int .i64 0] 75)) (by simp) (fun h => h)
  have fr : Fr nob w ((w.alloc (.cells #[.int .i64 0, .int .i64 0, .int .i64 0, .int .i64 0, .int .i64 0, .int .i64 0, .int .i64 0, .int .i64 0, .int .i64 0, .int .i64 0, .int .i64 0, .int .i64 0, .int .i64 0, .int .i64 0, .int .i64 0, .int .i64 0, .int .i64 0, .int .i64 0, .int .i64 0, .int .i64 0, .int .i64 0, .int .i64 0, .int .i64 0, .int .i64 0] 75)).alloc (.cells #[.int .i64 0, .int .i64 0, .int .i64 0, .int .i64 0, .int .i64 0, .int .i64 0, .int .i64 0, .int .i64 0, .int .i64 0, .int .i64 0, .int .i64 0, .int .i64 0, .int .i64 0, .int .i64 0, .int .i64 0, .int .i64 0, .int .i64 0, .int .i64 0, .int .i64 0, .int .i64 0, .int .i64 0, .int .i64 0, .int .i64 0, .int .i64 0] 75)) := ((Fr.refl nob w).alloc _).alloc _
  have l0 : w.heap.size < ((w.alloc (.cells #[.int .i64 0, .int .i64 0, .int .i64 0, .int .i64 0, .int .i64 0, .int .i64 0, .int .i64 0, .int .i64 0, .int .i64 0, .int .i64 0, .int .i64 0, .int .i64 0, .int .i64 0, .int .i64 0, .int .i64 0, .int .i64 0, .int .i64 0, .int .i64 0, .int .i64 0, .int .i64 0, .int .i64 0, .int .i64 0, .int .i64 0, .int .i64 0] 75)).alloc (.cells #[.int .i64 0, .int .i64 0, .int .i64 0, .int .i64 0, .int .i64 0, .int .i64 0, .int .i64 0, .int .i64 0, .int .i64 0, .int .i64 0, .int .i64 0, .int .i64 0, .int .i64 0, .int .i64 0, .int .i64 0, .int .i64 0, .int .i64 0, .int .i64 0, .int .i64 0, .int .i64 0, .int .i64 0, .int .i64 0, .int .i64 0, .int .i64 0] 75)).heap.size := by simp; omega
  rw [World.size_alloc] at X1
  go_enter Tryz.func40, Tryz.ntmps40
  go_upto_region 2 with fail
  generalize (w.alloc (.cells #[.int .i64 0, .int .i64 0, .int .i64 0, .int .i64 0, .int .i64 0, .int .i64 0, .int .i64 0, .int .i64 0, .int .i64 0, .int .i64 0, .int .i64 0, .int .i64 0, .int .i64 0, .int .i64 0, .int .i64 0, .int .i64 0, .int .i64 0, .int .i64 0, .int .i64 0, .int .i64 0, .int .i64 0, .int .i64 0, .int .i64 0, .int .i64 0] 75)).alloc (.cells #[.int .i64 0, .int .i64 0, .int .i64 0, .int .i64 0, .int .i64 0, .int .i64 0, .int .i64 0, .int .i64 0, .int .i64 0, .int .i64 0, .int .i64 0, .int .i64 0, .int .i64 0, .int .i64 0, .int .i64 0, .int .i64 0, .int .i64 0, .int .i64 0, .int .i64 0, .int .i64 0, .int .i64 0, .int .i64 0, .int .i64 0, .int .i64 0] 75) = W at *
  have HT0 := Lib.hid T0
  have HFR := Lib.hid fr
  clear T0 fr
  go_wp2_with fail
  go_loopw [3] (fun kv wr => ∃ k : Nat, k ≤ 24 ∧ kv = ik k ∧ wr.heap[w.heap.size + 1]? = some (.cells (oneA k) 75 (0, 0)) ∧ Fr (fun j => j = w.heap.size + 1) W wr) (fun kv _ => 24 - (intOf kv).toNat)
  case atStart => exact ⟨0, Nat.zero_le _, rfl, X1, Fr.refl _ _⟩
  case round =>
    clear X1
    obtain ⟨k, hk, rfl, X, Sfr⟩ := hrel
    by_cases hlt : k < 24
    · have hk1 : (k : Int) < 24 := by omega
      have hc : (wr.cell? ⟨w.heap.size + 1, k, none⟩).isSome = true := by
        rw [cell_of_row _ (w.heap.size + 1) k _ _ (0, 0) X]
        have : k < (oneA k).size := by simp [oneA]; omega
        simp [this]
      obtain ⟨y, hy⟩ := Option.isSome_iff_exists.1 hc
      have hf : wr.frozen? ⟨w.heap.size + 1, k, none⟩ = false := by unfold World.frozen?; simp only [X]; simp
      have HX := Lib.hid (show (wr.setCell ⟨w.heap.size + 1, k, none⟩ (.int .i64 1)).heap[w.heap.size + 1]? = some (.cells (oneA (k + 1)) 75 (0, 0)) by rw [← oneA_set hlt]; exact cells_putW X k _)
      have HS := Lib.hid (Sfr.setCell (p := ⟨w.heap.size + 1, k, none⟩) (fun _ => rfl) (.int .i64 1))
      clear hc X Sfr
      go_wp2_with fail
      exact ⟨⟨k + 1, by omega, by go_num, HX.out, HS.out⟩, by simp [intOf]; omega⟩
    · obtain rfl : k = 24 := by omega
      rw [oneA_24] at X
      have HR := Lib.hid (show wr.rangeAt (w.heap.size + 1) 0 [.int .i64 1, .int .i64 1, .int .i64 1, .int .i64 1, .int .i64 1, .int .i64 1, .int .i64 1, .int .i64 1, .int .i64 1, .int .i64 1, .int .i64 1, .int .i64 1, .int .i64 1, .int .i64 1, .int .i64 1, .int .i64 1, .int .i64 1, .int .i64 1, .int .i64 1, .int .i64 1, .int .i64 1, .int .i64 1, .int .i64 1, .int .i64 1] from fun j v hv => by
        rw [Nat.zero_add, cell_of_row _ (w.heap.size + 1) j _ _ (0, 0) X]; simpa using hv)
      have HT := Lib.hid (there_kept HT0.out Sfr l0 (by omega))
      have HI := Lib.hid (show (Tryz.prog.info? 75).map (·.size) = some ([.int .i64 1, .int .i64 1, .int .i64 1, .int .i64 1, .int .i64 1, .int .i64 1, .int .i64 1, .int .i64 1, .int .i64 1, .int .i64 1, .int .i64 1, .int .i64 1, .int .i64 1, .int .i64 1, .int .i64 1, .int .i64 1, .int .i64 1, .int .i64 1, .int .i64 1, .int .i64 1, .int .i64 1, .int .i64 1, .int .i64 1, .int .i64 1] : List Value).length from info_w)
      have HI' := Lib.hid (show (Tryz.prog.info? 75).map (·.size) = some (#[.int .i64 1, .int .i64 1, .int .i64 1, .int .i64 1, .int .i64 1, .int .i64 1, .int .i64 1, .int .i64 1, .int .i64 1, .int .i64 1, .int .i64 1, .int .i64 1, .int .i64 1, .int .i64 1, .int .i64 1, .int .i64 1, .int .i64 1, .int .i64 1, .int .i64 1, .int .i64 1, .int .i64 1, .int .i64 1, .int .i64 1, .int .i64 1] : Array Value).size from info_w)
      have hr3 := World.rangeAt_setCells_same wr w.heap.size 0 [.int .i64 1, .int .i64 1, .int .i64 1, .int .i64 1, .int .i64 1, .int .i64 1, .int .i64 1, .int .i64 1, .int .i64 1, .int .i64 1, .int .i64 1, .int .i64 1, .int .i64 1, .int .i64 1, .int .i64 1, .int .i64 1, .int .i64 1, .int .i64 1, .int .i64 1, .int .i64 1, .int .i64 1, .int .i64 1, .int .i64 1, .int .i64 1] HT.out
      have HRES := Lib.hid (run_loadVar_mid (P := Tryz.prog) _ w.heap.size 0 75 [.int .i64 1, .int .i64 1, .int .i64 1, .int .i64 1, .int .i64 1, .int .i64 1, .int .i64 1, .int .i64 1, .int .i64 1, .int .i64 1, .int .i64 1, .int .i64 1, .int .i64 1, .int .i64 1, .int .i64 1, .int .i64 1, .int .i64 1, .int .i64 1, .int .i64 1, .int .i64 1, .int .i64 1, .int .i64 1, .int .i64 1, .int .i64 1] _ hr3 under_w rfl HI.out)
      have HB := Lib.hid (((HFR.out.trans' Sfr (T := fun k => w.heap.size ≤ k) (fun _ _ h => h.elim) (fun j hj e => by omega)).trans (fr_setCells w.heap.size [.int .i64 1, .int .i64 1, .int .i64 1, .int .i64 1, .int .i64 1, .int .i64 1, .int .i64 1, .int .i64 1, .int .i64 1, .int .i64 1, .int .i64 1, .int .i64 1, .int .i64 1, .int .i64 1, .int .i64 1, .int .i64 1, .int .i64 1, .int .i64 1, .int .i64 1, .int .i64 1, .int .i64 1, .int .i64 1, .int .i64 1, .int .i64 1] 0 wr) (fun j hj e => by omega)).to_below (B := w.heap.size) (Nat.le_refl _) (fun _ h => h))
      clear X Sfr hr3
      go_upto_region 7 with fail
      refine wp_region_lit ?_
      refine wpList_load_mid rfl 75 (.tmp 1) rfl (w.heap.size + 1) 0 rfl [.int .i64 1, .int .i64 1, .int .i64 1, .int .i64 1, .int .i64 1, .int .i64 1, .int .i64 1, .int .i64 1, .int .i64 1, .int .i64 1, .int .i64 1, .int .i64 1, .int .i64 1, .int .i64 1, .int .i64 1, .int .i64 1, .int .i64 1, .int .i64 1, .int .i64 1, .int .i64 1, .int .i64 1, .int .i64 1, .int .i64 1, .int .i64 1] _ HR.out under_w rfl HI.out ?_
      refine wpList_store_mid rfl 75 (.tmp 0) (.tmp 9) rfl w.heap.size 0 #[.int .i64 1, .int .i64 1, .int .i64 1, .int .i64 1, .int .i64 1, .int .i64 1, .int .i64 1, .int .i64 1, .int .i64 1, .int .i64 1, .int .i64 1, .int .i64 1, .int .i64 1, .int .i64 1, .int .i64 1, .int .i64 1, .int .i64 1, .int .i64 1, .int .i64 1, .int .i64 1, .int .i64 1, .int .i64 1, .int .i64 1, .int .i64 1] rfl rfl HT.out HI'.out (by simp [Value.oneCell']) ?_
      simp only [Act.put, List.setIfInBounds_toArray, List.set_cons_zero, List.set_cons_succ]
      go_wp2_with fail
      exact bodyPost_ret (v := .agg #[.int .i64 1, .int .i64 1, .int .i64 1, .int .i64 1, .int .i64 1, .int .i64 1, .int .i64 1, .int .i64 1, .int .i64 1, .int .i64 1, .int .i64 1, .int .i64 1, .int .i64 1, .int .i64 1, .int .i64 1, .int .i64 1, .int .i64 1, .int .i64 1, .int .i64 1, .int .i64 1, .int .i64 1, .int .i64 1, .int .i64 1, .int .i64 1]) (by simp [results, Tryz.results40, asAddr, HRES.out]) rfl ⟨rfl, HB.out⟩

set_option maxRecDepth 100000 in
set_option maxHeartbeats 1000000 in
theorem Smallest_any (A : B) (hA : A.ok 0) (w : World) : Calls Tryz.prog 11 #[dval A] w fun e w' => e = .returned (.tuple #[.int .u32 (bstN (fun _ => 1) A : Int), .bool (!decide (A = .F))]) ∧ Below w.heap.size w w' := by
  have hB := fun W => (show Calls Tryz.prog 38 #[dval A, .agg #[.int .i64 1, .int .i64 1, .int .i64 1, .int .i64 1, .int .i64 1, .int .i64 1, .int .i64 1, .int .i64 1, .int .i64 1, .int .i64 1, .int .i64 1, .int .i64 1, .int .i64 1, .int .i64 1, .int .i64 1, .int .i64 1, .int .i64 1, .int .i64 1, .int .i64 1, .int .i64 1, .int .i64 1, .int .i64 1, .int .i64 1, .int .i64 1]] W fun e w' => e = .returned (.tuple #[.int .u32 (bstN (fun _ => 1) A : Int), .bool (!decide (A = .F))]) ∧ Below W.heap.size W w' from bst_any A hA (fun _ => 1) (fun _ => by omega) W)
  have hL := alike_any
  have D0 := Box2.new w (.int .u32 (place (li A) A : Int)) (.string ⟨(code (rows (li A))).toArray⟩) 32
  have fr : Fr nob w (w.alloc (.cells #[.int .u32 (place (li A) A : Int), .string ⟨(code (rows (li A))).toArray⟩] 32)) := (Fr.refl nob w).alloc _
  have a0 := D0.c0
  have a1 := D0.c1
  generalize bstN (fun _ => 1) A = r at *
  generalize (!decide (A = .F)) = b at *
  clear D0
  go_enter Tryz.func11, Tryz.ntmps11
  go_upto_region 1 with fail
  generalize w.alloc (.cells #[.int .u32 (place (li A) A : Int), .string ⟨(code (rows (li A))).toArray⟩] 32) = W at *
  refine wp_region_grow' 6 9 (fun _ => #[]) [] (by kernel_rfl) (by kernel_rfl) rfl rfl (by intro T h; cases h) ?_
  simp only [List.take_succ_cons, List.take_zero]
  refine grow_step (v := dval A) rfl rfl ?a0 ?b0
  case a0 =>
    intro w' hw'
    have y0 := hw'.cell' a0 (fun h => h)
    have y1 := hw'.cell' a1 (fun h => h)
    clear hw'
    refine growAt_value ?_
    go_simp
    try rfl
  simp only [Act.put, List.setIfInBounds_toArray, List.set_cons_zero, List.set_cons_succ]
  refine grow_step (v := .agg #[.int .i64 1, .int .i64 1, .int .i64 1, .int .i64 1, .int .i64 1, .int .i64 1, .int .i64 1, .int .i64 1, .int .i64 1, .int .i64 1, .int .i64 1, .int .i64 1, .int .i64 1, .int .i64 1, .int .i64 1, .int .i64 1, .int .i64 1, .int .i64 1, .int .i64 1, .int .i64 1, .int .i64 1, .int .i64 1, .int .i64 1, .int .i64 1]) rfl rfl ?a1 ?b1
  case a1 =>
    intro w' hw'
    refine growAt_call ?_ ((hL w').mono fun e w'' ⟨he, hb⟩ => ⟨he, (Fr.refl nob w').below hb⟩)
    clear hw'
    go_simp
  simp only [Act.put, List.setIfInBounds_toArray, List.set_cons_zero, List.set_cons_succ]
  refine grow_step (v := .tuple #[.int .u32 (r : Int), .bool b]) rfl rfl ?a2 ?b2
  case a2 =>
    intro w' hw'
    refine growAt_call ?_ ((hB w').mono fun e w'' ⟨he, hb⟩ => ⟨he, (Fr.refl nob w').below hb⟩)
    clear hw'
    go_simp
  simp only [Act.put, List.setIfInBounds_toArray, List.set_cons_zero, List.set_cons_succ]
  refine grow_step (v := .int .u32 (r : Int)) rfl rfl ?a3 ?b3
  case a3 =>
    intro w' hw'
    clear hw'
    refine growAt_value ?_
    go_simp
    try rfl
  simp only [Act.put, List.setIfInBounds_toArray, List.set_cons_zero, List.set_cons_succ]
  refine grow_step (v := .bool b) rfl rfl ?a4 ?b4
  case a4 =>
    intro w' hw'
    clear hw'
    refine growAt_value ?_
    go_simp
    try rfl
  simp only [Act.put, List.setIfInBounds_toArray, List.set_cons_zero, List.set_cons_succ]
  refine grow_step (v := .int .u32 (r : Int)) rfl rfl ?a5 ?b5
  case a5 =>
    intro w' hw'
    clear hw'
    refine growAt_value ?_
    go_simp
    try rfl
  simp only [Act.put, List.setIfInBounds_toArray, List.set_cons_zero, List.set_cons_succ]
  refine grow_nil ?_
  intro w5 listed p5 _ _
  have HB := Lib.hid (fr.trans p5 (fun _ _ h => h))
  clear p5 fr hB hL a0 a1
  go_wp2_with fail
  go_ret2
  exact ⟨rfl, HB.out.to_below (Nat.le_refl _) (fun _ h => h.elim)⟩
end Go.Proofs.YtiainlccodnlmaaGreatDoor
