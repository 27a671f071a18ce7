import Derived.Test.YtalnhlebgofiiaaGreatDoorCostB
import Derived.Test.YtalnhlebgofiiaaGreatDoorExi
import Derived.Test.YtalnhlebgofiiaaGreatDoorCostC
import Derived.Test.YtalnhlebgofiiaaGreatDoorRule
import Derived.Deep.DeepCutAuto
import Derived.Test.YtalnhlebgofiiaaGreatDoorFoldU
namespace Go.Proofs.YtalnhlebgofiiaaGreatDoor
open Go.RowKit
namespace Bd

theorem ok_F0 : B.F.ok 0 := trivial
theorem ok_T0 : B.T.ok 0 := trivial

section
variable {a b c : B} (ha : a.ok 0) (hb : b.ok 0) (hc : c.ok 0)
include ha hb
theorem alg_demorgan : (ite a b .F).neg = ite a.neg .T b.neg := by
  refine eq_of_ev (ok_neg (ok_ite0 _ _ _)) (ok_ite0 _ _ _) fun d => ?_
  rw [ev_neg, ev_ite ha hb ok_F0, ev_ite (ok_neg ha) ok_T0 (ok_neg hb), ev_neg, ev_neg]
  cases a.ev d <;> cases b.ev d <;> rfl
theorem alg_xor : ite a b.neg b = ite (ite a b.neg .F) .T (ite b a.neg .F) := by
  refine eq_of_ev (ok_ite0 _ _ _) (ok_ite0 _ _ _) fun d => ?_
  rw [ev_ite ha (ok_neg hb) hb, ev_ite (ok_ite0 _ _ _) ok_T0 (ok_ite0 _ _ _), ev_ite ha (ok_neg hb) ok_F0, ev_ite hb (ok_neg ha) ok_F0, ev_neg, ev_neg]
  cases a.ev d <;> cases b.ev d <;> rfl
theorem alg_comm : ite a b .F = ite b a .F := by
  refine eq_of_ev (ok_ite0 _ _ _) (ok_ite0 _ _ _) fun d => ?_
  rw [ev_ite ha hb ok_F0, ev_ite hb ha ok_F0]
  cases a.ev d <;> cases b.ev d <;> rfl
theorem alg_within : (ite a b .T = .T) ↔ (ite a .T b = b) := by
  have key : (∀ d, a.ev d = true → b.ev d = true) ↔ ite a b .T = .T := by
    constructor
    · intro h
      refine eq_of_ev (ok_ite0 _ _ _) ok_T0 fun d => ?_
      rw [ev_ite ha hb ok_T0]
      have := h d
      cases e1 : a.ev d <;> cases e2 : b.ev d <;> simp_all [B.ev]
    · intro h d hd
      have e := congrArg (fun x : B => x.ev d) h
      rw [ev_ite ha hb ok_T0, hd] at e
      simpa [B.ev] using e
  rw [← key]
  constructor
  · intro h
    refine eq_of_ev (ok_ite0 _ _ _) hb fun d => ?_
    rw [ev_ite ha ok_T0 hb]
    have := h d
    cases e1 : a.ev d <;> cases e2 : b.ev d <;> simp_all [B.ev]
  · intro h d hd
    have e := congrArg (fun x : B => x.ev d) h
    rw [ev_ite ha ok_T0 hb, hd] at e
    simpa [B.ev] using e.symm
theorem alg_meets : (ite a b .F = .F) ↔ (ite a b.neg .T = .T) := by
  have key : ∀ x y : B, (ite a b .F = .F) ↔ ∀ d, ¬ (a.ev d = true ∧ b.ev d = true) := by
    intro _ _
    constructor
    · rintro h d ⟨h1, h2⟩
      have e := congrArg (fun x : B => x.ev d) h
      rw [ev_ite ha hb ok_F0, h1, h2] at e
      cases e
    · intro h
      refine eq_of_ev (ok_ite0 _ _ _) ok_F0 fun d => ?_
      rw [ev_ite ha hb ok_F0]
      have := h d
      cases e1 : a.ev d <;> cases e2 : b.ev d <;> simp_all [B.ev]
  rw [key a b]
  constructor
  · intro h
    refine eq_of_ev (ok_ite0 _ _ _) ok_T0 fun d => ?_
    rw [ev_ite ha (ok_neg hb) ok_T0, ev_neg]
    have := h d
    cases e1 : a.ev d <;> cases e2 : b.ev d <;> simp_all [B.ev]
  · rintro h d ⟨h1, h2⟩
    have e := congrArg (fun x : B => x.ev d) h
    rw [ev_ite ha (ok_neg hb) ok_T0, ev_neg, h1, h2] at e
    cases e
include hc
theorem alg_and : ite a (ite b .T c) .F = ite (ite a b .F) .T (ite a c .F) := by
  refine eq_of_ev (ok_ite0 _ _ _) (ok_ite0 _ _ _) fun d => ?_
  rw [ev_ite ha (ok_ite0 _ _ _) ok_F0, ev_ite hb ok_T0 hc, ev_ite (ok_ite0 _ _ _) ok_T0 (ok_ite0 _ _ _), ev_ite ha hb ok_F0, ev_ite ha hc ok_F0]
  cases a.ev d <;> cases b.ev d <;> cases c.ev d <;> rfl
theorem alg_or : ite a .T (ite b c .F) = ite (ite a .T b) (ite a .T c) .F := by
  refine eq_of_ev (ok_ite0 _ _ _) (ok_ite0 _ _ _) fun d => ?_
  rw [ev_ite ha ok_T0 (ok_ite0 _ _ _), ev_ite hb hc ok_F0, ev_ite (ok_ite0 _ _ _) (ok_ite0 _ _ _) ok_F0, ev_ite ha ok_T0 hb, ev_ite ha ok_T0 hc]
  cases a.ev d <;> cases b.ev d <;> cases c.ev d <;> rfl
theorem alg_ite : ite a b c = ite (ite a b .F) .T (ite c a.neg .F) := by
  refine eq_of_ev (ok_ite0 _ _ _) (ok_ite0 _ _ _) fun d => ?_
  rw [ev_ite ha hb hc, ev_ite (ok_ite0 _ _ _) ok_T0 (ok_ite0 _ _ _), ev_ite ha hb ok_F0, ev_ite hc (ok_neg ha) ok_F0, ev_neg]
  cases a.ev d <;> cases b.ev d <;> cases c.ev d <;> rfl
theorem alg_all : andL [a, b, c] = ite (ite c b .F) a .F := by
  refine eq_of_ev (ok_andL _) (ok_ite0 _ _ _) fun d => ?_
  show (ite (ite (ite .T a .F) b .F) c .F).ev d = _
  rw [ev_ite (ok_ite0 _ _ _) hc ok_F0, ev_ite (ok_ite0 _ _ _) hb ok_F0, ev_ite ok_T0 ha ok_F0, ev_ite (ok_ite0 _ _ _) ha ok_F0, ev_ite hc hb ok_F0]
  cases a.ev d <;> cases b.ev d <;> cases c.ev d <;> rfl
theorem alg_any : orL [a, b, c] = ite (ite c .T b) .T a := by
  refine eq_of_ev (ok_orL _) (ok_ite0 _ _ _) fun d => ?_
  show (ite (ite (ite .F .T a) .T b) .T c).ev d = _
  rw [ev_ite (ok_ite0 _ _ _) ok_T0 hc, ev_ite (ok_ite0 _ _ _) ok_T0 hb, ev_ite ok_F0 ok_T0 ha, ev_ite (ok_ite0 _ _ _) ok_T0 ha, ev_ite hc ok_T0 hb]
  cases a.ev d <;> cases b.ev d <;> cases c.ev d <;> rfl
end
theorem alg_self {a : B} (ha : a.ok 0) : ite a a.neg a = .F := by
  refine eq_of_ev (ok_ite0 _ _ _) ok_F0 fun d => ?_
  rw [ev_ite ha (ok_neg ha) ha, ev_neg]
  cases a.ev d <;> rfl
theorem alg_full {a : B} (ha : a.ok 0) : ite a .T a.neg = .T := by
  refine eq_of_ev (ok_ite0 _ _ _) ok_T0 fun d => ?_
  rw [ev_ite ha ok_T0 (ok_neg ha), ev_neg]
  cases a.ev d <;> rfl

/-! ### fixing -/
theorem cubeEv_var {i : Nat} (hi : i < 24) (c : Cfg) : cubeEv (2 ^ i) 0 24 c = c i := by
  unfold cubeEv
  rw [Bool.eq_iff_iff, List.all_eq_true]
  constructor
  · intro h
    have h1 := h (23 - i) (by simp; omega)
    rw [show 23 - (23 - i) = i by omega, Nat.testBit_two_pow_self] at h1
    simpa using h1
  · intro h j hj
    rw [Nat.testBit_two_pow]
    by_cases e : i = 23 - j
    · simp [← e, h]
    · simp [e]
theorem ev_var {i : Nat} (hi : i < 24) (c : Cfg) : (cubeB (2 ^ i) 0).ev c = c i := by
  unfold cubeB
  rw [if_pos (by simp), ev_cubeP, cubeEv_var hi]
theorem up_up (c : Cfg) (i : Nat) (u v : Bool) : up (up c i u) i v = up c i v := by
  funext j; unfold up; split <;> rfl
theorem up_at (c : Cfg) (i : Nat) (u : Bool) : up c i u i = u := by unfold up; simp

section
variable {a b : B} (ha : a.ok 0) (hb : b.ok 0)
include ha
theorem fix_shannon {i : Nat} (hi : i < 24) : ite (cubeB (2 ^ i) 0) (withB i true a) (withB i false a) = a := by
  refine eq_of_ev (ok_ite0 _ _ _) ha fun c => ?_
  rw [ev_ite (ok_cubeB _ _) (ok_withB0 _ _ _) (ok_withB0 _ _ _), ev_var hi, ev_withB ha, ev_withB ha]
  have h := up_self c i
  cases e : c i <;> rw [e] at h <;> simp [h]
theorem fix_free {i : Nat} (on : Bool) : (supR (li (withB i on a))).testBit i = false := by
  rw [← Bool.not_eq_true, supR_dep (ok_withB0 _ _ _)]
  rintro ⟨c, hc⟩
  rw [ev_withB ha, ev_withB ha, up_up, up_up] at hc
  exact hc rfl

end

/-- what Exists says: some way to change the features of V -/
def chg (V : List Int) (c d : Cfg) : Prop := ∀ j : Nat, j < 24 → (j : Int) ∉ V → c j = d j
theorem ev_exL : ∀ (V : List Int), (∀ v ∈ V, 0 ≤ v ∧ v < 24) → ∀ {a : B}, a.ok 0 → ∀ c, (exL V a).ev c = true ↔ ∃ d, chg V c d ∧ a.ev d = true := by
  intro V
  induction V with
  | nil =>
    intro _ a ha c
    show a.ev c = true ↔ _
    constructor
    · intro h; exact ⟨c, fun _ _ _ => rfl, h⟩
    · rintro ⟨d, hd, h⟩
      rw [ev_agree ha (fun j _ hj => hd j hj (by simp))]; exact h
  | cons v V ih =>
    intro hV a ha c
    have hv := hV v (by simp)
    obtain ⟨i, rfl⟩ : ∃ i : Nat, v = i := ⟨v.toNat, by omega⟩
    have hi : i < 24 := by omega
    have e1 : ∀ on, withI a (i : Int) on = withB i on a := fun on => by unfold withI; rw [if_pos ⟨by omega, by omega⟩]; rfl
    have e2 : exL ((i : Int) :: V) a = exL V (ite (withB i false a) .T (withB i true a)) := by
      show exL V (exStep a i) = _
      unfold exStep; rw [e1, e1]
    rw [e2, ih (fun v hv => hV v (by simp [hv])) (ok_ite0 _ _ _)]
    constructor
    · rintro ⟨d, hd, h⟩
      rw [ev_ite (ok_withB0 _ _ _) ok_T0 (ok_withB0 _ _ _), ev_withB ha, ev_withB ha] at h
      cases e : a.ev (up d i false) with
      | true =>
        refine ⟨_, fun j hj hn => ?_, e⟩
        simp only [List.mem_cons, not_or] at hn
        unfold up
        rw [if_neg (by intro h; exact hn.1 (by omega))]
        exact hd j hj hn.2
      | false =>
        rw [e] at h
        refine ⟨up d i true, fun j hj hn => ?_, by simpa using h⟩
        simp only [List.mem_cons, not_or] at hn
        unfold up
        rw [if_neg (by intro h; exact hn.1 (by omega))]
        exact hd j hj hn.2
    · rintro ⟨d, hd, h⟩
      refine ⟨up d i (c i), fun j hj hn => ?_, ?_⟩
      · unfold up
        split
        · rename_i e; rw [e]
        · rename_i e
          exact hd j hj (by simp only [List.mem_cons, not_or]; exact ⟨by omega, hn⟩)
      · rw [ev_ite (ok_withB0 _ _ _) ok_T0 (ok_withB0 _ _ _), ev_withB ha, ev_withB ha, up_up, up_up]
        have hs := up_self d i
        cases e : d i <;> rw [e] at hs <;> simp [hs, h, B.ev]
theorem mem_ints {m : Nat} {v : Int} : v ∈ ints (featL m) ↔ ∃ j : Nat, v = j ∧ j < 24 ∧ m.testBit j = true := by
  unfold ints
  rw [List.mem_map]
  constructor
  · rintro ⟨j, hj, rfl⟩
    exact ⟨j, rfl, mem_featL.1 hj⟩
  · rintro ⟨j, rfl, h⟩
    exact ⟨j, mem_featL.2 h, rfl⟩
theorem ints_range (m : Nat) : ∀ v ∈ ints (featL m), 0 ≤ v ∧ v < 24 := by
  intro v hv
  obtain ⟨j, rfl, h, _⟩ := mem_ints.1 hv
  omega
noncomputable abbrev exM (m : Nat) (a : B) : B := exL (ints (featL m)) a
noncomputable abbrev faM (m : Nat) (a : B) : B := faL (ints (featL m)) a
theorem ok_exM {a : B} (ha : a.ok 0) (m : Nat) : (exM m a).ok 0 := ok_exL ha _
theorem ok_faM {a : B} (ha : a.ok 0) (m : Nat) : (faM m a).ok 0 := ok_faL ha _
theorem chgM {m : Nat} {c d : Cfg} : chg (ints (featL m)) c d ↔ ∀ j, j < 24 → m.testBit j = false → c j = d j := by
  constructor
  · intro h j hj hm
    refine h j hj fun hn => ?_
    obtain ⟨k, e, _, hk⟩ := mem_ints.1 hn
    obtain rfl : j = k := by omega
    rw [hm] at hk; cases hk
  · intro h j hj hn
    refine h j hj ?_
    rw [← Bool.not_eq_true]
    exact fun hm => hn (mem_ints.2 ⟨j, rfl, hj, hm⟩)
theorem ev_exM {a : B} (ha : a.ok 0) (m : Nat) (c : Cfg) : (exM m a).ev c = true ↔ ∃ d : Cfg, (∀ j, j < 24 → m.testBit j = false → c j = d j) ∧ a.ev d = true := by
  rw [ev_exL _ (ints_range m) ha]
  simp only [chgM]
theorem ev_faM {a : B} (ha : a.ok 0) (m : Nat) (c : Cfg) : (faM m a).ev c = true ↔ ∀ d : Cfg, (∀ j, j < 24 → m.testBit j = false → c j = d j) → a.ev d = true := by
  show ((exM m a.neg).neg).ev c = true ↔ _
  rw [ev_neg, Bool.not_eq_true', ← Bool.not_eq_true, ev_exM (ok_neg ha)]
  constructor
  · intro h d hd
    cases e : a.ev d with
    | true => rfl
    | false => exact absurd ⟨d, hd, by rw [ev_neg, e]; rfl⟩ h
  · rintro h ⟨d, hd, hn⟩
    rw [ev_neg, h d hd] at hn
    cases hn
theorem bool_ext {x y : Bool} (h : x = true ↔ y = true) : x = y := by cases x <;> cases y <;> simp_all
theorem fa_neg {a : B} (m : Nat) : faM m a = (exM m a.neg).neg := rfl

section
variable {a b : B} (ha : a.ok 0) (hb : b.ok 0)
include ha
theorem ex_one {i : Nat} (_hi : i < 24) : exM (2 ^ i) a = ite (withB i true a) .T (withB i false a) := by
  refine eq_of_ev (ok_exM ha _) (ok_ite0 _ _ _) fun c => bool_ext ?_
  rw [ev_exM ha, ev_ite (ok_withB0 _ _ _) ok_T0 (ok_withB0 _ _ _), ev_withB ha, ev_withB ha]
  constructor
  · rintro ⟨d, hd, h⟩
    have e : a.ev d = a.ev (up c i (d i)) := ev_agree ha fun j _ hj => by
      unfold up; split
      · rename_i e; rw [e]
      · rename_i e
        exact (hd j hj (by rw [Nat.testBit_two_pow]; simp; omega)).symm
    rw [e] at h
    cases e2 : d i <;> rw [e2] at h <;> simp [h, B.ev]
  · intro h
    have key : ∀ v, a.ev (up c i v) = true → ∃ d : Cfg, (∀ j, j < 24 → (2 ^ i).testBit j = false → c j = d j) ∧ a.ev d = true := fun v hv => ⟨_, fun j _ hn => by
      rw [Nat.testBit_two_pow] at hn
      unfold up; rw [if_neg (by intro e; simp at hn; omega)], hv⟩
    cases e : a.ev (up c i true) with
    | true => exact key _ e
    | false => rw [e] at h; exact key false (by simpa using h)
theorem fa_one {i : Nat} (hi : i < 24) : faM (2 ^ i) a = ite (withB i true a) (withB i false a) .F := by
  refine eq_of_ev (ok_faM ha _) (ok_ite0 _ _ _) fun c => ?_
  rw [fa_neg, ev_neg, ex_one (ok_neg ha) hi, ev_ite (ok_withB0 _ _ _) ok_T0 (ok_withB0 _ _ _), ev_withB (ok_neg ha), ev_withB (ok_neg ha), ev_ite (ok_withB0 _ _ _) (ok_withB0 _ _ _) ok_F0, ev_withB ha, ev_withB ha, ev_neg, ev_neg]
  cases a.ev (up c i true) <;> cases a.ev (up c i false) <;> rfl
theorem in_ex (m : Nat) : ite a (exM m a) .T = .T := by
  refine eq_of_ev (ok_ite0 _ _ _) ok_T0 fun c => ?_
  rw [ev_ite ha (ok_exM ha m) ok_T0]
  cases e : a.ev c with
  | false => rfl
  | true =>
    have := (ev_exM ha m c).2 ⟨c, fun _ _ _ => rfl, e⟩
    simp [this, B.ev]
theorem fa_in (m : Nat) : ite (faM m a) a .T = .T := by
  refine eq_of_ev (ok_ite0 _ _ _) ok_T0 fun c => ?_
  rw [ev_ite (ok_faM ha m) ha ok_T0]
  cases e : (faM m a).ev c with
  | false => rfl
  | true =>
    have := (ev_faM ha m c).1 e c (fun _ _ _ => rfl)
    simp [this, B.ev]
theorem ex_free (m : Nat) {j : Nat} (hm : m.testBit j = true) : (supR (li (exM m a))).testBit j = false := by
  rw [← Bool.not_eq_true, supR_dep (ok_exM ha m)]
  rintro ⟨c, hc⟩
  refine hc (bool_ext ?_)
  rw [ev_exM ha, ev_exM ha]
  have h : ∀ u v (d : Cfg), (∀ k, k < 24 → m.testBit k = false → up c j u k = d k) → ∀ k, k < 24 → m.testBit k = false → up c j v k = d k := fun u v d hd k hk hn => by
    rw [← hd k hk hn]
    unfold up
    rw [if_neg (by rintro rfl; rw [hm] at hn; cases hn), if_neg (by rintro rfl; rw [hm] at hn; cases hn)]
  exact ⟨fun ⟨d, h1, h2⟩ => ⟨d, h _ _ d h1, h2⟩, fun ⟨d, h1, h2⟩ => ⟨d, h _ _ d h1, h2⟩⟩
theorem ex_twice (m : Nat) : exM m (exM m a) = exM m a := by
  refine eq_of_ev (ok_exM (ok_exM ha m) m) (ok_exM ha m) fun c => bool_ext ?_
  rw [ev_exM (ok_exM ha m), ev_exM ha]
  constructor
  · rintro ⟨d, h1, h2⟩
    obtain ⟨d', h3, h4⟩ := (ev_exM ha m d).1 h2
    exact ⟨d', fun j hj hn => (h1 j hj hn).trans (h3 j hj hn), h4⟩
  · rintro ⟨d, h1, h2⟩
    exact ⟨c, fun _ _ _ => rfl, (ev_exM ha m c).2 ⟨d, h1, h2⟩⟩
include hb
theorem ex_or (m : Nat) : exM m (ite a .T b) = ite (exM m a) .T (exM m b) := by
  refine eq_of_ev (ok_exM (ok_ite0 _ _ _) m) (ok_ite0 _ _ _) fun c => bool_ext ?_
  rw [ev_exM (ok_ite0 _ _ _), ev_ite (ok_exM ha m) ok_T0 (ok_exM hb m)]
  have key : (if (exM m a).ev c = true then B.T.ev c else (exM m b).ev c) = true ↔ ((exM m a).ev c = true ∨ (exM m b).ev c = true) := by
    cases (exM m a).ev c <;> simp [B.ev]
  rw [key, ev_exM ha, ev_exM hb]
  constructor
  · rintro ⟨d, h1, h2⟩
    rw [ev_ite ha ok_T0 hb] at h2
    cases e : a.ev d with
    | true => exact .inl ⟨d, h1, e⟩
    | false => rw [e] at h2; exact .inr ⟨d, h1, by simpa using h2⟩
  · rintro (⟨d, h1, h2⟩ | ⟨d, h1, h2⟩)
    · exact ⟨d, h1, by rw [ev_ite ha ok_T0 hb, h2]; rfl⟩
    · exact ⟨d, h1, by rw [ev_ite ha ok_T0 hb, h2]; cases a.ev d <;> rfl⟩
end
theorem supR_neg {a : B} (ha : a.ok 0) : supR (li a.neg) = supR (li a) := by
  refine Nat.eq_of_testBit_eq fun i => bool_ext ?_
  rw [supR_dep (ok_neg ha), supR_dep ha]
  unfold dep
  simp only [ev_neg]
  exact ⟨fun ⟨c, hc⟩ => ⟨c, fun h => hc (by rw [h])⟩, fun ⟨c, hc⟩ => ⟨c, fun h => hc (by simpa using h)⟩⟩
theorem fa_free {a : B} (ha : a.ok 0) (m : Nat) {j : Nat} (hm : m.testBit j = true) : (supR (li (faM m a))).testBit j = false := by
  rw [fa_neg, supR_neg (ok_exM (ok_neg ha) m)]
  exact ex_free (ok_neg ha) m hm
theorem sup_free {a : B} (ha : a.ok 0) (m : Nat) : (supR (li (exM m a)) ||| supR (li (faM m a))) &&& m = 0 := by
  refine Nat.eq_of_testBit_eq fun j => ?_
  rw [Nat.testBit_and, Nat.testBit_or, Nat.zero_testBit]
  cases hm : m.testBit j with
  | false => simp
  | true => rw [ex_free ha m hm, fa_free ha m hm]; rfl
end Bd
end Go.Proofs.YtalnhlebgofiiaaGreatDoor
namespace Go.Proofs.YtalnhlebgofiiaaGreatDoor
open Go.RowKit Go.Shelf
open Bd

/-- an operation of a script, as numbers -/
structure OpD where
  d : Nat
  rel : Nat
  a : Nat
  b : Nat
  c : Nat
  i : Int
  j : Int
  on : Bool
  f : Nat
  g : Nat
  l : List Int
  bound : Int
/-- .. within Go's bounds -/
structure OpD.Fits (x : OpD) : Prop where
  d : x.d < 256
  rel : x.rel < 256
  a : x.a < 256
  b : x.b < 256
  c : x.c < 256
  f : x.f < 4294967296
  g : x.g < 4294967296
/-- its cells -/
abbrev opc (x : OpD) (lv : Value) : List Value := [.int .u8 (x.d : Int), .int .u8 (x.rel : Int), .int .u8 (x.a : Int), .int .u8 (x.b : Int), .int .u8 (x.c : Int), .int .i64 x.i, .int .i64 x.j, .bool x.on, .int .u32 (x.f : Int), .int .u32 (x.g : Int), lv, .int .i64 x.bound]
abbrev opv (x : OpD) (lv : Value) : Value := .agg (opc x lv).toArray
/-- a list of ints, anywhere in memory -/
def IRow (w : World) (v : Value) (l : List Int) : Prop := ∃ (a : Option Addr) (cap : Nat), v = .slice a l.length cap ∧ (a = none → cap = 0) ∧ ∀ j x, l[j]? = some x → ∃ ad, a = some ad ∧ w.cell? (ad.add j) = some (.int .i64 x)
theorem Addr.block_add (a : Addr) (j : Nat) : (a.add j).block = a.block := by unfold Addr.add; split <;> rfl
theorem IRow.kept {S : Nat → Prop} {w w' : World} {v : Value} {l : List Int} (h : IRow w v l) (fr : Fr S w w') (hS : ∀ k, k < w.heap.size → ¬ S k) : IRow w' v l := by
  obtain ⟨a, cap, rfl, h0, hc⟩ := h
  refine ⟨a, cap, rfl, h0, fun j x hx => ?_⟩
  obtain ⟨ad, h1, h2⟩ := hc j x hx
  exact ⟨ad, h1, fr.cell h2 (hS _ (lt_of_cell h2))⟩
theorem DRow.kept' {S : Nat → Prop} {w w' : World} {v : Value} {L : List B} (h : DRow w v L) (fr : Fr S w w') (hS : ∀ k, k < w.heap.size → ¬ S k) : DRow w' v L := by
  obtain ⟨a, cap, rfl, hc⟩ := h
  refine ⟨a, cap, rfl, fun k x hx => ?_⟩
  obtain ⟨b, h1, h2, h3⟩ := hc k x hx
  exact ⟨b, h1, fr.cell' h2 (hS _ (lt_of_cell h2)), fr.cell' h3 (hS _ (lt_of_cell h2))⟩

/-- what an operation makes of the sets before it -/
noncomputable def opS (x : OpD) (s : List B) (A B1 C : B) : Nat → B
  | 1 => .T
  | 2 => if 0 ≤ x.i ∧ x.i < 24 then cubeB (2 ^ x.i.toNat) 0 else .F
  | 3 => cubeB x.f x.g
  | 4 => A.neg
  | 5 => ite A B1 .F
  | 6 => ite A .T B1
  | 7 => ite A B1.neg B1
  | 8 => ite A B1 C
  | 9 => withI A x.i x.on
  | 10 => exL (ints (featL x.f)) A
  | 11 => faL (ints (featL x.f)) A
  | 12 => costB (cwM (ints (featL x.f))) x.i x.j 24 0
  | 13 => linB x.l x.rel x.bound
  | 14 => andL s
  | 15 => orL s
  | _ => .F
noncomputable def opB (x : OpD) (s : List B) : B := opS x s (s.getD (x.a % s.length) .F) (s.getD (x.b % s.length) .F) (s.getD (x.c % s.length) .F) x.d
def opE (x : OpD) : Int := if x.d = 2 then (if 0 ≤ x.i ∧ x.i < 24 then 0 else 3) else if x.d = 13 then linE x.l x.rel else 0
theorem ok_getD {s : List B} (h : ∀ y ∈ s, y.ok 0) (k : Nat) : (s.getD k .F).ok 0 := by
  rw [List.getD_eq_getElem?_getD]
  cases e : s[k]? with
  | none => trivial
  | some y => exact h y (List.mem_of_getElem? e)
theorem ok_opS (x : OpD) (s : List B) {A B1 C : B} (hA : A.ok 0) (d : Nat) : (opS x s A B1 C d).ok 0 := by
  unfold opS
  split
  all_goals first | trivial | exact ok_cubeB _ _ | exact ok_neg hA | exact ok_ite0 _ _ _ | exact ok_withI hA _ _ | exact ok_exL hA _ | exact ok_faL hA _ | exact ok_costB0 _ _ _ _ _ | exact ok_linB _ _ _ | exact ok_andL _ | exact ok_orL _ | (split <;> first | exact ok_cubeB _ _ | trivial)
theorem ok_opB (x : OpD) {s : List B} (h : ∀ y ∈ s, y.ok 0) : (opB x s).ok 0 := ok_opS x s (ok_getD h _) _
theorem getD_some {s : List B} {k : Nat} (h : k < s.length) : s[k]? = some (s.getD k .F) := by simp [h]
theorem tmod_nat (a n : Nat) : (a : Int).tmod (n : Int) = ((a % n : Nat) : Int) := (Int.ofNat_tmod a n).symm

theorem opS_else {x : OpD} {s : List B} {A B1 C : B} (h : ¬ (x.d = 1 ∨ x.d = 2 ∨ x.d = 3 ∨ x.d = 4 ∨ x.d = 5 ∨ x.d = 6 ∨ x.d = 7 ∨ x.d = 8 ∨ x.d = 9 ∨ x.d = 10 ∨ x.d = 11 ∨ x.d = 12 ∨ x.d = 13 ∨ x.d = 14 ∨ x.d = 15)) : opS x s A B1 C x.d = .F := by
  unfold opS
  split <;> first | rfl | (exfalso; omega)
/-- the result is laid behind a call -/
theorem one_end {w wc w4 : World} {g : Nat} {a b : Value} (frw : Fr nob w wc) (rb : Box2 wc g a b) (hb : Below wc.heap.size wc w4) (hg : w.heap.size ≤ g) (u v : Value) :
    Box2 ((w4.setCell ⟨g, 0, none⟩ u).setCell ⟨g, 1, none⟩ v) g u v ∧ Below w.heap.size w ((w4.setCell ⟨g, 0, none⟩ u).setCell ⟨g, 1, none⟩ v) := by
  have b4 := rb.kept ((Fr.refl nob wc).below hb) (fun h => h)
  exact ⟨(b4.set u v).1, (((frw.below hb).set1 hg _).set1 hg _).to_below (Nat.le_refl _) (fun _ h => h.elim)⟩
/-- three new variables in a row, and an order drawn -/
theorem box3 (W : World) (a b c d e f : Value) (T : TypeId) :
    Box2 (((W.alloc (.cells #[a, b] T)).alloc (.cells #[c, d] T)).alloc (.cells #[e, f] T)).drew W.heap.size a b ∧
    Box2 (((W.alloc (.cells #[a, b] T)).alloc (.cells #[c, d] T)).alloc (.cells #[e, f] T)).drew (W.heap.size + 1) c d ∧
    Box2 (((W.alloc (.cells #[a, b] T)).alloc (.cells #[c, d] T)).alloc (.cells #[e, f] T)).drew (W.heap.size + 1 + 1) e f := by
  have h2 := Box2.new (W.alloc (.cells #[a, b] T)) c d T
  have h3 := Box2.new ((W.alloc (.cells #[a, b] T)).alloc (.cells #[c, d] T)) e f T
  simp only [World.size_alloc] at h2 h3
  refine ⟨((Box2.new W a b T).kept (S := nob) ((((Fr.refl nob _).alloc _).alloc _).drew) (fun h => h)), h2.kept (S := nob) (((Fr.refl nob _).alloc _).drew) (fun h => h), h3.kept (S := nob) ((Fr.refl nob _).drew) (fun h => h)⟩

theorem info_64 : (Tryz.prog.info? 2).map (fun i => (i.zero, i.size, i.bytes)) = some (some (.int .i64 0), 1, 8) := by kernel_rfl
/-- append([]int64(nil), l...): a row of one's own -/
theorem copyI (w : World) (al : Option Addr) (l : List Int) (cap : Nat) (hl : l.length ≤ 1048576) (h : IRow w (.slice al l.length cap) l) :
    ∃ v w', (Builtin.append_ #[24, 24] 24 #[.slice none 0 0, .slice al l.length cap]).run Tryz.prog w = .ok v w' ∧ SRow w' v (l.map (Value.int .i64)) ∧ Fr nob w w' := by
  obtain ⟨a, cap', e, h0, hc⟩ := h
  have e1 : a = al := by simp only [Value.slice.injEq] at e; exact e.1.symm
  have e2 : cap' = cap := by simp only [Value.slice.injEq] at e; exact e.2.2.symm
  subst e1 e2
  clear e
  cases a with
  | none =>
    obtain rfl := h0 rfl
    have hn : l = [] := by
      cases l with
      | nil => rfl
      | cons x t => obtain ⟨ad, h1, _⟩ := hc 0 x rfl; cases h1
    subst hn
    refine ⟨.slice none 0 0, w, ?_, ⟨none, 0, rfl, fun j u hj => by simp at hj⟩, Fr.refl _ _⟩
    obtain ⟨i, hi, _⟩ := Option.map_eq_some_iff.1 info_64
    simp [Builtin.append_, run_underlying (show Tryz.prog.underlying 24 = some (.slice 2) from Tryz.underlying24), sizeOf, typeInfo, hi, Builtin.lenOf, Builtin.firstCells]
  | some ad =>
    obtain ⟨i, hi, hie⟩ := Option.map_eq_some_iff.1 info_64
    simp only [Prod.mk.injEq] at hie
    obtain ⟨hz, hsz, hby⟩ := hie
    obtain ⟨v', w', hrun, r1, r2, _⟩ := run_append_own (P := Tryz.prog) w w.heap.size 24 24 2 i (.int .i64 0) 1 8 Tryz.underlying24 hi hz hsz hby rfl (by decide) (.slice none 0 0) 0 [] (World.ownsRow_nil w _ _ _) ad l.length cap' (l.map (Value.int .i64)) (by simp)
      (fun j u hj => by
        rw [List.getElem?_map] at hj
        obtain ⟨x, hx, rfl⟩ := Option.map_eq_some_iff.1 hj
        obtain ⟨ad', h1, h2⟩ := hc j x hx
        cases h1
        exact h2)
      (fun u hu => by obtain ⟨x, _, rfl⟩ := List.mem_map.1 hu; rfl) (by unfold maxLen; omega) (by omega) (Nat.le_refl _)
    rw [List.nil_append] at r1
    exact ⟨v', w', hrun, SRow.of_own r1, (Fr.refl nob w).grown r2 (fun k hk => by cases hk)⟩

end Go.Proofs.YtalnhlebgofiiaaGreatDoor
namespace Go.Proofs.YtalnhlebgofiiaaGreatDoor
open Go.RowKit Go.Shelf
open Bd

set_option maxRecDepth 100000 in
set_option maxHeartbeats 4000000 in
/-- ONE: what an operation of a script makes. -/
theorem one_in (x : OpD) (hx : x.Fits) (lv sv : Value) (s : List B) (hs : 0 < s.length) (hs2 : s.length ≤ 65536) (hok : ∀ y ∈ s, y.ok 0) (hll : x.l.length ≤ 1048576) (w : World) (hrow : DRow w sv s) (hil : IRow w lv x.l) (hg : 0 < w.heap.size) (hT : Tab32 w) (rb : B) (re : Int) (hrb : opB x s = rb) (hre : opE x = re) :
    Calls Tryz.prog 36 #[opv x lv, sv] w fun e w' => e = .returned (.tuple #[dval rb, .int .i64 re]) ∧ Below w.heap.size w w' := by
  obtain ⟨av, cap, rfl⟩ := hrow.form
  obtain ⟨al, capl, rfl, hl0, hlc⟩ := hil
  have hil' : IRow w (.slice al x.l.length capl) x.l := ⟨al, capl, rfl, hl0, hlc⟩
  clear hl0 hlc
  go_enter Tryz.func36, Tryz.ntmps36
  go_upto_region 1 with fail
  have box := heap_alloc_new w (.cells (opc x (.slice al x.l.length capl)).toArray 60)
  have box2 := ((Fr.refl nob _).alloc (.cells #[.int .u32 0, .string ⟨#[]⟩] 32)).block w.heap.size (by simp) (fun h => h) |>.trans box
  have rb0 := Box2.of_heap (heap_alloc_new (w.alloc (.cells (opc x (.slice al x.l.length capl)).toArray 60)) (.cells #[.int .u32 0, .string ⟨#[]⟩] 32))
  simp only [World.size_alloc] at rb0
  have fr0 : Fr nob w ((w.alloc (.cells (opc x (.slice al x.l.length capl)).toArray 60)).alloc (.cells #[.int .u32 0, .string ⟨#[]⟩] 32)) := ((Fr.refl nob w).alloc _).alloc _
  generalize ((w.alloc (.cells (opc x (.slice al x.l.length capl)).toArray 60)).alloc (.cells #[.int .u32 0, .string ⟨#[]⟩] 32)) = W at *
  have hk : ∀ j u, (opc x (.slice al x.l.length capl))[j]? = some u → W.cell? ⟨w.heap.size, j, none⟩ = some u := fun j u h => by rw [cell_of_row W w.heap.size j _ _ (0, 0) box2]; simpa using h
  have k2 := hk 2 _ rfl
  have k3 := hk 3 _ rfl
  have k4 := hk 4 _ rfl
  obtain ⟨ia, hia⟩ : ∃ ia, ia = x.a % s.length := ⟨_, rfl⟩
  obtain ⟨ib, hib⟩ : ∃ ib, ib = x.b % s.length := ⟨_, rfl⟩
  obtain ⟨ic, hic⟩ : ∃ ic, ic = x.c % s.length := ⟨_, rfl⟩
  have la : ia < s.length := by rw [hia]; exact Nat.mod_lt _ hs
  have lb : ib < s.length := by rw [hib]; exact Nat.mod_lt _ hs
  have lc : ic < s.length := by rw [hic]; exact Nat.mod_lt _ hs
  have hma := tmod_nat x.a s.length
  have hmb := tmod_nat x.b s.length
  have hmc := tmod_nat x.c s.length
  rw [← hia] at hma
  rw [← hib] at hmb
  rw [← hic] at hmc
  have HMa := Lib.hid hma
  have HMb := Lib.hid hmb
  have HMc := Lib.hid hmc
  have HLa := Lib.hid (show (ia : Int) < (s.length : Int) by omega)
  have HLb := Lib.hid (show (ib : Int) < (s.length : Int) by omega)
  have HLc := Lib.hid (show (ic : Int) < (s.length : Int) by omega)
  have HN0 := Lib.hid (show ((s.length : Int) == 0) = false by simp only [beq_eq_false_iff_ne]; omega)
  have HNE := Lib.hid (show ¬ s = [] by intro e; rw [e] at hs; simp at hs)
  have HWa := Lib.hid (show IntKind.i64.wrap (x.a : Int) = (x.a : Int) by have := hx.a; rw [IntKind.wrap_i64]; omega)
  have HWb := Lib.hid (show IntKind.i64.wrap (x.b : Int) = (x.b : Int) by have := hx.b; rw [IntKind.wrap_i64]; omega)
  have HWc := Lib.hid (show IntKind.i64.wrap (x.c : Int) = (x.c : Int) by have := hx.c; rw [IntKind.wrap_i64]; omega)
  have hrow2 := hrow.kept' fr0 (fun _ _ h => h)
  obtain ⟨gs, rfl, da0, da1⟩ := hrow2.at (getD_some la)
  obtain ⟨gs', hgs', db0, db1⟩ := hrow2.at (getD_some lb)
  obtain rfl : gs = gs' := by cases hgs'; rfl
  obtain ⟨gs', hgs', dc0, dc1⟩ := hrow2.at (getD_some lc)
  obtain rfl : gs = gs' := by cases hgs'; rfl
  unfold opB at hrb
  rw [← hia, ← hib, ← hic] at hrb
  have okA := ok_getD hok ia
  have okB := ok_getD hok ib
  have okC := ok_getD hok ic
  obtain ⟨A, hA⟩ : ∃ A, A = s.getD ia .F := ⟨_, rfl⟩
  obtain ⟨B1, hB1⟩ : ∃ B1, B1 = s.getD ib .F := ⟨_, rfl⟩
  obtain ⟨C, hC⟩ : ∃ C, C = s.getD ic .F := ⟨_, rfl⟩
  rw [← hA] at hrb okA da0 da1
  rw [← hB1] at hrb okB db0 db1
  rw [← hC] at hrb okC dc0 dc1
  have HRB := Lib.hid hrb
  have HRE := Lib.hid hre
  have HROW := Lib.hid hrow2
  have HK := Lib.hid hk
  have HIL := Lib.hid (hil'.kept fr0 (fun _ _ h => h))
  have HOK := Lib.hid hok
  have HX := Lib.hid hx
  have HT2 := Lib.hid (hT.below (fr0.to_below (B := w.heap.size) (Nat.le_refl _) (fun _ h => h.elim)) hg)
  have hg2 : 0 < W.heap.size := Nat.lt_of_lt_of_le hg fr0.size
  clear hrb hre hrow2 hk hok hA hB1 hC hia hib hic hma hmb hmc hgs' hil' hrow box box2 la lb lc hx hT
  have HFR0 := Lib.hid fr0
  have rbl := rb0.lt
  have gl : gs < W.heap.size := lt_of_cell da0
  have wl : w.heap.size < W.heap.size := lt_of_cell k2
  clear fr0
  go_cut [6, 7, 8] (fun s6 s7 s8 wx => ∃ g6 g7 g8, s6 = .pointer (some ⟨g6, 0, none⟩) ∧ s7 = .pointer (some ⟨g7, 0, none⟩) ∧ s8 = .pointer (some ⟨g8, 0, none⟩) ∧ Fr nob W wx ∧ Box2 wx g6 (.int .u32 (place (li A) A : Int)) (.string ⟨(code (rows (li A))).toArray⟩) ∧ Box2 wx g7 (.int .u32 (place (li B1) B1 : Int)) (.string ⟨(code (rows (li B1))).toArray⟩) ∧ Box2 wx g8 (.int .u32 (place (li C) C : Int)) (.string ⟨(code (rows (li C))).toArray⟩))
  case first =>
    have y1 := HMa.out
    have y2 := HMb.out
    have y3 := HMc.out
    have y4 := HLa.out
    have y5 := HLb.out
    have y6 := HLc.out
    have y7 := HN0.out
    have y8 := HNE.out
    have y9 := HWa.out
    have y10 := HWb.out
    have y11 := HWc.out
    have u1 : (0 : Int) ≤ (ia : Int) := Int.natCast_nonneg _
    have u2 : (0 : Int) ≤ (ib : Int) := Int.natCast_nonneg _
    have u3 : (0 : Int) ≤ (ic : Int) := Int.natCast_nonneg _
    have keepS : ∀ w', Fr nob W w' → (w'.cell? ⟨w.heap.size, 2, none⟩ = some (.int .u8 (x.a : Int)) ∧ w'.cell? ⟨w.heap.size, 3, none⟩ = some (.int .u8 (x.b : Int)) ∧ w'.cell? ⟨w.heap.size, 4, none⟩ = some (.int .u8 (x.c : Int)) ∧
        w'.cell? ⟨gs, ia * 2, none⟩ = some (.int .u32 (place (li A) A : Int)) ∧ w'.cell? ⟨gs, ia * 2 + 1, none⟩ = some (.string ⟨(code (rows (li A))).toArray⟩) ∧ w'.cell? ⟨gs, ib * 2, none⟩ = some (.int .u32 (place (li B1) B1 : Int)) ∧ w'.cell? ⟨gs, ib * 2 + 1, none⟩ = some (.string ⟨(code (rows (li B1))).toArray⟩) ∧
        w'.cell? ⟨gs, ic * 2, none⟩ = some (.int .u32 (place (li C) C : Int)) ∧ w'.cell? ⟨gs, ic * 2 + 1, none⟩ = some (.string ⟨(code (rows (li C))).toArray⟩)) := fun w' f => ⟨f.cell k2 (fun h => h), f.cell k3 (fun h => h), f.cell k4 (fun h => h), f.cell da0 (fun h => h), f.cell da1 (fun h => h), f.cell db0 (fun h => h), f.cell db1 (fun h => h), f.cell dc0 (fun h => h), f.cell dc1 (fun h => h)⟩
    clear rb0 rbl okA okB okC
    go_region_held3? (fun w' => w'.cell? ⟨w.heap.size, 2, none⟩ = some (.int .u8 (x.a : Int)) ∧ w'.cell? ⟨w.heap.size, 3, none⟩ = some (.int .u8 (x.b : Int)) ∧ w'.cell? ⟨w.heap.size, 4, none⟩ = some (.int .u8 (x.c : Int)) ∧
        w'.cell? ⟨gs, ia * 2, none⟩ = some (.int .u32 (place (li A) A : Int)) ∧ w'.cell? ⟨gs, ia * 2 + 1, none⟩ = some (.string ⟨(code (rows (li A))).toArray⟩) ∧ w'.cell? ⟨gs, ib * 2, none⟩ = some (.int .u32 (place (li B1) B1 : Int)) ∧ w'.cell? ⟨gs, ib * 2 + 1, none⟩ = some (.string ⟨(code (rows (li B1))).toArray⟩) ∧
        w'.cell? ⟨gs, ic * 2, none⟩ = some (.int .u32 (place (li C) C : Int)) ∧ w'.cell? ⟨gs, ic * 2 + 1, none⟩ = some (.string ⟨(code (rows (li C))).toArray⟩))
      (first | exact keepS _ (Fr.refl nob W) | exact keepS _ (Fr.refl nob W).drew | exact keepS _ ((Fr.refl nob W).alloc _) | exact keepS _ ((Fr.refl nob W).alloc _).drew | exact keepS _ (((Fr.refl nob W).alloc _).alloc _) | exact keepS _ (((Fr.refl nob W).alloc _).alloc _).drew | exact keepS _ ((((Fr.refl nob W).alloc _).alloc _).alloc _) | exact keepS _ ((((Fr.refl nob W).alloc _).alloc _).alloc _).drew | go_keep)
      (first | fail)
    all_goals (go_wp2_with fail)
    all_goals go_meet
    all_goals first
      | exact ⟨_, _, _, rfl, rfl, rfl, (((Fr.refl nob W).alloc _).alloc _).alloc _ |>.drew, (box3 W _ _ _ _ _ _ _).1, (box3 W _ _ _ _ _ _ _).2.1, (box3 W _ _ _ _ _ _ _).2.2⟩
      | exact ⟨_, _, _, rfl, rfl, rfl, (((Fr.refl nob W).alloc _).alloc _).alloc _ |>.drew, (box3 W _ _ _ _ _ _ _).1, (box3 W _ _ _ _ _ _ _).2.2, (box3 W _ _ _ _ _ _ _).2.1⟩
      | exact ⟨_, _, _, rfl, rfl, rfl, (((Fr.refl nob W).alloc _).alloc _).alloc _ |>.drew, (box3 W _ _ _ _ _ _ _).2.1, (box3 W _ _ _ _ _ _ _).1, (box3 W _ _ _ _ _ _ _).2.2⟩
      | exact ⟨_, _, _, rfl, rfl, rfl, (((Fr.refl nob W).alloc _).alloc _).alloc _ |>.drew, (box3 W _ _ _ _ _ _ _).2.1, (box3 W _ _ _ _ _ _ _).2.2, (box3 W _ _ _ _ _ _ _).1⟩
      | exact ⟨_, _, _, rfl, rfl, rfl, (((Fr.refl nob W).alloc _).alloc _).alloc _ |>.drew, (box3 W _ _ _ _ _ _ _).2.2, (box3 W _ _ _ _ _ _ _).1, (box3 W _ _ _ _ _ _ _).2.1⟩
      | exact ⟨_, _, _, rfl, rfl, rfl, (((Fr.refl nob W).alloc _).alloc _).alloc _ |>.drew, (box3 W _ _ _ _ _ _ _).2.2, (box3 W _ _ _ _ _ _ _).2.1, (box3 W _ _ _ _ _ _ _).1⟩
  case rest =>
    obtain ⟨g6, g7, g8, rfl, rfl, rfl, frx, b6, b7, b8⟩ := hcut
    have hk := fun j u h => frx.cell (HK.out j u h) (fun h => h)
    have q0 := hk 0 _ rfl
    have q1 := hk 1 _ rfl
    have q5 := hk 5 _ rfl
    have q6 := hk 6 _ rfl
    have q7 := hk 7 _ rfl
    have q8 := hk 8 _ rfl
    have q9 := hk 9 _ rfl
    have q10 := hk 10 _ rfl
    have q11 := hk 11 _ rfl
    have rbx := rb0.kept frx (fun h => h)
    have frw := HFR0.out.trans frx (fun _ _ h => h)
    have ⟨a0, a1, _⟩ := b6
    have ⟨c0, c1, _⟩ := b7
    have ⟨d0, d1, _⟩ := b8
    have ⟨r0, r1, rf⟩ := rbx
    have rf0 := rf 0
    have rf1 := rf 1
    clear rf rb0 k2 k3 k4 da0 da1 db0 db1 dc0 dc1 hk
    have hX := HX.out
    have hgc : 0 < wc.heap.size := Nat.lt_of_lt_of_le hg2 frx.size
    have HTc := Lib.hid (HT2.out.below (frx.to_below (B := W.heap.size) (Nat.le_refl _) (fun _ h => h.elim)) hg2)
    clear b6 b7 b8
    go_wp2_with fail
    · have hd : x.d = 1 := by
        simp only [beq_iff_eq] at *
        omega
      have E1 := Lib.hid (show rb = .T by rw [← HRB.out, hd]; rfl)
      have E2 := Lib.hid (show re = 0 by rw [← HRE.out]; simp [opE, hd])
      refine (True_any wc).mono ?_
      rintro e w4 ⟨rfl, hb4⟩
      have ⟨s0, s1, sf⟩ := rbx.kept ((Fr.refl nob wc).below hb4) (fun h => h)
      have sf0 := sf 0
      have sf1 := sf 1
      obtain ⟨⟨z0, z1, _⟩, HB⟩ := one_end frw rbx hb4 (Nat.le_succ _) (.int .u32 (place (li (.T)) (.T) : Int)) (.string ⟨(code (rows (li (.T)))).toArray⟩)
      have HBB := Lib.hid HB
      clear sf r0 r1 rf0 rf1 HB rbx
      go_wp2_with fail
      exact bodyPost_ret (v := .tuple #[dval (.T), .int .i64 0]) (by simp [results, Tryz.results36, go_sem, dval, z0, z1]) rfl ⟨by rw [E1.out, E2.out], HBB.out⟩
    · have hd : x.d = 2 := by
        simp only [beq_iff_eq, beq_eq_false_iff_ne] at *
        omega
      have E0 : rb = if 0 ≤ x.i ∧ x.i < 24 then cubeB (2 ^ x.i.toNat) 0 else .F := by rw [← HRB.out, hd]; rfl
      have E3 : re = if 0 ≤ x.i ∧ x.i < 24 then 0 else 3 := by rw [← HRE.out]; simp [opE, hd]
      by_cases hi : 0 ≤ x.i ∧ x.i < 24
      · have E1 := Lib.hid (E0.trans (if_pos hi))
        have E2 := Lib.hid (E3.trans (if_pos hi))
        clear E0 E3
        have law := Var_yes x.i.toNat (by omega) wc
        rw [Int.toNat_of_nonneg hi.1] at law
        refine law.mono ?_
        clear law
        rintro e w4 ⟨rfl, hb4⟩
        have ⟨s0, s1, sf⟩ := rbx.kept ((Fr.refl nob wc).below hb4) (fun h => h)
        have sf0 := sf 0
        have sf1 := sf 1
        obtain ⟨⟨z0, z1, _⟩, HB⟩ := one_end frw rbx hb4 (Nat.le_succ _) (.int .u32 (place (li (cubeB (2 ^ x.i.toNat) 0)) (cubeB (2 ^ x.i.toNat) 0) : Int)) (.string ⟨(code (rows (li (cubeB (2 ^ x.i.toNat) 0)))).toArray⟩)
        have HBB := Lib.hid HB
        clear sf r0 r1 rf0 rf1 HB rbx
        go_wp2_with fail
        exact bodyPost_ret (v := .tuple #[dval (cubeB (2 ^ x.i.toNat) 0), .int .i64 0]) (by simp [results, Tryz.results36, go_sem, dval, z0, z1]) rfl ⟨by rw [E1.out, E2.out], HBB.out⟩
      · have E1 := Lib.hid (E0.trans (if_neg hi))
        have E2 := Lib.hid (E3.trans (if_neg hi))
        clear E0 E3
        refine (Var_no x.i (by omega) wc).mono ?_
        rintro e w4 ⟨rfl, hb4⟩
        have ⟨s0, s1, sf⟩ := rbx.kept ((Fr.refl nob wc).below hb4) (fun h => h)
        have sf0 := sf 0
        have sf1 := sf 1
        obtain ⟨⟨z0, z1, _⟩, HB⟩ := one_end frw rbx hb4 (Nat.le_succ _) (.int .u32 (place (li (.F)) (.F) : Int)) (.string ⟨(code (rows (li (.F)))).toArray⟩)
        have HBB := Lib.hid HB
        clear sf r0 r1 rf0 rf1 HB rbx
        go_wp2_with fail
        exact bodyPost_ret (v := .tuple #[dval (.F), .int .i64 3]) (by simp [results, Tryz.results36, go_sem, dval, z0, z1]) rfl ⟨by rw [E1.out, E2.out], HBB.out⟩
    · have hd : x.d = 3 := by
        simp only [beq_iff_eq, beq_eq_false_iff_ne] at *
        omega
      have E1 := Lib.hid (show rb = cubeB x.f x.g by rw [← HRB.out, hd]; rfl)
      have E2 := Lib.hid (show re = 0 by rw [← HRE.out]; simp [opE, hd])
      refine (Cube_any x.f x.g hX.f hX.g wc).mono ?_
      rintro e w4 ⟨rfl, hb4⟩
      have ⟨s0, s1, sf⟩ := rbx.kept ((Fr.refl nob wc).below hb4) (fun h => h)
      have sf0 := sf 0
      have sf1 := sf 1
      obtain ⟨⟨z0, z1, _⟩, HB⟩ := one_end frw rbx hb4 (Nat.le_succ _) (.int .u32 (place (li (cubeB x.f x.g)) (cubeB x.f x.g) : Int)) (.string ⟨(code (rows (li (cubeB x.f x.g)))).toArray⟩)
      have HBB := Lib.hid HB
      clear sf r0 r1 rf0 rf1 HB rbx
      go_wp2_with fail
      exact bodyPost_ret (v := .tuple #[dval (cubeB x.f x.g), .int .i64 0]) (by simp [results, Tryz.results36, go_sem, dval, z0, z1]) rfl ⟨by rw [E1.out, E2.out], HBB.out⟩
    · have hd : x.d = 4 := by
        simp only [beq_iff_eq, beq_eq_false_iff_ne] at *
        omega
      have E1 := Lib.hid (show rb = A.neg by rw [← HRB.out, hd]; rfl)
      have E2 := Lib.hid (show re = 0 by rw [← HRE.out]; simp [opE, hd])
      refine (Not_any A okA wc).mono ?_
      rintro e w4 ⟨rfl, hb4⟩
      have ⟨s0, s1, sf⟩ := rbx.kept ((Fr.refl nob wc).below hb4) (fun h => h)
      have sf0 := sf 0
      have sf1 := sf 1
      obtain ⟨⟨z0, z1, _⟩, HB⟩ := one_end frw rbx hb4 (Nat.le_succ _) (.int .u32 (place (li (A.neg)) (A.neg) : Int)) (.string ⟨(code (rows (li (A.neg)))).toArray⟩)
      have HBB := Lib.hid HB
      clear sf r0 r1 rf0 rf1 HB rbx
      go_wp2_with fail
      exact bodyPost_ret (v := .tuple #[dval (A.neg), .int .i64 0]) (by simp [results, Tryz.results36, go_sem, dval, z0, z1]) rfl ⟨by rw [E1.out, E2.out], HBB.out⟩
    · have hd : x.d = 5 := by
        simp only [beq_iff_eq, beq_eq_false_iff_ne] at *
        omega
      have E1 := Lib.hid (show rb = ite A B1 .F by rw [← HRB.out, hd]; rfl)
      have E2 := Lib.hid (show re = 0 by rw [← HRE.out]; simp [opE, hd])
      refine (And_any A B1 okA okB wc).mono ?_
      rintro e w4 ⟨rfl, hb4⟩
      have ⟨s0, s1, sf⟩ := rbx.kept ((Fr.refl nob wc).below hb4) (fun h => h)
      have sf0 := sf 0
      have sf1 := sf 1
      obtain ⟨⟨z0, z1, _⟩, HB⟩ := one_end frw rbx hb4 (Nat.le_succ _) (.int .u32 (place (li (ite A B1 .F)) (ite A B1 .F) : Int)) (.string ⟨(code (rows (li (ite A B1 .F)))).toArray⟩)
      have HBB := Lib.hid HB
      clear sf r0 r1 rf0 rf1 HB rbx
      go_wp2_with fail
      exact bodyPost_ret (v := .tuple #[dval (ite A B1 .F), .int .i64 0]) (by simp [results, Tryz.results36, go_sem, dval, z0, z1]) rfl ⟨by rw [E1.out, E2.out], HBB.out⟩
    · have hd : x.d = 6 := by
        simp only [beq_iff_eq, beq_eq_false_iff_ne] at *
        omega
      have E1 := Lib.hid (show rb = ite A .T B1 by rw [← HRB.out, hd]; rfl)
      have E2 := Lib.hid (show re = 0 by rw [← HRE.out]; simp [opE, hd])
      refine (Or_any A B1 okA okB wc).mono ?_
      rintro e w4 ⟨rfl, hb4⟩
      have ⟨s0, s1, sf⟩ := rbx.kept ((Fr.refl nob wc).below hb4) (fun h => h)
      have sf0 := sf 0
      have sf1 := sf 1
      obtain ⟨⟨z0, z1, _⟩, HB⟩ := one_end frw rbx hb4 (Nat.le_succ _) (.int .u32 (place (li (ite A .T B1)) (ite A .T B1) : Int)) (.string ⟨(code (rows (li (ite A .T B1)))).toArray⟩)
      have HBB := Lib.hid HB
      clear sf r0 r1 rf0 rf1 HB rbx
      go_wp2_with fail
      exact bodyPost_ret (v := .tuple #[dval (ite A .T B1), .int .i64 0]) (by simp [results, Tryz.results36, go_sem, dval, z0, z1]) rfl ⟨by rw [E1.out, E2.out], HBB.out⟩
    · have hd : x.d = 7 := by
        simp only [beq_iff_eq, beq_eq_false_iff_ne] at *
        omega
      have E1 := Lib.hid (show rb = ite A B1.neg B1 by rw [← HRB.out, hd]; rfl)
      have E2 := Lib.hid (show re = 0 by rw [← HRE.out]; simp [opE, hd])
      refine (Xor_any A B1 okA okB wc).mono ?_
      rintro e w4 ⟨rfl, hb4⟩
      have ⟨s0, s1, sf⟩ := rbx.kept ((Fr.refl nob wc).below hb4) (fun h => h)
      have sf0 := sf 0
      have sf1 := sf 1
      obtain ⟨⟨z0, z1, _⟩, HB⟩ := one_end frw rbx hb4 (Nat.le_succ _) (.int .u32 (place (li (ite A B1.neg B1)) (ite A B1.neg B1) : Int)) (.string ⟨(code (rows (li (ite A B1.neg B1)))).toArray⟩)
      have HBB := Lib.hid HB
      clear sf r0 r1 rf0 rf1 HB rbx
      go_wp2_with fail
      exact bodyPost_ret (v := .tuple #[dval (ite A B1.neg B1), .int .i64 0]) (by simp [results, Tryz.results36, go_sem, dval, z0, z1]) rfl ⟨by rw [E1.out, E2.out], HBB.out⟩
    · have hd : x.d = 8 := by
        simp only [beq_iff_eq, beq_eq_false_iff_ne] at *
        omega
      have E1 := Lib.hid (show rb = ite A B1 C by rw [← HRB.out, hd]; rfl)
      have E2 := Lib.hid (show re = 0 by rw [← HRE.out]; simp [opE, hd])
      refine (Ite_any A B1 C okA okB okC wc).mono ?_
      rintro e w4 ⟨rfl, hb4⟩
      have ⟨s0, s1, sf⟩ := rbx.kept ((Fr.refl nob wc).below hb4) (fun h => h)
      have sf0 := sf 0
      have sf1 := sf 1
      obtain ⟨⟨z0, z1, _⟩, HB⟩ := one_end frw rbx hb4 (Nat.le_succ _) (.int .u32 (place (li (ite A B1 C)) (ite A B1 C) : Int)) (.string ⟨(code (rows (li (ite A B1 C)))).toArray⟩)
      have HBB := Lib.hid HB
      clear sf r0 r1 rf0 rf1 HB rbx
      go_wp2_with fail
      exact bodyPost_ret (v := .tuple #[dval (ite A B1 C), .int .i64 0]) (by simp [results, Tryz.results36, go_sem, dval, z0, z1]) rfl ⟨by rw [E1.out, E2.out], HBB.out⟩
    · have hd : x.d = 9 := by
        simp only [beq_iff_eq, beq_eq_false_iff_ne] at *
        omega
      have E1 := Lib.hid (show rb = withI A x.i x.on by rw [← HRB.out, hd]; rfl)
      have E2 := Lib.hid (show re = 0 by rw [← HRE.out]; simp [opE, hd])
      refine (With_any A okA x.i x.on wc).mono ?_
      rintro e w4 ⟨rfl, hb4⟩
      have ⟨s0, s1, sf⟩ := rbx.kept ((Fr.refl nob wc).below hb4) (fun h => h)
      have sf0 := sf 0
      have sf1 := sf 1
      obtain ⟨⟨z0, z1, _⟩, HB⟩ := one_end frw rbx hb4 (Nat.le_succ _) (.int .u32 (place (li (withI A x.i x.on)) (withI A x.i x.on) : Int)) (.string ⟨(code (rows (li (withI A x.i x.on)))).toArray⟩)
      have HBB := Lib.hid HB
      clear sf r0 r1 rf0 rf1 HB rbx
      go_wp2_with fail
      exact bodyPost_ret (v := .tuple #[dval (withI A x.i x.on), .int .i64 0]) (by simp [results, Tryz.results36, go_sem, dval, z0, z1]) rfl ⟨by rw [E1.out, E2.out], HBB.out⟩
    · have hd : x.d = 10 := by
        simp only [beq_iff_eq, beq_eq_false_iff_ne] at *
        omega
      have E1 := Lib.hid (show rb = exL (ints (featL x.f)) A by rw [← HRB.out, hd]; rfl)
      have E2 := Lib.hid (show re = 0 by rw [← HRE.out]; simp [opE, hd])
      refine (Exists_any A okA x.f hX.f wc hgc HTc.out).mono ?_
      rintro e w4 ⟨rfl, hb4⟩
      have ⟨s0, s1, sf⟩ := rbx.kept ((Fr.refl nob wc).below hb4) (fun h => h)
      have sf0 := sf 0
      have sf1 := sf 1
      obtain ⟨⟨z0, z1, _⟩, HB⟩ := one_end frw rbx hb4 (Nat.le_succ _) (.int .u32 (place (li (exL (ints (featL x.f)) A)) (exL (ints (featL x.f)) A) : Int)) (.string ⟨(code (rows (li (exL (ints (featL x.f)) A)))).toArray⟩)
      have HBB := Lib.hid HB
      clear sf r0 r1 rf0 rf1 HB rbx
      go_wp2_with fail
      exact bodyPost_ret (v := .tuple #[dval (exL (ints (featL x.f)) A), .int .i64 0]) (by simp [results, Tryz.results36, go_sem, dval, z0, z1]) rfl ⟨by rw [E1.out, E2.out], HBB.out⟩
    · have hd : x.d = 11 := by
        simp only [beq_iff_eq, beq_eq_false_iff_ne] at *
        omega
      have E1 := Lib.hid (show rb = faL (ints (featL x.f)) A by rw [← HRB.out, hd]; rfl)
      have E2 := Lib.hid (show re = 0 by rw [← HRE.out]; simp [opE, hd])
      refine (Forall_any A okA x.f hX.f wc hgc HTc.out).mono ?_
      rintro e w4 ⟨rfl, hb4⟩
      have ⟨s0, s1, sf⟩ := rbx.kept ((Fr.refl nob wc).below hb4) (fun h => h)
      have sf0 := sf 0
      have sf1 := sf 1
      obtain ⟨⟨z0, z1, _⟩, HB⟩ := one_end frw rbx hb4 (Nat.le_succ _) (.int .u32 (place (li (faL (ints (featL x.f)) A)) (faL (ints (featL x.f)) A) : Int)) (.string ⟨(code (rows (li (faL (ints (featL x.f)) A)))).toArray⟩)
      have HBB := Lib.hid HB
      clear sf r0 r1 rf0 rf1 HB rbx
      go_wp2_with fail
      exact bodyPost_ret (v := .tuple #[dval (faL (ints (featL x.f)) A), .int .i64 0]) (by simp [results, Tryz.results36, go_sem, dval, z0, z1]) rfl ⟨by rw [E1.out, E2.out], HBB.out⟩
    · have hd : x.d = 12 := by
        simp only [beq_iff_eq, beq_eq_false_iff_ne] at *
        omega
      have E1 := Lib.hid (show rb = costB (cwM (ints (featL x.f))) x.i x.j 24 0 by rw [← HRB.out, hd]; rfl)
      have E2 := Lib.hid (show re = 0 by rw [← HRE.out]; simp [opE, hd])
      refine (Between_any x.i x.j x.f hX.f wc hgc HTc.out).mono ?_
      rintro e w4 ⟨rfl, hb4⟩
      have ⟨s0, s1, sf⟩ := rbx.kept ((Fr.refl nob wc).below hb4) (fun h => h)
      have sf0 := sf 0
      have sf1 := sf 1
      obtain ⟨⟨z0, z1, _⟩, HB⟩ := one_end frw rbx hb4 (Nat.le_succ _) (.int .u32 (place (li (costB (cwM (ints (featL x.f))) x.i x.j 24 0)) (costB (cwM (ints (featL x.f))) x.i x.j 24 0) : Int)) (.string ⟨(code (rows (li (costB (cwM (ints (featL x.f))) x.i x.j 24 0)))).toArray⟩)
      have HBB := Lib.hid HB
      clear sf r0 r1 rf0 rf1 HB rbx
      go_wp2_with fail
      exact bodyPost_ret (v := .tuple #[dval (costB (cwM (ints (featL x.f))) x.i x.j 24 0), .int .i64 0]) (by simp [results, Tryz.results36, go_sem, dval, z0, z1]) rfl ⟨by rw [E1.out, E2.out], HBB.out⟩
    · have hd : x.d = 13 := by
        simp only [beq_iff_eq, beq_eq_false_iff_ne] at *
        omega
      have E1 := Lib.hid (show rb = linB x.l x.rel x.bound by rw [← HRB.out, hd]; rfl)
      have E2 := Lib.hid (show re = linE x.l x.rel by rw [← HRE.out]; simp [opE, hd])
      generalize hLB : linB x.l x.rel x.bound = LB at *
      generalize hLE : linE x.l x.rel = LE at *
      have HLB := Lib.hid hLB
      have HLE := Lib.hid hLE
      have HIx := Lib.hid (HIL.out.kept frx (fun _ _ h => h))
      have HRX := Lib.hid rbx
      clear hLB hLE rbx r0 r1 rf0 rf1 a0 a1 c0 c1 d0 d1
      refine E.wp_region_any_call 10 130 2 (fun i => i == 7 || i == 8 || i == 9) (fun w' => Fr nob wc w') (fun v w' => Fr nob wc w' ∧ SRow w' v (x.l.map (Value.int .i64))) (fun _ => True)
        (fun _ => #[]) [] (by kernel_rfl) (by kernel_rfl) rfl (by decide) (by kernel_rfl) (by kernel_rfl) (fun _ h => h) (fun _ h => h.size) (fun _ _ h k => h.trans k (fun _ _ h => h)) ⟨undef, trivial⟩ (fun _ _ _ => trivial) (fun _ _ h => h.1.size)
        (fun _ _ _ h k => ⟨h.1.trans k (fun _ _ h => h), h.2.kept k⟩) rfl (by intro T h; cases h) ?_
      rintro v -
      simp only [List.take_succ_cons, List.take_zero]
      refine E.anyc_value (v := .pointer (some ⟨w.heap.size, 10, none⟩)) rfl rfl rfl rfl ?o0 ?_
      case o0 =>
        intro w' _
        go_simp
        try rfl
      simp only [Act.put, List.setIfInBounds_toArray, List.set_cons_zero, List.set_cons_succ]
      refine E.anyc_value (v := .slice al x.l.length capl) rfl rfl rfl rfl ?o1 ?_
      case o1 =>
        intro w' h
        have y : w'.cell? ⟨w.heap.size, 10, none⟩ = some (.slice al x.l.length capl) := h.elim (fun h => h.cell q10 (fun h => h)) (fun h => h.1.cell q10 (fun h => h))
        clear h
        go_simp
        try rfl
      simp only [Act.put, List.setIfInBounds_toArray, List.set_cons_zero, List.set_cons_succ]
      refine E.anyc_op rfl rfl rfl ?o2 ?_
      case o2 =>
        intro w' hf
        obtain ⟨v', w'', hrun, hs', fr'⟩ := copyI w' al x.l capl hll (HIx.out.kept hf (fun _ _ h => h))
        refine ⟨v', w'', ?_, ⟨hf.trans fr' (fun _ _ h => h), hs'⟩, fr'.size, fun b _ hb => fr'.block b hb (fun h => h)⟩
        simp [execOp, resolve, invoke, builtin]
        erw [hrun]
        rfl
      simp only [Act.put, List.setIfInBounds_toArray, List.set_cons_zero, List.set_cons_succ]
      refine E.anyc_value (v := .pointer (some ⟨w.heap.size, 1, none⟩)) rfl rfl rfl rfl ?o3 ?_
      case o3 =>
        intro w' _
        go_simp
        try rfl
      simp only [Act.put, List.setIfInBounds_toArray, List.set_cons_zero, List.set_cons_succ]
      refine E.anyc_value (v := .int .u8 (x.rel : Int)) rfl rfl rfl rfl ?o4 ?_
      case o4 =>
        intro w' h
        have y : w'.cell? ⟨w.heap.size, 1, none⟩ = some (.int .u8 (x.rel : Int)) := h.elim (fun h => h.cell q1 (fun h => h)) (fun h => h.1.cell q1 (fun h => h))
        clear h
        go_simp
        try rfl
      simp only [Act.put, List.setIfInBounds_toArray, List.set_cons_zero, List.set_cons_succ]
      refine E.anyc_value (v := .pointer (some ⟨w.heap.size, 11, none⟩)) rfl rfl rfl rfl ?o5 ?_
      case o5 =>
        intro w' _
        go_simp
        try rfl
      simp only [Act.put, List.setIfInBounds_toArray, List.set_cons_zero, List.set_cons_succ]
      refine E.anyc_value (v := .int .i64 x.bound) rfl rfl rfl rfl ?o6 ?_
      case o6 =>
        intro w' h
        have y : w'.cell? ⟨w.heap.size, 11, none⟩ = some (.int .i64 x.bound) := h.elim (fun h => h.cell q11 (fun h => h)) (fun h => h.1.cell q11 (fun h => h))
        clear h
        go_simp
        try rfl
      simp only [Act.put, List.setIfInBounds_toArray, List.set_cons_zero, List.set_cons_succ]
      refine E.anyc_behind (v := .tuple #[dval LB, .int .i64 LE]) rfl rfl rfl rfl ?o7 ?_
      case o7 =>
        intro w' h
        refine E.upon_call (f := 75) (args := #[v, .int .u8 (x.rel : Int), .int .i64 x.bound]) ?_ ((Linear_any x.l (by omega) v x.rel x.bound w' h.2).mono fun e w'' ⟨he, hb⟩ => ⟨by rw [he, HLB.out, HLE.out], (Fr.refl nob _).below hb⟩)
        go_simp
      simp only [Act.put, List.setIfInBounds_toArray, List.set_cons_zero, List.set_cons_succ]
      refine E.anyc_behind (v := dval LB) rfl rfl rfl rfl ?o8 ?_
      case o8 =>
        intro w' _
        refine E.upon_value ?_
        go_simp
        try rfl
      simp only [Act.put, List.setIfInBounds_toArray, List.set_cons_zero, List.set_cons_succ]
      refine E.anyc_behind (v := .int .i64 LE) rfl rfl rfl rfl ?o9 ?_
      case o9 =>
        intro w' _
        refine E.upon_value ?_
        go_simp
        try rfl
      simp only [Act.put, List.setIfInBounds_toArray, List.set_cons_zero, List.set_cons_succ]
      refine E.anyc_nil ?_
      rintro w4 listed ⟨fr4, -⟩ - -
      have ⟨s0, s1, sf⟩ := HRX.out.kept fr4 (fun h => h)
      have sf0 := sf 0
      have sf1 := sf 1
      obtain ⟨⟨z0, z1, _⟩, HB⟩ := one_end frw HRX.out (fr4.to_below (Nat.le_refl _) (fun _ h => h.elim)) (Nat.le_succ _) (.int .u32 (place (li LB) LB : Int)) (.string ⟨(code (rows (li LB))).toArray⟩)
      have HBB := Lib.hid HB
      clear sf HB
      go_wp2_with fail
      exact bodyPost_ret (v := .tuple #[dval LB, .int .i64 LE]) (by simp [results, Tryz.results36, go_sem, dval, z0, z1]) rfl ⟨by rw [E1.out, E2.out], HBB.out⟩
    · have hd : x.d = 14 := by
        simp only [beq_iff_eq, beq_eq_false_iff_ne] at *
        omega
      have E1 := Lib.hid (show rb = andL s by rw [← HRB.out, hd]; rfl)
      have E2 := Lib.hid (show re = 0 by rw [← HRE.out]; simp [opE, hd])
      refine (AndAll_any s HOK.out hs2 _ wc (HROW.out.kept' frx (fun _ _ h => h))).mono ?_
      rintro e w4 ⟨rfl, hb4⟩
      have ⟨s0, s1, sf⟩ := rbx.kept ((Fr.refl nob wc).below hb4) (fun h => h)
      have sf0 := sf 0
      have sf1 := sf 1
      obtain ⟨⟨z0, z1, _⟩, HB⟩ := one_end frw rbx hb4 (Nat.le_succ _) (.int .u32 (place (li (andL s)) (andL s) : Int)) (.string ⟨(code (rows (li (andL s)))).toArray⟩)
      have HBB := Lib.hid HB
      clear sf r0 r1 rf0 rf1 HB rbx
      go_wp2_with fail
      exact bodyPost_ret (v := .tuple #[dval (andL s), .int .i64 0]) (by simp [results, Tryz.results36, go_sem, dval, z0, z1]) rfl ⟨by rw [E1.out, E2.out], HBB.out⟩
    · have hd : x.d = 15 := by
        simp only [beq_iff_eq, beq_eq_false_iff_ne] at *
        omega
      have E1 := Lib.hid (show rb = orL s by rw [← HRB.out, hd]; rfl)
      have E2 := Lib.hid (show re = 0 by rw [← HRE.out]; simp [opE, hd])
      refine (OrAll_any s HOK.out hs2 _ wc (HROW.out.kept' frx (fun _ _ h => h))).mono ?_
      rintro e w4 ⟨rfl, hb4⟩
      have ⟨s0, s1, sf⟩ := rbx.kept ((Fr.refl nob wc).below hb4) (fun h => h)
      have sf0 := sf 0
      have sf1 := sf 1
      obtain ⟨⟨z0, z1, _⟩, HB⟩ := one_end frw rbx hb4 (Nat.le_succ _) (.int .u32 (place (li (orL s)) (orL s) : Int)) (.string ⟨(code (rows (li (orL s)))).toArray⟩)
      have HBB := Lib.hid HB
      clear sf r0 r1 rf0 rf1 HB rbx
      go_wp2_with fail
      exact bodyPost_ret (v := .tuple #[dval (orL s), .int .i64 0]) (by simp [results, Tryz.results36, go_sem, dval, z0, z1]) rfl ⟨by rw [E1.out, E2.out], HBB.out⟩
    · have hd : ¬ (x.d = 1 ∨ x.d = 2 ∨ x.d = 3 ∨ x.d = 4 ∨ x.d = 5 ∨ x.d = 6 ∨ x.d = 7 ∨ x.d = 8 ∨ x.d = 9 ∨ x.d = 10 ∨ x.d = 11 ∨ x.d = 12 ∨ x.d = 13 ∨ x.d = 14 ∨ x.d = 15) := by
        simp only [beq_eq_false_iff_ne] at *
        omega
      have E1 := Lib.hid (show rb = .F by rw [← HRB.out]; exact opS_else hd)
      have E2 := Lib.hid (show re = 0 by rw [← HRE.out]; unfold opE; rw [if_neg (by omega), if_neg (by omega)])
      refine (False_any wc).mono ?_
      rintro e w4 ⟨rfl, hb4⟩
      have ⟨s0, s1, sf⟩ := rbx.kept ((Fr.refl nob wc).below hb4) (fun h => h)
      have sf0 := sf 0
      have sf1 := sf 1
      obtain ⟨⟨z0, z1, _⟩, HB⟩ := one_end frw rbx hb4 (Nat.le_succ _) (.int .u32 (place (li (.F)) (.F) : Int)) (.string ⟨(code (rows (li (.F)))).toArray⟩)
      have HBB := Lib.hid HB
      clear sf r0 r1 rf0 rf1 HB rbx
      go_wp2_with fail
      exact bodyPost_ret (v := .tuple #[dval (.F), .int .i64 0]) (by simp [results, Tryz.results36, go_sem, dval, z0, z1]) rfl ⟨by rw [E1.out, E2.out], HBB.out⟩
end Go.Proofs.YtalnhlebgofiiaaGreatDoor
