import Derived.Test.YtfhjpldlhhgcnaaDoorSem
namespace Go.Proofs.YtfhjpldlhhgcnaaDoor
open Go.RowKit
namespace Bd

/-! ### the complement -/
def B.neg : B → B
  | .F => .T
  | .T => .F
  | .N i l h => .N i l.neg h.neg

theorem neg_neg (b : B) : b.neg.neg = b := by
  induction b with
  | F => rfl
  | T => rfl
  | N i l h il ih => simp [B.neg, il, ih]
theorem neg_inj {a b : B} (h : a.neg = b.neg) : a = b := by rw [← neg_neg a, h, neg_neg]
theorem ok_neg {b : B} : ∀ {n : Nat}, b.ok n → b.neg.ok n := by
  induction b with
  | F => intros; trivial
  | T => intros; trivial
  | N i l h il ih => intro n ⟨h1, h2, h3, h4, h5⟩; exact ⟨h1, h2, fun e => h3 (neg_inj e), il h4, ih h5⟩
theorem ev_neg (b : B) (c : Cfg) : b.neg.ev c = !b.ev c := by
  induction b with
  | F => rfl
  | T => rfl
  | N i l h il ih => simp only [B.neg, B.ev, il, ih]; split <;> rfl

theorem mem_neg {R : List B} {b : B} : b.neg ∈ R.map B.neg ↔ b ∈ R := by
  constructor
  · intro h; obtain ⟨x, hx, e⟩ := List.mem_map.1 h; rw [← neg_inj e]; exact hx
  · exact fun h => List.mem_map.2 ⟨b, h, rfl⟩
theorem const_neg (b : B) : b.neg.const = b.const := by cases b <;> rfl
theorem inn_neg {R : List B} {b : B} (h : inn R b) : inn (R.map B.neg) b.neg := h.imp (fun h => by rw [const_neg]; exact h) (fun h => mem_neg.2 h)
theorem good_neg : ∀ {R : List B}, good R → good (R.map B.neg)
  | [], _ => trivial
  | .N _ _ _ :: _, h => ⟨fun e => h.1 (mem_neg.1 e), inn_neg h.2.1, inn_neg h.2.2.1, good_neg h.2.2.2⟩
  | .F :: _, h => h.elim
  | .T :: _, h => h.elim
theorem vis_neg (b : B) : ∀ (R : List B), vis b.neg (R.map B.neg) = (vis b R).map B.neg := by
  induction b with
  | F => intro R; rfl
  | T => intro R; rfl
  | N i l h il ih =>
    intro R
    have e : (B.N i l h).neg = .N i l.neg h.neg := rfl
    rw [e, vis, vis, ← e]
    by_cases hm : B.N i l h ∈ R
    · rw [if_pos hm, if_pos (mem_neg.2 hm)]
    · rw [if_neg hm, if_neg (fun h => hm (mem_neg.1 h)), il, ih]; rfl
theorem li_neg (b : B) : li b.neg = (li b).map B.neg := vis_neg b []
theorem small_neg {R : List B} (h : small R) : small (R.map B.neg) := ⟨by rw [List.length_map]; exact h.1, fun b hb => by
  obtain ⟨x, hx, rfl⟩ := List.mem_map.1 hb; exact ok_neg (h.2 x hx)⟩

/-! ### a value for each node that is listed, in order -/
def glist {α : Type} (val : B → α) (R : List B) : List α := val .F :: val .T :: (R.reverse).map val
theorem rev_pos : ∀ {R : List B} {b : B}, b ∈ R → R.reverse[pos R b]? = some b := by
  intro R
  induction R with
  | nil => intro b h; cases h
  | cons n r ih =>
    intro b h
    unfold pos; split
    · rename_i e; subst e; simp
    · have hm := List.mem_of_ne_of_mem (by assumption) h
      rw [List.reverse_cons, List.getElem?_append_left (by have := pos_lt hm; simpa using this)]
      exact ih hm
theorem glist_length {α : Type} (val : B → α) (R : List B) : (glist val R).length = R.length + 2 := by simp [glist]
theorem glist_at {α : Type} (val : B → α) {R : List B} {b : B} (h : inn R b) : (glist val R)[place R b]? = some (val b) := by
  cases b with
  | F => rfl
  | T => rfl
  | N i l u =>
    have hm := h.resolve_left (by simp [B.const])
    show (val .F :: val .T :: (R.reverse).map val)[pos R (.N i l u) + 2]? = _
    rw [List.getElem?_cons_succ, List.getElem?_cons_succ, List.getElem?_map, rev_pos hm]; rfl
theorem glist_cons {α : Type} (val : B → α) (R : List B) (b : B) : glist val (b :: R) = glist val R ++ [val b] := by simp [glist]

/-! ### cubes -/
def cubeP (on off : Nat) : Nat → B
  | 0 => .T
  | k + 1 => if on.testBit (23 - k) then mk (23 - k) .F (cubeP on off k) else if off.testBit (23 - k) then mk (23 - k) (cubeP on off k) .F else cubeP on off k
theorem ok_cubeP (on off : Nat) : ∀ k, k ≤ 24 → (cubeP on off k).ok (24 - k)
  | 0, _ => trivial
  | k + 1, h => by
    have ih := ok_cubeP on off k (by omega)
    have e : 24 - (k + 1) = 23 - k := by omega
    rw [show 24 - k = 23 - k + 1 by omega] at ih
    rw [e, cubeP]
    split
    · exact ok_mk (by omega) trivial ih
    · split
      · exact ok_mk (by omega) ih trivial
      · exact ih.mono (by omega)
theorem ok_cubeP0 (on off : Nat) {k : Nat} (h : k ≤ 24) : (cubeP on off k).ok 0 := (ok_cubeP on off k h).mono (Nat.zero_le _)
def cubeEv (on off : Nat) (k : Nat) (c : Cfg) : Bool := (List.range k).all fun j => if on.testBit (23 - j) then c (23 - j) else if off.testBit (23 - j) then !c (23 - j) else true
theorem ev_cubeP (on off : Nat) : ∀ k (c : Cfg), (cubeP on off k).ev c = cubeEv on off k c
  | 0, c => rfl
  | k + 1, c => by
    have ih := ev_cubeP on off k c
    have e : cubeEv on off (k + 1) c = (cubeEv on off k c && (if on.testBit (23 - k) then c (23 - k) else if off.testBit (23 - k) then !c (23 - k) else true)) := by simp [cubeEv, List.range_succ]
    rw [e, cubeP, ← ih]
    split
    · rw [ev_mk]; cases c (23 - k) <;> simp [B.ev]
    · split
      · rw [ev_mk]; cases c (23 - k) <;> simp [B.ev]
      · simp
theorem li_mk_hi (i : Nat) (b : B) : vis (mk i .F b) (li b) = li (mk i .F b) := by
  have h := vis_mk (i := i) (lo := .F) (hi := b) (R := li b) (good_li b)
  have h2 := vis_mk (i := i) (lo := .F) (hi := b) (R := []) trivial
  have e0 : vis .F (li b) = li b := rfl
  have e1 : vis .F [] = ([] : List B) := rfl
  rw [e0, vis_inn (inn_li b)] at h
  rw [e1] at h2
  exact h.trans h2.symm
theorem li_mk_lo (i : Nat) (b : B) : vis (mk i b .F) (li b) = li (mk i b .F) := by
  have h := vis_mk (i := i) (lo := b) (hi := .F) (R := li b) (good_li b)
  have h2 := vis_mk (i := i) (lo := b) (hi := .F) (R := []) trivial
  have e0 : ∀ R, vis .F R = R := fun R => rfl
  rw [vis_inn (inn_li b), e0] at h
  rw [e0] at h2
  exact h.trans h2.symm

/-! ### how many configurations -/
def cnt : B → Nat
  | .F => 0
  | .T => 16777216
  | .N _ l h => (cnt l + cnt h) / 2
def cF : Nat → Nat → (Cfg → Bool) → Nat
  | 0, _, f => if f (fun _ => false) then 1 else 0
  | k + 1, i, f => cF k (i + 1) (fun c => f (up c i false)) + cF k (i + 1) (fun c => f (up c i true))
theorem cF_le : ∀ (k i : Nat) (f : Cfg → Bool), cF k i f ≤ 2 ^ k
  | 0, _, f => by unfold cF; split <;> omega
  | k + 1, i, f => by
    have h1 := cF_le k (i + 1) (fun c => f (up c i false))
    have h2 := cF_le k (i + 1) (fun c => f (up c i true))
    simp only [cF]; rw [Nat.pow_succ]; omega
theorem cF_congr {k i : Nat} {f g : Cfg → Bool} (h : ∀ c, f c = g c) : cF k i f = cF k i g := by rw [funext h]
theorem cF_add : ∀ (k i : Nat) (f g : Cfg → Bool), cF k i (fun c => f c || g c) + cF k i (fun c => f c && g c) = cF k i f + cF k i g
  | 0, _, f, g => by
    show (if (f _ || g _) then 1 else 0) + (if (f _ && g _) then 1 else 0) = (if f _ then 1 else 0) + (if g _ then 1 else 0)
    generalize f (fun _ => false) = a
    generalize g (fun _ => false) = b
    cases a <;> cases b <;> rfl
  | k + 1, i, f, g => by
    have h1 := cF_add k (i + 1) (fun c => f (up c i false)) (fun c => g (up c i false))
    have h2 := cF_add k (i + 1) (fun c => f (up c i true)) (fun c => g (up c i true))
    simp only [cF]; omega
theorem cF_not : ∀ (k i : Nat) (f : Cfg → Bool), cF k i f + cF k i (fun c => !f c) = 2 ^ k
  | 0, _, f => by
    show (if f _ then 1 else 0) + (if !f _ then 1 else 0) = 1
    generalize f (fun _ => false) = a
    cases a <;> rfl
  | k + 1, i, f => by
    have h1 := cF_not k (i + 1) (fun c => f (up c i false))
    have h2 := cF_not k (i + 1) (fun c => f (up c i true))
    simp only [cF]; rw [Nat.pow_succ]; omega
theorem up_free {x : B} {i : Nat} (h : x.ok (i + 1)) (c : Cfg) (v : Bool) : x.ev (up c i v) = x.ev c := ev_agree h (fun j hj _ => by simp [up]; intro; omega)
theorem cnt_cF : ∀ (k i : Nat) (x : B), i + k = 24 → x.ok i → cnt x = 2 ^ i * cF k i x.ev
  | 0, i, x, h, hx => by
    obtain rfl : i = 24 := by omega
    rcases ok_24 hx with rfl | rfl <;> rfl
  | k + 1, i, x, h, hx => by
    have free : x.ok (i + 1) → cnt x = 2 ^ i * cF (k + 1) i x.ev := fun ho => by
      have ih := cnt_cF k (i + 1) x (by omega) ho
      unfold cF
      rw [cF_congr (fun c => up_free ho c false), cF_congr (fun c => up_free ho c true), ih, Nat.pow_succ]
      rw [Nat.mul_add, Nat.mul_assoc, Nat.mul_left_comm]; omega
    cases x with
    | F => exact free trivial
    | T => exact free trivial
    | N j l u =>
      by_cases e : j = i
      · subst e
        obtain ⟨h1, h2, h3, h4, h5⟩ := hx
        have hl := cnt_cF k (j + 1) l (by omega) h4
        have hu := cnt_cF k (j + 1) u (by omega) h5
        have el : cF k (j + 1) (fun c => (B.N j l u).ev (up c j false)) = cF k (j + 1) l.ev := cF_congr fun c => by
          show (if up c j false j then u.ev (up c j false) else l.ev (up c j false)) = _
          simp [up]; exact up_free h4 c false
        have eu : cF k (j + 1) (fun c => (B.N j l u).ev (up c j true)) = cF k (j + 1) u.ev := cF_congr fun c => by
          show (if up c j true j then u.ev (up c j true) else l.ev (up c j true)) = _
          simp [up]; exact up_free h5 c true
        unfold cF
        rw [el, eu, cnt, hl, hu, Nat.pow_succ]
        generalize cF k (j + 1) l.ev = p
        generalize cF k (j + 1) u.ev = q
        rw [show 2 ^ j * 2 * p + 2 ^ j * 2 * q = 2 * (2 ^ j * (p + q)) by rw [Nat.mul_assoc, Nat.mul_assoc, ← Nat.mul_add, ← Nat.mul_add, Nat.mul_left_comm]]
        omega
      · exact free ⟨by have := hx.1; omega, hx.2⟩
def cA (f : Cfg → Bool) : Nat := cF 24 0 f
theorem cnt_eq {x : B} (h : x.ok 0) : cnt x = cA x.ev := by
  have e := cnt_cF 24 0 x rfl h
  have h1 : (2 : Nat) ^ 0 = 1 := rfl
  rw [h1, Nat.one_mul] at e
  exact e
theorem cA_congr {f g : Cfg → Bool} (h : ∀ c, f c = g c) : cA f = cA g := by rw [funext h]
theorem cA_le (f : Cfg → Bool) : cA f ≤ 16777216 := by
  have h := cF_le 24 0 f
  have e : (2 : Nat) ^ 24 = 16777216 := by decide
  rw [e] at h; exact h
theorem cA_not (f : Cfg → Bool) : cA f + cA (fun c => !f c) = 16777216 := by
  have h := cF_not 24 0 f
  have e : (2 : Nat) ^ 24 = 16777216 := by decide
  rw [e] at h; exact h
theorem cA_add (f g : Cfg → Bool) : cA (fun c => f c || g c) + cA (fun c => f c && g c) = cA f + cA g := cF_add 24 0 f g
theorem cnt_le {x : B} (h : x.ok 0) : cnt x ≤ 16777216 := by rw [cnt_eq h]; exact cA_le _
theorem cnt_neg {x : B} (h : x.ok 0) : cnt x + cnt x.neg = 16777216 := by
  rw [cnt_eq h, cnt_eq (ok_neg h), cA_congr (f := x.neg.ev) (g := fun c => !x.ev c) (ev_neg x)]; exact cA_not _
theorem cnt_add {x y : B} (hx : x.ok 0) (hy : y.ok 0) : cnt x + cnt y = cnt (ite x .T y) + cnt (ite x y .F) := by
  rw [cnt_eq hx, cnt_eq hy, cnt_eq (ok_ite0 _ _ _), cnt_eq (ok_ite0 _ _ _), cA_congr (f := (ite x .T y).ev) (g := fun c => x.ev c || y.ev c) (fun c => by rw [ev_ite (y := .T) hx trivial hy]; cases x.ev c <;> simp [B.ev]),
    cA_congr (f := (ite x y .F).ev) (g := fun c => x.ev c && y.ev c) (fun c => by rw [ev_ite (z := .F) hx hy trivial]; cases x.ev c <;> simp [B.ev])]
  exact (cA_add _ _).symm
end Bd
end Go.Proofs.YtfhjpldlhhgcnaaDoor
