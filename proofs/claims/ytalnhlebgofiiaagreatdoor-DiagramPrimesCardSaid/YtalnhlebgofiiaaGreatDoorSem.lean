import Derived.Test.YtalnhlebgofiiaaGreatDoorSplit
namespace Go.Proofs.YtalnhlebgofiiaaGreatDoor
open Go.RowKit
namespace Bd

theorem ok_can_of {g : Cfg → Bool} {n : Nat} (hn : n ≤ 24) (h : ∀ c d : Cfg, (∀ j, n ≤ j → j < 24 → c j = d j) → g c = g d) : (can g).ok n := by
  have e : can g = canF (24 - n) n g := by
    have hk : n + (24 - n) = 24 := by omega
    refine eq_of_ev (ok_can g) ((ok_canF (24 - n) n g hk).mono (Nat.zero_le _)) (fun c => ?_)
    rw [ev_can, ev_canF _ _ _ _ hk]
    refine h _ _ (fun j h1 h2 => ?_)
    simp [cut, win, h1, h2]
  rw [e]
  exact ok_canF _ _ _ (by omega)

noncomputable def ite (x y z : B) : B := can fun c => if x.ev c then y.ev c else z.ev c

theorem ok_ite0 (x y z : B) : (ite x y z).ok 0 := ok_can _
theorem ev_ite {x y z : B} (hx : x.ok 0) (hy : y.ok 0) (hz : z.ok 0) (c : Cfg) : (ite x y z).ev c = if x.ev c then y.ev c else z.ev c := by
  unfold ite; rw [ev_can, ev_cut hx, ev_cut hy, ev_cut hz]
theorem ok_ite {x y z : B} {n : Nat} (hn : n ≤ 24) (hx : x.ok n) (hy : y.ok n) (hz : z.ok n) : (ite x y z).ok n :=
  ok_can_of hn fun c d h => by rw [ev_agree hx h, ev_agree hy h, ev_agree hz h]

theorem up_self (c : Cfg) (i : Nat) : up c i (c i) = c := by
  funext j; unfold up; split
  · rename_i e; rw [e]
  · rfl

theorem ite_mk {x y z : B} {f : Nat} (hf : f < 24) (hx : x.ok f) (hy : y.ok f) (hz : z.ok f) :
    ite x y z = mk f (ite (x.fix f false) (y.fix f false) (z.fix f false)) (ite (x.fix f true) (y.fix f true) (z.fix f true)) := by
  have o : ∀ v, (ite (x.fix f v) (y.fix f v) (z.fix f v)).ok (f + 1) := fun v => ok_ite (by omega) (ok_fix hx v) (ok_fix hy v) (ok_fix hz v)
  refine eq_of_ev (ok_ite0 _ _ _) ((ok_mk hf (o false) (o true)).mono (Nat.zero_le _)) (fun c => ?_)
  have m : ∀ {b : B} {n : Nat}, b.ok n → b.ok 0 := fun h => h.mono (Nat.zero_le _)
  have e : ∀ v, (ite (x.fix f v) (y.fix f v) (z.fix f v)).ev c = (if x.ev (up c f v) then y.ev (up c f v) else z.ev (up c f v)) := fun v => by
    rw [ev_ite (m (ok_fix hx v)) (m (ok_fix hy v)) (m (ok_fix hz v)), ev_fix hx, ev_fix hy, ev_fix hz]
  rw [ev_mk, ev_ite (m hx) (m hy) (m hz), e, e]
  have u := up_self c f
  cases hc : c f <;> rw [hc] at u <;> simp [u]

def B.lo : B → B
  | .N _ l _ => l
  | b => b
def B.hi : B → B
  | .N _ _ h => h
  | b => b

theorem fix_low {x : B} {f : Nat} (hf : f < 24) : x.fix f false = if x.top = f then x.lo else x := by
  cases x with
  | F => have : ¬ B.F.top = f := by show ¬ (24 = f); omega
         rw [if_neg this]; rfl
  | T => have : ¬ B.T.top = f := by show ¬ (24 = f); omega
         rw [if_neg this]; rfl
  | N i l h => by_cases e : i = f <;> simp [B.fix, B.top, B.lo, e]
theorem fix_high {x : B} {f : Nat} (hf : f < 24) : x.fix f true = if x.top = f then x.hi else x := by
  cases x with
  | F => have : ¬ B.F.top = f := by show ¬ (24 = f); omega
         rw [if_neg this]; rfl
  | T => have : ¬ B.T.top = f := by show ¬ (24 = f); omega
         rw [if_neg this]; rfl
  | N i l h => by_cases e : i = f <;> simp [B.fix, B.top, B.hi, e]

theorem inn_lo {R : List B} {x : B} (hg : good R) (h : inn R x) : inn R x.lo := by
  cases x with
  | F => exact h
  | T => exact h
  | N i l u => exact (kids_inn hg (h.resolve_left (by simp [B.const]))).1
theorem inn_hi {R : List B} {x : B} (hg : good R) (h : inn R x) : inn R x.hi := by
  cases x with
  | F => exact h
  | T => exact h
  | N i l u => exact (kids_inn hg (h.resolve_left (by simp [B.const]))).2
theorem inn_F (R : List B) : inn R .F := .inl rfl

theorem ok_of_inn {A x : B} (hA : A.ok 0) (h : inn (li A) x) : x.ok 0 := by
  rcases h with h | h
  · cases x with
    | F => trivial
    | T => trivial
    | N i l u => cases h
  · exact (small_li hA).2 x h
theorem ok_at_top {A x : B} (hA : A.ok 0) (h : inn (li A) x) {f : Nat} (hf : f ≤ x.top) : x.ok f := ok_of_top (ok_of_inn hA h) hf
theorem top_le {x : B} (h : x.ok 0) : x.top ≤ 24 := by
  cases x with
  | F => exact Nat.le_refl _
  | T => exact Nat.le_refl _
  | N i l u => exact Nat.le_of_lt h.2.1
theorem top_fix {x : B} {f : Nat} (h : x.ok f) (hf : f < 24) (v : Bool) : f + 1 ≤ (x.fix f v).top := top_ge (ok_fix h v) (by omega)

theorem place_F {R : List B} {x : B} : place R x = 0 ↔ x = .F := by cases x <;> simp [place]
theorem place_T {R : List B} {x : B} : place R x = 1 ↔ x = .T := by cases x <;> simp [place]
theorem place_lt2 {R : List B} {x : B} : place R x < 2 ↔ x = .F ∨ x = .T := by cases x <;> simp [place]

open Classical in
/-- the set at a place -/
noncomputable def nodeAt (R : List B) (p : Nat) : B := if h : ∃ x, inn R x ∧ place R x = p then h.choose else .F
theorem nodeAt_place {R : List B} {x : B} (h : inn R x) : nodeAt R (place R x) = x := by
  unfold nodeAt
  have hex : ∃ y, inn R y ∧ place R y = place R x := ⟨x, h, rfl⟩
  rw [dif_pos hex]
  exact place_inj hex.choose_spec.1 h hex.choose_spec.2

def rowB (R : List B) (x : B) : Nat × Nat × Nat := (x.top, place R x.lo, place R x.hi)
end Bd
open Bd

section
variable (A B' C : B)
noncomputable def semT (k : Nat × Nat × Nat) : B := ite (nodeAt (li A) k.1) (nodeAt (li B') k.2.1) (nodeAt (li C) k.2.2)
def valT (k : Nat × Nat × Nat) : Prop := ∃ x y z, inn (li A) x ∧ inn (li B') y ∧ inn (li C) z ∧ k = (place (li A) x, place (li B') y, place (li C) z)
noncomputable def spT (k : Nat × Nat × Nat) : Nat × (Nat × Nat × Nat) × (Nat × Nat × Nat) := splitN k (rowB (li A) (nodeAt (li A) k.1)) (rowB (li B') (nodeAt (li B') k.2.1)) (rowB (li C) (nodeAt (li C) k.2.2))
noncomputable def muT (k : Nat × Nat × Nat) : Nat := 24 - min (nodeAt (li A) k.1).top (min (nodeAt (li B') k.2.1).top (nodeAt (li C) k.2.2).top)

/-- 'plain' keeps the set. -/
theorem plain_sem {x y z : B} (hx : inn (li A) x) (hy : inn (li B') y) (hz : inn (li C) z) (oy : y.ok 0) (oz : z.ok 0) :
    ∃ y' z', inn (li B') y' ∧ inn (li C) z' ∧ plainN (place (li A) x, place (li B') y, place (li C) z) = (place (li A) x, place (li B') y', place (li C) z') ∧ ite x y' z' = ite x y z ∧ y.top ≤ y'.top ∧ z.top ≤ z'.top := by
  by_cases h0 : x = .F
  · subst h0
    exact ⟨.F, z, inn_F _, hz, by simp [plainN, place], eq_of_ev (ok_ite0 _ _ _) (ok_ite0 _ _ _) (fun c => by rw [ev_ite (x := .F) (y := .F) trivial trivial oz, ev_ite (x := .F) trivial oy oz]; simp [B.ev]), top_le oy, Nat.le_refl _⟩
  by_cases h1 : x = .T
  · subst h1
    exact ⟨y, .F, hy, inn_F _, by simp [plainN, place], eq_of_ev (ok_ite0 _ _ _) (ok_ite0 _ _ _) (fun c => by rw [ev_ite (x := .T) (z := .F) trivial oy trivial, ev_ite (x := .T) trivial oy oz]; simp [B.ev]), Nat.le_refl _, top_le oz⟩
  · have e0 : place (li A) x ≠ 0 := fun h => h0 (place_F.1 h)
    have e1 : place (li A) x ≠ 1 := fun h => h1 (place_T.1 h)
    exact ⟨y, z, hy, hz, by simp [plainN, e0, e1], rfl, Nat.le_refl _, Nat.le_refl _⟩

theorem splT (hA : A.ok 0) (hB : B'.ok 0) (hC : C.ok 0) : Spl (semT A B' C) (valT A B' C) (muT A B' C) (spT A B' C) := by
  constructor
  · rintro k ⟨x, y, z, hx, hy, hz, rfl⟩ h
    have ox := ok_of_inn hA hx
    have oy := ok_of_inn hB hy
    have oz := ok_of_inn hC hz
    have e : spT A B' C (place (li A) x, place (li B') y, place (li C) z) = splitN (place (li A) x, place (li B') y, place (li C) z) (rowB (li A) x) (rowB (li B') y) (rowB (li C) z) := by
      simp only [spT, nodeAt_place hx, nodeAt_place hy, nodeAt_place hz]
    have es : semT A B' C (place (li A) x, place (li B') y, place (li C) z) = ite x y z := by
      simp only [semT, nodeAt_place hx, nodeAt_place hy, nodeAt_place hz]
    rw [e] at h ⊢
    rw [es]
    have tx := top_le ox
    have ty := top_le oy
    have tz := top_le oz
    have hlt : (decidedN (place (li A) x, place (li B') y, place (li C) z)).2 = true := by
      cases hd : (decidedN (place (li A) x, place (li B') y, place (li C) z)).2 with
      | true => rfl
      | false =>
        exfalso
        simp only [splitN, hd, Bool.false_eq_true, if_false, rowB] at h
        have ex : x.top = 24 := by omega
        have ey : y.top = 24 := by omega
        have ez : z.top = 24 := by omega
        have cst : ∀ {b : B}, b.ok 0 → b.top = 24 → b = .F ∨ b = .T := fun {b} ob hb => ok_24 (ok_of_top ob (by omega))
        rcases cst ox ex with rfl | rfl <;> rcases cst oy ey with rfl | rfl <;> rcases cst oz ez with rfl | rfl <;> simp [decidedN, place] at hd
    have e2 : (splitN (place (li A) x, place (li B') y, place (li C) z) (rowB (li A) x) (rowB (li B') y) (rowB (li C) z)).1 = 24 + (decidedN (place (li A) x, place (li B') y, place (li C) z)).1 := by
      simp only [splitN, hlt, if_true]
    rw [e2]
    have key : ∀ b, ite x y z = b → (b = .F ∨ b = .T) → (decidedN (place (li A) x, place (li B') y, place (li C) z)).1 = place [] b → (ite x y z = .F ∧ 24 + (decidedN (place (li A) x, place (li B') y, place (li C) z)).1 = 24) ∨ (ite x y z = .T ∧ 24 + (decidedN (place (li A) x, place (li B') y, place (li C) z)).1 = 25) := by
      rintro b hb (rfl | rfl) hp
      · exact .inl ⟨hb, by rw [hp]; rfl⟩
      · exact .inr ⟨hb, by rw [hp]; rfl⟩
    by_cases h1 : x = .T
    · subst h1
      have hd : decidedN (place (li A) .T, place (li B') y, place (li C) z) = (place (li B') y, decide (place (li B') y < 2)) := by simp [decidedN, place]
      rw [hd] at hlt key ⊢
      have hy2 := place_lt2.1 (of_decide_eq_true hlt)
      refine key y (eq_of_ev (ok_ite0 _ _ _) oy (fun c => by rw [ev_ite (x := .T) trivial oy oz]; simp [B.ev])) hy2 ?_
      rcases hy2 with rfl | rfl <;> rfl
    · have n1 : place (li A) x ≠ 1 := fun h => h1 (place_T.1 h)
      by_cases h2 : place (li B') y = place (li C) z
      · have hd : decidedN (place (li A) x, place (li B') y, place (li C) z) = (place (li B') y, decide (place (li B') y < 2)) := by simp [decidedN, h2]
        rw [hd] at hlt key ⊢
        have hy2 := place_lt2.1 (of_decide_eq_true hlt)
        have hz2 : z = y := by
          rcases hy2 with rfl | rfl
          · exact place_F.1 (h2.symm.trans rfl)
          · exact place_T.1 (h2.symm.trans rfl)
        subst hz2
        refine key z (eq_of_ev (ok_ite0 _ _ _) oz (fun c => by rw [ev_ite ox oz oz]; simp)) hy2 ?_
        rcases hy2 with rfl | rfl <;> rfl
      · by_cases h3 : x = .F
        · subst h3
          have hd : decidedN (place (li A) .F, place (li B') y, place (li C) z) = (place (li C) z, decide (place (li C) z < 2)) := by simp [decidedN, place_F.2, h2]
          rw [hd] at hlt key ⊢
          have hz2 := place_lt2.1 (of_decide_eq_true hlt)
          refine key z (eq_of_ev (ok_ite0 _ _ _) oz (fun c => by rw [ev_ite (x := .F) trivial oy oz]; simp [B.ev])) hz2 ?_
          rcases hz2 with rfl | rfl <;> rfl
        · have n3 : place (li A) x ≠ 0 := fun h => h3 (place_F.1 h)
          simp [decidedN, n1, h2, n3] at hlt
  · rintro k ⟨x, y, z, hx, hy, hz, rfl⟩ h
    have ox := ok_of_inn hA hx
    have oy := ok_of_inn hB hy
    have oz := ok_of_inn hC hz
    have e : spT A B' C (place (li A) x, place (li B') y, place (li C) z) = splitN (place (li A) x, place (li B') y, place (li C) z) (rowB (li A) x) (rowB (li B') y) (rowB (li C) z) := by
      simp only [spT, nodeAt_place hx, nodeAt_place hy, nodeAt_place hz]
    have es : ∀ {x y z : B}, inn (li A) x → inn (li B') y → inn (li C) z → semT A B' C (place (li A) x, place (li B') y, place (li C) z) = ite x y z := fun hx hy hz => by
      simp only [semT, nodeAt_place hx, nodeAt_place hy, nodeAt_place hz]
    have em : ∀ {x y z : B}, inn (li A) x → inn (li B') y → inn (li C) z → muT A B' C (place (li A) x, place (li B') y, place (li C) z) = 24 - min x.top (min y.top z.top) := fun hx hy hz => by
      simp only [muT, nodeAt_place hx, nodeAt_place hy, nodeAt_place hz]
    rw [e] at h ⊢
    have hd : (decidedN (place (li A) x, place (li B') y, place (li C) z)).2 = false := by
      cases hd : (decidedN (place (li A) x, place (li B') y, place (li C) z)).2 with
      | false => rfl
      | true => simp only [splitN, hd, if_true] at h; omega
    obtain ⟨f, hf⟩ : ∃ f, f = min x.top (min y.top z.top) := ⟨_, rfl⟩
    have hsp : ∀ {g : B → B}, True := fun {_} => trivial
    have e3 : splitN (place (li A) x, place (li B') y, place (li C) z) (rowB (li A) x) (rowB (li B') y) (rowB (li C) z) =
        (f, plainN (place (li A) (x.fix f false), place (li B') (y.fix f false), place (li C) (z.fix f false)), plainN (place (li A) (x.fix f true), place (li B') (y.fix f true), place (li C) (z.fix f true))) := by
      have hf24 : f < 24 := by
        simp only [splitN, hd, Bool.false_eq_true, if_false, rowB] at h
        omega
      simp only [splitN, hd, Bool.false_eq_true, if_false, rowB, ← hf, fix_low hf24, fix_high hf24]
      have q : ∀ (R : List B) (b l : B), place R (if b.top = f then l else b) = if b.top = f then place R l else place R b := fun R b l => by split <;> rfl
      simp only [q]
    rw [e3] at h ⊢
    have hf24 : f < 24 := h
    have kx : x.ok f := ok_at_top hA hx (by omega)
    have ky : y.ok f := ok_at_top hB hy (by omega)
    have kz : z.ok f := ok_at_top hC hz (by omega)
    have ifx : ∀ {R : List B} {b : B}, good R → inn R b → ∀ v, inn R (b.fix f v) := fun hg hb v => by
      cases v
      · rw [fix_low hf24]; split
        · exact inn_lo hg hb
        · exact hb
      · rw [fix_high hf24]; split
        · exact inn_hi hg hb
        · exact hb
    have side : ∀ v, ∃ k', k' = plainN (place (li A) (x.fix f v), place (li B') (y.fix f v), place (li C) (z.fix f v)) ∧ semT A B' C k' = ite (x.fix f v) (y.fix f v) (z.fix f v) ∧ valT A B' C k' ∧ muT A B' C k' < 24 - f := by
      intro v
      have ix := ifx (good_li A) hx v
      have iy := ifx (good_li B') hy v
      have iz := ifx (good_li C) hz v
      obtain ⟨y', z', hy', hz', e1, e2, t1, t2⟩ := plain_sem A B' C ix iy iz (ok_of_inn hB iy) (ok_of_inn hC iz)
      refine ⟨_, rfl, ?_, ?_, ?_⟩
      · rw [e1, es ix hy' hz', e2]
      · rw [e1]; exact ⟨_, _, _, ix, hy', hz', rfl⟩
      · rw [e1, em ix hy' hz']
        have a1 := top_fix kx hf24 v
        have a2 := top_fix ky hf24 v
        have a3 := top_fix kz hf24 v
        omega
    obtain ⟨_, rfl, l1, l2, l3⟩ := side false
    obtain ⟨_, rfl, u1, u2, u3⟩ := side true
    refine ⟨?_, l2, u2, ?_, ?_⟩
    · rw [es hx hy hz, l1, u1]; exact ite_mk hf24 kx ky kz
    · rw [em hx hy hz, ← hf]; exact l3
    · rw [em hx hy hz, ← hf]; exact u3
end
end Go.Proofs.YtalnhlebgofiiaaGreatDoor
