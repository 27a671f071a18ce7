import Derived.Test.YtaojojjdfdlgpaaDgC
import Derived.Laws.StructEq
import Derived.LoopTactic
import Derived.Laws.BitsLemmas
namespace Go.Proofs.Ytaojojjdfdlgpaa.Dg
open Go.RowKit
namespace Bd

theorem ok_can_of {g : Cfg → Bool} {n : Nat} (hn : n ≤ 24) (h : ∀ c d : Cfg, (∀ j, n ≤ j → j < 24 → c j = d j) → g c = g d) : (can g).ok n := by
  have e : can g = canF (24 - n) n g := by
    have hk : n + (24 - n) = 24 := by omega
    refine eq_of_ev (ok_can g) ((ok_canF (24 - n) n g hk).mono (Nat.zero_le _)) (fun c => ?_)
    rw [ev_can, ev_canF _ _ _ _ hk]
    refine h _ _ (fun j h1 h2 => ?_)
    simp [cut, win, h1, h2]
  rw [e]
  exact ok_canF _ _ _ (by omega)

noncomputable def ite (x y z : B) : B := can fun c => if x.ev c then y.ev c else z.ev c

theorem ok_ite0 (x y z : B) : (ite x y z).ok 0 := ok_can _
theorem ev_ite {x y z : B} (hx : x.ok 0) (hy : y.ok 0) (hz : z.ok 0) (c : Cfg) : (ite x y z).ev c = if x.ev c then y.ev c else z.ev c := by
  unfold ite; rw [ev_can, ev_cut hx, ev_cut hy, ev_cut hz]
theorem ok_ite {x y z : B} {n : Nat} (hn : n ≤ 24) (hx : x.ok n) (hy : y.ok n) (hz : z.ok n) : (ite x y z).ok n :=
  ok_can_of hn fun c d h => by rw [ev_agree hx h, ev_agree hy h, ev_agree hz h]

theorem up_self (c : Cfg) (i : Nat) : up c i (c i) = c := by
  funext j; unfold up; split
  · rename_i e; rw [e]
  · rfl

theorem ite_mk {x y z : B} {f : Nat} (hf : f < 24) (hx : x.ok f) (hy : y.ok f) (hz : z.ok f) :
    ite x y z = mk f (ite (x.fix f false) (y.fix f false) (z.fix f false)) (ite (x.fix f true) (y.fix f true) (z.fix f true)) := by
  have o : ∀ v, (ite (x.fix f v) (y.fix f v) (z.fix f v)).ok (f + 1) := fun v => ok_ite (by omega) (ok_fix hx v) (ok_fix hy v) (ok_fix hz v)
  refine eq_of_ev (ok_ite0 _ _ _) ((ok_mk hf (o false) (o true)).mono (Nat.zero_le _)) (fun c => ?_)
  have m : ∀ {b : B} {n : Nat}, b.ok n → b.ok 0 := fun h => h.mono (Nat.zero_le _)
  have e : ∀ v, (ite (x.fix f v) (y.fix f v) (z.fix f v)).ev c = (if x.ev (up c f v) then y.ev (up c f v) else z.ev (up c f v)) := fun v => by
    rw [ev_ite (m (ok_fix hx v)) (m (ok_fix hy v)) (m (ok_fix hz v)), ev_fix hx, ev_fix hy, ev_fix hz]
  rw [ev_mk, ev_ite (m hx) (m hy) (m hz), e, e]
  have u := up_self c f
  cases hc : c f <;> rw [hc] at u <;> simp [u]

def B.lo : B → B
  | .N _ l _ => l
  | b => b
def B.hi : B → B
  | .N _ _ h => h
  | b => b

theorem fix_low {x : B} {f : Nat} (hf : f < 24) : x.fix f false = if x.top = f then x.lo else x := by
  cases x with
  | F => have : ¬ B.F.top = f := by show ¬ (24 = f); omega
         rw [if_neg this]; rfl
  | T => have : ¬ B.T.top = f := by show ¬ (24 = f); omega
         rw [if_neg this]; rfl
  | N i l h => by_cases e : i = f <;> simp [B.fix, B.top, B.lo, e]
theorem fix_high {x : B} {f : Nat} (hf : f < 24) : x.fix f true = if x.top = f then x.hi else x := by
  cases x with
  | F => have : ¬ B.F.top = f := by show ¬ (24 = f); omega
         rw [if_neg this]; rfl
  | T => have : ¬ B.T.top = f := by show ¬ (24 = f); omega
         rw [if_neg this]; rfl
  | N i l h => by_cases e : i = f <;> simp [B.fix, B.top, B.hi, e]

theorem inn_lo {R : List B} {x : B} (hg : good R) (h : inn R x) : inn R x.lo := by
  cases x with
  | F => exact h
  | T => exact h
  | N i l u => exact (kids_inn hg (h.resolve_left (by simp [B.const]))).1
theorem inn_hi {R : List B} {x : B} (hg : good R) (h : inn R x) : inn R x.hi := by
  cases x with
  | F => exact h
  | T => exact h
  | N i l u => exact (kids_inn hg (h.resolve_left (by simp [B.const]))).2
theorem inn_F (R : List B) : inn R .F := .inl rfl

theorem ok_of_inn {A x : B} (hA : A.ok 0) (h : inn (li A) x) : x.ok 0 := by
  rcases h with h | h
  · cases x with
    | F => trivial
    | T => trivial
    | N i l u => cases h
  · exact (small_li hA).2 x h
theorem ok_at_top {A x : B} (hA : A.ok 0) (h : inn (li A) x) {f : Nat} (hf : f ≤ x.top) : x.ok f := ok_of_top (ok_of_inn hA h) hf
theorem top_le {x : B} (h : x.ok 0) : x.top ≤ 24 := by
  cases x with
  | F => exact Nat.le_refl _
  | T => exact Nat.le_refl _
  | N i l u => exact Nat.le_of_lt h.2.1
theorem top_fix {x : B} {f : Nat} (h : x.ok f) (hf : f < 24) (v : Bool) : f + 1 ≤ (x.fix f v).top := top_ge (ok_fix h v) (by omega)

theorem place_F {R : List B} {x : B} : place R x = 0 ↔ x = .F := by cases x <;> simp [place]
theorem place_T {R : List B} {x : B} : place R x = 1 ↔ x = .T := by cases x <;> simp [place]
theorem place_lt2 {R : List B} {x : B} : place R x < 2 ↔ x = .F ∨ x = .T := by cases x <;> simp [place]

open Classical in
/-- the set at a place -/
noncomputable def nodeAt (R : List B) (p : Nat) : B := if h : ∃ x, inn R x ∧ place R x = p then h.choose else .F
theorem nodeAt_place {R : List B} {x : B} (h : inn R x) : nodeAt R (place R x) = x := by
  unfold nodeAt
  have hex : ∃ y, inn R y ∧ place R y = place R x := ⟨x, h, rfl⟩
  rw [dif_pos hex]
  exact place_inj hex.choose_spec.1 h hex.choose_spec.2

def rowB (R : List B) (x : B) : Nat × Nat × Nat := (x.top, place R x.lo, place R x.hi)
end Bd
open Bd

section
variable (A B' C : B)
noncomputable def semT (k : Nat × Nat × Nat) : B := ite (nodeAt (li A) k.1) (nodeAt (li B') k.2.1) (nodeAt (li C) k.2.2)
def valT (k : Nat × Nat × Nat) : Prop := ∃ x y z, inn (li A) x ∧ inn (li B') y ∧ inn (li C) z ∧ k = (place (li A) x, place (li B') y, place (li C) z)
noncomputable def spT (k : Nat × Nat × Nat) : Nat × (Nat × Nat × Nat) × (Nat × Nat × Nat) := splitN k (rowB (li A) (nodeAt (li A) k.1)) (rowB (li B') (nodeAt (li B') k.2.1)) (rowB (li C) (nodeAt (li C) k.2.2))
noncomputable def muT (k : Nat × Nat × Nat) : Nat := 24 - min (nodeAt (li A) k.1).top (min (nodeAt (li B') k.2.1).top (nodeAt (li C) k.2.2).top)

/-- 'plain' keeps the set. -/
theorem plain_sem {x y z : B} (hx : inn (li A) x) (hy : inn (li B') y) (hz : inn (li C) z) (oy : y.ok 0) (oz : z.ok 0) :
    ∃ y' z', inn (li B') y' ∧ inn (li C) z' ∧ plainN (place (li A) x, place (li B') y, place (li C) z) = (place (li A) x, place (li B') y', place (li C) z') ∧ ite x y' z' = ite x y z ∧ y.top ≤ y'.top ∧ z.top ≤ z'.top := by
  by_cases h0 : x = .F
  · subst h0
    exact ⟨.F, z, inn_F _, hz, by simp [plainN, place], eq_of_ev (ok_ite0 _ _ _) (ok_ite0 _ _ _) (fun c => by rw [ev_ite (x := .F) (y := .F) trivial trivial oz, ev_ite (x := .F) trivial oy oz]; simp [B.ev]), top_le oy, Nat.le_refl _⟩
  by_cases h1 : x = .T
  · subst h1
    exact ⟨y, .F, hy, inn_F _, by simp [plainN, place], eq_of_ev (ok_ite0 _ _ _) (ok_ite0 _ _ _) (fun c => by rw [ev_ite (x := .T) (z := .F) trivial oy trivial, ev_ite (x := .T) trivial oy oz]; simp [B.ev]), Nat.le_refl _, top_le oz⟩
  · have e0 : place (li A) x ≠ 0 := fun h => h0 (place_F.1 h)
    have e1 : place (li A) x ≠ 1 := fun h => h1 (place_T.1 h)
    exact ⟨y, z, hy, hz, by simp [plainN, e0, e1], rfl, Nat.le_refl _, Nat.le_refl _⟩

theorem splT (hA : A.ok 0) (hB : B'.ok 0) (hC : C.ok 0) : Spl (semT A B' C) (valT A B' C) (muT A B' C) (spT A B' C) := by
  constructor
  · rintro k ⟨x, y, z, hx, hy, hz, rfl⟩ h
    have ox := ok_of_inn hA hx
    have oy := ok_of_inn hB hy
    have oz := ok_of_inn hC hz
    have e : spT A B' C (place (li A) x, place (li B') y, place (li C) z) = splitN (place (li A) x, place (li B') y, place (li C) z) (rowB (li A) x) (rowB (li B') y) (rowB (li C) z) := by
      simp only [spT, nodeAt_place hx, nodeAt_place hy, nodeAt_place hz]
    have es : semT A B' C (place (li A) x, place (li B') y, place (li C) z) = ite x y z := by
      simp only [semT, nodeAt_place hx, nodeAt_place hy, nodeAt_place hz]
    rw [e] at h ⊢
    rw [es]
    have tx := top_le ox
    have ty := top_le oy
    have tz := top_le oz
    have hlt : (decidedN (place (li A) x, place (li B') y, place (li C) z)).2 = true := by
      cases hd : (decidedN (place (li A) x, place (li B') y, place (li C) z)).2 with
      | true => rfl
      | false =>
        exfalso
        simp only [splitN, hd, Bool.false_eq_true, if_false, rowB] at h
        have ex : x.top = 24 := by omega
        have ey : y.top = 24 := by omega
        have ez : z.top = 24 := by omega
        have cst : ∀ {b : B}, b.ok 0 → b.top = 24 → b = .F ∨ b = .T := fun {b} ob hb => ok_24 (ok_of_top ob (by omega))
        rcases cst ox ex with rfl | rfl <;> rcases cst oy ey with rfl | rfl <;> rcases cst oz ez with rfl | rfl <;> simp [decidedN, place] at hd
    have e2 : (splitN (place (li A) x, place (li B') y, place (li C) z) (rowB (li A) x) (rowB (li B') y) (rowB (li C) z)).1 = 24 + (decidedN (place (li A) x, place (li B') y, place (li C) z)).1 := by
      simp only [splitN, hlt, if_true]
    rw [e2]
    have key : ∀ b, ite x y z = b → (b = .F ∨ b = .T) → (decidedN (place (li A) x, place (li B') y, place (li C) z)).1 = place [] b → (ite x y z = .F ∧ 24 + (decidedN (place (li A) x, place (li B') y, place (li C) z)).1 = 24) ∨ (ite x y z = .T ∧ 24 + (decidedN (place (li A) x, place (li B') y, place (li C) z)).1 = 25) := by
      rintro b hb (rfl | rfl) hp
      · exact .inl ⟨hb, by rw [hp]; rfl⟩
      · exact .inr ⟨hb, by rw [hp]; rfl⟩
    by_cases h1 : x = .T
    · subst h1
      have hd : decidedN (place (li A) .T, place (li B') y, place (li C) z) = (place (li B') y, decide (place (li B') y < 2)) := by simp [decidedN, place]
      rw [hd] at hlt key ⊢
      have hy2 := place_lt2.1 (of_decide_eq_true hlt)
      refine key y (eq_of_ev (ok_ite0 _ _ _) oy (fun c => by rw [ev_ite (x := .T) trivial oy oz]; simp [B.ev])) hy2 ?_
      rcases hy2 with rfl | rfl <;> rfl
    · have n1 : place (li A) x ≠ 1 := fun h => h1 (place_T.1 h)
      by_cases h2 : place (li B') y = place (li C) z
      · have hd : decidedN (place (li A) x, place (li B') y, place (li C) z) = (place (li B') y, decide (place (li B') y < 2)) := by simp [decidedN, h2]
        rw [hd] at hlt key ⊢
        have hy2 := place_lt2.1 (of_decide_eq_true hlt)
        have hz2 : z = y := by
          rcases hy2 with rfl | rfl
          · exact place_F.1 (h2.symm.trans rfl)
          · exact place_T.1 (h2.symm.trans rfl)
        subst hz2
        refine key z (eq_of_ev (ok_ite0 _ _ _) oz (fun c => by rw [ev_ite ox oz oz]; simp)) hy2 ?_
        rcases hy2 with rfl | rfl <;> rfl
      · by_cases h3 : x = .F
        · subst h3
          have hd : decidedN (place (li A) .F, place (li B') y, place (li C) z) = (place (li C) z, decide (place (li C) z < 2)) := by simp [decidedN, place_F.2, h2]
          rw [hd] at hlt key ⊢
          have hz2 := place_lt2.1 (of_decide_eq_true hlt)
          refine key z (eq_of_ev (ok_ite0 _ _ _) oz (fun c => by rw [ev_ite (x := .F) trivial oy oz]; simp [B.ev])) hz2 ?_
          rcases hz2 with rfl | rfl <;> rfl
        · have n3 : place (li A) x ≠ 0 := fun h => h3 (place_F.1 h)
          simp [decidedN, n1, h2, n3] at hlt
  · rintro k ⟨x, y, z, hx, hy, hz, rfl⟩ h
    have ox := ok_of_inn hA hx
    have oy := ok_of_inn hB hy
    have oz := ok_of_inn hC hz
    have e : spT A B' C (place (li A) x, place (li B') y, place (li C) z) = splitN (place (li A) x, place (li B') y, place (li C) z) (rowB (li A) x) (rowB (li B') y) (rowB (li C) z) := by
      simp only [spT, nodeAt_place hx, nodeAt_place hy, nodeAt_place hz]
    have es : ∀ {x y z : B}, inn (li A) x → inn (li B') y → inn (li C) z → semT A B' C (place (li A) x, place (li B') y, place (li C) z) = ite x y z := fun hx hy hz => by
      simp only [semT, nodeAt_place hx, nodeAt_place hy, nodeAt_place hz]
    have em : ∀ {x y z : B}, inn (li A) x → inn (li B') y → inn (li C) z → muT A B' C (place (li A) x, place (li B') y, place (li C) z) = 24 - min x.top (min y.top z.top) := fun hx hy hz => by
      simp only [muT, nodeAt_place hx, nodeAt_place hy, nodeAt_place hz]
    rw [e] at h ⊢
    have hd : (decidedN (place (li A) x, place (li B') y, place (li C) z)).2 = false := by
      cases hd : (decidedN (place (li A) x, place (li B') y, place (li C) z)).2 with
      | false => rfl
      | true => simp only [splitN, hd, if_true] at h; omega
    obtain ⟨f, hf⟩ : ∃ f, f = min x.top (min y.top z.top) := ⟨_, rfl⟩
    have hsp : ∀ {g : B → B}, True := fun {_} => trivial
    have e3 : splitN (place (li A) x, place (li B') y, place (li C) z) (rowB (li A) x) (rowB (li B') y) (rowB (li C) z) =
        (f, plainN (place (li A) (x.fix f false), place (li B') (y.fix f false), place (li C) (z.fix f false)), plainN (place (li A) (x.fix f true), place (li B') (y.fix f true), place (li C) (z.fix f true))) := by
      have hf24 : f < 24 := by
        simp only [splitN, hd, Bool.false_eq_true, if_false, rowB] at h
        omega
      simp only [splitN, hd, Bool.false_eq_true, if_false, rowB, ← hf, fix_low hf24, fix_high hf24]
      have q : ∀ (R : List B) (b l : B), place R (if b.top = f then l else b) = if b.top = f then place R l else place R b := fun R b l => by split <;> rfl
      simp only [q]
    rw [e3] at h ⊢
    have hf24 : f < 24 := h
    have kx : x.ok f := ok_at_top hA hx (by omega)
    have ky : y.ok f := ok_at_top hB hy (by omega)
    have kz : z.ok f := ok_at_top hC hz (by omega)
    have ifx : ∀ {R : List B} {b : B}, good R → inn R b → ∀ v, inn R (b.fix f v) := fun hg hb v => by
      cases v
      · rw [fix_low hf24]; split
        · exact inn_lo hg hb
        · exact hb
      · rw [fix_high hf24]; split
        · exact inn_hi hg hb
        · exact hb
    have side : ∀ v, ∃ k', k' = plainN (place (li A) (x.fix f v), place (li B') (y.fix f v), place (li C) (z.fix f v)) ∧ semT A B' C k' = ite (x.fix f v) (y.fix f v) (z.fix f v) ∧ valT A B' C k' ∧ muT A B' C k' < 24 - f := by
      intro v
      have ix := ifx (good_li A) hx v
      have iy := ifx (good_li B') hy v
      have iz := ifx (good_li C) hz v
      obtain ⟨y', z', hy', hz', e1, e2, t1, t2⟩ := plain_sem A B' C ix iy iz (ok_of_inn hB iy) (ok_of_inn hC iz)
      refine ⟨_, rfl, ?_, ?_, ?_⟩
      · rw [e1, es ix hy' hz', e2]
      · rw [e1]; exact ⟨_, _, _, ix, hy', hz', rfl⟩
      · rw [e1, em ix hy' hz']
        have a1 := top_fix kx hf24 v
        have a2 := top_fix ky hf24 v
        have a3 := top_fix kz hf24 v
        omega
    obtain ⟨_, rfl, l1, l2, l3⟩ := side false
    obtain ⟨_, rfl, u1, u2, u3⟩ := side true
    refine ⟨?_, l2, u2, ?_, ?_⟩
    · rw [es hx hy hz, l1, u1]; exact ite_mk hf24 kx ky kz
    · rw [em hx hy hz, ← hf]; exact l3
    · rw [em hx hy hz, ← hf]; exact u3
end
end Go.Proofs.Ytaojojjdfdlgpaa.Dg

namespace Go.Proofs.Ytaojojjdfdlgpaa.Dg
open Go.RowKit
open Bd

theorem at_any (b x : B) (hb : b.ok 0) (hx : inn (li b) x) (w : World) : Calls Try.prog 75 #[dval b, .int .u32 (place (li b) x : Int)] w fun e w' => e = .returned (nk (rowB (li b) x)) ∧ Below w.heap.size w w' := by
  cases x with
  | F => exact at_small _ 0 _ _ w rfl (by omega)
  | T => exact at_small _ 1 _ _ w rfl (by omega)
  | N i l u =>
    have hm : B.N i l u ∈ li b := hx.resolve_left (by simp [B.const])
    obtain ⟨h1, h2, h3⟩ := rows_at (good_li b) hm
    have hs := rows_small (good_li b) (small_li hb) _ (List.mem_of_getElem? h1)
    exact at_row _ (pos (li b) (.N i l u)) _ _ (rows (li b)) (i, place (li b) l, place (li b) u) w rfl (by simp) h1 (by rw [rows_length (good_li b)]; exact (small_li hb).1) (by simp only at hs ⊢; omega)

noncomputable abbrev chB (A B' C : B) : Value := chv (place (li A) A) (place (li B') B') (place (li C) C) ⟨(code (rows (li A))).toArray⟩ ⟨(code (rows (li B'))).toArray⟩ ⟨(code (rows (li C))).toArray⟩

theorem split_any (A B' C : B) (hA : A.ok 0) (hB : B'.ok 0) (hC : C.ok 0) (k : Nat × Nat × Nat) (w : World) (hk : valT A B' C k) :
    Calls Try.prog 100 #[chB A B' C, tk k] w fun e w' => e = .returned (.tuple #[.int .i64 ((spT A B' C k).1 : Int), tk (spT A B' C k).2.1, tk (spT A B' C k).2.2]) ∧ Below w.heap.size w w' := by
  obtain ⟨x, y, z, hx, hy, hz, rfl⟩ := hk
  have e : spT A B' C (place (li A) x, place (li B') y, place (li C) z) = splitN (place (li A) x, place (li B') y, place (li C) z) (rowB (li A) x) (rowB (li B') y) (rowB (li C) z) := by
    simp only [spT, nodeAt_place hx, nodeAt_place hy, nodeAt_place hz]
  rw [e]
  cases hd : (decidedN (place (li A) x, place (li B') y, place (li C) z)).2 with
  | true =>
    have hp : (decidedN (place (li A) x, place (li B') y, place (li C) z)).1 < 2 := by
      unfold decidedN at hd ⊢
      split at hd
      · rename_i h; rw [if_pos h]; exact of_decide_eq_true hd
      · rename_i h; rw [if_neg h]
        split at hd
        · rename_i h'; rw [if_pos h']; exact of_decide_eq_true hd
        · cases hd
    have e2 : splitN (place (li A) x, place (li B') y, place (li C) z) (rowB (li A) x) (rowB (li B') y) (rowB (li C) z) = (24 + (decidedN (place (li A) x, place (li B') y, place (li C) z)).1, (place (li A) x, place (li B') y, place (li C) z), (place (li A) x, place (li B') y, place (li C) z)) := by
      simp only [splitN, hd, if_true]
    rw [e2]
    exact split_leaf _ _ _ _ _ _ _ _ _ hd hp w
  | false =>
    exact split_step _ _ _ _ _ _ _ _ _ _ _ _ hd w (Nat.lt_succ_of_le (top_le (ok_of_inn hA hx))) (Nat.lt_succ_of_le (top_le (ok_of_inn hB hy))) (Nat.lt_succ_of_le (top_le (ok_of_inn hC hz)))
      (fun w => at_any A x hA hx w) (fun w => at_any B' y hB hy w) (fun w => at_any C z hC hz w)

theorem growIte (A B' C : B) (hA : A.ok 0) (hB : B'.ok 0) (hC : C.ok 0) (w : World) :
    Calls Try.prog 99 #[tk (place (li A) A, place (li B') B', place (li C) C), .func (.func 100) #[chB A B' C] #[]] w fun e w' => e = .returned (dval (ite A B' C)) ∧ Below w.heap.size w w' := by
  have hv : valT A B' C (place (li A) A, place (li B') B', place (li C) C) := ⟨A, B', C, inn_li A, inn_li B', inn_li C, rfl⟩
  have hs : semT A B' C (place (li A) A, place (li B') B', place (li C) C) = ite A B' C := by simp only [semT, nodeAt_place (inn_li A), nodeAt_place (inn_li B'), nodeAt_place (inn_li C)]
  have := growT_any (splT A B' C hA hB hC) (chB A B' C) (fun k hk => ?_) (fun k w hk => split_any A B' C hA hB hC k w hk) _ w hv (by rw [hs]; exact ok_ite0 _ _ _)
  · rw [hs] at this; exact this
  · obtain ⟨x, y, z, hx, hy, hz, rfl⟩ := hk
    have h1 := place_small (small_li hA) hx
    have h2 := place_small (small_li hB) hy
    have h3 := place_small (small_li hC) hz
    simp only; omega

theorem of_bytes_beq {a b : ByteArray} (h : (a == b) = true) : a = b := by
  rcases a with ⟨a⟩
  rcases b with ⟨b⟩
  have h' : (a == b) = true := h
  rw [eq_of_beq h']

theorem beq_dec (p q : Nat) : ((p : Int) == (q : Int)) = decide (p = q) := run_neq_nat p q

set_option maxRecDepth 100000 in
set_option maxHeartbeats 400000 in
theorem Full_any (A : B) (w : World) : Calls Try.prog 97 #[dval A] w fun e w' => e = .returned (.bool (decide (A = .T))) ∧ Below w.heap.size w w' := by
  have h : ((place (li A) A : Int) == 1) = decide (A = .T) := by
    rw [show (1 : Int) = ((1 : Nat) : Int) from rfl, beq_dec]
    exact decide_eq_decide.2 place_T
  have H := Lib.hid h
  clear h
  go_enter Try.func97, Try.ntmps97
  go_wp2
  go_ret
  exact ⟨by rw [← H.out]; rfl, (Below.refl _ _).alloc (Nat.le_refl _) _⟩

set_option maxRecDepth 100000 in
set_option maxHeartbeats 400000 in
theorem Empty_any (A : B) (w : World) : Calls Try.prog 40 #[dval A] w fun e w' => e = .returned (.bool (decide (A = .F))) ∧ Below w.heap.size w w' := by
  have h : ((place (li A) A : Int) == 0) = decide (A = .F) := by
    rw [show (0 : Int) = ((0 : Nat) : Int) from rfl, beq_dec]
    exact decide_eq_decide.2 place_F
  have H := Lib.hid h
  clear h
  go_enter Try.func40, Try.ntmps40
  go_wp2
  go_ret
  exact ⟨by rw [← H.out]; rfl, (Below.refl _ _).alloc (Nat.le_refl _) _⟩

set_option maxRecDepth 100000 in
set_option maxHeartbeats 400000 in
theorem same_raw (p q : Nat) (S T : ByteArray) (r : Bool) (h : (p = q ∧ S = T ∧ r = true) ∨ (p = q ∧ ¬ S.toList = T.toList ∧ r = false) ∨ (¬ p = q ∧ r = false)) (w : World) :
    Calls Try.prog 98 #[.agg #[.int .u32 (p : Int), .string S], .agg #[.int .u32 (q : Int), .string T]] w fun e w' => e = .returned (.bool r) ∧ Below w.heap.size w w' := by
  have fin := ((Below.refl w.heap.size w).alloc (Nat.le_refl _) (.cells #[.int .u32 (p : Int), .string S] 52)).alloc (by simp) (.cells #[.int .u32 (q : Int), .string T] 52)
  rcases h with ⟨rfl, rfl, rfl⟩ | ⟨rfl, h2, rfl⟩ | ⟨h1, rfl⟩
  · go_enter Try.func98, Try.ntmps98
    go_wp2
    go_ret
    exact ⟨rfl, fin⟩
  · go_enter Try.func98, Try.ntmps98
    go_wp2
    go_ret
    exact ⟨rfl, fin⟩
  · have h2 : ¬ ((p : Int) = (q : Int)) := by omega
    go_enter Try.func98, Try.ntmps98
    go_wp2
    go_ret
    exact ⟨rfl, fin⟩

theorem Same_any (A B' : B) (hA : A.ok 0) (hB : B'.ok 0) (w : World) : Calls Try.prog 98 #[dval A, dval B'] w fun e w' => e = .returned (.bool (decide (A = B'))) ∧ Below w.heap.size w w' := by
  refine same_raw _ _ _ _ _ ?_ w
  by_cases h : A = B'
  · subst h; exact .inl ⟨rfl, rfl, by simp⟩
  · by_cases h1 : place (li A) A = place (li B') B'
    · refine .inr (.inl ⟨h1, fun e => ?_, by simp [h]⟩)
      have e' : (⟨(code (rows (li A))).toArray⟩ : ByteArray) = ⟨(code (rows (li B'))).toArray⟩ := by
        have := beq_toListBytes (⟨(code (rows (li A))).toArray⟩ : ByteArray) ⟨(code (rows (li B'))).toArray⟩
        rw [e, beq_self_eq_true] at this
        exact of_bytes_beq this
      injection e' with e'
      exact h (enc_inj hA hB h1 (by simpa using congrArg Array.toList e'))
    · exact .inr (.inr ⟨h1, by simp [h]⟩)
end Go.Proofs.Ytaojojjdfdlgpaa.Dg
namespace Go.Proofs.Ytaojojjdfdlgpaa.Dg
open Go.RowKit
open Bd

/-- the variables of Ite -/
structure IteSt (A B' C : B) (w0 w : World) : Prop where
  fr : Fr nob w0 w
  a0 : w.cell? ⟨w0.heap.size, 0, none⟩ = some (.int .u32 (place (li A) A : Int))
  a1 : w.cell? ⟨w0.heap.size, 1, none⟩ = some (.string ⟨(code (rows (li A))).toArray⟩)
  b0 : w.cell? ⟨w0.heap.size + 1, 0, none⟩ = some (.int .u32 (place (li B') B' : Int))
  b1 : w.cell? ⟨w0.heap.size + 1, 1, none⟩ = some (.string ⟨(code (rows (li B'))).toArray⟩)
  c0 : w.cell? ⟨w0.heap.size + 1 + 1, 0, none⟩ = some (.int .u32 (place (li C) C : Int))
  c1 : w.cell? ⟨w0.heap.size + 1 + 1, 1, none⟩ = some (.string ⟨(code (rows (li C))).toArray⟩)
  r0 : w.cell? ⟨w0.heap.size + 1 + 1 + 1, 0, none⟩ = some (.int .u32 0)
  r1 : w.cell? ⟨w0.heap.size + 1 + 1 + 1, 1, none⟩ = some (.string ⟨#[]⟩)
  f0 : w.frozen? ⟨w0.heap.size + 1 + 1 + 1, 0, none⟩ = false
  f1 : w.frozen? ⟨w0.heap.size + 1 + 1 + 1, 1, none⟩ = false

theorem IteSt.kept {A B' C : B} {w0 w w' : World} (h : IteSt A B' C w0 w) (hb : Below w.heap.size w w') : IteSt A B' C w0 w' := by
  have fr : Fr nob w w' := (Fr.refl nob w).below hb
  have l1 : w0.heap.size + 1 + 1 + 1 < w.heap.size := lt_of_cell h.r0
  have c : ∀ {p : Addr} {v : Value}, w.cell? p = some v → _ := fun h => fr.cell h (fun h => h)
  exact ⟨h.fr.trans fr (fun _ _ h => h), c h.a0, c h.a1, c h.b0, c h.b1, c h.c0, c h.c1, c h.r0, c h.r1, (fr.frozen (p := ⟨w0.heap.size + 1 + 1 + 1, 0, none⟩) l1 (fun h => h)).trans h.f0, (fr.frozen (p := ⟨w0.heap.size + 1 + 1 + 1, 1, none⟩) l1 (fun h => h)).trans h.f1⟩

theorem IteSt.start (A B' C : B) (w : World) : IteSt A B' C w ((((w.alloc (.cells #[.int .u32 (place (li A) A : Int), .string ⟨(code (rows (li A))).toArray⟩] 52)).alloc (.cells #[.int .u32 (place (li B') B' : Int), .string ⟨(code (rows (li B'))).toArray⟩] 52)).alloc
    (.cells #[.int .u32 (place (li C) C : Int), .string ⟨(code (rows (li C))).toArray⟩] 52)).alloc (.cells #[.int .u32 0, .string ⟨#[]⟩] 52)) :=
  ⟨(((((Fr.refl nob w).alloc _).alloc _).alloc _).alloc _), cell_alloc_l (cell_alloc_l (cell_alloc_l (World.cell?_alloc_at _ _ _ _ (by simp)) _) _) _, cell_alloc_l (cell_alloc_l (cell_alloc_l (World.cell?_alloc_at _ _ _ _ (by simp)) _) _) _,
    cell_alloc_l (cell_alloc_l (World.cell?_alloc_at _ _ _ _ (by simp)) _) _, cell_alloc_l (cell_alloc_l (World.cell?_alloc_at _ _ _ _ (by simp)) _) _, cell_alloc_l (World.cell?_alloc_at _ _ _ _ (by simp)) _, cell_alloc_l (World.cell?_alloc_at _ _ _ _ (by simp)) _,
    World.cell?_alloc_at _ _ _ _ (by simp), World.cell?_alloc_at _ _ _ _ (by simp), World.frozen?_alloc_at _ _ _ _ (by simp), World.frozen?_alloc_at _ _ _ _ (by simp)⟩

theorem ite_T {B' C : B} (hB : B'.ok 0) (hC : C.ok 0) : ite .T B' C = B' := eq_of_ev (ok_ite0 _ _ _) hB (fun c => by rw [ev_ite (x := .T) trivial hB hC]; simp [B.ev])
theorem ite_F {B' C : B} (hB : B'.ok 0) (hC : C.ok 0) : ite .F B' C = C := eq_of_ev (ok_ite0 _ _ _) hC (fun c => by rw [ev_ite (x := .F) trivial hB hC]; simp [B.ev])
theorem ite_same {A B' : B} (hA : A.ok 0) (hB : B'.ok 0) : ite A B' B' = B' := eq_of_ev (ok_ite0 _ _ _) hB (fun c => by rw [ev_ite hA hB hB]; simp)
theorem ite_TF {A : B} (hA : A.ok 0) : ite A .T .F = A := eq_of_ev (ok_ite0 _ _ _) hA (fun c => by rw [ev_ite (y := .T) (z := .F) hA trivial trivial]; simp [B.ev])

set_option maxRecDepth 100000 in
set_option maxHeartbeats 1000000 in
theorem Ite_any (A B' C : B) (hA : A.ok 0) (hB : B'.ok 0) (hC : C.ok 0) (w : World) : Calls Try.prog 67 #[dval A, dval B', dval C] w fun e w' => e = .returned (dval (ite A B' C)) ∧ Below w.heap.size w w' := by
  have S0 := IteSt.start A B' C w
  have hmf : ∀ (fn : Fn) (first cap : Array Value) (w : World), (Instr.makeFunc fn first cap).run Try.prog w = .ok (.func fn first cap) w := fun _ _ _ _ => rfl
  go_enter Try.func67, Try.ntmps67
  go_wp2_with fail
  refine (Full_any A _).mono ?_
  rintro e w1 ⟨rfl, hb⟩
  have S1 := S0.kept hb
  clear hb
  by_cases h1 : A = .T
  · subst h1
    have ⟨_, a01, a11, b01, b11, c01, c11, r01, r11, f01, f11⟩ := S1
    rw [show decide (B.T = .T) = true by simp]
    go_wp2_with fail
    refine bodyPost_ret (v := dval B') (by simp [results, Try.results67, go_sem, r01, r11]) rfl ⟨by rw [ite_T hB hC], ?_⟩
    exact ((S1.fr.set1 (by omega) _).set1 (by omega) _).to_below (Nat.le_refl _) (fun _ h => h.elim)
  rw [show decide (A = .T) = false by simp [h1]]
  have ⟨_, a01, a11, b01, b11, c01, c11, r01, r11, f01, f11⟩ := S1
  go_wp2_with fail
  clear a01 a11 b01 b11 c01 c11 r01 r11 f01 f11
  refine (Same_any B' C hB hC _).mono ?_
  rintro e w2 ⟨rfl, hb⟩
  have S2 := S1.kept hb
  clear hb
  by_cases h2 : B' = C
  · subst h2
    rw [show decide (B' = B') = true by simp]
    have ⟨_, a02, a12, b02, b12, c02, c12, r02, r12, f02, f12⟩ := S2
    go_wp2_with fail
    refine bodyPost_ret (v := dval B') (by simp [results, Try.results67, go_sem, r02, r12]) rfl ⟨by rw [ite_same hA hB], ?_⟩
    exact ((S2.fr.set1 (by omega) _).set1 (by omega) _).to_below (Nat.le_refl _) (fun _ h => h.elim)
  rw [show decide (B' = C) = false by simp [h2]]
  have ⟨_, a02, a12, b02, b12, c02, c12, r02, r12, f02, f12⟩ := S2
  go_wp2_with fail
  clear a02 a12 b02 b12 c02 c12 r02 r12 f02 f12
  refine (Empty_any A _).mono ?_
  rintro e w3 ⟨rfl, hb⟩
  have S3 := S2.kept hb
  clear hb
  by_cases h3 : A = .F
  · subst h3
    rw [show decide (B.F = .F) = true by simp]
    have ⟨_, a03, a13, b03, b13, c03, c13, r03, r13, f03, f13⟩ := S3
    go_wp2_with fail
    refine bodyPost_ret (v := dval C) (by simp [results, Try.results67, go_sem, r03, r13]) rfl ⟨by rw [ite_F hB hC], ?_⟩
    exact ((S3.fr.set1 (by omega) _).set1 (by omega) _).to_below (Nat.le_refl _) (fun _ h => h.elim)
  rw [show decide (A = .F) = false by simp [h3]]
  have ⟨_, a03, a13, b03, b13, c03, c13, r03, r13, f03, f13⟩ := S3
  go_wp2_with fail
  clear a03 a13 b03 b13 c03 c13 r03 r13 f03 f13
  refine (Full_any B' _).mono ?_
  rintro e w4 ⟨rfl, hb⟩
  have S4 := S3.kept hb
  clear hb
  by_cases h4 : B' = .T
  · subst h4
    rw [show decide (B.T = .T) = true by simp]
    have ⟨_, a04, a14, b04, b14, c04, c14, r04, r14, f04, f14⟩ := S4
    go_wp2_with fail
    clear a04 a14 b04 b14 c04 c14 r04 r14 f04 f14
    refine (Empty_any C _).mono ?_
    rintro e w5 ⟨rfl, hb⟩
    have S5 := S4.kept hb
    clear hb
    by_cases h5 : C = .F
    · rw [show decide (C = .F) = true by simp [h5]]
      have ⟨_, a05, a15, b05, b15, c05, c15, r05, r15, f05, f15⟩ := S5
      go_wp2_with fail
      refine bodyPost_ret (v := dval A) (by simp [results, Try.results67, go_sem, r05, r15]) rfl ⟨by rw [h5, ite_TF hA], ?_⟩
      exact ((S5.fr.set1 (by omega) _).set1 (by omega) _).to_below (Nat.le_refl _) (fun _ h => h.elim)
    · rw [show decide (C = .F) = false by simp [h5]]
      have ⟨_, a05, a15, b05, b15, c05, c15, r05, r15, f05, f15⟩ := S5
      have a0' := cell_alloc_l a05
      have b0' := cell_alloc_l b05
      have c0' := cell_alloc_l c05
      go_wp2_with fail
      have fr5 := S5.fr
      clear a0' b0' c0'
      refine (growIte A .T C hA hB hC _).mono ?_
      rintro e w6 ⟨rfl, hb⟩
      have F := (Fr.refl nob _).below hb
      have r0 := F.cell (cell_alloc_l r05 _) (fun h => h)
      have r1 := F.cell (cell_alloc_l r15 _) (fun h => h)
      have l0 := lt_of_cell r05
      have f0 := (F.frozen (p := ⟨w.heap.size + 1 + 1 + 1, 0, none⟩) (by rw [World.size_alloc]; exact Nat.lt_succ_of_lt l0) (fun h => h)).trans ((World.frozen?_of_block (Below.heap_alloc _ _ _ l0)).trans f05)
      have f1 := (F.frozen (p := ⟨w.heap.size + 1 + 1 + 1, 1, none⟩) (by rw [World.size_alloc]; exact Nat.lt_succ_of_lt l0) (fun h => h)).trans ((World.frozen?_of_block (a := ⟨w.heap.size + 1 + 1 + 1, 1, none⟩) (Below.heap_alloc _ _ _ l0)).trans f15)
      have G := (fr5.alloc _).trans F (fun _ _ h => h)
      clear F hb
      go_wp2_with fail
      refine bodyPost_ret (v := dval (Bd.ite A .T C)) (by simp [results, Try.results67, go_sem, r0, r1]) rfl ⟨rfl, ?_⟩
      exact ((G.set1 (by omega) _).set1 (by omega) _).to_below (Nat.le_refl _) (fun _ h => h.elim)
  · rw [show decide (B' = .T) = false by simp [h4]]
    have ⟨_, a04, a14, b04, b14, c04, c14, r04, r14, f04, f14⟩ := S4
    have a0' := cell_alloc_l a04
    have b0' := cell_alloc_l b04
    have c0' := cell_alloc_l c04
    go_wp2_with fail
    have fr4 := S4.fr
    clear a0' b0' c0'
    refine (growIte A B' C hA hB hC _).mono ?_
    rintro e w5 ⟨rfl, hb⟩
    have F := (Fr.refl nob _).below hb
    have r0 := F.cell (cell_alloc_l r04 _) (fun h => h)
    have r1 := F.cell (cell_alloc_l r14 _) (fun h => h)
    have l0 := lt_of_cell r04
    have f0 := (F.frozen (p := ⟨w.heap.size + 1 + 1 + 1, 0, none⟩) (by rw [World.size_alloc]; exact Nat.lt_succ_of_lt l0) (fun h => h)).trans ((World.frozen?_of_block (Below.heap_alloc _ _ _ l0)).trans f04)
    have f1 := (F.frozen (p := ⟨w.heap.size + 1 + 1 + 1, 1, none⟩) (by rw [World.size_alloc]; exact Nat.lt_succ_of_lt l0) (fun h => h)).trans ((World.frozen?_of_block (a := ⟨w.heap.size + 1 + 1 + 1, 1, none⟩) (Below.heap_alloc _ _ _ l0)).trans f14)
    have G := (fr4.alloc _).trans F (fun _ _ h => h)
    clear F hb
    go_wp2_with fail
    refine bodyPost_ret (v := dval (Bd.ite A B' C)) (by simp [results, Try.results67, go_sem, r0, r1]) rfl ⟨rfl, ?_⟩
    exact ((G.set1 (by omega) _).set1 (by omega) _).to_below (Nat.le_refl _) (fun _ h => h.elim)
end Go.Proofs.Ytaojojjdfdlgpaa.Dg

namespace Go.Proofs.Ytaojojjdfdlgpaa.Dg
open Go.RowKit
open Bd

set_option maxRecDepth 100000 in
set_option maxHeartbeats 400000 in
theorem True_any (w : World) : Calls Try.prog 72 #[] w fun e w' => e = .returned (dval .T) ∧ Below w.heap.size w w' := by
  go_enter Try.func72, Try.ntmps72
  go_wp2
  refine bodyPost_ret (v := dval .T) (by simp [results, Try.results72, go_sem, dval]; exact ⟨rfl, rfl⟩) rfl ⟨rfl, ?_⟩
  exact (Below.refl _ _).alloc (Nat.le_refl _) _

set_option maxRecDepth 100000 in
set_option maxHeartbeats 400000 in
theorem False_any (w : World) : Calls Try.prog 32 #[] w fun e w' => e = .returned (dval .F) ∧ Below w.heap.size w w' := by
  go_enter Try.func32, Try.ntmps32
  go_wp2
  refine bodyPost_ret (v := dval .F) (by simp [results, Try.results32, go_sem, dval]; exact ⟨rfl, rfl⟩) rfl ⟨rfl, ?_⟩
  exact (Below.refl _ _).alloc (Nat.le_refl _) _

set_option maxRecDepth 100000 in
set_option maxHeartbeats 400000 in
theorem And_any (A B' : B) (hA : A.ok 0) (hB : B'.ok 0) (w : World) : Calls Try.prog 106 #[dval A, dval B'] w fun e w' => e = .returned (dval (ite A B' .F)) ∧ Below w.heap.size w w' := by
  have a0 := cell_alloc_l (cell_alloc_l (World.cell?_alloc_at _ _ _ _ (by simp) : (w.alloc (.cells #[.int .u32 (place (li A) A : Int), .string ⟨(code (rows (li A))).toArray⟩] 52)).cell? ⟨w.heap.size, 0, none⟩ = some (.int .u32 (place (li A) A : Int))) (.cells #[.int .u32 (place (li B') B' : Int), .string ⟨(code (rows (li B'))).toArray⟩] 52)) (.cells #[.int .u32 0, .string ⟨#[]⟩] 52)
  have a1 := cell_alloc_l (cell_alloc_l (World.cell?_alloc_at _ _ _ _ (by simp) : (w.alloc (.cells #[.int .u32 (place (li A) A : Int), .string ⟨(code (rows (li A))).toArray⟩] 52)).cell? ⟨w.heap.size, 1, none⟩ = some (.string ⟨(code (rows (li A))).toArray⟩)) (.cells #[.int .u32 (place (li B') B' : Int), .string ⟨(code (rows (li B'))).toArray⟩] 52)) (.cells #[.int .u32 0, .string ⟨#[]⟩] 52)
  have b0 := cell_alloc_l (World.cell?_alloc_at _ _ _ _ (by simp) : (((w.alloc (.cells #[.int .u32 (place (li A) A : Int), .string ⟨(code (rows (li A))).toArray⟩] 52)).alloc (.cells #[.int .u32 (place (li B') B' : Int), .string ⟨(code (rows (li B'))).toArray⟩] 52)).cell? ⟨w.heap.size + 1, 0, none⟩ = some (.int .u32 (place (li B') B' : Int)))) (.cells #[.int .u32 0, .string ⟨#[]⟩] 52)
  have b1 := cell_alloc_l (World.cell?_alloc_at _ _ _ _ (by simp) : (((w.alloc (.cells #[.int .u32 (place (li A) A : Int), .string ⟨(code (rows (li A))).toArray⟩] 52)).alloc (.cells #[.int .u32 (place (li B') B' : Int), .string ⟨(code (rows (li B'))).toArray⟩] 52)).cell? ⟨w.heap.size + 1, 1, none⟩ = some (.string ⟨(code (rows (li B'))).toArray⟩))) (.cells #[.int .u32 0, .string ⟨#[]⟩] 52)
  have fr := ((Fr.refl nob w).alloc (.cells #[.int .u32 (place (li A) A : Int), .string ⟨(code (rows (li A))).toArray⟩] 52)).alloc (.cells #[.int .u32 (place (li B') B' : Int), .string ⟨(code (rows (li B'))).toArray⟩] 52) |>.alloc (.cells #[.int .u32 0, .string ⟨#[]⟩] 52)
  have r0 : ((((w.alloc (.cells #[.int .u32 (place (li A) A : Int), .string ⟨(code (rows (li A))).toArray⟩] 52)).alloc (.cells #[.int .u32 (place (li B') B' : Int), .string ⟨(code (rows (li B'))).toArray⟩] 52)).alloc (.cells #[.int .u32 0, .string ⟨#[]⟩] 52))).cell? ⟨w.heap.size + 1 + 1, 0, none⟩ = some (.int .u32 0) := World.cell?_alloc_at _ _ _ _ (by simp)
  have r1 : ((((w.alloc (.cells #[.int .u32 (place (li A) A : Int), .string ⟨(code (rows (li A))).toArray⟩] 52)).alloc (.cells #[.int .u32 (place (li B') B' : Int), .string ⟨(code (rows (li B'))).toArray⟩] 52)).alloc (.cells #[.int .u32 0, .string ⟨#[]⟩] 52))).cell? ⟨w.heap.size + 1 + 1, 1, none⟩ = some (.string ⟨#[]⟩) := World.cell?_alloc_at _ _ _ _ (by simp)
  have f0 : ((((w.alloc (.cells #[.int .u32 (place (li A) A : Int), .string ⟨(code (rows (li A))).toArray⟩] 52)).alloc (.cells #[.int .u32 (place (li B') B' : Int), .string ⟨(code (rows (li B'))).toArray⟩] 52)).alloc (.cells #[.int .u32 0, .string ⟨#[]⟩] 52))).frozen? ⟨w.heap.size + 1 + 1, 0, none⟩ = false := World.frozen?_alloc_at _ _ _ _ (by simp)
  have f1 : ((((w.alloc (.cells #[.int .u32 (place (li A) A : Int), .string ⟨(code (rows (li A))).toArray⟩] 52)).alloc (.cells #[.int .u32 (place (li B') B' : Int), .string ⟨(code (rows (li B'))).toArray⟩] 52)).alloc (.cells #[.int .u32 0, .string ⟨#[]⟩] 52))).frozen? ⟨w.heap.size + 1 + 1, 1, none⟩ = false := World.frozen?_alloc_at _ _ _ _ (by simp)
  go_enter Try.func106, Try.ntmps106
  go_wp2_with fail
  refine wp_region_grow' 4 9 (fun _ => #[]) [] (by kernel_rfl) (by kernel_rfl) rfl rfl (by intro T h; cases h) ?_
  generalize (((w.alloc (.cells #[.int .u32 (place (li A) A : Int), .string ⟨(code (rows (li A))).toArray⟩] 52)).alloc (.cells #[.int .u32 (place (li B') B' : Int), .string ⟨(code (rows (li B'))).toArray⟩] 52)).alloc (.cells #[.int .u32 0, .string ⟨#[]⟩] 52)) = W at *
  simp only [List.take_succ_cons, List.take_zero]
  refine grow_step (v := ?v0) rfl rfl ?a0 ?b0
  case a0 =>
    intro w' hw'
    have y_a0 := hw'.cell a0 (fun h => h)
    have y_a1 := hw'.cell a1 (fun h => h)
    clear hw'
    refine growAt_value ?_
    go_simp
    rfl
  simp only [Act.put, List.setIfInBounds_toArray, List.set_cons_zero, List.set_cons_succ]
  refine grow_step (v := ?v1) rfl rfl ?a1 ?b1
  case a1 =>
    intro w' hw'
    have y_b0 := hw'.cell b0 (fun h => h)
    have y_b1 := hw'.cell b1 (fun h => h)
    clear hw'
    refine growAt_value ?_
    go_simp
    rfl
  simp only [Act.put, List.setIfInBounds_toArray, List.set_cons_zero, List.set_cons_succ]
  refine grow_step (v := dval .F) rfl rfl ?a2 ?b2
  case a2 =>
    intro w' hw'
    refine growAt_call ?_ ((False_any w').mono fun e w'' ⟨he, hb⟩ => ⟨he, (Fr.refl nob _).below hb⟩)
    go_simp
  simp only [Act.put, List.setIfInBounds_toArray, List.set_cons_zero, List.set_cons_succ]
  refine grow_step (v := dval (ite A B' .F)) rfl rfl ?a3 ?b3
  case a3 =>
    intro w' hw'
    refine growAt_call ?_ ((Ite_any A B' .F hA hB trivial w').mono fun e w'' ⟨he, hb⟩ => ⟨he, (Fr.refl nob _).below hb⟩)
    go_simp
  simp only [Act.put, List.setIfInBounds_toArray, List.set_cons_zero, List.set_cons_succ]
  refine grow_nil ?_
  intro w2 listed fr2 _ _
  have r02 := fr2.cell r0 (fun h => h)
  have r12 := fr2.cell r1 (fun h => h)
  have l0 := lt_of_cell r0
  have f02 := (fr2.frozen (p := ⟨w.heap.size + 1 + 1, 0, none⟩) l0 (fun h => h)).trans f0
  have f12 := (fr2.frozen (p := ⟨w.heap.size + 1 + 1, 1, none⟩) l0 (fun h => h)).trans f1
  have G := fr.trans fr2 (fun _ _ h => h)
  clear a0 a1 b0 b1 fr fr2 r0 r1 f0 f1
  go_wp2_with fail
  refine bodyPost_ret (v := dval (ite A B' .F)) (by simp [results, Try.results106, go_sem, r02, r12]) rfl ⟨rfl, ?_⟩
  exact ((G.set1 (by omega) _).set1 (by omega) _).to_below (Nat.le_refl _) (fun _ h => h.elim)

end Go.Proofs.Ytaojojjdfdlgpaa.Dg

namespace Go.Proofs.Ytaojojjdfdlgpaa.Dg
open Go.RowKit
namespace Bd

theorem pos_kid : ∀ {R : List B} {i : Nat} {lo hi : B}, good R → B.N i lo hi ∈ R → place R lo < place R (B.N i lo hi) ∧ place R hi < place R (B.N i lo hi)
  | [], _, _, _, _, h => by cases h
  | .F :: _, _, _, _, hg, _ => False.elim hg
  | .T :: _, _, _, _, hg, _ => False.elim hg
  | .N j l u :: r, i, lo, hi, hg, h => by
    obtain ⟨hn, hl, hu, hr⟩ := hg
    by_cases e : B.N i lo hi = .N j l u
    · cases e
      rw [place_cons hl hn, place_cons hu hn]
      have h1 := place_lt hl
      have h2 := place_lt hu
      have h3 : place (B.N j l u :: r) (B.N j l u) = r.length + 2 := by simp [place, pos]
      omega
    · have hm := List.mem_of_ne_of_mem e h
      obtain ⟨_, k1, k2⟩ := rows_at hr hm
      rw [place_cons k1 hn, place_cons k2 hn, place_cons (.inr hm) hn]
      exact pos_kid hr hm
end Bd
open Bd

theorem wraps_u32 (n : Int) (h₀ : 0 ≤ n) (h₁ : n < 2 ^ 32) : IntKind.u32.wrap n = n := by rw [IntKind.wrap_u32]; omega

theorem bit_u32 (c i : Nat) (hc : c < 2 ^ 32) : (bits BinOp.and IntKind.u32 ((c : Int) / 2 ^ i) 1 == 1) = c.testBit i := by
  have e : (c : Int) / 2 ^ i = ((c / 2 ^ i : Nat) : Int) := by simp
  have hlt : c / 2 ^ i < 2 ^ 32 := Nat.lt_of_le_of_lt (Nat.div_le_self _ _) hc
  have h := (bits_nat .u32 32 (by decide) wraps_u32 (c / 2 ^ i) 1 hlt (by decide)).1
  rw [e, show (1 : Int) = ((1 : Nat) : Int) from rfl, h, Nat.and_one_is_mod, Nat.testBit_eq_decide_div_mod_eq]
  exact beq_dec _ _

set_option maxRecDepth 100000 in
set_option maxHeartbeats 400000 in
theorem Has_any (A : B) (hA : A.ok 0) (c : Nat) (hc : c < 2 ^ 32) (w : World) : Calls Try.prog 42 #[dval A, .int .u32 (c : Int)] w fun e w' => e = .returned (.bool (A.ev fun i => c.testBit i)) ∧ Below w.heap.size w w' := by
  have a0 : (w.alloc (.cells #[.int .u32 (place (li A) A : Int), .string ⟨(code (rows (li A))).toArray⟩] 52)).cell? ⟨w.heap.size, 0, none⟩ = some (.int .u32 (place (li A) A : Int)) := World.cell?_alloc_at _ _ _ _ (by simp)
  have a1 : (w.alloc (.cells #[.int .u32 (place (li A) A : Int), .string ⟨(code (rows (li A))).toArray⟩] 52)).cell? ⟨w.heap.size, 1, none⟩ = some (.string ⟨(code (rows (li A))).toArray⟩) := World.cell?_alloc_at _ _ _ _ (by simp)
  have fr : Fr nob w (w.alloc (.cells #[.int .u32 (place (li A) A : Int), .string ⟨(code (rows (li A))).toArray⟩] 52)) := (Fr.refl nob w).alloc _
  go_enter Try.func42, Try.ntmps42
  go_wp2_with fail
  generalize w.alloc (.cells #[.int .u32 (place (li A) A : Int), .string ⟨(code (rows (li A))).toArray⟩] 52) = W at *
  go_loopw [5, 6] (fun v _ wr => ∃ x : B, inn (li A) x ∧ v = .int .u32 (place (li A) x : Int) ∧ (x.ev (fun i => c.testBit i) = A.ev fun i => c.testBit i) ∧ Fr nob w wr ∧ wr.cell? ⟨w.heap.size, 0, none⟩ = some (.int .u32 (place (li A) A : Int)) ∧ wr.cell? ⟨w.heap.size, 1, none⟩ = some (.string ⟨(code (rows (li A))).toArray⟩)) (fun v _ _ => (intOf v).toNat)
  case atStart => exact ⟨A, inn_li A, rfl, rfl, fr, a0, a1⟩
  case round =>
    clear a0 a1 fr
    obtain ⟨x, hx, rfl, hev, fr, a0, a1⟩ := hrel
    have hp : place (li A) x < 2 ∨ 2 ≤ place (li A) x := by omega
    go_wp2_with fail
    · have h2 : 2 ≤ place (li A) x := by have h : (2 : Int) ≤ (place (li A) x : Int) := by assumption
                                         omega
      cases x with
      | F => simp [place] at h2
      | T => simp [place] at h2
      | N i l u =>
        refine (at_any A (.N i l u) hA hx _).mono ?_
        rintro e w1 ⟨rfl, hb⟩
        have hm : B.N i l u ∈ li A := hx.resolve_left (by simp [B.const])
        obtain ⟨h1, hl, hu⟩ := rows_at (good_li A) hm
        have ⟨hkl, hku⟩ := pos_kid (good_li A) hm
        have hi : i < 24 := (rows_small (good_li A) (small_li hA) _ (List.mem_of_getElem? h1)).1
        have fr1 := fr.below hb
        have b0 := ((Fr.refl nob wr).below hb).cell a0 (fun h => h)
        have b1 := ((Fr.refl nob wr).below hb).cell a1 (fun h => h)
        clear hb a0 a1 fr
        simp only [rowB, B.top, B.lo, B.hi, nk] at *
        go_wp2_with fail
        · have hb : c.testBit i = true := by rw [← bit_u32 c i hc]; assumption
          refine ⟨⟨u, hu, rfl, ?_, fr1.alloc _, cell_alloc_l b0 _, cell_alloc_l b1 _⟩, by simp [intOf]; omega⟩
          rw [← hev]; simp [B.ev, hb]
        · have hb : c.testBit i = false := by rw [← bit_u32 c i hc]; assumption
          refine ⟨⟨l, hl, rfl, ?_, fr1.alloc _, cell_alloc_l b0 _, cell_alloc_l b1 _⟩, by simp [intOf]; omega⟩
          rw [← hev]; simp [B.ev, hb]
    · have h2 : place (li A) x < 2 := by have h : (place (li A) x : Int) < 2 := by assumption
                                         omega
      have e : ((place (li A) x : Int) == 1) = A.ev fun i => c.testBit i := by
        rw [← hev, show (1 : Int) = ((1 : Nat) : Int) from rfl, beq_dec]
        rcases place_lt2.1 h2 with rfl | rfl <;> simp [place, B.ev]
      refine bodyPost_ret (v := .bool ((place (li A) x : Int) == 1)) (by simp [results, Try.results42, go_sem]) rfl ⟨by rw [e], fr.to_below (Nat.le_refl _) (fun _ h => h.elim)⟩
end Go.Proofs.Ytaojojjdfdlgpaa.Dg
namespace Go.Proofs.Ytaojojjdfdlgpaa.Dg
open Go.RowKit
open Bd
set_option maxRecDepth 100000 in
set_option maxHeartbeats 400000 in
theorem size_any (A : B) (hA : A.ok 0) (w : World) : Calls Try.prog 102 #[dval A] w fun e w' => e = .returned (.int .u32 ((li A).length : Int)) ∧ Below w.heap.size w w' := by
  go_enter Try.func102, Try.ntmps102
  go_wp2_with fail
  have hl : (code (rows (li A))).length = 7 * (li A).length := by rw [code_length, rows_length (good_li A)]
  have hs := (small_li hA).1
  have e : wrap64 (((code (rows (li A))).length : Int) / 7) % 4294967296 = ((li A).length : Int) := by
    rw [hl]; unfold wrap64; omega
  refine bodyPost_ret (v := .int .u32 (wrap64 (((code (rows (li A))).length : Int) / 7) % 4294967296)) (by simp [results, Try.results102, go_sem]) rfl ⟨by rw [e], (Below.refl _ _).alloc (Nat.le_refl _) _⟩

theorem nth_place : ∀ {R : List B} {k : Nat}, good R → k < R.length → ∃ x, x ∈ R ∧ place R x = k + 2 ∧ R.drop (R.length - (k + 1)) = x :: R.drop (R.length - k)
  | [], _, _, h => by simp at h
  | .F :: _, _, hg, _ => False.elim hg
  | .T :: _, _, hg, _ => False.elim hg
  | .N i l u :: r, k, hg, h => by
    obtain ⟨hn, _, _, hr⟩ := hg
    by_cases e : k = r.length
    · subst e
      exact ⟨.N i l u, List.mem_cons_self, by simp [place, pos], by simp⟩
    · have hk : k < r.length := by simp at h; omega
      obtain ⟨x, hx, hp, hd⟩ := nth_place hr hk
      refine ⟨x, List.mem_cons_of_mem _ hx, by rw [place_cons (.inr hx) hn]; exact hp, ?_⟩
      rw [List.length_cons, show r.length + 1 - (k + 1) = (r.length - (k + 1)) + 1 by omega, show r.length + 1 - k = (r.length - k) + 1 by omega, List.drop_succ_cons, List.drop_succ_cons]
      exact hd

theorem run_node_feature (a b c : Value) (w : World) : (Instr.field 124 (.agg #[a, b, c]) 0).run Try.prog w = .ok a w := by kernel_rfl

end Go.Proofs.Ytaojojjdfdlgpaa.Dg
namespace Go.Proofs.Ytaojojjdfdlgpaa.Dg
open Go.RowKit
namespace Bd

/-! ### the complement -/
def B.neg : B → B
  | .F => .T
  | .T => .F
  | .N i l h => .N i l.neg h.neg

theorem neg_neg (b : B) : b.neg.neg = b := by
  induction b with
  | F => rfl
  | T => rfl
  | N i l h il ih => simp [B.neg, il, ih]
theorem neg_inj {a b : B} (h : a.neg = b.neg) : a = b := by rw [← neg_neg a, h, neg_neg]
theorem ok_neg {b : B} : ∀ {n : Nat}, b.ok n → b.neg.ok n := by
  induction b with
  | F => intros; trivial
  | T => intros; trivial
  | N i l h il ih => intro n ⟨h1, h2, h3, h4, h5⟩; exact ⟨h1, h2, fun e => h3 (neg_inj e), il h4, ih h5⟩
theorem ev_neg (b : B) (c : Cfg) : b.neg.ev c = !b.ev c := by
  induction b with
  | F => rfl
  | T => rfl
  | N i l h il ih => simp only [B.neg, B.ev, il, ih]; split <;> rfl

theorem mem_neg {R : List B} {b : B} : b.neg ∈ R.map B.neg ↔ b ∈ R := by
  constructor
  · intro h; obtain ⟨x, hx, e⟩ := List.mem_map.1 h; rw [← neg_inj e]; exact hx
  · exact fun h => List.mem_map.2 ⟨b, h, rfl⟩
theorem const_neg (b : B) : b.neg.const = b.const := by cases b <;> rfl
theorem inn_neg {R : List B} {b : B} (h : inn R b) : inn (R.map B.neg) b.neg := h.imp (fun h => by rw [const_neg]; exact h) (fun h => mem_neg.2 h)
theorem good_neg : ∀ {R : List B}, good R → good (R.map B.neg)
  | [], _ => trivial
  | .N _ _ _ :: _, h => ⟨fun e => h.1 (mem_neg.1 e), inn_neg h.2.1, inn_neg h.2.2.1, good_neg h.2.2.2⟩
  | .F :: _, h => h.elim
  | .T :: _, h => h.elim
theorem vis_neg (b : B) : ∀ (R : List B), vis b.neg (R.map B.neg) = (vis b R).map B.neg := by
  induction b with
  | F => intro R; rfl
  | T => intro R; rfl
  | N i l h il ih =>
    intro R
    have e : (B.N i l h).neg = .N i l.neg h.neg := rfl
    rw [e, vis, vis, ← e]
    by_cases hm : B.N i l h ∈ R
    · rw [if_pos hm, if_pos (mem_neg.2 hm)]
    · rw [if_neg hm, if_neg (fun h => hm (mem_neg.1 h)), il, ih]; rfl
theorem li_neg (b : B) : li b.neg = (li b).map B.neg := vis_neg b []
theorem small_neg {R : List B} (h : small R) : small (R.map B.neg) := ⟨by rw [List.length_map]; exact h.1, fun b hb => by
  obtain ⟨x, hx, rfl⟩ := List.mem_map.1 hb; exact ok_neg (h.2 x hx)⟩

/-! ### a value for each node that is listed, in order -/
def glist {α : Type} (val : B → α) (R : List B) : List α := val .F :: val .T :: (R.reverse).map val
theorem rev_pos : ∀ {R : List B} {b : B}, b ∈ R → R.reverse[pos R b]? = some b := by
  intro R
  induction R with
  | nil => intro b h; cases h
  | cons n r ih =>
    intro b h
    unfold pos; split
    · rename_i e; subst e; simp
    · have hm := List.mem_of_ne_of_mem (by assumption) h
      rw [List.reverse_cons, List.getElem?_append_left (by have := pos_lt hm; simpa using this)]
      exact ih hm
theorem glist_length {α : Type} (val : B → α) (R : List B) : (glist val R).length = R.length + 2 := by simp [glist]
theorem glist_at {α : Type} (val : B → α) {R : List B} {b : B} (h : inn R b) : (glist val R)[place R b]? = some (val b) := by
  cases b with
  | F => rfl
  | T => rfl
  | N i l u =>
    have hm := h.resolve_left (by simp [B.const])
    show (val .F :: val .T :: (R.reverse).map val)[pos R (.N i l u) + 2]? = _
    rw [List.getElem?_cons_succ, List.getElem?_cons_succ, List.getElem?_map, rev_pos hm]; rfl
theorem glist_cons {α : Type} (val : B → α) (R : List B) (b : B) : glist val (b :: R) = glist val R ++ [val b] := by simp [glist]

/-! ### cubes -/
def cubeP (on off : Nat) : Nat → B
  | 0 => .T
  | k + 1 => if on.testBit (23 - k) then mk (23 - k) .F (cubeP on off k) else if off.testBit (23 - k) then mk (23 - k) (cubeP on off k) .F else cubeP on off k
theorem ok_cubeP (on off : Nat) : ∀ k, k ≤ 24 → (cubeP on off k).ok (24 - k)
  | 0, _ => trivial
  | k + 1, h => by
    have ih := ok_cubeP on off k (by omega)
    have e : 24 - (k + 1) = 23 - k := by omega
    rw [show 24 - k = 23 - k + 1 by omega] at ih
    rw [e, cubeP]
    split
    · exact ok_mk (by omega) trivial ih
    · split
      · exact ok_mk (by omega) ih trivial
      · exact ih.mono (by omega)
theorem ok_cubeP0 (on off : Nat) {k : Nat} (h : k ≤ 24) : (cubeP on off k).ok 0 := (ok_cubeP on off k h).mono (Nat.zero_le _)
def cubeEv (on off : Nat) (k : Nat) (c : Cfg) : Bool := (List.range k).all fun j => if on.testBit (23 - j) then c (23 - j) else if off.testBit (23 - j) then !c (23 - j) else true
theorem ev_cubeP (on off : Nat) : ∀ k (c : Cfg), (cubeP on off k).ev c = cubeEv on off k c
  | 0, c => rfl
  | k + 1, c => by
    have ih := ev_cubeP on off k c
    have e : cubeEv on off (k + 1) c = (cubeEv on off k c && (if on.testBit (23 - k) then c (23 - k) else if off.testBit (23 - k) then !c (23 - k) else true)) := by simp [cubeEv, List.range_succ]
    rw [e, cubeP, ← ih]
    split
    · rw [ev_mk]; cases c (23 - k) <;> simp [B.ev]
    · split
      · rw [ev_mk]; cases c (23 - k) <;> simp [B.ev]
      · simp
theorem li_mk_hi (i : Nat) (b : B) : vis (mk i .F b) (li b) = li (mk i .F b) := by
  have h := vis_mk (i := i) (lo := .F) (hi := b) (R := li b) (good_li b)
  have h2 := vis_mk (i := i) (lo := .F) (hi := b) (R := []) trivial
  have e0 : vis .F (li b) = li b := rfl
  have e1 : vis .F [] = ([] : List B) := rfl
  rw [e0, vis_inn (inn_li b)] at h
  rw [e1] at h2
  exact h.trans h2.symm
theorem li_mk_lo (i : Nat) (b : B) : vis (mk i b .F) (li b) = li (mk i b .F) := by
  have h := vis_mk (i := i) (lo := b) (hi := .F) (R := li b) (good_li b)
  have h2 := vis_mk (i := i) (lo := b) (hi := .F) (R := []) trivial
  have e0 : ∀ R, vis .F R = R := fun R => rfl
  rw [vis_inn (inn_li b), e0] at h
  rw [e0] at h2
  exact h.trans h2.symm

/-! ### how many configurations -/
end Bd
end Go.Proofs.Ytaojojjdfdlgpaa.Dg
namespace Go.Proofs.Ytaojojjdfdlgpaa.Dg
open Go.RowKit
namespace Bd

theorem sub_self (b : B) : sub b b := by cases b <;> first | rfl | exact .inl rfl

theorem sub_mem : ∀ {b : B} {R : List B} {s : B}, good R → inn R b → sub s b → inn R s := by
  intro b
  induction b with
  | F => intro R s _ hb h; obtain rfl : s = .F := h; exact hb
  | T => intro R s _ hb h; obtain rfl : s = .T := h; exact hb
  | N i l u il iu =>
    intro R s hg hb h
    obtain ⟨k1, k2⟩ := kids_inn hg (hb.resolve_left (by simp [B.const]))
    rcases h with rfl | h | h
    · exact hb
    · exact il hg k1 h
    · exact iu hg k2 h

theorem mem_li {b s : B} : s ∈ li b ↔ s.const = false ∧ sub s b := by
  constructor
  · intro h
    exact ⟨good_all_N (good_li b) s h, (vis_subs b [] s h).resolve_left (by simp)⟩
  · rintro ⟨h1, h2⟩
    exact (sub_mem (good_li b) (inn_li b) h2).resolve_left (by simp [h1])

end Bd
end Go.Proofs.Ytaojojjdfdlgpaa.Dg

