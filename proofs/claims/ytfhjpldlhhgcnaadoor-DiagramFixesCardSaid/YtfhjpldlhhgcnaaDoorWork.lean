import Derived.Test.YtfhjpldlhhgcnaaDoorNode
namespace Go.Proofs.YtfhjpldlhhgcnaaDoor
open Go.RowKit
namespace Bd

def rowOf : List B → (Nat × Nat × Nat) → Option Nat
  | [], _ => none
  | .N i lo hi :: t, r => if r = (i, place t lo, place t hi) then some t.length else rowOf t r
  | _ :: t, r => rowOf t r

theorem rowOf_some : ∀ {R : List B} {r : Nat × Nat × Nat} {k : Nat}, good R → rowOf R r = some k → ∃ i lo hi, .N i lo hi ∈ R ∧ r = (i, place R lo, place R hi) ∧ k = pos R (.N i lo hi)
  | [], _, _, _, h => by simp [rowOf] at h
  | .F :: _, _, _, hg, _ => hg.elim
  | .T :: _, _, _, hg, _ => hg.elim
  | .N i lo hi :: t, r, k, hg, h => by
    obtain ⟨hn, hl, hh, ht⟩ := hg
    unfold rowOf at h; split at h
    · rename_i e; cases h
      exact ⟨i, lo, hi, by simp, by rw [e, place_cons hl hn, place_cons hh hn], by simp [pos]⟩
    · obtain ⟨j, l, u, h1, h2, h3⟩ := rowOf_some ht h
      obtain ⟨k1, k2⟩ := kids_inn ht h1
      exact ⟨j, l, u, List.mem_cons_of_mem _ h1, by rw [h2, place_cons k1 hn, place_cons k2 hn], by rw [h3, pos_cons h1 hn]⟩

theorem rowOf_mem : ∀ {R : List B} {i : Nat} {lo hi : B}, good R → .N i lo hi ∈ R → rowOf R (i, place R lo, place R hi) = some (pos R (.N i lo hi))
  | [], _, _, _, _, h => by cases h
  | .F :: _, _, _, _, hg, _ => hg.elim
  | .T :: _, _, _, _, hg, _ => hg.elim
  | .N j l u :: t, i, lo, hi, hg, h => by
    obtain ⟨hn, hl, hh, ht⟩ := hg
    by_cases e : B.N i lo hi = .N j l u
    · cases e
      rw [place_cons hl hn, place_cons hh hn, rowOf, if_pos rfl, pos, if_pos rfl]
    · have hm := List.mem_of_ne_of_mem e h
      obtain ⟨k1, k2⟩ := kids_inn ht hm
      rw [place_cons k1 hn, place_cons k2 hn, rowOf, if_neg, rowOf_mem ht hm, pos_cons hm hn]
      intro e2
      simp only [Prod.mk.injEq] at e2
      obtain ⟨e3, e4, e5⟩ := e2
      exact e (by rw [e3, place_inj k1 hl e4, place_inj k2 hh e5])

theorem rowOf_none {R : List B} {i : Nat} {lo hi : B} (hg : good R) (hl : inn R lo) (hh : inn R hi) (hn : .N i lo hi ∉ R) : rowOf R (i, place R lo, place R hi) = none := by
  cases h : rowOf R (i, place R lo, place R hi) with
  | none => rfl
  | some k =>
    obtain ⟨j, l, u, h1, h2, _⟩ := rowOf_some hg h
    obtain ⟨k1, k2⟩ := kids_inn hg h1
    simp only [Prod.mk.injEq] at h2
    obtain ⟨e3, e4, e5⟩ := h2
    rw [e3, place_inj hl k1 e4, place_inj hh k2 e5] at hn
    exact absurd h1 hn
end Bd
open Bd

noncomputable def fnd (R : List B) : (Nat × Nat × Nat) → Option Value := fun r => (rowOf R r).map fun k => .int .u32 ((k + 2 : Nat) : Int)

theorem fnd_cons (i : Nat) (lo hi : B) (R : List B) : fnd (.N i lo hi :: R) = putAt (fnd R) (i, place R lo, place R hi) (.int .u32 ((R.length + 2 : Nat) : Int)) := by
  funext r
  have e : rowOf (.N i lo hi :: R) r = if r = (i, place R lo, place R hi) then some R.length else rowOf R r := rfl
  unfold fnd putAt
  rw [e]
  by_cases h : r = (i, place R lo, place R hi)
  · rw [if_pos h, if_pos h]; rfl
  · rw [if_neg h, if_neg h]

structure Work (w : World) (wb mb : Nat) (v : Value) (R : List B) : Prop where
  wk : Wk w wb mb v (rows R) (fnd R)
  good : Bd.good R
  small : Bd.small R

theorem place_small {R : List B} {b : B} (hs : small R) (h : inn R b) : place R b < 16777216 := by
  have h1 := place_lt h
  have h2 := hs.1
  omega

theorem node_any (wb mb i : Nat) (v : Value) (R : List B) (lo hi : B) (w : World) (hW : Work w wb mb v R) (hi24 : i < 24) (hl : inn R lo) (hh : inn R hi) (hs : small (vis (mk i lo hi) R)) :
    Calls Tryd.prog 68 #[.pointer (some ⟨wb, 0, none⟩), .int .i64 (i : Int), .int .u32 (place R lo : Int), .int .u32 (place R hi : Int)] w fun e w' =>
      ∃ v', e = .returned (.int .u32 (place (vis (mk i lo hi) R) (mk i lo hi) : Int)) ∧ Work w' wb mb v' (vis (mk i lo hi) R) ∧ Fr (foot wb mb v) w w' ∧ ∀ g, v'.ownBlock = some g → v.ownBlock = some g ∨ w.heap.size ≤ g := by
  obtain ⟨hk, hg, hsm⟩ := hW
  rw [vis_mk hg, vis_inn hl, vis_inn hh]
  rw [vis_mk hg, vis_inn hl, vis_inn hh] at hs
  by_cases e : lo = hi
  · subst e
    rw [if_pos rfl]
    refine (node_same wb i (place R lo) w).mono ?_
    rintro _ _ ⟨rfl, rfl⟩
    exact ⟨v, by simp [mk], ⟨hk, hg, hsm⟩, Fr.refl _ _, fun g h => .inl h⟩
  · rw [if_neg e] at hs ⊢
    have hne : place R lo ≠ place R hi := fun h => e (place_inj hl hh h)
    have em : mk i lo hi = .N i lo hi := by simp [mk, e]
    by_cases hm : .N i lo hi ∈ R
    · rw [if_pos hm, em]
      refine (node_found wb mb i (place R lo) (place R hi) (place R (.N i lo hi)) v (rows R) (fnd R) w hk hi24 (place_small hsm hl) (place_small hsm hh) hne (by unfold fnd; rw [rowOf_mem hg hm]; rfl)).mono ?_
      rintro _ w' ⟨rfl, hb⟩
      have fr : Fr nob w w' := (Fr.refl nob w).below hb
      have hwb := lt_of_cell hk.code
      exact ⟨v, rfl, ⟨⟨fr.cell hk.code (fun h => h), fr.cell hk.found (fun h => h), (fr.frozen (p := ⟨wb, 0, none⟩) hwb (fun h => h)).trans hk.open_, fr.row hk.row (fun _ _ h => h), fr.map hk.map (fun h => h), hk.ne, hk.apart⟩, hg, hsm⟩, fr.mono (fun _ _ h => h.elim), fun g h => .inl h⟩
    · rw [if_neg hm] at hs ⊢
      rw [em]
      refine (node_new wb mb i (place R lo) (place R hi) R.length v (rows R) (fnd R) w hk hi24 (place_small hsm hl) (place_small hsm hh) hne (by unfold fnd; rw [rowOf_none hg hl hh hm]; rfl) (rows_length hg) (by have := hsm.1; omega)).mono ?_
      rintro _ w' ⟨v', rfl, hk', fr, src⟩
      refine ⟨v', ?_, ⟨?_, ⟨hm, hl, hh, hg⟩, hs⟩, fr, src⟩
      · simp [place, pos]
      · rw [fnd_cons]
        exact hk'

theorem node_any' (wb mb i : Nat) (v : Value) (R : List B) (lo hi : B) (w : World) (hW : Work w wb mb v R) (hi24 : i < 24) (hl : inn R lo) (hh : inn R hi) (hs : small (vis (mk i lo hi) R)) (pl ph : Nat) (hpl : pl = place R lo) (hph : ph = place R hi) :
    Calls Tryd.prog 68 #[.pointer (some ⟨wb, 0, none⟩), .int .i64 (i : Int), .int .u32 (pl : Int), .int .u32 (ph : Int)] w fun e w' =>
      ∃ v', e = .returned (.int .u32 (place (vis (mk i lo hi) R) (mk i lo hi) : Int)) ∧ Work w' wb mb v' (vis (mk i lo hi) R) ∧ Fr (foot wb mb v) w w' ∧ ∀ g, v'.ownBlock = some g → v.ownBlock = some g ∨ w.heap.size ≤ g := by
  subst hpl hph
  exact node_any wb mb i v R lo hi w hW hi24 hl hh hs

end Go.Proofs.YtfhjpldlhhgcnaaDoor
