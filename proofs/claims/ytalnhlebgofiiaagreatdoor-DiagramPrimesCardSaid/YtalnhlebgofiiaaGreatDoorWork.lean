import Derived.Test.YtalnhlebgofiiaaGreatDoorNode
import Derived.Laws.BytesString
import Derived.Laws.Cells
namespace Go.Proofs.YtalnhlebgofiiaaGreatDoor
open Go.RowKit
namespace Bd

def rowOf : List B → (Nat × Nat × Nat) → Option Nat
  | [], _ => none
  | .N i lo hi :: t, r => if r = (i, place t lo, place t hi) then some t.length else rowOf t r
  | _ :: t, r => rowOf t r

theorem rowOf_some : ∀ {R : List B} {r : Nat × Nat × Nat} {k : Nat}, good R → rowOf R r = some k → ∃ i lo hi, .N i lo hi ∈ R ∧ r = (i, place R lo, place R hi) ∧ k = pos R (.N i lo hi)
  | [], _, _, _, h => by simp [rowOf] at h
  | .F :: _, _, _, hg, _ => hg.elim
  | .T :: _, _, _, hg, _ => hg.elim
  | .N i lo hi :: t, r, k, hg, h => by
    obtain ⟨hn, hl, hh, ht⟩ := hg
    unfold rowOf at h; split at h
    · rename_i e; cases h
      exact ⟨i, lo, hi, by simp, by rw [e, place_cons hl hn, place_cons hh hn], by simp [pos]⟩
    · obtain ⟨j, l, u, h1, h2, h3⟩ := rowOf_some ht h
      obtain ⟨k1, k2⟩ := kids_inn ht h1
      exact ⟨j, l, u, List.mem_cons_of_mem _ h1, by rw [h2, place_cons k1 hn, place_cons k2 hn], by rw [h3, pos_cons h1 hn]⟩

theorem rowOf_mem : ∀ {R : List B} {i : Nat} {lo hi : B}, good R → .N i lo hi ∈ R → rowOf R (i, place R lo, place R hi) = some (pos R (.N i lo hi))
  | [], _, _, _, _, h => by cases h
  | .F :: _, _, _, _, hg, _ => hg.elim
  | .T :: _, _, _, _, hg, _ => hg.elim
  | .N j l u :: t, i, lo, hi, hg, h => by
    obtain ⟨hn, hl, hh, ht⟩ := hg
    by_cases e : B.N i lo hi = .N j l u
    · cases e
      rw [place_cons hl hn, place_cons hh hn, rowOf, if_pos rfl, pos, if_pos rfl]
    · have hm := List.mem_of_ne_of_mem e h
      obtain ⟨k1, k2⟩ := kids_inn ht hm
      rw [place_cons k1 hn, place_cons k2 hn, rowOf, if_neg, rowOf_mem ht hm, pos_cons hm hn]
      intro e2
      simp only [Prod.mk.injEq] at e2
      obtain ⟨e3, e4, e5⟩ := e2
      exact e (by rw [e3, place_inj k1 hl e4, place_inj k2 hh e5])

theorem rowOf_none {R : List B} {i : Nat} {lo hi : B} (hg : good R) (hl : inn R lo) (hh : inn R hi) (hn : .N i lo hi ∉ R) : rowOf R (i, place R lo, place R hi) = none := by
  cases h : rowOf R (i, place R lo, place R hi) with
  | none => rfl
  | some k =>
    obtain ⟨j, l, u, h1, h2, _⟩ := rowOf_some hg h
    obtain ⟨k1, k2⟩ := kids_inn hg h1
    simp only [Prod.mk.injEq] at h2
    obtain ⟨e3, e4, e5⟩ := h2
    rw [e3, place_inj hl k1 e4, place_inj hh k2 e5] at hn
    exact absurd h1 hn
end Bd
open Bd

noncomputable def fnd (R : List B) : (Nat × Nat × Nat) → Option Value := fun r => (rowOf R r).map fun k => .int .u32 ((k + 2 : Nat) : Int)

theorem fnd_cons (i : Nat) (lo hi : B) (R : List B) : fnd (.N i lo hi :: R) = putAt (fnd R) (i, place R lo, place R hi) (.int .u32 ((R.length + 2 : Nat) : Int)) := by
  funext r
  have e : rowOf (.N i lo hi :: R) r = if r = (i, place R lo, place R hi) then some R.length else rowOf R r := rfl
  unfold fnd putAt
  rw [e]
  by_cases h : r = (i, place R lo, place R hi)
  · rw [if_pos h, if_pos h]; rfl
  · rw [if_neg h, if_neg h]

structure Work (w : World) (wb mb : Nat) (v : Value) (R : List B) : Prop where
  wk : Wk w wb mb v (rows R) (fnd R)
  good : Bd.good R
  small : Bd.small R

theorem place_small {R : List B} {b : B} (hs : small R) (h : inn R b) : place R b < 16777216 := by
  have h1 := place_lt h
  have h2 := hs.1
  omega

theorem node_any (wb mb i : Nat) (v : Value) (R : List B) (lo hi : B) (w : World) (hW : Work w wb mb v R) (hi24 : i < 24) (hl : inn R lo) (hh : inn R hi) (hs : small (vis (mk i lo hi) R)) :
    Calls Tryz.prog 60 #[.pointer (some ⟨wb, 0, none⟩), .int .i64 (i : Int), .int .u32 (place R lo : Int), .int .u32 (place R hi : Int)] w fun e w' =>
      ∃ v', e = .returned (.int .u32 (place (vis (mk i lo hi) R) (mk i lo hi) : Int)) ∧ Work w' wb mb v' (vis (mk i lo hi) R) ∧ Fr (foot wb mb v) w w' ∧ ∀ g, v'.ownBlock = some g → v.ownBlock = some g ∨ w.heap.size ≤ g := by
  obtain ⟨hk, hg, hsm⟩ := hW
  rw [vis_mk hg, vis_inn hl, vis_inn hh]
  rw [vis_mk hg, vis_inn hl, vis_inn hh] at hs
  by_cases e : lo = hi
  · subst e
    rw [if_pos rfl]
    refine (node_same wb i (place R lo) w).mono ?_
    rintro _ _ ⟨rfl, rfl⟩
    exact ⟨v, by simp [mk], ⟨hk, hg, hsm⟩, Fr.refl _ _, fun g h => .inl h⟩
  · rw [if_neg e] at hs ⊢
    have hne : place R lo ≠ place R hi := fun h => e (place_inj hl hh h)
    have em : mk i lo hi = .N i lo hi := by simp [mk, e]
    by_cases hm : .N i lo hi ∈ R
    · rw [if_pos hm, em]
      refine (node_found wb mb i (place R lo) (place R hi) (place R (.N i lo hi)) v (rows R) (fnd R) w hk hi24 (place_small hsm hl) (place_small hsm hh) hne (by unfold fnd; rw [rowOf_mem hg hm]; rfl)).mono ?_
      rintro _ w' ⟨rfl, hb⟩
      have fr : Fr nob w w' := (Fr.refl nob w).below hb
      have hwb := lt_of_cell hk.code
      exact ⟨v, rfl, ⟨⟨fr.cell hk.code (fun h => h), fr.cell hk.found (fun h => h), (fr.frozen (p := ⟨wb, 0, none⟩) hwb (fun h => h)).trans hk.open_, fr.row hk.row (fun _ _ h => h), fr.map hk.map (fun h => h), hk.ne, hk.apart⟩, hg, hsm⟩, fr.mono (fun _ _ h => h.elim), fun g h => .inl h⟩
    · rw [if_neg hm] at hs ⊢
      rw [em]
      refine (node_new wb mb i (place R lo) (place R hi) R.length v (rows R) (fnd R) w hk hi24 (place_small hsm hl) (place_small hsm hh) hne (by unfold fnd; rw [rowOf_none hg hl hh hm]; rfl) (rows_length hg) (by have := hsm.1; omega)).mono ?_
      rintro _ w' ⟨v', rfl, hk', fr, src⟩
      refine ⟨v', ?_, ⟨?_, ⟨hm, hl, hh, hg⟩, hs⟩, fr, src⟩
      · simp [place, pos]
      · rw [fnd_cons]
        exact hk'

theorem node_any' (wb mb i : Nat) (v : Value) (R : List B) (lo hi : B) (w : World) (hW : Work w wb mb v R) (hi24 : i < 24) (hl : inn R lo) (hh : inn R hi) (hs : small (vis (mk i lo hi) R)) (pl ph : Nat) (hpl : pl = place R lo) (hph : ph = place R hi) :
    Calls Tryz.prog 60 #[.pointer (some ⟨wb, 0, none⟩), .int .i64 (i : Int), .int .u32 (pl : Int), .int .u32 (ph : Int)] w fun e w' =>
      ∃ v', e = .returned (.int .u32 (place (vis (mk i lo hi) R) (mk i lo hi) : Int)) ∧ Work w' wb mb v' (vis (mk i lo hi) R) ∧ Fr (foot wb mb v) w w' ∧ ∀ g, v'.ownBlock = some g → v.ownBlock = some g ∨ w.heap.size ≤ g := by
  subst hpl hph
  exact node_any wb mb i v R lo hi w hW hi24 hl hh hs

end Go.Proofs.YtalnhlebgofiiaaGreatDoor
namespace Go.Proofs.YtalnhlebgofiiaaGreatDoor
open Go.RowKit
open Bd

namespace Bd
theorem suffix_mk {i : Nat} {lo hi : B} {R : List B} (hg : good R) : vis hi (vis lo R) <:+ vis (mk i lo hi) R := by
  rw [vis_mk hg]
  by_cases e : lo = hi
  · rw [if_pos e]; exact List.suffix_refl _
  · rw [if_neg e]; split
    · exact List.suffix_refl _
    · exact List.suffix_cons _ _

theorem vis_vis_mk {i : Nat} {lo hi : B} {R : List B} (hg : good R) : vis (mk i lo hi) (vis hi (vis lo R)) = vis (mk i lo hi) R := by
  have hl : inn (vis hi (vis lo R)) lo := (inn_vis lo R).mono (mem_vis hi _)
  have hh := inn_vis hi (vis lo R)
  rw [vis_mk (good_vis hi (good_vis lo hg)), vis_mk hg, vis_inn hl, vis_inn hh]

/-- What a way to split keys says of their sets. -/
structure Spl {α : Type} (sem : α → B) (val : α → Prop) (mu : α → Nat) (sp : α → Nat × α × α) : Prop where
  leaf : ∀ k, val k → 24 ≤ (sp k).1 → (sem k = .F ∧ (sp k).1 = 24) ∨ (sem k = .T ∧ (sp k).1 = 25)
  step : ∀ k, val k → (sp k).1 < 24 → sem k = mk (sp k).1 (sem (sp k).2.1) (sem (sp k).2.2) ∧ val (sp k).2.1 ∧ val (sp k).2.2 ∧ mu (sp k).2.1 < mu k ∧ mu (sp k).2.2 < mu k
end Bd

/-- What is finished. -/
structure Fin {α : Type} (kt : TypeId) (enc : α → Value) (sem : α → B) (w : World) (fb : Nat) (mf : α → Option Value) (R : List B) : Prop where
  map : ∃ n, IsMap Tryz.prog kt enc w fb n mf
  places : ∀ k p, mf k = some p → inn R (sem k) ∧ p = .int .u32 (place R (sem k) : Int)

/-- The captured variables. -/
structure Caps (w : World) (vf : FuncId) (fv : Value) (fb wb : Nat) (b1 b2 b3 b4 : Nat) : Prop where
  c1 : w.cell? ⟨b1, 0, none⟩ = some fv
  c2 : w.cell? ⟨b2, 0, none⟩ = some (.map (some fb))
  c3 : w.cell? ⟨b3, 0, none⟩ = some (.func (.func vf) #[] #[.pointer (some ⟨b1, 0, none⟩), .pointer (some ⟨b2, 0, none⟩), .pointer (some ⟨b3, 0, none⟩), .pointer (some ⟨b4, 0, none⟩)])
  c4 : w.cell? ⟨b4, 0, none⟩ = some (.pointer (some ⟨wb, 0, none⟩))

def foot4 (wb mb fb : Nat) (v : Value) (k : Nat) : Prop := foot wb mb v k ∨ k = fb

/-- the boxes lie apart from what is written -/
def Off (wb mb fb b1 b2 b3 b4 : Nat) (v : Value) : Prop :=
  (¬ foot4 wb mb fb v b1 ∧ ¬ foot4 wb mb fb v b2 ∧ ¬ foot4 wb mb fb v b3 ∧ ¬ foot4 wb mb fb v b4) ∧ ¬ foot wb mb v fb

/-- The state of 'grow' while it goes through keys. -/
structure Gr {α : Type} (kt : TypeId) (enc : α → Value) (sem : α → B) (vf : FuncId) (fv : Value) (w : World) (wb mb fb b1 b2 b3 b4 : Nat) (v : Value) (mf : α → Option Value) (R : List B) : Prop where
  work : Work w wb mb v R
  fin : Fin kt enc sem w fb mf R
  caps : Caps w vf fv fb wb b1 b2 b3 b4
  off : Off wb mb fb b1 b2 b3 b4 v

def VisPost {α : Type} (kt : TypeId) (enc : α → Value) (sem : α → B) (mu : α → Nat) (vf : FuncId) (fv : Value) (wb mb fb b1 b2 b3 b4 : Nat) (v : Value) (mf : α → Option Value) (R : List B) (k : α) (w : World) (e : Ending) (w' : World) : Prop :=
  ∃ v' mf', e = .returned (.int .u32 (place (vis (sem k) R) (sem k) : Int)) ∧ Gr kt enc sem vf fv w' wb mb fb b1 b2 b3 b4 v' mf' (vis (sem k) R) ∧
    Fr (foot4 wb mb fb v) w w' ∧ (∀ g, v'.ownBlock = some g → v.ownBlock = some g ∨ w.heap.size ≤ g) ∧ ∀ k', mf' k' = mf k' ∨ mu k' ≤ mu k

section
variable {α : Type} {kt : TypeId} {enc : α → Value} {sem : α → B} {mu : α → Nat} {vf : FuncId} {fv : Value} {w w' : World} {wb mb fb b1 b2 b3 b4 : Nat} {v : Value} {mf : α → Option Value} {R : List B}

theorem Work.kept {S : Nat → Prop} (h : Work w wb mb v R) (fr : Fr S w w') (hS : ∀ k, foot wb mb v k → ¬ S k) : Work w' wb mb v R := by
  obtain ⟨hk, hg, hs⟩ := h
  have hwb := lt_of_cell hk.code
  exact ⟨⟨fr.cell hk.code (hS _ (.inl rfl)), fr.cell hk.found (hS _ (.inl rfl)), (fr.frozen (p := ⟨wb, 0, none⟩) hwb (hS _ (.inl rfl))).trans hk.open_, fr.row hk.row (fun g hg => hS g (.inr (.inr hg))), fr.map hk.map (hS _ (.inr (.inl rfl))), hk.ne, hk.apart⟩, hg, hs⟩

theorem Caps.kept {S : Nat → Prop} (h : Caps w vf fv fb wb b1 b2 b3 b4) (fr : Fr S w w') (h1 : ¬ S b1) (h2 : ¬ S b2) (h3 : ¬ S b3) (h4 : ¬ S b4) : Caps w' vf fv fb wb b1 b2 b3 b4 :=
  ⟨fr.cell h.c1 h1, fr.cell h.c2 h2, fr.cell h.c3 h3, fr.cell h.c4 h4⟩

theorem Gr.keptNew (h : Gr kt enc sem vf fv w wb mb fb b1 b2 b3 b4 v mf R) (fr : Fr nob w w') : Gr kt enc sem vf fv w' wb mb fb b1 b2 b3 b4 v mf R :=
  ⟨h.work.kept fr (fun _ _ h => h), ⟨h.fin.map.imp (fun _ hm => fr.map hm (fun h => h)), h.fin.places⟩, h.caps.kept fr (fun h => h) (fun h => h) (fun h => h) (fun h => h), h.off⟩

theorem Work.foot_lt (h : Work w wb mb v R) : ∀ k, foot wb mb v k → k < w.heap.size := by
  intro k hk
  rcases hk with rfl | rfl | hk
  · exact lt_of_cell h.wk.code
  · exact h.wk.map.lt
  · exact (h.wk.row.lt k hk).2

theorem Caps.lt (h : Caps w vf fv fb wb b1 b2 b3 b4) : b1 < w.heap.size ∧ b2 < w.heap.size ∧ b3 < w.heap.size ∧ b4 < w.heap.size :=
  ⟨lt_of_cell h.c1, lt_of_cell h.c2, lt_of_cell h.c3, lt_of_cell h.c4⟩

/-- A block that has a new code's block or an old one is off. -/
theorem foot_src {v' : Value} {k n : Nat} (src : ∀ g, v'.ownBlock = some g → v.ownBlock = some g ∨ n ≤ g) (hk : k < n) (h : ¬ foot wb mb v k) : ¬ foot wb mb v' k := by
  rintro (e | e | e)
  · exact h (.inl e)
  · exact h (.inr (.inl e))
  · rcases src k e with e' | e'
    · exact h (.inr (.inr e'))
    · omega

theorem foot4_src {v' : Value} {k n : Nat} (src : ∀ g, v'.ownBlock = some g → v.ownBlock = some g ∨ n ≤ g) (hk : k < n) (h : ¬ foot4 wb mb fb v k) : ¬ foot4 wb mb fb v' k := by
  rintro (e | e)
  · exact foot_src src hk (fun h' => h (.inl h')) e
  · exact h (.inr e)

/-- THE END OF A STEP: the key is finished. -/
theorem grFinish {w4 w5 w6 : World} {v4 v5 : Value} {mf4 : α → Option Value} {R4 : List B} {f : Nat} {lo hi : B} {k : α} (hG4 : Gr kt enc sem vf fv w4 wb mb fb b1 b2 b3 b4 v4 mf4 R4) (hW5 : Work w5 wb mb v5 (vis (mk f lo hi) R4)) (fr5 : Fr (foot wb mb v4) w4 w5)
    (src5 : ∀ g, v5.ownBlock = some g → v4.ownBlock = some g ∨ w4.heap.size ≤ g) {n : Nat} (map6 : IsMap Tryz.prog kt enc w6 fb n (putAt mf4 k (.int .u32 (place (vis (mk f lo hi) R4) (mk f lo hi) : Int)))) (gr6 : w5.grownBy w6 (some fb)) (hk : sem k = mk f lo hi) :
    Gr kt enc sem vf fv w6 wb mb fb b1 b2 b3 b4 v5 (putAt mf4 k (.int .u32 (place (vis (mk f lo hi) R4) (mk f lo hi) : Int))) (vis (mk f lo hi) R4) := by
  obtain ⟨⟨o1, o2, o3, o4⟩, o5⟩ := hG4.off
  obtain ⟨l1, l2, l3, l4⟩ := hG4.caps.lt
  have lfb : fb < w4.heap.size := by obtain ⟨n, hm⟩ := hG4.fin.map; exact hm.lt
  have frm : Fr (fun k => k = fb) w5 w6 := (Fr.refl _ w5).grown gr6 (fun k h _ => by cases h; rfl)
  have o5' := foot_src src5 lfb o5
  have n1 : ∀ b, ¬ foot4 wb mb fb v4 b → b ≠ fb := fun b h e => h (.inr e)
  have n2 : ∀ b, ¬ foot4 wb mb fb v4 b → ¬ foot wb mb v4 b := fun b h e => h (.inl e)
  refine ⟨hW5.kept frm (fun k hk e => by subst e; exact o5' hk), ⟨⟨n, map6⟩, ?_⟩, (hG4.caps.kept fr5 (n2 _ o1) (n2 _ o2) (n2 _ o3) (n2 _ o4)).kept frm (n1 _ o1) (n1 _ o2) (n1 _ o3) (n1 _ o4),
    ⟨foot4_src src5 l1 o1, foot4_src src5 l2 o2, foot4_src src5 l3 o3, foot4_src src5 l4 o4⟩, o5'⟩
  intro x p hx
  unfold putAt at hx
  split at hx
  · rename_i e; subst e; cases hx
    rw [hk]
    exact ⟨inn_vis _ _, rfl⟩
  · obtain ⟨h1, h2⟩ := hG4.fin.places x p hx
    exact ⟨h1.mono (mem_vis _ _), by rw [h2, place_suffix hW5.good (vis_suffix _ _) h1]⟩


/-- The world in which 'grow' visits its key. -/
def gw2 (w1 : World) (wb b1 : Nat) (vf : FuncId) (T1 T2 T3 : TypeId) : World :=
  ((((w1.alloc (.cells #[.pointer (some ⟨wb, 0, none⟩)] T1)).alloc (.map #[] 0)).alloc (.cells #[.map (some (w1.heap.size + 1))] T2)).alloc
        (.cells #[.func (.func vf) #[] #[.pointer (some ⟨b1, 0, none⟩), .pointer (some ⟨w1.heap.size + 1 + 1, 0, none⟩), .pointer (some ⟨w1.heap.size + 1 + 1 + 1, 0, none⟩), .pointer (some ⟨w1.heap.size, 0, none⟩)]] T3))

theorem fr_gw2 (w1 : World) (wb b1 : Nat) (vf : FuncId) (T1 T2 T3 : TypeId) : Fr nob w1 (gw2 w1 wb b1 vf T1 T2 T3) := ((((Fr.refl nob w1).alloc _).alloc _).alloc _).alloc _

/-- THE START: what 'grow' has laid before it visits its key. -/
theorem gr_start {W0 w1 : World} {T1 T2 T3 : TypeId} (hW : Work w1 wb mb (.slice none 0 0) []) (fr1 : Fr nob W0 w1) (lwb : W0.heap.size ≤ wb) (lmb : W0.heap.size ≤ mb) (h1 : W0.cell? ⟨b1, 0, none⟩ = some fv) :
    Gr kt enc sem vf fv
      (gw2 w1 wb b1 vf T1 T2 T3)
      wb mb (w1.heap.size + 1) b1 (w1.heap.size + 1 + 1) (w1.heap.size + 1 + 1 + 1) w1.heap.size (.slice none 0 0) (fun _ => none) [] := by
  have l1 := lt_of_cell h1
  simp only at l1
  have lw := lt_of_cell hW.wk.code
  simp only at lw
  have lm := hW.wk.map.lt
  have f1 : ∀ (w : World) o, Fr nob w (w.alloc o) := fun w o => (Fr.refl nob w).alloc o
  have fr : Fr nob w1 (gw2 w1 wb b1 vf T1 T2 T3) :=
    fr_gw2 ..
  have hm := IsMap.made (w1.alloc (.cells #[.pointer (some ⟨wb, 0, none⟩)] T1)) Tryz.prog kt enc
  rw [show (w1.alloc (.cells #[.pointer (some ⟨wb, 0, none⟩)] T1)).heap.size = w1.heap.size + 1 by simp] at hm
  have nf : ∀ k, k ≠ wb → k ≠ mb → ¬ foot wb mb (.slice none 0 0) k := by
    rintro k h1 h2 (h | h | h)
    · exact h1 h
    · exact h2 h
    · cases h
  refine ⟨hW.kept fr (fun _ _ h => h), ⟨⟨0, (f1 _ _).map ((f1 _ _).map hm (fun h => h)) (fun h => h)⟩, by simp⟩, ⟨fr.cell (fr1.cell h1 (fun h => h)) (fun h => h), ?_, ?_, ?_⟩, ⟨⟨?_, ?_, ?_, ?_⟩, nf _ (by omega) (by omega)⟩⟩
  · exact cell_alloc_l (World.cell?_alloc_at _ _ _ _ (by simp)) _
  · exact World.cell?_alloc_at _ _ _ _ (by simp)
  · exact cell_alloc_l (cell_alloc_l (cell_alloc_l (World.cell?_alloc_at _ _ _ _ rfl) _) _) _
  · rintro (h | h)
    · exact nf b1 (by omega) (by omega) h
    · have := fr1.size; omega
  · rintro (h | h)
    · exact nf _ (by omega) (by omega) h
    · omega
  · rintro (h | h)
    · exact nf _ (by omega) (by omega) h
    · omega
  · rintro (h | h)
    · exact nf _ (by omega) (by omega) h
    · omega

end
end Go.Proofs.YtalnhlebgofiiaaGreatDoor
namespace Go.Proofs.YtalnhlebgofiiaaGreatDoor
open Go.RowKit
open Bd

/-- a set as a value of the program -/
noncomputable abbrev dval (b : B) : Value := .agg #[.int .u32 (place (li b) b : Int), .string ⟨(code (rows (li b))).toArray⟩]

theorem fold_push : ∀ (l : List UInt8) (s : ByteArray), (l.map fun x => (x.toNat : Int)).foldl (fun r n => r.push (UInt8.ofNat n.toNat)) s = ⟨s.data ++ l.toArray⟩
  | [], s => by simp
  | x :: l, s => by
    simp only [List.map_cons, List.foldl_cons]
    rw [fold_push l]
    congr 1
    simp [ByteArray.push]

theorem run_string_of_row {w : World} {v : Value} {n : Nat} {l : List UInt8} (h : w.ownsRow 0 5 1 v n (bs l)) : (convert 145 9 v).run Tryz.prog w = .ok (.string ⟨l.toArray⟩) w := by
  have hlen : l.length = n := by have := h.1; simp [bs] at this; omega
  rcases h.2 with ⟨rfl, h0⟩ | ⟨g, cap, cur, rfl, _⟩
  · rw [run_convert_bytes_string w _ _ 5 _ _ _ Tryz.underlying145 Tryz.underlying5 Tryz.underlying9]
    have : l = [] := List.length_eq_zero_iff.1 (by omega)
    subst this
    rfl
  · rw [run_convert_bytes_string w _ _ 5 _ _ _ Tryz.underlying145 Tryz.underlying5 Tryz.underlying9]
    have e : (loadCells ⟨g, 0, none⟩ n).run Tryz.prog w = .ok ((l.map fun x => (x.toNat : Int)).map (Value.int .u8)).toArray w := by
      have := run_loadCells_list (P := Tryz.prog) (w := w) ⟨g, 0, none⟩ (bs l) (h.cells rfl)
      rw [show (bs l).length = n by simp [bs, hlen]] at this
      rw [this, bs, List.map_map]
      rfl
    rw [run_bytesToString w _ _ _ _ e, fold_push]
    simp

set_option maxRecDepth 100000 in
set_option maxHeartbeats 400000 in
theorem newWork_any (w : World) : Calls Tryz.prog 59 #[] w fun e w' => ∃ wb mb, e = .returned (.pointer (some ⟨wb, 0, none⟩)) ∧ Work w' wb mb (.slice none 0 0) [] ∧ Fr nob w w' ∧ w.heap.size ≤ wb ∧ w.heap.size ≤ mb := by
  have hmm := @run_makeMap Tryz.prog
  go_enter Tryz.func59, Tryz.ntmps59
  go_wp2
  go_ret
  have hm := IsMap.made w Tryz.prog 98 nk
  have fr : Fr nob (w.alloc (.map #[] 0)) ((w.alloc (.map #[] 0)).alloc (.cells #[.slice none 0 0, .map (some w.heap.size)] 147)) := (Fr.refl nob _).alloc _
  refine ⟨w.heap.size + 1, w.heap.size, rfl, ⟨⟨World.cell?_alloc_at _ _ _ _ (by simp), World.cell?_alloc_at _ _ _ _ (by simp), World.frozen?_alloc_at _ _ _ _ (by simp), World.ownsRow_nil _ _ _ _, fr.map hm (fun h => h), by omega, fun g h => by cases h⟩, trivial, ⟨by simp, by simp⟩⟩, ((Fr.refl nob w).alloc _).alloc _, by omega, Nat.le_refl _⟩

set_option maxRecDepth 100000 in
set_option maxHeartbeats 400000 in
theorem set_any (wb mb : Nat) (v : Value) (R : List B) (p : Nat) (w : World) (hW : Work w wb mb v R) :
    Calls Tryz.prog 61 #[.pointer (some ⟨wb, 0, none⟩), .int .u32 (p : Int)] w fun e w' => e = .returned (.agg #[.int .u32 (p : Int), .string ⟨(code (rows R)).toArray⟩]) ∧ Below w.heap.size w w' := by
  have hc := cell_alloc_l hW.wk.code
  have hwb := lt_of_cell hW.wk.code
  have hcv := fun o => run_string_of_row (hW.wk.row.alloc o)
  go_enter Tryz.func61, Tryz.ntmps61
  go_wp2
  exact bodyPost_ret (v := .agg #[.int .u32 (p : Int), .string ⟨(code (rows R)).toArray⟩]) (by simp [results, Tryz.results61, go_sem]) rfl ⟨rfl, (Below.refl _ _).alloc (Nat.le_refl _) _⟩
end Go.Proofs.YtalnhlebgofiiaaGreatDoor
