import Derived.Test.YtalnhlebgofiiaaGreatDoorIns
import Derived.Test.YtalnhlebgofiiaaGreatDoorWork
import Derived.Deep.RegionHeld3
import Derived.Deep.RegionWith
import Derived.StillTailTactics
import Derived.Test.YtalnhlebgofiiaaGreatDoorRuleE
namespace Go.Proofs.YtalnhlebgofiiaaGreatDoor
open Go.RowKit
open Bd

/-- a span of a feature: what it says, and where its set is -/
structure SpIn (cw : Nat → Int) (lo hi : Int) (n : Nat) (R : List B) (x : Span) (t : B) : Prop where
  ok : SpanOk cw lo hi n x.1 x.2.1 t
  inn : inn R t
  pl : x.2.2 = place R t
  bl : -(2199023255552 + (n : Int) * 2147483648) ≤ x.1 ∧ x.1 ≤ 2199023255552 + (n : Int) * 2147483648
  bh : -(2199023255552 + (n : Int) * 2147483648) ≤ x.2.1 ∧ x.2.1 ≤ 2199023255552 + (n : Int) * 2147483648

theorem SpIn.grow {cw : Nat → Int} {lo hi : Int} {n : Nat} {R R' : List B} {x : Span} {t : B} (h : SpIn cw lo hi n R x t) (hg : good R') (hs : R <:+ R') : SpIn cw lo hi n R' x t :=
  ⟨h.ok, h.inn.mono hs.subset, by rw [h.pl, place_suffix hg hs h.inn], h.bl, h.bh⟩

/-- what a sum's work may write -/
def footS (sb wb mb : Nat) (v : Value) (sv : Nat → Value) (k : Nat) : Prop := k = sb ∨ foot wb mb v k ∨ ∃ j, j < 24 ∧ (sv j).ownBlock = some k

/-- The work of costing. -/
structure Sm (cw : Nat → Int) (lo hi : Int) (sb wb mb : Nat) (w : World) (v : Value) (R : List B) (sv : Nat → Value) (L : Nat → List Span) : Prop where
  work : Work w wb mb v R
  cwk : w.cell? ⟨sb, 0, none⟩ = some (.pointer (some ⟨wb, 0, none⟩))
  cwt : ∀ j, j < 24 → w.cell? ⟨sb, 1 + j, none⟩ = some (.int .i64 (cw j))
  clo : w.cell? ⟨sb, 25, none⟩ = some (.int .i64 lo)
  chi : w.cell? ⟨sb, 26, none⟩ = some (.int .i64 hi)
  csn : ∀ j, j < 24 → w.cell? ⟨sb, 27 + j, none⟩ = some (sv j)
  fz : ∀ o, o < 51 → w.frozen? ⟨sb, o, none⟩ = false
  row : ∀ j, j < 24 → w.ownsRow 0 192 3 (sv j) (L j).length ((L j).flatMap spc)
  oks : ∀ j, j < 24 → ∀ x ∈ L j, ∃ t, SpIn cw lo hi (24 - j) R x t
  ns : ¬ foot wb mb v sb
  apart : ∀ j, j < 24 → ∀ g, (sv j).ownBlock = some g → g ≠ sb ∧ ¬ foot wb mb v g
  apart2 : ∀ i j, i < 24 → j < 24 → i ≠ j → ∀ g, (sv i).ownBlock = some g → (sv j).ownBlock ≠ some g

section
variable {cw : Nat → Int} {lo hi : Int} {sb wb mb : Nat} {w w' : World} {v : Value} {R : List B} {sv : Nat → Value} {L : Nat → List Span}

theorem Sm.kept {S : Nat → Prop} (h : Sm cw lo hi sb wb mb w v R sv L) (fr : Fr S w w') (hS : ∀ k, footS sb wb mb v sv k → ¬ S k) : Sm cw lo hi sb wb mb w' v R sv L := by
  have hsb := hS sb (.inl rfl)
  have lsb : sb < w.heap.size := lt_of_cell h.cwk
  exact ⟨h.work.kept fr (fun k hk => hS k (.inr (.inl hk))), fr.cell h.cwk hsb, fun j hj => fr.cell (h.cwt j hj) hsb, fr.cell h.clo hsb, fr.cell h.chi hsb, fun j hj => fr.cell (h.csn j hj) hsb,
    fun o ho => (fr.frozen (p := ⟨sb, o, none⟩) lsb hsb).trans (h.fz o ho), fun j hj => fr.row (h.row j hj) (fun g hg => hS g (.inr (.inr ⟨j, hj, hg⟩))), h.oks, h.ns, h.apart, h.apart2⟩

theorem Sm.keptNew (h : Sm cw lo hi sb wb mb w v R sv L) (fr : Fr nob w w') : Sm cw lo hi sb wb mb w' v R sv L := h.kept fr (fun _ _ h => h)

theorem Sm.foot_lt (h : Sm cw lo hi sb wb mb w v R sv L) : ∀ k, footS sb wb mb v sv k → k < w.heap.size := by
  rintro k (rfl | hk | ⟨j, hj, hk⟩)
  · exact lt_of_cell h.cwk
  · exact h.work.foot_lt k hk
  · exact ((h.row j hj).lt k hk).2

/-- the work has a node more -/
theorem Sm.noded {v' : Value} {R' : List B} (h : Sm cw lo hi sb wb mb w v R sv L) (hW : Work w' wb mb v' R') (hs : R <:+ R') (fr : Fr (foot wb mb v) w w') (src : ∀ g, v'.ownBlock = some g → v.ownBlock = some g ∨ w.heap.size ≤ g) :
    Sm cw lo hi sb wb mb w' v' R' sv L := by
  have lsb : sb < w.heap.size := lt_of_cell h.cwk
  have hsb := h.ns
  exact ⟨hW, fr.cell h.cwk hsb, fun j hj => fr.cell (h.cwt j hj) hsb, fr.cell h.clo hsb, fr.cell h.chi hsb, fun j hj => fr.cell (h.csn j hj) hsb,
    fun o ho => (fr.frozen (p := ⟨sb, o, none⟩) lsb hsb).trans (h.fz o ho), fun j hj => fr.row (h.row j hj) (fun g hg => (h.apart j hj g hg).2),
    fun j hj x hx => (h.oks j hj x hx).imp fun t ht => ht.grow hW.good hs, foot_src src lsb hsb,
    fun j hj g hg => ⟨(h.apart j hj g hg).1, foot_src src ((h.row j hj).lt g hg).2 (h.apart j hj g hg).2⟩, h.apart2⟩

theorem footS_noded {v' : Value} {n : Nat} (src : ∀ g, v'.ownBlock = some g → v.ownBlock = some g ∨ n ≤ g) : ∀ k, footS sb wb mb v' sv k → footS sb wb mb v sv k ∨ n ≤ k := by
  rintro k (h | h | h)
  · exact .inl (.inl h)
  · rcases h with h | h | h
    · exact .inl (.inr (.inl (.inl h)))
    · exact .inl (.inr (.inl (.inr (.inl h))))
    · rcases src k h with h | h
      · exact .inl (.inr (.inl (.inr (.inr h))))
      · exact .inr h
  · exact .inl (.inr (.inr h))

def upd {α : Type} (f : Nat → α) (i : Nat) (a : α) : Nat → α := fun j => if j = i then a else f j
theorem upd_same {α : Type} (f : Nat → α) (i : Nat) (a : α) : upd f i a i = a := by simp [upd]
theorem upd_other {α : Type} (f : Nat → α) {i j : Nat} (a : α) (h : j ≠ i) : upd f i a j = f j := by simp [upd, h]

/-- a row has a span more -/
theorem Sm.inserted {w1 : World} {v1 : Value} {i : Nat} {L1 : List Span} (h : Sm cw lo hi sb wb mb w v R sv L) (hi24 : i < 24) (hr : w1.ownsRow 0 192 3 v1 L1.length (L1.flatMap spc)) (fr : Fr (fun j => (sv i).ownBlock = some j) w w1)
    (src : ∀ g, v1.ownBlock = some g → (sv i).ownBlock = some g ∨ w.heap.size ≤ g) (ho : ∀ x ∈ L1, ∃ t, SpIn cw lo hi (24 - i) R x t) :
    Sm cw lo hi sb wb mb (w1.setCell ⟨sb, 27 + i, none⟩ v1) v R (upd sv i v1) (upd L i L1) := by
  have lsb : sb < w.heap.size := lt_of_cell h.cwk
  have nsb : (sv i).ownBlock ≠ some sb := fun e => (h.apart i hi24 sb e).1 rfl
  have fs := fr_store w1 sb (27 + i) v1
  have oc : ∀ {o : Nat} {u : Value}, w.cell? ⟨sb, o, none⟩ = some u → o ≠ 27 + i → (w1.setCell ⟨sb, 27 + i, none⟩ v1).cell? ⟨sb, o, none⟩ = some u := fun hc ne => by
    rw [World.cell?_setCell_other _ _ _ _ (by simp only [ne_eq, Addr.mk.injEq, true_and, and_true]; omega)]
    exact fr.cell hc nsb
  have nr : ∀ g, v1.ownBlock = some g → g ≠ sb := fun g hg => by
    rcases src g hg with e | e
    · exact (h.apart i hi24 g e).1
    · omega
  refine ⟨?_, oc h.cwk (by omega), fun j hj => oc (h.cwt j hj) (by omega), oc h.clo (by omega), oc h.chi (by omega), fun j hj => ?_, fun o ho' => ?_, fun j hj => ?_, fun j hj x hx => ?_, h.ns, fun j hj g hg => ?_, fun a b ha hb hab g hg => ?_⟩
  · exact (h.work.kept fr (fun k hk e => (h.apart i hi24 k e).2 hk)).kept fs (fun k hk e => h.ns (e ▸ hk))
  · by_cases e : j = i
    · subst e
      rw [upd_same]
      exact World.cell?_setCell_same' _ _ _ (by rw [fr.cell (h.csn j hj) nsb]; rfl)
    · rw [upd_other _ _ e]
      exact oc (h.csn j hj) (by omega)
  · rw [World.frozen?_setCell]
    exact (fr.frozen (p := ⟨sb, o, none⟩) lsb nsb).trans (h.fz o ho')
  · by_cases e : j = i
    · subst e
      rw [upd_same, upd_same]
      exact fs.row hr (fun g hg => nr g hg)
    · rw [upd_other _ _ e, upd_other _ _ e]
      refine fs.row (fr.row (h.row j hj) (fun g hg => ?_)) (fun g hg => (h.apart j hj g hg).1)
      exact h.apart2 j i hj hi24 e g hg
  · by_cases e : j = i
    · subst e
      rw [upd_same] at hx
      exact ho x hx
    · rw [upd_other _ _ e] at hx
      exact h.oks j hj x hx
  · by_cases e : j = i
    · subst e
      rw [upd_same] at hg
      refine ⟨nr g hg, fun hf => ?_⟩
      rcases src g hg with e | e
      · exact (h.apart j hi24 g e).2 hf
      · have := h.work.foot_lt g hf; omega
    · rw [upd_other _ _ e] at hg
      exact h.apart j hj g hg
  · by_cases e1 : a = i
    · subst e1
      rw [upd_same] at hg
      rw [upd_other _ _ (Ne.symm hab)]
      rcases src g hg with e | e
      · exact h.apart2 a b ha hb hab g e
      · intro hb'
        have := ((h.row b hb).lt g hb').2; omega
    · rw [upd_other _ _ e1] at hg
      by_cases e2 : b = i
      · subst e2
        rw [upd_same]
        intro hb'
        rcases src g hb' with e | e
        · exact h.apart2 a b ha hb hab g hg e
        · have := ((h.row a ha).lt g hg).2; omega
      · rw [upd_other _ _ e2]
        exact h.apart2 a b ha hb hab g hg

theorem footS_inserted {v1 : Value} {i n : Nat} (hi24 : i < 24) (src : ∀ g, v1.ownBlock = some g → (sv i).ownBlock = some g ∨ n ≤ g) : ∀ k, footS sb wb mb v (upd sv i v1) k → footS sb wb mb v sv k ∨ n ≤ k := by
  rintro k (h | h | ⟨j, hj, h⟩)
  · exact .inl (.inl h)
  · exact .inl (.inr (.inl h))
  · by_cases e : j = i
    · subst e
      rw [upd_same] at h
      rcases src k h with h | h
      · exact .inl (.inr (.inr ⟨j, hj, h⟩))
      · exact .inr h
    · rw [upd_other _ _ e] at h
      exact .inl (.inr (.inr ⟨j, hj, h⟩))
end

/-- a variable of three cells -/
structure Box3 (w : World) (g : Nat) (a b c : Value) : Prop where
  c0 : w.cell? ⟨g, 0, none⟩ = some a
  c1 : w.cell? ⟨g, 1, none⟩ = some b
  c2 : w.cell? ⟨g, 2, none⟩ = some c
  fz : ∀ o, w.frozen? ⟨g, o, none⟩ = false
theorem Box3.of_heap {w : World} {g : Nat} {a b c : Value} {T : TypeId} (h : w.heap[g]? = some (.cells #[a, b, c] T)) : Box3 w g a b c :=
  have k := block3 h
  ⟨k.1, k.2.1, k.2.2.1, k.2.2.2⟩
theorem Box3.new (w : World) (a b c : Value) (T : TypeId) : Box3 (w.alloc (.cells #[a, b, c] T)) w.heap.size a b c := .of_heap (heap_alloc_new w _)
theorem Box3.lt {w : World} {g : Nat} {a b c : Value} (h : Box3 w g a b c) : g < w.heap.size := lt_of_cell h.c0
theorem Box3.kept {S : Nat → Prop} {w w' : World} {g : Nat} {a b c : Value} (h : Box3 w g a b c) (fr : Fr S w w') (hS : ¬ S g) : Box3 w' g a b c :=
  ⟨fr.cell h.c0 hS, fr.cell h.c1 hS, fr.cell h.c2 hS, fun o => (fr.frozen (p := ⟨g, o, none⟩) h.lt hS).trans (h.fz o)⟩
theorem Box3.set {w : World} {g : Nat} {a b c : Value} (h : Box3 w g a b c) (x y z : Value) : Box3 (set3 w g x y z) g x y z ∧ Fr (fun k => k = g) w (set3 w g x y z) := by
  obtain ⟨h0, h1, h2, h3, h4⟩ := set3_facts (a := x) (b := y) (c := z) h.c0 h.c1 h.c2
  exact ⟨⟨h0, h1, h2, fun o => (h4 _).trans (h.fz o)⟩, h3⟩

/-- what 'from' answers -/
def FromPost (cw : Nat → Int) (lo hi : Int) (sb wb mb n i : Nat) (s : Int) (w : World) (v : Value) (R : List B) (sv : Nat → Value) (L : Nat → List Span) (e : Ending) (w' : World) : Prop :=
  ∃ (x : Span) (v' : Value) (sv' : Nat → Value) (L' : Nat → List Span), e = .returned (spv x.1 x.2.1 x.2.2) ∧ x.1 ≤ s ∧ s ≤ x.2.1 ∧ SpIn cw lo hi n (vis (costB cw lo hi n s) R) x (costB cw lo hi n s) ∧
    Sm cw lo hi sb wb mb w' v' (vis (costB cw lo hi n s) R) sv' L' ∧ Fr (footS sb wb mb v sv) w w' ∧ (∀ k, footS sb wb mb v' sv' k → footS sb wb mb v sv k ∨ w.heap.size ≤ k) ∧
    (∀ j, j < i → (L' j).length = (L j).length) ∧ ∀ j, i ≤ j → j < 24 → (L' j).length ≤ (L j).length + 2 ^ (j - i)
end Go.Proofs.YtalnhlebgofiiaaGreatDoor
namespace Go.Proofs.YtalnhlebgofiiaaGreatDoor
open Go.RowKit
open Bd

section
variable {cw : Nat → Int} {lo hi : Int} {sb wb mb : Nat}

theorem SpIn.end_ {s : Int} (hlo : -1099511627776 ≤ lo ∧ lo ≤ 1099511627776) (hhi : -1099511627776 ≤ hi ∧ hi ≤ 1099511627776) (hs : -1099511627776 ≤ s ∧ s ≤ 1099511627776) (R : List B) :
    (endN lo hi s).1 ≤ s ∧ s ≤ (endN lo hi s).2.1 ∧ SpIn cw lo hi 0 R (endN lo hi s) (costB cw lo hi 0 s) := by
  have h0 : ((0 : Nat) : Int) * 2147483648 = 0 := by omega
  unfold endN
  rw [costB_zero]
  by_cases h1 : s < lo
  · rw [if_pos h1, if_neg (by omega)]
    refine ⟨by simp only; omega, by simp only; omega, span_low cw lo hi _, .inl rfl, rfl, ?_, ?_⟩ <;> simp only [h0] <;> omega
  · by_cases h2 : hi < s
    · rw [if_neg h1, if_pos h2, if_neg (by omega)]
      refine ⟨by simp only; omega, by simp only; omega, span_high cw lo hi _, .inl rfl, rfl, ?_, ?_⟩ <;> simp only [h0] <;> omega
    · rw [if_neg h1, if_neg h2, if_pos (by omega)]
      refine ⟨by simp only; omega, by simp only; omega, span_mid cw lo hi, .inl rfl, rfl, ?_, ?_⟩ <;> simp only [h0] <;> omega

set_option maxRecDepth 100000 in
set_option maxHeartbeats 1000000 in
/-- behind the last feature -/
theorem from_end (hlo : -1099511627776 ≤ lo ∧ lo ≤ 1099511627776) (hhi : -1099511627776 ≤ hi ∧ hi ≤ 1099511627776) (s : Int) (hs : -1099511627776 ≤ s ∧ s ≤ 1099511627776) (w : World) (v : Value) (R : List B) (sv : Nat → Value) (L : Nat → List Span)
    (hS : Sm cw lo hi sb wb mb w v R sv L) :
    Calls Tryz.prog 139 #[.pointer (some ⟨sb, 0, none⟩), .int .i64 24, .int .i64 s] w (FromPost cw lo hi sb wb mb 0 24 s w v R sv L) := by
  have z := block3 (heap_alloc_new w (.cells #[.int .i64 0, .int .i64 0, .int .u32 0] 192))
  have fr1 : Fr nob w (w.alloc (.cells #[.int .i64 0, .int .i64 0, .int .u32 0] 192)) := (Fr.refl nob w).alloc _
  have hS1 := hS.keptNew fr1
  have he := end_any sb lo hi s hlo hhi _ hS1.clo hS1.chi
  go_enter Tryz.func139, Tryz.ntmps139
  go_wp2_with fail
  refine he.mono ?_
  rintro e w2 ⟨rfl, hb⟩
  have fr2 := (Fr.refl nob _).below hb
  have z0 := fr2.cell z.1 (fun h => h)
  have z1 := fr2.cell z.2.1 (fun h => h)
  have z2 := fr2.cell z.2.2.1 (fun h => h)
  have lz := lt_of_cell z.1
  have zf := fun o => (fr2.frozen (p := ⟨w.heap.size, o, none⟩) lz (fun h => h)).trans (z.2.2.2 o)
  have zf0 := zf 0
  have zf1 := zf 1
  have zf2 := zf 2
  have hS2 := hS1.keptNew fr2
  have hx := SpIn.end_ (cw := cw) hlo hhi hs R
  have hl : w.heap.size < w2.heap.size := lt_of_cell z0
  have frw := fr1.trans fr2 (fun _ _ h => h)
  generalize endN lo hi s = x at *
  clear he hS1 fr1 hb z zf
  go_wp2_with fail
  obtain ⟨q0, q1, q2, q3, q4⟩ := set3_facts (a := .int .i64 x.1) (b := .int .i64 x.2.1) (c := .int .u32 (x.2.2 : Int)) z0 z1 z2
  have ht : vis (costB cw lo hi 0 s) R = R := vis_inn hx.2.2.inn
  have p0 := q0
  have p1 := q1
  have p2 := q2
  unfold set3 at p0 p1 p2
  refine bodyPost_ret (v := spv x.1 x.2.1 x.2.2) (by simp [results, Tryz.results139, go_sem, p0, p1, p2]) rfl ?_
  refine ⟨x, v, sv, L, rfl, hx.1, hx.2.1, by rw [ht]; exact hx.2.2, ?_, ?_, fun k h => .inl h, fun _ _ => rfl, fun j h1 h2 => by omega⟩
  · rw [ht]
    exact hS2.kept q3 (fun k hk e => by have := hS.foot_lt k hk; omega)
  · exact (frw.mono (fun _ _ h => h.elim)).trans q3 (fun k hk e => by omega)
end
end Go.Proofs.YtalnhlebgofiiaaGreatDoor
namespace Go.Proofs.YtalnhlebgofiiaaGreatDoor
open Go.RowKit
open Bd

section
variable {cw : Nat → Int} {lo hi : Int} {sb wb mb : Nat}

set_option maxRecDepth 100000 in
set_option maxHeartbeats 2000000 in
/-- before the last feature -/
theorem from_step {n i : Nat} (hin : i + (n + 1) = 24) (hcw : ∀ j, -2147483648 ≤ cw j ∧ cw j ≤ 2147483648) (s : Int) (hs : -((i : Int) * 2147483648) ≤ s ∧ s ≤ (i : Int) * 2147483648)
    (w : World) (v : Value) (R : List B) (sv : Nat → Value) (L : Nat → List Span) (hS : Sm cw lo hi sb wb mb w v R sv L) (hsm : small (vis (costB cw lo hi (n + 1) s) R)) (hlen : ∀ j, i ≤ j → j < 24 → (L j).length + 2 ^ (j - i) ≤ 16777216)
    (ih : ∀ (s : Int) (w : World) (v : Value) (R : List B) (sv : Nat → Value) (L : Nat → List Span), -(((i : Int) + 1) * 2147483648) ≤ s ∧ s ≤ ((i : Int) + 1) * 2147483648 → Sm cw lo hi sb wb mb w v R sv L → small (vis (costB cw lo hi n s) R) →
      (∀ j, i + 1 ≤ j → j < 24 → (L j).length + 2 ^ (j - (i + 1)) ≤ 16777216) →
      Calls Tryz.prog 139 #[.pointer (some ⟨sb, 0, none⟩), .int .i64 ((i : Int) + 1), .int .i64 s] w (FromPost cw lo hi sb wb mb n (i + 1) s w v R sv L)) :
    Calls Tryz.prog 139 #[.pointer (some ⟨sb, 0, none⟩), .int .i64 (i : Int), .int .i64 s] w (FromPost cw lo hi sb wb mb (n + 1) i s w v R sv L) := by
  have hi24 : i < 24 := by omega
  have hi0 : (0 : Int) ≤ (i : Int) := by omega
  have hi1 : (i : Int) < 24 := by omega
  have hine : ((i : Int) == 24) = false := by simp only [beq_eq_false_iff_ne]; omega
  have hlen0 : (L i).length + 1 ≤ 16777216 := by have := hlen i (Nat.le_refl _) hi24; simpa using this
  have Z := Box3.new w (.int .i64 0) (.int .i64 0) (.int .u32 0) 192
  have fr1 : Fr nob w (w.alloc (.cells #[.int .i64 0, .int .i64 0, .int .u32 0] 192)) := (Fr.refl nob w).alloc _
  have hS1 := hS.keptNew fr1
  have hrow := spRow_of (hS1.row i hi24)
  have hse := search_any (L i) (by omega) s (sv i) _ hrow
  have c0 := hS1.csn i hi24
  obtain ⟨a, cap, hsv⟩ := hrow.form
  rw [hsv] at c0 hse hrow
  go_enter Tryz.func139, Tryz.ntmps139
  go_wp2_with fail
  refine hse.mono ?_
  rintro e w2 ⟨⟨k, b, rfl, hk, hfound⟩, hb⟩
  have fr2 := (Fr.refl nob _).below hb
  replace Z := Z.kept fr2 (fun h => h)
  have hS2 := hS1.keptNew fr2
  have hrow2 := hrow.kept fr2
  have c2 := fr2.cell c0 (fun h => h)
  have frw := fr1.trans fr2 (fun _ _ h => h)
  have lw := Z.lt
  clear hse hS1 fr1 hb c0 hrow fr2
  cases b
  case true =>
    obtain ⟨x, hx, hx1, hx2⟩ := hfound rfl
    obtain ⟨g, rfl, x0, x1, x2⟩ := hrow2.at hx
    obtain ⟨t, ht⟩ := hS.oks i hi24 x (List.mem_of_getElem? hx)
    rw [show 24 - i = n + 1 by omega] at ht
    have ete : costB cw lo hi (n + 1) s = t := ht.ok s hx1 hx2
    have hkl : k < (L i).length := (List.getElem?_eq_some_iff.1 hx).1
    have hk0 : (0 : Int) ≤ (k : Int) := by omega
    have hk1 : (k : Int) < ((L i).length : Int) := by omega
    have HX := Lib.hid ht
    have ⟨z0, z1, z2, zf⟩ := Z
    have zf0 := zf 0
    have zf1 := zf 1
    have zf2 := zf 2
    clear ih hlen hsm hfound hx zf
    go_wp2_with fail
    obtain ⟨Z', f9⟩ := Z.set (.int .i64 x.1) (.int .i64 x.2.1) (.int .u32 (x.2.2 : Int))
    have ⟨p0, p1, p2, _⟩ := Z'
    unfold set3 at p0 p1 p2
    have hR : vis (costB cw lo hi (n + 1) s) R = R := by rw [ete]; exact vis_inn ht.inn
    refine bodyPost_ret (v := spv x.1 x.2.1 x.2.2) (by simp [results, Tryz.results139, go_sem, p0, p1, p2]) rfl ?_
    refine ⟨x, v, sv, L, rfl, hx1, hx2, by rw [hR, ete]; exact HX.out, ?_, ?_, fun k h => .inl h, fun _ _ => rfl, fun j h1 h2 => Nat.le_add_right _ _⟩
    · rw [hR]
      exact hS2.kept f9 (fun k hk e => by have h1 := hS.foot_lt k hk; have h2 : k = w.heap.size := e; omega)
    · exact (frw.mono (fun _ _ h => h.elim)).trans f9 (fun k hk e => by have h2 : k = w.heap.size := e; omega)
  case false =>
    have wt := hS2.cwt i hi24
    have hc := hcw i
    generalize hci : cw i = c at wt hc
    have hw1 : IntKind.i64.wrap ((i : Int) + 1) = (i : Int) + 1 := by rw [IntKind.wrap_i64]; omega
    have hw2 : IntKind.i64.wrap (s + c) = s + c := by rw [IntKind.wrap_i64]; omega
    have hsml : small (vis (costB cw lo hi n s) R) ∧ small (vis (costB cw lo hi n (s + c)) (vis (costB cw lo hi n s) R)) ∧ small (vis (mk (23 - n) (costB cw lo hi n s) (costB cw lo hi n (s + c))) (vis (costB cw lo hi n (s + c)) (vis (costB cw lo hi n s) R))) := by
      have hg := hS.work.good
      rw [costB_succ cw lo hi (by omega), show 23 - n = i by omega, hci, ← show 23 - n = i by omega] at hsm
      exact ⟨small_suffix ((vis_suffix _ _).trans (suffix_mk hg)) hsm, small_suffix (suffix_mk hg) hsm, by rw [vis_vis_mk hg]; exact hsm⟩
    have h3 := ih s w2 v R sv L (by omega) hS2 hsml.1 (fun j h1 h2 => by
      have h := hlen j (by omega) h2
      have : 2 ^ (j - (i + 1)) ≤ 2 ^ (j - i) := Nat.pow_le_pow_right (by omega) (by omega)
      omega)
    clear hfound hrow2
    go_wp2_with fail
    refine h3.mono ?_
    rintro e w3 ⟨x0, v3, sv3, L3, rfl, hl0, hh0, hp0, hS3, fr3, src3, lena3, lenb3⟩
    have hnf : ¬ footS sb wb mb v sv w.heap.size := fun h => by have := hS.foot_lt _ h; omega
    replace Z := Z.kept fr3 hnf
    clear h3 wt c2
    have fra := (Fr.refl nob w3).alloc (.cells #[.int .i64 x0.1, .int .i64 x0.2.1, .int .u32 (x0.2.2 : Int)] 192)
    have hS3a := hS3.keptNew fra
    have h4 := ih (s + c) _ v3 _ sv3 L3 (by omega) hS3a hsml.2.1 (fun j h1 h2 => by
      have h := hlen j (by omega) h2
      have hl := lenb3 j h1 h2
      have : 2 ^ (j - i) = 2 ^ (j - (i + 1)) + 2 ^ (j - (i + 1)) := by rw [show j - i = (j - (i + 1)) + 1 by omega, Nat.pow_succ]; omega
      omega)
    go_wp2_with fail
    refine h4.mono ?_
    rintro e w5 ⟨x1, v5, sv5, L5, rfl, hl1, hh1, hp1, hS5, fr5, src5, lena5, lenb5⟩
    have n3 : ¬ footS sb wb mb v3 sv3 w3.heap.size := fun h => by have := hS3.foot_lt _ h; omega
    have B3 := (Box3.new w3 (.int .i64 x0.1) (.int .i64 x0.2.1) (.int .u32 (x0.2.2 : Int)) 192).kept fr5 n3
    have frb := (Fr.refl nob w5).alloc (.cells #[.int .i64 x1.1, .int .i64 x1.2.1, .int .u32 (x1.2.2 : Int)] 192)
    replace B3 := B3.kept frb (fun h => h)
    have B5 := Box3.new w5 (.int .i64 x1.1) (.int .i64 x1.2.1) (.int .u32 (x1.2.2 : Int)) 192
    have hnf3 : ¬ footS sb wb mb v3 sv3 w.heap.size := fun h => by
      rcases src3 _ h with h | h
      · exact hnf h
      · omega
    replace Z := ((Z.kept fra (fun h => h)).kept fr5 hnf3).kept frb (fun h => h)
    have hS6 := hS5.keptNew frb
    have ⟨b0, b1, b2, _⟩ := B3
    have ⟨d0, d1, d2, _⟩ := B5
    have hil : inn (vis (costB cw lo hi n (s + c)) (vis (costB cw lo hi n s) R)) (costB cw lo hi n s) := (inn_vis _ _).mono (mem_vis _ _)
    have hpl0 : x0.2.2 = place (vis (costB cw lo hi n (s + c)) (vis (costB cw lo hi n s) R)) (costB cw lo hi n s) := by
      rw [hp0.pl, place_suffix hS6.work.good (vis_suffix _ _) hp0.inn]
    have hsm3 : small (vis (mk i (costB cw lo hi n s) (costB cw lo hi n (s + c))) (vis (costB cw lo hi n (s + c)) (vis (costB cw lo hi n s) R))) := by
      have h := hsml.2.2
      rw [show 23 - n = i by omega] at h; exact h
    have cwk6 := hS6.cwk
    have hn0 : ¬ foot wb mb v5 w3.heap.size := fun h => by
      rcases src5 _ (.inr (.inl h)) with h | h
      · have := hS3.foot_lt _ h; omega
      · simp only [World.size_alloc] at h; omega
    have hn1 : ¬ foot wb mb v5 w5.heap.size := fun h => by have := hS5.work.foot_lt _ h; omega
    have zW : (w5.alloc (.cells #[.int .i64 x1.1, .int .i64 x1.2.1, .int .u32 (x1.2.2 : Int)] 192)).heap.size = w5.heap.size + 1 := World.size_alloc _ _
    have ZW := Lib.hid zW
    clear zW
    go_upto_region 9 with fail
    generalize (w5.alloc (.cells #[.int .i64 x1.1, .int .i64 x1.2.1, .int .u32 (x1.2.2 : Int)] 192)) = W6 at *
    have l3 := B3.lt
    have l5 := B5.lt
    have hq1 : IntKind.i64.wrap (x1.1 - c) = x1.1 - c := by rw [IntKind.wrap_i64]; have := hp1.bl; omega
    have hq2 : IntKind.i64.wrap (x1.2.1 - c) = x1.2.1 - c := by rw [IntKind.wrap_i64]; have := hp1.bh; omega
    have HQ1 := Lib.hid hq1
    have HQ2 := Lib.hid hq2
    clear hq1 hq2
    have hg6 := hS6.work.good
    obtain ⟨R3, hR3⟩ : ∃ R3, R3 = vis (mk i (costB cw lo hi n s) (costB cw lo hi n (s + c))) (vis (costB cw lo hi n (s + c)) (vis (costB cw lo hi n s) R)) := ⟨_, rfl⟩
    obtain ⟨PL, hPL⟩ : ∃ PL, PL = place R3 (mk i (costB cw lo hi n s) (costB cw lo hi n (s + c))) := ⟨_, rfl⟩
    obtain ⟨J9, hJ9⟩ : ∃ J9 : Bool → World → Prop, J9 = fun d W' => Fr (foot wb mb v5) W6 W' ∧ (d = false → Fr nob W6 W') ∧ (d = true → ∃ v7, Work W' wb mb v7 R3 ∧ ∀ g, v7.ownBlock = some g → v5.ownBlock = some g ∨ W6.heap.size ≤ g) := ⟨_, rfl⟩
    have J9i : ∀ d w', J9 d w' → Fr (foot wb mb v5) W6 w' ∧ (d = false → Fr nob W6 w') ∧ (d = true → ∃ v7, Work w' wb mb v7 R3 ∧ ∀ g, v7.ownBlock = some g → v5.ownBlock = some g ∨ W6.heap.size ≤ g) := fun d w' h => by rw [hJ9] at h; exact h
    have J9a : ∀ w', Fr nob W6 w' → J9 false w' := fun w' h => by rw [hJ9]; exact ⟨h.mono (fun _ _ h => h.elim), fun _ => h, fun h => by cases h⟩
    have J9b : ∀ d w', J9 d w' → W6.heap.size ≤ w'.heap.size := fun d w' h => (J9i d w' h).1.size
    have J9c : ∀ d w' w'', J9 d w' → Fr nob w' w'' → J9 d w'' := fun d w' w'' h k => by
      have ⟨h1, h2, h3⟩ := J9i d w' h
      rw [hJ9]
      exact ⟨h1.trans k (fun _ _ h => h.elim), fun e => (h2 e).trans k (fun _ _ h => h), fun e => (h3 e).imp fun v7 hv => ⟨hv.1.kept k (fun _ _ h => h), hv.2⟩⟩
    have hnode : ∀ w', J9 false w' → Calls Tryz.prog 60 #[.pointer (some ⟨wb, 0, none⟩), .int .i64 (i : Int), .int .u32 (x0.2.2 : Int), .int .u32 (x1.2.2 : Int)] w' (fun e w'' => e = .returned (.int .u32 (PL : Int)) ∧ J9 true w'' ∧ w'.heap.size ≤ w''.heap.size ∧ ∀ b, W6.heap.size ≤ b → b < w'.heap.size → w''.heap[b]? = w'.heap[b]?) := fun w' h => by
      have ⟨_, h2, _⟩ := J9i _ _ h
      have h2 := h2 rfl
      refine (node_any' wb mb i v5 _ (costB cw lo hi n s) (costB cw lo hi n (s + c)) w' (hS6.work.kept h2 (fun _ _ h => h)) hi24 hil (inn_vis _ _) hsm3 x0.2.2 x1.2.2 hpl0 hp1.pl).mono ?_
      rintro e w7 ⟨v7, rfl, hW7, fr7, src7⟩
      refine ⟨by rw [hPL, hR3], ?_, fr7.size, fun b h1 h3 => fr7.block b h3 (fun hf => by have := hS6.work.foot_lt _ hf; omega)⟩
      rw [hJ9]
      exact ⟨h2.trans' fr7 (fun _ _ h => h.elim) (fun _ _ h => h), (fun h => by cases h), fun _ => ⟨v7, by rw [hR3]; exact hW7, fun g hg => (src7 g hg).imp id (fun h' => Nat.le_trans h2.size h')⟩⟩
    have HR3 := Lib.hid hR3
    have HPL := Lib.hid hPL
    have HJ := Lib.hid J9i
    have hS6ns := hS6.ns
    clear hR3 hPL hJ9
    refine E.wp_region_jump 26 98 23 J9 (fun _ => #[.int .i64 0, .int .i64 0, .int .u32 0]) [192] (by kernel_rfl) ?hB rfl (by decide) (by kernel_rfl) J9a J9b J9c rfl (by intro T h w; simp at h; subst h; rfl) ?hrun
    case hB =>
      refine E.growB_of (by kernel_rfl) (by kernel_rfl) (by kernel_rfl) (by kernel_rfl) ?_ (by kernel_rfl) (by kernel_rfl) (by kernel_rfl)
      refine E.lexHead_start (l' := #[false, false, false, false, false, false, false, false, false, false, false, false, false, false, false, false, false, false, false, false, false, false, false, false, false, false, false]) (by kernel_rfl) ?_
      refine E.lexHead_cons (l' := #[true, false, false, false, false, false, false, false, false, false, false, false, false, false, false, false, false, false, false, false, false, false, false, false, false, false, false]) (by kernel_rfl) (by kernel_rfl) ?_
      refine E.lexHead_cons (l' := #[true, true, false, false, false, false, false, false, false, false, false, false, false, false, false, false, false, false, false, false, false, false, false, false, false, false, false]) (by kernel_rfl) (by kernel_rfl) ?_
      refine E.lexHead_cons (l' := #[true, true, true, false, false, false, false, false, false, false, false, false, false, false, false, false, false, false, false, false, false, false, false, false, false, false, false]) (by kernel_rfl) (by kernel_rfl) ?_
      refine E.lexHead_cons (l' := #[true, true, true, true, false, false, false, false, false, false, false, false, false, false, false, false, false, false, false, false, false, false, false, false, false, false, false]) (by kernel_rfl) (by kernel_rfl) ?_
      refine E.lexHead_cons (l' := #[true, true, true, true, true, false, false, false, false, false, false, false, false, false, false, false, false, false, false, false, false, false, false, false, false, false, false]) (by kernel_rfl) (by kernel_rfl) ?_
      refine E.lexHead_cons (l' := #[true, true, true, true, true, true, false, false, false, false, false, false, false, false, false, false, false, false, false, false, false, false, false, false, false, false, false]) (by kernel_rfl) (by kernel_rfl) ?_
      refine E.lexHead_cons (l' := #[true, true, true, true, true, true, true, false, false, false, false, false, false, false, false, false, false, false, false, false, false, false, false, false, false, false, false]) (by kernel_rfl) (by kernel_rfl) ?_
      refine E.lexHead_cons (l' := #[true, true, true, true, true, true, true, true, false, false, false, false, false, false, false, false, false, false, false, false, false, false, false, false, false, false, false]) (by kernel_rfl) (by kernel_rfl) ?_
      refine E.lexHead_cons (l' := #[true, true, true, true, true, true, true, true, true, false, false, false, false, false, false, false, false, false, false, false, false, false, false, false, false, false, false]) (by kernel_rfl) (by kernel_rfl) ?_
      refine E.lexHead_cons (l' := #[true, true, true, true, true, true, true, true, true, true, false, false, false, false, false, false, false, false, false, false, false, false, false, false, false, false, false]) (by kernel_rfl) (by kernel_rfl) ?_
      refine E.lexHead_cons (l' := #[true, true, true, true, true, true, true, true, true, true, true, false, false, false, false, false, false, false, false, false, false, false, false, false, false, false, false]) (by kernel_rfl) (by kernel_rfl) ?_
      refine E.lexHead_cons (l' := #[true, true, true, true, true, true, true, true, true, true, true, true, false, false, false, false, false, false, false, false, false, false, false, false, false, false, false]) (by kernel_rfl) (by kernel_rfl) ?_
      refine E.lexHead_cons (l' := #[true, true, true, true, true, true, true, true, true, true, true, true, true, false, false, false, false, false, false, false, false, false, false, false, false, false, false]) (by kernel_rfl) (by kernel_rfl) ?_
      refine E.lexHead_cons (l' := #[true, true, true, true, true, true, true, true, true, true, true, true, true, true, false, false, false, false, false, false, false, false, false, false, false, false, false]) (by kernel_rfl) (by kernel_rfl) ?_
      refine E.lexHead_cons (l' := #[true, true, true, true, true, true, true, true, true, true, true, true, true, true, true, false, false, false, false, false, false, false, false, false, false, false, false]) (by kernel_rfl) (by kernel_rfl) ?_
      refine E.lexHead_cons (l' := #[true, true, true, true, true, true, true, true, true, true, true, true, true, true, true, true, false, false, false, false, false, false, false, false, false, false, false]) (by kernel_rfl) (by kernel_rfl) ?_
      refine E.lexHead_cons (l' := #[true, true, true, true, true, true, true, true, true, true, true, true, true, true, true, true, true, false, false, false, false, false, false, false, false, false, false]) (by kernel_rfl) (by kernel_rfl) ?_
      refine E.lexHead_cons (l' := #[true, true, true, true, true, true, true, true, true, true, true, true, true, true, true, true, true, true, false, false, false, false, false, false, false, false, false]) (by kernel_rfl) (by kernel_rfl) ?_
      refine E.lexHead_cons (l' := #[true, true, true, true, true, true, true, true, true, true, true, true, true, true, true, true, true, true, true, false, false, false, false, false, false, false, false]) (by kernel_rfl) (by kernel_rfl) ?_
      refine E.lexHead_cons (l' := #[true, true, true, true, true, true, true, true, true, true, true, true, true, true, true, true, true, true, true, true, false, false, false, false, false, false, false]) (by kernel_rfl) (by kernel_rfl) ?_
      refine E.lexHead_cons (l' := #[true, true, true, true, true, true, true, true, true, true, true, true, true, true, true, true, true, true, true, true, true, false, false, false, false, false, false]) (by kernel_rfl) (by kernel_rfl) ?_
      refine E.lexHead_cons (l' := #[true, true, true, true, true, true, true, true, true, true, true, true, true, true, true, true, true, true, true, true, true, true, false, false, false, false, false]) (by kernel_rfl) (by kernel_rfl) ?_
      refine E.lexHead_cons (l' := #[true, true, true, true, true, true, true, true, true, true, true, true, true, true, true, true, true, true, true, true, true, true, true, false, false, false, false]) (by kernel_rfl) (by kernel_rfl) ?_
      refine E.lexHead_cons (l' := #[true, true, true, true, true, true, true, true, true, true, true, true, true, true, true, true, true, true, true, true, true, true, true, true, false, false, false]) (by kernel_rfl) (by kernel_rfl) ?_
      refine E.lexHead_cons (l' := #[true, true, true, true, true, true, true, true, true, true, true, true, true, true, true, true, true, true, true, true, true, true, true, true, true, false, false]) (by kernel_rfl) (by kernel_rfl) ?_
      refine E.lexHead_cons (l' := #[true, true, true, true, true, true, true, true, true, true, true, true, true, true, true, true, true, true, true, true, true, true, true, true, true, true, false]) (by kernel_rfl) (by kernel_rfl) ?_
      kernel_rfl
    case hrun =>
      simp only [List.take_succ_cons, List.take_zero]
      refine E.jump_step (v := ?v0) rfl rfl rfl ?a0 ?b0
      case a0 =>
        intro d9 w' hJ
        clear hJ
        refine E.upon_value ?_
        go_simp
        try rfl
      simp only [Act.put, List.setIfInBounds_toArray, List.set_cons_zero, List.set_cons_succ]
      refine E.jump_step (v := ?v1) rfl rfl rfl ?a1 ?b1
      case a1 =>
        intro d9 w' hJ
        have y := (HJ.out _ _ hJ).1.cell b0 hn0
        clear hJ
        refine E.upon_value ?_
        go_simp
        try rfl
      simp only [Act.put, List.setIfInBounds_toArray, List.set_cons_zero, List.set_cons_succ]
      refine E.jump_step (v := ?v2) rfl rfl rfl ?a2 ?b2
      case a2 =>
        intro d9 w' hJ
        clear hJ
        refine E.upon_value ?_
        go_simp
        try rfl
      simp only [Act.put, List.setIfInBounds_toArray, List.set_cons_zero, List.set_cons_succ]
      refine E.jump_step (v := ?v3) rfl rfl rfl ?a3 ?b3
      case a3 =>
        intro d9 w' hJ
        have y := (HJ.out _ _ hJ).1.cell d0 hn1
        clear hJ
        refine E.upon_value ?_
        go_simp
        try rfl
      simp only [Act.put, List.setIfInBounds_toArray, List.set_cons_zero, List.set_cons_succ]
      refine E.jump_step (v := ?v4) rfl rfl rfl ?a4 ?b4
      case a4 =>
        intro d9 w' hJ
        clear hJ
        refine E.upon_value ?_
        go_simp
        try rfl
      simp only [Act.put, List.setIfInBounds_toArray, List.set_cons_zero, List.set_cons_succ]
      refine E.jump_step (v := .int .i64 (x1.1 - c)) rfl rfl rfl ?a5 ?b5
      case a5 =>
        intro d9 w' hJ
        clear hJ
        refine E.upon_value ?_
        have y := HQ1.out
        go_simp
      simp only [Act.put, List.setIfInBounds_toArray, List.set_cons_zero, List.set_cons_succ]
      refine E.jump_step (v := .int .i64 (max x0.1 (x1.1 - c))) rfl rfl rfl ?a6 ?b6
      case a6 =>
        intro d9 w' hJ
        clear hJ
        refine E.upon_value ?_
        go_simp
      simp only [Act.put, List.setIfInBounds_toArray, List.set_cons_zero, List.set_cons_succ]
      refine E.jump_step (v := ?v7) rfl rfl rfl ?a7 ?b7
      case a7 =>
        intro d9 w' hJ
        clear hJ
        refine E.upon_value ?_
        go_simp
        try rfl
      simp only [Act.put, List.setIfInBounds_toArray, List.set_cons_zero, List.set_cons_succ]
      refine E.jump_step (v := ?v8) rfl rfl rfl ?a8 ?b8
      case a8 =>
        intro d9 w' hJ
        have y := (HJ.out _ _ hJ).1.cell b1 hn0
        clear hJ
        refine E.upon_value ?_
        go_simp
        try rfl
      simp only [Act.put, List.setIfInBounds_toArray, List.set_cons_zero, List.set_cons_succ]
      refine E.jump_step (v := ?v9) rfl rfl rfl ?a9 ?b9
      case a9 =>
        intro d9 w' hJ
        clear hJ
        refine E.upon_value ?_
        go_simp
        try rfl
      simp only [Act.put, List.setIfInBounds_toArray, List.set_cons_zero, List.set_cons_succ]
      refine E.jump_step (v := ?v10) rfl rfl rfl ?a10 ?b10
      case a10 =>
        intro d9 w' hJ
        have y := (HJ.out _ _ hJ).1.cell d1 hn1
        clear hJ
        refine E.upon_value ?_
        go_simp
        try rfl
      simp only [Act.put, List.setIfInBounds_toArray, List.set_cons_zero, List.set_cons_succ]
      refine E.jump_step (v := ?v11) rfl rfl rfl ?a11 ?b11
      case a11 =>
        intro d9 w' hJ
        clear hJ
        refine E.upon_value ?_
        go_simp
        try rfl
      simp only [Act.put, List.setIfInBounds_toArray, List.set_cons_zero, List.set_cons_succ]
      refine E.jump_step (v := .int .i64 (x1.2.1 - c)) rfl rfl rfl ?a12 ?b12
      case a12 =>
        intro d9 w' hJ
        clear hJ
        refine E.upon_value ?_
        have y := HQ2.out
        go_simp
      simp only [Act.put, List.setIfInBounds_toArray, List.set_cons_zero, List.set_cons_succ]
      refine E.jump_step (v := .int .i64 (min x0.2.1 (x1.2.1 - c))) rfl rfl rfl ?a13 ?b13
      case a13 =>
        intro d9 w' hJ
        clear hJ
        refine E.upon_value ?_
        go_simp
      simp only [Act.put, List.setIfInBounds_toArray, List.set_cons_zero, List.set_cons_succ]
      refine E.jump_step (v := ?v14) rfl rfl rfl ?a14 ?b14
      case a14 =>
        intro d9 w' hJ
        clear hJ
        refine E.upon_value ?_
        go_simp
        try rfl
      simp only [Act.put, List.setIfInBounds_toArray, List.set_cons_zero, List.set_cons_succ]
      refine E.jump_step (v := ?v15) rfl rfl rfl ?a15 ?b15
      case a15 =>
        intro d9 w' hJ
        clear hJ
        refine E.upon_value ?_
        go_simp
        try rfl
      simp only [Act.put, List.setIfInBounds_toArray, List.set_cons_zero, List.set_cons_succ]
      refine E.jump_step (v := ?v16) rfl rfl rfl ?a16 ?b16
      case a16 =>
        intro d9 w' hJ
        clear hJ
        refine E.upon_value ?_
        go_simp
        try rfl
      simp only [Act.put, List.setIfInBounds_toArray, List.set_cons_zero, List.set_cons_succ]
      refine E.jump_step (v := ?v17) rfl rfl rfl ?a17 ?b17
      case a17 =>
        intro d9 w' hJ
        have y := (HJ.out _ _ hJ).1.cell cwk6 hS6ns
        clear hJ
        refine E.upon_value ?_
        go_simp
        try rfl
      simp only [Act.put, List.setIfInBounds_toArray, List.set_cons_zero, List.set_cons_succ]
      refine E.jump_step (v := ?v18) rfl rfl rfl ?a18 ?b18
      case a18 =>
        intro d9 w' hJ
        clear hJ
        refine E.upon_value ?_
        go_simp
        try rfl
      simp only [Act.put, List.setIfInBounds_toArray, List.set_cons_zero, List.set_cons_succ]
      refine E.jump_step (v := ?v19) rfl rfl rfl ?a19 ?b19
      case a19 =>
        intro d9 w' hJ
        clear hJ
        refine E.upon_value ?_
        go_simp
        try rfl
      simp only [Act.put, List.setIfInBounds_toArray, List.set_cons_zero, List.set_cons_succ]
      refine E.jump_step (v := ?v20) rfl rfl rfl ?a20 ?b20
      case a20 =>
        intro d9 w' hJ
        have y := (HJ.out _ _ hJ).1.cell b2 hn0
        clear hJ
        refine E.upon_value ?_
        go_simp
        try rfl
      simp only [Act.put, List.setIfInBounds_toArray, List.set_cons_zero, List.set_cons_succ]
      refine E.jump_step (v := ?v21) rfl rfl rfl ?a21 ?b21
      case a21 =>
        intro d9 w' hJ
        clear hJ
        refine E.upon_value ?_
        go_simp
        try rfl
      simp only [Act.put, List.setIfInBounds_toArray, List.set_cons_zero, List.set_cons_succ]
      refine E.jump_step (v := ?v22) rfl rfl rfl ?a22 ?b22
      case a22 =>
        intro d9 w' hJ
        have y := (HJ.out _ _ hJ).1.cell d2 hn1
        clear hJ
        refine E.upon_value ?_
        go_simp
        try rfl
      simp only [Act.put, List.setIfInBounds_toArray, List.set_cons_zero, List.set_cons_succ]
      refine E.jump_call (v := .int .u32 (PL : Int)) 60 #[.pointer (some ⟨wb, 0, none⟩), .int .i64 (i : Int), .int .u32 (x0.2.2 : Int), .int .u32 (x1.2.2 : Int)] rfl rfl rfl (fun w' => by go_simp) ?a23 ?b23
      case a23 =>
        intro w' hJ
        exact hnode w' hJ
      simp only [Act.put, List.setIfInBounds_toArray, List.set_cons_zero, List.set_cons_succ]
      refine E.jump_step (v := ?v24) rfl rfl rfl ?a24 ?b24
      case a24 =>
        intro d9 w' hJ
        clear hJ
        refine E.upon_value ?_
        go_simp
        try rfl
      simp only [Act.put, List.setIfInBounds_toArray, List.set_cons_zero, List.set_cons_succ]
      refine E.jump_alloc rfl fun g9 hg9 => ?_
      simp only [Act.put, List.setIfInBounds_toArray, List.set_cons_zero, List.set_cons_succ]
      refine E.jump_nil ?_
      intro w7 listed hJ hl hM
      obtain ⟨b9, m91, _, m93, _⟩ := hM 25 _ 192 12 (by omega) rfl rfl rfl (hl 25 (by omega))
      clear hM hl
      obtain rfl : g9 = b9 := by simpa using m91
      clear m91
      obtain ⟨fr7, _, hJ2⟩ := HJ.out _ _ hJ
      obtain ⟨v7, hW7, src7⟩ := hJ2 rfl
      have G := Box3.of_heap m93
      have ng7 : v7.ownBlock ≠ some g9 := fun e => by
        rcases hW7.wk.row.2 with ⟨e1, _⟩ | ⟨g, cap, cur, e1, _, e2, _⟩
        · rw [e1] at e; cases e
        · rw [e1] at e; cases e
          rw [m93] at e2
          cases e2
      have hS7 := hS6.noded hW7 (by rw [HR3.out]; exact vis_suffix _ _) fr7 src7
      have ng : ¬ footS sb wb mb v7 sv5 g9 := by
        rintro (h | h | ⟨j, hj, h⟩)
        · have := lt_of_cell cwk6; simp only at this; omega
        · rcases h with h | h | h
          · have := hS6.work.foot_lt _ (.inl h); omega
          · have := hS6.work.foot_lt _ (.inr (.inl h)); omega
          · exact ng7 h
        · have := hS6.foot_lt _ (.inr (.inr ⟨j, hj, h⟩)); omega
      have hnf5 : ¬ footS sb wb mb v5 sv5 w.heap.size := fun h => by
        rcases src5 _ h with h | h
        · exact hnf3 h
        · have := fr3.size; simp only [World.size_alloc] at h; omega
      have hnf7 : ¬ foot wb mb v5 w.heap.size := fun h => hnf5 (.inr (.inl h))
      have lz6 := Z.lt
      replace Z := Z.kept fr7 hnf7
      have nz9 : w.heap.size ≠ g9 := by omega
      have ⟨t0, t1, t2, tf⟩ := G
      have tf0 := tf 0
      have tf1 := tf 1
      have tf2 := tf 2
      clear tf b0 b1 b2 d0 d1 d2 hJ hJ2 hnode J9a J9b J9c HJ cwk6
      go_wp2_with fail
      obtain ⟨G8, f8⟩ := G.set (.int .i64 (max x0.1 (x1.1 - c))) (.int .i64 (min x0.2.1 (x1.2.1 - c))) (.int .u32 (PL : Int))
      have hS8 := hS7.kept f8 (fun k hk e => ng (by have e' : k = g9 := e; rw [← e']; exact hk))
      replace Z := Z.kept f8 nz9
      change Code.wp _ _ _ _ (set3 w7 g9 (.int .i64 (max x0.1 (x1.1 - c))) (.int .i64 (min x0.2.1 (x1.2.1 - c))) (.int .u32 (PL : Int)))
      have f68 := fr7.trans f8 (fun k hk e => by have e' : k = g9 := e; omega)
      have src8 := footS_noded (sb := sb) (wb := wb) (mb := mb) (sv := sv5) src7
      generalize set3 w7 g9 (.int .i64 (max x0.1 (x1.1 - c))) (.int .i64 (min x0.2.1 (x1.2.1 - c))) (.int .u32 (PL : Int)) = W8 at *
      obtain ⟨X, hX⟩ : ∃ X : Span, X = (max x0.1 (x1.1 - c), min x0.2.1 (x1.2.1 - c), PL) := ⟨_, rfl⟩
      have G8' : Box3 W8 g9 (.int .i64 X.1) (.int .i64 X.2.1) (.int .u32 (X.2.2 : Int)) := by rw [hX]; exact G8
      have hli : (L5 i).length = (L i).length := (lena5 i (by omega)).trans (lena3 i (by omega))
      have hk5 : k ≤ (L5 i).length := by omega
      have hl5 : (L5 i).length ≤ 1073741824 := by omega
      have HA3 := Lib.hid lena3
      have HA5 := Lib.hid lena5
      clear lena3 lena5 hli
      have hrow8 := hS8.row i hi24
      have c8 := hS8.csn i hi24
      have f8f := hS8.fz (27 + i) (by omega)
      obtain ⟨a8, cap8, hsv8⟩ := (spRow_of hrow8).form
      have hlt8 := fun g hg => (hrow8.lt g hg).2
      have hins : ∀ W', Fr nob W8 W' → W'.heap[W8.heap.size]? = some (.cells #[.int .i64 X.1, .int .i64 X.2.1, .int .u32 (X.2.2 : Int)] 192 (0, 0)) → Calls Tryz.prog 150 #[.slice a8 (L5 i).length cap8, .int .i64 (k : Int), .slice (some ⟨W8.heap.size, 0, none⟩) 1 1] W' fun e w9 =>
          ∃ a9 n9 cap9, e = .returned (.slice a9 n9 cap9) ∧ w9.ownsRow 0 192 3 (.slice a9 n9 cap9) ((L5 i).take k ++ X :: (L5 i).drop k).length (((L5 i).take k ++ X :: (L5 i).drop k).flatMap spc) ∧ Fr (fun j => (sv5 i).ownBlock = some j) W8 w9 ∧
            (∀ g, (Value.slice a9 n9 cap9).ownBlock = some g → (sv5 i).ownBlock = some g ∨ W8.heap.size ≤ g) ∧ w9.cell? ⟨sb, 27 + i, none⟩ = some (.slice a8 (L5 i).length cap8) ∧ w9.frozen? ⟨sb, 27 + i, none⟩ = false ∧ Box3 w9 g9 (.int .i64 X.1) (.int .i64 X.2.1) (.int .u32 (X.2.2 : Int)) := fun W' h hc => by
        have hr := h.row hrow8 (fun _ _ h => h)
        rw [← hsv8]
        refine (ins_any (L5 i) k X (sv5 i) W' W8.heap.size 1 hr hk5 hl5 192 hc (fun e => by have := hlt8 _ e; omega)).mono ?_
        rintro e w9 ⟨v9, rfl, hr9, fr9, src9⟩
        obtain ⟨a9, cap9, e9⟩ := (spRow_of hr9).form
        have F : Fr (fun j => (sv5 i).ownBlock = some j) W8 w9 := h.trans' fr9 (fun _ _ h => h.elim) (fun _ _ h => h)
        have nsb : (sv5 i).ownBlock ≠ some sb := fun e => (hS8.apart i hi24 sb e).1 rfl
        have lsb : sb < W8.heap.size := lt_of_cell c8
        have ng9 : (sv5 i).ownBlock ≠ some g9 := fun e => ng (.inr (.inr ⟨i, hi24, e⟩))
        refine ⟨a9, _, cap9, by rw [e9], by rw [← e9]; exact hr9, F, fun g hg => (src9 g (by rw [e9]; exact hg)).imp id (fun h' => Nat.le_trans h.size h'), ?_, (F.frozen (p := ⟨sb, 27 + i, none⟩) lsb nsb).trans f8f, G8'.kept F ng9⟩
        exact F.cell c8 nsb
      rw [hsv8] at c8
      have c8a := cell_alloc_l c8 (.cells #[.int .i64 X.1, .int .i64 X.2.1, .int .u32 (X.2.2 : Int)] 192)
      have HX := Lib.hid hX
      have ⟨t0, t1, t2, _⟩ := G8'
      clear hX
      go_region_with
        (first
          | (go_at_call 150
             refine (hins _ ?_ ?_).mono ?_
             · exact ((Fr.refl _ _).alloc _).drew
             · exact heap_alloc_new _ _
             rintro e w9 ⟨a9, n9, cap9, rfl, hr9, fr9, src9, k9, kf9, B9⟩))
      all_goals
        have hn24 : n < 24 := by omega
        have ein : 23 - n = i := by omega
        have eB : costB cw lo hi (n + 1) s = mk i (costB cw lo hi n s) (costB cw lo hi n (s + c)) := by rw [costB_succ cw lo hi hn24, ein, hci]
        have hspan := span_node hn24 hp0.ok hp1.ok
        rw [ein, hci] at hspan
        have hXin : SpIn cw lo hi (n + 1) R3 X (mk i (costB cw lo hi n s) (costB cw lo hi n (s + c))) := by
          have b0l := hp0.bl
          have b0h := hp0.bh
          have b1l := hp1.bl
          have b1h := hp1.bh
          have en : ((n + 1 : Nat) : Int) * 2147483648 = (n : Int) * 2147483648 + 2147483648 := by omega
          rw [HX.out]
          refine ⟨hspan, ?_, HPL.out, ?_, ?_⟩
          · rw [HR3.out]; exact inn_vis _ _
          · rw [en]; simp only; omega
          · rw [en]; simp only; omega
        have hSf := hS8.inserted hi24 hr9 fr9 src9 (fun x hx => by
          rw [show 24 - i = n + 1 by omega]
          rcases List.mem_append.1 hx with h | h
          · have := hS8.oks i hi24 x (List.mem_of_mem_take h)
            rwa [show 24 - i = n + 1 by omega] at this
          · rcases List.mem_cons.1 h with rfl | h
            · exact ⟨_, hXin⟩
            · have := hS8.oks i hi24 x (List.mem_of_mem_drop h)
              rwa [show 24 - i = n + 1 by omega] at this)
        have fs := fr_store w9 sb (27 + i) (.slice a9 n9 cap9)
        have nz : ¬ (sv5 i).ownBlock = some w.heap.size := fun e => hnf5 (.inr (.inr ⟨i, hi24, e⟩))
        have lsb := hS.foot_lt sb (.inl rfl)
        have nzs : ¬ w.heap.size = sb := by omega
        have ngs : ¬ g9 = sb := by omega
        have Zf := (Z.kept fr9 nz).kept fs nzs
        have Bf := B9.kept fs ngs
        have f69 := (f68.trans' fr9 (T := footS sb wb mb v5 sv5) (fun _ _ h => .inr (.inl h)) (fun k _ h => .inr (.inr ⟨i, hi24, h⟩))).trans fs (fun k _ h => .inl h)
        have hlenN : ((L5 i).take k ++ X :: (L5 i).drop k).length = (L5 i).length + 1 := by simp only [List.length_append, List.length_take, List.length_cons, List.length_drop]; omega
        have HLN := Lib.hid hlenN
        have ⟨p0, p1, p2, pf⟩ := Zf
        have pf0 := pf 0
        have pf1 := pf 1
        have pf2 := pf 2
        have ⟨r0, r1, r2, _⟩ := Bf
        generalize w9.setCell ⟨sb, 27 + i, none⟩ (.slice a9 n9 cap9) = W10 at *
        clear pf hlenN hins c8 c8a hsv8 t0 t1 t2 k9 kf9 hlt8 hk5 hl5 fs
        go_wp2_with fail
        obtain ⟨Z', f11⟩ := Zf.set (.int .i64 X.1) (.int .i64 X.2.1) (.int .u32 (X.2.2 : Int))
        have ⟨q0, q1, q2, _⟩ := Z'
        unfold set3 at q0 q1 q2
        refine bodyPost_ret (v := spv X.1 X.2.1 X.2.2) (by simp [results, Tryz.results139, go_sem, q0, q1, q2]) rfl ?_
        change FromPost cw lo hi sb wb mb (n + 1) i s w v R sv L _ (set3 W10 w.heap.size (.int .i64 X.1) (.int .i64 X.2.1) (.int .u32 (X.2.2 : Int)))
        generalize set3 W10 w.heap.size (.int .i64 X.1) (.int .i64 X.2.1) (.int .u32 (X.2.2 : Int)) = W11 at *
        have hRR : vis (costB cw lo hi (n + 1) s) R = R3 := by rw [eB, HR3.out, vis_vis_mk hS.work.good]
        have hsz2 := frw.size
        have hsz3 := fr3.size
        have hsz3a := fra.size
        have hsz5 := fr5.size
        have hszb := frb.size
        have hsz8 := f68.size
        refine ⟨X, v7, upd sv5 i (.slice a9 n9 cap9), upd L5 i ((L5 i).take k ++ X :: (L5 i).drop k), rfl, ?_, ?_, by rw [hRR, eB]; exact hXin, ?_, ?_, ?_, ?_, ?_⟩
        · rw [HX.out]; simp only; omega
        · rw [HX.out]; simp only; omega
        · rw [hRR]
          exact hSf.kept f11 (fun k hk e => by
            have e' : k = w.heap.size := e
            subst e'
            rcases footS_inserted hi24 src9 _ hk with h | h
            · rcases src8 _ h with h | h
              · exact hnf5 h
              · omega
            · omega)
        · have A1 := frw.trans' fr3 (T := footS sb wb mb v sv) (fun _ _ h => h.elim) (fun _ _ h => h)
          have A2 := A1.trans fra (fun _ _ h => h.elim)
          have A3 := A2.trans fr5 (fun k hk h => (src3 k h).resolve_right (by omega))
          have A4 := A3.trans frb (fun _ _ h => h.elim)
          have A5 := A4.trans f69 (fun k hk h => by
            rcases src5 k h with h | h
            · exact (src3 k h).resolve_right (by omega)
            · omega)
          exact A5.trans f11 (fun k hk e => by have e' : k = w.heap.size := e; omega)
        · intro k hk
          rcases footS_inserted hi24 src9 _ hk with h | h
          · rcases src8 _ h with h | h
            · rcases src5 _ h with h | h
              · rcases src3 _ h with h | h
                · exact .inl h
                · exact .inr (by omega)
              · exact .inr (by omega)
            · exact .inr (by omega)
          · exact .inr (by omega)
        · intro j hj
          rw [upd_other _ _ (by omega), HA5.out j (by omega), HA3.out j (by omega)]
        · intro j h1 h2
          by_cases e : j = i
          · subst e
            rw [upd_same, HLN.out, HA5.out j (by omega), HA3.out j (by omega), Nat.sub_self]
            exact Nat.le_refl _
          · rw [upd_other _ _ e]
            have k5 := lenb5 j (by omega) h2
            have k3 := lenb3 j (by omega) h2
            have : 2 ^ (j - i) = 2 ^ (j - (i + 1)) + 2 ^ (j - (i + 1)) := by rw [show j - i = (j - (i + 1)) + 1 by omega, Nat.pow_succ]; omega
            omega
end
end Go.Proofs.YtalnhlebgofiiaaGreatDoor
namespace Go.Proofs.YtalnhlebgofiiaaGreatDoor
open Go.RowKit
open Bd

set_option maxRecDepth 100000 in
/-- THE SPAN OF A SUM. -/
theorem from_any {cw : Nat → Int} {lo hi : Int} {sb wb mb : Nat} (hcw : ∀ j, -2147483648 ≤ cw j ∧ cw j ≤ 2147483648) (hlo : -1099511627776 ≤ lo ∧ lo ≤ 1099511627776) (hhi : -1099511627776 ≤ hi ∧ hi ≤ 1099511627776) :
    ∀ (n i : Nat), i + n = 24 → ∀ (s : Int) (w : World) (v : Value) (R : List B) (sv : Nat → Value) (L : Nat → List Span), -((i : Int) * 2147483648) ≤ s ∧ s ≤ (i : Int) * 2147483648 → Sm cw lo hi sb wb mb w v R sv L → small (vis (costB cw lo hi n s) R) →
      (∀ j, i ≤ j → j < 24 → (L j).length + 2 ^ (j - i) ≤ 16777216) →
      Calls Tryz.prog 139 #[.pointer (some ⟨sb, 0, none⟩), .int .i64 (i : Int), .int .i64 s] w (FromPost cw lo hi sb wb mb n i s w v R sv L) := by
  intro n
  induction n with
  | zero =>
    intro i hin s w v R sv L hs hS _ _
    have e' : i = 24 := hin
    subst e'
    exact from_end hlo hhi s (by omega) w v R sv L hS
  | succ n ih =>
    intro i hin s w v R sv L hs hS hsm hlen
    refine from_step hin hcw s hs w v R sv L hS hsm hlen fun s w v R sv L hs hS hsm hlen => ?_
    have e : (i : Int) + 1 = ((i + 1 : Nat) : Int) := by omega
    rw [e] at hs ⊢
    exact ih (i + 1) (by omega) s w v R sv L hs hS hsm hlen
end Go.Proofs.YtalnhlebgofiiaaGreatDoor
