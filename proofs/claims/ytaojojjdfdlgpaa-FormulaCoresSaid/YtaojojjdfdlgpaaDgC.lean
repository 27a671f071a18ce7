import Derived.Test.YtaojojjdfdlgpaaDgB
import Derived.BigRegion
import Derived.Deep.DeepCutAuto
namespace Go.Proofs.Ytaojojjdfdlgpaa.Dg
open Go.RowKit
open Bd

/-- the choice of Ite -/
abbrev chv (pa pb pc : Nat) (sa sb sc : ByteArray) : Value := .agg #[.int .u32 (pa : Int), .string sa, .int .u32 (pb : Int), .string sb, .int .u32 (pc : Int), .string sc]

/-- how a key of three places is split, the rows at its places at hand -/
def splitN (k : Nat × Nat × Nat) (ra rb rc : Nat × Nat × Nat) : Nat × (Nat × Nat × Nat) × (Nat × Nat × Nat) :=
  if (decidedN k).2 then (24 + (decidedN k).1, k, k) else
    let f := min ra.1 (min rb.1 rc.1)
    (f, plainN (if ra.1 = f then ra.2.1 else k.1, if rb.1 = f then rb.2.1 else k.2.1, if rc.1 = f then rc.2.1 else k.2.2),
      plainN (if ra.1 = f then ra.2.2 else k.1, if rb.1 = f then rb.2.2 else k.2.1, if rc.1 = f then rc.2.2 else k.2.2))

section
variable (pa pb pc : Nat) (sa sb sc : ByteArray) (ka kb kc : Nat)

set_option maxRecDepth 100000 in
set_option maxHeartbeats 400000 in
theorem split_leaf (hd : (decidedN (ka, kb, kc)).2 = true) (hp : (decidedN (ka, kb, kc)).1 < 2) (w : World) :
    Calls Try.prog 100 #[chv pa pb pc sa sb sc, tk (ka, kb, kc)] w fun e w' => e = .returned (.tuple #[.int .i64 ((24 + (decidedN (ka, kb, kc)).1 : Nat) : Int), tk (ka, kb, kc), tk (ka, kb, kc)]) ∧ Below w.heap.size w w' := by
  generalize hx : decidedN (ka, kb, kc) = x at *
  obtain ⟨p, r⟩ := x
  simp only at hd hp
  subst hd
  have hdec := fun w => decided_any ka kb kc w
  rw [hx] at hdec
  clear hx
  have hp1 : (p : Int) < 2 := by omega
  go_enter Try.func100, Try.ntmps100
  go_wp2_with fail
  refine (hdec _).mono ?_
  rintro e w1 ⟨rfl, hb⟩
  have fr0 := (Fr.refl nob _).below hb
  have k0 : w1.cell? ⟨w.heap.size + 1, 0, none⟩ = some (.int .u32 (ka : Int)) := fr0.cell (cell_alloc_l (cell_alloc_l (World.cell?_alloc_at _ _ _ _ (by simp)) _) _) (fun h => h)
  have k1 : w1.cell? ⟨w.heap.size + 1, 1, none⟩ = some (.int .u32 (kb : Int)) := fr0.cell (cell_alloc_l (cell_alloc_l (World.cell?_alloc_at _ _ _ _ (by simp)) _) _) (fun h => h)
  have k2 : w1.cell? ⟨w.heap.size + 1, 2, none⟩ = some (.int .u32 (kc : Int)) := fr0.cell (cell_alloc_l (cell_alloc_l (World.cell?_alloc_at _ _ _ _ (by simp)) _) _) (fun h => h)
  have z5 : w1.cell? ⟨w.heap.size + 1 + 1, 0, none⟩ = some (.int .u32 0) := fr0.cell (cell_alloc_l (World.cell?_alloc_at _ _ _ _ (by simp)) _) (fun h => h)
  have z6 : w1.cell? ⟨w.heap.size + 1 + 1 + 1, 0, none⟩ = some (.int .u32 0) := fr0.cell (World.cell?_alloc_at _ _ _ _ (by simp)) (fun h => h)
  have z51 : w1.cell? ⟨w.heap.size + 1 + 1, 1, none⟩ = some (.int .u32 0) := fr0.cell (cell_alloc_l (World.cell?_alloc_at _ _ _ _ (by simp)) _) (fun h => h)
  have z61 : w1.cell? ⟨w.heap.size + 1 + 1 + 1, 1, none⟩ = some (.int .u32 0) := fr0.cell (World.cell?_alloc_at _ _ _ _ (by simp)) (fun h => h)
  have z52 : w1.cell? ⟨w.heap.size + 1 + 1, 2, none⟩ = some (.int .u32 0) := fr0.cell (cell_alloc_l (World.cell?_alloc_at _ _ _ _ (by simp)) _) (fun h => h)
  have z62 : w1.cell? ⟨w.heap.size + 1 + 1 + 1, 2, none⟩ = some (.int .u32 0) := fr0.cell (World.cell?_alloc_at _ _ _ _ (by simp)) (fun h => h)
  have f5 : ∀ o, w1.frozen? ⟨w.heap.size + 1 + 1, o, none⟩ = false := fun o => (fr0.frozen (p := ⟨w.heap.size + 1 + 1, o, none⟩) (by simp) (fun h => h)).trans ((World.frozen?_of_block (Below.heap_alloc _ _ _ (by simp))).trans (World.frozen?_alloc_at _ _ _ _ (by simp)))
  have f6 : ∀ o, w1.frozen? ⟨w.heap.size + 1 + 1 + 1, o, none⟩ = false := fun o => (fr0.frozen (p := ⟨w.heap.size + 1 + 1 + 1, o, none⟩) (by simp) (fun h => h)).trans (World.frozen?_alloc_at _ _ _ _ (by simp))
  have frw : Fr nob w w1 := ((((Fr.refl nob w).alloc _).alloc _).alloc _).alloc _ |>.trans fr0 (fun _ _ h => h)
  clear hb hdec
  go_wp2_with fail
  go_region
  go_wp2
  refine bodyPost_ret (v := .tuple #[.int .i64 (24 + (p : Int)), tk (ka, kb, kc), tk (ka, kb, kc)]) (by simp [results, Try.results100, go_sem, z5, z51, z52, z6, z61, z62]) rfl ⟨rfl, ?_⟩
  exact ((((((frw.set1 (by omega) _).set1 (by omega) _).set1 (by omega) _).set1 (by omega) _).set1 (by omega) _).set1 (by omega) _).drew.to_below (Nat.le_refl _) (fun _ h => h.elim)

/-- the variables of the results -/
structure ResBoxes (w0 w : World) : Prop where
  p0 : w.cell? ⟨w0.heap.size + 1 + 1, 0, none⟩ = some (.int .u32 0)
  p1 : w.cell? ⟨w0.heap.size + 1 + 1, 1, none⟩ = some (.int .u32 0)
  p2 : w.cell? ⟨w0.heap.size + 1 + 1, 2, none⟩ = some (.int .u32 0)
  q0 : w.cell? ⟨w0.heap.size + 1 + 1 + 1, 0, none⟩ = some (.int .u32 0)
  q1 : w.cell? ⟨w0.heap.size + 1 + 1 + 1, 1, none⟩ = some (.int .u32 0)
  q2 : w.cell? ⟨w0.heap.size + 1 + 1 + 1, 2, none⟩ = some (.int .u32 0)
  fp : ∀ o, w.frozen? ⟨w0.heap.size + 1 + 1, o, none⟩ = false
  fq : ∀ o, w.frozen? ⟨w0.heap.size + 1 + 1 + 1, o, none⟩ = false

theorem ResBoxes.kept {S : Nat → Prop} {w0 w w' : World} (h : ResBoxes w0 w) (fr : Fr S w w') (h1 : ¬ S (w0.heap.size + 1 + 1)) (h2 : ¬ S (w0.heap.size + 1 + 1 + 1)) : ResBoxes w0 w' := by
  have l1 : w0.heap.size + 1 + 1 < w.heap.size := lt_of_cell h.p0
  have l2 : w0.heap.size + 1 + 1 + 1 < w.heap.size := lt_of_cell h.q0
  exact ⟨fr.cell h.p0 h1, fr.cell h.p1 h1, fr.cell h.p2 h1, fr.cell h.q0 h2, fr.cell h.q1 h2, fr.cell h.q2 h2, fun o => (fr.frozen (p := ⟨w0.heap.size + 1 + 1, o, none⟩) l1 h1).trans (h.fp o), fun o => (fr.frozen (p := ⟨w0.heap.size + 1 + 1 + 1, o, none⟩) l2 h2).trans (h.fq o)⟩

/-- the state of 'split' behind its rows and its two keys -/
structure SplitSt (w0 w : World) (g9 g10 g11 g13 g14 : Nat) (ra rb rc lo hi : Nat × Nat × Nat) : Prop where
  fr : Fr nob w0 w
  a0 : w.cell? ⟨g9, 0, none⟩ = some (.int .u8 (ra.1 : Int))
  a1 : w.cell? ⟨g9, 1, none⟩ = some (.int .u32 (ra.2.1 : Int))
  a2 : w.cell? ⟨g9, 2, none⟩ = some (.int .u32 (ra.2.2 : Int))
  b0 : w.cell? ⟨g10, 0, none⟩ = some (.int .u8 (rb.1 : Int))
  b1 : w.cell? ⟨g10, 1, none⟩ = some (.int .u32 (rb.2.1 : Int))
  b2 : w.cell? ⟨g10, 2, none⟩ = some (.int .u32 (rb.2.2 : Int))
  c0 : w.cell? ⟨g11, 0, none⟩ = some (.int .u8 (rc.1 : Int))
  c1 : w.cell? ⟨g11, 1, none⟩ = some (.int .u32 (rc.2.1 : Int))
  c2 : w.cell? ⟨g11, 2, none⟩ = some (.int .u32 (rc.2.2 : Int))
  l0 : w.cell? ⟨g13, 0, none⟩ = some (.int .u32 (lo.1 : Int))
  l1 : w.cell? ⟨g13, 1, none⟩ = some (.int .u32 (lo.2.1 : Int))
  l2 : w.cell? ⟨g13, 2, none⟩ = some (.int .u32 (lo.2.2 : Int))
  h0 : w.cell? ⟨g14, 0, none⟩ = some (.int .u32 (hi.1 : Int))
  h1 : w.cell? ⟨g14, 1, none⟩ = some (.int .u32 (hi.2.1 : Int))
  h2 : w.cell? ⟨g14, 2, none⟩ = some (.int .u32 (hi.2.2 : Int))
  f13 : ∀ o, w.frozen? ⟨g13, o, none⟩ = false
  f14 : ∀ o, w.frozen? ⟨g14, o, none⟩ = false
  n1 : g9 ≠ g13 ∧ g9 ≠ g14 ∧ g10 ≠ g13 ∧ g10 ≠ g14 ∧ g11 ≠ g13 ∧ g11 ≠ g14 ∧ g13 ≠ g14
  n2 : w0.heap.size + 4 ≤ g13 ∧ w0.heap.size + 4 ≤ g14
  r : ResBoxes w0 w

/-- two stores into the keys -/
theorem splitSt_frame {w0 w : World} {g9 g10 g11 g13 g14 o : Nat} {ra rb rc lo hi : Nat × Nat × Nat} (_h : SplitSt w0 w g9 g10 g11 g13 g14 ra rb rc lo hi) (x y : Value) :
    Fr (fun k => k = g13 ∨ k = g14) w ((w.setCell ⟨g13, o, none⟩ x).setCell ⟨g14, o, none⟩ y).drew :=
  (((fr_store w g13 o x).mono (fun _ _ h => .inl h)).trans (fr_store _ g14 o y) (fun _ _ h => .inr h)).drew

theorem splitSt_set0 {w0 w : World} {g9 g10 g11 g13 g14 : Nat} {ra rb rc lo hi : Nat × Nat × Nat} (h : SplitSt w0 w g9 g10 g11 g13 g14 ra rb rc lo hi) (x y : Nat) :
    SplitSt w0 ((w.setCell ⟨g13, 0, none⟩ (.int .u32 (x : Int))).setCell ⟨g14, 0, none⟩ (.int .u32 (y : Int))).drew g9 g10 g11 g13 g14 ra rb rc (x, lo.2.1, lo.2.2) (y, hi.2.1, hi.2.2) := by
  have F := splitSt_frame (o := 0) h (.int .u32 (x : Int)) (.int .u32 (y : Int))
  obtain ⟨n1, n2, n3, n4, n5, n6, n7⟩ := h.n1
  obtain ⟨m1, m2⟩ := h.n2
  have c : ∀ {p : Addr} {v : Value}, w.cell? p = some v → ¬ (p.block = g13 ∨ p.block = g14) → _ := fun h n => F.cell h n
  have e1 : ∀ {b o' : Nat} {v : Value}, w.cell? ⟨b, o', none⟩ = some v → (b = g13 → o' ≠ 0) → (b = g14 → o' ≠ 0) → ((w.setCell ⟨g13, 0, none⟩ (.int .u32 (x : Int))).setCell ⟨g14, 0, none⟩ (.int .u32 (y : Int))).drew.cell? ⟨b, o', none⟩ = some v := by
    intro b o' v hc h1 h2
    have q1 : (⟨g13, 0, none⟩ : Addr) ≠ ⟨b, o', none⟩ := by intro e; cases e; exact h1 rfl rfl
    have q2 : (⟨g14, 0, none⟩ : Addr) ≠ ⟨b, o', none⟩ := by intro e; cases e; exact h2 rfl rfl
    show ((w.setCell ⟨g13, 0, none⟩ (.int .u32 (x : Int))).setCell ⟨g14, 0, none⟩ (.int .u32 (y : Int))).cell? ⟨b, o', none⟩ = some v
    rw [World.cell?_setCell_other _ _ _ _ q2, World.cell?_setCell_other _ _ _ _ q1]
    exact hc
  have l0' : ((w.setCell ⟨g13, 0, none⟩ (.int .u32 (x : Int))).setCell ⟨g14, 0, none⟩ (.int .u32 (y : Int))).drew.cell? ⟨g13, 0, none⟩ = some (.int .u32 (x : Int)) := by
    show ((w.setCell ⟨g13, 0, none⟩ (.int .u32 (x : Int))).setCell ⟨g14, 0, none⟩ (.int .u32 (y : Int))).cell? ⟨g13, 0, none⟩ = _
    rw [World.cell?_setCell_other _ _ _ _ (by intro e; cases e; exact n7 rfl)]
    exact World.cell?_setCell_same' _ _ _ (by rw [h.l0]; rfl)
  have h0' : ((w.setCell ⟨g13, 0, none⟩ (.int .u32 (x : Int))).setCell ⟨g14, 0, none⟩ (.int .u32 (y : Int))).drew.cell? ⟨g14, 0, none⟩ = some (.int .u32 (y : Int)) := by
    show ((w.setCell ⟨g13, 0, none⟩ (.int .u32 (x : Int))).setCell ⟨g14, 0, none⟩ (.int .u32 (y : Int))).cell? ⟨g14, 0, none⟩ = _
    exact World.cell?_setCell_same' _ _ _ (by rw [World.cell?_setCell_other _ _ _ _ (by intro e; cases e; exact n7 rfl), h.h0]; rfl)
  have z : ∀ p, ((w.setCell ⟨g13, 0, none⟩ (.int .u32 (x : Int))).setCell ⟨g14, 0, none⟩ (.int .u32 (y : Int))).drew.frozen? p = w.frozen? p := fun p => by
    show ((w.setCell ⟨g13, 0, none⟩ (.int .u32 (x : Int))).setCell ⟨g14, 0, none⟩ (.int .u32 (y : Int))).frozen? p = _
    rw [World.frozen?_setCell, World.frozen?_setCell]
  exact ⟨(h.fr.trans F (fun k hk h => by have h' : k = g13 ∨ k = g14 := h; omega)), c h.a0 (by simp only; omega), c h.a1 (by simp only; omega), c h.a2 (by simp only; omega), c h.b0 (by simp only; omega), c h.b1 (by simp only; omega), c h.b2 (by simp only; omega), c h.c0 (by simp only; omega), c h.c1 (by simp only; omega), c h.c2 (by simp only; omega),
    l0', e1 h.l1 (by omega) (by omega), e1 h.l2 (by omega) (by omega), h0', e1 h.h1 (by omega) (by omega), e1 h.h2 (by omega) (by omega),
    fun o => (z _).trans (h.f13 o), fun o => (z _).trans (h.f14 o), h.n1, h.n2, h.r.kept F (by omega) (by omega)⟩

theorem splitSt_set1 {w0 w : World} {g9 g10 g11 g13 g14 : Nat} {ra rb rc lo hi : Nat × Nat × Nat} (h : SplitSt w0 w g9 g10 g11 g13 g14 ra rb rc lo hi) (x y : Nat) :
    SplitSt w0 ((w.setCell ⟨g13, 1, none⟩ (.int .u32 (x : Int))).setCell ⟨g14, 1, none⟩ (.int .u32 (y : Int))).drew g9 g10 g11 g13 g14 ra rb rc (lo.1, x, lo.2.2) (hi.1, y, hi.2.2) := by
  have F := splitSt_frame (o := 1) h (.int .u32 (x : Int)) (.int .u32 (y : Int))
  obtain ⟨n1, n2, n3, n4, n5, n6, n7⟩ := h.n1
  obtain ⟨m1, m2⟩ := h.n2
  have c : ∀ {p : Addr} {v : Value}, w.cell? p = some v → ¬ (p.block = g13 ∨ p.block = g14) → _ := fun h n => F.cell h n
  have e1 : ∀ {b o' : Nat} {v : Value}, w.cell? ⟨b, o', none⟩ = some v → (b = g13 → o' ≠ 1) → (b = g14 → o' ≠ 1) → ((w.setCell ⟨g13, 1, none⟩ (.int .u32 (x : Int))).setCell ⟨g14, 1, none⟩ (.int .u32 (y : Int))).drew.cell? ⟨b, o', none⟩ = some v := by
    intro b o' v hc h1 h2
    have q1 : (⟨g13, 1, none⟩ : Addr) ≠ ⟨b, o', none⟩ := by intro e; cases e; exact h1 rfl rfl
    have q2 : (⟨g14, 1, none⟩ : Addr) ≠ ⟨b, o', none⟩ := by intro e; cases e; exact h2 rfl rfl
    show ((w.setCell ⟨g13, 1, none⟩ (.int .u32 (x : Int))).setCell ⟨g14, 1, none⟩ (.int .u32 (y : Int))).cell? ⟨b, o', none⟩ = some v
    rw [World.cell?_setCell_other _ _ _ _ q2, World.cell?_setCell_other _ _ _ _ q1]
    exact hc
  have l1' : ((w.setCell ⟨g13, 1, none⟩ (.int .u32 (x : Int))).setCell ⟨g14, 1, none⟩ (.int .u32 (y : Int))).drew.cell? ⟨g13, 1, none⟩ = some (.int .u32 (x : Int)) := by
    show ((w.setCell ⟨g13, 1, none⟩ (.int .u32 (x : Int))).setCell ⟨g14, 1, none⟩ (.int .u32 (y : Int))).cell? ⟨g13, 1, none⟩ = _
    rw [World.cell?_setCell_other _ _ _ _ (by intro e; cases e; exact n7 rfl)]
    exact World.cell?_setCell_same' _ _ _ (by rw [h.l1]; rfl)
  have h1' : ((w.setCell ⟨g13, 1, none⟩ (.int .u32 (x : Int))).setCell ⟨g14, 1, none⟩ (.int .u32 (y : Int))).drew.cell? ⟨g14, 1, none⟩ = some (.int .u32 (y : Int)) := by
    show ((w.setCell ⟨g13, 1, none⟩ (.int .u32 (x : Int))).setCell ⟨g14, 1, none⟩ (.int .u32 (y : Int))).cell? ⟨g14, 1, none⟩ = _
    exact World.cell?_setCell_same' _ _ _ (by rw [World.cell?_setCell_other _ _ _ _ (by intro e; cases e; exact n7 rfl), h.h1]; rfl)
  have z : ∀ p, ((w.setCell ⟨g13, 1, none⟩ (.int .u32 (x : Int))).setCell ⟨g14, 1, none⟩ (.int .u32 (y : Int))).drew.frozen? p = w.frozen? p := fun p => by
    show ((w.setCell ⟨g13, 1, none⟩ (.int .u32 (x : Int))).setCell ⟨g14, 1, none⟩ (.int .u32 (y : Int))).frozen? p = _
    rw [World.frozen?_setCell, World.frozen?_setCell]
  exact ⟨(h.fr.trans F (fun k hk h => by have h' : k = g13 ∨ k = g14 := h; omega)), c h.a0 (by simp only; omega), c h.a1 (by simp only; omega), c h.a2 (by simp only; omega), c h.b0 (by simp only; omega), c h.b1 (by simp only; omega), c h.b2 (by simp only; omega), c h.c0 (by simp only; omega), c h.c1 (by simp only; omega), c h.c2 (by simp only; omega),
    e1 h.l0 (by omega) (by omega), l1', e1 h.l2 (by omega) (by omega), e1 h.h0 (by omega) (by omega), h1', e1 h.h2 (by omega) (by omega),
    fun o => (z _).trans (h.f13 o), fun o => (z _).trans (h.f14 o), h.n1, h.n2, h.r.kept F (by omega) (by omega)⟩

theorem splitSt_set2 {w0 w : World} {g9 g10 g11 g13 g14 : Nat} {ra rb rc lo hi : Nat × Nat × Nat} (h : SplitSt w0 w g9 g10 g11 g13 g14 ra rb rc lo hi) (x y : Nat) :
    SplitSt w0 ((w.setCell ⟨g13, 2, none⟩ (.int .u32 (x : Int))).setCell ⟨g14, 2, none⟩ (.int .u32 (y : Int))).drew g9 g10 g11 g13 g14 ra rb rc (lo.1, lo.2.1, x) (hi.1, hi.2.1, y) := by
  have F := splitSt_frame (o := 2) h (.int .u32 (x : Int)) (.int .u32 (y : Int))
  obtain ⟨n1, n2, n3, n4, n5, n6, n7⟩ := h.n1
  obtain ⟨m1, m2⟩ := h.n2
  have c : ∀ {p : Addr} {v : Value}, w.cell? p = some v → ¬ (p.block = g13 ∨ p.block = g14) → _ := fun h n => F.cell h n
  have e1 : ∀ {b o' : Nat} {v : Value}, w.cell? ⟨b, o', none⟩ = some v → (b = g13 → o' ≠ 2) → (b = g14 → o' ≠ 2) → ((w.setCell ⟨g13, 2, none⟩ (.int .u32 (x : Int))).setCell ⟨g14, 2, none⟩ (.int .u32 (y : Int))).drew.cell? ⟨b, o', none⟩ = some v := by
    intro b o' v hc h1 h2
    have q1 : (⟨g13, 2, none⟩ : Addr) ≠ ⟨b, o', none⟩ := by intro e; cases e; exact h1 rfl rfl
    have q2 : (⟨g14, 2, none⟩ : Addr) ≠ ⟨b, o', none⟩ := by intro e; cases e; exact h2 rfl rfl
    show ((w.setCell ⟨g13, 2, none⟩ (.int .u32 (x : Int))).setCell ⟨g14, 2, none⟩ (.int .u32 (y : Int))).cell? ⟨b, o', none⟩ = some v
    rw [World.cell?_setCell_other _ _ _ _ q2, World.cell?_setCell_other _ _ _ _ q1]
    exact hc
  have l2' : ((w.setCell ⟨g13, 2, none⟩ (.int .u32 (x : Int))).setCell ⟨g14, 2, none⟩ (.int .u32 (y : Int))).drew.cell? ⟨g13, 2, none⟩ = some (.int .u32 (x : Int)) := by
    show ((w.setCell ⟨g13, 2, none⟩ (.int .u32 (x : Int))).setCell ⟨g14, 2, none⟩ (.int .u32 (y : Int))).cell? ⟨g13, 2, none⟩ = _
    rw [World.cell?_setCell_other _ _ _ _ (by intro e; cases e; exact n7 rfl)]
    exact World.cell?_setCell_same' _ _ _ (by rw [h.l2]; rfl)
  have h2' : ((w.setCell ⟨g13, 2, none⟩ (.int .u32 (x : Int))).setCell ⟨g14, 2, none⟩ (.int .u32 (y : Int))).drew.cell? ⟨g14, 2, none⟩ = some (.int .u32 (y : Int)) := by
    show ((w.setCell ⟨g13, 2, none⟩ (.int .u32 (x : Int))).setCell ⟨g14, 2, none⟩ (.int .u32 (y : Int))).cell? ⟨g14, 2, none⟩ = _
    exact World.cell?_setCell_same' _ _ _ (by rw [World.cell?_setCell_other _ _ _ _ (by intro e; cases e; exact n7 rfl), h.h2]; rfl)
  have z : ∀ p, ((w.setCell ⟨g13, 2, none⟩ (.int .u32 (x : Int))).setCell ⟨g14, 2, none⟩ (.int .u32 (y : Int))).drew.frozen? p = w.frozen? p := fun p => by
    show ((w.setCell ⟨g13, 2, none⟩ (.int .u32 (x : Int))).setCell ⟨g14, 2, none⟩ (.int .u32 (y : Int))).frozen? p = _
    rw [World.frozen?_setCell, World.frozen?_setCell]
  exact ⟨(h.fr.trans F (fun k hk h => by have h' : k = g13 ∨ k = g14 := h; omega)), c h.a0 (by simp only; omega), c h.a1 (by simp only; omega), c h.a2 (by simp only; omega), c h.b0 (by simp only; omega), c h.b1 (by simp only; omega), c h.b2 (by simp only; omega), c h.c0 (by simp only; omega), c h.c1 (by simp only; omega), c h.c2 (by simp only; omega),
    e1 h.l0 (by omega) (by omega), e1 h.l1 (by omega) (by omega), l2', e1 h.h0 (by omega) (by omega), e1 h.h1 (by omega) (by omega), h2',
    fun o => (z _).trans (h.f13 o), fun o => (z _).trans (h.f14 o), h.n1, h.n2, h.r.kept F (by omega) (by omega)⟩

theorem splitSt_init {w0 W : World} {g9 g10 g11 : Nat} {ra rb rc k : Nat × Nat × Nat} (fr : Fr nob w0 W) (R : ResBoxes w0 W) (lk : w0.heap.size + 4 ≤ W.heap.size)
    (a0 : W.cell? ⟨g9, 0, none⟩ = some (.int .u8 (ra.1 : Int))) (a1 : W.cell? ⟨g9, 1, none⟩ = some (.int .u32 (ra.2.1 : Int))) (a2 : W.cell? ⟨g9, 2, none⟩ = some (.int .u32 (ra.2.2 : Int)))
    (b0 : W.cell? ⟨g10, 0, none⟩ = some (.int .u8 (rb.1 : Int))) (b1 : W.cell? ⟨g10, 1, none⟩ = some (.int .u32 (rb.2.1 : Int))) (b2 : W.cell? ⟨g10, 2, none⟩ = some (.int .u32 (rb.2.2 : Int)))
    (c0 : W.cell? ⟨g11, 0, none⟩ = some (.int .u8 (rc.1 : Int))) (c1 : W.cell? ⟨g11, 1, none⟩ = some (.int .u32 (rc.2.1 : Int))) (c2 : W.cell? ⟨g11, 2, none⟩ = some (.int .u32 (rc.2.2 : Int))) :
    SplitSt w0 ((W.alloc (.cells #[.int .u32 (k.1 : Int), .int .u32 (k.2.1 : Int), .int .u32 (k.2.2 : Int)] 159)).alloc (.cells #[.int .u32 (k.1 : Int), .int .u32 (k.2.1 : Int), .int .u32 (k.2.2 : Int)] 159)).drew g9 g10 g11 W.heap.size (W.heap.size + 1) ra rb rc k k ∧
    SplitSt w0 ((W.alloc (.cells #[.int .u32 (k.1 : Int), .int .u32 (k.2.1 : Int), .int .u32 (k.2.2 : Int)] 159)).alloc (.cells #[.int .u32 (k.1 : Int), .int .u32 (k.2.1 : Int), .int .u32 (k.2.2 : Int)] 159)).drew g9 g10 g11 (W.heap.size + 1) W.heap.size ra rb rc k k := by
  have f2 : Fr nob W ((W.alloc (.cells #[.int .u32 (k.1 : Int), .int .u32 (k.2.1 : Int), .int .u32 (k.2.2 : Int)] 159)).alloc (.cells #[.int .u32 (k.1 : Int), .int .u32 (k.2.1 : Int), .int .u32 (k.2.2 : Int)] 159)).drew := (((Fr.refl nob W).alloc _).alloc _).drew
  have h9 := lt_of_cell a0
  have h10 := lt_of_cell b0
  have h11 := lt_of_cell c0
  simp only at h9 h10 h11
  have e1 : ((W.alloc (.cells #[.int .u32 (k.1 : Int), .int .u32 (k.2.1 : Int), .int .u32 (k.2.2 : Int)] 159)).alloc (.cells #[.int .u32 (k.1 : Int), .int .u32 (k.2.1 : Int), .int .u32 (k.2.2 : Int)] 159)).drew.heap[W.heap.size]? = some (.cells #[.int .u32 (k.1 : Int), .int .u32 (k.2.1 : Int), .int .u32 (k.2.2 : Int)] 159) :=
    (Below.heap_alloc _ _ _ (by simp)).trans (heap_alloc_new W _)
  have e2 : ((W.alloc (.cells #[.int .u32 (k.1 : Int), .int .u32 (k.2.1 : Int), .int .u32 (k.2.2 : Int)] 159)).alloc (.cells #[.int .u32 (k.1 : Int), .int .u32 (k.2.1 : Int), .int .u32 (k.2.2 : Int)] 159)).drew.heap[W.heap.size + 1]? = some (.cells #[.int .u32 (k.1 : Int), .int .u32 (k.2.1 : Int), .int .u32 (k.2.2 : Int)] 159) := by
    have := heap_alloc_new (W.alloc (.cells #[.int .u32 (k.1 : Int), .int .u32 (k.2.1 : Int), .int .u32 (k.2.2 : Int)] 159)) (.cells #[.int .u32 (k.1 : Int), .int .u32 (k.2.1 : Int), .int .u32 (k.2.2 : Int)] 159)
    rw [World.size_alloc] at this
    exact this
  obtain ⟨x0, x1, x2, xf⟩ := block3 e1
  obtain ⟨y0, y1, y2, yf⟩ := block3 e2
  have F := fr.trans f2 (fun _ _ h => h)
  have R' := R.kept f2 (fun h => h) (fun h => h)
  have c : ∀ {p : Addr} {v : Value}, W.cell? p = some v → _ := fun h => f2.cell h (fun h => h)
  exact ⟨⟨F, c a0, c a1, c a2, c b0, c b1, c b2, c c0, c c1, c c2, x0, x1, x2, y0, y1, y2, xf, yf, ⟨by omega, by omega, by omega, by omega, by omega, by omega, by omega⟩, ⟨by omega, by omega⟩, R'⟩,
    ⟨F, c a0, c a1, c a2, c b0, c b1, c b2, c c0, c c1, c c2, y0, y1, y2, x0, x1, x2, yf, xf, ⟨by omega, by omega, by omega, by omega, by omega, by omega, by omega⟩, ⟨by omega, by omega⟩, R'⟩⟩

set_option maxRecDepth 100000 in
set_option maxHeartbeats 1000000 in
theorem split_step (ra rb rc : Nat × Nat × Nat) (hd : (decidedN (ka, kb, kc)).2 = false) (w : World) (hra : ra.1 < 25) (_hrb : rb.1 < 25) (_hrc : rc.1 < 25)
    (hat_a : ∀ w, Calls Try.prog 75 #[.agg #[.int .u32 (pa : Int), .string sa], .int .u32 (ka : Int)] w fun e w' => e = .returned (nk ra) ∧ Below w.heap.size w w')
    (hat_b : ∀ w, Calls Try.prog 75 #[.agg #[.int .u32 (pb : Int), .string sb], .int .u32 (kb : Int)] w fun e w' => e = .returned (nk rb) ∧ Below w.heap.size w w')
    (hat_c : ∀ w, Calls Try.prog 75 #[.agg #[.int .u32 (pc : Int), .string sc], .int .u32 (kc : Int)] w fun e w' => e = .returned (nk rc) ∧ Below w.heap.size w w') :
    Calls Try.prog 100 #[chv pa pb pc sa sb sc, tk (ka, kb, kc)] w fun e w' => e = .returned (.tuple #[.int .i64 ((splitN (ka, kb, kc) ra rb rc).1 : Int), tk (splitN (ka, kb, kc) ra rb rc).2.1, tk (splitN (ka, kb, kc) ra rb rc).2.2]) ∧ Below w.heap.size w w' := by
  have hdec := fun w => decided_any ka kb kc w
  rw [hd] at hdec
  obtain ⟨f, hf⟩ : ∃ f, f = min ra.1 (min rb.1 rc.1) := ⟨_, rfl⟩
  have hmin : (if (rc.1 : Int) < (if (rb.1 : Int) < (ra.1 : Int) then (rb.1 : Int) else (ra.1 : Int)) then (rc.1 : Int) else (if (rb.1 : Int) < (ra.1 : Int) then (rb.1 : Int) else (ra.1 : Int))) = (f : Int) := by
    rw [hf]; split <;> split at * <;> omega
  have Hf := Lib.hid hf
  have Hmin := Lib.hid hmin
  clear hf hmin
  go_enter Try.func100, Try.ntmps100
  go_wp2_with fail
  refine (hdec _).mono ?_
  rintro e w1 ⟨rfl, hb⟩
  have fr0 := (Fr.refl nob _).below hb
  have k0 : w1.cell? ⟨w.heap.size + 1, 0, none⟩ = some (.int .u32 (ka : Int)) := fr0.cell (cell_alloc_l (cell_alloc_l (World.cell?_alloc_at _ _ _ _ (by simp)) _) _) (fun h => h)
  have k1 : w1.cell? ⟨w.heap.size + 1, 1, none⟩ = some (.int .u32 (kb : Int)) := fr0.cell (cell_alloc_l (cell_alloc_l (World.cell?_alloc_at _ _ _ _ (by simp)) _) _) (fun h => h)
  have k2 : w1.cell? ⟨w.heap.size + 1, 2, none⟩ = some (.int .u32 (kc : Int)) := fr0.cell (cell_alloc_l (cell_alloc_l (World.cell?_alloc_at _ _ _ _ (by simp)) _) _) (fun h => h)
  have q0 : w1.cell? ⟨w.heap.size, 0, none⟩ = some (.int .u32 (pa : Int)) := fr0.cell (cell_alloc_l (cell_alloc_l (cell_alloc_l (World.cell?_alloc_at _ _ _ _ (by simp)) _) _) _) (fun h => h)
  have q1 : w1.cell? ⟨w.heap.size, 1, none⟩ = some (.string sa) := fr0.cell (cell_alloc_l (cell_alloc_l (cell_alloc_l (World.cell?_alloc_at _ _ _ _ (by simp)) _) _) _) (fun h => h)
  have q2 : w1.cell? ⟨w.heap.size, 2, none⟩ = some (.int .u32 (pb : Int)) := fr0.cell (cell_alloc_l (cell_alloc_l (cell_alloc_l (World.cell?_alloc_at _ _ _ _ (by simp)) _) _) _) (fun h => h)
  have q3 : w1.cell? ⟨w.heap.size, 3, none⟩ = some (.string sb) := fr0.cell (cell_alloc_l (cell_alloc_l (cell_alloc_l (World.cell?_alloc_at _ _ _ _ (by simp)) _) _) _) (fun h => h)
  have q4 : w1.cell? ⟨w.heap.size, 4, none⟩ = some (.int .u32 (pc : Int)) := fr0.cell (cell_alloc_l (cell_alloc_l (cell_alloc_l (World.cell?_alloc_at _ _ _ _ (by simp)) _) _) _) (fun h => h)
  have q5 : w1.cell? ⟨w.heap.size, 5, none⟩ = some (.string sc) := fr0.cell (cell_alloc_l (cell_alloc_l (cell_alloc_l (World.cell?_alloc_at _ _ _ _ (by simp)) _) _) _) (fun h => h)
  have frw : Fr nob w w1 := ((((Fr.refl nob w).alloc _).alloc _).alloc _).alloc _ |>.trans fr0 (fun _ _ h => h)
  have z5 : w1.cell? ⟨w.heap.size + 1 + 1, 0, none⟩ = some (.int .u32 0) := fr0.cell (cell_alloc_l (World.cell?_alloc_at _ _ _ _ (by simp)) _) (fun h => h)
  have z6 : w1.cell? ⟨w.heap.size + 1 + 1 + 1, 0, none⟩ = some (.int .u32 0) := fr0.cell (World.cell?_alloc_at _ _ _ _ (by simp)) (fun h => h)
  have z51 : w1.cell? ⟨w.heap.size + 1 + 1, 1, none⟩ = some (.int .u32 0) := fr0.cell (cell_alloc_l (World.cell?_alloc_at _ _ _ _ (by simp)) _) (fun h => h)
  have z61 : w1.cell? ⟨w.heap.size + 1 + 1 + 1, 1, none⟩ = some (.int .u32 0) := fr0.cell (World.cell?_alloc_at _ _ _ _ (by simp)) (fun h => h)
  have z52 : w1.cell? ⟨w.heap.size + 1 + 1, 2, none⟩ = some (.int .u32 0) := fr0.cell (cell_alloc_l (World.cell?_alloc_at _ _ _ _ (by simp)) _) (fun h => h)
  have z62 : w1.cell? ⟨w.heap.size + 1 + 1 + 1, 2, none⟩ = some (.int .u32 0) := fr0.cell (World.cell?_alloc_at _ _ _ _ (by simp)) (fun h => h)
  have f5 : ∀ o, w1.frozen? ⟨w.heap.size + 1 + 1, o, none⟩ = false := fun o => (fr0.frozen (p := ⟨w.heap.size + 1 + 1, o, none⟩) (by simp) (fun h => h)).trans ((World.frozen?_of_block (Below.heap_alloc _ _ _ (by simp))).trans (World.frozen?_alloc_at _ _ _ _ (by simp)))
  have f6 : ∀ o, w1.frozen? ⟨w.heap.size + 1 + 1 + 1, o, none⟩ = false := fun o => (fr0.frozen (p := ⟨w.heap.size + 1 + 1 + 1, o, none⟩) (by simp) (fun h => h)).trans (World.frozen?_alloc_at _ _ _ _ (by simp))
  have RB : ResBoxes w w1 := ⟨z5, z51, z52, z6, z61, z62, f5, f6⟩
  clear z5 z51 z52 z6 z61 z62 f5 f6
  clear hb hdec
  go_wp2_with fail
  refine wp_region_grow' 18 86 (fun _ => #[.int .u8 0, .int .u32 0, .int .u32 0]) [124, 124, 124] (by kernel_rfl) (by kernel_rfl) rfl rfl (by intro T h w; simp at h; subst h; rfl) ?_
  simp only [List.take_succ_cons, List.take_zero]
  refine grow_step (v := ?v0) rfl rfl ?a0 ?b0
  case a0 =>
    intro w' hw'
    clear hw'
    refine growAt_value ?_
    go_simp
    rfl
  simp only [Act.put, List.setIfInBounds_toArray, List.set_cons_zero, List.set_cons_succ]
  refine grow_step (v := ?v1) rfl rfl ?a1 ?b1
  case a1 =>
    intro w' hw'
    have y_q0 := hw'.cell q0 (fun h => h)
    have y_q1 := hw'.cell q1 (fun h => h)
    clear hw'
    refine growAt_value ?_
    go_simp
    rfl
  simp only [Act.put, List.setIfInBounds_toArray, List.set_cons_zero, List.set_cons_succ]
  refine grow_step (v := ?v2) rfl rfl ?a2 ?b2
  case a2 =>
    intro w' hw'
    clear hw'
    refine growAt_value ?_
    go_simp
    rfl
  simp only [Act.put, List.setIfInBounds_toArray, List.set_cons_zero, List.set_cons_succ]
  refine grow_step (v := ?v3) rfl rfl ?a3 ?b3
  case a3 =>
    intro w' hw'
    have y_k0 := hw'.cell k0 (fun h => h)
    clear hw'
    refine growAt_value ?_
    go_simp
    rfl
  simp only [Act.put, List.setIfInBounds_toArray, List.set_cons_zero, List.set_cons_succ]
  refine grow_step (v := nk ra) rfl rfl ?a4 ?b4
  case a4 =>
    intro w' hw'
    refine growAt_call ?_ ((hat_a w').mono fun e w'' ⟨he, hb⟩ => ⟨he, (Fr.refl nob _).below hb⟩)
    go_simp
  simp only [Act.put, List.setIfInBounds_toArray, List.set_cons_zero, List.set_cons_succ]
  refine grow_step (v := ?v5) rfl rfl ?a5 ?b5
  case a5 =>
    intro w' hw'
    clear hw'
    refine growAt_value ?_
    go_simp
    rfl
  simp only [Act.put, List.setIfInBounds_toArray, List.set_cons_zero, List.set_cons_succ]
  refine grow_step (v := ?v6) rfl rfl ?a6 ?b6
  case a6 =>
    intro w' hw'
    have y_q2 := hw'.cell q2 (fun h => h)
    have y_q3 := hw'.cell q3 (fun h => h)
    clear hw'
    refine growAt_value ?_
    go_simp
    rfl
  simp only [Act.put, List.setIfInBounds_toArray, List.set_cons_zero, List.set_cons_succ]
  refine grow_step (v := ?v7) rfl rfl ?a7 ?b7
  case a7 =>
    intro w' hw'
    clear hw'
    refine growAt_value ?_
    go_simp
    rfl
  simp only [Act.put, List.setIfInBounds_toArray, List.set_cons_zero, List.set_cons_succ]
  refine grow_step (v := ?v8) rfl rfl ?a8 ?b8
  case a8 =>
    intro w' hw'
    have y_k1 := hw'.cell k1 (fun h => h)
    clear hw'
    refine growAt_value ?_
    go_simp
    rfl
  simp only [Act.put, List.setIfInBounds_toArray, List.set_cons_zero, List.set_cons_succ]
  refine grow_step (v := nk rb) rfl rfl ?a9 ?b9
  case a9 =>
    intro w' hw'
    refine growAt_call ?_ ((hat_b w').mono fun e w'' ⟨he, hb⟩ => ⟨he, (Fr.refl nob _).below hb⟩)
    go_simp
  simp only [Act.put, List.setIfInBounds_toArray, List.set_cons_zero, List.set_cons_succ]
  refine grow_step (v := ?v10) rfl rfl ?a10 ?b10
  case a10 =>
    intro w' hw'
    clear hw'
    refine growAt_value ?_
    go_simp
    rfl
  simp only [Act.put, List.setIfInBounds_toArray, List.set_cons_zero, List.set_cons_succ]
  refine grow_step (v := ?v11) rfl rfl ?a11 ?b11
  case a11 =>
    intro w' hw'
    have y_q4 := hw'.cell q4 (fun h => h)
    have y_q5 := hw'.cell q5 (fun h => h)
    clear hw'
    refine growAt_value ?_
    go_simp
    rfl
  simp only [Act.put, List.setIfInBounds_toArray, List.set_cons_zero, List.set_cons_succ]
  refine grow_step (v := ?v12) rfl rfl ?a12 ?b12
  case a12 =>
    intro w' hw'
    clear hw'
    refine growAt_value ?_
    go_simp
    rfl
  simp only [Act.put, List.setIfInBounds_toArray, List.set_cons_zero, List.set_cons_succ]
  refine grow_step (v := ?v13) rfl rfl ?a13 ?b13
  case a13 =>
    intro w' hw'
    have y_k2 := hw'.cell k2 (fun h => h)
    clear hw'
    refine growAt_value ?_
    go_simp
    rfl
  simp only [Act.put, List.setIfInBounds_toArray, List.set_cons_zero, List.set_cons_succ]
  refine grow_step (v := nk rc) rfl rfl ?a14 ?b14
  case a14 =>
    intro w' hw'
    refine growAt_call ?_ ((hat_c w').mono fun e w'' ⟨he, hb⟩ => ⟨he, (Fr.refl nob _).below hb⟩)
    go_simp
  simp only [Act.put, List.setIfInBounds_toArray, List.set_cons_zero, List.set_cons_succ]
  refine grow_alloc rfl fun g9 hg9 => ?_
  simp only [Act.put, List.setIfInBounds_toArray, List.set_cons_zero, List.set_cons_succ]
  refine grow_alloc rfl fun g10 hg10 => ?_
  simp only [Act.put, List.setIfInBounds_toArray, List.set_cons_zero, List.set_cons_succ]
  refine grow_alloc rfl fun g11 hg11 => ?_
  simp only [Act.put, List.setIfInBounds_toArray, List.set_cons_zero, List.set_cons_succ]
  refine grow_nil ?_
  intro w2 listed fr2 hl hM
  obtain ⟨b9, m91, _, m93, m94⟩ := hM 15 _ 124 9 (by omega) rfl rfl rfl (hl 15 (by omega))
  obtain ⟨b10, m101, _, m103, m104⟩ := hM 16 _ 124 10 (by omega) rfl rfl rfl (hl 16 (by omega))
  obtain ⟨b11, m111, _, m113, _⟩ := hM 17 _ 124 11 (by omega) rfl rfl rfl (hl 17 (by omega))
  have x1 := m94 16 _ 124 10 (by omega) (by omega) rfl rfl (hl 16 (by omega)) rfl
  have x2 := m94 17 _ 124 11 (by omega) (by omega) rfl rfl (hl 17 (by omega)) rfl
  have x3 := m104 17 _ 124 11 (by omega) (by omega) rfl rfl (hl 17 (by omega)) rfl
  clear hM hl m94 m104
  obtain rfl : g9 = b9 := by simpa using m91
  obtain rfl : g10 = b10 := by simpa using m101
  obtain rfl : g11 = b11 := by simpa using m111
  have d1 : g10 ≠ g9 := by simpa using x1
  have d2 : g11 ≠ g9 := by simpa using x2
  have d3 : g11 ≠ g10 := by simpa using x3
  clear x1 x2 x3 m91 m101 m111
  obtain ⟨z0, z1, z2, zf⟩ := block3 m93
  obtain ⟨y0, y1, y2, yf⟩ := block3 m103
  obtain ⟨x0, x1, x2, xf⟩ := block3 m113
  have d1' := d1.symm
  have d2' := d2.symm
  have d3' := d3.symm
  have hz9 := zf 0
  have hz91 := zf 1
  have hz92 := zf 2
  have hy9 := yf 0
  have hy91 := yf 1
  have hy92 := yf 2
  have hx9 := xf 0
  have hx91 := xf 1
  have hx92 := xf 2
  clear zf yf xf
  have F : Hid (Fr nob w1 w2) := Lib.hid fr2
  have Fw := Lib.hid frw
  have Hk := Lib.hid (And.intro k0 (And.intro k1 k2))
  clear fr2 frw k0 k1 k2 q0 q1 q2 q3 q4 q5 m93 m103 m113 hat_a hat_b hat_c
  simp only [nk]
  go_upto_region 5 with (fail)
  obtain ⟨a0, a1, a2, fa, ga⟩ := set3_facts (a := .int .u8 (ra.1 : Int)) (b := .int .u32 (ra.2.1 : Int)) (c := .int .u32 (ra.2.2 : Int)) z0 z1 z2
  obtain ⟨b0, b1, b2, fb, gb⟩ := set3_facts (a := .int .u8 (rb.1 : Int)) (b := .int .u32 (rb.2.1 : Int)) (c := .int .u32 (rb.2.2 : Int)) (fa.cell y0 d1) (fa.cell y1 d1) (fa.cell y2 d1)
  obtain ⟨c0, c1, c2, fc, gc⟩ := set3_facts (a := .int .u8 (rc.1 : Int)) (b := .int .u32 (rc.2.1 : Int)) (c := .int .u32 (rc.2.2 : Int)) (fb.cell (fa.cell x0 d2) d3) (fb.cell (fa.cell x1 d2) d3) (fb.cell (fa.cell x2 d2) d3)
  have A0 := fc.cell (fb.cell a0 d1.symm) d2.symm
  have A1 := fc.cell (fb.cell a1 d1.symm) d2.symm
  have A2 := fc.cell (fb.cell a2 d1.symm) d2.symm
  have B0 := fc.cell b0 d3.symm
  have B1 := fc.cell b1 d3.symm
  have B2 := fc.cell b2 d3.symm
  obtain ⟨k0, k1, k2⟩ := Hk.out
  have lk := lt_of_cell k0
  simp only at lk
  have frz := Fw.out.size
  have RBl : w.heap.size + 1 + 1 + 1 < w1.heap.size := lt_of_cell RB.q0
  have frB : Fr (fun k => w1.heap.size ≤ k) w1 (set3 (set3 (set3 w2 g9 (.int .u8 (ra.1 : Int)) (.int .u32 (ra.2.1 : Int)) (.int .u32 (ra.2.2 : Int))) g10 (.int .u8 (rb.1 : Int)) (.int .u32 (rb.2.1 : Int)) (.int .u32 (rb.2.2 : Int))) g11 (.int .u8 (rc.1 : Int)) (.int .u32 (rc.2.1 : Int)) (.int .u32 (rc.2.2 : Int))) :=
    ((F.out.trans' fa (T := fun k => w1.heap.size ≤ k) (fun _ _ h => h.elim) (fun k _ h => h ▸ hg9)).trans fb (fun k _ h => h ▸ hg10)).trans fc (fun k _ h => h ▸ hg11)
  change Code.wp _ _ _ _ (set3 (set3 (set3 w2 g9 (.int .u8 (ra.1 : Int)) (.int .u32 (ra.2.1 : Int)) (.int .u32 (ra.2.2 : Int))) g10 (.int .u8 (rb.1 : Int)) (.int .u32 (rb.2.1 : Int)) (.int .u32 (rb.2.2 : Int))) g11 (.int .u8 (rc.1 : Int)) (.int .u32 (rc.2.1 : Int)) (.int .u32 (rc.2.2 : Int)))
  clear fa fb fc ga gb gc a0 a1 a2 b0 b1 b2 z0 z1 z2 x0 x1 x2 y0 y1 y2 hz9 hz91 hz92 hy9 hy91 hy92 hx9 hx91 hx92
  generalize set3 (set3 (set3 w2 g9 (.int .u8 (ra.1 : Int)) (.int .u32 (ra.2.1 : Int)) (.int .u32 (ra.2.2 : Int))) g10 (.int .u8 (rb.1 : Int)) (.int .u32 (rb.2.1 : Int)) (.int .u32 (rb.2.2 : Int))) g11 (.int .u8 (rc.1 : Int)) (.int .u32 (rc.2.1 : Int)) (.int .u32 (rc.2.2 : Int)) = W3 at *
  have frW : Fr nob w W3 := Fw.out.trans (frB.mono (T := fun k => w1.heap.size ≤ k) (fun _ _ h => h)) (fun k hk h => absurd hk (by have h' : w1.heap.size ≤ k := h; omega))
  have K0 := frB.cell k0 (by simp only; omega)
  have K1 := frB.cell k1 (by simp only; omega)
  have K2 := frB.cell k2 (by simp only; omega)
  have RB3 := RB.kept frB (by simp only [Nat.not_le]; have := frz; have := RBl; omega) (by simp only [Nat.not_le]; have := RBl; omega)
  clear Hk k0 k1 k2
  go_cut [12] (fun s12 wx => s12 = .int .u8 (f : Int) ∧ wx = W3)
  case first =>
    have hmin := Hmin.out
    go_wp2_with fail
    all_goals
      go_meet
      have hf := Hf.out
      first
        | exact ⟨by rw [show rc.1 = f by omega], rfl⟩
        | exact ⟨by rw [show rb.1 = f by omega], rfl⟩
        | exact ⟨by rw [show ra.1 = f by omega], rfl⟩
  case rest =>
    obtain ⟨rfl, rfl⟩ := hcut
    have hf1 : (f : Int) < 25 := by have := Hf.out; omega
    have hf0 : (0 : Int) ≤ (f : Int) := by omega
    go_upto_region 6 with (fail)
    go_cut [13, 14] (fun s13 s14 wx => ∃ g13 g14, s13 = ptr g13 ∧ s14 = ptr g14 ∧ SplitSt w wx g9 g10 g11 g13 g14 ra rb rc (ka, kb, kc) (ka, kb, kc))
    case first =>
      have lk3 : w.heap.size + 4 ≤ wc.heap.size := by have := lt_of_cell RB3.q0; simp only at this; omega
      have P0 := cell_alloc_l K0
      have P1 := cell_alloc_l K1
      have P2 := cell_alloc_l K2
      have R0 := fun o => cell_alloc_l (P0 o)
      have R1 := fun o => cell_alloc_l (P1 o)
      have R2 := fun o => cell_alloc_l (P2 o)
      have nz := lt_of_cell K0
      simp only at nz
      have nz0 : w.heap.size < wc.heap.size := by omega
      go_region
      all_goals go_wp2_with fail
      all_goals go_meet
      · exact ⟨_, _, rfl, rfl, (splitSt_init (k := (ka, kb, kc)) frW RB3 lk3 A0 A1 A2 B0 B1 B2 c0 c1 c2).1⟩
      · exact ⟨_, _, rfl, rfl, (splitSt_init (k := (ka, kb, kc)) frW RB3 lk3 A0 A1 A2 B0 B1 B2 c0 c1 c2).2⟩
    case rest =>
      obtain ⟨g13, g14, rfl, rfl, St⟩ := hcut
      clear frW frB K0 K1 K2 RB3 RB fr0 F Fw A0 A1 A2 B0 B1 B2 c0 c1 c2 Hmin
      have Hd := Lib.hid hd
      clear hd
      have a0 := St.a0
      go_upto_if 53 with (fail)
      clear a0
      go_cut [] (fun wx => ∃ xa ya, Hid (xa = if ra.1 = f then ra.2.1 else ka) ∧ Hid (ya = if ra.1 = f then ra.2.2 else ka) ∧ SplitSt w wx g9 g10 g11 g13 g14 ra rb rc (xa, kb, kc) (ya, kb, kc))
      case first =>
        by_cases hq : ra.1 = f
        · have hb : ((ra.1 : Int) == (f : Int)) = true := by simp; omega
          have c1 := St.a1
          have c2 := St.a2
          have d1 := St.l0
          have d2 := St.h0
          have d3 := St.f13 0
          have d4 := St.f14 0
          obtain ⟨n1, n2, n3, n4, n5, n6, n7⟩ := St.n1
          go_wp2_with fail
          go_region
          all_goals go_wp2_with fail
          all_goals go_meet
          all_goals exact ⟨_, _, Lib.hid (by rw [if_pos hq]), Lib.hid (by rw [if_pos hq]), splitSt_set0 St ra.2.1 ra.2.2⟩
        · have hb : ((ra.1 : Int) == (f : Int)) = false := by simp; omega
          go_wp2_with fail
          go_meet
          exact ⟨_, _, Lib.hid (by rw [if_neg hq]), Lib.hid (by rw [if_neg hq]), St⟩
      case rest =>
        obtain ⟨xa, ya, Hxa, Hya, St⟩ := hcut
        have a0 := St.b0
        go_upto_if 63 with (fail)
        clear a0
        go_cut [] (fun wx => ∃ xb yb, Hid (xb = if rb.1 = f then rb.2.1 else kb) ∧ Hid (yb = if rb.1 = f then rb.2.2 else kb) ∧ SplitSt w wx g9 g10 g11 g13 g14 ra rb rc (xa, xb, kc) (ya, yb, kc))
        case first =>
          by_cases hq : rb.1 = f
          · have hb : ((rb.1 : Int) == (f : Int)) = true := by simp; omega
            have c1 := St.b1
            have c2 := St.b2
            have d1 := St.l1
            have d2 := St.h1
            have d3 := St.f13 1
            have d4 := St.f14 1
            obtain ⟨n1, n2, n3, n4, n5, n6, n7⟩ := St.n1
            go_wp2_with fail
            go_region
            all_goals go_wp2_with fail
            all_goals go_meet
            all_goals exact ⟨_, _, Lib.hid (by rw [if_pos hq]), Lib.hid (by rw [if_pos hq]), splitSt_set1 St rb.2.1 rb.2.2⟩
          · have hb : ((rb.1 : Int) == (f : Int)) = false := by simp; omega
            go_wp2_with fail
            go_meet
            exact ⟨_, _, Lib.hid (by rw [if_neg hq]), Lib.hid (by rw [if_neg hq]), St⟩
        case rest =>
          obtain ⟨xb, yb, Hxb, Hyb, St⟩ := hcut
          have a0 := St.c0
          go_upto_if 73 with (fail)
          clear a0
          go_cut [] (fun wx => ∃ xc yc, Hid (xc = if rc.1 = f then rc.2.1 else kc) ∧ Hid (yc = if rc.1 = f then rc.2.2 else kc) ∧ SplitSt w wx g9 g10 g11 g13 g14 ra rb rc (xa, xb, xc) (ya, yb, yc))
          case first =>
            by_cases hq : rc.1 = f
            · have hb : ((rc.1 : Int) == (f : Int)) = true := by simp; omega
              have c1 := St.c1
              have c2 := St.c2
              have d1 := St.l2
              have d2 := St.h2
              have d3 := St.f13 2
              have d4 := St.f14 2
              obtain ⟨n1, n2, n3, n4, n5, n6, n7⟩ := St.n1
              go_wp2_with fail
              go_region
              all_goals go_wp2_with fail
              all_goals go_meet
              all_goals exact ⟨_, _, Lib.hid (by rw [if_pos hq]), Lib.hid (by rw [if_pos hq]), splitSt_set2 St rc.2.1 rc.2.2⟩
            · have hb : ((rc.1 : Int) == (f : Int)) = false := by simp; omega
              go_wp2_with fail
              go_meet
              exact ⟨_, _, Lib.hid (by rw [if_neg hq]), Lib.hid (by rw [if_neg hq]), St⟩
          case rest =>
            obtain ⟨xc, yc, Hxc, Hyc, St⟩ := hcut
            have L0 := St.l0
            have L1 := St.l1
            have L2 := St.l2
            have U0 := St.h0
            have U1 := St.h1
            have U2 := St.h2
            simp only at L0 L1 L2 U0 U1 U2
            obtain ⟨frS, R⟩ : Fr nob w wc ∧ ResBoxes w wc := ⟨St.fr, St.r⟩
            clear St
            go_upto_region 13 with (fail)
            refine wp_region_grow' 6 86 (fun _ => #[]) [] (by kernel_rfl) (by kernel_rfl) rfl rfl (by intro T h; cases h) ?_
            simp only [List.take_succ_cons, List.take_zero]
            refine grow_step (v := ?w0) rfl rfl ?e0 ?g0
            case e0 =>
              intro w' hw'
              clear hw'
              refine growAt_value ?_
              go_simp
              rfl
            simp only [Act.put, List.setIfInBounds_toArray, List.set_cons_zero, List.set_cons_succ]
            refine grow_step (v := ?w1) rfl rfl ?e1 ?g1
            case e1 =>
              intro w' hw'
              clear hw'
              refine growAt_value ?_
              go_simp
              rfl
            simp only [Act.put, List.setIfInBounds_toArray, List.set_cons_zero, List.set_cons_succ]
            refine grow_step (v := ?w2) rfl rfl ?e2 ?g2
            case e2 =>
              intro w' hw'
              have y_L0 := hw'.cell L0 (fun h => h)
              have y_L1 := hw'.cell L1 (fun h => h)
              have y_L2 := hw'.cell L2 (fun h => h)
              clear hw'
              refine growAt_value ?_
              go_simp
              rfl
            simp only [Act.put, List.setIfInBounds_toArray, List.set_cons_zero, List.set_cons_succ]
            refine grow_step (v := tk (plainN (xa, xb, xc))) rfl rfl ?e3 ?g3
            case e3 =>
              intro w' hw'
              refine growAt_call ?_ ((plain_any _ _ _ w').mono fun e w'' ⟨he, hb⟩ => ⟨he, (Fr.refl nob _).below hb⟩)
              go_simp
            simp only [Act.put, List.setIfInBounds_toArray, List.set_cons_zero, List.set_cons_succ]
            refine grow_step (v := ?w4) rfl rfl ?e4 ?g4
            case e4 =>
              intro w' hw'
              have y_U0 := hw'.cell U0 (fun h => h)
              have y_U1 := hw'.cell U1 (fun h => h)
              have y_U2 := hw'.cell U2 (fun h => h)
              clear hw'
              refine growAt_value ?_
              go_simp
              rfl
            simp only [Act.put, List.setIfInBounds_toArray, List.set_cons_zero, List.set_cons_succ]
            refine grow_step (v := tk (plainN (ya, yb, yc))) rfl rfl ?e5 ?g5
            case e5 =>
              intro w' hw'
              refine growAt_call ?_ ((plain_any _ _ _ w').mono fun e w'' ⟨he, hb⟩ => ⟨he, (Fr.refl nob _).below hb⟩)
              go_simp
            simp only [Act.put, List.setIfInBounds_toArray, List.set_cons_zero, List.set_cons_succ]
            refine grow_nil ?_
            intro w5 listed fr5 _ _
            obtain ⟨p0, p1, p2, q0, q1, q2, fp, fq⟩ := R.kept fr5 (fun h => h) (fun h => h)
            have fp0 := fp 0
            have fp1 := fp 1
            have fp2 := fp 2
            have fq0 := fq 0
            have fq1 := fq 1
            have fq2 := fq 2
            have frE := frS.trans fr5 (fun _ _ h => h)
            clear R fr5 frS fp fq L0 L1 L2 U0 U1 U2
            have fin : splitN (ka, kb, kc) ra rb rc = (f, plainN (xa, xb, xc), plainN (ya, yb, yc)) := by
              unfold splitN
              rw [if_neg (by rw [Hd.out]; simp), Hxa.out, Hxb.out, Hxc.out, Hya.out, Hyb.out, Hyc.out, Hf.out]
            have Fin := Lib.hid fin
            clear fin
            generalize plainN (xa, xb, xc) = lo at *
            generalize plainN (ya, yb, yc) = hi at *
            go_wp2_with fail
            refine bodyPost_ret (v := .tuple #[.int .i64 (f : Int), tk lo, tk hi]) (by simp [results, Try.results100, go_sem, p0, p1, p2, q0, q1, q2]) rfl ⟨by rw [Fin.out], ?_⟩
            exact ((((((frE.set1 (by omega) _).set1 (by omega) _).set1 (by omega) _).set1 (by omega) _).set1 (by omega) _).set1 (by omega) _).to_below (Nat.le_refl _) (fun _ h => h.elim)
end
end Go.Proofs.Ytaojojjdfdlgpaa.Dg

