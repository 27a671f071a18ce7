import Derived.Test.YtingidbhmbgigaaRefE
namespace Go.Proofs.Ytingidbhmbgigaa
open Go.RowKit
open Bd

/-- what a set's value looks like -/
theorem RSet.form {w : World} {v : Value} {V : List Nat} {f : Cfg → Bool} (h : RSet w v V f) : ∃ qa n1 ca qt n3 ct, v = .agg #[.slice qa n1 ca, .slice qt n3 ct] := by
  obtain ⟨_, _, sv, st, rfl, h1, h2⟩ := h
  obtain ⟨qa, ca, rfl⟩ := h1.form
  obtain ⟨qt, ct, rfl⟩ := h2.form
  exact ⟨qa, _, ca, qt, _, ct, rfl⟩

/-- a result that was stored: the block in which it lies had no set before -/
theorem RSet.stored {w1 : World} {qa qt : Option Addr} {n1 ca n3 ct b : Nat} {V : List Nat} {f : Cfg → Bool} (h : RSet w1 (.agg #[.slice qa n1 ca, .slice qt n3 ct]) V f) (hb : w1.cell? ⟨b, 0, none⟩ = some (.slice none 0 0)) (x y : Value) :
    RSet ((w1.setCell ⟨b, 0, none⟩ x).setCell ⟨b, 1, none⟩ y) (.agg #[.slice qa n1 ca, .slice qt n3 ct]) V f := by
  obtain ⟨hV, hf, sv, st, e, h1, h2⟩ := h
  simp only [Value.agg.injEq, Array.mk.injEq, List.cons.injEq, and_true] at e
  obtain ⟨rfl, rfl⟩ := e
  refine ⟨hV, hf, _, _, rfl, SRow.store2 h1 (SRow.store2 h1 h1 hb 0 _) hb 1 _, ?_⟩
  have key : ∀ {W : World} (o : Nat) (u : Value), SRow W (.slice qt n3 ct) ((tab V f).map .bool) → SRow (W.setCell ⟨b, o, none⟩ u) (.slice qt n3 ct) ((tab V f).map .bool) := by
    intro W o u h
    obtain ⟨a, cap, e, hc⟩ := h
    refine ⟨a, cap, e, fun j u' hj => ?_⟩
    obtain ⟨g', e1, e2⟩ := hc j u' hj
    have ea : qt = a := by injection e
    have hne : g' ≠ b := by
      rintro rfl
      have h0 : 0 < (tab V f).length := by rw [tab_length]; exact Nat.two_pow_pos _
      obtain ⟨g2, e3, e4⟩ := h2.at (j := 0) (u := .bool (tab V f)[0]) (by simp [h0])
      rw [ea, e1] at e3
      cases e3
      rw [hb] at e4
      cases e4
    exact ⟨g', e1, (fr_store W b o u).cell e2 hne⟩
  exact key 1 _ (key 0 _ h2)

set_option maxRecDepth 100000 in
set_option maxHeartbeats 1000000 in
theorem RAnd_any (V W : List Nat) (f h : Cfg → Bool) (va vb : Value) (w : World) (hsa : RSet w va V f) (hsb : RSet w vb W h) : Calls Try.prog 42 #[va, vb] w fun e w' => ∃ v', e = .returned v' ∧ RSet w' v' (joinL V W) (fun c => opB 0 (f c) (h c)) ∧ Below w.heap.size w w' := by
  obtain ⟨qa, n1, ca, qt, n3, ct, rfl⟩ := hsa.form
  obtain ⟨qb, n2, cb, qu, n4, cu, rfl⟩ := hsb.form
  obtain ⟨a0, a1⟩ := two_cells' w (.slice qa n1 ca) (.slice qt n3 ct) 37
  obtain ⟨b0, b1⟩ := two_cells' (w.alloc (.cells #[.slice qa n1 ca, .slice qt n3 ct] 37)) (.slice qb n2 cb) (.slice qu n4 cu) 37
  obtain ⟨r0, r1⟩ := two_cells' ((w.alloc (.cells #[.slice qa n1 ca, .slice qt n3 ct] 37)).alloc (.cells #[.slice qb n2 cb, .slice qu n4 cu] 37)) (.slice none 0 0) (.slice none 0 0) 37
  replace a0 := cell_alloc_l (cell_alloc_l a0 (.cells #[.slice qb n2 cb, .slice qu n4 cu] 37)) (.cells #[.slice none 0 0, .slice none 0 0] 37)
  replace a1 := cell_alloc_l (cell_alloc_l a1 (.cells #[.slice qb n2 cb, .slice qu n4 cu] 37)) (.cells #[.slice none 0 0, .slice none 0 0] 37)
  replace b0 := cell_alloc_l b0 (.cells #[.slice none 0 0, .slice none 0 0] 37)
  replace b1 := cell_alloc_l b1 (.cells #[.slice none 0 0, .slice none 0 0] 37)
  have fr : Fr nob w (((w.alloc (.cells #[.slice qa n1 ca, .slice qt n3 ct] 37)).alloc (.cells #[.slice qb n2 cb, .slice qu n4 cu] 37)).alloc (.cells #[.slice none 0 0, .slice none 0 0] 37)) := (((Fr.refl nob w).alloc _).alloc _).alloc _
  have f0 : (((w.alloc (.cells #[.slice qa n1 ca, .slice qt n3 ct] 37)).alloc (.cells #[.slice qb n2 cb, .slice qu n4 cu] 37)).alloc (.cells #[.slice none 0 0, .slice none 0 0] 37)).frozen? ⟨w.heap.size + 1 + 1, 0, none⟩ = false := World.frozen?_alloc_at _ _ _ _ (by simp)
  have f1 : (((w.alloc (.cells #[.slice qa n1 ca, .slice qt n3 ct] 37)).alloc (.cells #[.slice qb n2 cb, .slice qu n4 cu] 37)).alloc (.cells #[.slice none 0 0, .slice none 0 0] 37)).frozen? ⟨w.heap.size + 1 + 1, 1, none⟩ = false := World.frozen?_alloc_at _ _ _ _ (by simp)
  simp only [World.size_alloc] at a0 a1 b0 b1 r0 r1
  go_enter Try.func42, Try.ntmps42
  go_wp2_with fail
  generalize (((w.alloc (.cells #[.slice qa n1 ca, .slice qt n3 ct] 37)).alloc (.cells #[.slice qb n2 cb, .slice qu n4 cu] 37)).alloc (.cells #[.slice none 0 0, .slice none 0 0] 37)) = W0 at *
  refine (RJoin0_any V W f h _ _ _ (hsa.kept fr) (hsb.kept fr)).mono ?_
  rintro e w1 ⟨v', rfl, hs, hb⟩
  have fr1 : Fr nob W0 w1 := (Fr.refl nob W0).below hb
  replace f0 := (fr1.frozen (p := ⟨w.heap.size + 1 + 1, 0, none⟩) (lt_of_cell r0) (fun h => h)).trans f0
  replace f1 := (fr1.frozen (p := ⟨w.heap.size + 1 + 1, 1, none⟩) (lt_of_cell r1) (fun h => h)).trans f1
  replace r0 := fr1.cell' r0 (fun h => h)
  replace r1 := fr1.cell' r1 (fun h => h)
  obtain ⟨q1, m1, c1, q2, m2, c2, rfl⟩ := hs.form
  have hst := hs.stored r0 (.slice q1 m1 c1) (.slice q2 m2 c2)
  have frA := fr.trans fr1 (fun _ _ h => h)
  clear a0 a1 b0 b1 hb hs fr1
  go_wp2_with fail
  refine bodyPost_ret (v := .agg #[.slice q1 m1 c1, .slice q2 m2 c2]) (by simp [results, Try.results42, go_sem, r0, r1]) rfl ⟨_, rfl, hst, ?_⟩
  exact ((frA.set1 (by omega) _).set1 (by omega) _).to_below (Nat.le_refl _) (fun _ h => h.elim)

set_option maxRecDepth 100000 in
set_option maxHeartbeats 1000000 in
theorem ROr_any (V W : List Nat) (f h : Cfg → Bool) (va vb : Value) (w : World) (hsa : RSet w va V f) (hsb : RSet w vb W h) : Calls Try.prog 41 #[va, vb] w fun e w' => ∃ v', e = .returned v' ∧ RSet w' v' (joinL V W) (fun c => opB 1 (f c) (h c)) ∧ Below w.heap.size w w' := by
  obtain ⟨qa, n1, ca, qt, n3, ct, rfl⟩ := hsa.form
  obtain ⟨qb, n2, cb, qu, n4, cu, rfl⟩ := hsb.form
  obtain ⟨a0, a1⟩ := two_cells' w (.slice qa n1 ca) (.slice qt n3 ct) 37
  obtain ⟨b0, b1⟩ := two_cells' (w.alloc (.cells #[.slice qa n1 ca, .slice qt n3 ct] 37)) (.slice qb n2 cb) (.slice qu n4 cu) 37
  obtain ⟨r0, r1⟩ := two_cells' ((w.alloc (.cells #[.slice qa n1 ca, .slice qt n3 ct] 37)).alloc (.cells #[.slice qb n2 cb, .slice qu n4 cu] 37)) (.slice none 0 0) (.slice none 0 0) 37
  replace a0 := cell_alloc_l (cell_alloc_l a0 (.cells #[.slice qb n2 cb, .slice qu n4 cu] 37)) (.cells #[.slice none 0 0, .slice none 0 0] 37)
  replace a1 := cell_alloc_l (cell_alloc_l a1 (.cells #[.slice qb n2 cb, .slice qu n4 cu] 37)) (.cells #[.slice none 0 0, .slice none 0 0] 37)
  replace b0 := cell_alloc_l b0 (.cells #[.slice none 0 0, .slice none 0 0] 37)
  replace b1 := cell_alloc_l b1 (.cells #[.slice none 0 0, .slice none 0 0] 37)
  have fr : Fr nob w (((w.alloc (.cells #[.slice qa n1 ca, .slice qt n3 ct] 37)).alloc (.cells #[.slice qb n2 cb, .slice qu n4 cu] 37)).alloc (.cells #[.slice none 0 0, .slice none 0 0] 37)) := (((Fr.refl nob w).alloc _).alloc _).alloc _
  have f0 : (((w.alloc (.cells #[.slice qa n1 ca, .slice qt n3 ct] 37)).alloc (.cells #[.slice qb n2 cb, .slice qu n4 cu] 37)).alloc (.cells #[.slice none 0 0, .slice none 0 0] 37)).frozen? ⟨w.heap.size + 1 + 1, 0, none⟩ = false := World.frozen?_alloc_at _ _ _ _ (by simp)
  have f1 : (((w.alloc (.cells #[.slice qa n1 ca, .slice qt n3 ct] 37)).alloc (.cells #[.slice qb n2 cb, .slice qu n4 cu] 37)).alloc (.cells #[.slice none 0 0, .slice none 0 0] 37)).frozen? ⟨w.heap.size + 1 + 1, 1, none⟩ = false := World.frozen?_alloc_at _ _ _ _ (by simp)
  simp only [World.size_alloc] at a0 a1 b0 b1 r0 r1
  go_enter Try.func41, Try.ntmps41
  go_wp2_with fail
  generalize (((w.alloc (.cells #[.slice qa n1 ca, .slice qt n3 ct] 37)).alloc (.cells #[.slice qb n2 cb, .slice qu n4 cu] 37)).alloc (.cells #[.slice none 0 0, .slice none 0 0] 37)) = W0 at *
  refine (RJoin1_any V W f h _ _ _ (hsa.kept fr) (hsb.kept fr)).mono ?_
  rintro e w1 ⟨v', rfl, hs, hb⟩
  have fr1 : Fr nob W0 w1 := (Fr.refl nob W0).below hb
  replace f0 := (fr1.frozen (p := ⟨w.heap.size + 1 + 1, 0, none⟩) (lt_of_cell r0) (fun h => h)).trans f0
  replace f1 := (fr1.frozen (p := ⟨w.heap.size + 1 + 1, 1, none⟩) (lt_of_cell r1) (fun h => h)).trans f1
  replace r0 := fr1.cell' r0 (fun h => h)
  replace r1 := fr1.cell' r1 (fun h => h)
  obtain ⟨q1, m1, c1, q2, m2, c2, rfl⟩ := hs.form
  have hst := hs.stored r0 (.slice q1 m1 c1) (.slice q2 m2 c2)
  have frA := fr.trans fr1 (fun _ _ h => h)
  clear a0 a1 b0 b1 hb hs fr1
  go_wp2_with fail
  refine bodyPost_ret (v := .agg #[.slice q1 m1 c1, .slice q2 m2 c2]) (by simp [results, Try.results41, go_sem, r0, r1]) rfl ⟨_, rfl, hst, ?_⟩
  exact ((frA.set1 (by omega) _).set1 (by omega) _).to_below (Nat.le_refl _) (fun _ h => h.elim)

set_option maxRecDepth 100000 in
set_option maxHeartbeats 1000000 in
theorem RXor_any (V W : List Nat) (f h : Cfg → Bool) (va vb : Value) (w : World) (hsa : RSet w va V f) (hsb : RSet w vb W h) : Calls Try.prog 57 #[va, vb] w fun e w' => ∃ v', e = .returned v' ∧ RSet w' v' (joinL V W) (fun c => opB 2 (f c) (h c)) ∧ Below w.heap.size w w' := by
  obtain ⟨qa, n1, ca, qt, n3, ct, rfl⟩ := hsa.form
  obtain ⟨qb, n2, cb, qu, n4, cu, rfl⟩ := hsb.form
  obtain ⟨a0, a1⟩ := two_cells' w (.slice qa n1 ca) (.slice qt n3 ct) 37
  obtain ⟨b0, b1⟩ := two_cells' (w.alloc (.cells #[.slice qa n1 ca, .slice qt n3 ct] 37)) (.slice qb n2 cb) (.slice qu n4 cu) 37
  obtain ⟨r0, r1⟩ := two_cells' ((w.alloc (.cells #[.slice qa n1 ca, .slice qt n3 ct] 37)).alloc (.cells #[.slice qb n2 cb, .slice qu n4 cu] 37)) (.slice none 0 0) (.slice none 0 0) 37
  replace a0 := cell_alloc_l (cell_alloc_l a0 (.cells #[.slice qb n2 cb, .slice qu n4 cu] 37)) (.cells #[.slice none 0 0, .slice none 0 0] 37)
  replace a1 := cell_alloc_l (cell_alloc_l a1 (.cells #[.slice qb n2 cb, .slice qu n4 cu] 37)) (.cells #[.slice none 0 0, .slice none 0 0] 37)
  replace b0 := cell_alloc_l b0 (.cells #[.slice none 0 0, .slice none 0 0] 37)
  replace b1 := cell_alloc_l b1 (.cells #[.slice none 0 0, .slice none 0 0] 37)
  have fr : Fr nob w (((w.alloc (.cells #[.slice qa n1 ca, .slice qt n3 ct] 37)).alloc (.cells #[.slice qb n2 cb, .slice qu n4 cu] 37)).alloc (.cells #[.slice none 0 0, .slice none 0 0] 37)) := (((Fr.refl nob w).alloc _).alloc _).alloc _
  have f0 : (((w.alloc (.cells #[.slice qa n1 ca, .slice qt n3 ct] 37)).alloc (.cells #[.slice qb n2 cb, .slice qu n4 cu] 37)).alloc (.cells #[.slice none 0 0, .slice none 0 0] 37)).frozen? ⟨w.heap.size + 1 + 1, 0, none⟩ = false := World.frozen?_alloc_at _ _ _ _ (by simp)
  have f1 : (((w.alloc (.cells #[.slice qa n1 ca, .slice qt n3 ct] 37)).alloc (.cells #[.slice qb n2 cb, .slice qu n4 cu] 37)).alloc (.cells #[.slice none 0 0, .slice none 0 0] 37)).frozen? ⟨w.heap.size + 1 + 1, 1, none⟩ = false := World.frozen?_alloc_at _ _ _ _ (by simp)
  simp only [World.size_alloc] at a0 a1 b0 b1 r0 r1
  go_enter Try.func57, Try.ntmps57
  go_wp2_with fail
  generalize (((w.alloc (.cells #[.slice qa n1 ca, .slice qt n3 ct] 37)).alloc (.cells #[.slice qb n2 cb, .slice qu n4 cu] 37)).alloc (.cells #[.slice none 0 0, .slice none 0 0] 37)) = W0 at *
  refine (RJoin2_any V W f h _ _ _ (hsa.kept fr) (hsb.kept fr)).mono ?_
  rintro e w1 ⟨v', rfl, hs, hb⟩
  have fr1 : Fr nob W0 w1 := (Fr.refl nob W0).below hb
  replace f0 := (fr1.frozen (p := ⟨w.heap.size + 1 + 1, 0, none⟩) (lt_of_cell r0) (fun h => h)).trans f0
  replace f1 := (fr1.frozen (p := ⟨w.heap.size + 1 + 1, 1, none⟩) (lt_of_cell r1) (fun h => h)).trans f1
  replace r0 := fr1.cell' r0 (fun h => h)
  replace r1 := fr1.cell' r1 (fun h => h)
  obtain ⟨q1, m1, c1, q2, m2, c2, rfl⟩ := hs.form
  have hst := hs.stored r0 (.slice q1 m1 c1) (.slice q2 m2 c2)
  have frA := fr.trans fr1 (fun _ _ h => h)
  clear a0 a1 b0 b1 hb hs fr1
  go_wp2_with fail
  refine bodyPost_ret (v := .agg #[.slice q1 m1 c1, .slice q2 m2 c2]) (by simp [results, Try.results57, go_sem, r0, r1]) rfl ⟨_, rfl, hst, ?_⟩
  exact ((frA.set1 (by omega) _).set1 (by omega) _).to_below (Nat.le_refl _) (fun _ h => h.elim)

set_option maxRecDepth 100000 in
set_option maxHeartbeats 1000000 in
theorem RSame_any (V W : List Nat) (f h : Cfg → Bool) (va vb : Value) (w : World) (hsa : RSet w va V f) (hsb : RSet w vb W h) : Calls Try.prog 45 #[va, vb] w fun e w' => ∃ b : Bool, e = .returned (.bool b) ∧ (b = true ↔ ∀ c, f c = h c) ∧ Below w.heap.size w w' := by
  obtain ⟨qa, n1, ca, qt, n3, ct, rfl⟩ := hsa.form
  obtain ⟨qb, n2, cb, qu, n4, cu, rfl⟩ := hsb.form
  obtain ⟨a0, a1⟩ := two_cells' w (.slice qa n1 ca) (.slice qt n3 ct) 37
  obtain ⟨b0, b1⟩ := two_cells' (w.alloc (.cells #[.slice qa n1 ca, .slice qt n3 ct] 37)) (.slice qb n2 cb) (.slice qu n4 cu) 37
  replace a0 := cell_alloc_l a0 (.cells #[.slice qb n2 cb, .slice qu n4 cu] 37)
  replace a1 := cell_alloc_l a1 (.cells #[.slice qb n2 cb, .slice qu n4 cu] 37)
  have fr : Fr nob w ((w.alloc (.cells #[.slice qa n1 ca, .slice qt n3 ct] 37)).alloc (.cells #[.slice qb n2 cb, .slice qu n4 cu] 37)) := ((Fr.refl nob w).alloc _).alloc _
  simp only [World.size_alloc] at a0 a1 b0 b1
  go_enter Try.func45, Try.ntmps45
  go_wp2_with fail
  generalize ((w.alloc (.cells #[.slice qa n1 ca, .slice qt n3 ct] 37)).alloc (.cells #[.slice qb n2 cb, .slice qu n4 cu] 37)) = W0 at *
  refine (RXor_any V W f h _ _ _ (hsa.kept fr) (hsb.kept fr)).mono ?_
  rintro e w1 ⟨v', rfl, hs, hb⟩
  have fr1 := fr.below hb
  clear a0 a1 b0 b1 hb fr
  go_wp2_with fail
  refine (REmpty_any _ _ v' _ hs).mono ?_
  rintro e w2 ⟨rfl, hb⟩
  have he := empty_dec hs.1 hs.2.1
  generalize many (tab (joinL V W) fun c => opB 2 (f c) (h c)) = m at *
  have He := Lib.hid he
  clear he
  go_wp2_with fail
  go_ret
  refine ⟨decide (m = 0), rfl, ?_, (fr1.below hb).to_below (Nat.le_refl _) (fun _ h => h.elim)⟩
  rw [decide_eq_true_iff, He.out]
  constructor
  · intro hc c
    have := hc c
    simpa [opB] using this
  · intro hc c
    simp [opB, hc c]

theorem tab_congr {V : List Nat} {f h : Cfg → Bool} (e : ∀ c, f c = h c) : tab V f = tab V h := by rw [funext e]
theorem RSet.congr {w : World} {v : Value} {V : List Nat} {f h : Cfg → Bool} (hs : RSet w v V f) (e : ∀ c, f c = h c) : RSet w v V h := by rw [← funext e]; exact hs
end Go.Proofs.Ytingidbhmbgigaa
