import Derived.Test.YtalnhlebgofiiaaGreatDoorRefE
import Derived.Test.YtalnhlebgofiiaaGreatDoorCube
namespace Go.Proofs.YtalnhlebgofiiaaGreatDoor
open Go.RowKit
open Bd

/-- what a set's value looks like -/
theorem RSet.form {w : World} {v : Value} {V : List Nat} {f : Cfg → Bool} (h : RSet w v V f) : ∃ qa n1 ca qt n3 ct, v = .agg #[.slice qa n1 ca, .slice qt n3 ct] := by
  obtain ⟨_, _, sv, st, rfl, h1, h2⟩ := h
  obtain ⟨qa, ca, rfl⟩ := h1.form
  obtain ⟨qt, ct, rfl⟩ := h2.form
  exact ⟨qa, _, ca, qt, _, ct, rfl⟩

/-- a result that was stored: the block in which it lies had no set before -/
theorem RSet.stored {w1 : World} {qa qt : Option Addr} {n1 ca n3 ct b : Nat} {V : List Nat} {f : Cfg → Bool} (h : RSet w1 (.agg #[.slice qa n1 ca, .slice qt n3 ct]) V f) (hb : w1.cell? ⟨b, 0, none⟩ = some (.slice none 0 0)) (x y : Value) :
    RSet ((w1.setCell ⟨b, 0, none⟩ x).setCell ⟨b, 1, none⟩ y) (.agg #[.slice qa n1 ca, .slice qt n3 ct]) V f := by
  obtain ⟨hV, hf, sv, st, e, h1, h2⟩ := h
  simp only [Value.agg.injEq, Array.mk.injEq, List.cons.injEq, and_true] at e
  obtain ⟨rfl, rfl⟩ := e
  refine ⟨hV, hf, _, _, rfl, SRow.store2 h1 (SRow.store2 h1 h1 hb 0 _) hb 1 _, ?_⟩
  have key : ∀ {W : World} (o : Nat) (u : Value), SRow W (.slice qt n3 ct) ((tab V f).map .bool) → SRow (W.setCell ⟨b, o, none⟩ u) (.slice qt n3 ct) ((tab V f).map .bool) := by
    intro W o u h
    obtain ⟨a, cap, e, hc⟩ := h
    refine ⟨a, cap, e, fun j u' hj => ?_⟩
    obtain ⟨g', e1, e2⟩ := hc j u' hj
    have ea : qt = a := by injection e
    have hne : g' ≠ b := by
      rintro rfl
      have h0 : 0 < (tab V f).length := by rw [tab_length]; exact Nat.two_pow_pos _
      obtain ⟨g2, e3, e4⟩ := h2.at (j := 0) (u := .bool (tab V f)[0]) (by simp [h0])
      rw [ea, e1] at e3
      cases e3
      rw [hb] at e4
      cases e4
    exact ⟨g', e1, (fr_store W b o u).cell e2 hne⟩
  exact key 1 _ (key 0 _ h2)

set_option maxRecDepth 100000 in
set_option maxHeartbeats 1000000 in
theorem RAnd_any (V W : List Nat) (f h : Cfg → Bool) (va vb : Value) (w : World) (hsa : RSet w va V f) (hsb : RSet w vb W h) : Calls Tryz.prog 80 #[va, vb] w fun e w' => ∃ v', e = .returned v' ∧ RSet w' v' (joinL V W) (fun c => jnB 0 (f c) (h c)) ∧ Below w.heap.size w w' := by
  obtain ⟨qa, n1, ca, qt, n3, ct, rfl⟩ := hsa.form
  obtain ⟨qb, n2, cb, qu, n4, cu, rfl⟩ := hsb.form
  obtain ⟨a0, a1⟩ := two_cells' w (.slice qa n1 ca) (.slice qt n3 ct) 36
  obtain ⟨b0, b1⟩ := two_cells' (w.alloc (.cells #[.slice qa n1 ca, .slice qt n3 ct] 36)) (.slice qb n2 cb) (.slice qu n4 cu) 36
  obtain ⟨r0, r1⟩ := two_cells' ((w.alloc (.cells #[.slice qa n1 ca, .slice qt n3 ct] 36)).alloc (.cells #[.slice qb n2 cb, .slice qu n4 cu] 36)) (.slice none 0 0) (.slice none 0 0) 36
  replace a0 := cell_alloc_l (cell_alloc_l a0 (.cells #[.slice qb n2 cb, .slice qu n4 cu] 36)) (.cells #[.slice none 0 0, .slice none 0 0] 36)
  replace a1 := cell_alloc_l (cell_alloc_l a1 (.cells #[.slice qb n2 cb, .slice qu n4 cu] 36)) (.cells #[.slice none 0 0, .slice none 0 0] 36)
  replace b0 := cell_alloc_l b0 (.cells #[.slice none 0 0, .slice none 0 0] 36)
  replace b1 := cell_alloc_l b1 (.cells #[.slice none 0 0, .slice none 0 0] 36)
  have fr : Fr nob w (((w.alloc (.cells #[.slice qa n1 ca, .slice qt n3 ct] 36)).alloc (.cells #[.slice qb n2 cb, .slice qu n4 cu] 36)).alloc (.cells #[.slice none 0 0, .slice none 0 0] 36)) := (((Fr.refl nob w).alloc _).alloc _).alloc _
  have f0 : (((w.alloc (.cells #[.slice qa n1 ca, .slice qt n3 ct] 36)).alloc (.cells #[.slice qb n2 cb, .slice qu n4 cu] 36)).alloc (.cells #[.slice none 0 0, .slice none 0 0] 36)).frozen? ⟨w.heap.size + 1 + 1, 0, none⟩ = false := World.frozen?_alloc_at _ _ _ _ (by simp)
  have f1 : (((w.alloc (.cells #[.slice qa n1 ca, .slice qt n3 ct] 36)).alloc (.cells #[.slice qb n2 cb, .slice qu n4 cu] 36)).alloc (.cells #[.slice none 0 0, .slice none 0 0] 36)).frozen? ⟨w.heap.size + 1 + 1, 1, none⟩ = false := World.frozen?_alloc_at _ _ _ _ (by simp)
  simp only [World.size_alloc] at a0 a1 b0 b1 r0 r1
  go_enter Tryz.func80, Tryz.ntmps80
  go_wp2_with fail
  generalize (((w.alloc (.cells #[.slice qa n1 ca, .slice qt n3 ct] 36)).alloc (.cells #[.slice qb n2 cb, .slice qu n4 cu] 36)).alloc (.cells #[.slice none 0 0, .slice none 0 0] 36)) = W0 at *
  refine (RJoin0_any V W f h _ _ _ (hsa.kept fr) (hsb.kept fr)).mono ?_
  rintro e w1 ⟨v', rfl, hs, hb⟩
  have fr1 : Fr nob W0 w1 := (Fr.refl nob W0).below hb
  replace f0 := (fr1.frozen (p := ⟨w.heap.size + 1 + 1, 0, none⟩) (lt_of_cell r0) (fun h => h)).trans f0
  replace f1 := (fr1.frozen (p := ⟨w.heap.size + 1 + 1, 1, none⟩) (lt_of_cell r1) (fun h => h)).trans f1
  replace r0 := fr1.cell' r0 (fun h => h)
  replace r1 := fr1.cell' r1 (fun h => h)
  obtain ⟨q1, m1, c1, q2, m2, c2, rfl⟩ := hs.form
  have hst := hs.stored r0 (.slice q1 m1 c1) (.slice q2 m2 c2)
  have frA := fr.trans fr1 (fun _ _ h => h)
  clear a0 a1 b0 b1 hb hs fr1
  go_wp2_with fail
  refine bodyPost_ret (v := .agg #[.slice q1 m1 c1, .slice q2 m2 c2]) (by simp [results, Tryz.results80, go_sem, r0, r1]) rfl ⟨_, rfl, hst, ?_⟩
  exact ((frA.set1 (by omega) _).set1 (by omega) _).to_below (Nat.le_refl _) (fun _ h => h.elim)

set_option maxRecDepth 100000 in
set_option maxHeartbeats 1000000 in
theorem ROr_any (V W : List Nat) (f h : Cfg → Bool) (va vb : Value) (w : World) (hsa : RSet w va V f) (hsb : RSet w vb W h) : Calls Tryz.prog 81 #[va, vb] w fun e w' => ∃ v', e = .returned v' ∧ RSet w' v' (joinL V W) (fun c => jnB 1 (f c) (h c)) ∧ Below w.heap.size w w' := by
  obtain ⟨qa, n1, ca, qt, n3, ct, rfl⟩ := hsa.form
  obtain ⟨qb, n2, cb, qu, n4, cu, rfl⟩ := hsb.form
  obtain ⟨a0, a1⟩ := two_cells' w (.slice qa n1 ca) (.slice qt n3 ct) 36
  obtain ⟨b0, b1⟩ := two_cells' (w.alloc (.cells #[.slice qa n1 ca, .slice qt n3 ct] 36)) (.slice qb n2 cb) (.slice qu n4 cu) 36
  obtain ⟨r0, r1⟩ := two_cells' ((w.alloc (.cells #[.slice qa n1 ca, .slice qt n3 ct] 36)).alloc (.cells #[.slice qb n2 cb, .slice qu n4 cu] 36)) (.slice none 0 0) (.slice none 0 0) 36
  replace a0 := cell_alloc_l (cell_alloc_l a0 (.cells #[.slice qb n2 cb, .slice qu n4 cu] 36)) (.cells #[.slice none 0 0, .slice none 0 0] 36)
  replace a1 := cell_alloc_l (cell_alloc_l a1 (.cells #[.slice qb n2 cb, .slice qu n4 cu] 36)) (.cells #[.slice none 0 0, .slice none 0 0] 36)
  replace b0 := cell_alloc_l b0 (.cells #[.slice none 0 0, .slice none 0 0] 36)
  replace b1 := cell_alloc_l b1 (.cells #[.slice none 0 0, .slice none 0 0] 36)
  have fr : Fr nob w (((w.alloc (.cells #[.slice qa n1 ca, .slice qt n3 ct] 36)).alloc (.cells #[.slice qb n2 cb, .slice qu n4 cu] 36)).alloc (.cells #[.slice none 0 0, .slice none 0 0] 36)) := (((Fr.refl nob w).alloc _).alloc _).alloc _
  have f0 : (((w.alloc (.cells #[.slice qa n1 ca, .slice qt n3 ct] 36)).alloc (.cells #[.slice qb n2 cb, .slice qu n4 cu] 36)).alloc (.cells #[.slice none 0 0, .slice none 0 0] 36)).frozen? ⟨w.heap.size + 1 + 1, 0, none⟩ = false := World.frozen?_alloc_at _ _ _ _ (by simp)
  have f1 : (((w.alloc (.cells #[.slice qa n1 ca, .slice qt n3 ct] 36)).alloc (.cells #[.slice qb n2 cb, .slice qu n4 cu] 36)).alloc (.cells #[.slice none 0 0, .slice none 0 0] 36)).frozen? ⟨w.heap.size + 1 + 1, 1, none⟩ = false := World.frozen?_alloc_at _ _ _ _ (by simp)
  simp only [World.size_alloc] at a0 a1 b0 b1 r0 r1
  go_enter Tryz.func81, Tryz.ntmps81
  go_wp2_with fail
  generalize (((w.alloc (.cells #[.slice qa n1 ca, .slice qt n3 ct] 36)).alloc (.cells #[.slice qb n2 cb, .slice qu n4 cu] 36)).alloc (.cells #[.slice none 0 0, .slice none 0 0] 36)) = W0 at *
  refine (RJoin1_any V W f h _ _ _ (hsa.kept fr) (hsb.kept fr)).mono ?_
  rintro e w1 ⟨v', rfl, hs, hb⟩
  have fr1 : Fr nob W0 w1 := (Fr.refl nob W0).below hb
  replace f0 := (fr1.frozen (p := ⟨w.heap.size + 1 + 1, 0, none⟩) (lt_of_cell r0) (fun h => h)).trans f0
  replace f1 := (fr1.frozen (p := ⟨w.heap.size + 1 + 1, 1, none⟩) (lt_of_cell r1) (fun h => h)).trans f1
  replace r0 := fr1.cell' r0 (fun h => h)
  replace r1 := fr1.cell' r1 (fun h => h)
  obtain ⟨q1, m1, c1, q2, m2, c2, rfl⟩ := hs.form
  have hst := hs.stored r0 (.slice q1 m1 c1) (.slice q2 m2 c2)
  have frA := fr.trans fr1 (fun _ _ h => h)
  clear a0 a1 b0 b1 hb hs fr1
  go_wp2_with fail
  refine bodyPost_ret (v := .agg #[.slice q1 m1 c1, .slice q2 m2 c2]) (by simp [results, Tryz.results81, go_sem, r0, r1]) rfl ⟨_, rfl, hst, ?_⟩
  exact ((frA.set1 (by omega) _).set1 (by omega) _).to_below (Nat.le_refl _) (fun _ h => h.elim)

set_option maxRecDepth 100000 in
set_option maxHeartbeats 1000000 in
theorem RXor_any (V W : List Nat) (f h : Cfg → Bool) (va vb : Value) (w : World) (hsa : RSet w va V f) (hsb : RSet w vb W h) : Calls Tryz.prog 82 #[va, vb] w fun e w' => ∃ v', e = .returned v' ∧ RSet w' v' (joinL V W) (fun c => jnB 2 (f c) (h c)) ∧ Below w.heap.size w w' := by
  obtain ⟨qa, n1, ca, qt, n3, ct, rfl⟩ := hsa.form
  obtain ⟨qb, n2, cb, qu, n4, cu, rfl⟩ := hsb.form
  obtain ⟨a0, a1⟩ := two_cells' w (.slice qa n1 ca) (.slice qt n3 ct) 36
  obtain ⟨b0, b1⟩ := two_cells' (w.alloc (.cells #[.slice qa n1 ca, .slice qt n3 ct] 36)) (.slice qb n2 cb) (.slice qu n4 cu) 36
  obtain ⟨r0, r1⟩ := two_cells' ((w.alloc (.cells #[.slice qa n1 ca, .slice qt n3 ct] 36)).alloc (.cells #[.slice qb n2 cb, .slice qu n4 cu] 36)) (.slice none 0 0) (.slice none 0 0) 36
  replace a0 := cell_alloc_l (cell_alloc_l a0 (.cells #[.slice qb n2 cb, .slice qu n4 cu] 36)) (.cells #[.slice none 0 0, .slice none 0 0] 36)
  replace a1 := cell_alloc_l (cell_alloc_l a1 (.cells #[.slice qb n2 cb, .slice qu n4 cu] 36)) (.cells #[.slice none 0 0, .slice none 0 0] 36)
  replace b0 := cell_alloc_l b0 (.cells #[.slice none 0 0, .slice none 0 0] 36)
  replace b1 := cell_alloc_l b1 (.cells #[.slice none 0 0, .slice none 0 0] 36)
  have fr : Fr nob w (((w.alloc (.cells #[.slice qa n1 ca, .slice qt n3 ct] 36)).alloc (.cells #[.slice qb n2 cb, .slice qu n4 cu] 36)).alloc (.cells #[.slice none 0 0, .slice none 0 0] 36)) := (((Fr.refl nob w).alloc _).alloc _).alloc _
  have f0 : (((w.alloc (.cells #[.slice qa n1 ca, .slice qt n3 ct] 36)).alloc (.cells #[.slice qb n2 cb, .slice qu n4 cu] 36)).alloc (.cells #[.slice none 0 0, .slice none 0 0] 36)).frozen? ⟨w.heap.size + 1 + 1, 0, none⟩ = false := World.frozen?_alloc_at _ _ _ _ (by simp)
  have f1 : (((w.alloc (.cells #[.slice qa n1 ca, .slice qt n3 ct] 36)).alloc (.cells #[.slice qb n2 cb, .slice qu n4 cu] 36)).alloc (.cells #[.slice none 0 0, .slice none 0 0] 36)).frozen? ⟨w.heap.size + 1 + 1, 1, none⟩ = false := World.frozen?_alloc_at _ _ _ _ (by simp)
  simp only [World.size_alloc] at a0 a1 b0 b1 r0 r1
  go_enter Tryz.func82, Tryz.ntmps82
  go_wp2_with fail
  generalize (((w.alloc (.cells #[.slice qa n1 ca, .slice qt n3 ct] 36)).alloc (.cells #[.slice qb n2 cb, .slice qu n4 cu] 36)).alloc (.cells #[.slice none 0 0, .slice none 0 0] 36)) = W0 at *
  refine (RJoin2_any V W f h _ _ _ (hsa.kept fr) (hsb.kept fr)).mono ?_
  rintro e w1 ⟨v', rfl, hs, hb⟩
  have fr1 : Fr nob W0 w1 := (Fr.refl nob W0).below hb
  replace f0 := (fr1.frozen (p := ⟨w.heap.size + 1 + 1, 0, none⟩) (lt_of_cell r0) (fun h => h)).trans f0
  replace f1 := (fr1.frozen (p := ⟨w.heap.size + 1 + 1, 1, none⟩) (lt_of_cell r1) (fun h => h)).trans f1
  replace r0 := fr1.cell' r0 (fun h => h)
  replace r1 := fr1.cell' r1 (fun h => h)
  obtain ⟨q1, m1, c1, q2, m2, c2, rfl⟩ := hs.form
  have hst := hs.stored r0 (.slice q1 m1 c1) (.slice q2 m2 c2)
  have frA := fr.trans fr1 (fun _ _ h => h)
  clear a0 a1 b0 b1 hb hs fr1
  go_wp2_with fail
  refine bodyPost_ret (v := .agg #[.slice q1 m1 c1, .slice q2 m2 c2]) (by simp [results, Tryz.results82, go_sem, r0, r1]) rfl ⟨_, rfl, hst, ?_⟩
  exact ((frA.set1 (by omega) _).set1 (by omega) _).to_below (Nat.le_refl _) (fun _ h => h.elim)

set_option maxRecDepth 100000 in
set_option maxHeartbeats 1000000 in
theorem RSame_any (V W : List Nat) (f h : Cfg → Bool) (va vb : Value) (w : World) (hsa : RSet w va V f) (hsb : RSet w vb W h) : Calls Tryz.prog 94 #[va, vb] w fun e w' => ∃ b : Bool, e = .returned (.bool b) ∧ (b = true ↔ ∀ c, f c = h c) ∧ Below w.heap.size w w' := by
  obtain ⟨qa, n1, ca, qt, n3, ct, rfl⟩ := hsa.form
  obtain ⟨qb, n2, cb, qu, n4, cu, rfl⟩ := hsb.form
  obtain ⟨a0, a1⟩ := two_cells' w (.slice qa n1 ca) (.slice qt n3 ct) 36
  obtain ⟨b0, b1⟩ := two_cells' (w.alloc (.cells #[.slice qa n1 ca, .slice qt n3 ct] 36)) (.slice qb n2 cb) (.slice qu n4 cu) 36
  replace a0 := cell_alloc_l a0 (.cells #[.slice qb n2 cb, .slice qu n4 cu] 36)
  replace a1 := cell_alloc_l a1 (.cells #[.slice qb n2 cb, .slice qu n4 cu] 36)
  have fr : Fr nob w ((w.alloc (.cells #[.slice qa n1 ca, .slice qt n3 ct] 36)).alloc (.cells #[.slice qb n2 cb, .slice qu n4 cu] 36)) := ((Fr.refl nob w).alloc _).alloc _
  simp only [World.size_alloc] at a0 a1 b0 b1
  go_enter Tryz.func94, Tryz.ntmps94
  go_wp2_with fail
  generalize ((w.alloc (.cells #[.slice qa n1 ca, .slice qt n3 ct] 36)).alloc (.cells #[.slice qb n2 cb, .slice qu n4 cu] 36)) = W0 at *
  refine (RXor_any V W f h _ _ _ (hsa.kept fr) (hsb.kept fr)).mono ?_
  rintro e w1 ⟨v', rfl, hs, hb⟩
  have fr1 := fr.below hb
  clear a0 a1 b0 b1 hb fr
  go_wp2_with fail
  refine (REmpty_any _ _ v' _ hs).mono ?_
  rintro e w2 ⟨rfl, hb⟩
  have he := empty_dec hs.1 hs.2.1
  generalize many (tab (joinL V W) fun c => jnB 2 (f c) (h c)) = m at *
  have He := Lib.hid he
  clear he
  go_wp2_with fail
  go_ret
  refine ⟨decide (m = 0), rfl, ?_, (fr1.below hb).to_below (Nat.le_refl _) (fun _ h => h.elim)⟩
  rw [decide_eq_true_iff, He.out]
  constructor
  · intro hc c
    have := hc c
    simpa [jnB] using this
  · intro hc c
    simp [jnB, hc c]

theorem tab_congr {V : List Nat} {f h : Cfg → Bool} (e : ∀ c, f c = h c) : tab V f = tab V h := by rw [funext e]
theorem RSet.congr {w : World} {v : Value} {V : List Nat} {f h : Cfg → Bool} (hs : RSet w v V f) (e : ∀ c, f c = h c) : RSet w v V h := by rw [← funext e]; exact hs
end Go.Proofs.YtalnhlebgofiiaaGreatDoor
namespace Go.Proofs.YtalnhlebgofiiaaGreatDoor
open Go.RowKit
open Bd

def cubeF (on off : Nat) (c : Cfg) : Bool := (List.range 24).all fun i => (!on.testBit i || c i) && (!off.testBit i || !c i)
theorem cubeF_iff {on off : Nat} {c : Cfg} : cubeF on off c = true ↔ ∀ i, i < 24 → (on.testBit i = true → c i = true) ∧ (off.testBit i = true → c i = false) := by
  simp only [cubeF, List.all_eq_true, List.mem_range]
  constructor
  · intro h i hi
    have := h i hi
    cases h1 : on.testBit i <;> cases h2 : off.testBit i <;> cases h3 : c i <;> simp_all
  · intro h i hi
    have := h i hi
    cases h1 : on.testBit i <;> cases h2 : off.testBit i <;> cases h3 : c i <;> simp_all
theorem cubeF_on (on off : Nat) : onV (featL (on ||| off)) (cubeF on off) := by
  intro c d h
  have e : ∀ {c d : Cfg}, (∀ i ∈ featL (on ||| off), c i = d i) → cubeF on off c = true → cubeF on off d = true := by
    intro c d h hc
    rw [cubeF_iff] at hc ⊢
    intro i hi
    obtain ⟨h1, h2⟩ := hc i hi
    refine ⟨fun hb => ?_, fun hb => ?_⟩
    · rw [← h i (mem_featL.2 ⟨hi, by rw [Nat.testBit_or, hb]; rfl⟩)]; exact h1 hb
    · rw [← h i (mem_featL.2 ⟨hi, by rw [Nat.testBit_or, hb]; simp⟩)]; exact h2 hb
  rw [Bool.eq_iff_iff]
  exact ⟨e h, e (fun i hi => (h i hi).symm)⟩
theorem cubeF_num {on off cc : Nat} (hc : cc < 2 ^ 24) : (cc &&& on = on % 16777216 ∧ cc &&& off = 0) ↔ cubeF on off (bitsOf cc) = true := by
  rw [cubeF_iff]
  have hm : ∀ i, (on % 16777216).testBit i = (decide (i < 24) && on.testBit i) := fun i => by
    rw [show 16777216 = 2 ^ 24 from rfl, Nat.testBit_mod_two_pow]
  have hlt : ∀ i, cc.testBit i = true → i < 24 := fun i h => Classical.byContradiction fun hn => by
    rw [Nat.testBit_lt_two_pow (Nat.lt_of_lt_of_le hc (Nat.pow_le_pow_right (by omega) (by omega)))] at h; cases h
  constructor
  · rintro ⟨h1, h2⟩ i hi
    have e1 := congrArg (fun n => n.testBit i) h1
    have e2 := congrArg (fun n => n.testBit i) h2
    simp only [Nat.testBit_and, hm, hi, decide_true, Bool.true_and, Nat.zero_testBit] at e1 e2
    show (_ → cc.testBit i = true) ∧ (_ → cc.testBit i = false)
    cases h3 : cc.testBit i <;> simp_all
  · intro h
    constructor
    · apply Nat.eq_of_testBit_eq; intro i
      rw [Nat.testBit_and, hm]
      by_cases hi : i < 24
      · have : _ → cc.testBit i = true := (h i hi).1
        cases h3 : cc.testBit i <;> cases h4 : on.testBit i <;> simp_all
      · have : cc.testBit i = false := by rw [Bool.eq_false_iff]; exact fun h => hi (hlt i h)
        simp [this, hi]
    · apply Nat.eq_of_testBit_eq; intro i
      rw [Nat.testBit_and, Nat.zero_testBit]
      by_cases hi : i < 24
      · have : _ → cc.testBit i = false := (h i hi).2
        cases h3 : cc.testBit i <;> cases h4 : off.testBit i <;> simp_all
      · have : cc.testBit i = false := by rw [Bool.eq_false_iff]; exact fun h => hi (hlt i h)
        simp [this]

set_option maxRecDepth 100000 in
set_option maxHeartbeats 1000000 in
theorem RCube_any (on off : Nat) (hon : on < 2 ^ 32) (hoff : off < 2 ^ 32) (w : World) : Calls Tryz.prog 78 #[.int .u32 (on : Int), .int .u32 (off : Int)] w fun e w' => ∃ v', e = .returned v' ∧ RSet w' v' (featL (on ||| off)) (cubeF on off) ∧ Below w.heap.size w w' := by
  have hU := rising_featL (on ||| off)
  have hcon := cubeF_on on off
  have hl := rising_len hU
  have hTl := tab_length (featL (on ||| off)) (cubeF on off)
  have hTk : ∀ k (hk : k < (tab (featL (on ||| off)) (cubeF on off)).length), (tab (featL (on ||| off)) (cubeF on off))[k] = cubeF on off (bitsOf (cfgN (featL (on ||| off)) k)) := fun k hk => by
    have := tab_at (V := featL (on ||| off)) (f := cubeF on off) (by rw [← hTl]; exact hk)
    exact (List.getElem?_eq_some_iff.1 this).2
  obtain ⟨T, hT⟩ : ∃ T, T = tab (featL (on ||| off)) (cubeF on off) := ⟨_, rfl⟩
  rw [← hT] at hTl hTk
  have HF := Lib.hid hT
  have Htl := Lib.hid hTl
  have HTk := Lib.hid hTk
  have hpow : 2 ^ (featL (on ||| off)).length ≤ 16777216 := Nat.pow_le_pow_right (by omega) hl
  have hT16 : T.length ≤ 16777216 := by omega
  have hk62 : ∀ k, k < T.length → k < 2 ^ 62 := fun k hk => Nat.lt_of_lt_of_le hk (Nat.le_trans hT16 (by decide))
  have Hk62 := Lib.hid hk62
  clear hT hTl hTk hk62 hpow
  have HO := Lib.hid (show bits BinOp.or IntKind.u32 (on : Int) (off : Int) = ((on ||| off : Nat) : Int) from (bits_nat .u32 32 (by decide) wraps_u32 _ _ hon hoff).2)
  have hor : on ||| off < 2 ^ 32 := Nat.or_lt_two_pow hon hoff
  obtain ⟨r0, r1⟩ := two_cells' w (.slice none 0 0) (.slice none 0 0) 36
  have fr : Fr nob w (w.alloc (.cells #[.slice none 0 0, .slice none 0 0] 36)) := (Fr.refl nob w).alloc _
  have hfz : ∀ o, (w.alloc (.cells #[.slice none 0 0, .slice none 0 0] 36)).frozen? ⟨w.heap.size, o, none⟩ = false := fun o => World.frozen?_alloc_at _ _ _ _ (by simp)
  have hfe := Features_any (on ||| off) hor
  generalize featL (on ||| off) = U at *
  go_enter Tryz.func78, Tryz.ntmps78
  go_wp2_with fail
  generalize w.alloc (.cells #[.slice none 0 0, .slice none 0 0] 36) = W0 at *
  rw [HO.out]
  refine (hfe _).mono ?_
  clear hfe
  rintro e w1 ⟨v1, rfl, hs1, hb⟩
  have fr1 : Fr nob W0 w1 := (Fr.refl nob _).below hb
  have f0 := (fr1.frozen (p := ⟨w.heap.size, 0, none⟩) (lt_of_cell r0) (fun h => h)).trans (hfz 0)
  have f1 := (fr1.frozen (p := ⟨w.heap.size, 1, none⟩) (lt_of_cell r1) (fun h => h)).trans (hfz 1)
  replace r0 := fr1.cell' r0 (fun h => h)
  replace r1 := fr1.cell' r1 (fun h => h)
  have frw := fr.trans fr1 (fun _ _ h => h)
  obtain ⟨qv, cv, rfl⟩ := hs1.form
  rw [List.length_map] at hs1 ⊢
  have hsw1 := hs1
  have r0w := r0
  clear fr fr1 hb hfz
  go_wp2_with fail
  refine (Blank_len U.length T.length hl Htl.out qv cv _).mono ?_
  rintro e w2 ⟨g, rfl, row2, hb2⟩
  have fr2 : Fr nob w1 w2 := (Fr.refl nob _).below hb2
  replace f0 := (fr2.frozen (p := ⟨w.heap.size, 0, none⟩) (lt_of_cell r0) (fun h => h)).trans f0
  replace f1 := (fr2.frozen (p := ⟨w.heap.size, 1, none⟩) (lt_of_cell r1) (fun h => h)).trans f1
  have lw1 := lt_of_cell r0
  simp only at lw1
  replace r0 := fr2.cell' r0 (fun h => h)
  replace r1 := fr2.cell' r1 (fun h => h)
  replace frw := frw.trans fr2 (fun _ _ h => h)
  replace hs1 := hs1.kept fr2
  obtain ⟨S0, hg1, hg2⟩ := FillSt.start (sv := .slice qv U.length cv) (T0 := 36) rfl row2
  have fr3 : Fr nob w2 (w2.alloc (.cells #[.slice qv U.length cv, .slice (some ⟨g, 0, none⟩) T.length T.length] 36)) := (Fr.refl nob w2).alloc _
  clear row2 fr2 hb2
  go_wp2_with fail
  generalize w2.alloc (.cells #[.slice qv U.length cv, .slice (some ⟨g, 0, none⟩) T.length T.length] 36) = W3 at *
  replace f0 := (fr3.frozen (p := ⟨w.heap.size, 0, none⟩) (lt_of_cell r0) (fun h => h)).trans f0
  replace f1 := (fr3.frozen (p := ⟨w.heap.size, 1, none⟩) (lt_of_cell r1) (fun h => h)).trans f1
  have lw2 := lt_of_cell r0
  simp only at lw2
  replace r0 := fr3.cell' r0 (fun h => h)
  replace r1 := fr3.cell' r1 (fun h => h)
  have hs3 := hs1.kept fr3
  replace frw := frw.trans fr3 (fun _ _ h => h)
  have z3 := fr3.size
  clear fr3 hs1
  go_loopw [6] (fun kv wr => ∃ k : Nat, k ≤ T.length ∧ kv = ik k ∧ FillSt W3 w2.heap.size g (.slice qv U.length cv) T k wr) (fun kv _ => T.length - (intOf kv).toNat)
  case atStart => exact ⟨0, Nat.zero_le _, rfl, S0⟩
  case round =>
    clear S0
    obtain ⟨k, hk, rfl, S⟩ := hrel
    have o0 := S.o0
    have o1 := S.o1
    by_cases hlt : k < T.length
    · have hsr : SRow wr (.slice qv U.length cv) (U.map ik) := hsw1.keep2 hs3 S.fr hg1
      have hcf := Config_any U hU k (Hk62.out k hlt) (.slice qv U.length cv) wr hsr
      have hc24 := cfgN_lt hU k
      have hxy := HTk.out k hlt
      generalize cfgN U k = cc at *
      have hnum := cubeF_num (on := on) (off := off) hc24
      generalize cubeF on off (bitsOf cc) = x at *
      have hc32 : cc < 2 ^ 32 := Nat.lt_of_lt_of_le hc24 (by decide)
      have e1 : (bits BinOp.and IntKind.u32 (cc : Int) (on : Int) == (on : Int) % 16777216) = decide (cc &&& on = on % 16777216) := by
        rw [and_u32 cc on hc32 hon, show (on : Int) % 16777216 = ((on % 16777216 : Nat) : Int) by omega]; exact beq_dec _ _
      have e2 : (bits BinOp.and IntKind.u32 (cc : Int) (off : Int) == 0) = decide (cc &&& off = 0) := by
        rw [and_u32 cc off hc32 hoff, show (0 : Int) = ((0 : Nat) : Int) from rfl]; exact beq_dec _ _
      go_wp2_with fail
      refine hcf.mono ?_
      rintro e wr' ⟨rfl, rfl⟩
      have hSp := S.put hlt hxy
      have hfz := S.row.frozenAt k
      have hok : (wr.cell? ⟨g, k, none⟩).isSome = true := by
        rw [S.row.cellAt k (by omega)]
        have : k < (part T k).length := by rw [part_length _ _ (by omega)]; exact hlt
        simp [this]
      obtain ⟨yv, hyv⟩ := Option.isSome_iff_exists.1 hok
      clear S hok hxy hcf hsr
      by_cases p1 : cc &&& on = on % 16777216
      · have e1' : (bits BinOp.and IntKind.u32 (cc : Int) (on : Int) == (on : Int) % 16777216) = true := by rw [e1]; simp [p1]
        by_cases p2 : cc &&& off = 0
        · have e2' : (bits BinOp.and IntKind.u32 (cc : Int) (off : Int) == 0) = true := by rw [e2]; simp [p2]
          have hx : x = true := hnum.1 ⟨p1, p2⟩
          rw [hx] at hSp
          clear hnum e1 e2 p1 p2 hx
          go_wp2_with fail
          refine ⟨⟨k + 1, by omega, by go_num, hSp⟩, by simp [intOf]; omega⟩
        · have e2' : (bits BinOp.and IntKind.u32 (cc : Int) (off : Int) == 0) = false := by rw [e2]; simp [p2]
          have hx : x = false := by rw [Bool.eq_false_iff]; intro h; exact p2 (hnum.2 h).2
          rw [hx] at hSp
          clear hnum e1 e2 p1 p2 hx
          go_wp2_with fail
          refine ⟨⟨k + 1, by omega, by go_num, hSp⟩, by simp [intOf]; omega⟩
      · have e1' : (bits BinOp.and IntKind.u32 (cc : Int) (on : Int) == (on : Int) % 16777216) = false := by rw [e1]; simp [p1]
        have hx : x = false := by rw [Bool.eq_false_iff]; intro h; exact p1 (hnum.2 h).1
        rw [hx] at hSp
        clear hnum e1 e2 p1 hx
        go_wp2_with fail
        refine ⟨⟨k + 1, by omega, by go_num, hSp⟩, by simp [intOf]; omega⟩
    · obtain rfl : k = T.length := by omega
      have s0 := S.fr.cell' r0 (by omega)
      have s1 := S.fr.cell' r1 (by omega)
      have sf0 := (S.fr.frozen (p := ⟨w.heap.size, 0, none⟩) (lt_of_cell r0) (by simp; omega)).trans f0
      have sf1 := (S.fr.frozen (p := ⟨w.heap.size, 1, none⟩) (lt_of_cell r1) (by simp; omega)).trans f1
      have hd := S.done
      have hfw := frw.trans' S.fr (T := fun k => w.heap.size ≤ k) (fun _ _ h => h.elim) (fun j hj e => by omega)
      have hsr : SRow wr (.slice qv U.length cv) (U.map ik) := hsw1.keep2 hs3 S.fr hg1
      clear S r0 r1 f0 f1
      go_wp2_with fail
      refine bodyPost_ret (v := .agg #[.slice qv U.length cv, .slice (some ⟨g, 0, none⟩) T.length T.length]) (by simp [results, Tryz.results78, go_sem, s0, s1]) rfl ⟨_, rfl, ⟨hU, hcon, _, _, rfl, ?_, ?_⟩, ?_⟩
      · exact SRow.store2 hsw1 (SRow.store2 hsw1 hsr r0w 0 _) r0w 1 _
      · rw [← HF.out]
        exact (hd.store (by omega) 0 _).store (by omega) 1 _
      · exact ((hfw.setCell (p := ⟨w.heap.size, 0, none⟩) (by simp) _).setCell (p := ⟨w.heap.size, 1, none⟩) (by simp) _).to_below (Nat.le_refl _) (fun _ h => h)
end Go.Proofs.YtalnhlebgofiiaaGreatDoor
