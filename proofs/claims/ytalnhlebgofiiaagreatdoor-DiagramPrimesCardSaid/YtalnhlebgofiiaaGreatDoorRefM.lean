import Derived.Test.YtalnhlebgofiiaaGreatDoorRefH
import Derived.Test.YtalnhlebgofiiaaGreatDoorHas
namespace Go.Proofs.YtalnhlebgofiiaaGreatDoor
open Go.RowKit
open Bd

def flatV (cs : List (Value × Value)) : List Value := cs.flatMap fun c => [c.1, c.2]
theorem flatV_length (cs : List (Value × Value)) : (flatV cs).length = 2 * cs.length := by
  unfold flatV; rw [Bd.length_flat _ _ 2 (by intro; rfl)]; omega
theorem flatV_snoc (cs : List (Value × Value)) (c : Value × Value) : flatV (cs ++ [c]) = flatV cs ++ [c.1, c.2] := by simp [flatV]
theorem flatV_at {cs : List (Value × Value)} {p : Nat} (h : p < cs.length) : (flatV cs)[p * 2]? = some cs[p].1 ∧ (flatV cs)[p * 2 + 1]? = some cs[p].2 := by
  induction cs generalizing p with
  | nil => simp at h
  | cons c cs ih =>
    have e : flatV (c :: cs) = c.1 :: c.2 :: flatV cs := rfl
    cases p with
    | zero => simp [e]
    | succ p =>
      have := ih (p := p) (by simpa using h)
      rw [e, show (p + 1) * 2 = p * 2 + 1 + 1 by omega]
      simpa using this

theorem SRow.off {w w' : World} {v : Value} {l : List Value} {g : Nat} {x : Option Addr} {y z : Nat} (h : SRow w v l) (hl : ∀ u, l[0]? = some u → ∀ x y z, u ≠ .slice x y z) (hg : w.cell? ⟨g, 0, none⟩ = some (.slice x y z)) (fr : Fr (fun k => k = g) w w') : SRow w' v l := by
  obtain ⟨a, cap, rfl, hc⟩ := h
  refine ⟨a, cap, rfl, fun j u hj => ?_⟩
  obtain ⟨g', h1, h2⟩ := hc j u hj
  refine ⟨g', h1, fr.cell' h2 ?_⟩
  rintro rfl
  have hlt : 0 < l.length := by have := (List.getElem?_eq_some_iff.1 hj).1; omega
  obtain ⟨g2, e1, e2⟩ := hc 0 l[0] (by simp [hlt])
  rw [h1] at e1
  cases e1
  rw [hg] at e2
  exact hl _ (List.getElem?_eq_getElem hlt) _ _ _ (Option.some.inj e2).symm
theorem RSet.off {w w' : World} {v : Value} {V : List Nat} {f : Cfg → Bool} {g : Nat} {x : Option Addr} {y z : Nat} (h : RSet w v V f) (hg : w.cell? ⟨g, 0, none⟩ = some (.slice x y z)) (fr : Fr (fun k => k = g) w w') : RSet w' v V f := by
  obtain ⟨h1, h2, sv, st, h3, h4, h5⟩ := h
  refine ⟨h1, h2, sv, st, h3, h4.off (fun u hu => ?_) hg fr, h5.off (fun u hu => ?_) hg fr⟩
  · rw [List.getElem?_map] at hu
    cases hv : V[0]? with
    | none => rw [hv] at hu; cases hu
    | some n => rw [hv] at hu; cases hu; intro _ _ _ e; cases e
  · rw [List.getElem?_map] at hu
    cases hv : (tab V f)[0]? with
    | none => rw [hv] at hu; cases hu
    | some n => rw [hv] at hu; cases hu; intro _ _ _ e; cases e

theorem cube_one (i : Nat) (hi : i < 24) (c : Cfg) : cubeF (2 ^ i) 0 c = c i := by
  rw [Bool.eq_iff_iff, cubeF_iff]
  constructor
  · intro h; exact (h i hi).1 (by rw [Nat.testBit_two_pow]; simp)
  · intro h j hj
    rw [Nat.testBit_two_pow]
    refine ⟨fun e => ?_, by simp⟩
    have : i = j := by simpa using e
    rw [← this]; exact h
theorem info_set : (Tryz.prog.info? 36).map (fun i => (i.zero, i.size, i.bytes)) = some (some (.agg #[.slice none 0 0, .slice none 0 0]), 2, 48) := by kernel_rfl

theorem pow_u32 {i : Nat} (hi : i < 24) : ((2 : Int) ^ i % 4294967296) = ((2 ^ i : Nat) : Int) := by
  have h2 : 2 ^ i < 2 ^ 24 := Nat.pow_lt_pow_right (by omega) hi
  rw [show (2 : Int) ^ i = ((2 ^ i : Nat) : Int) by simp]
  generalize 2 ^ i = m at *
  omega

theorem shl_u32 {i : Nat} (hi : i < 24) : IntKind.u32.wrap (2 ^ min (IntKind.u64.wrap (i : Int)).toNat 32) = ((2 ^ i : Nat) : Int) := by
  have e : (IntKind.u64.wrap (i : Int)).toNat = i := by rw [IntKind.wrap_u64]; omega
  rw [e, Nat.min_eq_left (by omega), IntKind.wrap_u32, pow_u32 hi]


/-- a row of sets of the reference that are these trees -/
def TRow (w : World) (v : Value) (s : List B) : Prop := ∃ (g cap : Nat) (cs : List (Value × Value)), v = .slice (some ⟨g, 0, none⟩) s.length cap ∧ cs.length = s.length ∧ (∀ p (h : p < cs.length), ∃ q n c u m d, cs[p] = (.slice q n c, .slice u m d)) ∧
  (∀ p (h : p < cs.length), ∃ V, RSet w (.agg #[cs[p].1, cs[p].2]) V (s.getD p .F).ev) ∧ ∀ j u, (flatV cs)[j]? = some u → w.cell? ⟨g, j, none⟩ = some u
theorem TRow.kept {w w' : World} {v : Value} {s : List B} (h : TRow w v s) (fr : Fr nob w w') : TRow w' v s := by
  obtain ⟨g, cap, cs, h1, h2, h3, h4, h5⟩ := h
  exact ⟨g, cap, cs, h1, h2, h3, fun p hp => let ⟨V, hV⟩ := h4 p hp; ⟨V, hV.kept fr⟩, fun j u hj => fr.cell' (h5 j u hj) (fun h => h)⟩
theorem TRow.form {w : World} {v : Value} {s : List B} (h : TRow w v s) : ∃ g cap, v = .slice (some ⟨g, 0, none⟩) s.length cap := by
  obtain ⟨g, cap, cs, h1, _⟩ := h; exact ⟨g, cap, h1⟩
theorem TRow.at {w : World} {g n cap : Nat} {s : List B} (h : TRow w (.slice (some ⟨g, 0, none⟩) n cap) s) {k : Nat} (hk : k < s.length) : ∃ q n' c u m d V, w.cell? ⟨g, k * 2, none⟩ = some (.slice q n' c) ∧ w.cell? ⟨g, k * 2 + 1, none⟩ = some (.slice u m d) ∧ RSet w (.agg #[.slice q n' c, .slice u m d]) V (s.getD k .F).ev := by
  obtain ⟨g', cap', cs, h1, h2, h3, h4, h5⟩ := h
  simp only [Value.slice.injEq, Option.some.injEq, Addr.mk.injEq, and_true] at h1
  obtain ⟨rfl, -, -⟩ := h1
  have hk' : k < cs.length := by omega
  obtain ⟨q, n', c, u, m, d, e⟩ := h3 k hk'
  obtain ⟨V, hV⟩ := h4 k hk'
  obtain ⟨f1, f2⟩ := flatV_at hk'
  rw [e] at f1 f2 hV
  exact ⟨q, n', c, u, m, d, V, h5 _ _ f1, h5 _ _ f2, hV⟩

/-- a result's variable after a set was stored -/
theorem said_set {w4 : World} {g : Nat} {qa qt : Option Addr} {n1 ca n3 ct : Nat} {V : List Nat} {f : Cfg → Bool} (h : RSet w4 (.agg #[.slice qa n1 ca, .slice qt n3 ct]) V f) (s0 : w4.cell? ⟨g, 0, none⟩ = some (.slice none 0 0)) :
    RSet ((w4.setCell ⟨g, 0, none⟩ (.slice qa n1 ca)).setCell ⟨g, 1, none⟩ (.slice qt n3 ct)) (.agg #[.slice qa n1 ca, .slice qt n3 ct]) V f := h.stored s0 _ _

theorem cube_ev (on off : Nat) (c : Cfg) : cubeF on off c = (cubeB on off).ev c := by
  unfold cubeB
  split
  · rename_i h
    rw [Bool.eq_iff_iff, cubeF_iff, ev_cubeP24]
    constructor
    · exact fun H i hi => ⟨(H i hi).1, fun _ => (H i hi).2⟩
    · intro H i hi
      refine ⟨(H i hi).1, fun ho => (H i hi).2 ?_ ho⟩
      cases e : on.testBit i with
      | false => rfl
      | true =>
        have := congrArg (fun x => x.testBit i) h
        simp only [Nat.testBit_and, e, ho, Nat.zero_testBit, Bool.true_and] at this
        rw [show 16777215 = 2 ^ 24 - 1 by decide, Nat.testBit_two_pow_sub_one, decide_eq_true hi] at this
        cases this
  · rename_i h
    rw [Bool.eq_iff_iff, cubeF_iff]
    constructor
    · intro H
      exfalso
      apply h
      apply Nat.eq_of_testBit_eq
      intro i
      rw [Nat.testBit_and, Nat.testBit_and, Nat.zero_testBit]
      by_cases hi : i < 24
      · cases e1 : on.testBit i with
        | false => simp
        | true =>
          cases e2 : off.testBit i with
          | false => simp
          | true =>
            have a := (H i hi).1 e1
            rw [(H i hi).2 e2] at a; cases a
      · rw [show 16777215 = 2 ^ 24 - 1 by decide, Nat.testBit_two_pow_sub_one, decide_eq_false hi]; simp
    · intro H; cases H

set_option maxRecDepth 100000 in
set_option maxHeartbeats 1000000 in
theorem RWithOut_any (V : List Nat) (f : Cfg → Bool) (i : Int) (hi : i < 0 ∨ 24 ≤ i) (on : Bool) (va : Value) (w : World) (hsa : RSet w va V f) : Calls Tryz.prog 84 #[va, .int .i64 i, .bool on] w fun e w' => ∃ v', e = .returned v' ∧ RSet w' v' V f ∧ Below w.heap.size w w' := by
  obtain ⟨qa, n1, ca, qt, n3, ct, rfl⟩ := hsa.form
  obtain ⟨a0, a1⟩ := two_cells' w (.slice qa n1 ca) (.slice qt n3 ct) 36
  obtain ⟨r0, r1⟩ := two_cells' (w.alloc (.cells #[.slice qa n1 ca, .slice qt n3 ct] 36)) (.slice none 0 0) (.slice none 0 0) 36
  replace a0 := cell_alloc_l a0 (.cells #[.slice none 0 0, .slice none 0 0] 36)
  replace a1 := cell_alloc_l a1 (.cells #[.slice none 0 0, .slice none 0 0] 36)
  have fr : Fr nob w ((w.alloc (.cells #[.slice qa n1 ca, .slice qt n3 ct] 36)).alloc (.cells #[.slice none 0 0, .slice none 0 0] 36)) := ((Fr.refl nob w).alloc _).alloc _
  have hfz : ∀ o, ((w.alloc (.cells #[.slice qa n1 ca, .slice qt n3 ct] 36)).alloc (.cells #[.slice none 0 0, .slice none 0 0] 36)).frozen? ⟨w.heap.size + 1, o, none⟩ = false := fun o => World.frozen?_alloc_at _ _ _ _ (by simp)
  simp only [World.size_alloc] at a0 a1 r0 r1
  have f0 := hfz 0
  have f1 := hfz 1
  have H := Lib.hid (hsa.kept (((Fr.refl nob w).alloc (.cells #[.slice qa n1 ca, .slice qt n3 ct] 36)).alloc (.cells #[.slice qa n1 ca, .slice qt n3 ct] 36)))
  have HB := Lib.hid ((((Fr.refl nob w).alloc (.cells #[.slice qa n1 ca, .slice qt n3 ct] 36)).alloc (.cells #[.slice qa n1 ca, .slice qt n3 ct] 36)).to_below (Nat.le_refl _) (fun _ h => h.elim))
  clear hfz hsa fr
  by_cases h0 : i < 0
  · clear hi
    go_enter Tryz.func84, Tryz.ntmps84
    go_wp2_with fail
    exact bodyPost_ret (v := .agg #[.slice qa n1 ca, .slice qt n3 ct]) (by simp [results, Tryz.results84, go_sem]) rfl ⟨_, rfl, H.out, HB.out⟩
  · have h1 : 23 < i := by omega
    clear hi
    go_enter Tryz.func84, Tryz.ntmps84
    go_wp2_with fail
    exact bodyPost_ret (v := .agg #[.slice qa n1 ca, .slice qt n3 ct]) (by simp [results, Tryz.results84, go_sem]) rfl ⟨_, rfl, H.out, HB.out⟩
theorem RWith_any (V : List Nat) (f : Cfg → Bool) (i : Int) (on : Bool) (va : Value) (w : World) (hsa : RSet w va V f) : Calls Tryz.prog 84 #[va, .int .i64 i, .bool on] w fun e w' => ∃ v', e = .returned v' ∧ RSet w' v' V (fun c => if 0 ≤ i ∧ i < 24 then f (up c i.toNat on) else f c) ∧ Below w.heap.size w w' := by
  by_cases h : 0 ≤ i ∧ i < 24
  · simp only [if_pos h]
    have e : (i.toNat : Int) = i := Int.toNat_of_nonneg h.1
    cases on with
    | true =>
      have := RWithOn_any V f i.toNat (by omega) va w hsa
      rw [show ik i.toNat = Value.int .i64 i by rw [ik, e]] at this
      exact this
    | false =>
      have := RWithOff_any V f i.toNat (by omega) va w hsa
      rw [show ik i.toNat = Value.int .i64 i by rw [ik, e]] at this
      exact this
  · simp only [if_neg h]
    exact RWithOut_any V f i (by omega) on va w hsa
end Go.Proofs.YtalnhlebgofiiaaGreatDoor
namespace Go.Proofs.YtalnhlebgofiiaaGreatDoor
open Go.RowKit
open Bd

theorem supR_num {b : B} (hb : b.ok 0) {V : List Nat} {f : Cfg → Bool} (hf : onV V f) (he : ∀ c, f c = b.ev c) : numN (depL f V) = supR (li b) := by
  have hfe : f = b.ev := funext he
  apply Nat.eq_of_testBit_eq
  intro i
  rw [Bool.eq_iff_iff, numN_bit, supR_dep hb, mem_depL, hfe]
  constructor
  · exact fun h => h.2
  · intro h
    refine ⟨Classical.byContradiction fun hn => ?_, h⟩
    obtain ⟨c, hc⟩ := h
    rw [← hfe] at hc
    exact hc (hf _ _ fun j hj => by
      have : j ≠ i := fun e => hn (e ▸ hj)
      simp [up, this])

theorem ev_high {b : B} (hb : b.ok 0) (c : Nat) : b.ev (bitsOf (c ||| 4278190080)) = b.ev (bitsOf c) := ev_agree hb fun j _ hj => by
  show (c ||| 4278190080).testBit j = c.testBit j
  rw [Nat.testBit_or]
  have h : (4278190080 : Nat) = 2 ^ 24 * 255 := by decide
  rw [h, Nat.testBit_two_pow_mul]
  simp; omega
end Go.Proofs.YtalnhlebgofiiaaGreatDoor
