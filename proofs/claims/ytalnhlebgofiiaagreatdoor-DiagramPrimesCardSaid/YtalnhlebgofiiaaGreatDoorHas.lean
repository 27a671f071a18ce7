import Derived.Test.YtalnhlebgofiiaaGreatDoorOps
import Derived.LoopTactic
import Derived.Laws.BitsLemmas
import Derived.Test.YtalnhlebgofiiaaGreatDoorSem
namespace Go.Proofs.YtalnhlebgofiiaaGreatDoor
open Go.RowKit
namespace Bd

theorem pos_kid : ∀ {R : List B} {i : Nat} {lo hi : B}, good R → B.N i lo hi ∈ R → place R lo < place R (B.N i lo hi) ∧ place R hi < place R (B.N i lo hi)
  | [], _, _, _, _, h => by cases h
  | .F :: _, _, _, _, hg, _ => False.elim hg
  | .T :: _, _, _, _, hg, _ => False.elim hg
  | .N j l u :: r, i, lo, hi, hg, h => by
    obtain ⟨hn, hl, hu, hr⟩ := hg
    by_cases e : B.N i lo hi = .N j l u
    · cases e
      rw [place_cons hl hn, place_cons hu hn]
      have h1 := place_lt hl
      have h2 := place_lt hu
      have h3 : place (B.N j l u :: r) (B.N j l u) = r.length + 2 := by simp [place, pos]
      omega
    · have hm := List.mem_of_ne_of_mem e h
      obtain ⟨_, k1, k2⟩ := rows_at hr hm
      rw [place_cons k1 hn, place_cons k2 hn, place_cons (.inr hm) hn]
      exact pos_kid hr hm
end Bd
open Bd

theorem wraps_u32 (n : Int) (h₀ : 0 ≤ n) (h₁ : n < 2 ^ 32) : IntKind.u32.wrap n = n := by rw [IntKind.wrap_u32]; omega

theorem bit_u32 (c i : Nat) (hc : c < 2 ^ 32) : (bits BinOp.and IntKind.u32 ((c : Int) / 2 ^ i) 1 == 1) = c.testBit i := by
  have e : (c : Int) / 2 ^ i = ((c / 2 ^ i : Nat) : Int) := by simp
  have hlt : c / 2 ^ i < 2 ^ 32 := Nat.lt_of_le_of_lt (Nat.div_le_self _ _) hc
  have h := (bits_nat .u32 32 (by decide) wraps_u32 (c / 2 ^ i) 1 hlt (by decide)).1
  rw [e, show (1 : Int) = ((1 : Nat) : Int) from rfl, h, Nat.and_one_is_mod, Nat.testBit_eq_decide_div_mod_eq]
  exact beq_dec _ _

set_option maxRecDepth 100000 in
set_option maxHeartbeats 400000 in
theorem Has_any (A : B) (hA : A.ok 0) (c : Nat) (hc : c < 2 ^ 32) (w : World) : Calls Tryz.prog 33 #[dval A, .int .u32 (c : Int)] w fun e w' => e = .returned (.bool (A.ev fun i => c.testBit i)) ∧ Below w.heap.size w w' := by
  have a0 : (w.alloc (.cells #[.int .u32 (place (li A) A : Int), .string ⟨(code (rows (li A))).toArray⟩] 32)).cell? ⟨w.heap.size, 0, none⟩ = some (.int .u32 (place (li A) A : Int)) := World.cell?_alloc_at _ _ _ _ (by simp)
  have a1 : (w.alloc (.cells #[.int .u32 (place (li A) A : Int), .string ⟨(code (rows (li A))).toArray⟩] 32)).cell? ⟨w.heap.size, 1, none⟩ = some (.string ⟨(code (rows (li A))).toArray⟩) := World.cell?_alloc_at _ _ _ _ (by simp)
  have fr : Fr nob w (w.alloc (.cells #[.int .u32 (place (li A) A : Int), .string ⟨(code (rows (li A))).toArray⟩] 32)) := (Fr.refl nob w).alloc _
  go_enter Tryz.func33, Tryz.ntmps33
  go_wp2_with fail
  generalize w.alloc (.cells #[.int .u32 (place (li A) A : Int), .string ⟨(code (rows (li A))).toArray⟩] 32) = W at *
  go_loopw [5, 6] (fun v _ wr => ∃ x : B, inn (li A) x ∧ v = .int .u32 (place (li A) x : Int) ∧ (x.ev (fun i => c.testBit i) = A.ev fun i => c.testBit i) ∧ Fr nob w wr ∧ wr.cell? ⟨w.heap.size, 0, none⟩ = some (.int .u32 (place (li A) A : Int)) ∧ wr.cell? ⟨w.heap.size, 1, none⟩ = some (.string ⟨(code (rows (li A))).toArray⟩)) (fun v _ _ => (intOf v).toNat)
  case atStart => exact ⟨A, inn_li A, rfl, rfl, fr, a0, a1⟩
  case round =>
    clear a0 a1 fr
    obtain ⟨x, hx, rfl, hev, fr, a0, a1⟩ := hrel
    have hp : place (li A) x < 2 ∨ 2 ≤ place (li A) x := by omega
    go_wp2_with fail
    · have h2 : 2 ≤ place (li A) x := by have h : (2 : Int) ≤ (place (li A) x : Int) := by assumption
                                         omega
      cases x with
      | F => simp [place] at h2
      | T => simp [place] at h2
      | N i l u =>
        refine (at_any A (.N i l u) hA hx _).mono ?_
        rintro e w1 ⟨rfl, hb⟩
        have hm : B.N i l u ∈ li A := hx.resolve_left (by simp [B.const])
        obtain ⟨h1, hl, hu⟩ := rows_at (good_li A) hm
        have ⟨hkl, hku⟩ := pos_kid (good_li A) hm
        have hi : i < 24 := (rows_small (good_li A) (small_li hA) _ (List.mem_of_getElem? h1)).1
        have fr1 := fr.below hb
        have b0 := ((Fr.refl nob wr).below hb).cell a0 (fun h => h)
        have b1 := ((Fr.refl nob wr).below hb).cell a1 (fun h => h)
        clear hb a0 a1 fr
        simp only [rowB, B.top, B.lo, B.hi, nk] at *
        go_wp2_with fail
        · have hb : c.testBit i = true := by rw [← bit_u32 c i hc]; assumption
          refine ⟨⟨u, hu, rfl, ?_, fr1.alloc _, cell_alloc_l b0 _, cell_alloc_l b1 _⟩, by simp [intOf]; omega⟩
          rw [← hev]; simp [B.ev, hb]
        · have hb : c.testBit i = false := by rw [← bit_u32 c i hc]; assumption
          refine ⟨⟨l, hl, rfl, ?_, fr1.alloc _, cell_alloc_l b0 _, cell_alloc_l b1 _⟩, by simp [intOf]; omega⟩
          rw [← hev]; simp [B.ev, hb]
    · have h2 : place (li A) x < 2 := by have h : (place (li A) x : Int) < 2 := by assumption
                                         omega
      have e : ((place (li A) x : Int) == 1) = A.ev fun i => c.testBit i := by
        rw [← hev, show (1 : Int) = ((1 : Nat) : Int) from rfl, beq_dec]
        rcases place_lt2.1 h2 with rfl | rfl <;> simp [place, B.ev]
      refine bodyPost_ret (v := .bool ((place (li A) x : Int) == 1)) (by simp [results, Tryz.results33, go_sem]) rfl ⟨by rw [e], fr.to_below (Nat.le_refl _) (fun _ h => h.elim)⟩
end Go.Proofs.YtalnhlebgofiiaaGreatDoor
namespace Go.Proofs.YtalnhlebgofiiaaGreatDoor
open Go.RowKit
open Bd
set_option maxRecDepth 100000 in
set_option maxHeartbeats 400000 in
theorem size_any (A : B) (hA : A.ok 0) (w : World) : Calls Tryz.prog 57 #[dval A] w fun e w' => e = .returned (.int .u32 ((li A).length : Int)) ∧ Below w.heap.size w w' := by
  go_enter Tryz.func57, Tryz.ntmps57
  go_wp2_with fail
  have hl : (code (rows (li A))).length = 7 * (li A).length := by rw [code_length, rows_length (good_li A)]
  have hs := (small_li hA).1
  have e : wrap64 (((code (rows (li A))).length : Int) / 7) % 4294967296 = ((li A).length : Int) := by
    rw [hl]; unfold wrap64; omega
  refine bodyPost_ret (v := .int .u32 (wrap64 (((code (rows (li A))).length : Int) / 7) % 4294967296)) (by simp [results, Tryz.results57, go_sem]) rfl ⟨by rw [e], (Below.refl _ _).alloc (Nat.le_refl _) _⟩

set_option maxRecDepth 100000 in
set_option maxHeartbeats 400000 in
theorem Size_any (A : B) (hA : A.ok 0) (w : World) : Calls Tryz.prog 32 #[dval A] w fun e w' => e = .returned (.int .i64 ((li A).length : Int)) ∧ Below w.heap.size w w' := by
  have hs := (small_li hA).1
  go_enter Tryz.func32, Tryz.ntmps32
  go_wp2_with fail
  refine (size_any A hA _).mono ?_
  rintro e w1 ⟨rfl, hb⟩
  go_wp2_with fail
  exact bodyPost_ret (v := .int .i64 ((li A).length : Int)) (by simp [results, Tryz.results32, go_sem]) rfl ⟨rfl, (((Fr.refl nob w).alloc _).below hb).to_below (Nat.le_refl _) (fun _ h => h.elim)⟩

theorem nth_place : ∀ {R : List B} {k : Nat}, good R → k < R.length → ∃ x, x ∈ R ∧ place R x = k + 2 ∧ R.drop (R.length - (k + 1)) = x :: R.drop (R.length - k)
  | [], _, _, h => by simp at h
  | .F :: _, _, hg, _ => False.elim hg
  | .T :: _, _, hg, _ => False.elim hg
  | .N i l u :: r, k, hg, h => by
    obtain ⟨hn, _, _, hr⟩ := hg
    by_cases e : k = r.length
    · subst e
      exact ⟨.N i l u, List.mem_cons_self, by simp [place, pos], by simp⟩
    · have hk : k < r.length := by simp at h; omega
      obtain ⟨x, hx, hp, hd⟩ := nth_place hr hk
      refine ⟨x, List.mem_cons_of_mem _ hx, by rw [place_cons (.inr hx) hn]; exact hp, ?_⟩
      rw [List.length_cons, show r.length + 1 - (k + 1) = (r.length - (k + 1)) + 1 by omega, show r.length + 1 - k = (r.length - k) + 1 by omega, List.drop_succ_cons, List.drop_succ_cons]
      exact hd

theorem run_node_feature (a b c : Value) (w : World) : (Instr.field 98 (.agg #[a, b, c]) 0).run Tryz.prog w = .ok a w := by kernel_rfl

/-- the tests of the nodes that are listed, as a number -/
def supR : List B → Nat
  | [] => 0
  | b :: r => supR r ||| 1 <<< b.top

theorem supR_lt : ∀ {R : List B}, (∀ b ∈ R, b.top < 24) → supR R < 2 ^ 24
  | [], _ => by simp [supR]
  | b :: r, h => by
    refine Nat.or_lt_two_pow (supR_lt fun x hx => h x (List.mem_cons_of_mem _ hx)) ?_
    rw [Nat.one_shiftLeft]
    exact Nat.pow_lt_pow_right (by omega) (h b List.mem_cons_self)

theorem top_lt : ∀ {R : List B}, good R → (∀ b ∈ R, b.ok 0) → ∀ b ∈ R, b.top < 24
  | [], _, _, _, h => by cases h
  | .F :: _, hg, _, _, _ => False.elim hg
  | .T :: _, hg, _, _, _ => False.elim hg
  | .N i l u :: r, hg, ho, b, h => by
    rcases List.mem_cons.1 h with rfl | h
    · have : (B.N i l u).ok 0 := ho _ List.mem_cons_self
      simp only [B.ok] at this
      show i < 24
      omega
    · exact top_lt hg.2.2.2 (fun x hx => ho x (List.mem_cons_of_mem _ hx)) b h

theorem or_u32 (s i : Nat) (hs : s < 2 ^ 24) (hi : i < 24) : bits BinOp.or IntKind.u32 (s : Int) (2 ^ i % 4294967296) = ((s ||| 1 <<< i : Nat) : Int) := by
  have h1 : 2 ^ i < 2 ^ 24 := Nat.pow_lt_pow_right (by omega) hi
  have e : ((2 : Int) ^ i % 4294967296) = ((2 ^ i : Nat) : Int) := by
    rw [show (2 : Int) ^ i = ((2 ^ i : Nat) : Int) by simp]
    generalize 2 ^ i = m at *
    omega
  rw [e, (bits_nat .u32 32 (by decide) wraps_u32 s (2 ^ i) (by omega) (by omega)).2, Nat.one_shiftLeft]

set_option maxRecDepth 100000 in
set_option maxHeartbeats 400000 in
theorem Support_any (A : B) (hA : A.ok 0) (w : World) : Calls Tryz.prog 22 #[dval A] w fun e w' => e = .returned (.int .u32 (supR (li A) : Int)) ∧ Below w.heap.size w w' := by
  have a0 : (w.alloc (.cells #[.int .u32 (place (li A) A : Int), .string ⟨(code (rows (li A))).toArray⟩] 32)).cell? ⟨w.heap.size, 0, none⟩ = some (.int .u32 (place (li A) A : Int)) := World.cell?_alloc_at _ _ _ _ (by simp)
  have a1 : (w.alloc (.cells #[.int .u32 (place (li A) A : Int), .string ⟨(code (rows (li A))).toArray⟩] 32)).cell? ⟨w.heap.size, 1, none⟩ = some (.string ⟨(code (rows (li A))).toArray⟩) := World.cell?_alloc_at _ _ _ _ (by simp)
  have fr : Fr nob w (w.alloc (.cells #[.int .u32 (place (li A) A : Int), .string ⟨(code (rows (li A))).toArray⟩] 32)) := (Fr.refl nob w).alloc _
  have hs := (small_li hA).1
  go_enter Tryz.func22, Tryz.ntmps22
  go_wp2_with fail
  generalize w.alloc (.cells #[.int .u32 (place (li A) A : Int), .string ⟨(code (rows (li A))).toArray⟩] 32) = W at *
  refine (size_any A hA _).mono ?_
  rintro e w1 ⟨rfl, hb⟩
  replace fr := fr.below hb
  replace a0 := ((Fr.refl nob W).below hb).cell a0 (fun h => h)
  replace a1 := ((Fr.refl nob W).below hb).cell a1 (fun h => h)
  clear hb
  go_wp2_with fail
  go_loopw [3, 4, 7] (fun s _ p wr => ∃ k : Nat, k ≤ (li A).length ∧ p = .int .u32 (k : Int) ∧ s = .int .u32 (supR ((li A).drop ((li A).length - k)) : Int) ∧ Fr nob w wr ∧ wr.cell? ⟨w.heap.size, 0, none⟩ = some (.int .u32 (place (li A) A : Int)) ∧ wr.cell? ⟨w.heap.size, 1, none⟩ = some (.string ⟨(code (rows (li A))).toArray⟩)) (fun _ _ p _ => (li A).length - (intOf p).toNat)
  case atStart => exact ⟨0, Nat.zero_le _, rfl, by simp [supR], fr, a0, a1⟩
  case round =>
    clear a0 a1 fr
    obtain ⟨k, hk, rfl, rfl, fr, a0, a1⟩ := hrel
    go_wp2_with fail
    · have hlt : k < (li A).length := by assumption
      obtain ⟨x, hx, hp, hd⟩ := nth_place (good_li A) hlt
      have h := at_any A x hA (.inr hx) wr
      rw [hp] at h
      refine h.mono ?_
      rintro e w1 ⟨rfl, hb⟩
      clear h
      have hi : x.top < 24 := by
        have := (small_li hA).2 x hx
        cases x with
        | N i l u => exact (rows_small (good_li A) (small_li hA) _ (List.mem_of_getElem? (rows_at (good_li A) hx).1)).1
        | F => simp [place] at hp
        | T => simp [place] at hp
      have fr1 := fr.below hb
      have b0 := ((Fr.refl nob wr).below hb).cell a0 (fun h => h)
      have b1 := ((Fr.refl nob wr).below hb).cell a1 (fun h => h)
      clear hb a0 a1 fr
      simp only [rowB, nk] at *
      have hfd := run_node_feature (.int .u8 (x.top : Int)) (.int .u32 (place (li A) x.lo : Int)) (.int .u32 (place (li A) x.hi : Int))
      go_wp2_with fail
      have ho := or_u32 (supR (List.drop ((li A).length - k) (li A))) x.top (supR_lt fun b hb => top_lt (good_li A) (small_li hA).2 b (List.mem_of_mem_drop hb)) hi
      refine ⟨⟨k + 1, by omega, by simp, ?_, fr1, b0, b1⟩, by simp [intOf]; omega⟩
      rw [ho, hd]
      rfl
    · have hle : k = (li A).length := by have : ¬ k < (li A).length := by assumption
                                         omega
      subst hle
      exact bodyPost_ret (v := .int .u32 (supR (li A) : Int)) (by simp [results, Tryz.results22, go_sem]) rfl ⟨rfl, fr.to_below (Nat.le_refl _) (fun _ h => h.elim)⟩
end Go.Proofs.YtalnhlebgofiiaaGreatDoor
namespace Go.Proofs.YtalnhlebgofiiaaGreatDoor
open Go.RowKit
namespace Bd

/-! ### the complement -/
def B.neg : B → B
  | .F => .T
  | .T => .F
  | .N i l h => .N i l.neg h.neg

theorem neg_neg (b : B) : b.neg.neg = b := by
  induction b with
  | F => rfl
  | T => rfl
  | N i l h il ih => simp [B.neg, il, ih]
theorem neg_inj {a b : B} (h : a.neg = b.neg) : a = b := by rw [← neg_neg a, h, neg_neg]
theorem ok_neg {b : B} : ∀ {n : Nat}, b.ok n → b.neg.ok n := by
  induction b with
  | F => intros; trivial
  | T => intros; trivial
  | N i l h il ih => intro n ⟨h1, h2, h3, h4, h5⟩; exact ⟨h1, h2, fun e => h3 (neg_inj e), il h4, ih h5⟩
theorem ev_neg (b : B) (c : Cfg) : b.neg.ev c = !b.ev c := by
  induction b with
  | F => rfl
  | T => rfl
  | N i l h il ih => simp only [B.neg, B.ev, il, ih]; split <;> rfl

theorem mem_neg {R : List B} {b : B} : b.neg ∈ R.map B.neg ↔ b ∈ R := by
  constructor
  · intro h; obtain ⟨x, hx, e⟩ := List.mem_map.1 h; rw [← neg_inj e]; exact hx
  · exact fun h => List.mem_map.2 ⟨b, h, rfl⟩
theorem const_neg (b : B) : b.neg.const = b.const := by cases b <;> rfl
theorem inn_neg {R : List B} {b : B} (h : inn R b) : inn (R.map B.neg) b.neg := h.imp (fun h => by rw [const_neg]; exact h) (fun h => mem_neg.2 h)
theorem good_neg : ∀ {R : List B}, good R → good (R.map B.neg)
  | [], _ => trivial
  | .N _ _ _ :: _, h => ⟨fun e => h.1 (mem_neg.1 e), inn_neg h.2.1, inn_neg h.2.2.1, good_neg h.2.2.2⟩
  | .F :: _, h => h.elim
  | .T :: _, h => h.elim
theorem vis_neg (b : B) : ∀ (R : List B), vis b.neg (R.map B.neg) = (vis b R).map B.neg := by
  induction b with
  | F => intro R; rfl
  | T => intro R; rfl
  | N i l h il ih =>
    intro R
    have e : (B.N i l h).neg = .N i l.neg h.neg := rfl
    rw [e, vis, vis, ← e]
    by_cases hm : B.N i l h ∈ R
    · rw [if_pos hm, if_pos (mem_neg.2 hm)]
    · rw [if_neg hm, if_neg (fun h => hm (mem_neg.1 h)), il, ih]; rfl
theorem li_neg (b : B) : li b.neg = (li b).map B.neg := vis_neg b []
theorem small_neg {R : List B} (h : small R) : small (R.map B.neg) := ⟨by rw [List.length_map]; exact h.1, fun b hb => by
  obtain ⟨x, hx, rfl⟩ := List.mem_map.1 hb; exact ok_neg (h.2 x hx)⟩

/-! ### a value for each node that is listed, in order -/
def glist {α : Type} (val : B → α) (R : List B) : List α := val .F :: val .T :: (R.reverse).map val
theorem rev_pos : ∀ {R : List B} {b : B}, b ∈ R → R.reverse[pos R b]? = some b := by
  intro R
  induction R with
  | nil => intro b h; cases h
  | cons n r ih =>
    intro b h
    unfold pos; split
    · rename_i e; subst e; simp
    · have hm := List.mem_of_ne_of_mem (by assumption) h
      rw [List.reverse_cons, List.getElem?_append_left (by have := pos_lt hm; simpa using this)]
      exact ih hm
theorem glist_length {α : Type} (val : B → α) (R : List B) : (glist val R).length = R.length + 2 := by simp [glist]
theorem glist_at {α : Type} (val : B → α) {R : List B} {b : B} (h : inn R b) : (glist val R)[place R b]? = some (val b) := by
  cases b with
  | F => rfl
  | T => rfl
  | N i l u =>
    have hm := h.resolve_left (by simp [B.const])
    show (val .F :: val .T :: (R.reverse).map val)[pos R (.N i l u) + 2]? = _
    rw [List.getElem?_cons_succ, List.getElem?_cons_succ, List.getElem?_map, rev_pos hm]; rfl
theorem glist_cons {α : Type} (val : B → α) (R : List B) (b : B) : glist val (b :: R) = glist val R ++ [val b] := by simp [glist]

/-! ### cubes -/
def cubeP (on off : Nat) : Nat → B
  | 0 => .T
  | k + 1 => if on.testBit (23 - k) then mk (23 - k) .F (cubeP on off k) else if off.testBit (23 - k) then mk (23 - k) (cubeP on off k) .F else cubeP on off k
theorem ok_cubeP (on off : Nat) : ∀ k, k ≤ 24 → (cubeP on off k).ok (24 - k)
  | 0, _ => trivial
  | k + 1, h => by
    have ih := ok_cubeP on off k (by omega)
    have e : 24 - (k + 1) = 23 - k := by omega
    rw [show 24 - k = 23 - k + 1 by omega] at ih
    rw [e, cubeP]
    split
    · exact ok_mk (by omega) trivial ih
    · split
      · exact ok_mk (by omega) ih trivial
      · exact ih.mono (by omega)
theorem ok_cubeP0 (on off : Nat) {k : Nat} (h : k ≤ 24) : (cubeP on off k).ok 0 := (ok_cubeP on off k h).mono (Nat.zero_le _)
def cubeEv (on off : Nat) (k : Nat) (c : Cfg) : Bool := (List.range k).all fun j => if on.testBit (23 - j) then c (23 - j) else if off.testBit (23 - j) then !c (23 - j) else true
theorem ev_cubeP (on off : Nat) : ∀ k (c : Cfg), (cubeP on off k).ev c = cubeEv on off k c
  | 0, c => rfl
  | k + 1, c => by
    have ih := ev_cubeP on off k c
    have e : cubeEv on off (k + 1) c = (cubeEv on off k c && (if on.testBit (23 - k) then c (23 - k) else if off.testBit (23 - k) then !c (23 - k) else true)) := by simp [cubeEv, List.range_succ]
    rw [e, cubeP, ← ih]
    split
    · rw [ev_mk]; cases c (23 - k) <;> simp [B.ev]
    · split
      · rw [ev_mk]; cases c (23 - k) <;> simp [B.ev]
      · simp
theorem li_mk_hi (i : Nat) (b : B) : vis (mk i .F b) (li b) = li (mk i .F b) := by
  have h := vis_mk (i := i) (lo := .F) (hi := b) (R := li b) (good_li b)
  have h2 := vis_mk (i := i) (lo := .F) (hi := b) (R := []) trivial
  have e0 : vis .F (li b) = li b := rfl
  have e1 : vis .F [] = ([] : List B) := rfl
  rw [e0, vis_inn (inn_li b)] at h
  rw [e1] at h2
  exact h.trans h2.symm
theorem li_mk_lo (i : Nat) (b : B) : vis (mk i b .F) (li b) = li (mk i b .F) := by
  have h := vis_mk (i := i) (lo := b) (hi := .F) (R := li b) (good_li b)
  have h2 := vis_mk (i := i) (lo := b) (hi := .F) (R := []) trivial
  have e0 : ∀ R, vis .F R = R := fun R => rfl
  rw [vis_inn (inn_li b), e0] at h
  rw [e0] at h2
  exact h.trans h2.symm

/-! ### how many configurations -/
def cnt : B → Nat
  | .F => 0
  | .T => 16777216
  | .N _ l h => (cnt l + cnt h) / 2
def cF : Nat → Nat → (Cfg → Bool) → Nat
  | 0, _, f => if f (fun _ => false) then 1 else 0
  | k + 1, i, f => cF k (i + 1) (fun c => f (up c i false)) + cF k (i + 1) (fun c => f (up c i true))
theorem cF_le : ∀ (k i : Nat) (f : Cfg → Bool), cF k i f ≤ 2 ^ k
  | 0, _, f => by unfold cF; split <;> omega
  | k + 1, i, f => by
    have h1 := cF_le k (i + 1) (fun c => f (up c i false))
    have h2 := cF_le k (i + 1) (fun c => f (up c i true))
    simp only [cF]; rw [Nat.pow_succ]; omega
theorem cF_congr {k i : Nat} {f g : Cfg → Bool} (h : ∀ c, f c = g c) : cF k i f = cF k i g := by rw [funext h]
theorem cF_add : ∀ (k i : Nat) (f g : Cfg → Bool), cF k i (fun c => f c || g c) + cF k i (fun c => f c && g c) = cF k i f + cF k i g
  | 0, _, f, g => by
    show (if (f _ || g _) then 1 else 0) + (if (f _ && g _) then 1 else 0) = (if f _ then 1 else 0) + (if g _ then 1 else 0)
    generalize f (fun _ => false) = a
    generalize g (fun _ => false) = b
    cases a <;> cases b <;> rfl
  | k + 1, i, f, g => by
    have h1 := cF_add k (i + 1) (fun c => f (up c i false)) (fun c => g (up c i false))
    have h2 := cF_add k (i + 1) (fun c => f (up c i true)) (fun c => g (up c i true))
    simp only [cF]; omega
theorem cF_not : ∀ (k i : Nat) (f : Cfg → Bool), cF k i f + cF k i (fun c => !f c) = 2 ^ k
  | 0, _, f => by
    show (if f _ then 1 else 0) + (if !f _ then 1 else 0) = 1
    generalize f (fun _ => false) = a
    cases a <;> rfl
  | k + 1, i, f => by
    have h1 := cF_not k (i + 1) (fun c => f (up c i false))
    have h2 := cF_not k (i + 1) (fun c => f (up c i true))
    simp only [cF]; rw [Nat.pow_succ]; omega
theorem up_free {x : B} {i : Nat} (h : x.ok (i + 1)) (c : Cfg) (v : Bool) : x.ev (up c i v) = x.ev c := ev_agree h (fun j hj _ => by simp [up]; intro; omega)
theorem cnt_cF : ∀ (k i : Nat) (x : B), i + k = 24 → x.ok i → cnt x = 2 ^ i * cF k i x.ev
  | 0, i, x, h, hx => by
    obtain rfl : i = 24 := by omega
    rcases ok_24 hx with rfl | rfl <;> rfl
  | k + 1, i, x, h, hx => by
    have free : x.ok (i + 1) → cnt x = 2 ^ i * cF (k + 1) i x.ev := fun ho => by
      have ih := cnt_cF k (i + 1) x (by omega) ho
      unfold cF
      rw [cF_congr (fun c => up_free ho c false), cF_congr (fun c => up_free ho c true), ih, Nat.pow_succ]
      rw [Nat.mul_add, Nat.mul_assoc, Nat.mul_left_comm]; omega
    cases x with
    | F => exact free trivial
    | T => exact free trivial
    | N j l u =>
      by_cases e : j = i
      · subst e
        obtain ⟨h1, h2, h3, h4, h5⟩ := hx
        have hl := cnt_cF k (j + 1) l (by omega) h4
        have hu := cnt_cF k (j + 1) u (by omega) h5
        have el : cF k (j + 1) (fun c => (B.N j l u).ev (up c j false)) = cF k (j + 1) l.ev := cF_congr fun c => by
          show (if up c j false j then u.ev (up c j false) else l.ev (up c j false)) = _
          simp [up]; exact up_free h4 c false
        have eu : cF k (j + 1) (fun c => (B.N j l u).ev (up c j true)) = cF k (j + 1) u.ev := cF_congr fun c => by
          show (if up c j true j then u.ev (up c j true) else l.ev (up c j true)) = _
          simp [up]; exact up_free h5 c true
        unfold cF
        rw [el, eu, cnt, hl, hu, Nat.pow_succ]
        generalize cF k (j + 1) l.ev = p
        generalize cF k (j + 1) u.ev = q
        rw [show 2 ^ j * 2 * p + 2 ^ j * 2 * q = 2 * (2 ^ j * (p + q)) by rw [Nat.mul_assoc, Nat.mul_assoc, ← Nat.mul_add, ← Nat.mul_add, Nat.mul_left_comm]]
        omega
      · exact free ⟨by have := hx.1; omega, hx.2⟩
def cA (f : Cfg → Bool) : Nat := cF 24 0 f
theorem cnt_eq {x : B} (h : x.ok 0) : cnt x = cA x.ev := by
  have e := cnt_cF 24 0 x rfl h
  have h1 : (2 : Nat) ^ 0 = 1 := rfl
  rw [h1, Nat.one_mul] at e
  exact e
theorem cA_congr {f g : Cfg → Bool} (h : ∀ c, f c = g c) : cA f = cA g := by rw [funext h]
theorem cA_le (f : Cfg → Bool) : cA f ≤ 16777216 := by
  have h := cF_le 24 0 f
  have e : (2 : Nat) ^ 24 = 16777216 := by decide
  rw [e] at h; exact h
theorem cA_not (f : Cfg → Bool) : cA f + cA (fun c => !f c) = 16777216 := by
  have h := cF_not 24 0 f
  have e : (2 : Nat) ^ 24 = 16777216 := by decide
  rw [e] at h; exact h
theorem cA_add (f g : Cfg → Bool) : cA (fun c => f c || g c) + cA (fun c => f c && g c) = cA f + cA g := cF_add 24 0 f g
theorem cnt_le {x : B} (h : x.ok 0) : cnt x ≤ 16777216 := by rw [cnt_eq h]; exact cA_le _
theorem cnt_neg {x : B} (h : x.ok 0) : cnt x + cnt x.neg = 16777216 := by
  rw [cnt_eq h, cnt_eq (ok_neg h), cA_congr (f := x.neg.ev) (g := fun c => !x.ev c) (ev_neg x)]; exact cA_not _
theorem cnt_add {x y : B} (hx : x.ok 0) (hy : y.ok 0) : cnt x + cnt y = cnt (ite x .T y) + cnt (ite x y .F) := by
  rw [cnt_eq hx, cnt_eq hy, cnt_eq (ok_ite0 _ _ _), cnt_eq (ok_ite0 _ _ _), cA_congr (f := (ite x .T y).ev) (g := fun c => x.ev c || y.ev c) (fun c => by rw [ev_ite (y := .T) hx trivial hy]; cases x.ev c <;> simp [B.ev]),
    cA_congr (f := (ite x y .F).ev) (g := fun c => x.ev c && y.ev c) (fun c => by rw [ev_ite (z := .F) hx hy trivial]; cases x.ev c <;> simp [B.ev])]
  exact (cA_add _ _).symm
end Bd
end Go.Proofs.YtalnhlebgofiiaaGreatDoor
namespace Go.Proofs.YtalnhlebgofiiaaGreatDoor
open Go.RowKit
namespace Bd

/-- the set depends on a feature -/
def dep (f : Cfg → Bool) (i : Nat) : Prop := ∃ c, f (up c i false) ≠ f (up c i true)

theorem up_comm (c : Cfg) {i j : Nat} (h : i ≠ j) (u v : Bool) : up (up c i u) j v = up (up c j v) i u := by
  funext k; simp only [up]; split
  · rename_i e; subst e; rw [if_neg (Ne.symm h)]
  · rfl

theorem sub_self (b : B) : sub b b := by cases b <;> first | rfl | exact .inl rfl

theorem dep_of_sub {b : B} : ∀ {n i : Nat} {lo hi : B}, n ≤ 24 → b.ok n → sub (.N i lo hi) b → dep b.ev i := by
  induction b with
  | F => intro n i lo hi _ _ h; cases h
  | T => intro n i lo hi _ _ h; cases h
  | N j l u il iu =>
    intro n i lo hi hn hb h
    obtain ⟨h1, h2, h3, h4, h5⟩ := hb
    rcases h with h | h | h
    · cases h
      have : ∃ c, l.ev c ≠ u.ev c := Classical.byContradiction fun hc => h3 (uniq (n := j + 1) (by omega) h4 h5 (fun c => Classical.byContradiction fun hx => hc ⟨c, hx⟩))
      obtain ⟨c, hc⟩ := this
      refine ⟨c, ?_⟩
      show (if up c j false j then u.ev (up c j false) else l.ev (up c j false)) ≠ (if up c j true j then u.ev (up c j true) else l.ev (up c j true))
      rw [up_free h4, up_free h5, up_free h4, up_free h5]
      simpa [up] using hc
    · have hi' : j + 1 ≤ i := (sub_ok h4 h).1
      obtain ⟨c, hc⟩ := il (by omega) h4 h
      refine ⟨up c j false, ?_⟩
      have e : ∀ v, (B.N j l u).ev (up (up c j false) i v) = l.ev (up c i v) := fun v => by
        rw [up_comm c (by omega)]
        show (if up (up c i v) j false j then _ else _) = _
        simp only [up, if_true, Bool.false_eq_true, if_false]
        exact up_free h4 (up c i v) false
      rw [e, e]; exact hc
    · have hi' : j + 1 ≤ i := (sub_ok h5 h).1
      obtain ⟨c, hc⟩ := iu (by omega) h5 h
      refine ⟨up c j true, ?_⟩
      have e : ∀ v, (B.N j l u).ev (up (up c j true) i v) = u.ev (up c i v) := fun v => by
        rw [up_comm c (by omega)]
        show (if up (up c i v) j true j then _ else _) = _
        simp only [up, if_true]
        exact up_free h5 (up c i v) true
      rw [e, e]; exact hc

theorem free_of_no {b : B} {i : Nat} : (∀ lo hi, ¬ sub (.N i lo hi) b) → ∀ c v, b.ev (up c i v) = b.ev c := by
  induction b with
  | F => intros; rfl
  | T => intros; rfl
  | N j l u il iu =>
    intro h c v
    have hj : j ≠ i := by rintro rfl; exact h l u (.inl rfl)
    have e1 := il (fun lo hi hs => h lo hi (.inr (.inl hs))) c v
    have e2 := iu (fun lo hi hs => h lo hi (.inr (.inr hs))) c v
    show (if up c i v j then _ else _) = (if c j then _ else _)
    rw [e1, e2]; simp [up, hj]

theorem sub_mem : ∀ {b : B} {R : List B} {s : B}, good R → inn R b → sub s b → inn R s := by
  intro b
  induction b with
  | F => intro R s _ hb h; obtain rfl : s = .F := h; exact hb
  | T => intro R s _ hb h; obtain rfl : s = .T := h; exact hb
  | N i l u il iu =>
    intro R s hg hb h
    obtain ⟨k1, k2⟩ := kids_inn hg (hb.resolve_left (by simp [B.const]))
    rcases h with rfl | h | h
    · exact hb
    · exact il hg k1 h
    · exact iu hg k2 h

theorem mem_li {b s : B} : s ∈ li b ↔ s.const = false ∧ sub s b := by
  constructor
  · intro h
    exact ⟨good_all_N (good_li b) s h, (vis_subs b [] s h).resolve_left (by simp)⟩
  · rintro ⟨h1, h2⟩
    exact (sub_mem (good_li b) (inn_li b) h2).resolve_left (by simp [h1])

theorem supR_bit {i : Nat} : ∀ {R : List B}, (supR R).testBit i = true ↔ ∃ b ∈ R, b.top = i
  | [] => by simp [supR]
  | b :: r => by
    rw [supR, Nat.testBit_or, Bool.or_eq_true, supR_bit, Nat.one_shiftLeft, Nat.testBit_two_pow]
    simp only [decide_eq_true_eq, List.mem_cons]
    constructor
    · rintro (⟨x, h1, h2⟩ | h)
      · exact ⟨x, .inr h1, h2⟩
      · exact ⟨b, .inl rfl, h⟩
    · rintro ⟨x, rfl | h1, h2⟩
      · exact .inr h2
      · exact .inl ⟨x, h1, h2⟩

theorem supR_dep {b : B} (hb : b.ok 0) (i : Nat) : (supR (li b)).testBit i = true ↔ dep b.ev i := by
  rw [supR_bit]
  constructor
  · rintro ⟨s, hs, ht⟩
    obtain ⟨h1, h2⟩ := mem_li.1 hs
    cases s with
    | F => cases h1
    | T => cases h1
    | N j l u => obtain rfl : j = i := ht; exact dep_of_sub (Nat.zero_le _) hb h2
  · rintro ⟨c, hc⟩
    refine Classical.byContradiction fun hn => hc ?_
    have h : ∀ lo hi, ¬ sub (.N i lo hi) b := fun lo hi hs => hn ⟨_, mem_li.2 ⟨rfl, hs⟩, rfl⟩
    rw [free_of_no h, free_of_no h]
theorem supR_lt24 {b : B} (hb : b.ok 0) : supR (li b) < 2 ^ 24 := supR_lt (top_lt (good_li b) (small_li hb).2)
end Bd
end Go.Proofs.YtalnhlebgofiiaaGreatDoor
