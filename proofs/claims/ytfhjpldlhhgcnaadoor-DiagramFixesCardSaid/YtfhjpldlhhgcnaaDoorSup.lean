import Derived.Test.YtfhjpldlhhgcnaaDoorHas
namespace Go.Proofs.YtfhjpldlhhgcnaaDoor
open Go.RowKit
open Bd
set_option maxRecDepth 100000 in
set_option maxHeartbeats 400000 in
theorem size_any (A : B) (hA : A.ok 0) (w : World) : Calls Tryd.prog 83 #[dval A] w fun e w' => e = .returned (.int .u32 ((li A).length : Int)) ∧ Below w.heap.size w w' := by
  go_enter Tryd.func83, Tryd.ntmps83
  go_wp2_with fail
  have hl : (code (rows (li A))).length = 7 * (li A).length := by rw [code_length, rows_length (good_li A)]
  have hs := (small_li hA).1
  have e : wrap64 (((code (rows (li A))).length : Int) / 7) % 4294967296 = ((li A).length : Int) := by
    rw [hl]; unfold wrap64; omega
  refine bodyPost_ret (v := .int .u32 (wrap64 (((code (rows (li A))).length : Int) / 7) % 4294967296)) (by simp [results, Tryd.results83, go_sem]) rfl ⟨by rw [e], (Below.refl _ _).alloc (Nat.le_refl _) _⟩

set_option maxRecDepth 100000 in
set_option maxHeartbeats 400000 in
theorem Size_any (A : B) (hA : A.ok 0) (w : World) : Calls Tryd.prog 59 #[dval A] w fun e w' => e = .returned (.int .i64 ((li A).length : Int)) ∧ Below w.heap.size w w' := by
  have hs := (small_li hA).1
  go_enter Tryd.func59, Tryd.ntmps59
  go_wp2_with fail
  refine (size_any A hA _).mono ?_
  rintro e w1 ⟨rfl, hb⟩
  go_wp2_with fail
  exact bodyPost_ret (v := .int .i64 ((li A).length : Int)) (by simp [results, Tryd.results59, go_sem]) rfl ⟨rfl, (((Fr.refl nob w).alloc _).below hb).to_below (Nat.le_refl _) (fun _ h => h.elim)⟩

theorem nth_place : ∀ {R : List B} {k : Nat}, good R → k < R.length → ∃ x, x ∈ R ∧ place R x = k + 2 ∧ R.drop (R.length - (k + 1)) = x :: R.drop (R.length - k)
  | [], _, _, h => by simp at h
  | .F :: _, _, hg, _ => False.elim hg
  | .T :: _, _, hg, _ => False.elim hg
  | .N i l u :: r, k, hg, h => by
    obtain ⟨hn, _, _, hr⟩ := hg
    by_cases e : k = r.length
    · subst e
      exact ⟨.N i l u, List.mem_cons_self, by simp [place, pos], by simp⟩
    · have hk : k < r.length := by simp at h; omega
      obtain ⟨x, hx, hp, hd⟩ := nth_place hr hk
      refine ⟨x, List.mem_cons_of_mem _ hx, by rw [place_cons (.inr hx) hn]; exact hp, ?_⟩
      rw [List.length_cons, show r.length + 1 - (k + 1) = (r.length - (k + 1)) + 1 by omega, show r.length + 1 - k = (r.length - k) + 1 by omega, List.drop_succ_cons, List.drop_succ_cons]
      exact hd

theorem run_node_feature (a b c : Value) (w : World) : (Instr.field 123 (.agg #[a, b, c]) 0).run Tryd.prog w = .ok a w := by kernel_rfl

/-- the tests of the nodes that are listed, as a number -/
def supR : List B → Nat
  | [] => 0
  | b :: r => supR r ||| 1 <<< b.top

theorem supR_lt : ∀ {R : List B}, (∀ b ∈ R, b.top < 24) → supR R < 2 ^ 24
  | [], _ => by simp [supR]
  | b :: r, h => by
    refine Nat.or_lt_two_pow (supR_lt fun x hx => h x (List.mem_cons_of_mem _ hx)) ?_
    rw [Nat.one_shiftLeft]
    exact Nat.pow_lt_pow_right (by omega) (h b List.mem_cons_self)

theorem top_lt : ∀ {R : List B}, good R → (∀ b ∈ R, b.ok 0) → ∀ b ∈ R, b.top < 24
  | [], _, _, _, h => by cases h
  | .F :: _, hg, _, _, _ => False.elim hg
  | .T :: _, hg, _, _, _ => False.elim hg
  | .N i l u :: r, hg, ho, b, h => by
    rcases List.mem_cons.1 h with rfl | h
    · have : (B.N i l u).ok 0 := ho _ List.mem_cons_self
      simp only [B.ok] at this
      show i < 24
      omega
    · exact top_lt hg.2.2.2 (fun x hx => ho x (List.mem_cons_of_mem _ hx)) b h

theorem or_u32 (s i : Nat) (hs : s < 2 ^ 24) (hi : i < 24) : bits BinOp.or IntKind.u32 (s : Int) (2 ^ i % 4294967296) = ((s ||| 1 <<< i : Nat) : Int) := by
  have h1 : 2 ^ i < 2 ^ 24 := Nat.pow_lt_pow_right (by omega) hi
  have e : ((2 : Int) ^ i % 4294967296) = ((2 ^ i : Nat) : Int) := by
    rw [show (2 : Int) ^ i = ((2 ^ i : Nat) : Int) by simp]
    generalize 2 ^ i = m at *
    omega
  rw [e, (bits_nat .u32 32 (by decide) wraps_u32 s (2 ^ i) (by omega) (by omega)).2, Nat.one_shiftLeft]

set_option maxRecDepth 100000 in
set_option maxHeartbeats 400000 in
theorem Support_any (A : B) (hA : A.ok 0) (w : World) : Calls Tryd.prog 34 #[dval A] w fun e w' => e = .returned (.int .u32 (supR (li A) : Int)) ∧ Below w.heap.size w w' := by
  have a0 : (w.alloc (.cells #[.int .u32 (place (li A) A : Int), .string ⟨(code (rows (li A))).toArray⟩] 26)).cell? ⟨w.heap.size, 0, none⟩ = some (.int .u32 (place (li A) A : Int)) := World.cell?_alloc_at _ _ _ _ (by simp)
  have a1 : (w.alloc (.cells #[.int .u32 (place (li A) A : Int), .string ⟨(code (rows (li A))).toArray⟩] 26)).cell? ⟨w.heap.size, 1, none⟩ = some (.string ⟨(code (rows (li A))).toArray⟩) := World.cell?_alloc_at _ _ _ _ (by simp)
  have fr : Fr nob w (w.alloc (.cells #[.int .u32 (place (li A) A : Int), .string ⟨(code (rows (li A))).toArray⟩] 26)) := (Fr.refl nob w).alloc _
  have hs := (small_li hA).1
  go_enter Tryd.func34, Tryd.ntmps34
  go_wp2_with fail
  generalize w.alloc (.cells #[.int .u32 (place (li A) A : Int), .string ⟨(code (rows (li A))).toArray⟩] 26) = W at *
  refine (size_any A hA _).mono ?_
  rintro e w1 ⟨rfl, hb⟩
  replace fr := fr.below hb
  replace a0 := ((Fr.refl nob W).below hb).cell a0 (fun h => h)
  replace a1 := ((Fr.refl nob W).below hb).cell a1 (fun h => h)
  clear hb
  go_wp2_with fail
  go_loopw [3, 4, 7] (fun s _ p wr => ∃ k : Nat, k ≤ (li A).length ∧ p = .int .u32 (k : Int) ∧ s = .int .u32 (supR ((li A).drop ((li A).length - k)) : Int) ∧ Fr nob w wr ∧ wr.cell? ⟨w.heap.size, 0, none⟩ = some (.int .u32 (place (li A) A : Int)) ∧ wr.cell? ⟨w.heap.size, 1, none⟩ = some (.string ⟨(code (rows (li A))).toArray⟩)) (fun _ _ p _ => (li A).length - (intOf p).toNat)
  case atStart => exact ⟨0, Nat.zero_le _, rfl, by simp [supR], fr, a0, a1⟩
  case round =>
    clear a0 a1 fr
    obtain ⟨k, hk, rfl, rfl, fr, a0, a1⟩ := hrel
    go_wp2_with fail
    · have hlt : k < (li A).length := by assumption
      obtain ⟨x, hx, hp, hd⟩ := nth_place (good_li A) hlt
      have h := at_any A x hA (.inr hx) wr
      rw [hp] at h
      refine h.mono ?_
      rintro e w1 ⟨rfl, hb⟩
      clear h
      have hi : x.top < 24 := by
        have := (small_li hA).2 x hx
        cases x with
        | N i l u => exact (rows_small (good_li A) (small_li hA) _ (List.mem_of_getElem? (rows_at (good_li A) hx).1)).1
        | F => simp [place] at hp
        | T => simp [place] at hp
      have fr1 := fr.below hb
      have b0 := ((Fr.refl nob wr).below hb).cell a0 (fun h => h)
      have b1 := ((Fr.refl nob wr).below hb).cell a1 (fun h => h)
      clear hb a0 a1 fr
      simp only [rowB, nk] at *
      have hfd := run_node_feature (.int .u8 (x.top : Int)) (.int .u32 (place (li A) x.lo : Int)) (.int .u32 (place (li A) x.hi : Int))
      go_wp2_with fail
      have ho := or_u32 (supR (List.drop ((li A).length - k) (li A))) x.top (supR_lt fun b hb => top_lt (good_li A) (small_li hA).2 b (List.mem_of_mem_drop hb)) hi
      refine ⟨⟨k + 1, by omega, by simp, ?_, fr1, b0, b1⟩, by simp [intOf]; omega⟩
      rw [ho, hd]
      rfl
    · have hle : k = (li A).length := by have : ¬ k < (li A).length := by assumption
                                         omega
      subst hle
      exact bodyPost_ret (v := .int .u32 (supR (li A) : Int)) (by simp [results, Tryd.results34, go_sem]) rfl ⟨rfl, fr.to_below (Nat.le_refl _) (fun _ h => h.elim)⟩
end Go.Proofs.YtfhjpldlhhgcnaaDoor
