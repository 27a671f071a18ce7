import Derived.Test.YtfhjpldlhhgcnaaDoorOps
import Derived.LoopTactic
import Derived.Laws.BitsLemmas
namespace Go.Proofs.YtfhjpldlhhgcnaaDoor
open Go.RowKit
namespace Bd

theorem pos_kid : ∀ {R : List B} {i : Nat} {lo hi : B}, good R → B.N i lo hi ∈ R → place R lo < place R (B.N i lo hi) ∧ place R hi < place R (B.N i lo hi)
  | [], _, _, _, _, h => by cases h
  | .F :: _, _, _, _, hg, _ => False.elim hg
  | .T :: _, _, _, _, hg, _ => False.elim hg
  | .N j l u :: r, i, lo, hi, hg, h => by
    obtain ⟨hn, hl, hu, hr⟩ := hg
    by_cases e : B.N i lo hi = .N j l u
    · cases e
      rw [place_cons hl hn, place_cons hu hn]
      have h1 := place_lt hl
      have h2 := place_lt hu
      have h3 : place (B.N j l u :: r) (B.N j l u) = r.length + 2 := by simp [place, pos]
      omega
    · have hm := List.mem_of_ne_of_mem e h
      obtain ⟨_, k1, k2⟩ := rows_at hr hm
      rw [place_cons k1 hn, place_cons k2 hn, place_cons (.inr hm) hn]
      exact pos_kid hr hm
end Bd
open Bd

theorem wraps_u32 (n : Int) (h₀ : 0 ≤ n) (h₁ : n < 2 ^ 32) : IntKind.u32.wrap n = n := by rw [IntKind.wrap_u32]; omega

theorem bit_u32 (c i : Nat) (hc : c < 2 ^ 32) : (bits BinOp.and IntKind.u32 ((c : Int) / 2 ^ i) 1 == 1) = c.testBit i := by
  have e : (c : Int) / 2 ^ i = ((c / 2 ^ i : Nat) : Int) := by simp
  have hlt : c / 2 ^ i < 2 ^ 32 := Nat.lt_of_le_of_lt (Nat.div_le_self _ _) hc
  have h := (bits_nat .u32 32 (by decide) wraps_u32 (c / 2 ^ i) 1 hlt (by decide)).1
  rw [e, show (1 : Int) = ((1 : Nat) : Int) from rfl, h, Nat.and_one_is_mod, Nat.testBit_eq_decide_div_mod_eq]
  exact beq_dec _ _

set_option maxRecDepth 100000 in
set_option maxHeartbeats 400000 in
theorem Has_any (A : B) (hA : A.ok 0) (c : Nat) (hc : c < 2 ^ 32) (w : World) : Calls Tryd.prog 43 #[dval A, .int .u32 (c : Int)] w fun e w' => e = .returned (.bool (A.ev fun i => c.testBit i)) ∧ Below w.heap.size w w' := by
  have a0 : (w.alloc (.cells #[.int .u32 (place (li A) A : Int), .string ⟨(code (rows (li A))).toArray⟩] 26)).cell? ⟨w.heap.size, 0, none⟩ = some (.int .u32 (place (li A) A : Int)) := World.cell?_alloc_at _ _ _ _ (by simp)
  have a1 : (w.alloc (.cells #[.int .u32 (place (li A) A : Int), .string ⟨(code (rows (li A))).toArray⟩] 26)).cell? ⟨w.heap.size, 1, none⟩ = some (.string ⟨(code (rows (li A))).toArray⟩) := World.cell?_alloc_at _ _ _ _ (by simp)
  have fr : Fr nob w (w.alloc (.cells #[.int .u32 (place (li A) A : Int), .string ⟨(code (rows (li A))).toArray⟩] 26)) := (Fr.refl nob w).alloc _
  go_enter Tryd.func43, Tryd.ntmps43
  go_wp2_with fail
  generalize w.alloc (.cells #[.int .u32 (place (li A) A : Int), .string ⟨(code (rows (li A))).toArray⟩] 26) = W at *
  go_loopw [5, 6] (fun v _ wr => ∃ x : B, inn (li A) x ∧ v = .int .u32 (place (li A) x : Int) ∧ (x.ev (fun i => c.testBit i) = A.ev fun i => c.testBit i) ∧ Fr nob w wr ∧ wr.cell? ⟨w.heap.size, 0, none⟩ = some (.int .u32 (place (li A) A : Int)) ∧ wr.cell? ⟨w.heap.size, 1, none⟩ = some (.string ⟨(code (rows (li A))).toArray⟩)) (fun v _ _ => (intOf v).toNat)
  case atStart => exact ⟨A, inn_li A, rfl, rfl, fr, a0, a1⟩
  case round =>
    clear a0 a1 fr
    obtain ⟨x, hx, rfl, hev, fr, a0, a1⟩ := hrel
    have hp : place (li A) x < 2 ∨ 2 ≤ place (li A) x := by omega
    go_wp2_with fail
    · have h2 : 2 ≤ place (li A) x := by have h : (2 : Int) ≤ (place (li A) x : Int) := by assumption
                                         omega
      cases x with
      | F => simp [place] at h2
      | T => simp [place] at h2
      | N i l u =>
        refine (at_any A (.N i l u) hA hx _).mono ?_
        rintro e w1 ⟨rfl, hb⟩
        have hm : B.N i l u ∈ li A := hx.resolve_left (by simp [B.const])
        obtain ⟨h1, hl, hu⟩ := rows_at (good_li A) hm
        have ⟨hkl, hku⟩ := pos_kid (good_li A) hm
        have hi : i < 24 := (rows_small (good_li A) (small_li hA) _ (List.mem_of_getElem? h1)).1
        have fr1 := fr.below hb
        have b0 := ((Fr.refl nob wr).below hb).cell a0 (fun h => h)
        have b1 := ((Fr.refl nob wr).below hb).cell a1 (fun h => h)
        clear hb a0 a1 fr
        simp only [rowB, B.top, B.lo, B.hi, nk] at *
        go_wp2_with fail
        · have hb : c.testBit i = true := by rw [← bit_u32 c i hc]; assumption
          refine ⟨⟨u, hu, rfl, ?_, fr1.alloc _, cell_alloc_l b0 _, cell_alloc_l b1 _⟩, by simp [intOf]; omega⟩
          rw [← hev]; simp [B.ev, hb]
        · have hb : c.testBit i = false := by rw [← bit_u32 c i hc]; assumption
          refine ⟨⟨l, hl, rfl, ?_, fr1.alloc _, cell_alloc_l b0 _, cell_alloc_l b1 _⟩, by simp [intOf]; omega⟩
          rw [← hev]; simp [B.ev, hb]
    · have h2 : place (li A) x < 2 := by have h : (place (li A) x : Int) < 2 := by assumption
                                         omega
      have e : ((place (li A) x : Int) == 1) = A.ev fun i => c.testBit i := by
        rw [← hev, show (1 : Int) = ((1 : Nat) : Int) from rfl, beq_dec]
        rcases place_lt2.1 h2 with rfl | rfl <;> simp [place, B.ev]
      refine bodyPost_ret (v := .bool ((place (li A) x : Int) == 1)) (by simp [results, Tryd.results43, go_sem]) rfl ⟨by rw [e], fr.to_below (Nat.le_refl _) (fun _ h => h.elim)⟩
end Go.Proofs.YtfhjpldlhhgcnaaDoor
