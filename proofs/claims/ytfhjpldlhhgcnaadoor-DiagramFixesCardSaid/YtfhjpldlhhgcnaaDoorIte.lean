import Derived.Test.YtfhjpldlhhgcnaaDoorSem
import Derived.Laws.StructEq
namespace Go.Proofs.YtfhjpldlhhgcnaaDoor
open Go.RowKit
open Bd

theorem at_any (b x : B) (hb : b.ok 0) (hx : inn (li b) x) (w : World) : Calls Tryd.prog 84 #[dval b, .int .u32 (place (li b) x : Int)] w fun e w' => e = .returned (nk (rowB (li b) x)) ∧ Below w.heap.size w w' := by
  cases x with
  | F => exact at_small _ 0 _ _ w rfl (by omega)
  | T => exact at_small _ 1 _ _ w rfl (by omega)
  | N i l u =>
    have hm : B.N i l u ∈ li b := hx.resolve_left (by simp [B.const])
    obtain ⟨h1, h2, h3⟩ := rows_at (good_li b) hm
    have hs := rows_small (good_li b) (small_li hb) _ (List.mem_of_getElem? h1)
    exact at_row _ (pos (li b) (.N i l u)) _ _ (rows (li b)) (i, place (li b) l, place (li b) u) w rfl (by simp) h1 (by rw [rows_length (good_li b)]; exact (small_li hb).1) (by simp only at hs ⊢; omega)

noncomputable abbrev chB (A B' C : B) : Value := chv (place (li A) A) (place (li B') B') (place (li C) C) ⟨(code (rows (li A))).toArray⟩ ⟨(code (rows (li B'))).toArray⟩ ⟨(code (rows (li C))).toArray⟩

theorem split_any (A B' C : B) (hA : A.ok 0) (hB : B'.ok 0) (hC : C.ok 0) (k : Nat × Nat × Nat) (w : World) (hk : valT A B' C k) :
    Calls Tryd.prog 80 #[chB A B' C, tk k] w fun e w' => e = .returned (.tuple #[.int .i64 ((spT A B' C k).1 : Int), tk (spT A B' C k).2.1, tk (spT A B' C k).2.2]) ∧ Below w.heap.size w w' := by
  obtain ⟨x, y, z, hx, hy, hz, rfl⟩ := hk
  have e : spT A B' C (place (li A) x, place (li B') y, place (li C) z) = splitN (place (li A) x, place (li B') y, place (li C) z) (rowB (li A) x) (rowB (li B') y) (rowB (li C) z) := by
    simp only [spT, nodeAt_place hx, nodeAt_place hy, nodeAt_place hz]
  rw [e]
  cases hd : (decidedN (place (li A) x, place (li B') y, place (li C) z)).2 with
  | true =>
    have hp : (decidedN (place (li A) x, place (li B') y, place (li C) z)).1 < 2 := by
      unfold decidedN at hd ⊢
      split at hd
      · rename_i h; rw [if_pos h]; exact of_decide_eq_true hd
      · rename_i h; rw [if_neg h]
        split at hd
        · rename_i h'; rw [if_pos h']; exact of_decide_eq_true hd
        · cases hd
    have e2 : splitN (place (li A) x, place (li B') y, place (li C) z) (rowB (li A) x) (rowB (li B') y) (rowB (li C) z) = (24 + (decidedN (place (li A) x, place (li B') y, place (li C) z)).1, (place (li A) x, place (li B') y, place (li C) z), (place (li A) x, place (li B') y, place (li C) z)) := by
      simp only [splitN, hd, if_true]
    rw [e2]
    exact split_leaf _ _ _ _ _ _ _ _ _ hd hp w
  | false =>
    exact split_step _ _ _ _ _ _ _ _ _ _ _ _ hd w (Nat.lt_succ_of_le (top_le (ok_of_inn hA hx))) (Nat.lt_succ_of_le (top_le (ok_of_inn hB hy))) (Nat.lt_succ_of_le (top_le (ok_of_inn hC hz)))
      (fun w => at_any A x hA hx w) (fun w => at_any B' y hB hy w) (fun w => at_any C z hC hz w)

theorem growIte (A B' C : B) (hA : A.ok 0) (hB : B'.ok 0) (hC : C.ok 0) (w : World) :
    Calls Tryd.prog 79 #[tk (place (li A) A, place (li B') B', place (li C) C), .func (.func 80) #[chB A B' C] #[]] w fun e w' => e = .returned (dval (ite A B' C)) ∧ Below w.heap.size w w' := by
  have hv : valT A B' C (place (li A) A, place (li B') B', place (li C) C) := ⟨A, B', C, inn_li A, inn_li B', inn_li C, rfl⟩
  have hs : semT A B' C (place (li A) A, place (li B') B', place (li C) C) = ite A B' C := by simp only [semT, nodeAt_place (inn_li A), nodeAt_place (inn_li B'), nodeAt_place (inn_li C)]
  have := growT_any (splT A B' C hA hB hC) (chB A B' C) (fun k hk => ?_) (fun k w hk => split_any A B' C hA hB hC k w hk) _ w hv (by rw [hs]; exact ok_ite0 _ _ _)
  · rw [hs] at this; exact this
  · obtain ⟨x, y, z, hx, hy, hz, rfl⟩ := hk
    have h1 := place_small (small_li hA) hx
    have h2 := place_small (small_li hB) hy
    have h3 := place_small (small_li hC) hz
    simp only; omega

theorem of_bytes_beq {a b : ByteArray} (h : (a == b) = true) : a = b := by
  rcases a with ⟨a⟩
  rcases b with ⟨b⟩
  have h' : (a == b) = true := h
  rw [eq_of_beq h']

theorem beq_dec (p q : Nat) : ((p : Int) == (q : Int)) = decide (p = q) := run_neq_nat p q

set_option maxRecDepth 100000 in
set_option maxHeartbeats 400000 in
theorem Full_any (A : B) (w : World) : Calls Tryd.prog 25 #[dval A] w fun e w' => e = .returned (.bool (decide (A = .T))) ∧ Below w.heap.size w w' := by
  have h : ((place (li A) A : Int) == 1) = decide (A = .T) := by
    rw [show (1 : Int) = ((1 : Nat) : Int) from rfl, beq_dec]
    exact decide_eq_decide.2 place_T
  have H := Lib.hid h
  clear h
  go_enter Tryd.func25, Tryd.ntmps25
  go_wp2
  go_ret
  exact ⟨by rw [← H.out]; rfl, (Below.refl _ _).alloc (Nat.le_refl _) _⟩

set_option maxRecDepth 100000 in
set_option maxHeartbeats 400000 in
theorem Empty_any (A : B) (w : World) : Calls Tryd.prog 24 #[dval A] w fun e w' => e = .returned (.bool (decide (A = .F))) ∧ Below w.heap.size w w' := by
  have h : ((place (li A) A : Int) == 0) = decide (A = .F) := by
    rw [show (0 : Int) = ((0 : Nat) : Int) from rfl, beq_dec]
    exact decide_eq_decide.2 place_F
  have H := Lib.hid h
  clear h
  go_enter Tryd.func24, Tryd.ntmps24
  go_wp2
  go_ret
  exact ⟨by rw [← H.out]; rfl, (Below.refl _ _).alloc (Nat.le_refl _) _⟩

set_option maxRecDepth 100000 in
set_option maxHeartbeats 400000 in
theorem same_raw (p q : Nat) (S T : ByteArray) (r : Bool) (h : (p = q ∧ S = T ∧ r = true) ∨ (p = q ∧ ¬ S.toList = T.toList ∧ r = false) ∨ (¬ p = q ∧ r = false)) (w : World) :
    Calls Tryd.prog 30 #[.agg #[.int .u32 (p : Int), .string S], .agg #[.int .u32 (q : Int), .string T]] w fun e w' => e = .returned (.bool r) ∧ Below w.heap.size w w' := by
  have fin := ((Below.refl w.heap.size w).alloc (Nat.le_refl _) (.cells #[.int .u32 (p : Int), .string S] 26)).alloc (by simp) (.cells #[.int .u32 (q : Int), .string T] 26)
  rcases h with ⟨rfl, rfl, rfl⟩ | ⟨rfl, h2, rfl⟩ | ⟨h1, rfl⟩
  · go_enter Tryd.func30, Tryd.ntmps30
    go_wp2
    go_ret
    exact ⟨rfl, fin⟩
  · go_enter Tryd.func30, Tryd.ntmps30
    go_wp2
    go_ret
    exact ⟨rfl, fin⟩
  · have h2 : ¬ ((p : Int) = (q : Int)) := by omega
    go_enter Tryd.func30, Tryd.ntmps30
    go_wp2
    go_ret
    exact ⟨rfl, fin⟩

theorem Same_any (A B' : B) (hA : A.ok 0) (hB : B'.ok 0) (w : World) : Calls Tryd.prog 30 #[dval A, dval B'] w fun e w' => e = .returned (.bool (decide (A = B'))) ∧ Below w.heap.size w w' := by
  refine same_raw _ _ _ _ _ ?_ w
  by_cases h : A = B'
  · subst h; exact .inl ⟨rfl, rfl, by simp⟩
  · by_cases h1 : place (li A) A = place (li B') B'
    · refine .inr (.inl ⟨h1, fun e => ?_, by simp [h]⟩)
      have e' : (⟨(code (rows (li A))).toArray⟩ : ByteArray) = ⟨(code (rows (li B'))).toArray⟩ := by
        have := beq_toListBytes (⟨(code (rows (li A))).toArray⟩ : ByteArray) ⟨(code (rows (li B'))).toArray⟩
        rw [e, beq_self_eq_true] at this
        exact of_bytes_beq this
      injection e' with e'
      exact h (enc_inj hA hB h1 (by simpa using congrArg Array.toList e'))
    · exact .inr (.inr ⟨h1, by simp [h]⟩)
end Go.Proofs.YtfhjpldlhhgcnaaDoor
