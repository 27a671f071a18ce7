import Derived.Test.YtbjdaibkcchllaaQc6
import Derived.Test.YtbjdaibkcchllaaQc4
import Derived.Test.YtbjdaibkcchllaaQx
namespace Go.Proofs.Ytbjdaibkcchllaa
open Go.RowKit

/-! the reference's Valid -/
def oneT : Tr → Bool
  | .mk op nm kids => oneB op nm kids.length
theorem oneT_any (t : Tr) (v : Value) (S : Nat → Prop) (w : World) (hw : wide t = true) (hT : TrO w S t v) : Calls Try.prog 53 #[v] w fun e w' => e = .returned (.bool (oneT t)) ∧ Fr nob w w' := by
  obtain ⟨op, nm, kids⟩ := t
  rw [TrO] at hT
  obtain ⟨a, cp, rfl, _⟩ := hT
  rw [wide, Bool.and_eq_true, Bool.and_eq_true, decide_eq_true_iff, decide_eq_true_iff] at hw
  exact one_any op nm a kids.length cp hw.1.1 w
mutual
theorem wide_pre : ∀ {t u : Tr}, wide t = true → u ∈ preP t → wide u = true
  | .mk op nm kids, u, h, hu => by
    rw [preP] at hu
    rcases List.mem_cons.1 hu with rfl | hu
    · exact h
    · rw [wide, Bool.and_eq_true] at h
      exact wide_preL h.2 hu
theorem wide_preL : ∀ {ts : List Tr} {u : Tr}, wideL ts = true → u ∈ preL ts → wide u = true
  | [], u, _, hu => by rw [preL] at hu; cases hu
  | t :: ts, u, h, hu => by
    rw [preL] at hu
    rw [wideL, Bool.and_eq_true] at h
    rcases List.mem_append.1 hu with hu | hu
    · exact wide_pre h.1 hu
    · exact wide_preL h.2 hu
end
mutual
theorem lvl_pre : ∀ {t : Tr}, lvlP t ≤ (preP t).length
  | .mk op nm kids => by
    rw [lvlP, preP, List.length_cons]
    have := lvl_preL (ts := kids) (n := 0)
    omega
theorem lvl_preL : ∀ {ts : List Tr} {n : Nat}, lvlL ts n ≤ n + (preL ts).length
  | [], n => by rw [lvlL]; omega
  | t :: ts, n => by
    rw [lvlL, preL, List.length_append]
    have h1 := lvl_pre (t := t)
    have h2 := lvl_preL (ts := ts) (n := max n (lvlP t))
    have h3 : max n (lvlP t) ≤ n + lvlP t := by omega
    omega
end
def refV (t : Tr) : Bool := (preP t).all oneT && (decide ((preP t).length ≤ 1000) && decide (lvlP t ≤ 64))
set_option maxHeartbeats 2000000 in
theorem refValid_any (t : Tr) (v : Value) (S : Nat → Prop) (w : World) (hw : wide t = true) (hl : (preP t).length ≤ 1000000) (hS : ∀ b, S b → b < w.heap.size) (hT : TrO w S t v) :
    Calls Try.prog 19 #[v] w fun e w' => e = .returned (.bool (refV t)) ∧ Fr nob w w' := by
  obtain ⟨o, nm, a, ln, cp, hform⟩ := hT.form
  subst hform
  have hpos := preP_pos t
  obtain ⟨R, hR⟩ : ∃ R, refV t = R := ⟨_, rfl⟩
  rw [hR]
  unfold refV at hR
  obtain ⟨N, hN⟩ : ∃ N, (preP t).length = N := ⟨_, rfl⟩
  have hlv : lvlP t ≤ 1000000 := Nat.le_trans lvl_pre hl
  obtain ⟨L, hL⟩ : ∃ L, lvlP t = L := ⟨_, rfl⟩
  rw [hN, hL] at hR
  rw [hN] at hl hpos
  have HR := Lib.hid hR
  have HN := Lib.hid hN
  have F1 : Fr nob w (w.alloc (.cells #[.int .u8 (o : Int), .string (txt nm), .slice a ln cp] 25)) := (Fr.refl nob w).alloc _
  have hB1 := Box3.new w (.int .u8 (o : Int)) (.string (txt nm)) (.slice a ln cp) 25
  have hT1 := hT.kept (T := S) F1 (fun b h _ => ⟨fun h => h, h⟩)
  have hC := row_any2 _ t (Nat.lt_succ_self _) _ S (w.alloc (.cells #[.int .u8 (o : Int), .string (txt nm), .slice a ln cp] 25)) hw (by rw [hN]; exact hl) (fun b h => by have := hS b h; simp; omega) hT1
  have HLV := fun (W : World) (h : TrO W S t (.agg #[.int .u8 (o : Int), .string (txt nm), .slice a ln cp])) => lvl_any _ t (Nat.lt_succ_self _) _ S W hw hlv h
  rw [hL] at HLV
  have HLV := Lib.hid HLV
  have HW := Lib.hid hw
  have HB1 := Lib.hid hB1
  have HF1 := Lib.hid F1
  have HT1 := Lib.hid hT1
  have ⟨g0, g1, g2, _⟩ := hB1
  clear hT F1 hB1 hT1 hR hN hw hS hlv hL
  go_enter Try.func19, Try.ntmps19
  go_upto_region 1 with fail
  generalize w.alloc (.cells #[.int .u8 (o : Int), .string (txt nm), .slice a ln cp] 25) = W1 at *
  go_wp2_with fail
  refine hC.mono ?_
  rintro e W2 ⟨g, cap, cells, rfl, hc, hRL, F2⟩
  rw [HN.out]
  have HB2 := Lib.hid (HB1.out.kept F2 (fun h => h))
  have HF2 := Lib.hid (HF1.out.trans F2 (fun _ _ h => h))
  have HT2 := Lib.hid (HT1.out.kept (T := S) F2 (fun b h _ => ⟨fun h => h, h⟩))
  have HC := Lib.hid hc
  have HRL := Lib.hid hRL
  clear F2 hc hRL hC HB1 HF1 HT1 g0 g1 g2
  go_wp2_with fail
  go_loopg [4] N (fun m iv wr => ∃ (k : Nat), k + m = N ∧ iv = .int .i64 (k : Int) ∧ ((preP t).take k).all oneT = true ∧ Fr nob W2 wr)
  case atStart => exact ⟨0, by omega, rfl, rfl, Fr.refl nob W2⟩
  case round =>
    obtain ⟨k, hkm, rfl, hall, hF⟩ := hrel
    have HALL := Lib.hid hall
    have HF := Lib.hid hF
    have q4 : (0 : Int) ≤ (k : Int) := Int.natCast_nonneg _
    clear hall hF
    cases gk with
    | zero =>
      obtain rfl : k = N := by omega
      have ek : (preP t).take k = preP t := List.take_of_length_le (by rw [HN.out]; exact Nat.le_refl _)
      rw [ek] at HALL
      rw [HALL.out, Bool.true_and] at HR
      have hB := HB2.out.kept HF.out (fun h => h)
      have ⟨b0, b1, b2, _⟩ := hB
      have hL := HLV.out wr (HT2.out.kept (T := S) HF.out (fun b h _ => ⟨fun h => h, h⟩))
      have HF3 := Lib.hid (HF2.out.trans HF.out (fun _ _ h => h))
      clear hB
      by_cases h1 : k ≤ 1000
      · have q5 : (k : Int) ≤ 1000 := by omega
        rw [decide_eq_true h1, Bool.true_and] at HR
        have q6 : decide ((L : Int) ≤ 64) = R := by rw [← HR.out, decide_eq_decide]; omega
        go_wp2_with (go_at_call 26; refine hL.mono ?_; rintro e w' ⟨rfl, F⟩)
        go_ret
        exact ⟨rfl, HF3.out.trans F (fun _ _ h => h)⟩
      · have q5 : ¬ (k : Int) ≤ 1000 := by omega
        rw [decide_eq_false h1, Bool.false_and] at HR
        obtain rfl := HR.out
        go_wp2_with fail
        go_ret
        exact ⟨rfl, HF3.out⟩
    | succ m =>
      have q3 : (k : Int) < (N : Int) := by omega
      have hk : k < (preP t).length := by rw [HN.out]; omega
      have hkt : (preP t)[k]? = some (preP t)[k] := List.getElem?_eq_getElem hk
      have hmem : (preP t)[k] ∈ preP t := List.getElem_mem hk
      have htk : (preP t).take (k + 1) = (preP t).take k ++ [(preP t)[k]] := List.take_succ_eq_append_getElem hk
      generalize (preP t)[k] = u at hkt hmem htk
      obtain ⟨o', nm', a', n', c', e0, e1, e2, hTu⟩ := HRL.out.at hkt
      have c0 := HF.out.cell (HC.out _ _ e0) (fun h => h)
      have c1 := HF.out.cell (HC.out _ _ e1) (fun h => h)
      have c2 := HF.out.cell (HC.out _ _ e2) (fun h => h)
      have hO := oneT_any u _ S wr (wide_pre HW.out hmem) (hTu.kept (T := S) HF.out (fun b h _ => ⟨fun h => h, h⟩))
      cases hou : oneT u with
      | false =>
        have hv : R = false := by
          rw [← HR.out, Bool.and_eq_false_iff]
          left
          rw [List.all_eq_false]
          exact ⟨u, hmem, by rw [hou]; decide⟩
        subst hv
        rw [hou] at hO
        clear hk hkt hmem htk e0 e1 e2 hTu
        go_wp2_with fail
        refine hO.mono ?_
        rintro e w3 ⟨rfl, F3⟩
        have HF3 := Lib.hid ((HF2.out.trans HF.out (fun _ _ h => h)).trans F3 (fun _ _ h => h))
        clear F3 hO c0 c1 c2
        go_wp2_with fail
        go_ret
        exact ⟨rfl, HF3.out⟩
      | true =>
        have HALL2 : Hid (((preP t).take (k + 1)).all oneT = true) := Lib.hid (by rw [htk, List.all_append, HALL.out]; simp [hou])
        rw [hou] at hO
        clear hk hkt hmem htk e0 e1 e2 hTu
        go_wp2_with fail
        refine hO.mono ?_
        rintro e w3 ⟨rfl, F3⟩
        have HF3 := Lib.hid (HF.out.trans F3 (fun _ _ h => h))
        clear F3 hO c0 c1 c2
        go_wp2_with fail
        go_roundg m
        case measure => omega
        case rel => exact ⟨k + 1, by omega, by go_num, HALL2.out, HF3.out⟩
end Go.Proofs.Ytbjdaibkcchllaa
namespace Go.Proofs.Ytbjdaibkcchllaa
open Go.RowKit

/-! both Valids are one -/
theorem lvlL_le_iff : ∀ {ts : List Tr} {n m : Nat}, lvlL ts n ≤ m ↔ n ≤ m ∧ ∀ t ∈ ts, lvlP t ≤ m
  | [], n, m => by rw [lvlL]; simp
  | t :: ts, n, m => by
    rw [lvlL, lvlL_le_iff, Nat.max_le]
    simp only [List.mem_cons, forall_eq_or_imp]
    exact ⟨fun h => ⟨h.1.1, h.1.2, h.2⟩, fun h => ⟨⟨h.1, h.2.1⟩, h.2.2⟩⟩
theorem kc_cases (op : Nat) : (op = 1 ∨ op = 2 ∨ op = 3 ∨ op = 4 ∨ op = 5 ∨ op = 6 ∨ op = 7 ∨ op = 8 ∨ op = 9 ∨ op = 10) ∨ (op ≠ 1 ∧ op ≠ 2 ∧ op ≠ 3 ∧ op ≠ 4 ∧ op ≠ 5 ∧ op ≠ 6 ∧ op ≠ 7 ∧ op ≠ 8 ∧ op ≠ 9 ∧ op ≠ 10) := by omega
theorem shape_one (op : Nat) (nm : List UInt8) (n : Nat) (hn : n ≤ 1000) : shapeB op nm n = oneB op nm n := by
  rcases kc_cases op with (rfl | rfl | rfl | rfl | rfl | rfl | rfl | rfl | rfl | rfl) | ⟨h1, h2, h3, h4, h5, h6, h7, h8, h9, h10⟩
  case inr => simp [shapeB, oneB, kcP, h1, h2, h3, h4, h5, h6, h7, h8, h9, h10]; intro _ h; omega
  all_goals
    simp [shapeB, oneB, kcP]
    try (rw [Bool.and_assoc]; congr 1; rw [Bool.eq_iff_iff]; simp; omega)
    try first | (intro _ _; omega) | (rw [show decide (n = 0) = (n == 0) from by rw [Bool.eq_iff_iff]; simp])
theorem kids_le {kids : List Tr} : kids.length ≤ (preL kids).length := by
  induction kids with
  | nil => rw [preL]; exact Nat.le_refl _
  | cons t ts ih =>
    rw [preL, List.length_append, List.length_cons]
    have := preP_pos t
    omega
mutual
theorem fit_iffP : ∀ {t : Tr} {c l : Nat}, c ≤ 1000 → ((fitP t c l).1 = true ↔ c + (preP t).length ≤ 1000 ∧ l + lvlP t ≤ 65 ∧ (preP t).all oneT = true) ∧ ((fitP t c l).1 = true → (fitP t c l).2 = c + (preP t).length)
  | .mk op nm kids, c, l, hc => by
    have hkl := kids_le (kids := kids)
    rw [fitP, preP, lvlP, List.length_cons]
    by_cases h : 1000 < c + 1 ∨ 64 < l ∨ shapeB op nm kids.length = false
    · rw [if_pos h]
      refine ⟨⟨fun h => (by cases h), fun h' => ?_⟩, fun h => by cases h⟩
      exfalso
      obtain ⟨h1, h2, h3⟩ := h'
      rw [List.all_cons, Bool.and_eq_true] at h3
      rcases h with h | h | h
      · omega
      · omega
      · rw [shape_one op nm kids.length (by omega)] at h
        have h4 : oneB op nm kids.length = true := h3.1
        rw [h4] at h
        cases h
    · rw [if_neg h]
      have h1 : c + 1 ≤ 1000 := by omega
      have h2 : l ≤ 64 := by omega
      have h3 : shapeB op nm kids.length = true := by
        cases hs : shapeB op nm kids.length with
        | true => rfl
        | false => exact absurd (.inr (.inr hs)) h
      obtain ⟨i1, i2⟩ := fit_iffL (ts := kids) (c := c + 1) (l := l + 1) h1
      refine ⟨?_, fun hh => by rw [i2 hh]; omega⟩
      rw [i1, List.all_cons, Bool.and_eq_true]
      constructor
      · rintro ⟨j1, j2, j3⟩
        refine ⟨by omega, ?_, ?_, j3⟩
        · have h5 : lvlL kids 0 ≤ 64 - l := lvlL_le_iff.2 ⟨Nat.zero_le _, fun t ht => by have := j2 t ht; omega⟩
          omega
        · show oneB op nm kids.length = true
          rw [← shape_one op nm kids.length (by omega)]; exact h3
      · rintro ⟨j1, j2, j3, j4⟩
        refine ⟨by omega, fun t ht => ?_, j4⟩
        have h5 : lvlL kids 0 ≤ 64 - l := by omega
        have := (lvlL_le_iff.1 h5).2 t ht
        omega
theorem fit_iffL : ∀ {ts : List Tr} {c l : Nat}, c ≤ 1000 → ((fitL ts c l).1 = true ↔ c + (preL ts).length ≤ 1000 ∧ (∀ t ∈ ts, l + lvlP t ≤ 65) ∧ (preL ts).all oneT = true) ∧ ((fitL ts c l).1 = true → (fitL ts c l).2 = c + (preL ts).length)
  | [], c, l, hc => by rw [fitL, preL]; simp; exact hc
  | t :: ts, c, l, hc => by
    obtain ⟨i1, i2⟩ := fit_iffP (t := t) (c := c) (l := l) hc
    rw [fitL, preL, List.length_append, List.all_append, Bool.and_eq_true]
    by_cases h : (fitP t c l).1 = true
    · rw [if_pos h]
      have h2 := i1.1 h
      have h3 := i2 h
      obtain ⟨j1, j2⟩ := fit_iffL (ts := ts) (c := (fitP t c l).2) (l := l) (by omega)
      refine ⟨?_, fun hh => by rw [j2 hh]; omega⟩
      rw [j1, h3]
      constructor
      · rintro ⟨k1, k2, k3⟩
        refine ⟨by omega, fun u hu => ?_, h2.2.2, k3⟩
        rcases List.mem_cons.1 hu with rfl | hu
        · exact h2.2.1
        · exact k2 u hu
      · rintro ⟨k1, k2, _, k3⟩
        exact ⟨by omega, fun u hu => k2 u (List.mem_cons_of_mem _ hu), k3⟩
    · rw [if_neg h]
      refine ⟨⟨fun h => (by cases h), fun h' => ?_⟩, fun h => by cases h⟩
      exact absurd (i1.2 ⟨by omega, h'.2.1 t List.mem_cons_self, h'.2.2.1⟩) h
end
theorem refV_eq (t : Tr) : refV t = validB t := by
  have h := (fit_iffP (t := t) (c := 0) (l := 1) (by omega)).1
  rw [Bool.eq_iff_iff]
  unfold validB refV
  rw [h]
  simp only [Bool.and_eq_true, decide_eq_true_iff]
  constructor
  · rintro ⟨h1, h2, h3⟩; exact ⟨by omega, by omega, h1⟩
  · rintro ⟨h1, h2, h3⟩; exact ⟨h3, by omega, by omega⟩
end Go.Proofs.Ytbjdaibkcchllaa
