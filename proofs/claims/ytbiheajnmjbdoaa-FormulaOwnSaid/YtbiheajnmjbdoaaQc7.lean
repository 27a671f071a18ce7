import Derived.Test.YtbiheajnmjbdoaaQc6
import Derived.Test.YtbiheajnmjbdoaaQc4
namespace Go.Proofs.Ytbiheajnmjbdoaa
open Go.RowKit

/-! the reference's Valid -/
def oneT : Tr → Bool
  | .mk op nm kids => oneB op nm kids.length
theorem oneT_any (t : Tr) (v : Value) (S : Nat → Prop) (w : World) (hw : wide t = true) (hT : TrO w S t v) : Calls Try.prog 43 #[v] w fun e w' => e = .returned (.bool (oneT t)) ∧ Fr nob w w' := by
  obtain ⟨op, nm, kids⟩ := t
  rw [TrO] at hT
  obtain ⟨a, cp, rfl, _⟩ := hT
  rw [wide, Bool.and_eq_true, Bool.and_eq_true, decide_eq_true_iff, decide_eq_true_iff] at hw
  exact one_any op nm a kids.length cp hw.1.1 w
mutual
theorem wide_pre : ∀ {t u : Tr}, wide t = true → u ∈ preP t → wide u = true
  | .mk op nm kids, u, h, hu => by
    rw [preP] at hu
    rcases List.mem_cons.1 hu with rfl | hu
    · exact h
    · rw [wide, Bool.and_eq_true] at h
      exact wide_preL h.2 hu
theorem wide_preL : ∀ {ts : List Tr} {u : Tr}, wideL ts = true → u ∈ preL ts → wide u = true
  | [], u, _, hu => by rw [preL] at hu; cases hu
  | t :: ts, u, h, hu => by
    rw [preL] at hu
    rw [wideL, Bool.and_eq_true] at h
    rcases List.mem_append.1 hu with hu | hu
    · exact wide_pre h.1 hu
    · exact wide_preL h.2 hu
end
mutual
theorem lvl_pre : ∀ {t : Tr}, lvlP t ≤ (preP t).length
  | .mk op nm kids => by
    rw [lvlP, preP, List.length_cons]
    have := lvl_preL (ts := kids) (n := 0)
    omega
theorem lvl_preL : ∀ {ts : List Tr} {n : Nat}, lvlL ts n ≤ n + (preL ts).length
  | [], n => by rw [lvlL]; omega
  | t :: ts, n => by
    rw [lvlL, preL, List.length_append]
    have h1 := lvl_pre (t := t)
    have h2 := lvl_preL (ts := ts) (n := max n (lvlP t))
    have h3 : max n (lvlP t) ≤ n + lvlP t := by omega
    omega
end
def refV (t : Tr) : Bool := (preP t).all oneT && (decide ((preP t).length ≤ 1000) && decide (lvlP t ≤ 64))
set_option maxHeartbeats 2000000 in
theorem refValid_any (t : Tr) (v : Value) (S : Nat → Prop) (w : World) (hw : wide t = true) (hl : (preP t).length ≤ 1000000) (hS : ∀ b, S b → b < w.heap.size) (hT : TrO w S t v) :
    Calls Try.prog 17 #[v] w fun e w' => e = .returned (.bool (refV t)) ∧ Fr nob w w' := by
  obtain ⟨o, nm, a, ln, cp, hform⟩ := hT.form
  subst hform
  have hpos := preP_pos t
  obtain ⟨R, hR⟩ : ∃ R, refV t = R := ⟨_, rfl⟩
  rw [hR]
  unfold refV at hR
  obtain ⟨N, hN⟩ : ∃ N, (preP t).length = N := ⟨_, rfl⟩
  have hlv : lvlP t ≤ 1000000 := Nat.le_trans lvl_pre hl
  obtain ⟨L, hL⟩ : ∃ L, lvlP t = L := ⟨_, rfl⟩
  rw [hN, hL] at hR
  rw [hN] at hl hpos
  have HR := Lib.hid hR
  have HN := Lib.hid hN
  have F1 : Fr nob w (w.alloc (.cells #[.int .u8 (o : Int), .string (txt nm), .slice a ln cp] 25)) := (Fr.refl nob w).alloc _
  have hB1 := Box3.new w (.int .u8 (o : Int)) (.string (txt nm)) (.slice a ln cp) 25
  have hT1 := hT.kept (T := S) F1 (fun b h _ => ⟨fun h => h, h⟩)
  have hC := row_any2 _ t (Nat.lt_succ_self _) _ S (w.alloc (.cells #[.int .u8 (o : Int), .string (txt nm), .slice a ln cp] 25)) hw (by rw [hN]; exact hl) (fun b h => by have := hS b h; simp; omega) hT1
  have HLV := fun (W : World) (h : TrO W S t (.agg #[.int .u8 (o : Int), .string (txt nm), .slice a ln cp])) => lvl_any _ t (Nat.lt_succ_self _) _ S W hw hlv h
  rw [hL] at HLV
  have HLV := Lib.hid HLV
  have HW := Lib.hid hw
  have HB1 := Lib.hid hB1
  have HF1 := Lib.hid F1
  have HT1 := Lib.hid hT1
  have ⟨g0, g1, g2, _⟩ := hB1
  clear hT F1 hB1 hT1 hR hN hw hS hlv hL
  go_enter Try.func17, Try.ntmps17
  go_upto_region 1 with fail
  generalize w.alloc (.cells #[.int .u8 (o : Int), .string (txt nm), .slice a ln cp] 25) = W1 at *
  go_wp2_with fail
  refine hC.mono ?_
  rintro e W2 ⟨g, cap, cells, rfl, hc, hRL, F2⟩
  rw [HN.out]
  have HB2 := Lib.hid (HB1.out.kept F2 (fun h => h))
  have HF2 := Lib.hid (HF1.out.trans F2 (fun _ _ h => h))
  have HT2 := Lib.hid (HT1.out.kept (T := S) F2 (fun b h _ => ⟨fun h => h, h⟩))
  have HC := Lib.hid hc
  have HRL := Lib.hid hRL
  clear F2 hc hRL hC HB1 HF1 HT1 g0 g1 g2
  go_wp2_with fail
  go_loopg [4] N (fun m iv wr => ∃ (k : Nat), k + m = N ∧ iv = .int .i64 (k : Int) ∧ ((preP t).take k).all oneT = true ∧ Fr nob W2 wr)
  case atStart => exact ⟨0, by omega, rfl, rfl, Fr.refl nob W2⟩
  case round =>
    obtain ⟨k, hkm, rfl, hall, hF⟩ := hrel
    have HALL := Lib.hid hall
    have HF := Lib.hid hF
    have q4 : (0 : Int) ≤ (k : Int) := Int.natCast_nonneg _
    clear hall hF
    cases gk with
    | zero =>
      obtain rfl : k = N := by omega
      have ek : (preP t).take k = preP t := List.take_of_length_le (by rw [HN.out]; exact Nat.le_refl _)
      rw [ek] at HALL
      rw [HALL.out, Bool.true_and] at HR
      have hB := HB2.out.kept HF.out (fun h => h)
      have ⟨b0, b1, b2, _⟩ := hB
      have hL := HLV.out wr (HT2.out.kept (T := S) HF.out (fun b h _ => ⟨fun h => h, h⟩))
      have HF3 := Lib.hid (HF2.out.trans HF.out (fun _ _ h => h))
      clear hB
      by_cases h1 : k ≤ 1000
      · have q5 : (k : Int) ≤ 1000 := by omega
        rw [decide_eq_true h1, Bool.true_and] at HR
        have q6 : decide ((L : Int) ≤ 64) = R := by rw [← HR.out, decide_eq_decide]; omega
        go_wp2_with (go_at_call 24; refine hL.mono ?_; rintro e w' ⟨rfl, F⟩)
        go_ret
        exact ⟨rfl, HF3.out.trans F (fun _ _ h => h)⟩
      · have q5 : ¬ (k : Int) ≤ 1000 := by omega
        rw [decide_eq_false h1, Bool.false_and] at HR
        obtain rfl := HR.out
        go_wp2_with fail
        go_ret
        exact ⟨rfl, HF3.out⟩
    | succ m =>
      have q3 : (k : Int) < (N : Int) := by omega
      have hk : k < (preP t).length := by rw [HN.out]; omega
      have hkt : (preP t)[k]? = some (preP t)[k] := List.getElem?_eq_getElem hk
      have hmem : (preP t)[k] ∈ preP t := List.getElem_mem hk
      have htk : (preP t).take (k + 1) = (preP t).take k ++ [(preP t)[k]] := List.take_succ_eq_append_getElem hk
      generalize (preP t)[k] = u at hkt hmem htk
      obtain ⟨o', nm', a', n', c', e0, e1, e2, hTu⟩ := HRL.out.at hkt
      have c0 := HF.out.cell (HC.out _ _ e0) (fun h => h)
      have c1 := HF.out.cell (HC.out _ _ e1) (fun h => h)
      have c2 := HF.out.cell (HC.out _ _ e2) (fun h => h)
      have hO := oneT_any u _ S wr (wide_pre HW.out hmem) (hTu.kept (T := S) HF.out (fun b h _ => ⟨fun h => h, h⟩))
      cases hou : oneT u with
      | false =>
        have hv : R = false := by
          rw [← HR.out, Bool.and_eq_false_iff]
          left
          rw [List.all_eq_false]
          exact ⟨u, hmem, by rw [hou]; decide⟩
        subst hv
        rw [hou] at hO
        clear hk hkt hmem htk e0 e1 e2 hTu
        go_wp2_with fail
        refine hO.mono ?_
        rintro e w3 ⟨rfl, F3⟩
        have HF3 := Lib.hid ((HF2.out.trans HF.out (fun _ _ h => h)).trans F3 (fun _ _ h => h))
        clear F3 hO c0 c1 c2
        go_wp2_with fail
        go_ret
        exact ⟨rfl, HF3.out⟩
      | true =>
        have HALL2 : Hid (((preP t).take (k + 1)).all oneT = true) := Lib.hid (by rw [htk, List.all_append, HALL.out]; simp [hou])
        rw [hou] at hO
        clear hk hkt hmem htk e0 e1 e2 hTu
        go_wp2_with fail
        refine hO.mono ?_
        rintro e w3 ⟨rfl, F3⟩
        have HF3 := Lib.hid (HF.out.trans F3 (fun _ _ h => h))
        clear F3 hO c0 c1 c2
        go_wp2_with fail
        go_roundg m
        case measure => omega
        case rel => exact ⟨k + 1, by omega, by go_num, HALL2.out, HF3.out⟩
end Go.Proofs.Ytbiheajnmjbdoaa
