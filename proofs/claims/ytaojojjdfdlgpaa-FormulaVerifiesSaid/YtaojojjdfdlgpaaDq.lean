import Derived.Test.YtaojojjdfdlgpaaDp
namespace Go.Proofs.Ytaojojjdfdlgpaa
open Go.RowKit Uq

/-! assume, retreat -/
theorem drop_at3 {α : Type} {l : List α} {k : Nat} {x : α} (h : l[k]? = some x) : l.drop k = x :: l.drop (k + 1) := by
  have hk := (List.getElem?_eq_some_iff.1 h).1
  rw [List.drop_eq_getElem_cons hk]
  congr 1
  exact (List.getElem?_eq_some_iff.1 h).2
theorem ass_step {l : Int} {t : List Int} {s : DS} (h : (folP s l none).1 = true) : assP (l :: t) s = assP t (folP s l none).2 := by rw [assP, if_pos h]
theorem ass_stop {l : Int} {t : List Int} {s : DS} (h : (folP s l none).1 = false) : assP (l :: t) s = (false, (folP s l none).2) := by rw [assP, if_neg (by rw [h]; decide)]
theorem note_mid {ids : List Nat} {s : DS} {x : Int} {r : Option Nat} (hM : Mid ids s) (hx : Ltr x) : Mid ids (noteP s x r).2 := by
  obtain ⟨n1, n2, n3, n4, n5, n6, _⟩ := hM.tra.note hx r
  refine ⟨n1, by rw [n4, n5]; exact hM.wat, ?_⟩
  have hle := hM.le
  cases hok : (noteP s x r).1 with
  | true =>
    obtain ⟨_, tt, htt, _⟩ := n2 hok
    rw [n6, htt, List.length_append]; omega
  | false =>
    rw [n6, (n3 hok).2]; exact hle
set_option maxRecDepth 100000 in
set_option maxHeartbeats 2000000 in
theorem assume_dm (Z : Nat → Prop) (d : Nat) (sh : Nat → Nat × Nat) (G : Nat → Prop) (s : DS) (c : Nat → Value) (F : List Int) (v : Value) (S : Nat → Prop) (w : World) (ids : List Nat) (h : Dm w Z 100 d sh G s c) (hM : Mid ids s) (hv : IntsO w S F v) (hS : ∀ b, S b → Z b) (hF : ∀ x ∈ F, Ltr x) (hFl : F.length ≤ 1000000) (hG : ∀ g ∈ ids, G g) (hids : ids.length ≤ 1000000) (hsh : ∀ g, G g → (sh g).1 ≤ 1000000) :
    Calls Try.prog 56 #[.pointer (some ⟨d, 0, none⟩), v] w fun e w' => e = .returned (.bool (assP F s).1) ∧ ∃ c', Dm w' Z 100 d sh G (assP F s).2 c' ∧ Fr (fun k => ¬ Z k) w w' := by
  obtain ⟨a, cap, rfl⟩ := hv.form
  obtain ⟨R, hR⟩ : ∃ R, assP F s = R := ⟨_, rfl⟩
  obtain ⟨N, hN⟩ : ∃ N, F.length = N := ⟨_, rfl⟩
  rw [hR]
  rw [hN] at hFl hv ⊢
  have HD := Lib.hid h
  have HM := Lib.hid hM
  have HR := Lib.hid hR
  have HN := Lib.hid hN
  have HV := Lib.hid hv
  have HS := Lib.hid hS
  have HF0 := Lib.hid hF
  have HG := Lib.hid hG
  have HSH := Lib.hid hsh
  clear h hM hR hN hv hS hF hG hsh
  go_enter Try.func56, Try.ntmps56
  go_wp2_with fail
  go_loopg [9] N (fun m iv wr => ∃ (k : Nat) (s' : DS) (c' : Nat → Value), k + m = N ∧ iv = .int .i64 (k : Int) ∧ Mid ids s' ∧ assP (F.drop k) s' = R ∧ Dm wr Z 100 d sh G s' c' ∧ Fr (fun k => ¬ Z k) w wr)
  case atStart => exact ⟨0, s, c, by omega, rfl, HM.out, by rw [List.drop_zero]; exact HR.out, HD.out, Fr.refl _ _⟩
  case round =>
    clear HD HM HR
    obtain ⟨k, s', c', hkm, rfl, hM, hR, hD, hF⟩ := hrel
    have HM := Lib.hid hM
    have HR := Lib.hid hR
    have HD := Lib.hid hD
    have HF := Lib.hid hF
    have q4 : (0 : Int) ≤ (k : Int) := Int.natCast_nonneg _
    clear hM hR hD hF
    cases gk with
    | zero =>
      obtain rfl : k = N := by omega
      have hE := HR.out
      rw [List.drop_eq_nil_of_le (by rw [HN.out]; exact Nat.le_refl _), assP] at hE
      have HE := Lib.hid hE
      have c1 := (HD.out.hp.mem 151 (by decide)).1
      rw [HD.out.sm.bk] at c1
      clear hE
      go_wp2_with fail
      go_ret
      rw [← HE.out]
      exact ⟨rfl, c', HD.out, HF.out⟩
    | succ m =>
      have q3 : (k : Int) < (N : Int) := by omega
      have hk : k < F.length := by rw [HN.out]; omega
      have hkt : F[k]? = some F[k] := List.getElem?_eq_getElem hk
      have hmem : F[k] ∈ F := List.getElem_mem hk
      generalize F[k] = x at hkt hmem
      obtain ⟨b, ob, rfl, hSb, hcl0⟩ := HV.out.at hkt
      have hcl := HF.out.cell hcl0 (fun e => e (HS.out b hSb))
      have hx := HF0.out x hmem
      have hNt := note_dm Z 100 d sh G s' c' x none wr hx (fun z hz => by cases hz) HD.out (.inr rfl) (Nat.le_trans (lits_le HM.out.tra.nodup HM.out.tra.lits) (by decide))
      have hR2 := HR.out
      rw [drop_at3 hkt] at hR2
      have HR2 := Lib.hid hR2
      have HM2 := Lib.hid (note_mid (r := none) HM.out hx)
      clear hk hkt hmem hcl0 hR2 hx
      go_wp2_with fail
      refine hNt.mono ?_
      rintro e w2 ⟨rfl, c2, hD2, _, F2⟩
      have HD2 := Lib.hid hD2
      have HF2 := Lib.hid (HF.out.trans F2 (fun _ _ h => h))
      clear hNt hD2 F2 hcl HD HF
      cases hok : (noteP s' x none).1 with
      | true =>
        have hP := propagate_dm Z d sh G _ c2 49 w2 ids HD2.out HM2.out HG.out hids HSH.out (by omega)
        have HFO := Lib.hid (fol_true hok)
        have HPA := Lib.hid (prop_all (ids := ids) (n := 49) HM2.out (by omega)).1
        clear hok
        go_wp2_with fail
        refine hP.mono ?_
        rintro e w3 ⟨rfl, c3, hD3, F3⟩
        have HD3 := Lib.hid hD3
        have HF3 := Lib.hid (HF2.out.trans F3 (fun _ _ h => h))
        clear hP hD3 F3 HD2 HF2
        cases hok2 : (propP 49 (noteP s' x none).2).1 with
        | true =>
          have hR3 := HR2.out
          rw [ass_step (by rw [HFO.out]; exact hok2), HFO.out] at hR3
          have HR3 := Lib.hid hR3
          clear hR3 hok2
          go_wp2_with fail
          go_roundg m
          case measure => omega
          case rel => exact ⟨k + 1, _, c3, by omega, by go_num, HPA.out, HR3.out, HD3.out, HF3.out⟩
        | false =>
          have hR3 := HR2.out
          rw [ass_stop (by rw [HFO.out]; exact hok2), HFO.out] at hR3
          have HR3 := Lib.hid hR3
          clear hR3 hok2
          go_wp2_with fail
          go_ret
          rw [← HR3.out]
          exact ⟨rfl, c3, HD3.out, HF3.out⟩
      | false =>
        have hR3 := HR2.out
        rw [ass_stop (by rw [fol_false hok]), fol_false hok] at hR3
        have HR3 := Lib.hid hR3
        clear hR3 hok
        go_wp2_with fail
        go_ret
        rw [← HR3.out]
        exact ⟨rfl, c2, HD2.out, HF2.out⟩
end Go.Proofs.Ytaojojjdfdlgpaa
