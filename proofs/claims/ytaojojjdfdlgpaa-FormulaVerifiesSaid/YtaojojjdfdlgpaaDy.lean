import Derived.Test.YtaojojjdfdlgpaaDx
namespace Go.Proofs.Ytaojojjdfdlgpaa
open Go.RowKit Uq

theorem cons_ltr {l : List (List Int)} {F : List Int} (hl : ∀ c ∈ l, ∀ x ∈ c, Ltr x) (hF : ∀ x ∈ F, Ltr x) : ∀ x ∈ consP l 50 F, Ltr x := by
  obtain ⟨_, _, c3, _⟩ := cons_all hl (n := 50) (out := F) (by have := room_le F; omega)
  exact c3 Ltr (fun c hc x hx _ => hl c hc x hx) hF
set_option maxRecDepth 100000 in
set_option maxHeartbeats 4000000 in
theorem conf_any (l : List (List Int)) (F : List Int) (v vf : Value) (w : World) (hlt : ∀ c ∈ l, ∀ x ∈ c, Ltr x) (hFt : ∀ x ∈ F, Ltr x) (hl1 : l.length ≤ 1048576) (hl2 : ∀ r ∈ l, r.length ≤ 1048576) (hF : F.length ≤ 1000) (hv : RowsO w (fun b => b < w.heap.size) l v) (hf : IntsO w (fun b => b < w.heap.size) F vf) :
    Calls Try.prog 59 #[v, vf] w fun e w' => e = .returned (.bool (confP l F)) ∧ Fr nob w w' := by
  have hcons := cons_any l F v vf w hlt hl1 hl2 hF hv hf
  have hct := cons_ltr hlt hFt
  obtain ⟨a, cap, rfl⟩ := hv.form
  obtain ⟨fa, fcap, rfl⟩ := hf.form
  obtain ⟨L, hL⟩ : ∃ L, l.length = L := ⟨_, rfl⟩
  obtain ⟨FL, hFL⟩ : ∃ FL, F.length = FL := ⟨_, rfl⟩
  obtain ⟨R, hR⟩ : ∃ R, confP l F = R := ⟨_, rfl⟩
  obtain ⟨C, hC⟩ : ∃ C, consP l 50 F = C := ⟨_, rfl⟩
  rw [hR]
  rw [hC] at hcons hct
  unfold confP at hR
  rw [hC] at hR
  rw [hL] at hl1 hv hcons ⊢
  rw [hFL] at hcons ⊢
  have HV := Lib.hid hv
  have HL := Lib.hid hL
  have HR := Lib.hid hR
  have HCT := Lib.hid hct
  clear hv hf hlt hFt hl2 hF hL hFL hC hR hct
  go_enter Try.func59, Try.ntmps59
  go_wp2_with fail
  go_loopg [5] L (fun m iv wr => ∃ k : Nat, k + m = L ∧ iv = .int .i64 (k : Int) ∧ ((l.drop k).any (·.isEmpty) || C.any fun x => C.contains (-x)) = R ∧ w = wr)
  case atStart => exact ⟨0, by omega, rfl, by rw [List.drop_zero]; exact HR.out, rfl⟩
  case round =>
    clear HR
    obtain ⟨k, hkm, rfl, hrest, rfl⟩ := hrel
    have HRE := Lib.hid hrest
    have q4 : (0 : Int) ≤ (k : Int) := Int.natCast_nonneg _
    clear hrest
    cases gk with
    | zero =>
      obtain rfl : k = L := by omega
      have hR2 : (C.any fun x => C.contains (-x)) = R := by
        rw [← HRE.out, show l.drop k = [] from List.drop_eq_nil_of_le (by rw [HL.out]; exact Nat.le_refl _)]; rfl
      have HR2 := Lib.hid hR2
      clear hR2
      go_wp2_with fail
      refine hcons.mono ?_
      rintro e w2 ⟨u, rfl, hI, hlen, F2⟩
      obtain ⟨a2, c2, rfl⟩ := hI.form
      have hin := fun z => in_any C z _ _ w2 (by omega) hI
      obtain ⟨N, hN⟩ : ∃ N, C.length = N := ⟨_, rfl⟩
      rw [hN] at hI hlen hin ⊢
      have HI := Lib.hid hI
      have HN := Lib.hid hN
      have HF2 := Lib.hid F2
      clear hcons hI hN F2
      go_wp2_with fail
      go_loopg [7] N (fun m iv wr => ∃ k : Nat, k + m = N ∧ iv = .int .i64 (k : Int) ∧ ((C.drop k).any fun x => C.contains (-x)) = R ∧ w2 = wr)
      case atStart => exact ⟨0, by omega, rfl, by rw [List.drop_zero]; exact HR2.out, rfl⟩
      case round =>
        clear HR2
        obtain ⟨j, hjm, rfl, hrest, rfl⟩ := hrel
        have q5 : (0 : Int) ≤ (j : Int) := Int.natCast_nonneg _
        cases gk with
        | zero =>
          obtain rfl : j = N := by omega
          obtain rfl : R = false := by
            rw [← hrest, show C.drop j = [] from List.drop_eq_nil_of_le (by rw [HN.out]; exact Nat.le_refl _)]; rfl
          clear hrest
          go_wp2_with fail
          go_ret
          exact ⟨rfl, HF2.out⟩
        | succ m =>
          have q6 : (j : Int) < (N : Int) := by omega
          have hj : j < C.length := by rw [HN.out]; omega
          have hjy : C[j]? = some C[j] := List.getElem?_eq_getElem hj
          have hmy : C[j] ∈ C := List.getElem_mem hj
          generalize C[j] = y at hjy hmy
          obtain ⟨b4, ob4, e4, _, c0⟩ := HI.out.at hjy
          subst e4
          have hy := HCT.out y hmy
          have hy1 : -24 ≤ y := by unfold Ltr at hy; omega
          have hy2 : y ≤ 24 := by unfold Ltr at hy; omega
          have hst := any_drop (p := fun x => C.contains (-x)) hjy
          rw [hrest] at hst
          obtain ⟨A2, hA2⟩ : ∃ A2, C.contains (-y) = A2 := ⟨_, rfl⟩
          rw [hA2] at hst
          have hiny := hin (-y)
          rw [hA2] at hiny
          have HST := Lib.hid hst
          clear hst hrest hj hjy hmy hy hA2
          cases A2 with
          | true =>
            obtain rfl : R = true := HST.out
            go_wp2_with fail
            refine hiny.mono ?_
            rintro e w' ⟨rfl, rfl⟩
            clear hiny
            go_wp2_with fail
            go_ret
            exact ⟨rfl, HF2.out⟩
          | false =>
            have HV2 : Hid (((C.drop (j + 1)).any fun x => C.contains (-x)) = R) := Lib.hid HST.out.symm
            go_wp2_with fail
            refine hiny.mono ?_
            rintro e w' ⟨rfl, rfl⟩
            clear hiny
            go_wp2_with fail
            go_roundg m
            case measure => omega
            case rel => exact ⟨j + 1, by omega, by go_num, HV2.out, rfl⟩
    | succ m =>
      have q6 : (k : Int) < (L : Int) := by omega
      have hk : k < l.length := by rw [HL.out]; omega
      have hkt : l[k]? = some l[k] := List.getElem?_eq_getElem hk
      generalize l[k] = r at hkt
      obtain ⟨b, ob, rfl, hSb, a', cap', c0, _⟩ := HV.out.at hkt
      have hst := any_drop (p := fun r : List Int => r.isEmpty) hkt
      have hre := HRE.out
      rw [hst] at hre
      obtain ⟨rl, hrl⟩ : ∃ rl, r.length = rl := ⟨_, rfl⟩
      rw [hrl] at c0
      have HRL := Lib.hid hrl
      have HRR := Lib.hid hre
      clear hst hk hkt hre hrl
      by_cases e0 : rl = 0
      · have q0 : ((rl : Int) == 0) = true := by rw [e0]; rfl
        obtain rfl : R = true := by
          rw [← HRR.out, show r = [] from List.eq_nil_of_length_eq_zero (by rw [HRL.out]; exact e0)]; rfl
        clear e0
        go_wp2_with fail
        go_ret
        exact ⟨rfl, Fr.refl _ _⟩
      · have q0 : ((rl : Int) == 0) = false := by simp; omega
        have hv : ((l.drop (k + 1)).any (·.isEmpty) || C.any fun x => C.contains (-x)) = R := by
          rw [← HRR.out]
          have : r.isEmpty = false := by
            cases r with
            | nil => exact absurd HRL.out.symm e0
            | cons x t => rfl
          rw [this, Bool.false_or]
        have HV4 := Lib.hid hv
        clear hv e0
        go_wp2_with fail
        go_roundg m
        case measure => omega
        case rel => exact ⟨k + 1, by omega, by go_num, HV4.out, rfl⟩
end Go.Proofs.Ytaojojjdfdlgpaa
