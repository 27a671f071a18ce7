import Derived.Test.YtaojojjdfdlgpaaDz
import Derived.Test.YtaojojjdfdlgpaaQbp
namespace Go.Proofs.Ytaojojjdfdlgpaa
open Go.RowKit Uq

/-! the law's own comparisons -/
theorem below_kept {w w' : World} {l : List Int} {v : Value} (f : Fr nob w w') (h : IntsO w (fun b => b < w.heap.size) l v) : IntsO w' (fun b => b < w'.heap.size) l v :=
  h.kept (T := fun b => b < w'.heap.size) f (fun b h h' => ⟨fun h => h, by have := f.size; omega⟩)
theorem below_rows {w w' : World} {l : List (List Int)} {v : Value} (f : Fr nob w w') (h : RowsO w (fun b => b < w.heap.size) l v) : RowsO w' (fun b => b < w'.heap.size) l v :=
  h.kept (T := fun b => b < w'.heap.size) f (fun b h h' => ⟨fun h => h, by have := f.size; omega⟩)
set_option maxRecDepth 100000 in
set_option maxHeartbeats 4000000 in
theorem alike_same (l : List Int) (v v' : Value) (w : World) (hl : l.length ≤ 1048576) (h : IntsO w (fun b => b < w.heap.size) l v) (h' : IntsO w (fun b => b < w.heap.size) l v') :
    Calls Try.prog 27 #[v, v'] w fun e w' => e = .returned (.bool true) ∧ Fr nob w w' := by
  obtain ⟨a, cap, rfl⟩ := h.form
  obtain ⟨a', cap', rfl⟩ := h'.form
  obtain ⟨N, hN⟩ : ∃ N, l.length = N := ⟨_, rfl⟩
  rw [hN] at hl h h' ⊢
  have HH := Lib.hid h
  have HH' := Lib.hid h'
  have HN := Lib.hid hN
  clear h h' hN
  have q0 : ((N : Int) != (N : Int)) = false := by simp
  go_enter Try.func27, Try.ntmps27
  go_wp2_with fail
  go_loopg [5] N (fun m iv wr => ∃ k : Nat, k + m = N ∧ iv = .int .i64 (k : Int) ∧ Fr nob w wr)
  case atStart => exact ⟨0, by omega, rfl, Fr.refl _ _⟩
  case round =>
    obtain ⟨k, hkm, rfl, hF⟩ := hrel
    have q4 : (0 : Int) ≤ (k : Int) := Int.natCast_nonneg _
    have HF := Lib.hid hF
    clear hF
    cases gk with
    | zero =>
      obtain rfl : k = N := by omega
      go_wp2_with fail
      go_ret
      exact ⟨rfl, HF.out⟩
    | succ m =>
      have q3 : (k : Int) < (N : Int) := by omega
      have hk : k < l.length := by rw [HN.out]; omega
      have hkt : l[k]? = some l[k] := List.getElem?_eq_getElem hk
      generalize l[k] = x at hkt
      obtain ⟨b, ob, e1, _, c0⟩ := (below_kept ((HF.out).drew) HH.out).at hkt
      obtain ⟨b', ob', e2, _, c1⟩ := (below_kept ((HF.out).drew) HH'.out).at hkt
      subst e1 e2
      have q1 : (x != x) = false := by simp
      have HF2 := Lib.hid HF.out.drew
      clear hk hkt
      go_wp2_with fail
      go_region_with fail
      all_goals
        go_wp2_with fail
        go_roundg m
        case measure => omega
        case rel => exact ⟨k + 1, by omega, by go_num, HF2.out⟩
set_option maxRecDepth 100000 in
set_option maxHeartbeats 4000000 in
theorem same_same (l : List (List Int)) (v v' : Value) (w : World) (hl : l.length ≤ 1048576) (hl2 : ∀ r ∈ l, r.length ≤ 1048576) (h : RowsO w (fun b => b < w.heap.size) l v) (h' : RowsO w (fun b => b < w.heap.size) l v') :
    Calls Try.prog 28 #[v, v'] w fun e w' => e = .returned (.bool true) ∧ Fr nob w w' := by
  obtain ⟨a, cap, rfl⟩ := h.form
  obtain ⟨a', cap', rfl⟩ := h'.form
  obtain ⟨N, hN⟩ : ∃ N, l.length = N := ⟨_, rfl⟩
  rw [hN] at hl h h' ⊢
  have HH := Lib.hid h
  have HH' := Lib.hid h'
  have HN := Lib.hid hN
  have HL := Lib.hid hl2
  clear h h' hN hl2
  have q0 : ((N : Int) != (N : Int)) = false := by simp
  go_enter Try.func28, Try.ntmps28
  go_wp2_with fail
  go_loopg [5] N (fun m iv wr => ∃ k : Nat, k + m = N ∧ iv = .int .i64 (k : Int) ∧ Fr nob w wr)
  case atStart => exact ⟨0, by omega, rfl, Fr.refl _ _⟩
  case round =>
    obtain ⟨k, hkm, rfl, hF⟩ := hrel
    have q4 : (0 : Int) ≤ (k : Int) := Int.natCast_nonneg _
    have HF := Lib.hid hF
    clear hF
    cases gk with
    | zero =>
      obtain rfl : k = N := by omega
      go_wp2_with fail
      go_ret
      exact ⟨rfl, HF.out⟩
    | succ m =>
      have q3 : (k : Int) < (N : Int) := by omega
      have hk : k < l.length := by rw [HN.out]; omega
      have hkt : l[k]? = some l[k] := List.getElem?_eq_getElem hk
      have hmem : l[k] ∈ l := List.getElem_mem hk
      generalize l[k] = r at hkt hmem
      have hI1 := below_rows ((HF.out).drew) HH.out
      have hI2 := below_rows ((HF.out).drew) HH'.out
      obtain ⟨b, ob, e1, _, a1, cp1, c0, hr1⟩ := hI1.at hkt
      obtain ⟨b', ob', e2, _, a2, cp2, c1, hr2⟩ := hI2.at hkt
      subst e1 e2
      have hal := alike_same r _ _ wr.drew (HL.out r hmem) hr1 hr2
      generalize r.length = rl at *
      have HF2 := Lib.hid HF.out.drew
      clear hk hkt hmem hI1 hI2 hr1 hr2
      go_wp2_with fail
      go_region_with (go_at_call 27; (with_reducible refine hal.mono ?_); rintro e w' ⟨rfl, F⟩)
      all_goals
        have HF3 := Lib.hid (HF2.out.trans F (fun _ _ h => h))
        clear hal F c0 c1
        go_wp2_with fail
        go_roundg m
        case measure => omega
        case rel => exact ⟨k + 1, by omega, by go_num, HF3.out⟩
/-! the law FormulaPropagates -/
theorem large_noP {l : List (List Int)} (h : largeP l = false) : l.length ≤ 40 ∧ ∀ r ∈ l, r.length ≤ 80 := by
  unfold largeP at h
  rw [Bool.or_eq_false_iff, List.any_eq_false] at h
  refine ⟨by simpa using h.1, fun r hr => ?_⟩
  have := h.2 r hr
  simpa using this
theorem proP_len (n : Int) (l : List (List Int)) (F : List Int) : (proP n l F).1.length ≤ 1048576 := by
  unfold proP
  split
  · exact Nat.zero_le _
  · split
    · exact Nat.zero_le _
    · split
      · exact Nat.zero_le _
      · rename_i h _ _
        obtain ⟨hn, _⟩ := chk_zero2 (n := n) (l := l) (by simpa using h)
        have := resP_len (K := fun x => (consP l 50 F).contains x) 1 n.toNat
        dsimp only
        omega
set_option maxRecDepth 100000 in
set_option maxHeartbeats 4000000 in
theorem props_any (l : List (List Int)) (n : Int) (F : List Int) (v vf : Value) (w : World) (hwd : Wide l) (hFw : F.length ≤ 9223372036854775807) (hv : RowsO w (fun b => b < w.heap.size) l v) (hf : IntsO w (fun b => b < w.heap.size) F vf) (hcap : ∃ a c, vf = .slice a F.length c ∧ F.length ≤ c) :
    Calls Try.prog 4 #[.int .i64 n, v, vf] w fun e w' => e = .returned (.bool true) ∧ Fr nob w w' := by
  have hG := large_any l v _ w hwd hv
  have hWk := Lib.hid wakes_any
  obtain ⟨a, cap, hform⟩ := hv.form
  obtain ⟨fa, fcap, hfform, hcp⟩ := hcap
  cases hgr : largeP l with
  | true =>
    rw [hgr] at hG
    subst hform hfform
    generalize F.length = FL at *
    clear hwd hv hf hgr hcp hFw
    go_enter Try.func4, Try.ntmps4
    go_wp2_with (first | (go_at_call 23; with_reducible refine hG.mono ?_; rintro e w2 ⟨rfl, rfl⟩) | fail)
    refine (hWk.out _).mono ?_
    rintro e w3 ⟨rfl, F3⟩
    go_wp2_with fail
    go_ret
    exact ⟨rfl, F3⟩
  | false =>
    rw [hgr] at hG
    obtain ⟨g1, g2⟩ := large_noP hgr
    by_cases h60 : 60 < F.length
    · subst hform hfform
      generalize F.length = FL at *
      have q0 : (60 : Int) < (FL : Int) := by omega
      clear hwd hv hf hgr hcp hFw g1 g2
      go_enter Try.func4, Try.ntmps4
      go_wp2_with (first | (go_at_call 23; with_reducible refine hG.mono ?_; rintro e w2 ⟨rfl, rfl⟩) | fail)
      refine (hWk.out _).mono ?_
      rintro e w3 ⟨rfl, F3⟩
      go_wp2_with fail
      go_ret
      exact ⟨rfl, F3⟩
    · have hl1 : l.length ≤ 1048576 := by omega
      have hl2 : ∀ r ∈ l, r.length ≤ 1048576 := fun r hr => by have := g2 r hr; omega
      have hR := rows_any l v _ w hl1 hl2 hv
      obtain ⟨FL, hFL⟩ : ∃ FL, F.length = FL := ⟨_, rfl⟩
      have h60' : FL ≤ 60 := by omega
      have HFS : Hid (F.length ≤ 1000) := Lib.hid (by omega)
      rw [hFL] at hcp hfform
      have q0 : ¬ (60 : Int) < (FL : Int) := by omega
      obtain ⟨LL, hLL⟩ : ∃ LL, l.length = LL := ⟨_, rfl⟩
      have HLL := Lib.hid hLL
      rw [hLL] at hform
      have HL1 := Lib.hid hl1
      subst hform hfform
      have HV := Lib.hid hv
      have HF := Lib.hid hf
      have HWD := Lib.hid hwd
      have HFL := Lib.hid hFL
      have HL2 := Lib.hid hl2
      have HCP := Lib.hid hcp
      have HPL := Lib.hid (proP_len n l F)
      clear hv hf hwd hFL hLL hl1 hl2 g1 g2 hgr hFw h60 hcp
      go_enter Try.func4, Try.ntmps4
      go_wp2_with (first | (go_at_call 23; with_reducible refine hG.mono ?_; rintro e w2 ⟨rfl, rfl⟩) | fail)
      clear hG
      refine hR.mono ?_
      rintro e w1 ⟨v1, rfl, hR1, F1⟩
      obtain ⟨a1, cap1, rfl⟩ := hR1.form
      have hR1' := rows_in hR1
      rw [HLL.out] at hR1' ⊢
      have hf1 := below_kept F1 HF.out
      obtain ⟨ra, rc, w2, hrun, own2, F2⟩ := copyInts (by have := HFS.out; omega) hf1
      have hI2 : IntsO w2 (fun b => b < w2.heap.size) F (.slice ra F.length rc) := intsO_of own2 (fun g hg => (own2.lt g hg).2)
      rw [HFL.out] at hrun hI2
      have HR2 := Lib.hid (below_rows F2 hR1')
      have hP := propagates_any l n F _ _ w2 HWD.out HFS.out HR2.out hI2
      have HF2 := Lib.hid (F1.trans F2 (fun _ _ h => h))
      clear hR hR1 hR1' hf1 own2 hI2 F1 F2
      go_wp2_with (at_builtin; refine wpList_append_run2 _ rfl _ _ 37 rfl _ _ rfl rfl hrun ?_)
      refine hP.mono ?_
      rintro e w3 ⟨pv, rfl, hp3, F3⟩
      have HF3 := Lib.hid (HF2.out.trans F3 (fun _ _ h => h))
      have HR3 := Lib.hid (below_rows F3 HR2.out)
      have hQ := refProp_any l n F _ _ w3 HWD.out HFS.out (below_rows HF3.out HV.out) (below_kept HF3.out HF.out) ⟨fa, fcap, by rw [HFL.out], by rw [HFL.out]; exact HCP.out⟩
      have HP3 := Lib.hid hp3
      clear hP hp3 F3 HR2 HF2 hrun
      obtain ⟨k, hk⟩ : ∃ k, (proP n l F).2 = k := ⟨_, rfl⟩
      rw [hk]
      have HK := Lib.hid hk
      clear hk
      go_wp2_with fail
      refine hQ.mono ?_
      rintro e w4 ⟨pw, rfl, hp4, F4⟩
      rw [HK.out]
      have hA := alike_same _ _ _ w4 HPL.out (below_kept F4 HP3.out) hp4
      have HF4 := Lib.hid (HF3.out.trans F4 (fun _ _ h => h))
      have HR4 := Lib.hid (below_rows F4 HR3.out)
      have q1 : (k == k) = true := by simp
      clear hQ hp4 F4 HP3 HF3 HR3 HK HPL
      go_wp2_with fail
      refine hA.mono ?_
      rintro e w5 ⟨rfl, F5⟩
      have HF5 := Lib.hid (HF4.out.trans F5 (fun _ _ h => h))
      have hS := same_same l _ _ w5 HL1.out HL2.out (below_rows F5 HR4.out) (below_rows HF5.out HV.out)
      clear hA F5 HF4 HR4
      go_wp2_with fail
      refine hS.mono ?_
      rintro e w6 ⟨rfl, F6⟩
      have HF6 := Lib.hid (HF5.out.trans F6 (fun _ _ h => h))
      clear hS F6 HF5
      go_wp2_with fail
      refine (hWk.out _).mono ?_
      rintro e w7 ⟨rfl, F7⟩
      have HF7 := Lib.hid (HF6.out.trans F7 (fun _ _ h => h))
      clear F7
      go_wp2_with fail
      go_ret
      exact ⟨rfl, HF7.out⟩
end Go.Proofs.Ytaojojjdfdlgpaa
