import Derived.Test.YtaojojjdfdlgpaaDy
namespace Go.Proofs.Ytaojojjdfdlgpaa
open Go.RowKit Uq

theorem lits_drop {n : Int} {F : List Int} {k : Nat} {x : Int} (h : F[k]? = some x) : litsB n (F.drop k) = (litB n x && litsB n (F.drop (k + 1))) := all_drop h
theorem fitsB_one (n x : Int) : fitsB n [x] = litB n x := by unfold fitsB litsB; simp
/-- one literal of a list -/
theorem IntsO.one {w : World} {S : Nat → Prop} {l : List Int} {b ob n cap : Nat} (h : IntsO w S l (.slice (some ⟨b, ob, none⟩) n cap)) {j : Nat} {x : Int} (hj : l[j]? = some x) (c' : Nat) :
    IntsO w S [x] (.slice (some ⟨b, ob + j, none⟩) 1 c') := by
  obtain ⟨b', ob', e, hS, hc⟩ := h.at hj
  cases e
  refine ⟨_, c', rfl, (fun e => by cases e), fun _ => ⟨b, ob + j, rfl, hS, fun i y hi => ?_⟩⟩
  cases i with
  | zero =>
    cases hi
    exact hc
  | succ i => simp at hi
set_option maxRecDepth 100000 in
set_option maxHeartbeats 4000000 in
theorem refProp_any (l : List (List Int)) (n : Int) (F : List Int) (v vf : Value) (w : World) (hwd : Wide l) (hF : F.length ≤ 1000) (hv : RowsO w (fun b => b < w.heap.size) l v) (hf : IntsO w (fun b => b < w.heap.size) F vf) (hcap : ∃ a c, vf = .slice a F.length c ∧ F.length ≤ c) :
    Calls Try.prog 26 #[.int .i64 n, v, vf] w (ProPost n l F w) := by
  have hC := refCls_any l n v _ w hwd hv
  obtain ⟨a, cap, rfl⟩ := hv.form
  obtain ⟨fa, fcap, rfl, hcp⟩ := hcap
  by_cases hk : chkP n l = 0
  · rw [hk] at hC
    obtain ⟨hn, hl1, hl2⟩ := chk_zero2 hk
    obtain ⟨n1, n2⟩ := hn
    have hltr := chk_ltr hk
    have hcf := fun (hb : litsB n F = true) => conf_any l F _ _ w hltr (lits_ltr n2 hb) (by omega) (fun r hr => by have := (hl2 r hr).1; omega) hF hv hf
    have hcs := fun w' (f : Fr nob w w') => cons_any l F _ _ w' hltr (by omega) (fun r hr => by have := (hl2 r hr).1; omega) hF (hv.kept (T := fun b => b < w'.heap.size) f (fun b h h' => ⟨fun h => h, by have := f.size; omega⟩)) (hf.kept (T := fun b => b < w'.heap.size) f (fun b h h' => ⟨fun h => h, by have := f.size; omega⟩))
    obtain ⟨L, hL⟩ : ∃ L, l.length = L := ⟨_, rfl⟩
    obtain ⟨FL, hFL⟩ : ∃ FL, F.length = FL := ⟨_, rfl⟩
    rw [hL] at hC hcf hcs
    rw [hFL] at hcf hcs hF hcp
    rw [hL, hFL]
    have hf' := hf
    rw [hFL] at hf'
    have HF := Lib.hid hf'
    have HK := Lib.hid hk
    have HFL := Lib.hid hFL
    have HCF := Lib.hid hcf
    have HCS := Lib.hid hcs
    have HLT := Lib.hid hltr
    clear hv hf hf' hwd hk hl1 hl2 hL hFL hltr hcf hcs
    go_enter Try.func26, Try.ntmps26
    go_wp2_with fail
    refine hC.mono ?_
    rintro e w2 ⟨rfl, rfl⟩
    clear hC
    go_wp2_with fail
    go_loopg [9] FL (fun m iv wr => ∃ k : Nat, k + m = FL ∧ iv = .int .i64 (k : Int) ∧ litsB n (F.drop k) = litsB n F ∧ w = wr)
    case atStart => exact ⟨0, by omega, rfl, by rw [List.drop_zero], rfl⟩
    case round =>
      obtain ⟨k, hkm, rfl, hrest, rfl⟩ := hrel
      have HRE := Lib.hid hrest
      have q4 : (0 : Int) ≤ (k : Int) := Int.natCast_nonneg _
      clear hrest
      cases gk with
      | zero =>
        obtain rfl : k = FL := by omega
        have hb : litsB n F = true := by
          rw [← HRE.out, show F.drop k = [] from List.drop_eq_nil_of_le (by rw [HFL.out]; exact Nat.le_refl _)]; rfl
        have hcf := HCF.out hb
        have HB := Lib.hid hb
        clear hb HCF
        cases hcb : confP l F with
        | true =>
          have hE := fun w' => ProPost.err (w := w) (w' := w') (show proP n l F = ([], 9) by unfold proP; rw [if_neg (by rw [HK.out]; simp), if_neg (by rw [HB.out]; simp), if_pos hcb])
          rw [hcb] at hcf
          have HE : Hid (∀ w', Fr nob w w' → ProPost n l F w (.returned (.tuple #[.slice none 0 0, .int .i64 9])) w') := Lib.hid hE
          clear hE hcb HCS
          go_wp2_with fail
          refine hcf.mono ?_
          rintro e w2 ⟨rfl, F2⟩
          have HF2 := Lib.hid F2
          clear hcf F2
          go_wp2_with fail
          go_ret2
          exact HE.out _ HF2.out
        | false =>
          rw [hcb] at hcf
          have HCB := Lib.hid hcb
          clear hcb
          go_wp2_with fail
          refine hcf.mono ?_
          rintro e w2 ⟨rfl, F2⟩
          have HF2 := Lib.hid F2
          clear hcf F2
          go_wp2_with fail
          -- LOOP
          have hcs2 := HCS.out _ HF2.out
          have hres : proP n l F = (resP (fun x => (consP l 50 F).contains x) 1 n.toNat, 0) := by
            unfold proP
            rw [if_neg (by rw [HK.out]; simp), if_neg (by rw [HB.out]; simp), if_neg (by rw [HCB.out]; simp)]
          have HRES := Lib.hid hres
          clear hres HCS HCB HB HK
          refine hcs2.mono ?_
          rintro e w3 ⟨u, rfl, hI, hlen, F3⟩
          clear hcs2
          generalize consP l 50 F = C at *
          obtain ⟨a3, c3, rfl⟩ := hI.form
          obtain ⟨CN, hCN⟩ : ∃ CN, C.length = CN := ⟨_, rfl⟩
          rw [hCN] at hI hlen ⊢
          have HI := Lib.hid hI
          have HF3 := Lib.hid (HF2.out.trans F3 (fun _ _ h => h))
          have HCN := Lib.hid hCN
          obtain ⟨nn, rfl⟩ : ∃ nn : Nat, n = (nn : Int) := ⟨n.toNat, by omega⟩
          obtain ⟨ALL, hALL⟩ : ∃ ALL, resP (fun x => C.contains x) 1 nn = ALL := ⟨_, rfl⟩
          have hr2 := HRES.out
          rw [Int.toNat_natCast, hALL] at hr2
          have HPR := Lib.hid hr2
          have HALL := Lib.hid hALL
          have hnn : nn ≤ 24 := by omega
          have hinx : ∀ z wr, Fr nob w3 wr → Calls Try.prog 61 #[.slice a3 CN c3, .int .i64 z] wr fun e w' => e = .returned (.bool (C.contains z)) ∧ wr = w' := fun z wr f => in_any C z _ _ wr (by rw [hCN]; omega) (hI.kept (T := fun b => b < wr.heap.size) f (fun b h h' => ⟨fun h => h, by have := f.size; omega⟩))
          have HIN := Lib.hid hinx
          clear hI hCN hr2 hALL F3 HF2 HRES hinx HI
          go_wp2_with fail
          go_loopg [11, 12] nn (fun m ov iv wr => ∃ (i N : Nat) (acc : List Int), 1 ≤ i ∧ i + m = nn + 1 ∧ iv = .int .i64 (i : Int) ∧ N ≤ 2 * (i - 1) ∧ (∃ oa ocp, ov = .slice oa N ocp) ∧ Outs w3.heap.size N acc ov wr ∧ acc ++ resP (fun x => C.contains x) i m = ALL ∧ Fr nob w3 wr)
          case atStart => exact ⟨1, 0, [], Nat.le_refl _, by omega, rfl, Nat.zero_le _, ⟨_, _, rfl⟩, ⟨rfl, World.ownsRow_nil _ _ _ _⟩, HALL.out, Fr.refl _ _⟩
          case round =>
            obtain ⟨i, N, acc, hi1, him, rfl, hN, ⟨oa, ocp, rfl⟩, hO, hacc, hF4⟩ := hrel
            have HACC := Lib.hid hacc
            have HO := Lib.hid hO
            have HF4 := Lib.hid hF4
            clear hacc hF4 hO HALL
            cases gk with
            | zero =>
              have q0 : ¬ (i : Int) ≤ (nn : Int) := by omega
              have hv := HACC.out
              rw [resP, List.append_nil] at hv
              subst hv
              go_wp2_with fail
              go_ret2
              refine ⟨.slice oa N ocp, by rw [HPR.out]; rfl, ?_, HF3.out.trans HF4.out (fun _ _ h => h)⟩
              rw [HPR.out]
              exact HO.out.ints
            | succ m =>
              have q0 : (i : Int) ≤ (nn : Int) := by omega
              obtain ⟨ka, hka⟩ : ∃ ka, C.contains (i : Int) = ka := ⟨_, rfl⟩
              obtain ⟨kb, hkb⟩ : ∃ kb, C.contains (-(i : Int)) = kb := ⟨_, rfl⟩
              have HKA := Lib.hid hka
              have HKB := Lib.hid hkb
              have hia := HIN.out (i : Int) _ HF4.out
              rw [hka] at hia
              have hinb := fun wr f => HIN.out (-(i : Int)) wr f
              rw [hkb] at hinb
              have HINB := Lib.hid hinb
              clear hka hkb hinb
              cases ka with
              | false =>
                go_wp2_with fail
                refine hia.mono ?_
                rintro e w' ⟨rfl, rfl⟩
                clear hia
                go_wp2_with fail
                cases kb with
                | false =>
                  have hib := HINB.out _ HF4.out
                  go_wp2_with fail
                  refine hib.mono ?_
                  rintro e w' ⟨rfl, rfl⟩
                  clear hib
                  have hst : (acc) ++ resP (fun x => C.contains x) (i + 1) m = ALL := by
                    rw [← HACC.out, resP, HKB.out, HKA.out]; simp
                  have HST := Lib.hid hst
                  clear hst
                  go_wp2_with fail
                  go_roundg m
                  case measure => omega
                  case rel => exact ⟨i + 1, N, (acc), by omega, by omega, by go_num, by omega, ⟨_, _, rfl⟩, HO.out, HST.out, HF4.out⟩
                | true =>
                  have hib := HINB.out _ HF4.out
                  go_wp2_with fail
                  refine hib.mono ?_
                  rintro e w' ⟨rfl, rfl⟩
                  clear hib
                  obtain ⟨i0, hi0, hz0, hz1, hz2⟩ := info_parts info_int
                  have hs2 := HF4.out.size
                  go_wp2_with (at_builtin; refine wpList_append_own_at _ rfl _ _ 37 rfl w3.heap.size 3 i0 (.int .i64 0) 1 8 Try.underlying37 hi0 hz0 hz1 hz2 rfl (by decide) (.slice oa N ocp) N (acc.map (Value.int .i64)) rfl (HO.out.2.alloc _) ⟨wr.heap.size, 0, none⟩ 1 1 [.int .i64 (-(i : Int))] rfl ?c1 ?c2 ?c3 ?c4 ?c5 ?c6 ?_)
                  case c1 => rfl
                  case c2 => exact cell_one_new _ _ _
                  case c3 => intro u hu; simp at hu; subst hu; rfl
                  case c4 => unfold maxLen; omega
                  case c5 => omega
                  case c6 => simp; omega
                  intro v9 w9 own9 gr9 _ _
                  have hO9 : Outs w3.heap.size (N + 1) (acc ++ [-(i : Int)]) v9 w9 := ⟨by rw [List.length_append, HO.out.1]; rfl, by rw [List.map_append]; first | exact own9 | (simp only [List.map_append, List.map_cons, List.map_nil, List.append_assoc, List.cons_append, List.nil_append]; exact own9)⟩
                  have HF9 := Lib.hid ((HF4.out.alloc (.cells #[.int .i64 (-(i : Int))] 3)).grown gr9 (fun j hj hlt => absurd (HO.out.2.lt j hj).1 (by omega)))
                  have HO9 := Lib.hid hO9
                  obtain ⟨oa9, ocp9, rfl⟩ := hO9.form
                  clear hO9 own9 gr9 hs2
                  have hst : (acc ++ [-(i : Int)]) ++ resP (fun x => C.contains x) (i + 1) m = ALL := by
                    rw [← HACC.out, resP, HKB.out, HKA.out]; simp
                  have HST := Lib.hid hst
                  clear hst
                  go_wp2_with fail
                  go_roundg m
                  case measure => omega
                  case rel => exact ⟨i + 1, N + 1, (acc ++ [-(i : Int)]), by omega, by omega, by go_num, by omega, ⟨_, _, rfl⟩, HO9.out, HST.out, HF9.out⟩
              | true =>
                go_wp2_with fail
                refine hia.mono ?_
                rintro e w' ⟨rfl, rfl⟩
                clear hia
                obtain ⟨i0, hi0, hz0, hz1, hz2⟩ := info_parts info_int
                have hs2 := HF4.out.size
                go_wp2_with (at_builtin; refine wpList_append_own_at _ rfl _ _ 37 rfl w3.heap.size 3 i0 (.int .i64 0) 1 8 Try.underlying37 hi0 hz0 hz1 hz2 rfl (by decide) (.slice oa N ocp) N (acc.map (Value.int .i64)) rfl (HO.out.2.alloc _) ⟨wr.heap.size, 0, none⟩ 1 1 [.int .i64 ((i : Int))] rfl ?c1 ?c2 ?c3 ?c4 ?c5 ?c6 ?_)
                case c1 => rfl
                case c2 => exact cell_one_new _ _ _
                case c3 => intro u hu; simp at hu; subst hu; rfl
                case c4 => unfold maxLen; omega
                case c5 => omega
                case c6 => simp; omega
                intro v6 w6 own6 gr6 _ _
                have hO6 : Outs w3.heap.size (N + 1) (acc ++ [(i : Int)]) v6 w6 := ⟨by rw [List.length_append, HO.out.1]; rfl, by rw [List.map_append]; first | exact own6 | (simp only [List.map_append, List.map_cons, List.map_nil, List.append_assoc, List.cons_append, List.nil_append]; exact own6)⟩
                have HF6 := Lib.hid ((HF4.out.alloc (.cells #[.int .i64 ((i : Int))] 3)).grown gr6 (fun j hj hlt => absurd (HO.out.2.lt j hj).1 (by omega)))
                have HO6 := Lib.hid hO6
                obtain ⟨oa6, ocp6, rfl⟩ := hO6.form
                clear hO6 own6 gr6 hs2
                cases kb with
                | false =>
                  have hib := HINB.out _ HF6.out
                  go_wp2_with fail
                  refine hib.mono ?_
                  rintro e w' ⟨rfl, rfl⟩
                  clear hib
                  have hst : ((acc ++ [(i : Int)])) ++ resP (fun x => C.contains x) (i + 1) m = ALL := by
                    rw [← HACC.out, resP, HKB.out, HKA.out]; simp
                  have HST := Lib.hid hst
                  clear hst
                  go_wp2_with fail
                  go_roundg m
                  case measure => omega
                  case rel => exact ⟨i + 1, (N + 1), ((acc ++ [(i : Int)])), by omega, by omega, by go_num, by omega, ⟨_, _, rfl⟩, HO6.out, HST.out, HF6.out⟩
                | true =>
                  have hib := HINB.out _ HF6.out
                  go_wp2_with fail
                  refine hib.mono ?_
                  rintro e w' ⟨rfl, rfl⟩
                  clear hib
                  obtain ⟨i0, hi0, hz0, hz1, hz2⟩ := info_parts info_int
                  have hs2 := HF6.out.size
                  go_wp2_with (at_builtin; refine wpList_append_own_at _ rfl _ _ 37 rfl w3.heap.size 3 i0 (.int .i64 0) 1 8 Try.underlying37 hi0 hz0 hz1 hz2 rfl (by decide) (.slice oa6 (N + 1) ocp6) (N + 1) ((acc ++ [(i : Int)]).map (Value.int .i64)) rfl (HO6.out.2.alloc _) ⟨w6.heap.size, 0, none⟩ 1 1 [.int .i64 (-(i : Int))] rfl ?c1 ?c2 ?c3 ?c4 ?c5 ?c6 ?_)
                  case c1 => rfl
                  case c2 => exact cell_one_new _ _ _
                  case c3 => intro u hu; simp at hu; subst hu; rfl
                  case c4 => unfold maxLen; omega
                  case c5 => omega
                  case c6 => simp; omega
                  intro v9 w9 own9 gr9 _ _
                  have hO9 : Outs w3.heap.size ((N + 1) + 1) ((acc ++ [(i : Int)]) ++ [-(i : Int)]) v9 w9 := ⟨by rw [List.length_append, HO6.out.1]; rfl, by rw [List.map_append]; first | exact own9 | (simp only [List.map_append, List.map_cons, List.map_nil, List.append_assoc, List.cons_append, List.nil_append]; exact own9)⟩
                  have HF9 := Lib.hid ((HF6.out.alloc (.cells #[.int .i64 (-(i : Int))] 3)).grown gr9 (fun j hj hlt => absurd (HO6.out.2.lt j hj).1 (by omega)))
                  have HO9 := Lib.hid hO9
                  obtain ⟨oa9, ocp9, rfl⟩ := hO9.form
                  clear hO9 own9 gr9 hs2
                  have hst : ((acc ++ [(i : Int)]) ++ [-(i : Int)]) ++ resP (fun x => C.contains x) (i + 1) m = ALL := by
                    rw [← HACC.out, resP, HKB.out, HKA.out]; simp
                  have HST := Lib.hid hst
                  clear hst
                  go_wp2_with fail
                  go_roundg m
                  case measure => omega
                  case rel => exact ⟨i + 1, (N + 1) + 1, ((acc ++ [(i : Int)]) ++ [-(i : Int)]), by omega, by omega, by go_num, by omega, ⟨_, _, rfl⟩, HO9.out, HST.out, HF9.out⟩
          -- END
      | succ m =>
        have q3 : (k : Int) < (FL : Int) := by omega
        have hkl : k < F.length := by rw [HFL.out]; omega
        have hkt : F[k]? = some F[k] := List.getElem?_eq_getElem hkl
        generalize F[k] = x at hkt
        obtain ⟨b, ob, rfl, hSb, c0⟩ := HF.out.at hkt
        have hone := fun c' => fits_any [x] n ⟨n1, n2⟩ _ _ w (by simp) (HF.out.one hkt c')
        have hst := lits_drop (n := n) hkt
        rw [HRE.out] at hst
        have HST := Lib.hid hst
        have hone := hone (fcap - k)
        have hk1 : k + 1 ≤ fcap := by omega
        have q5 : (k : Int) + 1 ≤ (fcap : Int) := by omega
        rw [fitsB_one] at hone
        clear hkl hkt
        cases hx : litB n x with
        | true =>
          rw [hx] at hone
          have hst2 : litsB n (F.drop (k + 1)) = litsB n F := by rw [HST.out, hx, Bool.true_and]
          have HST2 := Lib.hid hst2
          clear hst hx hst2
          go_wp2_with fail
          refine hone.mono ?_
          rintro e w' ⟨rfl, rfl⟩
          clear hone
          go_wp2_with fail
          go_roundg m
          case measure => omega
          case rel => exact ⟨k + 1, by omega, by go_num, HST2.out, rfl⟩
        | false =>
          rw [hx] at hone
          have hb : litsB n F = false := by rw [HST.out, hx, Bool.false_and]
          have hE := ProPost.err (w := w) (w' := w) (show proP n l F = ([], 2) by unfold proP; rw [if_neg (by rw [HK.out]; simp), if_pos hb]) (Fr.refl _ _)
          have HE := Lib.hid hE
          clear hst hx hb hE
          go_wp2_with fail
          refine hone.mono ?_
          rintro e w' ⟨rfl, rfl⟩
          clear hone
          go_wp2_with fail
          go_ret2
          exact HE.out
  · have hE := ProPost.err (w := w) (w' := w) (show proP n l F = ([], chkP n l) by unfold proP; rw [if_pos hk]) (Fr.refl _ _)
    have q0 : (chkP n l != 0) = true := by simpa using hk
    have HE := Lib.hid hE
    generalize chkP n l = R at *
    clear hE hv hf hwd hk hF hcp
    go_enter Try.func26, Try.ntmps26
    go_wp2_with fail
    refine hC.mono ?_
    rintro e w2 ⟨rfl, rfl⟩
    go_wp2_with fail
    go_ret2
    exact HE.out
end Go.Proofs.Ytaojojjdfdlgpaa
