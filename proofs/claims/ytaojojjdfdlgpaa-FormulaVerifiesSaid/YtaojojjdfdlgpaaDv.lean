import Derived.Test.YtaojojjdfdlgpaaDu
namespace Go.Proofs.Ytaojojjdfdlgpaa
open Go.RowKit Uq

/-! Propagate -/
/-- the literals of the features from i on, m of them, in order -/
def resP (K : Int → Bool) : Nat → Nat → List Int
  | _, 0 => []
  | i, m + 1 => (if K (i : Int) = true then [(i : Int)] else []) ++ (if K (-(i : Int)) = true then [-(i : Int)] else []) ++ resP K (i + 1) m
theorem resP_congr {K K' : Int → Bool} (h : ∀ x, K x = K' x) : ∀ (i m : Nat), resP K i m = resP K' i m
  | _, 0 => rfl
  | i, m + 1 => by rw [resP, resP, h, h, resP_congr h]
theorem resP_len {K : Int → Bool} : ∀ (i m : Nat), (resP K i m).length ≤ 2 * m
  | _, 0 => Nat.le_refl _
  | i, m + 1 => by
    rw [resP, List.length_append, List.length_append]
    have := resP_len (K := K) (i + 1) m
    split <;> split <;> simp <;> omega
/-- the answer and the error -/
def proP (n : Int) (l : List (List Int)) (F : List Int) : List Int × Int :=
  if chkP n l ≠ 0 then ([], chkP n l) else if litsB n F = false then ([], 2) else if confP l F = true then ([], 9)
  else (resP (fun x => (consP l 50 F).contains x) 1 n.toNat, 0)
theorem chk_zero2 {n : Int} {l : List (List Int)} (h : chkP n l = 0) : (0 ≤ n ∧ n ≤ 24) ∧ l.length ≤ 4096 ∧ ∀ r ∈ l, r.length ≤ 64 ∧ ∀ x ∈ r, x ≠ 0 ∧ -n ≤ x ∧ x ≤ n := by
  unfold chkP at h
  split at h
  · omega
  · split at h
    · omega
    · rename_i h1 h2
      have h3 : clsB n l = true := by
        cases hq : clsB n l
        · exact absurd (.inr hq) h2
        · rfl
      unfold clsB litsB litB at h3
      rw [List.all_eq_true] at h3
      refine ⟨by omega, by omega, fun r hr => ?_⟩
      have := h3 r hr
      rw [Bool.and_eq_true, List.all_eq_true] at this
      exact ⟨by simpa using this.1, fun x hx => by simpa using this.2 x hx⟩
theorem lits_ltr {n : Int} (hn : n ≤ 24) {F : List Int} (h : litsB n F = true) : ∀ x ∈ F, Ltr x := by
  unfold litsB litB at h
  rw [List.all_eq_true] at h
  intro x hx
  have := h x hx
  simp at this
  unfold Ltr
  omega
theorem chk_ltr {n : Int} {l : List (List Int)} (h : chkP n l = 0) : ∀ c ∈ l, ∀ x ∈ c, Ltr x := fun c hc x hx => by
  obtain ⟨h1, _, h3⟩ := chk_zero2 h
  have := (h3 c hc).2 x hx
  unfold Ltr
  omega
/-- what holds is what follows -/
theorem holds_cons {C : List (List Int)} {ids : List Nat} {s : DS} (h : Lev C ids s) (hC : ∀ c ∈ C, ∀ x ∈ c, Ltr x) {F : List Int} (hF : ∀ x ∈ F, Ltr x) :
    (assP F s).1 = !confP C F ∧ ((assP F s).1 = true → ∀ x, (assP F s).2.holds x = (consP C 50 F).contains x) := by
  obtain ⟨h1, h2⟩ := lev_assume h hF
  have hc := conf_iff hC F
  cases hb : (assP F s).1 with
  | true =>
    obtain ⟨h3, h4⟩ := h1 hb
    refine ⟨?_, fun _ x => ?_⟩
    · cases hq : confP C F with
      | true => exact absurd (hc.1 hq) h3
      | false => rfl
    · have e : (assP F s).2.holds x = true ↔ (consP C 50 F).contains x = true := by
        rw [h4 x, ← cons_iff hC F x]; simp
      cases hx : (assP F s).2.holds x <;> cases hy : (consP C 50 F).contains x
      · rfl
      · rw [hx, hy] at e; simp at e
      · rw [hx, hy] at e; simp at e
      · rfl
  | false =>
    refine ⟨?_, fun e => by cases e⟩
    rw [hc.2 (h2 hb)]; rfl
def ProPost (n : Int) (l : List (List Int)) (F : List Int) (w : World) (e : Ending) (w' : World) : Prop :=
  ∃ v, e = .returned (.tuple #[v, .int .i64 (proP n l F).2]) ∧ IntsO w' (fun b => b < w'.heap.size) (proP n l F).1 v ∧ Fr nob w w'
theorem ProPost.err {n : Int} {l : List (List Int)} {F : List Int} {w w' : World} {k : Int} (h : proP n l F = ([], k)) (f : Fr nob w w') : ProPost n l F w (.returned (.tuple #[.slice none 0 0, .int .i64 k])) w' := by
  refine ⟨.slice none 0 0, by rw [h], ?_, f⟩
  rw [h]
  exact ⟨none, 0, rfl, fun _ => rfl, fun e => absurd rfl e⟩
set_option maxRecDepth 100000 in
set_option maxHeartbeats 4000000 in
theorem propagates_any (l : List (List Int)) (n : Int) (F : List Int) (v vf : Value) (w : World) (hwd : Wide l) (hFw : F.length ≤ 1000) (hv : RowsO w (fun b => b < w.heap.size) l v) (hf : IntsO w (fun b => b < w.heap.size) F vf) :
    Calls Try.prog 25 #[.int .i64 n, v, vf] w (ProPost n l F w) := by
  have hC := chk_any l n v _ w hwd hv
  have hvd := fun hl hn => deduce_dm l v w hv hl hn
  have hfl := fun hn => areLits_any F n hn vf _ w (by omega) hf
  obtain ⟨a, cap, rfl⟩ := hv.form
  obtain ⟨fa, fcap, rfl⟩ := hf.form
  by_cases hk : chkP n l = 0
  · rw [hk] at hC
    obtain ⟨hn, hl1, hl2⟩ := chk_zero2 hk
    obtain ⟨n1, n2⟩ := hn
    have hfl := hfl ⟨n1, n2⟩
    obtain ⟨L, hL⟩ : ∃ L, l.length = L := ⟨_, rfl⟩
    obtain ⟨FL, hFL⟩ : ∃ FL, F.length = FL := ⟨_, rfl⟩
    rw [hL] at hC
    rw [hFL] at hfl
    cases hb : litsB n F with
    | false =>
      have hE := ProPost.err (w := w) (w' := w) (show proP n l F = ([], 2) by unfold proP; rw [if_neg (by rw [hk]; simp), if_pos hb]) (Fr.refl _ _)
      rw [hb] at hfl
      have HE := Lib.hid hE
      rw [hL, hFL]
      clear hvd hv hf hwd hE hk hl1 hl2 hb hL hFL hFw
      go_enter Try.func25, Try.ntmps25
      go_wp2_with fail
      refine hC.mono ?_
      rintro e w2 ⟨rfl, rfl⟩
      clear hC
      go_wp2_with fail
      refine hfl.mono ?_
      rintro e w2 ⟨rfl, rfl⟩
      go_wp2_with fail
      go_ret2
      exact HE.out
    | true =>
      have hltr := chk_ltr hk
      have hFtr := lits_ltr n2 hb
      have hded := hvd (fun c hc => ⟨by have := (hl2 c hc).1; omega, hltr c hc⟩) (by omega)
      rw [hL] at hded
      rw [hb] at hfl
      have HK := Lib.hid hk
      have HB := Lib.hid hb
      have HTR := Lib.hid hltr
      have HFT := Lib.hid hFtr
      have HF := Lib.hid hf
      have HFL := Lib.hid hFL
      have HFW := Lib.hid hFw
      have HLL := Lib.hid hL
      have HL1 := Lib.hid hl1
      rw [hL, hFL]
      clear hvd hv hf hwd hk hl1 hl2 hb hL hFL hltr hFtr hFw
      go_enter Try.func25, Try.ntmps25
      go_wp2_with fail
      refine hC.mono ?_
      rintro e w2 ⟨rfl, rfl⟩
      clear hC
      go_wp2_with fail
      refine hfl.mono ?_
      rintro e w2 ⟨rfl, rfl⟩
      clear hfl
      go_wp2_with fail
      refine hded.mono ?_
      rintro e w2 ⟨rfl, ⟨ids, s, sh, G, c, d1, d2, d3, d4, d5⟩, F2⟩
      have hf2 := HF.out.kept (T := fun b => b < w.heap.size) F2 (fun b hb _ => ⟨fun h => h, hb⟩)
      have hA := assume_dm _ _ sh G s c F _ _ w2 ids d5 d1.mid hf2 (fun _ h => h) HFT.out (by have := HFW.out; omega) d2 (by have := HLL.out; have := HL1.out; omega) (fun g hg => by have := d4 g hg; omega)
      rw [HFL.out] at hA
      have HH := Lib.hid (holds_cons d1 HTR.out HFT.out)
      have HF2 := Lib.hid F2
      clear hded d1 d2 d3 d4 d5 F2 hf2
      go_wp2_with fail
      refine hA.mono ?_
      rintro e w3 ⟨rfl, c3, hD3, F3⟩
      have hF3 : Fr nob w w3 := (HF2.out.trans F3 (fun i hi hn => absurd hi hn))
      have HF3 := Lib.hid hF3
      have HD3 := Lib.hid hD3
      clear hA F3 hF3 hD3 HF2
      cases hb : (assP F s).1 with
      | false =>
        have hcf : confP l F = true := by
          have h := HH.out.1
          rw [hb] at h
          cases hq : confP l F
          · rw [hq] at h; cases h
          · rfl
        have hE := ProPost.err (w := w) (w' := w3) (show proP n l F = ([], 9) by unfold proP; rw [if_neg (by rw [HK.out]; simp), if_neg (by rw [HB.out]; simp), if_pos hcf]) HF3.out
        have HE := Lib.hid hE
        clear hE hcf hb
        go_wp2_with fail
        go_ret2
        exact HE.out
      | true =>
        have hcf : confP l F = false := by
          have h := HH.out.1
          rw [hb] at h
          cases hq : confP l F
          · rfl
          · rw [hq] at h; cases h
        have hkk := HH.out.2 hb
        obtain ⟨nn, rfl⟩ : ∃ nn : Nat, n = (nn : Int) := ⟨n.toNat, by omega⟩
        obtain ⟨ALL, hALL⟩ : ∃ ALL, resP (assP F s).2.holds 1 nn = ALL := ⟨_, rfl⟩
        have hpr : proP (nn : Int) l F = (ALL, 0) := by
          unfold proP
          rw [if_neg (by rw [HK.out]; simp), if_neg (by rw [HB.out]; simp), if_neg (by rw [hcf]; simp), ← hALL]
          rw [Int.toNat_natCast, resP_congr hkk]
        have HPR := Lib.hid hpr
        have HALL := Lib.hid hALL
        have HDX := HD3
        have hnn : nn ≤ 24 := by omega
        clear hb hcf hkk hpr hALL HK HB HH HTR HFT HF HFL HFW HLL HL1 HD3 n1 n2
        go_wp2_with fail
        go_loopg [10, 11] nn (fun m ov iv wr => ∃ (i : Nat) (acc : List Int), 1 ≤ i ∧ i + m = nn + 1 ∧ iv = .int .i64 (i : Int) ∧ acc.length ≤ 2 * (i - 1) ∧ wr.ownsRow w3.heap.size 3 1 ov acc.length (acc.map (Value.int .i64)) ∧ acc ++ resP (assP F s).2.holds i m = ALL ∧ Fr nob w3 wr)
        case atStart => exact ⟨1, [], Nat.le_refl _, by omega, rfl, Nat.zero_le _, World.ownsRow_nil _ _ _ _, HALL.out, Fr.refl _ _⟩
        case round =>
          obtain ⟨i, acc, hi1, him, rfl, hal, hown, hacc, hF4⟩ := hrel
          have HACC := Lib.hid hacc
          have HOa := Lib.hid hown
          have HFa := Lib.hid hF4
          clear hacc hF4
          cases gk with
          | zero =>
            have q0 : ¬ (i : Int) ≤ (nn : Int) := by omega
            have hv := HACC.out
            rw [resP, List.append_nil] at hv
            subst hv
            have hI : IntsO wr (fun b => b < wr.heap.size) acc u10 := by
              have h := intsO_of (S := fun b => b < wr.heap.size) hown (fun g hg => (hown.lt g hg).2)
              exact h
            have HI := Lib.hid hI
            obtain ⟨oa, ocp, hform⟩ := hI.form
            subst hform
            obtain ⟨AL, hAL⟩ : ∃ AL, acc.length = AL := ⟨_, rfl⟩
            rw [hAL] at HI ⊢
            clear hI hown hAL HOa
            go_wp2_with fail
            go_ret2
            refine ⟨.slice oa AL ocp, by rw [HPR.out]; rfl, ?_, HF3.out.trans HFa.out (fun _ _ h => h)⟩
            rw [HPR.out]
            exact HI.out
          | succ m =>
            have q0 : (i : Int) ≤ (nn : Int) := by omega
            obtain ⟨oa, ocp, hform, _⟩ := row_ints hown
            subst hform
            obtain ⟨ALa, hALa⟩ : ∃ ALa, acc.length = ALa := ⟨_, rfl⟩
            have HALa := Lib.hid hALa
            rw [hALa] at HOa hal ⊢
            have hpp := fun w => place_any (i : Int) (by omega) w
            rw [show (i : Int) + 24 = ((i + 24 : Nat) : Int) by omega] at hpp
            obtain ⟨p, hp⟩ : ∃ p, i + 24 = p := ⟨_, rfl⟩
            obtain ⟨q, hq⟩ : ∃ q, 24 - i = q := ⟨_, rfl⟩
            have hpq := fun w => place_any (-(i : Int)) (by omega) w
            rw [show -(i : Int) + 24 = ((24 - i : Nat) : Int) by omega, hq, ← wrap_neg (i : Int) (by omega)] at hpq
            rw [hp] at hpp
            have hp2 : p < 49 := by omega
            have hq2 : q < 49 := by omega
            have HPp := Lib.hid (show (i : Int) + 24 = (p : Int) by omega)
            have HQ := Lib.hid (show -(i : Int) + 24 = (q : Int) by omega)
            have q1 : (0 : Int) ≤ (p : Int) := by omega
            have q2 : (p : Int) < 49 := by omega
            have q3 : (0 : Int) ≤ (q : Int) := by omega
            have q4 : (q : Int) < 49 := by omega
            have q5 : (0 : Int) ≤ (i : Int) := by omega
            obtain ⟨ka, hka⟩ : ∃ ka, (assP F s).2.holds (i : Int) = ka := ⟨_, rfl⟩
            obtain ⟨kb, hkb⟩ : ∃ kb, (assP F s).2.holds (-(i : Int)) = kb := ⟨_, rfl⟩
            have HKA := Lib.hid hka
            have HKB := Lib.hid hkb
            have c0 : wr.drew.cell? ⟨w.heap.size, p, none⟩ = some (.bool ka) := by rw [← hka, ← HDX.out.sm.at HPp.out hp2]; exact ((HDX.out.nob HFa.out).drew.hp.mem p (by omega)).1
            have HFb := Lib.hid (HFa.out.drew)
            have HOb := Lib.hid (((Fr.refl nob wr).drew).row HOa.out (fun _ _ h => h))
            have HALb := HALa
            clear hown hALa hp hq hka hkb HFa HOa
            cases ka with
            | false =>
              go_wp2_with fail
              go_region_with (go_at_call 57; (with_reducible refine (hpp _).mono ?_); rintro e w' ⟨rfl, rfl⟩)
              clear c0
              generalize wr.drew = w4 at *
              have c1 : w4.drew.cell? ⟨w.heap.size, q, none⟩ = some (.bool kb) := by rw [← HKB.out, ← HDX.out.sm.at HQ.out hq2]; exact ((HDX.out.nob HFb.out).drew.hp.mem q (by omega)).1
              have HFbd := Lib.hid (HFb.out.drew)
              have HObd := Lib.hid (((Fr.refl nob w4).drew).row HOb.out (fun _ _ h => h))
              cases kb with
              | false =>
                go_wp2_with fail
                go_region_with (go_at_call 57; (with_reducible refine (hpq _).mono ?_); rintro e w' ⟨rfl, rfl⟩)
                clear c1
                generalize w4.drew = w8 at *
                have HO9 : Hid (w8.ownsRow w3.heap.size 3 1 (.slice oa ALa ocp) acc.length (acc.map (Value.int .i64))) := Lib.hid (by rw [HALb.out]; exact HObd.out)
                have hst : acc ++ resP (assP F s).2.holds (i + 1) m = ALL := by
                  rw [← HACC.out, resP, HKB.out, HKA.out]; simp
                have HST := Lib.hid hst
                have hln : acc.length ≤ 2 * i := by rw [HALb.out]; omega
                have HLN := Lib.hid hln
                clear hst hln
                go_wp2_with fail
                go_roundg m
                case measure => omega
                case rel => exact ⟨i + 1, acc, by omega, by omega, by go_num, HLN.out, HO9.out, HST.out, HFbd.out⟩
              | true =>
                go_wp2_with fail
                go_region_with (go_at_call 57; (with_reducible refine (hpq _).mono ?_); rintro e w' ⟨rfl, rfl⟩)
                clear c1
                generalize w4.drew = w8 at *
                have HALbd := HALb
                have hwi : IntKind.i64.wrap (-(i : Int)) = -(i : Int) := by rw [IntKind.wrap_i64]; omega
                obtain ⟨i0, hi0, hz0, hz1, hz2⟩ := info_parts info_int
                have hs2 := HFbd.out.size
                go_wp2_with (at_builtin; refine wpList_append_own_at _ rfl _ _ 37 rfl w3.heap.size 3 i0 (.int .i64 0) 1 8 Try.underlying37 hi0 hz0 hz1 hz2 rfl (by decide) (.slice oa ALa ocp) ALa (acc.map (Value.int .i64)) rfl (HObd.out.alloc _) ⟨w8.heap.size, 0, none⟩ 1 1 [.int .i64 (-(i : Int))] rfl ?c1 ?c2 ?c3 ?c4 ?c5 ?c6 ?_)
                case c1 => rfl
                case c2 => exact cell_one_new _ _ _
                case c3 => intro u hu; simp at hu; subst hu; rfl
                case c4 => unfold maxLen; omega
                case c5 => omega
                case c6 => simp; omega
                intro v9 w9 own9 gr9 _ _
                have HO9' : Hid (w9.ownsRow w3.heap.size 3 1 v9 (acc ++ [-(i : Int)]).length ((acc ++ [-(i : Int)]).map (Value.int .i64))) := Lib.hid (by rw [List.map_append, List.length_append, HALb.out]; first | exact own9 | (simp only [List.map_append, List.map_cons, List.map_nil, List.append_assoc, List.cons_append, List.nil_append, List.length_cons, List.length_nil]; exact own9))
                have HF9 := Lib.hid ((HFbd.out.alloc (.cells #[.int .i64 (-(i : Int))] 3)).grown gr9 (fun j hj hlt => absurd (HObd.out.lt j hj).1 (by omega)))
                clear own9 gr9
                have hst : (acc ++ [-(i : Int)]) ++ resP (assP F s).2.holds (i + 1) m = ALL := by
                  rw [← HACC.out, resP, HKB.out, HKA.out]; simp
                have HST := Lib.hid hst
                have hln : (acc ++ [-(i : Int)]).length ≤ 2 * i := by rw [List.length_append, HALb.out]; simp only [List.length_cons, List.length_nil]; omega
                have HLN := Lib.hid hln
                clear hst hln
                go_wp2_with fail
                go_roundg m
                case measure => omega
                case rel => exact ⟨i + 1, acc ++ [-(i : Int)], by omega, by omega, by go_num, HLN.out, HO9'.out, HST.out, HF9.out⟩
            | true =>
              go_wp2_with fail
              go_region_with (go_at_call 57; (with_reducible refine (hpp _).mono ?_); rintro e w' ⟨rfl, rfl⟩)
              clear c0
              generalize wr.drew = w4 at *
              obtain ⟨i0, hi0, hz0, hz1, hz2⟩ := info_parts info_int
              have hs2 := HFb.out.size
              go_wp2_with (at_builtin; refine wpList_append_own_at _ rfl _ _ 37 rfl w3.heap.size 3 i0 (.int .i64 0) 1 8 Try.underlying37 hi0 hz0 hz1 hz2 rfl (by decide) (.slice oa ALa ocp) ALa (acc.map (Value.int .i64)) rfl (HOb.out.alloc _) ⟨w4.heap.size, 0, none⟩ 1 1 [.int .i64 ((i : Int))] rfl ?c1 ?c2 ?c3 ?c4 ?c5 ?c6 ?_)
              case c1 => rfl
              case c2 => exact cell_one_new _ _ _
              case c3 => intro u hu; simp at hu; subst hu; rfl
              case c4 => unfold maxLen; omega
              case c5 => omega
              case c6 => simp; omega
              intro v6 w6 own6 gr6 _ _
              have HO6' : Hid (w6.ownsRow w3.heap.size 3 1 v6 (acc ++ [(i : Int)]).length ((acc ++ [(i : Int)]).map (Value.int .i64))) := Lib.hid (by rw [List.map_append, List.length_append, HALb.out]; first | exact own6 | (simp only [List.map_append, List.map_cons, List.map_nil, List.append_assoc, List.cons_append, List.nil_append, List.length_cons, List.length_nil]; exact own6))
              have HF6 := Lib.hid ((HFb.out.alloc (.cells #[.int .i64 ((i : Int))] 3)).grown gr6 (fun j hj hlt => absurd (HOb.out.lt j hj).1 (by omega)))
              clear own6 gr6
              obtain ⟨AL6, hAL6⟩ : ∃ AL6, (acc ++ [(i : Int)]).length = AL6 := ⟨_, rfl⟩
              have HAL6 := Lib.hid hAL6
              have hal6 : AL6 ≤ 2 * (i - 1) + 1 := by rw [← hAL6, List.length_append, HALb.out]; simp only [List.length_cons, List.length_nil]; omega
              have HO6 : Hid (w6.ownsRow w3.heap.size 3 1 v6 AL6 ((acc ++ [(i : Int)]).map (Value.int .i64))) := Lib.hid (by rw [← hAL6]; exact HO6'.out)
              clear hAL6
              have c1 : w6.drew.cell? ⟨w.heap.size, q, none⟩ = some (.bool kb) := by rw [← HKB.out, ← HDX.out.sm.at HQ.out hq2]; exact ((HDX.out.nob HF6.out).drew.hp.mem q (by omega)).1
              have HF6d := Lib.hid (HF6.out.drew)
              have HO6d := Lib.hid (((Fr.refl nob w6).drew).row HO6.out (fun _ _ h => h))
              cases kb with
              | false =>
                go_wp2_with fail
                go_region_with (go_at_call 57; (with_reducible refine (hpq _).mono ?_); rintro e w' ⟨rfl, rfl⟩)
                clear c1
                generalize w6.drew = w8 at *
                have HO9 : Hid (w8.ownsRow w3.heap.size 3 1 v6 (acc ++ [(i : Int)]).length ((acc ++ [(i : Int)]).map (Value.int .i64))) := Lib.hid (by rw [HAL6.out]; exact HO6d.out)
                have hst : (acc ++ [(i : Int)]) ++ resP (assP F s).2.holds (i + 1) m = ALL := by
                  rw [← HACC.out, resP, HKB.out, HKA.out]; simp
                have HST := Lib.hid hst
                have hln : (acc ++ [(i : Int)]).length ≤ 2 * i := by rw [HAL6.out]; omega
                have HLN := Lib.hid hln
                clear hst hln
                go_wp2_with fail
                go_roundg m
                case measure => omega
                case rel => exact ⟨i + 1, (acc ++ [(i : Int)]), by omega, by omega, by go_num, HLN.out, HO9.out, HST.out, HF6d.out⟩
              | true =>
                go_wp2_with fail
                go_region_with (go_at_call 57; (with_reducible refine (hpq _).mono ?_); rintro e w' ⟨rfl, rfl⟩)
                clear c1
                generalize w6.drew = w8 at *
                have HAL6d := HAL6
                have hwi : IntKind.i64.wrap (-(i : Int)) = -(i : Int) := by rw [IntKind.wrap_i64]; omega
                obtain ⟨i0, hi0, hz0, hz1, hz2⟩ := info_parts info_int
                have hs2 := HF6d.out.size
                go_wp2_with (at_builtin; refine wpList_append_own_at _ rfl _ _ 37 rfl w3.heap.size 3 i0 (.int .i64 0) 1 8 Try.underlying37 hi0 hz0 hz1 hz2 rfl (by decide) v6 AL6 ((acc ++ [(i : Int)]).map (Value.int .i64)) rfl (HO6d.out.alloc _) ⟨w8.heap.size, 0, none⟩ 1 1 [.int .i64 (-(i : Int))] rfl ?c1 ?c2 ?c3 ?c4 ?c5 ?c6 ?_)
                case c1 => rfl
                case c2 => exact cell_one_new _ _ _
                case c3 => intro u hu; simp at hu; subst hu; rfl
                case c4 => unfold maxLen; omega
                case c5 => omega
                case c6 => simp; omega
                intro v9 w9 own9 gr9 _ _
                have HO9' : Hid (w9.ownsRow w3.heap.size 3 1 v9 ((acc ++ [(i : Int)]) ++ [-(i : Int)]).length (((acc ++ [(i : Int)]) ++ [-(i : Int)]).map (Value.int .i64))) := Lib.hid (by rw [List.map_append, List.length_append, HAL6.out]; first | exact own9 | (simp only [List.map_append, List.map_cons, List.map_nil, List.append_assoc, List.cons_append, List.nil_append, List.length_cons, List.length_nil]; exact own9))
                have HF9 := Lib.hid ((HF6d.out.alloc (.cells #[.int .i64 (-(i : Int))] 3)).grown gr9 (fun j hj hlt => absurd (HO6d.out.lt j hj).1 (by omega)))
                clear own9 gr9
                have hst : ((acc ++ [(i : Int)]) ++ [-(i : Int)]) ++ resP (assP F s).2.holds (i + 1) m = ALL := by
                  rw [← HACC.out, resP, HKB.out, HKA.out]; simp
                have HST := Lib.hid hst
                have hln : ((acc ++ [(i : Int)]) ++ [-(i : Int)]).length ≤ 2 * i := by rw [List.length_append, HAL6.out]; simp only [List.length_cons, List.length_nil]; omega
                have HLN := Lib.hid hln
                clear hst hln
                go_wp2_with fail
                go_roundg m
                case measure => omega
                case rel => exact ⟨i + 1, (acc ++ [(i : Int)]) ++ [-(i : Int)], by omega, by omega, by go_num, HLN.out, HO9'.out, HST.out, HF9.out⟩
  · have hE := ProPost.err (w := w) (w' := w) (show proP n l F = ([], chkP n l) by unfold proP; rw [if_pos hk]) (Fr.refl _ _)
    have q0 : (chkP n l != 0) = true := by simpa using hk
    have HE := Lib.hid hE
    generalize chkP n l = R at *
    clear hE hvd hfl hv hf hwd hk hFw
    go_enter Try.func25, Try.ntmps25
    go_wp2_with fail
    refine hC.mono ?_
    rintro e w2 ⟨rfl, rfl⟩
    go_wp2_with fail
    go_ret2
    exact HE.out
end Go.Proofs.Ytaojojjdfdlgpaa
